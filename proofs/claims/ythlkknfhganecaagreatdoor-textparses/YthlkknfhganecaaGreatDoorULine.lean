/-
  The contract of (*reader).line.
-/
import Derived.WalkLawsBesides
import Derived.Test.YthlkknfhganecaaGreatDoorUNum
import Derived.Test.YthlkknfhganecaaGreatDoorGSort
namespace Go.Proofs.YthlkknfhganecaaGreatDoor
open Go Go.Proofs Go.RowKit

/-- The reader, in block rb. -/
def RB (W : World) (rb : Nat) (rest : ByteArray) (k : Nat) : Prop := Blk 87 W rb [.string rest, .int .i64 (k : Int)]
def kindP (k : Int) : Ending := .panicked [{ v := .iface 22 (.int .i64 k), recovered := false }]
abbrev cutN (rest : ByteArray) : List UInt8 × List UInt8 × Bool := Lib.cut rest.data.toList [10]
/-- What line leaves: the line or none, the rest. -/
def lineR (rest : ByteArray) : ByteArray := if (cutN rest).2.2 then ⟨(cutN rest).2.1.toArray⟩ else rest
def lineE (rest : ByteArray) : Ending := if (cutN rest).2.2 then .returned (.string ⟨(cutN rest).1.toArray⟩) else kindP 3
theorem grown_below {A B : World} (h : Below A.heap.size A B) (r : Option Nat) : A.grownBy B r := ⟨h.os, h.tape, h.output, h.size, fun k hk _ => h.block k hk⟩
theorem grown_trans {A B C : World} {r : Option Nat} (h : A.grownBy B r) (k : B.grownBy C r) : A.grownBy C r := ⟨k.os.trans h.os, k.tape.trans h.tape, k.output.trans h.output, Nat.le_trans h.size k.size, fun i hi hn => (k.block i (Nat.lt_of_lt_of_le hi h.size) hn).trans (h.block i hi hn)⟩
theorem grown_refl (A : World) (r : Option Nat) : A.grownBy A r := ⟨rfl, rfl, rfl, Nat.le_refl _, fun _ _ _ => rfl⟩
theorem grown_setC (A : World) (b o : Nat) (v : Value) : A.grownBy (A.setCell ⟨b, o, none⟩ v) (some b) := grown_set (grown_refl A (some b)) o v

set_option maxRecDepth 100000 in
set_option maxHeartbeats 2000000 in
theorem line_any (rb : Nat) (rest : ByteArray) (k : Nat) (hs : rest.size < 4294967281) (hk : k < 100000000) (w : World) (hE : Env w) (hrb : 9 ≤ rb) (hR : RB w rb rest k) :
    Calls Tryz.prog 91 #[.pointer (some ⟨rb, 0, none⟩)] w fun e w' => e = lineE rest ∧ RB w' rb (lineR rest) (k + 1) ∧ w.grownBy w' (some rb) := by
  obtain ⟨m, hm⟩ := hE.max
  have hlt := Blk.lt hR
  have c0 := Blk.cell hR (j := 0) rfl
  have c1 := Blk.cell hR (j := 1) rfl
  have f0 := Blk.frozen hR 0
  have f1 := Blk.frozen hR 1
  have hR1 : RB (w.setCell ⟨rb, 1, none⟩ (.int .i64 ((k : Int) + 1))) rb rest (k + 1) := Blk.set hR 1 _
  have hg1 := grown_setC w rb 1 (.int .i64 ((k : Int) + 1))
  have hm1 : (w.setCell ⟨rb, 1, none⟩ (.int .i64 ((k : Int) + 1))).cell? ⟨6, 0, none⟩ = some (.int .i64 m) := (World.cell?_setCell_other _ _ _ _ (fun e => by have : rb = 6 := congrArg Addr.block e; omega)).trans hm
  have hc := Tryz.strings_Cut rest ⟨#[10]⟩ m _ hs hm1
  go_enter Tryz.func91, Tryz.ntmps91
  go_wp2_with fail
  refine hc.mono ?_
  rintro e w2 ⟨rfl, q, rfl⟩
  have hR2 : RB ((w.setCell ⟨rb, 1, none⟩ (.int .i64 ((k : Int) + 1))).drewN q) rb rest (k + 1) := hR1
  have hg2 : w.grownBy ((w.setCell ⟨rb, 1, none⟩ (.int .i64 ((k : Int) + 1))).drewN q) (some rb) := ⟨hg1.os, hg1.tape, hg1.output, hg1.size, hg1.block⟩
  generalize (w.setCell ⟨rb, 1, none⟩ (.int .i64 ((k : Int) + 1))).drewN q = w3 at hR2 hg2 ⊢
  clear hc hm1 hg1 hR1 c0 c1 f0 f1
  have d0 := Blk.cell hR2 (j := 0) rfl
  have f0 := Blk.frozen hR2 0
  have HE : Hid (lineE rest = if (cutN rest).2.2 then .returned (.string ⟨(cutN rest).1.toArray⟩) else kindP 3) := rfl
  have HR : Hid (lineR rest = if (cutN rest).2.2 then ⟨(cutN rest).2.1.toArray⟩ else rest) := rfl
  have hcc : Lib.cut rest.data.toList (⟨#[10]⟩ : ByteArray).data.toList = cutN rest := rfl
  rw [hcc]
  clear hcc
  generalize cutN rest = t at HE HR ⊢
  obtain ⟨a, r, f⟩ := t
  cases f with
  | true =>
    have hR3 := Blk.set hR2 0 (.string ⟨r.toArray⟩)
    go_wp2
    go_ret
    exact ⟨by rw [HE.out]; rfl, by rw [HR.out]; exact hR3, grown_trans hg2 (grown_setC _ _ _ _)⟩
  | false =>
    go_wp2
    exact ⟨rfl, by rw [HE.out]; rfl, by rw [HR.out]; exact hR2, hg2⟩

end Go.Proofs.YthlkknfhganecaaGreatDoor
