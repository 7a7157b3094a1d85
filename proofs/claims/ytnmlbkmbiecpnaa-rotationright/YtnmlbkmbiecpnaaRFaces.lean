/-
  The contract of rotation.Faces.
-/
import Derived.Test.YtnmlbkmbiecpnaaRRight2
import Derived.Test.YtnmlbkmbiecpnaaRGrp
namespace Go.Proofs.Ytnmlbkmbiecpnaa
open Go Go.Proofs Go.RowKit

/-- The faces of a system. -/
def facesL (N : Nat) (l : List Ed) (r : List (List Int)) : List (List Dt) := (roundsAt (nxD r) (2 * l.length + 1) (dartsL N l) (dartsL N l).length).1
theorem GrpD.base {h0 h1 : Nat} {lv : Value} {svs : List Value} {pre : List (List Dt)} {W : World} (h : GrpD h0 lv svs pre W) (hh : h1 ≤ h0) : GrpD h1 lv svs pre W :=
  ⟨h.len, owns_base h.own hh, fun k sv xs h1 h2 => owns_base (h.inn k sv xs h1 h2) hh, h.apart, h.outer⟩

set_option maxRecDepth 100000 in
set_option maxHeartbeats 2000000 in
theorem faces_any (N : Nat) (l : List Ed) (hR : RightG (N : Int) l) (r : List (List Int)) (hS : SysR N l r) (sv rv : Value) (w : World) (hl : Edges w.heap.size w sv l) (hr : Lsts w.heap.size w rv r) :
    Calls Try.prog 15 #[.agg #[.int .i64 (N : Int), sv], rv] w fun e w' => ∃ lv svs, e = .returned (.tuple #[lv, .int .i64 0]) ∧ GrpD w.heap.size lv svs (facesL N l r) w' ∧ Below w.heap.size w w' := by
  have hbA : Below w.heap.size w (w.alloc (.cells #[.int .i64 (N : Int), sv] 24)) := (Below.refl _ _).alloc (Nat.le_refl _) _
  have hX : Blk 24 (w.alloc (.cells #[.int .i64 (N : Int), sv] 24)) w.heap.size [.int .i64 (N : Int), sv] := heap_alloc_new w _
  have q0 := hX.cell (j := 0) rfl
  have q1 := hX.cell (j := 1) rfl
  have hrc := sysRight_any (N : Int) l r sv rv _ (hl.go hbA) (hr.go hbA)
  rw [sysK_ok hR hS] at hrc
  have hent : ∀ (args : Array Value) (W : World), (callFunc 40 args).run Try.prog W = .ok (.enter 40 args) W := fun args W => by kernel_rfl
  have hgr := fun W h1 h2 fb (hfb : fb < W.heap.size) h3 => goRounds_any N l hR r hS 40 #[.pointer (some ⟨fb, 0, none⟩)] hent (fun fs bs W' => ∃ lv svs, IF W W.heap.size fb fs bs W' lv svs) sv rv W h1 h2 h3 (fun fs bs A B ⟨lv, svs, h⟩ hSt => ⟨lv, svs, h.still hfb hSt⟩) (faces1_tells W W.heap.size fb hfb _)
  have HX : Hid (Blk 24 (w.alloc (.cells #[.int .i64 (N : Int), sv] 24)) w.heap.size [.int .i64 (N : Int), sv]) := hX
  have HL : Hid (Edges w.heap.size w sv l) := hl
  have HR0 : Hid (Lsts w.heap.size w rv r) := hr
  have HBA : Hid _ := hbA
  clear hX hl hr hbA hR hS
  have HGR : Hid _ := hgr
  clear hgr
  go_enter Try.func15, Try.ntmps15
  go_wp2_with fail
  generalize w.alloc (.cells #[.int .i64 (N : Int), sv] 24) = w1 at *
  refine hrc.mono ?_
  clear hrc
  rintro e w2 ⟨rfl, hb2⟩
  have hX2 := HX.out.go hb2
  have hB2 : Below w.heap.size w w2 := HBA.out.trans (hb2.mono HBA.out.size)
  have hbB : Below w2.heap.size w2 (w2.alloc (.cells #[.slice none 0 0] 35)) := (Below.refl _ _).alloc (Nat.le_refl _) _
  have hV : Blk 35 (w2.alloc (.cells #[.slice none 0 0] 35)) w2.heap.size [.slice none 0 0] := heap_alloc_new w2 _
  have hX3 := hX2.go hbB
  have y0 := hX3.cell (j := 0) rfl
  have y1 := hX3.cell (j := 1) rfl
  have hB3 := hB2.trans (hbB.mono hB2.size)
  have hs3 : (w2.alloc (.cells #[.slice none 0 0] 35)).heap.size = w2.heap.size + 1 := by simp
  have hg := HGR.out (w2.alloc (.cells #[.slice none 0 0] 35)) (HL.out.go hB3) (HR0.out.go hB3) w2.heap.size (by omega) ⟨_, _, GrpD.start _ _, hV, fun q hq => by simp [Value.ownBlock] at hq, fun sv hs => by simp at hs, rfl, rfl, rfl, Nat.le_refl _, fun q _ _ => rfl, Nat.le_refl _⟩
  have HB2 : Hid (Below w.heap.size w w2) := hB2
  have HB3 : Hid (Below w.heap.size w (w2.alloc (.cells #[.slice none 0 0] 35))) := hB3
  have HS3 : Hid _ := hs3
  clear hX2 hX3 hV hB2 hbB hB3 hb2 HGR HX q0 q1 hs3
  go_wp2_with fail
  refine hg.mono ?_
  clear hg
  rintro e w4 ⟨rfl, bs, lv, svs, hIF⟩
  have z0 := hIF.var.cell (j := 0) rfl
  obtain ⟨pl, cl, rfl⟩ := owns_formP hIF.grp.own
  have HF : Hid (∃ lv svs', Value.slice pl svs.length cl = lv ∧ GrpD w.heap.size lv svs' (facesL N l r) w4 ∧ Below w.heap.size w w4) := by
    have hs := HS3.out
    have h2 := HB2.out.size
    refine ⟨_, svs, rfl, hIF.grp.base (by omega), ?_⟩
    have h3 := HB3.out
    exact ⟨hIF.os.trans h3.os, hIF.tape.trans h3.tape, hIF.output.trans h3.output, by have := hIF.size; omega, fun q hq => (hIF.low q (by omega) (by omega)).trans (h3.block q hq)⟩
  clear hIF y0 y1
  go_wp2
  refine bodyPost_ret (results_tmp2 rfl _ _ _) rfl ?_
  obtain ⟨lv, svs', e, h1, h2⟩ := HF.out
  exact ⟨lv, svs', by rw [← e]; rfl, h1, h2⟩
end Go.Proofs.Ytnmlbkmbiecpnaa
