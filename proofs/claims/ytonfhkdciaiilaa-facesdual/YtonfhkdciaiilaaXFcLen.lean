/-
  The contracts of faces.Sides and faces.Lengths.
-/
import Derived.Test.YtonfhkdciaiilaaXFcSides
import Derived.Test.YtonfhkdciaiilaaXFcPlane
namespace Go.Proofs.Ytonfhkdciaiilaa
open Go Go.Proofs Go.RowKit

set_option maxRecDepth 100000 in
set_option maxHeartbeats 4000000 in
theorem sidesP_any (n : Int) (l : List Ed) (hm : l.length ≤ 4194304) (F : List (List Dt)) (hf : F.length ≤ 16777216) (hin : ∀ x ∈ F, x.length ≤ 16777216) (hnd : F.flatten.Nodup) (sv rv : Value) (w : World) (hl : Edges w.heap.size w sv l)
    (hP : ∀ W, Below w.heap.size w W → Calls Try.prog 24 #[.agg #[.int .i64 n, sv], rv] W fun e w' => ∃ lv svs, e = .returned (.tuple #[lv, .int .i64 0]) ∧ GrpD W.heap.size lv svs F w' ∧ Below W.heap.size W w') :
    Calls Try.prog 9 #[.agg #[.int .i64 n, sv], rv] w fun e w' => ∃ g, e = .returned (.tuple #[.slice (some ⟨g, 0, none⟩) l.length l.length, .int .i64 0]) ∧ w.heap.size ≤ g ∧ Blk 42 w' g (flatD (sidesL F l)) ∧ Below w.heap.size w w' := by
  have hbA : Below w.heap.size w (w.alloc (.cells #[.int .i64 n, sv] 24)) := (Below.refl _ _).alloc (Nat.le_refl _) _
  have hX : Blk 24 (w.alloc (.cells #[.int .i64 n, sv] 24)) w.heap.size [.int .i64 n, sv] := heap_alloc_new w _
  have q0 := hX.cell (j := 0) rfl
  have q1 := hX.cell (j := 1) rfl
  have hip := hP _ hbA
  have HL : Hid (Edges w.heap.size w sv l) := hl
  have HIN : Hid ((∀ x ∈ F, x.length ≤ 16777216) ∧ F.flatten.Nodup) := ⟨hin, hnd⟩
  have HX : Hid (Blk 24 (w.alloc (.cells #[.int .i64 n, sv] 24)) w.heap.size [.int .i64 n, sv]) := hX
  have HBA : Hid (Below w.heap.size w (w.alloc (.cells #[.int .i64 n, sv] 24))) := hbA
  clear hl hin hnd hP hX hbA
  go_enter Try.func9, Try.ntmps9
  go_wp2_with fail
  generalize w.alloc (.cells #[.int .i64 n, sv] 24) = w2 at *
  refine hip.mono ?_
  clear hip
  rintro e w3 ⟨lv, svs, rfl, hG, hb3⟩
  have HG : Hid (LDr w3.heap.size w3 lv F) := hG.ldr
  have HX3 : Hid (Blk 24 w3 w.heap.size [.int .i64 n, sv]) := HX.out.go hb3
  have HB3 : Hid (Below w.heap.size w w3) := HBA.out.trans (hb3.mono HBA.out.size)
  clear hG hb3 HX HBA q0 q1
  have q0 := HX3.out.cell (j := 0) rfl
  have q1 := HX3.out.cell (j := 1) rfl
  have hsd := sides_any n l hm F hf HIN.out.1 HIN.out.2 sv lv w3 (HL.out.go HB3.out) HG.out
  go_wp2_with fail
  refine hsd.mono ?_
  clear hsd
  rintro e w5 ⟨gs, rfl, hgs, hB5, hb5⟩
  have HB5 : Hid (Blk 42 w5 gs (flatD (sidesL F l))) := hB5
  have HBW : Hid (Below w.heap.size w w5) := HB3.out.trans (hb5.mono HB3.out.size)
  have HGS : Hid (w.heap.size ≤ gs) := Nat.le_trans HB3.out.size hgs
  clear hB5 hb5 hgs q0 q1
  go_wp2
  refine bodyPost_ret (results_tmp2 rfl _ _ _) rfl ?_
  exact ⟨gs, rfl, HGS.out, HB5.out, HBW.out⟩

set_option maxRecDepth 100000 in
set_option maxHeartbeats 4000000 in
theorem lengths_any (n : Int) (F : List (List Dt)) (hf : F.length ≤ 16777216) (hin : ∀ x ∈ F, x.length ≤ 16777216) (sv rv : Value) (w : World)
    (hP : ∀ W, Below w.heap.size w W → Calls Try.prog 24 #[.agg #[.int .i64 n, sv], rv] W fun e w' => ∃ lv svs, e = .returned (.tuple #[lv, .int .i64 0]) ∧ GrpD W.heap.size lv svs F w' ∧ Below W.heap.size W w') :
    Calls Try.prog 10 #[.agg #[.int .i64 n, sv], rv] w fun e w' => ∃ g, e = .returned (.tuple #[.slice (some ⟨g, 0, none⟩) F.length F.length, .int .i64 0]) ∧ w.heap.size ≤ g ∧ Blk 3 w' g ((F.map fun x => (x.length : Int)).map (Value.int .i64)) ∧ Below w.heap.size w w' := by
  obtain ⟨i0, hi, hz0, hz1, hz2⟩ := info_parts infoI
  have hbA : Below w.heap.size w (w.alloc (.cells #[.int .i64 n, sv] 24)) := (Below.refl _ _).alloc (Nat.le_refl _) _
  have hX : Blk 24 (w.alloc (.cells #[.int .i64 n, sv] 24)) w.heap.size [.int .i64 n, sv] := heap_alloc_new w _
  have q0 := hX.cell (j := 0) rfl
  have q1 := hX.cell (j := 1) rfl
  have hip := hP _ hbA
  have HIN : Hid (∀ x ∈ F, x.length ≤ 16777216) := hin
  have HBA : Hid (Below w.heap.size w (w.alloc (.cells #[.int .i64 n, sv] 24))) := hbA
  clear hin hP hX hbA
  go_enter Try.func10, Try.ntmps10
  go_wp2_with fail
  generalize w.alloc (.cells #[.int .i64 n, sv] 24) = w2 at *
  refine hip.mono ?_
  clear hip
  rintro e w3 ⟨lv, svs, rfl, hG, hb3⟩
  have hG' := hG.ldr
  obtain ⟨pl, cl, rfl⟩ := hG'.len
  have HG : Hid (LDr w3.heap.size w3 (.slice pl F.length cl) F) := hG'
  have HB3 : Hid (Below w.heap.size w w3) := HBA.out.trans (hb3.mono HBA.out.size)
  clear hG hG' hb3 HBA q0 q1
  go_wp2_with (at_make; refine wpList_make_full _ rfl _ _ 32 rfl w3.heap.size 3 i0 (.int .i64 0) 1 Try.underlying32 hi hz0 hz1 .i64 .i64 _ _ F.length rfl rfl rfl rfl (by rw [hz2]; omega) (by unfold maxLen; omega) (Nat.le_refl _) ?_; intro w4 hown hgrow; have hb4 : Below w3.heap.size w3 w4 := (Below.refl _ _).grown hgrow (Nat.le_refl _) (fun k e => by cases e))
  have hrow := Blk.made hown
  rw [ints_made] at hrow
  have HG4 : Hid (LDr w3.heap.size w4 (.slice pl F.length cl) F) := HG.out.below hb4
  have HB4 : Hid (Below w.heap.size w w4) := HB3.out.trans (hb4.mono HB3.out.size)
  have HGS : Hid (w.heap.size ≤ w3.heap.size) := HB3.out.size
  clear hown hgrow hi hz0 hz1 hz2 hb4 HG HB3
  generalize w3.heap.size = g at *
  go_loopw [25] (fun i wr => ∃ j : Nat, j ≤ F.length ∧ i = .int .i64 j ∧ Blk 3 wr g ((((F.take j).map fun x => (x.length : Int)) ++ List.replicate (F.length - j) (0 : Int)).map (Value.int .i64)) ∧ Below g w4 wr) (fun i _ => F.length - (intOf i).toNat)
  case atStart => exact ⟨0, Nat.zero_le _, rfl, by simpa using hrow, Below.refl _ _⟩
  case round =>
    obtain ⟨j, hj, rfl, hB, hb⟩ := hrel
    by_cases hlt : j < F.length
    · have hjl : (j : Int) < (F.length : Int) := by omega
      obtain ⟨b, off, rfl, hbb, hcap, px, cx, -, c0⟩ := (HG4.out.below hb).cellAt hlt
      have HST : Hid ((((F.take j).map fun x => (x.length : Int)) ++ List.replicate (F.length - j) (0 : Int)).set j (F[j].length : Int) = ((F.take (j + 1)).map fun x => (x.length : Int)) ++ List.replicate (F.length - (j + 1)) (0 : Int)) := by
        have e : F.length - j = (F.length - (j + 1)) + 1 := by omega
        have h1 : ((F.take j).map fun x => (x.length : Int)).length = j := by simp; omega
        unfold Hid
        rw [List.set_append, h1, if_neg (Nat.lt_irrefl j), Nat.sub_self, e, List.replicate_succ, List.set_cons_zero, List.take_add_one, List.getElem?_eq_getElem hlt, List.map_append, List.append_assoc]
        rfl
      obtain ⟨o, t0⟩ : ∃ o, wr.cell? ⟨g, j, none⟩ = some o := by
        have hL : j < ((((F.take j).map fun x => (x.length : Int)) ++ List.replicate (F.length - j) (0 : Int)).map (Value.int .i64)).length := by simp; omega
        exact ⟨_, hB.cell (List.getElem?_eq_getElem hL)⟩
      have f0 := hB.frozen j
      have hBn := hB.set j (.int .i64 (F[j].length : Int))
      rw [← List.map_set, HST.out] at hBn
      have HBn : Hid _ := hBn
      have HB : Hid (Below g w4 wr) := hb
      clear hB hBn hb HST
      generalize F[j].length = d at *
      go_wp2
      exact ⟨⟨j + 1, by omega, by go_num, HBn.out, HB.out.setCell (p := ⟨g, j, none⟩) (Nat.le_refl _) _⟩, by simp [intOf]; omega⟩
    · obtain rfl : j = F.length := by omega
      have hjl : ¬ (F.length : Int) < (F.length : Int) := by omega
      have HB : Hid (Blk 3 wr g ((F.map fun x => (x.length : Int)).map (Value.int .i64))) := by simpa [Hid] using hB
      have HBW : Hid (Below w.heap.size w wr) := HB4.out.trans (hb.mono HGS.out)
      clear hB hb
      go_wp2
      refine bodyPost_ret (results_tmp2 rfl _ _ _) rfl ?_
      exact ⟨g, rfl, HGS.out, by simpa using HB.out, HBW.out⟩

set_option maxRecDepth 100000 in
set_option maxHeartbeats 2000000 in
theorem sidesP_no (n : Int) (k : Int) (hk : k ≠ 0) (sv rv : Value) (w : World)
    (hP : ∀ W, Below w.heap.size w W → Calls Try.prog 24 #[.agg #[.int .i64 n, sv], rv] W fun e w' => e = .returned (.tuple #[.slice none 0 0, .int .i64 k]) ∧ Below W.heap.size W w') :
    Calls Try.prog 9 #[.agg #[.int .i64 n, sv], rv] w fun e w' => e = .returned (.tuple #[.slice none 0 0, .int .i64 k]) ∧ Below w.heap.size w w' := by
  have hbA : Below w.heap.size w (w.alloc (.cells #[.int .i64 n, sv] 24)) := (Below.refl _ _).alloc (Nat.le_refl _) _
  have hX : Blk 24 (w.alloc (.cells #[.int .i64 n, sv] 24)) w.heap.size [.int .i64 n, sv] := heap_alloc_new w _
  have q0 := hX.cell (j := 0) rfl
  have q1 := hX.cell (j := 1) rfl
  have hrc := hP _ hbA
  have HBA : Hid _ := hbA
  clear hX hbA hP
  go_enter Try.func9, Try.ntmps9
  go_wp2_with fail
  generalize w.alloc (.cells #[.int .i64 n, sv] 24) = w1 at *
  refine hrc.mono ?_
  clear hrc
  rintro e w2 ⟨rfl, hb2⟩
  have HB2 : Hid (Below w.heap.size w w2) := HBA.out.trans (hb2.mono HBA.out.size)
  clear hb2 q0 q1
  go_wp2
  refine bodyPost_ret (results_tmp2 rfl _ _ _) rfl ?_
  exact ⟨rfl, HB2.out⟩

set_option maxRecDepth 100000 in
set_option maxHeartbeats 2000000 in
theorem lengths_no (n : Int) (k : Int) (hk : k ≠ 0) (sv rv : Value) (w : World)
    (hP : ∀ W, Below w.heap.size w W → Calls Try.prog 24 #[.agg #[.int .i64 n, sv], rv] W fun e w' => e = .returned (.tuple #[.slice none 0 0, .int .i64 k]) ∧ Below W.heap.size W w') :
    Calls Try.prog 10 #[.agg #[.int .i64 n, sv], rv] w fun e w' => e = .returned (.tuple #[.slice none 0 0, .int .i64 k]) ∧ Below w.heap.size w w' := by
  have hbA : Below w.heap.size w (w.alloc (.cells #[.int .i64 n, sv] 24)) := (Below.refl _ _).alloc (Nat.le_refl _) _
  have hX : Blk 24 (w.alloc (.cells #[.int .i64 n, sv] 24)) w.heap.size [.int .i64 n, sv] := heap_alloc_new w _
  have q0 := hX.cell (j := 0) rfl
  have q1 := hX.cell (j := 1) rfl
  have hrc := hP _ hbA
  have HBA : Hid _ := hbA
  clear hX hbA hP
  go_enter Try.func10, Try.ntmps10
  go_wp2_with fail
  generalize w.alloc (.cells #[.int .i64 n, sv] 24) = w1 at *
  refine hrc.mono ?_
  clear hrc
  rintro e w2 ⟨rfl, hb2⟩
  have HB2 : Hid (Below w.heap.size w w2) := HBA.out.trans (hb2.mono HBA.out.size)
  clear hb2 q0 q1
  go_wp2
  refine bodyPost_ret (results_tmp2 rfl _ _ _) rfl ?_
  exact ⟨rfl, HB2.out⟩
end Go.Proofs.Ytonfhkdciaiilaa
