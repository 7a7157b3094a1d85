/-
  PROVED: filigreelaw14.TjoinTwo returns true for any arguments, and each argument reads afterwards as it read before. No condition.
-/
import Derived.Test.YthdhimcaojfcnaaGreatXTjSplit
import Derived.Test.YthdhimcaojfcnaaGreatJN
import Derived.Deep.QuietTactic
import Derived.BigQuiet
import Derived.Test.YthdhimcaojfcnaaGreatJM
import Derived.Test.YthdhimcaojfcnaaGreatJC
import Derived.Test.YthdhimcaojfcnaaGreatXTjRefChk
import Derived.Test.YthdhimcaojfcnaaGreatXWaDist
import Derived.Test.YthdhimcaojfcnaaGreatJJ
namespace Go.Proofs.YthdhimcaojfcnaaGreat
open Go Go.Proofs Go.RowKit

set_option maxRecDepth 100000 in
set_option maxHeartbeats 4000000 in
theorem split_none (N : Nat) (L : List Eg) (R : Nat → Nat) (hN : N ≤ 1048576) (hm : L.length ≤ 4194304) (hE : ∀ e ∈ L, e.1 < N ∧ e.2.1 < N) (hR : ∀ v, v < N → R v < N) (g : Nat) (sv : Value) (w : World) (hl : Edges w.heap.size w sv (L.map edE)) (hG : Blk 3 w g (natsV (leadL N R))) :
    Calls Tryz.prog 33 #[.agg #[.int .i64 (N : Int), sv], .slice none 0 0, .slice (some ⟨g, 0, none⟩) N N] w fun e w' => e = .returned (.slice none 0 0) ∧ Below w.heap.size w w' := by
  have hmix := mixed
  obtain ⟨p, c, rfl⟩ := hl.lenG
  obtain ⟨i0, hi, hz0, hz1, hz2⟩ := info_parts infoPp
  have HG : Hid (Blk 3 w g (natsV (leadL N R))) := hG
  have HLE : Hid (Edges w.heap.size w (.slice p L.length c) (L.map edE)) := hl
  have hgl := hG.lt
  have hg1 : Grew w (w.alloc (.cells #[.int .i64 (N : Int), .slice p L.length c] 24)) := (Grew.refl w).alloc _
  have E1 : Hid ((w.alloc (.cells #[.int .i64 (N : Int), .slice p L.length c] 24)).heap.size = w.heap.size + 1) := by show _ = _; simp
  clear hG hl
  go_enter Tryz.func33, Tryz.ntmps33
  go_wp2_with (at_make; refine wpList_make_full _ rfl _ _ 51 rfl w.heap.size 53 i0 (.pointer none) 1 Tryz.underlying51 hi hz0 hz1 .i64 .i64 _ _ N rfl rfl rfl rfl (by rw [hz2]; omega) (by unfold maxLen; omega) (by simp) ?_; intro w3 hown hgrow; have hb3 : Below (w.alloc (.cells #[.int .i64 (N : Int), .slice p L.length c] 24)).heap.size (w.alloc (.cells #[.int .i64 (N : Int), .slice p L.length c] 24)) w3 := (Below.refl _ _).grown hgrow (Nat.le_refl _) (fun k e => by cases e); have hX3 : Blk 24 w3 w.heap.size [.int .i64 (N : Int), .slice p L.length c] := Blk.go (heap_alloc_new w _) hb3; have hbw : Below w.heap.size w w3 := hg1.below.trans (hb3.mono (by rw [E1.out]; omega)); rw [E1.out] at hown; have hrow := Blk.made hown; have hsz := hrow.lt; rw [nils_made] at hrow; have HX3 : Hid (Blk 24 w3 w.heap.size [.int .i64 (N : Int), .slice p L.length c]) := hX3; have HRow : Hid (Blk 53 w3 (w.heap.size + 1) (List.replicate N (.pointer none))) := hrow; have HB3 : Hid (Below w.heap.size w w3) := hbw; clear hown hgrow hb3 hrow hbw hX3)
  obtain ⟨x, hx⟩ : ∃ n, w.heap.size = n := ⟨_, rfl⟩
  rw [hx] at HX3 HRow hsz HB3 hgl ⊢
  clear E1 hg1 hi hz0 hz1 hz2
  go_loopw [8, 25] (fun lv i wr => lv = .slice none 0 0 ∧ i = .int .i64 0 ∧ wr = w3) (fun _ _ _ => 0)
  case atStart => exact ⟨rfl, rfl, rfl⟩
  case round =>
    obtain ⟨rfl, rfl, rfl⟩ := hrel
    have x0 := HX3.out.cell (j := 0) rfl
    obtain ⟨i2, hi, hz0, hz1, hz2⟩ := info_parts infoI
    go_wp2_with (at_make; refine wpList_make_full _ rfl _ _ 25 rfl wr.heap.size 3 i2 (.int .i64 0) 1 Tryz.underlying25 hi hz0 hz1 .i64 .i64 _ _ N rfl rfl rfl rfl (by rw [hz2]; omega) (by unfold maxLen; omega) (by simp) ?_; intro w4 hown hgrow; have hb4 : Below wr.heap.size wr w4 := (Below.refl _ _).grown hgrow (Nat.le_refl _) (fun k e => by cases e); have HX4 : Hid (Blk 24 w4 x [.int .i64 (N : Int), .slice p L.length c]) := HX3.out.go hb4; have HRow4 : Hid (Blk 53 w4 (x + 1) (List.replicate N (.pointer none))) := HRow.out.go hb4; have HB4 : Hid (Below x w w4) := HB3.out.trans (hb4.mono (by omega)); clear hown hgrow hb4 x0; have x0 := HX4.out.cell (j := 0) rfl)
    clear HX3 HRow HB3 hi hz0 hz1 hz2 hsz
    go_loopw [61] (fun i wr2 => ∃ j : Nat, j ≤ N ∧ i = .int .i64 j ∧ wr2 = w4) (fun i _ => N - (intOf i).toNat)
    case atStart => exact ⟨0, Nat.zero_le _, rfl, rfl⟩
    case round =>
      obtain ⟨j, hj, rfl, rfl⟩ := hrel
      clear x0
      by_cases hlt : j < N
      · have hjl : (j : Int) < (N : Int) := by omega
        have hRj := hR j hlt
        have hRl : ((R j : Nat) : Int) < (N : Int) := by omega
        have g0 := (HG.out.go (by rw [hx]; exact HB4.out)).cell (leadL_at (R := R) hlt)
        have o0 := HRow4.out.cell (j := R j) (v := .pointer none) (by simp [hRj])
        have HLT : Hid (j < N) := hlt
        clear hlt
        go_wp2
        exact ⟨⟨j + 1, HLT.out, by go_num, trivial⟩, by have := HLT.out; simp [intOf]; omega⟩
      · obtain rfl : N = j := by omega
        go_wp2
        go_loopw [93] (fun i wr3 => i = .int .i64 0 ∧ wr3 = wr) (fun _ _ => 0)
        case atStart => exact ⟨rfl, rfl⟩
        case round =>
          obtain ⟨rfl, rfl⟩ := hrel
          have x1 := HX4.out.cell (j := 1) rfl
          go_wp2
          obtain ⟨wz, hwz⟩ : ∃ W, wr = W := ⟨_, rfl⟩
          rw [hwz] at HX4 HRow4 HB4 x1 ⊢
          clear hwz
          go_loopw [121] (fun i wrx => ∃ j : Nat, j ≤ L.length ∧ i = .int .i64 j ∧ Hid (Below wz.heap.size wz wrx)) (fun i _ => L.length - (intOf i).toNat)
          case atStart => exact ⟨0, Nat.zero_le _, rfl, Below.refl _ _⟩
          case round =>
            clear x1
            obtain ⟨j, hj, rfl, HB⟩ := hrel
            have hbx : Below x w wr := HB4.out.trans (HB.out.mono (by rw [← hx]; exact HB4.out.size))
            by_cases hlt : j < L.length
            · have hjl : (j : Int) < (L.length : Int) := by omega
              obtain ⟨b, off, rfl, hb1, hcap, hc⟩ := HLE.out.eg hlt
              rw [hx] at hc hb1
              obtain ⟨e0, e1, e2⟩ := hc wr hbx j hlt
              obtain ⟨hu, hv⟩ := hE L[j] (List.getElem_mem hlt)
              have HLT : Hid (j < L.length) := hlt
              generalize L[j] = e at *
              obtain ⟨u, v, wt⟩ := e
              simp only at hu hv e0 e1 e2
              have hu' : (u : Int) < (N : Int) := by omega
              have hRu := hR u hu
              have hRl : ((R u : Nat) : Int) < (N : Int) := by omega
              have g0 : wr.cell? ⟨g, u, none⟩ = some (.int .i64 (R u : Int)) := (HG.out.go (by rw [hx]; exact hbx)).cell (leadL_at hu)
              have o0 := (HRow4.out.go HB.out).cell (j := R u) (v := .pointer none) (by simp [hRu])
              have hgz := World.block_lt_of_cell? wr _ g0
              have hoz := (HRow4.out.go HB.out).lt
              have HB6 : Hid (Below wr.heap.size wr (wr.alloc (.cells #[.int .i64 (u : Int), .int .i64 (v : Int), .int .i64 (wt : Int)] 46))) := (Below.refl _ _).alloc (Nat.le_refl _) _
              clear hc hlt hbx hb1 hcap
              go_wp2
              exact ⟨⟨j + 1, HLT.out, by go_num, HB.out.trans (HB6.out.mono HB.out.size)⟩, by have := HLT.out; simp [intOf]; omega⟩
            · obtain rfl : j = L.length := by omega
              go_wp2
              go_ret
              exact ⟨rfl, by rw [hx]; exact hbx⟩
end Go.Proofs.YthdhimcaojfcnaaGreat

namespace Go.Proofs.YthdhimcaojfcnaaGreat
open Go Go.Proofs Go.RowKit

theorem trueL_rep (M : Nat) : trueL (List.replicate M false) = [] := by
  rw [List.eq_nil_iff_forall_not_mem]
  intro x hx
  obtain ⟨i, _, _, h⟩ := trueL_mem.1 hx
  rw [rep_bAt] at h
  cases h
set_option maxRecDepth 100000 in
set_option maxHeartbeats 8000000 in
theorem join_apart (N : Nat) (L : List Eg) (a b : Nat) (hN2 : N ≤ 1048576) (hab : a < b) (hb : b < N) (hk : rgtW (N : Int) (L.map edE) = 0) (hm : L.length ≤ 4194304) (hE : ∀ e ∈ L, e.1 < N ∧ e.2.1 < N) (hW : ∀ e ∈ L, e.2.2 ≤ 2147483647) (hc : ¬ Conn L b a) (sv bv : Value) (w : World) (hl : Edges w.heap.size w sv (L.map edE)) (hI : Ints w.heap.size w bv [(a : Int), (b : Int)]) :
    Calls Tryz.prog 15 #[.agg #[.int .i64 (N : Int), sv], bv] w fun e w' => e = .returned (.tuple #[.slice none 0 0, .int .i64 0, .int .i64 14]) ∧ Below w.heap.size w w' := by
  have hmix := mixed
  obtain ⟨p, c, rfl⟩ := hl.lenG
  obtain ⟨pb, cb, rfl⟩ := hI.len
  have ha : a < N := by omega
  have hrs : rsB [(a : Int), (b : Int)] (N : Int) = true := by
    rw [rs_iff]
    refine ⟨fun x hx => ?_, by simp; omega⟩
    simp only [List.mem_cons, List.not_mem_nil, or_false] at hx
    rcases hx with rfl | rfl <;> omega
  have hplc : plcB N [(a : Int), (b : Int)] = true := rs_plc hrs
  have hfit : fitT (N : Int) (L.map edE) [(a : Int), (b : Int)] = 0 := by
    unfold fitT
    rw [if_pos hk, if_pos hrs]
  obtain ⟨w1, hw1⟩ : ∃ W, (w.alloc (.cells #[.int .i64 (N : Int), .slice p L.length c] 24)) = W := ⟨_, rfl⟩
  have hb1 : Below w.heap.size w w1 := by rw [← hw1]; exact (Below.refl _ _).alloc (Nat.le_refl _) _
  have hX1 : Blk 24 w1 w.heap.size [.int .i64 (N : Int), .slice p L.length c] := by rw [← hw1]; exact heap_alloc_new w _
  have hl1 : Edges w1.heap.size w1 (.slice p L.length c) (L.map edE) := hl.go hb1
  have hI1 : Ints w1.heap.size w1 (.slice pb 2 cb) [(a : Int), (b : Int)] := (hI.below hb1).mono hb1.size
  have hft := fitsT_any (N : Int) (L.map edE) [(a : Int), (b : Int)] (by simp) _ _ w1 hl1 hI1
  rw [hfit] at hft
  have x0 := hX1.cell (j := 0) rfl
  have x1 := hX1.cell (j := 1) rfl
  have HX1 : Hid (Blk 24 w1 w.heap.size [.int .i64 (N : Int), .slice p L.length c]) := hX1
  have HB1 : Hid (Below w.heap.size w w1) := hb1
  have HL1 : Hid (Edges w1.heap.size w1 (.slice p L.length c) (L.map edE)) := hl1
  have HI1 : Hid (Ints w1.heap.size w1 (.slice pb 2 cb) [(a : Int), (b : Int)]) := hI1
  have HH : Hid ((∀ e ∈ L, e.1 < N ∧ e.2.1 < N) ∧ (∀ e ∈ L, e.2.2 ≤ 2147483647) ∧ ¬ Conn L b a) := ⟨hE, hW, hc⟩
  have HPLC : Hid (plcB N [(a : Int), (b : Int)] = true) := hplc
  clear hX1 hb1 hl1 hI1 hl hI hE hW hc hk hrs hplc hfit
  go_enter Tryz.func15, Tryz.ntmps15
  go_wp2_with fail
  refine hft.mono ?_
  rintro e w2 ⟨rfl, hg2⟩
  clear hft hw1 x0 x1
  have hb2 := hg2.below
  have hX2 := HX1.out.go hb2
  have x0 := hX2.cell (j := 0) rfl
  have x1 := hX2.cell (j := 1) rfl
  have HX2 : Hid (Blk 24 w2 w.heap.size [.int .i64 (N : Int), .slice p L.length c]) := hX2
  have HB2 : Hid (Below w.heap.size w w2) := HB1.out.trans (hb2.mono HB1.out.size)
  have HL2 : Hid (Edges w2.heap.size w2 (.slice p L.length c) (L.map edE)) := HL1.out.go hb2
  have HI2 : Hid (Ints w2.heap.size w2 (.slice pb 2 cb) [(a : Int), (b : Int)]) := (HI1.out.below hb2).mono hb2.size
  have hld := leaders_any N L hN2 hm HH.out.1 _ w2 HL2.out
  clear hX2 hb2 hg2 HX1 HB1 HL1 HI1
  go_wp2_with fail
  refine hld.mono ?_
  rintro e w3 ⟨g, R, rfl, hR, hG, hb3, hg⟩
  clear hld x0 x1
  have hX3 := HX2.out.go hb3
  have x0 := hX3.cell (j := 0) rfl
  have x1 := hX3.cell (j := 1) rfl
  have HX3 : Hid (Blk 24 w3 w.heap.size [.int .i64 (N : Int), .slice p L.length c]) := hX3
  have HB3 : Hid (Below w.heap.size w w3) := HB2.out.trans (hb3.mono HB2.out.size)
  have HL3 : Hid (Edges w3.heap.size w3 (.slice p L.length c) (L.map edE)) := HL2.out.go hb3
  have HI3 : Hid (Ints w3.heap.size w3 (.slice pb 2 cb) [(a : Int), (b : Int)]) := (HI2.out.below hb3).mono hb3.size
  have HG3 : Hid (Blk 3 w3 g (natsV (leadL N R))) := hG
  have HR : Hid (LeadP L N R) := hR
  have hRN : ∀ v, v < N → R v < N := fun v hv => Nat.lt_of_le_of_lt (hR.low v hv) hv
  have HRab : Hid (R a ≠ R b) := fun h => HH.out.2.2 ((hR.iff b a hb ha).1 h.symm)
  have hio := isOdd_any N R [(a : Int), (b : Int)] hN2 hRN HPLC.out (by simp) g _ w3 HG3.out HI3.out
  rw [turn_apart HRab.out (hRN a ha) (hRN b hb)] at hio
  clear hX3 hb3 HX2 HB2 HL2 HI2 hG hR hg hRN
  go_wp2_with fail
  refine hio.mono ?_
  rintro e w4 ⟨rfl, hb4⟩
  have HB4 : Hid (Below w.heap.size w w4) := HB3.out.trans (hb4.mono HB3.out.size)
  clear hio x0 x1 hb4
  go_wp2
  --!1
  refine bodyPost_ret (v := .tuple #[.slice none 0 0, .int .i64 0, .int .i64 14]) (by simp [results, Tryz.results15, go_sem]) rfl ?_
  exact ⟨rfl, HB4.out⟩
set_option maxRecDepth 100000 in
set_option maxHeartbeats 8000000 in
theorem join_none (N : Nat) (L : List Eg) (hN2 : N ≤ 1048576) (hk : rgtW (N : Int) (L.map edE) = 0) (hm : L.length ≤ 4194304) (hE : ∀ e ∈ L, e.1 < N ∧ e.2.1 < N) (hW : ∀ e ∈ L, e.2.2 ≤ 2147483647) (sv : Value) (w : World) (hl : Edges w.heap.size w sv (L.map edE)) :
    Calls Tryz.prog 15 #[.agg #[.int .i64 (N : Int), sv], .slice none 0 0] w fun e w' => ∃ lv, e = .returned (.tuple #[lv, .int .i64 0, .int .i64 0]) ∧ Ints w'.heap.size w' lv [] ∧ Below w.heap.size w w' := by
  have hmix := mixed
  obtain ⟨p, c, rfl⟩ := hl.lenG
  have hrs : rsB ([] : List Int) (N : Int) = true := by simp [rsB]
  have hplc : plcB N ([] : List Int) = true := rs_plc hrs
  have hfit : fitT (N : Int) (L.map edE) ([] : List Int) = 0 := by
    unfold fitT
    rw [if_pos hk, if_pos hrs]
  obtain ⟨w1, hw1⟩ : ∃ W, (w.alloc (.cells #[.int .i64 (N : Int), .slice p L.length c] 24)) = W := ⟨_, rfl⟩
  have hb1 : Below w.heap.size w w1 := by rw [← hw1]; exact (Below.refl _ _).alloc (Nat.le_refl _) _
  have hX1 : Blk 24 w1 w.heap.size [.int .i64 (N : Int), .slice p L.length c] := by rw [← hw1]; exact heap_alloc_new w _
  have hl1 : Edges w1.heap.size w1 (.slice p L.length c) (L.map edE) := hl.go hb1
  have hI1 : Ints w1.heap.size w1 (.slice none 0 0) ([] : List Int) := Vals.nil _ _ _ _
  have hft := fitsT_any (N : Int) (L.map edE) ([] : List Int) (by simp) _ _ w1 hl1 hI1
  rw [hfit] at hft
  have x0 := hX1.cell (j := 0) rfl
  have x1 := hX1.cell (j := 1) rfl
  have HX1 : Hid (Blk 24 w1 w.heap.size [.int .i64 (N : Int), .slice p L.length c]) := hX1
  have HB1 : Hid (Below w.heap.size w w1) := hb1
  have HL1 : Hid (Edges w1.heap.size w1 (.slice p L.length c) (L.map edE)) := hl1
  have HI1 : Hid (Ints w1.heap.size w1 (.slice none 0 0) ([] : List Int)) := hI1
  have HH : Hid ((∀ e ∈ L, e.1 < N ∧ e.2.1 < N) ∧ (∀ e ∈ L, e.2.2 ≤ 2147483647)) := ⟨hE, hW⟩
  have HPLC : Hid (plcB N ([] : List Int) = true) := hplc
  clear hX1 hb1 hl1 hI1 hl hE hW hk hrs hplc hfit
  go_enter Tryz.func15, Tryz.ntmps15
  go_wp2_with fail
  refine hft.mono ?_
  rintro e w2 ⟨rfl, hg2⟩
  clear hft hw1 x0 x1
  have hb2 := hg2.below
  have hX2 := HX1.out.go hb2
  have x0 := hX2.cell (j := 0) rfl
  have x1 := hX2.cell (j := 1) rfl
  have HX2 : Hid (Blk 24 w2 w.heap.size [.int .i64 (N : Int), .slice p L.length c]) := hX2
  have HB2 : Hid (Below w.heap.size w w2) := HB1.out.trans (hb2.mono HB1.out.size)
  have HL2 : Hid (Edges w2.heap.size w2 (.slice p L.length c) (L.map edE)) := HL1.out.go hb2
  have HI2 : Hid (Ints w2.heap.size w2 (.slice none 0 0) ([] : List Int)) := Vals.nil _ _ _ _
  have hld := leaders_any N L hN2 hm HH.out.1 _ w2 HL2.out
  clear hX2 hb2 hg2 HX1 HB1 HL1 HI1
  go_wp2_with fail
  refine hld.mono ?_
  rintro e w3 ⟨g, R, rfl, hR, hG, hb3, hg⟩
  clear hld x0 x1
  have hX3 := HX2.out.go hb3
  have x0 := hX3.cell (j := 0) rfl
  have x1 := hX3.cell (j := 1) rfl
  have HX3 : Hid (Blk 24 w3 w.heap.size [.int .i64 (N : Int), .slice p L.length c]) := hX3
  have HB3 : Hid (Below w.heap.size w w3) := HB2.out.trans (hb3.mono HB2.out.size)
  have HL3 : Hid (Edges w3.heap.size w3 (.slice p L.length c) (L.map edE)) := HL2.out.go hb3
  have HI3 : Hid (Ints w3.heap.size w3 (.slice none 0 0) ([] : List Int)) := Vals.nil _ _ _ _
  have HG3 : Hid (Blk 3 w3 g (natsV (leadL N R))) := hG
  have HR : Hid (LeadP L N R) := hR
  have hRN : ∀ v, v < N → R v < N := fun v hv => Nat.lt_of_le_of_lt (hR.low v hv) hv
  have hio := isOdd_any N R ([] : List Int) hN2 hRN HPLC.out (by simp) g _ w3 HG3.out HI3.out
  rw [show (turnT R (List.replicate N false) ([] : List Int)).contains true = false from turn_none fun v _ => rep_bAt N v] at hio
  have HRN : Hid _ := hRN
  clear hX3 hb3 HX2 HB2 HL2 HI2 hG hR hg hRN
  go_wp2_with fail
  --!2
  refine hio.mono ?_
  rintro e w4 ⟨rfl, hb4⟩
  clear hio x0 x1
  have hX4 := HX3.out.go hb4
  have x0 := hX4.cell (j := 0) rfl
  have x1 := hX4.cell (j := 1) rfl
  have HX4 : Hid (Blk 24 w4 w.heap.size [.int .i64 (N : Int), .slice p L.length c]) := hX4
  have HB4 : Hid (Below w.heap.size w w4) := HB3.out.trans (hb4.mono HB3.out.size)
  have HL4 : Hid (Edges w4.heap.size w4 (.slice p L.length c) (L.map edE)) := HL3.out.go hb4
  have HG4 : Hid (Blk 3 w4 g (natsV (leadL N R))) := HG3.out.go hb4
  clear hX4 hb4 HX3 HB3 HL3 HI3 HG3
  obtain ⟨i0, hi, hz0, hz1, hz2⟩ := info_parts infoBT
  go_wp2_with (at_make; refine wpList_make_full _ rfl _ _ 49 rfl w4.heap.size 4 i0 (.bool false) 1 Tryz.underlying49 hi hz0 hz1 .i64 .i64 _ _ L.length rfl rfl rfl rfl (by rw [hz2]; omega) (by unfold maxLen; omega) (Nat.le_refl _) ?_; intro w5 hown hgrow; have hb5 : Below w4.heap.size w4 w5 := (Below.refl _ _).grown hgrow (Nat.le_refl _) (fun k e => by cases e); have hrow := Blk.made hown; rw [bools_madeT] at hrow; have HTk5 : Hid (Blk 4 w5 w4.heap.size ((List.replicate L.length false).map Value.bool)) := hrow; clear hown hgrow hrow x0 x1; have hX5 := HX4.out.go hb5; have x0 := hX5.cell (j := 0) rfl; have x1 := hX5.cell (j := 1) rfl; have HX5 : Hid (Blk 24 w5 w.heap.size [.int .i64 (N : Int), .slice p L.length c]) := hX5; have HB5 : Hid (Below w.heap.size w w5) := HB4.out.trans (hb5.mono HB4.out.size); clear hX5; have hsp := split_none N L R hN2 hm HH.out.1 HRN.out g (.slice p L.length c) w5 (HL4.out.go hb5) (HG4.out.go hb5); clear hb5)
  --!3
  refine hsp.mono ?_
  rintro e w6 ⟨rfl, hb6⟩
  clear hsp x0 x1 hi hz0 hz1 hz2
  have HB6 : Hid (Below w.heap.size w w6) := HB5.out.trans (hb6.mono HB5.out.size)
  have HTk6 : Hid (Blk 4 w6 w4.heap.size ((List.replicate L.length false).map Value.bool)) := HTk5.out.go hb6
  clear hb6
  go_wp2
  go_loopw [5, 38] (fun c5 i wr => c5 = .int .i64 0 ∧ i = .int .i64 0 ∧ wr = w6) (fun _ _ _ => 0)
  case atStart => exact ⟨rfl, rfl, rfl⟩
  case round =>
    obtain ⟨rfl, rfl, rfl⟩ := hrel
    have hto := trueOnes_any (List.replicate L.length false) (by simpa using hm) (.slice (some ⟨w4.heap.size, 0, none⟩) L.length L.length) wr (HTk6.out.boolsT List.length_replicate)
    rw [trueL_rep] at hto
    go_wp2_with fail
    --!4
    refine hto.mono ?_
    rintro e w8 ⟨lv, rfl, ho, hb8⟩
    clear hto
    have HI8 : Hid (Ints w8.heap.size w8 lv []) := ints_ownsT (l := []) ho
    obtain ⟨pa, ca, rfl⟩ := owns_formP ho
    have HB8 : Hid (Below w.heap.size w w8) := HB6.out.trans (hb8.mono HB6.out.size)
    clear ho hb8
    go_wp2
    go_loopw [5, 53] (fun cv i wr2 => cv = .int .i64 0 ∧ i = .int .i64 0 ∧ wr2 = w8) (fun _ _ _ => 0)
    case atStart => exact ⟨rfl, rfl, rfl⟩
    case round =>
      obtain ⟨rfl, rfl, rfl⟩ := hrel
      go_wp2
      --!5
      refine bodyPost_ret (v := .tuple #[.slice pa 0 ca, .int .i64 0, .int .i64 0]) (by simp [results, Tryz.results15, go_sem]) rfl ?_
      exact ⟨_, rfl, HI8.out, HB8.out⟩
end Go.Proofs.YthdhimcaojfcnaaGreat

namespace Go.Proofs.YthdhimcaojfcnaaGreat
open Go Go.Proofs Go.RowKit

set_option maxRecDepth 100000 in
set_option maxHeartbeats 4000000 in
theorem refSumT_any (N : Nat) (L : List Eg) (B : List Int) (hB : plcB L.length B = true) (hW : ∀ e ∈ L, e.2.2 ≤ 2147483647) (hBl : B.length ≤ 4194304) (sv bv : Value) (w : World) (hl : Edges w.heap.size w sv (L.map edE)) (hI : Ints w.heap.size w bv B) :
    Calls Tryz.prog 18 #[.agg #[.int .i64 (N : Int), sv], bv] w fun r w' => r = .returned (.int .i64 (sumP L B)) ∧ Below w.heap.size w w' := by
  have hmix := mixed
  obtain ⟨p, c, rfl⟩ := hl.lenG
  obtain ⟨pb, cb, rfl, ho⟩ := hI.openW
  have HO : Hid _ := fun (j : Nat) (hj : j < B.length) => ho (j := j) hj
  clear ho
  obtain ⟨w1, hw1⟩ : ∃ W, (w.alloc (.cells #[.int .i64 (N : Int), .slice p L.length c] 24)) = W := ⟨_, rfl⟩
  have hb1 : Below w.heap.size w w1 := by rw [← hw1]; exact (Below.refl _ _).alloc (Nat.le_refl _) _
  have hX1 : Blk 24 w1 w.heap.size [.int .i64 (N : Int), .slice p L.length c] := by rw [← hw1]; exact heap_alloc_new w _
  have HX : Hid (Blk 24 w1 w.heap.size [.int .i64 (N : Int), .slice p L.length c]) := hX1
  have HB1 : Hid (Below w.heap.size w w1) := hb1
  have HL : Hid (Edges w.heap.size w (.slice p L.length c) (L.map edE)) := hl
  have HW1 : Hid ((w.alloc (.cells #[.int .i64 (N : Int), .slice p L.length c] 24)) = w1) := hw1
  have HW : Hid (∀ e ∈ L, e.2.2 ≤ 2147483647) := hW
  clear hX1 hb1 hl hI hw1 hW
  go_enter Tryz.func18, Tryz.ntmps18
  go_wp2
  rw [HW1.out]
  clear HW1
  go_loopw [5, 6] (fun cv i wr => ∃ k : Nat, k ≤ B.length ∧ cv = .int .i64 (sumP L (B.take k)) ∧ i = .int .i64 (k : Int) ∧ ∃ n, wr = w1.drewN n) (fun _ i _ => B.length - (intOf i).toNat)
  case atStart => exact ⟨0, Nat.zero_le _, rfl, rfl, 0, rfl⟩
  case round =>
    obtain ⟨k, hk, rfl, rfl, n, rfl⟩ := hrel
    have hB7 := below_drewN HB1.out n
    have hX7 : Blk 24 (w1.drewN n) w.heap.size [.int .i64 (N : Int), .slice p L.length c] := HX.out
    obtain ⟨w7, HW7⟩ : ∃ w7, Hid (w1.drewN n = w7) := ⟨_, show Hid _ from rfl⟩
    rw [HW7.out] at hB7 hX7 ⊢
    have HB7 : Hid (Below w.heap.size w w7) := hB7
    by_cases hlt : k < B.length
    · have hkl : (k : Int) < (B.length : Int) := by omega
      obtain ⟨b2, off2, rfl, hb2, hc2⟩ := HO.out k hlt
      have c0 := hc2 w7 hB7 k hlt
      rw [at_get hlt] at c0
      obtain ⟨i, hi1, hi2⟩ := plc_at hB hlt
      rw [hi1] at c0
      obtain ⟨b', off, rfl, hb', hcap, hcc⟩ := HL.out.eg hi2
      obtain ⟨e0, e1, e2⟩ := hcc _ hB7 i hi2
      have x1 := hX7.cell (j := 1) rfl
      have hi3 : (i : Int) < (L.length : Int) := by omega
      have HST : Hid (sumP L (B.take (k + 1)) = sumP L (B.take k) + (L[i].2.2 : Int)) := by
        show _ = _
        rw [List.take_succ_eq_append_getElem hlt, sumP_append, hi1, sumP_cons, sumP_nil]
        unfold wP
        rw [Int.toNat_natCast, List.getD_eq_getElem?_getD, List.getElem?_eq_getElem hi2]
        simp
      obtain ⟨s0, s1⟩ := sumP_few HW.out (B.take k)
      have hwl := HW.out L[i] (List.getElem_mem hi2)
      have s2 : (B.take k).length * 2147483647 ≤ 4194304 * 2147483647 := Nat.mul_le_mul_right _ (by rw [List.length_take]; omega)
      have hs0 : 0 ≤ sumP L (B.take k) := s0
      have hs1 : sumP L (B.take k) ≤ 9007199254740992 := by omega
      generalize L[i].2.2 = wt at *
      generalize sumP L (B.take k) = S at *
      have HLT : Hid (k < B.length) := hlt
      have hwr : IntKind.i64.wrap (S + (wt : Int)) = S + (wt : Int) := wrap_i _ (by omega) (by omega)
      clear hc2 hlt hi1 hi2 hcc hb' hcap s0 s1 s2 e0 e1 hb2 hB7
      go_wp2
      go_quiet (fail)
      go_wp2
      refine ⟨⟨k + 1, HLT.out, ?_, by go_num, n + nq, ?_⟩, by have := HLT.out; simp [intOf]; omega⟩
      · rw [HST.out]
      · rw [← HW7.out, World.drewN_drewN]
    · obtain rfl : k = B.length := by omega
      rw [List.take_length]
      go_wp2
      go_ret
      exact ⟨rfl, HB7.out⟩
end Go.Proofs.YthdhimcaojfcnaaGreat

namespace Go.Proofs.YthdhimcaojfcnaaGreat
open Go Go.Proofs Go.RowKit

theorem chk_two {N : Nat} {L : List Eg} {a b : Nat} {I : List Int} (hr : rgtW (N : Int) (L.map edE) = 0) (hab : a < b) (hb : b < N) (h1 : rsB I L.length = true) (h2 : oddV N L I = [(a : Int), (b : Int)]) : chkT (N : Int) (L.map edE) [(a : Int), (b : Int)] I = 0 := by
  have hrs : rsB [(a : Int), (b : Int)] (N : Int) = true := by
    rw [rs_iff]
    refine ⟨fun x hx => ?_, by simp; omega⟩
    simp only [List.mem_cons, List.not_mem_nil, or_false] at hx
    rcases hx with rfl | rfl <;> omega
  unfold chkT fitT
  rw [if_pos hr, if_pos hrs, if_pos rfl, if_pos]
  rw [List.length_map]
  exact ⟨h1, by rw [oddK_ok hr (rs_plc h1)]; exact h2⟩
theorem light2_true {n : Int} {k : Nat} {m : Int} (h : lightB n k m = true) : n ≤ m ∧ (k : Int) ≤ 4 * m := by simpa [lightB] using h
theorem odd_none (n : Int) (l : List Ed) : oddK n l [] = [] := by
  unfold oddK
  split
  · exact oddV_nil _ _
  · rfl
set_option maxRecDepth 100000 in
set_option maxHeartbeats 8000000 in
theorem two_main (N : Nat) (L : List Eg) (a b : Nat) (hN : N ≤ 40) (hm : L.length ≤ 160) (hab : a < b) (hb : b < N) (hE : ∀ e ∈ L, e.1 < N ∧ e.2.1 < N) (hW : ∀ e ∈ L, e.2.2 ≤ 2147483647) (hr : rgtW (N : Int) (L.map edE) = 0) (p : Option Addr) (q : Nat) (w : World) (hl : Edges w.heap.size w (.slice p L.length q) (L.map edE)) :
    Calls Tryz.prog 6 #[.agg #[.int .i64 (N : Int), .slice p L.length q], .int .i64 (a : Int), .int .i64 (b : Int)] w fun r w' => r = .returned (.bool true) ∧ Below w.heap.size w w' := by
  have hmix := mixed
  have hg1 : Grew w (w.alloc (.cells #[.int .i64 (N : Int), .slice p L.length q] 24)) := (Grew.refl w).alloc _
  have hlt := fun W => lightW_any (N : Int) p L.length q 40 (by omega) (by omega) W
  have hli : lightB (N : Int) L.length 40 = true := by unfold lightB; simp; omega
  rw [hli] at hlt
  have hrr := fun W (h : Below w.heap.size w W) => refRightW_any (N : Int) (L.map edE) _ W (hl.go h)
  rw [hr] at hrr
  have HRR : Hid _ := hrr
  have HL : Hid (Edges w.heap.size w (.slice p L.length q) (L.map edE)) := hl
  have HE : Hid (∀ e ∈ L, e.1 < N ∧ e.2.1 < N) := hE
  have HW : Hid (∀ e ∈ L, e.2.2 ≤ 2147483647) := hW
  have HR : Hid (rgtW (N : Int) (L.map edE) = 0) := hr
  have hal : (a : Int) < (N : Int) := by omega
  have hbl : (b : Int) < (N : Int) := by omega
  have habl : (a : Int) < (b : Int) := by omega
  have hnd : decide (N ≤ a) = false := by simp; omega
  have hnd2 : decide (N ≤ b) = false := by simp; omega
  have hnd3 : decide (b ≤ a) = false := by simp; omega
  clear hrr hl hE hW hr hli
  go_enter Tryz.func6, Tryz.ntmps6
  go_wp2_with fail
  refine (hlt _).mono ?_
  rintro e w2 ⟨rfl, hg2⟩
  have hB2 := (hg1.trans hg2).below
  have hX2 : Blk 24 w2 w.heap.size [.int .i64 (N : Int), .slice p L.length q] := Blk.go (heap_alloc_new w _) hg2.below
  have q0 := hX2.cell (j := 0) rfl
  have q1 := hX2.cell (j := 1) rfl
  clear hg1 hg2 hlt
  go_wp2_with fail
  refine (HRR.out _ hB2).mono ?_
  rintro e w3 ⟨rfl, hg3⟩
  have hB3 := hB2.trans (hg3.below.mono hB2.size)
  have hX3 := hX2.go hg3.below
  clear q0 q1 hX2 HRR hB2 hg3
  have q0 := hX3.cell (j := 0) rfl
  have q1 := hX3.cell (j := 1) rfl
  have hjn := join_none N L (by omega) HR.out (by omega) HE.out HW.out (.slice p L.length q) w3 (HL.out.go hB3)
  go_wp2_with fail
  refine hjn.mono ?_
  rintro e w4 ⟨lv, rfl, hI4, hb4⟩
  clear hjn q0 q1
  obtain ⟨pn, cn, rfl⟩ := hI4.len
  have HI4 : Hid (Ints w4.heap.size w4 (.slice pn 0 cn) []) := hI4
  have HX4 : Hid (Blk 24 w4 w.heap.size [.int .i64 (N : Int), .slice p L.length q]) := hX3.go hb4
  have HB4 : Hid (Below w.heap.size w w4) := hB3.trans (hb4.mono hB3.size)
  clear hI4 hX3 hB3 hb4
  have q0 := HX4.out.cell (j := 0) rfl
  have q1 := HX4.out.cell (j := 1) rfl
  have hlx := HX4.out.lt
  obtain ⟨w5, hw5⟩ : ∃ W, w4.alloc (.cells #[.int .i64 (a : Int), .int .i64 (b : Int)] 3) = W := ⟨_, rfl⟩
  have hb5 : Below w4.heap.size w4 w5 := by rw [← hw5]; exact (Below.refl _ _).alloc (Nat.le_refl _) _
  have hT5 : Blk 3 w5 w4.heap.size (([(a : Int), (b : Int)] : List Int).map (Value.int .i64)) := by rw [← hw5]; exact heap_alloc_new w4 _
  have HB5 : Hid (Below w.heap.size w w5) := HB4.out.trans (hb5.mono HB4.out.size)
  have HX5 : Hid (Blk 24 w5 w.heap.size [.int .i64 (N : Int), .slice p L.length q]) := HX4.out.go hb5
  have HI5 : Hid (Ints w5.heap.size w5 (.slice pn 0 cn) []) := (HI4.out.below hb5).mono hb5.size
  have hIT := hT5.intsJ (n := 2) rfl
  have hIN := relN_isD (n := N) (s := a) (by omega) (dist0_bf L (by omega)) HE.out HW.out
  have hrd := fun W (h : Below w.heap.size w W) => refDist_any N L a hN hm (by omega) HE.out HW.out _ W (HL.out.go h)
  have HRD : Hid _ := hrd
  have HIN : Hid (IsD L a N (relN L (dist0 N a) N)) := hIN
  by_cases hcn : Conn L b a
  · have hj2 := join_two N L a b hN hab hb HR.out (by omega) HE.out HW.out hcn (.slice p L.length q) (.slice (some ⟨w4.heap.size, 0, none⟩) 2 2) w5 (HL.out.go HB5.out) hIT
    have hd : ∃ d : Nat, at' (relN L (dist0 N a) N) b = d := by
      rcases hIN.2 b hb with ⟨_, h⟩ | ⟨d, h, _⟩
      · obtain ⟨L', c, h'⟩ := hcn.symm
        exact absurd h' (h _ _)
      · exact ⟨d, h⟩
    obtain ⟨d, hd⟩ := hd
    have hIb := relN_isD (n := N) (s := b) hb (dist0_bf L hb) HE.out HW.out
    have HDB : Hid (∀ x : Int, (∀ D, IsD L b N D → x = at' D a) → x = d) := fun x hx => by
      rw [hx _ hIb, ← mutual_at hIN hIb (by omega) hb, hd]
    have HD : Hid (at' (relN L (dist0 N a) N) b = d) := hd
    clear hd hIb hIN hrd hT5 hIT hb5
    subst hw5
    go_wp2_with fail
    generalize w4.alloc (.cells #[.int .i64 (a : Int), .int .i64 (b : Int)] 3) = w5 at *
    refine hj2.mono ?_
    rintro e w6 ⟨lv6, T, rfl, hlT, ho6, hrs6, hodd6, hsum6, hb6⟩
    clear hj2 q0 q1
    have hIl : (trueL T).length ≤ 160 := by have := trueK_len T T.length; show (trueK T T.length).length ≤ _; omega
    rw [HDB.out _ hsum6]
    have HCK : Hid (chkT (N : Int) (L.map edE) [(a : Int), (b : Int)] (trueL T) = 0) := chk_two HR.out hab hb hrs6 hodd6
    have hI6 := ints_ownsT ho6
    generalize trueL T = I at *
    obtain ⟨pi, ci, rfl⟩ := hI6.len
    have HI6 : Hid (Ints w6.heap.size w6 (.slice pi I.length ci) I) := hI6
    have HB6 : Hid (Below w.heap.size w w6) := HB5.out.trans (hb6.mono HB5.out.size)
    have HX6 : Hid (Blk 24 w6 w.heap.size [.int .i64 (N : Int), .slice p L.length q]) := HX5.out.go hb6
    have HN6 : Hid (Ints w6.heap.size w6 (.slice pn 0 cn) []) := (HI5.out.below hb6).mono hb6.size
    clear hlT ho6 hrs6 hodd6 hsum6 hb6 hI6 HB5 HX5 HI5 HI4 HX4 HB4
    have q0 := HX6.out.cell (j := 0) rfl
    have q1 := HX6.out.cell (j := 1) rfl
    have hsu := refSumT_any N L [] (by simp [plcB]) HW.out (by simp) (.slice p L.length q) (.slice pn 0 cn) w6 (HL.out.go HB6.out) HN6.out
    rw [sumP_nil] at hsu
    go_wp2_with fail
    refine hsu.mono ?_
    rintro e w7 ⟨rfl, hb7⟩
    clear hsu q0 q1
    have HI7 : Hid (Ints w7.heap.size w7 (.slice pi I.length ci) I) := (HI6.out.below hb7).mono hb7.size
    have HB7 : Hid (Below w.heap.size w w7) := HB6.out.trans (hb7.mono HB6.out.size)
    have HX7 : Hid (Blk 24 w7 w.heap.size [.int .i64 (N : Int), .slice p L.length q]) := HX6.out.go hb7
    have HN7 : Hid (Ints w7.heap.size w7 (.slice pn 0 cn) []) := (HN6.out.below hb7).mono hb7.size
    have hod := refOddT_all (N : Int) (L.map edE) [] (by simp) (.slice p L.length q) (.slice pn 0 cn) w7 (HL.out.go HB7.out) HN7.out
    rw [odd_none] at hod
    have q0 := HX7.out.cell (j := 0) rfl
    have q1 := HX7.out.cell (j := 1) rfl
    clear hb7 HI6 HB6 HX6 HN6
    go_wp2_with fail
    refine hod.mono ?_
    rintro e w8 ⟨rv, rfl, hr8, hb8⟩
    clear hod q0 q1
    obtain ⟨pr, cr, rfl⟩ := hr8.len
    have HI8 : Hid (Ints w8.heap.size w8 (.slice pi I.length ci) I) := (HI7.out.below hb8).mono hb8.size
    have HB8 : Hid (Below w.heap.size w w8) := HB7.out.trans (hb8.mono HB7.out.size)
    have HX8 : Hid (Blk 24 w8 w.heap.size [.int .i64 (N : Int), .slice p L.length q]) := HX7.out.go hb8
    have q0 := HX8.out.cell (j := 0) rfl
    have q1 := HX8.out.cell (j := 1) rfl
    have hds := HRD.out w8 HB8.out
    clear hb8 HI7 HB7 HX7 HN7 hr8 HRD
    go_wp2_with fail
    refine hds.mono ?_
    rintro e w9 ⟨g, rfl, hg9, hD9, hb9⟩
    clear hds q0 q1
    have HI9 : Hid (Ints w9.heap.size w9 (.slice pi I.length ci) I) := (HI8.out.below hb9).mono hb9.size
    have HB9 : Hid (Below w.heap.size w w9) := HB8.out.trans (hb9.mono HB8.out.size)
    have HX9 : Hid (Blk 24 w9 w.heap.size [.int .i64 (N : Int), .slice p L.length q]) := HX8.out.go hb9
    have d0 : w9.cell? ⟨g, b, none⟩ = some (.int .i64 (d : Int)) := hD9.cell (by rw [List.getElem?_map, at_get? (by rw [HIN.out.1]; exact hb), HD.out]; rfl)
    have q0 := HX9.out.cell (j := 0) rfl
    have q1 := HX9.out.cell (j := 1) rfl
    obtain ⟨w10, hw10⟩ : ∃ W, w9.alloc (.cells #[.int .i64 (a : Int), .int .i64 (b : Int)] 3) = W := ⟨_, rfl⟩
    have hb10 : Below w9.heap.size w9 w10 := by rw [← hw10]; exact (Below.refl _ _).alloc (Nat.le_refl _) _
    have hT10 : Blk 3 w10 w9.heap.size (([(a : Int), (b : Int)] : List Int).map (Value.int .i64)) := by rw [← hw10]; exact heap_alloc_new w9 _
    have HB10 : Hid (Below w.heap.size w w10) := HB9.out.trans (hb10.mono HB9.out.size)
    have hck := refCheckT_any (N : Int) (L.map edE) [(a : Int), (b : Int)] I (by omega) (by simp) (by omega) (.slice p L.length q) (.slice (some ⟨w9.heap.size, 0, none⟩) 2 2) (.slice pi I.length ci) w10 (HL.out.go HB10.out) (hT10.intsJ rfl) ((HI9.out.below hb10).mono hb10.size)
    rw [HCK.out] at hck
    clear hb9 HI8 HB8 HX8 hg9 hD9 hb10 hT10
    subst hw10
    go_wp2_with fail
    generalize w9.alloc (.cells #[.int .i64 (a : Int), .int .i64 (b : Int)] 3) = w10 at *
    refine hck.mono ?_
    rintro e w11 ⟨rfl, hb11⟩
    clear hck
    have HB11 : Hid (Below w.heap.size w w11) := HB10.out.trans (hb11.mono HB10.out.size)
    clear hb11 d0 q0 q1
    go_wp2_with fail
    refine (aliveT_any w11).mono ?_
    rintro e w12 ⟨rfl, hb12⟩
    go_wp2
    go_ret
    exact ⟨rfl, HB11.out.trans (hb12.mono HB11.out.size)⟩
  · have hj2 := join_apart N L a b (by omega) hab hb HR.out (by omega) HE.out HW.out hcn (.slice p L.length q) (.slice (some ⟨w4.heap.size, 0, none⟩) 2 2) w5 (HL.out.go HB5.out) hIT
    have hd : at' (relN L (dist0 N a) N) b = -1 := by
      rcases hIN.2 b hb with ⟨h, _⟩ | ⟨d, _, ⟨L', h⟩, _⟩
      · exact h
      · exact absurd (Conn.symm ⟨L', d, h⟩) hcn
    have HD : Hid (at' (relN L (dist0 N a) N) b = -1) := hd
    clear hd hIN hrd hT5 hIT hb5
    subst hw5
    go_wp2_with fail
    generalize w4.alloc (.cells #[.int .i64 (a : Int), .int .i64 (b : Int)] 3) = w5 at *
    refine hj2.mono ?_
    rintro e w6 ⟨rfl, hb6⟩
    clear hj2 q0 q1
    have HB6 : Hid (Below w.heap.size w w6) := HB5.out.trans (hb6.mono HB5.out.size)
    have HX6 : Hid (Blk 24 w6 w.heap.size [.int .i64 (N : Int), .slice p L.length q]) := HX5.out.go hb6
    have HN6 : Hid (Ints w6.heap.size w6 (.slice pn 0 cn) []) := (HI5.out.below hb6).mono hb6.size
    clear hb6 HB5 HX5 HI5 HI4 HX4 HB4
    have q0 := HX6.out.cell (j := 0) rfl
    have q1 := HX6.out.cell (j := 1) rfl
    have hsu := refSumT_any N L [] (by simp [plcB]) HW.out (by simp) (.slice p L.length q) (.slice pn 0 cn) w6 (HL.out.go HB6.out) HN6.out
    rw [sumP_nil] at hsu
    go_wp2_with fail
    refine hsu.mono ?_
    rintro e w7 ⟨rfl, hb7⟩
    clear hsu q0 q1
    have HB7 : Hid (Below w.heap.size w w7) := HB6.out.trans (hb7.mono HB6.out.size)
    have HX7 : Hid (Blk 24 w7 w.heap.size [.int .i64 (N : Int), .slice p L.length q]) := HX6.out.go hb7
    have HN7 : Hid (Ints w7.heap.size w7 (.slice pn 0 cn) []) := (HN6.out.below hb7).mono hb7.size
    have hod := refOddT_all (N : Int) (L.map edE) [] (by simp) (.slice p L.length q) (.slice pn 0 cn) w7 (HL.out.go HB7.out) HN7.out
    rw [odd_none] at hod
    have q0 := HX7.out.cell (j := 0) rfl
    have q1 := HX7.out.cell (j := 1) rfl
    clear hb7 HB6 HX6 HN6
    go_wp2_with fail
    refine hod.mono ?_
    rintro e w8 ⟨rv, rfl, hr8, hb8⟩
    clear hod q0 q1
    obtain ⟨pr, cr, rfl⟩ := hr8.len
    have HB8 : Hid (Below w.heap.size w w8) := HB7.out.trans (hb8.mono HB7.out.size)
    have HX8 : Hid (Blk 24 w8 w.heap.size [.int .i64 (N : Int), .slice p L.length q]) := HX7.out.go hb8
    have q0 := HX8.out.cell (j := 0) rfl
    have q1 := HX8.out.cell (j := 1) rfl
    have hds := HRD.out w8 HB8.out
    clear hb8 HB7 HX7 HN7 hr8 HRD
    go_wp2_with fail
    refine hds.mono ?_
    rintro e w9 ⟨g, rfl, hg9, hD9, hb9⟩
    clear hds q0 q1
    have HB9 : Hid (Below w.heap.size w w9) := HB8.out.trans (hb9.mono HB8.out.size)
    have d0 : w9.cell? ⟨g, b, none⟩ = some (.int .i64 (-1)) := hD9.cell (by rw [List.getElem?_map, at_get? (by rw [HIN.out.1]; exact hb), HD.out]; rfl)
    clear hb9 hg9 hD9 HB8 HX8
    go_wp2_with fail
    refine (aliveT_any w9).mono ?_
    rintro e w12 ⟨rfl, hb12⟩
    go_wp2
    go_ret
    exact ⟨rfl, HB9.out.trans (hb12.mono HB9.out.size)⟩

set_option maxRecDepth 100000 in
set_option maxHeartbeats 8000000 in
theorem two_walk (n : Int) (l : List Ed) (a b : Int) (sv : Value) (w : World) (hl : Edges w.heap.size w sv l) :
    Calls Tryz.prog 6 #[.agg #[.int .i64 n, sv], .int .i64 a, .int .i64 b] w fun r w' => r = .returned (.bool true) ∧ Below w.heap.size w w' := by
  have hmix := mixed
  obtain ⟨p, q, rfl⟩ := hl.len
  have hg1 : Grew w (w.alloc (.cells #[.int .i64 n, .slice p l.length q] 24)) := (Grew.refl w).alloc _
  have hlt := fun W => lightW_any n p l.length q 40 (by omega) (by omega) W
  cases hli : lightB n l.length 40 with
  | false =>
    rw [hli] at hlt
    go_enter Tryz.func6, Tryz.ntmps6
    go_wp2_with fail
    refine (hlt _).mono ?_
    rintro e w2 ⟨rfl, hg2⟩
    go_wp2_with fail
    refine (aliveT_any _).mono ?_
    rintro e w3 ⟨rfl, hb3⟩
    go_wp2
    go_ret
    exact ⟨rfl, (hg1.trans hg2).below.trans (hb3.mono (hg1.trans hg2).below.size)⟩
  | true =>
    rw [hli] at hlt
    obtain ⟨hn40, hl40⟩ := light2_true hli
    have hrr := fun W (h : Below w.heap.size w W) => refRightW_any n l _ W (hl.go h)
    clear hli
    by_cases hr : rgtW n l = 0
    · by_cases ha0 : a < 0
      · rw [hr] at hrr
        clear hr
        go_enter Tryz.func6, Tryz.ntmps6
        go_wp2_with fail
        refine (hlt _).mono ?_
        rintro e w2 ⟨rfl, hg2⟩
        have hB2 := (hg1.trans hg2).below
        have hX2 : Blk 24 w2 w.heap.size [.int .i64 n, .slice p l.length q] := Blk.go (heap_alloc_new w _) hg2.below
        have q0 := hX2.cell (j := 0) rfl
        have q1 := hX2.cell (j := 1) rfl
        clear hg1 hg2 hlt
        go_wp2_with fail
        refine (hrr _ hB2).mono ?_
        rintro e w3 ⟨rfl, hg3⟩
        have hB3 := hB2.trans (hg3.below.mono hB2.size)
        have hX3 := hX2.go hg3.below
        clear q0 q1
        have q0 := hX3.cell (j := 0) rfl
        go_wp2_with fail
        refine (aliveT_any _).mono ?_
        rintro e w4 ⟨rfl, hb4⟩
        go_wp2
        go_ret
        exact ⟨rfl, hB3.trans (hb4.mono hB3.size)⟩
      · by_cases hb0 : b < 0
        · rw [hr] at hrr
          clear hr
          go_enter Tryz.func6, Tryz.ntmps6
          go_wp2_with fail
          refine (hlt _).mono ?_
          rintro e w2 ⟨rfl, hg2⟩
          have hB2 := (hg1.trans hg2).below
          have hX2 : Blk 24 w2 w.heap.size [.int .i64 n, .slice p l.length q] := Blk.go (heap_alloc_new w _) hg2.below
          have q0 := hX2.cell (j := 0) rfl
          have q1 := hX2.cell (j := 1) rfl
          clear hg1 hg2 hlt
          go_wp2_with fail
          refine (hrr _ hB2).mono ?_
          rintro e w3 ⟨rfl, hg3⟩
          have hB3 := hB2.trans (hg3.below.mono hB2.size)
          have hX3 := hX2.go hg3.below
          clear q0 q1
          have q0 := hX3.cell (j := 0) rfl
          go_wp2_with fail
          refine (aliveT_any _).mono ?_
          rintro e w4 ⟨rfl, hb4⟩
          go_wp2
          go_ret
          exact ⟨rfl, hB3.trans (hb4.mono hB3.size)⟩
        · by_cases ha1 : n ≤ a
          · rw [hr] at hrr
            clear hr
            go_enter Tryz.func6, Tryz.ntmps6
            go_wp2_with fail
            refine (hlt _).mono ?_
            rintro e w2 ⟨rfl, hg2⟩
            have hB2 := (hg1.trans hg2).below
            have hX2 : Blk 24 w2 w.heap.size [.int .i64 n, .slice p l.length q] := Blk.go (heap_alloc_new w _) hg2.below
            have q0 := hX2.cell (j := 0) rfl
            have q1 := hX2.cell (j := 1) rfl
            clear hg1 hg2 hlt
            go_wp2_with fail
            refine (hrr _ hB2).mono ?_
            rintro e w3 ⟨rfl, hg3⟩
            have hB3 := hB2.trans (hg3.below.mono hB2.size)
            have hX3 := hX2.go hg3.below
            clear q0 q1
            have q0 := hX3.cell (j := 0) rfl
            go_wp2_with fail
            refine (aliveT_any _).mono ?_
            rintro e w4 ⟨rfl, hb4⟩
            go_wp2
            go_ret
            exact ⟨rfl, hB3.trans (hb4.mono hB3.size)⟩
          · by_cases hb1 : n ≤ b
            · rw [hr] at hrr
              clear hr
              go_enter Tryz.func6, Tryz.ntmps6
              go_wp2_with fail
              refine (hlt _).mono ?_
              rintro e w2 ⟨rfl, hg2⟩
              have hB2 := (hg1.trans hg2).below
              have hX2 : Blk 24 w2 w.heap.size [.int .i64 n, .slice p l.length q] := Blk.go (heap_alloc_new w _) hg2.below
              have q0 := hX2.cell (j := 0) rfl
              have q1 := hX2.cell (j := 1) rfl
              clear hg1 hg2 hlt
              go_wp2_with fail
              refine (hrr _ hB2).mono ?_
              rintro e w3 ⟨rfl, hg3⟩
              have hB3 := hB2.trans (hg3.below.mono hB2.size)
              have hX3 := hX2.go hg3.below
              clear q0 q1
              have q0 := hX3.cell (j := 0) rfl
              go_wp2_with fail
              refine (aliveT_any _).mono ?_
              rintro e w4 ⟨rfl, hb4⟩
              go_wp2
              go_ret
              exact ⟨rfl, hB3.trans (hb4.mono hB3.size)⟩
            · by_cases hab : b ≤ a
              · rw [hr] at hrr
                clear hr
                go_enter Tryz.func6, Tryz.ntmps6
                go_wp2_with fail
                refine (hlt _).mono ?_
                rintro e w2 ⟨rfl, hg2⟩
                have hB2 := (hg1.trans hg2).below
                have hX2 : Blk 24 w2 w.heap.size [.int .i64 n, .slice p l.length q] := Blk.go (heap_alloc_new w _) hg2.below
                have q0 := hX2.cell (j := 0) rfl
                have q1 := hX2.cell (j := 1) rfl
                clear hg1 hg2 hlt
                go_wp2_with fail
                refine (hrr _ hB2).mono ?_
                rintro e w3 ⟨rfl, hg3⟩
                have hB3 := hB2.trans (hg3.below.mono hB2.size)
                have hX3 := hX2.go hg3.below
                clear q0 q1
                have q0 := hX3.cell (j := 0) rfl
                go_wp2_with fail
                refine (aliveT_any _).mono ?_
                rintro e w4 ⟨rfl, hb4⟩
                go_wp2
                go_ret
                exact ⟨rfl, hB3.trans (hb4.mono hB3.size)⟩
              · obtain ⟨N, L, rfl, _, rfl, hL, hE, hW⟩ := right_egs hr
                obtain ⟨s, rfl⟩ : ∃ s : Nat, a = s := ⟨a.toNat, by omega⟩
                obtain ⟨t, rfl⟩ : ∃ t : Nat, b = t := ⟨b.toNat, by omega⟩
                have hlen : (L.map edE).length = L.length := by simp
                rw [hlen] at hl hl40 ⊢
                exact two_main N L s t (by omega) (by omega) (by omega) (by omega) hE hW hr p q w hl
    · generalize rgtW n l = k at hrr hr
      have hk' : (k == 0) = false := by simpa using hr
      have hkn : ¬ k = 0 := hr
      go_enter Tryz.func6, Tryz.ntmps6
      go_wp2_with fail
      refine (hlt _).mono ?_
      rintro e w2 ⟨rfl, hg2⟩
      have hB2 := (hg1.trans hg2).below
      have hX2 : Blk 24 w2 w.heap.size [.int .i64 n, .slice p l.length q] := Blk.go (heap_alloc_new w _) hg2.below
      have q0 := hX2.cell (j := 0) rfl
      have q1 := hX2.cell (j := 1) rfl
      clear hg1 hg2 hlt
      go_wp2_with fail
      refine (hrr _ hB2).mono ?_
      rintro e w3 ⟨rfl, hg3⟩
      have hB3 := hB2.trans (hg3.below.mono hB2.size)
      have hX3 := hX2.go hg3.below
      clear q0 q1
      have q0 := hX3.cell (j := 0) rfl
      go_wp2_with fail
      refine (aliveT_any _).mono ?_
      rintro e w4 ⟨rfl, hb4⟩
      go_wp2
      go_ret
      exact ⟨rfl, hB3.trans (hb4.mono hB3.size)⟩
end Go.Proofs.YthdhimcaojfcnaaGreat

namespace Go.Proofs.YthdhimcaojfcnaaGreat.tjoinTwo
open Go Go.ChangeShapes Go.WideShapes Go.ChangeAt Go.RowKit

set_option maxRecDepth 100000 in
set_option maxHeartbeats 1000000 in
theorem lifted (os : Os) (started : os.Started) (H : Type) (enc : TypeId × Value → H) :
    ReturnsInHanded {} Tryz.checked os 6 .any (Rows.tjoinTwoSpec.pre6 enc Tryz.prog Tryz.f6 Rows.tjoinTwoRow.domain false) (Rows.tjoinTwoSpec.post enc Tryz.prog Tryz.f6 false true false false) := by
  refine returnsInHanded_of_change (C := Tryz.checked) own started (by kernel_rfl) Tryz.func6
    (ChangeSpec.witness6 (enc := enc) (C := Tryz.checked) false ⟨#[], #[.agg #[.int .i64 0, .slice none 0 0], .int .i64 0, .int .i64 0], []⟩ 8 (by kernel_rfl) (by kernel_rfl) (by kernel_rfl) (by kernel_rfl)) ?_
  intro W base args ds gs before hval0 hW hcnd _
  have hval : ∀ (j : Nat) t v, Tryz.f6.params[j]? = some t → args[j]? = some v → Value.okWide Tryz.prog W .any base t v := hval0
  have hW' := hW
  obtain ⟨p, q, hA0, hV, rfl, hfz, hnd⟩ := hW
  have hA : DataW.TrodAll enc Tryz.prog W 0 (fun _ => true) true Tryz.f6.params.toList args.toList ds p := hA0
  rw [Tryz.params6] at hA hval
  obtain ⟨v0, vs0, d0, ds0, p0, q0, hargs, rfl, rfl, h0, r0⟩ := trodAll_cons hA
  obtain ⟨v1, vs1, d1, ds1, p1, q1, rfl, rfl, rfl, h1, r1⟩ := trodAll_cons r0
  obtain ⟨v2, vs2, d2, ds2, p2, q2, rfl, rfl, rfl, h2, r2⟩ := trodAll_cons r1
  obtain ⟨rfl, rfl, rfl⟩ := trodAll_nil r2
  obtain rfl : args = #[v0, v1, v2] := by cases args; simp_all
  obtain ⟨rfl, rfl⟩ := trodVars_none hV
  have k0 := h0
  have lt0 : ∀ x ∈ p0, x.block < W.heap.size := by obtain ⟨m, hm⟩ := k0; exact DataW.trod_lt m _ _ _ hm
  have k1 := h1
  have lt1 : ∀ x ∈ p1, x.block < W.heap.size := by obtain ⟨m, hm⟩ := k1; exact DataW.trod_lt m _ _ _ hm
  have k2 := h2
  have lt2 : ∀ x ∈ p2, x.block < W.heap.size := by obtain ⟨m, hm⟩ := k2; exact DataW.trod_lt m _ _ _ hm
  obtain ⟨n0, s0, l0, rfl, e0⟩ := graph_in (hval 0 24 v0 rfl rfl) h0
  obtain ⟨n1, hn1, _, _, wf1⟩ := open_int Tryz.underlying3 (hval 1 3 v1 rfl rfl) h1
  subst hn1
  obtain ⟨n2, hn2, _, _, wf2⟩ := open_int Tryz.underlying3 (hval 2 3 v2 rfl rfl) h2
  subst hn2
  clear hA0 hval0
  refine (two_walk n0 l0 n1 n2 _ W e0).mono fun e W' ⟨he, bel⟩ => ?_
  subst he
  exact ⟨_, rfl, _, _, _, [], _, [], hW', trodAll_mk1 (shut_bool Tryz.underlying4 _), (trodAll_cons_mk (Below.trod laidOut (by kernel_rfl) (of_decide_eq_true (by kernel_rfl)) k0 bel lt0) (trodAll_cons_mk (Below.trod laidOut (by kernel_rfl) (of_decide_eq_true (by kernel_rfl)) k1 bel lt1) (trodAll_cons_mk (Below.trod laidOut (by kernel_rfl) (of_decide_eq_true (by kernel_rfl)) k2 bel lt2) trodAll_mk0))), rfl, bel.frame _, fun h => by cases h⟩

end Go.Proofs.YthdhimcaojfcnaaGreat.tjoinTwo

namespace Go.Proofs.YthdhimcaojfcnaaGreat
open Go

theorem tjoinTwo_holds : Rows.TjoinTwoSaid :=
  OpenClaim.holds_of_wide 6 Tryz.f6 rfl rfl rfl rfl rfl rfl rfl ⟨rfl, rfl, rfl, rfl, rfl⟩ rfl rfl rfl rfl rfl (by kernel_rfl) Tryz.func6 (by kernel_rfl)
    (of_decide_eq_true (by kernel_rfl)) (by unfold Func.isWrapper; first | (rw [if_pos (by decide +kernel)]; kernel_rfl) | (rw [if_neg (by decide +kernel)]; exact ⟨rfl, rfl⟩))
    (fun os started H enc _ => tjoinTwo.lifted os started H enc)

#print axioms tjoinTwo_holds
end Go.Proofs.YthdhimcaojfcnaaGreat
