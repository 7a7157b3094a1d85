/-
  The contract of the reference's Greedy.
-/
import Derived.Test.YteekhofollaooaaXCRefGrM
namespace Go.Proofs.Yteekhofollaooaa
open Go Go.Proofs Go.RowKit

def negH (n j : Nat) : List Int := List.replicate j (-1) ++ List.replicate (n - j) 0
theorem negH_zero (n : Nat) : negH n 0 = List.replicate n 0 := by simp [negH]
theorem negH_full (n : Nat) : negH n n = List.replicate n (-1) := by simp [negH]
theorem negH_set {n j : Nat} (h : j < n) : (negH n j).set j (-1) = negH n (j + 1) := by
  unfold negH
  have e : n - j = (n - (j + 1)) + 1 := by omega
  rw [List.set_append, List.length_replicate, if_neg (Nat.lt_irrefl j), Nat.sub_self, e, List.replicate_succ, List.set_cons_zero, List.replicate_succ', List.append_assoc]
  rfl
theorem negH_len {n j : Nat} (h : j ≤ n) : (negH n j).length = n := by simp [negH]; omega

set_option maxRecDepth 100000 in
set_option maxHeartbeats 8000000 in
theorem refGreedy_any (N : Nat) (l : List Ed) (hR : RightG (N : Int) l) (m : Nat) (hm : ∀ v, v < N → (nb l (v : Int)).length < m) (hm4 : m ≤ 8388608) (P : List Int) (hPl : P.length = N) (sv ov : Value) (w : World) (hl : Edges w.heap.size w sv l) (ho : Ints w.heap.size w ov P) :
    Calls Try.prog 11 #[.agg #[.int .i64 (N : Int), sv], ov] w fun e w' => Below w.heap.size w w' ∧ (ordB P (N : Int) = false → e = .returned (.tuple #[.slice none 0 0, .int .i64 1])) ∧ (ordB P (N : Int) = true → ∃ g, e = .returned (.tuple #[.slice (some ⟨g, 0, none⟩) N N, .int .i64 0]) ∧ Blk 3 w' g ((grA N l m P).1.map (Value.int .i64))) := by
  obtain ⟨p, c, rfl⟩ := hl.len
  obtain ⟨q, d, rfl⟩ := ho.len
  obtain ⟨i0, hi, hz0, hz1, hz2⟩ := info_parts infoI
  have hn1 := hR.n1
  have hm1 := hR.m1
  have hbA : Below w.heap.size w (w.alloc (.cells #[.int .i64 (N : Int), .slice p l.length c] 24)) := (Below.refl _ _).alloc (Nat.le_refl _) _
  have hX : Blk 24 (w.alloc (.cells #[.int .i64 (N : Int), .slice p l.length c] 24)) w.heap.size [.int .i64 (N : Int), .slice p l.length c] := heap_alloc_new w _
  have q0 := hX.cell (j := 0) rfl
  have q1 := hX.cell (j := 1) rfl
  have hrc := refRight_any (N : Int) l (.slice p l.length c) _ (hl.go hbA)
  rw [right_iff.2 hR] at hrc
  have HL : Hid (Edges w.heap.size w (.slice p l.length c) l) := hl
  have HO : Hid (Ints w.heap.size w (.slice q P.length d) P) := ho
  have HR : Hid (RightG (N : Int) l) := hR
  have HM : Hid (∀ v, v < N → (nb l (v : Int)).length < m) := hm
  have HX : Hid (Blk 24 (w.alloc (.cells #[.int .i64 (N : Int), .slice p l.length c] 24)) w.heap.size [.int .i64 (N : Int), .slice p l.length c]) := hX
  have HBA : Hid (Below w.heap.size w (w.alloc (.cells #[.int .i64 (N : Int), .slice p l.length c] 24))) := hbA
  have HPL : Hid (P.length = N) := hPl
  have hPb : P.length ≤ 1048576 := by omega
  have hPe : ((P.length : Int) != (N : Int)) = false := by simp; omega
  clear hl ho hR hX hbA hm hPl
  go_enter Try.func11, Try.ntmps11
  go_wp2_with fail
  generalize w.alloc (.cells #[.int .i64 (N : Int), .slice p l.length c] 24) = w1 at *
  refine hrc.mono ?_
  clear hrc
  rintro e w2 ⟨rfl, hg2⟩
  have HB2 : Hid (Below w.heap.size w w2) := HBA.out.trans (hg2.below.mono HBA.out.size)
  have HX2 : Hid (Blk 24 w2 w.heap.size [.int .i64 (N : Int), .slice p l.length c]) := HX.out.go hg2.below
  clear q0 q1 HBA HX hg2
  have q0 := HX2.out.cell (j := 0) rfl
  go_wp2_with (at_make; refine wpList_make_full _ rfl _ _ 25 rfl w2.heap.size 3 i0 (.int .i64 0) 1 Try.underlying25 hi hz0 hz1 .i64 .i64 _ _ N rfl rfl rfl rfl (by rw [hz2]; omega) (by unfold maxLen; omega) (Nat.le_refl _) ?_; intro w3 hown hgrow; have hb3 : Below w2.heap.size w2 w3 := (Below.refl _ _).grown hgrow (Nat.le_refl _) (fun k e => by cases e))
  have hrow := Blk.made hown
  rw [ints_made, ← negH_zero N] at hrow
  have HX3 : Hid (Blk 24 w3 w.heap.size [.int .i64 (N : Int), .slice p l.length c]) := HX2.out.go hb3
  have HB3 : Hid (Below w.heap.size w w3) := HB2.out.trans (hb3.mono HB2.out.size)
  have hgw := HX2.out.lt
  have hgw2 := HB2.out.size
  clear hown hgrow hi hz0 hz1 hz2 q0 HX2 HB2 hb3
  generalize w2.heap.size = g at *
  go_wp2
  go_loopw [7] (fun iv wr => ∃ j : Nat, j ≤ N ∧ iv = .int .i64 j ∧ Blk 3 wr g ((negH N j).map (Value.int .i64)) ∧ Below g w3 wr) (fun iv _ => N - (intOf iv).toNat)
  case atStart => exact ⟨0, Nat.zero_le _, rfl, hrow, Below.refl _ _⟩
  case round =>
    clear hrow
    obtain ⟨j, hj, rfl, hB, hb⟩ := hrel
    have x0 := (hb.cell (p := ⟨w.heap.size, 0, none⟩) hgw).trans (HX3.out.cell (j := 0) rfl)
    by_cases hlt : j < N
    · have hjl : (j : Int) < (N : Int) := by omega
      obtain ⟨o, t0⟩ : ∃ o, wr.cell? ⟨g, j, none⟩ = some o := ⟨_, hB.cell (List.getElem?_eq_getElem (by rw [List.length_map, negH_len hj]; exact hlt))⟩
      have f0 := hB.frozen j
      have hBn := hB.set j (.int .i64 (-1))
      rw [← List.map_set, negH_set hlt] at hBn
      have HBn : Hid _ := hBn
      have HB : Hid (Below g w3 wr) := hb
      clear hB hBn hb
      go_wp2
      exact ⟨⟨j + 1, by omega, by go_num, HBn.out, HB.out.setCell (p := ⟨g, j, none⟩) (Nat.le_refl _) _⟩, by simp [intOf]; omega⟩
    · have hjn : j = N := by omega
      have hjl : ¬ (j : Int) < (N : Int) := by omega
      rw [hjn, negH_full] at hB
      have hB0 : Blk 3 wr g ((grA N l m (P.take 0)).1.map (Value.int .i64)) := hB
      have HX4 : Hid (Blk 24 wr w.heap.size [.int .i64 (N : Int), .slice p l.length c]) := (hb.block _ hgw).trans HX3.out
      have HB4 : Hid (Below w.heap.size w wr) := HB3.out.trans (hb.mono hgw2)
      have hgl := hB.lt
      clear hB hb hjn HX3 HB3 x0
      rename World => w4
      have x0 := HX4.out.cell (j := 0) rfl
      go_wp2
      clear x0
      go_loopw [8] (fun iv wr => ∃ j : Nat, j ≤ P.length ∧ iv = .int .i64 j ∧ Hid ((∀ x ∈ P.take j, 0 ≤ x ∧ x < (N : Int)) ∧ (P.take j).Nodup) ∧ Blk 3 wr g ((grA N l m (P.take j)).1.map (Value.int .i64)) ∧ Below g w4 wr) (fun iv _ => P.length - (intOf iv).toNat)
      case atStart => exact ⟨0, Nat.zero_le _, rfl, ⟨by simp, by simp⟩, hB0, Below.refl _ _⟩
      case round =>
        clear hB0
        obtain ⟨j, hj, rfl, HQ, hB, hb⟩ := hrel
        have x0 := (hb.cell (p := ⟨w.heap.size, 0, none⟩) hgw).trans (HX4.out.cell (j := 0) rfl)
        have HBW : Hid (Below w.heap.size w wr) := HB4.out.trans (hb.mono hgw2)
        by_cases hlt : j < P.length
        · have hjl : (j : Int) < (P.length : Int) := by omega
          obtain ⟨b, off, rfl, hbb, hcap, hcc⟩ := HO.out.open hlt
          have c0 := hcc wr HBW.out j hlt
          have HIN : Hid (P[j] ∈ P) := List.getElem_mem hlt
          have HTK : Hid (P.take (j + 1) = P.take j ++ [P[j]]) := by
            unfold Hid
            rw [List.take_add_one, List.getElem?_eq_getElem hlt]
            rfl
          have HNO : Hid (P[j] ∈ P.take j → ¬ P.Nodup) := fun hm hnd => take_not hnd hlt hm
          have HGA : Hid (grA N l m (P.take (j + 1)) = grS l (grA N l m (P.take j)) P[j]) := grA_take N l m hlt
          have HB : Hid (Blk 3 wr g ((grA N l m (P.take j)).1.map (Value.int .i64))) := hB
          have HBG : Hid (Below g w4 wr) := hb
          have HCL : Hid ((grA N l m (P.take j)).1.length = N) := (grA_len N l m (P.take j)).1
          clear hcc hB hb
          generalize P[j] = x at *
          by_cases h1 : x < 0
          · have HF : Hid (ordB P (N : Int) = false) := ordB_no fun ho => by have := (ho.2.1 x HIN.out).1; omega
            clear HTK HNO HQ HGA HB
            go_wp2
            refine bodyPost_ret (results_tmp2 rfl _ _ _) rfl ?_
            exact ⟨HBW.out, fun _ => rfl, fun h => by rw [HF.out] at h; cases h⟩
          · by_cases h2 : (N : Int) ≤ x
            · have HF : Hid (ordB P (N : Int) = false) := ordB_no fun ho => by have := (ho.2.1 x HIN.out).2; omega
              clear HTK HNO HQ HGA HB
              go_wp2
              refine bodyPost_ret (results_tmp2 rfl _ _ _) rfl ?_
              exact ⟨HBW.out, fun _ => rfl, fun h => by rw [HF.out] at h; cases h⟩
            · obtain ⟨v, rfl⟩ : ∃ v : Nat, x = (v : Int) := ⟨x.toNat, by omega⟩
              have hvN : v < N := by omega
              have hvI : (v : Int) < (N : Int) := by omega
              have s0 : wr.cell? ⟨g, v, none⟩ = some (.int .i64 ((grA N l m (P.take j)).1.getD v 0)) := HB.out.cell (by
                have hk : v < (grA N l m (P.take j)).1.length := by rw [HCL.out]; exact hvN
                rw [List.getElem?_map, List.getD_eq_getElem?_getD, List.getElem?_eq_getElem hk]
                rfl)
              obtain ⟨hhas, hgs⟩ := grA_has N l m (P.take j) HQ.out.1 HQ.out.2 HM.out
              by_cases h3 : (v : Int) ∈ P.take j
              · have h4 := hhas v h3
                have HF : Hid (ordB P (N : Int) = false) := ordB_no fun ho => HNO.out h3 ho.2.2
                generalize (grA N l m (P.take j)).1.getD v 0 = y at *
                clear HTK HNO HQ HGA HB h3 hhas hgs
                go_wp2
                refine bodyPost_ret (results_tmp2 rfl _ _ _) rfl ?_
                exact ⟨HBW.out, fun _ => rfl, fun h => by rw [HF.out] at h; cases h⟩
              · have hbare := grA_bare N l m (P.take j) (fun x hx => (HQ.out.1 x hx).1) v hvN h3
                rw [hbare] at s0
                have hgs' := hgs (by omega)
                obtain ⟨kh, hkh, hkm, hlst⟩ := hue_ok (C := (grA N l m (P.take j)).1) hgs'.len (hgs'.fresh h3) (HM.out v hvN)
                have HGN : Hid ((grA N l m (P.take (j + 1))).1 = (grA N l m (P.take j)).1.set v (kh : Int)) := by
                  unfold Hid
                  rw [HGA.out]
                  unfold grS
                  simp only [Int.toNat_natCast]
                  rw [hkh]
                have HQ2 : Hid ((∀ y ∈ P.take (j + 1), 0 ≤ y ∧ y < (N : Int)) ∧ (P.take (j + 1)).Nodup) := by
                  unfold Hid
                  rw [HTK.out]
                  refine ⟨fun y hy => ?_, ?_⟩
                  · rcases List.mem_append.1 hy with h | h
                    · exact HQ.out.1 y h
                    · rw [List.mem_singleton.1 h]; omega
                  · rw [List.nodup_append]
                    refine ⟨HQ.out.2, by simp, fun y hy z hz e => h3 ?_⟩
                    rw [← List.mem_singleton.1 hz, ← e]
                    exact hy
                have HBR : Hid ((grA N l m (P.take j)).1.getD v 0 = -1) := hbare
                have HLS : Hid (LeastC (grA N l m (P.take j)).1 (nb l (v : Int)) kh) := hlst
                have hkh8 : kh ≤ 8388608 := by omega
                clear HTK HNO HQ HGA h3 hhas hgs hgs' hbare hkh hlst hkm
                generalize (grA N l m (P.take j)).1 = C at *
                go_wp2
                clear s0 x0 c0
                go_loopw [10] (fun kv wk => ((∃ k : Nat, k ≤ kh ∧ kv = .int .i64 k ∧ Blk 3 wk g (C.map (Value.int .i64))) ∨ (kv = .int .i64 ((kh : Int) + 1) ∧ Blk 3 wk g ((C.set v (kh : Int)).map (Value.int .i64)))) ∧ Below g w4 wk) (fun kv _ => kh + 2 - (intOf kv).toNat)
                case atStart => exact ⟨.inl ⟨0, Nat.zero_le _, rfl, HB.out⟩, HBG.out⟩
                case round =>
                  clear HB HBG
                  rename World => wk
                  obtain ⟨hcase, hbk⟩ := hrel
                  have HBK : Hid (Below g w4 wk) := hbk
                  rcases hcase with ⟨k, hk, rfl, hBk⟩ | ⟨rfl, hBk⟩
                  · have s0 : wk.cell? ⟨g, v, none⟩ = some (.int .i64 (-1)) := hBk.cell (by
                      have hkc : v < C.length := by rw [HCL.out]; exact hvN
                      have hb := HBR.out
                      rw [List.getD_eq_getElem?_getD, List.getElem?_eq_getElem hkc, Option.getD_some] at hb
                      rw [List.getElem?_map, List.getElem?_eq_getElem hkc, hb]
                      rfl)
                    have sf := hBk.frozen v
                    have HBk : Hid (Blk 3 wk g (C.map (Value.int .i64))) := hBk
                    clear hBk hbk
                    go_wp2
                    go_loopw [11, 12] (fun fv uv wu => ∃ u : Nat, u ≤ N ∧ fv = .bool (freeB l C (v : Int) (k : Int) u) ∧ uv = .int .i64 u ∧ Grew wk wu) (fun _ uv _ => N - (intOf uv).toNat)
                    case atStart => exact ⟨0, Nat.zero_le _, rfl, rfl, Grew.refl _⟩
                    case round =>
                      clear s0 sf
                      rename World => wu
                      obtain ⟨u, hu, rfl, rfl, hgu⟩ := hrel
                      have HBU : Hid (Below g w4 wu) := HBK.out.trans (hgu.below.mono (by have := HBk.out.lt; omega))
                      have HXU : Hid (Blk 24 wu w.heap.size [.int .i64 (N : Int), .slice p l.length c]) := (HBU.out.block _ hgw).trans HX4.out
                      have x0 := HXU.out.cell (j := 0) rfl
                      have x1 := HXU.out.cell (j := 1) rfl
                      have HGU : Hid (Grew wk wu) := hgu
                      by_cases hlu : u < N
                      · have hluI : (u : Int) < (N : Int) := by omega
                        have HSU : Hid _ := freeB_succ l C (v : Int) (k : Int) u
                        have d0 : wu.cell? ⟨g, u, none⟩ = some (.int .i64 (C.getD u 0)) := (HBk.out.go hgu.below).cell (by
                          have hkc : u < C.length := by rw [HCL.out]; exact hlu
                          rw [List.getElem?_map, List.getD_eq_getElem?_getD, List.getElem?_eq_getElem hkc]
                          rfl)
                        have hfd := refFind_any (N : Int) l (by omega) (u : Int) (v : Int) (.slice p l.length c) wu (HL.out.go (HB4.out.trans (HBU.out.mono hgw2)))
                        generalize freeB l C (v : Int) (k : Int) u = fr at *
                        generalize C.getD u 0 = y at *
                        generalize findP l (u : Int) (v : Int) = fp at *
                        clear hgu
                        cases fr with
                        | false =>
                          have HSF : Hid (freeB l C (v : Int) (k : Int) (u + 1) = false) := HSU.out.trans (by simp)
                          clear HSU hfd
                          go_wp2
                          exact ⟨⟨u + 1, by omega, by rw [HSF.out], by go_num, HGU.out⟩, by simp [intOf]; omega⟩
                        | true =>
                          by_cases hy : y = (k : Int)
                          · subst hy
                            have HSF : Hid (freeB l C (v : Int) (k : Int) (u + 1) = decide (fp < 0)) := HSU.out.trans (by simp)
                            clear HSU
                            go_wp2_with fail
                            refine hfd.mono ?_
                            clear hfd
                            rintro e wf ⟨rfl, hgf⟩
                            have HGF : Hid (Grew wk wf) := HGU.out.trans hgf
                            clear hgf
                            go_wp2
                            exact ⟨⟨u + 1, by omega, by rw [HSF.out], by go_num, HGF.out⟩, by simp [intOf]; omega⟩
                          · have hy' : (y != (k : Int)) = true := by simpa using hy
                            have HSF : Hid (freeB l C (v : Int) (k : Int) (u + 1) = true) := HSU.out.trans (by simp [hy])
                            clear HSU hfd hy
                            go_wp2
                            exact ⟨⟨u + 1, by omega, by rw [HSF.out], by go_num, HGU.out⟩, by simp [intOf]; omega⟩
                      · have hun : u = N := by omega
                        have hluI : ¬ (u : Int) < (N : Int) := by omega
                        have HBn : Hid (Blk 3 wu g (C.map (Value.int .i64))) := HBk.out.go hgu.below
                        have HFA : Hid (freeB l C (v : Int) (k : Int) u = true ↔ ∀ z ∈ nb l (v : Int), C.getD z.toNat 0 ≠ (k : Int)) := by
                          unfold Hid
                          rw [hun]
                          exact freeB_all HR.out
                        generalize freeB l C (v : Int) (k : Int) u = fr at *
                        clear hgu hun
                        cases fr with
                        | true =>
                          have hkk : k = kh := by
                            rcases Nat.lt_or_ge k kh with h | h
                            · obtain ⟨z, hz, e⟩ := HLS.out.each k h
                              exact absurd e (HFA.out.1 rfl z hz)
                            · omega
                          obtain ⟨o, t0⟩ : ∃ o, wu.cell? ⟨g, v, none⟩ = some o := ⟨_, HBn.out.cell (List.getElem?_eq_getElem (by rw [List.length_map, HCL.out]; exact hvN))⟩
                          have tf := HBn.out.frozen v
                          have hBs := HBn.out.set v (.int .i64 (kh : Int))
                          rw [← List.map_set] at hBs
                          have HBs : Hid (Blk 3 (wu.setCell ⟨g, v, none⟩ (.int .i64 (kh : Int))) g ((C.set v (kh : Int)).map (Value.int .i64))) := hBs
                          subst hkk
                          clear HFA HBn hBs
                          go_wp2
                          exact ⟨⟨.inr ⟨by go_num, HBs.out⟩, HBU.out.setCell (p := ⟨g, v, none⟩) (Nat.le_refl _) _⟩, by simp [intOf]⟩
                        | false =>
                          have hkk : k + 1 ≤ kh := by
                            rcases Nat.lt_or_ge k kh with h | h
                            · omega
                            · exfalso
                              have e : k = kh := by omega
                              have := HFA.out.2 (fun z hz => by rw [e]; exact HLS.out.none z hz)
                              cases this
                          clear HFA
                          go_wp2
                          exact ⟨⟨.inl ⟨k + 1, hkk, by go_num, HBn.out⟩, HBU.out⟩, by simp [intOf]; omega⟩
                  · have s0 : wk.cell? ⟨g, v, none⟩ = some (.int .i64 (kh : Int)) := hBk.cell (by
                      have hkc : v < C.length := by rw [HCL.out]; exact hvN
                      rw [List.getElem?_map, List.getElem?_set_self hkc]
                      rfl)
                    have HBk : Hid (Blk 3 wk g ((C.set v (kh : Int)).map (Value.int .i64))) := hBk
                    have hk0 : ¬ (kh : Int) < 0 := by omega
                    clear hBk hbk
                    go_wp2
                    exact ⟨⟨j + 1, by omega, by go_num, HQ2, by rw [HGN.out]; exact HBk.out, HBK.out⟩, by simp [intOf]; omega⟩
        · have hjn : j = P.length := by omega
          have hjl : ¬ (j : Int) < (P.length : Int) := by omega
          have HF : Hid (ordB P (N : Int) = true) := by
            have h1 := HQ.out
            rw [hjn, List.take_length] at h1
            exact (ordB_iff P (N : Int)).2 ⟨by have := HPL.out; omega, h1.1, h1.2⟩
          rw [hjn, List.take_length] at hB
          have HBF : Hid (Blk 3 wr g ((grA N l m P).1.map (Value.int .i64))) := hB
          clear hB hb HQ hjn x0
          go_wp2
          refine bodyPost_ret (results_tmp2 rfl _ _ _) rfl ?_
          exact ⟨HBW.out, fun h => (by rw [HF.out] at h; cases h), fun _ => ⟨g, rfl, HBF.out⟩⟩
end Go.Proofs.Yteekhofollaooaa
