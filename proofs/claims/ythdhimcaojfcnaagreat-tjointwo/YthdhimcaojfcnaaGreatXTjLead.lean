/-
  The contract of tjoin.leaders: of each vertex the least one of a class; two are of one class just if they hang together.
-/
import Derived.OwnWalk
import Derived.Test.YthdhimcaojfcnaaGreatXGDeg
import Derived.Test.YthdhimcaojfcnaaGreatXWaAt
import Derived.Test.YthdhimcaojfcnaaGreatJM
namespace Go.Proofs.YthdhimcaojfcnaaGreat
open Go Go.Proofs Go.RowKit

def iotaL (N j : Nat) : List Nat := List.range j ++ List.replicate (N - j) 0
theorem iotaL_len {N j : Nat} (h : j ≤ N) : (iotaL N j).length = N := by simp [iotaL]; omega
theorem iotaL_set {N j : Nat} (h : j < N) : (iotaL N j).set j j = iotaL N (j + 1) := by
  unfold iotaL
  rw [List.set_append_right _ _ (by simp), List.length_range, Nat.sub_self]
  obtain ⟨m, hm⟩ : ∃ m, N - j = m + 1 := ⟨N - j - 1, by omega⟩
  rw [hm, List.replicate_succ, List.set_cons_zero, show N - (j + 1) = m from by omega, List.range_succ, List.append_assoc]
  rfl
theorem iotaL_full (N : Nat) : iotaL N N = List.range N := by simp [iotaL]
theorem natsV_zero (N : Nat) : (List.replicate N (0 : Int)).map (Value.int .i64) = natsV (iotaL N 0) := by simp [natsV, iotaL]
/-- The leaders, as a list. -/
def leadL (N : Nat) (R : Nat → Nat) : List Nat := (List.range N).map R
theorem leadL_of {N : Nat} {P : List Nat} {R : Nat → Nat} (hP : P.length = N) (h : ∀ i, i < N → pf P i = R i) : P = leadL N R := by
  apply List.ext_getElem
  · simp [leadL, hP]
  · intro i h1 h2
    have := h i (by omega)
    rw [pf, List.getD_eq_getElem?_getD, List.getElem?_eq_getElem h1] at this
    simpa [leadL] using this
theorem leadL_at {N v : Nat} {R : Nat → Nat} (h : v < N) : (natsV (leadL N R))[v]? = some (.int .i64 (R v : Int)) := by simp [natsV, leadL, h]

set_option maxRecDepth 100000 in
set_option maxHeartbeats 4000000 in
theorem leaders_any (N : Nat) (L : List Eg) (hN : N ≤ 1048576) (hm : L.length ≤ 4194304) (hE : ∀ e ∈ L, e.1 < N ∧ e.2.1 < N) (sv : Value) (w : World) (hl : Edges w.heap.size w sv (L.map edE)) :
    Calls Tryz.prog 31 #[.agg #[.int .i64 (N : Int), sv]] w fun r w' => ∃ (g : Nat) (R : Nat → Nat), r = .returned (.slice (some ⟨g, 0, none⟩) N N) ∧ LeadP L N R ∧ Blk 3 w' g (natsV (leadL N R)) ∧ Below w.heap.size w w' ∧ w.heap.size ≤ g := by
  have hmix := mixed
  obtain ⟨p, c, rfl⟩ := hl.lenG
  obtain ⟨i0, hi, hz0, hz1, hz2⟩ := info_parts infoI
  have hg1 : Grew w (w.alloc (.cells #[.int .i64 (N : Int), .slice p L.length c] 24)) := (Grew.refl w).alloc _
  have e1 : (w.alloc (.cells #[.int .i64 (N : Int), .slice p L.length c] 24)).heap.size = w.heap.size + 1 := by simp
  have E1 : Hid _ := e1
  clear e1
  go_enter Tryz.func31, Tryz.ntmps31
  go_wp2_with (at_make; refine wpList_make_full _ rfl _ _ 25 rfl w.heap.size 3 i0 (.int .i64 0) 1 Tryz.underlying25 hi hz0 hz1 .i64 .i64 _ _ N rfl rfl rfl rfl (by rw [hz2]; omega) (by unfold maxLen; omega) (by simp) ?_; intro w3 hown hgrow; have hb3 : Below (w.alloc (.cells #[.int .i64 (N : Int), .slice p L.length c] 24)).heap.size (w.alloc (.cells #[.int .i64 (N : Int), .slice p L.length c] 24)) w3 := (Below.refl _ _).grown hgrow (Nat.le_refl _) (fun k e => by cases e); have q0 : w3.cell? ⟨w.heap.size, 0, none⟩ = some (.int .i64 (N : Int)) := (hb3.cell (p := ⟨w.heap.size, 0, none⟩) (by rw [E1.out]; exact Nat.lt_succ_self _)).trans (new_cell rfl rfl); have q1 : w3.cell? ⟨w.heap.size, 1, none⟩ = some (.slice p L.length c) := (hb3.cell (p := ⟨w.heap.size, 1, none⟩) (by rw [E1.out]; exact Nat.lt_succ_self _)).trans (new_cell rfl rfl); have hbw : Below w.heap.size w w3 := hg1.below.trans (hb3.mono (by rw [E1.out]; omega)); rw [E1.out] at hown; have hrow := Blk.made hown; have hsz := hrow.lt; rw [ints_made, natsV_zero] at hrow;  have HRow : Hid _ := hrow; clear hown hgrow hb3 hrow; have hl1 : w.heap.size < w3.heap.size := by omega)
  have HB4 : Hid (Below w.heap.size w (w3.alloc (.cells #[.slice (some ⟨w.heap.size + 1, 0, none⟩) N N] 25))) := hbw.alloc (by omega) _
  have HC4 : Hid ((w3.alloc (.cells #[.slice (some ⟨w.heap.size + 1, 0, none⟩) N N] 25)).cell? ⟨w3.heap.size, 0, none⟩ = some (.slice (some ⟨w.heap.size + 1, 0, none⟩) N N)) := new_cell rfl rfl
  have HR4 : Hid (Blk 3 (w3.alloc (.cells #[.slice (some ⟨w.heap.size + 1, 0, none⟩) N N] 25)) (w.heap.size + 1) (natsV (iotaL N 0))) := by
    have h1 : Blk 3 w3 (w.heap.size + 1) (natsV (iotaL N 0)) := HRow.out
    exact h1.go ((Below.refl _ _).alloc (Nat.le_refl _) _)
  have HQ4 : Hid ((w3.alloc (.cells #[.slice (some ⟨w.heap.size + 1, 0, none⟩) N N] 25)).cell? ⟨w.heap.size, 0, none⟩ = some (.int .i64 (N : Int)) ∧ (w3.alloc (.cells #[.slice (some ⟨w.heap.size + 1, 0, none⟩) N N] 25)).cell? ⟨w.heap.size, 1, none⟩ = some (.slice p L.length c)) :=
    ⟨((Below.refl w3.heap.size w3).alloc (Nat.le_refl _) _ |>.cell (p := ⟨w.heap.size, 0, none⟩) hl1).trans q0, ((Below.refl w3.heap.size w3).alloc (Nat.le_refl _) _ |>.cell (p := ⟨w.heap.size, 1, none⟩) hl1).trans q1⟩
  obtain ⟨w4, hw4⟩ : ∃ W, w3.alloc (.cells #[.slice (some ⟨w.heap.size + 1, 0, none⟩) N N] 25) = W := ⟨_, rfl⟩
  rw [hw4] at HB4 HC4 HR4 HQ4
  rw [hw4]
  clear hw4 q0 q1 hbw HRow hi hz0 hz1 hz2 E1
  obtain ⟨lb, hlb⟩ : ∃ n, w3.heap.size = n := ⟨_, rfl⟩
  rw [hlb] at HC4 hl1 hsz ⊢
  clear hlb
  obtain ⟨x, hx⟩ : ∃ n, w.heap.size = n := ⟨_, rfl⟩
  rw [hx] at HC4 HR4 HQ4 HB4 hl1 hsz ⊢
  go_loopw [16] (fun i wr => ∃ j : Nat, j ≤ N ∧ i = .int .i64 j ∧ Hid (Blk 3 wr (x + 1) (natsV (iotaL N j))) ∧ Hid (Tch (x + 1) w4 wr)) (fun i _ => N - (intOf i).toNat)
  case atStart => exact ⟨0, Nat.zero_le _, rfl, HR4, Tch.refl _ _⟩
  case round =>
    obtain ⟨j, hj, rfl, HB, HT⟩ := hrel
    have c0 := HT.out.cell HC4.out (by omega)
    have q0 := HT.out.cell HQ4.out.1 (by omega)
    have q1 := HT.out.cell HQ4.out.2 (by omega)
    by_cases hlt : j < N
    · have hjl : (j : Int) < (N : Int) := by omega
      have t0 : wr.cell? ⟨x + 1, j, none⟩ = some (.int .i64 (pf (iotaL N j) j : Int)) := HB.out.cell (natsV_at (by rw [iotaL_len hj]; exact hlt))
      have f0 := HB.out.frozen j
      have HB2 : Hid (Blk 3 (wr.setCell ⟨x + 1, j, none⟩ (.int .i64 (j : Int))) (x + 1) (natsV (iotaL N (j + 1)))) := by
        have h1 := HB.out.set j (.int .i64 (j : Int))
        rw [← natsV_set, iotaL_set hlt] at h1
        exact h1
      have HT2 : Hid _ := HT.out.set j (.int .i64 (j : Int))
      go_wp2
      exact ⟨⟨j + 1, by omega, by go_num, HB2, HT2⟩, by simp [intOf]; omega⟩
    · obtain rfl : N = j := by omega
      have HU : Hid (UF L N 0 (List.range N) id) := UF.start L N
      have HBr : Hid (Blk 3 wr (x + 1) (natsV (List.range N))) := by
        have := HB.out
        rw [iotaL_full] at this
        exact this
      have HBw : Hid (Below x w wr) := by
        have := HT.out.below (n := x) HB4.out (by omega) ?_
        · exact this
        · have := HB4.out.size; omega
      clear HB HR4 HC4 HQ4 HT HB4
      obtain ⟨w5, hw5⟩ : ∃ W, wr = W := ⟨_, rfl⟩
      rw [hw5] at HBr HBw c0 q0 q1 ⊢
      clear hw5
      go_wp2
      go_loopw [28] (fun i wr => ∃ (j : Nat) (P : List Nat) (R : Nat → Nat), j ≤ L.length ∧ i = .int .i64 j ∧ Hid (UF L N j P R) ∧ Hid (Blk 3 wr (x + 1) (natsV P)) ∧ Hid (Tch (x + 1) w5 wr)) (fun i _ => L.length - (intOf i).toNat)
      case atStart => exact ⟨0, _, _, Nat.zero_le _, rfl, HU, HBr, Tch.refl _ _⟩
      case round =>
        obtain ⟨j, P, R, hj, rfl, HUj, HBj, HTj⟩ := hrel
        have d0 := HTj.out.cell c0 (by omega)
        have d1 := HTj.out.cell q0 (by omega)
        have d2 := HTj.out.cell q1 (by omega)
        have hbr : Below x w wr := HTj.out.below HBw.out (by omega) (by have := HBw.out.size; omega)
        by_cases hlt : j < L.length
        · obtain ⟨b, off, rfl, hb1, hcap, hc⟩ := hl.eg hlt
          rw [hx] at hc hb1
          obtain ⟨e0, e1, e2⟩ := hc wr hbr j hlt
          have hj3 : (j : Int) < (L.length : Int) := by omega
          obtain ⟨hu, hv⟩ := hE L[j] (List.getElem_mem hlt)
          have HK : Hid _ := List.getElem?_eq_getElem hlt
          have HBr' : Hid _ := hbr
          have hwx := hbr.size
          clear hc hbr c0 q0 q1 d1 d2
          have hwlb := World.block_lt_of_cell? wr _ d0
          obtain ⟨u, hu1⟩ : ∃ u, L[j].1 = u := ⟨_, rfl⟩
          obtain ⟨v, hv1⟩ : ∃ v, L[j].2.1 = v := ⟨_, rfl⟩
          obtain ⟨wt, hw1⟩ : ∃ wt, L[j].2.2 = wt := ⟨_, rfl⟩
          have HU1 : Hid _ := hu1
          have HV1 : Hid _ := hv1
          rw [hu1] at hu e0
          rw [hv1] at hv e1
          rw [hw1] at e2
          clear hu1 hv1 hw1
          have HE6 : Hid (Blk 46 (wr.alloc (.cells #[.int .i64 (u : Int), .int .i64 (v : Int), .int .i64 (wt : Int)] 46)) wr.heap.size [.int .i64 (u : Int), .int .i64 (v : Int), .int .i64 (wt : Int)]) := heap_alloc_new wr _
          have HB6 : Hid (Below wr.heap.size wr (wr.alloc (.cells #[.int .i64 (u : Int), .int .i64 (v : Int), .int .i64 (wt : Int)] 46))) := (Below.refl _ _).alloc (Nat.le_refl _) _
          go_wp2
          obtain ⟨w6, hw6⟩ : ∃ W, wr.alloc (.cells #[.int .i64 (u : Int), .int .i64 (v : Int), .int .i64 (wt : Int)] 46) = W := ⟨_, rfl⟩
          rw [hw6] at HE6 HB6 ⊢
          clear hw6 e0 e1 e2 hg1 hl
          have HT6 : Hid (Tch (x + 1) w5 w6) := HTj.out.trans (Tch.of_below HB6.out)
          have HBk6 : Hid (Blk 3 w6 (x + 1) (natsV P)) := HBj.out.go HB6.out
          have hsw := HB6.out.size
          have d6 : w6.cell? ⟨lb, 0, none⟩ = some (.slice (some ⟨x + 1, 0, none⟩) N N) := (HB6.out.cell (p := ⟨lb, 0, none⟩) hwlb).trans d0
          have hne6 : wr.heap.size ≠ x + 1 := by omega
          obtain ⟨eb, heb⟩ : ∃ n, wr.heap.size = n := ⟨_, rfl⟩
          rw [heb] at HE6 hne6 hwlb ⊢
          clear HBj HTj HB6 d0 hwx heb
          refine wp_region_held_drew (S := (fun w' : World => w'.cell? ⟨eb, 0, none⟩ = some (.int .i64 (u : Int)) ∧ w'.cell? ⟨eb, 1, none⟩ = some (.int .i64 (v : Int)))) (by kernel_rfl) ⟨HE6.out.cell (j := 0) rfl, HE6.out.cell (j := 1) rfl⟩ (fun hHeld => ?_)
          refine wpAnyH_take (i := 0) (v := ?_) rfl (by kernel_rfl) (by kernel_rfl) (by kernel_rfl) (fun _ _ _ h => h) (Or.inl ⟨by rfl, ?_⟩) (by assumption) ?_
          rotate_left
          · intro w hSw; (try dsimp only at hSw); go_simp; (try with_reducible rfl)
          try simp only [Act.put, List.setIfInBounds_toArray]
          refine wpAnyH_take (i := 1) (v := ?_) rfl (by kernel_rfl) (by kernel_rfl) (by kernel_rfl) (fun _ _ _ h => h) (Or.inl ⟨by rfl, ?_⟩) (by assumption) ?_
          rotate_left
          · intro w hSw; (try dsimp only at hSw); go_simp; (try with_reducible rfl)
          try simp only [Act.put]
          refine wpAnyH_take (i := 2) (v := ?_) rfl (by kernel_rfl) (by kernel_rfl) (by kernel_rfl) (fun _ _ _ h => h) (Or.inl ⟨by rfl, ?_⟩) (by assumption) ?_
          rotate_left
          · intro w hSw; (try dsimp only at hSw); go_simp; (try with_reducible rfl)
          try simp only [Act.put]
          refine wpAnyH_take (i := 4) (v := ?_) rfl (by kernel_rfl) (by kernel_rfl) (by kernel_rfl) (fun _ _ _ h => h) (Or.inl ⟨by rfl, ?_⟩) (by assumption) ?_
          rotate_left
          · intro w hSw; (try dsimp only at hSw); go_simp; (try with_reducible rfl)
          try simp only [Act.put]
          refine wpAnyH_take (i := 5) (v := ?_) rfl (by kernel_rfl) (by kernel_rfl) (by kernel_rfl) (fun _ _ _ h => h) (Or.inl ⟨by rfl, ?_⟩) (by assumption) ?_
          rotate_left
          · intro w hSw; (try dsimp only at hSw); go_simp; (try with_reducible rfl)
          try simp only [Act.put]
          refine wpAnyH_take (i := 6) (v := ?_) rfl (by kernel_rfl) (by kernel_rfl) (by kernel_rfl) (fun _ _ _ h => h) (Or.inl ⟨by rfl, ?_⟩) (by assumption) ?_
          rotate_left
          · intro w hSw; (try dsimp only at hSw); go_simp; (try with_reducible rfl)
          try simp only [Act.put]
          try simp only [List.getElem_toArray, List.getElem_cons_zero, List.getElem_cons_succ, List.setIfInBounds_toArray, List.set_cons_zero, List.set_cons_succ]
          refine wpAnyH_ready (rs := [3]) (by kernel_rfl) (by simp) ?_
          refine AllReadyH.cons rfl (fun K hK => ?_) AllReadyH.nil
          go_simp
          refine (find_any L N j P R HUj.out u hu lb (x + 1) (by omega) w6.drew d6 HBk6.out).mono ?_
          rintro e w7 ⟨rfl, P7, hU7, hp7, -, hB7, hT7⟩
          refine hK.out _ _ ⟨hT7.cell hHeld.1 hne6, hT7.cell hHeld.2 hne6⟩ (fun hHeld7 => ?_)
          have HU7 : Hid _ := hU7
          have HP7 : Hid _ := hp7
          have HB7 : Hid _ := hB7
          have HT7 : Hid (Tch (x + 1) w5 w7) := HT6.out.drew.trans hT7
          have d7 := hT7.cell (b := lb) d6 (by omega)
          clear hK K hHeld hU7 hp7 hB7 hT7 HBk6 HT6 d6
          try simp only [Act.put, List.setIfInBounds_toArray, List.set_cons_zero, List.set_cons_succ]
          refine wpAnyH_ready (rs := [7]) (by kernel_rfl) (by simp) ?_
          refine AllReadyH.cons rfl (fun K hK => ?_) AllReadyH.nil
          go_simp
          refine (find_any L N j P7 R HU7.out v hv lb (x + 1) (by omega) w7 d7 HB7.out).mono ?_
          rintro e w8 ⟨rfl, P8, hU8, hp8, -, hB8, hT8⟩
          refine hK.out _ _ ⟨hT8.cell hHeld7.1 hne6, hT8.cell hHeld7.2 hne6⟩ (fun hHeld8 => ?_)
          have hra := HU7.out.root (R u) (by have := HU7.out.low u hu; omega) HP7.out
          have hrb := hU8.root (R v) (by have := hU8.low v hv; omega) hp8
          have haN : R u < N := by have := hU8.low u hu; omega
          have hbN : R v < N := by have := hU8.low v hv; omega
          have HJ : Hid _ := hU8.join haN hbN (hU8.rooted haN hra) hp8 HK.out (by rw [HU1.out]) (by rw [HV1.out]) (by rw [HU1.out]; exact hu) (by rw [HV1.out]; exact hv)
          have Hlen : Hid (P8.length = N) := hU8.len
          have HB8 : Hid (Blk 3 w8 (x + 1) (natsV P8)) := hB8
          have HT8 : Hid (Tch (x + 1) w5 w8) := HT7.out.trans hT8
          have d8 := hT8.cell (b := lb) d7 (by omega)
          clear hK K hHeld7 hU8 hp8 hB8 hT8 HU7 HP7 HB7 HT7 d7 hra hrb
          generalize R u = a at *
          generalize R v = a2 at *
          try simp only [Act.put, List.setIfInBounds_toArray, List.set_cons_zero, List.set_cons_succ]
          refine wpAnyH_take (i := 8) (v := ?_) rfl (by kernel_rfl) (by kernel_rfl) (by kernel_rfl) (fun _ _ _ h => h) (Or.inl ⟨by rfl, ?_⟩) (by assumption) ?_
          rotate_left
          · intro w hSw; (try dsimp only at hSw); go_simp; (try with_reducible rfl)
          try simp only [Act.put]
          refine wpAnyH_take (i := 9) (v := ?_) rfl (by kernel_rfl) (by kernel_rfl) (by kernel_rfl) (fun _ _ _ h => h) (Or.inl ⟨by rfl, ?_⟩) (by assumption) ?_
          rotate_left
          · intro w hSw; (try dsimp only at hSw); go_simp; (try with_reducible rfl)
          try simp only [Act.put]
          refine wpAnyH_done (by kernel_rfl) ?_ _
          simp only [List.getElem_toArray, List.getElem_cons_zero, List.getElem_cons_succ, List.setIfInBounds_toArray, List.set_cons_zero, List.set_cons_succ]
          have hmxN : max a a2 < P8.length := by rw [Hlen.out]; omega
          have HB9 : Hid (Blk 3 (w8.setCell ⟨x + 1, max a a2, none⟩ (.int .i64 (min a a2 : Nat))) (x + 1) (natsV (P8.set (max a a2) (min a a2)))) := by
            have h1 := HB8.out.set (max a a2) (.int .i64 ((min a a2 : Nat) : Int))
            rw [← natsV_set] at h1
            exact h1
          have HT9 : Hid _ := HT8.out.set (max a a2) (.int .i64 ((min a a2 : Nat) : Int))
          have t0 : w8.cell? ⟨x + 1, max a a2, none⟩ = some (.int .i64 (pf P8 (max a a2) : Int)) := HB8.out.cell (natsV_at hmxN)
          have f0 := HB8.out.frozen (max a a2)
          have hai : (a : Int) < (N : Int) := by omega
          have hai2 : (a2 : Int) < (N : Int) := by omega
          clear HB8 HT8 hmxN hHeld8
          have HBx : Hid (∀ W, Tch (x + 1) w5 W → Below x w W) := fun W hW => hW.below HBw.out (by omega) (by have := HBw.out.size; omega)
          rcases Nat.lt_trichotomy a a2 with hab | hab | hab
          · rw [Nat.max_eq_right (by omega), Nat.min_eq_left (by omega)] at HJ HB9 HT9
            rw [Nat.max_eq_right (by omega)] at t0 f0
            have hab1 : (a : Int) < (a2 : Int) := by omega
            have hab2 : (a : Int) ≤ (a2 : Int) := by omega
            go_wp2
            exact ⟨⟨j + 1, _, _, by omega, by go_num, HJ, HB9, HT9.out⟩, by simp [intOf]; omega⟩
          · subst hab
            rw [Nat.max_self, Nat.min_self] at HJ HB9 HT9
            rw [Nat.max_self] at t0 f0
            go_wp2
            exact ⟨⟨j + 1, _, _, by omega, by go_num, HJ, HB9, HT9.out⟩, by simp [intOf]; omega⟩
          · rw [Nat.max_eq_left (by omega), Nat.min_eq_right (by omega)] at HJ HB9 HT9
            rw [Nat.max_eq_left (by omega)] at t0 f0
            have hab1 : (a2 : Int) < (a : Int) := by omega
            have hab2 : (a2 : Int) ≤ (a : Int) := by omega
            go_wp2
            exact ⟨⟨j + 1, _, _, by omega, by go_num, HJ, HB9, HT9.out⟩, by simp [intOf]; omega⟩
        · obtain rfl : j = L.length := by omega
          obtain ⟨w9, hw9⟩ : ∃ W, wr = W := ⟨_, rfl⟩
          have hlen := HUj.out.len
          have HL : Hid (LeadP L N R) := HUj.out.lead
          have Hbr : Hid (Below x w wr) := hbr
          have HBj' : Hid (Blk 3 wr (x + 1) (natsV P)) := HBj.out
          rw [hw9] at Hbr HBj' d0 d1 ⊢
          have hls : lb < w9.heap.size := World.block_lt_of_cell? w9 _ d0
          clear hbr HBj HTj HBw HBr HU hw9 d2 c0 q0 q1 hlen hg1
          go_wp2
          go_loopw [51] (fun i wr => ∃ (j : Nat) (P : List Nat), j ≤ N ∧ i = .int .i64 j ∧ Hid (UF L N L.length P R) ∧ Hid (∀ i, i < j → pf P i = R i) ∧ Hid (Blk 3 wr (x + 1) (natsV P)) ∧ Hid (Tch (x + 1) w9 wr)) (fun i _ => N - (intOf i).toNat)
          case atStart => exact ⟨0, _, Nat.zero_le _, rfl, HUj, fun i hi => absurd hi (by omega), HBj', Tch.refl _ _⟩
          case round =>
            obtain ⟨k, P, hk, rfl, HUk, HAt, HBk, HTk⟩ := hrel
            have e0 := HTk.out.cell d0 (by omega)
            have e1 := HTk.out.cell d1 (by omega)
            by_cases hlt : k < N
            · have hkl : (k : Int) < (N : Int) := by omega
              have hlb1 : lb ≠ x + 1 := by omega
              go_wp2
              refine wp_region_held_drew (S := (fun w' : World => w'.cell? ⟨lb, 0, none⟩ = some (.slice (some ⟨x + 1, 0, none⟩) N N))) (by kernel_rfl) e0 (fun hHeld => ?_)
              refine wpAnyH_take (i := 0) (v := ?_) rfl (by kernel_rfl) (by kernel_rfl) (by kernel_rfl) (fun _ _ _ h => h) (Or.inl ⟨by rfl, ?_⟩) (by assumption) ?_
              rotate_left
              · intro w hSw; (try dsimp only at hSw); go_simp; (try with_reducible rfl)
              try simp only [Act.put, List.setIfInBounds_toArray]
              refine wpAnyH_take (i := 1) (v := ?_) rfl (by kernel_rfl) (by kernel_rfl) (by kernel_rfl) (fun _ _ _ h => h) (Or.inl ⟨by rfl, ?_⟩) (by assumption) ?_
              rotate_left
              · intro w hSw; (try dsimp only at hSw); go_simp; (try with_reducible rfl)
              try simp only [Act.put]
              refine wpAnyH_take (i := 2) (v := ?_) rfl (by kernel_rfl) (by kernel_rfl) (by kernel_rfl) (fun _ _ _ h => h) (Or.inl ⟨by rfl, ?_⟩) (by assumption) ?_
              rotate_left
              · intro w hSw; (try dsimp only at hSw); go_simp; (try with_reducible rfl)
              try simp only [Act.put]
              refine wpAnyH_take (i := 3) (v := ?_) rfl (by kernel_rfl) (by kernel_rfl) (by kernel_rfl) (fun _ _ _ h => h) (Or.inl ⟨by rfl, ?_⟩) (by assumption) ?_
              rotate_left
              · intro w hSw; (try dsimp only at hSw); go_simp; (try with_reducible rfl)
              try simp only [Act.put]
              try simp only [List.getElem_toArray, List.getElem_cons_zero, List.getElem_cons_succ, List.setIfInBounds_toArray, List.set_cons_zero, List.set_cons_succ]
              refine wpAnyH_ready (rs := [4]) (by kernel_rfl) (by simp) ?_
              refine AllReadyH.cons rfl (fun K hK => ?_) AllReadyH.nil
              go_simp
              refine (find_any L N L.length P R HUk.out k hlt lb (x + 1) (by omega) wr.drew e0 HBk.out).mono ?_
              rintro e w10 ⟨rfl, P10, hU10, -, hs10, hB10, hT10⟩
              refine hK.out _ _ (hT10.cell hHeld hlb1) (fun hHeld10 => ?_)
              have HT11 : Hid (Tch (x + 1) w9 (w10.setCell ⟨x + 1, k, none⟩ (.int .i64 (R k : Int)))) := (HTk.out.drew.trans hT10).set k _
              have HB11 : Hid (Blk 3 (w10.setCell ⟨x + 1, k, none⟩ (.int .i64 (R k : Int))) (x + 1) (natsV (P10.set k (R k)))) := by
                have h1 := hB10.set k (.int .i64 (R k : Int))
                rw [← natsV_set] at h1
                exact h1
              have HU11 : Hid _ := hU10.flat hlt
              have hkP : k < P10.length := by rw [hU10.len]; exact hlt
              have t0 : w10.cell? ⟨x + 1, k, none⟩ = some (.int .i64 (pf P10 k : Int)) := hB10.cell (natsV_at hkP)
              have f0 := hB10.frozen k
              have HAt11 : Hid (∀ i, i < k + 1 → pf (P10.set k (R k)) i = R i) := fun i hi => by
                rw [pf_set hkP]
                split
                · next e => rw [e]
                · exact hs10 i (by omega) (HAt.out i (by omega))
              clear hK K hHeld hU10 hs10 hB10 hT10 HUk HAt HBk HTk hkP e0
              try simp only [Act.put, List.setIfInBounds_toArray, List.set_cons_zero, List.set_cons_succ]
              refine wpAnyH_take (i := 5) (v := ?_) rfl (by kernel_rfl) (by kernel_rfl) (by kernel_rfl) (fun _ _ _ h => h) (Or.inl ⟨by rfl, ?_⟩) (by assumption) ?_
              rotate_left
              · intro w hSw; (try dsimp only at hSw); go_simp; (try with_reducible rfl)
              try simp only [Act.put]
              refine wpAnyH_ready (rs := [6]) (by kernel_rfl) (by simp) ?_
              refine AllReadyH.cons rfl (fun K hK => ?_) AllReadyH.nil
              go_simp
              refine hK.out _ _ ?_ (fun hHeld => ?_)
              · (try dsimp only); first | (go_keep; done) | ((repeat' apply And.intro) <;> go_simp)
              clear hK K
              try simp only [List.setIfInBounds_toArray, List.set_cons_zero, List.set_cons_succ]
              refine wpAnyH_done (by kernel_rfl) ?_ _
              go_wp2
              exact ⟨⟨k + 1, _, by omega, by go_num, HU11, HAt11, HB11, HT11⟩, by simp [intOf]; omega⟩
            · obtain rfl : N = k := by omega
              have HLst : Hid (P = leadL N R) := leadL_of HUk.out.len HAt.out
              have HBf : Hid (Blk 3 wr (x + 1) (natsV (leadL N R))) := by
                have := HBk.out
                rw [HLst.out] at this
                exact this
              have HBe : Hid (Below w.heap.size w wr) := by rw [hx]; exact HTk.out.below Hbr.out (by omega) (by have := Hbr.out.size; omega)
              go_wp2
              go_ret
              exact ⟨x + 1, R, rfl, HL.out, HBf.out, HBe.out, by omega⟩
end Go.Proofs.YthdhimcaojfcnaaGreat
