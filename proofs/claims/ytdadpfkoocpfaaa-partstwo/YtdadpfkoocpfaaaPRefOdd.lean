/-
  The reference's Odd tells a closed way of an odd number of edges.
-/
import Derived.Deep.RegionHeld3
import Derived.Test.YtdadpfkoocpfaaaPAround
import Derived.Test.YtdadpfkoocpfaaaPRefFind
import Derived.Test.YtdadpfkoocpfaaaPHas
namespace Go.Proofs.Ytdadpfkoocpfaaa
open Go Go.Proofs Go.RowKit

theorem adj_find {N : Nat} {l : List Ed} (hR : RightG (N : Int) l) {x y : Nat} (h : Adj l x y) : 0 ≤ findP l (x : Int) (y : Int) := by
  obtain ⟨e, he, h⟩ := h
  have hok := (hR.each e he).1
  unfold okE at hok
  have hb : endsB (x : Int) (y : Int) e = true := by
    unfold endsB
    rcases h with ⟨h1, h2⟩ | ⟨h1, h2⟩
    · have a1 : e.1 = (x : Int) := by omega
      have a2 : e.2.1 = (y : Int) := by omega
      simp [a1, a2]
    · have a1 : e.1 = (y : Int) := by omega
      have a2 : e.2.1 = (x : Int) := by omega
      simp [a1, a2]
  unfold findP
  cases hf : l.findIdx? (endsB (x : Int) (y : Int)) with
  | some i => simp
  | none =>
    have := List.findIdx?_eq_none_iff.1 hf e he
    rw [hb] at this
    cases this

set_option maxRecDepth 100000 in
set_option maxHeartbeats 4000000 in
theorem refOdd_true (N : Nat) (l : List Ed) (hR : RightG (N : Int) l) (X : List Nat) (hX : OddW N l X) (hfew : X.length ≤ 1048576) (sv lv : Value) (w : World) (hl : Edges w.heap.size w sv l) (hI : Ints w.heap.size w lv (wayL X)) :
    Calls Try.prog 23 #[.agg #[.int .i64 (N : Int), sv], lv] w fun r w' => r = .returned (.bool true) ∧ Below w.heap.size w w' := by
  have hmix := mixed
  have hm1 := hR.m1
  have hb1 : Below w.heap.size w (w.alloc (.cells #[.int .i64 (N : Int), sv] 24)) := (Below.refl _ _).alloc (Nat.le_refl _) _
  obtain ⟨p, c, rfl⟩ := hl.len
  have hwl : (wayL X).length = X.length := by simp [wayL]
  have h3 := hX.three
  have hodd := hX.odd
  obtain ⟨b, off, cap, rfl, hbb, hcap, hcell⟩ : ∃ b off cap, lv = .slice (some ⟨b, off, none⟩) X.length cap ∧ b < w.heap.size ∧ X.length ≤ cap ∧ ∀ (j x : Nat), X[j]? = some x → w.cell? ⟨b, off + j, none⟩ = some (.int .i64 (x : Int)) := by
    rcases hI with ⟨_, h0⟩ | ⟨b, off, cap, e, hb, hc, hcl⟩
    · have := congrArg List.length h0
      rw [hwl, List.length_nil] at this
      omega
    · rw [hwl] at e hc
      exact ⟨b, off, cap, e, hb, hc, fun j x hx => hcl j (x : Int) (by unfold wayL; rw [List.getElem?_map, hx]; rfl)⟩
  have q0 : (w.alloc (.cells #[.int .i64 (N : Int), .slice p l.length c] 24)).cell? ⟨w.heap.size, 0, none⟩ = some (.int .i64 (N : Int)) := new_cell rfl rfl
  have q1 : (w.alloc (.cells #[.int .i64 (N : Int), .slice p l.length c] 24)).cell? ⟨w.heap.size, 1, none⟩ = some (.slice p l.length c) := new_cell rfl rfl
  have hw1 : ¬ ((X.length : Int) < 3) := by omega
  have hXn : ¬ X = [] := fun e => by rw [e] at h3; simp at h3
  have hcap0 : cap ≠ 0 := by omega
  have htm : Int.tmod (X.length : Int) 2 = 1 := by rw [Int.tmod_eq_emod_of_nonneg (by omega)]; omega
  have HX : Hid _ := hX
  have HR : Hid _ := hR
  have HL : Hid (Edges w.heap.size w (.slice p l.length c) l) := hl
  have HC : Hid _ := hcell
  clear hX hR hl hI hcell hwl hodd
  go_enter Try.func23, Try.ntmps23
  go_wp2
  go_loopw [5] (fun iv wr => ∃ i : Nat, i ≤ X.length ∧ iv = .int .i64 i ∧ Below (w.heap.size + 1) (w.alloc (.cells #[.int .i64 (N : Int), .slice p l.length c] 24)) wr) (fun i _ => X.length - (intOf i).toNat)
  case atStart => exact ⟨0, Nat.zero_le _, rfl, Below.refl _ _⟩
  case round =>
    obtain ⟨i, hil, rfl, hb⟩ := hrel
    have hbw : Below w.heap.size w wr := hb1.trans (hb.mono (by omega))
    by_cases hlt : i < X.length
    · obtain ⟨x, hx⟩ : ∃ x, X[i]? = some x := ⟨_, List.getElem?_eq_getElem hlt⟩
      obtain ⟨y, hy⟩ : ∃ y, X[(i + 1) % X.length]? = some y := ⟨_, List.getElem?_eq_getElem (Nat.mod_lt _ (by omega))⟩
      have hfd := adj_find HR.out (HX.out.join i x y hx hy)
      have c0 := (hbw.cell (p := ⟨b, off + i, none⟩) hbb).trans (HC.out i x hx)
      have c1 := (hbw.cell (p := ⟨b, off + (i + 1) % X.length, none⟩) hbb).trans (HC.out _ y hy)
      have b0 := (hb.cell (p := ⟨w.heap.size, 0, none⟩) (Nat.lt_succ_self _)).trans q0
      have b1 := (hb.cell (p := ⟨w.heap.size, 1, none⟩) (Nat.lt_succ_self _)).trans q1
      have hil' : (i : Int) < (X.length : Int) := by omega
      have hsum : IntKind.i64.wrap ((i : Int) + 1) = (i : Int) + 1 := wrap_i _ (by omega) (by omega)
      have hrem : Int.tmod ((i : Int) + 1) (X.length : Int) = (((i + 1) % X.length : Nat) : Int) := by rw [Int.tmod_eq_emod_of_nonneg (by omega)]; simp
      have hmlt : (i + 1) % X.length < X.length := Nat.mod_lt _ (by omega)
      have hln0 : ¬ (X.length : Int) = 0 := by omega
      have HNo : Hid (inB ((wayL X).take i) (x : Int) = false) := by
        rw [Hid, inB_false]
        intro hm
        obtain ⟨k, hk, e⟩ := List.mem_take_iff_getElem.1 hm
        have hkX : k < X.length := by simp [wayL] at hk; omega
        have e2 : X[k]? = some x := by
          rw [List.getElem?_eq_getElem hkX]
          have : ((X[k] : Nat) : Int) = (x : Int) := by simpa [wayL] using e
          congr 1
          omega
        have := HX.out.once k i x e2 hx
        simp [wayL] at hk
        omega
      clear hx hy
      go_wp2
      generalize (i + 1) % X.length = i1 at *
      refine wp_region_held_drew (S := (fun w' : World => w'.cell? ⟨w.heap.size, 0, none⟩ = some (.int .i64 (N : Int)) ∧ w'.cell? ⟨w.heap.size, 1, none⟩ = some (.slice p l.length c) ∧ w'.cell? ⟨b, off + i, none⟩ = some (.int .i64 (x : Int)) ∧ w'.cell? ⟨b, off + i1, none⟩ = some (.int .i64 (y : Int)))) (by kernel_rfl) ?_ (fun hHeld => ?_)
      · (try dsimp only); go_keep
      refine wpAnyH_take (i := 0) (v := ?_) rfl (by kernel_rfl) (by kernel_rfl) (by kernel_rfl) (fun _ _ _ h => h) (Or.inl ⟨by rfl, ?_⟩) (by assumption) ?_
      rotate_left
      · intro w hSw; (try dsimp only at hSw); go_simp; (try with_reducible rfl)
      try simp only [Act.put, List.setIfInBounds_toArray]
      refine wpAnyH_take (i := 1) (v := ?_) rfl (by kernel_rfl) (by kernel_rfl) (by kernel_rfl) (fun _ _ _ h => h) (Or.inl ⟨by rfl, ?_⟩) (by assumption) ?_
      rotate_left
      · intro w hSw; (try dsimp only at hSw); go_simp; (try with_reducible rfl)
      try simp only [Act.put]
      refine wpAnyH_take (i := 2) (v := ?_) rfl (by kernel_rfl) (by kernel_rfl) (by kernel_rfl) (fun _ _ _ h => h) (Or.inl ⟨by rfl, ?_⟩) (by assumption) ?_
      rotate_left
      · intro w hSw; (try dsimp only at hSw); go_simp; (try with_reducible rfl)
      try simp only [Act.put]
      refine wpAnyH_take (i := 3) (v := ?_) rfl (by kernel_rfl) (by kernel_rfl) (by kernel_rfl) (fun _ _ _ h => h) (Or.inl ⟨by rfl, ?_⟩) (by assumption) ?_
      rotate_left
      · intro w hSw; (try dsimp only at hSw); go_simp; (try with_reducible rfl)
      try simp only [Act.put]
      refine wpAnyH_take (i := 4) (v := ?_) rfl (by kernel_rfl) (by kernel_rfl) (by kernel_rfl) (fun _ _ _ h => h) (Or.inl ⟨by rfl, ?_⟩) (by assumption) ?_
      rotate_left
      · intro w hSw; (try dsimp only at hSw); go_simp; (try with_reducible rfl)
      try simp only [Act.put]
      refine wpAnyH_take (i := 5) (v := ?_) rfl (by kernel_rfl) (by kernel_rfl) (by kernel_rfl) (fun _ _ _ h => h) (Or.inl ⟨by rfl, ?_⟩) (by assumption) ?_
      rotate_left
      · intro w hSw; (try dsimp only at hSw); go_simp; (try with_reducible rfl)
      try simp only [Act.put]
      refine wpAnyH_take (i := 6) (v := ?_) rfl (by kernel_rfl) (by kernel_rfl) (by kernel_rfl) (fun _ _ _ h => h) (Or.inl ⟨by rfl, ?_⟩) (by assumption) ?_
      rotate_left
      · intro w hSw; (try dsimp only at hSw); go_simp; (try with_reducible rfl)
      try simp only [Act.put]
      refine wpAnyH_take (i := 7) (v := ?_) rfl (by kernel_rfl) (by kernel_rfl) (by kernel_rfl) (fun _ _ _ h => h) (Or.inl ⟨by rfl, ?_⟩) (by assumption) ?_
      rotate_left
      · intro w hSw; (try dsimp only at hSw); go_simp; (try with_reducible rfl)
      try simp only [Act.put]
      refine wpAnyH_take (i := 8) (v := ?_) rfl (by kernel_rfl) (by kernel_rfl) (by kernel_rfl) (fun _ _ _ h => h) (Or.inl ⟨by rfl, ?_⟩) (by assumption) ?_
      rotate_left
      · intro w hSw; (try dsimp only at hSw); go_simp; (try with_reducible rfl)
      try simp only [Act.put]
      refine wpAnyH_take (i := 9) (v := ?_) rfl (by kernel_rfl) (by kernel_rfl) (by kernel_rfl) (fun _ _ _ h => h) (Or.inl ⟨by rfl, ?_⟩) (by assumption) ?_
      rotate_left
      · intro w hSw; (try dsimp only at hSw); go_simp; (try with_reducible rfl)
      try simp only [Act.put]
      refine wpAnyH_take (i := 10) (v := ?_) rfl (by kernel_rfl) (by kernel_rfl) (by kernel_rfl) (fun _ _ _ h => h) (Or.inl ⟨by rfl, ?_⟩) (by assumption) ?_
      rotate_left
      · intro w hSw; (try dsimp only at hSw); go_simp; (try with_reducible rfl)
      try simp only [Act.put]
      refine wpAnyH_take (i := 11) (v := ?_) rfl (by kernel_rfl) (by kernel_rfl) (by kernel_rfl) (fun _ _ _ h => h) (Or.inl ⟨by rfl, ?_⟩) (by assumption) ?_
      rotate_left
      · intro w hSw; (try dsimp only at hSw); go_simp; (try with_reducible rfl)
      try simp only [Act.put]
      refine wpAnyH_take (i := 12) (v := ?_) rfl (by kernel_rfl) (by kernel_rfl) (by kernel_rfl) (fun _ _ _ h => h) (Or.inl ⟨by rfl, ?_⟩) (by assumption) ?_
      rotate_left
      · intro w hSw; (try dsimp only at hSw); go_simp; (try with_reducible rfl)
      try simp only [Act.put]
      refine wpAnyH_ready (rs := [13]) (by kernel_rfl) (by simp) ?_
      refine AllReadyH.cons rfl (fun K hK => ?_) AllReadyH.nil
      go_simp
      have hbD : Below w.heap.size w wr.drew := below_drewN hbw 1
      refine (refFind_any (N : Int) l hm1 (x : Int) (y : Int) _ _ (Edges.go HL.out hbD)).mono ?_
      rintro e w4 ⟨rfl, hg4⟩
      have hb4 : Below wr.heap.size wr w4 := (below_drewN (Below.refl wr.heap.size wr) 1).trans hg4.below
      refine hK.out _ _ ⟨cell_keepK hb4 b0, cell_keepK hb4 b1, cell_keepK hb4 c0, cell_keepK hb4 c1⟩ (fun hHeld4 => ?_)
      clear hK K hHeld
      have hbw4 := hbw.trans (hb4.mono hbw.size)
      have HB4 : Hid (Below (w.heap.size + 1) (w.alloc (.cells #[.int .i64 (N : Int), .slice p l.length c] 24)) w4) := hb.trans (hb4.mono (by have := hb.size; simp at this; omega))
      have hng : ¬ findP l (x : Int) (y : Int) < 0 := by omega
      clear hg4 hb4 hb
      generalize findP l (x : Int) (y : Int) = fp at *
      have hic : (i : Int) ≤ (cap : Int) := by omega
      try simp only [Act.put, List.setIfInBounds_toArray, List.set_cons_zero, List.set_cons_succ]
      refine wpAnyH_take (i := 14) (v := ?_) rfl (by kernel_rfl) (by kernel_rfl) (by kernel_rfl) (fun _ _ _ h => h) (Or.inl ⟨by rfl, ?_⟩) (by assumption) ?_
      rotate_left
      · intro w hSw; (try dsimp only at hSw); go_simp; (try with_reducible rfl)
      try simp only [Act.put]
      simp only [List.getElem_toArray, List.getElem_cons_zero, List.getElem_cons_succ, List.setIfInBounds_toArray, List.set_cons_zero, List.set_cons_succ]
      refine wpAnyH_take (i := 15) (v := ?_) rfl (by kernel_rfl) (by kernel_rfl) (by kernel_rfl) (fun _ _ _ h => h) (Or.inl ⟨by rfl, ?_⟩) (by assumption) ?_
      rotate_left
      · intro w hSw; (try dsimp only at hSw); go_simp; (try with_reducible rfl)
      try simp only [Act.put]
      simp only [List.getElem_toArray, List.getElem_cons_zero, List.getElem_cons_succ, List.setIfInBounds_toArray, List.set_cons_zero, List.set_cons_succ]
      refine wpAnyH_take (i := 16) (v := ?_) rfl (by kernel_rfl) (by kernel_rfl) (by kernel_rfl) (fun _ _ _ h => h) (Or.inl ⟨by simp [Region.wanted, yielded], ?_⟩) (by assumption) ?_
      rotate_left
      · intro w hSw; (try dsimp only at hSw); go_simp; (try with_reducible rfl)
      try simp only [Act.put]
      simp only [List.getElem_toArray, List.getElem_cons_zero, List.getElem_cons_succ, List.setIfInBounds_toArray, List.set_cons_zero, List.set_cons_succ]
      refine wpAnyH_take (i := 17) (v := ?_) rfl (by kernel_rfl) (by kernel_rfl) (by kernel_rfl) (fun _ _ _ h => h) (Or.inl ⟨by simp [Region.wanted, yielded], ?_⟩) (by assumption) ?_
      rotate_left
      · intro w hSw; (try dsimp only at hSw); go_simp; (try with_reducible rfl)
      try simp only [Act.put]
      simp only [List.getElem_toArray, List.getElem_cons_zero, List.getElem_cons_succ, List.setIfInBounds_toArray, List.set_cons_zero, List.set_cons_succ]
      refine wpAnyH_take (i := 18) (v := ?_) rfl (by kernel_rfl) (by kernel_rfl) (by kernel_rfl) (fun _ _ _ h => h) (Or.inl ⟨by simp [Region.wanted, yielded], ?_⟩) (by assumption) ?_
      rotate_left
      · intro w hSw; (try dsimp only at hSw); go_simp; (try with_reducible rfl)
      try simp only [Act.put]
      simp only [List.getElem_toArray, List.getElem_cons_zero, List.getElem_cons_succ, List.setIfInBounds_toArray, List.set_cons_zero, List.set_cons_succ]
      refine wpAnyH_take (i := 19) (v := ?_) rfl (by kernel_rfl) (by kernel_rfl) (by kernel_rfl) (fun _ _ _ h => h) (Or.inl ⟨by simp [Region.wanted, yielded], ?_⟩) (by assumption) ?_
      rotate_left
      · intro w hSw; (try dsimp only at hSw); go_simp; (try with_reducible rfl)
      try simp only [Act.put]
      simp only [List.getElem_toArray, List.getElem_cons_zero, List.getElem_cons_succ, List.setIfInBounds_toArray, List.set_cons_zero, List.set_cons_succ]
      refine wpAnyH_take (i := 20) (v := ?_) rfl (by kernel_rfl) (by kernel_rfl) (by kernel_rfl) (fun _ _ _ h => h) (Or.inl ⟨by simp [Region.wanted, yielded], ?_⟩) (by assumption) ?_
      rotate_left
      · intro w hSw; (try dsimp only at hSw); go_simp; (try with_reducible rfl)
      try simp only [Act.put]
      simp only [List.getElem_toArray, List.getElem_cons_zero, List.getElem_cons_succ, List.setIfInBounds_toArray, List.set_cons_zero, List.set_cons_succ]
      refine wpAnyH_take (i := 21) (v := ?_) rfl (by kernel_rfl) (by kernel_rfl) (by kernel_rfl) (fun _ _ _ h => h) (Or.inl ⟨by simp [Region.wanted, yielded], ?_⟩) (by assumption) ?_
      rotate_left
      · intro w hSw; (try dsimp only at hSw); go_simp; (try with_reducible rfl)
      try simp only [Act.put]
      simp only [List.getElem_toArray, List.getElem_cons_zero, List.getElem_cons_succ, List.setIfInBounds_toArray, List.set_cons_zero, List.set_cons_succ]
      refine wpAnyH_take (i := 22) (v := ?_) rfl (by kernel_rfl) (by kernel_rfl) (by kernel_rfl) (fun _ _ _ h => h) (Or.inl ⟨by simp [Region.wanted, yielded], ?_⟩) (by assumption) ?_
      rotate_left
      · intro w hSw; (try dsimp only at hSw); go_simp; (try with_reducible rfl)
      try simp only [Act.put]
      simp only [List.getElem_toArray, List.getElem_cons_zero, List.getElem_cons_succ, List.setIfInBounds_toArray, List.set_cons_zero, List.set_cons_succ]
      refine wpAnyH_ready (rs := [23]) (by kernel_rfl) (by simp) ?_
      refine AllReadyH.cons rfl (fun K hK => ?_) AllReadyH.nil
      go_simp
      have hIn : Ints w4.heap.size w4 (.slice (some ⟨b, off, none⟩) i cap) ((wayL X).take i) := by
        have hli : ((wayL X).take i).length = i := by rw [List.length_take]; simp [wayL]; omega
        refine .inr ⟨b, off, cap, by rw [hli], by have := hbw4.size; omega, by rw [hli]; omega, fun k z hz => ?_⟩
        have hk := (List.getElem?_eq_some_iff.1 hz).1
        rw [hli] at hk
        rw [List.getElem?_take_of_lt hk] at hz
        unfold wayL at hz
        rw [List.getElem?_map] at hz
        cases hq : X[k]? with
        | none => rw [hq] at hz; cases hz
        | some q =>
          rw [hq] at hz
          have hzq : (q : Int) = z := by simpa using hz
          rw [← hzq]
          exact (hbw4.cell (p := ⟨b, off + k, none⟩) hbb).trans (HC.out k q hq)
      have hha := has_any ((wayL X).take i) (by rw [List.length_take]; omega) (x : Int) _ _ _ hIn
      rw [HNo.out] at hha
      refine hha.mono ?_
      rintro e w5 ⟨rfl, rfl⟩
      refine hK.out _ _ hHeld4 (fun _ => ?_)
      clear hK K hha hIn
      try simp only [Act.put, List.setIfInBounds_toArray, List.set_cons_zero, List.set_cons_succ]
      refine wpAnyH_ready (rs := [24]) (by kernel_rfl) (by simp) ?_
      refine AllReadyH.cons rfl (fun K hK => ?_) AllReadyH.nil
      go_simp
      refine hK.out _ _ ?_ (fun hHeld => ?_)
      · (try dsimp only); first | (go_keep; done) | ((repeat' apply And.intro) <;> go_simp)
      clear hK K
      try simp only [List.setIfInBounds_toArray, List.set_cons_zero, List.set_cons_succ]
      refine wpAnyH_done (by kernel_rfl) ?_ _
      have hlt2 := hlt
      clear hHeld4 c0 c1 b0 b1
      go_wp2
      exact ⟨⟨i + 1, by omega, by go_num, HB4.out⟩, by simp [intOf]; omega⟩
    · obtain rfl : i = X.length := by omega
      have hil' : ¬ (X.length : Int) < (X.length : Int) := by omega
      go_wp2
      go_ret
      exact ⟨rfl, hbw⟩
end Go.Proofs.Ytdadpfkoocpfaaa
