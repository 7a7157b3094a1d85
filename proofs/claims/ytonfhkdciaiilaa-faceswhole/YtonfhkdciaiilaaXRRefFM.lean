/-
  The faces as the reference goes for them: one start behind the other; what the rounds are together. No program in this text.
-/
import Derived.Test.YtonfhkdciaiilaaQI
namespace Go.Proofs.Ytonfhkdciaiilaa
open Go Go.Proofs

/-- One start more. -/
def stepF (nx : Dt → Dt) (fuel : Nat) (s : List (List Dt) × List Dt) (d : Dt) : List (List Dt) × List Dt := if s.2.contains d then s else (s.1 ++ [orb nx d fuel d], s.2 ++ orb nx d fuel d)
def foldF (nx : Dt → Dt) (fuel : Nat) (starts : List Dt) : List (List Dt) × List Dt := starts.foldl (stepF nx fuel) ([], [])
theorem foldF_snoc (nx : Dt → Dt) (fuel : Nat) (starts : List Dt) (d : Dt) : foldF nx fuel (starts ++ [d]) = stepF nx fuel (foldF nx fuel starts) d := by
  unfold foldF
  rw [List.foldl_append]
  rfl
theorem rounds_fold (nx : Dt → Dt) (fuel : Nat) (starts : List Dt) : ∀ {j : Nat}, j ≤ starts.length → roundsAt nx fuel starts j = foldF nx fuel (starts.take j)
  | 0, _ => rfl
  | j + 1, h => by
    have hj : j < starts.length := by omega
    have e : starts.getD j (0, 0) = starts[j] := by rw [List.getD_eq_getElem?_getD, List.getElem?_eq_getElem hj]; rfl
    rw [roundsAt, e, rounds_fold nx fuel starts (by omega : j ≤ starts.length), List.take_add_one, List.getElem?_eq_getElem hj]
    show _ = foldF nx fuel (starts.take j ++ [starts[j]])
    rw [foldF_snoc]
    rfl
theorem orb_len (nx : Dt → Dt) (d : Dt) : ∀ (k : Nat) (x : Dt), (orb nx d k x).length ≤ k
  | 0, _ => by simp [orb]
  | k + 1, x => by
    rw [orb]
    split
    · simp
    · have := orb_len nx d k (nx x)
      simp
      omega
theorem foldF_few (nx : Dt → Dt) (fuel : Nat) (starts : List Dt) : (foldF nx fuel starts).1.length ≤ starts.length ∧ (foldF nx fuel starts).2.length ≤ starts.length * fuel := by
  have aux : ∀ (L : List Dt) (s : List (List Dt) × List Dt), (L.foldl (stepF nx fuel) s).1.length ≤ s.1.length + L.length ∧ (L.foldl (stepF nx fuel) s).2.length ≤ s.2.length + L.length * fuel := by
    intro L
    induction L with
    | nil => intro s; simp
    | cons d L ih =>
      intro s
      rw [List.foldl_cons]
      have h1 := ih (stepF nx fuel s d)
      have h2 : (stepF nx fuel s d).1.length ≤ s.1.length + 1 ∧ (stepF nx fuel s d).2.length ≤ s.2.length + fuel := by
        unfold stepF
        split
        · exact ⟨by omega, by omega⟩
        · have := orb_len nx d fuel d
          simp
          omega
      rw [List.length_cons, Nat.succ_mul]
      omega
  have := aux starts ([], [])
  unfold foldF
  simpa using this
theorem dartsL_next (l : List Ed) (j : Nat) : dartsL (j + 1) l = dartsL j l ++ (nb l (j : Int)).map fun v => ((j : Int), v) := by
  unfold dartsL
  rw [List.range_succ, List.flatMap_append]
  simp
theorem Going.any2 {nx : Dt → Dt} {S starts : List Dt} {F : Nat} {left : List Dt} {d : Dt} {j : Nat} (h : Going nx S starts F left [] d j) (d' : Dt) : Going nx S starts F left [] d' j := ⟨h.shut, h.nodup, h.all, h.len, fun e => absurd rfl e⟩
section
variable {N : Nat} {l : List Ed} {r : List (List Int)}
/-- The starts ahead of a pair. -/
def stsAt (l : List Ed) (u v : Nat) : List Dt := dartsL u l ++ ((nb l (u : Int)).filter fun x => decide (x < (v : Int))).map fun x => ((u : Int), x)
theorem stsAt_zero (hR : RightG (N : Int) l) (u : Nat) : stsAt l u 0 = dartsL u l := by
  unfold stsAt
  have : (nb l (u : Int)).filter (fun x => decide (x < ((0 : Nat) : Int))) = [] := by
    rw [List.filter_eq_nil_iff]
    intro x hx
    have := (nb_mutual hR hx).2.1
    simp
    omega
  rw [this]
  simp
theorem stsAt_full (hR : RightG (N : Int) l) (u : Nat) : stsAt l u N = dartsL (u + 1) l := by
  unfold stsAt
  have : (nb l (u : Int)).filter (fun x => decide (x < (N : Int))) = nb l (u : Int) := by
    rw [List.filter_eq_self]
    intro x hx
    have := (nb_mutual hR hx).2.2.1
    simp
    omega
  rw [this, dartsL_next]
theorem filter_lt_mem : ∀ {L : List Int}, L.Pairwise (· < ·) → ∀ {v : Nat}, (v : Int) ∈ L → L.filter (fun x => decide (x < ((v + 1 : Nat) : Int))) = L.filter (fun x => decide (x < (v : Int))) ++ [(v : Int)]
  | [], _, v, h => by simp at h
  | a :: L, hp, v, h => by
    rw [List.pairwise_cons] at hp
    rcases List.mem_cons.1 h with e | h
    · have h1 : L.filter (fun x => decide (x < ((v + 1 : Nat) : Int))) = [] := by
        rw [List.filter_eq_nil_iff]
        intro x hx
        have := hp.1 x hx
        simp
        omega
      have h2 : L.filter (fun x => decide (x < (v : Int))) = [] := by
        rw [List.filter_eq_nil_iff]
        intro x hx
        have := hp.1 x hx
        simp
        omega
      rw [List.filter_cons_of_pos (by simp; omega), List.filter_cons_of_neg (by simp; omega), h1, h2, ← e]
      rfl
    · have := hp.1 _ h
      rw [List.filter_cons_of_pos (by simp; omega), List.filter_cons_of_pos (by simp; omega), filter_lt_mem hp.2 h]
      rfl
theorem filter_lt_not {L : List Int} {v : Nat} (h : (v : Int) ∉ L) : L.filter (fun x => decide (x < ((v + 1 : Nat) : Int))) = L.filter (fun x => decide (x < (v : Int))) := by
  refine List.filter_congr fun x hx => ?_
  have : x ≠ (v : Int) := fun e => h (by rw [← e]; exact hx)
  by_cases h1 : x < (v : Int)
  · rw [decide_eq_true h1, decide_eq_true (by omega)]
  · rw [decide_eq_false h1, decide_eq_false (by omega)]
theorem stsAt_mem (hR : RightG (N : Int) l) {u v : Nat} (h : (v : Int) ∈ nb l (u : Int)) : stsAt l u (v + 1) = stsAt l u v ++ [((u : Int), (v : Int))] := by
  unfold stsAt
  rw [filter_lt_mem (nb_rise hR _) h, List.map_append, List.append_assoc]
  rfl
theorem stsAt_not {u v : Nat} (h : (v : Int) ∉ nb l (u : Int)) : stsAt l u (v + 1) = stsAt l u v := by
  unfold stsAt
  rw [filter_lt_not h]
/-- The faces so far, and what was met. -/
def stF (l : List Ed) (r : List (List Int)) (u v : Nat) : List (List Dt) × List Dt := foldF (nxD r) (2 * l.length + 1) (stsAt l u v)
theorem stF_zero (hR : RightG (N : Int) l) (r : List (List Int)) : stF l r 0 0 = ([], []) := by
  unfold stF
  rw [stsAt_zero hR]
  rfl
theorem stF_full (hR : RightG (N : Int) l) (r : List (List Int)) (u : Nat) : stF l r u N = stF l r (u + 1) 0 := by
  unfold stF
  rw [stsAt_zero hR, stsAt_full hR]
theorem stF_mem (hR : RightG (N : Int) l) {u v : Nat} (h : (v : Int) ∈ nb l (u : Int)) : stF l r u (v + 1) = stepF (nxD r) (2 * l.length + 1) (stF l r u v) ((u : Int), (v : Int)) := by
  unfold stF
  rw [stsAt_mem hR h, foldF_snoc]
theorem stF_not {u v : Nat} (h : (v : Int) ∉ nb l (u : Int)) : stF l r u (v + 1) = stF l r u v := by
  unfold stF
  rw [stsAt_not h]
theorem dartsL_deg (l : List Ed) : ∀ j, (dartsL j l).length = degS l j
  | 0 => by simp [dartsL, degS]
  | j + 1 => by
    rw [dartsL_next, List.length_append, List.length_map, dartsL_deg l j]
    rfl
theorem dartsL_two (hR : RightG (N : Int) l) : (dartsL N l).length = 2 * l.length := by rw [dartsL_deg]; exact degS_all (fun e he => (hR.each e he).1)
theorem stsAt_few (hR : RightG (N : Int) l) {u v : Nat} (hu : u ≤ N) : (stsAt l u v).length ≤ 3 * l.length := by
  unfold stsAt
  rw [List.length_append, List.length_map, dartsL_deg]
  have h1 := degS_le (l := l) hu
  have h2 : degS l N = 2 * l.length := degS_all (fun e he => (hR.each e he).1)
  have h3 := List.length_filter_le (fun x => decide (x < (v : Int))) (nb l (u : Int))
  have h4 := nb_len (u : Int) l
  omega
theorem stF_few (hR : RightG (N : Int) l) (r : List (List Int)) {u v : Nat} (hu : u ≤ N) : (stF l r u v).1.length ≤ 3 * l.length ∧ (stF l r u v).2.length ≤ 3 * l.length * (2 * l.length + 1) := by
  have h1 := stsAt_few hR (v := v) hu
  have h2 := foldF_few (nxD r) (2 * l.length + 1) (stsAt l u v)
  exact ⟨Nat.le_trans h2.1 h1, Nat.le_trans h2.2 (Nat.mul_le_mul_right _ h1)⟩
end
/-! All rounds together. -/
section
variable {nx : Dt → Dt} {S starts : List Dt} {fuel : Nat}
/-- A whole round. -/
def Rnd (nx : Dt → Dt) (f : List Dt) : Prop := f ≠ [] ∧ ∃ d, Way nx d d f
theorem going_round (hP : PermS nx S) {j : Nat} {left face : List Dt} {d : Dt} (h : Going nx S starts fuel left face d j) (hf : face ≠ []) (hd : d ∉ left) (hdS : d ∈ S) : ∃ d, Way nx d d face := by
  have hw := h.way hf
  have hnd := (List.nodup_append.1 h.nodup).2.1
  have hnf : face.Nodup := (List.nodup_append.1 hnd).1
  have hap : ∀ y ∈ face, y ∉ (roundsAt nx fuel starts j).2 := fun y hy hy' => (List.nodup_append.1 hnd).2.2 y hy y hy' rfl
  have hsub : ∀ y ∈ face, y ∈ S := fun y hy => (h.all y).2 (.inr (.inl hy))
  have hdm : d ∈ (roundsAt nx fuel starts j).2 ∨ d ∈ face := by
    rcases (h.all d).1 hdS with h1 | h1 | h1
    · exact absurd h1 hd
    · exact .inr h1
    · exact .inl h1
  have e := Way.round hP h.shut hf hw hsub hnf hap hdm
  rw [← e] at hw
  exact ⟨d, hw⟩
theorem going_step (hP : PermS nx S) (hfu : S.length ≤ fuel) {j : Nat} : ∀ (n : Nat) {left face : List Dt} {d : Dt}, left.length ≤ n → Going nx S starts fuel left face d j → d ∈ S → (face = [] → d = starts.getD j (0, 0)) → ∃ left', Going nx S starts fuel left' [] (0, 0) (j + 1) ∧ ∀ f ∈ (roundsAt nx fuel starts (j + 1)).1, f ∈ (roundsAt nx fuel starts j).1 ∨ Rnd nx f := by
  intro n
  induction n with
  | zero =>
    intro left face d hn hG hd h0
    have hl : left = [] := List.eq_nil_of_length_eq_zero (by omega)
    have hdl : d ∉ left := by rw [hl]; simp
    by_cases hf : face = []
    · subst hf
      obtain ⟨e1, e2⟩ := hG.skip hdl hd (h0 rfl) (0, 0)
      exact ⟨left, e2, fun f hm => .inl (by rw [e1] at hm; exact hm)⟩
    · obtain ⟨e1, e2⟩ := hG.done hP hf hdl hd hfu (0, 0)
      exact ⟨left, e2, fun f hm => by
        rw [e1] at hm
        rcases List.mem_append.1 hm with h1 | h1
        · exact .inl h1
        · rw [List.mem_singleton.1 h1]
          exact .inr ⟨hf, going_round hP hG hf hdl hd⟩⟩
  | succ n ih =>
    intro left face d hn hG hd h0
    by_cases hdl : d ∈ left
    · have h1 := hG.take hdl h0
      refine ih ?_ h1 (hP.mem d hd) (fun e => by simp at e)
      rw [List.length_erase_of_mem hdl]
      omega
    · by_cases hf : face = []
      · subst hf
        obtain ⟨e1, e2⟩ := hG.skip hdl hd (h0 rfl) (0, 0)
        exact ⟨left, e2, fun f hm => .inl (by rw [e1] at hm; exact hm)⟩
      · obtain ⟨e1, e2⟩ := hG.done hP hf hdl hd hfu (0, 0)
        exact ⟨left, e2, fun f hm => by
          rw [e1] at hm
          rcases List.mem_append.1 hm with h1 | h1
          · exact .inl h1
          · rw [List.mem_singleton.1 h1]
            exact .inr ⟨hf, going_round hP hG hf hdl hd⟩⟩
theorem going_all (hP : PermS nx S) (hn : S.Nodup) (hfu : S.length ≤ fuel) (hst : ∀ d ∈ starts, d ∈ S) : ∀ {j : Nat}, j ≤ starts.length → (∃ left, Going nx S starts fuel left [] (0, 0) j) ∧ ∀ f ∈ (roundsAt nx fuel starts j).1, Rnd nx f
  | 0, _ => ⟨⟨S, Going.start hn _ _ _⟩, fun f h => by simp [roundsAt] at h⟩
  | j + 1, h => by
    obtain ⟨⟨left, hG⟩, hr⟩ := going_all hP hn hfu hst (by omega : j ≤ starts.length)
    have hj : j < starts.length := by omega
    have hm : starts.getD j (0, 0) ∈ S := by
      rw [List.getD_eq_getElem?_getD, List.getElem?_eq_getElem hj]
      exact hst _ (List.getElem_mem hj)
    obtain ⟨left', hG', hr'⟩ := going_step hP hfu left.length (Nat.le_refl _) (hG.any2 (starts.getD j (0, 0))) hm (fun _ => rfl)
    exact ⟨⟨left', hG'⟩, fun f hf => (hr' f hf).elim (hr f) id⟩
theorem rounds_flat : ∀ j, (roundsAt nx fuel starts j).1.flatten = (roundsAt nx fuel starts j).2
  | 0 => rfl
  | j + 1 => by
    rw [roundsAt]
    split
    · exact rounds_flat j
    · simp [rounds_flat j]
theorem rounds_grow (j : Nat) : ∀ x ∈ (roundsAt nx fuel starts j).2, x ∈ (roundsAt nx fuel starts (j + 1)).2 := by
  intro x hx
  rw [roundsAt]
  split
  · exact hx
  · exact List.mem_append_left _ hx
theorem rounds_start (hf : 0 < fuel) (j : Nat) : starts.getD j (0, 0) ∈ (roundsAt nx fuel starts (j + 1)).2 := by
  rw [roundsAt]
  split
  · rename_i h
    simpa using h
  · refine List.mem_append_right _ ?_
    match fuel, hf with
    | k + 1, _ => rw [orb]; exact List.mem_cons_self ..
theorem rounds_starts (hf : 0 < fuel) : ∀ (k j : Nat), j < k → starts.getD j (0, 0) ∈ (roundsAt nx fuel starts k).2
  | k + 1, j, h => by
    by_cases e : j = k
    · subst e; exact rounds_start hf j
    · exact rounds_grow k _ (rounds_starts hf k j (by omega))
theorem way_at {d : Dt} : ∀ {x : Dt} {L : List Dt}, Way nx d x L → ∀ (j : Nat) (h : j + 1 < L.length), nx L[j] = L[j + 1]
  | x, [], _, j, h => by simp at h
  | x, [y], _, j, h => by simp at h
  | x, y :: z :: L, hw, 0, h => by
    obtain ⟨rfl, h2⟩ := hw
    exact h2.1
  | x, y :: z :: L, hw, j + 1, h => by
    have := way_at hw.2 j (by simpa using h)
    simpa using this
theorem way_end {d : Dt} : ∀ {x : Dt} {L : List Dt}, Way nx d x L → ∀ (j : Nat) (h : j + 1 = L.length), nx (L[j]'(by omega)) = d
  | x, [], _, j, h => by simp at h
  | x, [y], hw, j, h => by
    have : j = 0 := by simpa using h
    subst this
    obtain ⟨rfl, h2⟩ := hw
    exact h2
  | x, y :: z :: L, hw, 0, h => by simp at h
  | x, y :: z :: L, hw, j + 1, h => by
    have := way_end hw.2 j (by simpa using h)
    simpa using this
theorem Rnd.at {f : List Dt} (h : Rnd nx f) (j : Nat) (hj : j < f.length) : nx f[j] = f[(j + 1) % f.length]'(Nat.mod_lt _ (by omega)) := by
  obtain ⟨hne, d, hw⟩ := h
  by_cases e : j + 1 = f.length
  · rw [way_end hw j e]
    match f, hne, hw with
    | y :: L, _, hw =>
      have e2 : (j + 1) % (y :: L).length = 0 := by rw [e, Nat.mod_self]
      simp only [e2]
      exact hw.1
  · have e2 : (j + 1) % f.length = j + 1 := Nat.mod_eq_of_lt (by omega)
    simp only [e2]
    exact way_at hw j (by omega)
end
end Go.Proofs.Ytonfhkdciaiilaa
