/-
  The reference's blocks: rounds of joins, and what they part as the walk's labels do. No program in this text.
-/
import Derived.Test.YtdadpfkoocpfaaaPRefAll
import Derived.Test.YtdadpfkoocpfaaaPBlkLab
namespace Go.Proofs.Ytdadpfkoocpfaaa
open Go Go.Proofs

def joinL (x y : Int) (O : List Int) : List Int := O.map fun t => if t = y then x else t
theorem joinL_len (x y : Int) (O : List Int) : (joinL x y O).length = O.length := by simp [joinL]
theorem joinL_at {x y : Int} {O : List Int} {t : Nat} (h : t < O.length) : (joinL x y O).getD t 0 = if O.getD t 0 = y then x else O.getD t 0 := by
  unfold joinL
  rw [List.getD_eq_getElem?_getD, List.getElem?_map, List.getD_eq_getElem?_getD, List.getElem?_eq_getElem h]
  rfl
/-- Both are at v, and their other ends have one label. -/
def condB (es : List Ed) (lab : List Int) (v : Int) (i k : Nat) : Bool := atE (es.getD i (0, 0, 0)) v && atE (es.getD k (0, 0, 0)) v && (lab.getD (otherE (es.getD i (0, 0, 0)) v).toNat 0 == lab.getD (otherE (es.getD k (0, 0, 0)) v).toNat 0)
def stepB (es : List Ed) (lab : List Int) (v : Int) (i k : Nat) (O : List Int) : List Int :=
  if condB es lab v i k = true ∧ O.getD i 0 ≠ O.getD k 0 then joinL (min (O.getD i 0) (O.getD k 0)) (max (O.getD i 0) (O.getD k 0)) O else O
def rowB (es : List Ed) (lab : List Int) (v : Int) (i : Nat) (O : List Int) : Nat → List Int
  | 0 => O
  | k + 1 => stepB es lab v i k (rowB es lab v i O k)
def vertB (es : List Ed) (lab : List Int) (v : Int) (O : List Int) : Nat → List Int
  | 0 => O
  | i + 1 => rowB es lab v i (vertB es lab v O i) i
def ofAt (N : Nat) (es : List Ed) : Nat → List Int
  | 0 => idL es.length
  | v + 1 => vertB es (labAt N (cutG N es v) N) (v : Int) (ofAt N es v) es.length
/-- While joins go on. -/
structure JoinI (M : Nat) (B O : List Int) : Prop where
  len : O.length = M
  least : Least O
  sound : ∀ s t, s < M → t < M → O.getD s 0 = O.getD t 0 → B.getD s 0 = B.getD t 0
def Coarse (M : Nat) (O O' : List Int) : Prop := ∀ s t, s < M → t < M → O.getD s 0 = O.getD t 0 → O'.getD s 0 = O'.getD t 0
theorem Coarse.refl (M : Nat) (O : List Int) : Coarse M O O := fun _ _ _ _ h => h
theorem Coarse.trans {M : Nat} {a b c : List Int} (h : Coarse M a b) (h' : Coarse M b c) : Coarse M a c := fun s t hs ht e => h' s t hs ht (h s t hs ht e)
section
variable {es : List Ed} {lab B : List Int} {v : Int} {M : Nat}
theorem step_join {O : List Int} {i k : Nat} (h : JoinI M B O) (hi : i < M) (hk : k < M) (hB : condB es lab v i k = true → B.getD i 0 = B.getD k 0) :
    JoinI M B (stepB es lab v i k O) ∧ Coarse M O (stepB es lab v i k O) ∧ (condB es lab v i k = true → (stepB es lab v i k O).getD i 0 = (stepB es lab v i k O).getD k 0) := by
  unfold stepB
  by_cases hc : condB es lab v i k = true ∧ O.getD i 0 ≠ O.getD k 0
  · rw [if_pos hc]
    have hBe := hB hc.1
    have hat : ∀ t, t < M → (joinL (min (O.getD i 0) (O.getD k 0)) (max (O.getD i 0) (O.getD k 0)) O).getD t 0 = if O.getD t 0 = max (O.getD i 0) (O.getD k 0) then min (O.getD i 0) (O.getD k 0) else O.getD t 0 := fun t ht => joinL_at (by rw [h.len]; exact ht)
    obtain ⟨xi, ei, li, ri⟩ := h.least i (by rw [h.len]; exact hi)
    obtain ⟨xk, ek, lk, rk⟩ := h.least k (by rw [h.len]; exact hk)
    have hne := hc.2
    have coarse : Coarse M O (joinL (min (O.getD i 0) (O.getD k 0)) (max (O.getD i 0) (O.getD k 0)) O) := fun s t hs ht e => by rw [hat s hs, hat t ht, e]
    refine ⟨⟨by rw [joinL_len]; exact h.len, fun t ht => ?_, fun s t hs ht e => ?_⟩, coarse, fun _ => ?_⟩
    · rw [joinL_len, h.len] at ht
      obtain ⟨r, er, lr, rr⟩ := h.least t (by rw [h.len]; exact ht)
      by_cases e : O.getD t 0 = max (O.getD i 0) (O.getD k 0)
      · rw [hat t ht, if_pos e]
        by_cases hlt : xi < xk
        · refine ⟨xi, by omega, by omega, ?_⟩
          rw [hat xi (by omega), if_neg (by omega), ri]
        · refine ⟨xk, by omega, by omega, ?_⟩
          rw [hat xk (by omega), if_neg (by omega), rk]
      · rw [hat t ht, if_neg e]
        refine ⟨r, er, lr, ?_⟩
        rw [hat r (by omega), if_neg (by omega), rr]
    · rw [hat s hs, hat t ht] at e
      have cls : ∀ t, t < M → O.getD t 0 = max (O.getD i 0) (O.getD k 0) ∨ O.getD t 0 = min (O.getD i 0) (O.getD k 0) → B.getD t 0 = B.getD i 0 := fun t ht h1 => by
        have h2 : O.getD t 0 = O.getD i 0 ∨ O.getD t 0 = O.getD k 0 := by omega
        rcases h2 with h2 | h2
        · exact h.sound t i ht hi h2
        · rw [h.sound t k ht hk h2, hBe]
      by_cases e1 : O.getD s 0 = max (O.getD i 0) (O.getD k 0)
      · by_cases e2 : O.getD t 0 = max (O.getD i 0) (O.getD k 0)
        · exact h.sound s t hs ht (e1.trans e2.symm)
        · rw [if_pos e1, if_neg e2] at e
          rw [cls s hs (.inl e1), cls t ht (.inr e.symm)]
      · by_cases e2 : O.getD t 0 = max (O.getD i 0) (O.getD k 0)
        · rw [if_neg e1, if_pos e2] at e
          rw [cls s hs (.inr e), cls t ht (.inl e2)]
        · rw [if_neg e1, if_neg e2] at e
          exact h.sound s t hs ht e
    · rw [hat i hi, hat k hk]
      by_cases e1 : O.getD i 0 = max (O.getD i 0) (O.getD k 0)
      · rw [if_pos e1, if_neg (by omega)]
        omega
      · rw [if_neg e1, if_pos (by omega)]
        omega
  · rw [if_neg hc]
    refine ⟨h, .refl _ _, fun h1 => ?_⟩
    apply Classical.byContradiction
    intro h2
    exact hc ⟨h1, h2⟩
theorem row_join {O : List Int} {i : Nat} (h : JoinI M B O) (hi : i < M) (hB : ∀ k, k < M → condB es lab v i k = true → B.getD i 0 = B.getD k 0) : ∀ {j : Nat}, j ≤ i →
    JoinI M B (rowB es lab v i O j) ∧ Coarse M O (rowB es lab v i O j) ∧ ∀ k, k < j → condB es lab v i k = true → (rowB es lab v i O j).getD i 0 = (rowB es lab v i O j).getD k 0
  | 0, _ => ⟨h, .refl _ _, fun k hk => by omega⟩
  | j + 1, hj => by
    obtain ⟨h1, h2, h3⟩ := row_join h hi hB (j := j) (by omega)
    obtain ⟨g1, g2, g3⟩ := step_join (es := es) (lab := lab) (v := v) h1 hi (k := j) (by omega) (hB j (by omega))
    refine ⟨g1, h2.trans g2, fun k hk hc => ?_⟩
    by_cases e : k = j
    · subst e
      exact g3 hc
    · exact g2 i k hi (by omega) (h3 k (by omega) hc)
theorem vert_join {O : List Int} (h : JoinI M B O) (hB : ∀ i k, i < M → k < M → condB es lab v i k = true → B.getD i 0 = B.getD k 0) : ∀ {j : Nat}, j ≤ M →
    JoinI M B (vertB es lab v O j) ∧ Coarse M O (vertB es lab v O j) ∧ ∀ i k, i < j → k < i → condB es lab v i k = true → (vertB es lab v O j).getD i 0 = (vertB es lab v O j).getD k 0
  | 0, _ => ⟨h, .refl _ _, fun i k hi => by omega⟩
  | j + 1, hj => by
    obtain ⟨h1, h2, h3⟩ := vert_join h hB (j := j) (by omega)
    obtain ⟨g1, g2, g3⟩ := row_join (es := es) (lab := lab) (v := v) h1 (i := j) (by omega) (fun k hk => hB j k (by omega) hk) (j := j) (Nat.le_refl _)
    refine ⟨g1, h2.trans g2, fun i k hi hk hc => ?_⟩
    by_cases e : i = j
    · subst e
      exact g3 k hk hc
    · exact g2 i k (by omega) (by omega) (h3 i k (by omega) hk hc)
end
theorem cond_iff {N : Nat} {l : List Ed} (hR : RightG (N : Int) l) {v i k : Nat} (hi : i < l.length) (hk : k < l.length) : condB l (labAt N (cutG N l v) N) (v : Int) i k = true ↔ ∃ a b, Joins l i v a ∧ Joins l k v b ∧ Conn (cutG N l v) a b := by
  have hE : Ends N (cutG N l v) := right_ends (keep_right hR _)
  have get : ∀ {j : Nat}, (hj : j < l.length) → l.getD j (0, 0, 0) = l[j] := fun hj => by rw [List.getD_eq_getElem?_getD, List.getElem?_eq_getElem hj]; rfl
  have one : ∀ {j : Nat}, (hj : j < l.length) → (atE l[j] (v : Int) = true → Joins l j v (otherE l[j] (v : Int)).toNat) ∧ ∀ a, Joins l j v a → atE l[j] (v : Int) = true ∧ (otherE l[j] (v : Int)).toNat = a := fun {j} hj => by
    have hok := hR.each _ (List.getElem_mem hj)
    have hlt := hok.2
    have hok := hok.1
    unfold okE at hok
    unfold atE otherE
    constructor
    · intro h
      refine ⟨l[j], List.getElem?_eq_getElem hj, ?_⟩
      rw [Bool.or_eq_true, beq_iff_eq, beq_iff_eq] at h
      split <;> omega
    · rintro a ⟨e, h1, h2⟩
      rw [List.getElem?_eq_getElem hj] at h1
      cases h1
      rw [Bool.or_eq_true, beq_iff_eq, beq_iff_eq]
      split <;> omega
  unfold condB
  rw [get hi, get hk, Bool.and_eq_true, Bool.and_eq_true, beq_iff_eq]
  constructor
  · rintro ⟨⟨h1, h2⟩, h3⟩
    have j1 := (one hi).1 h1
    have j2 := (one hk).1 h2
    exact ⟨_, _, j1, j2, (lab_same hE (j1.below hR).2 (j2.below hR).2).1 h3⟩
  · rintro ⟨a, b, j1, j2, hc⟩
    obtain ⟨a1, a2⟩ := (one hi).2 a j1
    obtain ⟨b1, b2⟩ := (one hk).2 b j2
    rw [a2, b2]
    exact ⟨⟨a1, b1⟩, (lab_same hE (j1.below hR).2 (j2.below hR).2).2 hc⟩
theorem idL_at {M t : Nat} (h : t < M) : (idL M).getD t 0 = (t : Int) := by simp [idL, h]
theorem idL_len (M : Nat) : (idL M).length = M := by simp [idL]
theorem of_join {N : Nat} {l : List Ed} (hR : RightG (N : Int) l) : ∀ {j : Nat}, j ≤ N →
    JoinI l.length (walkW N l).block (ofAt N l j) ∧ ∀ v i k, v < j → i < l.length → k < i → condB l (labAt N (cutG N l v) N) (v : Int) i k = true → (ofAt N l j).getD i 0 = (ofAt N l j).getD k 0
  | 0, _ => by
    refine ⟨⟨idL_len _, fun t ht => ?_, fun s t hs ht e => ?_⟩, fun v i k hv => by omega⟩
    · have ht' : t < l.length := by
        have e : (ofAt N l 0).length = l.length := idL_len _
        omega
      exact ⟨t, idL_at ht', Nat.le_refl _, idL_at ht'⟩
    · have e1 : (idL l.length).getD s 0 = (idL l.length).getD t 0 := e
      rw [idL_at hs, idL_at ht] at e1
      have : s = t := by omega
      rw [this]
  | j + 1, hj => by
    obtain ⟨h1, h2⟩ := of_join hR (j := j) (by omega)
    obtain ⟨g1, g2, g3⟩ := vert_join (es := l) (lab := labAt N (cutG N l j) N) (v := (j : Int)) h1 (fun i k hi hk hc => by
      obtain ⟨a, b, j1, j2, hcn⟩ := (cond_iff hR hi hk).1 hc
      exact ((walk_labof hR).at hR (walk_tr hR) (cutG_nov hR j) j1 j2).2 hcn) (j := l.length) (Nat.le_refl _)
    refine ⟨g1, fun v i k hv hi hk hc => ?_⟩
    by_cases e : v = j
    · subst e
      exact g3 i k hi hk hc
    · exact g2 i k hi (by omega) (h2 v i k (by omega) hi hk hc)
/-- The reference's joins part the edges as the walk's labels do. -/
theorem of_same {N : Nat} {l : List Ed} (hR : RightG (N : Int) l) {s t : Nat} (hs : s < l.length) (ht : t < l.length) : (walkW N l).block.getD s 0 = (walkW N l).block.getD t 0 ↔ (ofAt N l N).getD s 0 = (ofAt N l N).getD t 0 := by
  obtain ⟨h1, h2⟩ := of_join hR (j := N) (Nat.le_refl _)
  refine ⟨fun e => ?_, h1.sound s t hs ht⟩
  refine (walk_labof hR).parts hR (walk_tr hR) (fun v _ => cutG_nov hR v) (G := fun k => (ofAt N l N).getD k 0) (fun k k' hL => ?_) hs ht e
  obtain ⟨v, a, b, j1, j2, hc⟩ := hL
  have hv := (j1.below hR).1
  rcases Nat.lt_trichotomy k k' with hlt | rfl | hgt
  · exact (h2 v k' k hv j2.lt hlt ((cond_iff hR j2.lt j1.lt).2 ⟨b, a, j2, j1, hc.symm⟩)).symm
  · rfl
  · exact h2 v k k' hv j1.lt hgt ((cond_iff hR j1.lt j2.lt).2 ⟨a, b, j1, j2, hc⟩)
/-- What is gathered hangs on how labels part, not on the labels. -/
theorem gath_congr {B O : List Int} : ∀ {i : Nat}, (∀ s t, s < i → t < i → (B.getD s 0 = B.getD t 0 ↔ O.getD s 0 = O.getD t 0)) → (gath B i).2 = (gath O i).2 ∧ ∃ rs : List Nat, (∀ r ∈ rs, r < i) ∧ (gath B i).1 = rs.map (B.getD · 0) ∧ (gath O i).1 = rs.map (O.getD · 0)
  | 0, _ => ⟨rfl, [], by simp, rfl, rfl⟩
  | i + 1, h => by
    obtain ⟨h1, rs, h2, h3, h4⟩ := gath_congr (i := i) (fun s t hs ht => h s t (by omega) (by omega))
    have hm : B.getD i 0 ∈ (gath B i).1 ↔ O.getD i 0 ∈ (gath O i).1 := by
      rw [h3, h4, List.mem_map, List.mem_map]
      constructor
      · rintro ⟨r, hr, e⟩
        exact ⟨r, hr, (h r i (by have := h2 r hr; omega) (by omega)).1 e⟩
      · rintro ⟨r, hr, e⟩
        exact ⟨r, hr, (h r i (by have := h2 r hr; omega) (by omega)).2 e⟩
    have hidx : (gath B i).1.idxOf (B.getD i 0) = (gath O i).1.idxOf (O.getD i 0) := by
      rw [h3, h4]
      clear h3 h4 h1 hm
      induction rs with
      | nil => rfl
      | cons r rs ih =>
        have hr := h2 r (List.mem_cons_self ..)
        have hd := h r i (by omega) (by omega)
        rw [List.map_cons, List.map_cons, List.idxOf_cons, List.idxOf_cons, ih (fun r hr => h2 r (List.mem_cons_of_mem _ hr))]
        by_cases e : B.getD r 0 = B.getD i 0
        · rw [beq_iff_eq.2 e, beq_iff_eq.2 (hd.1 e)]
        · have e' : ¬ O.getD r 0 = O.getD i 0 := fun x => e (hd.2 x)
          rw [beq_eq_false_iff_ne.2 e, beq_eq_false_iff_ne.2 e']
    by_cases hb : B.getD i 0 ∈ (gath B i).1
    · rw [gath_old hb, gath_old (hm.1 hb), h1, hidx]
      exact ⟨rfl, rs, fun r hr => by have := h2 r hr; omega, h3, h4⟩
    · rw [gath_new hb, gath_new (fun e => hb (hm.2 e)), h1]
      refine ⟨rfl, rs ++ [i], fun r hr => ?_, ?_, ?_⟩
      · rcases List.mem_append.1 hr with h5 | h5
        · have := h2 r h5
          omega
        · have := List.mem_singleton.1 h5
          omega
      · show (gath B i).1 ++ [B.getD i 0] = _
        rw [h3, List.map_append]
        rfl
      · show (gath O i).1 ++ [O.getD i 0] = _
        rw [h4, List.map_append]
        rfl
/-- The walk's blocks are the reference's. -/
theorem walk_blocks {N : Nat} {l : List Ed} (hR : RightG (N : Int) l) : (gath (walkW N l).block (walkW N l).block.length).2 = rcAt (ofAt N l N) l.length l.length := by
  have hlen : (walkW N l).block.length = l.length := (walkW_ok hR).lenK
  obtain ⟨h1, _⟩ := of_join hR (j := N) (Nat.le_refl _)
  have h2 := gath_rc h1.least
  rw [h1.len] at h2
  rw [hlen, ← h2]
  exact (gath_congr fun s t hs ht => of_same hR hs ht).1
end Go.Proofs.Ytdadpfkoocpfaaa
