/-
  In the plane: an edge's two darts are in one face just if it is a bridge; vertices and faces are two more than edges for each component. No program in this text.
-/
import Derived.Test.YtonfhkdciaiilaaXRNumAt
namespace Go.Proofs.Ytonfhkdciaiilaa
open Go Go.Proofs Go.RowKit

theorem plane_two {N : Nat} {l : List Ed} {r : List (List Int)} (h : planeK (numsL N l r) = 0) {i : Nat} (hi : i < (compC N l).length) : (numsL N l r).getD i 0 = 2 := by
  unfold planeK at h
  split at h
  · cases h
  · rename_i hn
    rw [List.any_eq_true] at hn
    have hl : i < (numsL N l r).length := by rw [numsL_len]; exact hi
    rw [List.getD_eq_getElem?_getD, List.getElem?_eq_getElem hl]
    simp only [Option.getD_some]
    by_cases e : (numsL N l r)[i] = 2
    · exact e
    · exact absurd ⟨_, List.getElem_mem hl, by simpa using e⟩ hn
section
variable {N : Nat} {r : List (List Int)}
/-- One face at both sides: a bridge. -/
theorem face_bridge {l1 l2 : List Ed} {e : Ed} (hR : RightG (N : Int) (l1 ++ e :: l2)) (hS : SysR N (l1 ++ e :: l2) r) (hp : planeK (numsL N (l1 ++ e :: l2) r) = 0) {a b : Nat} (ha : e.1 = (a : Int)) (hb : e.2.1 = (b : Int)) :
    (∃ f ∈ facesL N (l1 ++ e :: l2) r, ((a : Int), (b : Int)) ∈ f ∧ ((b : Int), (a : Int)) ∈ f) ↔ ¬ Conn (l1 ++ l2) a b := by
  have hok := (hR.each e (by simp)).1
  have haN : a < N := by have := hok.2.1; omega
  obtain ⟨i, hi, haK⟩ := kc_of hR haN
  have hK := kc_nodup N _ hR hi
  have hKN := kc_lt hR hi
  have hsh := kc_shut hR hi
  have hF := faces_dec hR hS
  have hD := facesK_dec hR hKN hsh hF
  constructor
  · rintro ⟨f, hf, h1, h2⟩ hc
    obtain ⟨q, _, _, _, hm⟩ := kc_root hR hi
    have hfK : f ∈ facesK (facesL N (l1 ++ e :: l2) r) (KC N (l1 ++ e :: l2) i) := by
      have hpk : PK (l1 ++ e :: l2) (KC N (l1 ++ e :: l2) i) ((a : Int), (b : Int)) := by
        obtain ⟨u, hu, h3, h4⟩ := dartsL_mem.1 ((hF.mem _).1 (List.mem_flatten.2 ⟨f, hf, h1⟩))
        exact ⟨a, haK, rfl, by simp only at h3 h4; rw [h3]; exact h4⟩
      obtain ⟨g, hg, hdg⟩ := List.mem_flatten.1 ((hD.mem _).2 hpk)
      have hgF : g ∈ facesL N (l1 ++ e :: l2) r := (List.mem_filter.1 hg).1
      have hhd : g.getD 0 (0, 0) ∈ g := by
        match g, (hD.rnd g hg).1 with
        | y :: g, _ => simp
      refine List.mem_filter.2 ⟨hf, ?_⟩
      have hsame := (hF.rnd f hf).same (hF.rnd g hgF) h1 hdg
      have hhf : f.getD 0 (0, 0) ∈ f := by
        match f, (hF.rnd f hf).1 with
        | y :: f, _ => simp
      obtain ⟨u, hu, h5, _⟩ := (hD.mem _).1 (List.mem_flatten.2 ⟨g, hg, (hsame _).1 hhf⟩)
      rw [h5]
      simpa using hu
    have hroom := euler_room hK hKN hR hS hsh hD ha hb haK hc hfK h1 h2 (R := [q]) (fun v hv => ⟨q, by simp, ((hm v).1 hv).2⟩)
    have h2' := plane_two hp hi
    rw [nums_chi hR hS hi] at h2'
    simp at hroom
    omega
  · intro hc
    obtain ⟨f, hf, h1, h2⟩ := bridge_round hK hKN hR hS hsh hD ha hb haK hc
    exact ⟨f, (List.mem_filter.1 hf).1, h1, h2⟩
end
/-! Sums over components. -/
def sumK (n : Nat) (g : Nat → Nat) : Nat := ((List.range n).map g).sum
theorem sumK_succ (n : Nat) (g : Nat → Nat) : sumK (n + 1) g = sumK n g + g n := by
  unfold sumK
  rw [List.range_succ, List.map_append, List.sum_append]
  simp
theorem sumK_add (g k : Nat → Nat) : ∀ n, sumK n (fun i => g i + k i) = sumK n g + sumK n k
  | 0 => rfl
  | n + 1 => by
    rw [sumK_succ, sumK_succ, sumK_succ, sumK_add g k n]
    omega
theorem sumK_zero : ∀ n, sumK n (fun _ => 0) = 0
  | 0 => rfl
  | n + 1 => by rw [sumK_succ, sumK_zero n]
theorem sumK_congr {g k : Nat → Nat} : ∀ {n : Nat}, (∀ i, i < n → g i = k i) → sumK n g = sumK n k
  | 0, _ => rfl
  | n + 1, h => by rw [sumK_succ, sumK_succ, sumK_congr (fun i hi => h i (by omega)), h n (by omega)]
theorem sumK_one {m : Nat} : ∀ {n : Nat}, m < n → sumK n (fun i => if m = i then 1 else 0) = 1
  | n + 1, h => by
    rw [sumK_succ]
    by_cases e : m = n
    · subst e
      have : sumK m (fun i => if m = i then 1 else 0) = sumK m fun _ => 0 := sumK_congr fun i hi => by rw [if_neg (by omega)]
      rw [this, sumK_zero]
      simp
    · rw [sumK_one (by omega : m < n), if_neg e]
theorem sum_count {α : Type} (f : α → Nat) {n : Nat} : ∀ (L : List α), (∀ x ∈ L, f x < n) → sumK n (fun i => L.countP fun x => decide (f x = i)) = L.length
  | [], _ => by
    have : sumK n (fun i => ([] : List α).countP fun x => decide (f x = i)) = sumK n fun _ => 0 := sumK_congr fun i _ => by simp
    rw [this, sumK_zero]
    rfl
  | x :: L, h => by
    have ih := sum_count f L (fun y hy => h y (by simp [hy]))
    have hx := h x (by simp)
    have e : sumK n (fun i => (x :: L).countP fun y => decide (f y = i)) = sumK n fun i => (L.countP fun y => decide (f y = i)) + (if f x = i then 1 else 0) := sumK_congr fun i _ => by
      rw [List.countP_cons]
      simp
    rw [e, sumK_add, ih, sumK_one hx, List.length_cons]
section
variable {N : Nat} {l : List Ed} {r : List (List Int)}
/-- The number of a vertex's component. -/
def idxC (N : Nat) (l : List Ed) (v : Nat) : Nat := ((ofC N (compC N l) (compC N l).length).getD v 0).toNat
theorem idxC_lt (hR : RightG (N : Int) l) {v : Nat} (hv : v < N) : idxC N l v < (compC N l).length := by
  obtain ⟨k, hk, hlt⟩ := ofC_ok (comps_ok hR) (compC N l).length (Nat.le_refl _) v hv
  unfold idxC
  rw [hk]
  simpa using hlt
theorem sum_verts (hR : RightG (N : Int) l) : sumK (compC N l).length (fun i => ((compC N l).getD i []).length) = N := by
  have h := sum_count (idxC N l) (n := (compC N l).length) (List.range N) (fun v hv => idxC_lt hR (List.mem_range.1 hv))
  rw [List.length_range] at h
  refine Eq.trans (sumK_congr fun i hi => ?_) h
  have h1 : ((compC N l).getD i []).length = (KC N l i).length := by unfold KC; rw [List.length_map]
  rw [h1, List.countP_eq_length_filter]
  refine List.Perm.length_eq ((List.perm_ext_iff_of_nodup (kc_nodup N l hR hi) (List.Pairwise.filter _ List.nodup_range)).2 fun v => ?_)
  rw [List.mem_filter, List.mem_range]
  constructor
  · intro hv
    have := kc_lt hR hi v hv
    exact ⟨this, by simpa [idxC] using (of_iff hR hi this).2 hv⟩
  · rintro ⟨h2, h3⟩
    exact (of_iff hR hi h2).1 (by simpa [idxC] using h3)
theorem sum_edges (hR : RightG (N : Int) l) : sumK (compC N l).length (fun i => eK l (KC N l i)) = l.length := by
  have h := sum_count (fun e : Ed => idxC N l e.1.toNat) (n := (compC N l).length) l (fun e he => idxC_lt hR (by have := (hR.each e he).1.2.1; have := (hR.each e he).1.1; omega))
  rw [← h]
  refine sumK_congr fun i hi => ?_
  unfold eK
  refine List.countP_congr fun e he => ?_
  have h0 := (hR.each e he).1.1
  have h1 := (hR.each e he).1.2.1
  simp only [decide_eq_true_eq]
  exact (of_iff hR hi (by omega)).symm
theorem sum_faces (hR : RightG (N : Int) l) (hS : SysR N l r) : sumK (compC N l).length (fun i => (facesK (facesL N l r) (KC N l i)).length) = (facesL N l r).length := by
  have hD := faces_dec hR hS
  have hx : ∀ f ∈ facesL N l r, (f.getD 0 (0, 0)).1.toNat < N := fun f hf => by
    have hm : f.getD 0 (0, 0) ∈ dartsL N l := by
      refine (hD.mem _).1 (List.mem_flatten.2 ⟨f, hf, ?_⟩)
      match f, (hD.rnd f hf).1 with
      | y :: f, _ => simp
    obtain ⟨u, v, e, hu, _⟩ := dart_ends hR hm
    rw [e]
    simpa using hu
  have h := sum_count (fun f : List Dt => idxC N l (f.getD 0 (0, 0)).1.toNat) (n := (compC N l).length) (facesL N l r) (fun f hf => idxC_lt hR (hx f hf))
  rw [← h]
  refine sumK_congr fun i hi => ?_
  unfold facesK
  rw [← List.countP_eq_length_filter]
  refine List.countP_congr fun f hf => ?_
  simp only [decide_eq_true_eq]
  exact (of_iff hR hi (hx f hf)).symm
/-- Vertices without an edge. -/
def isoN (N : Nat) (l : List Ed) : Nat := (List.range N).countP fun (v : Nat) => (nb l (v : Int)).isEmpty
theorem sum_iso (hR : RightG (N : Int) l) : sumK (compC N l).length (fun i => isoK l (KC N l i)) = isoN N l := by
  have h := sum_count (idxC N l) (n := (compC N l).length) ((List.range N).filter fun (v : Nat) => (nb l (v : Int)).isEmpty) (fun v hv => idxC_lt hR (List.mem_range.1 (List.mem_filter.1 hv).1))
  unfold isoN
  rw [List.countP_eq_length_filter, ← h]
  refine sumK_congr fun i hi => ?_
  unfold isoK
  rw [List.countP_eq_length_filter, List.countP_eq_length_filter, List.filter_filter]
  refine List.Perm.length_eq ((List.perm_ext_iff_of_nodup (List.Pairwise.filter _ (kc_nodup N l hR hi)) (List.Pairwise.filter _ List.nodup_range)).2 fun v => ?_)
  rw [List.mem_filter, List.mem_filter, List.mem_range]
  constructor
  · rintro ⟨hv, h2⟩
    have := kc_lt hR hi v hv
    exact ⟨this, by rw [Bool.and_eq_true]; exact ⟨by simpa [idxC] using (of_iff hR hi this).2 hv, h2⟩⟩
  · rintro ⟨h2, h3⟩
    rw [Bool.and_eq_true] at h3
    exact ⟨(of_iff hR hi h2).1 (by simpa [idxC] using h3.1), h3.2⟩
/-- Components of more than one vertex. -/
def manyN (N : Nat) (l : List Ed) : Nat := (compC N l).countP fun x => decide (1 < x.length)
theorem sumK_countP {α : Type} (p : α → Bool) (d : α) : ∀ (L : List α), sumK L.length (fun i => if p (L.getD i d) = true then 1 else 0) = L.countP p := by
  intro L
  have key : ∀ n, n ≤ L.length → sumK n (fun i => if p (L.getD i d) = true then 1 else 0) = (L.take n).countP p := by
    intro n
    induction n with
    | zero => intro _; rfl
    | succ n ih =>
      intro hn
      have hlt : n < L.length := by omega
      rw [sumK_succ, ih (by omega), List.take_add_one, List.getElem?_eq_getElem hlt, List.countP_append]
      have e : L.getD n d = L[n] := by rw [List.getD_eq_getElem?_getD, List.getElem?_eq_getElem hlt]; rfl
      rw [e]
      simp [List.countP_cons]
  have := key L.length (Nat.le_refl _)
  rwa [List.take_length] at this
/-- Euler's formula in the plane, where vertices without an edge are left out. -/
theorem euler_all (hR : RightG (N : Int) l) (hS : SysR N l r) (hp : planeK (numsL N l r) = 0) : (N - isoN N l) + (facesL N l r).length = l.length + 2 * manyN N l ∧ isoN N l ≤ N := by
  have e1 := sum_verts hR
  have e2 := sum_edges hR
  have e3 := sum_faces hR hS
  have e4 := sum_iso hR
  have e5 := sumK_countP (fun x : List Int => decide (1 < x.length)) [] (compC N l)
  have hle : isoN N l ≤ N := by
    unfold isoN
    exact Nat.le_trans List.countP_le_length (by simp)
  have hone : ∀ i, i < (compC N l).length → isoK l (KC N l i) + (if decide (1 < ((compC N l).getD i []).length) = true then 1 else 0) = 1 := fun i hi => by
    obtain ⟨h, hh, _, hc⟩ := kc_head hR hS hi
    have h1 : ((compC N l).getD i []).length = (KC N l i).length := by unfold KC; rw [List.length_map]
    rw [h1]
    rcases hc with ⟨_, hK, hnb⟩ | ⟨_, hnb⟩
    · rw [hK]
      unfold isoK
      simp [hnb]
    · have h0 : isoK l (KC N l i) = 0 := by
        unfold isoK
        rw [List.countP_eq_zero]
        intro v hv
        simpa using hnb v hv
      rw [h0]
      obtain ⟨y, hy⟩ := List.exists_mem_of_ne_nil _ (hnb h hh)
      have hy2 := nb_mutual hR hy
      have hyK : y.toNat ∈ KC N l i := kc_shut hR hi h hh y.toNat (by rw [show ((y.toNat : Nat) : Int) = y by omega]; exact hy)
      have hne : y.toNat ≠ h := by omega
      have h2 : 1 < (KC N l i).length := by
        match hKL : KC N l i, hh, hyK with
        | [], hh, _ => simp at hh
        | [x], hh, hyK =>
          have a1 := List.mem_singleton.1 hh
          have a2 := List.mem_singleton.1 hyK
          omega
        | x :: z :: L, _, _ => simp
      simp [h2]
  have e6 : sumK (compC N l).length (fun i => isoK l (KC N l i) + (if decide (1 < ((compC N l).getD i []).length) = true then 1 else 0)) = (compC N l).length := by
    have h1 : sumK (compC N l).length (fun i => isoK l (KC N l i) + (if decide (1 < ((compC N l).getD i []).length) = true then 1 else 0)) = sumK (compC N l).length fun _ => 1 := sumK_congr hone
    rw [h1]
    have h2 : ∀ n, sumK n (fun _ => 1) = n := fun n => by
      induction n with
      | zero => rfl
      | succ n ih => rw [sumK_succ, ih]
    exact h2 _
  rw [sumK_add, e4, e5] at e6
  have hnum : ∀ i, i < (compC N l).length → ((compC N l).getD i []).length + (facesK (facesL N l r) (KC N l i)).length + isoK l (KC N l i) = eK l (KC N l i) + 2 := fun i hi => by
    have h1 := plane_two hp hi
    rw [nums_at hR hS hi, (kc_iso hR hS hi).1] at h1
    omega
  have e7 : sumK (compC N l).length (fun i => (((compC N l).getD i []).length + (facesK (facesL N l r) (KC N l i)).length) + isoK l (KC N l i)) = sumK (compC N l).length (fun i => eK l (KC N l i) + 2) := sumK_congr hnum
  have h2 : ∀ n, sumK n (fun _ => 2) = 2 * n := fun n => by
    induction n with
    | zero => rfl
    | succ n ih => rw [sumK_succ, ih]; omega
  rw [sumK_add, sumK_add, sumK_add, e1, e2, e3, e4, h2] at e7
  unfold manyN
  exact ⟨by omega, hle⟩
end
end Go.Proofs.Ytonfhkdciaiilaa
