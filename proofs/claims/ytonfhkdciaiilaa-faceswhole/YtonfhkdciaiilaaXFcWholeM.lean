/-
  What is joined is in the plane: an edge between two components. No program in this text.
-/
import Derived.Test.YtonfhkdciaiilaaQN
import Derived.Test.YtonfhkdciaiilaaXRFaceM
namespace Go.Proofs.Ytonfhkdciaiilaa
open Go Go.Proofs Go.RowKit

/-- An edge laid into a right graph. -/
theorem ins_right {n : Int} {L : List Ed} (hR : RightG n L) {e : Ed} (hok : okE n e) (hlt : e.1 < e.2.1) (hno : ∀ x ∈ L, ¬ (x.1 = e.1 ∧ x.2.1 = e.2.1)) (hm : L.length + 1 ≤ 4194304) : ∃ l1 l2, L = l1 ++ l2 ∧ RightG n (l1 ++ e :: l2) := by
  have hs : Strict L := hR.rise
  have hp : ((L.filter fun x => lo x e) ++ (L.filter fun x => !lo x e)).Perm L := List.filter_append_perm (fun x => lo x e) L
  have h1 : Strict (L.filter fun x => lo x e) := List.Pairwise.filter _ hs
  have h2 : Strict (L.filter fun x => !lo x e) := List.Pairwise.filter _ hs
  have hy : ∀ y ∈ (L.filter fun x => !lo x e), lo e y = true := fun y hy => by
    obtain ⟨a, b⟩ := List.mem_filter.1 hy
    have hn := hno y a
    have hf : lo y e = false := by simpa using b
    rw [lo_not] at hf
    rw [lo_iff]
    omega
  have hx : ∀ x ∈ (L.filter fun x => lo x e), lo x e = true := fun x hx => (List.mem_filter.1 hx).2
  have hst : Strict ((L.filter fun x => lo x e) ++ (L.filter fun x => !lo x e)) := List.pairwise_append.2 ⟨h1, h2, fun x hx' y hy' => lo_trans (hx x hx') (hy y hy')⟩
  refine ⟨_, _, (strict_uniq hp hst hs).symm, hR.n0, hR.n1, ?_, fun z hz => ?_, List.pairwise_append.2 ⟨h1, List.pairwise_cons.2 ⟨hy, h2⟩, fun x hx' y hy' => ?_⟩⟩
  · have := hp.length_eq
    rw [List.length_append] at this
    rw [List.length_append, List.length_cons]
    omega
  · rcases List.mem_append.1 hz with h | h
    · exact hR.each z (List.mem_filter.1 h).1
    · rcases List.mem_cons.1 h with rfl | h
      · exact ⟨hok, hlt⟩
      · exact hR.each z (List.mem_filter.1 h).1
  · rcases List.mem_cons.1 hy' with rfl | h
    · exact hx x hx'
    · exact lo_trans (hx x hx') (hy y h)

section
variable {N : Nat} {R : List (List Int)}
theorem pushR_at (k : Nat) (y : Int) {v : Nat} (hv : v < R.length) : (pushR R k y).getD v [] = if v = k then R.getD v [] ++ [y] else R.getD v [] := by
  unfold pushR
  rw [List.getD_eq_getElem?_getD, List.getElem?_set]
  by_cases h : k = v
  · subst h
    rw [if_pos rfl, if_pos hv, if_pos rfl]
    rfl
  · rw [if_neg h, if_neg (fun e => h e.symm), List.getD_eq_getElem?_getD]
theorem push2_at {a b v : Nat} (hab : a ≠ b) (hv : v < R.length) : (pushR (pushR R a (b : Int)) b (a : Int)).getD v [] = if v = a then R.getD v [] ++ [(b : Int)] else if v = b then R.getD v [] ++ [(a : Int)] else R.getD v [] := by
  rw [pushR_at b _ (by rw [pushR_len]; exact hv), pushR_at a _ hv]
  by_cases h1 : v = a
  · subst h1
    rw [if_neg hab, if_pos rfl, if_pos rfl]
  · rw [if_neg h1, if_neg h1]
/-- A system goes on by an edge whose ends come last. -/
theorem push_sys {l1 l2 : List Ed} {e : Ed} {a b : Nat} (hS : SysR N (l1 ++ l2) R) (hab : a ≠ b) (ha : e.1 = (a : Int)) (hb : e.2.1 = (b : Int)) : SysR N (l1 ++ e :: l2) (pushR (pushR R a (b : Int)) b (a : Int)) := by
  refine ⟨by rw [pushR_len, pushR_len]; exact hS.len, fun v hv => ?_⟩
  rw [push2_at hab (by rw [hS.len]; exact hv)]
  have hp := hS.perm v hv
  by_cases h1 : v = a
  · subst h1
    rw [if_pos rfl]
    refine List.Perm.trans ?_ (nb_first (v : Int) ha).symm
    rw [hb]
    exact (List.perm_append_singleton _ _).trans (hp.cons _)
  · rw [if_neg h1]
    by_cases h2 : v = b
    · subst h2
      rw [if_pos rfl]
      refine List.Perm.trans ?_ (nb_second (v : Int) (by omega) hb).symm
      rw [ha]
      exact (List.perm_append_singleton _ _).trans (hp.cons _)
    · rw [if_neg h2, nb_other (v : Int) (by omega) (by omega)]
      exact hp
theorem getD_mem_nb {L : List Ed} (hS : SysR N L R) {a : Nat} (ha : a < N) {x : Int} : x ∈ R.getD a [] ↔ x ∈ nb L (a : Int) := (hS.perm a ha).mem_iff
theorem push_less {L : List Ed} {a b : Nat} (hS : SysR N L R) (ha : a < N) (hb : b < N) (hab : a ≠ b) (h1 : (b : Int) ∉ nb L (a : Int)) (h2 : (a : Int) ∉ nb L (b : Int)) : lessR N (pushR (pushR R a (b : Int)) b (a : Int)) a b = R := by
  have hl : (lessR N (pushR (pushR R a (b : Int)) b (a : Int)) a b).length = N := by unfold lessR; simp
  have er : ∀ (X : List Int) (y : Int), y ∉ X → (X ++ [y]).erase y = X := fun X y h => by
    rw [List.erase_append_right _ h]
    simp
  apply List.ext_getElem
  · rw [hl]; exact hS.len.symm
  · intro v hv1 hv2
    have hvN : v < N := by rw [hl] at hv1; exact hv1
    have e1 := lessR_at (r := pushR (pushR R a (b : Int)) b (a : Int)) (a := a) (b := b) hvN
    rw [List.getD_eq_getElem?_getD, List.getElem?_eq_getElem hv1, Option.getD_some] at e1
    have e2 : R.getD v [] = R[v] := by rw [List.getD_eq_getElem?_getD, List.getElem?_eq_getElem hv2]; rfl
    rw [e1, push2_at hab hv2, ← e2]
    by_cases g1 : v = a
    · subst g1
      rw [if_pos rfl, if_pos rfl, er _ _ (fun h => h1 ((getD_mem_nb hS ha).1 h))]
    · rw [if_neg g1, if_neg g1]
      by_cases g2 : v = b
      · subst g2
        rw [if_pos rfl, if_pos rfl, er _ _ (fun h => h2 ((getD_mem_nb hS hb).1 h))]
      · rw [if_neg g2, if_neg g2]
end

theorem pk_all {N : Nat} {l : List Ed} (d : Dt) : d ∈ dartsL N l ↔ PK l (List.range N) d := by
  rw [dartsL_mem]
  unfold PK
  exact ⟨fun ⟨u, h1, h2⟩ => ⟨u, List.mem_range.2 h1, h2⟩, fun ⟨u, h1, h2⟩ => ⟨u, List.mem_range.1 h1, h2⟩⟩
theorem faces_all_dec {N : Nat} {l : List Ed} {r : List (List Int)} (hR : RightG (N : Int) l) (hS : SysR N l r) : Dec (nxD r) (PK l (List.range N)) (facesL N l r) := by
  have h := faces_dec hR hS
  exact ⟨h.rnd, h.nodup, fun x => (h.mem x).trans (pk_all x)⟩
theorem shut_all {N : Nat} {l : List Ed} (hR : RightG (N : Int) l) : ShutK l (List.range N) := by
  intro u hu v hv
  obtain ⟨e, he, h⟩ := (adj_nb hR).2 hv
  have := (hR.each e he).1
  unfold okE at this
  rw [List.mem_range]
  omega
/-- Vertices, faces and vertices alone, and edges, all together. -/
def phi (N : Nat) (l : List Ed) (r : List (List Int)) : Int := (N : Int) + ((facesL N l r).length : Int) + (isoN N l : Int) - (l.length : Int)
theorem eK_all {N : Nat} {l : List Ed} (hR : RightG (N : Int) l) : eK l (List.range N) = l.length := by
  unfold eK
  rw [List.countP_eq_length]
  intro e he
  have := (hR.each e he).1
  unfold okE at this
  rw [decide_eq_true_iff, List.mem_range]
  omega
/-- An edge between two that did not hang together takes two off. -/
theorem phi_join {N : Nat} {l1 l2 : List Ed} {R : List (List Int)} {a b : Nat} {e : Ed} (hR : RightG (N : Int) (l1 ++ e :: l2)) (hR0 : RightG (N : Int) (l1 ++ l2)) (hS : SysR N (l1 ++ l2) R) (ha : e.1 = (a : Int)) (hb : e.2.1 = (b : Int)) (haN : a < N) (hbN : b < N) (hab : a ≠ b) (hc : ¬ Conn (l1 ++ l2) a b) :
    SysR N (l1 ++ e :: l2) (pushR (pushR R a (b : Int)) b (a : Int)) ∧ phi N (l1 ++ e :: l2) (pushR (pushR R a (b : Int)) b (a : Int)) = phi N (l1 ++ l2) R - 2 := by
  have hS' := push_sys hS hab ha hb
  refine ⟨hS', ?_⟩
  have n1 : (b : Int) ∉ nb (l1 ++ l2) (a : Int) := fun h => hc (.one ((adj_nb hR0).2 h))
  have n2 : (a : Int) ∉ nb (l1 ++ l2) (b : Int) := fun h => hc (.symm (.one ((adj_nb hR0).2 h)))
  have hless := push_less hS haN hbN hab n1 n2
  obtain ⟨_, _, _, _, _, C', hD', hcase⟩ := del_step hR hS' (List.nodup_range) (fun v hv => List.mem_range.1 hv) (shut_all hR) (faces_all_dec hR hS') ha hb (List.mem_range.2 haN)
  rw [hless] at hD'
  have hlen := hD'.len (faces_all_dec hR0 hS)
  rcases hcase with ⟨_, h, _⟩ | ⟨h, _⟩
  · exact absurd h hc
  · rw [hlen] at h
    unfold phi
    have i1 : isoK (l1 ++ l2) (List.range N) = isoN N (l1 ++ l2) := rfl
    have i2 : isoK (l1 ++ e :: l2) (List.range N) = isoN N (l1 ++ e :: l2) := rfl
    rw [i1, i2] at h
    rw [List.length_append, List.length_cons, List.length_append]
    omega
theorem sumK_two : ∀ n, sumK n (fun _ => 2) = 2 * n
  | 0 => rfl
  | n + 1 => by rw [sumK_succ, sumK_two n]; omega
theorem sum_all {N : Nat} {l : List Ed} {r : List (List Int)} (hR : RightG (N : Int) l) (hS : SysR N l r) {t : Nat → Nat} (ht : ∀ i, i < (compC N l).length → (numsL N l r).getD i 0 = (t i : Int)) : N + (facesL N l r).length + isoN N l = l.length + sumK (compC N l).length t := by
  have e1 := sum_verts hR
  have e2 := sum_edges hR
  have e3 := sum_faces hR hS
  have e4 := sum_iso hR
  have key : sumK (compC N l).length (fun i => (((compC N l).getD i []).length + (facesK (facesL N l r) (KC N l i)).length) + isoK l (KC N l i)) = sumK (compC N l).length (fun i => eK l (KC N l i) + t i) := sumK_congr fun i hi => by
    have h1 := ht i hi
    rw [nums_at hR hS hi, (kc_iso hR hS hi).1] at h1
    omega
  rw [sumK_add, sumK_add, sumK_add] at key
  omega
theorem phi_plane {N : Nat} {l : List Ed} {r : List (List Int)} (hR : RightG (N : Int) l) (hS : SysR N l r) (hP : planeK (numsL N l r) = 0) : phi N l r = 2 * ((compC N l).length : Int) := by
  have := sum_all hR hS (t := fun _ => 2) (fun i hi => plane_two hP hi)
  rw [sumK_two] at this
  unfold phi
  omega
theorem plane_phi {N : Nat} {l : List Ed} {r : List (List Int)} (hR : RightG (N : Int) l) (hS : SysR N l r) (h1 : (compC N l).length = 1) (h : phi N l r = 2) : planeK (numsL N l r) = 0 := by
  have hp : 0 < (compC N l).length := by omega
  have hn := nums_at hR hS hp
  rw [(kc_iso hR hS hp).1] at hn
  have e1 := sum_verts hR
  have e2 := sum_edges hR
  have e3 := sum_faces hR hS
  have e4 := sum_iso hR
  have s1 : ∀ g : Nat → Nat, sumK 1 g = g 0 := fun g => by rw [sumK_succ]; simp [sumK]
  rw [h1, s1] at e1 e2 e3 e4
  unfold phi at h
  have h2 : (numsL N l r).getD 0 0 = 2 := by rw [hn]; omega
  have hl : (numsL N l r).length = 1 := by rw [numsL_len]; exact h1
  unfold planeK
  rw [if_neg]
  rw [List.any_eq_true]
  rintro ⟨x, hx, hne⟩
  obtain ⟨i, hi, rfl⟩ := List.getElem_of_mem hx
  have hi0 : i = 0 := by omega
  subst hi0
  rw [List.getD_eq_getElem?_getD, List.getElem?_eq_getElem hi, Option.getD_some] at h2
  simp [h2] at hne
end Go.Proofs.Ytonfhkdciaiilaa
