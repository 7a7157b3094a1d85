/-
  The walk's roots are the reference's labels. No program in this text.
-/
import Derived.Test.YtdgecflljgnobaaXPWalkEnd
import Derived.Test.YtdgecflljgnobaaXPGathMath
namespace Go.Proofs.Ytdgecflljgnobaa
open Go Go.Proofs

theorem linkOf_sound {v : Int} {x : Int × Int} : ∀ {l : List Ed} {p : Nat}, x ∈ linkOf v p l → ∃ e ∈ l, (e.1 = v ∧ e.2.1 = x.1) ∨ (e.2.1 = v ∧ e.1 = x.1)
  | [], p, h => by simp [linkOf] at h
  | e :: l, p, h => by
    rw [linkOf] at h
    rcases List.mem_append.1 h with h | h
    · refine ⟨e, List.mem_cons_self .., ?_⟩
      by_cases h1 : e.1 = v
      · rw [if_pos h1] at h
        have := List.mem_singleton.1 h
        exact .inl ⟨h1, by rw [this]⟩
      · rw [if_neg h1] at h
        by_cases h2 : e.2.1 = v
        · rw [if_pos h2] at h
          have := List.mem_singleton.1 h
          exact .inr ⟨h2, by rw [this]⟩
        · rw [if_neg h2] at h
          simp at h
    · obtain ⟨d, hd, h3⟩ := linkOf_sound h
      exact ⟨d, List.mem_cons_of_mem _ hd, h3⟩
theorem linkOf_full {v w : Int} (hne : v ≠ w) : ∀ {l : List Ed} {p : Nat} {e : Ed}, e ∈ l → (e.1 = v ∧ e.2.1 = w) ∨ (e.1 = w ∧ e.2.1 = v) → ∃ x ∈ linkOf v p l, x.1 = w
  | [], p, e, h, _ => by simp at h
  | d :: l, p, e, h, he => by
    rw [linkOf]
    rcases List.mem_cons.1 h with rfl | h
    · rcases he with ⟨h1, h2⟩ | ⟨h1, h2⟩
      · exact ⟨(e.2.1, (p : Int)), List.mem_append_left _ (by rw [if_pos h1]; exact List.mem_singleton.2 rfl), h2⟩
      · exact ⟨(e.1, (p : Int)), List.mem_append_left _ (by rw [if_neg (fun a => hne (a.symm.trans h1)), if_pos h2]; exact List.mem_singleton.2 rfl), h1⟩
    · obtain ⟨x, hx, hxw⟩ := linkOf_full hne (p := p + 1) h he
      exact ⟨x, List.mem_append_right _ hx, hxw⟩
theorem linksL_get {N : Nat} {l : List Ed} {v : Nat} (h : v < N) : (linksL N l).getD v [] = linkOf (v : Int) 0 l := by
  rw [List.getD_eq_getElem?_getD]
  simp [linksL, h]
theorem links_ok {N : Nat} {l : List Ed} (hR : RightG (N : Int) l) : LinksOK N l (linksL N l) := by
  have hok : ∀ e ∈ l, ∃ a b : Nat, e.1 = (a : Int) ∧ e.2.1 = (b : Int) ∧ a < N ∧ b < N ∧ a ≠ b := fun e he => by
    have := (hR.each e he).1
    unfold okE at this
    exact ⟨e.1.toNat, e.2.1.toNat, by omega, by omega, by omega, by omega, by omega⟩
  refine ⟨right_ends hR, ?_, ?_⟩
  · intro v x hv hx
    rw [linksL_get hv] at hx
    obtain ⟨e, he, h⟩ := linkOf_sound hx
    obtain ⟨a, b, ha, hb, haN, hbN, _⟩ := hok e he
    rcases h with ⟨h1, h2⟩ | ⟨h1, h2⟩
    · exact ⟨b, by omega, hbN, e, he, .inl ⟨by omega, by omega⟩⟩
    · exact ⟨a, by omega, haN, e, he, .inr ⟨by omega, by omega⟩⟩
  · intro v w hv ha
    obtain ⟨e, he, h⟩ := ha
    obtain ⟨a, b, ha, hb, haN, hbN, hab⟩ := hok e he
    have hne : (v : Int) ≠ (w : Int) := by omega
    obtain ⟨x, hx, hxw⟩ := linkOf_full hne (p := 0) he (by omega)
    exact ⟨x, by rw [linksL_get hv]; exact hx, by rw [hxw]; rfl⟩
theorem sum_one (a : Int) : ∀ N, sumN (fun v => if a = ((v : Nat) : Int) then 1 else 0) N ≤ 1 ∧ ((N : Int) ≤ a → sumN (fun v => if a = ((v : Nat) : Int) then 1 else 0) N = 0)
  | 0 => ⟨Nat.zero_le _, fun _ => rfl⟩
  | n + 1 => by
    obtain ⟨h1, h2⟩ := sum_one a n
    rw [sumN]
    by_cases e : a = (n : Int)
    · rw [if_pos e]
      have := h2 (by omega)
      exact ⟨by omega, fun h => by omega⟩
    · rw [if_neg e]
      exact ⟨by omega, fun h => by have := h2 (by omega); omega⟩
theorem sumN_le {f g : Nat → Nat} : ∀ {n : Nat}, (∀ v, v < n → f v ≤ g v) → sumN f n ≤ sumN g n
  | 0, _ => Nat.le_refl _
  | n + 1, h => by
    have := sumN_le (f := f) (g := g) (n := n) (fun v hv => h v (by omega))
    have := h n (by omega)
    rw [sumN, sumN]
    omega
theorem sumN_add (f g : Nat → Nat) : ∀ n, sumN (fun v => f v + g v) n = sumN f n + sumN g n
  | 0 => rfl
  | n + 1 => by rw [sumN, sumN, sumN, sumN_add f g n]; omega
theorem sum_links (N : Nat) : ∀ (l : List Ed) (p : Nat), sumN (fun v => (linkOf (v : Int) p l).length) N ≤ 2 * l.length
  | [], p => by
    have : sumN (fun v => (linkOf (v : Int) p []).length) N = sumN (fun _ => 0) N := rfl
    have h0 : ∀ n, sumN (fun _ => 0) n = 0 := fun n => by induction n with | zero => rfl | succ n ih => rw [sumN, ih]
    rw [this, h0]
    exact Nat.zero_le _
  | e :: l, p => by
    have ih := sum_links N l (p + 1)
    have h1 := (sum_one e.1 N).1
    have h2 := (sum_one e.2.1 N).1
    have hle : sumN (fun v => (linkOf (v : Int) p (e :: l)).length) N ≤ sumN (fun v => ((if e.1 = ((v : Nat) : Int) then 1 else 0) + (if e.2.1 = ((v : Nat) : Int) then 1 else 0)) + (linkOf (v : Int) (p + 1) l).length) N := by
      refine sumN_le fun v _ => ?_
      rw [linkOf, List.length_append]
      by_cases a : e.1 = (v : Int)
      · rw [if_pos a, if_pos a]; simp
      · rw [if_neg a, if_neg a]
        by_cases b : e.2.1 = (v : Int)
        · rw [if_pos b, if_pos b]; simp
        · rw [if_neg b, if_neg b]; simp
    rw [sumN_add, sumN_add] at hle
    rw [List.length_cons]
    omega
theorem sum_ones : ∀ n, sumN (fun _ => 1) n = n
  | 0 => rfl
  | n + 1 => by rw [sumN, sum_ones n]
theorem unseen_le (N : Nat) (l : List Ed) (D : List Int) : 2 * unseenPot (linksL N l) N D ≤ 4 * (N + l.length) + 4 := by
  have h1 : unseenPot (linksL N l) N D ≤ sumN (fun v => (linkOf (v : Int) 0 l).length + 1) N := by
    refine sumN_le fun v hv => ?_
    rw [linksL_get hv]
    split
    · exact Nat.le_refl _
    · exact Nat.zero_le _
  rw [sumN_add, sum_ones] at h1
  have := sum_links N l 0
  omega
theorem walk_all {N : Nat} {l : List Ed} (hR : RightG (N : Int) l) : ∀ k, k ≤ N → WalkI N l k ((List.range k).foldl (startW (linksL N l) (4 * (N + l.length) + 4)) (freshW N l.length))
  | 0, _ => by
    have hs : ∀ v, v < N → ¬ seen (freshW N l.length) v := fun v hv => by
      unfold seen freshW
      simp [List.getD_eq_getElem?_getD, hv]
    exact ⟨by simp [freshW], by simp [freshW], rfl, fun v hv => by omega, fun v w hv h => absurd h (hs v hv), fun v hv h => absurd h (hs v hv)⟩
  | k + 1, hk => by
    rw [List.range_succ, List.foldl_append]
    exact start_all (links_ok hR) (walk_all hR k (by omega)) (by omega) (unseen_le N l)
/-- The walk's roots: the reference's labels. -/
theorem walk_root {N : Nat} {l : List Ed} (hR : RightG (N : Int) l) : (walkW N l).root = labAt N l N := by
  have h := walk_all hR N (Nat.le_refl _)
  have hE := right_ends hR
  have hl : (walkW N l).root.length = N := h.lenR
  apply List.ext_getElem
  · rw [hl, labAt_len]
  · intro v h1 h2
    have hv : v < N := by omega
    obtain ⟨x, hx, hxN, hxc, hxl⟩ := h.least v hv (h.upto v hv)
    obtain ⟨y, hy, hyN, hyc, hyl⟩ := lab_least hE hv
    have e1 : (walkW N l).root.getD v 0 = (walkW N l).root[v] := by rw [List.getD_eq_getElem?_getD, List.getElem?_eq_getElem h1]; rfl
    have e2 : (labAt N l N).getD v 0 = (labAt N l N)[v] := by rw [List.getD_eq_getElem?_getD, List.getElem?_eq_getElem h2]; rfl
    have hx' : (walkW N l).root.getD v 0 = (x : Int) := hx
    rw [← e1, ← e2, hx', hy]
    have := hxl y hyN hyc
    have := hyl x hxN hxc
    omega
theorem lab_Least {N : Nat} {l : List Ed} (hE : Ends N l) : Least (labAt N l N) := by
  intro v hv
  rw [labAt_len] at hv
  obtain ⟨x, hx, hxN, hxc, hxl⟩ := lab_least hE hv
  refine ⟨x, hx, hxl v hv (.refl _), ?_⟩
  rw [← (lab_same hE hv hxN).2 hxc]
  exact hx
/-- Gathered roots: the reference's components. -/
theorem walk_components {N : Nat} {l : List Ed} (hR : RightG (N : Int) l) : (gath (walkW N l).root (walkW N l).root.length).2 = rcAt (labAt N l N) N N := by
  rw [walk_root hR, gath_rc (lab_Least (right_ends hR)), labAt_len]
end Go.Proofs.Ytdgecflljgnobaa
