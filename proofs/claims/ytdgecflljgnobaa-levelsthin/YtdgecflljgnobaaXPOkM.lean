/-
  The walk's model comes to its end: what it weighs goes down with each step. No program in this text.
-/
import Derived.Test.YtdgecflljgnobaaXPOkW
namespace Go.Proofs.Ytdgecflljgnobaa
open Go Go.Proofs Go.RowKit

theorem pot_root {N M C : Nat} {lk : List (List (Int × Int))} {s : WS} {r : Nat} (h : OkW N M C lk s) (hp : s.path = []) (hr : r < N) (hs : s.depth.getD r 0 < 0) :
    pot lk N { s with root := s.root.set r (r : Int), from_ := s.from_.set r (-1), depth := s.depth.set r 0, path := s.path ++ [⟨(r : Int), -1, 0, 0, 0⟩] } ≤ pot lk N s := by
  have hpe : s.path ++ [(⟨(r : Int), -1, 0, 0, 0⟩ : Stp)] = [⟨(r : Int), -1, 0, 0, 0⟩] := by rw [hp]; rfl
  have hu := unseen_set (lk := lk) h.lenD hr hs (Int.le_refl 0)
  unfold pot
  show 2 * unseenPot lk N (s.depth.set r 0) + wayPot lk (s.path ++ [(⟨(r : Int), -1, 0, 0, 0⟩ : Stp)]) ≤ 2 * unseenPot lk N s.depth + wayPot lk s.path
  rw [hpe, wayPot_one, hp]
  simp only
  have : degW lk (r : Int) = (lk.getD r []).length := by unfold degW; rfl
  rw [this]
  have : wayPot lk [] = 0 := rfl
  omega
theorem linkOf_place {v : Int} {x : Int × Int} : ∀ {l : List Ed} {p : Nat}, x ∈ linkOf v p l → ∃ k : Nat, x.2 = (k : Int) ∧ k < p + l.length
  | [], _, h => by simp [linkOf] at h
  | e :: l, p, h => by
    rw [linkOf] at h
    rcases List.mem_append.1 h with h1 | h1
    · refine ⟨p, ?_, by simp⟩
      split at h1
      · rw [List.mem_singleton.1 h1]
      · split at h1
        · rw [List.mem_singleton.1 h1]
        · simp at h1
    · obtain ⟨k, e1, e2⟩ := linkOf_place h1
      exact ⟨k, e1, by rw [List.length_cons]; omega⟩
theorem linksL_out {N : Nat} {l : List Ed} {v : Nat} (h : ¬ v < N) : (linksL N l).getD v [] = [] := by
  rw [List.getD_eq_getElem?_getD, List.getElem?_eq_none (by simp [linksL]; omega)]
  rfl
theorem links_in {N : Nat} {l : List Ed} (hR : RightG (N : Int) l) : LinksIn N l.length (linksL N l) := by
  intro v x hx
  by_cases hv : v < N
  · obtain ⟨u, e, hu, _⟩ := (links_ok hR).sound v x hv hx
    rw [linksL_get hv] at hx
    obtain ⟨k, e1, e2⟩ := linkOf_place hx
    exact ⟨⟨u, e, hu⟩, k, e1, by omega⟩
  · rw [linksL_out hv] at hx
    simp at hx
theorem OkW.step {N M C : Nat} {lk : List (List (Int × Int))} {s : WS} (h : OkW N M C lk s) (hK : LinksIn N M lk) (hne : s.path ≠ []) : OkW N M C lk (stepW lk s) ∧ pot lk N (stepW lk s) + 1 ≤ pot lk N s := by
  unfold stepW
  cases hl : s.path.getLast? with
  | none => exact absurd (List.getLast?_eq_none_iff.1 hl) hne
  | some top =>
    have hp := path_last hl
    simp only
    split
    · exact ⟨h.leave hp, leave_less hp⟩
    · rename_i hn
      have hle := h.nxt top (by rw [hp]; simp)
      have hlt : top.next < degW lk top.v := by unfold degW at hle ⊢; omega
      have hx := List.getElem?_eq_getElem (l := lk.getD top.v.toNat []) hlt
      have e : (lk.getD top.v.toNat []).getD top.next (0, 0) = (lk.getD top.v.toNat [])[top.next] := by rw [List.getD_eq_getElem?_getD, hx]; rfl
      obtain ⟨v, ev, hv, hsv⟩ := h.way top.v (by rw [hp]; simp)
      have evt : top.v.toNat = v := by rw [ev]; rfl
      obtain ⟨⟨u, eu, hu⟩, _⟩ := hK _ _ (List.getElem_mem hlt)
      rw [e]
      exact ⟨h.look hK hp hx, look_less hp hlt h.lenD (by rw [eu]; exact hu) (by unfold at_; rw [evt]; exact hsv)⟩
theorem OkW.run {N M C : Nat} {lk : List (List (Int × Int))} (hK : LinksIn N M lk) : ∀ (k : Nat) {s : WS}, OkW N M C lk s → pot lk N s ≤ k → OkW N M C lk (runW lk k s) ∧ (runW lk k s).path = []
  | 0, s, h, hk => by
    refine ⟨h, ?_⟩
    have := pot_way (lk := lk) (N := N) (s := s)
    exact List.length_eq_zero_iff.1 (by show s.path.length = 0; omega)
  | k + 1, s, h, hk => by
    rw [runW]
    by_cases hp : s.path = []
    · rw [step_stay hp, run_stay hp]
      exact ⟨h, hp⟩
    · obtain ⟨h1, h2⟩ := h.step hK hp
      exact OkW.run hK k h1 (by omega)
theorem OkW.start {N M C : Nat} {lk : List (List (Int × Int))} (hK : LinksIn N M lk) {s : WS} {r : Nat} (h : OkW N M C lk s) (hp : s.path = []) (hr : r < N) : OkW N M C lk (startW lk C s r) ∧ (startW lk C s r).path = [] := by
  unfold startW
  split
  · exact ⟨h, hp⟩
  · refine OkW.run hK C (h.root hp hr (by omega)) ?_
    have := pot_root h hp hr (by omega)
    have := h.bo
    omega
theorem walk_ok {N : Nat} {l : List Ed} (hR : RightG (N : Int) l) : ∀ k, k ≤ N → OkW N l.length (4 * (N + l.length) + 4) (linksL N l) ((List.range k).foldl (startW (linksL N l) (4 * (N + l.length) + 4)) (freshW N l.length)) ∧ ((List.range k).foldl (startW (linksL N l) (4 * (N + l.length) + 4)) (freshW N l.length)).path = []
  | 0, _ => ⟨OkW.fresh (unseen_le N l _), rfl⟩
  | k + 1, hk => by
    obtain ⟨h1, h2⟩ := walk_ok hR k (by omega)
    rw [List.range_succ, List.foldl_append]
    exact h1.start (links_in hR) h2 (by omega)
theorem walkW_ok {N : Nat} {l : List Ed} (hR : RightG (N : Int) l) : OkW N l.length (4 * (N + l.length) + 4) (linksL N l) (walkW N l) := (walk_ok hR N (Nat.le_refl _)).1
end Go.Proofs.Ytdgecflljgnobaa
