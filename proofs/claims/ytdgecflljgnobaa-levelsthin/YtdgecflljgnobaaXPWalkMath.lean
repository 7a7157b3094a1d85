/-
  The walk's model: each vertex's root is the least one that hangs together with it. No program in this text.
-/
import Derived.Test.YtdgecflljgnobaaXPWalk
import Derived.Test.YtdgecflljgnobaaXPLabMath
namespace Go.Proofs.Ytdgecflljgnobaa
open Go Go.Proofs

theorem set_getD (l : List Int) (i j : Nat) (x : Int) : (l.set i x).getD j 0 = if i = j ∧ i < l.length then x else l.getD j 0 := by
  rw [List.getD_eq_getElem?_getD, List.getElem?_set]
  by_cases h : i = j
  · subst h
    by_cases hl : i < l.length
    · rw [if_pos rfl, if_pos hl, if_pos ⟨rfl, hl⟩]; rfl
    · rw [if_pos rfl, if_neg hl, if_neg (fun h => hl h.2), List.getD_eq_getElem?_getD, List.getElem?_eq_none (by omega)]
  · rw [if_neg h, if_neg (fun e => h e.1), List.getD_eq_getElem?_getD]
def seen (s : WS) (v : Nat) : Prop := 0 ≤ s.depth.getD v 0
/-- What stands while the component of r is walked over; s0: ahead of it. -/
structure RunI (N : Nat) (l : List Ed) (lk : List (List (Int × Int))) (s0 : WS) (r : Nat) (s : WS) : Prop where
  lenD : s.depth.length = N
  lenR : s.root.length = N
  old : ∀ v, v < N → seen s0 v → seen s v ∧ s.root.getD v 0 = s0.root.getD v 0
  new : ∀ v, v < N → ¬ seen s0 v → seen s v → s.root.getD v 0 = (r : Int) ∧ Conn l r v
  way : ∀ st ∈ s.path, ∃ v : Nat, st.v = (v : Int) ∧ v < N ∧ seen s v ∧ ¬ seen s0 v ∧ ∀ k x, k < st.next → (lk.getD v [])[k]? = some x → seen s x.1.toNat
  done : ∀ v, v < N → seen s v → ¬ seen s0 v → (∃ st ∈ s.path, st.v = (v : Int)) ∨ ∀ w, Adj l v w → seen s w
  me : seen s r
/-- The links are the edges. -/
structure LinksOK (N : Nat) (l : List Ed) (lk : List (List (Int × Int))) : Prop where
  ends : Ends N l
  sound : ∀ v x, v < N → x ∈ lk.getD v [] → ∃ w : Nat, x.1 = (w : Int) ∧ w < N ∧ Adj l v w
  full : ∀ v w, v < N → Adj l v w → ∃ x ∈ lk.getD v [], x.1.toNat = w
/-- Another way with the same vertices, each as far. -/
theorem RunI.same {N : Nat} {l : List Ed} {lk : List (List (Int × Int))} {s0 : WS} {r : Nat} {s s' : WS} (h : RunI N l lk s0 r s) (hD : s'.depth = s.depth) (hR : s'.root = s.root)
    (h1 : ∀ st ∈ s'.path, ∃ v : Nat, st.v = (v : Int) ∧ v < N ∧ seen s v ∧ ¬ seen s0 v ∧ ∀ k x, k < st.next → (lk.getD v [])[k]? = some x → seen s x.1.toNat)
    (h2 : ∀ v, v < N → seen s v → ¬ seen s0 v → (∃ st ∈ s'.path, st.v = (v : Int)) ∨ ∀ w, Adj l v w → seen s w) : RunI N l lk s0 r s' := by
  have hs : ∀ v, seen s' v ↔ seen s v := fun v => by unfold seen; rw [hD]
  refine ⟨by rw [hD]; exact h.lenD, by rw [hR]; exact h.lenR, ?_, ?_, ?_, ?_, (hs r).2 h.me⟩
  · intro v hv h0
    rw [hs, hR]
    exact h.old v hv h0
  · intro v hv h0 h3
    rw [hR]
    exact h.new v hv h0 ((hs v).1 h3)
  · intro st hst
    obtain ⟨v, a, b, c, d, e⟩ := h1 st hst
    exact ⟨v, a, b, (hs v).2 c, d, fun k x hk hx => (hs _).2 (e k x hk hx)⟩
  · intro v hv h3 h0
    rcases h2 v hv ((hs v).1 h3) h0 with h4 | h4
    · exact .inl h4
    · exact .inr fun w hw => (hs w).2 (h4 w hw)
theorem path_last {s : WS} {top : Stp} (h : s.path.getLast? = some top) : s.path = s.path.dropLast ++ [top] := by
  obtain ⟨h1, h2⟩ := List.getLast?_eq_some_iff.1 h
  rw [h2]
  simp
theorem RunI.leave {N : Nat} {l : List Ed} {lk : List (List (Int × Int))} {s0 : WS} {r : Nat} {s : WS} {init : List Stp} {top : Stp} (h : RunI N l lk s0 r s) (hK : LinksOK N l lk) (hp : s.path = init ++ [top]) (hn : top.next = (lk.getD top.v.toNat []).length) : RunI N l lk s0 r (leaveW s init top) := by
  have hmem : ∀ st ∈ init, st ∈ s.path := fun st hst => by rw [hp]; exact List.mem_append_left _ hst
  have hdone : ∀ v, v < N → seen s v → ¬ seen s0 v → (∃ st ∈ init, st.v = (v : Int)) ∨ ∀ w, Adj l v w → seen s w := by
    intro v hv h3 h0
    rcases h.done v hv h3 h0 with ⟨st, hst, e⟩ | h4
    · rw [hp] at hst
      rcases List.mem_append.1 hst with hst | hst
      · exact .inl ⟨st, hst, e⟩
      · obtain rfl := List.mem_singleton.1 hst
        refine .inr fun w hw => ?_
        obtain ⟨v', e1, hv', _, _, hall⟩ := h.way st (by rw [hp]; simp)
        have : v' = v := by omega
        subst this
        obtain ⟨x, hx, hxw⟩ := hK.full v' w hv' hw
        obtain ⟨k, hk⟩ := List.getElem?_of_mem hx
        have hkl := (List.getElem?_eq_some_iff.1 hk).1
        rw [e1, Int.toNat_natCast] at hn
        have := hall k x (by omega) hk
        rwa [hxw] at this
    · exact .inr h4
  unfold leaveW
  cases hl : init.getLast? with
  | none =>
    have hi : init = [] := List.getLast?_eq_none_iff.1 hl
    refine h.same rfl rfl (fun st hst => by simp at hst) ?_
    intro v hv h3 h0
    rcases hdone v hv h3 h0 with ⟨st, hst, _⟩ | h4
    · rw [hi] at hst; simp at hst
    · exact .inr h4
  | some t2 =>
    obtain ⟨ys, hys⟩ := List.getLast?_eq_some_iff.1 hl
    have hdl : init.dropLast = ys := by rw [hys]; simp
    simp only
    split
    · refine h.same rfl rfl ?_ ?_
      · intro st hst
        simp only [hdl] at hst
        rcases List.mem_append.1 hst with hst | hst
        · exact h.way st (hmem st (by rw [hys]; exact List.mem_append_left _ hst))
        · obtain rfl := List.mem_singleton.1 hst
          exact h.way t2 (hmem t2 (by rw [hys]; simp))
      · intro v hv h3 h0
        rcases hdone v hv h3 h0 with ⟨st, hst, e⟩ | h4
        · refine .inl ?_
          rw [hys] at hst
          rcases List.mem_append.1 hst with hst | hst
          · exact ⟨st, by simp only [hdl]; exact List.mem_append_left _ hst, e⟩
          · obtain rfl := List.mem_singleton.1 hst
            exact ⟨{ st with low := min st.low top.low }, by simp only [hdl]; exact List.mem_append_right _ (List.mem_singleton.2 rfl), e⟩
        · exact .inr h4
    · exact h.same rfl rfl (fun st hst => h.way st (hmem st hst)) hdone
theorem RunI.look {N : Nat} {l : List Ed} {lk : List (List (Int × Int))} {s0 : WS} {r : Nat} {s : WS} {init : List Stp} {top : Stp} {x : Int × Int} (h : RunI N l lk s0 r s) (hK : LinksOK N l lk) (hp : s.path = init ++ [top]) (hx : (lk.getD top.v.toNat [])[top.next]? = some x) : RunI N l lk s0 r (lookW s init { top with next := top.next + 1 } x) := by
  have hmem : ∀ st ∈ init, st ∈ s.path := fun st hst => by rw [hp]; exact List.mem_append_left _ hst
  obtain ⟨v, ev, hv, hsv, h0v, hall⟩ := h.way top (by rw [hp]; simp)
  have hx' := hx
  rw [ev, Int.toNat_natCast] at hx'
  obtain ⟨w, ew, hw, hadj⟩ := hK.sound v x hv (List.mem_of_getElem? hx')
  have ewt : x.1.toNat = w := by rw [ew]; rfl
  have evt : top.v.toNat = v := by rw [ev]; rfl
  have hstay : seen s w → ∀ t : Stp, t.v = top.v → t.next = top.next + 1 → ∃ v : Nat, t.v = (v : Int) ∧ v < N ∧ seen s v ∧ ¬ seen s0 v ∧ ∀ k y, k < t.next → (lk.getD v [])[k]? = some y → seen s y.1.toNat := by
    intro hsw t e1 e2
    refine ⟨v, by rw [e1, ev], hv, hsv, h0v, fun k y hk hy => ?_⟩
    by_cases hkn : k < top.next
    · exact hall k y hkn hy
    · have : k = top.next := by omega
      subst this
      rw [hx'] at hy
      cases hy
      rw [ewt]
      exact hsw
  have hback : ∀ t : Stp, t.v = top.v → seen s w → t.next = top.next + 1 → ∀ s' : WS, s'.depth = s.depth → s'.root = s.root → s'.path = init ++ [t] → RunI N l lk s0 r s' := by
    intro t e1 hsw e2 s' hD hR hP
    refine h.same hD hR ?_ ?_
    · intro st hst
      rw [hP] at hst
      rcases List.mem_append.1 hst with hst | hst
      · exact h.way st (hmem st hst)
      · obtain rfl := List.mem_singleton.1 hst
        exact hstay hsw st e1 e2
    · intro y hy h3 h0
      rcases h.done y hy h3 h0 with ⟨st, hst, e⟩ | h4
      · refine .inl ?_
        rw [hp] at hst
        rcases List.mem_append.1 hst with hst | hst
        · exact ⟨st, by rw [hP]; exact List.mem_append_left _ hst, e⟩
        · obtain rfl := List.mem_singleton.1 hst
          exact ⟨t, by rw [hP]; simp, by rw [e1]; exact e⟩
      · exact .inr h4
  unfold lookW
  have hat : at_ s.depth x.1 = s.depth.getD w 0 := by unfold at_; rw [ewt]
  have hat2 : at_ s.depth top.v = s.depth.getD v 0 := by unfold at_; rw [evt]
  have hat3 : at_ s.root top.v = s.root.getD v 0 := by unfold at_; rw [evt]
  simp only [hat, hat2, hat3, ewt]
  by_cases hneg : s.depth.getD w 0 < 0
  · rw [if_pos hneg]
    have hsw : ¬ seen s w := fun e => by unfold seen at e; omega
    have h0w : ¬ seen s0 w := fun e => hsw (h.old w hw e).1
    have hne : w ≠ v := fun e => by subst e; exact hsw hsv
    have hd : ∀ y, (s.depth.set w (s.depth.getD v 0 + 1)).getD y 0 = if w = y then s.depth.getD v 0 + 1 else s.depth.getD y 0 := fun y => by
      rw [set_getD, h.lenD]
      by_cases e : w = y
      · rw [if_pos ⟨e, hw⟩, if_pos e]
      · rw [if_neg (fun a => e a.1), if_neg e]
    have hr : ∀ y, (s.root.set w (s.root.getD v 0)).getD y 0 = if w = y then s.root.getD v 0 else s.root.getD y 0 := fun y => by
      rw [set_getD, h.lenR]
      by_cases e : w = y
      · rw [if_pos ⟨e, hw⟩, if_pos e]
      · rw [if_neg (fun a => e a.1), if_neg e]
    have hup : ∀ y, seen s y → 0 ≤ (s.depth.set w (s.depth.getD v 0 + 1)).getD y 0 := fun y hy => by
      rw [hd]
      split
      · unfold seen at hsv; omega
      · exact hy
    have hnw : 0 ≤ (s.depth.set w (s.depth.getD v 0 + 1)).getD w 0 := by
      rw [hd, if_pos rfl]
      unfold seen at hsv
      omega
    have hdn : ∀ y, 0 ≤ (s.depth.set w (s.depth.getD v 0 + 1)).getD y 0 → y ≠ w → seen s y := fun y hy hne => by
      rw [hd, if_neg (fun e => hne e.symm)] at hy
      exact hy
    obtain ⟨hrv, hcv⟩ := h.new v hv h0v hsv
    refine ⟨by simpa using h.lenD, by simpa using h.lenR, ?_, ?_, ?_, ?_, hup r h.me⟩
    · intro y hy h0
      obtain ⟨h3, h4⟩ := h.old y hy h0
      refine ⟨hup y h3, ?_⟩
      show (s.root.set w (s.root.getD v 0)).getD y 0 = _
      rw [hr, if_neg (fun e => by subst e; exact hsw h3)]
      exact h4
    · intro y hy h0 h3
      show (s.root.set w (s.root.getD v 0)).getD y 0 = _ ∧ _
      rw [hr]
      by_cases e : w = y
      · subst e
        rw [if_pos rfl]
        exact ⟨hrv, hcv.trans (.one hadj)⟩
      · rw [if_neg e]
        exact h.new y hy h0 (hdn y h3 (fun a => e a.symm))
    · intro st hst
      rcases List.mem_append.1 hst with hst | hst
      · rcases List.mem_append.1 hst with hst | hst
        · obtain ⟨y, a1, a2, a3, a4, a5⟩ := h.way st (hmem st hst)
          exact ⟨y, a1, a2, hup y a3, a4, fun k z hk hz => hup _ (a5 k z hk hz)⟩
        · obtain rfl := List.mem_singleton.1 hst
          refine ⟨v, ev, hv, hup v hsv, h0v, fun k z hk hz => ?_⟩
          by_cases hkn : k < top.next
          · exact hup _ (hall k z hkn hz)
          · have hk' : k < top.next + 1 := hk
            have : k = top.next := by omega
            subst this
            rw [hx'] at hz
            cases hz
            rw [ewt]
            exact hnw
      · obtain rfl := List.mem_singleton.1 hst
        exact ⟨w, ew, hw, hnw, h0w, fun k z hk => by simp at hk⟩
    · intro y hy h3 h0
      by_cases e : y = w
      · subst e
        exact .inl ⟨⟨x.1, x.2, 0, s.depth.getD v 0, s.opn.length⟩, List.mem_append_right _ (List.mem_singleton.2 rfl), ew⟩
      · rcases h.done y hy (hdn y h3 e) h0 with ⟨st, hst, e2⟩ | h4
        · refine .inl ?_
          rw [hp] at hst
          rcases List.mem_append.1 hst with hst | hst
          · exact ⟨st, List.mem_append_left _ (List.mem_append_left _ hst), e2⟩
          · obtain rfl := List.mem_singleton.1 hst
            exact ⟨{ st with next := st.next + 1 }, List.mem_append_left _ (List.mem_append_right _ (List.mem_singleton.2 rfl)), e2⟩
        · exact .inr fun z hz => hup z (h4 z hz)
  · rw [if_neg hneg]
    have hsw : seen s w := by unfold seen; omega
    split
    · exact hback { top with next := top.next + 1, low := min top.low (s.depth.getD w 0) } rfl hsw rfl _ rfl rfl rfl
    · exact hback { top with next := top.next + 1 } rfl hsw rfl _ rfl rfl rfl
theorem RunI.step {N : Nat} {l : List Ed} {lk : List (List (Int × Int))} {s0 : WS} {r : Nat} {s : WS} (h : RunI N l lk s0 r s) (hK : LinksOK N l lk) (hN : ∀ st ∈ s.path, st.next ≤ (lk.getD st.v.toNat []).length) : RunI N l lk s0 r (stepW lk s) := by
  unfold stepW
  cases hl : s.path.getLast? with
  | none => exact h
  | some top =>
    have hp := path_last hl
    simp only
    split
    · rename_i hn
      exact h.leave hK hp hn
    · rename_i hn
      have hle := hN top (by rw [hp]; simp)
      have hlt : top.next < (lk.getD top.v.toNat []).length := by omega
      have hx := List.getElem?_eq_getElem hlt
      have e : (lk.getD top.v.toNat []).getD top.next (0, 0) = (lk.getD top.v.toNat [])[top.next] := by rw [List.getD_eq_getElem?_getD, hx]; rfl
      rw [e]
      exact h.look hK hp hx
end Go.Proofs.Ytdgecflljgnobaa
