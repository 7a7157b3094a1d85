import Derived.Test.YtjpkojmjiaoifaaGreatZAH
import Derived.Test.YtjpkojmjiaoifaaGreatZAO
import Derived.Test.YtjpkojmjiaoifaaGreatZAF
namespace Go.Proofs.YtjpkojmjiaoifaaGreat
open Go Go.Proofs
theorem set_getD (l : List Int) (i j : Nat) (x : Int) : (l.set i x).getD j 0 = if i = j ∧ i < l.length then x else l.getD j 0 := by
 rw [List.getD_eq_getElem?_getD, List.getElem?_set]
 by_cases h : i = j
 ·subst h
  by_cases hl : i < l.length
  ·rw [if_pos rfl, if_pos hl, if_pos ⟨rfl, hl⟩]; rfl
  ·rw [if_pos rfl, if_neg hl, if_neg (fun h => hl h.2), List.getD_eq_getElem?_getD, List.getElem?_eq_none (by omega)]
 ·rw [if_neg h, if_neg (fun e => h e.1), List.getD_eq_getElem?_getD]
def seen (s : WS) (v : Nat) : Prop := 0 ≤ s.depth.getD v 0
structure RunI (N : Nat) (l : List Ed) (lk : List (List (Int × Int))) (s0 : WS) (r : Nat) (s : WS) : Prop where
 lenD : s.depth.length = N
 lenR : s.root.length = N
 old : ∀ v, v < N → seen s0 v → seen s v ∧ s.root.getD v 0 = s0.root.getD v 0
 new : ∀ v, v < N → ¬ seen s0 v → seen s v → s.root.getD v 0 = (r : Int) ∧ Conn l r v
 way : ∀ st ∈ s.path, ∃ v : Nat, st.v = (v : Int) ∧ v < N ∧ seen s v ∧ ¬ seen s0 v ∧ ∀ k x, k < st.next → (lk.getD v [])[k]? = some x → seen s x.1.toNat
 done : ∀ v, v < N → seen s v → ¬ seen s0 v → (∃ st ∈ s.path, st.v = (v : Int)) ∨ ∀ w, Adj l v w → seen s w
 me : seen s r
structure LinksOK (N : Nat) (l : List Ed) (lk : List (List (Int × Int))) : Prop where
 ends : Ends N l
 sound : ∀ v x, v < N → x ∈ lk.getD v [] → ∃ w : Nat, x.1 = (w : Int) ∧ w < N ∧ Adj l v w
 full : ∀ v w, v < N → Adj l v w → ∃ x ∈ lk.getD v [], x.1.toNat = w
theorem RunI.same {N : Nat} {l : List Ed} {lk : List (List (Int × Int))} {s0 : WS} {r : Nat} {s s' : WS} (h : RunI N l lk s0 r s) (hD : s'.depth = s.depth) (hR : s'.root = s.root)
  (h1 : ∀ st ∈ s'.path, ∃ v : Nat, st.v = (v : Int) ∧ v < N ∧ seen s v ∧ ¬ seen s0 v ∧ ∀ k x, k < st.next → (lk.getD v [])[k]? = some x → seen s x.1.toNat)
  (h2 : ∀ v, v < N → seen s v → ¬ seen s0 v → (∃ st ∈ s'.path, st.v = (v : Int)) ∨ ∀ w, Adj l v w → seen s w) : RunI N l lk s0 r s' := by
 have hs : ∀ v, seen s' v ↔ seen s v := fun v => by unfold seen; rw [hD]
 refine ⟨by rw [hD]; exact h.lenD, by rw [hR]; exact h.lenR, ?_, ?_, ?_, ?_, (hs r).2 h.me⟩
 ·intro v hv h0
  rw [hs, hR]
  exact h.old v hv h0
 ·intro v hv h0 h3
  rw [hR]
  exact h.new v hv h0 ((hs v).1 h3)
 ·intro st hst
  obtain ⟨v, a, b, c, d, e⟩ := h1 st hst
  exact ⟨v, a, b, (hs v).2 c, d, fun k x hk hx => (hs _).2 (e k x hk hx)⟩
 ·intro v hv h3 h0
  rcases h2 v hv ((hs v).1 h3) h0 with h4 | h4
  ·exact .inl h4
  ·exact .inr fun w hw => (hs w).2 (h4 w hw)
theorem path_last {s : WS} {top : Stp} (h : s.path.getLast? = some top) : s.path = s.path.dropLast ++ [top] := by
 obtain ⟨h1, h2⟩ := List.getLast?_eq_some_iff.1 h
 rw [h2]
 simp
theorem RunI.leave {N : Nat} {l : List Ed} {lk : List (List (Int × Int))} {s0 : WS} {r : Nat} {s : WS} {init : List Stp} {top : Stp} (h : RunI N l lk s0 r s) (hK : LinksOK N l lk) (hp : s.path = init ++ [top]) (hn : top.next = (lk.getD top.v.toNat []).length) : RunI N l lk s0 r (leaveW s init top) := by
 have hmem : ∀ st ∈ init, st ∈ s.path := fun st hst => by rw [hp]; exact List.mem_append_left _ hst
 have hdone : ∀ v, v < N → seen s v → ¬ seen s0 v → (∃ st ∈ init, st.v = (v : Int)) ∨ ∀ w, Adj l v w → seen s w := by
  intro v hv h3 h0
  rcases h.done v hv h3 h0 with ⟨st, hst, e⟩ | h4
  ·rw [hp] at hst
   rcases List.mem_append.1 hst with hst | hst
   ·exact .inl ⟨st, hst, e⟩
   ·obtain rfl := List.mem_singleton.1 hst
    refine .inr fun w hw => ?_
    obtain ⟨v', e1, hv', _, _, hall⟩ := h.way st (by rw [hp]; simp)
    have : v' = v := by omega
    subst this
    obtain ⟨x, hx, hxw⟩ := hK.full v' w hv' hw
    obtain ⟨k, hk⟩ := List.getElem?_of_mem hx
    have hkl := (List.getElem?_eq_some_iff.1 hk).1
    rw [e1, Int.toNat_natCast] at hn
    have := hall k x (by omega) hk
    rwa [hxw] at this
  ·exact .inr h4
 unfold leaveW
 cases hl : init.getLast? with
 | none =>
  have hi : init = [] := List.getLast?_eq_none_iff.1 hl
  refine h.same rfl rfl (fun st hst => by simp at hst) ?_
  intro v hv h3 h0
  rcases hdone v hv h3 h0 with ⟨st, hst, _⟩ | h4
  ·rw [hi] at hst; simp at hst
  ·exact .inr h4
 | some t2 =>
  obtain ⟨ys, hys⟩ := List.getLast?_eq_some_iff.1 hl
  have hdl : init.dropLast = ys := by rw [hys]; simp
  simp only
  split
  ·refine h.same rfl rfl ?_ ?_
   ·intro st hst
    simp only [hdl] at hst
    rcases List.mem_append.1 hst with hst | hst
    ·exact h.way st (hmem st (by rw [hys]; exact List.mem_append_left _ hst))
    ·obtain rfl := List.mem_singleton.1 hst
     exact h.way t2 (hmem t2 (by rw [hys]; simp))
   ·intro v hv h3 h0
    rcases hdone v hv h3 h0 with ⟨st, hst, e⟩ | h4
    ·refine .inl ?_
     rw [hys] at hst
     rcases List.mem_append.1 hst with hst | hst
     ·exact ⟨st, by simp only [hdl]; exact List.mem_append_left _ hst, e⟩
     ·obtain rfl := List.mem_singleton.1 hst
      exact ⟨{ st with low := min st.low top.low }, by simp only [hdl]; exact List.mem_append_right _ (List.mem_singleton.2 rfl), e⟩
    ·exact .inr h4
  ·exact h.same rfl rfl (fun st hst => h.way st (hmem st hst)) hdone
theorem RunI.look {N : Nat} {l : List Ed} {lk : List (List (Int × Int))} {s0 : WS} {r : Nat} {s : WS} {init : List Stp} {top : Stp} {x : Int × Int} (h : RunI N l lk s0 r s) (hK : LinksOK N l lk) (hp : s.path = init ++ [top]) (hx : (lk.getD top.v.toNat [])[top.next]? = some x) : RunI N l lk s0 r (lookW s init { top with next := top.next + 1 } x) := by
 have hmem : ∀ st ∈ init, st ∈ s.path := fun st hst => by rw [hp]; exact List.mem_append_left _ hst
 obtain ⟨v, ev, hv, hsv, h0v, hall⟩ := h.way top (by rw [hp]; simp)
 have hx' := hx
 rw [ev, Int.toNat_natCast] at hx'
 obtain ⟨w, ew, hw, hadj⟩ := hK.sound v x hv (List.mem_of_getElem? hx')
 have ewt : x.1.toNat = w := by rw [ew]; rfl
 have evt : top.v.toNat = v := by rw [ev]; rfl
 have hstay : seen s w → ∀ t : Stp, t.v = top.v → t.next = top.next + 1 → ∃ v : Nat, t.v = (v : Int) ∧ v < N ∧ seen s v ∧ ¬ seen s0 v ∧ ∀ k y, k < t.next → (lk.getD v [])[k]? = some y → seen s y.1.toNat := by
  intro hsw t e1 e2
  refine ⟨v, by rw [e1, ev], hv, hsv, h0v, fun k y hk hy => ?_⟩
  by_cases hkn : k < top.next
  ·exact hall k y hkn hy
  ·have : k = top.next := by omega
   subst this
   rw [hx'] at hy
   cases hy
   rw [ewt]
   exact hsw
 have hback : ∀ t : Stp, t.v = top.v → seen s w → t.next = top.next + 1 → ∀ s' : WS, s'.depth = s.depth → s'.root = s.root → s'.path = init ++ [t] → RunI N l lk s0 r s' := by
  intro t e1 hsw e2 s' hD hR hP
  refine h.same hD hR ?_ ?_
  ·intro st hst
   rw [hP] at hst
   rcases List.mem_append.1 hst with hst | hst
   ·exact h.way st (hmem st hst)
   ·obtain rfl := List.mem_singleton.1 hst
    exact hstay hsw st e1 e2
  ·intro y hy h3 h0
   rcases h.done y hy h3 h0 with ⟨st, hst, e⟩ | h4
   ·refine .inl ?_
    rw [hp] at hst
    rcases List.mem_append.1 hst with hst | hst
    ·exact ⟨st, by rw [hP]; exact List.mem_append_left _ hst, e⟩
    ·obtain rfl := List.mem_singleton.1 hst
     exact ⟨t, by rw [hP]; simp, by rw [e1]; exact e⟩
   ·exact .inr h4
 unfold lookW
 have hat : at_ s.depth x.1 = s.depth.getD w 0 := by unfold at_; rw [ewt]
 have hat2 : at_ s.depth top.v = s.depth.getD v 0 := by unfold at_; rw [evt]
 have hat3 : at_ s.root top.v = s.root.getD v 0 := by unfold at_; rw [evt]
 simp only [hat, hat2, hat3, ewt]
 by_cases hneg : s.depth.getD w 0 < 0
 ·rw [if_pos hneg]
  have hsw : ¬ seen s w := fun e => by unfold seen at e; omega
  have h0w : ¬ seen s0 w := fun e => hsw (h.old w hw e).1
  have hne : w ≠ v := fun e => by subst e; exact hsw hsv
  have hd : ∀ y, (s.depth.set w (s.depth.getD v 0 + 1)).getD y 0 = if w = y then s.depth.getD v 0 + 1 else s.depth.getD y 0 := fun y => by
   rw [set_getD, h.lenD]
   by_cases e : w = y
   ·rw [if_pos ⟨e, hw⟩, if_pos e]
   ·rw [if_neg (fun a => e a.1), if_neg e]
  have hr : ∀ y, (s.root.set w (s.root.getD v 0)).getD y 0 = if w = y then s.root.getD v 0 else s.root.getD y 0 := fun y => by
   rw [set_getD, h.lenR]
   by_cases e : w = y
   ·rw [if_pos ⟨e, hw⟩, if_pos e]
   ·rw [if_neg (fun a => e a.1), if_neg e]
  have hup : ∀ y, seen s y → 0 ≤ (s.depth.set w (s.depth.getD v 0 + 1)).getD y 0 := fun y hy => by
   rw [hd]
   split
   ·unfold seen at hsv; omega
   ·exact hy
  have hnw : 0 ≤ (s.depth.set w (s.depth.getD v 0 + 1)).getD w 0 := by
   rw [hd, if_pos rfl]
   unfold seen at hsv
   omega
  have hdn : ∀ y, 0 ≤ (s.depth.set w (s.depth.getD v 0 + 1)).getD y 0 → y ≠ w → seen s y := fun y hy hne => by
   rw [hd, if_neg (fun e => hne e.symm)] at hy
   exact hy
  obtain ⟨hrv, hcv⟩ := h.new v hv h0v hsv
  refine ⟨by simpa using h.lenD, by simpa using h.lenR, ?_, ?_, ?_, ?_, hup r h.me⟩
  ·intro y hy h0
   obtain ⟨h3, h4⟩ := h.old y hy h0
   refine ⟨hup y h3, ?_⟩
   show (s.root.set w (s.root.getD v 0)).getD y 0 = _
   rw [hr, if_neg (fun e => by subst e; exact hsw h3)]
   exact h4
  ·intro y hy h0 h3
   show (s.root.set w (s.root.getD v 0)).getD y 0 = _ ∧ _
   rw [hr]
   by_cases e : w = y
   ·subst e
    rw [if_pos rfl]
    exact ⟨hrv, hcv.trans (.one hadj)⟩
   ·rw [if_neg e]
    exact h.new y hy h0 (hdn y h3 (fun a => e a.symm))
  ·intro st hst
   rcases List.mem_append.1 hst with hst | hst
   ·rcases List.mem_append.1 hst with hst | hst
    ·obtain ⟨y, a1, a2, a3, a4, a5⟩ := h.way st (hmem st hst)
     exact ⟨y, a1, a2, hup y a3, a4, fun k z hk hz => hup _ (a5 k z hk hz)⟩
    ·obtain rfl := List.mem_singleton.1 hst
     refine ⟨v, ev, hv, hup v hsv, h0v, fun k z hk hz => ?_⟩
     by_cases hkn : k < top.next
     ·exact hup _ (hall k z hkn hz)
     ·have hk' : k < top.next + 1 := hk
      have : k = top.next := by omega
      subst this
      rw [hx'] at hz
      cases hz
      rw [ewt]
      exact hnw
   ·obtain rfl := List.mem_singleton.1 hst
    exact ⟨w, ew, hw, hnw, h0w, fun k z hk => by simp at hk⟩
  ·intro y hy h3 h0
   by_cases e : y = w
   ·subst e
    exact .inl ⟨⟨x.1, x.2, 0, s.depth.getD v 0, s.opn.length⟩, List.mem_append_right _ (List.mem_singleton.2 rfl), ew⟩
   ·rcases h.done y hy (hdn y h3 e) h0 with ⟨st, hst, e2⟩ | h4
    ·refine .inl ?_
     rw [hp] at hst
     rcases List.mem_append.1 hst with hst | hst
     ·exact ⟨st, List.mem_append_left _ (List.mem_append_left _ hst), e2⟩
     ·obtain rfl := List.mem_singleton.1 hst
      exact ⟨{ st with next := st.next + 1 }, List.mem_append_left _ (List.mem_append_right _ (List.mem_singleton.2 rfl)), e2⟩
    ·exact .inr fun z hz => hup z (h4 z hz)
 ·rw [if_neg hneg]
  have hsw : seen s w := by unfold seen; omega
  split
  ·exact hback { top with next := top.next + 1, low := min top.low (s.depth.getD w 0) } rfl hsw rfl _ rfl rfl rfl
  ·exact hback { top with next := top.next + 1 } rfl hsw rfl _ rfl rfl rfl
theorem RunI.step {N : Nat} {l : List Ed} {lk : List (List (Int × Int))} {s0 : WS} {r : Nat} {s : WS} (h : RunI N l lk s0 r s) (hK : LinksOK N l lk) (hN : ∀ st ∈ s.path, st.next ≤ (lk.getD st.v.toNat []).length) : RunI N l lk s0 r (stepW lk s) := by
 unfold stepW
 cases hl : s.path.getLast? with
 | none => exact h
 | some top =>
  have hp := path_last hl
  simp only
  split
  ·rename_i hn
   exact h.leave hK hp hn
  ·rename_i hn
   have hle := hN top (by rw [hp]; simp)
   have hlt : top.next < (lk.getD top.v.toNat []).length := by omega
   have hx := List.getElem?_eq_getElem hlt
   have e : (lk.getD top.v.toNat []).getD top.next (0, 0) = (lk.getD top.v.toNat [])[top.next] := by rw [List.getD_eq_getElem?_getD, hx]; rfl
   rw [e]
   exact h.look hK hp hx
end Go.Proofs.YtjpkojmjiaoifaaGreat

namespace Go.Proofs.YtjpkojmjiaoifaaGreat
open Go Go.Proofs
def degW (lk : List (List (Int × Int))) (v : Int) : Nat := (lk.getD v.toNat []).length
def NextOK (lk : List (List (Int × Int))) (s : WS) : Prop := ∀ st ∈ s.path, st.next ≤ degW lk st.v
def wayPot (lk : List (List (Int × Int))) (P : List Stp) : Nat := (P.map fun st => 2 * (degW lk st.v - st.next) + 1).sum
def sumN (f : Nat → Nat) : Nat → Nat
 | 0 => 0
 | n + 1 => sumN f n + f n
theorem sumN_congr {f g : Nat → Nat} : ∀ {n : Nat}, (∀ v, v < n → g v = f v) → sumN g n = sumN f n
 | 0, _ => rfl
 | n + 1, h => by rw [sumN, sumN, sumN_congr (fun v hv => h v (by omega)), h n (by omega)]
theorem sumN_change {f g : Nat → Nat} {w : Nat} : ∀ {n : Nat}, w < n → (∀ v, v ≠ w → g v = f v) → sumN g n + f w = sumN f n + g w
 | 0, h, _ => by omega
 | n + 1, h, hv => by
  rw [sumN, sumN]
  by_cases e : w = n
  ·subst e
   have := sumN_congr (f := f) (g := g) (n := w) (fun v hv' => hv v (by omega))
   omega
  ·have := sumN_change (f := f) (g := g) (w := w) (n := n) (by omega) hv
   have := hv n (fun a => e a.symm)
   omega
def unseenPot (lk : List (List (Int × Int))) (N : Nat) (D : List Int) : Nat := sumN (fun v => if D.getD v 0 < 0 then (lk.getD v []).length + 1 else 0) N
def pot (lk : List (List (Int × Int))) (N : Nat) (s : WS) : Nat := 2 * unseenPot lk N s.depth + wayPot lk s.path
theorem wayPot_app (lk : List (List (Int × Int))) (P Q : List Stp) : wayPot lk (P ++ Q) = wayPot lk P + wayPot lk Q := by simp [wayPot]
theorem wayPot_one (lk : List (List (Int × Int))) (st : Stp) : wayPot lk [st] = 2 * (degW lk st.v - st.next) + 1 := by simp [wayPot]
theorem leave_less {lk : List (List (Int × Int))} {N : Nat} {s : WS} {init : List Stp} {top : Stp} (hp : s.path = init ++ [top]) : pot lk N (leaveW s init top) + 1 ≤ pot lk N s := by
 have h1 : wayPot lk s.path = wayPot lk init + wayPot lk [top] := by rw [hp, wayPot_app]
 rw [wayPot_one] at h1
 unfold pot leaveW
 cases hl : init.getLast? with
 | none =>
  have hi : init = [] := List.getLast?_eq_none_iff.1 hl
  subst hi
  simp only
  have : wayPot lk [] = 0 := rfl
  omega
 | some t2 =>
  obtain ⟨ys, hys⟩ := List.getLast?_eq_some_iff.1 hl
  have hdl : init.dropLast = ys := by rw [hys]; simp
  have h2 : wayPot lk init = wayPot lk ys + wayPot lk [t2] := by rw [hys, wayPot_app]
  simp only
  split
  ·simp only [hdl]
   rw [wayPot_app, wayPot_one]
   rw [wayPot_one] at h2
   simp only
   omega
  ·simp only
   omega
theorem leave_next {lk : List (List (Int × Int))} {s : WS} {init : List Stp} {top : Stp} (h : NextOK lk s) (hp : s.path = init ++ [top]) : NextOK lk (leaveW s init top) := by
 have hi : ∀ st ∈ init, st.next ≤ degW lk st.v := fun st hst => h st (by rw [hp]; exact List.mem_append_left _ hst)
 unfold leaveW
 cases hl : init.getLast? with
 | none => intro st hst; simp at hst
 | some t2 =>
  obtain ⟨ys, hys⟩ := List.getLast?_eq_some_iff.1 hl
  have hdl : init.dropLast = ys := by rw [hys]; simp
  simp only
  split
  ·intro st hst
   simp only [hdl] at hst
   rcases List.mem_append.1 hst with hst | hst
   ·exact hi st (by rw [hys]; exact List.mem_append_left _ hst)
   ·obtain rfl := List.mem_singleton.1 hst
    exact hi t2 (by rw [hys]; simp)
  ·exact hi
theorem unseen_set {lk : List (List (Int × Int))} {N : Nat} {D : List Int} {w : Nat} {d : Int} (hD : D.length = N) (hw : w < N) (hneg : D.getD w 0 < 0) (hd : 0 ≤ d) : unseenPot lk N (D.set w d) + ((lk.getD w []).length + 1) = unseenPot lk N D := by
 have hch := sumN_change (f := fun v => if D.getD v 0 < 0 then (lk.getD v []).length + 1 else 0) (g := fun v => if (D.set w d).getD v 0 < 0 then (lk.getD v []).length + 1 else 0) (w := w) (n := N) hw (fun v hne => by
  have e : (D.set w d).getD v 0 = D.getD v 0 := by rw [set_getD, if_neg (fun a => hne a.1.symm)]
  show (if (D.set w d).getD v 0 < 0 then (lk.getD v []).length + 1 else 0) = if D.getD v 0 < 0 then (lk.getD v []).length + 1 else 0
  rw [e])
 have eg : (D.set w d).getD w 0 = d := by rw [set_getD, if_pos ⟨rfl, by omega⟩]
 have e1 : (if (D.set w d).getD w 0 < 0 then (lk.getD w []).length + 1 else 0) = 0 := by rw [eg, if_neg (by omega)]
 have e2 : (if D.getD w 0 < 0 then (lk.getD w []).length + 1 else 0) = (lk.getD w []).length + 1 := if_pos hneg
 have h3 : unseenPot lk N (D.set w d) + (if D.getD w 0 < 0 then (lk.getD w []).length + 1 else 0) = unseenPot lk N D + (if (D.set w d).getD w 0 < 0 then (lk.getD w []).length + 1 else 0) := hch
 rw [e1, e2] at h3
 exact h3
theorem look_less {lk : List (List (Int × Int))} {N : Nat} {s : WS} {init : List Stp} {top : Stp} {x : Int × Int} (hp : s.path = init ++ [top]) (hlt : top.next < degW lk top.v) (hD : s.depth.length = N) (hw : x.1.toNat < N) (hv : 0 ≤ at_ s.depth top.v) :
  pot lk N (lookW s init { top with next := top.next + 1 } x) + 1 ≤ pot lk N s := by
 have h1 : wayPot lk s.path = wayPot lk init + (2 * (degW lk top.v - top.next) + 1) := by rw [hp, wayPot_app, wayPot_one]
 unfold lookW
 by_cases hneg : at_ s.depth x.1 < 0
 ·rw [if_pos hneg]
  unfold pot
  simp only
  rw [wayPot_app, wayPot_app, wayPot_one, wayPot_one]
  simp only
  have e1 := unseen_set (lk := lk) hD hw hneg (d := at_ s.depth top.v + 1) (by omega)
  have e2 : degW lk x.1 = (lk.getD x.1.toNat []).length := rfl
  omega
 ·rw [if_neg hneg]
  split
  ·unfold pot
   simp only
   rw [wayPot_app, wayPot_one]
   simp only
   omega
  ·unfold pot
   simp only
   rw [wayPot_app, wayPot_one]
   simp only
   omega
theorem look_next {lk : List (List (Int × Int))} {s : WS} {init : List Stp} {top : Stp} {x : Int × Int} (h : NextOK lk s) (hp : s.path = init ++ [top]) (hlt : top.next < degW lk top.v) : NextOK lk (lookW s init { top with next := top.next + 1 } x) := by
 have hi : ∀ st ∈ init, st.next ≤ degW lk st.v := fun st hst => h st (by rw [hp]; exact List.mem_append_left _ hst)
 have one : ∀ t : Stp, t.v = top.v → t.next = top.next + 1 → t.next ≤ degW lk t.v := fun t e1 e2 => by rw [e1, e2]; omega
 unfold lookW
 split
 ·intro st hst
  rcases List.mem_append.1 hst with hst | hst
  ·rcases List.mem_append.1 hst with hst | hst
   ·exact hi st hst
   ·obtain rfl := List.mem_singleton.1 hst
    exact one _ rfl rfl
  ·obtain rfl := List.mem_singleton.1 hst
   exact Nat.zero_le _
 ·split
  ·intro st hst
   rcases List.mem_append.1 hst with hst | hst
   ·exact hi st hst
   ·obtain rfl := List.mem_singleton.1 hst
    exact one _ rfl rfl
  ·intro st hst
   rcases List.mem_append.1 hst with hst | hst
   ·exact hi st hst
   ·obtain rfl := List.mem_singleton.1 hst
    exact one _ rfl rfl
theorem step_all {N : Nat} {l : List Ed} {lk : List (List (Int × Int))} {s0 : WS} {r : Nat} {s : WS} (h : RunI N l lk s0 r s) (hK : LinksOK N l lk) (hN : NextOK lk s) (hne : s.path ≠ []) : RunI N l lk s0 r (stepW lk s) ∧ NextOK lk (stepW lk s) ∧ pot lk N (stepW lk s) + 1 ≤ pot lk N s := by
 refine ⟨h.step hK hN, ?_⟩
 unfold stepW
 cases hl : s.path.getLast? with
 | none => exact absurd (List.getLast?_eq_none_iff.1 hl) hne
 | some top =>
  have hp := path_last hl
  simp only
  split
  ·exact ⟨leave_next hN hp, leave_less hp⟩
  ·rename_i hn
   have hle := hN top (by rw [hp]; simp)
   have hlt : top.next < degW lk top.v := by unfold degW at hle ⊢; omega
   have hx := List.getElem?_eq_getElem (l := lk.getD top.v.toNat []) hlt
   have e : (lk.getD top.v.toNat []).getD top.next (0, 0) = (lk.getD top.v.toNat [])[top.next] := by rw [List.getD_eq_getElem?_getD, hx]; rfl
   obtain ⟨v, ev, hv, hsv, _, _⟩ := h.way top (by rw [hp]; simp)
   have evt : top.v.toNat = v := by rw [ev]; rfl
   obtain ⟨w, ew, hw, _⟩ := hK.sound v ((lk.getD top.v.toNat [])[top.next]) hv (by rw [← evt]; exact List.getElem_mem hlt)
   rw [e]
   exact ⟨look_next hN hp hlt, look_less hp hlt h.lenD (by rw [ew]; exact hw) (by unfold at_; rw [evt]; exact hsv)⟩
theorem step_stay {lk : List (List (Int × Int))} {s : WS} (hp : s.path = []) : stepW lk s = s := by
 unfold stepW
 rw [hp]
 rfl
theorem run_stay {lk : List (List (Int × Int))} {s : WS} (hp : s.path = []) : ∀ k, runW lk k s = s
 | 0 => rfl
 | k + 1 => by rw [runW, step_stay hp, run_stay hp k]
theorem run_all {N : Nat} {l : List Ed} {lk : List (List (Int × Int))} {s0 : WS} {r : Nat} (hK : LinksOK N l lk) : ∀ (k : Nat) {s : WS}, RunI N l lk s0 r s → NextOK lk s → pot lk N s ≤ k → RunI N l lk s0 r (runW lk k s) ∧ (runW lk k s).path = []
 | 0, s, h, _, hk => by
  refine ⟨h, ?_⟩
  cases hp : s.path with
  | nil => exact hp
  | cons st P =>
   have : wayPot lk s.path = (2 * (degW lk st.v - st.next) + 1) + wayPot lk P := by rw [hp]; simp [wayPot]
   unfold pot at hk
   omega
 | k + 1, s, h, hN, hk => by
  rw [runW]
  by_cases hp : s.path = []
  ·rw [step_stay hp, run_stay hp]
   exact ⟨h, hp⟩
  ·obtain ⟨h1, h2, h3⟩ := step_all h hK hN hp
   exact run_all hK k h1 h2 (by omega)
structure WalkI (N : Nat) (l : List Ed) (k : Nat) (s : WS) : Prop where
 lenD : s.depth.length = N
 lenR : s.root.length = N
 path : s.path = []
 upto : ∀ v, v < k → seen s v
 closed : ∀ v w, v < N → seen s v → Adj l v w → seen s w
 least : ∀ v, v < N → seen s v → ∃ x : Nat, s.root.getD v 0 = (x : Int) ∧ x < N ∧ Conn l v x ∧ ∀ u, u < N → Conn l v u → x ≤ u
theorem WalkI.conn {N : Nat} {l : List Ed} {k : Nat} {s : WS} (h : WalkI N l k s) (hE : Ends N l) {v u : Nat} (hc : Conn l v u) : v < N → seen s v → seen s u := by
 induction hc using Conn.ind with
 | refl => exact fun _ h => h
 | step ha _ ih => exact fun hv hs => ih (adj_below hE ha).2 (h.closed _ _ hv hs ha)
theorem start_all {N : Nat} {l : List Ed} {lk : List (List (Int × Int))} (hK : LinksOK N l lk) {fuel k : Nat} {s : WS} (h : WalkI N l k s) (hk : k < N) (hf : ∀ D : List Int, 2 * unseenPot lk N D ≤ fuel) : WalkI N l (k + 1) (startW lk fuel s k) := by
 unfold startW
 split
 ·rename_i hs
  refine ⟨h.lenD, h.lenR, h.path, fun v hv => ?_, h.closed, h.least⟩
  by_cases e : v = k
  ·subst e; exact hs
  ·exact h.upto v (by omega)
 ·rename_i hs
  have hns : ¬ seen s k := hs
  obtain ⟨s1, hs1⟩ : ∃ s1 : WS, s1 = { s with root := s.root.set k (k : Int), from_ := s.from_.set k (-1), depth := s.depth.set k 0, path := s.path ++ [(⟨(k : Int), -1, 0, 0, 0⟩ : Stp)] } := ⟨_, rfl⟩
  rw [← hs1]
  have hd : ∀ y, s1.depth.getD y 0 = if k = y then 0 else s.depth.getD y 0 := fun y => by
   rw [hs1]
   show (s.depth.set k 0).getD y 0 = _
   rw [set_getD, h.lenD]
   by_cases e : k = y
   ·rw [if_pos ⟨e, hk⟩, if_pos e]
   ·rw [if_neg (fun a => e a.1), if_neg e]
  have hr : ∀ y, s1.root.getD y 0 = if k = y then (k : Int) else s.root.getD y 0 := fun y => by
   rw [hs1]
   show (s.root.set k (k : Int)).getD y 0 = _
   rw [set_getD, h.lenR]
   by_cases e : k = y
   ·rw [if_pos ⟨e, hk⟩, if_pos e]
   ·rw [if_neg (fun a => e a.1), if_neg e]
  have hp1 : s1.path = [⟨(k : Int), -1, 0, 0, 0⟩] := by rw [hs1]; show s.path ++ _ = _; rw [h.path]; rfl
  have hI : RunI N l lk s k s1 := by
   refine ⟨by rw [hs1]; simpa using h.lenD, by rw [hs1]; simpa using h.lenR, ?_, ?_, ?_, ?_, by unfold seen; rw [hd, if_pos rfl]; exact Int.le_refl _⟩
   ·intro v hv h0
    have hne : k ≠ v := fun e => by subst e; exact hns h0
    unfold seen
    rw [hd, hr, if_neg hne, if_neg hne]
    exact ⟨h0, rfl⟩
   ·intro v hv h0 h1
    by_cases e : k = v
    ·subst e
     rw [hr, if_pos rfl]
     exact ⟨rfl, .refl _⟩
    ·unfold seen at h1
     rw [hd, if_neg e] at h1
     exact absurd h1 h0
   ·intro st hst
    rw [hp1] at hst
    obtain rfl := List.mem_singleton.1 hst
    exact ⟨k, rfl, hk, by unfold seen; rw [hd, if_pos rfl]; exact Int.le_refl _, hns, fun q x hq => by simp at hq⟩
   ·intro v hv h1 h0
    by_cases e : k = v
    ·subst e
     exact .inl ⟨_, by rw [hp1]; exact List.mem_singleton.2 rfl, rfl⟩
    ·unfold seen at h1
     rw [hd, if_neg e] at h1
     exact absurd h1 h0
  have hN1 : NextOK lk s1 := by
   intro st hst
   rw [hp1] at hst
   obtain rfl := List.mem_singleton.1 hst
   exact Nat.zero_le _
  have hpot : pot lk N s1 ≤ fuel := by
   have hneg : s.depth.getD k 0 < 0 := by unfold seen at hns; omega
   have e1 := unseen_set (lk := lk) h.lenD hk hneg (d := 0) (Int.le_refl _)
   have e2 : s1.depth = s.depth.set k 0 := by rw [hs1]
   have e3 : wayPot lk s1.path = 2 * (lk.getD k []).length + 1 := by
    rw [hp1, wayPot_one]
    rfl
   have := hf s.depth
   unfold pot
   rw [e2, e3]
   omega
  obtain ⟨hR, hpe⟩ := run_all hK fuel hI hN1 hpot
  obtain ⟨t, ht⟩ : ∃ t, t = runW lk fuel s1 := ⟨_, rfl⟩
  rw [← ht] at hR hpe ⊢
  have hsk : seen t k := hR.me
  have hcl : ∀ v w, v < N → seen t v → Adj l v w → seen t w := by
   intro v w hv hv' ha
   by_cases h0 : seen s v
   ·exact (hR.old w (adj_below hK.ends ha).2 (h.closed v w hv h0 ha)).1
   ·rcases hR.done v hv hv' h0 with ⟨st, hst, _⟩ | h4
    ·rw [hpe] at hst; simp at hst
    ·exact h4 w ha
  refine ⟨hR.lenD, hR.lenR, hpe, ?_, hcl, ?_⟩
  ·intro v hv
   by_cases e : v = k
   ·subst e; exact hsk
   ·exact (hR.old v (by omega) (h.upto v (by omega))).1
  ·intro v hv hv'
   by_cases h0 : seen s v
   ·rw [(hR.old v hv h0).2]
    exact h.least v hv h0
   ·obtain ⟨e1, e2⟩ := hR.new v hv h0 hv'
    refine ⟨k, e1, hk, e2.symm, fun u hu hc => ?_⟩
    by_cases huk : k ≤ u
    ·exact huk
    ·exact absurd (h.conn hK.ends (e2.trans hc).symm hu (h.upto u (by omega))) hns
end Go.Proofs.YtjpkojmjiaoifaaGreat

namespace Go.Proofs.YtjpkojmjiaoifaaGreat
open Go Go.Proofs
def Least (L : List Int) : Prop := ∀ v, v < L.length → ∃ x : Nat, L.getD v 0 = (x : Int) ∧ x ≤ v ∧ L.getD x 0 = (x : Int)
def rootsN (L : List Int) (i : Nat) : List Nat := (List.range i).filter fun v => decide (L.getD v 0 = (v : Int))
theorem rootsN_mem {L : List Int} {i v : Nat} : v ∈ rootsN L i ↔ v < i ∧ L.getD v 0 = (v : Int) := by
 unfold rootsN
 rw [List.mem_filter, List.mem_range, decide_eq_true_iff]
theorem rootsN_next (L : List Int) (i : Nat) : rootsN L (i + 1) = if L.getD i 0 = (i : Int) then rootsN L i ++ [i] else rootsN L i := by
 unfold rootsN
 have e : List.filter (fun v => decide (L.getD v 0 = ((v : Nat) : Int))) [i] = if decide (L.getD i 0 = (i : Int)) = true then [i] else [] := by
  rw [List.filter_cons]
  rfl
 rw [List.range_succ, List.filter_append, e]
 by_cases h : L.getD i 0 = (i : Int)
 ·rw [if_pos h, if_pos (decide_eq_true h)]
 ·rw [if_neg h, if_neg (by rw [decide_eq_false h]; simp), List.append_nil]
theorem rootsN_nodup (L : List Int) (i : Nat) : (rootsN L i).Nodup := List.Pairwise.filter _ List.nodup_range
theorem rc_roots (L : List Int) (N : Nat) : ∀ j, rcAt L N j = (rootsN L j).map fun r => memAt L r N
 | 0 => rfl
 | j + 1 => by
  rw [rcAt, rootsN_next, rc_roots L N j]
  split
  ·rw [List.map_append]; rfl
  ·rfl
theorem idx_cast {o : List Nat} {u : Nat} (hu : u ∈ o) : ∃ k, (o.map fun (x : Nat) => (x : Int)).idxOf (u : Int) = k ∧ o[k]? = some u := by
 have hm : (u : Int) ∈ o.map fun (x : Nat) => (x : Int) := List.mem_map.2 ⟨u, hu, rfl⟩
 have hlt := List.idxOf_lt_length_iff.2 hm
 refine ⟨_, rfl, ?_⟩
 have h1 := List.getElem_idxOf hlt
 rw [List.getElem_map] at h1
 rw [List.length_map] at hlt
 rw [List.getElem?_eq_getElem hlt]
 congr 1
 omega
theorem set_map {o : List Nat} (hn : o.Nodup) {k u : Nat} (hk : o[k]? = some u) (f f' : Nat → List Int) (h : ∀ r, r ≠ u → f' r = f r) : (o.map f).set k (f' u) = o.map f' := by
 apply List.ext_getElem?
 intro j
 rw [List.getElem?_set, List.length_map, List.getElem?_map, List.getElem?_map]
 have hkl := (List.getElem?_eq_some_iff.1 hk).1
 by_cases hj : k = j
 ·subst hj
  rw [if_pos rfl, if_pos hkl, hk]
  rfl
 ·rw [if_neg hj]
  cases hr : o[j]? with
  | none => rfl
  | some r =>
   have hne : r ≠ u := fun e => by
    subst e
    have h1 := (List.getElem?_eq_some_iff.1 hr)
    have h2 := (List.getElem?_eq_some_iff.1 hk)
    obtain ⟨a1, b1⟩ := h1
    obtain ⟨a2, b2⟩ := h2
    exact hj ((List.getElem_inj hn).1 (b2.trans b1.symm))
   simp [h r hne]
theorem gath_roots {L : List Int} (hL : Least L) : ∀ {i : Nat}, i ≤ L.length → gath L i = ((rootsN L i).map (fun (x : Nat) => (x : Int)), (rootsN L i).map fun r => memAt L r i)
 | 0, _ => rfl
 | i + 1, h => by
  have ih := gath_roots hL (i := i) (by omega)
  obtain ⟨x, hx, hxi, hxx⟩ := hL i (by omega)
  by_cases hroot : x = i
  ·subst hroot
   have hnew : L.getD x 0 ∉ (gath L x).1 := by
    rw [ih, hx]
    intro hm
    obtain ⟨r, hr, e⟩ := List.mem_map.1 hm
    have := (rootsN_mem.1 hr).1
    omega
   rw [gath_new hnew, rootsN_next, if_pos hx, ih, hx, List.map_append, List.map_append]
   congr 1
   congr 1
   ·refine List.map_congr_left fun r hr => ?_
    have := (rootsN_mem.1 hr).1
    rw [memAt_next (by omega), if_neg (by rw [hx]; omega)]
   ·show [[(x : Int)]] = [memAt L x (x + 1)]
    rw [memAt_next (Nat.le_refl _), if_pos hx, memAt_start]
    rfl
  ·have hmem : x ∈ rootsN L i := rootsN_mem.2 ⟨by omega, hxx⟩
   obtain ⟨k, hk1, hk2⟩ := idx_cast hmem
   have hold : L.getD i 0 ∈ (gath L i).1 := by
    rw [ih, hx]
    exact List.mem_map.2 ⟨x, hmem, rfl⟩
   rw [gath_old hold, rootsN_next, if_neg (by rw [hx]; omega), ih, hx, hk1]
   congr 1
   have hg : ((rootsN L i).map fun r => memAt L r i).getD k [] = memAt L x i := by
    rw [List.getD_eq_getElem?_getD, List.getElem?_map, hk2]
    rfl
   rw [hg]
   have hnx : memAt L x i ++ [(i : Int)] = memAt L x (i + 1) := by rw [memAt_next hxi, if_pos hx]
   rw [hnx]
   exact set_map (rootsN_nodup L i) hk2 (fun r => memAt L r i) (fun r => memAt L r (i + 1)) fun r hr => by
    by_cases hri : r ≤ i
    ·rw [memAt_next hri, if_neg (by rw [hx]; omega)]
    ·unfold memAt
     rw [List.filter_eq_nil_iff.2, List.filter_eq_nil_iff.2]
     ·intro y hy
      have := List.mem_range.1 hy
      simp
      omega
     ·intro y hy
      have := List.mem_range.1 hy
      simp
      omega
theorem gath_rc {L : List Int} (hL : Least L) : (gath L L.length).2 = rcAt L L.length L.length := by
 rw [gath_roots hL (Nat.le_refl _), rc_roots]
end Go.Proofs.YtjpkojmjiaoifaaGreat
