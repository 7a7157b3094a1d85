/-
  The walk's model comes to its end. No program in this text.
-/
import Derived.Test.YtdgecflljgnobaaXPWalkMath
namespace Go.Proofs.Ytdgecflljgnobaa
open Go Go.Proofs

def degW (lk : List (List (Int × Int))) (v : Int) : Nat := (lk.getD v.toNat []).length
def NextOK (lk : List (List (Int × Int))) (s : WS) : Prop := ∀ st ∈ s.path, st.next ≤ degW lk st.v
def wayPot (lk : List (List (Int × Int))) (P : List Stp) : Nat := (P.map fun st => 2 * (degW lk st.v - st.next) + 1).sum
def sumN (f : Nat → Nat) : Nat → Nat
  | 0 => 0
  | n + 1 => sumN f n + f n
theorem sumN_congr {f g : Nat → Nat} : ∀ {n : Nat}, (∀ v, v < n → g v = f v) → sumN g n = sumN f n
  | 0, _ => rfl
  | n + 1, h => by rw [sumN, sumN, sumN_congr (fun v hv => h v (by omega)), h n (by omega)]
theorem sumN_change {f g : Nat → Nat} {w : Nat} : ∀ {n : Nat}, w < n → (∀ v, v ≠ w → g v = f v) → sumN g n + f w = sumN f n + g w
  | 0, h, _ => by omega
  | n + 1, h, hv => by
    rw [sumN, sumN]
    by_cases e : w = n
    · subst e
      have := sumN_congr (f := f) (g := g) (n := w) (fun v hv' => hv v (by omega))
      omega
    · have := sumN_change (f := f) (g := g) (w := w) (n := n) (by omega) hv
      have := hv n (fun a => e a.symm)
      omega
def unseenPot (lk : List (List (Int × Int))) (N : Nat) (D : List Int) : Nat := sumN (fun v => if D.getD v 0 < 0 then (lk.getD v []).length + 1 else 0) N
def pot (lk : List (List (Int × Int))) (N : Nat) (s : WS) : Nat := 2 * unseenPot lk N s.depth + wayPot lk s.path
theorem wayPot_app (lk : List (List (Int × Int))) (P Q : List Stp) : wayPot lk (P ++ Q) = wayPot lk P + wayPot lk Q := by simp [wayPot]
theorem wayPot_one (lk : List (List (Int × Int))) (st : Stp) : wayPot lk [st] = 2 * (degW lk st.v - st.next) + 1 := by simp [wayPot]
theorem leave_less {lk : List (List (Int × Int))} {N : Nat} {s : WS} {init : List Stp} {top : Stp} (hp : s.path = init ++ [top]) : pot lk N (leaveW s init top) + 1 ≤ pot lk N s := by
  have h1 : wayPot lk s.path = wayPot lk init + wayPot lk [top] := by rw [hp, wayPot_app]
  rw [wayPot_one] at h1
  unfold pot leaveW
  cases hl : init.getLast? with
  | none =>
    have hi : init = [] := List.getLast?_eq_none_iff.1 hl
    subst hi
    simp only
    have : wayPot lk [] = 0 := rfl
    omega
  | some t2 =>
    obtain ⟨ys, hys⟩ := List.getLast?_eq_some_iff.1 hl
    have hdl : init.dropLast = ys := by rw [hys]; simp
    have h2 : wayPot lk init = wayPot lk ys + wayPot lk [t2] := by rw [hys, wayPot_app]
    simp only
    split
    · simp only [hdl]
      rw [wayPot_app, wayPot_one]
      rw [wayPot_one] at h2
      simp only
      omega
    · simp only
      omega
theorem leave_next {lk : List (List (Int × Int))} {s : WS} {init : List Stp} {top : Stp} (h : NextOK lk s) (hp : s.path = init ++ [top]) : NextOK lk (leaveW s init top) := by
  have hi : ∀ st ∈ init, st.next ≤ degW lk st.v := fun st hst => h st (by rw [hp]; exact List.mem_append_left _ hst)
  unfold leaveW
  cases hl : init.getLast? with
  | none => intro st hst; simp at hst
  | some t2 =>
    obtain ⟨ys, hys⟩ := List.getLast?_eq_some_iff.1 hl
    have hdl : init.dropLast = ys := by rw [hys]; simp
    simp only
    split
    · intro st hst
      simp only [hdl] at hst
      rcases List.mem_append.1 hst with hst | hst
      · exact hi st (by rw [hys]; exact List.mem_append_left _ hst)
      · obtain rfl := List.mem_singleton.1 hst
        exact hi t2 (by rw [hys]; simp)
    · exact hi
theorem unseen_set {lk : List (List (Int × Int))} {N : Nat} {D : List Int} {w : Nat} {d : Int} (hD : D.length = N) (hw : w < N) (hneg : D.getD w 0 < 0) (hd : 0 ≤ d) : unseenPot lk N (D.set w d) + ((lk.getD w []).length + 1) = unseenPot lk N D := by
  have hch := sumN_change (f := fun v => if D.getD v 0 < 0 then (lk.getD v []).length + 1 else 0) (g := fun v => if (D.set w d).getD v 0 < 0 then (lk.getD v []).length + 1 else 0) (w := w) (n := N) hw (fun v hne => by
    have e : (D.set w d).getD v 0 = D.getD v 0 := by rw [set_getD, if_neg (fun a => hne a.1.symm)]
    show (if (D.set w d).getD v 0 < 0 then (lk.getD v []).length + 1 else 0) = if D.getD v 0 < 0 then (lk.getD v []).length + 1 else 0
    rw [e])
  have eg : (D.set w d).getD w 0 = d := by rw [set_getD, if_pos ⟨rfl, by omega⟩]
  have e1 : (if (D.set w d).getD w 0 < 0 then (lk.getD w []).length + 1 else 0) = 0 := by rw [eg, if_neg (by omega)]
  have e2 : (if D.getD w 0 < 0 then (lk.getD w []).length + 1 else 0) = (lk.getD w []).length + 1 := if_pos hneg
  have h3 : unseenPot lk N (D.set w d) + (if D.getD w 0 < 0 then (lk.getD w []).length + 1 else 0) = unseenPot lk N D + (if (D.set w d).getD w 0 < 0 then (lk.getD w []).length + 1 else 0) := hch
  rw [e1, e2] at h3
  exact h3
theorem look_less {lk : List (List (Int × Int))} {N : Nat} {s : WS} {init : List Stp} {top : Stp} {x : Int × Int} (hp : s.path = init ++ [top]) (hlt : top.next < degW lk top.v) (hD : s.depth.length = N) (hw : x.1.toNat < N) (hv : 0 ≤ at_ s.depth top.v) :
    pot lk N (lookW s init { top with next := top.next + 1 } x) + 1 ≤ pot lk N s := by
  have h1 : wayPot lk s.path = wayPot lk init + (2 * (degW lk top.v - top.next) + 1) := by rw [hp, wayPot_app, wayPot_one]
  unfold lookW
  by_cases hneg : at_ s.depth x.1 < 0
  · rw [if_pos hneg]
    unfold pot
    simp only
    rw [wayPot_app, wayPot_app, wayPot_one, wayPot_one]
    simp only
    have e1 := unseen_set (lk := lk) hD hw hneg (d := at_ s.depth top.v + 1) (by omega)
    have e2 : degW lk x.1 = (lk.getD x.1.toNat []).length := rfl
    omega
  · rw [if_neg hneg]
    split
    · unfold pot
      simp only
      rw [wayPot_app, wayPot_one]
      simp only
      omega
    · unfold pot
      simp only
      rw [wayPot_app, wayPot_one]
      simp only
      omega
theorem look_next {lk : List (List (Int × Int))} {s : WS} {init : List Stp} {top : Stp} {x : Int × Int} (h : NextOK lk s) (hp : s.path = init ++ [top]) (hlt : top.next < degW lk top.v) : NextOK lk (lookW s init { top with next := top.next + 1 } x) := by
  have hi : ∀ st ∈ init, st.next ≤ degW lk st.v := fun st hst => h st (by rw [hp]; exact List.mem_append_left _ hst)
  have one : ∀ t : Stp, t.v = top.v → t.next = top.next + 1 → t.next ≤ degW lk t.v := fun t e1 e2 => by rw [e1, e2]; omega
  unfold lookW
  split
  · intro st hst
    rcases List.mem_append.1 hst with hst | hst
    · rcases List.mem_append.1 hst with hst | hst
      · exact hi st hst
      · obtain rfl := List.mem_singleton.1 hst
        exact one _ rfl rfl
    · obtain rfl := List.mem_singleton.1 hst
      exact Nat.zero_le _
  · split
    · intro st hst
      rcases List.mem_append.1 hst with hst | hst
      · exact hi st hst
      · obtain rfl := List.mem_singleton.1 hst
        exact one _ rfl rfl
    · intro st hst
      rcases List.mem_append.1 hst with hst | hst
      · exact hi st hst
      · obtain rfl := List.mem_singleton.1 hst
        exact one _ rfl rfl
/-- One step: the invariant, and less to do. -/
theorem step_all {N : Nat} {l : List Ed} {lk : List (List (Int × Int))} {s0 : WS} {r : Nat} {s : WS} (h : RunI N l lk s0 r s) (hK : LinksOK N l lk) (hN : NextOK lk s) (hne : s.path ≠ []) : RunI N l lk s0 r (stepW lk s) ∧ NextOK lk (stepW lk s) ∧ pot lk N (stepW lk s) + 1 ≤ pot lk N s := by
  refine ⟨h.step hK hN, ?_⟩
  unfold stepW
  cases hl : s.path.getLast? with
  | none => exact absurd (List.getLast?_eq_none_iff.1 hl) hne
  | some top =>
    have hp := path_last hl
    simp only
    split
    · exact ⟨leave_next hN hp, leave_less hp⟩
    · rename_i hn
      have hle := hN top (by rw [hp]; simp)
      have hlt : top.next < degW lk top.v := by unfold degW at hle ⊢; omega
      have hx := List.getElem?_eq_getElem (l := lk.getD top.v.toNat []) hlt
      have e : (lk.getD top.v.toNat []).getD top.next (0, 0) = (lk.getD top.v.toNat [])[top.next] := by rw [List.getD_eq_getElem?_getD, hx]; rfl
      obtain ⟨v, ev, hv, hsv, _, _⟩ := h.way top (by rw [hp]; simp)
      have evt : top.v.toNat = v := by rw [ev]; rfl
      obtain ⟨w, ew, hw, _⟩ := hK.sound v ((lk.getD top.v.toNat [])[top.next]) hv (by rw [← evt]; exact List.getElem_mem hlt)
      rw [e]
      exact ⟨look_next hN hp hlt, look_less hp hlt h.lenD (by rw [ew]; exact hw) (by unfold at_; rw [evt]; exact hsv)⟩
theorem step_stay {lk : List (List (Int × Int))} {s : WS} (hp : s.path = []) : stepW lk s = s := by
  unfold stepW
  rw [hp]
  rfl
theorem run_stay {lk : List (List (Int × Int))} {s : WS} (hp : s.path = []) : ∀ k, runW lk k s = s
  | 0 => rfl
  | k + 1 => by rw [runW, step_stay hp, run_stay hp k]
theorem run_all {N : Nat} {l : List Ed} {lk : List (List (Int × Int))} {s0 : WS} {r : Nat} (hK : LinksOK N l lk) : ∀ (k : Nat) {s : WS}, RunI N l lk s0 r s → NextOK lk s → pot lk N s ≤ k → RunI N l lk s0 r (runW lk k s) ∧ (runW lk k s).path = []
  | 0, s, h, _, hk => by
    refine ⟨h, ?_⟩
    cases hp : s.path with
    | nil => exact hp
    | cons st P =>
      have : wayPot lk s.path = (2 * (degW lk st.v - st.next) + 1) + wayPot lk P := by rw [hp]; simp [wayPot]
      unfold pot at hk
      omega
  | k + 1, s, h, hN, hk => by
    rw [runW]
    by_cases hp : s.path = []
    · rw [step_stay hp, run_stay hp]
      exact ⟨h, hp⟩
    · obtain ⟨h1, h2, h3⟩ := step_all h hK hN hp
      exact run_all hK k h1 h2 (by omega)
/-- What stands when the first k vertices have been walked from. -/
structure WalkI (N : Nat) (l : List Ed) (k : Nat) (s : WS) : Prop where
  lenD : s.depth.length = N
  lenR : s.root.length = N
  path : s.path = []
  upto : ∀ v, v < k → seen s v
  closed : ∀ v w, v < N → seen s v → Adj l v w → seen s w
  least : ∀ v, v < N → seen s v → ∃ x : Nat, s.root.getD v 0 = (x : Int) ∧ x < N ∧ Conn l v x ∧ ∀ u, u < N → Conn l v u → x ≤ u
theorem WalkI.conn {N : Nat} {l : List Ed} {k : Nat} {s : WS} (h : WalkI N l k s) (hE : Ends N l) {v u : Nat} (hc : Conn l v u) : v < N → seen s v → seen s u := by
  induction hc using Conn.ind with
  | refl => exact fun _ h => h
  | step ha _ ih => exact fun hv hs => ih (adj_below hE ha).2 (h.closed _ _ hv hs ha)
theorem start_all {N : Nat} {l : List Ed} {lk : List (List (Int × Int))} (hK : LinksOK N l lk) {fuel k : Nat} {s : WS} (h : WalkI N l k s) (hk : k < N) (hf : ∀ D : List Int, 2 * unseenPot lk N D ≤ fuel) : WalkI N l (k + 1) (startW lk fuel s k) := by
  unfold startW
  split
  · rename_i hs
    refine ⟨h.lenD, h.lenR, h.path, fun v hv => ?_, h.closed, h.least⟩
    by_cases e : v = k
    · subst e; exact hs
    · exact h.upto v (by omega)
  · rename_i hs
    have hns : ¬ seen s k := hs
    obtain ⟨s1, hs1⟩ : ∃ s1 : WS, s1 = { s with root := s.root.set k (k : Int), from_ := s.from_.set k (-1), depth := s.depth.set k 0, path := s.path ++ [(⟨(k : Int), -1, 0, 0, 0⟩ : Stp)] } := ⟨_, rfl⟩
    rw [← hs1]
    have hd : ∀ y, s1.depth.getD y 0 = if k = y then 0 else s.depth.getD y 0 := fun y => by
      rw [hs1]
      show (s.depth.set k 0).getD y 0 = _
      rw [set_getD, h.lenD]
      by_cases e : k = y
      · rw [if_pos ⟨e, hk⟩, if_pos e]
      · rw [if_neg (fun a => e a.1), if_neg e]
    have hr : ∀ y, s1.root.getD y 0 = if k = y then (k : Int) else s.root.getD y 0 := fun y => by
      rw [hs1]
      show (s.root.set k (k : Int)).getD y 0 = _
      rw [set_getD, h.lenR]
      by_cases e : k = y
      · rw [if_pos ⟨e, hk⟩, if_pos e]
      · rw [if_neg (fun a => e a.1), if_neg e]
    have hp1 : s1.path = [⟨(k : Int), -1, 0, 0, 0⟩] := by rw [hs1]; show s.path ++ _ = _; rw [h.path]; rfl
    have hI : RunI N l lk s k s1 := by
      refine ⟨by rw [hs1]; simpa using h.lenD, by rw [hs1]; simpa using h.lenR, ?_, ?_, ?_, ?_, by unfold seen; rw [hd, if_pos rfl]; exact Int.le_refl _⟩
      · intro v hv h0
        have hne : k ≠ v := fun e => by subst e; exact hns h0
        unfold seen
        rw [hd, hr, if_neg hne, if_neg hne]
        exact ⟨h0, rfl⟩
      · intro v hv h0 h1
        by_cases e : k = v
        · subst e
          rw [hr, if_pos rfl]
          exact ⟨rfl, .refl _⟩
        · unfold seen at h1
          rw [hd, if_neg e] at h1
          exact absurd h1 h0
      · intro st hst
        rw [hp1] at hst
        obtain rfl := List.mem_singleton.1 hst
        exact ⟨k, rfl, hk, by unfold seen; rw [hd, if_pos rfl]; exact Int.le_refl _, hns, fun q x hq => by simp at hq⟩
      · intro v hv h1 h0
        by_cases e : k = v
        · subst e
          exact .inl ⟨_, by rw [hp1]; exact List.mem_singleton.2 rfl, rfl⟩
        · unfold seen at h1
          rw [hd, if_neg e] at h1
          exact absurd h1 h0
    have hN1 : NextOK lk s1 := by
      intro st hst
      rw [hp1] at hst
      obtain rfl := List.mem_singleton.1 hst
      exact Nat.zero_le _
    have hpot : pot lk N s1 ≤ fuel := by
      have hneg : s.depth.getD k 0 < 0 := by unfold seen at hns; omega
      have e1 := unseen_set (lk := lk) h.lenD hk hneg (d := 0) (Int.le_refl _)
      have e2 : s1.depth = s.depth.set k 0 := by rw [hs1]
      have e3 : wayPot lk s1.path = 2 * (lk.getD k []).length + 1 := by
        rw [hp1, wayPot_one]
        rfl
      have := hf s.depth
      unfold pot
      rw [e2, e3]
      omega
    obtain ⟨hR, hpe⟩ := run_all hK fuel hI hN1 hpot
    obtain ⟨t, ht⟩ : ∃ t, t = runW lk fuel s1 := ⟨_, rfl⟩
    rw [← ht] at hR hpe ⊢
    have hsk : seen t k := hR.me
    have hcl : ∀ v w, v < N → seen t v → Adj l v w → seen t w := by
      intro v w hv hv' ha
      by_cases h0 : seen s v
      · exact (hR.old w (adj_below hK.ends ha).2 (h.closed v w hv h0 ha)).1
      · rcases hR.done v hv hv' h0 with ⟨st, hst, _⟩ | h4
        · rw [hpe] at hst; simp at hst
        · exact h4 w ha
    refine ⟨hR.lenD, hR.lenR, hpe, ?_, hcl, ?_⟩
    · intro v hv
      by_cases e : v = k
      · subst e; exact hsk
      · exact (hR.old v (by omega) (h.upto v (by omega))).1
    · intro v hv hv'
      by_cases h0 : seen s v
      · rw [(hR.old v hv h0).2]
        exact h.least v hv h0
      · obtain ⟨e1, e2⟩ := hR.new v hv h0 hv'
        refine ⟨k, e1, hk, e2.symm, fun u hu hc => ?_⟩
        by_cases huk : k ≤ u
        · exact huk
        · exact absurd (h.conn hK.ends (e2.trans hc).symm hu (h.upto u (by omega))) hns
end Go.Proofs.Ytdgecflljgnobaa
