/-
  The walk's model: what makes each of its steps one that the program can take (no index out of bounds, no number too great). No program in this text.
-/
import Derived.Test.YtdgecflljgnobaaXPWalkRoot
namespace Go.Proofs.Ytdgecflljgnobaa
open Go Go.Proofs

/-- The links' numbers. -/
def LinksIn (N M : Nat) (lk : List (List (Int × Int))) : Prop := ∀ v x, x ∈ lk.getD v [] → (∃ u : Nat, x.1 = (u : Int) ∧ u < N) ∧ ∃ k : Nat, x.2 = (k : Int) ∧ k < M
structure OkW (N M C : Nat) (lk : List (List (Int × Int))) (s : WS) : Prop where
  lenD : s.depth.length = N
  lenR : s.root.length = N
  lenF : s.from_.length = N
  lenK : s.block.length = M
  way : ∀ x ∈ s.path.map Stp.v, ∃ v : Nat, x = (v : Int) ∧ v < N ∧ 0 ≤ s.depth.getD v 0
  nxt : NextOK lk s
  ord : (s.path.map Stp.opn).Pairwise (· ≤ ·)
  opl : ∀ n ∈ s.path.map Stp.opn, n ≤ s.opn.length
  ops : ∀ x ∈ s.opn, ∃ k : Nat, x = (k : Int) ∧ k < M
  bo : s.opn.length + pot lk N s ≤ C
  bd : ∀ v, s.depth.getD v 0 + (pot lk N s : Int) ≤ (C : Int)
theorem foldl_len (y : Int) : ∀ (ps : List Int) (b : List Int), (ps.foldl (fun b p => b.set p.toNat y) b).length = b.length
  | [], _ => rfl
  | p :: ps, b => by rw [List.foldl_cons, foldl_len y ps, List.length_set]
theorem OkW.leave {N M C : Nat} {lk : List (List (Int × Int))} {s : WS} {init : List Stp} {last : Stp} (h : OkW N M C lk s) (hp : s.path = init ++ [last]) : OkW N M C lk (leaveW s init last) := by
  have hl := leave_less (lk := lk) (N := N) hp
  have hn := leave_next h.nxt hp
  have hw := h.way
  have ho := h.ord
  have hopl := h.opl
  rw [hp, List.map_append] at hw ho hopl
  have ho' := List.pairwise_append.1 ho
  cases hi : init.getLast? with
  | none =>
    have e : leaveW s init last = { s with path := [] } := by unfold leaveW; rw [hi]
    rw [e] at hl hn ⊢
    refine ⟨h.lenD, h.lenR, h.lenF, h.lenK, fun x hx => ?_, hn, .nil, fun x hx => ?_, h.ops, ?_, fun v => ?_⟩
    · simp at hx
    · simp at hx
    · show s.opn.length + _ ≤ C
      have := h.bo; omega
    · show s.depth.getD v 0 + _ ≤ _
      have := h.bd v; omega
  | some top =>
    obtain ⟨pre, hpre⟩ := List.getLast?_eq_some_iff.1 hi
    by_cases hlow : last.low < at_ s.depth top.v
    · have e : leaveW s init last = { s with path := init.dropLast ++ [{ top with low := min top.low last.low }] } := by unfold leaveW; rw [hi]; simp only [if_pos hlow]
      rw [e] at hl hn ⊢
      have hd : init.dropLast = pre := by rw [hpre]; simp
      have ev : (init.dropLast ++ [{ top with low := min top.low last.low }]).map Stp.v = init.map Stp.v := by rw [hd, hpre]; simp
      have eo : (init.dropLast ++ [{ top with low := min top.low last.low }]).map Stp.opn = init.map Stp.opn := by rw [hd, hpre]; simp
      refine ⟨h.lenD, h.lenR, h.lenF, h.lenK, fun x hx => ?_, hn, ?_, fun x hx => ?_, h.ops, ?_, fun v => ?_⟩
      · exact hw x (List.mem_append_left _ (ev ▸ hx))
      · show List.Pairwise _ (List.map _ _)
        rw [eo]; exact ho'.1
      · exact hopl x (List.mem_append_left _ (eo ▸ hx))
      · show s.opn.length + _ ≤ C
        have := h.bo; omega
      · show s.depth.getD v 0 + _ ≤ _
        have := h.bd v; omega
    · have e : leaveW s init last = { s with path := init, block := (s.opn.drop last.opn).foldl (fun b p => b.set p.toNat last.by_) s.block, opn := s.opn.take last.opn } := by unfold leaveW; rw [hi]; simp only [if_neg hlow]
      rw [e] at hl hn ⊢
      have h1 := hopl last.opn (by simp)
      refine ⟨h.lenD, h.lenR, h.lenF, (foldl_len _ _ _).trans h.lenK, fun x hx => hw x (List.mem_append_left _ hx), hn, ho'.1, fun x hx => ?_, fun x hx => h.ops x (List.mem_of_mem_take hx), ?_, fun v => ?_⟩
      · have := ho'.2.2 x hx last.opn (by simp)
        show x ≤ (s.opn.take last.opn).length
        rw [List.length_take]; omega
      · show (s.opn.take last.opn).length + _ ≤ C
        rw [List.length_take]
        have := h.bo; omega
      · show s.depth.getD v 0 + _ ≤ _
        have := h.bd v; omega
theorem OkW.look {N M C : Nat} {lk : List (List (Int × Int))} {s : WS} {init : List Stp} {top : Stp} {x : Int × Int} (h : OkW N M C lk s) (hK : LinksIn N M lk) (hp : s.path = init ++ [top]) (hx : (lk.getD top.v.toNat [])[top.next]? = some x) : OkW N M C lk (lookW s init { top with next := top.next + 1 } x) := by
  have hlt : top.next < degW lk top.v := (List.getElem?_eq_some_iff.1 hx).1
  obtain ⟨⟨u, eu, hu⟩, k, ek, hk⟩ := hK _ x (List.mem_of_getElem? hx)
  obtain ⟨v, ev, hv, hsv⟩ := h.way top.v (by rw [hp]; simp)
  have evt : top.v.toNat = v := by rw [ev]; rfl
  have eut : x.1.toNat = u := by rw [eu]; rfl
  have hl := look_less (lk := lk) (N := N) (x := x) hp hlt h.lenD (by rw [eut]; exact hu) (by unfold at_; rw [evt]; exact hsv)
  have hn := look_next (x := x) h.nxt hp hlt
  have hw := h.way
  have ho := h.ord
  have hopl := h.opl
  have e1 : (init ++ [{ top with next := top.next + 1 }]).map Stp.v = s.path.map Stp.v := by rw [hp]; simp
  have e2 : (init ++ [{ top with next := top.next + 1 }]).map Stp.opn = s.path.map Stp.opn := by rw [hp]; simp
  have hbv := h.bd v
  unfold lookW at hl hn ⊢
  simp only at hl hn ⊢
  by_cases h1 : at_ s.depth x.1 < 0
  · rw [if_pos h1] at hl hn ⊢
    have hdv : at_ s.depth top.v = s.depth.getD v 0 := by unfold at_; rw [evt]
    have hgd : ∀ y, (s.depth.set x.1.toNat (at_ s.depth top.v + 1)).getD y 0 = if u = y then s.depth.getD v 0 + 1 else s.depth.getD y 0 := fun y => by
      rw [set_getD, eut, h.lenD, hdv]
      by_cases e : u = y
      · rw [if_pos ⟨e, hu⟩, if_pos e]
      · rw [if_neg (fun a => e a.1), if_neg e]
    refine ⟨by simpa using h.lenD, by simpa using h.lenR, by simpa using h.lenF, h.lenK, fun y hy => ?_, hn, ?_, fun n hn' => ?_, h.ops, ?_, fun y => ?_⟩
    · show ∃ v, _ ∧ _ ∧ 0 ≤ (s.depth.set x.1.toNat (at_ s.depth top.v + 1)).getD v 0
      have hy' : y ∈ ((init ++ [{ top with next := top.next + 1 }]) ++ [(⟨x.1, x.2, 0, at_ s.depth top.v, s.opn.length⟩ : Stp)]).map Stp.v := hy
      rw [List.map_append, e1] at hy'
      rcases List.mem_append.1 hy' with h2 | h2
      · obtain ⟨z, a, b, c⟩ := hw y h2
        refine ⟨z, a, b, ?_⟩
        rw [hgd]
        split <;> omega
      · have : y = x.1 := by simpa using h2
        refine ⟨u, by rw [this, eu], hu, ?_⟩
        rw [hgd, if_pos rfl]
        omega
    · show List.Pairwise _ (List.map _ ((init ++ [{ top with next := top.next + 1 }]) ++ [(⟨x.1, x.2, 0, at_ s.depth top.v, s.opn.length⟩ : Stp)]))
      rw [List.map_append, e2]
      refine List.pairwise_append.2 ⟨ho, by simp, fun a ha b hb => ?_⟩
      have : b = s.opn.length := by simpa using hb
      rw [this]; exact hopl a ha
    · have hy' : n ∈ ((init ++ [{ top with next := top.next + 1 }]) ++ [(⟨x.1, x.2, 0, at_ s.depth top.v, s.opn.length⟩ : Stp)]).map Stp.opn := hn'
      rw [List.map_append, e2] at hy'
      rcases List.mem_append.1 hy' with h2 | h2
      · exact hopl n h2
      · have : n = s.opn.length := by simpa using h2
        rw [this]; exact Nat.le_refl _
    · show s.opn.length + _ ≤ C
      have := h.bo; omega
    · show (s.depth.set x.1.toNat (at_ s.depth top.v + 1)).getD y 0 + _ ≤ _
      have := h.bd y
      rw [hgd]
      split <;> omega
  · rw [if_neg h1] at hl hn ⊢
    by_cases h2 : at_ s.depth x.1 < at_ s.depth top.v
    · rw [if_pos h2] at hl hn ⊢
      have e3 : (init ++ [{ top with next := top.next + 1, low := min top.low (at_ s.depth x.1) }]).map Stp.v = s.path.map Stp.v := by rw [hp]; simp
      have e4 : (init ++ [{ top with next := top.next + 1, low := min top.low (at_ s.depth x.1) }]).map Stp.opn = s.path.map Stp.opn := by rw [hp]; simp
      refine ⟨h.lenD, h.lenR, h.lenF, h.lenK, fun y hy => hw y (e3 ▸ hy), hn, ?_, fun n hn' => ?_, fun y hy => ?_, ?_, fun y => ?_⟩
      · show List.Pairwise _ (List.map _ _)
        rw [e4]; exact ho
      · show n ≤ (s.opn ++ [x.2]).length
        have := hopl n (e4 ▸ hn')
        rw [List.length_append]; omega
      · have hy' : y ∈ s.opn ++ [x.2] := hy
        rcases List.mem_append.1 hy' with h3 | h3
        · exact h.ops y h3
        · exact ⟨k, by rw [List.mem_singleton.1 h3, ek], hk⟩
      · show (s.opn ++ [x.2]).length + _ ≤ C
        have := h.bo
        rw [List.length_append, List.length_singleton]; omega
      · show s.depth.getD y 0 + _ ≤ _
        have := h.bd y; omega
    · rw [if_neg h2] at hl hn ⊢
      refine ⟨h.lenD, h.lenR, h.lenF, h.lenK, fun y hy => hw y (e1 ▸ hy), hn, ?_, fun n hn' => hopl n (e2 ▸ hn'), h.ops, ?_, fun y => ?_⟩
      · show List.Pairwise _ (List.map _ _)
        rw [e2]; exact ho
      · show s.opn.length + _ ≤ C
        have := h.bo; omega
      · show s.depth.getD y 0 + _ ≤ _
        have := h.bd y; omega
theorem pot_way {lk : List (List (Int × Int))} {N : Nat} {s : WS} : s.path.length ≤ pot lk N s := by
  have : ∀ P : List Stp, P.length ≤ wayPot lk P := fun P => by
    induction P with
    | nil => simp [wayPot]
    | cons st P ih =>
      have e : wayPot lk (st :: P) = (2 * (degW lk st.v - st.next) + 1) + wayPot lk P := by simp [wayPot]
      rw [e, List.length_cons]; omega
  have := this s.path
  unfold pot; omega
/-- A new root: nothing is on the way. -/
theorem OkW.root {N M C : Nat} {lk : List (List (Int × Int))} {s : WS} {r : Nat} (h : OkW N M C lk s) (hp : s.path = []) (hr : r < N) (hs : s.depth.getD r 0 < 0) :
    OkW N M C lk { s with root := s.root.set r (r : Int), from_ := s.from_.set r (-1), depth := s.depth.set r 0, path := s.path ++ [⟨(r : Int), -1, 0, 0, 0⟩] } := by
  have hgd : ∀ y, (s.depth.set r 0).getD y 0 = if r = y then 0 else s.depth.getD y 0 := fun y => by
    rw [set_getD, h.lenD]
    by_cases e : r = y
    · rw [if_pos ⟨e, hr⟩, if_pos e]
    · rw [if_neg (fun a => e a.1), if_neg e]
  have hpe : s.path ++ [(⟨(r : Int), -1, 0, 0, 0⟩ : Stp)] = [⟨(r : Int), -1, 0, 0, 0⟩] := by rw [hp]; rfl
  have hu := unseen_set (lk := lk) h.lenD hr hs (Int.le_refl 0)
  have hpot : pot lk N { s with root := s.root.set r (r : Int), from_ := s.from_.set r (-1), depth := s.depth.set r 0, path := s.path ++ [(⟨(r : Int), -1, 0, 0, 0⟩ : Stp)] } + 1 ≤ pot lk N s := by
    unfold pot
    show 2 * unseenPot lk N (s.depth.set r 0) + wayPot lk (s.path ++ [(⟨(r : Int), -1, 0, 0, 0⟩ : Stp)]) + 1 ≤ 2 * unseenPot lk N s.depth + wayPot lk s.path
    rw [hpe, wayPot_one, hp]
    simp only
    have : degW lk (r : Int) = (lk.getD r []).length := by unfold degW; rfl
    rw [this]
    have : wayPot lk [] = 0 := rfl
    omega
  refine ⟨by simpa using h.lenD, by simpa using h.lenR, by simpa using h.lenF, h.lenK, fun x hx => ?_, fun st hst => ?_, ?_, fun n hn => ?_, h.ops, ?_, fun y => ?_⟩
  · simp only [hpe] at hx ⊢
    have : x = (r : Int) := by simpa using hx
    refine ⟨r, this, hr, ?_⟩
    rw [hgd, if_pos rfl]
    exact Int.le_refl 0
  · simp only [hpe] at hst
    rw [List.mem_singleton.1 hst]
    exact Nat.zero_le _
  · simp only [hpe]; simp
  · simp only [hpe] at hn
    have : n = 0 := by simpa using hn
    rw [this]; exact Nat.zero_le _
  · show s.opn.length + _ ≤ C
    have := h.bo; omega
  · show (s.depth.set r 0).getD y 0 + _ ≤ _
    have := h.bd y
    have h0 := h.bo
    rw [hgd]
    split <;> omega
theorem OkW.fresh {N M : Nat} {lk : List (List (Int × Int))} {C : Nat} (hC : 2 * unseenPot lk N (List.replicate N (-1)) ≤ C) : OkW N M C lk (freshW N M) := by
  have hp : pot lk N (freshW N M) ≤ C := by unfold pot freshW; simp only [wayPot]; simpa using hC
  refine ⟨by simp [freshW], by simp [freshW], by simp [freshW], by simp [freshW], fun x hx => by simp [freshW] at hx, fun x hx => by simp [freshW] at hx, by simp [freshW], fun x hx => by simp [freshW] at hx, fun x hx => by simp [freshW] at hx, ?_, fun v => ?_⟩
  · have : (freshW N M).opn.length = 0 := rfl
    omega
  · have : (freshW N M).depth.getD v 0 ≤ 0 := by
      show (List.replicate N (-1 : Int)).getD v 0 ≤ 0
      by_cases h : v < N
      · simp [h]
      · simp [h]
    omega
end Go.Proofs.Ytdgecflljgnobaa
