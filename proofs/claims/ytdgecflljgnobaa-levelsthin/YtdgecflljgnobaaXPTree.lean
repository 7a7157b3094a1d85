/-
  The walk's model: what it came from is a tree, and each edge leads from a vertex to one that it was come to over. No program in this text.
-/
import Derived.Test.YtdgecflljgnobaaXPOkM
namespace Go.Proofs.Ytdgecflljgnobaa
open Go Go.Proofs

def UpW (F : List Int) : Nat → List Nat → Nat → Prop
  | v, [], u => v = u
  | v, x :: ls, u => F.getD v 0 = (x : Int) ∧ UpW F x ls u
/-- u is on the way back from v. -/
def Anc (F : List Int) (u v : Nat) : Prop := ∃ ls, UpW F v ls u
theorem Anc.refl (F : List Int) (v : Nat) : Anc F v v := ⟨[], rfl⟩
theorem Anc.up {F : List Int} {u v x : Nat} (h : F.getD v 0 = (x : Int)) (h' : Anc F u x) : Anc F u v := by
  obtain ⟨ls, hl⟩ := h'
  exact ⟨x :: ls, h, hl⟩
theorem Anc.keep {F F' : List Int} {P : Nat → Prop} (h1 : ∀ y, P y → F'.getD y 0 = F.getD y 0) (h2 : ∀ y x : Nat, P y → F.getD y 0 = (x : Int) → P x) : ∀ {u v : Nat}, P v → Anc F u v → Anc F' u v := by
  intro u v hv h
  obtain ⟨ls, hl⟩ := h
  refine ⟨ls, ?_⟩
  induction ls generalizing v with
  | nil => exact hl
  | cons x ls ih => exact ⟨(h1 v hv).trans hl.1, ih (h2 v x hv hl.1) hl.2⟩
structure TreeI (N : Nat) (l : List Ed) (lk : List (List (Int × Int))) (s : WS) : Prop where
  lenD : s.depth.length = N
  lenF : s.from_.length = N
  lenR : s.root.length = N
  par : ∀ v, v < N → seen s v → (s.depth.getD v 0 = 0 ∧ s.from_.getD v 0 = -1 ∧ s.root.getD v 0 = (v : Int)) ∨ ∃ u : Nat, u < N ∧ s.from_.getD v 0 = (u : Int) ∧ seen s u ∧ Adj l u v ∧ s.depth.getD v 0 = s.depth.getD u 0 + 1 ∧ s.root.getD v 0 = s.root.getD u 0
  anc : (s.path.map Stp.v).Pairwise fun x y => Anc s.from_ x.toNat y.toNat
  way : ∀ st ∈ s.path, ∃ v : Nat, st.v = (v : Int) ∧ v < N ∧ seen s v ∧ ∀ k x, k < st.next → (lk.getD v [])[k]? = some x → seen s x.1.toNat
  fin : ∀ v, v < N → seen s v → (∃ st ∈ s.path, st.v = (v : Int)) ∨ ∀ w, Adj l v w → seen s w ∧ (Anc s.from_ w v ∨ Anc s.from_ v w)
/-- Another way over the same vertices, nothing else turned. -/
theorem TreeI.same {N : Nat} {l : List Ed} {lk : List (List (Int × Int))} {s s' : WS} (h : TreeI N l lk s) (hD : s'.depth = s.depth) (hF : s'.from_ = s.from_) (hRt : s'.root = s.root) (hA : (s'.path.map Stp.v).Pairwise fun x y => Anc s.from_ x.toNat y.toNat)
    (h1 : ∀ st ∈ s'.path, ∃ v : Nat, st.v = (v : Int) ∧ v < N ∧ seen s v ∧ ∀ k x, k < st.next → (lk.getD v [])[k]? = some x → seen s x.1.toNat)
    (h2 : ∀ v, v < N → seen s v → (∃ st ∈ s'.path, st.v = (v : Int)) ∨ ∀ w, Adj l v w → seen s w ∧ (Anc s.from_ w v ∨ Anc s.from_ v w)) : TreeI N l lk s' := by
  have hs : ∀ v, seen s' v ↔ seen s v := fun v => by unfold seen; rw [hD]
  refine ⟨by rw [hD]; exact h.lenD, by rw [hF]; exact h.lenF, by rw [hRt]; exact h.lenR, fun v hv h3 => ?_, by rw [hF]; exact hA, fun st hst => ?_, fun v hv h3 => ?_⟩
  · rw [hD, hF, hRt]
    rcases h.par v hv ((hs v).1 h3) with h4 | ⟨u, a, b, c, d, e⟩
    · exact .inl h4
    · exact .inr ⟨u, a, b, (hs u).2 c, d, e⟩
  · obtain ⟨v, a, b, c, d⟩ := h1 st hst
    exact ⟨v, a, b, (hs v).2 c, fun k x hk hx => (hs _).2 (d k x hk hx)⟩
  · rcases h2 v hv ((hs v).1 h3) with h4 | h4
    · exact .inl h4
    · refine .inr fun w hw => ?_
      rw [hF]
      obtain ⟨a, b⟩ := h4 w hw
      exact ⟨(hs w).2 a, b⟩
theorem TreeI.leave {N : Nat} {l : List Ed} {lk : List (List (Int × Int))} {s : WS} {init : List Stp} {top : Stp} (h : TreeI N l lk s) (hK : LinksOK N l lk) (hp : s.path = init ++ [top]) (hn : top.next = (lk.getD top.v.toNat []).length) : TreeI N l lk (leaveW s init top) := by
  obtain ⟨v, ev, hv, hsv, hall⟩ := h.way top (by rw [hp]; simp)
  have hmem : ∀ st ∈ init, st ∈ s.path := fun st hst => by rw [hp]; exact List.mem_append_left _ hst
  have hanc := h.anc
  rw [hp, List.map_append] at hanc
  have hanc' := List.pairwise_append.1 hanc
  have evt : top.v.toNat = v := by rw [ev]; rfl
  rw [evt] at hn
  have key : ∀ (path' : List Stp), path'.map Stp.v = init.map Stp.v → (∀ st ∈ path', ∃ st' ∈ init, st.v = st'.v ∧ st.next = st'.next) → (∀ st ∈ init, ∃ st' ∈ path', st'.v = st.v) → ∀ s' : WS, s'.depth = s.depth → s'.from_ = s.from_ → s'.root = s.root → s'.path = path' → TreeI N l lk s' := by
    intro path' hm hin hout s' hD hF hRt hP
    refine h.same hD hF hRt (by rw [hP, hm]; exact hanc'.1) (fun st hst => ?_) (fun y hy h3 => ?_)
    · rw [hP] at hst
      obtain ⟨st', hst', e1, e2⟩ := hin st hst
      obtain ⟨z, a, b, c, d⟩ := h.way st' (hmem st' hst')
      exact ⟨z, by rw [e1]; exact a, b, c, by rw [e2]; exact d⟩
    · rcases h.fin y hy h3 with ⟨st, hst, e⟩ | h4
      · rw [hp] at hst
        rcases List.mem_append.1 hst with hst | hst
        · obtain ⟨st', hst', e'⟩ := hout st hst
          exact .inl ⟨st', by rw [hP]; exact hst', by rw [e']; exact e⟩
        · obtain rfl := List.mem_singleton.1 hst
          have hyv : y = v := by omega
          subst hyv
          refine .inr fun w hw => ?_
          obtain ⟨x, hx, hxw⟩ := hK.full y w hy hw
          obtain ⟨k, hk, hxk⟩ := List.getElem_of_mem hx
          have hsw := hall k x (by omega) (by rw [List.getElem?_eq_getElem hk, hxk])
          rw [hxw] at hsw
          refine ⟨hsw, ?_⟩
          have hwN := (adj_below hK.ends hw).2
          rcases h.fin w hwN hsw with ⟨st', hst', e'⟩ | h5
          · rw [hp] at hst'
            rcases List.mem_append.1 hst' with h6 | h6
            · have := hanc'.2.2 st'.v (List.mem_map.2 ⟨st', h6, rfl⟩) st.v (by simp)
              rw [e', ev] at this
              exact .inl this
            · obtain rfl := List.mem_singleton.1 h6
              have : w = y := by omega
              subst this
              exact .inl (Anc.refl _ _)
          · obtain ⟨_, h6⟩ := h5 y hw.symm
            exact h6.symm
      · exact .inr h4
  cases hi : init.getLast? with
  | none =>
    have e : leaveW s init top = { s with path := [] } := by unfold leaveW; rw [hi]
    have hin : init = [] := List.getLast?_eq_none_iff.1 hi
    rw [e]
    exact key [] (by rw [hin]) (fun st hst => by simp at hst) (fun st hst => by rw [hin] at hst; simp at hst) _ rfl rfl rfl rfl
  | some t2 =>
    obtain ⟨pre, hpre⟩ := List.getLast?_eq_some_iff.1 hi
    by_cases hlow : top.low < at_ s.depth t2.v
    · have e : leaveW s init top = { s with path := init.dropLast ++ [{ t2 with low := min t2.low top.low }] } := by unfold leaveW; rw [hi]; simp only [if_pos hlow]
      rw [e]
      have hd : init.dropLast = pre := by rw [hpre]; simp
      refine key (init.dropLast ++ [{ t2 with low := min t2.low top.low }]) (by rw [hd, hpre]; simp) (fun st hst => ?_) (fun st hst => ?_) _ rfl rfl rfl rfl
      · rw [hd] at hst
        rcases List.mem_append.1 hst with h6 | h6
        · exact ⟨st, by rw [hpre]; exact List.mem_append_left _ h6, rfl, rfl⟩
        · obtain rfl := List.mem_singleton.1 h6
          exact ⟨t2, by rw [hpre]; simp, rfl, rfl⟩
      · rw [hpre] at hst
        rcases List.mem_append.1 hst with h6 | h6
        · exact ⟨st, by rw [hd]; exact List.mem_append_left _ h6, rfl⟩
        · obtain rfl := List.mem_singleton.1 h6
          exact ⟨{ st with low := min st.low top.low }, by rw [hd]; simp, rfl⟩
    · have e : leaveW s init top = { s with path := init, block := (s.opn.drop top.opn).foldl (fun b p => b.set p.toNat top.by_) s.block, opn := s.opn.take top.opn } := by unfold leaveW; rw [hi]; simp only [if_neg hlow]
      rw [e]
      exact key init rfl (fun st hst => ⟨st, hst, rfl, rfl⟩) (fun st hst => ⟨st, hst, rfl⟩) _ rfl rfl rfl rfl
theorem TreeI.closed {N : Nat} {l : List Ed} {lk : List (List (Int × Int))} {s : WS} (h : TreeI N l lk s) {v x : Nat} (hv : v < N ∧ seen s v) (he : s.from_.getD v 0 = (x : Int)) : x < N ∧ seen s x := by
  rcases h.par v hv.1 hv.2 with ⟨_, h2, _⟩ | ⟨u, a, b, c, _⟩
  · omega
  · have : x = u := by omega
    subst this
    exact ⟨a, c⟩
theorem TreeI.look {N : Nat} {l : List Ed} {lk : List (List (Int × Int))} {s : WS} {init : List Stp} {top : Stp} {x : Int × Int} (h : TreeI N l lk s) (hK : LinksOK N l lk) (hp : s.path = init ++ [top]) (hx : (lk.getD top.v.toNat [])[top.next]? = some x) : TreeI N l lk (lookW s init { top with next := top.next + 1 } x) := by
  have hmem : ∀ st ∈ init, st ∈ s.path := fun st hst => by rw [hp]; exact List.mem_append_left _ hst
  obtain ⟨v, ev, hv, hsv, hall⟩ := h.way top (by rw [hp]; simp)
  have hx' := hx
  rw [ev, Int.toNat_natCast] at hx'
  obtain ⟨w, ew, hw, hadj⟩ := hK.sound v x hv (List.mem_of_getElem? hx')
  have ewt : x.1.toNat = w := by rw [ew]; rfl
  have evt : top.v.toNat = v := by rw [ev]; rfl
  have hstay : ∀ s2 : WS, (∀ y, seen s y → seen s2 y) → seen s2 w → ∀ t : Stp, t.v = top.v → t.next = top.next + 1 → ∃ v : Nat, t.v = (v : Int) ∧ v < N ∧ seen s2 v ∧ ∀ k y, k < t.next → (lk.getD v [])[k]? = some y → seen s2 y.1.toNat := by
    intro s2 hup hsw t e1 e2
    refine ⟨v, by rw [e1, ev], hv, hup v hsv, fun k y hk hy => ?_⟩
    by_cases hkn : k < top.next
    · exact hup _ (hall k y hkn hy)
    · have : k = top.next := by omega
      subst this
      rw [hx'] at hy
      cases hy
      rw [ewt]
      exact hsw
  have hback : ∀ t : Stp, t.v = top.v → seen s w → t.next = top.next + 1 → ∀ s' : WS, s'.depth = s.depth → s'.from_ = s.from_ → s'.root = s.root → s'.path = init ++ [t] → TreeI N l lk s' := by
    intro t e1 hsw e2 s' hD hF hRt hP
    have em : (init ++ [t]).map Stp.v = s.path.map Stp.v := by rw [hp]; simp [e1]
    refine h.same hD hF hRt (by rw [hP, em]; exact h.anc) (fun st hst => ?_) (fun y hy h3 => ?_)
    · rw [hP] at hst
      rcases List.mem_append.1 hst with hst | hst
      · exact h.way st (hmem st hst)
      · obtain rfl := List.mem_singleton.1 hst
        exact hstay s (fun _ h => h) hsw st e1 e2
    · rcases h.fin y hy h3 with ⟨st, hst, e⟩ | h4
      · refine .inl ?_
        rw [hp] at hst
        rcases List.mem_append.1 hst with hst | hst
        · exact ⟨st, by rw [hP]; exact List.mem_append_left _ hst, e⟩
        · obtain rfl := List.mem_singleton.1 hst
          exact ⟨t, by rw [hP]; simp, by rw [e1]; exact e⟩
      · exact .inr h4
  unfold lookW
  have hat : at_ s.depth x.1 = s.depth.getD w 0 := by unfold at_; rw [ewt]
  have hat2 : at_ s.depth top.v = s.depth.getD v 0 := by unfold at_; rw [evt]
  simp only [hat, hat2, ewt]
  by_cases hneg : s.depth.getD w 0 < 0
  · rw [if_pos hneg]
    have hsw : ¬ seen s w := fun e => by unfold seen at e; omega
    have hd : ∀ y, (s.depth.set w (s.depth.getD v 0 + 1)).getD y 0 = if w = y then s.depth.getD v 0 + 1 else s.depth.getD y 0 := fun y => by
      rw [set_getD, h.lenD]
      by_cases e : w = y
      · rw [if_pos ⟨e, hw⟩, if_pos e]
      · rw [if_neg (fun a => e a.1), if_neg e]
    have hf : ∀ y, (s.from_.set w top.v).getD y 0 = if w = y then top.v else s.from_.getD y 0 := fun y => by
      rw [set_getD, h.lenF]
      by_cases e : w = y
      · rw [if_pos ⟨e, hw⟩, if_pos e]
      · rw [if_neg (fun a => e a.1), if_neg e]
    obtain ⟨s2, hs2⟩ : ∃ s2 : WS, s2 = { s with root := s.root.set w (at_ s.root top.v), from_ := s.from_.set w top.v, depth := s.depth.set w (s.depth.getD v 0 + 1), path := init ++ [{ top with next := top.next + 1 }] ++ [⟨x.1, x.2, 0, s.depth.getD v 0, s.opn.length⟩] } := ⟨_, rfl⟩
    rw [← hs2]
    have d2 : ∀ y, s2.depth.getD y 0 = if w = y then s.depth.getD v 0 + 1 else s.depth.getD y 0 := fun y => by rw [hs2]; exact hd y
    have f2 : ∀ y, s2.from_.getD y 0 = if w = y then top.v else s.from_.getD y 0 := fun y => by rw [hs2]; exact hf y
    have hat3 : at_ s.root top.v = s.root.getD v 0 := by unfold at_; rw [evt]
    have r2 : ∀ y, s2.root.getD y 0 = if w = y then s.root.getD v 0 else s.root.getD y 0 := fun y => by
      rw [hs2]
      show (s.root.set w (at_ s.root top.v)).getD y 0 = _
      rw [set_getD, h.lenR, hat3]
      by_cases e : w = y
      · rw [if_pos ⟨e, hw⟩, if_pos e]
      · rw [if_neg (fun a => e a.1), if_neg e]
    have p2 : s2.path = init ++ [{ top with next := top.next + 1 }] ++ [⟨x.1, x.2, 0, s.depth.getD v 0, s.opn.length⟩] := by rw [hs2]
    have hup : ∀ y, seen s y → seen s2 y := fun y hy => by
      unfold seen at hy ⊢
      rw [d2]
      split
      · unfold seen at hsv; omega
      · exact hy
    have hnw : seen s2 w := by
      unfold seen at hsv ⊢
      rw [d2, if_pos rfl]
      omega
    have hdn : ∀ y, seen s2 y → y ≠ w → seen s y := fun y hy hne => by
      unfold seen at hy ⊢
      rw [d2, if_neg (fun e => hne e.symm)] at hy
      exact hy
    have hkeep : ∀ {u y : Nat}, y < N ∧ seen s y → Anc s.from_ u y → Anc s2.from_ u y := fun {u y} hy ha =>
      Anc.keep (P := fun y => y < N ∧ seen s y) (fun z hz => by rw [f2, if_neg (fun e => by subst e; exact hsw hz.2)]) (fun z q hz hq => h.closed hz hq) hy ha
    refine ⟨by rw [hs2]; simpa using h.lenD, by rw [hs2]; simpa using h.lenF, by rw [hs2]; simpa using h.lenR, fun y hy h3 => ?_, ?_, fun st hst => ?_, fun y hy h3 => ?_⟩
    · by_cases e : y = w
      · subst e
        have hne : y ≠ v := fun e => hsw (by rw [e]; exact hsv)
        exact .inr ⟨v, hv, by rw [f2, if_pos rfl]; exact ev, hup v hsv, hadj, by rw [d2, d2, if_pos rfl, if_neg hne], by rw [r2, r2, if_pos rfl, if_neg hne]⟩
      · have hne : ¬ w = y := fun a => e a.symm
        rw [d2, f2, r2, if_neg hne, if_neg hne, if_neg hne]
        rcases h.par y hy (hdn y h3 e) with h4 | ⟨u, a, b, c, d, f, g⟩
        · exact .inl h4
        · have hnu : ¬ w = u := fun a => by subst a; exact hsw c
          exact .inr ⟨u, a, b, hup u c, d, by rw [d2, if_neg hnu]; exact f, by rw [r2, if_neg hnu]; exact g⟩
    · rw [p2, List.map_append]
      have em : (init ++ [{ top with next := top.next + 1 }]).map Stp.v = s.path.map Stp.v := by rw [hp]; simp
      rw [em]
      have hmv : ∀ a ∈ s.path.map Stp.v, ∃ z : Nat, a = (z : Int) ∧ z < N ∧ seen s z := fun a ha => by
        obtain ⟨st, hst, rfl⟩ := List.mem_map.1 ha
        obtain ⟨z, a, b, c, _⟩ := h.way st hst
        exact ⟨z, a, b, c⟩
      refine List.pairwise_append.2 ⟨?_, by simp, fun a ha b hb => ?_⟩
      · refine h.anc.imp_of_mem fun {a b} ha hb hab => ?_
        obtain ⟨z, e1, e2, e3⟩ := hmv b hb
        rw [e1, Int.toNat_natCast] at hab ⊢
        exact hkeep ⟨e2, e3⟩ hab
      · have : b = x.1 := by simpa using hb
        rw [this, ewt]
        refine Anc.up (x := v) (by rw [f2, if_pos rfl]; exact ev) ?_
        have h1 := h.anc
        rw [hp, List.map_append] at h1
        rw [hp, List.map_append] at ha
        rcases List.mem_append.1 ha with h2 | h2
        · have := (List.pairwise_append.1 h1).2.2 a h2 top.v (by simp)
          rw [evt] at this
          exact hkeep ⟨hv, hsv⟩ this
        · have : a = top.v := by simpa using h2
          rw [this, evt]
          exact Anc.refl _ _
    · rw [p2] at hst
      rcases List.mem_append.1 hst with hst | hst
      · rcases List.mem_append.1 hst with hst | hst
        · obtain ⟨y, a1, a2, a3, a5⟩ := h.way st (hmem st hst)
          exact ⟨y, a1, a2, hup y a3, fun k z hk hz => hup _ (a5 k z hk hz)⟩
        · obtain rfl := List.mem_singleton.1 hst
          exact hstay s2 hup hnw _ rfl rfl
      · obtain rfl := List.mem_singleton.1 hst
        exact ⟨w, ew, hw, hnw, fun k z hk => by simp at hk⟩
    · by_cases e : y = w
      · subst e
        exact .inl ⟨⟨x.1, x.2, 0, s.depth.getD v 0, s.opn.length⟩, by rw [p2]; exact List.mem_append_right _ (List.mem_singleton.2 rfl), ew⟩
      · rcases h.fin y hy (hdn y h3 e) with ⟨st, hst, e2⟩ | h4
        · refine .inl ?_
          rw [p2]
          rw [hp] at hst
          rcases List.mem_append.1 hst with hst | hst
          · exact ⟨st, List.mem_append_left _ (List.mem_append_left _ hst), e2⟩
          · obtain rfl := List.mem_singleton.1 hst
            exact ⟨{ st with next := st.next + 1 }, List.mem_append_left _ (List.mem_append_right _ (List.mem_singleton.2 rfl)), e2⟩
        · refine .inr fun z hz => ?_
          obtain ⟨g1, g2⟩ := h4 z hz
          have hzN := (adj_below hK.ends hz).2
          refine ⟨hup z g1, ?_⟩
          rcases g2 with g2 | g2
          · exact .inl (hkeep ⟨hy, hdn y h3 e⟩ g2)
          · exact .inr (hkeep ⟨hzN, g1⟩ g2)
  · rw [if_neg hneg]
    have hsw : seen s w := by unfold seen; omega
    split
    · exact hback { top with next := top.next + 1, low := min top.low (s.depth.getD w 0) } rfl hsw rfl _ rfl rfl rfl rfl
    · exact hback { top with next := top.next + 1 } rfl hsw rfl _ rfl rfl rfl rfl
theorem TreeI.root {N : Nat} {l : List Ed} {lk : List (List (Int × Int))} {s : WS} {r : Nat} (h : TreeI N l lk s) (hK : LinksOK N l lk) (hp : s.path = []) (hr : r < N) (hs : s.depth.getD r 0 < 0) :
    TreeI N l lk { s with root := s.root.set r (r : Int), from_ := s.from_.set r (-1), depth := s.depth.set r 0, path := s.path ++ [⟨(r : Int), -1, 0, 0, 0⟩] } := by
  have hsr : ¬ seen s r := fun e => by unfold seen at e; omega
  obtain ⟨s2, hs2⟩ : ∃ s2 : WS, s2 = { s with root := s.root.set r (r : Int), from_ := s.from_.set r (-1), depth := s.depth.set r 0, path := s.path ++ [⟨(r : Int), -1, 0, 0, 0⟩] } := ⟨_, rfl⟩
  rw [← hs2]
  have d2 : ∀ y, s2.depth.getD y 0 = if r = y then 0 else s.depth.getD y 0 := fun y => by
    rw [hs2]
    show (s.depth.set r 0).getD y 0 = _
    rw [set_getD, h.lenD]
    by_cases e : r = y
    · rw [if_pos ⟨e, hr⟩, if_pos e]
    · rw [if_neg (fun a => e a.1), if_neg e]
  have f2 : ∀ y, s2.from_.getD y 0 = if r = y then -1 else s.from_.getD y 0 := fun y => by
    rw [hs2]
    show (s.from_.set r (-1)).getD y 0 = _
    rw [set_getD, h.lenF]
    by_cases e : r = y
    · rw [if_pos ⟨e, hr⟩, if_pos e]
    · rw [if_neg (fun a => e a.1), if_neg e]
  have r2 : ∀ y, s2.root.getD y 0 = if r = y then (r : Int) else s.root.getD y 0 := fun y => by
    rw [hs2]
    show (s.root.set r (r : Int)).getD y 0 = _
    rw [set_getD, h.lenR]
    by_cases e : r = y
    · rw [if_pos ⟨e, hr⟩, if_pos e]
    · rw [if_neg (fun a => e a.1), if_neg e]
  have p2 : s2.path = [⟨(r : Int), -1, 0, 0, 0⟩] := by rw [hs2]; show s.path ++ _ = _; rw [hp]; rfl
  have hup : ∀ y, seen s y → seen s2 y := fun y hy => by
    unfold seen at hy ⊢
    rw [d2]
    split
    · omega
    · exact hy
  have hnr : seen s2 r := by unfold seen; rw [d2, if_pos rfl]; exact Int.le_refl 0
  have hdn : ∀ y, seen s2 y → y ≠ r → seen s y := fun y hy hne => by
    unfold seen at hy ⊢
    rw [d2, if_neg (fun e => hne e.symm)] at hy
    exact hy
  have hkeep : ∀ {u y : Nat}, y < N ∧ seen s y → Anc s.from_ u y → Anc s2.from_ u y := fun {u y} hy ha =>
    Anc.keep (P := fun y => y < N ∧ seen s y) (fun z hz => by rw [f2, if_neg (fun e => by subst e; exact hsr hz.2)]) (fun z q hz hq => h.closed hz hq) hy ha
  refine ⟨by rw [hs2]; simpa using h.lenD, by rw [hs2]; simpa using h.lenF, by rw [hs2]; simpa using h.lenR, fun y hy h3 => ?_, by rw [p2]; simp, fun st hst => ?_, fun y hy h3 => ?_⟩
  · by_cases e : y = r
    · subst e
      exact .inl ⟨by rw [d2, if_pos rfl], by rw [f2, if_pos rfl], by rw [r2, if_pos rfl]⟩
    · have hne : ¬ r = y := fun a => e a.symm
      rw [d2, f2, r2, if_neg hne, if_neg hne, if_neg hne]
      rcases h.par y hy (hdn y h3 e) with h4 | ⟨u, a, b, c, d, f, g⟩
      · exact .inl h4
      · have hnu : ¬ r = u := fun a => by subst a; exact hsr c
        exact .inr ⟨u, a, b, hup u c, d, by rw [d2, if_neg hnu]; exact f, by rw [r2, if_neg hnu]; exact g⟩
  · rw [p2] at hst
    obtain rfl := List.mem_singleton.1 hst
    exact ⟨r, rfl, hr, hnr, fun k z hk => by simp at hk⟩
  · by_cases e : y = r
    · subst e
      exact .inl ⟨_, by rw [p2]; exact List.mem_singleton.2 rfl, rfl⟩
    · rcases h.fin y hy (hdn y h3 e) with ⟨st, hst, _⟩ | h4
      · rw [hp] at hst
        simp at hst
      · refine .inr fun z hz => ?_
        obtain ⟨g1, g2⟩ := h4 z hz
        have hzN := (adj_below hK.ends hz).2
        refine ⟨hup z g1, ?_⟩
        rcases g2 with g2 | g2
        · exact .inl (hkeep ⟨hy, hdn y h3 e⟩ g2)
        · exact .inr (hkeep ⟨hzN, g1⟩ g2)
theorem TreeI.step {N M C : Nat} {l : List Ed} {lk : List (List (Int × Int))} {s : WS} (h : TreeI N l lk s) (hO : OkW N M C lk s) (hK : LinksOK N l lk) (hne : s.path ≠ []) : TreeI N l lk (stepW lk s) := by
  unfold stepW
  cases hl : s.path.getLast? with
  | none => exact absurd (List.getLast?_eq_none_iff.1 hl) hne
  | some top =>
    have hp := path_last hl
    simp only
    split
    · rename_i hn
      exact h.leave hK hp hn
    · rename_i hn
      have hle := hO.nxt top (by rw [hp]; simp)
      have hlt : top.next < degW lk top.v := by unfold degW at hle ⊢; omega
      have hx := List.getElem?_eq_getElem (l := lk.getD top.v.toNat []) hlt
      have e : (lk.getD top.v.toNat []).getD top.next (0, 0) = (lk.getD top.v.toNat [])[top.next] := by rw [List.getD_eq_getElem?_getD, hx]; rfl
      rw [e]
      exact h.look hK hp hx
theorem TreeI.run {N M C : Nat} {l : List Ed} {lk : List (List (Int × Int))} (hK : LinksOK N l lk) (hI : LinksIn N M lk) : ∀ (k : Nat) {s : WS}, TreeI N l lk s → OkW N M C lk s → pot lk N s ≤ k → TreeI N l lk (runW lk k s)
  | 0, _, h, _, _ => h
  | k + 1, s, h, hO, hk => by
    rw [runW]
    by_cases hp : s.path = []
    · rw [step_stay hp, run_stay hp]
      exact h
    · obtain ⟨h1, h2⟩ := hO.step hI hp
      exact TreeI.run hK hI k (h.step hO hK hp) h1 (by omega)
theorem TreeI.start {N M C : Nat} {l : List Ed} {lk : List (List (Int × Int))} (hK : LinksOK N l lk) (hI : LinksIn N M lk) {s : WS} {r : Nat} (h : TreeI N l lk s) (hO : OkW N M C lk s) (hp : s.path = []) (hr : r < N) : TreeI N l lk (startW lk C s r) := by
  unfold startW
  split
  · exact h
  · refine TreeI.run hK hI C (h.root hK hp hr (by omega)) (hO.root hp hr (by omega)) ?_
    have := pot_root hO hp hr (by omega)
    have := hO.bo
    omega
theorem walk_tree {N : Nat} {l : List Ed} (hR : RightG (N : Int) l) : ∀ k, k ≤ N → TreeI N l (linksL N l) ((List.range k).foldl (startW (linksL N l) (4 * (N + l.length) + 4)) (freshW N l.length))
  | 0, _ => by
    have hns : ∀ v, v < N → ¬ seen (freshW N l.length) v := fun v hv h => by
      unfold seen freshW at h
      simp [hv] at h
    exact ⟨by simp [freshW], by simp [freshW], by simp [freshW], fun v hv h => absurd h (hns v hv), by simp [freshW], fun st hst => by simp [freshW] at hst, fun v hv h => absurd h (hns v hv)⟩
  | k + 1, hk => by
    obtain ⟨h1, h2⟩ := walk_ok hR k (by omega)
    rw [List.range_succ, List.foldl_append]
    exact (walk_tree hR k (by omega)).start (links_ok hR) (links_in hR) h1 h2 (by omega)
/-- All of it: each vertex has been come to; its root is where it began; an edge's ends: one on the way back from the other. -/
theorem tree_par {N : Nat} {l : List Ed} (hR : RightG (N : Int) l) {v : Nat} (hv : v < N) : 0 ≤ (walkW N l).depth.getD v 0 ∧ (((walkW N l).depth.getD v 0 = 0 ∧ (walkW N l).from_.getD v 0 = -1 ∧ (walkW N l).root.getD v 0 = (v : Int)) ∨ ∃ u : Nat, u < N ∧ (walkW N l).from_.getD v 0 = (u : Int) ∧ Adj l u v ∧ (walkW N l).depth.getD v 0 = (walkW N l).depth.getD u 0 + 1 ∧ (walkW N l).root.getD v 0 = (walkW N l).root.getD u 0) := by
  have h := walk_tree hR N (Nat.le_refl _)
  have hA := walk_all hR N (Nat.le_refl _)
  refine ⟨hA.upto v hv, ?_⟩
  rcases h.par v hv (hA.upto v hv) with h4 | ⟨u, a, b, _, d, f, g⟩
  · exact .inl h4
  · exact .inr ⟨u, a, b, d, f, g⟩
theorem tree_edge {N : Nat} {l : List Ed} (hR : RightG (N : Int) l) {v w : Nat} (hv : v < N) (hw : Adj l v w) : Anc (walkW N l).from_ w v ∨ Anc (walkW N l).from_ v w := by
  have h := walk_tree hR N (Nat.le_refl _)
  have hA := walk_all hR N (Nat.le_refl _)
  have hp : (walkW N l).path = [] := (walk_ok hR N (Nat.le_refl _)).2
  rcases h.fin v hv (hA.upto v hv) with ⟨st, hst, _⟩ | h4
  · have hst' : st ∈ (walkW N l).path := hst
    rw [hp] at hst'
    simp at hst'
  · exact (h4 w hw).2
/-- A vertex that is its own root was begun with. -/
theorem tree_root {N : Nat} {l : List Ed} (hR : RightG (N : Int) l) : ∀ (k : Nat) (v : Nat), v < N → (walkW N l).depth.getD v 0 = (k : Int) → ∃ r : Nat, r < N ∧ (walkW N l).root.getD v 0 = (r : Int) ∧ (walkW N l).depth.getD r 0 = 0
  | 0, v, hv, hd => by
    obtain ⟨_, h | ⟨u, a, b, c, d, e⟩⟩ := tree_par hR hv
    · exact ⟨v, hv, h.2.2, h.1⟩
    · have := (tree_par hR a).1
      omega
  | k + 1, v, hv, hd => by
    obtain ⟨_, h | ⟨u, a, b, c, d, e⟩⟩ := tree_par hR hv
    · omega
    · obtain ⟨r, h1, h2, h3⟩ := tree_root hR k u a (by omega)
      exact ⟨r, h1, by rw [e]; exact h2, h3⟩
theorem root_iff {N : Nat} {l : List Ed} (hR : RightG (N : Int) l) {v : Nat} (hv : v < N) : (walkW N l).root.getD v 0 = (v : Int) ↔ (walkW N l).depth.getD v 0 = 0 := by
  constructor
  · intro h
    have h0 := (tree_par hR hv).1
    obtain ⟨r, h1, h2, h3⟩ := tree_root hR ((walkW N l).depth.getD v 0).toNat v hv (by omega)
    have : r = v := by omega
    rw [← this]
    exact h3
  · intro h
    obtain ⟨_, h1 | ⟨u, a, b, c, d, e⟩⟩ := tree_par hR hv
    · exact h1.2.2
    · have := (tree_par hR a).1
      omega
end Go.Proofs.Ytdgecflljgnobaa
