/-
  The walk's model: the edges of a block have the label of the edge that led into it. No program in this text.
-/
import Derived.Test.YtdadpfkoocpfaaaPLowS
namespace Go.Proofs.Ytdadpfkoocpfaaa
open Go Go.Proofs

def onP (s : WS) (y : Nat) : Prop := ∃ st ∈ s.path, st.v = (y : Int)
/-- The label of the edge k, whose lower end is w, is told: that of the edge to the nearest head. -/
def Asg (l : List Ed) (D F : List Int) (s : WS) (k w : Nat) : Prop := ∃ h b q : Nat, HeadOf l D F h w ∧ ¬ onP s h ∧ seen s h ∧ s.block.getD k 0 = (b : Int) ∧ F.getD h 0 = (q : Int) ∧ EdP l D b q h
structure BI (N : Nat) (l : List Ed) (lk : List (List (Int × Int))) (D F : List Int) (s : WS) : Prop where
  agr : ∀ v, v < N → seen s v → s.depth.getD v 0 = D.getD v 0 ∧ s.from_.getD v 0 = F.getD v 0
  rt : ∀ (st : Stp), s.path[0]? = some st → F.getD st.v.toNat 0 = -1
  ch : ∀ (i : Nat) (st st' : Stp), s.path[i]? = some st → s.path[i + 1]? = some st' → F.getD st'.v.toNat 0 = st.v ∧ ∃ k : Nat, st'.by_ = (k : Int) ∧ EdP l D k st.v.toNat st'.v.toNat
  a : ∀ p ∈ s.opn, ∃ k u w : Nat, p = (k : Int) ∧ EdP l D k u w ∧ seen s w ∧ ∀ y, Anc F y w → onP s y ∨ ¬ Head l D F y
  b : ∀ (i : Nat) (st : Stp), s.path[i]? = some st → ∀ k u w, EdP l D k u w → (k : Int) ∈ s.opn.drop st.opn → Anc F st.v.toNat w
  c : ∀ (i : Nat) (st : Stp), s.path[i]? = some st → ∀ k u w, EdP l D k u w → (k : Int) ∈ s.opn.take st.opn → ¬ Anc F st.v.toNat w
  d : ∀ (i : Nat) (st : Stp), s.path[i + 1]? = some st → ∀ q : Nat, F.getD st.v.toNat 0 = (q : Int) → st.low ≤ D.getD q 0 ∧ (st.low = D.getD q 0 ∨ ∃ k u w, EdP l D k u w ∧ Anc F st.v.toNat w ∧ D.getD u 0 = st.low)
  e : ∀ (i : Nat) (st : Stp), s.path[i + 1]? = some st → ∀ k u w, EdP l D k u w → (k : Int) ∈ s.opn.drop st.opn → (∃ st', s.path[i + 2]? = some st' ∧ (k : Int) ∈ s.opn.drop st'.opn) ∨ st.low ≤ D.getD u 0
  f : ∀ w, w < N → seen s w → ∀ j y k : Nat, (lk.getD w [])[j]? = some ((y : Int), (k : Int)) → D.getD y 0 < D.getD w 0 → (∃ st ∈ s.path, st.v = (w : Int) ∧ st.next ≤ j) ∨ (k : Int) ∈ s.opn ∨ Asg l D F s k w
theorem snoc_get {α : Type} {pre : List α} {x y : α} {j : Nat} (h : (pre ++ [x])[j]? = some y) : (j < pre.length ∧ pre[j]? = some y) ∨ (j = pre.length ∧ y = x) := by
  rw [List.getElem?_append] at h
  split at h
  · rename_i hj
    exact .inl ⟨hj, h⟩
  · rename_i hj
    have h1 := (List.getElem?_eq_some_iff.1 h).1
    rw [List.length_singleton] at h1
    have h2 : j = pre.length := by omega
    subst h2
    rw [Nat.sub_self] at h
    exact .inr ⟨rfl, (Option.some.inj h).symm⟩
theorem snoc_last {α : Type} (pre : List α) (x : α) : (pre ++ [x])[pre.length]? = some x := by simp
theorem snoc_old {α : Type} {pre : List α} {y : α} {j : Nat} (h : pre[j]? = some y) (x : List α) : (pre ++ x)[j]? = some y := by
  rw [List.getElem?_append_left (List.getElem?_eq_some_iff.1 h).1]
  exact h
section
variable {N M C : Nat} {l : List Ed} {lk : List (List (Int × Int))} {D F : List Int} {s : WS}
theorem OkW.nat (hO : OkW N M C lk s) {st : Stp} (h : st ∈ s.path) : st.v = ((st.v.toNat : Nat) : Int) ∧ st.v.toNat < N ∧ seen s st.v.toNat := by
  obtain ⟨v, e, h1, h2⟩ := hO.way st.v (List.mem_map.2 ⟨st, h, rfl⟩)
  rw [e, Int.toNat_natCast]
  exact ⟨rfl, h1, h2⟩
theorem BI.up (h : BI N l lk D F s) (hO : OkW N M C lk s) : ∀ {j i : Nat} {st st' : Stp}, s.path[i]? = some st → s.path[i + j]? = some st' → Anc F st.v.toNat st'.v.toNat
  | 0, i, st, st', h1, h2 => by
    rw [Nat.add_zero, h1] at h2
    cases h2
    exact Anc.refl _ _
  | j + 1, i, st, st', h1, h2 => by
    have hlt : i + j < s.path.length := by
      have := (List.getElem?_eq_some_iff.1 h2).1
      omega
    have h3 := List.getElem?_eq_getElem hlt
    obtain ⟨hf, _⟩ := h.ch (i + j) _ st' h3 h2
    refine Anc.up (x := s.path[i + j].v.toNat) ?_ (BI.up h hO h1 h3)
    rw [hf]
    exact (hO.nat (List.getElem_mem hlt)).1
theorem BI.closed (h : BI N l lk D F s) (hO : OkW N M C lk s) : ∀ {j : Nat} {st : Stp} {y : Nat}, s.path[j]? = some st → Anc F y st.v.toNat → onP s y
  | j, st, y, h1, h2 => by
    rcases h2.cases with h3 | ⟨x, hx, h3⟩
    · exact ⟨st, List.mem_of_getElem? h1, by rw [← h3]; exact (hO.nat (List.mem_of_getElem? h1)).1⟩
    · match j with
      | 0 =>
        have := h.rt st h1
        omega
      | j + 1 =>
        have hlt : j < s.path.length := by
          have := (List.getElem?_eq_some_iff.1 h1).1
          omega
        have h4 := List.getElem?_eq_getElem hlt
        obtain ⟨hf, _⟩ := h.ch j _ st h4 h1
        have hn := (hO.nat (List.getElem_mem hlt)).1
        have : x = s.path[j].v.toNat := by omega
        subst this
        exact BI.closed h hO h4 h3
theorem BI.deep (h : BI N l lk D F s) (hO : OkW N M C lk s) (T : Tr N l D F) : ∀ {j : Nat} {st : Stp}, s.path[j]? = some st → D.getD st.v.toNat 0 = (j : Int)
  | 0, st, h1 => by
    have hv := hO.nat (List.mem_of_getElem? h1)
    have := h.rt st h1
    rcases T.par _ hv.2.1 with h2 | ⟨u, a, b, _⟩
    · exact h2.1
    · omega
  | j + 1, st, h1 => by
    have hv := hO.nat (List.mem_of_getElem? h1)
    have hlt : j < s.path.length := by
      have := (List.getElem?_eq_some_iff.1 h1).1
      omega
    have h4 := List.getElem?_eq_getElem hlt
    obtain ⟨hf, _⟩ := h.ch j _ st h4 h1
    have hn := (hO.nat (List.getElem_mem hlt)).1
    have ih := BI.deep h hO T h4
    rcases T.par _ hv.2.1 with ⟨_, h2⟩ | ⟨u, a, b, c, _⟩
    · omega
    · have : u = s.path[j].v.toNat := by omega
      subst this
      omega
/-- The vertex on top: what is on the way is on the way back from it, and what lies beyond it has been seen. -/
structure Top (N : Nat) (l : List Ed) (D F : List Int) (s : WS) (init : List Stp) (last : Stp) (x : Nat) : Prop where
  ev : last.v = (x : Int)
  lt : x < N
  see : seen s x
  up : ∀ y, onP s y → Anc F y x
  clo : ∀ y, Anc F y x → onP s y
  one : ∀ st ∈ s.path, st.v = (x : Int) → st = last
  out : ∀ st ∈ init, st.v ≠ (x : Int)
theorem BI.top (h : BI N l lk D F s) (hO : OkW N M C lk s) (T : Tr N l D F) {init : List Stp} {last : Stp} (hp : s.path = init ++ [last]) : Top N l D F s init last last.v.toNat := by
  have hx : s.path[init.length]? = some last := by rw [hp]; simp
  have hv := hO.nat (List.mem_of_getElem? hx)
  have hone : ∀ (i : Nat) (st : Stp), s.path[i]? = some st → st.v = last.v → i = init.length := fun i st hi e => by
    have h1 := h.deep hO T hi
    have h2 := h.deep hO T hx
    rw [e] at h1
    omega
  refine ⟨hv.1, hv.2.1, hv.2.2, fun y hy => ?_, fun y hy => h.closed hO hx hy, fun st hst e => ?_, fun st hst e => ?_⟩
  · obtain ⟨st, hst, e⟩ := hy
    obtain ⟨i, hi⟩ := List.getElem?_of_mem hst
    have hil : i ≤ init.length := by
      have := (List.getElem?_eq_some_iff.1 hi).1
      rw [hp, List.length_append, List.length_singleton] at this
      omega
    have := h.up hO (j := init.length - i) hi (by rw [Nat.add_sub_cancel' hil]; exact hx)
    rw [e, Int.toNat_natCast] at this
    exact this
  · obtain ⟨i, hi⟩ := List.getElem?_of_mem hst
    have := hone i st hi (e.trans hv.1.symm)
    subst this
    rw [hx] at hi
    exact (Option.some.inj hi).symm
  · obtain ⟨i, hi⟩ := List.getElem?_of_mem hst
    have := hone i st (by rw [hp]; exact snoc_old hi _) (e.trans hv.1.symm)
    have := (List.getElem?_eq_some_iff.1 hi).1
    omega
theorem Top.beyond {init : List Stp} {last : Stp} {x : Nat} (ht : Top N l D F s init last x) (hT : TreeI N l lk s) (hR : RightG (N : Int) l) (T : Tr N l D F) (hK : LinksP N l lk) (hp : s.path = init ++ [last]) (hn : last.next = (lk.getD x []).length) : ∀ {w : Nat}, w < N → Anc F x w → seen s w := by
  intro w hw ha
  obtain ⟨ls, hl⟩ := ha
  induction ls generalizing w with
  | nil =>
    have e : w = x := hl
    subst e
    exact ht.see
  | cons z ls ih =>
    have hz := hl.1
    rcases T.par w hw with ⟨_, h2⟩ | ⟨u, a, b, c, d⟩
    · omega
    · have : z = u := by omega
      subst this
      have hsz := ih a hl.2
      rcases hT.fin z a hsz with ⟨st, hst, e⟩ | h4
      · have h5 := ht.up z ⟨st, hst, e⟩
        have h6 : Anc F x z := ⟨ls, hl.2⟩
        have : z = x := T.anti ht.lt h5 h6
        subst this
        obtain ⟨k, hk⟩ := adj_joins hR d
        have hm := hK.full k z w a hk
        obtain ⟨j, hj⟩ := List.getElem?_of_mem hm
        have hjl := (List.getElem?_eq_some_iff.1 hj).1
        obtain ⟨v, ev, _, _, hall⟩ := hT.way last (by rw [hp]; simp)
        have : v = z := by have := ht.ev; omega
        subst this
        have := hall j _ (by omega) hj
        simpa using this
      · exact (h4 w d).1
theorem fold_get {y : Int} : ∀ (ps : List Int) (b : List Int), (∀ p ∈ ps, 0 ≤ p) → ∀ k : Nat, k < b.length → (ps.foldl (fun b p => b.set p.toNat y) b).getD k 0 = if (k : Int) ∈ ps then y else b.getD k 0
  | [], b, _, k, _ => by simp
  | p :: ps, b, h, k, hk => by
    rw [List.foldl_cons, fold_get ps _ (fun p hp => h p (List.mem_cons_of_mem _ hp)) k (by simpa using hk), set_getD]
    have hp := h p (List.mem_cons_self ..)
    by_cases h1 : (k : Int) ∈ ps
    · rw [if_pos h1, if_pos (List.mem_cons_of_mem _ h1)]
    · rw [if_neg h1]
      by_cases h2 : p.toNat = k
      · rw [if_pos ⟨h2, by omega⟩, if_pos (by rw [List.mem_cons]; left; omega)]
      · rw [if_neg (fun e => h2 e.1), if_neg]
        rw [List.mem_cons]
        rintro (e | e)
        · omega
        · exact h1 e
theorem fold_len {y : Int} : ∀ (ps : List Int) (b : List Int), (ps.foldl (fun b p => b.set p.toNat y) b).length = b.length
  | [], b => rfl
  | p :: ps, b => by rw [List.foldl_cons, fold_len ps]; simp
/-- The vertex on top leads nothing past the one below it just if its low says so. -/
theorem BI.head (h : BI N l lk D F s) (hT : TreeI N l lk s) (hR : RightG (N : Int) l) (T : Tr N l D F) (hK : LinksP N l lk) {init : List Stp} {last : Stp} {x q : Nat} (hp : s.path = init ++ [last]) (ht : Top N l D F s init last x) (hn : last.next = (lk.getD x []).length) (hq : F.getD x 0 = (q : Int)) (hi : init ≠ []) : Head l D F x ↔ ¬ last.low < D.getD q 0 := by
  obtain ⟨n, hn1⟩ : ∃ n, init.length = n + 1 := ⟨init.length - 1, by have := List.length_pos_iff.2 hi; omega⟩
  have hx : s.path[n + 1]? = some last := by rw [hp, ← hn1]; simp
  have evt : last.v.toNat = x := by rw [ht.ev]; rfl
  constructor
  · rintro ⟨q', e, hh⟩ hlow
    have : q' = q := by omega
    subst this
    rcases (h.d n last hx q' (by rw [evt]; exact e)).2 with h1 | ⟨k, u, w, h1, h2, h3⟩
    · omega
    · rw [evt] at h2
      have := hh k u w h1 h2
      omega
  · intro hlow
    refine ⟨q, hq, fun k u w hk ha => ?_⟩
    obtain ⟨hu, hw⟩ := hk.1.below hR
    have hsw := ht.beyond hT hR T hK hp hn hw ha
    obtain ⟨j, hj⟩ := List.getElem?_of_mem (hK.full k w u hw hk.1.symm)
    have hjl := (List.getElem?_eq_some_iff.1 hj).1
    rcases h.f w hw hsw j u k hj hk.2 with ⟨st, hst, e1, e2⟩ | h1 | ⟨hd, b, q', h1, h2, h3, h4, h5, h6⟩
    · have h5 := ht.up w ⟨st, hst, e1⟩
      have : w = x := T.anti ht.lt h5 ha
      subst this
      have := ht.one st hst e1
      subst this
      omega
    · rw [← List.take_append_drop last.opn s.opn] at h1
      rcases List.mem_append.1 h1 with h2 | h2
      · exact absurd (by rw [evt]; exact ha) (h.c (n + 1) last hx k u w hk h2)
      · rcases h.e n last hx k u w hk h2 with ⟨st', h3, _⟩ | h3
        · have := (List.getElem?_eq_some_iff.1 h3).1
          rw [hp, List.length_append, List.length_singleton] at this
          omega
        · omega
    · obtain ⟨h7, h8, h9⟩ := h1
      rcases h7.comp ha with h10 | h10
      · exact absurd (ht.clo _ h10) h2
      · have hne : hd ≠ x := fun e => by subst e; exact h2 (ht.clo _ (Anc.refl _ _))
        rcases h10.cases with h11 | ⟨z, hz, h11⟩
        · exact absurd h11 hne
        · obtain ⟨q2, e2, h12⟩ := h8
          have h13 := h12 k u w hk h7
          have : z = q2 := by omega
          subst this
          have hhd := (T.anc hw h7).1
          rcases T.par hd hhd with ⟨_, h14⟩ | ⟨y, a, b, c, _⟩
          · omega
          · have : y = z := by omega
            subst this
            have h15 := T.le a h11
            rcases T.par x ht.lt with ⟨_, h16⟩ | ⟨y', a', b', c', _⟩
            · omega
            · have : y' = q := by omega
              subst this
              omega
/-- The ways of vertices that stand below the top. -/
theorem BI.f_less (h : BI N l lk D F s) {init : List Stp} {last : Stp} {x : Nat} (ht : Top N l D F s init last x) (hp : s.path = init ++ [last]) (hn : last.next = (lk.getD x []).length) : ∀ w, w < N → seen s w → ∀ j y k : Nat, (lk.getD w [])[j]? = some ((y : Int), (k : Int)) → D.getD y 0 < D.getD w 0 → (∃ st ∈ init, st.v = (w : Int) ∧ st.next ≤ j) ∨ (k : Int) ∈ s.opn ∨ Asg l D F s k w := by
  intro w hw hsw j y k hj hlt
  rcases h.f w hw hsw j y k hj hlt with ⟨st, hst, e1, e2⟩ | h1
  · have hst' := hst
    rw [hp] at hst'
    rcases List.mem_append.1 hst' with h2 | h2
    · exact .inl ⟨st, h2, e1, e2⟩
    · obtain rfl := List.mem_singleton.1 h2
      have : w = x := by have := ht.ev; omega
      subst this
      have hjl := (List.getElem?_eq_some_iff.1 hj).1
      omega
  · exact .inr h1
theorem BI.leave (h : BI N l lk D F s) (hO : OkW N M C lk s) (hM : M = l.length) (hT : TreeI N l lk s) (hR : RightG (N : Int) l) (T : Tr N l D F) (hK : LinksP N l lk) {init : List Stp} {last : Stp} (hp : s.path = init ++ [last]) (hn : last.next = (lk.getD last.v.toNat []).length) : BI N l lk D F (leaveW s init last) := by
  have ht := h.top hO T hp
  obtain ⟨x, ex⟩ : ∃ x, x = last.v.toNat := ⟨_, rfl⟩
  rw [← ex] at ht hn
  have hfl := h.f_less ht hp hn
  have hmem : ∀ st ∈ init, st ∈ s.path := fun st hst => by rw [hp]; exact List.mem_append_left _ hst
  have hold : ∀ {i : Nat} {st : Stp}, init[i]? = some st → s.path[i]? = some st := fun hi => by rw [hp]; exact snoc_old hi _
  cases hi : init.getLast? with
  | none =>
    have e : leaveW s init last = { s with path := [] } := by unfold leaveW; rw [hi]
    have hin : init = [] := List.getLast?_eq_none_iff.1 hi
    rw [e]
    refine ⟨h.agr, fun st hst => by simp at hst, fun i st st' hst => by simp at hst, fun p hp1 => ?_, fun i st hst => by simp at hst, fun i st hst => by simp at hst, fun i st hst => by simp at hst, fun i st hst => by simp at hst, fun w hw hsw j y k hj hlt => ?_⟩
    · obtain ⟨k, u, w, h1, h2, h3, h4⟩ := h.a p hp1
      refine ⟨k, u, w, h1, h2, h3, fun y hy => .inr ?_⟩
      rcases h4 y hy with ⟨st, hst, e1⟩ | h5
      · rw [hp, hin] at hst
        obtain rfl := List.mem_singleton.1 hst
        have h6 := h.rt st (by rw [hp, hin]; rfl)
        have : y = st.v.toNat := by omega
        subst this
        rintro ⟨q, e2, _⟩
        omega
      · exact h5
    · rcases hfl w hw hsw j y k hj hlt with ⟨st, hst, _⟩ | h1 | ⟨hd, b, q, h1, h2, h3⟩
      · rw [hin] at hst
        simp at hst
      · exact .inr (.inl h1)
      · exact .inr (.inr ⟨hd, b, q, h1, fun ⟨st, hst, _⟩ => by simp at hst, h3⟩)
  | some top =>
    obtain ⟨pre, hpre⟩ := List.getLast?_eq_some_iff.1 hi
    have hdl : init.dropLast = pre := by rw [hpre]; simp
    have htop : s.path[pre.length]? = some top := hold (by rw [hpre]; simp)
    have hlast : s.path[pre.length + 1]? = some last := by
      have : pre.length + 1 = init.length := by rw [hpre]; simp
      rw [this, hp]
      simp
    obtain ⟨hF, kb, ekb, hkb⟩ := h.ch _ top last htop hlast
    rw [← ex] at hF hkb
    have htv := hO.nat (List.mem_of_getElem? htop)
    obtain ⟨q, eq⟩ : ∃ q, q = top.v.toNat := ⟨_, rfl⟩
    rw [← eq] at htv hkb
    rw [htv.1] at hF
    have hne : init ≠ [] := by rw [hpre]; simp
    have hhead := h.head hT hR T hK hp ht hn hF hne
    have hdq : at_ s.depth top.v = D.getD q 0 := by unfold at_; rw [← eq]; exact (h.agr q htv.2.1 htv.2.2).1
    have hxq : D.getD x 0 = D.getD q 0 + 1 := by
      rcases T.par x ht.lt with ⟨_, h2⟩ | ⟨u, a, b, c, _⟩
      · omega
      · have : u = q := by omega
        subst this
        exact c
    have hqx : ∀ w, Anc F x w → Anc F q w := fun w hw => (Anc.up hF (Anc.refl _ _)).trans hw
    by_cases hlow : last.low < at_ s.depth top.v
    · have e : leaveW s init last = { s with path := init.dropLast ++ [{ top with low := min top.low last.low }] } := by unfold leaveW; rw [hi]; simp only [if_pos hlow]
      rw [e, hdl]
      rw [hdq] at hlow
      have hnh : ¬ Head l D F x := fun h1 => (hhead.1 h1) hlow
      have back : ∀ {i : Nat} {st : Stp}, (pre ++ [{ top with low := min top.low last.low }])[i]? = some st → ∃ st0, s.path[i]? = some st0 ∧ init[i]? = some st0 ∧ st0.v = st.v ∧ st0.by_ = st.by_ ∧ st0.opn = st.opn ∧ st0.next = st.next ∧ ((i < pre.length ∧ st0 = st) ∨ (i = pre.length ∧ st0 = top ∧ st.low = min top.low last.low)) := by
        intro i st hst
        rcases snoc_get hst with ⟨h1, h2⟩ | ⟨h1, h2⟩
        · have h3 : init[i]? = some st := by rw [hpre]; exact snoc_old h2 _
          exact ⟨st, hold h3, h3, rfl, rfl, rfl, rfl, .inl ⟨h1, rfl⟩⟩
        · subst h2
          have h3 : init[i]? = some top := by rw [hpre, h1]; simp
          exact ⟨top, hold h3, h3, rfl, rfl, rfl, rfl, .inr ⟨h1, rfl, rfl⟩⟩
      have fwd : ∀ {i : Nat} {st : Stp}, init[i]? = some st → ∃ st1, (pre ++ [{ top with low := min top.low last.low }])[i]? = some st1 ∧ st1.v = st.v ∧ st1.opn = st.opn ∧ st1.next = st.next := by
        intro i st hst
        rw [hpre] at hst
        rcases snoc_get hst with ⟨h1, h2⟩ | ⟨h1, h2⟩
        · exact ⟨st, snoc_old h2 _, rfl, rfl, rfl⟩
        · subst h2
          exact ⟨{ st with low := min st.low last.low }, by rw [h1]; exact snoc_last _ _, rfl, rfl, rfl⟩
      have hon : ∀ y, onP s y → y = x ∨ onP { s with path := pre ++ [{ top with low := min top.low last.low }] } y := by
        rintro y ⟨st, hst, e1⟩
        rw [hp] at hst
        rcases List.mem_append.1 hst with h1 | h1
        · obtain ⟨i, hi1⟩ := List.getElem?_of_mem h1
          obtain ⟨st1, h2, h3, _⟩ := fwd hi1
          exact .inr ⟨st1, List.mem_of_getElem? h2, by rw [h3]; exact e1⟩
        · obtain rfl := List.mem_singleton.1 h1
          exact .inl (by omega)
      refine ⟨h.agr, fun st hst => ?_, fun i st st' h1 h2 => ?_, fun p hp1 => ?_, fun i st h1 => ?_, fun i st h1 => ?_, fun i st h1 q' hq' => ?_, fun i st h1 k u w hk hm => ?_, fun w hw hsw j y k hj hlt => ?_⟩
      · obtain ⟨st0, h1, _, e1, _⟩ := back hst
        rw [← e1]
        exact h.rt st0 h1
      · obtain ⟨a0, g1, _, e1, _⟩ := back h1
        obtain ⟨a1, g2, _, e2, e3, _⟩ := back h2
        rw [← e1, ← e2, ← e3]
        exact h.ch i a0 a1 g1 g2
      · obtain ⟨k, u, w, h1, h2, h3, h4⟩ := h.a p hp1
        refine ⟨k, u, w, h1, h2, h3, fun y hy => ?_⟩
        rcases h4 y hy with h5 | h5
        · rcases hon y h5 with rfl | h6
          · exact .inr hnh
          · exact .inl h6
        · exact .inr h5
      · obtain ⟨st0, g1, _, e1, _, e3, _⟩ := back h1
        rw [← e1, ← e3]
        exact h.b i st0 g1
      · obtain ⟨st0, g1, _, e1, _, e3, _⟩ := back h1
        rw [← e1, ← e3]
        exact h.c i st0 g1
      · obtain ⟨st0, g1, _, e1, _, _, _, h2⟩ := back h1
        rw [← e1] at hq' ⊢
        obtain ⟨d1, d2⟩ := h.d i st0 g1 q' hq'
        rcases h2 with ⟨_, rfl⟩ | ⟨_, rfl, e4⟩
        · exact ⟨d1, d2⟩
        · rw [e4]
          refine ⟨by omega, ?_⟩
          by_cases hm : st0.low ≤ last.low
          · rw [Int.min_eq_left hm]
            exact d2
          · rw [Int.min_eq_right (by omega)]
            right
            rcases (h.d _ last hlast q (by rw [← ex]; exact hF)).2 with h3 | ⟨k, u, w, h3, h4, h5⟩
            · omega
            · rw [← ex] at h4
              exact ⟨k, u, w, h3, by rw [← eq]; exact hqx w h4, h5⟩
      · obtain ⟨st0, g1, _, e1, _, e3, _, h2⟩ := back h1
        rw [← e3] at hm
        rcases h2 with ⟨hlt2, rfl⟩ | ⟨h2, rfl, e4⟩
        · rcases h.e i st0 g1 k u w hk hm with ⟨st', g2, g3⟩ | g2
          · left
            have g4 : init[i + 2]? = some st' := by
              rw [hp] at g2
              rcases snoc_get g2 with ⟨_, g5⟩ | ⟨g5, _⟩
              · exact g5
              · rw [hpre] at g5
                simp at g5
                omega
            obtain ⟨st1, g5, _, g6, _⟩ := fwd g4
            exact ⟨st1, g5, by rw [g6]; exact g3⟩
          · exact .inr g2
        · right
          rw [e4]
          rcases h.e i st0 g1 k u w hk hm with ⟨st', g2, g3⟩ | g2
          · rw [show i + 2 = pre.length + 1 by omega, hlast] at g2
            cases g2
            rcases h.e _ last hlast k u w hk g3 with ⟨st2, g4, _⟩ | g4
            · have := (List.getElem?_eq_some_iff.1 g4).1
              rw [hp, hpre] at this
              simp at this
            · omega
          · omega
      · rcases hfl w hw hsw j y k hj hlt with ⟨st, hst, e1, e2⟩ | h1 | ⟨hd, b, q', h1, h2, h3⟩
        · obtain ⟨i, hi1⟩ := List.getElem?_of_mem hst
          obtain ⟨st1, g2, g3, _, g4⟩ := fwd hi1
          exact .inl ⟨st1, List.mem_of_getElem? g2, by rw [g3]; exact e1, by rw [g4]; exact e2⟩
        · exact .inr (.inl h1)
        · refine .inr (.inr ⟨hd, b, q', h1, fun ⟨st, hst, e1⟩ => h2 ?_, h3⟩)
          obtain ⟨i, hi1⟩ := List.getElem?_of_mem hst
          obtain ⟨st0, g1, _, g2, _⟩ := back hi1
          exact ⟨st0, List.mem_of_getElem? g1, by rw [g2]; exact e1⟩
    · have e : leaveW s init last = { s with path := init, block := (s.opn.drop last.opn).foldl (fun b p => b.set p.toNat last.by_) s.block, opn := s.opn.take last.opn } := by unfold leaveW; rw [hi]; simp only [if_neg hlow]
      rw [e]
      rw [hdq] at hlow
      have hH := hhead.2 hlow
      have hpos : ∀ p ∈ s.opn.drop last.opn, 0 ≤ p := fun p hp1 => by
        obtain ⟨k, e1, _⟩ := hO.ops p (List.mem_of_mem_drop hp1)
        omega
      have hcx : ∀ k u w, EdP l D k u w → (k : Int) ∈ s.opn.take last.opn → ¬ Anc F x w := fun k u w hk hm => by
        have := h.c _ last hlast k u w hk hm
        rwa [← ex] at this
      have hbx : ∀ k u w, EdP l D k u w → (k : Int) ∈ s.opn.drop last.opn → Anc F x w := fun k u w hk hm => by
        have := h.b _ last hlast k u w hk hm
        rwa [← ex] at this
      have hon : ∀ y, onP s y → y = x ∨ ∃ st ∈ init, st.v = (y : Int) := by
        rintro y ⟨st, hst, e1⟩
        rw [hp] at hst
        rcases List.mem_append.1 hst with h1 | h1
        · exact .inr ⟨st, h1, e1⟩
        · obtain rfl := List.mem_singleton.1 h1
          exact .inl (by omega)
      refine ⟨h.agr, fun st hst => h.rt st (hold hst), fun i st st' h1 h2 => h.ch i st st' (hold h1) (hold h2), fun p hp1 => ?_, fun i st h1 k u w hk hm => ?_, fun i st h1 k u w hk hm => ?_, fun i st h1 => h.d i st (hold h1), fun i st h1 k u w hk hm => ?_, fun w hw hsw j y k hj hlt => ?_⟩
      · obtain ⟨k, u, w, h1, h2, h3, h4⟩ := h.a p (List.mem_of_mem_take hp1)
        refine ⟨k, u, w, h1, h2, h3, fun y hy => ?_⟩
        rcases h4 y hy with h5 | h5
        · rcases hon y h5 with rfl | h6
          · exact absurd hy (hcx k u w h2 (by rw [← h1]; exact hp1))
          · exact .inl h6
        · exact .inr h5
      · refine h.b i st (hold h1) k u w hk ?_
        rw [List.drop_take] at hm
        exact List.mem_of_mem_take hm
      · refine h.c i st (hold h1) k u w hk ?_
        rw [List.take_take] at hm
        exact (List.take_sublist_take_left (Nat.min_le_left _ _)).subset hm
      · have hm1 : (k : Int) ∈ s.opn.drop st.opn := by
          rw [List.drop_take] at hm
          exact List.mem_of_mem_take hm
        rcases h.e i st (hold h1) k u w hk hm1 with ⟨st', g2, g3⟩ | g2
        · have g2' := g2
          rw [hp] at g2'
          rcases snoc_get g2' with ⟨_, g5⟩ | ⟨_, g5⟩
          · refine .inl ⟨st', g5, ?_⟩
            have hm2 : (k : Int) ∈ s.opn.take last.opn := List.mem_of_mem_drop hm
            rw [← List.take_append_drop st'.opn (s.opn.take last.opn)] at hm2
            rcases List.mem_append.1 hm2 with hm3 | hm3
            · refine absurd (h.b _ st' g2 k u w hk g3) (h.c _ st' g2 k u w hk ?_)
              rw [List.take_take] at hm3
              exact (List.take_sublist_take_left (Nat.min_le_left _ _)).subset hm3
            · exact hm3
          · subst g5
            exact absurd (hbx k u w hk g3) (hcx k u w hk (List.mem_of_mem_drop hm))
        · exact .inr g2
      · have hkJ : EdP l D k y w := by
          obtain ⟨y', k', e1, _, e2⟩ := hK.sound w _ hw (List.mem_of_getElem? hj)
          have e3 : y' = y := by have := congrArg Prod.fst e1; simp only at this; omega
          have e4 : k' = k := by have := congrArg Prod.snd e1; simp only at this; omega
          subst e3
          subst e4
          exact ⟨e2.symm, hlt⟩
        have hkl : k < s.block.length := by rw [hO.lenK, hM]; exact hkJ.1.lt
        by_cases hin : (k : Int) ∈ s.opn.drop last.opn
        · right
          right
          refine ⟨x, kb, q, ⟨hbx k y w hkJ hin, hH, fun z hz hxz hne => ?_⟩, fun ⟨st, hst, e1⟩ => ht.out st hst e1, ht.see, ?_, hF, hkb⟩
          · obtain ⟨k', u', w', g1, g2, g3, g4⟩ := h.a (k : Int) (List.mem_of_mem_drop hin)
            have : k' = k := by omega
            subst this
            obtain ⟨_, rfl⟩ := g2.uniq hkJ
            rcases g4 z hz with h5 | h5
            · exact absurd (T.anti ht.lt (ht.up z h5) hxz) hne
            · exact h5
          · show ((s.opn.drop last.opn).foldl (fun b p => b.set p.toNat last.by_) s.block).getD k 0 = _
            rw [fold_get _ _ hpos k hkl, if_pos hin, ekb]
        · rcases hfl w hw hsw j y k hj hlt with h1 | h1 | ⟨hd, b, q', h1, h2, h3, h4, h5⟩
          · exact .inl h1
          · right
            left
            rw [← List.take_append_drop last.opn s.opn] at h1
            rcases List.mem_append.1 h1 with h2 | h2
            · exact h2
            · exact absurd h2 hin
          · refine .inr (.inr ⟨hd, b, q', h1, fun ⟨st, hst, e1⟩ => h2 ⟨st, hmem st hst, e1⟩, h3, ?_, h5⟩)
            show ((s.opn.drop last.opn).foldl (fun b p => b.set p.toNat last.by_) s.block).getD k 0 = _
            rw [fold_get _ _ hpos k hkl, if_neg hin]
            exact h4
end
end Go.Proofs.Ytdadpfkoocpfaaa
