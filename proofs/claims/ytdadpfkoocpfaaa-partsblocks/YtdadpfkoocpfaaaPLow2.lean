/-
  The walk's model: a link is looked at, a component begun; what labels all edges have at the end. No program in this text.
-/
import Derived.Test.YtdadpfkoocpfaaaPLow
namespace Go.Proofs.Ytdadpfkoocpfaaa
open Go Go.Proofs

section
variable {N M C : Nat} {l : List Ed} {lk : List (List (Int × Int))} {D F : List Int} {s : WS}
/-- A vertex that has not been seen is on no way back from one that has. -/
theorem BI.unseen (h : BI N l lk D F s) (hT : TreeI N l lk s) {y w : Nat} (hw : w < N) (hs : seen s w) (ha : Anc F y w) : seen s y := by
  obtain ⟨ls, hl⟩ := ha
  induction ls generalizing w with
  | nil =>
    have e : w = y := hl
    subst e
    exact hs
  | cons z ls ih =>
    have hz := hl.1
    rw [← (h.agr w hw hs).2] at hz
    obtain ⟨h1, h2⟩ := hT.closed ⟨hw, hs⟩ hz
    exact ih h1 h2 hl.2
theorem BI.look (h : BI N l lk D F s) (hO : OkW N M C lk s) (hT : TreeI N l lk s) (hR : RightG (N : Int) l) (T : Tr N l D F) (hK : LinksP N l lk) {init : List Stp} {top : Stp} {x : Int × Int} (hp : s.path = init ++ [top]) (hx : (lk.getD top.v.toNat [])[top.next]? = some x) (hA : ∀ v, v < N → seen (lookW s init { top with next := top.next + 1 } x) v → (lookW s init { top with next := top.next + 1 } x).depth.getD v 0 = D.getD v 0 ∧ (lookW s init { top with next := top.next + 1 } x).from_.getD v 0 = F.getD v 0) : BI N l lk D F (lookW s init { top with next := top.next + 1 } x) := by
  have ht := h.top hO T hp
  obtain ⟨v, ev⟩ : ∃ v, v = top.v.toNat := ⟨_, rfl⟩
  rw [← ev] at ht hx
  obtain ⟨y, k, rfl, hy, hJ⟩ := hK.sound v x ht.lt (List.mem_of_getElem? hx)
  have hopl : ∀ {i : Nat} {st : Stp}, s.path[i]? = some st → st.opn ≤ s.opn.length := fun hi => hO.opl _ (List.mem_map.2 ⟨_, List.mem_of_getElem? hi, rfl⟩)
  have hlast : s.path[init.length]? = some top := by rw [hp]; simp
  have hdv : at_ s.depth top.v = D.getD v 0 := by unfold at_; rw [← ev]; exact (h.agr v ht.lt ht.see).1
  have hyt : ((y : Int), (k : Int)).1.toNat = y := rfl
  -- the way with the vertex on top turned
  have back : ∀ (t : Stp), t.v = top.v → t.by_ = top.by_ → t.opn = top.opn → ∀ {i : Nat} {st : Stp}, (init ++ [t])[i]? = some st → ∃ st0, s.path[i]? = some st0 ∧ st0.v = st.v ∧ st0.by_ = st.by_ ∧ st0.opn = st.opn ∧ ((i < init.length ∧ st0 = st) ∨ (i = init.length ∧ st0 = top ∧ st = t)) := by
    intro t t1 t2 t3 i st hst
    rcases snoc_get hst with ⟨h1, h2⟩ | ⟨h1, h2⟩
    · exact ⟨st, by rw [hp]; exact snoc_old h2 _, rfl, rfl, rfl, .inl ⟨h1, rfl⟩⟩
    · subst h2
      exact ⟨top, by rw [h1]; exact hlast, t1.symm, t2.symm, t3.symm, .inr ⟨h1, rfl, rfl⟩⟩
  have fwd : ∀ (t : Stp), t.v = top.v → t.opn = top.opn → ∀ {i : Nat} {st : Stp}, s.path[i]? = some st → ∃ st1, (init ++ [t])[i]? = some st1 ∧ st1.v = st.v ∧ st1.opn = st.opn ∧ (st1 = st ∨ (i = init.length ∧ st = top ∧ st1 = t)) := by
    intro t t1 t3 i st hst
    rw [hp] at hst
    rcases snoc_get hst with ⟨h1, h2⟩ | ⟨h1, h2⟩
    · exact ⟨st, snoc_old h2 _, rfl, rfl, .inl rfl⟩
    · subst h2
      exact ⟨t, by rw [h1]; exact snoc_last _ _, t1, t3, .inr ⟨h1, rfl, rfl⟩⟩
  have onfwd : ∀ (t : Stp), t.v = top.v → t.opn = top.opn → ∀ (s' : WS), (∀ st ∈ init ++ [t], st ∈ s'.path) → ∀ z, onP s z → onP s' z := by
    rintro t t1 t3 s' hs' z ⟨st, hst, e1⟩
    obtain ⟨i, hi⟩ := List.getElem?_of_mem hst
    obtain ⟨st1, g1, g2, _⟩ := fwd t t1 t3 hi
    exact ⟨st1, hs' _ (List.mem_of_getElem? g1), by rw [g2]; exact e1⟩
  have onback : ∀ (t : Stp), t.v = top.v → t.by_ = top.by_ → t.opn = top.opn → ∀ z : Nat, (∃ st ∈ init ++ [t], st.v = (z : Int)) → onP s z := by
    rintro t t1 t2 t3 z ⟨st, hst, e1⟩
    obtain ⟨i, hi⟩ := List.getElem?_of_mem hst
    obtain ⟨st0, g1, g2, _⟩ := back t t1 t2 t3 hi
    exact ⟨st0, List.mem_of_getElem? g1, by rw [g2]; exact e1⟩
  -- links that were looked at
  have flook : ∀ (t : Stp), t.v = top.v → t.opn = top.opn → t.next = top.next + 1 → ∀ w, w < N → seen s w → ∀ j y' k' : Nat, (lk.getD w [])[j]? = some ((y' : Int), (k' : Int)) → D.getD y' 0 < D.getD w 0 → (∃ st ∈ init ++ [t], st.v = (w : Int) ∧ st.next ≤ j) ∨ ((y', k', w) = (y, k, v)) ∨ (k' : Int) ∈ s.opn ∨ Asg l D F s k' w := by
    intro t t1 t3 t4 w hw hsw j y' k' hj hlt
    rcases h.f w hw hsw j y' k' hj hlt with ⟨st, hst, e1, e2⟩ | h1
    · obtain ⟨i, hi⟩ := List.getElem?_of_mem hst
      obtain ⟨st1, g1, g2, _, g3⟩ := fwd t t1 t3 hi
      rcases g3 with rfl | ⟨_, rfl, rfl⟩
      · exact .inl ⟨st1, List.mem_of_getElem? g1, e1, e2⟩
      · have hwv : w = v := by omega
        subst hwv
        by_cases hjn : j = st.next
        · subst hjn
          rw [hx] at hj
          right
          left
          have e3 := Option.some.inj hj
          have e4 : (y : Int) = y' := congrArg Prod.fst e3
          have e5 : (k : Int) = k' := congrArg Prod.snd e3
          have e6 : y' = y := by omega
          have e7 : k' = k := by omega
          rw [e6, e7]
        · exact .inl ⟨st1, List.mem_of_getElem? g1, by rw [g2]; exact e1, by omega⟩
    · exact .inr (.inr h1)
  by_cases hneg : at_ s.depth (y : Int) < 0
  · -- a new vertex
    have e : lookW s init { top with next := top.next + 1 } ((y : Int), (k : Int)) = { s with root := s.root.set y (at_ s.root top.v), from_ := s.from_.set y top.v, depth := s.depth.set y (at_ s.depth top.v + 1), path := init ++ [{ top with next := top.next + 1 }] ++ [⟨(y : Int), (k : Int), 0, at_ s.depth top.v, s.opn.length⟩] } := by unfold lookW; simp only [if_pos hneg]; rfl
    rw [e] at hA ⊢
    obtain ⟨s', hs'⟩ : ∃ s' : WS, s' = { s with root := s.root.set y (at_ s.root top.v), from_ := s.from_.set y top.v, depth := s.depth.set y (at_ s.depth top.v + 1), path := init ++ [{ top with next := top.next + 1 }] ++ [⟨(y : Int), (k : Int), 0, at_ s.depth top.v, s.opn.length⟩] } := ⟨_, rfl⟩
    rw [← hs'] at hA ⊢
    have pP : s'.path = init ++ [{ top with next := top.next + 1 }] ++ [⟨(y : Int), (k : Int), 0, at_ s.depth top.v, s.opn.length⟩] := by rw [hs']
    have pO : s'.opn = s.opn := by rw [hs']
    have pB : s'.block = s.block := by rw [hs']
    have pD : ∀ z, s'.depth.getD z 0 = if y = z then at_ s.depth top.v + 1 else s.depth.getD z 0 := fun z => by
      rw [hs']
      show (s.depth.set y _).getD z 0 = _
      rw [set_getD, hO.lenD]
      by_cases e : y = z
      · rw [if_pos ⟨e, hy⟩, if_pos e]
      · rw [if_neg (fun a => e a.1), if_neg e]
    have pF : s'.from_.getD y 0 = top.v := by
      rw [hs']
      show (s.from_.set y _).getD y 0 = _
      rw [set_getD, hO.lenF, if_pos ⟨rfl, hy⟩]
    have hnsy : ¬ seen s y := fun e => by unfold seen at e; unfold at_ at hneg; rw [Int.toNat_natCast] at hneg; omega
    have hvp : 0 ≤ D.getD v 0 := T.pos v ht.lt
    have hsy : seen s' y := by unfold seen; rw [pD, if_pos rfl, hdv]; omega
    have hup : ∀ z, seen s z → seen s' z := fun z hz => by
      unfold seen at hz ⊢
      rw [pD]
      split
      · rw [hdv]; omega
      · exact hz
    have hdn : ∀ z, seen s' z → z ≠ y → seen s z := fun z hz hne => by
      unfold seen at hz ⊢
      rw [pD, if_neg (fun e => hne e.symm)] at hz
      exact hz
    have hDy : D.getD y 0 = D.getD v 0 + 1 := by
      rw [← (hA y hy hsy).1, pD, if_pos rfl, hdv]
    have hFy : F.getD y 0 = (v : Int) := by rw [← (hA y hy hsy).2, pF, ht.ev]
    have B := @back { top with next := top.next + 1 } rfl rfl rfl
    have Fw := @fwd { top with next := top.next + 1 } rfl rfl
    have hon : ∀ z, onP s z → onP s' z := onfwd { top with next := top.next + 1 } rfl rfl s' (fun st hst => by rw [pP]; exact List.mem_append_left _ hst)
    have hlen : (init ++ [{ top with next := top.next + 1 }]).length = init.length + 1 := by simp
    have hcut : ∀ {i : Nat} {st : Stp}, s'.path[i]? = some st → (i < init.length + 1 ∧ (init ++ [{ top with next := top.next + 1 }])[i]? = some st) ∨ (i = init.length + 1 ∧ st = ⟨(y : Int), (k : Int), 0, at_ s.depth top.v, s.opn.length⟩) := fun hi => by
      rw [pP] at hi
      rcases snoc_get hi with ⟨h1, h2⟩ | ⟨h1, h2⟩
      · exact .inl ⟨by omega, h2⟩
      · exact .inr ⟨by omega, h2⟩
    refine ⟨hA, fun st hst => ?_, fun i st st' h1 h2 => ?_, fun p hp1 => ?_, fun i st h1 => ?_, fun i st h1 => ?_, fun i st h1 q' hq' => ?_, fun i st h1 k' u w hk hm => ?_, fun w hw hsw j y' k' hj hlt => ?_⟩
    · rcases hcut hst with ⟨_, h2⟩ | ⟨h2, _⟩
      · obtain ⟨st0, g1, g2, _⟩ := B h2
        rw [← g2]
        exact h.rt st0 g1
      · omega
    · rcases hcut h1 with ⟨g0, g1⟩ | ⟨g0, g1⟩
      · obtain ⟨a0, b1, b2, _, _, b5⟩ := B g1
        rcases hcut h2 with ⟨g2, g3⟩ | ⟨g2, g3⟩
        · obtain ⟨a1, c1, c2, c3, _⟩ := B g3
          rw [← b2, ← c2, ← c3]
          exact h.ch i a0 a1 b1 c1
        · subst g3
          have hi : i = init.length := by omega
          have : a0 = top := by
            rw [hi, hlast] at b1
            exact (Option.some.inj b1).symm
          subst this
          rw [← b2]
          refine ⟨by rw [ht.ev]; exact hFy, k, rfl, ?_⟩
          rw [← ev]
          exact ⟨hJ, by show D.getD v 0 < D.getD y 0; omega⟩
      · rcases hcut h2 with ⟨g2, _⟩ | ⟨g2, _⟩ <;> omega
    · rw [pO] at hp1
      obtain ⟨k', u, w, h1, h2, h3, h4⟩ := h.a p hp1
      refine ⟨k', u, w, h1, h2, hup w h3, fun z hz => ?_⟩
      rcases h4 z hz with h5 | h5
      · exact .inl (hon z h5)
      · exact .inr h5
    · intro k' u w hk hm
      rw [pO] at hm
      rcases hcut h1 with ⟨_, g1⟩ | ⟨_, g1⟩
      · obtain ⟨a0, b1, b2, _, b4, _⟩ := B g1
        rw [← b2]
        rw [← b4] at hm
        exact h.b i a0 b1 k' u w hk hm
      · subst g1
        rw [List.drop_length] at hm
        simp at hm
    · intro k' u w hk hm ha
      rw [pO] at hm
      rcases hcut h1 with ⟨_, g1⟩ | ⟨_, g1⟩
      · obtain ⟨a0, b1, b2, _, b4, _⟩ := B g1
        rw [← b2] at ha
        rw [← b4] at hm
        exact h.c i a0 b1 k' u w hk hm ha
      · subst g1
        rw [List.take_length] at hm
        obtain ⟨k2, u2, w2, h3, h4, h5, _⟩ := h.a _ hm
        have : k2 = k' := by omega
        subst this
        obtain ⟨_, rfl⟩ := h4.uniq hk
        exact hnsy (h.unseen hT (hk.1.below hR).2 h5 ha)
    · rcases hcut h1 with ⟨_, g1⟩ | ⟨_, g1⟩
      · obtain ⟨a0, b1, b2, _, _, b5⟩ := B g1
        rw [← b2] at hq' ⊢
        have := h.d i a0 b1 q' hq'
        rcases b5 with ⟨_, rfl⟩ | ⟨_, rfl, rfl⟩
        · exact this
        · exact this
      · subst g1
        have : q' = v := by
          have e1 : F.getD y 0 = (q' : Int) := hq'
          omega
        subst this
        show at_ s.depth top.v ≤ _ ∧ (at_ s.depth top.v = _ ∨ _)
        rw [hdv]
        exact ⟨Int.le_refl _, .inl rfl⟩
    · rw [pO] at hm ⊢
      rcases hcut h1 with ⟨_, g1⟩ | ⟨_, g1⟩
      · obtain ⟨a0, b1, b2, _, b4, b5⟩ := B g1
        rw [← b4] at hm
        have h3 := h.e i a0 b1 k' u w hk hm
        rcases h3 with ⟨st', g2, g3⟩ | g2
        · obtain ⟨st1, g4, _, g5, _⟩ := Fw g2
          exact .inl ⟨st1, by rw [pP]; exact snoc_old g4 _, by rw [g5]; exact g3⟩
        · right
          rcases b5 with ⟨_, rfl⟩ | ⟨_, rfl, rfl⟩
          · exact g2
          · exact g2
      · subst g1
        rw [List.drop_length] at hm
        simp at hm
    · rw [pO]
      by_cases hwy : w = y
      · subst hwy
        exact .inl ⟨⟨(w : Int), (k : Int), 0, at_ s.depth top.v, s.opn.length⟩, by rw [pP]; simp, rfl, Nat.zero_le _⟩
      · rcases flook { top with next := top.next + 1 } rfl rfl rfl w hw (hdn w hsw hwy) j y' k' hj hlt with ⟨st, hst, e1, e2⟩ | h1 | h1 | ⟨hd, b, q', h1, h2, h3, h4⟩
        · exact .inl ⟨st, by rw [pP]; exact List.mem_append_left _ hst, e1, e2⟩
        · cases h1
          omega
        · exact .inr (.inl h1)
        · refine .inr (.inr ⟨hd, b, q', h1, ?_, hup hd h3, by rw [pB]; exact h4⟩)
          rintro ⟨st, hst, e1⟩
          rw [pP] at hst
          rcases List.mem_append.1 hst with h5 | h5
          · exact h2 (onback { top with next := top.next + 1 } rfl rfl rfl hd ⟨st, h5, e1⟩)
          · obtain rfl := List.mem_singleton.1 h5
            have : hd = y := by
              have e2 : (y : Int) = (hd : Int) := e1
              omega
            subst this
            exact hnsy h3
  · -- one that has been seen
    have hsy : seen s y := by unfold seen; unfold at_ at hneg; rw [Int.toNat_natCast] at hneg; omega
    have hdy : at_ s.depth (y : Int) = D.getD y 0 := by unfold at_; rw [Int.toNat_natCast]; exact (h.agr y hy hsy).1
    by_cases hlt0 : at_ s.depth (y : Int) < at_ s.depth top.v
    · have e : lookW s init { top with next := top.next + 1 } ((y : Int), (k : Int)) = { s with path := init ++ [{ top with next := top.next + 1, low := min top.low (at_ s.depth (y : Int)) }], opn := s.opn ++ [(k : Int)] } := by unfold lookW; simp only [if_neg hneg, if_pos hlt0]
      rw [e] at hA ⊢
      rw [hdy] at hA ⊢
      rw [hdy, hdv] at hlt0
      have hkE : EdP l D k y v := ⟨hJ.symm, hlt0⟩
      have B := @back { top with next := top.next + 1, low := min top.low (D.getD y 0) } rfl rfl rfl
      have Fw := @fwd { top with next := top.next + 1, low := min top.low (D.getD y 0) } rfl rfl
      have hon : ∀ z, onP s z → onP { s with path := init ++ [{ top with next := top.next + 1, low := min top.low (D.getD y 0) }], opn := s.opn ++ [(k : Int)] } z := onfwd { top with next := top.next + 1, low := min top.low (D.getD y 0) } rfl rfl _ (fun st hst => hst)
      refine ⟨hA, fun st hst => ?_, fun i st st' h1 h2 => ?_, fun p hp1 => ?_, fun i st h1 => ?_, fun i st h1 => ?_, fun i st h1 q' hq' => ?_, fun i st h1 k' u w hk hm => ?_, fun w hw hsw j y' k' hj hlt => ?_⟩
      · obtain ⟨st0, g1, g2, _⟩ := B hst
        rw [← g2]
        exact h.rt st0 g1
      · obtain ⟨a0, b1, b2, _⟩ := B h1
        obtain ⟨a1, c1, c2, c3, _⟩ := B h2
        rw [← b2, ← c2, ← c3]
        exact h.ch i a0 a1 b1 c1
      · rcases List.mem_append.1 hp1 with hp2 | hp2
        · obtain ⟨k', u, w, h1, h2, h3, h4⟩ := h.a p hp2
          refine ⟨k', u, w, h1, h2, h3, fun z hz => ?_⟩
          rcases h4 z hz with h5 | h5
          · exact .inl (hon z h5)
          · exact .inr h5
        · obtain rfl := List.mem_singleton.1 hp2
          exact ⟨k, y, v, rfl, hkE, ht.see, fun z hz => .inl (hon z (ht.clo z hz))⟩
      · intro k' u w hk hm
        obtain ⟨a0, b1, b2, _, b4, _⟩ := B h1
        rw [← b2]
        rw [← b4] at hm
        have hm' : (k' : Int) ∈ (s.opn ++ [(k : Int)]).drop a0.opn := hm
        rw [List.drop_append_of_le_length (hopl b1)] at hm'
        rcases List.mem_append.1 hm' with hm2 | hm2
        · exact h.b i a0 b1 k' u w hk hm2
        · have : k' = k := by have := List.mem_singleton.1 hm2; omega
          subst this
          obtain ⟨_, rfl⟩ := hkE.uniq hk
          refine ht.up _ ⟨a0, List.mem_of_getElem? b1, (hO.nat (List.mem_of_getElem? b1)).1⟩
      · intro k' u w hk hm
        obtain ⟨a0, b1, b2, _, b4, _⟩ := B h1
        rw [← b2]
        rw [← b4] at hm
        have hm' : (k' : Int) ∈ (s.opn ++ [(k : Int)]).take a0.opn := hm
        rw [List.take_append_of_le_length (hopl b1)] at hm'
        exact h.c i a0 b1 k' u w hk hm'
      · obtain ⟨a0, b1, b2, _, _, b5⟩ := B h1
        rw [← b2] at hq' ⊢
        obtain ⟨d1, d2⟩ := h.d i a0 b1 q' hq'
        rcases b5 with ⟨_, rfl⟩ | ⟨_, rfl, rfl⟩
        · exact ⟨d1, d2⟩
        · show min a0.low (D.getD y 0) ≤ _ ∧ (min a0.low (D.getD y 0) = _ ∨ ∃ k u w, EdP l D k u w ∧ _ ∧ D.getD u 0 = min a0.low (D.getD y 0))
          refine ⟨by omega, ?_⟩
          by_cases hm : a0.low ≤ D.getD y 0
          · rw [Int.min_eq_left hm]
            exact d2
          · rw [Int.min_eq_right (by omega)]
            exact .inr ⟨k, y, v, hkE, by rw [← ev]; exact Anc.refl _ _, rfl⟩
      · obtain ⟨a0, b1, b2, _, b4, b5⟩ := B h1
        rw [← b4] at hm
        have hm' : (k' : Int) ∈ (s.opn ++ [(k : Int)]).drop a0.opn := hm
        rw [List.drop_append_of_le_length (hopl b1)] at hm'
        have hnext : ∀ {st' : Stp}, s.path[i + 2]? = some st' → ((k' : Int) ∈ s.opn.drop st'.opn ∨ k' = k) → ∃ st1, (init ++ [{ top with next := top.next + 1, low := min top.low (D.getD y 0) }])[i + 2]? = some st1 ∧ (k' : Int) ∈ (s.opn ++ [(k : Int)]).drop st1.opn := by
          intro st' g2 g3
          obtain ⟨st1, g4, _, g5, _⟩ := Fw g2
          refine ⟨st1, g4, ?_⟩
          rw [g5, List.drop_append_of_le_length (hopl g2)]
          rcases g3 with g3 | rfl
          · exact List.mem_append_left _ g3
          · exact List.mem_append_right _ (List.mem_singleton.2 rfl)
        rcases List.mem_append.1 hm' with hm2 | hm2
        · rcases h.e i a0 b1 k' u w hk hm2 with ⟨st', g2, g3⟩ | g2
          · exact .inl (hnext g2 (.inl g3))
          · right
            rcases b5 with ⟨_, rfl⟩ | ⟨_, rfl, rfl⟩
            · exact g2
            · show min a0.low (D.getD y 0) ≤ _
              omega
        · have : k' = k := by have := List.mem_singleton.1 hm2; omega
          subst this
          obtain ⟨rfl, rfl⟩ := hkE.uniq hk
          rcases b5 with ⟨b6, rfl⟩ | ⟨_, rfl, rfl⟩
          · left
            have hlt2 : i + 2 < s.path.length := by rw [hp, List.length_append, List.length_singleton]; omega
            exact hnext (List.getElem?_eq_getElem hlt2) (.inr rfl)
          · right
            show min a0.low (D.getD y 0) ≤ D.getD y 0
            omega
      · rcases flook { top with next := top.next + 1, low := min top.low (D.getD y 0) } rfl rfl rfl w hw hsw j y' k' hj hlt with h1 | h1 | h1 | ⟨hd, b, q', h1, h2, h3⟩
        · exact .inl h1
        · cases h1
          exact .inr (.inl (List.mem_append_right _ (List.mem_singleton.2 rfl)))
        · exact .inr (.inl (List.mem_append_left _ h1))
        · exact .inr (.inr ⟨hd, b, q', h1, fun h5 => h2 (onback { top with next := top.next + 1, low := min top.low (D.getD y 0) } rfl rfl rfl hd h5), h3⟩)
    · have e : lookW s init { top with next := top.next + 1 } ((y : Int), (k : Int)) = { s with path := init ++ [{ top with next := top.next + 1 }] } := by unfold lookW; simp only [if_neg hneg, if_neg hlt0]
      rw [e] at hA ⊢
      rw [hdy, hdv] at hlt0
      have B := @back { top with next := top.next + 1 } rfl rfl rfl
      have Fw := @fwd { top with next := top.next + 1 } rfl rfl
      have hon : ∀ z, onP s z → onP { s with path := init ++ [{ top with next := top.next + 1 }] } z := onfwd { top with next := top.next + 1 } rfl rfl _ (fun st hst => hst)
      refine ⟨hA, fun st hst => ?_, fun i st st' h1 h2 => ?_, fun p hp1 => ?_, fun i st h1 => ?_, fun i st h1 => ?_, fun i st h1 q' hq' => ?_, fun i st h1 k' u w hk hm => ?_, fun w hw hsw j y' k' hj hlt => ?_⟩
      · obtain ⟨st0, g1, g2, _⟩ := B hst
        rw [← g2]
        exact h.rt st0 g1
      · obtain ⟨a0, b1, b2, _⟩ := B h1
        obtain ⟨a1, c1, c2, c3, _⟩ := B h2
        rw [← b2, ← c2, ← c3]
        exact h.ch i a0 a1 b1 c1
      · obtain ⟨k', u, w, h1, h2, h3, h4⟩ := h.a p hp1
        refine ⟨k', u, w, h1, h2, h3, fun z hz => ?_⟩
        rcases h4 z hz with h5 | h5
        · exact .inl (hon z h5)
        · exact .inr h5
      · obtain ⟨a0, b1, b2, _, b4, _⟩ := B h1
        rw [← b2, ← b4]
        exact h.b i a0 b1
      · obtain ⟨a0, b1, b2, _, b4, _⟩ := B h1
        rw [← b2, ← b4]
        exact h.c i a0 b1
      · obtain ⟨a0, b1, b2, _, _, b5⟩ := B h1
        rw [← b2] at hq' ⊢
        have := h.d i a0 b1 q' hq'
        rcases b5 with ⟨_, rfl⟩ | ⟨_, rfl, rfl⟩
        · exact this
        · exact this
      · obtain ⟨a0, b1, b2, _, b4, b5⟩ := B h1
        rw [← b4] at hm
        rcases h.e i a0 b1 k' u w hk hm with ⟨st', g2, g3⟩ | g2
        · obtain ⟨st1, g4, _, g5, _⟩ := Fw g2
          exact .inl ⟨st1, g4, by rw [g5]; exact g3⟩
        · right
          rcases b5 with ⟨_, rfl⟩ | ⟨_, rfl, rfl⟩
          · exact g2
          · exact g2
      · rcases flook { top with next := top.next + 1 } rfl rfl rfl w hw hsw j y' k' hj hlt with h1 | h1 | h1 | ⟨hd, b, q', h1, h2, h3⟩
        · exact .inl h1
        · cases h1
          omega
        · exact .inr (.inl h1)
        · exact .inr (.inr ⟨hd, b, q', h1, fun h5 => h2 (onback { top with next := top.next + 1 } rfl rfl rfl hd h5), h3⟩)
end
end Go.Proofs.Ytdadpfkoocpfaaa
