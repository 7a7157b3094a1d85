/-
  The walk's model, whole: each edge has the label of the edge that led to the nearest head. No program in this text.
-/
import Derived.Test.YtdadpfkoocpfaaaPLow2
namespace Go.Proofs.Ytdadpfkoocpfaaa
open Go Go.Proofs

/-- What has been seen stays as it is. -/
def Mon (N : Nat) (s s' : WS) : Prop := ∀ v, v < N → seen s v → s'.depth.getD v 0 = s.depth.getD v 0 ∧ s'.from_.getD v 0 = s.from_.getD v 0
theorem Mon.refl (N : Nat) (s : WS) : Mon N s s := fun _ _ _ => ⟨rfl, rfl⟩
theorem Mon.trans {N : Nat} {a b c : WS} (h : Mon N a b) (h' : Mon N b c) : Mon N a c := fun v hv hs => by
  obtain ⟨h1, h2⟩ := h v hv hs
  obtain ⟨h3, h4⟩ := h' v hv (by unfold seen at hs ⊢; rw [h1]; exact hs)
  exact ⟨h3.trans h1, h4.trans h2⟩
theorem Mon.same {N : Nat} {s s' : WS} (h1 : s'.depth = s.depth) (h2 : s'.from_ = s.from_) : Mon N s s' := fun v _ _ => by rw [h1, h2]; exact ⟨rfl, rfl⟩
theorem leave_mon (N : Nat) (s : WS) (init : List Stp) (last : Stp) : Mon N s (leaveW s init last) := by
  unfold leaveW
  split
  · exact .same rfl rfl
  · split
    · exact .same rfl rfl
    · exact .same rfl rfl
theorem look_mon (N : Nat) (s : WS) (init : List Stp) (top : Stp) (x : Int × Int) : Mon N s (lookW s init top x) := by
  unfold lookW
  split
  · rename_i hneg
    intro v hv hs
    have hne : ¬ (x.1.toNat = v ∧ x.1.toNat < s.depth.length) := fun e => by
      unfold seen at hs
      unfold at_ at hneg
      rw [e.1] at hneg
      omega
    have hne2 : ¬ (x.1.toNat = v ∧ x.1.toNat < s.from_.length) := fun e => by
      unfold seen at hs
      unfold at_ at hneg
      rw [e.1] at hneg
      omega
    constructor
    · show (s.depth.set _ _).getD v 0 = _
      rw [set_getD, if_neg hne]
    · show (s.from_.set _ _).getD v 0 = _
      rw [set_getD, if_neg hne2]
  · split
    · exact .same rfl rfl
    · exact .same rfl rfl
theorem step_mon (N : Nat) (lk : List (List (Int × Int))) (s : WS) : Mon N s (stepW lk s) := by
  unfold stepW
  split
  · exact .refl _ _
  · split
    · exact leave_mon _ _ _ _
    · exact look_mon _ _ _ _ _
theorem run_mon (N : Nat) (lk : List (List (Int × Int))) : ∀ (k : Nat) (s : WS), Mon N s (runW lk k s)
  | 0, s => .refl _ _
  | k + 1, s => by
    rw [runW]
    exact (step_mon N lk s).trans (run_mon N lk k _)
theorem root_mon {N : Nat} {s : WS} {r : Nat} (hs : s.depth.getD r 0 < 0) : Mon N s { s with root := s.root.set r (r : Int), from_ := s.from_.set r (-1), depth := s.depth.set r 0, path := s.path ++ [⟨(r : Int), -1, 0, 0, 0⟩] } := by
  intro v hv h
  have hne : r ≠ v := fun e => by unfold seen at h; rw [← e] at h; omega
  constructor
  · show (s.depth.set r _).getD v 0 = _
    rw [set_getD, if_neg (fun e => hne e.1)]
  · show (s.from_.set r _).getD v 0 = _
    rw [set_getD, if_neg (fun e => hne e.1)]
theorem start_mon (N : Nat) (lk : List (List (Int × Int))) (C : Nat) (s : WS) (r : Nat) : Mon N s (startW lk C s r) := by
  unfold startW
  split
  · exact .refl _ _
  · rename_i h
    exact (root_mon (by omega)).trans (run_mon N lk C _)
theorem fold_mon (N : Nat) (lk : List (List (Int × Int))) (C : Nat) : ∀ (rs : List Nat) (s : WS), Mon N s (rs.foldl (startW lk C) s)
  | [], s => .refl _ _
  | r :: rs, s => by
    rw [List.foldl_cons]
    exact (start_mon N lk C s r).trans (fold_mon N lk C rs _)
def Agr (N : Nat) (D F : List Int) (s : WS) : Prop := ∀ v, v < N → seen s v → s.depth.getD v 0 = D.getD v 0 ∧ s.from_.getD v 0 = F.getD v 0
theorem Agr.back {N : Nat} {D F : List Int} {s s' : WS} (h : Agr N D F s') (hm : Mon N s s') : Agr N D F s := fun v hv hs => by
  obtain ⟨h1, h2⟩ := hm v hv hs
  obtain ⟨h3, h4⟩ := h v hv (by unfold seen at hs ⊢; rw [h1]; exact hs)
  exact ⟨h1.symm.trans h3, h2.symm.trans h4⟩
section
variable {N C : Nat} {l : List Ed} {lk : List (List (Int × Int))} {D F : List Int}
theorem BI.step {s : WS} (h : BI N l lk D F s) (hO : OkW N l.length C lk s) (hT : TreeI N l lk s) (hR : RightG (N : Int) l) (T : Tr N l D F) (hK : LinksP N l lk) (hne : s.path ≠ []) (hA : Agr N D F (stepW lk s)) : BI N l lk D F (stepW lk s) := by
  unfold stepW at hA ⊢
  cases hl : s.path.getLast? with
  | none => exact absurd (List.getLast?_eq_none_iff.1 hl) hne
  | some top =>
    have hp := path_last hl
    rw [hl] at hA
    simp only at hA ⊢
    split
    · rename_i hn
      exact h.leave hO rfl hT hR T hK hp hn
    · rename_i hn
      rw [if_neg hn] at hA
      have hle := hO.nxt top (by rw [hp]; simp)
      have hlt : top.next < degW lk top.v := by unfold degW at hle ⊢; omega
      have hx := List.getElem?_eq_getElem (l := lk.getD top.v.toNat []) hlt
      have e : (lk.getD top.v.toNat []).getD top.next (0, 0) = (lk.getD top.v.toNat [])[top.next] := by rw [List.getD_eq_getElem?_getD, hx]; rfl
      rw [e] at hA ⊢
      exact h.look hO hT hR T hK hp hx hA
theorem BI.run (hR : RightG (N : Int) l) (T : Tr N l D F) (hK : LinksP N l lk) (hKo : LinksOK N l lk) (hI : LinksIn N l.length lk) : ∀ (k : Nat) {s : WS}, BI N l lk D F s → OkW N l.length C lk s → TreeI N l lk s → pot lk N s ≤ k → Agr N D F (runW lk k s) → BI N l lk D F (runW lk k s)
  | 0, _, h, _, _, _, _ => h
  | k + 1, s, h, hO, hT, hk, hA => by
    rw [runW] at hA ⊢
    by_cases hp : s.path = []
    · rw [step_stay hp, run_stay hp]
      exact h
    · obtain ⟨h1, h2⟩ := hO.step hI hp
      exact BI.run hR T hK hKo hI k (h.step hO hT hR T hK hp (hA.back (run_mon N lk k _))) h1 (hT.step hO hKo hp) (by omega) hA
theorem BI.empty {s : WS} (h : BI N l lk D F s) (hR : RightG (N : Int) l) (T : Tr N l D F) (hp : s.path = []) : s.opn = [] := by
  cases ho : s.opn with
  | nil => rfl
  | cons p ps =>
    obtain ⟨k, u, w, h1, h2, h3, h4⟩ := h.a p (by rw [ho]; exact List.mem_cons_self ..)
    obtain ⟨hu, hw⟩ := h2.1.below hR
    have := T.pos u hu
    have := h2.2
    obtain ⟨y, hy, hh⟩ := T.first hR hw (by omega)
    rcases h4 y hy with ⟨st, hst, _⟩ | h5
    · rw [hp] at hst
      simp at hst
    · exact absurd hh h5
theorem BI.root {s : WS} {r : Nat} (h : BI N l lk D F s) (hO : OkW N l.length C lk s) (hR : RightG (N : Int) l) (T : Tr N l D F) (hp : s.path = []) (hr : r < N) (hs : s.depth.getD r 0 < 0)
    (hA : Agr N D F { s with root := s.root.set r (r : Int), from_ := s.from_.set r (-1), depth := s.depth.set r 0, path := s.path ++ [⟨(r : Int), -1, 0, 0, 0⟩] }) :
    BI N l lk D F { s with root := s.root.set r (r : Int), from_ := s.from_.set r (-1), depth := s.depth.set r 0, path := s.path ++ [⟨(r : Int), -1, 0, 0, 0⟩] } := by
  have ho := h.empty hR T hp
  have hnr : ¬ seen s r := fun e => by unfold seen at e; omega
  obtain ⟨s', hs'⟩ : ∃ s' : WS, s' = { s with root := s.root.set r (r : Int), from_ := s.from_.set r (-1), depth := s.depth.set r 0, path := s.path ++ [⟨(r : Int), -1, 0, 0, 0⟩] } := ⟨_, rfl⟩
  rw [← hs'] at hA ⊢
  have pP : s'.path = [⟨(r : Int), -1, 0, 0, 0⟩] := by rw [hs']; show s.path ++ _ = _; rw [hp]; rfl
  have pO : s'.opn = [] := by rw [hs']; exact ho
  have pB : s'.block = s.block := by rw [hs']
  have pD : ∀ z, s'.depth.getD z 0 = if r = z then 0 else s.depth.getD z 0 := fun z => by
    rw [hs']
    show (s.depth.set r 0).getD z 0 = _
    rw [set_getD, hO.lenD]
    by_cases e : r = z
    · rw [if_pos ⟨e, hr⟩, if_pos e]
    · rw [if_neg (fun a => e a.1), if_neg e]
  have pF : s'.from_.getD r 0 = -1 := by
    rw [hs']
    show (s.from_.set r _).getD r 0 = _
    rw [set_getD, hO.lenF, if_pos ⟨rfl, hr⟩]
  have hsr : seen s' r := by unfold seen; rw [pD, if_pos rfl]; exact Int.le_refl 0
  have hup : ∀ z, seen s z → seen s' z := fun z hz => by
    unfold seen at hz ⊢
    rw [pD]
    split
    · omega
    · exact hz
  have hdn : ∀ z, seen s' z → z ≠ r → seen s z := fun z hz hne => by
    unfold seen at hz ⊢
    rw [pD, if_neg (fun e => hne e.symm)] at hz
    exact hz
  have h0 : ∀ {i : Nat} {st : Stp}, s'.path[i]? = some st → i = 0 ∧ st = ⟨(r : Int), -1, 0, 0, 0⟩ := fun {i st} hi => by
    rw [pP] at hi
    have := (List.getElem?_eq_some_iff.1 hi).1
    rw [List.length_singleton] at this
    have e : i = 0 := by omega
    subst e
    exact ⟨rfl, (Option.some.inj hi).symm⟩
  refine ⟨hA, fun st hst => ?_, fun i st st' h1 h2 => ?_, fun p hp1 => ?_, fun i st h1 k u w hk hm => ?_, fun i st h1 k u w hk hm => ?_, fun i st h1 => ?_, fun i st h1 => ?_, fun w hw hsw j y k hj hlt => ?_⟩
  · obtain ⟨_, rfl⟩ := h0 hst
    show F.getD r 0 = -1
    rw [← (hA r hr hsr).2]
    exact pF
  · have := (h0 h2).1
    omega
  · rw [pO] at hp1
    simp at hp1
  · rw [pO] at hm
    simp at hm
  · rw [pO] at hm
    simp at hm
  · have := (h0 h1).1
    omega
  · have := (h0 h1).1
    omega
  · by_cases hwr : w = r
    · subst hwr
      exact .inl ⟨⟨(w : Int), -1, 0, 0, 0⟩, by rw [pP]; simp, rfl, Nat.zero_le _⟩
    · rcases h.f w hw (hdn w hsw hwr) j y k hj hlt with ⟨st, hst, _⟩ | h1 | ⟨hd, b, q, h1, h2, h3, h4⟩
      · rw [hp] at hst
        simp at hst
      · rw [ho] at h1
        simp at h1
      · refine .inr (.inr ⟨hd, b, q, h1, ?_, hup hd h3, by rw [pB]; exact h4⟩)
        rintro ⟨st, hst, e1⟩
        rw [pP] at hst
        obtain rfl := List.mem_singleton.1 hst
        have : hd = r := by
          have e2 : (r : Int) = (hd : Int) := e1
          omega
        subst this
        exact hnr h3
theorem BI.start (hR : RightG (N : Int) l) (T : Tr N l D F) (hK : LinksP N l lk) (hKo : LinksOK N l lk) (hI : LinksIn N l.length lk) {s : WS} {r : Nat} (h : BI N l lk D F s) (hO : OkW N l.length C lk s) (hT : TreeI N l lk s) (hp : s.path = []) (hr : r < N) (hA : Agr N D F (startW lk C s r)) : BI N l lk D F (startW lk C s r) := by
  unfold startW at hA ⊢
  split
  · exact h
  · rename_i hn
    rw [if_neg hn] at hA
    refine BI.run hR T hK hKo hI C (h.root hO hR T hp hr (by omega) (hA.back (run_mon N lk C _))) (hO.root hp hr (by omega)) (hT.root hKo hp hr (by omega)) ?_ hA
    have := pot_root hO hp hr (by omega)
    have := hO.bo
    omega
end
theorem walk_bi {N : Nat} {l : List Ed} (hR : RightG (N : Int) l) : ∀ k, k ≤ N → BI N l (linksL N l) (walkW N l).depth (walkW N l).from_ ((List.range k).foldl (startW (linksL N l) (4 * (N + l.length) + 4)) (freshW N l.length))
  | 0, _ => by
    have hns : ∀ v, v < N → ¬ seen (freshW N l.length) v := fun v hv h => by
      unfold seen freshW at h
      simp [hv] at h
    exact ⟨fun v hv h => absurd h (hns v hv), fun st hst => by simp [freshW] at hst, fun i st st' hst => by simp [freshW] at hst, fun p hp => by simp [freshW] at hp, fun i st hst => by simp [freshW] at hst, fun i st hst => by simp [freshW] at hst, fun i st hst => by simp [freshW] at hst, fun i st hst => by simp [freshW] at hst, fun w hw h => absurd h (hns w hw)⟩
  | k + 1, hk => by
    obtain ⟨h1, h2⟩ := walk_ok hR k (by omega)
    have ih := walk_bi hR k (by omega)
    have hT := walk_tree hR k (by omega)
    have hA : Agr N (walkW N l).depth (walkW N l).from_ ((List.range (k + 1)).foldl (startW (linksL N l) (4 * (N + l.length) + 4)) (freshW N l.length)) := by
      have e : List.range N = List.range (k + 1) ++ (List.range (N - (k + 1))).map (k + 1 + ·) := by
        rw [← List.range_add]
        congr 1
        omega
      have hm : Mon N ((List.range (k + 1)).foldl (startW (linksL N l) (4 * (N + l.length) + 4)) (freshW N l.length)) (walkW N l) := by
        unfold walkW
        rw [e, List.foldl_append]
        exact fold_mon _ _ _ _ _
      exact fun v hv hs => ⟨(hm v hv hs).1.symm, (hm v hv hs).2.symm⟩
    rw [List.range_succ, List.foldl_append] at hA ⊢
    exact BI.start hR (walk_tr hR) (links_p hR) (links_ok hR) (links_in hR) ih h1 hT h2 (by omega) hA
/-- Each edge has the label of the edge that led to the nearest head. -/
theorem walk_lab {N : Nat} {l : List Ed} (hR : RightG (N : Int) l) {k u w : Nat} (h : EdP l (walkW N l).depth k u w) : ∃ hd b q : Nat, HeadOf l (walkW N l).depth (walkW N l).from_ hd w ∧ (walkW N l).block.getD k 0 = (b : Int) ∧ (walkW N l).from_.getD hd 0 = (q : Int) ∧ EdP l (walkW N l).depth b q hd := by
  have hB : BI N l (linksL N l) (walkW N l).depth (walkW N l).from_ (walkW N l) := walk_bi hR N (Nat.le_refl _)
  have hp : (walkW N l).path = [] := (walk_ok hR N (Nat.le_refl _)).2
  have hA := walk_all hR N (Nat.le_refl _)
  obtain ⟨hu, hw⟩ := h.1.below hR
  obtain ⟨j, hj⟩ := List.getElem?_of_mem ((links_p hR).full k w u hw h.1.symm)
  rcases hB.f w hw (hA.upto w hw) j u k hj h.2 with ⟨st, hst, _⟩ | h1 | ⟨hd, b, q, h1, _, _, h2, h3, h4⟩
  · rw [hp] at hst
    simp at hst
  · rw [hB.empty hR (walk_tr hR) hp] at h1
    simp at h1
  · exact ⟨hd, b, q, h1, h2, h3, h4⟩
end Go.Proofs.Ytdadpfkoocpfaaa
