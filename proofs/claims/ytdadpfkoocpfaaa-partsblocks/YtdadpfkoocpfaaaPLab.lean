/-
  Two edges at a vertex have one label just if their other ends hang together without it. No program in this text.
-/
import Derived.Test.YtdadpfkoocpfaaaPLow3
namespace Go.Proofs.Ytdadpfkoocpfaaa
open Go Go.Proofs

/-- H: the edges without those at v. -/
def NoV (l : List Ed) (v : Nat) (H : List Ed) : Prop := ∀ x y, Adj H x y ↔ Adj l x y ∧ x ≠ v ∧ y ≠ v
section
variable {N : Nat} {l : List Ed} {D F : List Int}
theorem Tr.child {c q : Nat} (T : Tr N l D F) (hc : c < N) (hq : F.getD c 0 = (q : Int)) : q < N ∧ D.getD c 0 = D.getD q 0 + 1 ∧ Adj l q c := by
  rcases T.par c hc with ⟨_, h2⟩ | ⟨u, a, b, c, d⟩
  · omega
  · have : u = q := by omega
    subst this
    exact ⟨a, c, d⟩
theorem HeadOf.up {h w q : Nat} (hw : ¬ Head l D F w) (hq : F.getD w 0 = (q : Int)) (hh : HeadOf l D F h q) : HeadOf l D F h w := by
  refine ⟨.up hq hh.1, hh.2.1, fun y hy hhy hne => ?_⟩
  rcases hy.cases with rfl | ⟨x, hx, hyx⟩
  · exact hw
  · have : x = q := by omega
    subst this
    exact hh.2.2 y hyx hhy hne
theorem HeadOf.self (T : Tr N l D F) {w : Nat} (hw : w < N) (hh : Head l D F w) : HeadOf l D F w w := ⟨Anc.refl _ _, hh, fun _ hy hwy hne => absurd (T.anti hw hy hwy) hne⟩
theorem HeadOf.uniq {h h' w : Nat} (a : HeadOf l D F h w) (b : HeadOf l D F h' w) : h = h' := by
  rcases a.1.comp b.1 with h1 | h1
  · by_cases e : h' = h
    · exact e.symm
    · exact absurd b.2.1 (a.2.2 h' b.1 h1 e)
  · by_cases e : h = h'
    · exact e
    · exact absurd a.2.1 (b.2.2 h a.1 h1 e)
/-- From beyond c an edge leads up past it: all between have the head of c. -/
theorem HeadOf.climb (T : Tr N l D F) {h c a : Nat} (ha : a < N) (hca : Anc F c a) {k u w : Nat} (hk : EdP l D k u w) (haw : Anc F a w) (hu : D.getD u 0 < D.getD c 0) (hh : HeadOf l D F h c) : HeadOf l D F h a := by
  obtain ⟨ls, hl⟩ := hca
  induction ls generalizing a with
  | nil =>
    have e : a = c := hl
    subst e
    exact hh
  | cons z ls ih =>
    obtain ⟨hz, hd, _⟩ := T.child ha hl.1
    have hcz := T.le hz ⟨ls, hl.2⟩
    refine HeadOf.up ?_ hl.1 (ih hz (.trans (.up hl.1 (Anc.refl _ _)) haw) hl.2)
    rintro ⟨q, e1, e2⟩
    have hz1 := hl.1
    have : q = z := by omega
    subst this
    have := e2 k u w hk haw
    omega
/-- The child of v on the way to a. -/
theorem Tr.toward (T : Tr N l D F) {v a : Nat} (ha : a < N) (h : Anc F v a) (hne : a ≠ v) : ∃ c, c < N ∧ F.getD c 0 = (v : Int) ∧ Anc F c a := by
  obtain ⟨ls, hl⟩ := h
  induction ls generalizing a with
  | nil => exact absurd hl hne
  | cons z ls ih =>
    by_cases hz : z = v
    · subst hz
      exact ⟨a, ha, hl.1, Anc.refl _ _⟩
    · obtain ⟨hzN, _⟩ := T.child ha hl.1
      obtain ⟨c, h1, h2, h3⟩ := ih hzN hz hl.2
      exact ⟨c, h1, h2, .up hl.1 h3⟩
/-- Along the way back, where v is not on it. -/
theorem NoV.way {v : Nat} {H : List Ed} (hH : NoV l v H) (T : Tr N l D F) {x y : Nat} (hy : y < N) (h : Anc F x y) (hv : ∀ z, Anc F z y → Anc F x z → z ≠ v) : Conn H y x := by
  obtain ⟨ls, hl⟩ := h
  induction ls generalizing y with
  | nil =>
    have e : y = x := hl
    subst e
    exact .refl _
  | cons z ls ih =>
    obtain ⟨hz, _, hadj⟩ := T.child hy hl.1
    have hyz : Anc F z y := .up hl.1 (Anc.refl _ _)
    refine .step ((hH y z).2 ⟨hadj.symm, hv y (Anc.refl _ _) ⟨z :: ls, hl⟩, hv z hyz ⟨ls, hl.2⟩⟩) (ih hz (fun z' h1 h2 => hv z' (h1.trans hyz) h2) hl.2)
/-- Two on the way back from v, both above it. -/
theorem NoV.above {v : Nat} {H : List Ed} (hH : NoV l v H) (T : Tr N l D F) (hv : v < N) {a b : Nat} (ha : Anc F a v) (hb : Anc F b v) (ha' : a ≠ v) (hb' : b ≠ v) : Conn H a b := by
  have key : ∀ {a b : Nat}, Anc F a b → Anc F b v → b ≠ v → Conn H b a := fun {a b} h1 h2 h3 => by
    refine hH.way T (T.anc hv h2).1 h1 fun z hz _ e => ?_
    subst e
    exact h3 (T.anti hv h2 hz)
  rcases ha.comp hb with h1 | h1
  · exact (key h1 hb hb').symm
  · exact key h1 ha ha'
/-- Two beyond a child of v. -/
theorem NoV.under {v c : Nat} {H : List Ed} (hH : NoV l v H) (T : Tr N l D F) (hc : c < N) (hF : F.getD c 0 = (v : Int)) {a b : Nat} (ha : a < N) (hb : b < N) (hca : Anc F c a) (hcb : Anc F c b) : Conn H a b := by
  have key : ∀ {a : Nat}, a < N → Anc F c a → Conn H a c := fun {a} ha h1 => by
    refine hH.way T ha h1 fun z _ h2 e => ?_
    subst e
    obtain ⟨hz, hd, _⟩ := T.child hc hF
    have := T.le hz h2
    omega
  exact (key ha hca).trans (key hb hcb).symm
/-- What lies beyond a head is left by no edge but over v. -/
theorem NoV.shut {v c : Nat} {H : List Ed} (hR : RightG (N : Int) l) (hH : NoV l v H) (T : Tr N l D F) (hc : c < N) (hF : F.getD c 0 = (v : Int)) (hh : Head l D F c) {a b : Nat} (hab : Conn H a b) (ha : Anc F c a) : Anc F c b := by
  induction hab using Conn.ind with
  | refl => exact ha
  | step h1 _ ih =>
    rename_i x y z _
    refine ih ?_
    obtain ⟨h2, hx, hy⟩ := (hH x y).1 h1
    obtain ⟨k, hk⟩ := adj_joins hR h2
    obtain ⟨hxN, hyN⟩ := hk.below hR
    rcases T.edp hR hk with h3 | h3
    · exact ha.trans (h3.anc hR T)
    · rcases ha.comp (h3.anc hR T) with h4 | h4
      · exact h4
      · obtain ⟨q, e1, e2⟩ := hh
        have e3 : q = v := by omega
        subst e3
        have h5 := e2 k y x h3 ha
        rcases h4.cases with rfl | ⟨p, hp, h6⟩
        · exact Anc.refl _ _
        · have e4 : p = q := by omega
          subst e4
          obtain ⟨hpN, _⟩ := T.child hc hF
          rcases (T.anc hpN h6).2 with h7 | h7
          · exact absurd h7 hy
          · omega
/-- An edge leads from beyond c past v: its ends hang together with what is above v. -/
theorem NoV.over {v c : Nat} {H : List Ed} (hR : RightG (N : Int) l) (hH : NoV l v H) (T : Tr N l D F) (hc : c < N) (hF : F.getD c 0 = (v : Int)) (hh : ¬ Head l D F c) : ∃ u, u < N ∧ Anc F u v ∧ u ≠ v ∧ ∀ a, a < N → Anc F c a → Conn H a u := by
  obtain ⟨hv, hd, _⟩ := T.child hc hF
  have : ∃ k u w, EdP l D k u w ∧ Anc F c w ∧ D.getD u 0 < D.getD v 0 := by
    apply Classical.byContradiction
    intro hn
    refine hh ⟨v, hF, fun k u w hk hw => ?_⟩
    apply Classical.byContradiction
    intro h1
    exact hn ⟨k, u, w, hk, hw, by omega⟩
  obtain ⟨k, u, w, hk, hw, hu⟩ := this
  obtain ⟨huN, hwN⟩ := hk.1.below hR
  have hne : u ≠ v := fun e => by subst e; omega
  have hwv : w ≠ v := fun e => by
    subst e
    have := T.le hv hw
    omega
  have huv : Anc F u v := by
    rcases (hk.anc hR T).comp ((Anc.up hF (Anc.refl _ _)).trans hw) with h1 | h1
    · exact h1
    · have := T.le huN h1
      omega
  refine ⟨u, huN, huv, hne, fun a ha hca => ?_⟩
  exact (hH.under T hc hF ha hwN hca hw).trans (.one ((hH w u).2 ⟨hk.1.adj.symm, hwv, hne⟩))
/-- What labels are: one for the nearest head. -/
def LabOf (l : List Ed) (D F B : List Int) : Prop := ∀ k u w, EdP l D k u w → ∃ hd b q : Nat, HeadOf l D F hd w ∧ B.getD k 0 = (b : Int) ∧ F.getD hd 0 = (q : Int) ∧ EdP l D b q hd
theorem LabOf.same {B : List Int} (hR : RightG (N : Int) l) (hB : LabOf l D F B) {k u w k' u' w' : Nat} (h : EdP l D k u w) (h' : EdP l D k' u' w') : B.getD k 0 = B.getD k' 0 ↔ ∃ hd, HeadOf l D F hd w ∧ HeadOf l D F hd w' := by
  obtain ⟨a, b, q, h1, h2, h3, h4⟩ := hB k u w h
  obtain ⟨a', b', q', h1', h2', h3', h4'⟩ := hB k' u' w' h'
  constructor
  · intro e
    have : b = b' := by omega
    subst this
    obtain ⟨_, e2⟩ := h4.uniq h4'
    subst e2
    exact ⟨a, h1, h1'⟩
  · rintro ⟨hd, g1, g2⟩
    have e1 := h1.uniq g1
    have e2 := h1'.uniq g2
    subst e1
    subst e2
    have : q = q' := by omega
    subst this
    rw [h2, h2', h4.1.same hR h4'.1]
/-- An edge at v: upward, or beyond a child. -/
theorem LabOf.side (hR : RightG (N : Int) l) (T : Tr N l D F) {k v a : Nat} (h : Joins l k v a) : (EdP l D k a v ∧ Anc F a v ∧ a ≠ v) ∨ ∃ c, EdP l D k v a ∧ c < N ∧ F.getD c 0 = (v : Int) ∧ Anc F c a := by
  obtain ⟨hv, ha⟩ := h.below hR
  rcases T.edp hR h with h1 | h1
  · obtain ⟨c, h2, h3, h4⟩ := T.toward ha (h1.anc hR T) (h.ne hR).symm
    exact .inr ⟨c, h1, h2, h3, h4⟩
  · exact .inl ⟨h1, h1.anc hR T, (h.ne hR).symm⟩
/-- The head of an edge from v beyond its child c is that of c. -/
theorem LabOf.down (hR : RightG (N : Int) l) (T : Tr N l D F) {k v a c hd : Nat} (h : EdP l D k v a) (hc : c < N) (hF : F.getD c 0 = (v : Int)) (hca : Anc F c a) (hh : HeadOf l D F hd c) : HeadOf l D F hd a := by
  obtain ⟨_, hd1, _⟩ := T.child hc hF
  exact HeadOf.climb T (h.1.below hR).2 hca h (Anc.refl _ _) (by omega) hh
theorem LabOf.head {B : List Int} (hR : RightG (N : Int) l) (T : Tr N l D F) (hB : LabOf l D F B) {w : Nat} (hw : w < N) (hd : 0 < D.getD w 0) : ∃ h, HeadOf l D F h w := by
  rcases T.par w hw with ⟨h1, _⟩ | ⟨u, a, b, c, d⟩
  · omega
  · obtain ⟨k, hk⟩ := adj_joins hR d
    obtain ⟨h, _, _, h1, _⟩ := hB k u w ⟨hk, by omega⟩
    exact ⟨h, h1⟩
/-- Two edges at v have one label just if their other ends hang together without it. -/
theorem LabOf.at {B : List Int} (hR : RightG (N : Int) l) (T : Tr N l D F) (hB : LabOf l D F B) {v : Nat} {H : List Ed} (hH : NoV l v H) {k a k' a' : Nat} (h : Joins l k v a) (h' : Joins l k' v a') : B.getD k 0 = B.getD k' 0 ↔ Conn H a a' := by
  obtain ⟨hv, ha⟩ := h.below hR
  obtain ⟨_, ha'⟩ := h'.below hR
  have updown : ∀ {k a k' a' c : Nat}, a' < N → EdP l D k a v → Anc F a v → a ≠ v → EdP l D k' v a' → c < N → F.getD c 0 = (v : Int) → Anc F c a' → (B.getD k 0 = B.getD k' 0 ↔ Conn H a a') := by
    intro k a k' a' c ha' hk h1 h2 hk' hc hF hca
    rw [hB.same hR hk hk']
    by_cases hh : Head l D F c
    · constructor
      · rintro ⟨hd, g1, g2⟩
        have := g2.uniq (LabOf.down hR T hk' hc hF hca (HeadOf.self T hc hh))
        subst this
        obtain ⟨_, hd1, _⟩ := T.child hc hF
        have := T.le hv g1.1
        omega
      · intro hcn
        have := hH.shut hR T hc hF hh hcn.symm hca
        obtain ⟨_, hd1, _⟩ := T.child hc hF
        have h3 := T.le hv (this.trans h1)
        omega
    · obtain ⟨u, hu, huv, hune, hall⟩ := hH.over hR T hc hF hh
      constructor
      · intro _
        exact (hH.above T hv h1 huv h2 hune).trans (hall a' ha' hca).symm
      · intro _
        have := T.pos a (hk.1.below hR).1
        have := hk.2
        obtain ⟨hd, g1⟩ := hB.head hR T hv (by omega)
        exact ⟨hd, g1, LabOf.down hR T hk' hc hF hca (.up hh hF g1)⟩
  rcases LabOf.side hR T h with ⟨hk, h1, h2⟩ | ⟨c, hk, hc, hF, hca⟩
  · rcases LabOf.side hR T h' with ⟨hk', h1', h2'⟩ | ⟨c', hk', hc', hF', hca'⟩
    · constructor
      · intro _
        exact hH.above T hv h1 h1' h2 h2'
      · intro _
        have := T.pos a ha
        have := hk.2
        obtain ⟨hd, g1⟩ := hB.head hR T hv (by omega)
        exact (hB.same hR hk hk').2 ⟨hd, g1, g1⟩
    · exact updown ha' hk h1 h2 hk' hc' hF' hca'
  · rcases LabOf.side hR T h' with ⟨hk', h1', h2'⟩ | ⟨c', hk', hc', hF', hca'⟩
    · have := updown ha hk' h1' h2' hk hc hF hca
      constructor
      · intro e
        exact (this.1 e.symm).symm
      · intro e
        exact (this.2 e.symm).symm
    · by_cases hcc : c = c'
      · subst hcc
        constructor
        · intro _
          exact hH.under T hc hF ha ha' hca hca'
        · intro _
          have := T.pos v hv
          obtain ⟨_, hd1, _⟩ := T.child hc hF
          obtain ⟨hd, g1⟩ := hB.head hR T hc (by omega)
          exact (hB.same hR hk hk').2 ⟨hd, LabOf.down hR T hk hc hF hca g1, LabOf.down hR T hk' hc hF hca' g1⟩
      · have apart : ∀ {c c' a' : Nat}, a' < N → c < N → c' < N → F.getD c 0 = (v : Int) → F.getD c' 0 = (v : Int) → Anc F c' a' → Anc F c a' → c = c' := by
          intro c c' a' ha' hc hc' hF hF' h1 h2
          obtain ⟨_, d1, _⟩ := T.child hc hF
          obtain ⟨_, d2, _⟩ := T.child hc' hF'
          rcases h2.comp h1 with h3 | h3
          · rcases (T.anc hc' h3).2 with h4 | h4
            · exact h4
            · omega
          · rcases (T.anc hc h3).2 with h4 | h4
            · exact h4.symm
            · omega
        have oneHead : ∀ {k a k' a' c c' : Nat}, a < N → a' < N → EdP l D k v a → c < N → F.getD c 0 = (v : Int) → Anc F c a → EdP l D k' v a' → c' < N → F.getD c' 0 = (v : Int) → Anc F c' a' → c ≠ c' → Head l D F c → (B.getD k 0 = B.getD k' 0 ↔ Conn H a a') := by
          intro k a k' a' c c' ha ha' hk hc hF hca hk' hc' hF' hca' hne hh
          rw [hB.same hR hk hk']
          constructor
          · rintro ⟨hd, g1, g2⟩
            have := g1.uniq (LabOf.down hR T hk hc hF hca (HeadOf.self T hc hh))
            subst this
            exact absurd (apart ha' hc hc' hF hF' hca' g2.1) hne
          · intro hcn
            exact absurd (apart ha' hc hc' hF hF' hca' (hH.shut hR T hc hF hh hcn hca)) hne
        by_cases hh : Head l D F c
        · exact oneHead ha ha' hk hc hF hca hk' hc' hF' hca' hcc hh
        · by_cases hh' : Head l D F c'
          · have := oneHead ha' ha hk' hc' hF' hca' hk hc hF hca (fun e => hcc e.symm) hh'
            constructor
            · intro e
              exact (this.1 e.symm).symm
            · intro e
              exact (this.2 e.symm).symm
          · obtain ⟨u, hu, huv, hune, hall⟩ := hH.over hR T hc hF hh
            obtain ⟨u', hu', huv', hune', hall'⟩ := hH.over hR T hc' hF' hh'
            constructor
            · intro _
              exact (hall a ha hca).trans ((hH.above T hv huv huv' hune hune').trans (hall' a' ha' hca').symm)
            · intro _
              have := T.pos u hu
              have h5 : D.getD u 0 < D.getD v 0 := by
                rcases (T.anc hv huv).2 with h6 | h6
                · exact absurd h6 hune
                · exact h6
              obtain ⟨hd, g1⟩ := hB.head hR T hv (by omega)
              exact (hB.same hR hk hk').2 ⟨hd, LabOf.down hR T hk hc hF hca (.up hh hF g1), LabOf.down hR T hk' hc' hF' hca' (.up hh' hF' g1)⟩
/-- Two edges at one vertex whose other ends hang together without it. -/
def Loc (l : List Ed) (HV : Nat → List Ed) (k k' : Nat) : Prop := ∃ v a b, Joins l k v a ∧ Joins l k' v b ∧ Conn (HV v) a b
/-- What tells the same of such two edges tells the same of all with one label. -/
theorem LabOf.chain {B : List Int} (hR : RightG (N : Int) l) (T : Tr N l D F) (hB : LabOf l D F B) {HV : Nat → List Ed} (hH : ∀ v, v < N → NoV l v (HV v)) {G : Nat → Int} (hG : ∀ k k', Loc l HV k k' → G k = G k') : ∀ {w h q b k u : Nat}, w < N → EdP l D k u w → HeadOf l D F h w → F.getD h 0 = (q : Int) → EdP l D b q h → G k = G b := by
  intro w h q b k u hw hk hh hq hb
  obtain ⟨ls, hl⟩ := hh.1
  induction ls generalizing w k u with
  | nil =>
    have e : w = h := hl
    subst e
    exact hG k b ⟨w, u, q, hk.1.symm, hb.1.symm, (hB.at hR T (hH w hw) hk.1.symm hb.1.symm).1 ((hB.same hR hk hb).2 ⟨w, hh, hh⟩)⟩
  | cons z ls ih =>
    obtain ⟨hz, hd, hadj⟩ := T.child hw hl.1
    have hne : w ≠ h := fun e => by
      subst e
      have := T.le hz ⟨ls, hl.2⟩
      omega
    obtain ⟨t, ht⟩ := adj_joins hR hadj
    have hte : EdP l D t z w := ⟨ht, by omega⟩
    have e1 : G k = G t := hG k t ⟨w, u, z, hk.1.symm, ht.symm, (hB.at hR T (hH w hw) hk.1.symm ht.symm).1 ((hB.same hR hk hte).2 ⟨h, hh, hh⟩)⟩
    have hhz : HeadOf l D F h z := ⟨⟨ls, hl.2⟩, hh.2.1, fun y hy => hh.2.2 y (hy.trans (.up hl.1 (Anc.refl _ _)))⟩
    have hqz : 0 < D.getD z 0 := by
      have hhN := (T.anc hz hhz.1).1
      obtain ⟨hqN, hdq, _⟩ := T.child hhN hq
      have := T.pos q hqN
      have := T.le hz hhz.1
      omega
    rcases T.par z hz with ⟨h1, _⟩ | ⟨p, hp, hFp, hdp, hap⟩
    · omega
    · obtain ⟨t2, ht2⟩ := adj_joins hR hap
      have hte2 : EdP l D t2 p z := ⟨ht2, by omega⟩
      have e2 : G t = G t2 := hG t t2 ⟨z, w, p, ht, ht2.symm, (hB.at hR T (hH z hz) ht ht2.symm).1 ((hB.same hR hte hte2).2 ⟨h, hh, hhz⟩)⟩
      rw [e1, e2]
      exact ih hz hte2 hhz hl.2
/-- What tells the same of such two edges, and of no others that have two labels, parts as the labels do. -/
theorem LabOf.parts {B : List Int} (hR : RightG (N : Int) l) (T : Tr N l D F) (hB : LabOf l D F B) {HV : Nat → List Ed} (hH : ∀ v, v < N → NoV l v (HV v)) {G : Nat → Int} (hG : ∀ k k', Loc l HV k k' → G k = G k') {k k' : Nat} (hk : k < l.length) (hk' : k' < l.length) (e : B.getD k 0 = B.getD k' 0) : G k = G k' := by
  have edge : ∀ {k : Nat}, k < l.length → ∃ u w, EdP l D k u w := fun {k} hk => by
    have hm := List.getElem_mem hk
    have := (hR.each _ hm).1
    unfold okE at this
    have hJ : Joins l k l[k].1.toNat l[k].2.1.toNat := ⟨l[k], List.getElem?_eq_getElem hk, .inl ⟨by omega, by omega⟩⟩
    rcases T.edp hR hJ with h1 | h1
    · exact ⟨_, _, h1⟩
    · exact ⟨_, _, h1⟩
  obtain ⟨u, w, h⟩ := edge hk
  obtain ⟨u', w', h'⟩ := edge hk'
  obtain ⟨hd, b, q, h1, h2, h3, h4⟩ := hB k u w h
  obtain ⟨hd', b', q', h1', h2', h3', h4'⟩ := hB k' u' w' h'
  have : b = b' := by omega
  subst this
  rw [hB.chain hR T hH hG (h.1.below hR).2 h h1 h3 h4, hB.chain hR T hH hG (h'.1.below hR).2 h' h1' h3' h4']
end
theorem walk_labof {N : Nat} {l : List Ed} (hR : RightG (N : Int) l) : LabOf l (walkW N l).depth (walkW N l).from_ (walkW N l).block := fun _ _ _ h => walk_lab hR h
end Go.Proofs.Ytdadpfkoocpfaaa
