/-
  A permutation's division into rounds; what becomes of it when two darts go; two divisions are as many. No program in this text.
-/
import Derived.Test.YtonfhkdciaiilaaXRRefFM
import Derived.Test.YtonfhkdciaiilaaQC
namespace Go.Proofs.Ytonfhkdciaiilaa
open Go Go.Proofs

section
variable {nx : Dt → Dt}
/-- A division into rounds. -/
structure Dec (nx : Dt → Dt) (P : Dt → Prop) (C : List (List Dt)) : Prop where
  rnd : ∀ f ∈ C, Rnd nx f
  nodup : C.flatten.Nodup
  mem : ∀ x, x ∈ C.flatten ↔ P x
theorem way_append {d : Dt} : ∀ {x : Dt} {A B : List Dt}, Way nx d x (A ++ B) ↔ ∃ y, Way nx y x A ∧ Way nx d y B
  | x, [], B => ⟨fun h => ⟨x, rfl, h⟩, fun ⟨y, h1, h2⟩ => by have e : x = y := h1; rw [e]; exact h2⟩
  | x, a :: A, B => by
    constructor
    · rintro ⟨rfl, h⟩
      obtain ⟨y, h1, h2⟩ := way_append.1 h
      exact ⟨y, ⟨rfl, h1⟩, h2⟩
    · rintro ⟨y, ⟨rfl, h1⟩, h2⟩
      exact ⟨rfl, way_append.2 ⟨y, h1, h2⟩⟩
/-- A round may begin anywhere. -/
theorem Rnd.turn {f : List Dt} (h : Rnd nx f) {x : Dt} (hx : x ∈ f) : ∃ A, Way nx x x (x :: A) ∧ (x :: A).Perm f := by
  obtain ⟨_, d, hw⟩ := h
  obtain ⟨A, B, rfl⟩ := List.append_of_mem hx
  obtain ⟨y, h1, h2⟩ := way_append.1 hw
  have e : y = x := h2.1
  subst e
  refine ⟨B ++ A, ?_, ?_⟩
  · show Way nx y y ((y :: B) ++ A)
    exact way_append.2 ⟨d, h2, h1⟩
  · show ((y :: B) ++ A).Perm (A ++ y :: B)
    exact List.perm_append_comm
theorem flatten_out (C1 C2 : List (List Dt)) (f : List Dt) : (f ++ (C1 ++ C2).flatten).Perm (C1 ++ f :: C2).flatten := by
  rw [List.flatten_append, List.flatten_append, List.flatten_cons, ← List.append_assoc, ← List.append_assoc]
  exact List.perm_append_comm.append_right _
theorem Dec.perm {P : Dt → Prop} {C D : List (List Dt)} (h : Dec nx P C) (hr : ∀ f ∈ D, Rnd nx f) (hp : D.flatten.Perm C.flatten) : Dec nx P D :=
  ⟨hr, hp.nodup_iff.2 h.nodup, fun x => hp.mem_iff.trans (h.mem x)⟩
/-- The round of one dart, from it on. -/
theorem Dec.turn {P : Dt → Prop} {C : List (List Dt)} (h : Dec nx P C) {x : Dt} (hx : P x) : ∃ f A C', f ∈ C ∧ (x :: A).Perm f ∧ Way nx x x (x :: A) ∧ Dec nx P ((x :: A) :: C') ∧ C'.length + 1 = C.length ∧ ∀ g ∈ C', g ∈ C := by
  obtain ⟨f, hf, hxf⟩ := List.mem_flatten.1 ((h.mem x).2 hx)
  obtain ⟨A, hw, hp⟩ := (h.rnd f hf).turn hxf
  obtain ⟨C1, C2, rfl⟩ := List.append_of_mem hf
  refine ⟨f, A, C1 ++ C2, by simp, hp, hw, ?_, by simp; omega, fun g hg => ?_⟩
  · refine h.perm (fun g hg => ?_) ?_
    · rcases List.mem_cons.1 hg with rfl | hg
      · exact ⟨by simp, x, hw⟩
      · exact h.rnd g (by rcases List.mem_append.1 hg with h1 | h1 <;> simp [h1])
    · rw [List.flatten_cons]
      exact (hp.append_right _).trans (flatten_out C1 C2 f)
  · rcases List.mem_append.1 hg with h1 | h1 <;> simp [h1]
/-- Where a step goes when two darts are gone. -/
def tgtD (nx : Dt → Dt) (d d' y : Dt) : Dt := if y = d' then nx d else if y = d then nx d' else y
theorem way_del {nx' : Dt → Dt} {d d' y : Dt} {P : Dt → Prop} (hn : ∀ x, P x → nx' x = tgtD nx d d' (nx x)) (hP : ∀ x, P x → x ≠ d ∧ x ≠ d') : ∀ {A : List Dt} {x : Dt}, A ≠ [] → (∀ a ∈ A, P a) → Way nx y x A → Way nx' (tgtD nx d d' y) x A
  | [], _, h, _, _ => absurd rfl h
  | [a], x, _, hA, hw => by
    obtain ⟨rfl, h2⟩ := hw
    have h3 : nx x = y := h2
    exact ⟨rfl, by show nx' x = _; rw [hn x (hA x (by simp)), h3]⟩
  | a :: b :: A, x, _, hA, hw => by
    obtain ⟨rfl, h2⟩ := hw
    have hb : nx x = b := h2.1
    have hbP := hP b (hA b (by simp))
    have e : nx' x = nx x := by
      rw [hn x (hA x (by simp)), hb]
      unfold tgtD
      rw [if_neg hbP.2, if_neg hbP.1]
    refine ⟨rfl, ?_⟩
    rw [e]
    exact way_del hn hP (by simp) (fun c hc => hA c (List.mem_cons_of_mem _ hc)) h2
theorem rnd_del {nx' : Dt → Dt} {d d' : Dt} {P : Dt → Prop} (hn : ∀ x, P x → nx' x = tgtD nx d d' (nx x)) (hP : ∀ x, P x → x ≠ d ∧ x ≠ d') {f : List Dt} (h : Rnd nx f) (hf : ∀ a ∈ f, P a) : Rnd nx' f := by
  obtain ⟨hne, y, hw⟩ := h
  have hy : P y := by
    match f, hne, hw with
    | a :: f, _, hw => rw [hw.1]; exact hf a (by simp)
  have e : tgtD nx d d' y = y := by
    unfold tgtD
    rw [if_neg (hP y hy).2, if_neg (hP y hy).1]
  refine ⟨hne, y, ?_⟩
  have := way_del hn hP hne hf hw
  rwa [e] at this
/-- Two darts go: their two rounds become one, or their one round two. -/
theorem Dec.del {P : Dt → Prop} {C : List (List Dt)} (h : Dec nx P C) {d d' : Dt} (hd : P d) (hd' : P d') (hne : d ≠ d') (hl : nx d ≠ d) (hl' : nx d' ≠ d') {nx' : Dt → Dt} (hn : ∀ x, P x ∧ x ≠ d ∧ x ≠ d' → nx' x = tgtD nx d d' (nx x)) :
    ∃ C', Dec nx' (fun x => P x ∧ x ≠ d ∧ x ≠ d') C' ∧ ((C'.length + 1 = C.length ∧ nx d ≠ d' ∧ nx d' ≠ d ∧ (∃ A, Way nx d (nx d) A ∧ ∀ x ∈ A, P x ∧ x ≠ d ∧ x ≠ d') ∧ ∃ f ∈ C, d ∈ f ∧ d' ∉ f) ∨ (C'.length + (if nx d = d' then 1 else 0) + (if nx d' = d then 1 else 0) = C.length + 1 ∧ ∃ f ∈ C, d ∈ f ∧ d' ∈ f)) := by
  obtain ⟨f, A, C1, hfC, hpf, hw, hD, hlen, hsub⟩ := h.turn hd
  have hnd := hD.nodup
  rw [List.flatten_cons] at hnd
  have hndA : (d :: A).Nodup := (List.nodup_append.1 hnd).1
  have hdA : d ∉ A := (List.nodup_cons.1 hndA).1
  have hap : ∀ x ∈ d :: A, x ∉ C1.flatten := fun x h1 h2 => (List.nodup_append.1 hnd).2.2 x h1 x h2 rfl
  have hn1 : C1.flatten.Nodup := (List.nodup_append.1 hnd).2.1
  have hPA : ∀ x ∈ d :: A, P x := fun x hx => (hD.mem x).1 (by rw [List.flatten_cons]; exact List.mem_append_left _ hx)
  have hP1 : ∀ x ∈ C1.flatten, P x := fun x hx => (hD.mem x).1 (by rw [List.flatten_cons]; exact List.mem_append_right _ hx)
  have hall : ∀ x, P x → x ∈ d :: A ∨ x ∈ C1.flatten := fun x hx => by
    have := (hD.mem x).2 hx
    rw [List.flatten_cons] at this
    exact List.mem_append.1 this
  have hPP : ∀ x, (P x ∧ x ≠ d ∧ x ≠ d') → x ≠ d ∧ x ≠ d' := fun x h => h.2
  by_cases hin : d' ∈ A
  · obtain ⟨A1, A2, rfl⟩ := List.append_of_mem hin
    have hwt : Way nx d (nx d) (A1 ++ d' :: A2) := hw.2
    obtain ⟨y, h1, h2⟩ := way_append.1 hwt
    have ey : y = d' := h2.1
    subst ey
    have h3 : Way nx d (nx y) A2 := h2.2
    have hndA' := (List.nodup_cons.1 hndA).2
    have hnA1 := (List.nodup_append.1 hndA').1
    have hnA2 := (List.nodup_cons.1 (List.nodup_append.1 hndA').2.1)
    have hy1 : y ∉ A1 := fun hm => (List.nodup_append.1 hndA').2.2 y hm y (by simp) rfl
    have h12 : ∀ x ∈ A1, x ∉ A2 := fun x hx hx' => (List.nodup_append.1 hndA').2.2 x hx x (by simp [hx']) rfl
    have hQ1 : ∀ x ∈ A1, P x ∧ x ≠ d ∧ x ≠ y := fun x hx => ⟨hPA x (by simp [hx]), fun e => hdA (by rw [← e]; simp [hx]), fun e => hy1 (by rw [← e]; exact hx)⟩
    have hQ2 : ∀ x ∈ A2, P x ∧ x ≠ d ∧ x ≠ y := fun x hx => ⟨hPA x (by simp [hx]), fun e => hdA (by rw [← e]; simp [hx]), fun e => hnA2.1 (by rw [← e]; exact hx)⟩
    have hQC : ∀ x ∈ C1.flatten, P x ∧ x ≠ d ∧ x ≠ y := fun x hx => ⟨hP1 x hx, fun e => hap d (by simp) (by rw [← e]; exact hx), fun e => hap y (by simp) (by rw [← e]; exact hx)⟩
    have hr1 : A1 ≠ [] → Rnd nx' A1 := fun hne1 => by
      have := way_del hn hPP hne1 hQ1 h1
      have e : tgtD nx d y y = nx d := by unfold tgtD; rw [if_pos rfl]
      rw [e] at this
      exact ⟨hne1, _, this⟩
    have hr2 : A2 ≠ [] → Rnd nx' A2 := fun hne2 => by
      have := way_del hn hPP hne2 hQ2 h3
      have e : tgtD nx d y d = nx y := by unfold tgtD; rw [if_neg hne, if_pos rfl]
      rw [e] at this
      exact ⟨hne2, _, this⟩
    have hrC : ∀ g ∈ C1, Rnd nx' g := fun g hg => rnd_del hn hPP (hD.rnd g (by simp [hg])) (fun a ha => hQC a (List.mem_flatten.2 ⟨g, hg, ha⟩))
    have e1 : A1 = [] ↔ nx d = y := by
      constructor
      · intro e; rw [e] at h1; exact h1
      · intro e
        match A1, h1, hy1 with
        | [], _, _ => rfl
        | a :: A1, h1, hy1 => exact absurd (by rw [← e, h1.1]; simp) hy1
    have e2 : A2 = [] ↔ nx y = d := by
      constructor
      · intro e; rw [e] at h3; exact h3
      · intro e
        match A2, h3, hdA with
        | [], _, _ => rfl
        | a :: A2, h3, hdA => exact absurd (by rw [← e, h3.1]; simp) hdA
    have hone : ∀ L : List Dt, (if L = [] then ([] : List (List Dt)) else [L]).flatten = L := fun L => by
      split
      · rename_i e; rw [e]; rfl
      · simp
    refine ⟨(if A1 = [] then [] else [A1]) ++ ((if A2 = [] then [] else [A2]) ++ C1), ⟨?_, ?_, ?_⟩, .inr ⟨?_, f, hfC, hpf.mem_iff.1 (by simp), hpf.mem_iff.1 (by simp)⟩⟩
    · intro g hg
      rcases List.mem_append.1 hg with h5 | h5
      · split at h5
        · simp at h5
        · rw [List.mem_singleton.1 h5]; exact hr1 ‹_›
      · rcases List.mem_append.1 h5 with h5 | h5
        · split at h5
          · simp at h5
          · rw [List.mem_singleton.1 h5]; exact hr2 ‹_›
        · exact hrC g h5
    · rw [List.flatten_append, List.flatten_append, hone, hone]
      refine List.nodup_append.2 ⟨hnA1, List.nodup_append.2 ⟨hnA2.2, hn1, fun x hx z hz e => hap x (by simp [hx]) (by rw [e]; exact hz)⟩, fun x hx z hz e => ?_⟩
      subst e
      rcases List.mem_append.1 hz with h5 | h5
      · exact h12 x hx h5
      · exact hap x (by simp [hx]) h5
    · intro x
      rw [List.flatten_append, List.flatten_append, hone, hone]
      constructor
      · intro hx
        rcases List.mem_append.1 hx with h5 | h5
        · exact hQ1 x h5
        · rcases List.mem_append.1 h5 with h5 | h5
          · exact hQ2 x h5
          · exact hQC x h5
      · rintro ⟨hp, hxd, hxy⟩
        rcases hall x hp with h5 | h5
        · rcases List.mem_cons.1 h5 with h5 | h5
          · exact absurd h5 hxd
          · rcases List.mem_append.1 h5 with h5 | h5
            · simp [h5]
            · rcases List.mem_cons.1 h5 with h5 | h5
              · exact absurd h5 hxy
              · simp [h5]
        · simp only [List.mem_append]
          exact .inr (.inr h5)
    · have t1 : (if A1 = [] then ([] : List (List Dt)) else [A1]).length + (if nx d = y then 1 else 0) = 1 := by
        by_cases hA : A1 = []
        · rw [if_pos hA, if_pos (e1.1 hA)]; rfl
        · rw [if_neg hA, if_neg (fun e => hA (e1.2 e))]; rfl
      have t2 : (if A2 = [] then ([] : List (List Dt)) else [A2]).length + (if nx y = d then 1 else 0) = 1 := by
        by_cases hA : A2 = []
        · rw [if_pos hA, if_pos (e2.1 hA)]; rfl
        · rw [if_neg hA, if_neg (fun e => hA (e2.2 e))]; rfl
      rw [List.length_append, List.length_append]
      omega
  · have hd1 : d' ∈ C1.flatten := by
      rcases hall d' hd' with h5 | h5
      · rcases List.mem_cons.1 h5 with h5 | h5
        · exact absurd h5.symm hne
        · exact absurd h5 hin
      · exact h5
    have hD1 : Dec nx (fun x => x ∈ C1.flatten) C1 := ⟨fun g hg => hD.rnd g (by simp [hg]), hn1, fun x => Iff.rfl⟩
    obtain ⟨f2, B, C2, hf2, hpf2, hw2, hD2, hlen2, hsub2⟩ := hD1.turn hd1
    have hnd2 := hD2.nodup
    rw [List.flatten_cons] at hnd2
    have hndB : (d' :: B).Nodup := (List.nodup_append.1 hnd2).1
    have hdB : d' ∉ B := (List.nodup_cons.1 hndB).1
    have hap2 : ∀ x ∈ d' :: B, x ∉ C2.flatten := fun x h1 h2 => (List.nodup_append.1 hnd2).2.2 x h1 x h2 rfl
    have hB1 : ∀ x ∈ d' :: B, x ∈ C1.flatten := fun x hx => (hD2.mem x).1 (by rw [List.flatten_cons]; exact List.mem_append_left _ hx)
    have hC21 : ∀ x ∈ C2.flatten, x ∈ C1.flatten := fun x hx => (hD2.mem x).1 (by rw [List.flatten_cons]; exact List.mem_append_right _ hx)
    have hAne : A ≠ [] := fun e => hl (by have := hw.2; rw [e] at this; exact this)
    have hBne : B ≠ [] := fun e => hl' (by have := hw2.2; rw [e] at this; exact this)
    have hQA : ∀ x ∈ A, P x ∧ x ≠ d ∧ x ≠ d' := fun x hx => ⟨hPA x (by simp [hx]), fun e => hdA (by rw [← e]; exact hx), fun e => hin (by rw [← e]; exact hx)⟩
    have hQB : ∀ x ∈ B, P x ∧ x ≠ d ∧ x ≠ d' := fun x hx => ⟨hP1 x (hB1 x (by simp [hx])), fun e => hap d (by simp) (by rw [← e]; exact hB1 x (by simp [hx])), fun e => hdB (by rw [← e]; exact hx)⟩
    have hQC : ∀ x ∈ C2.flatten, P x ∧ x ≠ d ∧ x ≠ d' := fun x hx => ⟨hP1 x (hC21 x hx), fun e => hap d (by simp) (by rw [← e]; exact hC21 x hx), fun e => hap2 d' (by simp) (by rw [← e]; exact hx)⟩
    have wA := way_del hn hPP hAne hQA hw.2
    have wB := way_del hn hPP hBne hQB hw2.2
    have eA : tgtD nx d d' d = nx d' := by unfold tgtD; rw [if_neg hne, if_pos rfl]
    have eB : tgtD nx d d' d' = nx d := by unfold tgtD; rw [if_pos rfl]
    rw [eA] at wA
    rw [eB] at wB
    have hAB : ∀ x ∈ A, x ∉ d' :: B := fun x hx hx' => hap x (by simp [hx]) (hB1 x hx')
    refine ⟨(A ++ B) :: C2, ⟨?_, ?_, ?_⟩, .inl ⟨by rw [List.length_cons]; omega, fun e => ?_, fun e => ?_, ⟨A, hw.2, hQA⟩, f, hfC, hpf.mem_iff.1 (by simp), fun hm => ?_⟩⟩
    · intro g hg
      rcases List.mem_cons.1 hg with rfl | hg
      · exact ⟨by simp [hAne], nx d, way_append.2 ⟨_, wA, wB⟩⟩
      · exact rnd_del hn hPP (hD2.rnd g (by simp [hg])) (fun a ha => hQC a (List.mem_flatten.2 ⟨g, hg, ha⟩))
    · rw [List.flatten_cons]
      refine List.nodup_append.2 ⟨List.nodup_append.2 ⟨(List.nodup_cons.1 hndA).2, (List.nodup_cons.1 hndB).2, fun x hx z hz e => hAB x hx (by rw [e]; simp [hz])⟩, (List.nodup_append.1 hnd2).2.1, fun x hx z hz e => ?_⟩
      subst e
      rcases List.mem_append.1 hx with h5 | h5
      · exact hap x (by simp [h5]) (hC21 x hz)
      · exact hap2 x (by simp [h5]) hz
    · intro x
      rw [List.flatten_cons]
      constructor
      · intro hx
        rcases List.mem_append.1 hx with h5 | h5
        · rcases List.mem_append.1 h5 with h5 | h5
          · exact hQA x h5
          · exact hQB x h5
        · exact hQC x h5
      · rintro ⟨hp, hxd, hxy⟩
        rcases hall x hp with h5 | h5
        · rcases List.mem_cons.1 h5 with h5 | h5
          · exact absurd h5 hxd
          · simp [h5]
        · have := (hD2.mem x).2 h5
          rw [List.flatten_cons] at this
          rcases List.mem_append.1 this with h6 | h6
          · rcases List.mem_cons.1 h6 with h6 | h6
            · exact absurd h6 hxy
            · simp [h6]
          · exact List.mem_append_right _ h6
    · have := hw.2
      match A, hAne, this, hin with
      | a :: A, _, this, hin => exact hin (by rw [← e, this.1]; simp)
    · have := hw2.2
      match B, hBne, this, hB1 with
      | a :: B, _, this, hB1 => exact hap d (by simp) (by rw [← e, this.1]; exact hB1 a (by simp))
    · have := hpf.mem_iff.2 hm
      rcases List.mem_cons.1 this with h5 | h5
      · exact hne h5.symm
      · exact hin h5
theorem Rnd.fwd {f : List Dt} (h : Rnd nx f) : ∀ x ∈ f, nx x ∈ f := by
  intro x hx
  obtain ⟨hne, d, hw⟩ := h
  rcases hw.mem_next x hx with h1 | h1
  · rw [h1]
    match f, hne, hw with
    | a :: f, _, hw => rw [hw.1]; simp
  · exact h1
theorem way_in {f : List Dt} (hf : ∀ x ∈ f, nx x ∈ f) {y : Dt} : ∀ {L : List Dt} {x : Dt}, x ∈ f → Way nx y x L → ∀ z ∈ L, z ∈ f
  | [], _, _, _, z, hz => by simp at hz
  | a :: L, x, hx, hw, z, hz => by
    obtain ⟨rfl, h2⟩ := hw
    rcases List.mem_cons.1 hz with rfl | hz
    · exact hx
    · exact way_in hf (hf x hx) h2 z hz
/-- Rounds that meet are the same. -/
theorem Rnd.same {f g : List Dt} (hf : Rnd nx f) (hg : Rnd nx g) {x : Dt} (h1 : x ∈ f) (h2 : x ∈ g) : ∀ y, y ∈ f ↔ y ∈ g := by
  have key : ∀ {f g : List Dt}, Rnd nx f → Rnd nx g → x ∈ f → x ∈ g → ∀ y ∈ g, y ∈ f := fun {f g} hf hg h1 h2 y hy => by
    obtain ⟨A, hw, hp⟩ := hg.turn h2
    exact way_in hf.fwd h1 hw y (hp.mem_iff.2 hy)
  exact fun y => ⟨key hg hf h2 h1 y, key hf hg h1 h2 y⟩
/-- Two divisions are as many. -/
theorem rnds_len : ∀ (C D : List (List Dt)), (∀ f ∈ C, Rnd nx f) → (∀ f ∈ D, Rnd nx f) → C.flatten.Nodup → D.flatten.Nodup → (∀ x, x ∈ C.flatten ↔ x ∈ D.flatten) → C.length = D.length
  | [], D, _, hD, _, _, hm => by
    match D, hD, hm with
    | [], _, _ => rfl
    | [] :: D, hD, _ => exact absurd rfl (hD [] (by simp)).1
    | (a :: g) :: D, _, hm => exact absurd ((hm a).2 (by simp)) (by simp)
  | [] :: C, D, hC, _, _, _, _ => absurd rfl (hC [] (by simp)).1
  | (a :: f) :: C, D, hC, hD, hnC, hnD, hm => by
    obtain ⟨g, hg, hag⟩ := List.mem_flatten.1 ((hm a).1 (by simp))
    obtain ⟨D1, D2, rfl⟩ := List.append_of_mem hg
    have hsame := (hC (a :: f) (by simp)).same (hD g hg) (by simp) hag
    rw [List.flatten_cons] at hnC
    have hp := flatten_out D1 D2 g
    have hnD' := hp.nodup_iff.2 hnD
    have hc := rnds_len C (D1 ++ D2) (fun x hx => hC x (by simp [hx])) (fun x hx => hD x (by rcases List.mem_append.1 hx with h | h <;> simp [h])) (List.nodup_append.1 hnC).2.1 (List.nodup_append.1 hnD').2.1 (fun x => by
      have h1 := hm x
      rw [List.flatten_cons, List.mem_append, ← hp.mem_iff, List.mem_append] at h1
      have h2 : x ∈ C.flatten → x ∉ a :: f := fun h h' => (List.nodup_append.1 hnC).2.2 x h' x h rfl
      have h3 : x ∈ (D1 ++ D2).flatten → x ∉ g := fun h h' => (List.nodup_append.1 hnD').2.2 x h' x h rfl
      constructor
      · intro h
        rcases h1.1 (.inr h) with h4 | h4
        · exact absurd ((hsame x).2 h4) (h2 h)
        · exact h4
      · intro h
        rcases h1.2 (.inr h) with h4 | h4
        · exact absurd ((hsame x).1 h4) (h3 h)
        · exact h4)
    simp at hc ⊢
    omega
theorem Dec.len {P : Dt → Prop} {C D : List (List Dt)} (h : Dec nx P C) (h' : Dec nx P D) : C.length = D.length := rnds_len C D h.rnd h'.rnd h.nodup h'.nodup (fun x => (h.mem x).trans (h'.mem x).symm)
end
end Go.Proofs.Ytonfhkdciaiilaa

namespace Go.Proofs.Ytonfhkdciaiilaa
open Go Go.Proofs

/-! What stands behind one in a list. -/
theorem aft_split {P Q : List Int} {x : Int} (hx : x ∉ P) : aft (P ++ x :: Q) ((P ++ x :: Q).idxOf x) = (Q ++ (P ++ [x])).getD 0 0 := by
  have e : (P ++ x :: Q).idxOf x = P.length := by
    rw [List.idxOf_append, if_neg hx, List.idxOf_cons_self]
    simp
  rw [e]
  unfold aft
  match Q with
  | [] =>
    rw [if_pos (by simp)]
    match P with
    | [] => simp
    | p :: P => simp
  | q :: Q =>
    rw [if_neg (by simp), List.getD_eq_getElem?_getD, List.getElem?_append_right (by omega)]
    simp
theorem aft_erase {L : List Int} (hn : L.Nodup) {x y : Int} (hx : x ∈ L) (hy : y ∈ L) (hxy : x ≠ y) : aft (L.erase y) ((L.erase y).idxOf x) = if aft L (L.idxOf x) = y then aft L (L.idxOf y) else aft L (L.idxOf x) := by
  obtain ⟨A, B, rfl⟩ := List.append_of_mem hy
  have hnA : y ∉ A := fun h => (List.nodup_append.1 hn).2.2 y h y (by simp) rfl
  have hnB : y ∉ B := (List.nodup_cons.1 (List.nodup_append.1 hn).2.1).1
  have hAB : ∀ z ∈ A, z ∉ B := fun z h1 h2 => (List.nodup_append.1 hn).2.2 z h1 z (by simp [h2]) rfl
  have hnA' := (List.nodup_append.1 hn).1
  have hnB' := (List.nodup_cons.1 (List.nodup_append.1 hn).2.1).2
  have ee : (A ++ y :: B).erase y = A ++ B := by
    rw [List.erase_append_right _ hnA, List.erase_cons_head]
  rw [ee, aft_split (P := A) (Q := B) hnA]
  have hx' : x ∈ A ∨ x ∈ B := by
    rcases List.mem_append.1 hx with h | h
    · exact .inl h
    · rcases List.mem_cons.1 h with h | h
      · exact absurd h hxy
      · exact .inr h
  rcases hx' with h | h
  · obtain ⟨P, A2, rfl⟩ := List.append_of_mem h
    have hxP : x ∉ P := fun hm => (List.nodup_append.1 hnA').2.2 x hm x (by simp) rfl
    have e1 : (P ++ x :: A2) ++ y :: B = P ++ x :: (A2 ++ y :: B) := by simp
    have e2 : (P ++ x :: A2) ++ B = P ++ x :: (A2 ++ B) := by simp
    rw [e1, e2, aft_split hxP, aft_split hxP]
    match A2, hnA with
    | [], hnA =>
      rw [if_pos (by simp)]
      match B with
      | [] => cases P <;> simp
      | b :: B => simp
    | c :: A2, hnA =>
      have hc : c ≠ y := fun e => hnA (by rw [e]; simp)
      rw [if_neg (by simpa using hc)]
      simp
  · obtain ⟨P, B2, rfl⟩ := List.append_of_mem h
    have hxP : x ∉ P := fun hm => (List.nodup_append.1 hnB').2.2 x hm x (by simp) rfl
    have hxA : x ∉ A := fun hm => hAB x hm (by simp)
    have e1 : A ++ y :: (P ++ x :: B2) = (A ++ y :: P) ++ x :: B2 := by simp
    have e2 : A ++ (P ++ x :: B2) = (A ++ P) ++ x :: B2 := by simp
    rw [e1, e2, aft_split (P := A ++ y :: P) (by simp; exact ⟨hxA, hxy, hxP⟩), aft_split (P := A ++ P) (by simp; exact ⟨hxA, hxP⟩)]
    match B2, hnB with
    | c :: B2, hnB =>
      have hc : c ≠ y := fun e => hnB (by rw [e]; simp)
      rw [if_neg (by simpa using hc)]
      simp
    | [], hnB =>
      match A, hnA with
      | c :: A, hnA =>
        have hc : c ≠ y := fun e => hnA (by rw [e]; simp)
        rw [if_neg (by simpa using hc)]
        simp
      | [], hnA =>
        rw [if_pos (by simp)]
        match P with
        | [] => simp
        | p :: P => simp
theorem aft_self {L : List Int} (hn : L.Nodup) {x : Int} (hx : x ∈ L) : aft L (L.idxOf x) = x ↔ L = [x] := by
  obtain ⟨P, Q, rfl⟩ := List.append_of_mem hx
  have hxP : x ∉ P := fun h => (List.nodup_append.1 hn).2.2 x h x (by simp) rfl
  have hxQ : x ∉ Q := (List.nodup_cons.1 (List.nodup_append.1 hn).2.1).1
  rw [aft_split hxP]
  match Q, P, hxQ, hxP with
  | [], [], _, _ => simp
  | [], p :: P, _, hxP =>
    have : p ≠ x := fun e => hxP (by rw [e]; simp)
    simp [this]
  | q :: Q, P, hxQ, _ =>
    have : q ≠ x := fun e => hxQ (by rw [e]; simp)
    constructor
    · intro e; exact absurd (by simpa using e) this
    · intro e
      have := congrArg List.length e
      simp at this
      omega

/-! An edge goes. -/
section
variable {N : Nat} {l1 l2 : List Ed} {e : Ed} {r : List (List Int)}
theorem less_right (hR : RightG (N : Int) (l1 ++ e :: l2)) : RightG (N : Int) (l1 ++ l2) := by
  have hs : (l1 ++ l2).Sublist (l1 ++ e :: l2) := List.Sublist.append (List.Sublist.refl _) (List.sublist_cons_self _ _)
  exact ⟨hR.n0, hR.n1, Nat.le_trans hs.length_le hR.m1, fun x hx => hR.each x (hs.subset hx), hR.rise.sublist hs⟩
theorem nb_less (x : Int) : nb (l1 ++ e :: l2) x = nb l1 x ++ (nbOf e x ++ nb l2 x) := by
  unfold nb
  rw [List.flatMap_append, List.flatMap_cons]
theorem nb_less' (x : Int) : nb (l1 ++ l2) x = nb l1 x ++ nb l2 x := by
  unfold nb
  rw [List.flatMap_append]
theorem nb_first (x : Int) (h : e.1 = x) : (nb (l1 ++ e :: l2) x).Perm (e.2.1 :: nb (l1 ++ l2) x) := by
  rw [nb_less, nb_less']
  have : nbOf e x = [e.2.1] := by unfold nbOf; rw [if_pos h]
  rw [this]
  exact List.perm_middle
theorem nb_second (x : Int) (h : e.1 ≠ x) (h2 : e.2.1 = x) : (nb (l1 ++ e :: l2) x).Perm (e.1 :: nb (l1 ++ l2) x) := by
  rw [nb_less, nb_less']
  have : nbOf e x = [e.1] := by unfold nbOf; rw [if_neg h, if_pos h2]
  rw [this]
  exact List.perm_middle
theorem nb_other (x : Int) (h : e.1 ≠ x) (h2 : e.2.1 ≠ x) : nb (l1 ++ e :: l2) x = nb (l1 ++ l2) x := by
  rw [nb_less, nb_less']
  have : nbOf e x = [] := by unfold nbOf; rw [if_neg h, if_neg h2]
  rw [this]
  rfl
/-- The system without an edge. -/
def lessR (N : Nat) (r : List (List Int)) (a b : Nat) : List (List Int) := (List.range N).map fun v => if v = a then (r.getD v []).erase (b : Int) else if v = b then (r.getD v []).erase (a : Int) else r.getD v []
theorem lessR_at {a b v : Nat} (hv : v < N) : (lessR N r a b).getD v [] = if v = a then (r.getD v []).erase (b : Int) else if v = b then (r.getD v []).erase (a : Int) else r.getD v [] := by
  unfold lessR
  rw [List.getD_eq_getElem?_getD, List.getElem?_map, List.getElem?_range hv]
  rfl
variable {a b : Nat}
theorem less_sys (hS : SysR N (l1 ++ e :: l2) r) (hab : a ≠ b) (ha : e.1 = (a : Int)) (hb : e.2.1 = (b : Int)) : SysR N (l1 ++ l2) (lessR N r a b) := by
  refine ⟨by simp [lessR], fun v hv => ?_⟩
  rw [lessR_at hv]
  by_cases h1 : v = a
  · subst h1
    rw [if_pos rfl]
    have h2 := ((hS.perm v hv).trans (nb_first (v : Int) ha)).erase (b : Int)
    rw [hb, List.erase_cons_head] at h2
    exact h2
  · rw [if_neg h1]
    by_cases h2 : v = b
    · subst h2
      rw [if_pos rfl]
      have h3 := ((hS.perm v hv).trans (nb_second (v : Int) (by omega) hb)).erase (a : Int)
      rw [ha, List.erase_cons_head] at h3
      exact h3
    · rw [if_neg h2]
      have h3 := hS.perm v hv
      rw [nb_other (v : Int) (by omega) (by omega)] at h3
      exact h3
/-- What leads where, without an edge. -/
theorem less_nx (hR : RightG (N : Int) (l1 ++ e :: l2)) (hS : SysR N (l1 ++ e :: l2) r) (ha : e.1 = (a : Int)) (hb : e.2.1 = (b : Int)) {x : Dt} (hx : x ∈ dartsL N (l1 ++ e :: l2)) (h1 : x ≠ ((a : Int), (b : Int))) (h2 : x ≠ ((b : Int), (a : Int))) :
    nxD (lessR N r a b) x = tgtD (nxD r) ((a : Int), (b : Int)) ((b : Int), (a : Int)) (nxD r x) := by
  have hok := (hR.each e (by simp)).1
  have hab : a ≠ b := by have := hok.2.2.2.2.1; omega
  have haN : a < N := by have := hok.2.1; omega
  have hbN : b < N := by have := hok.2.2.2.1; omega
  obtain ⟨u, v, rfl, hu, hv, huv, hvu⟩ := dart_ends hR hx
  have hnd := hS.nodup hR hv
  have hmem : (u : Int) ∈ r.getD v [] := (hS.perm v hv).mem_iff.2 huv
  unfold tgtD nxD
  simp only [Int.toNat_natCast]
  rw [lessR_at hv]
  by_cases hva : v = a
  · subst hva
    have hub : (u : Int) ≠ (b : Int) := fun e => h2 (by rw [e])
    have hbm : (b : Int) ∈ r.getD v [] := (hS.perm v hv).mem_iff.2 ((nb_first (v : Int) ha).mem_iff.2 (by rw [hb]; simp))
    rw [if_pos rfl, aft_erase hnd hmem hbm hub]
    rw [if_neg (show ¬ ((((v : Int), aft (r.getD v []) ((r.getD v []).idxOf (u : Int))) : Dt) = ((b : Int), (v : Int))) from fun e => by have := congrArg Prod.fst e; simp only at this; omega)]
    by_cases hc : aft (r.getD v []) ((r.getD v []).idxOf (u : Int)) = (b : Int)
    · rw [if_pos hc, if_pos (by rw [hc])]
    · rw [if_neg hc, if_neg (by intro e; exact hc (congrArg Prod.snd e))]
  · rw [if_neg hva]
    by_cases hvb : v = b
    · subst hvb
      have hua : (u : Int) ≠ (a : Int) := fun e => h1 (by rw [e])
      have ham : (a : Int) ∈ r.getD v [] := (hS.perm v hv).mem_iff.2 ((nb_second (v : Int) (by omega) hb).mem_iff.2 (by rw [ha]; simp))
      rw [if_pos rfl, aft_erase hnd hmem ham hua]
      by_cases hc : aft (r.getD v []) ((r.getD v []).idxOf (u : Int)) = (a : Int)
      · rw [if_pos hc, if_pos (by rw [hc])]
      · rw [if_neg hc, if_neg (by intro e; exact hc (congrArg Prod.snd e)), if_neg (by intro e; have := congrArg Prod.fst e; simp only at this; omega)]
    · rw [if_neg hvb, if_neg (by intro e; have := congrArg Prod.fst e; simp only at this; omega), if_neg (by intro e; have := congrArg Prod.fst e; simp only at this; omega)]
end
/-! A part of a graph that no edge leads out of. -/
/-- The darts of these vertices. -/
def PK (l : List Ed) (K : List Nat) (d : Dt) : Prop := ∃ u : Nat, u ∈ K ∧ d.1 = (u : Int) ∧ d.2 ∈ nb l (u : Int)
/-- No edge leads out. -/
def ShutK (l : List Ed) (K : List Nat) : Prop := ∀ u ∈ K, ∀ v : Nat, (v : Int) ∈ nb l (u : Int) → v ∈ K
def eK (l : List Ed) (K : List Nat) : Nat := l.countP fun e => decide (e.1.toNat ∈ K)
def isoK (l : List Ed) (K : List Nat) : Nat := K.countP fun (v : Nat) => (nb l (v : Int)).isEmpty
theorem adj_nb {N : Nat} {l : List Ed} (hR : RightG (N : Int) l) {u v : Nat} : Adj l u v ↔ (v : Int) ∈ nb l (u : Int) := by
  rw [mem_nb]
  constructor
  · rintro ⟨e, he, h⟩
    have hok := (hR.each e he).1
    have h0 := hok.1
    have h1 := hok.2.2.1
    have h2 := hok.2.2.2.2.1
    refine ⟨e, he, ?_⟩
    rcases h with ⟨h3, h4⟩ | ⟨h3, h4⟩
    · exact .inl ⟨by omega, by omega⟩
    · exact .inr ⟨by omega, by omega, by omega⟩
  · rintro ⟨e, he, h⟩
    refine ⟨e, he, ?_⟩
    rcases h with ⟨h3, h4⟩ | ⟨_, h3, h4⟩
    · exact .inl ⟨by omega, by omega⟩
    · exact .inr ⟨by omega, by omega⟩
theorem countP_two {p q : Nat → Bool} {a b : Nat} (hab : a ≠ b) : ∀ {K : List Nat}, K.Nodup → (∀ v ∈ K, v ≠ a → v ≠ b → q v = p v) → p a = false → p b = false → K.countP q = K.countP p + (if a ∈ K ∧ q a = true then 1 else 0) + (if b ∈ K ∧ q b = true then 1 else 0)
  | [], _, _, _, _ => by simp
  | v :: K, hn, h, ha, hb => by
    rw [List.nodup_cons] at hn
    have ih := countP_two hab hn.2 (fun x hx => h x (by simp [hx])) ha hb
    rw [List.countP_cons, List.countP_cons, ih]
    by_cases h1 : v = a
    · subst h1
      rw [ha]
      have e1 : ¬ (v ∈ K ∧ q v = true) := fun h => hn.1 h.1
      rw [if_neg e1]
      have e2 : (b ∈ v :: K ∧ q b = true) ↔ (b ∈ K ∧ q b = true) := by
        rw [List.mem_cons]
        constructor
        · rintro ⟨h1 | h1, h2⟩
          · exact absurd h1.symm hab
          · exact ⟨h1, h2⟩
        · rintro ⟨h1, h2⟩; exact ⟨.inr h1, h2⟩
      by_cases hq : q v = true
      · rw [if_pos (show v ∈ v :: K ∧ q v = true from ⟨by simp, hq⟩), if_pos hq]
        by_cases h3 : b ∈ K ∧ q b = true
        · rw [if_pos h3, if_pos (e2.2 h3)]; simp
        · rw [if_neg h3, if_neg (fun h => h3 (e2.1 h))]; simp
      · rw [if_neg (fun h : v ∈ v :: K ∧ q v = true => hq h.2), if_neg hq]
        by_cases h3 : b ∈ K ∧ q b = true
        · rw [if_pos h3, if_pos (e2.2 h3)]; simp
        · rw [if_neg h3, if_neg (fun h => h3 (e2.1 h))]; simp
    · by_cases h2 : v = b
      · subst h2
        rw [hb]
        have e1 : ¬ (v ∈ K ∧ q v = true) := fun h => hn.1 h.1
        rw [if_neg e1]
        have e2 : (a ∈ v :: K ∧ q a = true) ↔ (a ∈ K ∧ q a = true) := by
          rw [List.mem_cons]
          constructor
          · rintro ⟨h1 | h1, h2⟩
            · exact absurd h1 hab
            · exact ⟨h1, h2⟩
          · rintro ⟨h1, h2⟩; exact ⟨.inr h1, h2⟩
        by_cases hq : q v = true
        · rw [if_pos (show v ∈ v :: K ∧ q v = true from ⟨by simp, hq⟩), if_pos hq]
          by_cases h3 : a ∈ K ∧ q a = true
          · rw [if_pos h3, if_pos (e2.2 h3)]; simp
          · rw [if_neg h3, if_neg (fun h => h3 (e2.1 h))]; simp
        · rw [if_neg (fun h : v ∈ v :: K ∧ q v = true => hq h.2), if_neg hq]
          by_cases h3 : a ∈ K ∧ q a = true
          · rw [if_pos h3, if_pos (e2.2 h3)]; simp
          · rw [if_neg h3, if_neg (fun h => h3 (e2.1 h))]; simp
      · have ea : (a ∈ v :: K ∧ q a = true) ↔ (a ∈ K ∧ q a = true) := by
          rw [List.mem_cons]
          constructor
          · rintro ⟨h3 | h3, h4⟩
            · exact absurd h3.symm h1
            · exact ⟨h3, h4⟩
          · rintro ⟨h3, h4⟩; exact ⟨.inr h3, h4⟩
        have eb : (b ∈ v :: K ∧ q b = true) ↔ (b ∈ K ∧ q b = true) := by
          rw [List.mem_cons]
          constructor
          · rintro ⟨h3 | h3, h4⟩
            · exact absurd h3.symm h2
            · exact ⟨h3, h4⟩
          · rintro ⟨h3, h4⟩; exact ⟨.inr h3, h4⟩
        rw [h v (by simp) h1 h2]
        simp only [ea, eb]
        omega
theorem way_conn {N : Nat} {l : List Ed} (hR : RightG (N : Int) l) {r : List (List Int)} {y : Dt} {K : List Nat} : ∀ {A : List Dt} {x : Dt}, (∀ z ∈ A, PK l K z) → Way (nxD r) y x A → Conn l x.1.toNat y.1.toNat
  | [], x, _, h => by
    have e : x = y := h
    rw [e]
    exact .refl _
  | z :: A, x, hA, h => by
    obtain ⟨rfl, h2⟩ := h
    obtain ⟨u, _, h3, h4⟩ := hA x (by simp)
    have h5 := (nb_mutual hR h4).2.1
    have hadj : Adj l x.1.toNat x.2.toNat := (adj_nb hR).2 (by rw [h3]; simp only [Int.toNat_natCast]; rw [show ((x.2.toNat : Nat) : Int) = x.2 by omega]; exact h4)
    have ih := way_conn hR (fun z hz => hA z (by simp [hz])) h2
    exact .step hadj ih
/-- An edge of the part goes. -/
theorem del_step {N : Nat} {l1 l2 : List Ed} {e : Ed} {r : List (List Int)} {K : List Nat} {C : List (List Dt)} (hR : RightG (N : Int) (l1 ++ e :: l2)) (hS : SysR N (l1 ++ e :: l2) r) (hK : K.Nodup) (hKN : ∀ v ∈ K, v < N) (hsh : ShutK (l1 ++ e :: l2) K) (hD : Dec (nxD r) (PK (l1 ++ e :: l2) K) C) {a b : Nat} (ha : e.1 = (a : Int)) (hb : e.2.1 = (b : Int)) (haK : a ∈ K) :
    RightG (N : Int) (l1 ++ l2) ∧ SysR N (l1 ++ l2) (lessR N r a b) ∧ ShutK (l1 ++ l2) K ∧ eK (l1 ++ l2) K + 1 = eK (l1 ++ e :: l2) K ∧ b ∈ K ∧ ∃ C', Dec (nxD (lessR N r a b)) (PK (l1 ++ l2) K) C' ∧
      ((C'.length + isoK (l1 ++ l2) K + 1 = C.length + isoK (l1 ++ e :: l2) K ∧ Conn (l1 ++ l2) a b ∧ ∃ f ∈ C, ((a : Int), (b : Int)) ∈ f ∧ ((b : Int), (a : Int)) ∉ f) ∨ (C'.length + isoK (l1 ++ l2) K = C.length + isoK (l1 ++ e :: l2) K + 1 ∧ ∃ f ∈ C, ((a : Int), (b : Int)) ∈ f ∧ ((b : Int), (a : Int)) ∈ f)) := by
  have hok := (hR.each e (by simp)).1
  have hab : a ≠ b := by have := hok.2.2.2.2.1; omega
  have haN : a < N := by have := hok.2.1; omega
  have hbN : b < N := by have := hok.2.2.2.1; omega
  have hR' := less_right hR
  have hS' := less_sys hS hab ha hb
  have pa := nb_first (l1 := l1) (l2 := l2) (a : Int) ha
  have pb := nb_second (l1 := l1) (l2 := l2) (e := e) (b : Int) (by omega) hb
  rw [hb] at pa
  rw [ha] at pb
  have nda : (nb (l1 ++ e :: l2) (a : Int)).Nodup := (nb_rise hR (a : Int)).imp fun {a b} (h : a < b) => (show a ≠ b by omega)
  have ndb : (nb (l1 ++ e :: l2) (b : Int)).Nodup := (nb_rise hR (b : Int)).imp fun {a b} (h : a < b) => (show a ≠ b by omega)
  have hbna : (b : Int) ∉ nb (l1 ++ l2) (a : Int) := (List.nodup_cons.1 (pa.nodup_iff.1 nda)).1
  have hanb : (a : Int) ∉ nb (l1 ++ l2) (b : Int) := (List.nodup_cons.1 (pb.nodup_iff.1 ndb)).1
  have hbK : b ∈ K := hsh a haK b (pa.mem_iff.2 (by simp))
  have hmem : ∀ (u : Nat) (y : Int), y ∈ nb (l1 ++ l2) (u : Int) ↔ y ∈ nb (l1 ++ e :: l2) (u : Int) ∧ ¬ (u = a ∧ y = (b : Int)) ∧ ¬ (u = b ∧ y = (a : Int)) := fun u y => by
    by_cases h1 : u = a
    · subst h1
      rw [pa.mem_iff, List.mem_cons]
      constructor
      · intro h
        exact ⟨.inr h, fun h2 => hbna (by rw [← h2.2]; exact h), fun h2 => hab h2.1⟩
      · rintro ⟨h | h, h2, _⟩
        · exact absurd ⟨rfl, h⟩ h2
        · exact h
    · by_cases h2 : u = b
      · subst h2
        rw [pb.mem_iff, List.mem_cons]
        constructor
        · intro h
          exact ⟨.inr h, fun h2 => h1 h2.1, fun h2 => hanb (by rw [← h2.2]; exact h)⟩
        · rintro ⟨h | h, _, h2⟩
          · exact absurd ⟨rfl, h⟩ h2
          · exact h
      · rw [nb_other (e := e) (u : Int) (by omega) (by omega)]
        exact ⟨fun h => ⟨h, fun h => h1 h.1, fun h => h2 h.1⟩, fun h => h.1⟩
  have hsh' : ShutK (l1 ++ l2) K := fun u hu v hv => hsh u hu v ((hmem u v).1 hv).1
  have he : eK (l1 ++ l2) K + 1 = eK (l1 ++ e :: l2) K := by
    unfold eK
    rw [List.countP_append, List.countP_append, List.countP_cons, if_pos (by rw [ha]; simpa using haK)]
    omega
  have hPK : ∀ x, PK (l1 ++ l2) K x ↔ PK (l1 ++ e :: l2) K x ∧ x ≠ ((a : Int), (b : Int)) ∧ x ≠ ((b : Int), (a : Int)) := fun x => by
    constructor
    · rintro ⟨u, hu, h1, h2⟩
      obtain ⟨h3, h4, h5⟩ := (hmem u x.2).1 h2
      refine ⟨⟨u, hu, h1, h3⟩, fun e => ?_, fun e => ?_⟩
      · subst e; exact h4 ⟨by simp only at h1; omega, rfl⟩
      · subst e; exact h5 ⟨by simp only at h1; omega, rfl⟩
    · rintro ⟨⟨u, hu, h1, h2⟩, h3, h4⟩
      refine ⟨u, hu, h1, (hmem u x.2).2 ⟨h2, fun h => h3 ?_, fun h => h4 ?_⟩⟩
      · rw [← h.1, ← h1, ← h.2]
      · rw [← h.1, ← h1, ← h.2]
  have hdarts : ∀ x, PK (l1 ++ e :: l2) K x → x ∈ dartsL N (l1 ++ e :: l2) := fun x ⟨u, hu, h1, h2⟩ => dartsL_mem.2 ⟨u, hKN u hu, h1, h2⟩
  have hd : PK (l1 ++ e :: l2) K ((a : Int), (b : Int)) := ⟨a, haK, rfl, pa.mem_iff.2 (by simp)⟩
  have hd' : PK (l1 ++ e :: l2) K ((b : Int), (a : Int)) := ⟨b, hbK, rfl, pb.mem_iff.2 (by simp)⟩
  have hne : (((a : Int), (b : Int)) : Dt) ≠ ((b : Int), (a : Int)) := fun e => by have := congrArg Prod.fst e; simp only at this; omega
  have nl : nxD r ((a : Int), (b : Int)) ≠ ((a : Int), (b : Int)) := fun e => by have := congrArg Prod.fst e; unfold nxD at this; simp only at this; omega
  have nl' : nxD r ((b : Int), (a : Int)) ≠ ((b : Int), (a : Int)) := fun e => by have := congrArg Prod.fst e; unfold nxD at this; simp only at this; omega
  have iso : isoK (l1 ++ l2) K = isoK (l1 ++ e :: l2) K + (if nxD r ((b : Int), (a : Int)) = ((a : Int), (b : Int)) then 1 else 0) + (if nxD r ((a : Int), (b : Int)) = ((b : Int), (a : Int)) then 1 else 0) := by
    have key : ∀ (v : Nat) (y : Int), v < N → (nb (l1 ++ e :: l2) (v : Int)).Perm (y :: nb (l1 ++ l2) (v : Int)) → (nxD r (y, (v : Int)) = ((v : Int), y) ↔ (nb (l1 ++ l2) (v : Int)).isEmpty = true) := fun v y hv hp => by
      have hnd := hS.nodup hR hv
      have hm : y ∈ r.getD v [] := (hS.perm v hv).mem_iff.2 (hp.mem_iff.2 (by simp))
      have hp2 := (hS.perm v hv).trans hp
      unfold nxD
      simp only [Int.toNat_natCast, Prod.mk.injEq, true_and]
      rw [aft_self hnd hm, List.isEmpty_iff]
      constructor
      · intro e
        rw [e] at hp2
        have := hp2.length_eq
        simp at this
        exact this
      · intro e
        rw [e] at hp2
        exact List.perm_singleton.1 hp2
    unfold isoK
    rw [countP_two hab hK (p := fun (v : Nat) => (nb (l1 ++ e :: l2) (v : Int)).isEmpty) (q := fun (v : Nat) => (nb (l1 ++ l2) (v : Int)).isEmpty)]
    · congr 1
      · congr 1
        have := key a (b : Int) haN pa
        by_cases h : nxD r ((b : Int), (a : Int)) = ((a : Int), (b : Int))
        · rw [if_pos h, if_pos ⟨haK, this.1 h⟩]
        · rw [if_neg h, if_neg (fun h2 => h (this.2 h2.2))]
      · have := key b (a : Int) hbN pb
        by_cases h : nxD r ((a : Int), (b : Int)) = ((b : Int), (a : Int))
        · rw [if_pos h, if_pos ⟨hbK, this.1 h⟩]
        · rw [if_neg h, if_neg (fun h2 => h (this.2 h2.2))]
    · intro v hv h1 h2
      rw [nb_other (e := e) (v : Int) (by omega) (by omega)]
    · have : nb (l1 ++ e :: l2) (a : Int) ≠ [] := fun e => by have := pa.length_eq; rw [e] at this; simp at this
      simpa using this
    · have : nb (l1 ++ e :: l2) (b : Int) ≠ [] := fun e => by have := pb.length_eq; rw [e] at this; simp at this
      simpa using this
  obtain ⟨C', hC', hcase⟩ := hD.del hd hd' hne nl nl' (nx' := nxD (lessR N r a b)) (fun x ⟨h1, h2, h3⟩ => less_nx hR hS ha hb (hdarts x h1) h2 h3)
  refine ⟨hR', hS', hsh', he, hbK, C', ⟨hC'.rnd, hC'.nodup, fun x => (hC'.mem x).trans (hPK x).symm⟩, ?_⟩
  rcases hcase with ⟨h1, h2, h3, ⟨A, hw, hA⟩, h4⟩ | ⟨h1, h4⟩
  · refine .inl ⟨?_, ?_, h4⟩
    · rw [iso, if_neg h3, if_neg h2]
      omega
    · have := way_conn hR' (fun z hz => (hPK z).2 (hA z hz)) hw
      unfold nxD at this
      simp only [Int.toNat_natCast] at this
      exact this.symm
  · refine .inr ⟨?_, h4⟩
    rw [iso]
    omega
end Go.Proofs.Ytonfhkdciaiilaa

namespace Go.Proofs.Ytonfhkdciaiilaa
open Go Go.Proofs

theorem conn_sub {A B : List Ed} (sub : ∀ x ∈ A, x ∈ B) {u v : Nat} (h : Conn A u v) : Conn B u v := by
  induction h using Conn.ind with
  | refl => exact .refl _
  | step h1 _ ih =>
    obtain ⟨g, hg, h2⟩ := h1
    exact .step ⟨g, sub g hg, h2⟩ ih
theorem nodup_len : ∀ {A B : List Nat}, A.Nodup → (∀ x ∈ A, x ∈ B) → A.length ≤ B.length
  | [], _, _, _ => by simp
  | a :: A, B, hn, hs => by
    rw [List.nodup_cons] at hn
    have ha := hs a (by simp)
    have := nodup_len (A := A) (B := B.erase a) hn.2 (fun x hx => (List.mem_erase_of_ne (fun e => hn.1 (by rw [← e]; exact hx))).2 (hs x (by simp [hx])))
    rw [List.length_erase_of_mem ha] at this
    have := List.length_pos_of_mem ha
    rw [List.length_cons]
    omega
section
variable {N : Nat} {l1 l2 : List Ed} {e : Ed} {a b : Nat}
theorem adj_less (ha : e.1 = (a : Int)) (hb : e.2.1 = (b : Int)) {x z : Nat} (h : Adj (l1 ++ e :: l2) x z) : Adj (l1 ++ l2) x z ∨ (x = a ∧ z = b) ∨ (x = b ∧ z = a) := by
  obtain ⟨f, hf, h⟩ := h
  by_cases he : f = e
  · subst he
    right
    rcases h with ⟨h1, h2⟩ | ⟨h1, h2⟩
    · exact .inl ⟨by omega, by omega⟩
    · exact .inr ⟨by omega, by omega⟩
  · left
    refine ⟨f, ?_, h⟩
    rcases List.mem_append.1 hf with h1 | h1
    · simp [h1]
    · rcases List.mem_cons.1 h1 with h1 | h1
      · exact absurd h1 he
      · simp [h1]
theorem adj_more {x z : Nat} (h : Adj (l1 ++ l2) x z) : Adj (l1 ++ e :: l2) x z := by
  obtain ⟨f, hf, h⟩ := h
  refine ⟨f, ?_, h⟩
  rcases List.mem_append.1 hf with h1 | h1 <;> simp [h1]
theorem conn_more {x z : Nat} (h : Conn (l1 ++ l2) x z) : Conn (l1 ++ e :: l2) x z := by
  induction h using Conn.ind with
  | refl => exact .refl _
  | step h1 _ ih => exact .step (adj_more h1) ih
theorem conn_less (ha : e.1 = (a : Int)) (hb : e.2.1 = (b : Int)) {x y : Nat} (h : Conn (l1 ++ e :: l2) x y) : Conn (l1 ++ l2) x y ∨ Conn (l1 ++ l2) x a ∨ Conn (l1 ++ l2) x b := by
  induction h using Conn.ind with
  | refl => exact .inl (.refl _)
  | step h1 _ ih =>
    rcases adj_less ha hb h1 with h2 | ⟨h2, _⟩ | ⟨h2, _⟩
    · rcases ih with h3 | h3 | h3
      · exact .inl (.step h2 h3)
      · exact .inr (.inl (.step h2 h3))
      · exact .inr (.inr (.step h2 h3))
    · subst h2; exact .inr (.inl (.refl _))
    · subst h2; exact .inr (.inr (.refl _))
theorem conn_keep (ha : e.1 = (a : Int)) (hb : e.2.1 = (b : Int)) (hc : Conn (l1 ++ l2) a b) {x y : Nat} (h : Conn (l1 ++ e :: l2) x y) : Conn (l1 ++ l2) x y := by
  induction h using Conn.ind with
  | refl => exact .refl _
  | step h1 _ ih =>
    rcases adj_less ha hb h1 with h2 | ⟨h2, h3⟩ | ⟨h2, h3⟩
    · exact .step h2 ih
    · subst h2; subst h3; exact hc.trans ih
    · subst h2; subst h3; exact hc.symm.trans ih
theorem conn_edge (ha : e.1 = (a : Int)) (hb : e.2.1 = (b : Int)) : Conn (l1 ++ e :: l2) a b := .one ⟨e, by simp, .inl ⟨by omega, by omega⟩⟩
end
/-- Vertices less edges, and faces; a vertex of no edge has one. -/
def chi (l : List Ed) (K : List Nat) (C : List (List Dt)) : Int := (K.length : Int) - (eK l K : Int) + (C.length : Int) + (isoK l K : Int)
theorem chi_none {N : Nat} {l : List Ed} {r : List (List Int)} {K : List Nat} {C : List (List Dt)} (hR : RightG (N : Int) l) (hsh : ShutK l K) (hD : Dec (nxD r) (PK l K) C) (h0 : eK l K = 0) : chi l K C = 2 * (K.length : Int) ∧ ∀ u ∈ K, ∀ v, Conn l u v → u = v := by
  have hno : ∀ e ∈ l, e.1.toNat ∉ K := fun e he hm => by
    unfold eK at h0
    rw [List.countP_eq_zero] at h0
    exact h0 e he (by simpa using hm)
  have hnb : ∀ u ∈ K, nb l (u : Int) = [] := fun u hu => by
    rw [List.eq_nil_iff_forall_not_mem]
    intro y hy
    obtain ⟨_, h1, _, _⟩ := nb_mutual hR hy
    obtain ⟨e, he, h⟩ := mem_nb.1 hy
    rcases h with ⟨h2, _⟩ | ⟨_, _, h2⟩
    · exact hno e he (by rw [h2]; simpa using hu)
    · refine hno e he ?_
      have : (y.toNat : Int) ∈ nb l (u : Int) := by rw [show (y.toNat : Int) = y by omega]; exact hy
      have := hsh u hu _ this
      rw [h2]
      exact this
  have hC : C = [] := by
    match C, hD with
    | [], _ => rfl
    | [] :: C, hD => exact absurd rfl (hD.rnd [] (by simp)).1
    | (x :: f) :: C, hD =>
      obtain ⟨u, hu, _, h2⟩ := (hD.mem x).1 (by simp)
      rw [hnb u hu] at h2
      simp at h2
  have hiso : isoK l K = K.length := by
    unfold isoK
    rw [List.countP_eq_length]
    intro v hv
    rw [hnb v hv]
    rfl
  refine ⟨?_, fun u hu v h => ?_⟩
  · unfold chi
    rw [h0, hC, hiso]
    simp
    omega
  · obtain ⟨ls, hl⟩ := h
    match ls, hl with
    | [], hl => exact hl
    | w :: ls, hl =>
      have := (adj_nb hR).1 hl.1
      rw [hnb u hu] at this
      simp at this
theorem edge_split {N : Nat} {l : List Ed} {K : List Nat} (hR : RightG (N : Int) l) {n : Nat} (h : eK l K = n + 1) : ∃ (l1 l2 : List Ed) (e : Ed) (a b : Nat), l = l1 ++ e :: l2 ∧ e.1 = (a : Int) ∧ e.2.1 = (b : Int) ∧ a ∈ K := by
  have : 0 < l.countP (fun e => decide (e.1.toNat ∈ K)) := by unfold eK at h; omega
  obtain ⟨e, he, hm⟩ := List.countP_pos_iff.1 this
  obtain ⟨l1, l2, e2⟩ := List.append_of_mem he
  have hok := (hR.each e he).1
  have h0 := hok.1
  have h1 := hok.2.2.1
  exact ⟨l1, l2, e, e.1.toNat, e.2.1.toNat, e2, by omega, by omega, by simpa using hm⟩
/-- The number is even; it is at most twice as many as the vertices that all hang together with. -/
theorem euler_le {N : Nat} {K : List Nat} (hK : K.Nodup) (hKN : ∀ v ∈ K, v < N) : ∀ (n : Nat) {l : List Ed} {r : List (List Int)} {C : List (List Dt)}, RightG (N : Int) l → SysR N l r → ShutK l K → Dec (nxD r) (PK l K) C → eK l K = n → (∃ z : Int, chi l K C = 2 * z) ∧ ∀ R : List Nat, (∀ v ∈ K, ∃ q ∈ R, Conn l v q) → chi l K C ≤ 2 * (R.length : Int)
  | 0, l, r, C, hR, hS, hsh, hD, hn => by
    obtain ⟨h1, h2⟩ := chi_none hR hsh hD hn
    refine ⟨⟨_, h1⟩, fun R hc => ?_⟩
    have := nodup_len hK (fun v hv => by
      obtain ⟨q, hq, h3⟩ := hc v hv
      rw [h2 v hv q h3]
      exact hq)
    omega
  | n + 1, l, r, C, hR, hS, hsh, hD, hn => by
    obtain ⟨l1, l2, e, a, b, rfl, ha, hb, haK⟩ := edge_split hR hn
    obtain ⟨hR', hS', hsh', he, hbK, C', hD', hcase⟩ := del_step hR hS hK hKN hsh hD ha hb haK
    obtain ⟨⟨z, hz⟩, hle⟩ := euler_le hK hKN n hR' hS' hsh' hD' (by omega)
    rcases hcase with ⟨h1, h2, _⟩ | ⟨h1, _⟩
    · have e2 : chi (l1 ++ e :: l2) K C = chi (l1 ++ l2) K C' := by unfold chi; omega
      rw [e2]
      refine ⟨⟨z, hz⟩, fun R hc => hle R fun v hv => ?_⟩
      obtain ⟨q, hq, h3⟩ := hc v hv
      exact ⟨q, hq, conn_keep ha hb h2 h3⟩
    · have e2 : chi (l1 ++ e :: l2) K C + 2 = chi (l1 ++ l2) K C' := by unfold chi; omega
      refine ⟨⟨z - 1, by omega⟩, fun R hc => ?_⟩
      obtain ⟨q0, hq0, hc0⟩ := hc a haK
      have key : ∃ x, ∀ v ∈ K, ∃ q ∈ x :: R, Conn (l1 ++ l2) v q := by
        have h3 : Conn (l1 ++ l2) q0 a ∨ Conn (l1 ++ l2) q0 b := by
          rcases conn_less ha hb hc0.symm with h | h | h
          · exact .inl h
          · exact .inl h
          · exact .inr h
        rcases h3 with h3 | h3
        · refine ⟨b, fun v hv => ?_⟩
          obtain ⟨q, hq, h4⟩ := hc v hv
          rcases conn_less ha hb h4 with h | h | h
          · exact ⟨q, by simp [hq], h⟩
          · exact ⟨q0, by simp [hq0], h.trans h3.symm⟩
          · exact ⟨b, by simp, h⟩
        · refine ⟨a, fun v hv => ?_⟩
          obtain ⟨q, hq, h4⟩ := hc v hv
          rcases conn_less ha hb h4 with h | h | h
          · exact ⟨q, by simp [hq], h⟩
          · exact ⟨a, by simp, h⟩
          · exact ⟨q0, by simp [hq0], h.trans h3.symm⟩
      obtain ⟨x, hx⟩ := key
      have := hle _ hx
      rw [List.length_cons] at this
      omega
/-- An edge whose two darts are in one round, and that is no bridge, leaves room for two. -/
theorem euler_room {N : Nat} {K : List Nat} (hK : K.Nodup) (hKN : ∀ v ∈ K, v < N) {l1 l2 : List Ed} {e : Ed} {r : List (List Int)} {C : List (List Dt)} (hR : RightG (N : Int) (l1 ++ e :: l2)) (hS : SysR N (l1 ++ e :: l2) r) (hsh : ShutK (l1 ++ e :: l2) K) (hD : Dec (nxD r) (PK (l1 ++ e :: l2) K) C) {a b : Nat} (ha : e.1 = (a : Int)) (hb : e.2.1 = (b : Int)) (haK : a ∈ K) (hc : Conn (l1 ++ l2) a b) {f : List Dt} (hf : f ∈ C) (h1 : ((a : Int), (b : Int)) ∈ f) (h2 : ((b : Int), (a : Int)) ∈ f) {R : List Nat} (hco : ∀ v ∈ K, ∃ q ∈ R, Conn (l1 ++ e :: l2) v q) : chi (l1 ++ e :: l2) K C + 2 ≤ 2 * (R.length : Int) := by
  obtain ⟨hR', hS', hsh', he, hbK, C', hD', hcase⟩ := del_step hR hS hK hKN hsh hD ha hb haK
  obtain ⟨_, hle⟩ := euler_le hK hKN _ hR' hS' hsh' hD' rfl
  rcases hcase with ⟨_, _, g, hg, h3, h4⟩ | ⟨h3, _⟩
  · have := ((hD.rnd f hf).same (hD.rnd g hg) h1 h3 ((b : Int), (a : Int))).1 h2
    exact absurd this h4
  · have e2 : chi (l1 ++ e :: l2) K C + 2 = chi (l1 ++ l2) K C' := by unfold chi; omega
    rw [e2]
    refine hle R fun v hv => ?_
    obtain ⟨q, hq, h5⟩ := hco v hv
    exact ⟨q, hq, conn_keep ha hb hc h5⟩
/-- A bridge's two darts are in one round. -/
theorem bridge_round {N : Nat} {K : List Nat} (hK : K.Nodup) (hKN : ∀ v ∈ K, v < N) {l1 l2 : List Ed} {e : Ed} {r : List (List Int)} {C : List (List Dt)} (hR : RightG (N : Int) (l1 ++ e :: l2)) (hS : SysR N (l1 ++ e :: l2) r) (hsh : ShutK (l1 ++ e :: l2) K) (hD : Dec (nxD r) (PK (l1 ++ e :: l2) K) C) {a b : Nat} (ha : e.1 = (a : Int)) (hb : e.2.1 = (b : Int)) (haK : a ∈ K) (hc : ¬ Conn (l1 ++ l2) a b) : ∃ f ∈ C, ((a : Int), (b : Int)) ∈ f ∧ ((b : Int), (a : Int)) ∈ f := by
  obtain ⟨_, _, _, _, _, C', _, hcase⟩ := del_step hR hS hK hKN hsh hD ha hb haK
  rcases hcase with ⟨_, h, _⟩ | ⟨_, h⟩
  · exact absurd h hc
  · exact h
/-- Where each edge is a bridge, the number is at least twice as many as vertices of which no two hang together. -/
theorem euler_ge {N : Nat} {K : List Nat} (hK : K.Nodup) (hKN : ∀ v ∈ K, v < N) : ∀ (n : Nat) {l : List Ed} {r : List (List Int)} {C : List (List Dt)}, RightG (N : Int) l → SysR N l r → ShutK l K → Dec (nxD r) (PK l K) C → eK l K = n → (∀ e ∈ l, e.1.toNat ∈ K → ¬ Conn (l.erase e) e.1.toNat e.2.1.toNat) → ∀ R : List Nat, R.Nodup → (∀ q ∈ R, q ∈ K) → (∀ q ∈ R, ∀ s ∈ R, Conn l q s → q = s) → 2 * (R.length : Int) ≤ chi l K C
  | 0, l, r, C, hR, hS, hsh, hD, hn, _, R, hRn, hRK, _ => by
    obtain ⟨h1, _⟩ := chi_none hR hsh hD hn
    have := nodup_len hRn hRK
    omega
  | n + 1, l, r, C, hR, hS, hsh, hD, hn, hbr, R, hRn, hRK, hap => by
    obtain ⟨l1, l2, e, a, b, rfl, ha, hb, haK⟩ := edge_split hR hn
    obtain ⟨hR', hS', hsh', he, hbK, C', hD', hcase⟩ := del_step hR hS hK hKN hsh hD ha hb haK
    have hel : e ∉ l1 := fun hm => by
      have := (List.pairwise_append.1 hR.rise).2.2 e hm e (by simp)
      rw [lo_irrefl] at this
      cases this
    have ee : (l1 ++ e :: l2).erase e = l1 ++ l2 := by rw [List.erase_append_right _ hel, List.erase_cons_head]
    have hnc : ¬ Conn (l1 ++ l2) a b := by
      have := hbr e (by simp) (by rw [ha]; simpa using haK)
      rw [ee, ha, hb] at this
      simpa using this
    have hbr' : ∀ f ∈ l1 ++ l2, f.1.toNat ∈ K → ¬ Conn ((l1 ++ l2).erase f) f.1.toNat f.2.1.toNat := fun f hf hfK hcf => by
      refine hbr f (by rcases List.mem_append.1 hf with h | h <;> simp [h]) hfK ?_
      rw [← ee, List.erase_comm] at hcf
      have sub : ∀ x ∈ ((l1 ++ e :: l2).erase f).erase e, x ∈ (l1 ++ e :: l2).erase f := fun x hx => List.mem_of_mem_erase hx
      exact conn_sub sub hcf
    rcases hcase with ⟨_, h2, _⟩ | ⟨h1, _⟩
    · exact absurd h2 hnc
    · have e2 : chi (l1 ++ e :: l2) K C + 2 = chi (l1 ++ l2) K C' := by unfold chi; omega
      have key : ∃ x, x ∈ K ∧ x ∉ R ∧ ∀ q ∈ R, ¬ Conn (l1 ++ l2) q x := by
        have hab := conn_edge (l1 := l1) (l2 := l2) ha hb
        by_cases hex : ∃ q ∈ R, Conn (l1 ++ e :: l2) q a
        · obtain ⟨q, hq, hqa⟩ := hex
          have h3 : Conn (l1 ++ l2) q a ∨ Conn (l1 ++ l2) q b := by
            rcases conn_less ha hb hqa with h | h | h
            · exact .inl h
            · exact .inl h
            · exact .inr h
          rcases h3 with h3 | h3
          · have no : ∀ s ∈ R, ¬ Conn (l1 ++ l2) s b := fun s hs h4 => by
              have := hap s hs q hq ((conn_more h4).trans (hab.symm.trans hqa.symm))
              subst this
              exact hnc (h3.symm.trans h4)
            exact ⟨b, hbK, fun hm => no b hm (.refl _), no⟩
          · have no : ∀ s ∈ R, ¬ Conn (l1 ++ l2) s a := fun s hs h4 => by
              have := hap s hs q hq ((conn_more h4).trans hqa.symm)
              subst this
              exact hnc (h4.symm.trans h3)
            exact ⟨a, haK, fun hm => no a hm (.refl _), no⟩
        · exact ⟨a, haK, fun hm => hex ⟨a, hm, .refl _⟩, fun q hq h => hex ⟨q, hq, conn_more h⟩⟩
      obtain ⟨x, hxK, hxR, hno⟩ := key
      have := euler_ge hK hKN n hR' hS' hsh' hD' (by omega) hbr' (x :: R) (List.nodup_cons.2 ⟨hxR, hRn⟩) (fun q hq => by
        rcases List.mem_cons.1 hq with rfl | hq
        · exact hxK
        · exact hRK q hq) (fun q hq s hs h => by
        rcases List.mem_cons.1 hq with e1 | hq
        · rcases List.mem_cons.1 hs with e3 | hs
          · rw [e1, e3]
          · rw [e1] at h; exact absurd h.symm (hno s hs)
        · rcases List.mem_cons.1 hs with e3 | hs
          · rw [e3] at h; exact absurd h (hno q hq)
          · exact hap q hq s hs (conn_more h))
      rw [List.length_cons] at this
      omega
end Go.Proofs.Ytonfhkdciaiilaa
