import Derived.Test.YtjpkojmjiaoifaaGreatZBD
namespace Go.Proofs.YtjpkojmjiaoifaaGreat
open Go Go.Proofs
section
variable {nx : Dt → Dt}
structure Dec (nx : Dt → Dt) (P : Dt → Prop) (C : List (List Dt)) : Prop where
 rnd : ∀ f ∈ C, Rnd nx f
 nodup : C.flatten.Nodup
 mem : ∀ x, x ∈ C.flatten ↔ P x
theorem way_append {d : Dt} : ∀ {x : Dt} {A B : List Dt}, Way nx d x (A ++ B) ↔ ∃ y, Way nx y x A ∧ Way nx d y B
 | x, [], B => ⟨fun h => ⟨x, rfl, h⟩, fun ⟨y, h1, h2⟩ => by have e : x = y := h1; rw [e]; exact h2⟩
 | x, a :: A, B => by
  constructor
  ·rintro ⟨rfl, h⟩
   obtain ⟨y, h1, h2⟩ := way_append.1 h
   exact ⟨y, ⟨rfl, h1⟩, h2⟩
  ·rintro ⟨y, ⟨rfl, h1⟩, h2⟩
   exact ⟨rfl, way_append.2 ⟨y, h1, h2⟩⟩
theorem Rnd.turn {f : List Dt} (h : Rnd nx f) {x : Dt} (hx : x ∈ f) : ∃ A, Way nx x x (x :: A) ∧ (x :: A).Perm f := by
 obtain ⟨_, d, hw⟩ := h
 obtain ⟨A, B, rfl⟩ := List.append_of_mem hx
 obtain ⟨y, h1, h2⟩ := way_append.1 hw
 have e : y = x := h2.1
 subst e
 refine ⟨B ++ A, ?_, ?_⟩
 ·show Way nx y y ((y :: B) ++ A)
  exact way_append.2 ⟨d, h2, h1⟩
 ·show ((y :: B) ++ A).Perm (A ++ y :: B)
  exact List.perm_append_comm
theorem flatten_out (C1 C2 : List (List Dt)) (f : List Dt) : (f ++ (C1 ++ C2).flatten).Perm (C1 ++ f :: C2).flatten := by
 rw [List.flatten_append, List.flatten_append, List.flatten_cons, ← List.append_assoc, ← List.append_assoc]
 exact List.perm_append_comm.append_right _
theorem Dec.perm {P : Dt → Prop} {C D : List (List Dt)} (h : Dec nx P C) (hr : ∀ f ∈ D, Rnd nx f) (hp : D.flatten.Perm C.flatten) : Dec nx P D :=
 ⟨hr, hp.nodup_iff.2 h.nodup, fun x => hp.mem_iff.trans (h.mem x)⟩
theorem Dec.turn {P : Dt → Prop} {C : List (List Dt)} (h : Dec nx P C) {x : Dt} (hx : P x) : ∃ f A C', f ∈ C ∧ (x :: A).Perm f ∧ Way nx x x (x :: A) ∧ Dec nx P ((x :: A) :: C') ∧ C'.length + 1 = C.length ∧ ∀ g ∈ C', g ∈ C := by
 obtain ⟨f, hf, hxf⟩ := List.mem_flatten.1 ((h.mem x).2 hx)
 obtain ⟨A, hw, hp⟩ := (h.rnd f hf).turn hxf
 obtain ⟨C1, C2, rfl⟩ := List.append_of_mem hf
 refine ⟨f, A, C1 ++ C2, by simp, hp, hw, ?_, by simp; omega, fun g hg => ?_⟩
 ·refine h.perm (fun g hg => ?_) ?_
  ·rcases List.mem_cons.1 hg with rfl | hg
   ·exact ⟨by simp, x, hw⟩
   ·exact h.rnd g (by rcases List.mem_append.1 hg with h1 | h1 <;> simp [h1])
  ·rw [List.flatten_cons]
   exact (hp.append_right _).trans (flatten_out C1 C2 f)
 ·rcases List.mem_append.1 hg with h1 | h1 <;> simp [h1]
def tgtD (nx : Dt → Dt) (d d' y : Dt) : Dt := if y = d' then nx d else if y = d then nx d' else y
theorem way_del {nx' : Dt → Dt} {d d' y : Dt} {P : Dt → Prop} (hn : ∀ x, P x → nx' x = tgtD nx d d' (nx x)) (hP : ∀ x, P x → x ≠ d ∧ x ≠ d') : ∀ {A : List Dt} {x : Dt}, A ≠ [] → (∀ a ∈ A, P a) → Way nx y x A → Way nx' (tgtD nx d d' y) x A
 | [], _, h, _, _ => absurd rfl h
 | [a], x, _, hA, hw => by
  obtain ⟨rfl, h2⟩ := hw
  have h3 : nx x = y := h2
  exact ⟨rfl, by show nx' x = _; rw [hn x (hA x (by simp)), h3]⟩
 | a :: b :: A, x, _, hA, hw => by
  obtain ⟨rfl, h2⟩ := hw
  have hb : nx x = b := h2.1
  have hbP := hP b (hA b (by simp))
  have e : nx' x = nx x := by
   rw [hn x (hA x (by simp)), hb]
   unfold tgtD
   rw [if_neg hbP.2, if_neg hbP.1]
  refine ⟨rfl, ?_⟩
  rw [e]
  exact way_del hn hP (by simp) (fun c hc => hA c (List.mem_cons_of_mem _ hc)) h2
theorem rnd_del {nx' : Dt → Dt} {d d' : Dt} {P : Dt → Prop} (hn : ∀ x, P x → nx' x = tgtD nx d d' (nx x)) (hP : ∀ x, P x → x ≠ d ∧ x ≠ d') {f : List Dt} (h : Rnd nx f) (hf : ∀ a ∈ f, P a) : Rnd nx' f := by
 obtain ⟨hne, y, hw⟩ := h
 have hy : P y := by
  match f, hne, hw with
  | a :: f, _, hw => rw [hw.1]; exact hf a (by simp)
 have e : tgtD nx d d' y = y := by
  unfold tgtD
  rw [if_neg (hP y hy).2, if_neg (hP y hy).1]
 refine ⟨hne, y, ?_⟩
 have := way_del hn hP hne hf hw
 rwa [e] at this
theorem Dec.del {P : Dt → Prop} {C : List (List Dt)} (h : Dec nx P C) {d d' : Dt} (hd : P d) (hd' : P d') (hne : d ≠ d') (hl : nx d ≠ d) (hl' : nx d' ≠ d') {nx' : Dt → Dt} (hn : ∀ x, P x ∧ x ≠ d ∧ x ≠ d' → nx' x = tgtD nx d d' (nx x)) :
  ∃ C', Dec nx' (fun x => P x ∧ x ≠ d ∧ x ≠ d') C' ∧ ((C'.length + 1 = C.length ∧ nx d ≠ d' ∧ nx d' ≠ d ∧ (∃ A, Way nx d (nx d) A ∧ ∀ x ∈ A, P x ∧ x ≠ d ∧ x ≠ d') ∧ ∃ f ∈ C, d ∈ f ∧ d' ∉ f) ∨ (C'.length + (if nx d = d' then 1 else 0) + (if nx d' = d then 1 else 0) = C.length + 1 ∧ ∃ f ∈ C, d ∈ f ∧ d' ∈ f)) := by
 obtain ⟨f, A, C1, hfC, hpf, hw, hD, hlen, hsub⟩ := h.turn hd
 have hnd := hD.nodup
 rw [List.flatten_cons] at hnd
 have hndA : (d :: A).Nodup := (List.nodup_append.1 hnd).1
 have hdA : d ∉ A := (List.nodup_cons.1 hndA).1
 have hap : ∀ x ∈ d :: A, x ∉ C1.flatten := fun x h1 h2 => (List.nodup_append.1 hnd).2.2 x h1 x h2 rfl
 have hn1 : C1.flatten.Nodup := (List.nodup_append.1 hnd).2.1
 have hPA : ∀ x ∈ d :: A, P x := fun x hx => (hD.mem x).1 (by rw [List.flatten_cons]; exact List.mem_append_left _ hx)
 have hP1 : ∀ x ∈ C1.flatten, P x := fun x hx => (hD.mem x).1 (by rw [List.flatten_cons]; exact List.mem_append_right _ hx)
 have hall : ∀ x, P x → x ∈ d :: A ∨ x ∈ C1.flatten := fun x hx => by
  have := (hD.mem x).2 hx
  rw [List.flatten_cons] at this
  exact List.mem_append.1 this
 have hPP : ∀ x, (P x ∧ x ≠ d ∧ x ≠ d') → x ≠ d ∧ x ≠ d' := fun x h => h.2
 by_cases hin : d' ∈ A
 ·obtain ⟨A1, A2, rfl⟩ := List.append_of_mem hin
  have hwt : Way nx d (nx d) (A1 ++ d' :: A2) := hw.2
  obtain ⟨y, h1, h2⟩ := way_append.1 hwt
  have ey : y = d' := h2.1
  subst ey
  have h3 : Way nx d (nx y) A2 := h2.2
  have hndA' := (List.nodup_cons.1 hndA).2
  have hnA1 := (List.nodup_append.1 hndA').1
  have hnA2 := (List.nodup_cons.1 (List.nodup_append.1 hndA').2.1)
  have hy1 : y ∉ A1 := fun hm => (List.nodup_append.1 hndA').2.2 y hm y (by simp) rfl
  have h12 : ∀ x ∈ A1, x ∉ A2 := fun x hx hx' => (List.nodup_append.1 hndA').2.2 x hx x (by simp [hx']) rfl
  have hQ1 : ∀ x ∈ A1, P x ∧ x ≠ d ∧ x ≠ y := fun x hx => ⟨hPA x (by simp [hx]), fun e => hdA (by rw [← e]; simp [hx]), fun e => hy1 (by rw [← e]; exact hx)⟩
  have hQ2 : ∀ x ∈ A2, P x ∧ x ≠ d ∧ x ≠ y := fun x hx => ⟨hPA x (by simp [hx]), fun e => hdA (by rw [← e]; simp [hx]), fun e => hnA2.1 (by rw [← e]; exact hx)⟩
  have hQC : ∀ x ∈ C1.flatten, P x ∧ x ≠ d ∧ x ≠ y := fun x hx => ⟨hP1 x hx, fun e => hap d (by simp) (by rw [← e]; exact hx), fun e => hap y (by simp) (by rw [← e]; exact hx)⟩
  have hr1 : A1 ≠ [] → Rnd nx' A1 := fun hne1 => by
   have := way_del hn hPP hne1 hQ1 h1
   have e : tgtD nx d y y = nx d := by unfold tgtD; rw [if_pos rfl]
   rw [e] at this
   exact ⟨hne1, _, this⟩
  have hr2 : A2 ≠ [] → Rnd nx' A2 := fun hne2 => by
   have := way_del hn hPP hne2 hQ2 h3
   have e : tgtD nx d y d = nx y := by unfold tgtD; rw [if_neg hne, if_pos rfl]
   rw [e] at this
   exact ⟨hne2, _, this⟩
  have hrC : ∀ g ∈ C1, Rnd nx' g := fun g hg => rnd_del hn hPP (hD.rnd g (by simp [hg])) (fun a ha => hQC a (List.mem_flatten.2 ⟨g, hg, ha⟩))
  have e1 : A1 = [] ↔ nx d = y := by
   constructor
   ·intro e; rw [e] at h1; exact h1
   ·intro e
    match A1, h1, hy1 with
    | [], _, _ => rfl
    | a :: A1, h1, hy1 => exact absurd (by rw [← e, h1.1]; simp) hy1
  have e2 : A2 = [] ↔ nx y = d := by
   constructor
   ·intro e; rw [e] at h3; exact h3
   ·intro e
    match A2, h3, hdA with
    | [], _, _ => rfl
    | a :: A2, h3, hdA => exact absurd (by rw [← e, h3.1]; simp) hdA
  have hone : ∀ L : List Dt, (if L = [] then ([] : List (List Dt)) else [L]).flatten = L := fun L => by
   split
   ·rename_i e; rw [e]; rfl
   ·simp
  refine ⟨(if A1 = [] then [] else [A1]) ++ ((if A2 = [] then [] else [A2]) ++ C1), ⟨?_, ?_, ?_⟩, .inr ⟨?_, f, hfC, hpf.mem_iff.1 (by simp), hpf.mem_iff.1 (by simp)⟩⟩
  ·intro g hg
   rcases List.mem_append.1 hg with h5 | h5
   ·split at h5
    ·simp at h5
    ·rw [List.mem_singleton.1 h5]; exact hr1 ‹_›
   ·rcases List.mem_append.1 h5 with h5 | h5
    ·split at h5
     ·simp at h5
     ·rw [List.mem_singleton.1 h5]; exact hr2 ‹_›
    ·exact hrC g h5
  ·rw [List.flatten_append, List.flatten_append, hone, hone]
   refine List.nodup_append.2 ⟨hnA1, List.nodup_append.2 ⟨hnA2.2, hn1, fun x hx z hz e => hap x (by simp [hx]) (by rw [e]; exact hz)⟩, fun x hx z hz e => ?_⟩
   subst e
   rcases List.mem_append.1 hz with h5 | h5
   ·exact h12 x hx h5
   ·exact hap x (by simp [hx]) h5
  ·intro x
   rw [List.flatten_append, List.flatten_append, hone, hone]
   constructor
   ·intro hx
    rcases List.mem_append.1 hx with h5 | h5
    ·exact hQ1 x h5
    ·rcases List.mem_append.1 h5 with h5 | h5
     ·exact hQ2 x h5
     ·exact hQC x h5
   ·rintro ⟨hp, hxd, hxy⟩
    rcases hall x hp with h5 | h5
    ·rcases List.mem_cons.1 h5 with h5 | h5
     ·exact absurd h5 hxd
     ·rcases List.mem_append.1 h5 with h5 | h5
      ·simp [h5]
      ·rcases List.mem_cons.1 h5 with h5 | h5
       ·exact absurd h5 hxy
       ·simp [h5]
    ·simp only [List.mem_append]
     exact .inr (.inr h5)
  ·have t1 : (if A1 = [] then ([] : List (List Dt)) else [A1]).length + (if nx d = y then 1 else 0) = 1 := by
    by_cases hA : A1 = []
    ·rw [if_pos hA, if_pos (e1.1 hA)]; rfl
    ·rw [if_neg hA, if_neg (fun e => hA (e1.2 e))]; rfl
   have t2 : (if A2 = [] then ([] : List (List Dt)) else [A2]).length + (if nx y = d then 1 else 0) = 1 := by
    by_cases hA : A2 = []
    ·rw [if_pos hA, if_pos (e2.1 hA)]; rfl
    ·rw [if_neg hA, if_neg (fun e => hA (e2.2 e))]; rfl
   rw [List.length_append, List.length_append]
   omega
 ·have hd1 : d' ∈ C1.flatten := by
   rcases hall d' hd' with h5 | h5
   ·rcases List.mem_cons.1 h5 with h5 | h5
    ·exact absurd h5.symm hne
    ·exact absurd h5 hin
   ·exact h5
  have hD1 : Dec nx (fun x => x ∈ C1.flatten) C1 := ⟨fun g hg => hD.rnd g (by simp [hg]), hn1, fun x => Iff.rfl⟩
  obtain ⟨f2, B, C2, hf2, hpf2, hw2, hD2, hlen2, hsub2⟩ := hD1.turn hd1
  have hnd2 := hD2.nodup
  rw [List.flatten_cons] at hnd2
  have hndB : (d' :: B).Nodup := (List.nodup_append.1 hnd2).1
  have hdB : d' ∉ B := (List.nodup_cons.1 hndB).1
  have hap2 : ∀ x ∈ d' :: B, x ∉ C2.flatten := fun x h1 h2 => (List.nodup_append.1 hnd2).2.2 x h1 x h2 rfl
  have hB1 : ∀ x ∈ d' :: B, x ∈ C1.flatten := fun x hx => (hD2.mem x).1 (by rw [List.flatten_cons]; exact List.mem_append_left _ hx)
  have hC21 : ∀ x ∈ C2.flatten, x ∈ C1.flatten := fun x hx => (hD2.mem x).1 (by rw [List.flatten_cons]; exact List.mem_append_right _ hx)
  have hAne : A ≠ [] := fun e => hl (by have := hw.2; rw [e] at this; exact this)
  have hBne : B ≠ [] := fun e => hl' (by have := hw2.2; rw [e] at this; exact this)
  have hQA : ∀ x ∈ A, P x ∧ x ≠ d ∧ x ≠ d' := fun x hx => ⟨hPA x (by simp [hx]), fun e => hdA (by rw [← e]; exact hx), fun e => hin (by rw [← e]; exact hx)⟩
  have hQB : ∀ x ∈ B, P x ∧ x ≠ d ∧ x ≠ d' := fun x hx => ⟨hP1 x (hB1 x (by simp [hx])), fun e => hap d (by simp) (by rw [← e]; exact hB1 x (by simp [hx])), fun e => hdB (by rw [← e]; exact hx)⟩
  have hQC : ∀ x ∈ C2.flatten, P x ∧ x ≠ d ∧ x ≠ d' := fun x hx => ⟨hP1 x (hC21 x hx), fun e => hap d (by simp) (by rw [← e]; exact hC21 x hx), fun e => hap2 d' (by simp) (by rw [← e]; exact hx)⟩
  have wA := way_del hn hPP hAne hQA hw.2
  have wB := way_del hn hPP hBne hQB hw2.2
  have eA : tgtD nx d d' d = nx d' := by unfold tgtD; rw [if_neg hne, if_pos rfl]
  have eB : tgtD nx d d' d' = nx d := by unfold tgtD; rw [if_pos rfl]
  rw [eA] at wA
  rw [eB] at wB
  have hAB : ∀ x ∈ A, x ∉ d' :: B := fun x hx hx' => hap x (by simp [hx]) (hB1 x hx')
  refine ⟨(A ++ B) :: C2, ⟨?_, ?_, ?_⟩, .inl ⟨by rw [List.length_cons]; omega, fun e => ?_, fun e => ?_, ⟨A, hw.2, hQA⟩, f, hfC, hpf.mem_iff.1 (by simp), fun hm => ?_⟩⟩
  ·intro g hg
   rcases List.mem_cons.1 hg with rfl | hg
   ·exact ⟨by simp [hAne], nx d, way_append.2 ⟨_, wA, wB⟩⟩
   ·exact rnd_del hn hPP (hD2.rnd g (by simp [hg])) (fun a ha => hQC a (List.mem_flatten.2 ⟨g, hg, ha⟩))
  ·rw [List.flatten_cons]
   refine List.nodup_append.2 ⟨List.nodup_append.2 ⟨(List.nodup_cons.1 hndA).2, (List.nodup_cons.1 hndB).2, fun x hx z hz e => hAB x hx (by rw [e]; simp [hz])⟩, (List.nodup_append.1 hnd2).2.1, fun x hx z hz e => ?_⟩
   subst e
   rcases List.mem_append.1 hx with h5 | h5
   ·exact hap x (by simp [h5]) (hC21 x hz)
   ·exact hap2 x (by simp [h5]) hz
  ·intro x
   rw [List.flatten_cons]
   constructor
   ·intro hx
    rcases List.mem_append.1 hx with h5 | h5
    ·rcases List.mem_append.1 h5 with h5 | h5
     ·exact hQA x h5
     ·exact hQB x h5
    ·exact hQC x h5
   ·rintro ⟨hp, hxd, hxy⟩
    rcases hall x hp with h5 | h5
    ·rcases List.mem_cons.1 h5 with h5 | h5
     ·exact absurd h5 hxd
     ·simp [h5]
    ·have := (hD2.mem x).2 h5
     rw [List.flatten_cons] at this
     rcases List.mem_append.1 this with h6 | h6
     ·rcases List.mem_cons.1 h6 with h6 | h6
      ·exact absurd h6 hxy
      ·simp [h6]
     ·exact List.mem_append_right _ h6
  ·have := hw.2
   match A, hAne, this, hin with
   | a :: A, _, this, hin => exact hin (by rw [← e, this.1]; simp)
  ·have := hw2.2
   match B, hBne, this, hB1 with
   | a :: B, _, this, hB1 => exact hap d (by simp) (by rw [← e, this.1]; exact hB1 a (by simp))
  ·have := hpf.mem_iff.2 hm
   rcases List.mem_cons.1 this with h5 | h5
   ·exact hne h5.symm
   ·exact hin h5
theorem Rnd.fwd {f : List Dt} (h : Rnd nx f) : ∀ x ∈ f, nx x ∈ f := by
 intro x hx
 obtain ⟨hne, d, hw⟩ := h
 rcases hw.mem_next x hx with h1 | h1
 ·rw [h1]
  match f, hne, hw with
  | a :: f, _, hw => rw [hw.1]; simp
 ·exact h1
theorem way_in {f : List Dt} (hf : ∀ x ∈ f, nx x ∈ f) {y : Dt} : ∀ {L : List Dt} {x : Dt}, x ∈ f → Way nx y x L → ∀ z ∈ L, z ∈ f
 | [], _, _, _, z, hz => by simp at hz
 | a :: L, x, hx, hw, z, hz => by
  obtain ⟨rfl, h2⟩ := hw
  rcases List.mem_cons.1 hz with rfl | hz
  ·exact hx
  ·exact way_in hf (hf x hx) h2 z hz
theorem Rnd.same {f g : List Dt} (hf : Rnd nx f) (hg : Rnd nx g) {x : Dt} (h1 : x ∈ f) (h2 : x ∈ g) : ∀ y, y ∈ f ↔ y ∈ g := by
 have key : ∀ {f g : List Dt}, Rnd nx f → Rnd nx g → x ∈ f → x ∈ g → ∀ y ∈ g, y ∈ f := fun {f g} hf hg h1 h2 y hy => by
  obtain ⟨A, hw, hp⟩ := hg.turn h2
  exact way_in hf.fwd h1 hw y (hp.mem_iff.2 hy)
 exact fun y => ⟨key hg hf h2 h1 y, key hf hg h1 h2 y⟩
theorem rnds_len : ∀ (C D : List (List Dt)), (∀ f ∈ C, Rnd nx f) → (∀ f ∈ D, Rnd nx f) → C.flatten.Nodup → D.flatten.Nodup → (∀ x, x ∈ C.flatten ↔ x ∈ D.flatten) → C.length = D.length
 | [], D, _, hD, _, _, hm => by
  match D, hD, hm with
  | [], _, _ => rfl
  | [] :: D, hD, _ => exact absurd rfl (hD [] (by simp)).1
  | (a :: g) :: D, _, hm => exact absurd ((hm a).2 (by simp)) (by simp)
 | [] :: C, D, hC, _, _, _, _ => absurd rfl (hC [] (by simp)).1
 | (a :: f) :: C, D, hC, hD, hnC, hnD, hm => by
  obtain ⟨g, hg, hag⟩ := List.mem_flatten.1 ((hm a).1 (by simp))
  obtain ⟨D1, D2, rfl⟩ := List.append_of_mem hg
  have hsame := (hC (a :: f) (by simp)).same (hD g hg) (by simp) hag
  rw [List.flatten_cons] at hnC
  have hp := flatten_out D1 D2 g
  have hnD' := hp.nodup_iff.2 hnD
  have hc := rnds_len C (D1 ++ D2) (fun x hx => hC x (by simp [hx])) (fun x hx => hD x (by rcases List.mem_append.1 hx with h | h <;> simp [h])) (List.nodup_append.1 hnC).2.1 (List.nodup_append.1 hnD').2.1 (fun x => by
   have h1 := hm x
   rw [List.flatten_cons, List.mem_append, ← hp.mem_iff, List.mem_append] at h1
   have h2 : x ∈ C.flatten → x ∉ a :: f := fun h h' => (List.nodup_append.1 hnC).2.2 x h' x h rfl
   have h3 : x ∈ (D1 ++ D2).flatten → x ∉ g := fun h h' => (List.nodup_append.1 hnD').2.2 x h' x h rfl
   constructor
   ·intro h
    rcases h1.1 (.inr h) with h4 | h4
    ·exact absurd ((hsame x).2 h4) (h2 h)
    ·exact h4
   ·intro h
    rcases h1.2 (.inr h) with h4 | h4
    ·exact absurd ((hsame x).1 h4) (h3 h)
    ·exact h4)
  simp at hc ⊢
  omega
theorem Dec.len {P : Dt → Prop} {C D : List (List Dt)} (h : Dec nx P C) (h' : Dec nx P D) : C.length = D.length := rnds_len C D h.rnd h'.rnd h.nodup h'.nodup (fun x => (h.mem x).trans (h'.mem x).symm)
end
end Go.Proofs.YtjpkojmjiaoifaaGreat
