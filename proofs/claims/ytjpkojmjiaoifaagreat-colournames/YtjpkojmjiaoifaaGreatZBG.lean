import Derived.Test.YtjpkojmjiaoifaaGreatXRGenus
namespace Go.Proofs.YtjpkojmjiaoifaaGreat
open Go Go.Proofs
def sumZ : Nat → (Nat → Int) → Int
 | 0, _ => 0
 | n + 1, g => sumZ n g + g n
theorem sumZ_congr : ∀ {n : Nat} {f g : Nat → Int}, (∀ u, u < n → f u = g u) → sumZ n f = sumZ n g
 | 0, _, _, _ => rfl
 | n + 1, f, g, h => by
  show sumZ n f + f n = sumZ n g + g n
  rw [sumZ_congr (n := n) (fun u hu => h u (by omega)), h n (by omega)]
theorem sumZ_add (f g : Nat → Int) : ∀ n, sumZ n (fun u => f u + g u) = sumZ n f + sumZ n g
 | 0 => rfl
 | n + 1 => by
  show sumZ n (fun u => f u + g u) + (f n + g n) = (sumZ n f + f n) + (sumZ n g + g n)
  rw [sumZ_add f g n]
  omega
theorem sumZ_one (a : Nat) (c : Int) : ∀ n, sumZ n (fun u => if u = a then c else 0) = if a < n then c else 0
 | 0 => rfl
 | n + 1 => by
  show sumZ n (fun u => if u = a then c else 0) + (if n = a then c else 0) = _
  rw [sumZ_one a c n]
  by_cases h : n = a
  ·rw [if_pos h, if_neg (by omega), if_pos (by omega)]
   omega
  ·rw [if_neg h]
   by_cases h2 : a < n
   ·rw [if_pos h2, if_pos (by omega)]
    omega
   ·rw [if_neg h2, if_neg (by omega)]
    omega
theorem sumZ_le : ∀ {n : Nat} {f g : Nat → Int}, (∀ u, u < n → f u ≤ g u) → sumZ n f ≤ sumZ n g
 | 0, _, _, _ => Int.le_refl _
 | n + 1, f, g, h => by
  show sumZ n f + f n ≤ sumZ n g + g n
  have h1 := sumZ_le (n := n) (f := f) (g := g) (fun u hu => h u (by omega))
  have h2 := h n (by omega)
  omega
theorem sumZ_at2 {n a b : Nat} (ha : a < n) (hb : b < n) {f g : Nat → Int} (c d : Int) (h : ∀ u, u < n → g u = f u + ((if u = a then c else 0) + (if u = b then d else 0))) : sumZ n g = sumZ n f + c + d := by
 rw [sumZ_congr h, sumZ_add, sumZ_add, sumZ_one, sumZ_one, if_pos ha, if_pos hb]
 omega
theorem sumZ_at3 {n a b x : Nat} (ha : a < n) (hb : b < n) (hx : x < n) {f g : Nat → Int} (c d e : Int) (h : ∀ u, u < n → g u = f u + ((if u = a then c else 0) + ((if u = b then d else 0) + (if u = x then e else 0)))) : sumZ n g = sumZ n f + c + d + e := by
 rw [sumZ_congr h, sumZ_add, sumZ_add, sumZ_add, sumZ_one, sumZ_one, sumZ_one, if_pos ha, if_pos hb, if_pos hx]
 omega
structure Sy (N : Nat) (r : List (List Int)) : Prop where
 len : r.length = N
 nod : ∀ u, u < N → (r.getD u []).Nodup
 both : ∀ u, u < N → ∀ y ∈ r.getD u [], ∃ v : Nat, y = (v : Int) ∧ v < N ∧ v ≠ u ∧ (u : Int) ∈ r.getD v []
def DD (N : Nat) (r : List (List Int)) (d : Dt) : Prop := ∃ u v : Nat, d = ((u : Int), (v : Int)) ∧ u < N ∧ v < N ∧ (v : Int) ∈ r.getD u []
def CnW (r : List (List Int)) : Nat → List Nat → Nat → Prop
 | u, [], w => u = w
 | u, v :: l, w => (v : Int) ∈ r.getD u [] ∧ CnW r v l w
def CnR (r : List (List Int)) (u w : Nat) : Prop := ∃ l, CnW r u l w
theorem CnR.refl {r : List (List Int)} (u : Nat) : CnR r u u := ⟨[], rfl⟩
theorem CnR.step {r : List (List Int)} {u v w : Nat} (h : (v : Int) ∈ r.getD u []) (h' : CnR r v w) : CnR r u w := by
 obtain ⟨l, hl⟩ := h'
 exact ⟨v :: l, h, hl⟩
theorem CnR.ind {r : List (List Int)} {motive : (a c : Nat) → CnR r a c → Prop} (refl : ∀ v, motive v v (CnR.refl v)) (step : ∀ {a b c : Nat} (h1 : (b : Int) ∈ r.getD a []) (h2 : CnR r b c), motive b c h2 → motive a c (CnR.step h1 h2)) : ∀ {a c : Nat} (h : CnR r a c), motive a c h := by
 have key : ∀ (l : List Nat) (a c : Nat) (hl : CnW r a l c), motive a c ⟨l, hl⟩ := by
  intro l
  induction l with
  | nil =>
   intro a c hl
   have e : a = c := hl
   subst e
   exact refl a
  | cons b l ih =>
   intro a c hl
   exact step hl.1 ⟨l, hl.2⟩ (ih b c hl.2)
 intro a c h
 obtain ⟨l, hl⟩ := h
 exact key l a c hl
theorem CnR.inv {r : List (List Int)} {u w : Nat} (h : CnR r u w) : u = w ∨ ∃ v : Nat, (v : Int) ∈ r.getD u [] := by
 obtain ⟨l, hl⟩ := h
 match l, hl with
 | [], hl => exact .inl hl
 | v :: l, hl => exact .inr ⟨v, hl.1⟩
theorem CnR.trans {r : List (List Int)} {u v w : Nat} (h1 : CnR r u v) (h2 : CnR r v w) : CnR r u w := by
 induction h1 using CnR.ind with
 | refl => exact h2
 | step h _ ih => exact .step h (ih h2)
theorem CnR.one {r : List (List Int)} {u v : Nat} (h : (v : Int) ∈ r.getD u []) : CnR r u v := .step h (.refl _)
theorem getD_nil_of {r : List (List Int)} {u : Nat} (h : r.length ≤ u) : r.getD u [] = [] := by
 rw [List.getD_eq_getElem?_getD, List.getElem?_eq_none h]
 rfl
theorem Sy.lt {N : Nat} {r : List (List Int)} (hS : Sy N r) {u v : Nat} (h : (v : Int) ∈ r.getD u []) : u < N ∧ v < N ∧ v ≠ u ∧ (u : Int) ∈ r.getD v [] := by
 have hu : u < N := by
  by_cases hu : u < N
  ·exact hu
  ·rw [getD_nil_of (by rw [hS.len]; omega)] at h
   simp at h
 obtain ⟨w, e, h1, h2, h3⟩ := hS.both u hu _ h
 have : v = w := by omega
 subst this
 exact ⟨hu, h1, h2, h3⟩
theorem CnR.symm {N : Nat} {r : List (List Int)} (hS : Sy N r) {u v : Nat} (h : CnR r u v) : CnR r v u := by
 induction h using CnR.ind with
 | refl => exact .refl _
 | step h _ ih => exact ih.trans (.one (hS.lt h).2.2.2)
def hL (L : List Int) : Int := 2 + (if L = [] then 2 else 0) - (L.length : Int)
def sumH (N : Nat) (r : List (List Int)) : Int := sumZ N fun u => hL (r.getD u [])
def PlR (N : Nat) (r : List (List Int)) : Prop := Sy N r ∧ ∃ (C : List (List Dt)) (R : List Nat), Dec (nxD r) (DD N r) C ∧ (∀ v, v < N → ∃ q ∈ R, CnR r v q) ∧ 4 * (R.length : Int) ≤ sumH N r + 2 * (C.length : Int)
section
variable {N : Nat} {r : List (List Int)} {a b : Nat}
theorem less_mem (hS : Sy N r) {u : Nat} (hu : u < N) (y : Int) : y ∈ (lessR N r a b).getD u [] ↔ y ∈ r.getD u [] ∧ ¬ (u = a ∧ y = (b : Int)) ∧ ¬ (u = b ∧ y = (a : Int)) := by
 rw [lessR_at hu]
 by_cases h1 : u = a
 ·subst h1
  rw [if_pos rfl, (hS.nod u hu).mem_erase_iff]
  constructor
  ·rintro ⟨h2, h3⟩
   refine ⟨h3, fun h => h2 h.2, fun h => ?_⟩
   obtain ⟨h4, h5⟩ := h
   subst h5
   subst h4
   exact h2 rfl
  ·rintro ⟨h2, h3, _⟩
   exact ⟨fun e => h3 ⟨rfl, e⟩, h2⟩
 ·rw [if_neg h1]
  by_cases h2 : u = b
  ·subst h2
   rw [if_pos rfl, (hS.nod u hu).mem_erase_iff]
   constructor
   ·rintro ⟨h3, h4⟩
    exact ⟨h4, fun h => h1 h.1, fun h => h3 h.2⟩
   ·rintro ⟨h3, _, h4⟩
    exact ⟨fun e => h4 ⟨rfl, e⟩, h3⟩
  ·rw [if_neg h2]
   exact ⟨fun h => ⟨h, fun h => h1 h.1, fun h => h2 h.1⟩, fun h => h.1⟩
theorem less_mem' (hS : Sy N r) {u : Nat} (y : Int) : y ∈ (lessR N r a b).getD u [] ↔ y ∈ r.getD u [] ∧ ¬ (u = a ∧ y = (b : Int)) ∧ ¬ (u = b ∧ y = (a : Int)) := by
 by_cases hu : u < N
 ·exact less_mem hS hu y
 ·rw [getD_nil_of (by simp [lessR]; omega), getD_nil_of (by rw [hS.len]; omega)]
  simp
theorem Sy.less (hS : Sy N r) : Sy N (lessR N r a b) := by
 refine ⟨by simp [lessR], fun u hu => ?_, fun u hu y hy => ?_⟩
 ·rw [lessR_at hu]
  split
  ·exact (hS.nod u hu).erase _
  ·split
   ·exact (hS.nod u hu).erase _
   ·exact hS.nod u hu
 ·obtain ⟨h1, h2, h3⟩ := (less_mem hS hu y).1 hy
  obtain ⟨v, rfl, hv, hne, hm⟩ := hS.both u hu y h1
  refine ⟨v, rfl, hv, hne, (less_mem hS hv _).2 ⟨hm, fun h => h3 ⟨by omega, by omega⟩, fun h => h2 ⟨by omega, by omega⟩⟩⟩
theorem sless_nx (hS : Sy N r) (hab : (b : Int) ∈ r.getD a []) {x : Dt} (hx : DD N r x) (h1 : x ≠ ((a : Int), (b : Int))) (h2 : x ≠ ((b : Int), (a : Int))) :
  nxD (lessR N r a b) x = tgtD (nxD r) ((a : Int), (b : Int)) ((b : Int), (a : Int)) (nxD r x) := by
 obtain ⟨haN, hbN, hne, hba⟩ := hS.lt hab
 obtain ⟨u, v, rfl, hu, hv, huv⟩ := hx
 have hvu := (hS.lt huv).2.2.2
 have hnd := hS.nod v hv
 unfold tgtD nxD
 simp only [Int.toNat_natCast]
 rw [lessR_at hv]
 by_cases hva : v = a
 ·subst hva
  have hub : (u : Int) ≠ (b : Int) := fun e => h2 (by rw [e])
  rw [if_pos rfl, aft_erase hnd hvu hab hub]
  rw [if_neg (show ¬ ((((v : Int), aft (r.getD v []) ((r.getD v []).idxOf (u : Int))) : Dt) = ((b : Int), (v : Int))) from fun e => by have := congrArg Prod.fst e; simp only at this; omega)]
  by_cases hc : aft (r.getD v []) ((r.getD v []).idxOf (u : Int)) = (b : Int)
  ·rw [if_pos hc, if_pos (by rw [hc])]
  ·rw [if_neg hc, if_neg (by intro e; exact hc (congrArg Prod.snd e))]
 ·rw [if_neg hva]
  by_cases hvb : v = b
  ·subst hvb
   have hua : (u : Int) ≠ (a : Int) := fun e => h1 (by rw [e])
   rw [if_pos rfl, aft_erase hnd hvu hba hua]
   by_cases hc : aft (r.getD v []) ((r.getD v []).idxOf (u : Int)) = (a : Int)
   ·rw [if_pos hc, if_pos (by rw [hc])]
   ·rw [if_neg hc, if_neg (by intro e; exact hc (congrArg Prod.snd e)), if_neg (by intro e; have := congrArg Prod.fst e; simp only at this; omega)]
  ·rw [if_neg hvb, if_neg (by intro e; have := congrArg Prod.fst e; simp only at this; omega), if_neg (by intro e; have := congrArg Prod.fst e; simp only at this; omega)]
theorem way_cn {r' : List (List Int)} {y : Dt} : ∀ {A : List Dt} {x : Dt}, (∀ z ∈ A, DD N r' z) → Way (nxD r) y x A → CnR r' x.1.toNat y.1.toNat
 | [], x, _, h => by
  have e : x = y := h
  rw [e]
  exact .refl _
 | z :: A, x, hA, h => by
  obtain ⟨rfl, h2⟩ := h
  obtain ⟨u, v, rfl, hu, hv, h3⟩ := hA x (by simp)
  have ih := way_cn (fun z hz => hA z (by simp [hz])) h2
  simp only [nxD, Int.toNat_natCast] at ih ⊢
  exact .step h3 ih
theorem adj_lessR (hS : Sy N r) {x z : Nat} (h : (z : Int) ∈ r.getD x []) : (z : Int) ∈ (lessR N r a b).getD x [] ∨ (x = a ∧ z = b) ∨ (x = b ∧ z = a) := by
 by_cases h1 : x = a ∧ z = b
 ·exact .inr (.inl h1)
 ·by_cases h2 : x = b ∧ z = a
  ·exact .inr (.inr h2)
  ·exact .inl ((less_mem' hS _).2 ⟨h, fun h => h1 ⟨h.1, by omega⟩, fun h => h2 ⟨h.1, by omega⟩⟩)
theorem cn_less (hS : Sy N r) {x y : Nat} (h : CnR r x y) : CnR (lessR N r a b) x y ∨ CnR (lessR N r a b) x a ∨ CnR (lessR N r a b) x b := by
 induction h using CnR.ind with
 | refl => exact .inl (.refl _)
 | step h1 _ ih =>
  rcases adj_lessR (a := a) (b := b) hS h1 with h2 | ⟨h2, _⟩ | ⟨h2, _⟩
  ·rcases ih with h3 | h3 | h3
   ·exact .inl (.step h2 h3)
   ·exact .inr (.inl (.step h2 h3))
   ·exact .inr (.inr (.step h2 h3))
  ·subst h2; exact .inr (.inl (.refl _))
  ·subst h2; exact .inr (.inr (.refl _))
theorem cn_keep (hS : Sy N r) (hc : CnR (lessR N r a b) a b) {x y : Nat} (h : CnR r x y) : CnR (lessR N r a b) x y := by
 induction h using CnR.ind with
 | refl => exact .refl _
 | step h1 _ ih =>
  rcases adj_lessR (a := a) (b := b) hS h1 with h2 | ⟨h2, h3⟩ | ⟨h2, h3⟩
  ·exact .step h2 ih
  ·subst h2; subst h3; exact hc.trans ih
  ·subst h2; subst h3; exact (hc.symm hS.less).trans ih
theorem PlR.less (h : PlR N r) (hab : (b : Int) ∈ r.getD a []) : PlR N (lessR N r a b) := by
 obtain ⟨hS, C, R, hD, hc, hle⟩ := h
 obtain ⟨haN, hbN, hne, hba⟩ := hS.lt hab
 have hd : DD N r ((a : Int), (b : Int)) := ⟨a, b, rfl, haN, hbN, hab⟩
 have hd' : DD N r ((b : Int), (a : Int)) := ⟨b, a, rfl, hbN, haN, hba⟩
 have hdd : (((a : Int), (b : Int)) : Dt) ≠ ((b : Int), (a : Int)) := fun e => by have := congrArg Prod.fst e; simp only at this; omega
 have nl : nxD r ((a : Int), (b : Int)) ≠ ((a : Int), (b : Int)) := fun e => by have := congrArg Prod.fst e; unfold nxD at this; simp only at this; omega
 have nl' : nxD r ((b : Int), (a : Int)) ≠ ((b : Int), (a : Int)) := fun e => by have := congrArg Prod.fst e; unfold nxD at this; simp only at this; omega
 have hPK : ∀ x, DD N (lessR N r a b) x ↔ DD N r x ∧ x ≠ ((a : Int), (b : Int)) ∧ x ≠ ((b : Int), (a : Int)) := fun x => by
  constructor
  ·rintro ⟨u, v, rfl, hu, hv, hm⟩
   obtain ⟨h1, h2, h3⟩ := (less_mem hS hu _).1 hm
   refine ⟨⟨u, v, rfl, hu, hv, h1⟩, fun e => ?_, fun e => ?_⟩
   ·have e1 := congrArg Prod.fst e
    have e2 := congrArg Prod.snd e
    simp only at e1 e2
    exact h2 ⟨by omega, by omega⟩
   ·have e1 := congrArg Prod.fst e
    have e2 := congrArg Prod.snd e
    simp only at e1 e2
    exact h3 ⟨by omega, by omega⟩
  ·rintro ⟨⟨u, v, rfl, hu, hv, h1⟩, h2, h3⟩
   exact ⟨u, v, rfl, hu, hv, (less_mem hS hu _).2 ⟨h1, fun h => h2 (by rw [h.1, h.2]), fun h => h3 (by rw [h.1, h.2])⟩⟩
 have key : ∀ (v y : Nat), v < N → (y : Int) ∈ r.getD v [] → (nxD r ((y : Int), (v : Int)) = ((v : Int), (y : Int)) ↔ (r.getD v []).erase (y : Int) = []) := fun v y hv hm => by
  have hnd := hS.nod v hv
  unfold nxD
  simp only [Int.toNat_natCast, Prod.mk.injEq, true_and]
  rw [aft_self hnd hm]
  constructor
  ·intro e
   rw [e]
   simp
  ·intro e
   have h1 := List.length_erase_of_mem hm
   rw [e, List.length_nil] at h1
   have h2 := List.length_pos_of_mem hm
   obtain ⟨z, hz⟩ := List.length_eq_one_iff.1 (show (r.getD v []).length = 1 by omega)
   rw [hz] at hm ⊢
   rw [List.mem_singleton.1 hm]
 have hLer : ∀ (v y : Nat), v < N → (y : Int) ∈ r.getD v [] → hL ((r.getD v []).erase (y : Int)) = hL (r.getD v []) + (1 + (if nxD r ((y : Int), (v : Int)) = ((v : Int), (y : Int)) then 2 else 0)) := fun v y hv hm => by
  have h1 := List.length_erase_of_mem hm
  have h2 := List.length_pos_of_mem hm
  have hnn : r.getD v [] ≠ [] := fun e => by rw [e] at hm; simp at hm
  have hk := key v y hv hm
  unfold hL
  rw [if_neg hnn, h1]
  by_cases h3 : (r.getD v []).erase (y : Int) = []
  ·rw [if_pos h3, if_pos (hk.2 h3)]
   omega
  ·rw [if_neg h3, if_neg (fun h => h3 (hk.1 h))]
   omega
 have hsum : sumH N (lessR N r a b) = sumH N r + (1 + (if nxD r ((b : Int), (a : Int)) = ((a : Int), (b : Int)) then 2 else 0)) + (1 + (if nxD r ((a : Int), (b : Int)) = ((b : Int), (a : Int)) then 2 else 0)) := by
  refine sumZ_at2 haN hbN _ _ fun u hu => ?_
  rw [lessR_at hu]
  by_cases h1 : u = a
  ·subst h1
   rw [if_pos rfl, if_pos rfl, if_neg (show ¬ u = b from fun e => hne e.symm), hLer u b hu hab]
   omega
  ·rw [if_neg h1, if_neg h1]
   by_cases h2 : u = b
   ·subst h2
    rw [if_pos rfl, if_pos rfl, hLer u a hu hba]
    omega
   ·rw [if_neg h2, if_neg h2]
    omega
 obtain ⟨C', hC', hcase⟩ := hD.del hd hd' hdd nl nl' (nx' := nxD (lessR N r a b)) (fun x ⟨h1, h2, h3⟩ => sless_nx hS hab h1 h2 h3)
 have hC2 : Dec (nxD (lessR N r a b)) (DD N (lessR N r a b)) C' := ⟨hC'.rnd, hC'.nodup, fun x => (hC'.mem x).trans (hPK x).symm⟩
 rcases hcase with ⟨h1, h2, h3, ⟨A, hw, hA⟩, _⟩ | ⟨h1, _⟩
 ·have hcab : CnR (lessR N r a b) a b := by
   have := way_cn (fun z hz => (hPK z).2 (hA z hz)) hw
   simp only [nxD, Int.toNat_natCast] at this
   exact this.symm hS.less
  refine ⟨hS.less, C', R, hC2, fun v hv => ?_, ?_⟩
  ·obtain ⟨q, hq, h4⟩ := hc v hv
   exact ⟨q, hq, cn_keep hS hcab h4⟩
  ·rw [hsum, if_neg h3, if_neg h2]
   omega
 ·obtain ⟨q0, hq0, hc0⟩ := hc a haN
  have key2 : ∃ x, ∀ v, v < N → ∃ q ∈ x :: R, CnR (lessR N r a b) v q := by
   have h3 : CnR (lessR N r a b) q0 a ∨ CnR (lessR N r a b) q0 b := by
    rcases cn_less (a := a) (b := b) hS (hc0.symm hS) with h | h | h
    ·exact .inl h
    ·exact .inl h
    ·exact .inr h
   rcases h3 with h3 | h3
   ·refine ⟨b, fun v hv => ?_⟩
    obtain ⟨q, hq, h4⟩ := hc v hv
    rcases cn_less (a := a) (b := b) hS h4 with h | h | h
    ·exact ⟨q, by simp [hq], h⟩
    ·exact ⟨q0, by simp [hq0], h.trans (h3.symm hS.less)⟩
    ·exact ⟨b, by simp, h⟩
   ·refine ⟨a, fun v hv => ?_⟩
    obtain ⟨q, hq, h4⟩ := hc v hv
    rcases cn_less (a := a) (b := b) hS h4 with h | h | h
    ·exact ⟨q, by simp [hq], h⟩
    ·exact ⟨a, by simp, h⟩
    ·exact ⟨q0, by simp [hq0], h.trans (h3.symm hS.less)⟩
  obtain ⟨x, hx⟩ := key2
  refine ⟨hS.less, C', x :: R, hC2, hx, ?_⟩
  rw [hsum, List.length_cons]
  by_cases g1 : nxD r ((a : Int), (b : Int)) = ((b : Int), (a : Int)) <;> by_cases g2 : nxD r ((b : Int), (a : Int)) = ((a : Int), (b : Int)) <;> simp only [g1, g2, if_true, if_false] at h1 ⊢ <;> omega
end
end Go.Proofs.YtjpkojmjiaoifaaGreat

namespace Go.Proofs.YtjpkojmjiaoifaaGreat
open Go Go.Proofs
def cut1 (nx : Dt → Dt) (d x : Dt) : Dt := tgtD nx d d (nx x)
theorem cut1_eq (nx : Dt → Dt) (d x : Dt) : cut1 nx d x = if nx x = d then nx d else nx x := by
 unfold cut1 tgtD
 by_cases h : nx x = d
 ·simp only [if_pos h]
 ·simp only [if_neg h]
theorem Dec.out {nx : Dt → Dt} {P : Dt → Prop} {C : List (List Dt)} (h : Dec nx P C) {d : Dt} (hd : P d) : ∃ C', Dec (cut1 nx d) (fun x => P x ∧ x ≠ d) C' ∧ C'.length + (if nx d = d then 1 else 0) = C.length := by
 obtain ⟨f, A, C1, hfC, hpf, hw, hD, hlen, hsub⟩ := h.turn hd
 have hnd := hD.nodup
 rw [List.flatten_cons] at hnd
 have hndA : (d :: A).Nodup := (List.nodup_append.1 hnd).1
 have hdA : d ∉ A := (List.nodup_cons.1 hndA).1
 have hap : ∀ x ∈ d :: A, x ∉ C1.flatten := fun x h1 h2 => (List.nodup_append.1 hnd).2.2 x h1 x h2 rfl
 have hn1 : C1.flatten.Nodup := (List.nodup_append.1 hnd).2.1
 have hQA : ∀ x ∈ A, P x ∧ x ≠ d := fun x hx => ⟨(hD.mem x).1 (by rw [List.flatten_cons]; simp [hx]), fun e => hdA (by rw [← e]; exact hx)⟩
 have hQ1 : ∀ x ∈ C1.flatten, P x ∧ x ≠ d := fun x hx => ⟨(hD.mem x).1 (by rw [List.flatten_cons]; exact List.mem_append_right _ hx), fun e => hap d (by simp) (by rw [← e]; exact hx)⟩
 have hall : ∀ x, P x → x ≠ d → x ∈ A ∨ x ∈ C1.flatten := fun x hx hne => by
  have := (hD.mem x).2 hx
  rw [List.flatten_cons] at this
  rcases List.mem_append.1 this with h1 | h1
  ·rcases List.mem_cons.1 h1 with h2 | h2
   ·exact absurd h2 hne
   ·exact .inl h2
  ·exact .inr h1
 have hPP : ∀ x, (P x ∧ x ≠ d) → x ≠ d ∧ x ≠ d := fun x h => ⟨h.2, h.2⟩
 have hrC : ∀ g ∈ C1, Rnd (cut1 nx d) g := fun g hg => rnd_del (fun x _ => rfl) hPP (hD.rnd g (by simp [hg])) (fun a ha => hQ1 a (List.mem_flatten.2 ⟨g, hg, ha⟩))
 have hwt : Way nx d (nx d) A := hw.2
 by_cases hA : A = []
 ·subst hA
  have e : nx d = d := hwt
  refine ⟨C1, ⟨hrC, hn1, fun x => ⟨fun hx => hQ1 x hx, fun hx => ?_⟩⟩, by rw [if_pos e]; exact hlen⟩
  rcases hall x hx.1 hx.2 with h1 | h1
  ·simp at h1
  ·exact h1
 ·have e : nx d ≠ d := fun e => by
   match A, hA, hwt, hdA with
   | a :: A, _, hwt, hdA => exact hdA (by rw [← e, hwt.1]; simp)
  have hw2 := way_del (nx' := cut1 nx d) (fun x _ => rfl) hPP hA hQA hwt
  have et : tgtD nx d d d = nx d := by unfold tgtD; rw [if_pos rfl]
  rw [et] at hw2
  refine ⟨A :: C1, ⟨fun g hg => ?_, ?_, fun x => ?_⟩, by rw [if_neg e, List.length_cons]; exact hlen⟩
  ·rcases List.mem_cons.1 hg with rfl | hg
   ·exact ⟨hA, _, hw2⟩
   ·exact hrC g hg
  ·rw [List.flatten_cons]
   exact List.nodup_append.2 ⟨(List.nodup_cons.1 hndA).2, hn1, fun x hx z hz e => hap x (by simp [hx]) (by rw [e]; exact hz)⟩
  ·rw [List.flatten_cons, List.mem_append]
   constructor
   ·rintro (h1 | h1)
    ·exact hQA x h1
    ·exact hQ1 x h1
   ·intro hx
    exact hall x hx.1 hx.2
theorem way_map {nx nx' : Dt → Dt} {P : Dt → Prop} {g : Dt → Dt} (hg : ∀ d, P d → nx' (g d) = g (nx d)) {y : Dt} : ∀ {A : List Dt} {x : Dt}, (∀ a ∈ A, P a) → Way nx y x A → Way nx' (g y) (g x) (A.map g)
 | [], x, _, h => by
  have e : x = y := h
  rw [e]
  exact rfl
 | a :: A, x, hA, h => by
  obtain ⟨rfl, h2⟩ := h
  have ih := way_map hg (fun c hc => hA c (List.mem_cons_of_mem _ hc)) h2
  refine ⟨rfl, ?_⟩
  show Way nx' (g y) (nx' (g x)) _
  rw [hg x (hA x (by simp))]
  exact ih
theorem Dec.map {nx nx' : Dt → Dt} {P P' : Dt → Prop} {g : Dt → Dt} (inj : ∀ d e, P d → P e → g d = g e → d = e) (hg : ∀ d, P d → nx' (g d) = g (nx d)) (hP : ∀ z, P' z ↔ ∃ d, P d ∧ g d = z) {C : List (List Dt)} (h : Dec nx P C) : Dec nx' P' (C.map (List.map g)) := by
 have ef : (C.map (List.map g)).flatten = C.flatten.map g := by rw [List.map_flatten]
 refine ⟨fun f hf => ?_, ?_, fun z => ?_⟩
 ·obtain ⟨f0, hf0, rfl⟩ := List.mem_map.1 hf
  obtain ⟨hne, d, hw⟩ := h.rnd f0 hf0
  exact ⟨by simpa using hne, g d, way_map hg (fun a ha => (h.mem a).1 (List.mem_flatten.2 ⟨f0, hf0, ha⟩)) hw⟩
 ·rw [ef]
  refine List.pairwise_map.2 ?_
  have hn : C.flatten.Pairwise (· ≠ ·) := h.nodup
  exact (List.Pairwise.and_mem.1 hn).imp fun {a b} hab e => hab.2.2 (inj a b ((h.mem a).1 hab.1) ((h.mem b).1 hab.2.1) e)
 ·rw [ef, List.mem_map, hP]
  constructor
  ·rintro ⟨d, hd, e⟩
   exact ⟨d, (h.mem d).1 hd, e⟩
  ·rintro ⟨d, hd, e⟩
   exact ⟨d, (h.mem d).2 hd, e⟩
def nxt (L : List Int) (a : Int) : Int := aft L (L.idxOf a)
theorem nxt_at {P Q : List Int} {a : Int} (h : a ∉ P) : nxt (P ++ a :: Q) a = (Q ++ (P ++ [a])).getD 0 0 := aft_split h
theorem nxt_turn {P Q : List Int} {v a : Int} (hn : (P ++ v :: Q).Nodup) (ha : a ∈ P ++ v :: Q) : nxt (P ++ v :: Q) a = nxt (v :: (Q ++ P)) a := by
 have hvP : v ∉ P := fun h => (List.nodup_append.1 hn).2.2 v h v (by simp) rfl
 have hnQ := List.nodup_cons.1 (List.nodup_append.1 hn).2.1
 have hPQ : ∀ z ∈ P, z ∉ Q := fun z h1 h2 => (List.nodup_append.1 hn).2.2 z h1 z (by simp [h2]) rfl
 rcases List.mem_append.1 ha with h | h
 ·obtain ⟨P1, P2, rfl⟩ := List.append_of_mem h
  have h1 : a ∉ P1 := fun hm => (List.nodup_append.1 (List.nodup_append.1 hn).1).2.2 a hm a (by simp) rfl
  have hav : a ≠ v := fun e => hvP (by rw [← e]; simp)
  have haQ : a ∉ Q := hPQ a (by simp)
  have e1 : (P1 ++ a :: P2) ++ v :: Q = P1 ++ a :: (P2 ++ v :: Q) := by simp
  have e2 : v :: (Q ++ (P1 ++ a :: P2)) = (v :: (Q ++ P1)) ++ a :: P2 := by simp
  rw [e1, e2, nxt_at h1, nxt_at (by simp; exact ⟨hav, haQ, h1⟩)]
  cases P2 <;> simp
 ·rcases List.mem_cons.1 h with h | h
  ·subst h
   have e2 : a :: (Q ++ P) = [] ++ a :: (Q ++ P) := rfl
   rw [e2, nxt_at hvP, nxt_at (by simp)]
   cases Q <;> cases P <;> simp
  ·obtain ⟨Q1, Q2, rfl⟩ := List.append_of_mem h
   have h1 : a ∉ Q1 := fun hm => (List.nodup_append.1 hnQ.2).2.2 a hm a (by simp) rfl
   have hav : a ≠ v := fun e => hnQ.1 (by rw [← e]; simp)
   have haP : a ∉ P := fun hm => hPQ a hm (by simp)
   have e1 : P ++ v :: (Q1 ++ a :: Q2) = (P ++ v :: Q1) ++ a :: Q2 := by simp
   have e2 : v :: (Q1 ++ a :: Q2 ++ P) = (v :: Q1) ++ a :: (Q2 ++ P) := by simp
   rw [e1, e2, nxt_at (by simp; exact ⟨haP, hav, h1⟩), nxt_at (by simp; exact ⟨hav, h1⟩)]
   cases Q2 <;> cases P <;> simp
theorem nxt_map {L : List Int} {f : Int → Int} (hf : ∀ x ∈ L, ∀ y ∈ L, f x = f y → x = y) {a : Int} (ha : a ∈ L) (hn : L.Nodup) : nxt (L.map f) (f a) = f (nxt L a) := by
 obtain ⟨P, Q, rfl⟩ := List.append_of_mem ha
 have h1 : a ∉ P := fun hm => (List.nodup_append.1 hn).2.2 a hm a (by simp) rfl
 have h2 : f a ∉ P.map f := fun hm => by
  obtain ⟨b, hb, e⟩ := List.mem_map.1 hm
  exact h1 (by rw [← hf b (by simp [hb]) a (by simp) e]; exact hb)
 rw [List.map_append, List.map_cons, nxt_at h2, nxt_at h1]
 cases Q with
 | nil => cases P <;> simp
 | cons q Q => simp
structure Con (N : Nat) (r : List (List Int)) (v x y : Nat) (X Y : List Int) : Prop where
 sy : Sy N r
 xy : x ≠ y
 two : (r.getD v []).Perm [(x : Int), (y : Int)]
 atx : ∃ P Q, r.getD x [] = P ++ (v : Int) :: Q ∧ X = Q ++ P
 aty : ∃ P Q, r.getD y [] = P ++ (v : Int) :: Q ∧ Y = Q ++ P
 no : (y : Int) ∉ r.getD x []
 com : ∀ u : Nat, (u : Int) ∈ r.getD x [] → (u : Int) ∈ r.getD y [] → u = v
def rn (x y : Nat) (z : Int) : Int := if z = (x : Int) then (y : Int) else z
def ren (x y : Nat) (d : Dt) : Dt := (rn x y d.1, rn x y d.2)
theorem rn_other {x y : Nat} {z : Int} (h : z ≠ (x : Int)) : rn x y z = z := if_neg h
theorem rn_same {x y : Nat} : rn x y (x : Int) = (y : Int) := if_pos rfl
def conR (N : Nat) (r : List (List Int)) (v x y : Nat) (X Y : List Int) : List (List Int) := (List.range N).map fun u => if u = v ∨ u = x then [] else if u = y then X ++ Y else (r.getD u []).map (rn x y)
section
variable {N : Nat} {r : List (List Int)} {v x y : Nat} {X Y : List Int}
theorem conR_at {u : Nat} (hu : u < N) : (conR N r v x y X Y).getD u [] = if u = v ∨ u = x then [] else if u = y then X ++ Y else (r.getD u []).map (rn x y) := by
 unfold conR
 rw [List.getD_eq_getElem?_getD, List.getElem?_map, List.getElem?_range hu]
 rfl
theorem Con.vx (h : Con N r v x y X Y) : (x : Int) ∈ r.getD v [] := h.two.mem_iff.2 (by simp)
theorem Con.vy (h : Con N r v x y X Y) : (y : Int) ∈ r.getD v [] := h.two.mem_iff.2 (by simp)
theorem Con.v_iff (h : Con N r v x y X Y) {u : Nat} : (v : Int) ∈ r.getD u [] ↔ u = x ∨ u = y := by
 constructor
 ·intro hm
  have := h.two.mem_iff.1 (h.sy.lt hm).2.2.2
  simp at this
  omega
 ·rintro (rfl | rfl)
  ·exact (h.sy.lt h.vx).2.2.2
  ·exact (h.sy.lt h.vy).2.2.2
theorem Con.lts (h : Con N r v x y X Y) : v < N ∧ x < N ∧ y < N ∧ x ≠ v ∧ y ≠ v := ⟨(h.sy.lt h.vx).1, (h.sy.lt h.vx).2.1, (h.sy.lt h.vy).2.1, (h.sy.lt h.vx).2.2.1, (h.sy.lt h.vy).2.2.1⟩
theorem around {L P Q : List Int} {v : Int} (hn : L.Nodup) (e : L = P ++ v :: Q) : (v :: (Q ++ P)).Nodup ∧ (∀ z, z ∈ Q ++ P ↔ z ∈ L ∧ z ≠ v) ∧ (Q ++ P).length + 1 = L.length := by
 subst e
 have hp : (P ++ v :: Q).Perm (v :: (Q ++ P)) := List.perm_middle.trans (List.perm_append_comm.cons _)
 have hn2 := hp.nodup_iff.1 hn
 refine ⟨hn2, fun z => ?_, ?_⟩
 ·rw [hp.mem_iff, List.mem_cons]
  constructor
  ·intro hz
   exact ⟨.inr hz, fun e => (List.nodup_cons.1 hn2).1 (by rw [← e]; exact hz)⟩
  ·rintro ⟨h1 | h1, h2⟩
   ·exact absurd h1 h2
   ·exact h1
 ·have := hp.length_eq
  rw [this, List.length_cons]
theorem Con.aroundx (h : Con N r v x y X Y) : ((v : Int) :: X).Nodup ∧ (∀ z, z ∈ X ↔ z ∈ r.getD x [] ∧ z ≠ (v : Int)) ∧ X.length + 1 = (r.getD x []).length ∧ ∀ a ∈ r.getD x [], nxt (r.getD x []) a = nxt ((v : Int) :: X) a := by
 obtain ⟨P, Q, e, rfl⟩ := h.atx
 have hn := h.sy.nod x h.lts.2.1
 obtain ⟨h1, h2, h3⟩ := around hn e
 refine ⟨h1, h2, h3, fun a ha => ?_⟩
 rw [e] at hn ha ⊢
 exact nxt_turn hn ha
theorem Con.aroundy (h : Con N r v x y X Y) : ((v : Int) :: Y).Nodup ∧ (∀ z, z ∈ Y ↔ z ∈ r.getD y [] ∧ z ≠ (v : Int)) ∧ Y.length + 1 = (r.getD y []).length ∧ ∀ a ∈ r.getD y [], nxt (r.getD y []) a = nxt ((v : Int) :: Y) a := by
 obtain ⟨P, Q, e, rfl⟩ := h.aty
 have hn := h.sy.nod y h.lts.2.2.1
 obtain ⟨h1, h2, h3⟩ := around hn e
 refine ⟨h1, h2, h3, fun a ha => ?_⟩
 rw [e] at hn ha ⊢
 exact nxt_turn hn ha
theorem Con.inX (h : Con N r v x y X Y) {z : Int} (hz : z ∈ X) : ∃ u : Nat, z = (u : Int) ∧ u < N ∧ (u : Int) ∈ r.getD x [] ∧ u ≠ v ∧ u ≠ x ∧ u ≠ y ∧ (x : Int) ∈ r.getD u [] := by
 obtain ⟨h1, h2⟩ := (h.aroundx.2.1 z).1 hz
 obtain ⟨u, rfl, h3, h4, h5⟩ := h.sy.both x h.lts.2.1 z h1
 exact ⟨u, rfl, h3, h1, fun e => h2 (by rw [e]), h4, fun e => h.no (by rw [← e]; exact h1), h5⟩
theorem Con.inY (h : Con N r v x y X Y) {z : Int} (hz : z ∈ Y) : ∃ u : Nat, z = (u : Int) ∧ u < N ∧ (u : Int) ∈ r.getD y [] ∧ u ≠ v ∧ u ≠ x ∧ u ≠ y ∧ (y : Int) ∈ r.getD u [] := by
 obtain ⟨h1, h2⟩ := (h.aroundy.2.1 z).1 hz
 obtain ⟨u, rfl, h3, h4, h5⟩ := h.sy.both y h.lts.2.2.1 z h1
 refine ⟨u, rfl, h3, h1, fun e => h2 (by rw [e]), fun e => ?_, h4, h5⟩
 subst e
 exact h.no h5
theorem Con.rn_inj (h : Con N r v x y X Y) {u : Nat} (hu : u ≠ v) : ∀ a ∈ r.getD u [], ∀ b ∈ r.getD u [], rn x y a = rn x y b → a = b := by
 have key : ∀ a ∈ r.getD u [], a = (x : Int) → (y : Int) ∈ r.getD u [] → False := fun a ha e hy => by
  subst e
  exact hu (h.com u (h.sy.lt ha).2.2.2 (h.sy.lt hy).2.2.2)
 intro a ha b hb e
 unfold rn at e
 by_cases h1 : a = (x : Int)
 ·by_cases h2 : b = (x : Int)
  ·rw [h1, h2]
  ·rw [if_pos h1, if_neg h2] at e
   exact (key a ha h1 (by rw [e]; exact hb)).elim
 ·by_cases h2 : b = (x : Int)
  ·rw [if_neg h1, if_pos h2] at e
   exact (key b hb h2 (by rw [← e]; exact ha)).elim
  ·rw [if_neg h1, if_neg h2] at e
   exact e
theorem Con.mem (h : Con N r v x y X Y) {u : Nat} (hu : u < N) (z : Int) : z ∈ (conR N r v x y X Y).getD u [] ↔ u ≠ v ∧ u ≠ x ∧ z ≠ (v : Int) ∧ z ≠ (x : Int) ∧ (z ∈ r.getD u [] ∨ (u = y ∧ z ∈ r.getD x []) ∨ (z = (y : Int) ∧ (x : Int) ∈ r.getD u [])) := by
 obtain ⟨hvN, hxN, hyN, hxv, hyv⟩ := h.lts
 rw [conR_at hu]
 by_cases h1 : u = v ∨ u = x
 ·rw [if_pos h1]
  constructor
  ·intro hz; simp at hz
  ·rintro ⟨h2, h3, _⟩
   rcases h1 with h1 | h1
   ·exact absurd h1 h2
   ·exact absurd h1 h3
 ·rw [if_neg h1]
  have huv : u ≠ v := fun e => h1 (.inl e)
  have hux : u ≠ x := fun e => h1 (.inr e)
  by_cases h2 : u = y
  ·subst h2
   rw [if_pos rfl, List.mem_append]
   constructor
   ·rintro (hz | hz)
    ·obtain ⟨w, rfl, h3, h4, h5, h6, h7, h8⟩ := h.inX hz
     exact ⟨huv, hux, by omega, by omega, .inr (.inl ⟨rfl, h4⟩)⟩
    ·obtain ⟨w, rfl, h3, h4, h5, h6, h7, h8⟩ := h.inY hz
     exact ⟨huv, hux, by omega, by omega, .inl h4⟩
   ·rintro ⟨_, _, h3, h4, h5 | ⟨_, h5⟩ | ⟨h5, h6⟩⟩
    ·exact .inr ((h.aroundy.2.1 z).2 ⟨h5, h3⟩)
    ·exact .inl ((h.aroundx.2.1 z).2 ⟨h5, h3⟩)
    ·exact absurd (h.sy.lt h6).2.2.2 h.no
  ·rw [if_neg h2, List.mem_map]
   have hv0 : (v : Int) ∉ r.getD u [] := fun hm => by
    rcases h.v_iff.1 hm with e | e
    ·exact hux e
    ·exact h2 e
   constructor
   ·rintro ⟨a, ha, rfl⟩
    by_cases hax : a = (x : Int)
    ·subst hax
     rw [rn_same]
     exact ⟨huv, hux, by omega, by have := h.xy; omega, .inr (.inr ⟨rfl, ha⟩)⟩
    ·rw [rn_other hax]
     exact ⟨huv, hux, fun e => hv0 (by rw [← e]; exact ha), hax, .inl ha⟩
   ·rintro ⟨_, _, h3, h4, h5 | ⟨h5, _⟩ | ⟨h5, h6⟩⟩
    ·exact ⟨z, h5, rn_other h4⟩
    ·exact absurd h5 h2
    ·exact ⟨_, h6, by rw [rn_same, h5]⟩
theorem Con.dis (h : Con N r v x y X Y) : ∀ z ∈ X, z ∉ Y := fun z h1 h2 => by
 obtain ⟨u, rfl, _, h3, h4, _⟩ := h.inX h1
 exact h4 (h.com u h3 ((h.aroundy.2.1 _).1 h2).1)
theorem Con.sys (h : Con N r v x y X Y) : Sy N (conR N r v x y X Y) := by
 refine ⟨by simp [conR], fun u hu => ?_, fun u hu z hz => ?_⟩
 ·rw [conR_at hu]
  split
  ·exact List.nodup_nil
  ·rename_i h1
   split
   ·exact List.nodup_append.2 ⟨(List.nodup_cons.1 h.aroundx.1).2, (List.nodup_cons.1 h.aroundy.1).2, fun a ha b hb e => h.dis a ha (by rw [e]; exact hb)⟩
   ·have hn : (r.getD u []).Pairwise (· ≠ ·) := h.sy.nod u hu
    have hin := h.rn_inj (u := u) (fun e => h1 (.inl e))
    exact List.pairwise_map.2 ((List.Pairwise.and_mem.1 hn).imp fun {a b} hab e => hab.2.2 (hin a hab.1 b hab.2.1 e))
 ·obtain ⟨h1, h2, h3, h4, h5⟩ := (h.mem hu z).1 hz
  have hxy := h.xy
  obtain ⟨hvN, hxN, hyN, hxv, hyv⟩ := h.lts
  rcases h5 with h5 | ⟨h5, h6⟩ | ⟨h5, h6⟩
  ·obtain ⟨w, rfl, hw, hne, hm⟩ := h.sy.both u hu z h5
   exact ⟨w, rfl, hw, hne, (h.mem hw _).2 ⟨by omega, by omega, by omega, by omega, .inl hm⟩⟩
  ·subst h5
   obtain ⟨w, rfl, hw, hne, hm⟩ := h.sy.both x hxN z h6
   refine ⟨w, rfl, hw, fun e => h.no (by rw [← e]; exact h6), (h.mem hw _).2 ⟨by omega, by omega, by omega, by omega, .inr (.inr ⟨rfl, hm⟩)⟩⟩
  ·subst h5
   have hm := (h.sy.lt h6).2.2.2
   refine ⟨y, rfl, hyN, fun e => h.no (by rw [e]; exact hm), (h.mem hyN _).2 ⟨hyv, fun e => hxy e.symm, by omega, by omega, .inr (.inl ⟨rfl, hm⟩)⟩⟩
end
end Go.Proofs.YtjpkojmjiaoifaaGreat
