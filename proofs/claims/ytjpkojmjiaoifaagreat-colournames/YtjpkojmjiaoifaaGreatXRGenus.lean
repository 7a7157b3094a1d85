import Derived.Test.YtjpkojmjiaoifaaGreatXRDec
import Derived.Test.YtjpkojmjiaoifaaGreatZAO
namespace Go.Proofs.YtjpkojmjiaoifaaGreat
open Go Go.Proofs
theorem aft_split {P Q : List Int} {x : Int} (hx : x ∉ P) : aft (P ++ x :: Q) ((P ++ x :: Q).idxOf x) = (Q ++ (P ++ [x])).getD 0 0 := by
 have e : (P ++ x :: Q).idxOf x = P.length := by
  rw [List.idxOf_append, if_neg hx, List.idxOf_cons_self]
  simp
 rw [e]
 unfold aft
 match Q with
 | [] =>
  rw [if_pos (by simp)]
  match P with
  | [] => simp
  | p :: P => simp
 | q :: Q =>
  rw [if_neg (by simp), List.getD_eq_getElem?_getD, List.getElem?_append_right (by omega)]
  simp
theorem aft_erase {L : List Int} (hn : L.Nodup) {x y : Int} (hx : x ∈ L) (hy : y ∈ L) (hxy : x ≠ y) : aft (L.erase y) ((L.erase y).idxOf x) = if aft L (L.idxOf x) = y then aft L (L.idxOf y) else aft L (L.idxOf x) := by
 obtain ⟨A, B, rfl⟩ := List.append_of_mem hy
 have hnA : y ∉ A := fun h => (List.nodup_append.1 hn).2.2 y h y (by simp) rfl
 have hnB : y ∉ B := (List.nodup_cons.1 (List.nodup_append.1 hn).2.1).1
 have hAB : ∀ z ∈ A, z ∉ B := fun z h1 h2 => (List.nodup_append.1 hn).2.2 z h1 z (by simp [h2]) rfl
 have hnA' := (List.nodup_append.1 hn).1
 have hnB' := (List.nodup_cons.1 (List.nodup_append.1 hn).2.1).2
 have ee : (A ++ y :: B).erase y = A ++ B := by
  rw [List.erase_append_right _ hnA, List.erase_cons_head]
 rw [ee, aft_split (P := A) (Q := B) hnA]
 have hx' : x ∈ A ∨ x ∈ B := by
  rcases List.mem_append.1 hx with h | h
  ·exact .inl h
  ·rcases List.mem_cons.1 h with h | h
   ·exact absurd h hxy
   ·exact .inr h
 rcases hx' with h | h
 ·obtain ⟨P, A2, rfl⟩ := List.append_of_mem h
  have hxP : x ∉ P := fun hm => (List.nodup_append.1 hnA').2.2 x hm x (by simp) rfl
  have e1 : (P ++ x :: A2) ++ y :: B = P ++ x :: (A2 ++ y :: B) := by simp
  have e2 : (P ++ x :: A2) ++ B = P ++ x :: (A2 ++ B) := by simp
  rw [e1, e2, aft_split hxP, aft_split hxP]
  match A2, hnA with
  | [], hnA =>
   rw [if_pos (by simp)]
   match B with
   | [] => cases P <;> simp
   | b :: B => simp
  | c :: A2, hnA =>
   have hc : c ≠ y := fun e => hnA (by rw [e]; simp)
   rw [if_neg (by simpa using hc)]
   simp
 ·obtain ⟨P, B2, rfl⟩ := List.append_of_mem h
  have hxP : x ∉ P := fun hm => (List.nodup_append.1 hnB').2.2 x hm x (by simp) rfl
  have hxA : x ∉ A := fun hm => hAB x hm (by simp)
  have e1 : A ++ y :: (P ++ x :: B2) = (A ++ y :: P) ++ x :: B2 := by simp
  have e2 : A ++ (P ++ x :: B2) = (A ++ P) ++ x :: B2 := by simp
  rw [e1, e2, aft_split (P := A ++ y :: P) (by simp; exact ⟨hxA, hxy, hxP⟩), aft_split (P := A ++ P) (by simp; exact ⟨hxA, hxP⟩)]
  match B2, hnB with
  | c :: B2, hnB =>
   have hc : c ≠ y := fun e => hnB (by rw [e]; simp)
   rw [if_neg (by simpa using hc)]
   simp
  | [], hnB =>
   match A, hnA with
   | c :: A, hnA =>
    have hc : c ≠ y := fun e => hnA (by rw [e]; simp)
    rw [if_neg (by simpa using hc)]
    simp
   | [], hnA =>
    rw [if_pos (by simp)]
    match P with
    | [] => simp
    | p :: P => simp
theorem aft_self {L : List Int} (hn : L.Nodup) {x : Int} (hx : x ∈ L) : aft L (L.idxOf x) = x ↔ L = [x] := by
 obtain ⟨P, Q, rfl⟩ := List.append_of_mem hx
 have hxP : x ∉ P := fun h => (List.nodup_append.1 hn).2.2 x h x (by simp) rfl
 have hxQ : x ∉ Q := (List.nodup_cons.1 (List.nodup_append.1 hn).2.1).1
 rw [aft_split hxP]
 match Q, P, hxQ, hxP with
 | [], [], _, _ => simp
 | [], p :: P, _, hxP =>
  have : p ≠ x := fun e => hxP (by rw [e]; simp)
  simp [this]
 | q :: Q, P, hxQ, _ =>
  have : q ≠ x := fun e => hxQ (by rw [e]; simp)
  constructor
  ·intro e; exact absurd (by simpa using e) this
  ·intro e
   have := congrArg List.length e
   simp at this
   omega
section
variable {N : Nat} {l1 l2 : List Ed} {e : Ed} {r : List (List Int)}
theorem less_right (hR : RightG (N : Int) (l1 ++ e :: l2)) : RightG (N : Int) (l1 ++ l2) := by
 have hs : (l1 ++ l2).Sublist (l1 ++ e :: l2) := List.Sublist.append (List.Sublist.refl _) (List.sublist_cons_self _ _)
 exact ⟨hR.n0, hR.n1, Nat.le_trans hs.length_le hR.m1, fun x hx => hR.each x (hs.subset hx), hR.rise.sublist hs⟩
theorem nb_less (x : Int) : nb (l1 ++ e :: l2) x = nb l1 x ++ (nbOf e x ++ nb l2 x) := by
 unfold nb
 rw [List.flatMap_append, List.flatMap_cons]
theorem nb_less' (x : Int) : nb (l1 ++ l2) x = nb l1 x ++ nb l2 x := by
 unfold nb
 rw [List.flatMap_append]
theorem nb_first (x : Int) (h : e.1 = x) : (nb (l1 ++ e :: l2) x).Perm (e.2.1 :: nb (l1 ++ l2) x) := by
 rw [nb_less, nb_less']
 have : nbOf e x = [e.2.1] := by unfold nbOf; rw [if_pos h]
 rw [this]
 exact List.perm_middle
theorem nb_second (x : Int) (h : e.1 ≠ x) (h2 : e.2.1 = x) : (nb (l1 ++ e :: l2) x).Perm (e.1 :: nb (l1 ++ l2) x) := by
 rw [nb_less, nb_less']
 have : nbOf e x = [e.1] := by unfold nbOf; rw [if_neg h, if_pos h2]
 rw [this]
 exact List.perm_middle
theorem nb_other (x : Int) (h : e.1 ≠ x) (h2 : e.2.1 ≠ x) : nb (l1 ++ e :: l2) x = nb (l1 ++ l2) x := by
 rw [nb_less, nb_less']
 have : nbOf e x = [] := by unfold nbOf; rw [if_neg h, if_neg h2]
 rw [this]
 rfl
def lessR (N : Nat) (r : List (List Int)) (a b : Nat) : List (List Int) := (List.range N).map fun v => if v = a then (r.getD v []).erase (b : Int) else if v = b then (r.getD v []).erase (a : Int) else r.getD v []
theorem lessR_at {a b v : Nat} (hv : v < N) : (lessR N r a b).getD v [] = if v = a then (r.getD v []).erase (b : Int) else if v = b then (r.getD v []).erase (a : Int) else r.getD v [] := by
 unfold lessR
 rw [List.getD_eq_getElem?_getD, List.getElem?_map, List.getElem?_range hv]
 rfl
variable {a b : Nat}
theorem less_sys (hS : SysR N (l1 ++ e :: l2) r) (hab : a ≠ b) (ha : e.1 = (a : Int)) (hb : e.2.1 = (b : Int)) : SysR N (l1 ++ l2) (lessR N r a b) := by
 refine ⟨by simp [lessR], fun v hv => ?_⟩
 rw [lessR_at hv]
 by_cases h1 : v = a
 ·subst h1
  rw [if_pos rfl]
  have h2 := ((hS.perm v hv).trans (nb_first (v : Int) ha)).erase (b : Int)
  rw [hb, List.erase_cons_head] at h2
  exact h2
 ·rw [if_neg h1]
  by_cases h2 : v = b
  ·subst h2
   rw [if_pos rfl]
   have h3 := ((hS.perm v hv).trans (nb_second (v : Int) (by omega) hb)).erase (a : Int)
   rw [ha, List.erase_cons_head] at h3
   exact h3
  ·rw [if_neg h2]
   have h3 := hS.perm v hv
   rw [nb_other (v : Int) (by omega) (by omega)] at h3
   exact h3
theorem less_nx (hR : RightG (N : Int) (l1 ++ e :: l2)) (hS : SysR N (l1 ++ e :: l2) r) (ha : e.1 = (a : Int)) (hb : e.2.1 = (b : Int)) {x : Dt} (hx : x ∈ dartsL N (l1 ++ e :: l2)) (h1 : x ≠ ((a : Int), (b : Int))) (h2 : x ≠ ((b : Int), (a : Int))) :
  nxD (lessR N r a b) x = tgtD (nxD r) ((a : Int), (b : Int)) ((b : Int), (a : Int)) (nxD r x) := by
 have hok := (hR.each e (by simp)).1
 have hab : a ≠ b := by have := hok.2.2.2.2.1; omega
 have haN : a < N := by have := hok.2.1; omega
 have hbN : b < N := by have := hok.2.2.2.1; omega
 obtain ⟨u, v, rfl, hu, hv, huv, hvu⟩ := dart_ends hR hx
 have hnd := hS.nodup hR hv
 have hmem : (u : Int) ∈ r.getD v [] := (hS.perm v hv).mem_iff.2 huv
 unfold tgtD nxD
 simp only [Int.toNat_natCast]
 rw [lessR_at hv]
 by_cases hva : v = a
 ·subst hva
  have hub : (u : Int) ≠ (b : Int) := fun e => h2 (by rw [e])
  have hbm : (b : Int) ∈ r.getD v [] := (hS.perm v hv).mem_iff.2 ((nb_first (v : Int) ha).mem_iff.2 (by rw [hb]; simp))
  rw [if_pos rfl, aft_erase hnd hmem hbm hub]
  rw [if_neg (show ¬ ((((v : Int), aft (r.getD v []) ((r.getD v []).idxOf (u : Int))) : Dt) = ((b : Int), (v : Int))) from fun e => by have := congrArg Prod.fst e; simp only at this; omega)]
  by_cases hc : aft (r.getD v []) ((r.getD v []).idxOf (u : Int)) = (b : Int)
  ·rw [if_pos hc, if_pos (by rw [hc])]
  ·rw [if_neg hc, if_neg (by intro e; exact hc (congrArg Prod.snd e))]
 ·rw [if_neg hva]
  by_cases hvb : v = b
  ·subst hvb
   have hua : (u : Int) ≠ (a : Int) := fun e => h1 (by rw [e])
   have ham : (a : Int) ∈ r.getD v [] := (hS.perm v hv).mem_iff.2 ((nb_second (v : Int) (by omega) hb).mem_iff.2 (by rw [ha]; simp))
   rw [if_pos rfl, aft_erase hnd hmem ham hua]
   by_cases hc : aft (r.getD v []) ((r.getD v []).idxOf (u : Int)) = (a : Int)
   ·rw [if_pos hc, if_pos (by rw [hc])]
   ·rw [if_neg hc, if_neg (by intro e; exact hc (congrArg Prod.snd e)), if_neg (by intro e; have := congrArg Prod.fst e; simp only at this; omega)]
  ·rw [if_neg hvb, if_neg (by intro e; have := congrArg Prod.fst e; simp only at this; omega), if_neg (by intro e; have := congrArg Prod.fst e; simp only at this; omega)]
end
def PK (l : List Ed) (K : List Nat) (d : Dt) : Prop := ∃ u : Nat, u ∈ K ∧ d.1 = (u : Int) ∧ d.2 ∈ nb l (u : Int)
def ShutK (l : List Ed) (K : List Nat) : Prop := ∀ u ∈ K, ∀ v : Nat, (v : Int) ∈ nb l (u : Int) → v ∈ K
def eK (l : List Ed) (K : List Nat) : Nat := l.countP fun e => decide (e.1.toNat ∈ K)
def isoK (l : List Ed) (K : List Nat) : Nat := K.countP fun (v : Nat) => (nb l (v : Int)).isEmpty
theorem adj_nb {N : Nat} {l : List Ed} (hR : RightG (N : Int) l) {u v : Nat} : Adj l u v ↔ (v : Int) ∈ nb l (u : Int) := by
 rw [mem_nb]
 constructor
 ·rintro ⟨e, he, h⟩
  have hok := (hR.each e he).1
  have h0 := hok.1
  have h1 := hok.2.2.1
  have h2 := hok.2.2.2.2.1
  refine ⟨e, he, ?_⟩
  rcases h with ⟨h3, h4⟩ | ⟨h3, h4⟩
  ·exact .inl ⟨by omega, by omega⟩
  ·exact .inr ⟨by omega, by omega, by omega⟩
 ·rintro ⟨e, he, h⟩
  refine ⟨e, he, ?_⟩
  rcases h with ⟨h3, h4⟩ | ⟨_, h3, h4⟩
  ·exact .inl ⟨by omega, by omega⟩
  ·exact .inr ⟨by omega, by omega⟩
theorem countP_two {p q : Nat → Bool} {a b : Nat} (hab : a ≠ b) : ∀ {K : List Nat}, K.Nodup → (∀ v ∈ K, v ≠ a → v ≠ b → q v = p v) → p a = false → p b = false → K.countP q = K.countP p + (if a ∈ K ∧ q a = true then 1 else 0) + (if b ∈ K ∧ q b = true then 1 else 0)
 | [], _, _, _, _ => by simp
 | v :: K, hn, h, ha, hb => by
  rw [List.nodup_cons] at hn
  have ih := countP_two hab hn.2 (fun x hx => h x (by simp [hx])) ha hb
  rw [List.countP_cons, List.countP_cons, ih]
  by_cases h1 : v = a
  ·subst h1
   rw [ha]
   have e1 : ¬ (v ∈ K ∧ q v = true) := fun h => hn.1 h.1
   rw [if_neg e1]
   have e2 : (b ∈ v :: K ∧ q b = true) ↔ (b ∈ K ∧ q b = true) := by
    rw [List.mem_cons]
    constructor
    ·rintro ⟨h1 | h1, h2⟩
     ·exact absurd h1.symm hab
     ·exact ⟨h1, h2⟩
    ·rintro ⟨h1, h2⟩; exact ⟨.inr h1, h2⟩
   by_cases hq : q v = true
   ·rw [if_pos (show v ∈ v :: K ∧ q v = true from ⟨by simp, hq⟩), if_pos hq]
    by_cases h3 : b ∈ K ∧ q b = true
    ·rw [if_pos h3, if_pos (e2.2 h3)]; simp
    ·rw [if_neg h3, if_neg (fun h => h3 (e2.1 h))]; simp
   ·rw [if_neg (fun h : v ∈ v :: K ∧ q v = true => hq h.2), if_neg hq]
    by_cases h3 : b ∈ K ∧ q b = true
    ·rw [if_pos h3, if_pos (e2.2 h3)]; simp
    ·rw [if_neg h3, if_neg (fun h => h3 (e2.1 h))]; simp
  ·by_cases h2 : v = b
   ·subst h2
    rw [hb]
    have e1 : ¬ (v ∈ K ∧ q v = true) := fun h => hn.1 h.1
    rw [if_neg e1]
    have e2 : (a ∈ v :: K ∧ q a = true) ↔ (a ∈ K ∧ q a = true) := by
     rw [List.mem_cons]
     constructor
     ·rintro ⟨h1 | h1, h2⟩
      ·exact absurd h1 hab
      ·exact ⟨h1, h2⟩
     ·rintro ⟨h1, h2⟩; exact ⟨.inr h1, h2⟩
    by_cases hq : q v = true
    ·rw [if_pos (show v ∈ v :: K ∧ q v = true from ⟨by simp, hq⟩), if_pos hq]
     by_cases h3 : a ∈ K ∧ q a = true
     ·rw [if_pos h3, if_pos (e2.2 h3)]; simp
     ·rw [if_neg h3, if_neg (fun h => h3 (e2.1 h))]; simp
    ·rw [if_neg (fun h : v ∈ v :: K ∧ q v = true => hq h.2), if_neg hq]
     by_cases h3 : a ∈ K ∧ q a = true
     ·rw [if_pos h3, if_pos (e2.2 h3)]; simp
     ·rw [if_neg h3, if_neg (fun h => h3 (e2.1 h))]; simp
   ·have ea : (a ∈ v :: K ∧ q a = true) ↔ (a ∈ K ∧ q a = true) := by
     rw [List.mem_cons]
     constructor
     ·rintro ⟨h3 | h3, h4⟩
      ·exact absurd h3.symm h1
      ·exact ⟨h3, h4⟩
     ·rintro ⟨h3, h4⟩; exact ⟨.inr h3, h4⟩
    have eb : (b ∈ v :: K ∧ q b = true) ↔ (b ∈ K ∧ q b = true) := by
     rw [List.mem_cons]
     constructor
     ·rintro ⟨h3 | h3, h4⟩
      ·exact absurd h3.symm h2
      ·exact ⟨h3, h4⟩
     ·rintro ⟨h3, h4⟩; exact ⟨.inr h3, h4⟩
    rw [h v (by simp) h1 h2]
    simp only [ea, eb]
    omega
theorem way_conn {N : Nat} {l : List Ed} (hR : RightG (N : Int) l) {r : List (List Int)} {y : Dt} {K : List Nat} : ∀ {A : List Dt} {x : Dt}, (∀ z ∈ A, PK l K z) → Way (nxD r) y x A → Conn l x.1.toNat y.1.toNat
 | [], x, _, h => by
  have e : x = y := h
  rw [e]
  exact .refl _
 | z :: A, x, hA, h => by
  obtain ⟨rfl, h2⟩ := h
  obtain ⟨u, _, h3, h4⟩ := hA x (by simp)
  have h5 := (nb_mutual hR h4).2.1
  have hadj : Adj l x.1.toNat x.2.toNat := (adj_nb hR).2 (by rw [h3]; simp only [Int.toNat_natCast]; rw [show ((x.2.toNat : Nat) : Int) = x.2 by omega]; exact h4)
  have ih := way_conn hR (fun z hz => hA z (by simp [hz])) h2
  exact .step hadj ih
theorem del_step {N : Nat} {l1 l2 : List Ed} {e : Ed} {r : List (List Int)} {K : List Nat} {C : List (List Dt)} (hR : RightG (N : Int) (l1 ++ e :: l2)) (hS : SysR N (l1 ++ e :: l2) r) (hK : K.Nodup) (hKN : ∀ v ∈ K, v < N) (hsh : ShutK (l1 ++ e :: l2) K) (hD : Dec (nxD r) (PK (l1 ++ e :: l2) K) C) {a b : Nat} (ha : e.1 = (a : Int)) (hb : e.2.1 = (b : Int)) (haK : a ∈ K) :
  RightG (N : Int) (l1 ++ l2) ∧ SysR N (l1 ++ l2) (lessR N r a b) ∧ ShutK (l1 ++ l2) K ∧ eK (l1 ++ l2) K + 1 = eK (l1 ++ e :: l2) K ∧ b ∈ K ∧ ∃ C', Dec (nxD (lessR N r a b)) (PK (l1 ++ l2) K) C' ∧
   ((C'.length + isoK (l1 ++ l2) K + 1 = C.length + isoK (l1 ++ e :: l2) K ∧ Conn (l1 ++ l2) a b ∧ ∃ f ∈ C, ((a : Int), (b : Int)) ∈ f ∧ ((b : Int), (a : Int)) ∉ f) ∨ (C'.length + isoK (l1 ++ l2) K = C.length + isoK (l1 ++ e :: l2) K + 1 ∧ ∃ f ∈ C, ((a : Int), (b : Int)) ∈ f ∧ ((b : Int), (a : Int)) ∈ f)) := by
 have hok := (hR.each e (by simp)).1
 have hab : a ≠ b := by have := hok.2.2.2.2.1; omega
 have haN : a < N := by have := hok.2.1; omega
 have hbN : b < N := by have := hok.2.2.2.1; omega
 have hR' := less_right hR
 have hS' := less_sys hS hab ha hb
 have pa := nb_first (l1 := l1) (l2 := l2) (a : Int) ha
 have pb := nb_second (l1 := l1) (l2 := l2) (e := e) (b : Int) (by omega) hb
 rw [hb] at pa
 rw [ha] at pb
 have nda : (nb (l1 ++ e :: l2) (a : Int)).Nodup := (nb_rise hR (a : Int)).imp fun {a b} (h : a < b) => (show a ≠ b by omega)
 have ndb : (nb (l1 ++ e :: l2) (b : Int)).Nodup := (nb_rise hR (b : Int)).imp fun {a b} (h : a < b) => (show a ≠ b by omega)
 have hbna : (b : Int) ∉ nb (l1 ++ l2) (a : Int) := (List.nodup_cons.1 (pa.nodup_iff.1 nda)).1
 have hanb : (a : Int) ∉ nb (l1 ++ l2) (b : Int) := (List.nodup_cons.1 (pb.nodup_iff.1 ndb)).1
 have hbK : b ∈ K := hsh a haK b (pa.mem_iff.2 (by simp))
 have hmem : ∀ (u : Nat) (y : Int), y ∈ nb (l1 ++ l2) (u : Int) ↔ y ∈ nb (l1 ++ e :: l2) (u : Int) ∧ ¬ (u = a ∧ y = (b : Int)) ∧ ¬ (u = b ∧ y = (a : Int)) := fun u y => by
  by_cases h1 : u = a
  ·subst h1
   rw [pa.mem_iff, List.mem_cons]
   constructor
   ·intro h
    exact ⟨.inr h, fun h2 => hbna (by rw [← h2.2]; exact h), fun h2 => hab h2.1⟩
   ·rintro ⟨h | h, h2, _⟩
    ·exact absurd ⟨rfl, h⟩ h2
    ·exact h
  ·by_cases h2 : u = b
   ·subst h2
    rw [pb.mem_iff, List.mem_cons]
    constructor
    ·intro h
     exact ⟨.inr h, fun h2 => h1 h2.1, fun h2 => hanb (by rw [← h2.2]; exact h)⟩
    ·rintro ⟨h | h, _, h2⟩
     ·exact absurd ⟨rfl, h⟩ h2
     ·exact h
   ·rw [nb_other (e := e) (u : Int) (by omega) (by omega)]
    exact ⟨fun h => ⟨h, fun h => h1 h.1, fun h => h2 h.1⟩, fun h => h.1⟩
 have hsh' : ShutK (l1 ++ l2) K := fun u hu v hv => hsh u hu v ((hmem u v).1 hv).1
 have he : eK (l1 ++ l2) K + 1 = eK (l1 ++ e :: l2) K := by
  unfold eK
  rw [List.countP_append, List.countP_append, List.countP_cons, if_pos (by rw [ha]; simpa using haK)]
  omega
 have hPK : ∀ x, PK (l1 ++ l2) K x ↔ PK (l1 ++ e :: l2) K x ∧ x ≠ ((a : Int), (b : Int)) ∧ x ≠ ((b : Int), (a : Int)) := fun x => by
  constructor
  ·rintro ⟨u, hu, h1, h2⟩
   obtain ⟨h3, h4, h5⟩ := (hmem u x.2).1 h2
   refine ⟨⟨u, hu, h1, h3⟩, fun e => ?_, fun e => ?_⟩
   ·subst e; exact h4 ⟨by simp only at h1; omega, rfl⟩
   ·subst e; exact h5 ⟨by simp only at h1; omega, rfl⟩
  ·rintro ⟨⟨u, hu, h1, h2⟩, h3, h4⟩
   refine ⟨u, hu, h1, (hmem u x.2).2 ⟨h2, fun h => h3 ?_, fun h => h4 ?_⟩⟩
   ·rw [← h.1, ← h1, ← h.2]
   ·rw [← h.1, ← h1, ← h.2]
 have hdarts : ∀ x, PK (l1 ++ e :: l2) K x → x ∈ dartsL N (l1 ++ e :: l2) := fun x ⟨u, hu, h1, h2⟩ => dartsL_mem.2 ⟨u, hKN u hu, h1, h2⟩
 have hd : PK (l1 ++ e :: l2) K ((a : Int), (b : Int)) := ⟨a, haK, rfl, pa.mem_iff.2 (by simp)⟩
 have hd' : PK (l1 ++ e :: l2) K ((b : Int), (a : Int)) := ⟨b, hbK, rfl, pb.mem_iff.2 (by simp)⟩
 have hne : (((a : Int), (b : Int)) : Dt) ≠ ((b : Int), (a : Int)) := fun e => by have := congrArg Prod.fst e; simp only at this; omega
 have nl : nxD r ((a : Int), (b : Int)) ≠ ((a : Int), (b : Int)) := fun e => by have := congrArg Prod.fst e; unfold nxD at this; simp only at this; omega
 have nl' : nxD r ((b : Int), (a : Int)) ≠ ((b : Int), (a : Int)) := fun e => by have := congrArg Prod.fst e; unfold nxD at this; simp only at this; omega
 have iso : isoK (l1 ++ l2) K = isoK (l1 ++ e :: l2) K + (if nxD r ((b : Int), (a : Int)) = ((a : Int), (b : Int)) then 1 else 0) + (if nxD r ((a : Int), (b : Int)) = ((b : Int), (a : Int)) then 1 else 0) := by
  have key : ∀ (v : Nat) (y : Int), v < N → (nb (l1 ++ e :: l2) (v : Int)).Perm (y :: nb (l1 ++ l2) (v : Int)) → (nxD r (y, (v : Int)) = ((v : Int), y) ↔ (nb (l1 ++ l2) (v : Int)).isEmpty = true) := fun v y hv hp => by
   have hnd := hS.nodup hR hv
   have hm : y ∈ r.getD v [] := (hS.perm v hv).mem_iff.2 (hp.mem_iff.2 (by simp))
   have hp2 := (hS.perm v hv).trans hp
   unfold nxD
   simp only [Int.toNat_natCast, Prod.mk.injEq, true_and]
   rw [aft_self hnd hm, List.isEmpty_iff]
   constructor
   ·intro e
    rw [e] at hp2
    have := hp2.length_eq
    simp at this
    exact this
   ·intro e
    rw [e] at hp2
    exact List.perm_singleton.1 hp2
  unfold isoK
  rw [countP_two hab hK (p := fun (v : Nat) => (nb (l1 ++ e :: l2) (v : Int)).isEmpty) (q := fun (v : Nat) => (nb (l1 ++ l2) (v : Int)).isEmpty)]
  ·congr 1
   ·congr 1
    have := key a (b : Int) haN pa
    by_cases h : nxD r ((b : Int), (a : Int)) = ((a : Int), (b : Int))
    ·rw [if_pos h, if_pos ⟨haK, this.1 h⟩]
    ·rw [if_neg h, if_neg (fun h2 => h (this.2 h2.2))]
   ·have := key b (a : Int) hbN pb
    by_cases h : nxD r ((a : Int), (b : Int)) = ((b : Int), (a : Int))
    ·rw [if_pos h, if_pos ⟨hbK, this.1 h⟩]
    ·rw [if_neg h, if_neg (fun h2 => h (this.2 h2.2))]
  ·intro v hv h1 h2
   rw [nb_other (e := e) (v : Int) (by omega) (by omega)]
  ·have : nb (l1 ++ e :: l2) (a : Int) ≠ [] := fun e => by have := pa.length_eq; rw [e] at this; simp at this
   simpa using this
  ·have : nb (l1 ++ e :: l2) (b : Int) ≠ [] := fun e => by have := pb.length_eq; rw [e] at this; simp at this
   simpa using this
 obtain ⟨C', hC', hcase⟩ := hD.del hd hd' hne nl nl' (nx' := nxD (lessR N r a b)) (fun x ⟨h1, h2, h3⟩ => less_nx hR hS ha hb (hdarts x h1) h2 h3)
 refine ⟨hR', hS', hsh', he, hbK, C', ⟨hC'.rnd, hC'.nodup, fun x => (hC'.mem x).trans (hPK x).symm⟩, ?_⟩
 rcases hcase with ⟨h1, h2, h3, ⟨A, hw, hA⟩, h4⟩ | ⟨h1, h4⟩
 ·refine .inl ⟨?_, ?_, h4⟩
  ·rw [iso, if_neg h3, if_neg h2]
   omega
  ·have := way_conn hR' (fun z hz => (hPK z).2 (hA z hz)) hw
   unfold nxD at this
   simp only [Int.toNat_natCast] at this
   exact this.symm
 ·refine .inr ⟨?_, h4⟩
  rw [iso]
  omega
end Go.Proofs.YtjpkojmjiaoifaaGreat
