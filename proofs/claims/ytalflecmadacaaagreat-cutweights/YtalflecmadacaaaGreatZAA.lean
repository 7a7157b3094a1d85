import Derived.Lib.Small
import Derived.Deep.RegionHeld3
import Derived.WalkKit
import Derived.Deep.QuietTactic
import Derived.BigQuiet
import Derived.BigRegion
import Derived.Deep.RegionWith
import Derived.Shelf.SlSortCmp.QuietGrown
import Derived.Test.YtalflecmadacaaaGreatProg
set_option maxRecDepth 100000
set_option maxHeartbeats 8000000
namespace Go.Proofs.YtalflecmadacaaaGreat
open Go Go.Proofs
abbrev Ed := Int × Int × Int
def lo (a b : Ed) : Bool := decide (a.1 < b.1) || (decide (a.1 = b.1) && decide (a.2.1 < b.2.1))
theorem lo_iff {a b : Ed} : lo a b = true ↔ a.1 < b.1 ∨ (a.1 = b.1 ∧ a.2.1 < b.2.1) := by simp [lo]
theorem lo_not {a b : Ed} : lo a b = false ↔ b.1 < a.1 ∨ (a.1 = b.1 ∧ b.2.1 ≤ a.2.1) := by
 rw [← Bool.not_eq_true, lo_iff]; omega
def cfE (a b : Ed) : Int := if Lib.compareInt a.1 b.1 = 0 then Lib.compareInt a.2.1 b.2.1 else Lib.compareInt a.1 b.1
theorem cfE_cases (a b : Ed) : (cfE a b = -1 ∧ lo a b = true) ∨ (cfE a b = 0 ∧ a.1 = b.1 ∧ a.2.1 = b.2.1) ∨ (cfE a b = 1 ∧ lo b a = true) := by
 unfold cfE Lib.compareInt
 simp only [lo_iff]
 split <;> split <;> (try split) <;> (try split) <;> omega
theorem lo_trans {a b c : Ed} (h : lo a b = true) (h' : lo b c = true) : lo a c = true := by rw [lo_iff] at *; omega
def manyK (n m : Int) : Int := if n < 0 then 1 else if 1048576 < n ∨ 4194304 < m then 4 else 0
def edgeK (n : Int) (e : Ed) : Int := if e.1 < 0 ∨ n ≤ e.1 ∨ e.2.1 < 0 ∨ n ≤ e.2.1 then 5 else if e.1 = e.2.1 then 6 else if e.2.2 ≤ -2147483648 ∨ 2147483648 ≤ e.2.2 then 8 else 0
def riseK (a e : Ed) : Int := if lo a e = true then 0 else if lo e a = true then 1 else 7
def riseO : Option Ed → Ed → Int
 | none, _ => 0
 | some a, e => riseK a e
def oneK (n : Int) (p : Option Ed) (e : Ed) : Int := if edgeK n e = 0 then (if e.2.1 < e.1 then 1 else riseO p e) else edgeK n e
def listK (n : Int) : Option Ed → List Ed → Int
 | _, [] => 0
 | p, e :: l => if oneK n p e = 0 then listK n (some e) l else oneK n p e
def rightK (n : Int) (l : List Ed) : Int := if manyK n l.length = 0 then listK n none l else manyK n l.length
def prevA (l : List Ed) : Nat → Option Ed
 | 0 => none
 | j + 1 => l[j]?
theorem listK_step {n : Int} {l : List Ed} {i : Nat} (h : i < l.length) : listK n (prevA l i) (l.drop i) = if oneK n (prevA l i) l[i] = 0 then listK n (prevA l (i + 1)) (l.drop (i + 1)) else oneK n (prevA l i) l[i] := by
 rw [List.drop_eq_getElem_cons h, listK, show prevA l (i + 1) = some l[i] from List.getElem?_eq_getElem h]
theorem listK_end {n : Int} {l : List Ed} : listK n (prevA l l.length) (l.drop l.length) = 0 := by simp [listK]
theorem many_ok {n m : Int} (h : manyK n m = 0) : 0 ≤ n ∧ n ≤ 1048576 ∧ m ≤ 4194304 := by
 unfold manyK at h; split at h
 ·cases h
 ·split at h
  ·cases h
  ·omega
def okE (n : Int) (e : Ed) : Prop := 0 ≤ e.1 ∧ e.1 < n ∧ 0 ≤ e.2.1 ∧ e.2.1 < n ∧ e.1 ≠ e.2.1 ∧ -2147483648 < e.2.2 ∧ e.2.2 < 2147483648
theorem edge_ok {n : Int} {e : Ed} (h : edgeK n e = 0) : okE n e := by
 unfold edgeK at h; split at h
 ·cases h
 ·split at h
  ·cases h
  ·split at h
   ·cases h
   ·unfold okE; omega
theorem edge_of {n : Int} {e : Ed} (h : okE n e) : edgeK n e = 0 := by
 unfold okE at h; unfold edgeK; rw [if_neg (by omega), if_neg (by omega), if_neg (by omega)]
structure RightG (n : Int) (l : List Ed) : Prop where
 n0 : 0 ≤ n
 n1 : n ≤ 1048576
 m1 : l.length ≤ 4194304
 each : ∀ e ∈ l, okE n e ∧ e.1 < e.2.1
 rise : l.Pairwise fun a b => lo a b = true
theorem list_ok {n : Int} : ∀ {l : List Ed} {p : Option Ed}, listK n p l = 0 → (∀ e ∈ l, okE n e ∧ e.1 < e.2.1) ∧ (l.Pairwise fun a b => lo a b = true) ∧ ∀ a, p = some a → ∀ e ∈ l, lo a e = true
 | [], _, _ => ⟨by simp, .nil, by simp⟩
 | x :: l, p, h => by
  rw [listK] at h
  split at h
  ·rename_i h0
   unfold oneK at h0
   split at h0
   ·rename_i hk
    split at h0
    ·cases h0
    ·rename_i huv
     obtain ⟨h1, h2, h3⟩ := list_ok h
     have hx := edge_ok hk
     have hp : ∀ a, p = some a → lo a x = true := by
      intro a ha; subst ha
      simp only [riseO, riseK] at h0
      split at h0
      ·assumption
      ·split at h0 <;> cases h0
     refine ⟨?_, List.Pairwise.cons (h3 x rfl) h2, ?_⟩
     ·intro e he
      rcases List.mem_cons.1 he with rfl | he
      ·exact ⟨hx, by unfold okE at hx; omega⟩
      ·exact h1 e he
     ·intro a ha e he
      rcases List.mem_cons.1 he with rfl | he
      ·exact hp a ha
      ·exact lo_trans (hp a ha) (h3 x rfl e he)
   ·exact absurd h0 (by assumption)
  ·exact absurd h (by assumption)
theorem list_of {n : Int} : ∀ {l : List Ed} {p : Option Ed}, (∀ e ∈ l, okE n e ∧ e.1 < e.2.1) → (l.Pairwise fun a b => lo a b = true) → (∀ a, p = some a → ∀ e ∈ l, lo a e = true) → listK n p l = 0
 | [], _, _, _, _ => rfl
 | x :: l, p, h1, h2, h3 => by
  have hx := h1 x (List.mem_cons_self ..)
  have h0 : oneK n p x = 0 := by
   unfold oneK
   rw [if_pos (edge_of hx.1), if_neg (by omega)]
   cases p with
   | none => rfl
   | some a => simp only [riseO, riseK]; rw [if_pos (h3 a rfl x (List.mem_cons_self ..))]
  rw [listK, if_pos h0]
  refine list_of (fun e he => h1 e (List.mem_cons_of_mem _ he)) (List.pairwise_cons.1 h2).2 fun a ha e he => ?_
  cases ha
  exact (List.pairwise_cons.1 h2).1 e he
theorem right_iff {n : Int} {l : List Ed} : rightK n l = 0 ↔ RightG n l := by
 constructor
 ·intro h
  unfold rightK at h
  split at h
  ·rename_i h0
   obtain ⟨a, b, c⟩ := many_ok h0
   obtain ⟨h1, h2, _⟩ := list_ok h
   exact ⟨a, b, by omega, h1, h2⟩
  ·exact absurd h (by assumption)
 ·intro h
  have h0 : manyK n l.length = 0 := by
   have := h.n0; have := h.n1; have := h.m1
   unfold manyK; rw [if_neg (by omega), if_neg (by omega)]
  unfold rightK
  rw [if_pos h0]
  exact list_of h.each h.rise (by simp)
section
variable {P : Program} {ops : Array Oper} {Q : Exit → Act → World → Prop} {md : Region.Mode} {S : World → Prop}
def allB (ops : Array Oper) (listed : Array Bool) : Bool := (List.range ops.size).all fun k => listed.getD k false
def closedB (md : Region.Mode) (ops : Array Oper) (listed : Array Bool) : Bool := (List.range ops.size).all fun k => !(listed.getD k false) || ((ops[k]?).map fun o => o.after.all fun e => !Region.binds md e || listed.getD e.on false).getD true
def nextB (md : Region.Mode) (ops : Array Oper) (i : Nat) : Bool := (List.range ops.size).any fun k => k != i && ((ops[k]?).map fun o => o.after.any fun e => Region.binds md e && e.on == i).getD false
def Closed (md : Region.Mode) (ops : Array Oper) (listed : Array Bool) : Prop := ∀ (k : Nat) (o : Oper), ops[k]? = some o → listed.getD k false = true → ∀ e ∈ o.after, Region.binds md e = true → listed.getD e.on false = true
theorem closed_spec {listed : Array Bool} (h : closedB md ops listed = true) : Closed md ops listed := by
 intro k o ho hk e he hb
 have hlt : k < ops.size := (Array.getElem?_eq_some_iff.1 ho).1
 have h1 := List.all_eq_true.1 h k (List.mem_range.2 hlt)
 rw [hk, ho] at h1
 have h2 : (o.after.all fun e => !Region.binds md e || listed.getD e.on false) = true := by simpa using h1
 rw [Array.all_eq_true_iff_forall_mem] at h2
 have h3 := h2 e he
 rw [hb] at h3
 simpa using h3
theorem next_spec {i : Nat} (h : nextB md ops i = true) : ∃ (k : Nat) (o : Oper), ops[k]? = some o ∧ k ≠ i ∧ ∃ e ∈ o.after, Region.binds md e = true ∧ e.on = i := by
 obtain ⟨k, hk, h1⟩ := List.any_eq_true.1 h
 simp only [Bool.and_eq_true, bne_iff_ne, ne_eq] at h1
 obtain ⟨hne, h2⟩ := h1
 cases ho : ops[k]? with
 | none => rw [ho] at h2; cases h2
 | some o =>
  rw [ho] at h2
  have h3 : (o.after.any fun e => Region.binds md e && e.on == i) = true := h2
  rw [Array.any_eq_true] at h3
  obtain ⟨j, hj, h4⟩ := h3
  simp only [Bool.and_eq_true, beq_iff_eq] at h4
  exact ⟨k, o, ho, hne, _, Array.getElem_mem hj, h4.1, h4.2⟩
theorem all_spec {listed : Array Bool} (h : allB ops listed = true) {k : Nat} (hk : k < ops.size) : listed.getD k false = true := List.all_eq_true.1 h k (List.mem_range.2 hk)
theorem Closed.set {listed : Array Bool} {j : Nat} (hc : Closed md ops listed) (hj : j ∈ Region.ready md ops listed) : Closed md ops (listed.setIfInBounds j true) := by
 intro k o ho hk e he hb
 by_cases hjk : j = k
 ·subst hjk
  obtain ⟨_, o', ho', hall⟩ := mem_ready.1 hj
  rw [ho] at ho'
  cases ho'
  exact getD_set_true (hall e he hb)
 ·rw [getD_set_ne false hjk] at hk
  exact getD_set_true (hc k o ho hk e he hb)
def wpAnyL (P : Program) (md : Region.Mode) (ops : Array Oper) (Q : Exit → Act → World → Prop) (S : World → Prop) : Nat → Array Bool → Act → World → Prop
 | 0, listed, a, w => Region.ready md ops listed = [] ∧ Q .normal a w
 | fuel + 1, listed, a, w =>
  (Region.ready md ops listed = [] → Q .normal a w) ∧
  ∀ i ∈ Region.ready md ops listed, wpOp P ops Q i (fun a' w' => (allB ops (listed.setIfInBounds i true) = true ∨ S w') ∧ wpAnyL P md ops Q S fuel (listed.setIfInBounds i true) a' w') a w
theorem wpAny_of_last : ∀ (fuel : Nat) (listed : Array Bool) (a : Act) (w : World), wpAnyL P md ops Q S fuel listed a w → wpAny P md ops Q fuel listed a w
 | 0, _, _, _, h => h
 | fuel + 1, _, _, _, h => ⟨h.1, fun i hi => wpOp_mono (fun a' w' h' => wpAny_of_last fuel _ a' w' h'.2) (h.2 i hi)⟩
theorem wpAnyL_first {i : Nat} {oi : Oper} {v : Value} (hi : ops[i]? = some oi) (hsel : ∀ (j : Nat) (o : Oper) cs b, ops[j]? = some o → o.op ≠ .select cs b)
  (hQ : ∀ c a w, Q (.panic c) (a.put oi.dst v) w → Q (.panic c) a w) (hnx : nextB md ops i = true) :
  ∀ (fuel : Nat) (listed : Array Bool) (a : Act) (w : World),
   (∀ j oj, ops[j]? = some oj → j ≠ i → listed.getD j true = false → (∀ e ∈ oj.after, Region.binds md e = true → e.on ≠ i) → oi.apart ops oj = true) → Closed md ops listed →
   i ∈ Region.ready md ops listed → YieldsIf P ops S oi v a → S w →
   wpAnyL P md ops Q S fuel (listed.setIfInBounds i true) (a.put oi.dst v) w → wpAnyL P md ops Q S (fuel + 1) listed a w := by
 intro fuel
 induction fuel with
 | zero =>
  intro listed a w _ _ hr hy hS H
  refine ⟨fun h => (by rw [h] at hr; cases hr), fun j hj => ?_⟩
  by_cases hji : j = i
  ·subst hji; exact hy.wpOp hi hS ⟨.inr hS, H⟩
  ·have := ready_mono hj hji
   rw [H.1] at this
   cases this
 | succ fuel ih =>
  intro listed a w hfree hcl hr hy hS H
  refine ⟨fun h => (by rw [h] at hr; cases hr), fun j hj => ?_⟩
  by_cases hji : j = i
  ·subst hji; exact hy.wpOp hi hS ⟨.inr hS, H⟩
  ·have h1 := H.2 j (ready_mono hj hji)
   obtain ⟨hjun, oj, hoj, hall⟩ := mem_ready.1 hj
   have hun : ¬ listed.getD i false = true := fun h1 => by
    have h0 := (mem_ready.1 hr).1
    rcases Nat.lt_or_ge i listed.size with h' | h'
    ·simp [h'] at h0 h1; rw [h0] at h1; cases h1
    ·simp [Array.getElem?_eq_none h'] at h1
   have hnot : ∀ e ∈ oj.after, Region.binds md e = true → e.on ≠ i := fun e he hb heq => hun (heq ▸ hall e he hb)
   have h2 := wpOp_putIf hoj (hfree j oj hoj hji hjun hnot) (fun cs b => hsel i oi cs b hi) (fun cs b => hsel j oj cs b hoj) hQ hy h1
   have hfree' : ∀ k ok, ops[k]? = some ok → k ≠ i → (listed.setIfInBounds j true).getD k true = false →
     (∀ e ∈ ok.after, Region.binds md e = true → e.on ≠ i) → oi.apart ops ok = true := fun k ok hk hki hun hno => by
    refine hfree k ok hk hki ?_ hno
    by_cases hjk : j = k
    ·subst hjk; exact hjun
    ·rw [getD_set_ne true hjk] at hun; exact hun
   refine wpOp_mono (fun a' w' h3 => ?_) h2
   obtain ⟨h4, h5, h6⟩ := h3
   rcases h5 with h5 | h5
   ·obtain ⟨k, ok, hok, hki, e, he, hb, heq⟩ := next_spec hnx
    have hk := all_spec h5 (Array.getElem?_eq_some_iff.1 hok).1
    by_cases hjk : j = k
    ·subst hjk
     rw [hoj] at hok
     cases hok
     exact absurd heq (hnot e he hb)
    ·rw [getD_set_ne false hjk, getD_set_ne false (Ne.symm hki)] at hk
     exact absurd (heq ▸ hcl k ok hok hk e he hb) hun
   ·refine ⟨.inr h5, ih (listed.setIfInBounds j true) a' w' hfree' (hcl.set hj) (ready_mono hr (Ne.symm hji)) h4 h5 ?_⟩
    rw [Array.setIfInBounds_comm _ _ hji]
    exact h6
theorem wpAnyL_take {i : Nat} {oi : Oper} {v : Value} {fuel : Nat} {listed : Array Bool} {a : Act} {w : World} (hi : ops[i]? = some oi)
  (hs : Region.noSelect ops = true) (hf : Region.free md ops listed i = true) (hr : (Region.ready md ops listed).contains i = true) (hc : (nextB md ops i && closedB md ops listed) = true)
  (hQ : ∀ c a w, Q (.panic c) (a.put oi.dst v) w → Q (.panic c) a w) (hy : YieldsIf P ops S oi v a) (hS : S w)
  (h : wpAnyL P md ops Q S fuel (listed.setIfInBounds i true) (a.put oi.dst v) w) : wpAnyL P md ops Q S (fuel + 1) listed a w := by
 rw [Bool.and_eq_true] at hc
 exact wpAnyL_first hi (Region.noSelect_spec hs) hQ hc.1 fuel listed a w (Region.free_spec hi hf) (closed_spec hc.2) (by simpa using hr) hy hS h
theorem wpAnyL_done {listed : Array Bool} {a : Act} {w : World} (hr : Region.ready md ops listed = []) (h : Q .normal a w) : ∀ fuel, wpAnyL P md ops Q S fuel listed a w
 | 0 => ⟨hr, h⟩
 | _ + 1 => ⟨fun _ => h, by rw [hr]; simp⟩
def AllReadyL (P : Program) (md : Region.Mode) (ops : Array Oper) (Q : Exit → Act → World → Prop) (S : World → Prop) (fuel : Nat) (listed : Array Bool) (a : Act) (w : World) (rs : List Nat) : Prop :=
 ∀ i ∈ rs, wpOp P ops Q i (fun a' w' => (allB ops (listed.setIfInBounds i true) = true ∨ S w') ∧ wpAnyL P md ops Q S fuel (listed.setIfInBounds i true) a' w') a w
theorem AllReadyL.nil {fuel : Nat} {listed : Array Bool} {a : Act} {w : World} : AllReadyL P md ops Q S fuel listed a w [] := fun _ h => by cases h
theorem AllReadyL.cons {fuel : Nat} {listed : Array Bool} {a : Act} {w : World} {i : Nat} {o : Oper} {rs : List Nat} (ho : ops[i]? = some o)
  (h : ∀ K' : Act → World → Prop, Shut (∀ a w, S w → (S w → wpAnyL P md ops Q S fuel (listed.setIfInBounds i true) a w) → K' a w) → if Region.wanted o (yielded ops a.tmps) = true then Oper.wp P o a w K' Q else K' (a.put o.dst undef) w)
  (hs : AllReadyL P md ops Q S fuel listed a w rs) : AllReadyL P md ops Q S fuel listed a w (i :: rs) := fun j hj => by
 rcases List.mem_cons.1 hj with rfl | hj
 ·exact wpOp_step ho (fun K' hK => h K' (fun a w hS hW => hK a w ⟨.inr hS, hW hS⟩))
 ·exact hs j hj
theorem AllReadyL.last {fuel : Nat} {listed : Array Bool} {a : Act} {w : World} {i : Nat} {o : Oper} (ho : ops[i]? = some o) (ha : allB ops (listed.setIfInBounds i true) = true)
  (h : ∀ K' : Act → World → Prop, Shut (∀ a w, wpAnyL P md ops Q S fuel (listed.setIfInBounds i true) a w → K' a w) → if Region.wanted o (yielded ops a.tmps) = true then Oper.wp P o a w K' Q else K' (a.put o.dst undef) w) : AllReadyL P md ops Q S fuel listed a w [i] := fun j hj => by
 obtain rfl := List.mem_singleton.1 hj
 exact wpOp_step ho (fun K' hK => h K' (fun a w hW => hK a w ⟨.inl ha, hW⟩))
theorem wpAnyL_ready {rs : List Nat} {fuel : Nat} {listed : Array Bool} {a : Act} {w : World} (hr : Region.ready md ops listed = rs) (hne : rs ≠ [])
  (h : AllReadyL P md ops Q S fuel listed a w rs) : wpAnyL P md ops Q S (fuel + 1) listed a w := ⟨fun h0 => absurd (hr ▸ h0) hne, hr ▸ h⟩
theorem wp_region_last {id : Nat} {a : Act} {w : World} (hm : P.follows .mixedOrders = true) (hS : S w.drew)
  (h : S w.drew → wpAnyL P .any ops Q S ops.size (Array.replicate ops.size false) a w.drew) : (Code.region id ops true).wp P Q a w :=
 wp_region_any hm (wpAny_of_last _ _ _ _ (h hS))
theorem tkL (i : Nat) {oi : Oper} (v : Value) {fuel : Nat} {listed : Array Bool} {a : Act} {w : World} (hi : ops[i]? = some oi) (hb : (Region.noSelect ops && (Region.free md ops listed i && ((Region.ready md ops listed).contains i && (nextB md ops i && closedB md ops listed)))) = true) (hQ : (fun c a w => Q (.panic c) (a.put oi.dst v) w) = fun c a w => Q (.panic c) a w) (hy : YieldsIf P ops S oi v a) (hS : S w) (h : wpAnyL P md ops Q S fuel (listed.setIfInBounds i true) (a.put oi.dst v) w) : wpAnyL P md ops Q S (fuel + 1) listed a w := by
 simp only [Bool.and_eq_true] at hb
 exact wpAnyL_take hi hb.1 hb.2.1 hb.2.2.1 (by simp only [Bool.and_eq_true]; exact hb.2.2.2) (fun c a w h => by have := congrFun (congrFun (congrFun hQ c) a) w; exact this ▸ h) hy hS h
end
theorem tkH {P : Program} {ops : Array Oper} {Q : Exit → Act → World → Prop} {md : Region.Mode} {S : World → Prop} (i : Nat) {oi : Oper} (v : Value) {fuel : Nat} {listed : Array Bool} {a : Act} {w : World} (hi : ops[i]? = some oi) (hb : (Region.noSelect ops && (Region.free md ops listed i && (Region.ready md ops listed).contains i)) = true) (hQ : (fun c a w => Q (.panic c) (a.put oi.dst v) w) = fun c a w => Q (.panic c) a w) (hy : YieldsIf P ops S oi v a) (hS : S w) (h : wpAnyH P md ops Q S fuel (listed.setIfInBounds i true) (a.put oi.dst v) w) : wpAnyH P md ops Q S (fuel + 1) listed a w := by
 simp only [Bool.and_eq_true] at hb
 exact wpAnyH_take hi hb.1 hb.2.1 hb.2.2 (fun c a w h => by have := congrFun (congrFun (congrFun hQ c) a) w; exact this ▸ h) hy hS h
theorem z1 {α : Type _} {xs : List α} {i : Nat} (h : i < xs.toArray.size) : xs.toArray[i] = xs[i]'(by simpa using h) := List.getElem_toArray h
theorem z2 {α : Type _} {a : α} {l : List α} {h : 0 < (a :: l).length} : (a :: l)[0] = a := List.getElem_cons_zero ..
theorem z3 {α : Type _} {a : α} {l : List α} {i : Nat} {h : i + 1 < (a :: l).length} : (a :: l)[i + 1] = l[i]'(Nat.lt_of_succ_lt_succ h) := List.getElem_cons_succ ..
theorem z4 {α : Type _} (l : List α) (i : Nat) (a : α) : l.toArray.setIfInBounds i a = (l.set i a).toArray := List.setIfInBounds_toArray ..
theorem z5 {α : Type _} {x : α} {xs : List α} {a : α} : (x :: xs).set 0 a = a :: xs := List.set_cons_zero ..
theorem z6 {α : Type _} {x : α} {xs : List α} {i : Nat} {a : α} : (x :: xs).set (i + 1) a = x :: xs.set i a := List.set_cons_succ ..
end Go.Proofs.YtalflecmadacaaaGreat
namespace Go.Proofs.YtalflecmadacaaaGreat
open Go Go.Proofs Go.RowKit
def Hid (p : Prop) : Prop := p
theorem Hid.out {p : Prop} (h : Hid p) : p := h
def Grew (w w' : World) : Prop := ∃ q os, w' = Go.Sort.grow (w.drewN q) os
theorem Grew.refl (w : World) : Grew w w := ⟨0, #[], by rw [Go.Sort.grow_empty]; rfl⟩
theorem Grew.trans {a b c : World} (h : Grew a b) (h' : Grew b c) : Grew a c := by
 obtain ⟨q, os, rfl⟩ := h
 obtain ⟨q', os', rfl⟩ := h'
 exact ⟨q + q', os ++ os', by show Go.Sort.grow (Go.Sort.grow ((a.drewN q).drewN q') os) os' = _; rw [Go.Sort.grow_grow, World.drewN_drewN]⟩
theorem Grew.alloc {a b : World} (h : Grew a b) (o : Obj) : Grew a (b.alloc o) := h.trans ⟨0, #[o], by rw [Go.Sort.alloc_eq_grow]; rfl⟩
theorem Grew.drewN {a b : World} (h : Grew a b) (k : Nat) : Grew a (b.drewN k) := h.trans ⟨k, #[], by rw [Go.Sort.grow_empty]⟩
theorem Grew.below {w w' : World} (h : Grew w w') : Below w.heap.size w w' := by
 obtain ⟨q, os, rfl⟩ := h
 exact ⟨rfl, rfl, rfl, by simp [Go.Sort.grow, World.drewN], fun k hk => by simp [Go.Sort.grow, World.drewN, Array.getElem?_append_left hk]⟩
theorem below_drewN {B : Nat} {a w : World} (h : Below B a w) (k : Nat) : Below B a (w.drewN k) := ⟨h.os, h.tape, h.output, h.size, h.block⟩
abbrev edV (e : Ed) : Value := .agg #[.int .i64 e.1, .int .i64 e.2.1, .int .i64 e.2.2]
def encE (e : Ed) : List Value := [.int .i64 e.1, .int .i64 e.2.1, .int .i64 e.2.2]
def Edges (n : Nat) (W : World) (sv : Value) (l : List Ed) : Prop :=
 ((∃ p c, sv = .slice p 0 c) ∧ l = []) ∨ ∃ b off cap, sv = .slice (some ⟨b, off, none⟩) l.length cap ∧ b < n ∧ l.length ≤ cap ∧
  ∀ j x, l[j]? = some x → W.cell? ⟨b, off + j * 3, none⟩ = some (.int .i64 x.1) ∧ W.cell? ⟨b, off + j * 3 + 1, none⟩ = some (.int .i64 x.2.1) ∧ W.cell? ⟨b, off + j * 3 + 2, none⟩ = some (.int .i64 x.2.2)
theorem Edges.below {n : Nat} {W W' : World} {sv : Value} {l : List Ed} (h : Edges n W sv l) (hb : Below n W W') : Edges n W' sv l := by
 rcases h with h | ⟨b, off, cap, h1, h2, h3, h4⟩
 ·exact .inl h
 ·exact .inr ⟨b, off, cap, h1, h2, h3, fun j x hx => ⟨(hb.cell (p := ⟨b, _, none⟩) h2).trans (h4 j x hx).1, (hb.cell (p := ⟨b, _, none⟩) h2).trans (h4 j x hx).2.1, (hb.cell (p := ⟨b, _, none⟩) h2).trans (h4 j x hx).2.2⟩⟩
theorem Edges.mono {n m : Nat} {W : World} {sv : Value} {l : List Ed} (h : Edges n W sv l) (hb : n ≤ m) : Edges m W sv l := by
 rcases h with h | ⟨b, off, cap, h1, h2, h3, h4⟩
 ·exact .inl h
 ·exact .inr ⟨b, off, cap, h1, Nat.lt_of_lt_of_le h2 hb, h3, h4⟩
theorem Edges.go {W W' : World} {sv : Value} {l : List Ed} (h : Edges W.heap.size W sv l) (hb : Below W.heap.size W W') : Edges W'.heap.size W' sv l := (h.below hb).mono hb.size
theorem Edges.len {n : Nat} {W : World} {sv : Value} {l : List Ed} (h : Edges n W sv l) : ∃ p c, sv = .slice p l.length c := by
 rcases h with ⟨⟨p, c, rfl⟩, rfl⟩ | ⟨b, off, cap, rfl, _⟩ <;> exact ⟨_, _, rfl⟩
theorem Edges.nil (n : Nat) (W : World) (p : Option Addr) (c : Nat) : Edges n W (.slice p 0 c) [] := .inl ⟨⟨_, _, rfl⟩, rfl⟩
theorem new_cell {w : World} {cs : Array Value} {t : TypeId} {k i : Nat} {v : Value} (hk : k = w.heap.size) (hv : cs[i]? = some v) : (w.alloc (.cells cs t)).cell? ⟨k, i, none⟩ = some v := by
 rw [World.cell?_alloc_at _ _ _ _ hk, hv]
def cmpI (a b : Int) : Int := Lib.compareInt a b
theorem compare_any (a b : Int) (w : World) : Calls Tryz.prog 101 #[.int .i64 a, .int .i64 b] w fun e w' => e = .returned (.int .i64 (cmpI a b)) ∧ w' = w := by
 unfold cmpI Lib.compareInt
 have h60 : ∀ (x : Int) W, Calls Tryz.prog 91 #[.int .i64 x] W fun e w' => e = .returned (.bool false) ∧ w' = W := by
  intro x W
  go_enter Tryz.func91, Tryz.ntmps91
  go_wp2
  go_ret
  exact ⟨by simp, rfl⟩
 by_cases h1 : a < b
 ·rw [if_pos h1]
  go_enter Tryz.func101, Tryz.ntmps101
  go_wp2_with (go_at_call 91; refine (h60 _ _).mono ?_; rintro e w' ⟨rfl, rfl⟩)
  go_ret
  exact ⟨rfl, rfl⟩
 ·by_cases h2 : b < a
  ·rw [if_neg h1, if_pos h2]
   go_enter Tryz.func101, Tryz.ntmps101
   go_wp2_with (go_at_call 91; refine (h60 _ _).mono ?_; rintro e w' ⟨rfl, rfl⟩)
   go_ret
   exact ⟨rfl, rfl⟩
  ·rw [if_neg h1, if_neg h2]
   go_enter Tryz.func101, Tryz.ntmps101
   go_wp2_with (go_at_call 91; refine (h60 _ _).mono ?_; rintro e w' ⟨rfl, rfl⟩)
   go_ret
   exact ⟨rfl, rfl⟩
def orI (x y : Int) : Int := if x = 0 then y else x
theorem or_any (x y : Int) (b : Nat) (w : World) (h0 : w.cell? ⟨b, 0, none⟩ = some (.int .i64 x)) (h1 : w.cell? ⟨b, 1, none⟩ = some (.int .i64 y)) :
  Calls Tryz.prog 100 #[.slice (some ⟨b, 0, none⟩) 2 2] w fun e w' => e = .returned (.int .i64 (orI x y)) ∧ w' = w := by
 go_enter Tryz.func100, Tryz.ntmps100
 go_wp2
 go_loop [8] (fun i => i = .int .i64 0 ∨ (i = .int .i64 1 ∧ x = 0) ∨ (i = .int .i64 2 ∧ x = 0 ∧ y = 0)) (fun i => 2 - (intOf i).toNat)
 case atStart => exact .inl rfl
 case round =>
  rcases hrel with rfl | ⟨rfl, hx⟩ | ⟨rfl, hx, hy⟩
  ·by_cases hx : x = 0
   ·have hd : decide (x = 0) = true := by simpa using hx
    go_wp2
    exact ⟨.inr (.inl ⟨by go_num, hx⟩), by simp [intOf]⟩
   ·have HE : Hid (orI x y = x) := if_neg hx
    go_wp2
    go_ret
    exact ⟨by rw [HE.out]; rfl, rfl⟩
  ·have HX : Hid (x = 0) := hx
   clear hx
   by_cases hy : y = 0
   ·go_wp2
    exact ⟨.inr (.inr ⟨by go_num, HX.out, hy⟩), by simp [intOf]⟩
   ·have HE : Hid (orI x y = y) := if_pos HX.out
    go_wp2
    go_ret
    exact ⟨by rw [HE.out]; rfl, rfl⟩
  ·have HE : Hid (orI x y = 0) := by unfold Hid orI; rw [if_pos hx, hy]
   clear hx hy
   go_wp2
   go_ret
   exact ⟨by rw [HE.out]; rfl, rfl⟩
theorem cfE_or (a b : Ed) : cfE a b = orI (cmpI a.1 b.1) (cmpI a.2.1 b.2.1) := rfl
theorem byEnds_any (a b : Ed) (w : World) : Calls Tryz.prog 78 #[edV a, edV b] w fun e w' => e = .returned (.int .i64 (cfE a b)) ∧ Grew w w' := by
 rw [cfE_or]
 unfold edV
 obtain ⟨a0, a1, a2⟩ := a
 obtain ⟨b0, b1, b2⟩ := b
 simp only
 go_enter Tryz.func78, Tryz.ntmps78
 go_wp2
 go_region_held3 (fun w' => w'.cell? ⟨w.heap.size, 0, none⟩ = some (.int .i64 a0) ∧ w'.cell? ⟨w.heap.size, 1, none⟩ = some (.int .i64 a1) ∧ w'.cell? ⟨w.heap.size + 1, 0, none⟩ = some (.int .i64 b0) ∧ w'.cell? ⟨w.heap.size + 1, 1, none⟩ = some (.int .i64 b1)) (go_keep) (first | (go_at_call 101; refine (compare_any _ _ _).mono ?_; rintro e w' ⟨rfl, rfl⟩) | (go_at_call 100; refine (or_any (cmpI a0 b0) (cmpI a1 b1) _ _ (by simp only [World.cell?_drew]; exact new_cell (by simp) rfl) (by simp only [World.cell?_drew]; exact new_cell (by simp) rfl)).mono ?_; rintro e w' ⟨rfl, rfl⟩))
 go_wp2
 go_ret
 exact ⟨rfl, ((((Grew.refl w).alloc _).alloc _).alloc _).drewN 1⟩
theorem sized_any (n m : Int) (w : World) : Calls Tryz.prog 50 #[.int .i64 n, .int .i64 m] w fun e w' => e = .returned (.int .i64 (manyK n m)) ∧ w' = w := by
 unfold manyK
 go_enter Tryz.func50, Tryz.ntmps50
 go_wp2
 all_goals go_ret
 all_goals refine ⟨?_, rfl⟩
 all_goals simp
theorem fits_any (n : Int) (e : Ed) (w : World) : Calls Tryz.prog 51 #[.int .i64 n, edV e] w fun r w' => r = .returned (.int .i64 (edgeK n e)) ∧ Grew w w' := by
 unfold edgeK edV
 go_enter Tryz.func51, Tryz.ntmps51
 go_wp2
 all_goals go_ret
 all_goals refine ⟨?_, (Grew.refl w).alloc _⟩
 all_goals simp
 all_goals (simp_all <;> omega)
theorem refEdge_any (n : Int) (e : Ed) (w : World) : Calls Tryz.prog 38 #[.int .i64 n, edV e] w fun r w' => r = .returned (.int .i64 (edgeK n e)) ∧ Grew w w' := by
 unfold edgeK edV
 go_enter Tryz.func38, Tryz.ntmps38
 go_wp2
 all_goals go_ret
 all_goals refine ⟨?_, (Grew.refl w).alloc _⟩
 all_goals simp
 all_goals (simp_all <;> omega)
theorem refMany_any (n m : Int) (w : World) : Calls Tryz.prog 37 #[.int .i64 n, .int .i64 m] w fun e w' => e = .returned (.int .i64 (manyK n m)) ∧ w' = w := by
 unfold manyK
 go_enter Tryz.func37, Tryz.ntmps37
 go_wp2
 all_goals go_ret
 all_goals refine ⟨?_, rfl⟩
 all_goals simp
theorem refBelow_any (a b : Ed) (w : World) : Calls Tryz.prog 39 #[edV a, edV b] w fun r w' => r = .returned (.bool (lo a b)) ∧ Grew w w' := by
 unfold lo edV
 go_enter Tryz.func39, Tryz.ntmps39
 go_wp2
 all_goals go_ret
 all_goals refine ⟨?_, ((Grew.refl w).alloc _).alloc _⟩
 all_goals simp
 all_goals (simp_all <;> omega)
theorem rises_any (a b : Ed) (w : World) : Calls Tryz.prog 52 #[edV a, edV b] w fun r w' => r = .returned (.int .i64 (riseK a b)) ∧ Grew w w' := by
 have hE : (cfE a b = -1 ∧ riseK a b = 0) ∨ (cfE a b = 0 ∧ riseK a b = 7) ∨ (cfE a b = 1 ∧ riseK a b = 1) := by
  unfold riseK
  rcases cfE_cases a b with ⟨h, h'⟩ | ⟨h, h'⟩ | ⟨h, h'⟩
  ·exact .inl ⟨h, by simp [h']⟩
  ·have h1 : lo a b = false := lo_not.2 (by omega)
   have h2 : lo b a = false := lo_not.2 (by omega)
   exact .inr (.inl ⟨h, by simp [h1, h2]⟩)
  ·have h1 : lo a b = false := lo_not.2 (by have := lo_iff.1 h'; omega)
   exact .inr (.inr ⟨h, by simp [h1, h']⟩)
 have hc := fun W => byEnds_any a b W
 generalize cfE a b = c at hc hE
 generalize riseK a b = r at hE ⊢
 have hB : ∀ W, Calls Tryz.prog 78 #[.agg #[.int .i64 a.1, .int .i64 a.2.1, .int .i64 a.2.2], .agg #[.int .i64 b.1, .int .i64 b.2.1, .int .i64 b.2.2]] W fun e w' => e = .returned (.int .i64 c) ∧ Grew W w' := hc
 clear hc
 unfold edV
 rcases hE with ⟨rfl, rfl⟩ | ⟨rfl, rfl⟩ | ⟨rfl, rfl⟩
 all_goals
  go_enter Tryz.func52, Tryz.ntmps52
  go_wp2_with (go_at_call 78; refine (hB _).mono ?_; rintro e w' ⟨rfl, hg⟩)
  go_ret
  exact ⟨rfl, ((((Grew.refl w).alloc _).alloc _)).trans hg⟩
end Go.Proofs.YtalflecmadacaaaGreat
