import Derived.Test.YtjpkojmjiaoifaaGreatXCNew
import Derived.OrdersIn
import Derived.Test.YtjpkojmjiaoifaaGreatZAA
namespace Go.Proofs.YtjpkojmjiaoifaaGreat
open Go Go.Proofs Go.RowKit Go.Maps Go.Shelf
attribute [local go_sem] Oper.semAt_some
def downS (len k : Nat) : List Nat := (List.range k).map fun j => len - 1 - j
theorem downS_succ (len k : Nat) : downS len (k + 1) = downS len k ++ [len - 1 - k] := by simp [downS, List.range_succ]
theorem downS_length (len k : Nat) : (downS len k).length = k := by simp [downS]
def encStp (ss : List StpM) (j : Nat) : Array Value := #[.int .i64 (j : Int), .agg #[.int .i64 (ss.getD j (0, .slice none 0 0, [], -1)).1, (ss.getD j (0, .slice none 0 0, [], -1)).2.1, .int .i64 (ss.getD j (0, .slice none 0 0, [], -1)).2.2.2]]
def StepsAt (W : World) (tb : Nat) (ss : List StpM) : Prop := ∀ j, j < ss.length → W.cell? ⟨tb, j * 3, none⟩ = some (.int .i64 (ss.getD j (0, .slice none 0 0, [], -1)).1) ∧ W.cell? ⟨tb, j * 3 + 1, none⟩ = some (ss.getD j (0, .slice none 0 0, [], -1)).2.1 ∧ W.cell? ⟨tb, j * 3 + 2, none⟩ = some (.int .i64 (ss.getD j (0, .slice none 0 0, [], -1)).2.2.2)
theorem stpC_at {ss : List StpM} {j : Nat} {s : StpM} (h : ss[j]? = some s) : (stpC ss)[j * 3]? = some (.int .i64 s.1) ∧ (stpC ss)[j * 3 + 1]? = some s.2.1 ∧ (stpC ss)[j * 3 + 2]? = some (.int .i64 s.2.2.2) := by
 induction ss generalizing j with
 | nil => simp at h
 | cons a ss ih =>
  have e : stpC (a :: ss) = .int .i64 a.1 :: a.2.1 :: .int .i64 a.2.2.2 :: stpC ss := by simp [stpC]
  rw [e]
  match j, h with
  | 0, h => simp at h; subst h; simp
  | j + 1, h =>
   rw [List.getElem?_cons_succ] at h
   obtain ⟨h1, h2, h3⟩ := ih h
   rw [show (j + 1) * 3 = j * 3 + 1 + 1 + 1 by omega, show j * 3 + 1 + 1 + 1 + 1 = (j * 3 + 1) + 1 + 1 + 1 by omega, show j * 3 + 1 + 1 + 1 + 2 = (j * 3 + 2) + 1 + 1 + 1 by omega]
   simp only [List.getElem?_cons_succ]
   exact ⟨h1, h2, h3⟩
def Keep2 (b c : Nat) (W W' : World) : Prop := W'.heap[b]? = W.heap[b]? ∧ W'.heap[c]? = W.heap[c]?
theorem Keep2.refl (b c : Nat) (W : World) : Keep2 b c W W := ⟨rfl, rfl⟩
theorem Keep2.trans {b c : Nat} {A B C : World} (h : Keep2 b c A B) (k : Keep2 b c B C) : Keep2 b c A C := ⟨k.1.trans h.1, k.2.trans h.2⟩
theorem Keep2.cell1 {b c : Nat} {A B : World} (h : Keep2 b c A B) (o : Nat) : B.cell? ⟨b, o, none⟩ = A.cell? ⟨b, o, none⟩ := World.cell?_of_block (w := A) h.1
theorem Keep2.cell2 {b c : Nat} {A B : World} (h : Keep2 b c A B) (o : Nat) : B.cell? ⟨c, o, none⟩ = A.cell? ⟨c, o, none⟩ := World.cell?_of_block (w := A) h.2
set_option maxRecDepth 100000 in
set_option maxHeartbeats 2000000 in
theorem back1s_in (F : Fence) (n : Nat) (hf : F.fn 65) (hro : F.round = none) (hn : 1 ≤ n) (l Bs tb cap : Nat) (ss : List StpM) (hlen : 0 < ss.length) (hreach : ss.length ≤ 1048576) (J Jx : List Nat → World → Prop)
  (hY : ∀ pre x W, J pre W → pre.length < ss.length → YieldAt F (n - 1) Tryz.prog l (encStp ss x) W fun e W' =>
   (e = .returned (.bool true) ∧ J (pre ++ [x]) W' ∧ Keep2 tb Bs W W') ∨ (e = .returned (.bool false) ∧ Jx (pre ++ [x]) W'))
  (W : World) (hBs : W.cell? ⟨Bs, 0, none⟩ = some (.slice (some ⟨tb, 0, none⟩) ss.length cap)) (hc : StepsAt W tb ss) (h0 : J [] W) :
  CallsIn F n Tryz.prog 65 #[.func (.yield l) #[] #[], .pointer (some ⟨Bs, 0, none⟩)] W fun e W' => (∃ v, e = .returned v) ∧
   ((∃ ys, ys = downS ss.length ss.length ∧ J ys W') ∨ (∃ pre, True ∧ Jx pre W')) := by
 refine callsIn_of_wp Tryz.func65 rfl hf ?_ hro
 simp only [Tryz.ntmps65, List.size_toArray, List.length_cons, List.length_nil, Nat.reduceAdd, Nat.reduceSub, Array.replicate_succ, Array.replicate_zero, List.push_toArray, List.append_toArray, List.nil_append, List.cons_append]
 have HC : Hid (StepsAt W tb ss) := hc
 clear hc
 gi_wp2
 gi_loopw [3] (fun i wr => ∃ k : Nat, k ≤ ss.length ∧ i = .int .i64 ((ss.length : Int) - 1 - k) ∧ J (downS ss.length k) wr ∧ Keep2 tb Bs W wr)
  (fun i _ => (intOf i + 1).toNat)
 case atStart => exact ⟨0, Nat.zero_le _, by simp, h0, Keep2.refl _ _ _⟩
 case round =>
  obtain ⟨k, hk, rfl, hJs, hnx⟩ := hrel
  by_cases hlt : k < ss.length
  ·obtain ⟨m, hm⟩ : ∃ m : Nat, m = ss.length - 1 - k := ⟨_, rfl⟩
   obtain ⟨fn, tmps, assign, body, hy, hR⟩ := hY _ m wr hJs (by rw [downS_length]; exact hlt)
   have em : ((ss.length : Int) - 1 - k) = (m : Int) := by omega
   have hml : m < ss.length := by omega
   obtain ⟨hc0, hc1, hc2⟩ := HC.out m hml
   have hx0 := (hnx.cell1 _).trans hc0
   have hx1 := (hnx.cell1 _).trans hc1
   have hx2 := (hnx.cell1 _).trans hc2
   have hbx := (hnx.cell2 0).trans hBs
   unfold encStp at hy
   rw [em]
   have HM : Hid (m = ss.length - 1 - k) := hm
   clear hm em hc0 hc1 hc2
   generalize ss.getD m (0, .slice none 0 0, [], -1) = s at *
   gi_wp2
   refine hR.mono ?_
   rintro e W3 (⟨rfl, hJ3, hk3⟩ | ⟨rfl, hJx3⟩)
   ·gi_wp2
    have := HM.out
    go_roundw
    case rel => exact ⟨k + 1, by omega, by go_num, by rw [downS_succ, ← HM.out]; exact hJ3, hnx.trans hk3⟩
    case measure => simp [intOf]
   ·gi_wp2
    refine bodyPost_ret (results_none rfl _ _ _) rfl ?_
    exact ⟨⟨_, rfl⟩, .inr ⟨_, trivial, hJx3⟩⟩
  ·obtain rfl : k = ss.length := by omega
   have em : ((ss.length : Int) - 1 - (ss.length : Int)) = -1 := by omega
   rw [em]
   gi_wp2
   go_end0
   exact ⟨⟨_, rfl⟩, .inl ⟨_, rfl, hJs⟩⟩
set_option maxRecDepth 100000 in
set_option maxHeartbeats 1000000 in
theorem back1s_nil_in (F : Fence) (n : Nat) (hf : F.fn 65) (hro : F.round = none) (l Bs : Nat) (a : Option Addr) (cap : Nat) (J : List Nat → World → Prop) (W : World) (hBs : W.cell? ⟨Bs, 0, none⟩ = some (.slice a 0 cap)) (h0 : J [] W) :
  CallsIn F n Tryz.prog 65 #[.func (.yield l) #[] #[], .pointer (some ⟨Bs, 0, none⟩)] W fun e W' => (∃ v, e = .returned v) ∧ J [] W' := by
 refine callsIn_of_wp Tryz.func65 rfl hf ?_ hro
 simp only [Tryz.ntmps65, List.size_toArray, List.length_cons, List.length_nil, Nat.reduceAdd, Nat.reduceSub, Array.replicate_succ, Array.replicate_zero, List.push_toArray, List.append_toArray, List.nil_append, List.cons_append]
 gi_wp2
 gi_loopw [3] (fun i wr => i = .int .i64 (-1) ∧ J [] wr) (fun _ _ => 0)
 case atStart => exact ⟨by simp, h0⟩
 case round =>
  obtain ⟨rfl, hJs⟩ := hrel
  gi_wp2
  go_end0
  exact ⟨⟨_, rfl⟩, hJs⟩
set_option maxRecDepth 100000 in
theorem backs_any (a : Option Addr) (len cap : Nat) (w : World) :
  Calls Tryz.prog 44 #[.slice a len cap] w fun e w' => e = .returned (.func (.func 65) #[] #[.pointer (some ⟨w.heap.size, 0, none⟩)]) ∧ w' = w.alloc (.cells #[.slice a len cap] 67) := by
 go_enter Tryz.func44, Tryz.ntmps44
 go_wp2
 go_ret
 exact ⟨rfl, rfl⟩
theorem backs_stops (F : Fence) (n : Nat) (hf : F.fn 65) (hro : F.round = none) (hn : 1 ≤ n) (Bs h0 : Nat) (tv : Value) (ss : List StpM) (hreach : ss.length ≤ 1048576) (w : World) (hBs : Bs < w.heap.size)
  (hc : w.cell? ⟨Bs, 0, none⟩ = some tv) (hI : w.ownsRow h0 74 3 tv ss.length (stpC ss)) :
  SeqStopsK F n Tryz.prog 65 #[.pointer (some ⟨Bs, 0, none⟩)] (encStp ss) (Keep2 (tv.ownBlock.getD Bs) Bs) (fun ys => ys = downS ss.length ss.length) (fun _ => True) ss.length w := fun l J Jx W hW _ _ hY h0' => by
 have hc' := (hW.cell (p := ⟨Bs, 0, none⟩) hBs).trans hc
 rcases hI.2 with ⟨rfl, hz⟩ | ⟨tb, cap, cur, rfl, _, hg, hncap, _, hsz, htk⟩
 ·refine (back1s_nil_in F n hf hro l Bs none 0 J W hc' h0').mono fun e W' ⟨he, hj⟩ => ⟨he, .inl ⟨[], ?_, hj⟩⟩
  rw [hz]
  rfl
 ·by_cases hp : 0 < ss.length
  ·refine back1s_in F n hf hro hn l Bs tb cap ss hp hreach J Jx hY W hc' (fun j hj => ?_) h0'
   have hs : ss[j]? = some (ss.getD j (0, .slice none 0 0, [], -1)) := by rw [List.getD_eq_getElem?_getD, List.getElem?_eq_getElem hj]; rfl
   obtain ⟨h1, h2, h3⟩ := stpC_at hs
   have hlt := (Array.getElem?_eq_some_iff.1 hg).1
   have hat : ∀ o, o < ss.length * 3 → W.cell? ⟨tb, o, none⟩ = (stpC ss)[o]? := fun o ho => ((hW.cell (p := ⟨tb, o, none⟩) hlt)).trans (hI.cellAt o ho)
   exact ⟨by rw [hat _ (by omega), h1], by rw [hat _ (by omega), h2], by rw [hat _ (by omega), h3]⟩
  ·have hz : ss.length = 0 := by omega
   rw [hz] at hc'
   refine (back1s_nil_in F n hf hro l Bs _ cap J W hc' h0').mono fun e W' ⟨he, hj⟩ => ⟨he, .inl ⟨[], ?_, hj⟩⟩
   rw [hz]
   rfl
end Go.Proofs.YtjpkojmjiaoifaaGreat

namespace Go.Proofs.YtjpkojmjiaoifaaGreat
open Go Go.Proofs
section
variable {F : Fence} {n : Nat} {P : Program} {ops : Array Oper} {Q : Exit → Act → World → Prop} {md : Region.Mode} {S : World → Prop}
def plainB (ops : Array Oper) : Bool := ops.toList.all fun o => match o.op with | .defer _ => false | _ => true
theorem plain_spec (h : plainB ops = true) (ro : Option Nat) {j : Nat} {o : Oper} (ho : ops[j]? = some o) (ρ : Operand → Value) : Oper.semAt ro ρ o = execOp ρ o := by
 refine Oper.semAt_eq ro ρ o fun c hc => ?_
 have hm : o ∈ ops.toList := by
  obtain ⟨hj, e⟩ := Array.getElem?_eq_some_iff.1 ho
  rw [← e]
  exact Array.getElem_mem_toList hj
 have := List.all_eq_true.1 h o hm
 rw [hc] at this
 cases this
def YieldsR (P : Program) (ops : Array Oper) (S : World → Prop) (o : Oper) (v : Value) (a : Act) : Prop := YieldsIf P ops S o v a ∧ ∀ w, o.about P w a.eval = none
theorem YieldsR.of_same {o : Oper} {v : Value} {a a' : Act} (hy : YieldsR P ops S o v a) (he : execOp a'.eval o = execOp a.eval o)
  (hw : Region.wanted o (yielded ops a'.tmps) = Region.wanted o (yielded ops a.tmps)) (hb : ∀ w, o.about P w a'.eval = o.about P w a.eval) : YieldsR P ops S o v a' :=
 ⟨hy.1.of_same he hw, fun w => by rw [hb w]; exact hy.2 w⟩
theorem YieldsR.wpOpIn (hpl : plainB ops = true) {i : Nat} {o : Oper} {v : Value} {a : Act} (hi : ops[i]? = some o) (hy : YieldsR P ops S o v a)
  {K : Act → World → Prop} {w : World} (hS : S w) (h : K (a.put o.dst v) w) : wpOpIn F n P ops Q i K a w := by
 unfold Go.wpOpIn
 simp only [hi]
 have hab : ∀ f, o.about P w a.eval = some f → F.fn f := fun f hf => by rw [hy.2 w] at hf; cases hf
 rcases hy.1 with ⟨hw, hv⟩ | ⟨hw, rfl⟩
 ·simp only [hw, if_true, Oper.wpIn, plain_spec hpl F.round hi, hv w hS, Oper.uponIn]; exact ⟨hab, h⟩
 ·simp only [hw, Bool.false_eq_true, if_false]; exact ⟨hab, h⟩
theorem wpOpIn_putR (hpl : plainB ops = true) {j : Nat} {oi oj : Oper} {v : Value} (hj : ops[j]? = some oj) (hap : oi.apart ops oj = true)
  (hsi : ∀ cs b, oi.op ≠ .select cs b) (hsj : ∀ cs b, oj.op ≠ .select cs b)
  (hQ : ∀ c a w, Q (.panic c) (a.put oi.dst v) w → Q (.panic c) a w) {K : Act → World → Prop} {a : Act} {w : World}
  (hy : YieldsR P ops S oi v a) (h : wpOpIn F n P ops Q j K (a.put oi.dst v) w) :
  wpOpIn F n P ops Q j (fun a' w' => YieldsR P ops S oi v a' ∧ K (a'.put oi.dst v) w') a w := by
 obtain ⟨h1, h2, h3⟩ := Oper.apart_spec hap
 have keep : ∀ (a : Act), YieldsR P ops S oi v a → ∀ u, YieldsR P ops S oi v (a.put oj.dst u) := fun a hy u =>
  hy.of_same (execOp_put oi hsi a oj.dst u h3) (wanted_put oi a oj.dst u h3) (fun w => about_put oi w a oj.dst u h3)
 have keepD : ∀ d, YieldsR P ops S oi v { a with defers := d :: a.defers } := fun d => hy.of_same rfl rfl (fun _ => rfl)
 unfold wpOpIn at h ⊢
 simp only [hj] at h ⊢
 rw [wanted_put oj a oi.dst v h1, about_put oj w a oi.dst v h1] at h
 split
 ·rename_i hw
  simp only [hw, if_true] at h
  unfold Oper.wpIn at *
  rw [about_put oj w a oi.dst v h1] at h
  refine ⟨h.1, ?_⟩
  have h := h.2
  rw [plain_spec hpl F.round hj, execOp_put oj hsj a oi.dst v h1] at h
  rw [plain_spec hpl F.round hj]
  generalize (execOp a.eval oj).run P w = r at *
  cases r with
  | ok x w' =>
   cases x <;> simp only [Oper.uponIn] at h ⊢
   case value u => exact ⟨keep a hy u, by rw [← Act.put_comm a v u h2]; exact h⟩
   case skip => exact ⟨keep a hy _, by rw [← Act.put_comm a v undef h2]; exact h⟩
   case defer d =>
    refine ⟨keep _ (keepD d) _, ?_⟩
    rw [← Act.put_comm _ v undef h2, ← Act.put_defers]
    exact h
   case enter f args =>
    refine ⟨h.1, CallsIn.mono h.2 fun e w'' he => ?_⟩
    cases e with
    | returned u => exact ⟨keep a hy u, by rw [← Act.put_comm a v u h2]; exact he⟩
    | panicked c => exact hQ _ _ _ he
    | outgrown => exact he
   case row row args => exact ⟨h.1, RowsIn.mono h.2 fun u w'' he => ⟨keep a hy u, by rw [← Act.put_comm a v u h2]; exact he⟩⟩
   case round l f tmps assign body =>
    refine ⟨h.1, RoundIn.mono h.2 fun e w'' he => ?_⟩
    cases e with
    | returned u => exact ⟨keep a hy u, by rw [← Act.put_comm a v u h2]; exact he⟩
    | panicked c => exact hQ _ _ _ he
    | outgrown => exact he
  | halt x w' =>
   cases x <;> simp only [Oper.uponIn] at h ⊢
   case panic u => exact hQ _ _ _ h
 ·rename_i hw
  simp only [hw] at h
  exact ⟨h.1, keep a hy _, by rw [← Act.put_comm a v undef h2]; exact h.2⟩
def wpAnyR (F : Fence) (n : Nat) (P : Program) (md : Region.Mode) (ops : Array Oper) (Q : Exit → Act → World → Prop) (S : World → Prop) : Nat → Array Bool → Act → World → Prop
 | 0, listed, a, w => Region.ready md ops listed = [] ∧ Q .normal a w
 | fuel + 1, listed, a, w =>
  (Region.ready md ops listed = [] → Q .normal a w) ∧
  ∀ i ∈ Region.ready md ops listed, wpOpIn F n P ops Q i (fun a' w' => (allB ops (listed.setIfInBounds i true) = true ∨ S w') ∧ wpAnyR F n P md ops Q S fuel (listed.setIfInBounds i true) a' w') a w
theorem wpAnyIn_of_R : ∀ (fuel : Nat) (listed : Array Bool) (a : Act) (w : World), wpAnyR F n P md ops Q S fuel listed a w → wpAnyIn F n P md ops Q fuel listed a w
 | 0, _, _, _, h => h
 | fuel + 1, _, _, _, h => ⟨h.1, fun i hi => wpOpIn_mono (fun a' w' h' => wpAnyIn_of_R fuel _ a' w' h'.2) (h.2 i hi)⟩
theorem wpAnyR_first (hpl : plainB ops = true) {i : Nat} {oi : Oper} {v : Value} (hi : ops[i]? = some oi) (hsel : ∀ (j : Nat) (o : Oper) cs b, ops[j]? = some o → o.op ≠ .select cs b)
  (hQ : ∀ c a w, Q (.panic c) (a.put oi.dst v) w → Q (.panic c) a w) (hnx : nextB md ops i = true) :
  ∀ (fuel : Nat) (listed : Array Bool) (a : Act) (w : World),
   (∀ j oj, ops[j]? = some oj → j ≠ i → listed.getD j true = false → (∀ e ∈ oj.after, Region.binds md e = true → e.on ≠ i) → oi.apart ops oj = true) → Closed md ops listed →
   i ∈ Region.ready md ops listed → YieldsR P ops S oi v a → S w →
   wpAnyR F n P md ops Q S fuel (listed.setIfInBounds i true) (a.put oi.dst v) w → wpAnyR F n P md ops Q S (fuel + 1) listed a w := by
 intro fuel
 induction fuel with
 | zero =>
  intro listed a w _ _ hr hy hS H
  refine ⟨fun h => (by rw [h] at hr; cases hr), fun j hj => ?_⟩
  by_cases hji : j = i
  ·subst hji; exact hy.wpOpIn hpl hi hS ⟨.inr hS, H⟩
  ·have := ready_mono hj hji
   rw [H.1] at this
   cases this
 | succ fuel ih =>
  intro listed a w hfree hcl hr hy hS H
  refine ⟨fun h => (by rw [h] at hr; cases hr), fun j hj => ?_⟩
  by_cases hji : j = i
  ·subst hji; exact hy.wpOpIn hpl hi hS ⟨.inr hS, H⟩
  ·have h1 := H.2 j (ready_mono hj hji)
   obtain ⟨hjun, oj, hoj, hall⟩ := mem_ready.1 hj
   have hun : ¬ listed.getD i false = true := fun h1 => by
    have h0 := (mem_ready.1 hr).1
    rcases Nat.lt_or_ge i listed.size with h' | h'
    ·simp [h'] at h0 h1; rw [h0] at h1; cases h1
    ·simp [Array.getElem?_eq_none h'] at h1
   have hnot : ∀ e ∈ oj.after, Region.binds md e = true → e.on ≠ i := fun e he hb heq => hun (heq ▸ hall e he hb)
   have h2 := wpOpIn_putR hpl hoj (hfree j oj hoj hji hjun hnot) (fun cs b => hsel i oi cs b hi) (fun cs b => hsel j oj cs b hoj) hQ hy h1
   have hfree' : ∀ k ok, ops[k]? = some ok → k ≠ i → (listed.setIfInBounds j true).getD k true = false →
     (∀ e ∈ ok.after, Region.binds md e = true → e.on ≠ i) → oi.apart ops ok = true := fun k ok hk hki hun hno => by
    refine hfree k ok hk hki ?_ hno
    by_cases hjk : j = k
    ·subst hjk; exact hjun
    ·rw [getD_set_ne true hjk] at hun; exact hun
   refine wpOpIn_mono (fun a' w' h3 => ?_) h2
   obtain ⟨h4, h5, h6⟩ := h3
   rcases h5 with h5 | h5
   ·obtain ⟨k, ok, hok, hki, e, he, hb, heq⟩ := next_spec hnx
    have hk := all_spec h5 (Array.getElem?_eq_some_iff.1 hok).1
    by_cases hjk : j = k
    ·subst hjk
     rw [hoj] at hok
     cases hok
     exact absurd heq (hnot e he hb)
    ·rw [getD_set_ne false hjk, getD_set_ne false (Ne.symm hki)] at hk
     exact absurd (heq ▸ hcl k ok hok hk e he hb) hun
   ·refine ⟨.inr h5, ih (listed.setIfInBounds j true) a' w' hfree' (hcl.set hj) (ready_mono hr (Ne.symm hji)) h4 h5 ?_⟩
    rw [Array.setIfInBounds_comm _ _ hji]
    exact h6
theorem wpAnyR_take {i : Nat} {oi : Oper} {v : Value} {fuel : Nat} {listed : Array Bool} {a : Act} {w : World} (hi : ops[i]? = some oi)
  (hb : (plainB ops && (Region.noSelect ops && (Region.free md ops listed i && ((Region.ready md ops listed).contains i && (nextB md ops i && closedB md ops listed))))) = true)
  (hQ : (fun c a w => Q (.panic c) (a.put oi.dst v) w) = fun c a w => Q (.panic c) a w) (hy : YieldsIf P ops S oi v a) (ha : ∀ w, oi.about P w a.eval = none) (hS : S w)
  (h : wpAnyR F n P md ops Q S fuel (listed.setIfInBounds i true) (a.put oi.dst v) w) : wpAnyR F n P md ops Q S (fuel + 1) listed a w := by
 simp only [Bool.and_eq_true] at hb
 obtain ⟨h1, h2, h3, h4, h5, h6⟩ := hb
 exact wpAnyR_first h1 hi (Region.noSelect_spec h2) (fun c a w h => by have := congrFun (congrFun (congrFun hQ c) a) w; exact this ▸ h) h5 fuel listed a w (Region.free_spec hi h3) (closed_spec h6) (by simpa using h4) ⟨hy, ha⟩ hS h
theorem wpAnyR_last {fuel : Nat} {listed : Array Bool} {a : Act} {w : World} {i : Nat} {o : Oper} (hr : Region.ready md ops listed = [i]) (ho : ops[i]? = some o) (hg : o.guard = none) (ha : allB ops (listed.setIfInBounds i true) = true) (hn : Region.ready md ops (listed.setIfInBounds i true) = [])
  (h : Oper.wpIn F n P o a w (Q .normal) Q) : wpAnyR F n P md ops Q S (fuel + 1) listed a w := by
 refine ⟨fun h0 => (by rw [h0] at hr; cases hr), fun j hj => ?_⟩
 rw [hr] at hj
 obtain rfl := List.mem_singleton.1 hj
 have hw : Region.wanted o (yielded ops a.tmps) = true := by unfold Region.wanted; rw [hg]
 refine wpOpIn_step ho (fun K' hK => ?_)
 rw [if_pos hw]
 refine Oper.wpIn_mono (fun a' w' hQ => hK a' w' ⟨.inl ha, ?_⟩) h
 match fuel with
 | 0 => exact ⟨hn, hQ⟩
 | fuel + 1 => exact ⟨fun _ => hQ, by rw [hn]; simp⟩
theorem wpIn_region_R {id : Nat} {a : Act} {w : World} (hm : P.follows .mixedOrders = true) (hS : S w.drew)
  (h : S w.drew → wpAnyR F n P .any ops Q S ops.size (Array.replicate ops.size false) a w.drew) : (Code.region id ops true).wpIn F n P Q a w :=
 wpIn_region_any hm (wpAnyIn_of_R _ _ _ _ (h hS))
end
end Go.Proofs.YtjpkojmjiaoifaaGreat
