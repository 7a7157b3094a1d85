/-
  The contracts of filigreeref03.Trail, filigreeref03.Place and filigreelaw03.Texts.
-/
import Derived.Deep.QuietTactic
import Derived.BigQuiet
import Derived.Test.YteleldeeakklpaaDoorFPlace
import Derived.Test.YteleldeeakklpaaDoorFWrap
namespace Go.Proofs.YteleldeeakklpaaDoor
open Go Go.Proofs Go.RowKit

/-- The first place of a name, from the last step on. -/
def plR (q : ByteArray) (l : List (ByteArray × Int)) (j : Nat) : Prop := plF q (l.drop j).reverse = false

set_option maxRecDepth 100000 in
set_option maxHeartbeats 1000000 in
theorem refPlace_any (l : List (ByteArray × Int)) (hl : InOkay l) (q : ByteArray) (w : World) (sv : Value) (hS : Steps w.heap.size w sv l) :
    Calls Tryd.prog 22 #[sv, .string q] w fun e w' => e = .returned (.int .i64 (plN q l.reverse)) ∧ w' = w := by
  obtain ⟨hl1, hl2⟩ := hl
  obtain ⟨pa, ca, rfl⟩ : ∃ pa ca, sv = .slice pa l.length ca := by
    rcases hS with ⟨⟨p, c, rfl⟩, rfl⟩ | ⟨b, off, cap, rfl, _⟩ <;> exact ⟨_, _, rfl⟩
  go_enter Tryd.func22, Tryd.ntmps22
  go_wp2
  go_loop [5] (fun i => ∃ j : Nat, j ≤ l.length ∧ i = .int .i64 ((j : Int) - 1) ∧ plR q l j) (fun i => (intOf i + 1).toNat)
  case atStart => exact ⟨l.length, Nat.le_refl _, rfl, by simp [plR, plF]⟩
  case round =>
    obtain ⟨j, hj, rfl, hr⟩ := hrel
    cases j with
    | zero =>
      have hE : plN q l.reverse = -1 := plN_no (by simpa [plR] using hr)
      have HE : Hid _ := hE
      clear hE
      go_wp2
      go_ret
      exact ⟨by rw [HE.out]; rfl, rfl⟩
    | succ m =>
      have hlt : m < l.length := by omega
      rw [show (((m + 1 : Nat) : Int) - 1) = (m : Int) by omega]
      rcases hS with ⟨⟨p, c, h1⟩, rfl⟩ | ⟨b, off, cap, h1, hbb, hcap, hc⟩
      · simp at hlt
      · simp only [Value.slice.injEq] at h1
        obtain ⟨rfl, _, rfl⟩ := h1
        obtain ⟨c0, c1⟩ := hc m l[m] (List.getElem?_eq_getElem hlt)
        have hd : l.drop m = l[m] :: l.drop (m + 1) := List.drop_eq_getElem_cons hlt
        have hr' : plF q (l.drop m).reverse = (plF q (l.drop (m + 1)).reverse || l[m].1.toList == q.toList) := by rw [hd, List.reverse_cons]; exact plF_app q l[m] _
        have hr1 : plF q (l.drop (m + 1)).reverse = false := hr
        rw [hr1] at hr'
        cases he : (l[m].1.toList == q.toList) with
        | true =>
          have hE : plN q l.reverse = l[m].2 := by
            have e1 : l.reverse = (l.drop (m + 1)).reverse ++ ([l[m]] ++ (l.take m).reverse) := by
              rw [← List.reverse_singleton, ← List.reverse_append, ← List.reverse_append, List.append_assoc]
              simp only [List.singleton_append]
              rw [← hd, List.take_append_drop]
            rw [e1]
            exact plN_hit he hr1
          have HE : Hid _ := hE
          clear hE hc hd hr hr' hr1
          go_wp2
          go_ret
          exact ⟨by rw [HE.out]; rfl, rfl⟩
        | false =>
          rw [he] at hr'
          have HR : Hid (plR q l m) := hr'
          clear hc hd hr hr' hr1
          go_wp2
          exact ⟨⟨m, by omega, by go_num, HR.out⟩, by simp [intOf]⟩

set_option maxRecDepth 100000 in
set_option maxHeartbeats 1000000 in
theorem refTrail_any (l : List (ByteArray × Int)) (hl : l.length ≤ 1000) (w : World) (sv : Value) (hS : Steps w.heap.size w sv l) :
    Calls Tryd.prog 20 #[sv] w fun e w' => ∃ v, e = .returned v ∧ Strs w'.heap.size w' v (l.reverse.map (·.1)) ∧ Below w.heap.size w w' := by
  obtain ⟨i0, hi, hz0, hz1, hz2⟩ := info_parts info9
  obtain ⟨pa, ca, rfl⟩ : ∃ pa ca, sv = .slice pa l.length ca := by
    rcases hS with ⟨⟨p, c, rfl⟩, rfl⟩ | ⟨b, off, cap, rfl, _⟩ <;> exact ⟨_, _, rfl⟩
  go_enter Tryd.func20, Tryd.ntmps20
  go_wp2
  go_loopw [3, 4] (fun s i wr => ∃ j : Nat, j ≤ l.length ∧ i = .int .i64 ((j : Int) - 1) ∧ wr.ownsRow w.heap.size 9 1 s (l.length - j) ((l.drop j).reverse.map fun x => Value.string x.1) ∧ Below w.heap.size w wr) (fun _ i _ => (intOf i + 1).toNat)
  case atStart => exact ⟨l.length, Nat.le_refl _, rfl, by simpa using World.ownsRow_nil w w.heap.size 9 1, Below.refl _ _⟩
  case round =>
    obtain ⟨j, hj, rfl, hown, hb⟩ := hrel
    cases j with
    | zero =>
      go_wp2
      go_ret
      refine ⟨_, rfl, ?_, hb⟩
      refine Strs.of_owns (base := w.heap.size) ?_
      simpa [Function.comp_def] using hown
    | succ m =>
      have hlt : m < l.length := by omega
      rw [show (((m + 1 : Nat) : Int) - 1) = (m : Int) by omega]
      rcases hS with ⟨⟨p, c, h1⟩, rfl⟩ | ⟨b, off, cap, h1, hbb, hcap, hc⟩
      · simp at hlt
      · simp only [Value.slice.injEq] at h1
        obtain ⟨rfl, _, rfl⟩ := h1
        obtain ⟨c0, _⟩ := hc m l[m] (List.getElem?_eq_getElem hlt)
        replace c0 := (hb.cell (p := ⟨b, off + m * 2, none⟩) hbb).trans c0
        have hd : l.drop m = l[m] :: l.drop (m + 1) := List.drop_eq_getElem_cons hlt
        have hown1 : (wr.alloc (.cells #[.string l[m].1] 9)).ownsRow w.heap.size 9 1 u3 (l.length - (m + 1)) ((l.drop (m + 1)).reverse.map fun x => Value.string x.1) := hown.alloc _
        have hnews : ∀ (i : Nat) (u : Value), [Value.string l[m].1][i]? = some u → (wr.alloc (.cells #[.string l[m].1] 9)).cell? ((⟨wr.heap.size, 0, none⟩ : Addr).add i) = some u := by
          intro i u hu
          cases i with
          | zero => simp at hu; subst hu; simp [Addr.add]
          | succ i => simp at hu
        have hone : ∀ u ∈ [Value.string l[m].1], u.oneCell' = true := by intro u hu; rw [List.mem_singleton.1 hu]; rfl
        have hmx : l.length - (m + 1) + 1 ≤ maxLen := by unfold maxLen; omega
        have hby : (l.length - (m + 1) + 1) * 16 ≤ 140737488355328 := by omega
        have hbs : w.heap.size ≤ (wr.alloc (.cells #[.string l[m].1] 9)).heap.size := by have := hb.size; simp; omega
        have hlow : ∀ k, u3.ownBlock = some k → w.heap.size ≤ k := fun k e => (hown.lt k e).1
        have Hd : Hid _ := hd
        clear hd hc hown
        go_wp2_with (at_builtin; refine wpList_append_own_at _ rfl _ _ 45 rfl w.heap.size 9 i0 (.string ⟨#[]⟩) 1 16 Tryd.underlying45 hi hz0 hz1 hz2 rfl (by decide) u3 _ _ rfl hown1 ⟨wr.heap.size, 0, none⟩ 1 1 [.string l[m].1] rfl rfl hnews hone hmx hby hbs ?_; intro v6 w6 hown6 hgrow6 hnil6 hat6)
        have hb6 : Below w.heap.size w w6 := (hb.alloc hb.size _).grown hgrow6 hbs hlow
        have hown7 : w6.ownsRow w.heap.size 9 1 v6 (l.length - m) ((l.drop m).reverse.map fun x => Value.string x.1) := by
          rw [Hd.out, List.reverse_cons, List.map_append, show l.length - m = l.length - (m + 1) + 1 by omega]
          exact hown6
        exact ⟨⟨m, by omega, rfl, hown7, hb6⟩, by simp [intOf]⟩

set_option maxRecDepth 100000 in
set_option maxHeartbeats 1000000 in
theorem texts_same (ss : List ByteArray) (hs : ss.length ≤ 1001) (w : World) (sa sb : Value) (ha : Strs w.heap.size w sa ss) (hb : Strs w.heap.size w sb ss) :
    Calls Tryd.prog 18 #[sa, sb] w fun e w' => e = .returned (.bool true) ∧ Below w.heap.size w w' := by
  obtain ⟨pa, ca, rfl⟩ := ha.len
  obtain ⟨pb, cb, rfl⟩ := hb.len
  go_enter Tryd.func18, Tryd.ntmps18
  go_wp2
  go_loopw [5] (fun i wr => ∃ j : Nat, j ≤ ss.length ∧ i = .int .i64 j ∧ Below w.heap.size w wr) (fun i _ => ss.length - (intOf i).toNat)
  case atStart => exact ⟨0, Nat.zero_le _, rfl, Below.refl _ _⟩
  case round =>
    obtain ⟨j, hj, rfl, hbl⟩ := hrel
    by_cases hlt : j < ss.length
    · rcases ha with ⟨⟨p, c, h1⟩, rfl⟩ | ⟨b, off, cap, h1, hbb, hcap, hc⟩
      · simp at hlt
      · rcases hb with ⟨⟨p, c, h1⟩, rfl⟩ | ⟨b', off', cap', h1', hbb', hcap', hc'⟩
        · simp at hlt
        · simp only [Value.slice.injEq] at h1 h1'
          obtain ⟨rfl, _, rfl⟩ := h1
          obtain ⟨rfl, _, rfl⟩ := h1'
          have c0 := (hbl.cell (p := ⟨b, off + j, none⟩) hbb).trans (hc j ss[j] (List.getElem?_eq_getElem hlt))
          have d0 := (hbl.cell (p := ⟨b', off' + j, none⟩) hbb').trans (hc' j ss[j] (List.getElem?_eq_getElem hlt))
          have hjl : (j : Int) < (ss.length : Int) := by omega
          clear hc hc'
          go_wp2
          go_quiet (fail)
          go_wp2
          exact ⟨⟨j + 1, hlt, by go_num, below_drewN hbl nq⟩, by simp [intOf]; omega⟩
    · obtain rfl : j = ss.length := by omega
      go_wp2
      go_ret
      exact ⟨rfl, hbl⟩

end Go.Proofs.YteleldeeakklpaaDoor
