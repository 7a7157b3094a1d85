/-
  The reference's turned and Below.
-/
import Derived.Deep.QuietTactic
import Derived.Test.YtgjaikekpgdehaaXKRefWalk
import Derived.Test.YtgjaikekpgdehaaXKRev
namespace Go.Proofs.Ytgjaikekpgdehaa
open Go Go.Proofs Go.RowKit

theorem rev_succ {L : List Int} {j : Nat} (h : j < L.length) : L.reverse.take (j + 1) = L.reverse.take j ++ [L[L.length - 1 - j]'(by omega)] := by
  have h2 : j < L.reverse.length := by simpa using h
  rw [take_snoc h2, List.getElem_reverse]
set_option maxRecDepth 100000 in
set_option maxHeartbeats 2000000 in
theorem turned_any (L : List Int) (hL : L.length ≤ 4194304) (sv : Value) (w : World) (hl : Ints w.heap.size w sv L) :
    Calls Try.prog 26 #[sv] w fun r w' => ∃ s, r = .returned s ∧ Ints w'.heap.size w' s L.reverse ∧ Below w.heap.size w w' := by
  obtain ⟨p, c, rfl⟩ := hl.len
  obtain ⟨i0, hi, hz0, hz1, hz2⟩ := info_parts infoI
  have hlb : (L.length : Int) ≤ 4194304 := by omega
  go_enter Try.func26, Try.ntmps26
  go_wp2
  go_loopw [3, 4] (fun s iv wr => ∃ j : Nat, j ≤ L.length ∧ iv = .int .i64 ((L.length : Int) - 1 - j) ∧ wr.ownsRow w.heap.size 3 1 s j ((L.reverse.take j).map (Value.int .i64)) ∧ Below w.heap.size w wr) (fun _ iv _ => (intOf iv + 1).toNat)
  case atStart => exact ⟨0, Nat.zero_le _, by go_num, World.ownsRow_nil _ _ _ _, Below.refl _ _⟩
  case round =>
    obtain ⟨j, hj, rfl, hown, hb⟩ := hrel
    obtain ⟨pp, cc, rfl⟩ := owns_form hown
    by_cases hlt : j < L.length
    · obtain ⟨k, hk⟩ : ∃ k : Nat, L.length - 1 - j = k := ⟨_, rfl⟩
      have hkl : k < L.length := by omega
      have ek : (L.length : Int) - 1 - j = (k : Int) := by omega
      obtain ⟨b, off, rfl, hbb, hcap, hc⟩ := hl.open hkl
      have c0 := hc wr hb k hkl
      have HS : Hid (L.reverse.take (j + 1) = L.reverse.take j ++ [L[k]]) := by
        have := rev_succ hlt
        simp only [hk] at this
        exact this
      obtain ⟨y, hy⟩ : ∃ y, L[k] = y := ⟨_, rfl⟩
      rw [hy] at c0 HS
      rw [ek]
      have hkI : (k : Int) < (L.length : Int) := by omega
      have hown9 := hown.alloc (.cells #[.int .i64 y] 3)
      have hnw := one_cellK wr (.int .i64 y) 3
      have hone : ∀ q ∈ [Value.int .i64 y], q.oneCell' = true := fun q hq => by rw [List.mem_singleton.1 hq]; rfl
      have hmx : j + 1 ≤ maxLen := by unfold maxLen; omega
      have hby : (j + 1) * 8 ≤ 140737488355328 := by omega
      have hsA : w.heap.size ≤ (wr.alloc (.cells #[.int .i64 y] 3)).heap.size := by have := hb.size; simp; omega
      have hlow : ∀ q, (Value.slice pp j cc).ownBlock = some q → w.heap.size ≤ q := fun q h => (hown.lt q h).1
      have HBA : Hid (Below w.heap.size w (wr.alloc (.cells #[.int .i64 y] 3))) := hb.alloc hb.size _
      have HE : Hid ((k : Int) - 1 = (L.length : Int) - 1 - ((j + 1 : Nat) : Int)) := by unfold Hid; omega
      have HJ : Hid (j < L.length) := hlt
      clear hy hb hc ek hk hlt hj
      go_wp2_with (at_builtin; refine wpList_append_own_at _ rfl _ _ 25 rfl w.heap.size 3 i0 (.int .i64 0) 1 8 Try.underlying25 hi hz0 hz1 hz2 rfl (by decide) (.slice pp j cc) _ _ rfl hown9 ⟨wr.heap.size, 0, none⟩ 1 1 [.int .i64 y] rfl rfl hnw hone hmx hby hsA ?_; intro v8 w8 hown8 hg8 hnil8 hat8; obtain ⟨p8, c8, rfl⟩ := owns_form hown8)
      refine ⟨⟨j + 1, HJ.out, by rw [← HE.out], ?_, HBA.out.grown hg8 hsA hlow⟩, by simp [intOf]⟩
      rw [HS.out, List.map_append]
      exact hown8
    · obtain rfl : j = L.length := by omega
      have e : (L.length : Int) - 1 - (L.length : Int) = -1 := by omega
      rw [e]
      have HR : Hid (L.reverse.take L.length = L.reverse) := by unfold Hid; rw [List.take_of_length_le (by simp)]
      have HI : Hid (Ints wr.heap.size wr (.slice pp L.length cc) L.reverse) := by
        unfold Hid
        rw [HR.out] at hown
        have : wr.ownsRow w.heap.size 3 1 (.slice pp L.length cc) L.reverse.length (L.reverse.map (Value.int .i64)) := by rw [List.length_reverse]; exact hown
        exact owns_intsK this
      clear hown e HR
      go_wp2
      go_ret
      exact ⟨_, rfl, HI.out, hb⟩

/-- Of lists of numbers, by the first that differs. -/
def belB : List Int → List Int → Bool
  | [], [] => false
  | [], _ :: _ => true
  | _ :: _, [] => false
  | x :: a, y :: b => if x = y then belB a b else decide (x < y)
theorem bel_end {a b : List Int} {j : Nat} (h : ¬ (j < a.length ∧ j < b.length)) (hj : j ≤ a.length ∧ j ≤ b.length) : belB (a.drop j) (b.drop j) = decide (a.length < b.length) := by
  by_cases ha : j < a.length
  · have hb : b.drop j = [] := List.drop_eq_nil_of_le (by omega)
    rw [hb, List.drop_eq_getElem_cons ha]
    have : ¬ a.length < b.length := by omega
    simp [belB, this]
  · have e : a.drop j = [] := List.drop_eq_nil_of_le (by omega)
    rw [e]
    by_cases hb : j < b.length
    · rw [List.drop_eq_getElem_cons hb]
      have : a.length < b.length := by omega
      simp [belB, this]
    · have e2 : b.drop j = [] := List.drop_eq_nil_of_le (by omega)
      rw [e2]
      have : ¬ a.length < b.length := by omega
      simp [belB, this]
theorem bel_step {a b : List Int} {j : Nat} (ha : j < a.length) (hb : j < b.length) : belB (a.drop j) (b.drop j) = if a[j] = b[j] then belB (a.drop (j + 1)) (b.drop (j + 1)) else decide (a[j] < b[j]) := by
  rw [List.drop_eq_getElem_cons ha, List.drop_eq_getElem_cons hb, belB]
theorem bel_two {A B : List Int} (hA : 2 ≤ A.length) (hB : 2 ≤ B.length) (hne : fstD A ≠ fstD B) : belB A B = lt2 (fstD A) (fstD B) := by
  match A, B, hA, hB with
  | a :: b :: A, c :: d :: B, _, _ =>
    have hne : ¬ (a = c ∧ b = d) := fun e => hne (by show (a, b) = (c, d); rw [e.1, e.2])
    show (if a = c then (if b = d then belB A B else decide (b < d)) else decide (a < c)) = decide (a < c ∨ (a = c ∧ b < d))
    by_cases h1 : a = c
    · have h2 : ¬ b = d := fun e => hne ⟨h1, e⟩
      rw [if_pos h1, if_neg h2]
      apply decide_eq_decide.2
      omega
    · rw [if_neg h1]
      apply decide_eq_decide.2
      omega

set_option maxRecDepth 100000 in
set_option maxHeartbeats 2000000 in
theorem below_any (a b : List Int) (hal : a.length ≤ 4194304) (sa sb : Value) (w : World) (ha : Ints w.heap.size w sa a) (hb : Ints w.heap.size w sb b) :
    Calls Try.prog 25 #[sa, sb] w fun r w' => r = .returned (.bool (belB a b)) ∧ Grew w w' := by
  obtain ⟨p, c, rfl⟩ := ha.len
  obtain ⟨q, d, rfl⟩ := hb.len
  have hmix := mixed
  go_enter Try.func25, Try.ntmps25
  go_wp2
  go_loopw [5] (fun i wr => ∃ j : Nat, j ≤ a.length ∧ i = .int .i64 j ∧ Hid (j ≤ b.length ∧ belB (a.drop j) (b.drop j) = belB a b) ∧ Grew w wr) (fun i _ => a.length - (intOf i).toNat)
  case atStart => exact ⟨0, Nat.zero_le _, rfl, ⟨Nat.zero_le _, rfl⟩, Grew.refl _⟩
  case round =>
    obtain ⟨j, hj, rfl, hr, hg⟩ := hrel
    by_cases hlt : j < a.length ∧ j < b.length
    · obtain ⟨b1, off, rfl, hbb, hcap, hc⟩ := ha.open hlt.1
      obtain ⟨b2, off2, rfl, hbb2, hcap2, hc2⟩ := hb.open hlt.2
      have c0 := hc wr hg.below j hlt.1
      have d0 := hc2 wr hg.below j hlt.2
      have hjl : (j : Int) < (a.length : Int) := by omega
      have hjl2 : (j : Int) < (b.length : Int) := by omega
      have HST : Hid _ := bel_step hlt.1 hlt.2
      have HJ : Hid (j < a.length ∧ j < b.length) := hlt
      clear hc hc2
      generalize a[j] = x at c0 HST
      generalize b[j] = y at d0 HST
      clear hlt
      by_cases he : x = y
      · have hb' : (x != y) = false := by simpa using he
        have HT : Hid (j + 1 ≤ b.length ∧ belB (a.drop (j + 1)) (b.drop (j + 1)) = belB a b) := ⟨HJ.out.2, by have := HST.out; rw [if_pos he] at this; rw [← this]; exact hr.out.2⟩
        clear HST he hr
        go_wp2
        go_quiet (fail)
        have hgq := hg.drewN nq
        generalize wr.drewN nq = w8 at hgq ⊢
        go_wp2
        exact ⟨⟨j + 1, by omega, by go_num, HT, hgq⟩, by have := HJ.out; simp [intOf]; omega⟩
      · have hb' : (x != y) = true := by simpa using he
        have HT : Hid (decide (x < y) = belB a b) := by unfold Hid; have := HST.out; rw [if_neg he] at this; rw [← this]; exact hr.out.2
        clear HST he hr
        go_wp2
        go_quiet (fail)
        have hgq := hg.drewN nq
        have c1 := cell_keep (below_drewN (Below.refl wr.heap.size wr) nq) c0
        have d1 := cell_keep (below_drewN (Below.refl wr.heap.size wr) nq) d0
        generalize wr.drewN nq = w8 at hgq c1 d1 ⊢
        clear c0 d0
        go_wp2
        go_quiet (fail)
        have hgq2 := hgq.drewN nq
        generalize w8.drewN nq = w9 at hgq2 ⊢
        go_wp2
        go_ret
        exact ⟨by rw [← HT.out]; rfl, hgq2⟩
    · have HE : Hid (decide (a.length < b.length) = belB a b) := by unfold Hid; rw [← bel_end hlt ⟨hj, hr.out.1⟩]; exact hr.out.2
      by_cases h1 : j < a.length
      · have h2 : ¬ (j : Int) < (b.length : Int) := by omega
        have h3 : (j : Int) < (a.length : Int) := by omega
        clear hr hlt
        go_wp2
        go_ret
        exact ⟨by rw [← HE.out]; simp, hg⟩
      · have h3 : ¬ (j : Int) < (a.length : Int) := by omega
        clear hr hlt
        go_wp2
        go_ret
        exact ⟨by rw [← HE.out]; simp, hg⟩
end Go.Proofs.Ytgjaikekpgdehaa
