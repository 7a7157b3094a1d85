/-
  The reference's Lines (filigreeref05): the lines of a text that are ended, and whether all are.
-/
import Derived.Test.YthlkknfhganecaaGreatDoorUSays
namespace Go.Proofs.YthlkknfhganecaaGreatDoor
open Go Go.Proofs Go.RowKit

/-- The lines ended among the first i bytes, and where the next begins. -/
def lnL (xs : List Int) : Nat → List ByteArray × Nat
  | 0 => ([], 0)
  | i + 1 => if xs[i]? = some 10 then ((lnL xs i).1 ++ [strOfNums ((xs.drop (lnL xs i).2).take (i - (lnL xs i).2))], i + 1) else lnL xs i
theorem lnL_le (xs : List Int) : ∀ i, (lnL xs i).2 ≤ i ∧ (lnL xs i).1.length ≤ i
  | 0 => by simp [lnL]
  | i + 1 => by
    have := lnL_le xs i
    unfold lnL
    split
    · simp; omega
    · omega
theorem Vals.sub {α : Type} {enc : α → Value} {n : Nat} {W : World} {b off c : Nat} {xs : List α} (h : Vals enc n W (.slice (some ⟨b, off, none⟩) xs.length c) xs) (a k : Nat) (hk : a + k ≤ xs.length) (c' : Nat) (hc' : k ≤ c') :
    Vals enc n W (.slice (some ⟨b, off + a, none⟩) k c') ((xs.drop a).take k) := by
  have hl : ((xs.drop a).take k).length = k := by rw [List.length_take, List.length_drop]; omega
  rcases h with ⟨_, rfl⟩ | ⟨b', off', cap, h1, h2, h3, h4⟩
  · simp at hk
    obtain ⟨rfl, rfl⟩ := hk
    exact .inl ⟨⟨_, _, rfl⟩, by simp⟩
  · simp only [Value.slice.injEq, Option.some.injEq, Addr.mk.injEq] at h1
    obtain ⟨⟨rfl, rfl, _⟩, _, rfl⟩ := h1
    refine .inr ⟨b, off + a, c', by rw [hl], h2, by rw [hl]; exact hc', fun j x hx => ?_⟩
    have hj : j < k := by have := (List.getElem?_eq_some_iff.1 hx).1; rw [hl] at this; exact this
    rw [List.getElem?_take, if_pos hj, List.getElem?_drop] at hx
    rw [Nat.add_assoc]
    exact h4 _ _ hx

set_option maxRecDepth 100000 in
set_option maxHeartbeats 2000000 in
theorem refLines_any (xs : List Int) (hx : xs.length ≤ 20000) (sv : Value) (w : World) (hB : Bytes w.heap.size w sv xs) :
    Calls Tryz.prog 25 #[sv] w fun e w' => ∃ lv, e = .returned (.tuple #[lv, .bool (((lnL xs xs.length).2 : Int) == (xs.length : Int))]) ∧ Strs w'.heap.size w' lv (lnL xs xs.length).1 ∧ Below w.heap.size w w' := by
  obtain ⟨p, c, rfl⟩ := hB.len
  obtain ⟨i0, hi, hz0, hz1, hz2⟩ := info_parts info9
  go_enter Tryz.func25, Tryz.ntmps25
  go_wp2
  go_loopw [4, 5, 6] (fun lv av iv wr => ∃ i : Nat, i ≤ xs.length ∧ iv = .int .i64 i ∧ av = .int .i64 ((lnL xs i).2 : Int) ∧ wr.ownsRow w.heap.size 9 1 lv (lnL xs i).1.length ((lnL xs i).1.map Value.string) ∧ Below w.heap.size w wr) (fun _ _ iv _ => xs.length - (intOf iv).toNat)
  case atStart => exact ⟨0, Nat.zero_le _, rfl, rfl, World.ownsRow_nil _ _ _ _, Below.refl _ _⟩
  case round =>
    obtain ⟨i, hil, rfl, rfl, hown, hb⟩ := hrel
    obtain ⟨al, ml, kl, rfl⟩ := owns_slice hown
    by_cases hlt : i < xs.length
    · have hlt' : (i : Int) < (xs.length : Int) := by omega
      obtain ⟨b, off, rfl, hbb, hcap, hcell⟩ := hB.open hlt
      have ci := hcell wr hb i hlt
      have hle := lnL_le xs i
      have HN : Hid (lnL xs (i + 1) = if xs[i]? = some 10 then ((lnL xs i).1 ++ [strOfNums ((xs.drop (lnL xs i).2).take (i - (lnL xs i).2))], i + 1) else lnL xs i) := rfl
      by_cases he : xs[i] = 10
      · have he' : (xs[i] == 10) = true := by simpa using he
        have HN2 : Hid (lnL xs (i + 1) = ((lnL xs i).1 ++ [strOfNums ((xs.drop (lnL xs i).2).take (i - (lnL xs i).2))], i + 1)) := by
          rw [Hid, HN.out, if_pos (by rw [List.getElem?_eq_getElem hlt, he])]
        clear HN
        have hcv := conv_any ((hB.below hb).sub (lnL xs i).2 (i - (lnL xs i).2) (by omega) (c - (lnL xs i).2) (by omega))
        generalize strOfNums ((xs.drop (lnL xs i).2).take (i - (lnL xs i).2)) = T at *
        obtain ⟨ha, hn⟩ := hle
        generalize (lnL xs i).2 = a at *
        generalize (lnL xs i).1 = L at *
        have ha' : (a : Int) ≤ (i : Int) := by omega
        have hic : (i : Int) ≤ (c : Int) := by omega
        have hnews : ∀ (i : Nat) (u : Value), [Value.string T][i]? = some u → (wr.alloc (.cells #[.string T] 9)).cell? ((⟨wr.heap.size, 0, none⟩ : Addr).add i) = some u := by
          intro i u hu
          cases i with
          | zero => simp at hu; subst hu; simp [Addr.add]
          | succ i => simp at hu
        have hone : ∀ u ∈ [Value.string T], u.oneCell' = true := by intro u hu; rw [List.mem_singleton.1 hu]; rfl
        have hmx : L.length + 1 ≤ maxLen := by unfold maxLen; omega
        have hby : (L.length + 1) * 16 ≤ 140737488355328 := by omega
        have hbs : w.heap.size ≤ (wr.alloc (.cells #[.string T] 9)).heap.size := by have := hb.size; simp; omega
        have hlow : ∀ k, (Value.slice al ml kl).ownBlock = some k → w.heap.size ≤ k := fun k hk => by
          rcases hown.2 with ⟨h0, _⟩ | ⟨g, cap, cur, h0, h1, _⟩
          · rw [h0] at hk; simp [Value.ownBlock] at hk
          · rw [h0] at hk; simp [Value.ownBlock] at hk; omega
        have hownA := hown.alloc (.cells #[.string T] 9)
        go_wp2_with (at_builtin; refine wpList_append_own_at _ rfl _ _ 63 rfl w.heap.size 9 i0 (.string ⟨#[]⟩) 1 16 Tryz.underlying63 hi hz0 hz1 hz2 rfl (by decide) (.slice al ml kl) _ _ rfl hownA ⟨wr.heap.size, 0, none⟩ 1 1 [.string T] rfl rfl hnews hone hmx hby hbs ?_)
        intro v6 w6 hown6 hg6 hnil6 hat6
        obtain ⟨a6, m6, k6, rfl⟩ := owns_slice hown6
        have hb6 : Below w.heap.size w w6 := (hb.alloc hb.size _).trans ⟨hg6.os, hg6.tape, hg6.output, hg6.size, fun k hk => hg6.block k (by omega) (fun e => by have := hlow k e.symm; omega)⟩
        have hown6' : w6.ownsRow w.heap.size 9 1 (.slice a6 m6 k6) (L ++ [T]).length ((L ++ [T]).map Value.string) := by
          rw [List.length_append, List.map_append]; exact hown6
        clear hown6 hg6 hnil6 hat6 hownA hnews hone
        go_wp2
        exact ⟨⟨i + 1, by omega, by go_num, by rw [HN2.out]; go_num, by rw [HN2.out]; exact hown6', hb6⟩, by simp [intOf]; omega⟩
      · have he' : (xs[i] == 10) = false := by simpa using he
        have HN2 : Hid (lnL xs (i + 1) = lnL xs i) := by
          rw [Hid, HN.out, if_neg (by rw [List.getElem?_eq_getElem hlt]; simpa using he)]
        clear HN
        go_wp2
        exact ⟨⟨i + 1, by omega, by go_num, by rw [HN2.out], by rw [HN2.out]; exact hown, hb⟩, by simp [intOf]; omega⟩
    · obtain rfl : i = xs.length := by omega
      have hlt' : ¬ (xs.length : Int) < (xs.length : Int) := by omega
      go_wp2
      go_ret2
      exact ⟨_, rfl, Strs.of_owns hown, hb⟩
end Go.Proofs.YthlkknfhganecaaGreatDoor
