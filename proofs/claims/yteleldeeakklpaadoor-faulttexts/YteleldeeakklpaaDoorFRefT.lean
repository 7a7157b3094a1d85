/-
  The contract of filigreeref03.Text.
-/
import Derived.Deep.RegionWith
import Derived.Test.YteleldeeakklpaaDoorFErr
import Derived.Test.YteleldeeakklpaaDoorFWrap
namespace Go.Proofs.YteleldeeakklpaaDoor
open Go Go.Proofs Go.RowKit

theorem wp_cutA {P : Program} {s : Code} {Q : Exit → Act → World → Prop} {a : Act} {w : World} (R : Act → Act → World → Prop) (first : s.wp P (onlyN (R a)) a w) (rest : ∀ a' w', R a a' w' → Q .normal a' w') : s.wp P Q a w := wp_cutN (R a) first rest
/-- A text with places ahead of it. -/
def refT (base : ByteArray) : List (ByteArray × Int) → ByteArray
  | [] => base
  | x :: L => linkB x.1 x.2 ++ refT base L
theorem refT_size (base : ByteArray) (hb : base.size ≤ 100) : ∀ (L : List (ByteArray × Int)), (∀ x ∈ L, x.1.size ≤ 100000 ∧ -9223372036854775808 ≤ x.2 ∧ x.2 ≤ 9223372036854775807) → (refT base L).size ≤ L.length * 100024 + 100
  | [], _ => by simp [refT]; omega
  | x :: L, h => by
    have h1 := refT_size base hb L (fun y hy => h y (by simp [hy]))
    obtain ⟨h2, h3, h4⟩ := h x (by simp)
    have h5 := linkB_size x.1 x.2 h3 h4
    simp only [refT, ByteArray.size_append, List.length_cons]
    omega
theorem refT_eq (base : ByteArray) : ∀ (L : List (ByteArray × Int)), refT base L = ⟨(accL L ++ base.data.toList).toArray⟩
  | [] => by apply ByteArray.ext; simp [refT, accL]
  | x :: L => by
    apply ByteArray.ext
    simp [refT, accL, refT_eq base L]

set_option maxRecDepth 100000 in
set_option maxHeartbeats 2000000 in
theorem refText_loop (l : List (ByteArray × Int)) (hl : l.length ≤ 50 ∧ ∀ x ∈ l, x.1.size ≤ 5000 ∧ -9223372036854775808 ≤ x.2 ∧ x.2 ≤ 9223372036854775807) (k : Int) (w : World) (sv : Value) (hS : Steps w.heap.size w sv l) :
    Calls Tryd.prog 13 #[sv, .int .i64 k] w fun e w' => e = .returned (.string (refT (kindB k) l.reverse)) ∧ Below w.heap.size w w' := by
  obtain ⟨hl1, hl2⟩ := hl
  have hks := kindB_size k
  obtain ⟨pa, ca, rfl⟩ : ∃ pa ca, sv = .slice pa l.length ca := by
    rcases hS with ⟨⟨p, c, rfl⟩, rfl⟩ | ⟨b, off, cap, rfl, _⟩ <;> exact ⟨_, _, rfl⟩
  have hcase : (0 ≤ k ∧ k ≤ 999) ∨ k < 0 ∨ 999 < k := by omega
  rcases hcase with ⟨hk0, hk1⟩ | hk | hk
  · have hil := Lib.itoa_length_le k (by omega) (by omega)
    have hn : ¬ 9223372036854775807 < 15 + (Lib.itoa k).length := by omega
    have HB : Hid (kindB k = ⟨#[102, 105, 108, 105, 103, 114, 101, 101, 32, 101, 114, 114, 111, 114, 32]⟩ ++ ⟨(Lib.itoa k).toArray⟩) := by show kindB k = _; unfold kindB; rw [numB_ok hk0 hk1]
    go_enter Tryd.func13, Tryd.ntmps13
    go_wp2_with fail
    refine (digits_any k (by omega) (by omega) w).mono ?_
    rintro e w1 ⟨rfl, hb1⟩
    go_wp2
    go_loopw [5, 6] (fun s i wr => ∃ j : Nat, j ≤ l.length ∧ i = .int .i64 j ∧ s = .string (refT (kindB k) (l.take j).reverse) ∧ Below w.heap.size w wr) (fun _ i _ => l.length - (intOf i).toNat)
    case atStart => exact ⟨0, Nat.zero_le _, rfl, by rw [← HB.out]; rfl, hb1⟩
    case round =>
      obtain ⟨j, hj, rfl, rfl, hb⟩ := hrel
      by_cases hlt : j < l.length
      · rcases hS with ⟨⟨p, c, h1⟩, rfl⟩ | ⟨b, off, cap, h1, hbb, hcap, hc⟩
        · simp at hlt
        · simp only [Value.slice.injEq] at h1
          obtain ⟨rfl, _, rfl⟩ := h1
          obtain ⟨c0, c1⟩ := hc j l[j] (List.getElem?_eq_getElem hlt)
          replace c0 := (hb.cell (p := ⟨b, off + j * 2, none⟩) hbb).trans c0
          replace c1 := (hb.cell (p := ⟨b, off + j * 2 + 1, none⟩) hbb).trans c1
          obtain ⟨hs1, ha0, ha1⟩ := hl2 l[j] (List.getElem_mem hlt)
          have hstep : refT (kindB k) (l.take (j + 1)).reverse = linkB l[j].1 l[j].2 ++ refT (kindB k) (l.take j).reverse := by
            rw [List.take_succ_eq_append_getElem hlt, List.reverse_append]; rfl
          have HS : Hid _ := hstep
          have hsz : (refT (kindB k) (l.take j).reverse).size ≤ 50 * 100024 + 100 := by
            refine Nat.le_trans (refT_size (kindB k) (by omega) _ (fun x hx => ?_)) (Nat.add_le_add_right (Nat.mul_le_mul_right _ ?_) _)
            · have hx' : x ∈ l := List.mem_of_mem_take (by simpa using hx)
              obtain ⟨y1, y2⟩ := hl2 x hx'
              exact ⟨by omega, y2⟩
            · rw [List.length_reverse]; exact Nat.le_trans (List.length_take_le' _ _) hl1
          generalize refT (kindB k) (l.take j).reverse = T at hsz HS ⊢
          have hil2 := Lib.itoa_length_le l[j].2 ha0 ha1
          have hn1 : ¬ 9223372036854775807 < l[j].1.size + 1 := by omega
          have hn2 : ¬ 9223372036854775807 < l[j].1.size + 1 + (Lib.itoa l[j].2).length := by omega
          have hn3 : ¬ 9223372036854775807 < l[j].1.size + 1 + (Lib.itoa l[j].2).length + 2 := by omega
          have hn4 : ¬ 9223372036854775807 < l[j].1.size + 1 + (Lib.itoa l[j].2).length + 2 + T.size := by omega
          have hbr : b < wr.heap.size := Nat.lt_of_lt_of_le hbb hb.size
          clear hstep hc hl2
          go_wp2
          refine wp_cutA (fun a a' w' => Below w.heap.size w w' ∧ ∃ v22 v23 v24 v25 v26 v27 v28 v29 v30 v31 v32 v33 v34 v35 v36 v37, a' = { tmps := #[a.tmps[0]!, a.tmps[1]!, a.tmps[2]!, a.tmps[3]!, a.tmps[4]!, .string (linkB l[j].1 l[j].2 ++ T), a.tmps[6]!, a.tmps[7]!, a.tmps[8]!, a.tmps[9]!, a.tmps[10]!, a.tmps[11]!, a.tmps[12]!, a.tmps[13]!, a.tmps[14]!, a.tmps[15]!, a.tmps[16]!, a.tmps[17]!, a.tmps[18]!, a.tmps[19]!, a.tmps[20]!, a.tmps[21]!, v22, v23, v24, v25, v26, v27, v28, v29, v30, v31, v32, v33, v34, v35, v36, v37, a.tmps[38]!], defers := [] }) ?_ ?_
          · go_region_with (go_at_call 25; refine (digits_any _ ha0 ha1 _).mono ?_; rintro e w2 ⟨rfl, hb2⟩; have d0 := (hb2.cell (p := ⟨b, off + j * 2, none⟩) (by simp; omega)).trans c0; have d1 := (hb2.cell (p := ⟨b, off + j * 2 + 1, none⟩) (by simp; omega)).trans c1)
            all_goals exact ⟨(Below.drew hb).trans (hb2.mono hb.size), _, _, _, _, _, _, _, _, _, _, _, _, _, _, _, _, rfl⟩
          · rintro a' w' ⟨hb', v22, v23, v24, v25, v26, v27, v28, v29, v30, v31, v32, v33, v34, v35, v36, v37, rfl⟩
            simp only [List.getElem!_toArray, List.getElem!_cons_succ, List.getElem!_cons_zero]
            go_wp2
            exact ⟨⟨j + 1, hlt, by go_num, by rw [HS.out], hb'⟩, by simp [intOf]; omega⟩
      · obtain rfl : j = l.length := by omega
        rw [List.take_length]
        go_wp2
        go_ret
        exact ⟨rfl, hb⟩
  · have hb1 : Below w.heap.size w w := Below.refl _ _
    have HB : Hid (kindB k = ⟨#[102, 105, 108, 105, 103, 114, 101, 101, 32, 101, 114, 114, 111, 114, 32, 63]⟩) := by show kindB k = _; unfold kindB; rw [numB_bad (by omega)]; rfl
    go_enter Tryd.func13, Tryd.ntmps13
    go_wp2
    go_loopw [5, 6] (fun s i wr => ∃ j : Nat, j ≤ l.length ∧ i = .int .i64 j ∧ s = .string (refT (kindB k) (l.take j).reverse) ∧ Below w.heap.size w wr) (fun _ i _ => l.length - (intOf i).toNat)
    case atStart => exact ⟨0, Nat.zero_le _, rfl, by rw [← HB.out]; rfl, hb1⟩
    case round =>
      obtain ⟨j, hj, rfl, rfl, hb⟩ := hrel
      by_cases hlt : j < l.length
      · rcases hS with ⟨⟨p, c, h1⟩, rfl⟩ | ⟨b, off, cap, h1, hbb, hcap, hc⟩
        · simp at hlt
        · simp only [Value.slice.injEq] at h1
          obtain ⟨rfl, _, rfl⟩ := h1
          obtain ⟨c0, c1⟩ := hc j l[j] (List.getElem?_eq_getElem hlt)
          replace c0 := (hb.cell (p := ⟨b, off + j * 2, none⟩) hbb).trans c0
          replace c1 := (hb.cell (p := ⟨b, off + j * 2 + 1, none⟩) hbb).trans c1
          obtain ⟨hs1, ha0, ha1⟩ := hl2 l[j] (List.getElem_mem hlt)
          have hstep : refT (kindB k) (l.take (j + 1)).reverse = linkB l[j].1 l[j].2 ++ refT (kindB k) (l.take j).reverse := by
            rw [List.take_succ_eq_append_getElem hlt, List.reverse_append]; rfl
          have HS : Hid _ := hstep
          have hsz : (refT (kindB k) (l.take j).reverse).size ≤ 50 * 100024 + 100 := by
            refine Nat.le_trans (refT_size (kindB k) (by omega) _ (fun x hx => ?_)) (Nat.add_le_add_right (Nat.mul_le_mul_right _ ?_) _)
            · have hx' : x ∈ l := List.mem_of_mem_take (by simpa using hx)
              obtain ⟨y1, y2⟩ := hl2 x hx'
              exact ⟨by omega, y2⟩
            · rw [List.length_reverse]; exact Nat.le_trans (List.length_take_le' _ _) hl1
          generalize refT (kindB k) (l.take j).reverse = T at hsz HS ⊢
          have hil2 := Lib.itoa_length_le l[j].2 ha0 ha1
          have hn1 : ¬ 9223372036854775807 < l[j].1.size + 1 := by omega
          have hn2 : ¬ 9223372036854775807 < l[j].1.size + 1 + (Lib.itoa l[j].2).length := by omega
          have hn3 : ¬ 9223372036854775807 < l[j].1.size + 1 + (Lib.itoa l[j].2).length + 2 := by omega
          have hn4 : ¬ 9223372036854775807 < l[j].1.size + 1 + (Lib.itoa l[j].2).length + 2 + T.size := by omega
          have hbr : b < wr.heap.size := Nat.lt_of_lt_of_le hbb hb.size
          clear hstep hc hl2
          go_wp2
          refine wp_cutA (fun a a' w' => Below w.heap.size w w' ∧ ∃ v22 v23 v24 v25 v26 v27 v28 v29 v30 v31 v32 v33 v34 v35 v36 v37, a' = { tmps := #[a.tmps[0]!, a.tmps[1]!, a.tmps[2]!, a.tmps[3]!, a.tmps[4]!, .string (linkB l[j].1 l[j].2 ++ T), a.tmps[6]!, a.tmps[7]!, a.tmps[8]!, a.tmps[9]!, a.tmps[10]!, a.tmps[11]!, a.tmps[12]!, a.tmps[13]!, a.tmps[14]!, a.tmps[15]!, a.tmps[16]!, a.tmps[17]!, a.tmps[18]!, a.tmps[19]!, a.tmps[20]!, a.tmps[21]!, v22, v23, v24, v25, v26, v27, v28, v29, v30, v31, v32, v33, v34, v35, v36, v37, a.tmps[38]!], defers := [] }) ?_ ?_
          · go_region_with (go_at_call 25; refine (digits_any _ ha0 ha1 _).mono ?_; rintro e w2 ⟨rfl, hb2⟩; have d0 := (hb2.cell (p := ⟨b, off + j * 2, none⟩) (by simp; omega)).trans c0; have d1 := (hb2.cell (p := ⟨b, off + j * 2 + 1, none⟩) (by simp; omega)).trans c1)
            all_goals exact ⟨(Below.drew hb).trans (hb2.mono hb.size), _, _, _, _, _, _, _, _, _, _, _, _, _, _, _, _, rfl⟩
          · rintro a' w' ⟨hb', v22, v23, v24, v25, v26, v27, v28, v29, v30, v31, v32, v33, v34, v35, v36, v37, rfl⟩
            simp only [List.getElem!_toArray, List.getElem!_cons_succ, List.getElem!_cons_zero]
            go_wp2
            exact ⟨⟨j + 1, hlt, by go_num, by rw [HS.out], hb'⟩, by simp [intOf]; omega⟩
      · obtain rfl : j = l.length := by omega
        rw [List.take_length]
        go_wp2
        go_ret
        exact ⟨rfl, hb⟩
  · have hb1 : Below w.heap.size w w := Below.refl _ _
    have hk0 : 0 ≤ k := by omega
    have HB : Hid (kindB k = ⟨#[102, 105, 108, 105, 103, 114, 101, 101, 32, 101, 114, 114, 111, 114, 32, 63]⟩) := by show kindB k = _; unfold kindB; rw [numB_bad (by omega)]; rfl
    go_enter Tryd.func13, Tryd.ntmps13
    go_wp2
    go_loopw [5, 6] (fun s i wr => ∃ j : Nat, j ≤ l.length ∧ i = .int .i64 j ∧ s = .string (refT (kindB k) (l.take j).reverse) ∧ Below w.heap.size w wr) (fun _ i _ => l.length - (intOf i).toNat)
    case atStart => exact ⟨0, Nat.zero_le _, rfl, by rw [← HB.out]; rfl, hb1⟩
    case round =>
      obtain ⟨j, hj, rfl, rfl, hb⟩ := hrel
      by_cases hlt : j < l.length
      · rcases hS with ⟨⟨p, c, h1⟩, rfl⟩ | ⟨b, off, cap, h1, hbb, hcap, hc⟩
        · simp at hlt
        · simp only [Value.slice.injEq] at h1
          obtain ⟨rfl, _, rfl⟩ := h1
          obtain ⟨c0, c1⟩ := hc j l[j] (List.getElem?_eq_getElem hlt)
          replace c0 := (hb.cell (p := ⟨b, off + j * 2, none⟩) hbb).trans c0
          replace c1 := (hb.cell (p := ⟨b, off + j * 2 + 1, none⟩) hbb).trans c1
          obtain ⟨hs1, ha0, ha1⟩ := hl2 l[j] (List.getElem_mem hlt)
          have hstep : refT (kindB k) (l.take (j + 1)).reverse = linkB l[j].1 l[j].2 ++ refT (kindB k) (l.take j).reverse := by
            rw [List.take_succ_eq_append_getElem hlt, List.reverse_append]; rfl
          have HS : Hid _ := hstep
          have hsz : (refT (kindB k) (l.take j).reverse).size ≤ 50 * 100024 + 100 := by
            refine Nat.le_trans (refT_size (kindB k) (by omega) _ (fun x hx => ?_)) (Nat.add_le_add_right (Nat.mul_le_mul_right _ ?_) _)
            · have hx' : x ∈ l := List.mem_of_mem_take (by simpa using hx)
              obtain ⟨y1, y2⟩ := hl2 x hx'
              exact ⟨by omega, y2⟩
            · rw [List.length_reverse]; exact Nat.le_trans (List.length_take_le' _ _) hl1
          generalize refT (kindB k) (l.take j).reverse = T at hsz HS ⊢
          have hil2 := Lib.itoa_length_le l[j].2 ha0 ha1
          have hn1 : ¬ 9223372036854775807 < l[j].1.size + 1 := by omega
          have hn2 : ¬ 9223372036854775807 < l[j].1.size + 1 + (Lib.itoa l[j].2).length := by omega
          have hn3 : ¬ 9223372036854775807 < l[j].1.size + 1 + (Lib.itoa l[j].2).length + 2 := by omega
          have hn4 : ¬ 9223372036854775807 < l[j].1.size + 1 + (Lib.itoa l[j].2).length + 2 + T.size := by omega
          have hbr : b < wr.heap.size := Nat.lt_of_lt_of_le hbb hb.size
          clear hstep hc hl2
          go_wp2
          refine wp_cutA (fun a a' w' => Below w.heap.size w w' ∧ ∃ v22 v23 v24 v25 v26 v27 v28 v29 v30 v31 v32 v33 v34 v35 v36 v37, a' = { tmps := #[a.tmps[0]!, a.tmps[1]!, a.tmps[2]!, a.tmps[3]!, a.tmps[4]!, .string (linkB l[j].1 l[j].2 ++ T), a.tmps[6]!, a.tmps[7]!, a.tmps[8]!, a.tmps[9]!, a.tmps[10]!, a.tmps[11]!, a.tmps[12]!, a.tmps[13]!, a.tmps[14]!, a.tmps[15]!, a.tmps[16]!, a.tmps[17]!, a.tmps[18]!, a.tmps[19]!, a.tmps[20]!, a.tmps[21]!, v22, v23, v24, v25, v26, v27, v28, v29, v30, v31, v32, v33, v34, v35, v36, v37, a.tmps[38]!], defers := [] }) ?_ ?_
          · go_region_with (go_at_call 25; refine (digits_any _ ha0 ha1 _).mono ?_; rintro e w2 ⟨rfl, hb2⟩; have d0 := (hb2.cell (p := ⟨b, off + j * 2, none⟩) (by simp; omega)).trans c0; have d1 := (hb2.cell (p := ⟨b, off + j * 2 + 1, none⟩) (by simp; omega)).trans c1)
            all_goals exact ⟨(Below.drew hb).trans (hb2.mono hb.size), _, _, _, _, _, _, _, _, _, _, _, _, _, _, _, _, rfl⟩
          · rintro a' w' ⟨hb', v22, v23, v24, v25, v26, v27, v28, v29, v30, v31, v32, v33, v34, v35, v36, v37, rfl⟩
            simp only [List.getElem!_toArray, List.getElem!_cons_succ, List.getElem!_cons_zero]
            go_wp2
            exact ⟨⟨j + 1, hlt, by go_num, by rw [HS.out], hb'⟩, by simp [intOf]; omega⟩
      · obtain rfl : j = l.length := by omega
        rw [List.take_length]
        go_wp2
        go_ret
        exact ⟨rfl, hb⟩

end Go.Proofs.YteleldeeakklpaaDoor
