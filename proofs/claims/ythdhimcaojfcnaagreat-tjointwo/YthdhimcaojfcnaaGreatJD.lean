/-
  The contract of matching.square at numbers: n rows, each of n items that are the same.
-/
import Derived.Test.YthdhimcaojfcnaaGreatXCRep
import Derived.Test.YthdhimcaojfcnaaGreatJM
import Derived.Test.YthdhimcaojfcnaaGreatXWaGrp
import Derived.Test.YthdhimcaojfcnaaGreatXMRep8
import Derived.Test.YthdhimcaojfcnaaGreatXMRep2
namespace Go.Proofs.YthdhimcaojfcnaaGreat
open Go Go.Proofs Go.RowKit

/-- The rows as far as k, then none. -/
def rowsK (n k : Nat) (bs : Nat → Nat) : List Value := (List.range n).map fun i => if i < k then Value.slice (some ⟨bs i, 0, none⟩) n n else .slice none 0 0
theorem rowsK_len (n k : Nat) (bs : Nat → Nat) : (rowsK n k bs).length = n := by simp [rowsK]
theorem rowsK_at {n k : Nat} {bs : Nat → Nat} {i : Nat} (h : i < n) : (rowsK n k bs)[i]? = some (if i < k then Value.slice (some ⟨bs i, 0, none⟩) n n else .slice none 0 0) := by simp [rowsK, h]
theorem rowsK_zero (n : Nat) (bs : Nat → Nat) : rowsK n 0 bs = List.replicate n (.slice none 0 0) := by
  apply List.ext_getElem <;> simp [rowsK]
def updN (bs : Nat → Nat) (k b : Nat) : Nat → Nat := fun i => if i = k then b else bs i
theorem rowsK_set {n k : Nat} {bs : Nat → Nat} (h : k < n) (b : Nat) : (rowsK n k bs).set k (.slice (some ⟨b, 0, none⟩) n n) = rowsK n (k + 1) (updN bs k b) := by
  apply List.ext_getElem?
  intro i
  by_cases hi : i < n
  · rw [List.getElem?_set, rowsK_at hi, rowsK_at hi, rowsK_len]
    by_cases e : k = i
    · subst e; simp [updN, h]
    · have h1 : (i < k + 1) = (i < k) := by
        apply propext; omega
      have h2 : updN bs k b i = bs i := by unfold updN; rw [if_neg (by omega)]
      rw [if_neg e, h2]
      simp only [h1]
  · rw [List.getElem?_eq_none (by simp [rowsK_len]; omega), List.getElem?_eq_none (by rw [rowsK_len]; omega)]
/-- Rows in memory: where they lie rises. -/
structure SQ (t tr : TypeId) (n k : Nat) (row : List Value) (rb : Nat) (bs : Nat → Nat) (W : World) : Prop where
  rows : Blk tr W rb (rowsK n k bs)
  row : ∀ i, i < k → Blk t W (bs i) row
  gt : ∀ i, i < k → rb < bs i
  rise : ∀ i j, i < j → j < k → bs i < bs j
theorem SQ.go {t tr : TypeId} {n k : Nat} {row : List Value} {rb : Nat} {bs : Nat → Nat} {W W' : World} (h : SQ t tr n k row rb bs W) (hb : Below W.heap.size W W') : SQ t tr n k row rb bs W' :=
  ⟨h.rows.go hb, fun i hi => (h.row i hi).go hb, h.gt, h.rise⟩
theorem SQ.next {t tr : TypeId} {n k : Nat} {row : List Value} {rb : Nat} {bs : Nat → Nat} {W W' : World} (h : SQ t tr n k row rb bs W) (hk : k < n) (hb : Below W.heap.size W W') {b : Nat} (hB : Blk t W' b row) (hlt : W.heap.size ≤ b) : SQ t tr n (k + 1) row rb (updN bs k b) (W'.setCell ⟨rb, k, none⟩ (.slice (some ⟨b, 0, none⟩) n n)) := by
  have hrb := h.rows.lt
  have hu : ∀ i, i < k → updN bs k b i = bs i := fun i hi => by unfold updN; rw [if_neg (by omega)]
  have hk' : updN bs k b k = b := by simp [updN]
  refine ⟨?_, fun i hi => ?_, fun i hi => ?_, fun i j hij hj => ?_⟩
  · rw [← rowsK_set hk]
    exact (h.rows.go hb).set k _
  · by_cases e : i = k
    · subst e; rw [hk']; exact hB.other (by show b ≠ rb; omega) _
    · rw [hu i (by omega)]
      have h1 := h.gt i (by omega)
      exact ((h.row i (by omega)).go hb).other (by show bs i ≠ rb; omega) _
  · by_cases e : i = k
    · subst e; rw [hk']; omega
    · rw [hu i (by omega)]; exact h.gt i (by omega)
  · by_cases e : j = k
    · subst e
      rw [hk', hu i hij]
      have := (h.row i hij).lt
      omega
    · rw [hu i (by omega), hu j (by omega)]; exact h.rise i j hij (by omega)

set_option maxRecDepth 100000 in
set_option maxHeartbeats 4000000 in
theorem squareI_any (v : Int) (n : Nat) (hn0 : 0 < n) (hn : n ≤ 4194304) (w : World) :
    Calls Tryz.prog 82 #[.int .i64 (n : Int), .int .i64 v] w fun e w' => ∃ rb bs, e = .returned (.slice (some ⟨rb, 0, none⟩) n n) ∧ SQ 3 25 n n (List.replicate n (.int .i64 v)) rb bs w' ∧ Below w.heap.size w w' ∧ w.heap.size ≤ rb := by
  obtain ⟨i0, hi, hz0, hz1, hz2⟩ := info_parts infoSl
  go_enter Tryz.func82, Tryz.ntmps82
  go_wp2_with (at_make; refine wpList_make_full _ rfl _ _ 82 rfl w.heap.size 25 i0 (.slice none 0 0) 1 Tryz.underlying82 hi hz0 hz1 .i64 .i64 _ _ n rfl rfl rfl rfl (by rw [hz2]; omega) (by unfold maxLen; omega) (by simp) ?_; intro w3 hown hgrow)
  have hbw : Below w.heap.size w w3 := (Below.refl _ _).grown hgrow (Nat.le_refl _) (fun k e => by cases e)
  have hrow := Blk.made hown
  have hsz := hrow.lt
  rw [slices_madeK, ← rowsK_zero n id] at hrow
  have HSQ : Hid (SQ 3 25 n 0 (List.replicate n (.int .i64 v)) w.heap.size id w3) := ⟨hrow, fun i hi => absurd hi (by omega), fun i hi => absurd hi (by omega), fun i j _ hj => absurd hj (by omega)⟩
  have HBW : Hid (Below w.heap.size w w3) := hbw
  clear hown hgrow hrow hbw hi hz0 hz1 hz2
  obtain ⟨x, hx⟩ : ∃ x, w.heap.size = x := ⟨_, rfl⟩
  rw [hx] at HSQ HBW hsz ⊢
  go_wp2
  go_loopw [11] (fun i wr => ∃ (k : Nat) (bs : Nat → Nat), k ≤ n ∧ i = .int .i64 k ∧ Hid (SQ 3 25 n k (List.replicate n (.int .i64 v)) x bs wr) ∧ Hid (Tch x w3 wr)) (fun i _ => n - (intOf i).toNat)
  case atStart => exact ⟨0, id, Nat.zero_le _, rfl, HSQ, Tch.refl _ _⟩
  case round =>
    obtain ⟨k, bs, hk, rfl, HS, HT⟩ := hrel
    by_cases hlt : k < n
    · have hkl : (k : Int) < (n : Int) := by omega
      have t0 : wr.cell? ⟨x, k, none⟩ = some (.slice none 0 0) := HS.out.rows.cell (by rw [rowsK_at hlt, if_neg (by omega)])
      have hal : Below wr.heap.size wr (wr.alloc (.cells #[.int .i64 v] 3)) := (Below.refl _ _).alloc (Nat.le_refl _) _
      have hrp := repeat_any v n (by omega) wr.heap.size (wr.alloc (.cells #[.int .i64 v] 3)) (new_cell rfl rfl)
      have hs1 : (wr.alloc (.cells #[.int .i64 v] 3)).heap.size = wr.heap.size + 1 := by simp
      rw [hs1] at hrp
      have HAL : Hid _ := hal
      have HS1 : Hid _ := hs1
      have hxl : x < wr.heap.size := HS.out.rows.lt
      have hfz := HS.out.rows.frozen k
      clear hal hs1
      go_wp2_with fail
      refine hrp.mono ?_
      rintro e w5 ⟨g, rfl, hg, hB5, hb5⟩
      have hb6 : Below wr.heap.size wr w5 := HAL.out.trans (hb5.mono (by omega))
      have HN : Hid _ := HS.out.next hlt hb6 hB5 (by omega)
      have HTN : Hid (Tch x w3 (w5.setCell ⟨x, k, none⟩ (.slice (some ⟨g, 0, none⟩) n n))) := (HT.out.trans (Tch.of_below hb6)).set k _
      have t1 := (hb6.cell (p := ⟨x, k, none⟩) hxl).trans t0
      have f1 : w5.frozen? ⟨x, k, none⟩ = false := (HS.out.rows.go hb6).frozen k
      clear hrp hB5 hb5 hb6 HS HT t0 HAL HS1 hfz
      go_wp2
      exact ⟨⟨k + 1, _, by omega, by go_num, HN, HTN⟩, by simp [intOf]; omega⟩
    · obtain rfl : k = n := by omega
      have HBf : Hid (Below x w wr) := HT.out.below HBW.out (by omega) (by omega)
      have HSf : Hid _ := HS.out
      clear HT HS
      go_wp2
      go_ret
      exact ⟨x, bs, rfl, HSf.out, by rw [hx]; exact HBf.out, by omega⟩
end Go.Proofs.YthdhimcaojfcnaaGreat

namespace Go.Proofs.YthdhimcaojfcnaaGreat
open Go Go.Proofs Go.RowKit

theorem infoSl8 : (Tryz.prog.info? 41).map (fun i => (i.zero, i.size, i.bytes)) = some (some (.slice none 0 0), 1, 24) := by kernel_rfl
set_option maxRecDepth 100000 in
set_option maxHeartbeats 4000000 in
theorem square8_any (v : Int) (n : Nat) (hn0 : 0 < n) (hn : n ≤ 4194304) (w : World) :
    Calls Tryz.prog 62 #[.int .i64 (n : Int), .int .i64 v] w fun e w' => ∃ rb bs, e = .returned (.slice (some ⟨rb, 0, none⟩) n n) ∧ SQ 2 41 n n (List.replicate n (.int .i64 v)) rb bs w' ∧ Below w.heap.size w w' ∧ w.heap.size ≤ rb := by
  obtain ⟨i0, hi, hz0, hz1, hz2⟩ := info_parts infoSl8
  go_enter Tryz.func62, Tryz.ntmps62
  go_wp2_with (at_make; refine wpList_make_full _ rfl _ _ 97 rfl w.heap.size 41 i0 (.slice none 0 0) 1 Tryz.underlying97 hi hz0 hz1 .i64 .i64 _ _ n rfl rfl rfl rfl (by rw [hz2]; omega) (by unfold maxLen; omega) (by simp) ?_; intro w3 hown hgrow)
  have hbw : Below w.heap.size w w3 := (Below.refl _ _).grown hgrow (Nat.le_refl _) (fun k e => by cases e)
  have hrow := Blk.made hown
  have hsz := hrow.lt
  rw [slices_madeK, ← rowsK_zero n id] at hrow
  have HSQ : Hid (SQ 2 41 n 0 (List.replicate n (.int .i64 v)) w.heap.size id w3) := ⟨hrow, fun i hi => absurd hi (by omega), fun i hi => absurd hi (by omega), fun i j _ hj => absurd hj (by omega)⟩
  have HBW : Hid (Below w.heap.size w w3) := hbw
  clear hown hgrow hrow hbw hi hz0 hz1 hz2
  obtain ⟨x, hx⟩ : ∃ x, w.heap.size = x := ⟨_, rfl⟩
  rw [hx] at HSQ HBW hsz ⊢
  go_wp2
  go_loopw [11] (fun i wr => ∃ (k : Nat) (bs : Nat → Nat), k ≤ n ∧ i = .int .i64 k ∧ Hid (SQ 2 41 n k (List.replicate n (.int .i64 v)) x bs wr) ∧ Hid (Tch x w3 wr)) (fun i _ => n - (intOf i).toNat)
  case atStart => exact ⟨0, id, Nat.zero_le _, rfl, HSQ, Tch.refl _ _⟩
  case round =>
    obtain ⟨k, bs, hk, rfl, HS, HT⟩ := hrel
    by_cases hlt : k < n
    · have hkl : (k : Int) < (n : Int) := by omega
      have t0 : wr.cell? ⟨x, k, none⟩ = some (.slice none 0 0) := HS.out.rows.cell (by rw [rowsK_at hlt, if_neg (by omega)])
      have hal : Below wr.heap.size wr (wr.alloc (.cells #[.int .i64 v] 2)) := (Below.refl _ _).alloc (Nat.le_refl _) _
      have hrp := repeat8_any v n (by omega) wr.heap.size (wr.alloc (.cells #[.int .i64 v] 2)) (new_cell rfl rfl)
      have hs1 : (wr.alloc (.cells #[.int .i64 v] 2)).heap.size = wr.heap.size + 1 := by simp
      rw [hs1] at hrp
      have HAL : Hid _ := hal
      have HS1 : Hid _ := hs1
      have hxl : x < wr.heap.size := HS.out.rows.lt
      have hfz := HS.out.rows.frozen k
      clear hal hs1
      go_wp2_with fail
      refine hrp.mono ?_
      rintro e w5 ⟨g, rfl, hg, hB5, hb5⟩
      have hb6 : Below wr.heap.size wr w5 := HAL.out.trans (hb5.mono (by omega))
      have HN : Hid _ := HS.out.next hlt hb6 hB5 (by omega)
      have HTN : Hid (Tch x w3 (w5.setCell ⟨x, k, none⟩ (.slice (some ⟨g, 0, none⟩) n n))) := (HT.out.trans (Tch.of_below hb6)).set k _
      have t1 := (hb6.cell (p := ⟨x, k, none⟩) hxl).trans t0
      have f1 : w5.frozen? ⟨x, k, none⟩ = false := (HS.out.rows.go hb6).frozen k
      clear hrp hB5 hb5 hb6 HS HT t0 HAL HS1 hfz
      go_wp2
      exact ⟨⟨k + 1, _, by omega, by go_num, HN, HTN⟩, by simp [intOf]; omega⟩
    · obtain rfl : k = n := by omega
      have HBf : Hid (Below x w wr) := HT.out.below HBW.out (by omega) (by omega)
      have HSf : Hid _ := HS.out
      clear HT HS
      go_wp2
      go_ret
      exact ⟨x, bs, rfl, HSf.out, by rw [hx]; exact HBf.out, by omega⟩
end Go.Proofs.YthdhimcaojfcnaaGreat

namespace Go.Proofs.YthdhimcaojfcnaaGreat
open Go Go.Proofs Go.RowKit

theorem infoSlL : (Tryz.prog.info? 107).map (fun i => (i.zero, i.size, i.bytes)) = some (some (.slice none 0 0), 1, 24) := by kernel_rfl
set_option maxRecDepth 100000 in
set_option maxHeartbeats 4000000 in
theorem squareL_any (v : Int) (n : Nat) (hn0 : 0 < n) (hn : n ≤ 4194304) (w : World) :
    Calls Tryz.prog 63 #[.int .i64 (n : Int), .agg #[.int .i64 v, .int .i64 v]] w fun e w' => ∃ rb bs, e = .returned (.slice (some ⟨rb, 0, none⟩) n n) ∧ SQ 102 107 n n (List.replicate (n * 2) (.int .i64 v)) rb bs w' ∧ Below w.heap.size w w' ∧ w.heap.size ≤ rb := by
  obtain ⟨i0, hi, hz0, hz1, hz2⟩ := info_parts infoSlL
  have E1 : Hid ((w.alloc (.cells #[.int .i64 v, .int .i64 v] 102)).heap.size = w.heap.size + 1) := by show _ = _; simp
  go_enter Tryz.func63, Tryz.ntmps63
  go_wp2_with (at_make; refine wpList_make_full _ rfl _ _ 99 rfl w.heap.size 107 i0 (.slice none 0 0) 1 Tryz.underlying99 hi hz0 hz1 .i64 .i64 _ _ n rfl rfl rfl rfl (by rw [hz2]; omega) (by unfold maxLen; omega) (by simp) ?_; intro w3 hown hgrow)
  have hb3 : Below (w.alloc (.cells #[.int .i64 v, .int .i64 v] 102)).heap.size (w.alloc (.cells #[.int .i64 v, .int .i64 v] 102)) w3 := (Below.refl _ _).grown hgrow (Nat.le_refl _) (fun k e => by cases e)
  have q0 : w3.cell? ⟨w.heap.size, 0, none⟩ = some (.int .i64 v) := (hb3.cell (p := ⟨w.heap.size, 0, none⟩) (by rw [E1.out]; exact Nat.lt_succ_self _)).trans (new_cell rfl rfl)
  have q1 : w3.cell? ⟨w.heap.size, 1, none⟩ = some (.int .i64 v) := (hb3.cell (p := ⟨w.heap.size, 1, none⟩) (by rw [E1.out]; exact Nat.lt_succ_self _)).trans (new_cell rfl rfl)
  have hbw : Below w.heap.size w w3 := ((Below.refl _ _).alloc (Nat.le_refl _) _).trans (hb3.mono (by rw [E1.out]; omega))
  rw [E1.out] at hown
  have hrow := Blk.made hown
  have hsz := hrow.lt
  rw [slices_madeK, ← rowsK_zero n id] at hrow
  have HSQ : Hid (SQ 102 107 n 0 (List.replicate (n * 2) (.int .i64 v)) (w.heap.size + 1) id w3) := ⟨hrow, fun i hi => absurd hi (by omega), fun i hi => absurd hi (by omega), fun i j _ hj => absurd hj (by omega)⟩
  have HBW : Hid (Below w.heap.size w w3) := hbw
  clear hown hgrow hb3 hrow hbw hi hz0 hz1 hz2 E1
  obtain ⟨x, hx⟩ : ∃ x, w.heap.size = x := ⟨_, rfl⟩
  rw [hx] at HSQ HBW hsz q0 q1 ⊢
  go_wp2
  go_loopw [11] (fun i wr => ∃ (k : Nat) (bs : Nat → Nat), k ≤ n ∧ i = .int .i64 k ∧ Hid (SQ 102 107 n k (List.replicate (n * 2) (.int .i64 v)) (x + 1) bs wr) ∧ Hid (Tch (x + 1) w3 wr)) (fun i _ => n - (intOf i).toNat)
  case atStart => exact ⟨0, id, Nat.zero_le _, rfl, HSQ, Tch.refl _ _⟩
  case round =>
    obtain ⟨k, bs, hk, rfl, HS, HT⟩ := hrel
    have c0 := HT.out.cell q0 (by omega)
    have c1 := HT.out.cell q1 (by omega)
    by_cases hlt : k < n
    · have hkl : (k : Int) < (n : Int) := by omega
      have t0 : wr.cell? ⟨x + 1, k, none⟩ = some (.slice none 0 0) := HS.out.rows.cell (by rw [rowsK_at hlt, if_neg (by omega)])
      have hal : Below wr.heap.size wr (wr.alloc (.cells #[.int .i64 v, .int .i64 v] 102)) := (Below.refl _ _).alloc (Nat.le_refl _) _
      have hrp := repeat2_any v n hn0 (by omega) wr.heap.size (wr.alloc (.cells #[.int .i64 v, .int .i64 v] 102)) (new_cell rfl rfl) (new_cell rfl rfl)
      have hs1 : (wr.alloc (.cells #[.int .i64 v, .int .i64 v] 102)).heap.size = wr.heap.size + 1 := by simp
      rw [hs1] at hrp
      have HAL : Hid _ := hal
      have HS1 : Hid _ := hs1
      have hxl : x + 1 < wr.heap.size := HS.out.rows.lt
      have hfz := HS.out.rows.frozen k
      clear hal hs1
      go_wp2_with fail
      refine hrp.mono ?_
      rintro e w5 ⟨g, rfl, hg, hB5, hb5⟩
      have hb6 : Below wr.heap.size wr w5 := HAL.out.trans (hb5.mono (by omega))
      have HN : Hid _ := HS.out.next hlt hb6 hB5 (by omega)
      have HTN : Hid (Tch (x + 1) w3 (w5.setCell ⟨x + 1, k, none⟩ (.slice (some ⟨g, 0, none⟩) n n))) := (HT.out.trans (Tch.of_below hb6)).set k _
      have t1 := (hb6.cell (p := ⟨x + 1, k, none⟩) hxl).trans t0
      have f1 : w5.frozen? ⟨x + 1, k, none⟩ = false := (HS.out.rows.go hb6).frozen k
      clear hrp hB5 hb5 hb6 HS HT t0 c0 c1 HAL HS1 hfz
      go_wp2
      exact ⟨⟨k + 1, _, by omega, by go_num, HN, HTN⟩, by simp [intOf]; omega⟩
    · obtain rfl : k = n := by omega
      have HBf : Hid (Below x w wr) := HT.out.below HBW.out (by omega) (by omega)
      have HSf : Hid _ := HS.out
      clear HT HS c0 c1
      go_wp2
      go_ret
      exact ⟨x + 1, bs, rfl, HSf.out, by rw [hx]; exact HBf.out, by omega⟩
end Go.Proofs.YthdhimcaojfcnaaGreat
