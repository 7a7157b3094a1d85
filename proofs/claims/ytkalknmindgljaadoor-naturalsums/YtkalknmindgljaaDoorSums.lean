/-
  The walk of filigreelaw01.NaturalSums: for any two lists it returns true, and nothing that lay has turned.
-/
import Derived.Test.YtkalknmindgljaaDoorLimbs
import Derived.Test.YtkalknmindgljaaDoorSub
import Derived.Test.YtkalknmindgljaaDoorAlive
namespace Go.Proofs.YtkalknmindgljaaDoor
open Go Go.Proofs Go.RowKit Go.Shelf

/-- The kind of what Sub answers. -/
def subK (a b : List Int) : Int := if val a < val b then 17 else 0
/-- The list that Sub answers. -/
def subL (a b : List Int) : List Int := if val a < val b then [] else num (val a - val b)
/-- What both answers of Sub say together: one list, one kind. -/
theorem sub_view {a b : List Int} {w' : World} {e : Ending} (h : val a < val b ∧ e = .returned (.tuple #[.slice none 0 0, .int .i64 17]) ∨ val b ≤ val a ∧ ∃ sv, e = .returned (.tuple #[sv, .int .i64 0]) ∧ U32 w' sv (num (val a - val b))) :
    ∃ sv, e = .returned (.tuple #[sv, .int .i64 (subK a b)]) ∧ U32 w' sv (subL a b) := by
  unfold subK subL
  rcases h with ⟨h1, rfl⟩ | ⟨h1, sv, rfl, h2⟩
  · exact ⟨_, by rw [if_pos h1], .inl ⟨⟨_, _, rfl⟩, by rw [if_pos h1]⟩⟩
  · exact ⟨sv, by rw [if_neg (by omega)], by rw [if_neg (by omega)]; exact h2⟩

set_option maxRecDepth 100000 in
set_option maxHeartbeats 4000000 in
theorem sums_walk (a b : List Int) (ha : a.length ≤ 9223372036854775807) (hb : b.length ≤ 9223372036854775807) (da : Dig a) (db : Dig b) (w : World) (pa pb : Option Addr) (ca cb : Nat) (hA : U32 w (.slice pa a.length ca) a) (hB : U32 w (.slice pb b.length cb) b) :
    Calls Tryd.prog 4 #[.slice pa a.length ca, .slice pb b.length cb] w fun e w' => e = .returned (.bool true) ∧ Below w.heap.size w w' := by
  have hl := light_two w pa pb a.length b.length ca cb ha hb
  have hb0 : Below w.heap.size w (w.alloc (.cells #[.slice pa a.length ca, .slice pb b.length cb] 23)) := (Below.refl _ _).alloc (Nat.le_refl _) _
  go_enter Tryd.func4, Tryd.ntmps4
  go_wp2_with fail
  refine hl.mono ?_
  clear hl
  rintro e w1 ⟨rfl, rfl⟩
  by_cases hlt : a.length ≤ 12 ∧ b.length ≤ 12
  · rw [show decide (a.length ≤ 12 ∧ b.length ≤ 12) = true by simpa using hlt]
    have hA1 := hA.go hb0
    have hB1 := hB.go hb0
    generalize (w.alloc (.cells #[.slice pa a.length ca, .slice pb b.length cb] 23)) = w1 at *
    go_wp2_with fail
    refine (sub_any hA1 hB1 da db (by omega) (by omega)).mono ?_
    rintro e w2 ⟨h2', hb2⟩
    obtain ⟨s2, rfl, h2⟩ := sub_view h2'
    clear h2'
    have hA2 := hA1.go hb2
    have hB2 := hB1.go hb2
    go_wp2_with fail
    refine (refSub_any hA2 hB2 da db (by omega) (by omega)).mono ?_
    rintro e w3 ⟨h3', hb3⟩
    obtain ⟨s3, rfl, h3⟩ := sub_view h3'
    clear h3'
    have h23 := h2.go hb3
    have hA3 := hA2.go hb3
    have hB3 := hB2.go hb3
    have hlS : (subL a b).length ≤ 12 := by
      unfold subL
      split
      · simp
      · refine num_len ?_
        have h1 := val_lt da
        have h2 := val_nonneg db
        have h3 := pB_le hlt.1
        omega
    generalize subL a b = S at *
    generalize subK a b = K at *
    have hK : (K == K) = true := by simp
    have hbl3 : Below w.heap.size w w3 := hb0.trans ((hb2.trans (hb3.mono hb2.size)).mono hb0.size)
    clear hA1 hB1 hA2 hB2 h2 hb2 hb3 hb0
    go_wp2_with fail
    refine (add_any hA3 hB3 da db (by omega) (by omega)).mono ?_
    rintro e w4 ⟨s4, rfl, h4, hb4⟩
    go_wp2_with fail
    refine (refAdd_any (hA3.go hb4) (hB3.go hb4) da db (by omega) (by omega)).mono ?_
    rintro e w5 ⟨s5, rfl, h5, hb5⟩
    have hlA : (num (val a + val b)).length ≤ 13 := by
      refine num_len ?_
      have h1 := val_lt da
      have h2 := val_lt db
      have h3 := pB_le hlt.1
      have h4 := pB_le hlt.2
      have h5 := pB_pos 12
      rw [show (13 : Nat) = 12 + 1 from rfl, pB_succ]
      omega
    go_wp2_with fail
    refine (same_any _ _ (by omega) (by omega) _ _ _ (h4.go hb5) h5).mono ?_
    rintro e w6 ⟨rfl, hb6⟩
    rw [show decide (num (val a + val b) = num (val a + val b)) = true by simp]
    have hB36 : Below w3.heap.size w3 w6 := hb4.trans ((hb5.trans (hb6.mono hb5.size)).mono hb4.size)
    have hbl6 : Below w.heap.size w w6 := hbl3.trans (hB36.mono hbl3.size)
    go_wp2_with fail
    refine (same_any _ _ (by omega) (by omega) _ _ _ (h23.go hB36) (h3.go hB36)).mono ?_
    rintro e w7 ⟨rfl, hb7⟩
    rw [show decide (S = S) = true by simp]
    have hbl7 : Below w.heap.size w w7 := hbl6.trans (hb7.mono hbl6.size)
    clear h4 h5 hb4 hb5 hb6 hb7 hB36 hbl3 hbl6
    go_wp2_with fail
    refine (alive_any _).mono ?_
    rintro e w10 ⟨rfl, hb10⟩
    go_wp2
    go_ret
    exact ⟨by simp, hbl7.trans (hb10.mono hbl7.size)⟩
  · rw [show decide (a.length ≤ 12 ∧ b.length ≤ 12) = false by simpa using hlt]
    go_wp2_with fail
    refine (alive_any _).mono ?_
    rintro e w2 ⟨rfl, hb2⟩
    go_wp2
    go_ret
    exact ⟨rfl, hb0.trans (hb2.mono hb0.size)⟩

end Go.Proofs.YtkalknmindgljaaDoor
