/-
  The contracts of the numbers' functions, said over what a list means: Num x m a (the list a of at most m limbs means x), Nrm x m a (it is x's normal list).
-/
import Derived.Test.YtkalknmindgljaaDoorMul
import Derived.Test.YtkalknmindgljaaDoorSub
import Derived.Test.YtkalknmindgljaaDoorCmp
namespace Go.Proofs.YtkalknmindgljaaDoor
open Go Go.Proofs Go.RowKit Go.Shelf

structure Num (x : Int) (m : Nat) (a : List Int) : Prop where
  val : val a = x
  dig : Dig a
  len : a.length ≤ m
structure Nrm (x : Int) (m : Nat) (a : List Int) : Prop where
  eq : a = num x
  pos : 0 ≤ x
  len : a.length ≤ m
theorem Num.pos {x : Int} {m : Nat} {a : List Int} (h : Num x m a) : 0 ≤ x := by rw [← h.val]; exact val_nonneg h.dig
theorem Num.lt {x : Int} {m : Nat} {a : List Int} (h : Num x m a) : x < pB m := by
  have h1 := val_lt h.dig
  have h2 := pB_le h.len
  rw [← h.val]; omega
theorem Nrm.num {x : Int} {m : Nat} {a : List Int} (h : Nrm x m a) : Num x m a := ⟨by rw [h.eq, num_val h.pos], by rw [h.eq]; exact num_dig _, h.len⟩
theorem Nrm.of {x : Int} {m : Nat} (h0 : 0 ≤ x) (h : x < pB m) : Nrm x m (Go.Proofs.YtkalknmindgljaaDoor.num x) := ⟨rfl, h0, num_len h⟩
theorem mul_lt {x y p q : Int} (hx : 0 ≤ x ∧ x < p) (hy : 0 ≤ y ∧ y < q) : x * y < p * q := by
  have h1 : x * y ≤ p * y := Int.mul_le_mul_of_nonneg_right (by omega) hy.1
  have h2 : p * y < p * q := Int.mul_lt_mul_of_pos_left hy.2 (by omega)
  omega
theorem lt_mul {x y : Int} {m n : Nat} {a b : List Int} (ha : Num x m a) (hb : Num y n b) : x * y < pB (m + n) := by
  rw [pB_add]; exact mul_lt ⟨ha.pos, ha.lt⟩ ⟨hb.pos, hb.lt⟩
theorem lt_add {x y : Int} {m n : Nat} {a b : List Int} (ha : Num x m a) (hb : Num y n b) : x + y < pB (m + n + 1) := by
  have h1 := ha.lt
  have h2 := hb.lt
  have h3 := pB_le (show m ≤ m + n by omega)
  have h4 := pB_le (show n ≤ m + n by omega)
  have h5 := pB_pos (m + n)
  rw [pB_succ]; omega
theorem mul_made {x y : Int} {m n : Nat} {a b : List Int} {w : World} {sa sb : Value} (ma : Num x m a) (mb : Num y n b) (hm : m ≤ 100000) (hn : n ≤ 100000) (hA : U32 w sa a) (hB : U32 w sb b) :
    Calls Tryd.prog 22 #[sa, sb] w fun e w' => ∃ sv L, e = .returned sv ∧ U32 w' sv L ∧ Nrm (x * y) (m + n) L ∧ Below w.heap.size w w' := by
  have := ma.len
  have := mb.len
  refine (mul_any hA hB ma.dig mb.dig (by omega) (by omega)).mono ?_
  rintro e w' ⟨sv, rfl, h, hb⟩
  rw [ma.val, mb.val] at h
  exact ⟨sv, _, rfl, h, Nrm.of (Int.mul_nonneg ma.pos mb.pos) (lt_mul ma mb), hb⟩
theorem add_made {x y : Int} {m n : Nat} {a b : List Int} {w : World} {sa sb : Value} (ma : Num x m a) (mb : Num y n b) (hm : m ≤ 100000) (hn : n ≤ 100000) (hA : U32 w sa a) (hB : U32 w sb b) :
    Calls Tryd.prog 20 #[sa, sb] w fun e w' => ∃ sv L, e = .returned sv ∧ U32 w' sv L ∧ Nrm (x + y) (m + n + 1) L ∧ Below w.heap.size w w' := by
  have := ma.len
  have := mb.len
  have := ma.pos
  have := mb.pos
  refine (add_any hA hB ma.dig mb.dig (by omega) (by omega)).mono ?_
  rintro e w' ⟨sv, rfl, h, hb⟩
  rw [ma.val, mb.val] at h
  exact ⟨sv, _, rfl, h, Nrm.of (by omega) (lt_add ma mb), hb⟩
theorem sub_made {x y : Int} {m n : Nat} {a b : List Int} {w : World} {sa sb : Value} (ma : Num x m a) (mb : Num y n b) (hm : m ≤ 100000) (hn : n ≤ 100000) (hA : U32 w sa a) (hB : U32 w sb b) (hle : y ≤ x) :
    Calls Tryd.prog 18 #[sa, sb] w fun e w' => ∃ sv L, e = .returned (.tuple #[sv, .int .i64 0]) ∧ U32 w' sv L ∧ Nrm (x - y) m L ∧ Below w.heap.size w w' := by
  have := ma.len
  have := mb.len
  have := ma.lt
  have := mb.pos
  refine (sub_any hA hB ma.dig mb.dig (by omega) (by omega)).mono ?_
  rintro e w' ⟨h | ⟨_, sv, rfl, h⟩, hb⟩
  · have := ma.val
    have := mb.val
    omega
  · rw [ma.val, mb.val] at h
    exact ⟨sv, _, rfl, h, Nrm.of (by omega) (by omega), hb⟩
theorem refNorm_made {x : Int} {m : Nat} {a : List Int} {w : World} {sa : Value} (ma : Num x m a) (hm : m ≤ 100000) (hA : U32 w sa a) :
    Calls Tryd.prog 15 #[sa] w fun e w' => ∃ sv L, e = .returned sv ∧ U32 w' sv L ∧ Nrm x m L ∧ Below w.heap.size w w' := by
  have := ma.len
  refine (refNorm_any a (by omega) _ _ hA).mono ?_
  rintro e w' ⟨sv, rfl, h, hb⟩
  rw [trimL_num ma.dig, ma.val] at h
  exact ⟨sv, _, rfl, h, Nrm.of ma.pos ma.lt, hb⟩
theorem same_made {x y : Int} {m n : Nat} {a b : List Int} {w : World} {sa sb : Value} (ma : Nrm x m a) (mb : Nrm y n b) (hm : m ≤ 100000) (hn : n ≤ 100000) (hA : U32 w sa a) (hB : U32 w sb b) (he : x = y) :
    Calls Tryd.prog 11 #[sa, sb] w fun e w' => e = .returned (.bool true) ∧ Below w.heap.size w w' := by
  have := ma.len
  have := mb.len
  refine (same_any _ _ (by omega) (by omega) _ _ _ hA hB).mono ?_
  rintro e w' ⟨rfl, hb⟩
  rw [show decide (a = b) = true by rw [ma.eq, mb.eq, he]; simp]
  exact ⟨rfl, hb⟩
theorem cmp_made {x y : Int} {m n : Nat} {a b : List Int} {w : World} {sa sb : Value} (ma : Num x m a) (mb : Num y n b) (hm : m ≤ 100000) (hn : n ≤ 100000) (hA : U32 w sa a) (hB : U32 w sb b) :
    Calls Tryd.prog 16 #[sa, sb] w fun e w' => e = .returned (.int .i64 (cmpI x y)) ∧ Below w.heap.size w w' := by
  have := ma.len
  have := mb.len
  refine (cmp_any hA hB ma.dig mb.dig (by omega) (by omega)).mono ?_
  rintro e w' ⟨rfl, hb⟩
  rw [ma.val, mb.val]
  exact ⟨rfl, hb⟩

end Go.Proofs.YtkalknmindgljaaDoor
