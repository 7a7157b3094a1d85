/-
  Contracts of the document's answers (filigreeref01): bits, at, Cmp.
-/
import Derived.Maps.AppendAt
import Derived.Test.YtkalknmindgljabDoorCmp
import Derived.Test.YtkalknmindgljabDoorNums2
namespace Go.Proofs.YtkalknmindgljabDoor
open Go Go.Proofs Go.RowKit Go.Shelf

theorem info5 : (Tryd.prog.info? 5).map (fun i => (i.zero, i.size, i.bytes)) = some (some (.int .u8 0), 1, 1) := by kernel_rfl

theorem owns_ge {w : World} {base : Nat} {e : TypeId} {size : Nat} {v : Value} {n : Nat} {xs : List Value} (h : w.ownsRow base e size v n xs) {i : Nat} (hi : v.ownBlock = some i) : base ≤ i := by
  rcases h.2 with ⟨rfl, _⟩ | ⟨g, cap, cur, rfl, hb, _⟩
  · cases hi
  · cases hi; exact hb
theorem and1_u32 (x : Int) (h0 : 0 ≤ x) (h1 : x < 4294967296) : bits BinOp.and IntKind.u32 x 1 = x % 2 := by
  rw [u32_and x 1 h0 h1 (by omega) (by omega)]
  have : x.toNat &&& (1 : Int).toNat = x.toNat % 2 := Nat.and_two_pow_sub_one_eq_mod x.toNat 1
  rw [this]
  omega
theorem div_pow_lt {x : Int} (h0 : 0 ≤ x) (h1 : x < 4294967296) (j : Nat) : 0 ≤ x / 2 ^ j ∧ x / 2 ^ j < 4294967296 :=
  ⟨Int.ediv_nonneg h0 (Int.le_of_lt (pow_pos2 j)), Int.lt_of_le_of_lt (Int.ediv_le_self _ h0) h1⟩

end Go.Proofs.YtkalknmindgljabDoor
