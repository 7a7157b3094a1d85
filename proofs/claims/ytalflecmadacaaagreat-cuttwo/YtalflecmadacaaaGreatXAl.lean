import Derived.WalkKit
set_option maxRecDepth 100000
set_option maxHeartbeats 8000000
namespace Go.Proofs.YtalflecmadacaaaGreat
open Go Go.Proofs Go.RowKit
theorem YA {n : Nat} : n ≤ n := Nat.le_refl n
theorem YB {α : Type _} {l : List α} {i : Nat} (h : i < l.length) : l[i]? = some l[i] := List.getElem?_eq_getElem h
theorem YC {α : Type _} {l : List α} {i : Nat} {a : α} : l.getD i a = l[i]?.getD a := List.getD_eq_getElem?_getD
theorem YD {n : Nat} {w : World} : Below n w w := Below.refl n w
theorem YE {α : Type _} {l : List α} {i : Nat} {a : α} (h : l[i]? = some a) : ∃ h : i < l.length, l[i] = a := List.getElem?_eq_some_iff.1 h
theorem YF {α : Type _} {a b : α} (h : a ∈ [b]) : a = b := List.mem_singleton.1 h
theorem YG {α : Type _} {l : List α} {n : Nat} (h : n < l.length) : l[n] ∈ l := List.getElem_mem h
theorem YH {α β : Type _} {f : α → β} {l : List α} {i : Nat} : (l.map f)[i]? = l[i]?.map f := List.getElem?_map
theorem YI {α : Type _} {a b : List α} : (a ++ b).length = a.length + b.length := List.length_append
theorem YJ {α : Type _} {a : α} {s t : List α} (h : a ∈ s ++ t) : a ∈ s ∨ a ∈ t := List.mem_append.1 h
theorem YK {α : Type _} {l : List α} {i : Nat} {a : α} (h : l[i]? = some a) : a ∈ l := List.mem_of_getElem? h
theorem YL {α : Type _} {l : List α} {i : Nat} (h : l.length ≤ i) : l[i]? = none := List.getElem?_eq_none h
theorem YM (n : Nat) : (n : Int).toNat = n := Int.toNat_natCast n
theorem YN {n : Nat} : 0 ≤ n := Nat.zero_le n
theorem YO {v : Value} (h : v.oneCell' = true := by rfl) : ∀ z ∈ [v], z.oneCell' = true := fun z hz => by rw [List.mem_singleton.1 hz]; exact h
end Go.Proofs.YtalflecmadacaaaGreat
