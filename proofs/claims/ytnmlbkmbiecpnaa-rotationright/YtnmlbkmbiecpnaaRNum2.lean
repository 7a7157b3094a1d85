/-
  What rotation.numbers holds in memory; steps of its lists.
-/
import Derived.Test.YtnmlbkmbiecpnaaRNum1
namespace Go.Proofs.Ytnmlbkmbiecpnaa
open Go Go.Proofs Go.RowKit

/-- Lists of vertices, each with one at least. -/
structure CompsOK (N : Nat) (C : List (List Int)) : Prop where
  few : C.length ≤ N
  pos : 0 < N → 0 < C.length
  ne : ∀ x ∈ C, x ≠ []
  len : ∀ x ∈ C, x.length ≤ N
  mem : ∀ x ∈ C, ∀ v ∈ x, ∃ u : Nat, v = (u : Int) ∧ u < N
/-- The list's row, its variable, the row 'of', its variable. -/
structure NW (w2 : World) (lb lvb ob ovb n N : Nat) (O L : List Int) (W : World) : Prop where
  lst : Blk 3 W lb (L.map (Value.int .i64))
  lv : Blk 41 W lvb [.slice (some ⟨lb, 0, none⟩) n n]
  ofs : Blk 3 W ob (O.map (Value.int .i64))
  ov : Blk 41 W ovb [.slice (some ⟨ob, 0, none⟩) N N]
  below : Below lb w2 W
  len : L.length = n
  olen : O.length = N
  o1 : lb < lvb
  o2 : lvb < ob
  o3 : ob < ovb
section
variable {w2 : World} {lb lvb ob ovb n N : Nat} {O L : List Int} {W : World}
theorem NW.setL (h : NW w2 lb lvb ob ovb n N O L W) (k : Nat) (x : Int) : NW w2 lb lvb ob ovb n N O (L.set k x) (W.setCell ⟨lb, k, none⟩ (.int .i64 x)) := by
  have h1 := h.o1
  have h2 := h.o2
  have h3 := h.o3
  exact ⟨by rw [List.map_set]; exact h.lst.set k _, h.lv.other (by simp; omega) _, h.ofs.other (by simp; omega) _, h.ov.other (by simp; omega) _, h.below.setCell (p := ⟨lb, k, none⟩) (Nat.le_refl _) _, by simpa using h.len, h.olen, h1, h2, h3⟩
theorem NW.setO (h : NW w2 lb lvb ob ovb n N O L W) (k : Nat) (x : Int) : NW w2 lb lvb ob ovb n N (O.set k x) L (W.setCell ⟨ob, k, none⟩ (.int .i64 x)) := by
  have h1 := h.o1
  have h2 := h.o2
  have h3 := h.o3
  exact ⟨h.lst.other (by simp; omega) _, h.lv.other (by simp; omega) _, by rw [List.map_set]; exact h.ofs.set k _, h.ov.other (by simp; omega) _, h.below.setCell (p := ⟨ob, k, none⟩) (by simp; omega) _, h.len, by simpa using h.olen, h1, h2, h3⟩
theorem NW.go {B : World} (h : NW w2 lb lvb ob ovb n N O L W) (hb : Below W.heap.size W B) : NW w2 lb lvb ob ovb n N O L B :=
  ⟨h.lst.go hb, h.lv.go hb, h.ofs.go hb, h.ov.go hb, h.below.trans (hb.mono (by have := h.lst.lt; omega)), h.len, h.olen, h.o1, h.o2, h.o3⟩
theorem NW.cellL (h : NW w2 lb lvb ob ovb n N O L W) {k : Nat} (hk : k < n) : W.cell? ⟨lb, k, none⟩ = some (.int .i64 (L.getD k 0)) := h.lst.cell (by
  have := h.len
  rw [List.getElem?_map, List.getElem?_eq_getElem (by omega), List.getD_eq_getElem?_getD, List.getElem?_eq_getElem (by omega)]
  rfl)
theorem NW.cellO (h : NW w2 lb lvb ob ovb n N O L W) {k : Nat} (hk : k < N) : W.cell? ⟨ob, k, none⟩ = some (.int .i64 (O.getD k 0)) := h.ofs.cell (by
  have := h.olen
  rw [List.getElem?_map, List.getElem?_eq_getElem (by omega), List.getD_eq_getElem?_getD, List.getElem?_eq_getElem (by omega)]
  rfl)
end
theorem liC_len (C r : List (List Int)) (j : Nat) : (liC C r j).length = C.length := by simp [liC]
theorem liC_at {C r : List (List Int)} {j i : Nat} (hi : i < C.length) : (liC C r j).getD i 0 = if i < j then ((C.getD i []).length : Int) + hd0 r (C.getD i []) else 0 := by
  unfold liC
  rw [List.getD_eq_getElem?_getD, List.getElem?_map, List.getElem?_eq_getElem (by simpa using hi)]
  simp
theorem liC_zero (C r : List (List Int)) : liC C r 0 = List.replicate C.length 0 := by
  unfold liC
  refine List.ext_getElem (by simp) fun i h1 h2 => ?_
  simp
theorem liC_step {C r : List (List Int)} {j : Nat} : liC C r (j + 1) = (liC C r j).set j (((C.getD j []).length : Int) + hd0 r (C.getD j [])) := by
  unfold liC
  refine List.ext_getElem (by simp) fun i h1 h2 => ?_
  rw [List.getElem_set]
  simp only [List.getElem_map, List.getElem_range]
  by_cases h : j = i
  · subst h
    simp
  · rw [if_neg h]
    by_cases h3 : i < j
    · rw [if_pos h3, if_pos (by omega)]
    · rw [if_neg h3, if_neg (by omega)]
theorem liC_betw {N : Nat} {C r : List (List Int)} (hC : CompsOK N C) (j : Nat) : Betw 0 (N + 1) (liC C r j) := by
  intro i
  by_cases hi : i < C.length
  · rw [liC_at hi]
    split
    · have h1 : C.getD i [] ∈ C := by rw [List.getD_eq_getElem?_getD, List.getElem?_eq_getElem hi]; exact List.getElem_mem hi
      have h2 := hC.len _ h1
      unfold hd0
      split <;> omega
    · omega
  · rw [List.getD_eq_getElem?_getD, List.getElem?_eq_none (by rw [liC_len]; omega)]
    simp
    omega
theorem ofRow_take {O xs : List Int} {i : Int} {k : Nat} (hk : k < xs.length) : ofRow O (xs.take (k + 1)) i = (ofRow O (xs.take k) i).set (xs[k]).toNat i := by
  unfold ofRow
  rw [List.take_add_one, List.foldl_append, List.getElem?_eq_getElem hk]
  rfl
theorem ofRow_ok {n N : Nat} {i : Nat} (hi : i < n) : ∀ (xs : List Int) (O : List Int), (∀ v, v < N → ∃ k : Nat, O.getD v 0 = (k : Int) ∧ k < n) → ∀ v, v < N → ∃ k : Nat, (ofRow O xs (i : Int)).getD v 0 = (k : Int) ∧ k < n
  | [], _, h => h
  | x :: xs, O, h => by
    have := ofRow_ok (N := N) hi xs (O.set x.toNat (i : Int)) (fun v hv => by
      rw [set_getD]
      split
      · exact ⟨i, rfl, hi⟩
      · exact h v hv)
    unfold ofRow at *
    rw [List.foldl_cons]
    exact this
theorem ofC_ok {N : Nat} {C : List (List Int)} (hC : CompsOK N C) : ∀ j, j ≤ C.length → ∀ v, v < N → ∃ k : Nat, (ofC N C j).getD v 0 = (k : Int) ∧ k < C.length
  | 0, _ => fun v hv => ⟨0, by simp [ofC, List.getD_eq_getElem?_getD, hv], hC.pos (by omega)⟩
  | j + 1, hj => ofRow_ok (by omega) _ _ (ofC_ok hC j (by omega))
theorem liE_take {O L : List Int} {es : List Ed} {k : Nat} (hk : k < es.length) : liE O L (es.take (k + 1)) = bumpL (liE O L (es.take k)) (O.getD (es[k]).1.toNat 0).toNat (-1) := by
  unfold liE
  rw [List.take_add_one, List.foldl_append, List.getElem?_eq_getElem hk]
  rfl
theorem liE_betw {O L : List Int} {a b : Int} (h : Betw a b L) : ∀ es : List Ed, Betw (a - es.length) b (liE O L es) := by
  intro es
  induction es generalizing L a with
  | nil => simpa [liE] using h
  | cons e es ih =>
    have h1 : Betw (a - 1) b (bumpL L (O.getD e.1.toNat 0).toNat (-1)) := fun i => by
      have h1 := h i
      have h2 := h (O.getD e.1.toNat 0).toNat
      rw [bumpL_at]
      split <;> omega
    have h2 := ih h1
    intro i
    have h3 := h2 i
    have e1 : liE O L (e :: es) = liE O (bumpL L (O.getD e.1.toNat 0).toNat (-1)) es := rfl
    rw [e1]
    simp only [List.length_cons]
    omega
end Go.Proofs.Ytnmlbkmbiecpnaa
