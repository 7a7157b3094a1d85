/-
  What the reference tells of bridges, against an edge's two sides. No program in this text.
-/
import Derived.Test.YtonfhkdciaiilaaXFcBriM
import Derived.Test.YtonfhkdciaiilaaXRRefBri
namespace Go.Proofs.Ytonfhkdciaiilaa
open Go Go.Proofs Go.RowKit

theorem conn_adjS {A B : List Ed} (sub : ∀ x y, Adj A x y → Adj B x y) {u v : Nat} (h : Conn A u v) : Conn B u v := by
  induction h using Conn.ind with
  | refl => exact .refl _
  | step h1 _ ih => exact .step (sub _ _ h1) ih
theorem bri_side {N : Nat} {l : List Ed} {r : List (List Int)} (hR : RightG (N : Int) l) (hS : SysR N l r) (hp : planeK (numsL N l r) = 0) {p : Nat} (hl : p < l.length) :
    briP N l p = decide (faceOf (facesL N l r) (l[p].1, l[p].2.1) = faceOf (facesL N l r) (l[p].2.1, l[p].1)) := by
  have hok := hR.each l[p] (List.getElem_mem hl)
  unfold okE at hok
  obtain ⟨a, ha⟩ : ∃ a : Nat, l[p].1 = (a : Int) := ⟨l[p].1.toNat, by omega⟩
  obtain ⟨b, hb⟩ : ∃ b : Nat, l[p].2.1 = (b : Int) := ⟨l[p].2.1.toNat, by omega⟩
  have hd : l = l.take p ++ l[p] :: l.drop (p + 1) := by rw [← List.drop_eq_getElem_cons hl, List.take_append_drop]
  have hsb := side_bridge (N := N) (r := r) (l1 := l.take p) (l2 := l.drop (p + 1)) (e := l[p]) (by rw [← hd]; exact hR) (by rw [← hd]; exact hS) (by rw [← hd]; exact hp) ha hb
  rw [← hd] at hsb
  have hj : Joins l p a b := ⟨l[p], List.getElem?_eq_getElem hl, .inl ⟨by omega, by omega⟩⟩
  have hRl : RightG (N : Int) (lessG l p) := keep_right hR _
  have hbi := bridge_iff hR (right_ends hRl) hj (lessG_adj hR p)
  have hadj : ∀ x y, Adj (lessG l p) x y ↔ Adj (l.take p ++ l.drop (p + 1)) x y := fun x y => by
    rw [lessG_adj hR p x y]
    constructor
    · rintro ⟨k, ⟨f, hf, hfe⟩, hkp⟩
      obtain ⟨hk, rfl⟩ := List.getElem?_eq_some_iff.1 hf
      refine ⟨l[k], ?_, by
        rcases hfe with ⟨a1, a2⟩ | ⟨a1, a2⟩
        · exact .inl ⟨by omega, by omega⟩
        · exact .inr ⟨by omega, by omega⟩⟩
      rw [List.mem_append]
      rcases Nat.lt_or_gt_of_ne hkp with h | h
      · exact .inl (List.mem_take_iff_getElem.2 ⟨k, by omega, rfl⟩)
      · exact .inr (List.mem_drop_iff_getElem.2 ⟨k - (p + 1), by omega, by congr 1; omega⟩)
    · rintro ⟨f, hf, hfe⟩
      have key : ∃ k, ∃ hk : k < l.length, l[k] = f ∧ k ≠ p := by
        rcases List.mem_append.1 hf with h | h
        · obtain ⟨k, hk, e⟩ := List.mem_take_iff_getElem.1 h
          exact ⟨k, by omega, e, by omega⟩
        · obtain ⟨k, hk, e⟩ := List.mem_drop_iff_getElem.1 h
          exact ⟨p + 1 + k, by omega, e, by omega⟩
      obtain ⟨k, hk, rfl, hkp⟩ := key
      have hfok := hR.each l[k] (List.getElem_mem hk)
      unfold okE at hfok
      refine ⟨k, ⟨l[k], List.getElem?_eq_getElem hk, ?_⟩, hkp⟩
      rcases hfe with ⟨a1, a2⟩ | ⟨a1, a2⟩
      · exact .inl ⟨by omega, by omega⟩
      · exact .inr ⟨by omega, by omega⟩
  unfold briP
  rw [ha, hb, decide_eq_decide, hbi, hsb]
  exact ⟨fun h hc => h (conn_adjS (fun x y => (hadj x y).2) hc), fun h hc => h (conn_adjS (fun x y => (hadj x y).1) hc)⟩
theorem thoseL_has {pr : Nat → Bool} {n p : Nat} (hp : p < n) : inB (thoseL pr n) (p : Int) = pr p := by
  unfold inB thoseL
  rw [Bool.eq_iff_iff]
  simp
  constructor
  · rintro ⟨q, ⟨_, h⟩, e⟩
    have : q = p := by omega
    rwa [this] at h
  · intro h
    exact ⟨p, ⟨hp, h⟩, rfl⟩
end Go.Proofs.Ytonfhkdciaiilaa
