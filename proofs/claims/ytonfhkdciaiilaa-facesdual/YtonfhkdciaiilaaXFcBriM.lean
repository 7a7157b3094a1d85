/-
  An edge's two sides are one face just if it is a bridge; each face is told as often as it has darts. No program in this text.
-/
import Derived.Test.YtonfhkdciaiilaaXFcSideM
import Derived.Test.YtonfhkdciaiilaaXRFaceM
import Derived.Test.YtonfhkdciaiilaaXRRefRight
import Derived.Test.YtonfhkdciaiilaaXRRefFM
namespace Go.Proofs.Ytonfhkdciaiilaa
open Go Go.Proofs Go.RowKit

theorem edge_darts {N : Nat} {l : List Ed} (hR : RightG (N : Int) l) {e : Ed} (he : e ∈ l) : (e.1, e.2.1) ∈ dartsL N l ∧ (e.2.1, e.1) ∈ dartsL N l := by
  have hok := hR.each e he
  unfold okE at hok
  obtain ⟨a, ha⟩ : ∃ a : Nat, e.1 = (a : Int) := ⟨e.1.toNat, by omega⟩
  obtain ⟨b, hb⟩ : ∃ b : Nat, e.2.1 = (b : Int) := ⟨e.2.1.toNat, by omega⟩
  refine ⟨dartsL_mem.2 ⟨a, by omega, ha, ?_⟩, dartsL_mem.2 ⟨b, by omega, hb, ?_⟩⟩
  · exact mem_nb.2 ⟨e, he, .inl ⟨ha, rfl⟩⟩
  · exact mem_nb.2 ⟨e, he, .inr ⟨by omega, hb, rfl⟩⟩
/-- The face of a dart has it. -/
theorem faceOf_mem {F : List (List Dt)} (hn : F.flatten.Nodup) {d : Dt} (hd : d ∈ F.flatten) : ∃ (i : Nat) (hi : i < F.length), faceOf F d = (i : Int) ∧ d ∈ F[i] ∧ ∀ (k : Nat) (hk : k < F.length), d ∈ F[k] → k = i := by
  obtain ⟨f, hf, hdf⟩ := List.mem_flatten.1 hd
  obtain ⟨i, hi, rfl⟩ := List.mem_iff_getElem.1 hf
  have e := faceOf_at hn hi hdf
  refine ⟨i, hi, e, hdf, fun k hk h => ?_⟩
  have := faceOf_at hn hk h
  omega
theorem side_bridge {N : Nat} {r : List (List Int)} {l1 l2 : List Ed} {e : Ed} (hR : RightG (N : Int) (l1 ++ e :: l2)) (hS : SysR N (l1 ++ e :: l2) r) (hp : planeK (numsL N (l1 ++ e :: l2) r) = 0) {a b : Nat} (ha : e.1 = (a : Int)) (hb : e.2.1 = (b : Int)) :
    faceOf (facesL N (l1 ++ e :: l2) r) ((a : Int), (b : Int)) = faceOf (facesL N (l1 ++ e :: l2) r) ((b : Int), (a : Int)) ↔ ¬ Conn (l1 ++ l2) a b := by
  rw [← face_bridge hR hS hp ha hb]
  have hF := faces_dec hR hS
  obtain ⟨m1, m2⟩ := edge_darts hR (e := e) (by simp)
  rw [ha, hb] at m1 m2
  obtain ⟨i, hi, e1, d1, u1⟩ := faceOf_mem hF.nodup ((hF.mem _).2 m1)
  obtain ⟨k, hk, e2, d2, u2⟩ := faceOf_mem hF.nodup ((hF.mem _).2 m2)
  rw [e1, e2]
  constructor
  · intro h
    have : i = k := by omega
    subst this
    exact ⟨_, List.getElem_mem hi, d1, d2⟩
  · rintro ⟨f, hf, h1, h2⟩
    obtain ⟨q, hq, rfl⟩ := List.mem_iff_getElem.1 hf
    have := u1 q hq h1
    have := u2 q hq h2
    omega
theorem perm_subD : ∀ (A B : List Dt), A.Nodup → (∀ x ∈ A, x ∈ B) → B.length ≤ A.length → A.Perm B
  | [], B, _, _, h => by
    have : B = [] := List.eq_nil_of_length_eq_zero (by simpa using h)
    rw [this]
  | a :: A, B, hn, hs, hl => by
    have ha : a ∈ B := hs a (by simp)
    have hp := List.perm_cons_erase ha
    rw [List.nodup_cons] at hn
    refine List.Perm.trans (List.Perm.cons a (perm_subD A (B.erase a) hn.2 (fun x hx => ?_) ?_)) hp.symm
    · refine (List.mem_erase_of_ne ?_).2 (hs x (by simp [hx]))
      intro e
      rw [e] at hx
      exact hn.1 hx
    · rw [List.length_erase_of_mem ha]
      simp at hl
      omega
/-- Each face is told as often as it has darts. -/
theorem side_count {N : Nat} {l : List Ed} {r : List (List Int)} (hR : RightG (N : Int) l) (hS : SysR N l r) {i : Nat} (hi : i < (facesL N l r).length) :
    (l.countP fun e => decide (faceOf (facesL N l r) (e.1, e.2.1) = (i : Int))) + (l.countP fun e => decide (faceOf (facesL N l r) (e.2.1, e.1) = (i : Int))) = (facesL N l r)[i].length := by
  have hF := faces_dec hR hS
  have hsub : ∀ d ∈ dartsL N l, d ∈ l.map (fun e : Ed => ((e.1, e.2.1) : Dt)) ++ l.map (fun e : Ed => ((e.2.1, e.1) : Dt)) := fun d hd => by
    obtain ⟨u, hu, h1, h2⟩ := dartsL_mem.1 hd
    obtain ⟨e, he, h | h⟩ := mem_nb.1 h2
    · exact List.mem_append_left _ (List.mem_map.2 ⟨e, he, by rw [← h1] at h; exact Prod.ext h.1 h.2⟩)
    · exact List.mem_append_right _ (List.mem_map.2 ⟨e, he, by rw [← h1] at h; exact Prod.ext h.2.1 h.2.2⟩)
  have hperm : (dartsL N l).Perm (l.map (fun e : Ed => ((e.1, e.2.1) : Dt)) ++ l.map (fun e : Ed => ((e.2.1, e.1) : Dt))) := by
    refine perm_subD _ _ (dartsL_nodup hR) hsub ?_
    rw [List.length_append, List.length_map, List.length_map, dartsL_two hR]
    omega
  have hc := hperm.countP_eq (fun d => decide (faceOf (facesL N l r) d = (i : Int)))
  rw [List.countP_append, List.countP_map, List.countP_map] at hc
  have hnF : (facesL N l r)[i].Nodup := (List.pairwise_flatten.1 hF.nodup).1 _ (List.getElem_mem hi)
  have hp2 : ((dartsL N l).filter fun d => decide (faceOf (facesL N l r) d = (i : Int))).Perm (facesL N l r)[i] := by
    refine (List.perm_ext_iff_of_nodup (List.Pairwise.filter _ (dartsL_nodup hR)) hnF).2 fun d => ?_
    rw [List.mem_filter, decide_eq_true_eq]
    constructor
    · rintro ⟨h1, h2⟩
      obtain ⟨k, hk, e, hm, _⟩ := faceOf_mem hF.nodup ((hF.mem _).2 h1)
      have : k = i := by omega
      subst this
      exact hm
    · intro h
      exact ⟨(hF.mem _).1 (List.mem_flatten.2 ⟨_, List.getElem_mem hi, h⟩), faceOf_at hF.nodup hi h⟩
  have := hp2.length_eq
  rw [← List.countP_eq_length_filter] at this
  rw [← this, hc]
  rfl
end Go.Proofs.Ytonfhkdciaiilaa
