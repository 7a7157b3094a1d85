/-
  Darts gathered by where they begin; lists that were just made. No program in this text but memory's.
-/
import Derived.Test.YtnmlbkmbiecpnaaXRNumAt
import Derived.Test.YtnmlbkmbiecpnaaXRSame
import Derived.Test.YtnmlbkmbiecpnaaXPHas
namespace Go.Proofs.Ytnmlbkmbiecpnaa
open Go Go.Proofs Go.RowKit

theorem Grp.made {h0 g N : Nat} {W : World} (h : W.ownsRow h0 41 1 (.slice (some ⟨g, 0, none⟩) N N) N (madeCells (Value.slice none 0 0).cells (N * 1)).toList) : Grp h0 (.slice (some ⟨g, 0, none⟩) N N) (List.replicate N (.slice none 0 0)) (List.replicate N []) W := by
  rw [slices_madeK] at h
  have hnil : ∀ {k : Nat} {sv : Value}, (List.replicate N (Value.slice none 0 0))[k]? = some sv → sv = .slice none 0 0 := fun {k sv} hk => by
    have := List.mem_of_getElem? hk
    exact (List.mem_replicate.1 this).2
  refine ⟨by simp, by rw [List.length_replicate]; exact h, fun k sv xs h1 h2 => ?_, fun k j sv sv' h1 h2 _ => .inl (by rw [hnil h1]; rfl), fun k sv h1 => .inl (by rw [hnil h1]; rfl)⟩
  have e1 := hnil h1
  have e2 : xs = [] := (List.mem_replicate.1 (List.mem_of_getElem? h2)).2
  subst e1; subst e2
  exact World.ownsRow_nil _ _ _ _
/-- The darts by where they begin. -/
def atL (N : Nat) (P : List Dt) : List (List Int) := (List.range N).map fun (u : Nat) => (P.filter fun d => decide (d.1 = (u : Int))).map fun d => d.2
theorem atL_nil (N : Nat) : atL N [] = List.replicate N [] := by
  unfold atL
  rw [List.eq_replicate_iff]
  simp
theorem atL_len (N : Nat) (P : List Dt) : (atL N P).length = N := by simp [atL]
theorem atL_at {N u : Nat} (P : List Dt) (hu : u < N) : (atL N P)[u]? = some ((P.filter fun d => decide (d.1 = (u : Int))).map fun d => d.2) := by
  unfold atL
  rw [List.getElem?_map, List.getElem?_range hu]
  rfl
theorem atL_push {N u : Nat} {P : List Dt} {d : Dt} (hd : d.1 = (u : Int)) : atL N (P ++ [d]) = (atL N P).set u ((P.filter fun d => decide (d.1 = (u : Int))).map (fun d => d.2) ++ [d.2]) := by
  apply List.ext_getElem?
  intro k
  by_cases hk : k < N
  · rw [atL_at _ hk, List.getElem?_set, atL_len]
    by_cases e : u = k
    · subst e
      rw [if_pos rfl, if_pos hk, List.filter_append, List.map_append]
      simp [hd]
    · rw [if_neg e, atL_at _ hk, List.filter_append, List.map_append]
      have : ¬ d.1 = (k : Int) := by omega
      simp [this]
  · rw [List.getElem?_eq_none (by rw [atL_len]; omega), List.getElem?_eq_none (by rw [List.length_set, atL_len]; omega)]
theorem atL_new {u : Nat} {P : List Dt} {d : Dt} (hd : d.1 = (u : Int)) (h : d ∉ P) : d.2 ∉ (P.filter fun d => decide (d.1 = (u : Int))).map fun d => d.2 := by
  intro hm
  obtain ⟨x, hx, e⟩ := List.mem_map.1 hm
  obtain ⟨h1, h2⟩ := List.mem_filter.1 hx
  have h3 : x.1 = (u : Int) := by simpa using h2
  have : x = d := by
    obtain ⟨x1, x2⟩ := x
    obtain ⟨d1, d2⟩ := d
    simp only at hd e h3
    rw [h3, e, hd]
  rw [this] at h1
  exact h h1
theorem atL_short (N : Nat) (P : List Dt) : ∀ x ∈ atL N P, x.length ≤ P.length := by
  intro x hx
  unfold atL at hx
  obtain ⟨u, _, rfl⟩ := List.mem_map.1 hx
  rw [List.length_map]
  exact List.length_filter_le _ _
/-- The darts ahead of a place of a face. -/
def preF (fs : List (List Dt)) (i j : Nat) : List Dt := (fs.take i).flatten ++ (fs.getD i []).take j
theorem preF_start (fs : List (List Dt)) : preF fs 0 0 = [] := by simp [preF]
theorem preF_zero (fs : List (List Dt)) (i : Nat) : preF fs i 0 = (fs.take i).flatten := by simp [preF]
theorem preF_full {fs : List (List Dt)} {i : Nat} (h : i < fs.length) {j : Nat} (hj : fs[i].length ≤ j) : preF fs i j = preF fs (i + 1) 0 := by
  unfold preF
  have e : fs.getD i [] = fs[i] := by rw [List.getD_eq_getElem?_getD, List.getElem?_eq_getElem h]; rfl
  rw [e, List.take_of_length_le hj, take_snoc h, List.flatten_append]
  simp
theorem preF_step {fs : List (List Dt)} {i : Nat} (h : i < fs.length) {j : Nat} (hj : j < fs[i].length) : preF fs i (j + 1) = preF fs i j ++ [fs[i][j]] := by
  unfold preF
  have e : fs.getD i [] = fs[i] := by rw [List.getD_eq_getElem?_getD, List.getElem?_eq_getElem h]; rfl
  rw [e, take_snoc hj, List.append_assoc]
theorem preF_new {fs : List (List Dt)} (hn : fs.flatten.Nodup) {i : Nat} (h : i < fs.length) {j : Nat} (hj : j < fs[i].length) : fs[i][j] ∉ preF fs i j := by
  have e : fs = fs.take i ++ (fs[i] :: fs.drop (i + 1)) := by
    rw [List.getElem_cons_drop, List.take_append_drop]
  have e2 : fs[i] = fs[i].take j ++ (fs[i][j] :: fs[i].drop (j + 1)) := by
    rw [List.getElem_cons_drop, List.take_append_drop]
  have e3 : fs.flatten = preF fs i j ++ (fs[i][j] :: (fs[i].drop (j + 1) ++ (fs.drop (i + 1)).flatten)) := by
    unfold preF
    have e4 : fs.getD i [] = fs[i] := by rw [List.getD_eq_getElem?_getD, List.getElem?_eq_getElem h]; rfl
    rw [e4]
    conv => lhs; rw [e]
    rw [List.flatten_append, List.flatten_cons, List.append_assoc]
    congr 1
    exact (congrArg (fun L => L ++ (fs.drop (i + 1)).flatten) e2).trans (List.append_assoc _ _ _)
  rw [e3] at hn
  exact fun hm => (List.nodup_append.1 hn).2.2 _ hm _ (by simp) rfl
theorem preF_step2 {fs : List (List Dt)} {i : Nat} {f : List Dt} (h : fs[i]? = some f) {j : Nat} (hj : j < f.length) : preF fs i (j + 1) = preF fs i j ++ [f[j]] := by
  obtain ⟨hi, e⟩ := List.getElem?_eq_some_iff.1 h
  subst e
  exact preF_step hi hj
theorem preF_new2 {fs : List (List Dt)} (hn : fs.flatten.Nodup) {i : Nat} {f : List Dt} (h : fs[i]? = some f) {j : Nat} (hj : j < f.length) : f[j] ∉ preF fs i j := by
  obtain ⟨hi, e⟩ := List.getElem?_eq_some_iff.1 h
  subst e
  exact preF_new hn hi hj
theorem preF_full2 {fs : List (List Dt)} {i : Nat} {f : List Dt} (h : fs[i]? = some f) {j : Nat} (hj : f.length ≤ j) : preF fs i j = preF fs (i + 1) 0 := by
  obtain ⟨hi, e⟩ := List.getElem?_eq_some_iff.1 h
  subst e
  exact preF_full hi hj
theorem preF_le (fs : List (List Dt)) (i j : Nat) : (preF fs i j).length ≤ fs.flatten.length := by
  unfold preF
  by_cases h : i < fs.length
  · have e4 : fs.getD i [] = fs[i] := by rw [List.getD_eq_getElem?_getD, List.getElem?_eq_getElem h]; rfl
    have e : fs = fs.take i ++ (fs[i] :: fs.drop (i + 1)) := by
      rw [List.getElem_cons_drop, List.take_append_drop]
    have e5 := congrArg (fun L => L.flatten.length) e
    simp only [List.flatten_append, List.flatten_cons, List.length_append] at e5
    rw [e4, List.length_append, List.length_take]
    omega
  · have e4 : fs.getD i [] = [] := by rw [List.getD_eq_getElem?_getD, List.getElem?_eq_none (by omega)]; rfl
    rw [e4, List.take_of_length_le (by omega)]
    simp
theorem preF_all (fs : List (List Dt)) : preF fs fs.length 0 = fs.flatten := by simp [preF]
theorem faces_all {N : Nat} {l : List Ed} {r : List (List Int)} (hR : RightG (N : Int) l) (hS : SysR N l r) : (facesL N l r).flatten.length = 2 * l.length := by
  have hD := faces_dec hR hS
  have h1 : (facesL N l r).flatten.length ≤ (dartsL N l).length := List.Nodup.length_le_of_subset hD.nodup (fun x hx => (hD.mem x).1 hx)
  have h2 : (dartsL N l).length ≤ (facesL N l r).flatten.length := List.Nodup.length_le_of_subset (dartsL_nodup hR) (fun x hx => (hD.mem x).2 hx)
  rw [dartsL_two hR] at h1 h2
  omega
end Go.Proofs.Ytnmlbkmbiecpnaa
