/-
  What faces.sides tells: of each dart its face's number.
-/
import Derived.Test.YtonfhkdciaiilaaXRSame
import Derived.Test.YtonfhkdciaiilaaXFcMap
namespace Go.Proofs.Ytonfhkdciaiilaa
open Go Go.Proofs Go.RowKit

/-- The darts of the first j faces, each with its face's number. -/
def entL (fs : List (List Dt)) (j : Nat) : List (Dt × Int) := (List.range j).flatMap fun (v : Nat) => (fs.getD v []).map fun d => (d, (v : Int))
theorem entL_succ (fs : List (List Dt)) (j : Nat) : entL fs (j + 1) = entL fs j ++ (fs.getD j []).map fun d => (d, (j : Int)) := by
  unfold entL
  rw [List.range_succ, List.flatMap_append]
  simp
theorem entL_keys (fs : List (List Dt)) : ∀ j, (entL fs j).map Prod.fst = (fs.take j).flatten
  | 0 => rfl
  | j + 1 => by
    rw [entL_succ, List.map_append, entL_keys fs j, List.take_add_one, List.flatten_append, List.map_map, List.getD_eq_getElem?_getD]
    congr 1
    cases fs[j]? <;> simp [Function.comp_def]
theorem ent_new {fs : List (List Dt)} (hn : fs.flatten.Nodup) {j k : Nat} (hj : j < fs.length) (hk : k < fs[j].length) : ∀ p ∈ entL fs j ++ (fs[j].take k).map fun d => (d, (j : Int)), p.1 ≠ fs[j][k] := by
  intro p hp e
  have e1 : fs.flatten = (fs.take j).flatten ++ (fs[j] ++ (fs.drop (j + 1)).flatten) := by
    conv => lhs; rw [← List.take_append_drop j fs, List.drop_eq_getElem_cons hj]
    rw [List.flatten_append, List.flatten_cons]
  rw [e1] at hn
  obtain ⟨_, h2, h3⟩ := List.nodup_append.1 hn
  rcases List.mem_append.1 hp with h | h
  · have h4 : p.1 ∈ (fs.take j).flatten := by
      rw [← entL_keys]
      exact List.mem_map_of_mem h
    exact h3 _ h4 _ (List.mem_append_left _ (List.getElem_mem hk)) e
  · obtain ⟨d, hd, rfl⟩ := List.mem_map.1 h
    obtain ⟨i, hi, hid⟩ := List.mem_take_iff_getElem.1 hd
    have h5 := (List.nodup_append.1 h2).1
    simp only at e
    rw [← hid] at e
    have := (List.getElem_inj h5).1 e
    omega
/-- The number of a dart's face. -/
def faceOf (fs : List (List Dt)) (d : Dt) : Int := (lkN (entL fs fs.length) d).getD 0
def sidesL (fs : List (List Dt)) (l : List Ed) : List Dt := l.map fun e => (faceOf fs (e.1, e.2.1), faceOf fs (e.2.1, e.1))
theorem sidesL_len (fs : List (List Dt)) (l : List Ed) : (sidesL fs l).length = l.length := List.length_map ..
/-- The face of a dart of the face i is i. -/
theorem faceOf_at {fs : List (List Dt)} (hn : fs.flatten.Nodup) {i : Nat} (hi : i < fs.length) {d : Dt} (hd : d ∈ fs[i]) : faceOf fs d = (i : Int) := by
  have hm : (d, (i : Int)) ∈ entL fs fs.length := by
    unfold entL
    refine List.mem_flatMap.2 ⟨i, List.mem_range.2 hi, ?_⟩
    rw [List.getD_eq_getElem?_getD, List.getElem?_eq_getElem hi]
    exact List.mem_map_of_mem hd
  have hk : ((entL fs fs.length).map Prod.fst).Nodup := by rw [entL_keys, List.take_length]; exact hn
  unfold faceOf lkN
  cases hf : (entL fs fs.length).find? fun p => decide (d = p.1) with
  | none =>
    have := List.find?_eq_none.1 hf _ hm
    simp at this
  | some q =>
    have h1 := List.find?_some hf
    have h2 := List.mem_of_find?_eq_some hf
    obtain ⟨a, ha, ea⟩ := List.mem_iff_getElem.1 hm
    obtain ⟨b, hb, eb⟩ := List.mem_iff_getElem.1 h2
    have e3 : ((entL fs fs.length).map Prod.fst)[a]'(by simpa using ha) = ((entL fs fs.length).map Prod.fst)[b]'(by simpa using hb) := by
      simp only [List.getElem_map, ea, eb]
      simpa using h1
    have e4 := (List.getElem_inj hk).1 e3
    subst e4
    rw [ea] at eb
    rw [← eb]
    rfl
theorem pairs_made (n : Nat) : (madeCells (Value.agg #[.int .i64 0, .int .i64 0]).cells (n * 2)).toList = flatD (List.replicate n (0, 0)) := by
  apply List.ext_getElem
  · rw [flatD_len]
    simp [madeCells]
  · intro i h1 h2
    rw [flatD_len, List.length_replicate] at h2
    obtain ⟨k0, k1⟩ := flatD_at (L := List.replicate n ((0, 0) : Dt)) (j := i / 2) (x := (0, 0)) (by rw [List.getElem?_replicate, if_pos (by omega)])
    have hz : (Value.agg #[.int .i64 0, .int .i64 0]).cells = #[.int .i64 0, .int .i64 0] := by kernel_rfl
    rcases Nat.mod_two_eq_zero_or_one i with h0 | h0
    · rw [show i / 2 * 2 = i by omega] at k0
      rw [List.getElem?_eq_getElem (by rw [flatD_len, List.length_replicate]; exact h2)] at k0
      rw [Option.some.inj k0]
      simp [madeCells, hz, h0]
    · rw [show i / 2 * 2 + 1 = i by omega] at k1
      rw [List.getElem?_eq_getElem (by rw [flatD_len, List.length_replicate]; exact h2)] at k1
      rw [Option.some.inj k1]
      simp [madeCells, hz, h0]
theorem flatD_set : ∀ (L : List Dt) (j : Nat) (a b : Int), j < L.length → ((flatD L).set (j * 2) (.int .i64 a)).set (j * 2 + 1) (.int .i64 b) = flatD (L.set j (a, b))
  | [], j, a, b, h => by simp at h
  | d :: L, 0, a, b, h => rfl
  | d :: L, j + 1, a, b, h => by
    have h' : j < L.length := by simpa using h
    have ih := flatD_set L j a b h'
    have e : flatD (d :: L) = .int .i64 d.1 :: .int .i64 d.2 :: flatD L := rfl
    have e2 : ∀ (x y a b : Value) (F : List Value), ((x :: y :: F).set (j * 2 + 1 + 1) a).set (j * 2 + 1 + 1 + 1) b = x :: y :: ((F.set (j * 2) a).set (j * 2 + 1) b) := fun _ _ _ _ _ => rfl
    rw [e, show (j + 1) * 2 = j * 2 + 1 + 1 by omega, e2, ih]
    rfl
/-- The pairs as far as the first j edges tell. -/
def sideH (fs : List (List Dt)) (l : List Ed) (j : Nat) : List Dt := (sidesL fs (l.take j)) ++ List.replicate (l.length - j) (0, 0)
theorem sideH_zero (fs : List (List Dt)) (l : List Ed) : sideH fs l 0 = List.replicate l.length (0, 0) := by simp [sideH, sidesL]
theorem sideH_full (fs : List (List Dt)) (l : List Ed) : sideH fs l l.length = sidesL fs l := by simp [sideH]
theorem sideH_len (fs : List (List Dt)) (l : List Ed) {j : Nat} (h : j ≤ l.length) : (sideH fs l j).length = l.length := by
  simp [sideH, sidesL]
  omega
theorem sideH_step (fs : List (List Dt)) (l : List Ed) {j : Nat} (h : j < l.length) : (sideH fs l j).set j (faceOf fs (l[j].1, l[j].2.1), faceOf fs (l[j].2.1, l[j].1)) = sideH fs l (j + 1) := by
  unfold sideH sidesL
  have e : l.length - j = (l.length - (j + 1)) + 1 := by omega
  have h1 : ((l.take j).map fun e : Ed => (faceOf fs (e.1, e.2.1), faceOf fs (e.2.1, e.1))).length = j := by simp; omega
  rw [List.set_append, h1, if_neg (Nat.lt_irrefl j), Nat.sub_self, e, List.replicate_succ, List.set_cons_zero, List.take_add_one, List.getElem?_eq_getElem h, List.map_append, List.append_assoc]
  rfl
end Go.Proofs.Ytonfhkdciaiilaa
