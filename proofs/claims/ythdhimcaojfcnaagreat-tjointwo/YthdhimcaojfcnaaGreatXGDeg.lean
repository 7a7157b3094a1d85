/-
  The contract of graph.Degrees.
-/
import Derived.OwnWalk
import Derived.Test.YthdhimcaojfcnaaGreatXGNbMath
import Derived.Test.YthdhimcaojfcnaaGreatJA
namespace Go.Proofs.YthdhimcaojfcnaaGreat
open Go Go.Proofs Go.RowKit

theorem infoI : (Tryz.prog.info? 3).map (fun i => (i.zero, i.size, i.bytes)) = some (some (.int .i64 0), 1, 8) := by kernel_rfl
theorem ints_made (n : Nat) : (madeCells (Value.int .i64 0).cells (n * 1)).toList = (List.replicate n (0 : Int)).map (Value.int .i64) := by
  apply List.ext_getElem
  · simp [madeCells]
  · intro i h1 h2
    simp [madeCells, Value.cells, Nat.mod_one]
theorem Blk.ints {W : World} {g : Nat} {l : List Int} {t : TypeId} (h : Blk t W g (l.map (Value.int .i64))) : Ints W.heap.size W (.slice (some ⟨g, 0, none⟩) l.length l.length) l :=
  .inr ⟨g, 0, l.length, rfl, h.lt, Nat.le_refl _, fun j x hx => by rw [Nat.zero_add]; exact h.cell (by rw [List.getElem?_map, hx]; rfl)⟩

/-- The degrees as far as the first j edges tell. -/
def degL (N : Nat) (l : List Ed) (j : Nat) : List Int := (List.range N).map fun (v : Nat) => ((nb (l.take j) (v : Int)).length : Int)
theorem degL_len (N : Nat) (l : List Ed) (j : Nat) : (degL N l j).length = N := by simp [degL]
theorem degL_at {N : Nat} {l : List Ed} {j v : Nat} (h : v < N) : (degL N l j)[v]? = some ((nb (l.take j) (v : Int)).length : Int) := by simp [degL, h]
theorem degL_zero (N : Nat) (l : List Ed) : degL N l 0 = List.replicate N 0 := by
  apply List.ext_getElem <;> simp [degL, nb]
theorem degL_step {N : Nat} {l : List Ed} {j u v : Nat} (h : j < l.length) (hu : l[j].1 = (u : Int)) (hv : l[j].2.1 = (v : Int)) (hne : u ≠ v) (huN : u < N) (hvN : v < N) :
    ((degL N l j).set u ((nb (l.take j) (u : Int)).length + 1)).set v ((nb (l.take j) (v : Int)).length + 1) = degL N l (j + 1) := by
  apply List.ext_getElem?
  intro i
  by_cases hi : i < N
  · rw [degL_at hi, List.getElem?_set, List.getElem?_set, degL_at hi, nb_snoc h, List.length_append]
    simp only [List.length_set, degL_len]
    unfold nbOf
    rw [hu, hv]
    by_cases h1 : v = i
    · subst h1
      rw [if_pos rfl, if_pos hvN, if_neg (by omega), if_pos rfl]; simp
    · rw [if_neg h1]
      by_cases h2 : u = i
      · subst h2
        rw [if_pos rfl, if_pos huN, if_pos rfl]; simp
      · rw [if_neg h2, if_neg (by omega), if_neg (by omega)]; simp
  · rw [List.getElem?_eq_none (by simp [degL_len]; omega), List.getElem?_eq_none (by rw [degL_len]; omega)]

end Go.Proofs.YthdhimcaojfcnaaGreat
