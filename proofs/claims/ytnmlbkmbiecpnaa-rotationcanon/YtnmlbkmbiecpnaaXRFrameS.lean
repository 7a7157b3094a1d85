/-
  How lists of lists that came in read, with what they weigh.
-/
import Derived.Test.YtnmlbkmbiecpnaaXRFrame
namespace Go.Proofs.Ytnmlbkmbiecpnaa
open Go Go.ChangeShapes Go.WideShapes Go.ChangeAt Go.RowKit Go.Joins

theorem weightsAll_mem {H : Type} {P : Program} {e : TypeId} : ∀ {ds : List (DataW H)} {d : DataW H}, d ∈ ds → ∀ n ∈ d.weights P e, n ∈ DataW.weightsAll P e ds
  | [], _, h, _, _ => by simp at h
  | x :: ds, d, h, n, hn => by
    rw [DataW.weightsAll, List.mem_append]
    rcases List.mem_cons.1 h with rfl | h
    · exact .inl hn
    · exact .inr (weightsAll_mem h n hn)
theorem bytesInt : Try.prog.bytesOf 3 = 8 := by kernel_rfl
set_option maxRecDepth 100000 in
theorem ints_heavy {W : World} {v : Value} {H : Type} {x : DataW H × List MemPlace} {enc : TypeId × Value → H} {fuel : Nat}
    (hf : DataW.trod enc Try.prog W 0 (fun _ => true) true fuel 41 [v] = some x) {l : List Int} (hl : Ints W.heap.size W v l) (hw : ∀ n ∈ x.1.weights Try.prog 41, n ≤ reachBytes) : l.length ≤ 17592186044416 := by
  obtain ⟨p, c, rfl⟩ := hl.len
  rcases Deep.open_slice1 Try.underlying41 (by kernel_rfl) hf with ⟨hcs, _⟩ | ⟨ad, len, cp, m, n, V, D, Pl, hcs, _, hle, hm, hmm, hx, hc⟩
  · simp only [List.cons.injEq, and_true, Value.slice.injEq] at hcs
    omega
  · simp only [List.cons.injEq, and_true, Value.slice.injEq] at hcs
    obtain ⟨_, e2, _⟩ := hcs
    have h1 := hw ((((List.range len).map D).length + ((List.range (m - len)).map fun j => D (len + j)).length) * Try.prog.bytesOf 3) (by rw [hx]; simp [DataW.weights, Try.underlying41])
    rw [bytesInt] at h1
    simp only [List.length_map, List.length_range] at h1
    unfold reachBytes at h1
    omega
set_option maxRecDepth 100000 in
/-- None of the lists is too long for a machine. -/
theorem lsts_heavy {W : World} {v : Value} {H : Type} {d : DataW H} {p : List MemPlace} {enc : TypeId × Value → H} {base : Nat} {r : Reach}
    (_hv : Value.okWide Try.prog W r base 25 v) (h : DataW.Trod enc Try.prog W 0 (fun _ => true) true 25 v d p) {L : List (List Int)} (hL : Lsts W.heap.size W v L) (hw : ∀ n ∈ d.weights Try.prog 25, n ≤ reachBytes) :
    ∀ x ∈ L, x.length ≤ 17592186044416 := by
  obtain ⟨a, len0, cap, rfl⟩ := okWide_slice Try.underlying25 _hv
  obtain ⟨fuel, hf0⟩ := h
  have hf : DataW.trod enc Try.prog W 0 (fun _ => true) true fuel 25 [.slice a len0 cap] = some (d, p) := by simpa [Value.cells] using hf0
  intro x hx
  obtain ⟨i, hi, rfl⟩ := List.getElem_of_mem hx
  obtain ⟨q, k, eq⟩ := hL.len
  simp only [Value.slice.injEq] at eq
  obtain ⟨rfl, rfl, rfl⟩ := eq
  obtain ⟨b, off, rfl, hb, hc0, px, cx, hI, hcell⟩ := hL.cellAt hi
  rcases Deep.open_slice1 Try.underlying25 (by kernel_rfl) hf with ⟨hcs, _⟩ | ⟨ad, len, cp, m, n, V, D, Pl, hcs, _, hl, hm, hmm, hx2, hc⟩
  · simp only [List.cons.injEq, and_true, Value.slice.injEq] at hcs
    exact absurd hcs.1 (by simp)
  · simp only [List.cons.injEq, and_true, Value.slice.injEq, Option.some.injEq] at hcs
    obtain ⟨rfl, e2, _⟩ := hcs
    have him : i < m := by
      simp at hmm
      omega
    obtain ⟨h1, h2⟩ := hc i him
    rw [Go.WideShapes.add_plain, hcell] at h1
    have e3 := Option.some.inj h1
    rw [← e3] at h2
    refine ints_heavy h2 hI (fun n hn => hw n ?_)
    have e4 : d = .slice ((List.range len).map D) ((List.range (m - len)).map fun j => D (len + j)) := congrArg Prod.fst hx2
    rw [e4]
    simp only [DataW.weights, Try.underlying25, List.mem_cons, List.mem_append]
    exact .inr (.inl (weightsAll_mem (List.mem_map.2 ⟨i, List.mem_range.2 (by omega), rfl⟩) n hn))
end Go.Proofs.Ytnmlbkmbiecpnaa
