/-
  Lemmas for loops over slices.Backward.
-/
import Derived.Test.YtkalknmindgljaaDoorAdd
import Derived.Test.YtkalknmindgljaaDoorNums4
namespace Go.Proofs.YtkalknmindgljaaDoor
open Go Go.Proofs Go.RowKit Go.Shelf

attribute [local go_sem] Oper.semAt_some

theorem wpListIn_make_row {F : Fence} {n : Nat} {P : Program} (w : World) {ops : Array Oper} {rest : List Oper} {o : Oper} {a : Act} {Q : Exit → Act → World → Prop}
    (hg : o.guard = none) (l c : Operand) (t : TypeId) (hop : o.op = Op.makeSlice t l c)
    (e : TypeId) (i : TypeInfo) (q : IntKind) (h1 : P.underlying t = some (.slice e)) (h2 : P.info? e = some i) (h3 : i.zero = some (.int q 0)) (h4 : i.size = 1)
    (kl kc : IntKind) (L C : Int) (m : Nat) (hl : a.eval l = .int kl L) (hc : a.eval c = .int kc C) (hL : L = (m : Int)) (hC : C = (m : Int)) (b2 : i.bytes * m ≤ 281474976710656) (b3 : m ≤ maxLen)
    (hK : ∀ w', Row q e w' w.heap.size (List.replicate m 0) → Below w.heap.size w w' → wpListIn F n P ops Q rest (a.put o.dst (.slice (some ⟨w.heap.size, 0, none⟩) m m)) w') :
    wpListIn F n P ops Q (o :: rest) a w := by
  refine wpListIn_plain hg fun K hK' => ?_
  obtain ⟨w', hrun, r1, r2⟩ := run_make_full (P := P) w w.heap.size t e i (.int q 0) 1 h1 h2 h3 h4 kl kc m b2 b3 (Nat.le_refl _)
  subst hL
  subst hC
  unfold Oper.wpIn
  refine ⟨?_, ?_⟩
  · simp [Oper.about, hop]
  · rw [Oper.semAt_plain F _ _ (by rw [hop]; intro c hc'; cases hc')]
    simp [execOp, hop, hl, hc, hrun, Result.andThen]
    exact hK' _ _ (hK w' (Row.made r1) ((Below.refl _ _).grown r2 (Nat.le_refl _) (fun k e => by cases e)))
/-- A block of cells lies as it lay where blocks of no cells alone have turned. -/
theorem block_kept {A B : World} {row : Option Nat} {g : Nat} {c : Array Value} {t : TypeId} {fr : Nat × Nat} (h : A.heap[g]? = some (.cells c t fr)) (hg : A.grownBy B row) (hr : ∀ r, row = some r → ∃ o : Obj, A.heap[r]? = some o ∧ o.isCells = false) : B.heap[g]? = some (.cells c t fr) := by
  refine (hg.block g (Array.getElem?_eq_some_iff.1 h).1 (fun e => ?_)).trans h
  obtain ⟨o, ho, hc⟩ := hr g e.symm
  rw [h] at ho; cases ho; cases hc
theorem or_limbs (x y : Int) (hx : 0 ≤ x ∧ x < 4294967296) (hy : 0 ≤ y ∧ y < 4294967296) : bits BinOp.or IntKind.u64 (x * 4294967296) y = x * 4294967296 + y := by
  rw [u64_or _ _ (by omega) (by omega) (by omega) (by omega)]
  have e : (x * 4294967296).toNat = 2 ^ 32 * x.toNat := by omega
  rw [e, ← Nat.two_pow_add_eq_or_of_lt (by omega : y.toNat < 2 ^ 32)]
  omega
theorem downs_take_succ {len k : Nat} (h : k < len) : (downs len).take (k + 1) = (downs len).take k ++ [⟨len - 1 - k, by omega⟩] := by
  rw [List.take_succ_eq_append_getElem (by simpa [downs] using h)]
  congr 2
  apply Fin.ext
  rw [downs_get]
theorem downs_all (len : Nat) : (downs len).take len = downs len := List.take_of_length_le (by simp [downs])

end Go.Proofs.YtkalknmindgljaaDoor
