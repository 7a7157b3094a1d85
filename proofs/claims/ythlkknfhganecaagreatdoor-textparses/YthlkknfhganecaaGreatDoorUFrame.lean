/-
  What the proofs of stage 5's rows share: what the listed variables and the world's shape give a walk, and a world that meets the condition (the tables, the pinned one among them, laid by a function; the handle set by hand).
-/
import Derived.SizedLaws
import Derived.LaidHandle
import Derived.Lib.LaidTab
import Derived.MakeChecks
import Derived.ProofKit
import Derived.LaidMore
import Derived.Lay
import Derived.OpenShut
import Derived.ShutString
import Derived.ChangeOld
import Derived.Stop.Joined
import Derived.Stop.LaidErr
import Derived.ChangeMaps5
import Derived.SevenTiedAt
import Derived.Test.YthlkknfhganecaaGreatDoorCards
import Derived.Test.YthlkknfhganecaaGreatDoorTie
import Derived.Test.YthlkknfhganecaaGreatDoorUFault
namespace Go.Proofs.YthlkknfhganecaaGreatDoor
open Go Go.ChangeShapes Go.WideShapes Go.ChangeAt Go.RowKit

theorem own : ownKnob Tryz.prog.godebug = none := by kernel_rfl
theorem laidOut : laidOutB Tryz.prog = true := by kernel_rfl

/-- The listed variables (one list for all rows); without the handle. -/
abbrev laidL : List (String × DataW Unit) := Rows.textNumbersRow.laid
abbrev plainL : List (String × DataW Unit) := [("math/bits.deBruijn32tab", Rows.laid_math_bits_deBruijn32tab), ("math/bits.deBruijn64tab", Rows.laid_math_bits_deBruijn64tab), ("internal/strconv.uint64pow10", Rows.laid_internal_strconv_uint64pow10), ("unicode/utf8.acceptRanges", Rows.laid_unicode_utf8_acceptRanges), ("strconv.ErrRange", Rows.laid_strconv_ErrRange), ("strconv.ErrSyntax", Rows.laid_strconv_ErrSyntax), ("unicode/utf8.first", Rows.laid_unicode_utf8_first)]
theorem Tryz.rt : (Tryz.prog.cutTypes.find? (·.1 == "internal/reflectlite.rtype")).map (·.2) = some 144 := by kernel_rfl
theorem Tryz.oneRow : ((List.range 224).filter fun t => Tryz.prog.rowNamed t [101, 114, 114, 111, 114]) = [32] := by kernel_rfl
theorem Tryz.tsize : Tryz.prog.types.size = 224 := by kernel_rfl
theorem Tryz.et : Tryz.prog.globalNamed "errors.errorType" = some 0 := by kernel_rfl
theorem star : "*" ++ "errors.errorString" = "*errors.errorString" := by decide
theorem str_row (u : TypeId) (h : Tryz.prog.typeName? 3 u = some "*errors.errorString") : u = 169 :=
  typeName_ptr_named (nm := "errors.errorString") (by rw [star]; kernel_rfl) (by kernel_rfl) (by decide) u (by rw [star]; exact h)
theorem cell_ok_int {P : Program} {w : World} {r : Reach} {b : Nat} {t : TypeId} {v : Value} (hu : P.underlying t = some (.int .i64)) (h : Cell.ok P w r b t v) : ∃ n, v = .int .i64 n := by
  unfold Cell.ok at h
  rw [hu] at h
  cases v <;> simp at h
  obtain ⟨rfl, _⟩ := h
  exact ⟨_, rfl⟩
theorem int_cell {P : Program} {W : World} {g : Nat} {t : TypeId} (h : W.ShapedOpen P) (hg : g < P.globals.size) (hz : ((begin P (fun _ _ => 0) default).world.heap[g]?).bind Obj.row? = some (#[.int .i64 0], t)) (hb : P.buildable t = true) (hc : P.cellTypes P.depth t = some [t]) (hu : P.underlying t = some (.int .i64)) :
    ∃ m, W.cell? ⟨g, 0, none⟩ = some (.int .i64 m) := by
  obtain ⟨cs, h1, h2, h3⟩ := h.1 g #[.int .i64 0] t hg hz
  obtain ⟨ts, e1, _, e3⟩ := h3 hb
  obtain rfl := Option.some.inj (hc.symm.trans e1)
  have hs : cs.size = 1 := h2
  obtain ⟨u, g1, g2⟩ := e3 0 cs[0] (by simp [hs])
  obtain rfl : t = u := by simpa using g1
  obtain ⟨n, hv⟩ := cell_ok_int hu g2
  exact ⟨n, by simp [World.cell?, h1, hs, hv]⟩
theorem some_pair {α β : Type} {o : Option (α × β)} (h : o.isSome = true) : ∃ a b, o = some (a, b) := by
  obtain ⟨⟨a, b⟩, h⟩ := Option.isSome_iff_exists.1 h
  exact ⟨a, b, h⟩
theorem row_lt {P : Program} {W : World} {g : Nat} {z : Array Value} {t : TypeId} (h : W.ShapedOpen P) (hg : g < P.globals.size) (hz : ((begin P (fun _ _ => 0) default).world.heap[g]?).bind Obj.row? = some (z, t)) : g < W.heap.size := by
  obtain ⟨cs, h1, _⟩ := h.1 g z t hg hz
  exact (Array.getElem?_eq_some_iff.1 h1).1
/-- The world's shape: the one package-level variable that no row lists is an int. -/
theorem max_of {W : World} (h : W.ShapedOpen Tryz.prog) : (∃ m, W.cell? ⟨6, 0, none⟩ = some (.int .i64 m)) ∧ 9 ≤ W.heap.size := by
  constructor
  · exact int_cell h (by rw [show Tryz.prog.globals.size = 9 by kernel_rfl]; omega) (by kernel_rfl) (by kernel_rfl) (by kernel_rfl) Tryz.underlying3
  · have hg : 2 < W.heap.size ∧ 9 - 1 < W.heap.size := by
      refine ⟨row_lt (z := #[.nilIface]) (t := 32) h (by rw [show Tryz.prog.globals.size = 9 by kernel_rfl]; omega) (by kernel_rfl), ?_⟩
      obtain ⟨z, t, hz⟩ := some_pair (show (((begin Tryz.prog (fun _ _ => 0) default).world.heap[9 - 1]?).bind Obj.row?).isSome = true by kernel_rfl)
      exact row_lt h (by rw [show Tryz.prog.globals.size = 9 by kernel_rfl]; omega) hz
    omega
theorem env_of {W : World} (h : laidMetH Tryz.prog laidL W) (hs : W.ShapedOpen Tryz.prog) : Env W := by
  have h' : laidMet Tryz.prog plainL W ∧ handlesMet Tryz.prog [("errors.errorType", Rows.laid_errors_errorType)] W := h
  have h3 := laidMet.tail (laidMet.tail h'.1)
  have h5 := laidMet.tail (laidMet.tail h3)
  have h6 := laidMet.tail h5
  refine ⟨?_, ?_, ?_, ?_, (max_of hs).1, (max_of hs).2⟩
  · exact Lib.tabIs_of_head (k := .u64) (zs := Lib.pow10Tab) (g := 3) (n := 20) (e := 55) (by kernel_rfl) (by kernel_rfl) Tryz.underlying139 Tryz.underlying55 (by kernel_rfl) (by kernel_rfl) h3
  · obtain ⟨name, u, ty, e1, e2, e3, e4, e5⟩ := h'.2 _ (List.mem_singleton.2 rfl)
    have en : name = [101, 114, 114, 111, 114] := (Option.some.inj e1).symm
    subst en
    obtain rfl := Option.some.inj (Tryz.rt.symm.trans e2)
    have hm : ty ∈ (List.range 224).filter fun t => Tryz.prog.rowNamed t [101, 114, 114, 111, 114] := List.mem_filter.2 ⟨List.mem_range.2 (by rw [← Tryz.tsize]; exact e3), e4⟩
    rw [Tryz.oneRow] at hm
    obtain rfl := List.mem_singleton.1 hm
    have hh : typeHandle Tryz.prog 32 = .pointer (some ⟨9, 32, none⟩) := by kernel_rfl
    rw [hh] at e5
    show W.cell? _ = _
    simpa using World.var?_cell Tryz.et e5 0
  · obtain ⟨a, s, e1, _⟩ := laid_sentinel h6 syn_at (by kernel_rfl) Tryz.underlying32 str_row Tryz.underlying169 Tryz.underlying171 rfl rfl Tryz.underlying9 (by kernel_rfl) (by kernel_rfl)
    exact ⟨_, e1⟩
  · obtain ⟨a, s, e1, _⟩ := laid_sentinel h5 rng_at (by kernel_rfl) Tryz.underlying32 str_row Tryz.underlying169 Tryz.underlying171 rfl rfl Tryz.underlying9 (by kernel_rfl) (by kernel_rfl)
    exact ⟨_, e1⟩

/-- A heap that meets the rows' condition. -/
theorem laid_met (os : Os) (args : Array Value) : laidMetH Tryz.prog laidL (({ World.holding Tryz.prog os ⟨#[], #[], []⟩ with heap := (World.holding Tryz.prog os ⟨#[], #[], []⟩).heap.setIfInBounds 0 (.cells #[.iface 144 (.agg #[.pointer (some ⟨9, 32, none⟩)])] 115) } : World).layVars Tryz.prog plainL |>.forCall (fun _ _ => 0) ⟨#[], args, []⟩).memory := by
  refine laidMetH_of_parts ?_ (by kernel_rfl)
  have e1 : (plainL.filter fun x => (plainL.map (·.1)).contains x.1) = plainL := by kernel_rfl
  have e2 : (plainL.filter fun x => !(plainL.map (·.1)).contains x.1) = [] := by kernel_rfl
  refine laidMet_layVars (laid := plainL) (w0 := { World.holding Tryz.prog os ⟨#[], #[], []⟩ with heap := (World.holding Tryz.prog os ⟨#[], #[], []⟩).heap.setIfInBounds 0 (.cells #[.iface 144 (.agg #[.pointer (some ⟨9, 32, none⟩)])] 115) }) (plainL.map (·.1)) [] (by rw [e1]; simp [World.memory, World.forCall, Input.heap]) ?_ ?_ (by rw [e2]; exact LaidIn.none)
  · rw [e1]
    kernel_rfl
  · rw [e1]
    kernel_rfl

end Go.Proofs.YthlkknfhganecaaGreatDoor
