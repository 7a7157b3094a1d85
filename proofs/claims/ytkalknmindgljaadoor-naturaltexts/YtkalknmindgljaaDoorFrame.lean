/-
  What the proofs of the rows share: how a slice of uint32s that came in reads as a list, and the start that fits the rows' condition on the library's tables.
-/
import Derived.Test.YtkalknmindgljaaDoorCards
import Derived.Test.YtkalknmindgljaaDoorTie
import Derived.Test.YtkalknmindgljaaDoorTrimB
import Derived.ProofKit
import Derived.LaidMore
import Derived.OpenShut
import Derived.ShutString
import Derived.ChangeOld
import Derived.Stop.Joined
import Derived.SevenTiedAt
namespace Go.Proofs.YtkalknmindgljaaDoor
open Go Go.ChangeShapes Go.WideShapes Go.ChangeAt Go.RowKit

theorem own : ownKnob Tryd.prog.godebug = none := by kernel_rfl
theorem laidOut : laidOutB Tryd.prog = true := by kernel_rfl

/-- A slice of uint32s that came in, as a list. -/
theorem came_in {W : World} {a : Option Addr} {len cap : Nat} {H : Type} {x : DataW H × List MemPlace} {enc : TypeId × Value → H} {fuel : Nat}
    (hf : DataW.trod enc Tryd.prog W 0 (fun _ => true) true fuel 23 (Value.slice a len cap).cells.toList = some x) : ∃ zs : List Int, zs.length = len ∧ Dig zs ∧ U32 W (.slice a len cap) zs ∧ len ≤ 9223372036854775807 := by
  rcases open_ints Tryd.underlying23 Tryd.underlying42 (by kernel_rfl) hf with ⟨hcs, _⟩ | ⟨x, l, c, zs, hcs, _, hl, hm, hz, _, hcell, hwz⟩
  · simp [Value.cells] at hcs
    obtain ⟨rfl, rfl, rfl⟩ := hcs
    exact ⟨[], rfl, Dig.nil, .inl ⟨⟨_, _, rfl⟩, rfl⟩, by omega⟩
  · simp [Value.cells] at hcs
    obtain ⟨rfl, rfl, rfl⟩ := hcs
    simp at hz
    unfold maxLen at hm
    refine ⟨zs.take len, by simp; omega, ?_, ?_, by omega⟩
    · intro z hz'
      have := hwz z (List.mem_of_mem_take hz')
      have := bounds_u32 this
      omega
    · by_cases h0 : len = 0
      · subst h0
        exact .inl ⟨⟨_, _, rfl⟩, by simp⟩
      · obtain ⟨b, off, rfl, hc⟩ := ints_at hcell (by omega)
        have hlt : b < W.heap.size := World.block_lt_of_cell? W ⟨b, off + 0, none⟩ (hc 0 (by omega))
        refine .inr ⟨b, off, cap, by simp; omega, hlt, by simp; omega, fun j hj => ?_⟩
        simp at hj
        rw [hc j (by omega), nth_take (by omega)]
        simp [nth]

/-- The door's own heap meets the rows' condition. -/
theorem door_met (os : Os) (args : Array Value) : laidMetH Tryd.prog Rows.naturalOrderRow.laid ((World.doorLaid Tryd.prog 400 os).forCall (fun _ _ => 0) ⟨#[], args, []⟩).memory :=
  laidMetH_of_parts3 (fuel := 8) (laidMet_of_run' 8 (by kernel_rfl) (by kernel_rfl)) (by kernel_rfl) (by kernel_rfl)
end Go.Proofs.YtkalknmindgljaaDoor
