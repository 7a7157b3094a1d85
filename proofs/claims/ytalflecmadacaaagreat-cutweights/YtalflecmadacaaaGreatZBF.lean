import Derived.Test.YtalflecmadacaaaGreatZBE
import Derived.Test.YtalflecmadacaaaGreatZBC
set_option maxRecDepth 100000
set_option maxHeartbeats 8000000
namespace Go.Proofs.YtalflecmadacaaaGreat
open Go Go.Proofs
section
variable {N : Nat} {l1 l2 : List Ed} {e : Ed} {a b : Nat}
end
end Go.Proofs.YtalflecmadacaaaGreat
namespace Go.Proofs.YtalflecmadacaaaGreat
open Go Go.Proofs Go.RowKit
section
variable {N : Nat} {l : List Ed} {r : List (List Int)}
theorem faces_dec (hR : RightG (N : Int) l) (hS : SysR N l r) : Dec (nxD r) (fun x => x ∈ dartsL N l) (facesL N l r) := by
 have hP := sys_perm hS hR
 have hn := keysR_nodup hS hR
 have hlen : (keysR r N).length ≤ 2 * l.length + 1 := by
  rw [keysR_len hS (Nat.le_refl _), degS_all (fun e he => (hR.each e he).1)]
  omega
 obtain ⟨⟨left, hG⟩, hr⟩ := going_all (starts := dartsL N l) hP hn hlen (fun d hd => (keys_darts hS hR).2 hd) (Nat.le_refl _)
 refine ⟨hr, ?_, fun x => ?_⟩
 ·unfold facesL
  rw [rounds_flat]
  exact (List.nodup_append.1 hG.nodup).2.1
 ·unfold facesL
  rw [rounds_flat]
  constructor
  ·intro hx
   exact (keys_darts hS hR).1 ((hG.all x).2 (.inr (.inr hx)))
  ·intro hx
   obtain ⟨j, hj, e⟩ := List.getElem_of_mem hx
   have := rounds_starts (nx := nxD r) (starts := dartsL N l) (fuel := 2 * l.length + 1) (by omega) (dartsL N l).length j hj
   rw [List.getD_eq_getElem?_getD, List.getElem?_eq_getElem hj, e] at this
   exact this
end
end Go.Proofs.YtalflecmadacaaaGreat
