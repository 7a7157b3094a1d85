/-
  filigreelaw08.Upto: the numbers from 0 on.
-/
import Derived.Test.YteekhofollaooaaXCFewM
namespace Go.Proofs.Yteekhofollaooaa
open Go Go.Proofs Go.RowKit

def uptoL (n : Nat) : List Int := (List.range n).map fun (k : Nat) => (k : Int)
theorem uptoL_succ (n : Nat) : uptoL (n + 1) = uptoL n ++ [(n : Int)] := by simp [uptoL, List.range_succ]
theorem uptoL_len (n : Nat) : (uptoL n).length = n := by simp [uptoL]

set_option maxRecDepth 100000 in
set_option maxHeartbeats 2000000 in
theorem upto_any (n : Nat) (hn : n ≤ 1048576) (w : World) :
    Calls Try.prog 16 #[.int .i64 (n : Int)] w fun e w' => ∃ v, e = .returned v ∧ w'.ownsRow w.heap.size 3 1 v n ((uptoL n).map (Value.int .i64)) ∧ Below w.heap.size w w' := by
  obtain ⟨i0, hi, hz0, hz1, hz2⟩ := info_parts infoI
  go_enter Try.func16, Try.ntmps16
  go_wp2
  go_loopw [3, 4] (fun ov iv wr => ∃ i : Nat, i ≤ n ∧ iv = .int .i64 i ∧ wr.ownsRow w.heap.size 3 1 ov i ((uptoL i).map (Value.int .i64)) ∧ Below w.heap.size w wr) (fun _ iv _ => n - (intOf iv).toNat)
  case atStart => exact ⟨0, Nat.zero_le _, rfl, World.ownsRow_nil _ _ _ _, Below.refl _ _⟩
  case round =>
    obtain ⟨i, hi', rfl, ho, hb⟩ := hrel
    obtain ⟨po, mo, co, rfl⟩ := owns_slice ho
    by_cases hlt : i < n
    · have hil : (i : Int) < (n : Int) := by omega
      have hbA : Below w.heap.size w (wr.alloc (.cells #[.int .i64 (i : Int)] 3)) := hb.alloc hb.size _
      have HOA : Hid ((wr.alloc (.cells #[.int .i64 (i : Int)] 3)).ownsRow w.heap.size 3 1 (.slice po mo co) i ((uptoL i).map (Value.int .i64))) := World.ownsRow.alloc ho _
      have HBA : Hid (Below w.heap.size w (wr.alloc (.cells #[.int .i64 (i : Int)] 3))) := hbA
      have HNEW : Hid (∀ j u, [Value.int .i64 (i : Int)][j]? = some u → (wr.alloc (.cells #[.int .i64 (i : Int)] 3)).cell? ((⟨wr.heap.size, 0, none⟩ : Addr).add j) = some u) := one_cellF wr (.int .i64 (i : Int)) 3
      have hmx : i + 1 ≤ maxLen := by unfold maxLen; omega
      have hby : (i + 1) * 8 ≤ 140737488355328 := by omega
      have hbs : w.heap.size ≤ (wr.alloc (.cells #[.int .i64 (i : Int)] 3)).heap.size := hbA.size
      clear ho hb hbA
      go_wp2_with (at_builtin; refine wpList_append_own_at _ rfl _ _ 25 rfl w.heap.size 3 i0 (.int .i64 0) 1 8 Try.underlying25 hi hz0 hz1 hz2 rfl (by decide) (.slice po mo co) _ _ rfl HOA.out ⟨wr.heap.size, 0, none⟩ 1 1 [.int .i64 (i : Int)] rfl rfl HNEW.out (by simp [Value.oneCell']) hmx hby hbs ?_)
      intro v6 w6 ho6 hg6 hnil6 hat6
      obtain ⟨a6, m6, c6, rfl⟩ := owns_slice ho6
      have HB6 : Hid (Below w.heap.size w w6) := Below.grown HBA.out hg6 hbs (fun q hq => (World.ownsRow.lt HOA.out q hq).1)
      have HO6 : Hid (w6.ownsRow w.heap.size 3 1 (.slice a6 m6 c6) (i + 1) ((uptoL (i + 1)).map (Value.int .i64))) := by unfold Hid; rw [uptoL_succ, List.map_append]; exact ho6
      clear ho6 hg6 hnil6 hat6 HOA HBA HNEW hbs
      go_wp2
      exact ⟨⟨i + 1, hlt, by go_num, HO6.out, HB6.out⟩, by simp [intOf]; omega⟩
    · have hil : ¬ (i : Int) < (n : Int) := by omega
      obtain rfl : i = n := by omega
      have HO : Hid (wr.ownsRow w.heap.size 3 1 (.slice po mo co) i ((uptoL i).map (Value.int .i64))) := ho
      have HB : Hid (Below w.heap.size w wr) := hb
      clear ho hb
      go_wp2
      go_ret
      exact ⟨_, rfl, HO.out, HB.out⟩
end Go.Proofs.Yteekhofollaooaa
