/-
  The contract of parts.those, over any test.
-/
import Derived.Test.YtdadpfkoocpfaaaPWalked
import Derived.Laws.OwnMore
import Derived.OwnWalk
namespace Go.Proofs.Ytdadpfkoocpfaaa
open Go Go.Proofs Go.RowKit

def thoseL (Pk : Nat → Bool) (j : Nat) : List Int := ((List.range j).filter Pk).map fun (k : Nat) => (k : Int)
theorem thoseL_len (Pk : Nat → Bool) (j : Nat) : (thoseL Pk j).length ≤ j := by
  unfold thoseL
  rw [List.length_map]
  have := List.length_filter_le Pk (List.range j)
  simpa using this
theorem thoseL_succ (Pk : Nat → Bool) (j : Nat) : thoseL Pk (j + 1) = thoseL Pk j ++ (if Pk j then [(j : Int)] else []) := by
  unfold thoseL
  rw [List.range_succ, List.filter_append, List.map_append]
  by_cases h : Pk j <;> simp [h]

set_option maxRecDepth 100000 in
set_option maxHeartbeats 4000000 in
theorem those_cuts (cp : Value) (n : Nat) (hn : n ≤ 4194304) (Pk : Nat → Bool) (w : World) (hcall : ∀ k W, k < n → Below w.heap.size w W → Calls Try.prog 32 #[.int .i64 (k : Int), cp] W fun e w' => e = .returned (.bool (Pk k)) ∧ Below W.heap.size W w') :
    Calls Try.prog 31 #[.int .i64 (n : Int), .func (.func 32) #[] #[cp]] w fun r w' => ∃ lv, r = .returned lv ∧ w'.ownsRow w.heap.size 3 1 lv (thoseL Pk n).length ((thoseL Pk n).map (Value.int .i64)) ∧ Below w.heap.size w w' := by
  obtain ⟨i0, hi, hz0, hz1, hz2⟩ := info_parts infoI
  have hent : ∀ (args : Array Value) (W : World), (callFunc 32 args).run Try.prog W = .ok (.enter 32 args) W := fun args W => by kernel_rfl
  go_enter Try.func31, Try.ntmps31
  go_wp2
  go_loopw [5, 8] (fun lv iv wr => ∃ j : Nat, j ≤ n ∧ iv = .int .i64 j ∧ wr.ownsRow w.heap.size 3 1 lv (thoseL Pk j).length ((thoseL Pk j).map (Value.int .i64)) ∧ Below w.heap.size w wr) (fun _ i _ => n - (intOf i).toNat)
  case atStart => exact ⟨0, Nat.zero_le _, rfl, World.ownsRow_nil _ _ _ _, Below.refl _ _⟩
  case round =>
    obtain ⟨j, hj, rfl, hO, hb⟩ := hrel
    obtain ⟨pp, cc, rfl⟩ := owns_formP hO
    by_cases hlt : j < n
    · have hjl : (j : Int) < (n : Int) := by omega
      have hc := hcall j wr hlt hb
      have hlen := thoseL_len Pk j
      have HO : Hid _ := hO
      have HC : Hid _ := hcall
      have hst : Hid _ := thoseL_succ Pk j
      clear hO hcall
      go_wp2_with fail
      refine hc.mono ?_
      rintro e w2 ⟨rfl, hb2⟩
      clear hc
      have hO2 : w2.ownsRow w.heap.size 3 1 (.slice pp (thoseL Pk j).length cc) (thoseL Pk j).length ((thoseL Pk j).map (Value.int .i64)) := by
        refine owns_keep HO.out (grown_below' hb2 none) ?_
        exact or_none _
      have hbw2 := hb.trans (hb2.mono hb.size)
      cases hP : Pk j with
      | false =>
        have HE : Hid (thoseL Pk (j + 1) = thoseL Pk j) := by unfold Hid; rw [hst.out, hP]; simp
        have HO2 : Hid _ := hO2
        have HB2 : Hid _ := hbw2
        clear hO2 hbw2 HO HC
        go_wp2
        refine ⟨⟨j + 1, by omega, by go_num, ?_, HB2.out⟩, by simp [intOf]; omega⟩
        rw [HE.out]
        exact HO2.out
      | true =>
        have HE : Hid (thoseL Pk (j + 1) = thoseL Pk j ++ [(j : Int)]) := by unfold Hid; rw [hst.out, hP]; simp
        have hownA := hO2.alloc (.cells #[.int .i64 (j : Int)] 3)
        have hnews := one_cell w2 (.int .i64 (j : Int)) 3
        have hone : ∀ u ∈ [Value.int .i64 (j : Int)], u.oneCell' = true := by intro u hu; rw [List.mem_singleton.1 hu]; rfl
        have hmx : (thoseL Pk j).length + 1 ≤ maxLen := by unfold maxLen; omega
        have hby : ((thoseL Pk j).length + 1) * 8 ≤ 140737488355328 := by omega
        have hbs : w.heap.size ≤ (w2.alloc (.cells #[.int .i64 (j : Int)] 3)).heap.size := by have := hbw2.size; simp; omega
        have hlow : ∀ k, (Value.slice pp (thoseL Pk j).length cc).ownBlock = some k → w.heap.size ≤ k := fun k e => (hO2.lt k e).1
        have HB2 : Hid _ := hbw2
        clear hO2 hbw2 HO HC
        go_wp2_with (at_builtin; refine wpList_append_own_at _ rfl _ _ 33 rfl w.heap.size 3 i0 (.int .i64 0) 1 8 Try.underlying33 hi hz0 hz1 hz2 rfl (by decide) (.slice pp (thoseL Pk j).length cc) _ _ rfl hownA ⟨w2.heap.size, 0, none⟩ 1 1 [.int .i64 (j : Int)] rfl rfl hnews hone hmx hby hbs ?_)
        intro v6 w6 hown6 hg6 hnil6 hat6
        obtain ⟨a6, m6, c6, rfl⟩ := owns_slice hown6
        have HO6 : Hid _ := hown6
        have HB6 : Hid (Below w.heap.size w w6) := (HB2.out.alloc HB2.out.size _).grown hg6 hbs hlow
        clear hown6 hg6 hnil6 hat6 hownA hnews hone hmx hby hbs hlow
        go_wp2
        refine ⟨⟨j + 1, by omega, by go_num, ?_, HB6.out⟩, by simp [intOf]; omega⟩
        rw [HE.out, List.length_append, List.map_append]
        exact HO6.out
    · obtain rfl : j = n := by omega
      go_wp2
      go_ret
      exact ⟨_, rfl, hO, hb⟩
set_option maxRecDepth 100000 in
set_option maxHeartbeats 4000000 in
theorem those_bridges (cp cq : Value) (n : Nat) (hn : n ≤ 4194304) (Pk : Nat → Bool) (w : World) (hcall : ∀ k W, k < n → Below w.heap.size w W → Calls Try.prog 34 #[.int .i64 (k : Int), cp, cq] W fun e w' => e = .returned (.bool (Pk k)) ∧ Below W.heap.size W w') :
    Calls Try.prog 31 #[.int .i64 (n : Int), .func (.func 34) #[] #[cp, cq]] w fun r w' => ∃ lv, r = .returned lv ∧ w'.ownsRow w.heap.size 3 1 lv (thoseL Pk n).length ((thoseL Pk n).map (Value.int .i64)) ∧ Below w.heap.size w w' := by
  obtain ⟨i0, hi, hz0, hz1, hz2⟩ := info_parts infoI
  have hent : ∀ (args : Array Value) (W : World), (callFunc 34 args).run Try.prog W = .ok (.enter 34 args) W := fun args W => by kernel_rfl
  go_enter Try.func31, Try.ntmps31
  go_wp2
  go_loopw [5, 8] (fun lv iv wr => ∃ j : Nat, j ≤ n ∧ iv = .int .i64 j ∧ wr.ownsRow w.heap.size 3 1 lv (thoseL Pk j).length ((thoseL Pk j).map (Value.int .i64)) ∧ Below w.heap.size w wr) (fun _ i _ => n - (intOf i).toNat)
  case atStart => exact ⟨0, Nat.zero_le _, rfl, World.ownsRow_nil _ _ _ _, Below.refl _ _⟩
  case round =>
    obtain ⟨j, hj, rfl, hO, hb⟩ := hrel
    obtain ⟨pp, cc, rfl⟩ := owns_formP hO
    by_cases hlt : j < n
    · have hjl : (j : Int) < (n : Int) := by omega
      have hc := hcall j wr hlt hb
      have hlen := thoseL_len Pk j
      have HO : Hid _ := hO
      have HC : Hid _ := hcall
      have hst : Hid _ := thoseL_succ Pk j
      clear hO hcall
      go_wp2_with fail
      refine hc.mono ?_
      rintro e w2 ⟨rfl, hb2⟩
      clear hc
      have hO2 : w2.ownsRow w.heap.size 3 1 (.slice pp (thoseL Pk j).length cc) (thoseL Pk j).length ((thoseL Pk j).map (Value.int .i64)) := by
        refine owns_keep HO.out (grown_below' hb2 none) ?_
        exact or_none _
      have hbw2 := hb.trans (hb2.mono hb.size)
      cases hP : Pk j with
      | false =>
        have HE : Hid (thoseL Pk (j + 1) = thoseL Pk j) := by unfold Hid; rw [hst.out, hP]; simp
        have HO2 : Hid _ := hO2
        have HB2 : Hid _ := hbw2
        clear hO2 hbw2 HO HC
        go_wp2
        refine ⟨⟨j + 1, by omega, by go_num, ?_, HB2.out⟩, by simp [intOf]; omega⟩
        rw [HE.out]
        exact HO2.out
      | true =>
        have HE : Hid (thoseL Pk (j + 1) = thoseL Pk j ++ [(j : Int)]) := by unfold Hid; rw [hst.out, hP]; simp
        have hownA := hO2.alloc (.cells #[.int .i64 (j : Int)] 3)
        have hnews := one_cell w2 (.int .i64 (j : Int)) 3
        have hone : ∀ u ∈ [Value.int .i64 (j : Int)], u.oneCell' = true := by intro u hu; rw [List.mem_singleton.1 hu]; rfl
        have hmx : (thoseL Pk j).length + 1 ≤ maxLen := by unfold maxLen; omega
        have hby : ((thoseL Pk j).length + 1) * 8 ≤ 140737488355328 := by omega
        have hbs : w.heap.size ≤ (w2.alloc (.cells #[.int .i64 (j : Int)] 3)).heap.size := by have := hbw2.size; simp; omega
        have hlow : ∀ k, (Value.slice pp (thoseL Pk j).length cc).ownBlock = some k → w.heap.size ≤ k := fun k e => (hO2.lt k e).1
        have HB2 : Hid _ := hbw2
        clear hO2 hbw2 HO HC
        go_wp2_with (at_builtin; refine wpList_append_own_at _ rfl _ _ 33 rfl w.heap.size 3 i0 (.int .i64 0) 1 8 Try.underlying33 hi hz0 hz1 hz2 rfl (by decide) (.slice pp (thoseL Pk j).length cc) _ _ rfl hownA ⟨w2.heap.size, 0, none⟩ 1 1 [.int .i64 (j : Int)] rfl rfl hnews hone hmx hby hbs ?_)
        intro v6 w6 hown6 hg6 hnil6 hat6
        obtain ⟨a6, m6, c6, rfl⟩ := owns_slice hown6
        have HO6 : Hid _ := hown6
        have HB6 : Hid (Below w.heap.size w w6) := (HB2.out.alloc HB2.out.size _).grown hg6 hbs hlow
        clear hown6 hg6 hnil6 hat6 hownA hnews hone hmx hby hbs hlow
        go_wp2
        refine ⟨⟨j + 1, by omega, by go_num, ?_, HB6.out⟩, by simp [intOf]; omega⟩
        rw [HE.out, List.length_append, List.map_append]
        exact HO6.out
    · obtain rfl : j = n := by omega
      go_wp2
      go_ret
      exact ⟨_, rfl, hO, hb⟩
end Go.Proofs.Ytdadpfkoocpfaaa
