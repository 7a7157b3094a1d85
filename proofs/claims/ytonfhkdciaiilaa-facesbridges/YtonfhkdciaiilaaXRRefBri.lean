/-
  The contract of the reference's Bridges.
-/
import Derived.Test.YtonfhkdciaiilaaXRBriM
import Derived.Test.YtonfhkdciaiilaaXRRefLess
namespace Go.Proofs.Ytonfhkdciaiilaa
open Go Go.Proofs Go.RowKit

theorem comps_le (N : Nat) (l : List Ed) : comps N l ≤ N := rcAt_len _ _ _
def briP (N : Nat) (l : List Ed) (p : Nat) : Bool := decide (comps N l < comps N (lessG l p))

set_option maxRecDepth 100000 in
set_option maxHeartbeats 4000000 in
theorem refBridges_any (N : Nat) (l : List Ed) (hR : RightG (N : Int) l) (sv : Value) (w : World) (hl : Edges w.heap.size w sv l) :
    Calls Try.prog 16 #[.agg #[.int .i64 (N : Int), sv]] w fun r w' => ∃ lv, r = .returned lv ∧ Ints w'.heap.size w' lv (thoseL (briP N l) l.length) ∧ Below w.heap.size w w' := by
  obtain ⟨p, c, rfl⟩ := hl.len
  have hg1 : Grew w (w.alloc (.cells #[.int .i64 (N : Int), .slice p l.length c] 24)) := (Grew.refl w).alloc _
  have hX1 : Blk 24 (w.alloc (.cells #[.int .i64 (N : Int), .slice p l.length c] 24)) w.heap.size [.int .i64 (N : Int), .slice p l.length c] := heap_alloc_new w _
  obtain ⟨i0, hi, hz0, hz1, hz2⟩ := info_parts infoI
  have hn1 := hR.n1
  have hm1 := hR.m1
  have q0 := hX1.cell (j := 0) rfl
  have q1 := hX1.cell (j := 1) rfl
  have hcm := refComponents_any N l hR _ _ (hl.go hg1.below)
  go_enter Try.func16, Try.ntmps16
  go_wp2_with fail
  refine hcm.mono ?_
  clear hcm
  rintro e w2 ⟨lv2, svs2, h2, rfl, hG2, hb2⟩
  have hls : ∃ p2 c2, lv2 = .slice p2 (comps N l) c2 := hG2.lsts.len
  obtain ⟨p2, c2, rfl⟩ := hls
  have hbw2 := hg1.below.trans (hb2.mono hg1.below.size)
  have hX2 := hX1.go hb2
  have hwl : w.heap.size < w2.heap.size := hX2.lt
  have x0 := hX2.cell (j := 0) rfl
  have x1 := hX2.cell (j := 1) rfl
  have hcl := comps_le N l
  obtain ⟨Pk, HPk⟩ : ∃ Pk, Hid (Pk = briP N l) := ⟨_, rfl⟩
  have HP : Hid (∀ j, Pk j = decide (comps N l < comps N (lessG l j))) := fun _ => by rw [HPk.out]; rfl
  clear q0 q1 hX1 hb2 hg1 hX2 hG2
  go_wp2
  go_loopw [3, 5] (fun ov iv wr => ∃ j : Nat, j ≤ l.length ∧ iv = .int .i64 j ∧ wr.ownsRow w2.heap.size 3 1 ov (thoseL Pk j).length ((thoseL Pk j).map (Value.int .i64)) ∧ Below w2.heap.size w2 wr) (fun _ iv _ => l.length - (intOf iv).toNat)
  case atStart => exact ⟨0, Nat.zero_le _, rfl, World.ownsRow_nil _ _ _ _, Below.refl _ _⟩
  case round =>
    obtain ⟨j, hj, rfl, hown, hb⟩ := hrel
    have y0 := (hb.cell (p := ⟨w.heap.size, 0, none⟩) hwl).trans x0
    have y1 := (hb.cell (p := ⟨w.heap.size, 1, none⟩) hwl).trans x1
    have hbw : Below w.heap.size w wr := hbw2.trans (hb.mono (by omega))
    have hml := thoseL_len Pk j
    obtain ⟨ax, cx, rfl⟩ := owns_formP hown
    by_cases hlt : j < l.length
    · have hjl : (j : Int) < (l.length : Int) := by omega
      have hbA : Below wr.heap.size wr (wr.alloc (.cells #[.int .i64 (j : Int)] 3)) := (Below.refl _ _).alloc (Nat.le_refl _) _
      have hI2 : Ints (wr.alloc (.cells #[.int .i64 (j : Int)] 3)).heap.size (wr.alloc (.cells #[.int .i64 (j : Int)] 3)) (.slice (some ⟨wr.heap.size, 0, none⟩) 1 1) [(j : Int)] := Blk.ints (l := [(j : Int)]) (t := 3) (heap_alloc_new wr _)
      have hls := refLess_any (N : Int) l hR [(j : Int)] (by simp) _ _ _ ((hl.go hbw).go hbA) hI2
      clear hI2
      go_wp2_with fail
      refine hls.mono ?_
      clear hls
      rintro e w5 ⟨gv, rfl, hE5, hb5⟩
      have hb5' := hbA.trans (hb5.mono hbA.size)
      have hco := refComponents_any N (lessG l j) (keep_right hR _) _ _ hE5
      clear hb5 hbA
      go_wp2_with fail
      refine hco.mono ?_
      clear hco hE5
      rintro e w6 ⟨lv6, svs6, h6, rfl, hG6, hb6⟩
      have hls : ∃ p2 c2, lv6 = .slice p2 (comps N (lessG l j)) c2 := hG6.lsts.len
      obtain ⟨p6, c6, rfl⟩ := hls
      have hb6' : Below wr.heap.size wr w6 := hb5'.trans (hb6.mono hb5'.size)
      have hown6 := owns_below hown hb6'
      have hbw6 : Below w2.heap.size w2 w6 := hb.trans (hb6'.mono hb.size)
      have hcl6 := comps_le N (lessG l j)
      have hPj := HP.out j
      have HS : Hid (thoseL Pk (j + 1) = thoseL Pk j ++ (if Pk j then [(j : Int)] else [])) := thoseL_succ Pk j
      clear hG6 hb6 hb5' hb6' hown y0 y1 hbw
      generalize thoseL Pk j = R at *
      by_cases hcmp : comps N l < comps N (lessG l j)
      · have hcmp' : (comps N l : Int) < (comps N (lessG l j) : Int) := by omega
        have HS2 : Hid (thoseL Pk (j + 1) = R ++ [(j : Int)]) := by rw [Hid, HS.out, hPj, decide_eq_true hcmp, if_pos rfl]
        clear HS hPj hcmp
        have hownA := hown6.alloc (.cells #[.int .i64 (j : Int)] 3)
        have hnews := one_cell w6 (.int .i64 (j : Int)) 3
        have hone : ∀ z ∈ [Value.int .i64 (j : Int)], z.oneCell' = true := by intro z hz; rw [List.mem_singleton.1 hz]; rfl
        have hmx : R.length + 1 ≤ maxLen := by unfold maxLen; omega
        have hby : (R.length + 1) * 8 ≤ 140737488355328 := by omega
        have hbs : w2.heap.size ≤ (w6.alloc (.cells #[.int .i64 (j : Int)] 3)).heap.size := by have := hbw6.size; simp; omega
        have hlow : ∀ k, (Value.slice ax R.length cx).ownBlock = some k → w2.heap.size ≤ k := fun k hk => (hown6.lt k hk).1
        go_wp2_with (at_builtin; refine wpList_append_own_at _ rfl _ _ 32 rfl w2.heap.size 3 i0 (.int .i64 0) 1 8 Try.underlying32 hi hz0 hz1 hz2 rfl (by decide) (.slice ax R.length cx) _ _ rfl hownA ⟨w6.heap.size, 0, none⟩ 1 1 [.int .i64 (j : Int)] rfl rfl hnews hone hmx hby hbs ?_)
        intro v7 w7 hown7 hg7 hnil7 hat7
        obtain ⟨a7, m7, k7, rfl⟩ := owns_slice hown7
        have hb7 : Below w2.heap.size w2 w7 := (hbw6.alloc hbw6.size _).grown hg7 hbs hlow
        have hown7' : w7.ownsRow w2.heap.size 3 1 (.slice a7 m7 k7) (R ++ [(j : Int)]).length ((R ++ [(j : Int)]).map (Value.int .i64)) := by
          rw [List.length_append, List.map_append]; exact hown7
        clear hown7 hg7 hnil7 hat7 hownA hnews hone
        go_wp2
        exact ⟨⟨j + 1, by omega, by go_num, by rw [HS2.out]; exact hown7', hb7⟩, by simp [intOf]; omega⟩
      · have hcmp' : ¬ (comps N l : Int) < (comps N (lessG l j) : Int) := by omega
        have HS2 : Hid (thoseL Pk (j + 1) = R) := by rw [Hid, HS.out, hPj, decide_eq_false hcmp]; simp
        clear HS hPj hcmp
        go_wp2
        exact ⟨⟨j + 1, by omega, by go_num, by rw [HS2.out]; exact hown6, hbw6⟩, by simp [intOf]; omega⟩
    · obtain rfl : j = l.length := by omega
      have hjl : ¬ (l.length : Int) < (l.length : Int) := by omega
      have hI := owns_intsP hown
      generalize (thoseL Pk l.length).length = m at *
      go_wp2
      go_ret
      exact ⟨.slice ax m cx, rfl, by rw [← HPk.out]; exact hI, hbw⟩
end Go.Proofs.Ytonfhkdciaiilaa
