/-
  What ways end at: kuratowski.cornersOf.
-/
import Derived.Sort.OwnSortedInts
import Derived.Lib.OwnBridge
import Derived.Test.YtgjaikekpgdehaaShelfS
import Derived.Test.YtgjaikekpgdehaaXKEnds
namespace Go.Proofs.Ytgjaikekpgdehaa
open Go Go.Proofs Go.RowKit

def sortL (L : List Int) : List Int := L.mergeSort fun x y => decide (x ≤ y)
theorem sortL_len (L : List Int) : (sortL L).length = L.length := by unfold sortL; simp
theorem sortL_perm (L : List Int) : (sortL L).Perm L := List.mergeSort_perm _ _
theorem sortL_rise (L : List Int) : (sortL L).Pairwise (· ≤ ·) := by
  have h1 : (sortL L).Pairwise (fun x y => decide (x ≤ y) = true) := List.pairwise_mergeSort (fun a b c h1 h2 => by simp at *; omega) (fun a b => by simp; omega) L
  exact h1.imp fun h => by simpa using h
/-- The ends of all of them, one behind the other. -/
def endsL (ws : List (List Int)) : List Int := ws.flatMap fun x => [(endP x).1, (endP x).2]
theorem endsL_snoc (ws : List (List Int)) (x : List Int) : endsL (ws ++ [x]) = endsL ws ++ [(endP x).1, (endP x).2] := by unfold endsL; simp
theorem endsL_len : ∀ (ws : List (List Int)), (endsL ws).length = 2 * ws.length
  | [] => rfl
  | x :: ws => by
    have := endsL_len ws
    unfold endsL at *
    simp only [List.flatMap_cons, List.length_append, List.length_cons, List.length_nil, this]
    omega
def crnL (ws : List (List Int)) : List Int := Lib.compact (sortL (endsL ws))

theorem two_news (W : World) (x y : Value) (t : TypeId) : ∀ (q : Nat) (u : Value), [x, y][q]? = some u → (W.alloc (.cells #[x, y] t)).cell? ((⟨W.heap.size, 0, none⟩ : Addr).add q) = some u := by
  intro q u hu
  rw [Go.WideShapes.add_plain, Nat.zero_add]
  match q with
  | 0 => simp at hu; subst hu; simp
  | 1 => simp at hu; subst hu; simp
  | q + 2 => simp at hu

set_option maxRecDepth 100000 in
set_option maxHeartbeats 4000000 in
theorem cornersOf_any (ws : List (List Int)) (h0 : 0 < ws.length) (hm : ws.length ≤ 4194304) (hw : ∀ x ∈ ws, 1 ≤ x.length ∧ x.length ≤ 4194304) (lv : Value) (w : World) (hl : Lsts w.heap.size w lv ws) :
    Calls Try.prog 42 #[lv] w fun r w' => ∃ cv, r = .returned cv ∧ Ints w'.heap.size w' cv (crnL ws) ∧ Below w.heap.size w w' := by
  obtain ⟨p, c, rfl⟩ := hl.len
  obtain ⟨k0, hk, hy0, hy1, hy2⟩ := info_parts infoI
  have HW : Hid (∀ x ∈ ws, 1 ≤ x.length ∧ x.length ≤ 4194304) := hw
  clear hw
  go_enter Try.func42, Try.ntmps42
  go_wp2
  go_loopw [3, 9] (fun cv i wr => ∃ j : Nat, j ≤ ws.length ∧ i = .int .i64 j ∧ wr.ownsRow w.heap.size 3 1 cv (endsL (ws.take j)).length ((endsL (ws.take j)).map (Value.int .i64)) ∧ Below w.heap.size w wr) (fun _ i _ => ws.length - (intOf i).toNat)
  case atStart => exact ⟨0, Nat.zero_le _, rfl, World.ownsRow_nil _ _ _ _, Below.refl _ _⟩
  case round =>
    obtain ⟨j, hj, rfl, hO, hb⟩ := hrel
    obtain ⟨pp, cc, rfl⟩ := owns_form hO
    by_cases hlt : j < ws.length
    · have hjl : (j : Int) < (ws.length : Int) := by omega
      obtain ⟨b, off, rfl, hbb, hcap, px, cx, hIx, c0⟩ := hl.cellAt hlt
      replace c0 := (hb.cell (p := ⟨b, off + j, none⟩) hbb).trans c0
      have hx := HW.out ws[j] (List.getElem_mem hlt)
      have HE : Hid (endsL (ws.take (j + 1)) = endsL (ws.take j) ++ [(endP ws[j]).1, (endP ws[j]).2]) := by unfold Hid; rw [take_snoc hlt, endsL_snoc]
      have hen := endsOf_any ws[j] hx.1 hx.2 (.slice px ws[j].length cx) w.heap.size wr hb.size (hIx.below hb)
      have hlen := endsL_len (ws.take j)
      have hlen2 : (endsL (ws.take j)).length ≤ 8388608 := by rw [hlen, List.length_take]; omega
      generalize endsL (ws.take j) = E at *
      generalize hxx : ws[j] = x at *
      clear hlen hIx hxx
      go_wp2_with fail
      refine hen.mono ?_
      rintro e w2 ⟨rfl, hb2⟩
      obtain ⟨x0, x1, hxe⟩ : ∃ x0 x1, endP x = (x0, x1) := ⟨_, _, rfl⟩
      rw [hxe] at HE ⊢
      unfold encP
      clear hxe
      have hO2 := owns_below hO hb2
      have hownA := hO2.alloc (.cells #[.int .i64 x0, .int .i64 x1] 83)
      have hnews := two_news w2 (.int .i64 x0) (.int .i64 x1) 83
      have hone1 : ∀ u ∈ [Value.int .i64 x0, Value.int .i64 x1], u.oneCell' = true := by intro u hu; simp at hu; rcases hu with rfl | rfl <;> rfl
      have hmx : E.length + 2 ≤ maxLen := by unfold maxLen; omega
      have hby : (E.length + 2) * 8 ≤ 140737488355328 := by omega
      have hbw2 := hb.trans (hb2.mono hb.size)
      have hbs : w.heap.size ≤ (w2.alloc (.cells #[.int .i64 x0, .int .i64 x1] 83)).heap.size := by have := hbw2.size; simp; omega
      have hlow : ∀ k, (Value.slice pp E.length cc).ownBlock = some k → w.heap.size ≤ k := fun k e => (hO.lt k e).1
      have HB2 : Hid _ := hbw2
      clear hO hb hO2 hen hbw2 hb2 hx
      go_wp2_with (at_builtin; refine wpList_append_own_at _ rfl _ _ 25 rfl w.heap.size 3 k0 (.int .i64 0) 1 8 Try.underlying25 hk hy0 hy1 hy2 rfl (by decide) (.slice pp E.length cc) _ _ rfl hownA ⟨w2.heap.size, 0, none⟩ 2 2 [.int .i64 x0, .int .i64 x1] rfl rfl hnews hone1 hmx hby hbs ?_)
      intro v6 w6 hown6 hg6 hnil6 hat6
      obtain ⟨a6, c6, rfl⟩ := owns_form hown6
      have HO6 : Hid _ := hown6
      have HB6 : Hid (Below w.heap.size w w6) := (Below.alloc HB2.out (Below.size HB2.out) _).grown hg6 hbs hlow
      clear hown6 hg6 hnil6 hat6 hownA hnews hone1 hmx hby hbs hlow
      go_wp2
      refine ⟨⟨j + 1, by omega, by go_num, ?_, HB6.out⟩, by simp [intOf]; omega⟩
      rw [HE.out, List.length_append, List.map_append]
      exact HO6.out
    · obtain rfl : j = ws.length := by omega
      rw [List.take_length] at hO ⊢
      have hel := endsL_len ws
      have HC : Hid (crnL ws = Lib.compact (sortL (endsL ws))) := rfl
      generalize endsL ws = E at *
      have hEb : 0 < E.length ∧ E.length ≤ 8388608 := by omega
      rcases hO.2 with ⟨h1, h2⟩ | ⟨g3, cap3, cur3, hv, hbase, hblk, h1, h2, h3, h4⟩
      · omega
      · injection hv with e1 e2 e3
        subst e1
        subst e3
        have hgl := (Array.getElem?_eq_some_iff.1 hblk).1
        have hso := Try.slices_Sort_int g3 0 cc E wr (holds_of_blockI hblk (by simpa using h4)) hgl (by omega)
        have HRW : Hid (w.heap.size ≤ g3 ∧ wr.heap[g3]? = some (.cells cur3 3 (0, 0)) ∧ E.length ≤ cc ∧ cc ≤ maxLen ∧ cur3.size = cc * 1) := ⟨hbase, hblk, h1, h2, h3⟩
        have HB : Hid _ := hb
        clear hbase hblk h1 h2 h3 h4 hO hb hel
        go_wp2_with fail
        refine hso.mono ?_
        clear hso
        rintro e w4 ⟨rfl, nn, os, hw4⟩
        have hO4 : w4.ownsRow w.heap.size 3 1 (.slice (some ⟨g3, 0, none⟩) E.length cc) E.length ((sortL E).map (Value.int .i64)) := by
          rw [hw4]
          exact ownsRow_sortedI (ss := E) (ts := sortL E) (sortL_len E) HRW.out.1 HRW.out.2.1 HRW.out.2.2.1 HRW.out.2.2.2.1 HRW.out.2.2.2.2
        have hg4 : wr.grownBy w4 (some g3) := by
          rw [hw4]
          exact grownBy_sortedI _
        have HB4 : Hid (Below w.heap.size w w4) := Below.grown HB.out hg4 (Below.size HB.out) (fun q e => by cases e; exact HRW.out.1)
        obtain ⟨g', cap', hv', hb', hlt', hn', hm', hl', hH⟩ := Lib.holds_of_ownsRow hO4 (by simp)
        injection hv' with e1 _ e3
        injection e1 with e1
        injection e1 with e1
        subst e1
        subst e3
        have hco := Try.slices_Compact_int g3 0 cc (sortL E) w4 hH (by rw [sortL_len]; omega) (by rw [sortL_len]; exact hn')
        rw [sortL_len] at hco
        have HO4 : Hid _ := hO4
        have HLT : Hid (w.heap.size ≤ g3) := hb'
        clear hw4 hg4 hO4 hH hb' hlt' hn' hm' hl' hEb
        go_wp2_with fail
        refine hco.mono ?_
        clear hco
        rintro e w5 ⟨rfl, q, hw5⟩
        have hcl : (Lib.compact (sortL E)).length ≤ E.length := by
          rw [← sortL_len E]
          unfold Lib.compact Lib.compactUpTo
          rw [List.length_map]
          exact Nat.le_trans (List.length_filter_le _ _) (by simp)
        have hO5 : w5.ownsRow w.heap.size 3 1 (.slice (some ⟨g3, 0, none⟩) (Lib.compact (sortL E)).length cc) (Lib.compact (sortL E)).length ((Lib.compact (sortL E)).map (Value.int .i64)) := by
          rw [hw5]
          have := Lib.ownsRow_putRow (q := q) (ys := Lib.compact (sortL E) ++ List.replicate (E.length - (Lib.compact (sortL E)).length) 0) (k := (Lib.compact (sortL E)).length) HO4.out (by rw [List.length_append, List.length_replicate]; omega) hcl
          rw [List.take_left] at this
          exact this
        have HB5 : Hid (Below w.heap.size w w5) := by rw [hw5]; exact Lib.below_putRow HB4.out HLT.out
        have HI5 : Hid (Ints w5.heap.size w5 _ _) := owns_intsK hO5
        rw [← HC.out] at HI5 ⊢
        clear hw5 hcl hO5 HO4 HC
        go_wp2
        go_ret
        exact ⟨_, rfl, HI5.out, HB5.out⟩
end Go.Proofs.Ytgjaikekpgdehaa
