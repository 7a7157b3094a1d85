/-
  container/heap's Push and Pop over the queue of stops.
-/
import Derived.Test.YtejemnjadgihbaaXWaPush
namespace Go.Proofs.Ytejemnjadgihbaa
open Go Go.Proofs Go.RowKit Go.Joins

/-- The queue, in the search's block. -/
structure QS (w : World) (sb base : Nat) (X : List Value) (qv : Value) (L : List Stp) : Prop where
  blk : SB w sb X qv
  own : QO w base qv L
  ne : some sb ≠ qv.ownBlock
theorem QS.cell {w : World} {sb base : Nat} {X : List Value} {qv : Value} {L : List Stp} (h : QS w sb base X qv L) (hX : X.length = 5) : w.cell? ⟨sb, 5, none⟩ = some qv := h.blk.cell (by rw [List.getElem?_append_right (by omega), hX]; rfl)
/-- What a queue has become. -/
def Became (sb base : Nat) (X : List Value) (qv : Value) (L : List Stp) (w w' : World) : Prop := ∃ qv' L', L'.Perm L ∧ QS w' sb base X qv' L' ∧ NewQ w qv qv' ∧ QM sb qv w w'
theorem QI.qs {w : World} {sb base g cap : Nat} {X : List Value} {L L' : List Stp} {W : World} (hs : SB w sb X (.slice (some ⟨g, 0, none⟩) L.length cap)) (hg : w.grownBy W (some g)) (hq : QI W sb base g cap L') (hl : L'.length = L.length) : QS W sb base X (.slice (some ⟨g, 0, none⟩) L'.length cap) L' := by
  refine ⟨?_, hq.own, fun e => hq.ne (Option.some.inj e)⟩
  rw [hl]
  exact (hg.block sb hs.lt (fun e => hq.ne (Option.some.inj e))).trans hs

set_option maxRecDepth 100000 in
set_option maxHeartbeats 4000000 in
theorem hpush_any (sb base : Nat) (X : List Value) (hX : X.length = 5) (qv : Value) (L : List Stp) (x : Stp) (w : World) (h : QS w sb base X qv L) (hm : L.length ≤ 8796093022207) (hbase : base ≤ w.heap.size) :
    Calls Try.prog 33 #[.iface 63 (.pointer (some ⟨sb, 5, none⟩)), .iface 55 (.agg #[.int .i64 (x.1 : Int), .int .i64 (x.2 : Int)])] w fun e w' => e = .returned (.tuple #[]) ∧ Became sb base X qv (L ++ [x]) w w' := by
  have hmix := mixed
  have m1 := method_push ⟨sb, 5, none⟩ w
  have hp := qpush_any sb base X hX qv L x w h.blk h.own h.ne hm hbase
  go_enter Try.func33, Try.ntmps33
  go_wp2_with fail
  refine hp.mono ?_
  rintro e w1 ⟨rfl, qv1, hS1, hQ1, hn1, hM1⟩
  clear hp m1
  have hne1 : some sb ≠ qv1.ownBlock := by
    rcases hn1 with e | ⟨k, e, hk⟩
    · rw [e]; exact h.ne
    · rw [e]; intro e'; have := Option.some.inj e'; have := h.blk.lt; omega
  have hQS1 : QS w1 sb base X qv1 (L ++ [x]) := ⟨hS1, hQ1, hne1⟩
  obtain ⟨g, cap, rfl⟩ := ownsRow_form hQ1 (by simp)
  have hc1 := hQS1.cell hX
  have m2 := method_len ⟨sb, 5, none⟩ w1 _ hc1
  have hlen : (L ++ [x]).length = L.length + 1 := by simp
  have hq1 : QI w1 sb base g cap (L ++ [x]) := ⟨hc1, hQ1, fun e => hne1 (congrArg some e)⟩
  have hu := up_any sb base g cap (L ++ [x]) L.length w1 hq1 (by omega) (by omega)
  have HE : Hid _ := hlen
  rw [hlen] at m2 hc1
  clear hlen
  go_wp2_with (go_at_call 22; refine (qlen_any _ _ _ _).mono ?_; rintro e w' ⟨rfl, rfl⟩)
  refine hu.mono ?_
  rintro e w2 ⟨rfl, L2, hp2, hg2, hq2⟩
  clear hu m2 hc1
  go_wp2
  refine bodyPost_end (results_none rfl _ _ _) rfl ⟨rfl, _, L2, hp2, QI.qs hS1 hg2 hq2 hp2.length_eq, hn1.trans hM1.2.2.2.1 (.inl rfl), hM1.trans hn1 (QM.of_grown hg2 rfl)⟩

/-- What comes off: one of the stops, and the others stay. -/
def OffQ (sb base : Nat) (X : List Value) (qv : Value) (L : List Stp) (w : World) (e : Ending) (w' : World) : Prop := ∃ (x : Stp) (qv' : Value) (L' : List Stp), e = .returned (.iface 55 (.agg #[.int .i64 (x.1 : Int), .int .i64 (x.2 : Int)])) ∧ (x :: L').Perm L ∧ QS w' sb base X qv' L' ∧ NewQ w qv qv' ∧ QM sb qv w w'
set_option maxRecDepth 100000 in
set_option maxHeartbeats 4000000 in
theorem hpop_any (sb base : Nat) (X : List Value) (hX : X.length = 5) (qv : Value) (L : List Stp) (w : World) (h : QS w sb base X qv L) (h0 : 0 < L.length) (hm : L.length ≤ 8796093022208) :
    Calls Try.prog 34 #[.iface 63 (.pointer (some ⟨sb, 5, none⟩))] w fun e w' => OffQ sb base X qv L w e w' := by
  have hmix := mixed
  obtain ⟨g, cap, rfl⟩ := ownsRow_form h.own h0
  have hc := h.cell hX
  have m1 := method_len ⟨sb, 5, none⟩ w _ hc
  have m2 := method_swap ⟨sb, 5, none⟩ w _ hc
  obtain ⟨n, hn⟩ : ∃ n : Nat, L.length = n + 1 := ⟨L.length - 1, by omega⟩
  have hne : sb ≠ g := fun e => h.ne (congrArg some e)
  have hQ0 := h.own
  have hS0 := h.blk
  have HN : Hid _ := hn
  unfold QO at hQ0
  have hsw := qswap_at base g cap L 0 n (n + 1) w hn (by unfold QO; rw [hn] at hQ0 ⊢; exact hQ0) (by omega) (by omega)
  rw [hn] at hc m1 m2 hm
  rw [hn] at hS0 ⊢
  clear hn
  go_enter Try.func34, Try.ntmps34
  go_wp2_with (go_at_call 22; refine (qlen_any _ _ _ _).mono ?_; rintro e w' ⟨rfl, rfl⟩)
  refine hsw.mono ?_
  rintro e w1 ⟨rfl, L1, hl1, hp1, _, ha1, hg1, ho1⟩
  clear hsw m1 m2
  have hc1 : w1.cell? ⟨sb, 5, none⟩ = some (.slice (some ⟨g, 0, none⟩) (n + 1) cap) := hg1.cell hc (fun e => hne (Option.some.inj e))
  have HL1 : Hid _ := hl1
  have hq1 : QI w1 sb base g cap L1 := ⟨by rw [hl1]; exact hc1, by rw [hl1]; exact ho1, hne⟩
  have hd := down_any sb base g cap L1 n w1 hq1 (by omega) (by omega)
  clear hl1
  go_wp2_with fail
  refine hd.mono ?_
  rintro e w2 ⟨⟨b, rfl⟩, L2, hp2, ha2, hg2, hq2⟩
  clear hd hc1
  have hl2 : L2.length = n + 1 := hp2.length_eq.trans HL1.out
  have hg12 := grown_trans hg1 hg2
  -- the last one
  obtain ⟨L3, x, rfl⟩ : ∃ L3 x, L2 = L3 ++ [x] := by
    refine ⟨L2.dropLast, L2.getLast (by intro e; rw [e] at hl2; simp at hl2), (List.dropLast_concat_getLast _).symm⟩
  have hl3 : L3.length = n := by simpa using hl2
  have hc2 := hq2.cell
  have ho2 := hq2.own
  rw [hl2] at hc2 ho2
  have hS2 : SB w2 sb X (.slice (some ⟨g, 0, none⟩) (n + 1) cap) := (hg12.block sb hS0.lt (fun e => hne (Option.some.inj e))).trans hS0
  have m3 := method_pop ⟨sb, 5, none⟩ w2
  have hpop := qpop_any sb base g cap X hX L3 x w2 (by rw [hl3]; exact hS2) (by rw [hl3]; exact ho2) hne (by omega)
  have HL3 : Hid _ := hl3
  clear hl2 hl3
  go_wp2_with fail
  refine hpop.mono ?_
  rintro e w3 ⟨rfl, hS3, hQ3, hM3⟩
  clear hpop m3
  go_wp2
  go_ret
  refine ⟨x, _, L3, rfl, ?_, ⟨hS3, hQ3, fun e => hne (Option.some.inj e)⟩, .inl rfl, (QM.of_grown hg12 rfl).trans (.inl rfl) hM3⟩
  exact (List.perm_append_comm.trans hp2).trans hp1
end Go.Proofs.Ytejemnjadgihbaa
