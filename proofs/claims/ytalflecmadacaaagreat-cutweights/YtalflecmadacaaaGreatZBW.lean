import Derived.Test.YtalflecmadacaaaGreatZBV
import Derived.Test.YtalflecmadacaaaGreatZAA
import Derived.Test.YtalflecmadacaaaGreatZAJ
import Derived.Test.YtalflecmadacaaaGreatZBK
set_option maxRecDepth 100000
set_option maxHeartbeats 8000000
namespace Go.Proofs.YtalflecmadacaaaGreat
open Go Go.Proofs Go.RowKit
theorem infoQ : (Tryz.prog.info? 161).map (fun i => (i.zero, i.size, i.bytes)) = some (some (.agg #[.int .i64 0, .int .i64 0]), 2, 16) := by kernel_rfl
theorem info_partsQ {e : TypeId} {z : Value} {k b : Nat} (h : (Tryz.prog.info? e).map (fun i => (i.zero, i.size, i.bytes)) = some (some z, k, b)) : ∃ i, Tryz.prog.info? e = some i ∧ i.zero = some z ∧ i.size = k ∧ i.bytes = b := by
 cases hi : Tryz.prog.info? e with
 | none => rw [hi] at h; cases h
 | some i =>
  rw [hi] at h
  simp only [Option.map_some, Option.some.injEq, Prod.mk.injEq] at h
  exact ⟨i, rfl, h.1, h.2.1, h.2.2⟩
theorem newsQ {w : World} {t : TypeId} (d : StpT) : ∀ (i : Nat) (u : Value), (encQ d)[i]? = some u → (w.alloc (.cells #[.int .i64 (d.1 : Int), .int .i64 (d.2 : Int)] t)).cell? ((⟨w.heap.size, 0, none⟩ : Addr).add i) = some u := by
 intro i u h
 match i, h with
 | 0, h =>
  have : u = .int .i64 (d.1 : Int) := by simpa [encQ] using h.symm
  subst this
  simp [Addr.add]
 | 1, h =>
  have : u = .int .i64 (d.2 : Int) := by simpa [encQ] using h.symm
  subst this
  simp [Addr.add]
 | i + 2, h => simp [encQ] at h
theorem oneQ (d : StpT) : ∀ u ∈ encQ d, u.oneCell' = true := by
 intro u hu
 simp only [encQ, List.mem_cons, List.not_mem_nil, or_false] at hu
 rcases hu with rfl | rfl <;> rfl
theorem owns_sliceQ {W : World} {base : Nat} {e : TypeId} {size : Nat} {v : Value} {n : Nat} {xs : List Value} (h : W.ownsRow base e size v n xs) : ∃ p c, v = .slice p n c := by
 rcases h.2 with ⟨rfl, rfl⟩ | ⟨g, cap, cur, rfl, _⟩ <;> exact ⟨_, _, rfl⟩
abbrev SB (W : World) (sb : Nat) (X : List Value) (qv : Value) : Prop := Blk 157 W sb (X ++ [qv])
def QM (sb : Nat) (qv : Value) (w w' : World) : Prop :=
 w'.os = w.os ∧ w'.tape = w.tape ∧ w'.output = w.output ∧ w.heap.size ≤ w'.heap.size ∧ ∀ k, k < w.heap.size → k ≠ sb → some k ≠ qv.ownBlock → w'.heap[k]? = w.heap[k]?
def NewQ (w : World) (qv qv' : Value) : Prop := qv'.ownBlock = qv.ownBlock ∨ ∃ k, qv'.ownBlock = some k ∧ w.heap.size ≤ k
theorem assert_stop (a b : Value) (w : World) : (Instr.typeAssert (.iface 161 (.agg #[a, b])) 20 161 false).run Tryz.prog w = .ok (.agg #[a, b]) w := by kernel_rfl
theorem qpush_any (sb base : Nat) (X : List Value) (hX : X.length = 5) (qv : Value) (L : List StpT) (x : StpT) (w : World) (hS : SB w sb X qv) (hQ : QO w base qv L) (hne : some sb ≠ qv.ownBlock) (hm : L.length ≤ 8796093022207) (hbase : base ≤ w.heap.size) :
  Calls Tryz.prog 236 #[.pointer (some ⟨sb, 5, none⟩), .iface 161 (.agg #[.int .i64 (x.1 : Int), .int .i64 (x.2 : Int)])] w fun e w' => e = .returned (.tuple #[]) ∧ ∃ qv', SB w' sb X qv' ∧ QO w' base qv' (L ++ [x]) ∧ NewQ w qv qv' ∧ QM sb qv w w' := by
 have hc : w.cell? ⟨sb, 5, none⟩ = some qv := hS.cell (by rw [List.getElem?_append_right (by omega), hX]; rfl)
 obtain ⟨i0, hi, hz0, hz1, hz2⟩ := info_partsQ infoQ
 obtain ⟨pq, cq, rfl⟩ := owns_sliceQ hQ
 have hmix := mixed
 have hta := fun w => assert_stop (.int .i64 (x.1 : Int)) (.int .i64 (x.2 : Int)) w
 go_enter Tryz.func236, Tryz.ntmps236
 go_wp2_with fail
 refine wp_region_last (S := (fun w' : World => w'.cell? ⟨sb, 5, none⟩ = some (.slice pq L.length cq))) (by kernel_rfl) ?_ (fun hHeld => ?_)
 ·(try dsimp only); go_keep
 refine tkL 0 ?_ rfl (by kernel_rfl) rfl (.inl ⟨by rfl, ?_⟩) (by assumption) ?_
 rotate_left
 ·intro w h; (try dsimp only at h); go_simp; (try rfl)
 try simp only [Act.put, z4]
 refine tkL 1 ?_ rfl (by kernel_rfl) rfl (.inl ⟨by rfl, ?_⟩) (by assumption) ?_
 rotate_left
 ·intro w h; (try dsimp only at h); go_simp; (try rfl)
 try simp only [Act.put]
 refine tkL 2 ?_ rfl (by kernel_rfl) rfl (.inl ⟨by rfl, ?_⟩) (by assumption) ?_
 rotate_left
 ·intro w h; (try dsimp only at h); go_simp; (try rfl)
 try simp only [Act.put]
 refine tkL 3 ?_ rfl (by kernel_rfl) rfl (.inl ⟨by rfl, ?_⟩) (by assumption) ?_
 rotate_left
 ·intro w h; (try dsimp only at h); go_simp; (try rfl)
 try simp only [Act.put]
 refine tkL 4 ?_ rfl (by kernel_rfl) rfl (.inl ⟨by rfl, ?_⟩) (by assumption) ?_
 rotate_left
 ·intro w h; (try dsimp only at h); go_simp; (try rfl)
 try simp only [Act.put]
 refine tkL 5 ?_ rfl (by kernel_rfl) rfl (.inl ⟨by rfl, ?_⟩) (by assumption) ?_
 rotate_left
 ·intro w h; (try dsimp only at h); go_simp; (try rfl)
 try simp only [Act.put]
 have hgd : w.grownBy w.drew none := grown_drewN (grown_refl w none) 1
 have hQd : QO w.drew base (.slice pq L.length cq) L := hQ
 have hSd : SB w.drew sb X (.slice pq L.length cq) := hS
 have hbd : base ≤ w.drew.heap.size := hbase
 generalize w.drew = w1 at hgd hQd hSd hbd hHeld ⊢
 have hgA : w1.grownBy (w1.alloc (.cells #[.int .i64 (x.1 : Int), .int .i64 (x.2 : Int)] 161)) none := World.grownBy_alloc _ _ _
 have hQA := World.ownsRow.alloc hQd (.cells #[.int .i64 (x.1 : Int), .int .i64 (x.2 : Int)] 161)
 have hSA : SB (w1.alloc (.cells #[.int .i64 (x.1 : Int), .int .i64 (x.2 : Int)] 161)) sb X (.slice pq L.length cq) := (hgA.block sb hSd.lt (by simp)).trans hSd
 have hcA : (w1.alloc (.cells #[.int .i64 (x.1 : Int), .int .i64 (x.2 : Int)] 161)).cell? ⟨sb, 5, none⟩ = some (.slice pq L.length cq) := hSA.cell (by rw [List.getElem?_append_right (by omega), hX]; rfl)
 have hnw : Src (w1.alloc (.cells #[.int .i64 (x.1 : Int), .int .i64 (x.2 : Int)] 161)) (.slice (some ⟨w1.heap.size, 0, none⟩) 1 1) 1 2 (encQ x) := .inr ⟨⟨w1.heap.size, 0, none⟩, 1, rfl, rfl, newsQ x, oneQ x⟩
 have hmx : L.length + 1 ≤ maxLen := by unfold maxLen; omega
 have hby : (L.length + 1) * 16 ≤ 140737488355328 := by omega
 have hsA : base ≤ (w1.alloc (.cells #[.int .i64 (x.1 : Int), .int .i64 (x.2 : Int)] 161)).heap.size := Nat.le_trans hbd hgA.size
 refine wpAnyL_ready (rs := [6]) (by kernel_rfl) (by simp) ?_
 refine AllReadyL.cons rfl (fun K hK => ?_) AllReadyL.nil
 go_simp
 refine hK.out _ _ hcA (fun hHeld12 => ?_)
 clear hK K
 try simp only [Act.put, z4, z5, z6]
 refine wpAnyL_ready (rs := [7]) (by kernel_rfl) (by simp) ?_
 refine AllReadyL.cons rfl (fun K hK => ?_) AllReadyL.nil
 refine step_append_src rfl _ _ 155 rfl base 161 i0 (.agg #[.int .i64 0, .int .i64 0]) 2 16 Tryz.underlying155 hi hz0 hz1 hz2 rfl (by decide) (.slice pq L.length cq) L.length (flatQ L) rfl hQA (.slice (some ⟨w1.heap.size, 0, none⟩) 1 1) 1 (encQ x) rfl hnw hmx hby hsA ?_
 intro v8 w12 ho8 hg8 hat8
 obtain ⟨a8, k8, rfl⟩ := owns_sliceQ ho8
 have hS12 : SB w12 sb X (.slice pq L.length cq) := (hg8.block sb hSA.lt hne).trans hSA
 have c12 : w12.cell? ⟨sb, 5, none⟩ = some (.slice pq L.length cq) := hS12.cell (by rw [List.getElem?_append_right (by omega), hX]; rfl)
 have f12 : w12.frozen? ⟨sb, 5, none⟩ = false := hS12.frozen 5
 refine hK.out _ _ c12 (fun hHeld13 => ?_)
 clear hK K
 try simp only [Act.put, z4]
 refine wpAnyL_ready (rs := [8]) (by kernel_rfl) (by simp) ?_
 refine AllReadyL.cons rfl (fun K hK => ?_) AllReadyL.nil
 go_simp
 refine hK.out _ _ ?_ (fun hHeld => ?_)
 ·(try dsimp only); first | (go_keep; done) | ((repeat' apply And.intro) <;> go_simp)
 clear hK K
 try simp only [Act.put, z4, z5, z6]
 refine wpAnyL_ready (rs := [9]) (by kernel_rfl) (by simp) ?_
 refine AllReadyL.last rfl (by kernel_rfl) (fun K hK => ?_)
 go_simp
 refine hK.out _ _ ?_
 clear hK K
 try simp only [Act.put, z4, z5, z6]
 refine wpAnyL_done (by kernel_rfl) ?_ _
 have hob : (Value.slice a8 (L.length + 1) k8).ownBlock = (Value.slice pq L.length cq).ownBlock ∨ ∃ k, (Value.slice a8 (L.length + 1) k8).ownBlock = some k ∧ w1.heap.size ≤ k := by
  rcases hat8 with h1 | h1
  ·exact .inl h1
  ·exact .inr ⟨_, h1, by simp⟩
 have hne8 : (Value.slice a8 (L.length + 1) k8).ownBlock ≠ some sb := by
  rcases hob with h1 | ⟨k, h1, h2⟩
  ·rw [h1]; exact Ne.symm hne
  ·rw [h1]; intro e; have := Option.some.inj e; have := hSd.lt; omega
 have hS' : SB (w12.setCell ⟨sb, 5, none⟩ (.slice a8 (L.length + 1) k8)) sb X (.slice a8 (L.length + 1) k8) := by
  have h1 := hS12.set 5 (.slice a8 (L.length + 1) k8)
  have h2 : (X ++ [Value.slice pq L.length cq]).set 5 (.slice a8 (L.length + 1) k8) = X ++ [.slice a8 (L.length + 1) k8] := by
   rw [List.set_append_right _ _ (by omega), hX]; rfl
  rwa [h2] at h1
 have hQ' : QO (w12.setCell ⟨sb, 5, none⟩ (.slice a8 (L.length + 1) k8)) base (.slice a8 (L.length + 1) k8) (L ++ [x]) := by
  have h1 := ownsRow_setCell_other ho8 (a := ⟨sb, 5, none⟩) hne8 (.slice a8 (L.length + 1) k8)
  unfold QO
  rw [flatQ_snoc, List.length_append]
  exact h1
 have hM : QM sb (.slice pq L.length cq) w (w12.setCell ⟨sb, 5, none⟩ (.slice a8 (L.length + 1) k8)) := by
  refine ⟨?_, ?_, ?_, ?_, fun k hk h1 h2 => ?_⟩
  ·exact (hg8.os.trans hgA.os).trans hgd.os
  ·exact (hg8.tape.trans hgA.tape).trans hgd.tape
  ·exact (hg8.output.trans hgA.output).trans hgd.output
  ·have := hgd.size; have := hgA.size; have := hg8.size; simp only [World.size_setCell]; omega
  ·rw [heap_setCell_other w12 ⟨sb, 5, none⟩ k _ h1]
   have k1 : k < w1.heap.size := Nat.lt_of_lt_of_le hk hgd.size
   exact ((hg8.block k (Nat.lt_of_lt_of_le k1 hgA.size) h2).trans (hgA.block k k1 (by simp))).trans (hgd.block k hk (by simp))
 go_wp2
 refine bodyPost_end (results_none rfl _ _ _) rfl ⟨rfl, _, hS', hQ', ?_, hM⟩
 rcases hob with h1 | ⟨k, h1, h2⟩
 ·exact .inl h1
 ·exact .inr ⟨k, h1, Nat.le_trans hgd.size h2⟩
theorem QM.trans {sb : Nat} {qv qv' : Value} {a b c : World} (h : QM sb qv a b) (hn : NewQ a qv qv') (h' : QM sb qv' b c) : QM sb qv a c := by
 refine ⟨h'.1.trans h.1, h'.2.1.trans h.2.1, h'.2.2.1.trans h.2.2.1, Nat.le_trans h.2.2.2.1 h'.2.2.2.1, fun k hk h1 h2 => ?_⟩
 refine (h'.2.2.2.2 k (Nat.lt_of_lt_of_le hk h.2.2.2.1) h1 ?_).trans (h.2.2.2.2 k hk h1 h2)
 rcases hn with e | ⟨j, e, hj⟩
 ·rw [e]; exact h2
 ·rw [e]; intro e'; have := Option.some.inj e'; omega
theorem NewQ.trans {a b : World} {x y z : Value} (h : NewQ a x y) (hs : a.heap.size ≤ b.heap.size) (h' : NewQ b y z) : NewQ a x z := by
 rcases h' with e | ⟨k, e, hk⟩
 ·rcases h with e' | ⟨j, e', hj⟩
  ·exact .inl (e.trans e')
  ·exact .inr ⟨j, e.trans e', hj⟩
 ·exact .inr ⟨k, e, by omega⟩
theorem QM.of_grown {sb g : Nat} {qv : Value} {a b : World} (h : a.grownBy b (some g)) (hq : qv.ownBlock = some g) : QM sb qv a b := ⟨h.os, h.tape, h.output, h.size, fun k hk _ h2 => h.block k hk (by rw [← hq]; exact h2)⟩
theorem qpop_any (sb base g cap : Nat) (X : List Value) (hX : X.length = 5) (L : List StpT) (x : StpT) (w : World) (hS : SB w sb X (.slice (some ⟨g, 0, none⟩) (L.length + 1) cap)) (hQ : QO w base (.slice (some ⟨g, 0, none⟩) (L.length + 1) cap) (L ++ [x])) (hne : sb ≠ g) (hm : L.length ≤ 8796093022207) :
  Calls Tryz.prog 235 #[.pointer (some ⟨sb, 5, none⟩)] w fun e w' => e = .returned (.iface 161 (.agg #[.int .i64 (x.1 : Int), .int .i64 (x.2 : Int)])) ∧ SB w' sb X (.slice (some ⟨g, 0, none⟩) L.length cap) ∧ QO w' base (.slice (some ⟨g, 0, none⟩) L.length cap) L ∧ QM sb (.slice (some ⟨g, 0, none⟩) (L.length + 1) cap) w w' := by
 have hc : w.cell? ⟨sb, 5, none⟩ = some (.slice (some ⟨g, 0, none⟩) (L.length + 1) cap) := hS.cell (by rw [List.getElem?_append_right (by omega), hX]; rfl)
 have hf : w.frozen? ⟨sb, 5, none⟩ = false := hS.frozen 5
 have hsl := hS.lt
 have hc0 : w.cell? ⟨g, L.length * 2, none⟩ = some (.int .i64 (x.1 : Int)) ∧ w.cell? ⟨g, L.length * 2 + 1, none⟩ = some (.int .i64 (x.2 : Int)) := by
  have hlen : (L ++ [x]).length = L.length + 1 := by simp
  have hQ' : QO w base (.slice (some ⟨g, 0, none⟩) (L ++ [x]).length cap) (L ++ [x]) := by rw [hlen]; exact hQ
  have h1 := hQ'.cell (j := L.length) (by rw [hlen]; omega)
  simpa using h1
 obtain ⟨d0, d1⟩ := hc0
 have hgl : g < w.heap.size := World.block_lt_of_cell? w ⟨g, _, none⟩ d0
 have hcap : L.length + 1 ≤ cap := by
  rcases hQ.2 with ⟨h1, _⟩ | ⟨g', cap', cur, h1, _, _, h3, _⟩
  ·cases h1
  ·simp only [Value.slice.injEq] at h1
   obtain ⟨_, _, rfl⟩ := h1
   simpa using h3
 have HQ : Hid _ := hQ
 have HS : Hid _ := hS
 clear hQ hS
 go_enter Tryz.func235, Tryz.ntmps235
 go_wp2
 go_ret
 have hS0 : SB w sb X (.slice (some ⟨g, 0, none⟩) (L.length + 1) cap) := HS.out
 have hQ0 : w.ownsRow base 161 2 (.slice (some ⟨g, 0, none⟩) (L.length + 1) cap) (L.length + 1) (flatQ L ++ encQ x) := by
  have h1 : QO w base (.slice (some ⟨g, 0, none⟩) (L.length + 1) cap) (L ++ [x]) := HQ.out
  unfold QO at h1
  rw [flatQ_snoc, List.length_append] at h1
  exact h1
 have hQ1 := ownsRow_pop (flatQ_len L) hQ0
 have hQ2 := ownsRow_setCell_other hQ1 (a := ⟨sb, 5, none⟩) (by show some g ≠ some sb; intro e; exact hne (Option.some.inj e).symm) (.slice (some ⟨g, 0, none⟩) L.length cap)
 have hQ3 := World.ownsRow.alloc hQ2 (.cells #[.int .i64 (x.1 : Int), .int .i64 (x.2 : Int)] 161)
 have hS1 : SB (w.setCell ⟨sb, 5, none⟩ (.slice (some ⟨g, 0, none⟩) L.length cap)) sb X (.slice (some ⟨g, 0, none⟩) L.length cap) := by
  have h1 := hS0.set 5 (.slice (some ⟨g, 0, none⟩) L.length cap)
  have h2 : (X ++ [Value.slice (some ⟨g, 0, none⟩) (L.length + 1) cap]).set 5 (.slice (some ⟨g, 0, none⟩) L.length cap) = X ++ [.slice (some ⟨g, 0, none⟩) L.length cap] := by
   rw [List.set_append_right _ _ (by omega), hX]; rfl
  rwa [h2] at h1
 have hgA : (w.setCell ⟨sb, 5, none⟩ (.slice (some ⟨g, 0, none⟩) L.length cap)).grownBy ((w.setCell ⟨sb, 5, none⟩ (.slice (some ⟨g, 0, none⟩) L.length cap)).alloc (.cells #[.int .i64 (x.1 : Int), .int .i64 (x.2 : Int)] 161)) none := World.grownBy_alloc _ _ _
 refine ⟨rfl, (hgA.block sb hS1.lt (by simp)).trans hS1, hQ3, rfl, rfl, rfl, ?_, fun k hk h1 h2 => ?_⟩
 ·have := hgA.size; simp only [World.size_setCell] at this; exact this
 ·rw [hgA.block k (by simpa using hk) (by simp), heap_setCell_other w ⟨sb, 5, none⟩ k _ h1]
end Go.Proofs.YtalflecmadacaaaGreat
namespace Go.Proofs.YtalflecmadacaaaGreat
open Go Go.Proofs Go.RowKit Go.Joins
structure QS (w : World) (sb base : Nat) (X : List Value) (qv : Value) (L : List StpT) : Prop where
 blk : SB w sb X qv
 own : QO w base qv L
 ne : some sb ≠ qv.ownBlock
theorem QS.cell {w : World} {sb base : Nat} {X : List Value} {qv : Value} {L : List StpT} (h : QS w sb base X qv L) (hX : X.length = 5) : w.cell? ⟨sb, 5, none⟩ = some qv := h.blk.cell (by rw [List.getElem?_append_right (by omega), hX]; rfl)
def Became (sb base : Nat) (X : List Value) (qv : Value) (L : List StpT) (w w' : World) : Prop := ∃ qv' L', L'.Perm L ∧ QS w' sb base X qv' L' ∧ NewQ w qv qv' ∧ QM sb qv w w'
theorem QI.qs {w : World} {sb base g cap : Nat} {X : List Value} {L L' : List StpT} {W : World} (hs : SB w sb X (.slice (some ⟨g, 0, none⟩) L.length cap)) (hg : w.grownBy W (some g)) (hq : QI W sb base g cap L') (hl : L'.length = L.length) : QS W sb base X (.slice (some ⟨g, 0, none⟩) L'.length cap) L' := by
 refine ⟨?_, hq.own, fun e => hq.ne (Option.some.inj e)⟩
 rw [hl]
 exact (hg.block sb hs.lt (fun e => hq.ne (Option.some.inj e))).trans hs
theorem hpush_any (sb base : Nat) (X : List Value) (hX : X.length = 5) (qv : Value) (L : List StpT) (x : StpT) (w : World) (h : QS w sb base X qv L) (hm : L.length ≤ 8796093022207) (hbase : base ≤ w.heap.size) :
  Calls Tryz.prog 156 #[.iface 189 (.pointer (some ⟨sb, 5, none⟩)), .iface 161 (.agg #[.int .i64 (x.1 : Int), .int .i64 (x.2 : Int)])] w fun e w' => e = .returned (.tuple #[]) ∧ Became sb base X qv (L ++ [x]) w w' := by
 have hmix := mixed
 have m1 := method_push ⟨sb, 5, none⟩ w
 have hp := qpush_any sb base X hX qv L x w h.blk h.own h.ne hm hbase
 go_enter Tryz.func156, Tryz.ntmps156
 go_wp2_with fail
 refine hp.mono ?_
 rintro e w1 ⟨rfl, qv1, hS1, hQ1, hn1, hM1⟩
 clear hp m1
 have hne1 : some sb ≠ qv1.ownBlock := by
  rcases hn1 with e | ⟨k, e, hk⟩
  ·rw [e]; exact h.ne
  ·rw [e]; intro e'; have := Option.some.inj e'; have := h.blk.lt; omega
 have hQS1 : QS w1 sb base X qv1 (L ++ [x]) := ⟨hS1, hQ1, hne1⟩
 obtain ⟨g, cap, rfl⟩ := ownsRow_form hQ1 (by simp)
 have hc1 := hQS1.cell hX
 have m2 := method_len ⟨sb, 5, none⟩ w1 _ hc1
 have hlen : (L ++ [x]).length = L.length + 1 := by simp
 have hq1 : QI w1 sb base g cap (L ++ [x]) := ⟨hc1, hQ1, fun e => hne1 (congrArg some e)⟩
 have hu := up_any sb base g cap (L ++ [x]) L.length w1 hq1 (by omega) (by omega)
 have HE : Hid _ := hlen
 rw [hlen] at m2 hc1
 clear hlen
 go_wp2_with (go_at_call 129; refine (qlen_any _ _ _ _).mono ?_; rintro e w' ⟨rfl, rfl⟩)
 refine hu.mono ?_
 rintro e w2 ⟨rfl, L2, hp2, hg2, hq2⟩
 clear hu m2 hc1
 go_wp2
 refine bodyPost_end (results_none rfl _ _ _) rfl ⟨rfl, _, L2, hp2, QI.qs hS1 hg2 hq2 hp2.length_eq, hn1.trans hM1.2.2.2.1 (.inl rfl), hM1.trans hn1 (QM.of_grown hg2 rfl)⟩
def OffQ (sb base : Nat) (X : List Value) (qv : Value) (L : List StpT) (w : World) (e : Ending) (w' : World) : Prop := ∃ (x : StpT) (qv' : Value) (L' : List StpT), e = .returned (.iface 161 (.agg #[.int .i64 (x.1 : Int), .int .i64 (x.2 : Int)])) ∧ (x :: L').Perm L ∧ QS w' sb base X qv' L' ∧ NewQ w qv qv' ∧ QM sb qv w w'
theorem hpop_any (sb base : Nat) (X : List Value) (hX : X.length = 5) (qv : Value) (L : List StpT) (w : World) (h : QS w sb base X qv L) (h0 : 0 < L.length) (hm : L.length ≤ 8796093022208) :
  Calls Tryz.prog 157 #[.iface 189 (.pointer (some ⟨sb, 5, none⟩))] w fun e w' => OffQ sb base X qv L w e w' := by
 have hmix := mixed
 obtain ⟨g, cap, rfl⟩ := ownsRow_form h.own h0
 have hc := h.cell hX
 have m1 := method_len ⟨sb, 5, none⟩ w _ hc
 have m2 := method_swap ⟨sb, 5, none⟩ w _ hc
 obtain ⟨n, hn⟩ : ∃ n : Nat, L.length = n + 1 := ⟨L.length - 1, by omega⟩
 have hne : sb ≠ g := fun e => h.ne (congrArg some e)
 have hQ0 := h.own
 have hS0 := h.blk
 have HN : Hid _ := hn
 unfold QO at hQ0
 have hsw := qswap_at base g cap L 0 n (n + 1) w hn (by unfold QO; rw [hn] at hQ0 ⊢; exact hQ0) (by omega) (by omega)
 rw [hn] at hc m1 m2 hm
 rw [hn] at hS0 ⊢
 clear hn
 go_enter Tryz.func157, Tryz.ntmps157
 go_wp2_with (go_at_call 129; refine (qlen_any _ _ _ _).mono ?_; rintro e w' ⟨rfl, rfl⟩)
 refine hsw.mono ?_
 rintro e w1 ⟨rfl, L1, hl1, hp1, _, ha1, hg1, ho1⟩
 clear hsw m1 m2
 have hc1 : w1.cell? ⟨sb, 5, none⟩ = some (.slice (some ⟨g, 0, none⟩) (n + 1) cap) := hg1.cell hc (fun e => hne (Option.some.inj e))
 have HL1 : Hid _ := hl1
 have hq1 : QI w1 sb base g cap L1 := ⟨by rw [hl1]; exact hc1, by rw [hl1]; exact ho1, hne⟩
 have hd := down_any sb base g cap L1 n w1 hq1 (by omega) (by omega)
 clear hl1
 go_wp2_with fail
 refine hd.mono ?_
 rintro e w2 ⟨⟨b, rfl⟩, L2, hp2, ha2, hg2, hq2⟩
 clear hd hc1
 have hl2 : L2.length = n + 1 := hp2.length_eq.trans HL1.out
 have hg12 := grown_trans hg1 hg2
 obtain ⟨L3, x, rfl⟩ : ∃ L3 x, L2 = L3 ++ [x] := by
  refine ⟨L2.dropLast, L2.getLast (by intro e; rw [e] at hl2; simp at hl2), (List.dropLast_concat_getLast _).symm⟩
 have hl3 : L3.length = n := by simpa using hl2
 have hc2 := hq2.cell
 have ho2 := hq2.own
 rw [hl2] at hc2 ho2
 have hS2 : SB w2 sb X (.slice (some ⟨g, 0, none⟩) (n + 1) cap) := (hg12.block sb hS0.lt (fun e => hne (Option.some.inj e))).trans hS0
 have m3 := method_pop ⟨sb, 5, none⟩ w2
 have hpop := qpop_any sb base g cap X hX L3 x w2 (by rw [hl3]; exact hS2) (by rw [hl3]; exact ho2) hne (by omega)
 have HL3 : Hid _ := hl3
 clear hl2 hl3
 go_wp2_with fail
 refine hpop.mono ?_
 rintro e w3 ⟨rfl, hS3, hQ3, hM3⟩
 clear hpop m3
 go_wp2
 go_ret
 refine ⟨x, _, L3, rfl, ?_, ⟨hS3, hQ3, fun e => hne (Option.some.inj e)⟩, .inl rfl, (QM.of_grown hg12 rfl).trans (.inl rfl) hM3⟩
 exact (List.perm_append_comm.trans hp2).trans hp1
def ATI (lo hi hA N : Nat) (pl : Nat → List Nat) (W : World) : Prop :=
 lo ≤ hA ∧ hA < hi ∧ ∀ v, v < N → ∃ p c, W.cell? ⟨hA, v, none⟩ = some (.slice p (pl v).length c) ∧ ∀ (i : Nat) (h : i < (pl v).length), ∃ b off, p = some ⟨b, off, none⟩ ∧ lo ≤ b ∧ b < hi ∧ W.cell? ⟨b, off + i, none⟩ = some (.int .i64 ((pl v)[i] : Int))
theorem ATI.keep {lo hi hA N : Nat} {pl : Nat → List Nat} {W W' : World} (h : ATI lo hi hA N pl W) (hk : ∀ k, lo ≤ k → k < hi → W'.heap[k]? = W.heap[k]?) : ATI lo hi hA N pl W' := by
 obtain ⟨h1, h2, h3⟩ := h
 refine ⟨h1, h2, fun v hv => ?_⟩
 obtain ⟨p, c, h4, h5⟩ := h3 v hv
 refine ⟨p, c, (World.cell?_of_block (a := ⟨hA, v, none⟩) (hk hA h1 h2)).trans h4, fun i hi => ?_⟩
 obtain ⟨b, off, h6, h7, h8, h9⟩ := h5 i hi
 exact ⟨b, off, h6, h7, h8, (World.cell?_of_block (a := ⟨b, off + i, none⟩) (hk b h7 h8)).trans h9⟩
theorem ATI.of_grp {h0 N : Nat} {L : List Eg} {svs : List Value} {W : World} (h : GrpT h0 (.slice (some ⟨h0, 0, none⟩) N N) svs (atW N L L.length) W) : ATI h0 W.heap.size h0 N (plW L L.length) W := by
 have hlt := (h.own.lt h0 rfl).2
 have hsv : svs.length = N := h.len.trans (atW_len _ _ _)
 refine ⟨Nat.le_refl _, hlt, fun v hv => ?_⟩
 obtain ⟨sv, hs⟩ : ∃ sv, svs[v]? = some sv := ⟨_, List.getElem?_eq_getElem (by omega)⟩
 have hi := h.inn v sv _ hs (atW_at hv)
 obtain ⟨p, c, rfl⟩ := owns_formPT hi
 rw [List.length_map] at hi hs
 have hr := h.own
 rw [hsv] at hr
 refine ⟨p, c, (hr.cellAt v (by omega)).trans hs, fun i hi' => ?_⟩
 obtain ⟨g, cap, e⟩ := owns_posT hi (by omega)
 simp only [Value.slice.injEq] at e
 obtain ⟨rfl, _, rfl⟩ := e
 have hb := hi.lt g rfl
 refine ⟨g, 0, rfl, hb.1, hb.2, ?_⟩
 rw [Nat.zero_add, hi.cellAt i (by omega)]
 simp [hi']
structure SL where
 N : Nat
 L : List Eg
 p : Option Addr
 c : Nat
 h1 : Nat
 lo : Nat
 hi : Nat
 hA : Nat
 sb : Nat
 bD : Nat
 bV : Nat
def SL.X (S : SL) : List Value := [.int .i64 (S.N : Int), .slice S.p S.L.length S.c, .slice (some ⟨S.hA, 0, none⟩) S.N S.N, .slice (some ⟨S.bD, 0, none⟩) S.N S.N, .slice (some ⟨S.bV, 0, none⟩) S.N S.N]
structure SLok (S : SL) : Prop where
 n : S.N ≤ 1048576
 m : S.L.length ≤ 4194304
 ends : ∀ e ∈ S.L, e.1 < S.N ∧ e.2.1 < S.N
 few : ∀ e ∈ S.L, e.2.2 ≤ 2147483647
 hi : S.hi ≤ S.h1
 s : S.sb < S.h1 ∧ ¬ (S.lo ≤ S.sb ∧ S.sb < S.hi) ∧ S.sb ≠ S.bD ∧ S.sb ≠ S.bV
 d : S.bD < S.h1 ∧ ¬ (S.lo ≤ S.bD ∧ S.bD < S.hi) ∧ S.bD ≠ S.bV
 v : S.bV < S.h1 ∧ ¬ (S.lo ≤ S.bV ∧ S.bV < S.hi)
structure SM (S : SL) (D V : List Int) (qv : Value) (Q : List StpT) (W : World) : Prop where
 blk : SB W S.sb S.X qv
 dist : Blk 2 W S.bD (D.map (Value.int .i64))
 via : Blk 3 W S.bV (V.map (Value.int .i64))
 at' : ATI S.lo S.hi S.hA S.N (plW S.L S.L.length) W
 own : QO W S.h1 qv Q
 size : S.h1 ≤ W.heap.size
structure Fr (S : SL) (w w' : World) : Prop where
 os : w'.os = w.os
 tape : w'.tape = w.tape
 output : w'.output = w.output
 size : w.heap.size ≤ w'.heap.size
 block : ∀ k, k < S.h1 → k ≠ S.sb → k ≠ S.bD → k ≠ S.bV → w'.heap[k]? = w.heap[k]?
theorem Fr.refl (S : SL) (w : World) : Fr S w w := ⟨rfl, rfl, rfl, Nat.le_refl _, fun _ _ _ _ _ => rfl⟩
theorem Fr.trans {S : SL} {a b c : World} (h : Fr S a b) (h' : Fr S b c) : Fr S a c :=
 ⟨h'.os.trans h.os, h'.tape.trans h.tape, h'.output.trans h.output, Nat.le_trans h.size h'.size, fun k a b c d => (h'.block k a b c d).trans (h.block k a b c d)⟩
theorem Fr.below {S : SL} {w0 a b : World} (hb : Below w0.heap.size w0 a) (h : Fr S a b) (h1 : w0.heap.size ≤ S.h1) (hs : w0.heap.size ≤ S.sb) (hd : w0.heap.size ≤ S.bD) (hv : w0.heap.size ≤ S.bV) : Below w0.heap.size w0 b :=
 ⟨h.os.trans hb.os, h.tape.trans hb.tape, h.output.trans hb.output, Nat.le_trans hb.size h.size, fun k hk => (h.block k (by omega) (by omega) (by omega) (by omega)).trans (hb.block k hk)⟩
theorem SM.ne {S : SL} {D V : List Int} {qv : Value} {Q : List StpT} {W : World} (h : SM S D V qv Q W) {k : Nat} (hk : k < S.h1) : some k ≠ qv.ownBlock := fun e => by
 have := (h.own.lt k e.symm).1
 omega
theorem SM.qs {S : SL} {D V : List Int} {qv : Value} {Q : List StpT} {W : World} (h : SM S D V qv Q W) (ok : SLok S) : QS W S.sb S.h1 S.X qv Q := ⟨h.blk, h.own, h.ne ok.s.1⟩
theorem SM.fr {S : SL} {D V : List Int} {qv : Value} {Q : List StpT} {W W' : World} (h : SM S D V qv Q W) (hm : QM S.sb qv W W') : Fr S W W' :=
 ⟨hm.1, hm.2.1, hm.2.2.1, hm.2.2.2.1, fun k hk h1 _ _ => hm.2.2.2.2 k (Nat.lt_of_lt_of_le hk h.size) h1 (h.ne hk)⟩
theorem SM.act {S : SL} {D V : List Int} {qv qv' : Value} {Q Q' : List StpT} {W W' : World} (h : SM S D V qv Q W) (ok : SLok S) (hm : QM S.sb qv W W') (hq : QS W' S.sb S.h1 S.X qv' Q') : SM S D V qv' Q' W' := by
 have hk : ∀ k, k < S.h1 → k ≠ S.sb → W'.heap[k]? = W.heap[k]? := fun k hk h1 => hm.2.2.2.2 k (Nat.lt_of_lt_of_le hk h.size) h1 (h.ne hk)
 refine ⟨hq.blk, (hk _ ok.d.1 (Ne.symm ok.s.2.2.1)).trans h.dist, (hk _ ok.v.1 (Ne.symm ok.s.2.2.2)).trans h.via, h.at'.keep fun k h1 h2 => hk k (Nat.lt_of_lt_of_le h2 ok.hi) (fun e => ok.s.2.1 (e ▸ ⟨h1, h2⟩)), hq.own, Nat.le_trans h.size hm.2.2.2.1⟩
theorem SL.X_len (S : SL) : S.X.length = 5 := rfl
theorem SM.cells {S : SL} {D V : List Int} {qv : Value} {Q : List StpT} {W : World} (h : SM S D V qv Q W) :
  W.cell? ⟨S.sb, 0, none⟩ = some (.int .i64 (S.N : Int)) ∧ W.cell? ⟨S.sb, 1, none⟩ = some (.slice S.p S.L.length S.c) ∧ W.cell? ⟨S.sb, 2, none⟩ = some (.slice (some ⟨S.hA, 0, none⟩) S.N S.N) ∧ W.cell? ⟨S.sb, 3, none⟩ = some (.slice (some ⟨S.bD, 0, none⟩) S.N S.N) ∧ W.cell? ⟨S.sb, 4, none⟩ = some (.slice (some ⟨S.bV, 0, none⟩) S.N S.N) ∧ W.cell? ⟨S.sb, 5, none⟩ = some qv :=
 ⟨h.blk.cell (j := 0) rfl, h.blk.cell (j := 1) rfl, h.blk.cell (j := 2) rfl, h.blk.cell (j := 3) rfl, h.blk.cell (j := 4) rfl, h.blk.cell (j := 5) rfl⟩
theorem SM.put {S : SL} {D V : List Int} {qv : Value} {Q : List StpT} {W : World} (h : SM S D V qv Q W) (ok : SLok S) (v : Nat) (x y : Int) :
  SM S (D.set v x) (V.set v y) qv Q ((W.setCell ⟨S.bD, v, none⟩ (.int .i64 x)).setCell ⟨S.bV, v, none⟩ (.int .i64 y)) ∧ Fr S W ((W.setCell ⟨S.bD, v, none⟩ (.int .i64 x)).setCell ⟨S.bV, v, none⟩ (.int .i64 y)) := by
 have hk : ∀ k, k ≠ S.bD → k ≠ S.bV → ((W.setCell ⟨S.bD, v, none⟩ (.int .i64 x)).setCell ⟨S.bV, v, none⟩ (.int .i64 y)).heap[k]? = W.heap[k]? := fun k h1 h2 => by
  rw [heap_setCell_other _ ⟨S.bV, v, none⟩ k _ h2, heap_setCell_other _ ⟨S.bD, v, none⟩ k _ h1]
 refine ⟨⟨(hk _ ok.s.2.2.1 ok.s.2.2.2).trans h.blk, ?_, ?_, h.at'.keep fun k h1 h2 => hk k (fun e => ok.d.2.1 (e ▸ ⟨h1, h2⟩)) (fun e => ok.v.2 (e ▸ ⟨h1, h2⟩)), ?_, by simpa using h.size⟩, ⟨rfl, rfl, rfl, by simp, fun k _ _ h1 h2 => hk k h1 h2⟩⟩
 ·rw [List.map_set]
  exact (h.dist.set v (.int .i64 x)).other (p := ⟨S.bV, v, none⟩) ok.d.2.2 _
 ·rw [List.map_set]
  exact (h.via.other (p := ⟨S.bD, v, none⟩) (Ne.symm ok.d.2.2) _).set v (.int .i64 y)
 ·exact ownsRow_setCell_other (ownsRow_setCell_other h.own (a := ⟨S.bD, v, none⟩) (Ne.symm (h.ne ok.d.1)) _) (a := ⟨S.bV, v, none⟩) (Ne.symm (h.ne ok.v.1)) _
theorem SM.drewN {S : SL} {D V : List Int} {qv : Value} {Q : List StpT} {W : World} (h : SM S D V qv Q W) (k : Nat) : SM S D V qv Q (W.drewN k) := ⟨h.blk, h.dist, h.via, h.at', h.own, h.size⟩
theorem Fr.drewN {S : SL} {a b : World} (h : Fr S a b) (k : Nat) : Fr S a (b.drewN k) := ⟨h.os, h.tape, h.output, h.size, h.block⟩
theorem SM.go {S : SL} {D V : List Int} {qv : Value} {Q : List StpT} {W W' : World} (h : SM S D V qv Q W) (ok : SLok S) (hb : Below W.heap.size W W') : SM S D V qv Q W' :=
 ⟨h.blk.go hb, h.dist.go hb, h.via.go hb, h.at'.keep fun k _ h2 => hb.block k (Nat.lt_of_lt_of_le (Nat.lt_of_lt_of_le h2 ok.hi) h.size), owns_belowT h.own hb, Nat.le_trans h.size hb.size⟩
theorem Fr.of_below {S : SL} {a b : World} (h : S.h1 ≤ a.heap.size) (hb : Below a.heap.size a b) : Fr S a b := ⟨hb.os, hb.tape, hb.output, hb.size, fun k hk _ _ _ => hb.block k (by omega)⟩
theorem SM.high {S : SL} {D V : List Int} {qv : Value} {Q : List StpT} {W : World} (h : SM S D V qv Q W) (ok : SLok S) {k : Nat} (hk : S.h1 ≤ k) (hne : qv.ownBlock ≠ some k) (j : Nat) (u : Value) : SM S D V qv Q (W.setCell ⟨k, j, none⟩ u) := by
 have hb : ∀ m, m < S.h1 → (W.setCell ⟨k, j, none⟩ u).heap[m]? = W.heap[m]? := fun m hm => heap_setCell_other _ ⟨k, j, none⟩ m _ (by show m ≠ k; omega)
 exact ⟨(hb _ ok.s.1).trans h.blk, (hb _ ok.d.1).trans h.dist, (hb _ ok.v.1).trans h.via, h.at'.keep fun m _ hm => hb m (Nat.lt_of_lt_of_le hm ok.hi), ownsRow_setCell_other h.own (a := ⟨k, j, none⟩) hne u, by simpa using h.size⟩
theorem Fr.high {S : SL} {a b : World} (h : Fr S a b) {k : Nat} (hk : S.h1 ≤ k) (j : Nat) (u : Value) : Fr S a (b.setCell ⟨k, j, none⟩ u) :=
 ⟨h.os, h.tape, h.output, by simpa using h.size, fun m h1 h2 h3 h4 => (heap_setCell_other _ ⟨k, j, none⟩ m _ (by show m ≠ k; omega)).trans (h.block m h1 h2 h3 h4)⟩
theorem come_old (S : SL) (D V : List Int) (qv : Value) (Q : List StpT) (v c : Nat) (i x : Int) (w : World) (h : SM S D V qv Q w) (hv : v < S.N) (hx : D[v]? = some x) (h0 : 0 ≤ x) (h1 : x ≤ (c : Int)) :
  Calls Tryz.prog 128 #[.pointer (some ⟨S.sb, 0, none⟩), .int .i64 (v : Int), .int .i64 (c : Int), .int .i64 i] w fun e w' => e = .returned (.tuple #[]) ∧ w' = w := by
 have c3 := h.cells.2.2.2.1
 have d0 : w.cell? ⟨S.bD, v, none⟩ = some (.int .i64 x) := h.dist.cell (by rw [List.getElem?_map, hx]; rfl)
 have hvl : (v : Int) < (S.N : Int) := by omega
 have hne : ¬ x = -1 := by omega
 clear h hx
 go_enter Tryz.func128, Tryz.ntmps128
 go_wp2
 exact bodyPost_ret (v := .tuple #[]) (results_none rfl _ _ _) rfl ⟨rfl, rfl⟩
theorem come_new (S : SL) (ok : SLok S) (D V : List Int) (qv : Value) (Q : List StpT) (v c : Nat) (i x : Int) (w : World) (h : SM S D V qv Q w) (hv : v < S.N) (hx : D[v]? = some x) (hV : V.length = S.N) (h1 : x = -1 ∨ (c : Int) < x) (hQ : Q.length ≤ 8796093022207) :
  Calls Tryz.prog 128 #[.pointer (some ⟨S.sb, 0, none⟩), .int .i64 (v : Int), .int .i64 (c : Int), .int .i64 i] w fun e w' => e = .returned (.tuple #[]) ∧ ∃ qv' Q', Q'.Perm (Q ++ [(c, v)]) ∧ SM S (D.set v (c : Int)) (V.set v i) qv' Q' w' ∧ Fr S w w' ∧ NewQ w qv qv' ∧ ∀ k, k < w.heap.size → S.h1 ≤ k → some k ≠ qv.ownBlock → w'.heap[k]? = w.heap[k]? := by
 have c3 := h.cells.2.2.2.1
 have c4 := h.cells.2.2.2.2.1
 obtain ⟨y, hy⟩ : ∃ y, V[v]? = some y := ⟨_, List.getElem?_eq_getElem (by omega)⟩
 have d0 : w.cell? ⟨S.bD, v, none⟩ = some (.int .i64 x) := h.dist.cell (by rw [List.getElem?_map, hx]; rfl)
 have v0 : w.cell? ⟨S.bV, v, none⟩ = some (.int .i64 y) := h.via.cell (by rw [List.getElem?_map, hy]; rfl)
 have fd : w.frozen? ⟨S.bD, v, none⟩ = false := h.dist.frozen v
 have fv : w.frozen? ⟨S.bV, v, none⟩ = false := h.via.frozen v
 have hvl : (v : Int) < (S.N : Int) := by omega
 have n1 : S.sb ≠ S.bD := ok.s.2.2.1
 have n2 : S.sb ≠ S.bV := ok.s.2.2.2
 have n3 : S.bV ≠ S.bD := Ne.symm ok.d.2.2
 have hput := SM.put h ok v (c : Int) i
 have hp1 := hput.1.drewN 1
 have hf1 := hput.2.drewN 1
 have hpush := hpush_any S.sb S.h1 S.X S.X_len qv Q (c, v) _ (hp1.qs ok) hQ hp1.size
 have hmix := mixed
 have HKp : Hid (∀ k, S.h1 ≤ k → (((w.setCell ⟨S.bD, v, none⟩ (.int .i64 (c : Int))).setCell ⟨S.bV, v, none⟩ (.int .i64 i)).drewN 1).heap[k]? = w.heap[k]?) := fun k hk => by
  have h2 := ok.d.1
  have h3 := ok.v.1
  show ((w.setCell ⟨S.bD, v, none⟩ (.int .i64 (c : Int))).setCell ⟨S.bV, v, none⟩ (.int .i64 i)).heap[k]? = w.heap[k]?
  rw [heap_setCell_other _ ⟨S.bV, v, none⟩ k _ (by show k ≠ S.bV; omega), heap_setCell_other _ ⟨S.bD, v, none⟩ k _ (by show k ≠ S.bD; omega)]
 have HP1 : Hid _ := hp1
 have HF1 : Hid _ := hf1
 clear h hx hy hput hp1 hf1
 rcases h1 with h1 | h1
 ·subst h1
  go_enter Tryz.func128, Tryz.ntmps128
  go_wp2
  go_big_region_o
  go_wp2_with fail
  refine hpush.mono ?_
  rintro e w2 ⟨rfl, qv2, Q2, hp2, hq2, hn2, hm2⟩
  go_wp2
  exact bodyPost_end (results_none rfl _ _ _) rfl ⟨rfl, qv2, Q2, hp2, SM.act HP1.out ok hm2 hq2, HF1.out.trans (SM.fr HP1.out hm2), hn2.elim .inl (fun ⟨k, e, hk⟩ => .inr ⟨k, e, by simpa using hk⟩), fun k hk h1 h2 => (hm2.2.2.2.2 k (by simpa using hk) (by have := ok.s.1; omega) h2).trans (HKp.out k h1)⟩
 ·have hn : ¬ x = -1 := by omega
  have hle : ¬ x ≤ (c : Int) := by omega
  go_enter Tryz.func128, Tryz.ntmps128
  go_wp2
  go_big_region_o
  go_wp2_with fail
  refine hpush.mono ?_
  rintro e w2 ⟨rfl, qv2, Q2, hp2, hq2, hn2, hm2⟩
  go_wp2
  exact bodyPost_end (results_none rfl _ _ _) rfl ⟨rfl, qv2, Q2, hp2, SM.act HP1.out ok hm2 hq2, HF1.out.trans (SM.fr HP1.out hm2), hn2.elim .inl (fun ⟨k, e, hk⟩ => .inr ⟨k, e, by simpa using hk⟩), fun k hk h1 h2 => (hm2.2.2.2.2 k (by simpa using hk) (by have := ok.s.1; omega) h2).trans (HKp.out k h1)⟩
theorem nearest_any (S : SL) (ok : SLok S) (D V : List Int) (qv : Value) (Q : List StpT) (w : World) (h : SM S D V qv Q w) (h0 : 0 < Q.length) (hQ : Q.length ≤ 8796093022208) :
  Calls Tryz.prog 131 #[.pointer (some ⟨S.sb, 0, none⟩)] w fun e w' => ∃ (x : StpT) (qv' : Value) (Q' : List StpT), e = .returned (.agg #[.int .i64 (x.1 : Int), .int .i64 (x.2 : Int)]) ∧ (x :: Q').Perm Q ∧ SM S D V qv' Q' w' ∧ Fr S w w' := by
 have hal : Below w.heap.size w (w.alloc (.cells #[.int .i64 0, .int .i64 0] 161)) := (Below.refl _ _).alloc (Nat.le_refl _) _
 have hA := h.go ok hal
 have hpop := hpop_any S.sb S.h1 S.X S.X_len qv Q _ (hA.qs ok) h0 hQ
 have hwl : w.heap.size < (w.alloc (.cells #[.int .i64 0, .int .i64 0] 161)).heap.size := by simp
 have hXw : Blk 161 (w.alloc (.cells #[.int .i64 0, .int .i64 0] 161)) w.heap.size [.int .i64 0, .int .i64 0] := heap_alloc_new w _
 have HFr : Hid (Fr S w (w.alloc (.cells #[.int .i64 0, .int .i64 0] 161))) := Fr.of_below h.size hal
 have hmix := mixed
 have hta := fun w a b => assert_stop a b w
 have hsize := h.size
 have hqb : ∀ k, qv.ownBlock = some k → k < w.heap.size := fun k hk => (h.own.lt k hk).2
 have HA : Hid _ := hA
 clear h hA hal
 go_enter Tryz.func131, Tryz.ntmps131
 go_wp2_with fail
 refine hpop.mono ?_
 rintro e w2 ⟨x, qv2, Q2, rfl, hp2, hq2, hn2, hm2⟩
 have hX2 : Blk 161 w2 w.heap.size [.int .i64 0, .int .i64 0] := by
  refine (hm2.2.2.2.2 w.heap.size hwl (fun e => ?_) (fun e => ?_)).trans hXw
  ·have := ok.s.1; omega
  ·have := hqb _ e.symm; omega
 have x0 := hX2.cell (j := 0) rfl
 have x1 := hX2.cell (j := 1) rfl
 have f0 := hX2.frozen 0
 have f1 := hX2.frozen 1
 have hn : qv2.ownBlock ≠ some w.heap.size := by
  rcases hn2 with e | ⟨k, e, hk⟩
  ·rw [e]; intro e'; have := hqb _ e'; omega
  ·rw [e]; intro e'; have := Option.some.inj e'; omega
 have hS2 := SM.act HA.out ok hm2 hq2
 have hF2 := HFr.out.trans (SM.fr HA.out hm2)
 have hS3 := (hS2.high ok (k := w.heap.size) hsize hn 0 (.int .i64 (x.1 : Int))).high ok (k := w.heap.size) hsize hn 1 (.int .i64 (x.2 : Int))
 have hF3 := (hF2.high (k := w.heap.size) hsize 0 (.int .i64 (x.1 : Int))).high (k := w.heap.size) hsize 1 (.int .i64 (x.2 : Int))
 clear hS2 hF2 hX2 HA HFr hq2 hn2 hm2
 go_wp2
 exact bodyPost_ret (v := .agg #[.int .i64 (x.1 : Int), .int .i64 (x.2 : Int)]) (by simp [results, Tryz.results131, go_sem, x0, x1]) rfl ⟨x, qv2, Q2, rfl, hp2, hS3, hF3⟩
end Go.Proofs.YtalflecmadacaaaGreat
