/-
  Stops that come into the queue, and off it: the queue's own Push and Pop, and container/heap's.
-/
import Derived.Test.YtejemnjadgihbaaXWaHeap
import Derived.Test.YtejemnjadgihbaaXGHeldL
namespace Go.Proofs.Ytejemnjadgihbaa
open Go Go.Proofs Go.RowKit

theorem infoQ : (Try.prog.info? 55).map (fun i => (i.zero, i.size, i.bytes)) = some (some (.agg #[.int .i64 0, .int .i64 0]), 2, 16) := by kernel_rfl
theorem info_partsQ {e : TypeId} {z : Value} {k b : Nat} (h : (Try.prog.info? e).map (fun i => (i.zero, i.size, i.bytes)) = some (some z, k, b)) : ∃ i, Try.prog.info? e = some i ∧ i.zero = some z ∧ i.size = k ∧ i.bytes = b := by
  cases hi : Try.prog.info? e with
  | none => rw [hi] at h; cases h
  | some i =>
    rw [hi] at h
    simp only [Option.map_some, Option.some.injEq, Prod.mk.injEq] at h
    exact ⟨i, rfl, h.1, h.2.1, h.2.2⟩
theorem newsQ {w : World} {t : TypeId} (d : Stp) : ∀ (i : Nat) (u : Value), (encQ d)[i]? = some u → (w.alloc (.cells #[.int .i64 (d.1 : Int), .int .i64 (d.2 : Int)] t)).cell? ((⟨w.heap.size, 0, none⟩ : Addr).add i) = some u := by
  intro i u h
  match i, h with
  | 0, h =>
    have : u = .int .i64 (d.1 : Int) := by simpa [encQ] using h.symm
    subst this
    simp [Addr.add]
  | 1, h =>
    have : u = .int .i64 (d.2 : Int) := by simpa [encQ] using h.symm
    subst this
    simp [Addr.add]
  | i + 2, h => simp [encQ] at h
theorem oneQ (d : Stp) : ∀ u ∈ encQ d, u.oneCell' = true := by
  intro u hu
  simp only [encQ, List.mem_cons, List.not_mem_nil, or_false] at hu
  rcases hu with rfl | rfl <;> rfl
theorem owns_sliceQ {W : World} {base : Nat} {e : TypeId} {size : Nat} {v : Value} {n : Nat} {xs : List Value} (h : W.ownsRow base e size v n xs) : ∃ p c, v = .slice p n c := by
  rcases h.2 with ⟨rfl, rfl⟩ | ⟨g, cap, cur, rfl, _⟩ <;> exact ⟨_, _, rfl⟩

/-- The block of the search, whose last cell is the queue; the others stand. -/
abbrev SB (W : World) (sb : Nat) (X : List Value) (qv : Value) : Prop := Blk 51 W sb (X ++ [qv])
/-- What an act upon the queue leaves as it was. -/
def QM (sb : Nat) (qv : Value) (w w' : World) : Prop :=
  w'.os = w.os ∧ w'.tape = w.tape ∧ w'.output = w.output ∧ w.heap.size ≤ w'.heap.size ∧ ∀ k, k < w.heap.size → k ≠ sb → some k ≠ qv.ownBlock → w'.heap[k]? = w.heap[k]?
/-- A queue's block is another one than the one that holds it; it stands, or is new. -/
def NewQ (w : World) (qv qv' : Value) : Prop := qv'.ownBlock = qv.ownBlock ∨ ∃ k, qv'.ownBlock = some k ∧ w.heap.size ≤ k

set_option maxRecDepth 100000 in
theorem assert_stop (a b : Value) (w : World) : (Instr.typeAssert (.iface 55 (.agg #[a, b])) 20 55 false).run Try.prog w = .ok (.agg #[a, b]) w := by kernel_rfl

set_option maxRecDepth 100000 in
set_option maxHeartbeats 4000000 in
theorem qpush_any (sb base : Nat) (X : List Value) (hX : X.length = 5) (qv : Value) (L : List Stp) (x : Stp) (w : World) (hS : SB w sb X qv) (hQ : QO w base qv L) (hne : some sb ≠ qv.ownBlock) (hm : L.length ≤ 8796093022207) (hbase : base ≤ w.heap.size) :
    Calls Try.prog 57 #[.pointer (some ⟨sb, 5, none⟩), .iface 55 (.agg #[.int .i64 (x.1 : Int), .int .i64 (x.2 : Int)])] w fun e w' => e = .returned (.tuple #[]) ∧ ∃ qv', SB w' sb X qv' ∧ QO w' base qv' (L ++ [x]) ∧ NewQ w qv qv' ∧ QM sb qv w w' := by
  have hc : w.cell? ⟨sb, 5, none⟩ = some qv := hS.cell (by rw [List.getElem?_append_right (by omega), hX]; rfl)
  obtain ⟨i0, hi, hz0, hz1, hz2⟩ := info_partsQ infoQ
  obtain ⟨pq, cq, rfl⟩ := owns_sliceQ hQ
  have hmix := mixed
  have hta := fun w => assert_stop (.int .i64 (x.1 : Int)) (.int .i64 (x.2 : Int)) w
  go_enter Try.func57, Try.ntmps57
  go_wp2_with fail
  refine wp_region_last (S := (fun w' : World => w'.cell? ⟨sb, 5, none⟩ = some (.slice pq L.length cq))) (by kernel_rfl) ?_ (fun hHeld => ?_)
  · (try dsimp only); go_keep
  refine wpAnyL_take (i := 0) (v := ?_) rfl (by kernel_rfl) (by kernel_rfl) (by kernel_rfl) (by kernel_rfl) (fun _ _ _ h => h) (Or.inl ⟨by rfl, ?_⟩) (by assumption) ?_
  rotate_left
  · intro w hSw; (try dsimp only at hSw); go_simp; (try with_reducible rfl)
  try simp only [Act.put, List.setIfInBounds_toArray]
  refine wpAnyL_take (i := 1) (v := ?_) rfl (by kernel_rfl) (by kernel_rfl) (by kernel_rfl) (by kernel_rfl) (fun _ _ _ h => h) (Or.inl ⟨by rfl, ?_⟩) (by assumption) ?_
  rotate_left
  · intro w hSw; (try dsimp only at hSw); go_simp; (try with_reducible rfl)
  try simp only [Act.put]
  refine wpAnyL_take (i := 2) (v := ?_) rfl (by kernel_rfl) (by kernel_rfl) (by kernel_rfl) (by kernel_rfl) (fun _ _ _ h => h) (Or.inl ⟨by rfl, ?_⟩) (by assumption) ?_
  rotate_left
  · intro w hSw; (try dsimp only at hSw); go_simp; (try with_reducible rfl)
  try simp only [Act.put]
  refine wpAnyL_take (i := 3) (v := ?_) rfl (by kernel_rfl) (by kernel_rfl) (by kernel_rfl) (by kernel_rfl) (fun _ _ _ h => h) (Or.inl ⟨by rfl, ?_⟩) (by assumption) ?_
  rotate_left
  · intro w hSw; (try dsimp only at hSw); go_simp; (try with_reducible rfl)
  try simp only [Act.put]
  refine wpAnyL_take (i := 4) (v := ?_) rfl (by kernel_rfl) (by kernel_rfl) (by kernel_rfl) (by kernel_rfl) (fun _ _ _ h => h) (Or.inl ⟨by rfl, ?_⟩) (by assumption) ?_
  rotate_left
  · intro w hSw; (try dsimp only at hSw); go_simp; (try with_reducible rfl)
  try simp only [Act.put]
  refine wpAnyL_take (i := 5) (v := ?_) rfl (by kernel_rfl) (by kernel_rfl) (by kernel_rfl) (by kernel_rfl) (fun _ _ _ h => h) (Or.inl ⟨by rfl, ?_⟩) (by assumption) ?_
  rotate_left
  · intro w hSw; (try dsimp only at hSw); go_simp; (try with_reducible rfl)
  try simp only [Act.put]
  have hgd : w.grownBy w.drew none := grown_drewN (grown_refl w none) 1
  have hQd : QO w.drew base (.slice pq L.length cq) L := hQ
  have hSd : SB w.drew sb X (.slice pq L.length cq) := hS
  have hbd : base ≤ w.drew.heap.size := hbase
  generalize w.drew = w1 at hgd hQd hSd hbd hHeld ⊢
  have hgA : w1.grownBy (w1.alloc (.cells #[.int .i64 (x.1 : Int), .int .i64 (x.2 : Int)] 55)) none := World.grownBy_alloc _ _ _
  have hQA := World.ownsRow.alloc hQd (.cells #[.int .i64 (x.1 : Int), .int .i64 (x.2 : Int)] 55)
  have hSA : SB (w1.alloc (.cells #[.int .i64 (x.1 : Int), .int .i64 (x.2 : Int)] 55)) sb X (.slice pq L.length cq) := (hgA.block sb hSd.lt (by simp)).trans hSd
  have hcA : (w1.alloc (.cells #[.int .i64 (x.1 : Int), .int .i64 (x.2 : Int)] 55)).cell? ⟨sb, 5, none⟩ = some (.slice pq L.length cq) := hSA.cell (by rw [List.getElem?_append_right (by omega), hX]; rfl)
  have hnw : Src (w1.alloc (.cells #[.int .i64 (x.1 : Int), .int .i64 (x.2 : Int)] 55)) (.slice (some ⟨w1.heap.size, 0, none⟩) 1 1) 1 2 (encQ x) := .inr ⟨⟨w1.heap.size, 0, none⟩, 1, rfl, rfl, newsQ x, oneQ x⟩
  have hmx : L.length + 1 ≤ maxLen := by unfold maxLen; omega
  have hby : (L.length + 1) * 16 ≤ 140737488355328 := by omega
  have hsA : base ≤ (w1.alloc (.cells #[.int .i64 (x.1 : Int), .int .i64 (x.2 : Int)] 55)).heap.size := Nat.le_trans hbd hgA.size
  refine wpAnyL_ready (rs := [6]) (by kernel_rfl) (by simp) ?_
  refine AllReadyL.cons rfl (fun K hK => ?_) AllReadyL.nil
  go_simp
  refine hK.out _ _ hcA (fun hHeld12 => ?_)
  clear hK K
  try simp only [Act.put, List.setIfInBounds_toArray, List.set_cons_zero, List.set_cons_succ]
  refine wpAnyL_ready (rs := [7]) (by kernel_rfl) (by simp) ?_
  refine AllReadyL.cons rfl (fun K hK => ?_) AllReadyL.nil
  refine step_append_src rfl _ _ 49 rfl base 55 i0 (.agg #[.int .i64 0, .int .i64 0]) 2 16 Try.underlying49 hi hz0 hz1 hz2 rfl (by decide) (.slice pq L.length cq) L.length (flatQ L) rfl hQA (.slice (some ⟨w1.heap.size, 0, none⟩) 1 1) 1 (encQ x) rfl hnw hmx hby hsA ?_
  intro v8 w12 ho8 hg8 hat8
  obtain ⟨a8, k8, rfl⟩ := owns_sliceQ ho8
  have hS12 : SB w12 sb X (.slice pq L.length cq) := (hg8.block sb hSA.lt hne).trans hSA
  have c12 : w12.cell? ⟨sb, 5, none⟩ = some (.slice pq L.length cq) := hS12.cell (by rw [List.getElem?_append_right (by omega), hX]; rfl)
  have f12 : w12.frozen? ⟨sb, 5, none⟩ = false := hS12.frozen 5
  refine hK.out _ _ c12 (fun hHeld13 => ?_)
  clear hK K
  try simp only [Act.put, List.setIfInBounds_toArray]
  refine wpAnyL_ready (rs := [8]) (by kernel_rfl) (by simp) ?_
  refine AllReadyL.cons rfl (fun K hK => ?_) AllReadyL.nil
  go_simp
  refine hK.out _ _ ?_ (fun hHeld => ?_)
  · (try dsimp only); first | (go_keep; done) | ((repeat' apply And.intro) <;> go_simp)
  clear hK K
  try simp only [Act.put, List.setIfInBounds_toArray, List.set_cons_zero, List.set_cons_succ]
  refine wpAnyL_ready (rs := [9]) (by kernel_rfl) (by simp) ?_
  refine AllReadyL.last rfl (by kernel_rfl) (fun K hK => ?_)
  go_simp
  refine hK.out _ _ ?_
  clear hK K
  try simp only [Act.put, List.setIfInBounds_toArray, List.set_cons_zero, List.set_cons_succ]
  refine wpAnyL_done (by kernel_rfl) ?_ _
  have hob : (Value.slice a8 (L.length + 1) k8).ownBlock = (Value.slice pq L.length cq).ownBlock ∨ ∃ k, (Value.slice a8 (L.length + 1) k8).ownBlock = some k ∧ w1.heap.size ≤ k := by
    rcases hat8 with h1 | h1
    · exact .inl h1
    · exact .inr ⟨_, h1, by simp⟩
  have hne8 : (Value.slice a8 (L.length + 1) k8).ownBlock ≠ some sb := by
    rcases hob with h1 | ⟨k, h1, h2⟩
    · rw [h1]; exact Ne.symm hne
    · rw [h1]; intro e; have := Option.some.inj e; have := hSd.lt; omega
  have hS' : SB (w12.setCell ⟨sb, 5, none⟩ (.slice a8 (L.length + 1) k8)) sb X (.slice a8 (L.length + 1) k8) := by
    have h1 := hS12.set 5 (.slice a8 (L.length + 1) k8)
    have h2 : (X ++ [Value.slice pq L.length cq]).set 5 (.slice a8 (L.length + 1) k8) = X ++ [.slice a8 (L.length + 1) k8] := by
      rw [List.set_append_right _ _ (by omega), hX]; rfl
    rwa [h2] at h1
  have hQ' : QO (w12.setCell ⟨sb, 5, none⟩ (.slice a8 (L.length + 1) k8)) base (.slice a8 (L.length + 1) k8) (L ++ [x]) := by
    have h1 := ownsRow_setCell_other ho8 (a := ⟨sb, 5, none⟩) hne8 (.slice a8 (L.length + 1) k8)
    unfold QO
    rw [flatQ_snoc, List.length_append]
    exact h1
  have hM : QM sb (.slice pq L.length cq) w (w12.setCell ⟨sb, 5, none⟩ (.slice a8 (L.length + 1) k8)) := by
    refine ⟨?_, ?_, ?_, ?_, fun k hk h1 h2 => ?_⟩
    · exact (hg8.os.trans hgA.os).trans hgd.os
    · exact (hg8.tape.trans hgA.tape).trans hgd.tape
    · exact (hg8.output.trans hgA.output).trans hgd.output
    · have := hgd.size; have := hgA.size; have := hg8.size; simp only [World.size_setCell]; omega
    · rw [heap_setCell_other w12 ⟨sb, 5, none⟩ k _ h1]
      have k1 : k < w1.heap.size := Nat.lt_of_lt_of_le hk hgd.size
      exact ((hg8.block k (Nat.lt_of_lt_of_le k1 hgA.size) h2).trans (hgA.block k k1 (by simp))).trans (hgd.block k hk (by simp))
  go_wp2
  refine bodyPost_end (results_none rfl _ _ _) rfl ⟨rfl, _, hS', hQ', ?_, hM⟩
  rcases hob with h1 | ⟨k, h1, h2⟩
  · exact .inl h1
  · exact .inr ⟨k, h1, Nat.le_trans hgd.size h2⟩
theorem QM.trans {sb : Nat} {qv qv' : Value} {a b c : World} (h : QM sb qv a b) (hn : NewQ a qv qv') (h' : QM sb qv' b c) : QM sb qv a c := by
  refine ⟨h'.1.trans h.1, h'.2.1.trans h.2.1, h'.2.2.1.trans h.2.2.1, Nat.le_trans h.2.2.2.1 h'.2.2.2.1, fun k hk h1 h2 => ?_⟩
  refine (h'.2.2.2.2 k (Nat.lt_of_lt_of_le hk h.2.2.2.1) h1 ?_).trans (h.2.2.2.2 k hk h1 h2)
  rcases hn with e | ⟨j, e, hj⟩
  · rw [e]; exact h2
  · rw [e]; intro e'; have := Option.some.inj e'; omega
theorem NewQ.trans {a b : World} {x y z : Value} (h : NewQ a x y) (hs : a.heap.size ≤ b.heap.size) (h' : NewQ b y z) : NewQ a x z := by
  rcases h' with e | ⟨k, e, hk⟩
  · rcases h with e' | ⟨j, e', hj⟩
    · exact .inl (e.trans e')
    · exact .inr ⟨j, e.trans e', hj⟩
  · exact .inr ⟨k, e, by omega⟩
theorem QM.of_grown {sb g : Nat} {qv : Value} {a b : World} (h : a.grownBy b (some g)) (hq : qv.ownBlock = some g) : QM sb qv a b := ⟨h.os, h.tape, h.output, h.size, fun k hk _ h2 => h.block k hk (by rw [← hq]; exact h2)⟩

set_option maxRecDepth 100000 in
set_option maxHeartbeats 4000000 in
theorem qpop_any (sb base g cap : Nat) (X : List Value) (hX : X.length = 5) (L : List Stp) (x : Stp) (w : World) (hS : SB w sb X (.slice (some ⟨g, 0, none⟩) (L.length + 1) cap)) (hQ : QO w base (.slice (some ⟨g, 0, none⟩) (L.length + 1) cap) (L ++ [x])) (hne : sb ≠ g) (hm : L.length ≤ 8796093022207) :
    Calls Try.prog 56 #[.pointer (some ⟨sb, 5, none⟩)] w fun e w' => e = .returned (.iface 55 (.agg #[.int .i64 (x.1 : Int), .int .i64 (x.2 : Int)])) ∧ SB w' sb X (.slice (some ⟨g, 0, none⟩) L.length cap) ∧ QO w' base (.slice (some ⟨g, 0, none⟩) L.length cap) L ∧ QM sb (.slice (some ⟨g, 0, none⟩) (L.length + 1) cap) w w' := by
  have hc : w.cell? ⟨sb, 5, none⟩ = some (.slice (some ⟨g, 0, none⟩) (L.length + 1) cap) := hS.cell (by rw [List.getElem?_append_right (by omega), hX]; rfl)
  have hf : w.frozen? ⟨sb, 5, none⟩ = false := hS.frozen 5
  have hsl := hS.lt
  have hc0 : w.cell? ⟨g, L.length * 2, none⟩ = some (.int .i64 (x.1 : Int)) ∧ w.cell? ⟨g, L.length * 2 + 1, none⟩ = some (.int .i64 (x.2 : Int)) := by
    have hlen : (L ++ [x]).length = L.length + 1 := by simp
    have hQ' : QO w base (.slice (some ⟨g, 0, none⟩) (L ++ [x]).length cap) (L ++ [x]) := by rw [hlen]; exact hQ
    have h1 := hQ'.cell (j := L.length) (by rw [hlen]; omega)
    simpa using h1
  obtain ⟨d0, d1⟩ := hc0
  have hgl : g < w.heap.size := World.block_lt_of_cell? w ⟨g, _, none⟩ d0
  have hcap : L.length + 1 ≤ cap := by
    rcases hQ.2 with ⟨h1, _⟩ | ⟨g', cap', cur, h1, _, _, h3, _⟩
    · cases h1
    · simp only [Value.slice.injEq] at h1
      obtain ⟨_, _, rfl⟩ := h1
      simpa using h3
  have HQ : Hid _ := hQ
  have HS : Hid _ := hS
  clear hQ hS
  go_enter Try.func56, Try.ntmps56
  go_wp2
  go_ret
  have hS0 : SB w sb X (.slice (some ⟨g, 0, none⟩) (L.length + 1) cap) := HS.out
  have hQ0 : w.ownsRow base 55 2 (.slice (some ⟨g, 0, none⟩) (L.length + 1) cap) (L.length + 1) (flatQ L ++ encQ x) := by
    have h1 : QO w base (.slice (some ⟨g, 0, none⟩) (L.length + 1) cap) (L ++ [x]) := HQ.out
    unfold QO at h1
    rw [flatQ_snoc, List.length_append] at h1
    exact h1
  have hQ1 := ownsRow_pop (flatQ_len L) hQ0
  have hQ2 := ownsRow_setCell_other hQ1 (a := ⟨sb, 5, none⟩) (by show some g ≠ some sb; intro e; exact hne (Option.some.inj e).symm) (.slice (some ⟨g, 0, none⟩) L.length cap)
  have hQ3 := World.ownsRow.alloc hQ2 (.cells #[.int .i64 (x.1 : Int), .int .i64 (x.2 : Int)] 55)
  have hS1 : SB (w.setCell ⟨sb, 5, none⟩ (.slice (some ⟨g, 0, none⟩) L.length cap)) sb X (.slice (some ⟨g, 0, none⟩) L.length cap) := by
    have h1 := hS0.set 5 (.slice (some ⟨g, 0, none⟩) L.length cap)
    have h2 : (X ++ [Value.slice (some ⟨g, 0, none⟩) (L.length + 1) cap]).set 5 (.slice (some ⟨g, 0, none⟩) L.length cap) = X ++ [.slice (some ⟨g, 0, none⟩) L.length cap] := by
      rw [List.set_append_right _ _ (by omega), hX]; rfl
    rwa [h2] at h1
  have hgA : (w.setCell ⟨sb, 5, none⟩ (.slice (some ⟨g, 0, none⟩) L.length cap)).grownBy ((w.setCell ⟨sb, 5, none⟩ (.slice (some ⟨g, 0, none⟩) L.length cap)).alloc (.cells #[.int .i64 (x.1 : Int), .int .i64 (x.2 : Int)] 55)) none := World.grownBy_alloc _ _ _
  refine ⟨rfl, (hgA.block sb hS1.lt (by simp)).trans hS1, hQ3, rfl, rfl, rfl, ?_, fun k hk h1 h2 => ?_⟩
  · have := hgA.size; simp only [World.size_setCell] at this; exact this
  · rw [hgA.block k (by simpa using hk) (by simp), heap_setCell_other w ⟨sb, 5, none⟩ k _ h1]

end Go.Proofs.Ytejemnjadgihbaa
