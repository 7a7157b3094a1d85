import Derived.Deep.LoopGhost
import Derived.Test.YtalflecmadacaaaGreatZBX
import Derived.Test.YtalflecmadacaaaGreatXTjSplit
import Derived.Test.YtalflecmadacaaaGreatZBV
import Derived.Test.YtalflecmadacaaaGreatZAA
set_option maxRecDepth 100000
set_option maxHeartbeats 8000000
namespace Go.Proofs.YtalflecmadacaaaGreat
open Go Go.Proofs Go.RowKit
theorem pot_le (B : Nat) : ∀ D : List Int, (∀ x ∈ D, x ≤ (B : Int)) → potT B D ≤ D.length * B
 | [], _ => by simp [potT]
 | x :: D, h => by
  have h1 := pot_le B D fun y hy => h y (by simp [hy])
  have h2 := h x (by simp)
  have h3 : potI B x ≤ B := by unfold potI; split <;> omega
  have e1 : (x :: D).length * B = D.length * B + B := Nat.succ_mul _ _
  have e2 : potT B (x :: D) = potI B x + potT B D := by simp [potT]
  omega
theorem pot_start (N s : Nat) : potT (aboveW N) (dist0 N s) ≤ N * aboveW N := by
 have h := pot_le (aboveW N) (dist0 N s) fun x hx => by
  unfold dist0 negs at hx
  rcases List.mem_or_eq_of_mem_set hx with hx | rfl
  ·rw [(List.mem_replicate.1 hx).2]; omega
  ·omega
 have e : (dist0 N s).length = N := by simp [dist0, negs]
 rwa [e] at h
theorem above_few {N : Nat} (hN : N ≤ 40) : 2 * (N * aboveW N) + 1 ≤ 8796093022207 := by
 have h1 : aboveW N ≤ 85899345881 := by unfold aboveW; omega
 have h2 := Nat.mul_le_mul hN h1
 omega
def FromP (L : List Eg) (s N : Nat) (w : World) (e : Ending) (w' : World) : Prop := ∃ (D V : List Int) (bD bV : Nat), e = .returned (.tuple #[.slice (some ⟨bD, 0, none⟩) N N, .slice (some ⟨bV, 0, none⟩) N N, .int .i64 0]) ∧ OKc L s N D V ∧ Blk 2 w' bD (D.map (Value.int .i64)) ∧ Blk 3 w' bV (V.map (Value.int .i64)) ∧ Below w.heap.size w w' ∧ w.heap.size ≤ bD ∧ w.heap.size ≤ bV
theorem from_any (N : Nat) (L : List Eg) (s : Nat) (hN : N ≤ 40) (hs : s < N) (hm : L.length ≤ 4194304) (hE : ∀ e ∈ L, e.1 < N ∧ e.2.1 < N) (hW : ∀ e ∈ L, e.2.2 ≤ 2147483647) (hk : rgtW (N : Int) (L.map edE) = 0) (sv : Value) (w : World) (hl : Edges w.heap.size w sv (L.map edE)) :
  Calls Tryz.prog 110 #[.agg #[.int .i64 (N : Int), sv], .int .i64 (s : Int)] w fun e w' => FromP L s N w e w' := by
 obtain ⟨p, c, rfl⟩ := hl.lenG
 have hmix := mixed
 have hg1 : Grew w (w.alloc (.cells #[.int .i64 (N : Int), .slice p L.length c] 24)) := (Grew.refl w).alloc _
 have hrt := rightW_any (N : Int) (L.map edE) _ _ (hl.go hg1.below)
 have hiv := fun W => isVertex_any (N : Int) (s : Int) (.slice p L.length c) W ⟨_, _, _, rfl⟩
 rw [hk] at hrt
 have hvt : vtxB (N : Int) (s : Int) = true := vtx_iff.2 (by omega)
 rw [hvt] at hiv
 clear hk hvt
 go_enter Tryz.func110, Tryz.ntmps110
 go_wp2_with fail
 refine hrt.mono ?_
 rintro e w1 ⟨rfl, hg2⟩
 clear hrt
 have q0 := (box2 _ hg2).1
 have q1 := (box2 _ hg2).2
 go_wp2_with fail
 refine (hiv _).mono ?_
 rintro e w2 ⟨rfl, hg3⟩
 clear hiv q0 q1
 have q0 := (box2 _ (hg2.trans hg3)).1
 have q1 := (box2 _ (hg2.trans hg3)).2
 have hgw : Grew w w2 := (hg1.trans hg2).trans hg3
 have hns := newSearch_any N L (by omega) hm hE hW _ w2 (hl.go hgw.below)
 clear hg1 hg2 hg3
 go_wp2_with fail
 refine hns.mono ?_
 rintro e w3 ⟨S, rfl, hSN, hSL, hSp, ok, hSM, hb3, hb4, hb5, hb6⟩
 clear hns q0 q1
 obtain ⟨hp, hc⟩ : p = S.p ∧ c = S.c := by
  simp only [Value.slice.injEq] at hSp
  exact ⟨hSp.1, hSp.2.2⟩
 subst hSN hSL hp hc
 have hbw : Below w.heap.size w w3 := hgw.below.trans (hb3.mono hgw.below.size)
 have hww2 := hgw.below.size
 have hcome := come_new S ok (negs S.N) (negs S.N) (.slice none 0 0) [] s 0 (-1) (-1) w3 hSM hs (by simp [negs, hs]) (by simp [negs]) (.inl rfl) (by simp)
 have HS : Hid _ := ok
 clear hSM hSp
 go_wp2_with fail
 refine hcome.mono ?_
 rintro e w4 ⟨rfl, qv4, Q4, hp4, hS4, hF4, _, _⟩
 clear hcome
 have hQ4 : ∀ x, x ∈ Q4 ↔ x = (0, s) := fun x => by rw [hp4.mem_iff]; simp
 obtain ⟨hFI, hOp⟩ := FIT.start S.L hs hQ4
 have hl4 : Q4.length = 1 := by rw [hp4.length_eq]; rfl
 have hpot := pot_start S.N s
 have hK := above_few hN
 have hS4' : SM S (dist0 S.N s) ((negs S.N).set s (-1)) qv4 Q4 w4 := hS4
 go_wp2
 go_loopg [] (2 * (S.N * aboveW S.N) + 1) (fun k wr => k ≤ 8796093022207 ∧ Left' S s k w4 wr)
 case atStart => exact ⟨hK, _, _, qv4, Q4, hS4', hFI, hOp, by omega, Fr.refl _ _⟩
 case round =>
  obtain ⟨hk, D, V, qv, Q, hSr, hFr, hOr, hKr, hFm⟩ := hrel
  obtain ⟨pq, cq, rfl⟩ := owns_sliceQ hSr.own
  have c5 := hSr.cells.2.2.2.2.2
  have hbr : Below w.heap.size w wr := Fr.below hbw (hF4.trans hFm) (by have := HS.out.s.1; omega) (by omega) (by omega) (by omega)
  by_cases h0 : 0 < Q.length
  ·have h0' : (0 : Int) < (Q.length : Int) := by omega
   have hnr := nearest_any S HS.out D V _ Q wr hSr h0 (by omega)
   go_wp2_with (first | (go_at_call 129; refine (qlen_any _ _ _ _).mono ?_; rintro e w' ⟨rfl, rfl⟩))
   refine hnr.mono ?_
   rintro e w5 ⟨⟨c, v⟩, qv5, Q5, rfl, hp5, hS5, hF5⟩
   clear hnr c5
   have hl5 : Q5.length + 1 = Q.length := by have := hp5.length_eq; simpa using this
   have hin : (c, v) ∈ Q := hp5.mem_iff.1 (by simp)
   obtain ⟨hvN, hv0, hvc⟩ := hFr.queue _ hin
   have hb5 : Below w.heap.size w w5 := Fr.below hbw ((hF4.trans hFm).trans hF5) (by have := HS.out.s.1; omega) (by omega) (by omega) (by omega)
   have hFI5 : FIT S.L s S.N D V Q5 := hFr.perm fun x hx => hp5.mem_iff.1 (by simp [hx])
   have hlv := leave_anyT S HS.out s hs hN w hl (by omega) (by omega) (by omega) D V qv5 Q5 Q c v w5 hb5 hS5 hFI5 hvN hv0 hvc hOr (fun x hx => by
    rcases List.mem_cons.1 (hp5.mem_iff.2 hx) with h | h
    ·exact .inl h
    ·exact .inr h) (2 * potT (aboveW S.N) D + Q5.length) (Nat.le_refl _) (by omega)
   go_wp2_with fail
   refine hlv.mono ?_
   rintro e w6 ⟨rfl, hL6⟩
   clear hlv
   go_wp2
   go_roundg (2 * potT (aboveW S.N) D + Q5.length)
   case measure => omega
   case rel =>
    obtain ⟨D6, V6, qv6, Q6, g1, g2, g3, g4, g5⟩ := hL6
    exact ⟨by omega, D6, V6, qv6, Q6, g1, g2, g3, g4, (hFm.trans hF5).trans g5⟩
  ·obtain rfl : Q = [] := List.eq_nil_of_length_eq_zero (by omega)
   have hOK := FIT.okc hFr hOr HS.out.ends
   have c3 := hSr.cells.2.2.2.1
   have c4 := hSr.cells.2.2.2.2.1
   have hD := hSr.dist
   have hV := hSr.via
   clear hSr hFr hOr
   go_wp2_with (first | (go_at_call 129; refine (qlen_any _ _ _ _).mono ?_; rintro e w' ⟨rfl, rfl⟩))
   go_quiet (fail)
   go_wp2
   exact bodyPost_ret (v := .tuple #[.slice (some ⟨S.bD, 0, none⟩) S.N S.N, .slice (some ⟨S.bV, 0, none⟩) S.N S.N, .int .i64 0]) (by simp [results, Tryz.results110, go_sem]) rfl ⟨D, V, S.bD, S.bV, rfl, hOK, hD, hV, below_drewN hbr nq, by omega, by omega⟩
theorem ret_graphJ {fn : Func} {p u : Tmp} (h : fn.results = #[.cell p 24, .tmp u]) {tmps : Array Value} {w : World} {b : Nat} {x y : Value} (hp : tmps.getD p undef = .pointer (some ⟨b, 0, none⟩)) (h0 : w.cell? ⟨b, 0, none⟩ = some x) (h1 : w.cell? ⟨b, 1, none⟩ = some y) :
  (results fn tmps).run Tryz.prog w = .ok (.tuple #[.agg #[x, y], tmps.getD u undef]) w := by
 have hp' : tmps[p]?.getD undef = .pointer (some ⟨b, 0, none⟩) := by simpa using hp
 have a1 := Tryz.isAgg24
 have a2 := Tryz.sizeOf24
 simp [results, h, hp', asAddr]
 go_simp
theorem edges_setJ {W : World} {gE cE : Nat} {l : List Ed} {p : Addr} (h : Edges W.heap.size W (.slice (some ⟨gE, 0, none⟩) 1 cE) l) (hp : p.block ≠ gE) (v : Value) : Edges (W.setCell p v).heap.size (W.setCell p v) (.slice (some ⟨gE, 0, none⟩) 1 cE) l := by
 rcases h with ⟨⟨p', c, h1⟩, _⟩ | ⟨b, off, cap, h1, h2, h3, h4⟩
 ·simp at h1
 ·have hbg : gE = b := by
   simp only [Value.slice.injEq, Option.some.injEq, Addr.mk.injEq] at h1
   exact h1.1.1
  have hp' : p.block ≠ b := by rw [← hbg]; exact hp
  refine .inr ⟨b, off, cap, h1, by simpa using h2, h3, fun j x hx => ?_⟩
  obtain ⟨k0, k1, k2⟩ := h4 j x hx
  exact ⟨(World.cell?_setCell_far _ _ _ _ hp').trans k0, (World.cell?_setCell_far _ _ _ _ hp').trans k1, (World.cell?_setCell_far _ _ _ _ hp').trans k2⟩
theorem pairs_any (N : Nat) (L : List Eg) (a b : Nat) (hN : N ≤ 40) (ha : a < N) (hb : b < N) (hm : L.length ≤ 4194304) (hE : ∀ e ∈ L, e.1 < N ∧ e.2.1 < N) (hW : ∀ e ∈ L, e.2.2 ≤ 2147483647) (hk : rgtW (N : Int) (L.map edE) = 0) (sE sP : Value) (pk bT cT : Nat) (w : World) (hPc : Blk 110 w pk [.int .i64 (N : Int), sE, sP, .slice (some ⟨bT, 0, none⟩) 2 cT]) (hEd : Edges w.heap.size w sE (L.map edE)) (t0 : w.cell? ⟨bT, 0, none⟩ = some (.int .i64 (a : Int))) (t1 : w.cell? ⟨bT, 1, none⟩ = some (.int .i64 (b : Int))) (hd : ∀ D V, OKc L b N D V → ∃ d : Nat, at' D a = d ∧ d < 1099511627776) :
  Calls Tryz.prog 86 #[.pointer (some ⟨pk, 0, none⟩)] w fun e w' => ∃ (d gE cE : Nat) (D V : List Int), e = .returned (.tuple #[.agg #[.int .i64 2, .slice (some ⟨gE, 0, none⟩) 1 cE], .int .i64 0]) ∧ d < 1099511627776 ∧ OKc L b N D V ∧ at' D a = d ∧ Edges w'.heap.size w' (.slice (some ⟨gE, 0, none⟩) 1 cE) ((L2 d).map edE) ∧ Below w.heap.size w w' := by
 have hmix := mixed
 obtain ⟨w1, hw1⟩ : ∃ W, ((w.alloc (.cells #[.int .i64 0, .slice none 0 0] 24)).alloc (.cells #[.int .i64 2, .slice none 0 0] 24)) = W := ⟨_, rfl⟩
 have hb1 : Below w.heap.size w w1 := by rw [← hw1]; exact ((Below.refl _ _).alloc (Nat.le_refl _) _).alloc (by simp only [World.size_alloc]; omega) _
 have hR1 : Blk 24 w1 w.heap.size [.int .i64 0, .slice none 0 0] := by
  have hh : Blk 24 (w.alloc (.cells #[.int .i64 0, .slice none 0 0] 24)) w.heap.size [.int .i64 0, .slice none 0 0] := heap_alloc_new w _
  rw [← hw1]; exact hh.go ((Below.refl _ _).alloc (Nat.le_refl _) _)
 have hG1 : Blk 24 w1 (w.heap.size + 1) [.int .i64 2, .slice none 0 0] := by
  have hs : (w.alloc (.cells #[.int .i64 0, .slice none 0 0] 24)).heap.size = w.heap.size + 1 := by simp
  rw [← hw1, ← hs]; exact heap_alloc_new (w.alloc (.cells #[.int .i64 0, .slice none 0 0] 24)) _
 have hlp := hPc.lt
 have p3 := hPc.cell (j := 3) rfl
 have HPc : Hid (Blk 110 w1 pk [.int .i64 (N : Int), sE, sP, .slice (some ⟨bT, 0, none⟩) 2 cT]) := hPc.go hb1
 have HT : Hid (w1.cell? ⟨bT, 0, none⟩ = some (.int .i64 (a : Int)) ∧ w1.cell? ⟨bT, 1, none⟩ = some (.int .i64 (b : Int))) := ⟨cell_keepW hb1 t0, cell_keepW hb1 t1⟩
 have HEd : Hid (Edges w1.heap.size w1 sE (L.map edE)) := hEd.go hb1
 have HB1 : Hid (Below w.heap.size w w1) := hb1
 have HR1 : Hid (Blk 24 w1 w.heap.size [.int .i64 0, .slice none 0 0]) := hR1
 have HG1 : Hid (Blk 24 w1 (w.heap.size + 1) [.int .i64 2, .slice none 0 0]) := hG1
 obtain ⟨pE, cE0, rfl⟩ := hEd.lenG
 have HH : Hid ((∀ e ∈ L, e.1 < N ∧ e.2.1 < N) ∧ (∀ e ∈ L, e.2.2 ≤ 2147483647) ∧ rgtW (N : Int) (L.map edE) = 0 ∧ ∀ D V, OKc L b N D V → ∃ d : Nat, at' D a = d ∧ d < 1099511627776) := ⟨hE, hW, hk, hd⟩
 have HW1 : Hid (((w.alloc (.cells #[.int .i64 0, .slice none 0 0] 24)).alloc (.cells #[.int .i64 2, .slice none 0 0] 24)) = w1) := hw1
 clear hw1 hPc hEd t0 t1 hb1 hR1 hG1 hE hW hk hd
 go_enter Tryz.func86, Tryz.ntmps86
 go_wp2
 rw [HW1.out]
 clear HW1 p3
 have hsz := HB1.out.size
 go_loopw [19] (fun i wr => ((i = .int .i64 0 ∨ i = .int .i64 1) ∧ wr = w1) ∨ (i = .int .i64 2 ∧ ∃ (d gE cE : Nat) (D V : List Int), Hid (d < 1099511627776 ∧ OKc L b N D V ∧ at' D a = d) ∧ Hid (Blk 24 wr w.heap.size [.int .i64 0, .slice none 0 0]) ∧ Hid (Blk 24 wr (w.heap.size + 1) [.int .i64 2, .slice (some ⟨gE, 0, none⟩) 1 cE]) ∧ Hid (Edges wr.heap.size wr (.slice (some ⟨gE, 0, none⟩) 1 cE) ((L2 d).map edE) ∧ w.heap.size + 1 < gE) ∧ Hid (Below w.heap.size w wr))) (fun i _ => 2 - (intOf i).toNat)
 case atStart => exact .inl ⟨.inl rfl, rfl⟩
 case round =>
  rcases hrel with ⟨rfl | rfl, rfl⟩ | ⟨rfl, d, gE, cE, D, V, HD, HR, HG, HE, HB⟩
  ·go_wp2
   exact ⟨.inl ⟨.inr rfl, trivial⟩, by simp [intOf]⟩
  ·have p0 := HPc.out.cell (j := 0) rfl
   have p1 := HPc.out.cell (j := 1) rfl
   have p3 := HPc.out.cell (j := 3) rfl
   have t1 := HT.out.2
   have hfr := fun W hW => from_any N L b hN hb hm HH.out.1 HH.out.2.1 HH.out.2.2.1 (.slice pE L.length cE0) W hW
   go_wp2
   refine wp_region_held_drew (S := (fun w' : World => w'.cell? ⟨pk, 0, none⟩ = some (.int .i64 (N : Int)) ∧ w'.cell? ⟨pk, 1, none⟩ = some (.slice pE L.length cE0) ∧ w'.cell? ⟨pk, 3, none⟩ = some (.slice (some ⟨bT, 0, none⟩) 2 cT) ∧ w'.cell? ⟨bT, 1, none⟩ = some (.int .i64 (b : Int)))) (by kernel_rfl) ⟨p0, p1, p3, t1⟩ (fun hHeld => ?_)
   refine tkH 0 ?_ rfl (by kernel_rfl) rfl (.inl ⟨by rfl, ?_⟩) (by assumption) ?_
   rotate_left
   ·intro w h; (try dsimp only at h); go_simp; (try rfl)
   try simp only [Act.put, z4]
   refine tkH 1 ?_ rfl (by kernel_rfl) rfl (.inl ⟨by rfl, ?_⟩) (by assumption) ?_
   rotate_left
   ·intro w h; (try dsimp only at h); go_simp; (try rfl)
   try simp only [Act.put]
   refine tkH 2 ?_ rfl (by kernel_rfl) rfl (.inl ⟨by rfl, ?_⟩) (by assumption) ?_
   rotate_left
   ·intro w h; (try dsimp only at h); go_simp; (try rfl)
   try simp only [Act.put]
   refine tkH 3 ?_ rfl (by kernel_rfl) rfl (.inl ⟨by rfl, ?_⟩) (by assumption) ?_
   rotate_left
   ·intro w h; (try dsimp only at h); go_simp; (try rfl)
   try simp only [Act.put]
   refine tkH 4 ?_ rfl (by kernel_rfl) rfl (.inl ⟨by rfl, ?_⟩) (by assumption) ?_
   rotate_left
   ·intro w h; (try dsimp only at h); go_simp; (try rfl)
   try simp only [Act.put]
   refine tkH 5 ?_ rfl (by kernel_rfl) rfl (.inl ⟨by rfl, ?_⟩) (by assumption) ?_
   rotate_left
   ·intro w h; (try dsimp only at h); go_simp; (try rfl)
   try simp only [Act.put]
   simp only [z1, z2, z3, z4, z5, z6]
   refine tkH 6 ?_ rfl (by kernel_rfl) rfl (.inl ⟨by rfl, ?_⟩) (by assumption) ?_
   rotate_left
   ·intro w h; (try dsimp only at h); go_simp; (try rfl)
   try simp only [Act.put]
   refine tkH 7 ?_ rfl (by kernel_rfl) rfl (.inl ⟨by rfl, ?_⟩) (by assumption) ?_
   rotate_left
   ·intro w h; (try dsimp only at h); go_simp; (try rfl)
   try simp only [Act.put]
   refine tkH 8 ?_ rfl (by kernel_rfl) rfl (.inl ⟨by rfl, ?_⟩) (by assumption) ?_
   rotate_left
   ·intro w h; (try dsimp only at h); go_simp; (try rfl)
   try simp only [Act.put]
   refine tkH 9 ?_ rfl (by kernel_rfl) rfl (.inl ⟨by rfl, ?_⟩) (by assumption) ?_
   rotate_left
   ·intro w h; (try dsimp only at h); go_simp; (try rfl)
   try simp only [Act.put]
   refine tkH 10 ?_ rfl (by kernel_rfl) rfl (.inl ⟨by rfl, ?_⟩) (by assumption) ?_
   rotate_left
   ·intro w h; (try dsimp only at h); go_simp; (try rfl)
   try simp only [Act.put]
   simp only [z1, z2, z3, z4, z5, z6]
   refine wpAnyH_ready (rs := [11]) (by kernel_rfl) (by simp) ?_
   refine AllReadyH.cons rfl (fun K hK => ?_) AllReadyH.nil
   go_simp
   have hbd : Below wr.heap.size wr wr.drew := below_drewN (Below.refl _ _) 1
   refine (hfr wr.drew (HEd.out.go hbd)).mono ?_
   rintro e w2 ⟨D, V, bD, bV, rfl, hok, hD, hV, hb2, hbD, hbV⟩
   have hbw : Below wr.heap.size wr w2 := hbd.trans hb2
   refine hK.out _ _ ⟨cell_keepW hbw p0, cell_keepW hbw p1, cell_keepW hbw p3, cell_keepW hbw t1⟩ (fun hHeld2 => ?_)
   have t0 := cell_keepW hbw HT.out.1
   have q3 := cell_keepW hbw p3
   have HR2 : Hid (Blk 24 w2 w.heap.size [.int .i64 0, .slice none 0 0]) := HR1.out.go hbw
   have HG2 : Hid (Blk 24 w2 (w.heap.size + 1) [.int .i64 2, .slice none 0 0]) := HG1.out.go hbw
   have HB2 : Hid (Below w.heap.size w w2) := HB1.out.trans (hbw.mono hsz)
   obtain ⟨d, hd1, hd2⟩ := HH.out.2.2.2 D V hok
   have hld : D.length = N := hok.dist.1
   have d0 : w2.cell? ⟨bD, a, none⟩ = some (.int .i64 (d : Int)) := hD.cell (by rw [List.getElem?_map, List.getElem?_eq_getElem (by omega), ← hd1, at_get (by omega)]; rfl)
   have HOK : Hid (d < 1099511627776 ∧ OKc L b N D V ∧ at' D a = d) := ⟨hd2, hok, hd1⟩
   clear hK K hHeld p0 p1 p3 t1 hok hD hV hb2 hbD hbV hbw hbd hfr hd1
   try simp only [Act.put, z4, z5, z6]
   refine tkH 12 ?_ rfl (by kernel_rfl) rfl (.inl ⟨by rfl, ?_⟩) (by assumption) ?_
   rotate_left
   ·intro w h; (try dsimp only at h); go_simp; (try rfl)
   try simp only [Act.put]
   refine tkH 13 ?_ rfl (by kernel_rfl) rfl (.inl ⟨by rfl, ?_⟩) (by assumption) ?_
   rotate_left
   ·intro w h; (try dsimp only at h); go_simp; (try rfl)
   try simp only [Act.put]
   refine tkH 14 ?_ rfl (by kernel_rfl) rfl (.inl ⟨by rfl, ?_⟩) (by assumption) ?_
   rotate_left
   ·intro w h; (try dsimp only at h); go_simp; (try rfl)
   try simp only [Act.put]
   refine tkH 15 ?_ rfl (by kernel_rfl) rfl (.inl ⟨by rfl, ?_⟩) (by assumption) ?_
   rotate_left
   ·intro w h; (try dsimp only at h); go_simp; (try rfl)
   try simp only [Act.put]
   refine tkH 16 ?_ rfl (by kernel_rfl) rfl (.inl ⟨by rfl, ?_⟩) (by assumption) ?_
   rotate_left
   ·intro w h; (try dsimp only at h); go_simp; (try rfl)
   try simp only [Act.put]
   simp only [z1, z2, z3, z4, z5, z6]
   refine tkH 17 ?_ rfl (by kernel_rfl) rfl (.inl ⟨by rfl, ?_⟩) (by assumption) ?_
   rotate_left
   ·intro w h; (try dsimp only at h); go_simp; (try rfl)
   try simp only [Act.put]
   refine tkH 18 ?_ rfl (by kernel_rfl) rfl (.inl ⟨by rfl, ?_⟩) (by assumption) ?_
   rotate_left
   ·intro w h; (try dsimp only at h); go_simp; (try rfl)
   try simp only [Act.put]
   refine wpAnyH_done (by kernel_rfl) ?_ _
   clear hHeld2
   go_wp2
   go_loopw [45] (fun i wr2 => (i = .int .i64 0 ∧ wr2 = w2) ∨ (i = .int .i64 1 ∧ ∃ gE cE : Nat, Hid (Blk 24 wr2 w.heap.size [.int .i64 0, .slice none 0 0]) ∧ Hid (Blk 24 wr2 (w.heap.size + 1) [.int .i64 2, .slice (some ⟨gE, 0, none⟩) 1 cE]) ∧ Hid (Edges wr2.heap.size wr2 (.slice (some ⟨gE, 0, none⟩) 1 cE) ((L2 d).map edE) ∧ w.heap.size + 1 < gE) ∧ Hid (Below w.heap.size w wr2))) (fun i _ => 1 - (intOf i).toNat)
   case atStart => exact .inl ⟨rfl, rfl⟩
   case round =>
    rcases hrel with ⟨rfl, rfl⟩ | ⟨rfl, gE, cE, HR, HG, HE, HB⟩
    ·have y1 := HG2.out.cell (j := 1) rfl
     have f1 := HG2.out.frozen 1
     have hgl := HG2.out.lt
     have hdI : ¬ (1099511627776 : Int) ≤ (d : Int) := by omega
     have haN : (a : Int) < (N : Int) := by omega
     clear hd2 hld
     obtain ⟨i3, hi, hz0, hz1, hz2⟩ := info_parts infoEJ
     have hownA : (wr.alloc (.cells #[.int .i64 1, .int .i64 0, .int .i64 (d : Int)] 50)).ownsRow (w.heap.size + 2) 50 3 (.slice none 0 0) 0 [] := World.ownsRow_nil _ _ _ _
     have hnews := news3J (w := wr) (t := 50) ((1 : Int), (0 : Int), (d : Int))
     have hone := one3J ((1 : Int), (0 : Int), (d : Int))
     have hbs : w.heap.size + 2 ≤ (wr.alloc (.cells #[.int .i64 1, .int .i64 0, .int .i64 (d : Int)] 50)).heap.size := by simp; omega
     have hmx : 0 + 1 ≤ maxLen := by unfold maxLen; omega
     go_wp2_with (at_builtin; refine wpList_append_own_at _ rfl _ _ 22 rfl (w.heap.size + 2) 50 i3 (.agg #[.int .i64 0, .int .i64 0, .int .i64 0]) 3 24 Tryz.underlying22 hi hz0 hz1 hz2 (by first | rfl | simp [Value.cells]) (by decide) (.slice none 0 0) 0 [] rfl hownA ⟨wr.heap.size, 0, none⟩ 1 1 (encE ((1 : Int), (0 : Int), (d : Int))) rfl rfl hnews hone hmx (by omega) hbs ?_)
     intro v6 w6 ho6 hg6 hnil6 hat6
     have hE6 : Edges w6.heap.size w6 v6 ((L2 d).map edE) := edges_ownsJ (l := (L2 d).map edE) ho6
     obtain ⟨gE, cE, rfl, hgE⟩ : ∃ gE cE, v6 = .slice (some ⟨gE, 0, none⟩) 1 cE ∧ w.heap.size + 1 < gE := by
      rcases ho6.2 with ⟨_, h0⟩ | ⟨gE, cE, cur, h1, h2, _⟩
      ·exact absurd h0 (by omega)
      ·exact ⟨gE, cE, h1, by omega⟩
     have hb6 : Below (w.heap.size + 2) wr w6 := ((Below.refl _ _).alloc (by omega) _).grown hg6 hbs (fun k e => by cases e)
     have hR6 : Blk 24 w6 w.heap.size [.int .i64 0, .slice none 0 0] := (hb6.block _ (by omega)).trans HR2.out
     have hG6 : Blk 24 w6 (w.heap.size + 1) [.int .i64 2, .slice none 0 0] := (hb6.block _ (by omega)).trans HG2.out
     have y6 := hG6.cell (j := 1) rfl
     have f6 := hG6.frozen 1
     have HRF : Hid _ := hR6.other (p := ⟨w.heap.size + 1, 1, none⟩) (by show w.heap.size ≠ w.heap.size + 1; omega) (.slice (some ⟨gE, 0, none⟩) 1 cE)
     have HGF : Hid _ := hG6.set 1 (.slice (some ⟨gE, 0, none⟩) 1 cE)
     have HEF : Hid _ := edges_setJ hE6 (p := ⟨w.heap.size + 1, 1, none⟩) (by show w.heap.size + 1 ≠ gE; omega) (.slice (some ⟨gE, 0, none⟩) 1 cE)
     have HBF : Hid _ := (HB2.out.trans (hb6.mono (by omega))).setCell (p := ⟨w.heap.size + 1, 1, none⟩) (by show w.heap.size ≤ w.heap.size + 1; omega) (.slice (some ⟨gE, 0, none⟩) 1 cE)
     clear ho6 hg6 hnil6 hat6 hE6 hb6 hR6 hG6 hownA hnews hone hbs hmx
     go_wp2
     exact ⟨.inr ⟨rfl, gE, cE, HRF, HGF, ⟨HEF.out, hgE⟩, HBF⟩, by simp [intOf]⟩
    ·go_wp2
     exact ⟨.inr ⟨rfl, d, gE, cE, D, V, HOK, HR, HG, HE, HB⟩, by simp [intOf]⟩
  ·have y0 := HG.out.cell (j := 0) rfl
   have y1 := HG.out.cell (j := 1) rfl
   have r0 := HR.out.cell (j := 0) rfl
   have r1 := HR.out.cell (j := 1) rfl
   have f0 := HR.out.frozen 0
   have f1 := HR.out.frozen 1
   go_wp2
   have hR := (HR.out.set 0 (.int .i64 2)).set 1 (.slice (some ⟨gE, 0, none⟩) 1 cE)
   have hgE := HE.out.2
   refine bodyPost_ret (ret_graphJ rfl rfl (hR.cell (j := 0) rfl) (hR.cell (j := 1) rfl)) rfl ?_
   exact ⟨d, gE, cE, D, V, rfl, HD.out.1, HD.out.2.1, HD.out.2.2, edges_setJ (edges_setJ HE.out.1 (p := ⟨w.heap.size, 0, none⟩) (by show w.heap.size ≠ gE; omega) _) (p := ⟨w.heap.size, 1, none⟩) (by show w.heap.size ≠ gE; omega) _, (HB.out.setCell (p := ⟨w.heap.size, 0, none⟩) (Nat.le_refl _) _).setCell (p := ⟨w.heap.size, 1, none⟩) (Nat.le_refl _) _⟩
end Go.Proofs.YtalflecmadacaaaGreat
