/-
  The contract of paths.From: distances, and last edges, that are right; of multigraphs of at most forty vertices.
-/
import Derived.Deep.LoopGhost
import Derived.Test.YthdhimcaojfcnaaGreatXWaLeave
import Derived.Test.YthdhimcaojfcnaaGreatXWaNew
namespace Go.Proofs.YthdhimcaojfcnaaGreat
open Go Go.Proofs Go.RowKit

theorem pot_le (B : Nat) : ∀ D : List Int, (∀ x ∈ D, x ≤ (B : Int)) → pot B D ≤ D.length * B
  | [], _ => by simp [pot]
  | x :: D, h => by
    have h1 := pot_le B D fun y hy => h y (by simp [hy])
    have h2 := h x (by simp)
    have h3 : potI B x ≤ B := by unfold potI; split <;> omega
    have e1 : (x :: D).length * B = D.length * B + B := Nat.succ_mul _ _
    have e2 : pot B (x :: D) = potI B x + pot B D := by simp [pot]
    omega
theorem pot_start (N s : Nat) : pot (aboveW N) (dist0 N s) ≤ N * aboveW N := by
  have h := pot_le (aboveW N) (dist0 N s) fun x hx => by
    unfold dist0 negs at hx
    rcases List.mem_or_eq_of_mem_set hx with hx | rfl
    · rw [(List.mem_replicate.1 hx).2]; omega
    · omega
  have e : (dist0 N s).length = N := by simp [dist0, negs]
  rwa [e] at h
theorem above_few {N : Nat} (hN : N ≤ 40) : 2 * (N * aboveW N) + 1 ≤ 8796093022207 := by
  have h1 : aboveW N ≤ 85899345881 := by unfold aboveW; omega
  have h2 := Nat.mul_le_mul hN h1
  omega
/-- What From tells. -/
def FromP (L : List Eg) (s N : Nat) (w : World) (e : Ending) (w' : World) : Prop := ∃ (D V : List Int) (bD bV : Nat), e = .returned (.tuple #[.slice (some ⟨bD, 0, none⟩) N N, .slice (some ⟨bV, 0, none⟩) N N, .int .i64 0]) ∧ OKc L s N D V ∧ Blk 2 w' bD (D.map (Value.int .i64)) ∧ Blk 3 w' bV (V.map (Value.int .i64)) ∧ Below w.heap.size w w' ∧ w.heap.size ≤ bD ∧ w.heap.size ≤ bV

set_option maxRecDepth 100000 in
set_option maxHeartbeats 2000000 in
theorem from_bad (n v : Int) (l : List Ed) (sv : Value) (w : World) (hl : Edges w.heap.size w sv l) (hk : rgtW n l ≠ 0) :
    Calls Tryz.prog 45 #[.agg #[.int .i64 n, sv], .int .i64 v] w fun e w' => e = .returned (.tuple #[.slice none 0 0, .slice none 0 0, .int .i64 (rgtW n l)]) ∧ Grew w w' := by
  obtain ⟨p, c, rfl⟩ := hl.len
  have hg1 : Grew w (w.alloc (.cells #[.int .i64 n, .slice p l.length c] 24)) := (Grew.refl w).alloc _
  have hrt := rightW_any n l _ _ (hl.go hg1.below)
  generalize rgtW n l = k at hrt hk
  have hk' : (k == 0) = false := by simpa using hk
  go_enter Tryz.func45, Tryz.ntmps45
  go_wp2_with fail
  refine hrt.mono ?_
  rintro e w1 ⟨rfl, hg2⟩
  clear hrt
  go_wp2
  exact bodyPost_ret (v := .tuple #[.slice none 0 0, .slice none 0 0, .int .i64 k]) (by simp [results, Tryz.results45, go_sem]) rfl ⟨rfl, hg1.trans hg2⟩
set_option maxRecDepth 100000 in
set_option maxHeartbeats 2000000 in
theorem from_none (n v : Int) (l : List Ed) (sv : Value) (w : World) (hl : Edges w.heap.size w sv l) (hk : rgtW n l = 0) (hv : vtxB n v = false) :
    Calls Tryz.prog 45 #[.agg #[.int .i64 n, sv], .int .i64 v] w fun e w' => e = .returned (.tuple #[.slice none 0 0, .slice none 0 0, .int .i64 5]) ∧ Grew w w' := by
  obtain ⟨p, c, rfl⟩ := hl.len
  have hg1 : Grew w (w.alloc (.cells #[.int .i64 n, .slice p l.length c] 24)) := (Grew.refl w).alloc _
  have hrt := rightW_any n l _ _ (hl.go hg1.below)
  have hiv := fun W => isVertex_any n v (.slice p l.length c) W ⟨_, _, _, rfl⟩
  rw [hk] at hrt
  rw [hv] at hiv
  clear hk hv
  go_enter Tryz.func45, Tryz.ntmps45
  go_wp2_with fail
  refine hrt.mono ?_
  rintro e w1 ⟨rfl, hg2⟩
  clear hrt
  have q0 := (box2 _ hg2).1
  have q1 := (box2 _ hg2).2
  go_wp2_with fail
  refine (hiv _).mono ?_
  rintro e w2 ⟨rfl, hg3⟩
  clear hiv
  go_wp2
  exact bodyPost_ret (v := .tuple #[.slice none 0 0, .slice none 0 0, .int .i64 5]) (by simp [results, Tryz.results45, go_sem]) rfl ⟨rfl, (hg1.trans hg2).trans hg3⟩
set_option maxRecDepth 100000 in
set_option maxHeartbeats 4000000 in
theorem from_any (N : Nat) (L : List Eg) (s : Nat) (hN : N ≤ 40) (hs : s < N) (hm : L.length ≤ 4194304) (hE : ∀ e ∈ L, e.1 < N ∧ e.2.1 < N) (hW : ∀ e ∈ L, e.2.2 ≤ 2147483647) (hk : rgtW (N : Int) (L.map edE) = 0) (sv : Value) (w : World) (hl : Edges w.heap.size w sv (L.map edE)) :
    Calls Tryz.prog 45 #[.agg #[.int .i64 (N : Int), sv], .int .i64 (s : Int)] w fun e w' => FromP L s N w e w' := by
  obtain ⟨p, c, rfl⟩ := hl.lenG
  have hmix := mixed
  have hg1 : Grew w (w.alloc (.cells #[.int .i64 (N : Int), .slice p L.length c] 24)) := (Grew.refl w).alloc _
  have hrt := rightW_any (N : Int) (L.map edE) _ _ (hl.go hg1.below)
  have hiv := fun W => isVertex_any (N : Int) (s : Int) (.slice p L.length c) W ⟨_, _, _, rfl⟩
  rw [hk] at hrt
  have hvt : vtxB (N : Int) (s : Int) = true := vtx_iff.2 (by omega)
  rw [hvt] at hiv
  clear hk hvt
  go_enter Tryz.func45, Tryz.ntmps45
  go_wp2_with fail
  refine hrt.mono ?_
  rintro e w1 ⟨rfl, hg2⟩
  clear hrt
  have q0 := (box2 _ hg2).1
  have q1 := (box2 _ hg2).2
  go_wp2_with fail
  refine (hiv _).mono ?_
  rintro e w2 ⟨rfl, hg3⟩
  clear hiv q0 q1
  have q0 := (box2 _ (hg2.trans hg3)).1
  have q1 := (box2 _ (hg2.trans hg3)).2
  have hgw : Grew w w2 := (hg1.trans hg2).trans hg3
  have hns := newSearch_any N L (by omega) hm hE hW _ w2 (hl.go hgw.below)
  clear hg1 hg2 hg3
  go_wp2_with fail
  refine hns.mono ?_
  rintro e w3 ⟨S, rfl, hSN, hSL, hSp, ok, hSM, hb3, hb4, hb5, hb6⟩
  clear hns q0 q1
  obtain ⟨hp, hc⟩ : p = S.p ∧ c = S.c := by
    simp only [Value.slice.injEq] at hSp
    exact ⟨hSp.1, hSp.2.2⟩
  subst hSN hSL hp hc
  have hbw : Below w.heap.size w w3 := hgw.below.trans (hb3.mono hgw.below.size)
  have hww2 := hgw.below.size
  have hcome := come_new S ok (negs S.N) (negs S.N) (.slice none 0 0) [] s 0 (-1) (-1) w3 hSM hs (by simp [negs, hs]) (by simp [negs]) (.inl rfl) (by simp)
  have HS : Hid _ := ok
  clear hSM hSp
  go_wp2_with fail
  refine hcome.mono ?_
  rintro e w4 ⟨rfl, qv4, Q4, hp4, hS4, hF4, _, _⟩
  clear hcome
  have hQ4 : ∀ x, x ∈ Q4 ↔ x = (0, s) := fun x => by rw [hp4.mem_iff]; simp
  obtain ⟨hFI, hOp⟩ := FI.start S.L hs hQ4
  have hl4 : Q4.length = 1 := by rw [hp4.length_eq]; rfl
  have hpot := pot_start S.N s
  have hK := above_few hN
  have hS4' : SM S (dist0 S.N s) ((negs S.N).set s (-1)) qv4 Q4 w4 := hS4
  go_wp2
  go_loopg [] (2 * (S.N * aboveW S.N) + 1) (fun k wr => k ≤ 8796093022207 ∧ Left' S s k w4 wr)
  case atStart => exact ⟨hK, _, _, qv4, Q4, hS4', hFI, hOp, by omega, Fr.refl _ _⟩
  case round =>
    obtain ⟨hk, D, V, qv, Q, hSr, hFr, hOr, hKr, hFm⟩ := hrel
    obtain ⟨pq, cq, rfl⟩ := owns_sliceQ hSr.own
    have c5 := hSr.cells.2.2.2.2.2
    have hbr : Below w.heap.size w wr := Fr.below hbw (hF4.trans hFm) (by have := HS.out.s.1; omega) (by omega) (by omega) (by omega)
    by_cases h0 : 0 < Q.length
    · have h0' : (0 : Int) < (Q.length : Int) := by omega
      have hnr := nearest_any S HS.out D V _ Q wr hSr h0 (by omega)
      go_wp2_with (first | (go_at_call 54; refine (qlen_any _ _ _ _).mono ?_; rintro e w' ⟨rfl, rfl⟩))
      refine hnr.mono ?_
      rintro e w5 ⟨⟨c, v⟩, qv5, Q5, rfl, hp5, hS5, hF5⟩
      clear hnr c5
      have hl5 : Q5.length + 1 = Q.length := by have := hp5.length_eq; simpa using this
      have hin : (c, v) ∈ Q := hp5.mem_iff.1 (by simp)
      obtain ⟨hvN, hv0, hvc⟩ := hFr.queue _ hin
      have hb5 : Below w.heap.size w w5 := Fr.below hbw ((hF4.trans hFm).trans hF5) (by have := HS.out.s.1; omega) (by omega) (by omega) (by omega)
      have hFI5 : FI S.L s S.N D V Q5 := hFr.perm fun x hx => hp5.mem_iff.1 (by simp [hx])
      have hlv := leave_any S HS.out s hs hN w hl (by omega) (by omega) (by omega) D V qv5 Q5 Q c v w5 hb5 hS5 hFI5 hvN hv0 hvc hOr (fun x hx => by
        rcases List.mem_cons.1 (hp5.mem_iff.2 hx) with h | h
        · exact .inl h
        · exact .inr h) (2 * pot (aboveW S.N) D + Q5.length) (Nat.le_refl _) (by omega)
      go_wp2_with fail
      refine hlv.mono ?_
      rintro e w6 ⟨rfl, hL6⟩
      clear hlv
      go_wp2
      go_roundg (2 * pot (aboveW S.N) D + Q5.length)
      case measure => omega
      case rel =>
        obtain ⟨D6, V6, qv6, Q6, g1, g2, g3, g4, g5⟩ := hL6
        exact ⟨by omega, D6, V6, qv6, Q6, g1, g2, g3, g4, (hFm.trans hF5).trans g5⟩
    · obtain rfl : Q = [] := List.eq_nil_of_length_eq_zero (by omega)
      have hOK := FI.okc hFr hOr HS.out.ends
      have c3 := hSr.cells.2.2.2.1
      have c4 := hSr.cells.2.2.2.2.1
      have hD := hSr.dist
      have hV := hSr.via
      clear hSr hFr hOr
      go_wp2_with (first | (go_at_call 54; refine (qlen_any _ _ _ _).mono ?_; rintro e w' ⟨rfl, rfl⟩))
      go_quiet (fail)
      go_wp2
      exact bodyPost_ret (v := .tuple #[.slice (some ⟨S.bD, 0, none⟩) S.N S.N, .slice (some ⟨S.bV, 0, none⟩) S.N S.N, .int .i64 0]) (by simp [results, Tryz.results45, go_sem]) rfl ⟨D, V, S.bD, S.bV, rfl, hOK, hD, hV, below_drewN hbr nq, by omega, by omega⟩
end Go.Proofs.YthdhimcaojfcnaaGreat
