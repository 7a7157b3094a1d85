/-
  A walk from a corner to the next one, in memory: kuratowski.walkAll's closure, which writes the way that it captures.
-/
import Derived.Deep.DeepCutAuto
import Derived.Deep.CutBlock
import Derived.BigQuiet
import Derived.Deep.QuietTactic
import Derived.Test.YtgjaikekpgdehaaXKTold
import Derived.Test.YtgjaikekpgdehaaXKNear
import Derived.Test.YtgjaikekpgdehaaXGHeldL
import Derived.Test.YtgjaikekpgdehaaXKApp
namespace Go.Proofs.Ytgjaikekpgdehaa
open Go Go.Proofs Go.RowKit

theorem cell_keepW {A B : World} (hb : Below A.heap.size A B) {a : Addr} {v : Value} (h : A.cell? a = some v) : B.cell? a = some v := (hb.cell (World.block_lt_of_cell? A a h)).trans h
/-- All that was there is as it was, but for the box bw and the row r. -/
structure Kp (bw : Nat) (r : Option Nat) (A B : World) : Prop where
  os : B.os = A.os
  tape : B.tape = A.tape
  output : B.output = A.output
  size : A.heap.size ≤ B.heap.size
  block : ∀ k, k < A.heap.size → k ≠ bw → some k ≠ r → B.heap[k]? = A.heap[k]?
theorem Kp.refl (bw : Nat) (r : Option Nat) (A : World) : Kp bw r A A := ⟨rfl, rfl, rfl, Nat.le_refl _, fun _ _ _ _ => rfl⟩
theorem Kp.below {bw : Nat} {r : Option Nat} {A B : World} (h : Kp bw r A B) (hbw : bw ≤ A.heap.size) (hr : ∀ k, r = some k → bw ≤ k) : Below bw A B :=
  ⟨h.os, h.tape, h.output, h.size, fun k hk => h.block k (by omega) (by omega) (fun e => by have := hr k e.symm; omega)⟩
/-- The way in memory: its slice sv lies in the box bw, its row is the walk's own. -/
structure KW (bw : Nat) (r : Option Nat) (A : World) (L : List Int) (sv : Value) (W : World) : Prop where
  box : Blk 25 W bw [sv]
  own : W.ownsRow (bw + 1) 3 1 sv L.length (L.map (Value.int .i64))
  lies : sv.ownBlock = r ∨ ∃ b, sv.ownBlock = some b ∧ A.heap.size ≤ b
  kept : Kp bw r A W
theorem KW.go {bw : Nat} {r : Option Nat} {A W W' : World} {L : List Int} {sv : Value} (h : KW bw r A L sv W) (hb : Below W.heap.size W W') : KW bw r A L sv W' :=
  ⟨h.box.go hb, owns_below h.own hb, h.lies, ⟨hb.os.trans h.kept.os, hb.tape.trans h.kept.tape, hb.output.trans h.kept.output, Nat.le_trans h.kept.size hb.size, fun k hk h1 h2 => (hb.block k (Nat.lt_of_lt_of_le hk h.kept.size)).trans (h.kept.block k hk h1 h2)⟩⟩
theorem KW.put {bw : Nat} {r : Option Nat} {A W X B : World} {L L' : List Int} {sv v v' : Value} (h : KW bw r A L sv W) (hb : Below W.heap.size W X) (hv : v.ownBlock = sv.ownBlock)
    (ho : B.ownsRow (bw + 1) 3 1 v' L'.length (L'.map (Value.int .i64))) (hg : X.grownBy B v.ownBlock) (hat : v'.ownBlock = v.ownBlock ∨ v'.ownBlock = some X.heap.size) : KW bw r A L' v' (B.setCell ⟨bw, 0, none⟩ v') := by
  have hne : some bw ≠ v.ownBlock := fun e => by
    rw [hv] at e
    have := (h.own.lt bw e.symm).1
    omega
  have hbox : Blk 25 B bw [sv] := (h.box.go hb).grown hg hne
  refine ⟨hbox.set 0 v', owns_set ho (by simp) _, ?_, ?_⟩
  · rcases hat with h1 | h1
    · rw [h1, hv]; exact h.lies
    · exact .inr ⟨_, h1, Nat.le_trans h.kept.size hb.size⟩
  · refine ⟨hg.os.trans (hb.os.trans h.kept.os), hg.tape.trans (hb.tape.trans h.kept.tape), hg.output.trans (hb.output.trans h.kept.output), ?_, fun k hk h1 h2 => ?_⟩
    · have := h.kept.size
      have := hb.size
      have := hg.size
      show A.heap.size ≤ (B.setCell ⟨bw, 0, none⟩ v').heap.size
      simp
      omega
    · have hkW : k < W.heap.size := Nat.lt_of_lt_of_le hk h.kept.size
      rw [Below.heap_setCell _ _ _ _ h1]
      refine (hg.block k (Nat.lt_of_lt_of_le hkW hb.size) ?_).trans ((hb.block k hkW).trans (h.kept.block k hk h1 h2))
      rw [hv]
      rcases h.lies with h3 | ⟨b, h3, h4⟩
      · rw [h3]; exact h2
      · rw [h3]
        intro e
        simp only [Option.some.injEq] at e
        omega
theorem KW.stay {bw : Nat} {r : Option Nat} {A W X B : World} {L : List Int} {sv v : Value} (h : KW bw r A L sv W) (hb : Below W.heap.size W X) (hv : v.ownBlock = sv.ownBlock) (hg : X.grownBy B v.ownBlock) : Blk 25 B bw [sv] := by
  have hne : some bw ≠ v.ownBlock := fun e => by
    rw [hv] at e
    have := (h.own.lt bw e.symm).1
    omega
  exact (h.box.go hb).grown hg hne
theorem KW.form {bw : Nat} {r : Option Nat} {A W : World} {L : List Int} {sv : Value} (h : KW bw r A L sv W) (h0 : 0 < L.length) : ∃ g cap, sv = .slice (some ⟨g, 0, none⟩) L.length cap ∧ bw + 1 ≤ g ∧ L.length ≤ cap := by
  rcases h.own.2 with ⟨_, h2⟩ | ⟨g, cap, cur, h1, h2, _, h3, _⟩
  · omega
  · exact ⟨g, cap, h1, h2, h3⟩
theorem owns_zero {W : World} {base : Nat} {e : TypeId} {p : Option Addr} {n c : Nat} {xs : List Value} (h : W.ownsRow base e 1 (.slice p n c) n xs) : W.ownsRow base e 1 (.slice p 0 c) 0 [] := by
  refine ⟨rfl, ?_⟩
  rcases h.2 with ⟨h1, h2⟩ | ⟨g, cap, cur, h1, h2, h3, h4, h5, h6, h7⟩
  · simp only [Value.slice.injEq] at h1
    obtain ⟨rfl, _, rfl⟩ := h1
    exact .inl ⟨rfl, rfl⟩
  · simp only [Value.slice.injEq] at h1
    obtain ⟨rfl, _, rfl⟩ := h1
    exact .inr ⟨g, c, cur, rfl, h2, h3, Nat.zero_le _, h5, h6, by simp⟩
theorem two_cellW (w : World) (x y : Value) (t : TypeId) : ∀ (j : Nat) (u : Value), [x, y][j]? = some u → (w.alloc (.cells #[x, y] t)).cell? ((⟨w.heap.size, 0, none⟩ : Addr).add j) = some u := by
  intro j u hu
  rw [Go.WideShapes.add_plain, Nat.zero_add]
  match j with
  | 0 => simp at hu; subst hu; simp
  | 1 => simp at hu; subst hu; simp
  | j + 2 => simp at hu
/-- So far. -/
def wayP (l : List Ed) (v u : Int) (j : Nat) : List Int := (List.range (j + 2)).map (xs l v u)
theorem wayP_len (l : List Ed) (v u : Int) (j : Nat) : (wayP l v u j).length = j + 2 := by simp [wayP]
theorem wayP_succ (l : List Ed) (v u : Int) (j : Nat) : wayP l v u (j + 1) = wayP l v u j ++ [xs l v u (j + 2)] := by simp [wayP, List.range_succ]
theorem wayP_at {l : List Ed} {v u : Int} {j i : Nat} (h : i < j + 2) : (wayP l v u j)[i]? = some (xs l v u i) := by simp [wayP, h]

set_option maxRecDepth 100000 in
set_option maxHeartbeats 4000000 in
theorem walk1_any (N : Nat) (l : List Ed) (hR : RightG (N : Int) l) (v u : Int) (hu : u ∈ nb l v) (hv : (nb l v).length ≠ 2) (bn bw : Nat) (hnw : bn < bw) (nv sv : Value) (L : List Int) (w : World) (hw : KW bw sv.ownBlock w L sv w) (hn : w.cell? ⟨bn, 0, none⟩ = some nv) (hN : Lsts bw w nv (nearL N l)) :
    Calls Try.prog 55 #[.int .i64 v, .int .i64 u, .pointer (some ⟨bw, 0, none⟩), .pointer (some ⟨bn, 0, none⟩)] w fun r w' => r = .returned (.tuple #[]) ∧ ∃ sv', KW bw sv.ownBlock w (wayL l N v u) sv' w' := by
  obtain ⟨k, hk, hLive, hend, hway, -⟩ := way_facts hR hu hv
  have HWay : Hid (wayL l N v u = wayP l v u k) := hway
  have HLive : Hid _ := hLive
  have HEnd : Hid _ := hend
  have hbwl : bw < w.heap.size := hw.box.lt
  have hm1 := hR.m1
  clear hway hLive hend
  obtain ⟨pn, cn, rfl⟩ := hN.len
  obtain ⟨pv, cv, rfl⟩ := owns_form hw.own
  obtain ⟨i0, hi, hz0, hz1, hz2⟩ := info_parts infoI
  rw [nearL_len] at hn hN
  have hb1 : Below w.heap.size w (w.alloc (.cells #[.int .i64 v, .int .i64 u] 3)) := ((Grew.refl w).alloc _).below
  have hO1 := World.ownsRow.alloc (owns_zero hw.own) (.cells #[.int .i64 v, .int .i64 u] 3)
  have hnews := two_cellW w (.int .i64 v) (.int .i64 u) 3
  have hone : ∀ x ∈ [Value.int .i64 v, Value.int .i64 u], x.oneCell' = true := by intro x hx; simp at hx; rcases hx with rfl | rfl <;> rfl
  have hbs : bw + 1 ≤ (w.alloc (.cells #[.int .i64 v, .int .i64 u] 3)).heap.size := by simp; omega
  have c0 := hw.box.cell (j := 0) rfl
  have hv0 : (Value.slice pv 0 cv).ownBlock = (Value.slice pv L.length cv).ownBlock := by cases pv <;> rfl
  have HW : Hid (KW bw (Value.slice pv L.length cv).ownBlock w L (.slice pv L.length cv) w) := hw
  have hsl : ∀ W : World, (Instr.sliceAt 25 (.slice pv L.length cv) none (some (.int .i64 0)) none).run Try.prog W = .ok (.slice pv 0 cv) W := fun W => by
    have ht := Try.underlying25
    rcases hw.own.2 with ⟨h1, h2⟩ | ⟨g, cap, cur, h1, _⟩
    · simp only [Value.slice.injEq] at h1
      obtain ⟨rfl, h3, rfl⟩ := h1
      rw [h3]
      go_simp
    · simp only [Value.slice.injEq] at h1
      obtain ⟨rfl, -, rfl⟩ := h1
      go_simp
  have HBn : Hid (Below bw w w) := Below.refl _ _
  clear hw
  have hr0 : ∀ q, Value.ownBlock (.slice pv L.length cv) = some q → bw ≤ q := fun q e => by have := (HW.out.own.lt q e).1; omega
  generalize hr : Value.ownBlock (.slice pv L.length cv) = r0 at *
  generalize L.length = nL at *
  have HV1 : Hid (Value.ownBlock (.slice pv 0 cv) = Value.ownBlock (.slice pv nL cv)) := hv0.trans hr.symm
  have HR0 : Hid _ := hr0
  clear hv0 hr hr0
  go_enter Try.func55, Try.ntmps55
  go_wp2_with (at_builtin; refine wpList_append_own_at _ rfl _ _ 25 rfl (bw + 1) 3 i0 (.int .i64 0) 1 8 Try.underlying25 hi hz0 hz1 hz2 rfl (by decide) (.slice pv 0 cv) _ _ rfl hO1 ⟨w.heap.size, 0, none⟩ 2 2 [.int .i64 v, .int .i64 u] rfl rfl hnews hone (by unfold maxLen; omega) (by omega) hbs ?_)
  intro v6 w6 hown6 hg6 hnil6 hat6
  obtain ⟨p6, c6, rfl⟩ := owns_form hown6
  have hB6 := HW.out.stay hb1 HV1.out hg6
  have g0 := hB6.cell (j := 0) rfl
  have f0 := hB6.frozen 0
  have hP : KW bw r0 w (wayP l v u 0) (.slice p6 2 c6) (w6.setCell ⟨bw, 0, none⟩ (.slice p6 2 c6)) := HW.out.put hb1 HV1.out (L' := wayP l v u 0) (v' := .slice p6 2 c6) hown6 hg6 (by simpa using hat6)
  clear hown6 hg6 hnil6 hat6 hB6 hsl hnews hone hbs hO1 hb1 c0
  go_wp2
  generalize w6.setCell ⟨bw, 0, none⟩ (.slice p6 2 c6) = w7 at hP ⊢
  clear g0 f0
  go_loopw [6] (fun i wr => ∃ (j : Nat) (s : Value), j ≤ k ∧ i = .int .i64 ((j : Int) + 1) ∧ KW bw r0 w (wayP l v u j) s wr) (fun i _ => k + 1 - (intOf i).toNat)
  case atStart => exact ⟨0, _, Nat.zero_le _, rfl, hP⟩
  case round =>
    obtain ⟨j, s, hj, rfl, hK⟩ := hrel
    have hxb := xs_in hR hu HLive.out j hj
    obtain ⟨x, hx⟩ : ∃ x : Nat, xs l v u (j + 1) = (x : Int) := ⟨(xs l v u (j + 1)).toNat, by omega⟩
    rw [hx] at hxb
    have hxN : x < N := by omega
    have hxI : (x : Int) < (N : Int) := by omega
    have hbW : Below bw w wr := hK.kept.below (by omega) HR0.out
    have hNr : Lsts bw wr (.slice pn (nearL N l).length cn) (nearL N l) := by rw [nearL_len]; exact hN.below hbW
    obtain ⟨bq, offq, rfl, hbq, hcapq, px, cx, hIx, hcx⟩ := hNr.cellAt (j := x) (by rw [nearL_len]; exact hxN)
    have ex : (nearL N l)[x]'(by rw [nearL_len]; exact hxN) = nb l (x : Int) := by simp [nearL]
    rw [ex] at hIx hcx
    rw [nearL_len] at hcapq
    have d0 : wr.cell? ⟨bn, 0, none⟩ = some (.slice (some ⟨bq, offq, none⟩) N cn) := (hbW.cell (p := ⟨bn, 0, none⟩) hnw).trans hn
    obtain ⟨g, cap, rfl, hg, hcap⟩ := hK.form (by rw [wayP_len]; omega)
    have e0 := hK.box.cell (j := 0) rfl
    have y1 := hK.own.cells (g := g) rfl (j + 1) (.int .i64 (x : Int)) (by rw [List.getElem?_map, wayP_at (by omega), hx]; rfl)
    have y0 := hK.own.cells (g := g) rfl j (.int .i64 (xs l v u j)) (by rw [List.getElem?_map, wayP_at (by omega)]; rfl)
    rw [Go.WideShapes.add_plain, Nat.zero_add] at y0 y1
    rw [wayP_len] at hcap e0
    have HO : Hid (othr (nb l (x : Int)) (xs l v u j) = xs l v u (j + 2)) := by unfold Hid; rw [← hx]; rfl
    have hjl : (j : Int) + 1 < (j : Int) + 2 := by omega
    have HK1 : Hid (KW bw r0 w (wayP l v u j) (.slice (some ⟨g, 0, none⟩) (j + 2) cap) wr) := by have := hK; rw [wayP_len] at this; exact this
    clear hK hNr ex hP
    by_cases hjk : j < k
    · have hd : (nb l (x : Int)).length = 2 := by rw [← hx]; exact HLive.out j hjk
      have HI : Hid (Ints bw wr (.slice px 2 cx) (nb l (x : Int))) := by rw [hd] at hIx; exact hIx
      rw [hd] at hcx
      have HD : Hid _ := hd
      clear hd hIx
      go_wp2
      go_quiet (fail)
      have hbQ : Below wr.heap.size wr (wr.drewN nq) := below_drewN (Below.refl _ _) nq
      have HK7 : Hid _ := HK1.out.go hbQ
      replace d0 := cell_keepW hbQ d0
      replace e0 := cell_keepW hbQ e0
      replace y0 := cell_keepW hbQ y0
      replace y1 := cell_keepW hbQ y1
      replace hcx := cell_keepW hbQ hcx
      have HI7 : Hid (Ints bw (wr.drewN nq) (.slice px 2 cx) (nb l (x : Int))) := HI.out.below (below_drewN (Below.refl _ _) nq)
      generalize wr.drewN nq = w8 at HK7 HI7 d0 e0 y0 y1 hcx ⊢
      clear HK1 HI hbQ hbW
      obtain ⟨z, hz⟩ : ∃ z, xs l v u j = z := ⟨_, rfl⟩
      rw [hz] at y0 HO
      have HZ : Hid (xs l v u j = z) := hz
      have HX : Hid (xs l v u (j + 1) = (x : Int)) := hx
      have HS : Hid _ := wayP_succ l v u j
      have hj0 : (0 : Int) ≤ (j : Int) + 1 := by omega
      have hj1 : (j : Int) < (j : Int) + 2 := by omega
      have hjb : j ≤ 4194304 := by have := hR.n1; omega
      have hwj := wrap_i (j : Int) (by omega) (by omega)
      clear hz
      go_wp2_with fail
      refine wp_region_last (S := (fun w' : World => w'.cell? ⟨bw, 0, none⟩ = some (.slice (some ⟨g, 0, none⟩) (j + 2) cap) ∧ w'.cell? ⟨bn, 0, none⟩ = some (.slice (some ⟨bq, offq, none⟩) N cn) ∧ w'.cell? ⟨g, j, none⟩ = some (.int .i64 z) ∧ w'.cell? ⟨g, j + 1, none⟩ = some (.int .i64 (x : Int)) ∧ w'.cell? ⟨bq, offq + x, none⟩ = some (.slice px 2 cx))) (by kernel_rfl) ⟨e0, d0, y0, y1, hcx⟩ (fun hHeld => ?_)
      refine wpAnyL_take (i := 0) (v := ?_) rfl (by kernel_rfl) (by kernel_rfl) (by kernel_rfl) (by kernel_rfl) (fun _ _ _ h => h) (Or.inl ⟨by rfl, ?_⟩) (by assumption) ?_
      rotate_left
      · intro w hSw; (try dsimp only at hSw); go_simp; (try with_reducible rfl)
      try simp only [Act.put, List.setIfInBounds_toArray]
      refine wpAnyL_take (i := 1) (v := ?_) rfl (by kernel_rfl) (by kernel_rfl) (by kernel_rfl) (by kernel_rfl) (fun _ _ _ h => h) (Or.inl ⟨by rfl, ?_⟩) (by assumption) ?_
      rotate_left
      · intro w hSw; (try dsimp only at hSw); go_simp; (try with_reducible rfl)
      try simp only [Act.put]
      refine wpAnyL_take (i := 2) (v := ?_) rfl (by kernel_rfl) (by kernel_rfl) (by kernel_rfl) (by kernel_rfl) (fun _ _ _ h => h) (Or.inl ⟨by rfl, ?_⟩) (by assumption) ?_
      rotate_left
      · intro w hSw; (try dsimp only at hSw); go_simp; (try with_reducible rfl)
      try simp only [Act.put]
      refine wpAnyL_take (i := 3) (v := ?_) rfl (by kernel_rfl) (by kernel_rfl) (by kernel_rfl) (by kernel_rfl) (fun _ _ _ h => h) (Or.inl ⟨by rfl, ?_⟩) (by assumption) ?_
      rotate_left
      · intro w hSw; (try dsimp only at hSw); go_simp; (try with_reducible rfl)
      try simp only [Act.put]
      refine wpAnyL_take (i := 4) (v := ?_) rfl (by kernel_rfl) (by kernel_rfl) (by kernel_rfl) (by kernel_rfl) (fun _ _ _ h => h) (Or.inl ⟨by rfl, ?_⟩) (by assumption) ?_
      rotate_left
      · intro w hSw; (try dsimp only at hSw); go_simp; (try with_reducible rfl)
      try simp only [Act.put]
      refine wpAnyL_take (i := 5) (v := ?_) rfl (by kernel_rfl) (by kernel_rfl) (by kernel_rfl) (by kernel_rfl) (fun _ _ _ h => h) (Or.inl ⟨by rfl, ?_⟩) (by assumption) ?_
      rotate_left
      · intro w hSw; (try dsimp only at hSw); go_simp; (try with_reducible rfl)
      try simp only [Act.put]
      refine wpAnyL_take (i := 6) (v := ?_) rfl (by kernel_rfl) (by kernel_rfl) (by kernel_rfl) (by kernel_rfl) (fun _ _ _ h => h) (Or.inl ⟨by rfl, ?_⟩) (by assumption) ?_
      rotate_left
      · intro w hSw; (try dsimp only at hSw); go_simp; (try with_reducible rfl)
      try simp only [Act.put]
      refine wpAnyL_take (i := 7) (v := ?_) rfl (by kernel_rfl) (by kernel_rfl) (by kernel_rfl) (by kernel_rfl) (fun _ _ _ h => h) (Or.inl ⟨by rfl, ?_⟩) (by assumption) ?_
      rotate_left
      · intro w hSw; (try dsimp only at hSw); go_simp; (try with_reducible rfl)
      try simp only [Act.put]
      refine wpAnyL_take (i := 8) (v := ?_) rfl (by kernel_rfl) (by kernel_rfl) (by kernel_rfl) (by kernel_rfl) (fun _ _ _ h => h) (Or.inl ⟨by rfl, ?_⟩) (by assumption) ?_
      rotate_left
      · intro w hSw; (try dsimp only at hSw); go_simp; (try with_reducible rfl)
      try simp only [Act.put]
      refine wpAnyL_take (i := 9) (v := ?_) rfl (by kernel_rfl) (by kernel_rfl) (by kernel_rfl) (by kernel_rfl) (fun _ _ _ h => h) (Or.inl ⟨by rfl, ?_⟩) (by assumption) ?_
      rotate_left
      · intro w hSw; (try dsimp only at hSw); go_simp; (try with_reducible rfl)
      try simp only [Act.put]
      refine wpAnyL_take (i := 10) (v := ?_) rfl (by kernel_rfl) (by kernel_rfl) (by kernel_rfl) (by kernel_rfl) (fun _ _ _ h => h) (Or.inl ⟨by rfl, ?_⟩) (by assumption) ?_
      rotate_left
      · intro w hSw; (try dsimp only at hSw); go_simp; (try with_reducible rfl)
      try simp only [Act.put]
      refine wpAnyL_take (i := 11) (v := ?_) rfl (by kernel_rfl) (by kernel_rfl) (by kernel_rfl) (by kernel_rfl) (fun _ _ _ h => h) (Or.inl ⟨by rfl, ?_⟩) (by assumption) ?_
      rotate_left
      · intro w hSw; (try dsimp only at hSw); go_simp; (try with_reducible rfl)
      try simp only [Act.put]
      refine wpAnyL_take (i := 12) (v := ?_) rfl (by kernel_rfl) (by kernel_rfl) (by kernel_rfl) (by kernel_rfl) (fun _ _ _ h => h) (Or.inl ⟨by rfl, ?_⟩) (by assumption) ?_
      rotate_left
      · intro w hSw; (try dsimp only at hSw); go_simp; (try with_reducible rfl)
      try simp only [Act.put]
      try simp only [List.getElem_toArray, List.getElem_cons_zero, List.getElem_cons_succ, List.setIfInBounds_toArray, List.set_cons_zero, List.set_cons_succ]
      have hbd : Below w8.heap.size w8 w8.drew := below_drewN (Below.refl _ _) 1
      refine wpAnyL_ready (rs := [13]) (by kernel_rfl) (by simp) ?_
      refine AllReadyL.cons rfl (fun K hK => ?_) AllReadyL.nil
      go_simp
      refine (other_any (nb l (x : Int)) HD.out z _ bw w8.drew (HI7.out.below (below_drewN (Below.refl _ _) 1))).mono ?_
      rintro e w9 ⟨rfl, rfl⟩
      rw [HO.out]
      refine hK.out _ _ hHeld (fun hHeld13 => ?_)
      clear hK K
      generalize xs l v u (j + 2) = y at *
      try simp only [Act.put, List.setIfInBounds_toArray, List.set_cons_zero, List.set_cons_succ]
      have hbA : Below w8.heap.size w8 (w8.drew.alloc (.cells #[.int .i64 y] 3)) := hbd.alloc (Nat.le_refl _) _
      have hownA : (w8.drew.alloc (.cells #[.int .i64 y] 3)).ownsRow (bw + 1) 3 1 (.slice (some ⟨g, 0, none⟩) (j + 2) cap) (j + 2) ((wayP l v u j).map (Value.int .i64)) := by
        have := owns_below HK7.out.own hbA
        rwa [wayP_len] at this
      have hnw2 := one_cellK w8.drew (.int .i64 y) 3
      have hone2 : ∀ q ∈ [Value.int .i64 y], q.oneCell' = true := fun q hq => by rw [List.mem_singleton.1 hq]; rfl
      have hmx : j + 2 + 1 ≤ maxLen := by unfold maxLen; omega
      have hby : (j + 2 + 1) * 8 ≤ 140737488355328 := by omega
      have hsA : bw + 1 ≤ (w8.drew.alloc (.cells #[.int .i64 y] 3)).heap.size := by
        have h1 := HK7.out.box.lt
        have h2 := hbA.size
        omega
      refine wpAnyL_ready (rs := [14]) (by kernel_rfl) (by simp) ?_
      refine AllReadyL.cons rfl (fun K hK => ?_) AllReadyL.nil
      go_simp
      refine hK.out _ _ ⟨cell_keepW hbA e0, cell_keepW hbA d0, cell_keepW hbA y0, cell_keepW hbA y1, cell_keepW hbA hcx⟩ (fun hHeld14 => ?_)
      clear hK K hHeld hHeld13
      try simp only [Act.put, List.setIfInBounds_toArray, List.set_cons_zero, List.set_cons_succ]
      refine wpAnyL_ready (rs := [15]) (by kernel_rfl) (by simp) ?_
      refine AllReadyL.cons rfl (fun K hK => ?_) AllReadyL.nil
      refine step_append_keep rfl _ _ 25 rfl (bw + 1) 3 i0 (.int .i64 0) 8 Try.underlying25 hi hz0 hz1 hz2 rfl g (j + 2) cap ((wayP l v u j).map (Value.int .i64)) rfl hownA ⟨w8.heap.size, 0, none⟩ 1 1 [.int .i64 y] rfl rfl hnw2 hone2 hmx hby hsA ?_
      intro v8 w12 ho8 hg8 hat8 hkp
      obtain ⟨p8, c8, rfl⟩ := owns_form ho8
      have hbnw : some bn ≠ some g := by simp; omega
      have hbqw : some bq ≠ some g := by simp; omega
      have hBx : Blk 25 w12 bw [.slice (some ⟨g, 0, none⟩) (j + 2) cap] := HK7.out.stay hbA (v := .slice (some ⟨g, 0, none⟩) (j + 2) cap) rfl hg8
      have g0 := hBx.cell (j := 0) rfl
      have f0 := hBx.frozen 0
      have hPut : KW bw r0 w (wayP l v u (j + 1)) (.slice p8 (j + 2 + 1) c8) (w12.setCell ⟨bw, 0, none⟩ (.slice p8 (j + 2 + 1) c8)) := HK7.out.put hbA (v := .slice (some ⟨g, 0, none⟩) (j + 2) cap) rfl (by rw [HS.out, List.length_append, wayP_len, List.map_append]; exact ho8) hg8 (by simpa [Value.ownBlock] using hat8)
      have HPut : Hid _ := hPut
      refine hK.out _ _ ⟨g0, hg8.cell (cell_keepW hbA d0) hbnw, hkp j _ (by rw [List.getElem?_map, wayP_at (by omega), HZ.out]; rfl), hkp (j + 1) _ (by rw [List.getElem?_map, wayP_at (by omega), HX.out]; rfl), hg8.cell (cell_keepW hbA hcx) hbqw⟩ (fun hHeld15 => ?_)
      clear hK K hHeld14
      try simp only [Act.put, List.setIfInBounds_toArray]
      clear ho8 hg8 hat8 hkp hPut hownA hnw2 hbA hbd hBx
      refine wpAnyL_ready (rs := [16]) (by kernel_rfl) (by simp) ?_
      refine AllReadyL.last rfl (by kernel_rfl) (fun K hK => ?_)
      go_simp
      refine hK.out _ _ ?_
      clear hK K
      try simp only [Act.put, List.setIfInBounds_toArray, List.set_cons_zero, List.set_cons_succ]
      refine wpAnyL_done (by kernel_rfl) ?_ _
      clear hHeld15 g0 f0
      generalize w12.setCell ⟨bw, 0, none⟩ (.slice p8 (j + 2 + 1) c8) = w14 at *
      go_wp2
      exact ⟨⟨j + 1, _, by omega, by go_num, HPut.out⟩, by simp [intOf]; omega⟩
    · obtain rfl : j = k := by omega
      have hd : (nb l (x : Int)).length ≠ 2 := by rw [← hx]; exact HEnd.out
      generalize (nb l (x : Int)).length = d at *
      have hdb : ((d : Int) == 2) = false := by simpa using fun e : (d : Int) = 2 => hd (by omega)
      clear hIx
      go_wp2
      go_quiet (fail)
      go_wp2
      refine bodyPost_end (results_none rfl _ _ _) rfl ?_
      exact ⟨rfl, _, by rw [HWay.out]; exact HK1.out.go (below_drewN (Below.refl _ _) nq)⟩
end Go.Proofs.Ytgjaikekpgdehaa
