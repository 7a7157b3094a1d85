/-
  Slices of darts; the contract of rotation.darts.
-/
import Derived.Test.YtnmlbkmbiecpnaaRBeh
import Derived.Test.YtnmlbkmbiecpnaaRNear
namespace Go.Proofs.Ytnmlbkmbiecpnaa
open Go Go.Proofs Go.RowKit

theorem infoDt : (Try.prog.info? 27).map (fun i => (i.zero, i.size, i.bytes)) = some (some (.agg #[.int .i64 0, .int .i64 0]), 2, 16) := by kernel_rfl
def encDc (d : Dt) : List Value := [.int .i64 d.1, .int .i64 d.2]
def flatD (L : List Dt) : List Value := L.flatMap encDc
theorem flatD_snoc (L : List Dt) (d : Dt) : flatD (L ++ [d]) = flatD L ++ encDc d := by simp [flatD]
theorem flatD_at : ∀ {L : List Dt} {j : Nat} {x : Dt}, L[j]? = some x → (flatD L)[j * 2]? = some (.int .i64 x.1) ∧ (flatD L)[j * 2 + 1]? = some (.int .i64 x.2)
  | [], j, x, h => by simp at h
  | y :: L, 0, x, h => by
    have : y = x := by simpa using h
    subst this
    exact ⟨rfl, rfl⟩
  | y :: L, j + 1, x, h => by
    have h' : L[j]? = some x := by simpa using h
    obtain ⟨h1, h2⟩ := flatD_at h'
    have e : flatD (y :: L) = [.int .i64 y.1, .int .i64 y.2] ++ flatD L := rfl
    rw [e, List.getElem?_append_right (by simp; omega), List.getElem?_append_right (by simp; omega)]
    have e1 : (j + 1) * 2 - [Value.int .i64 y.1, Value.int .i64 y.2].length = j * 2 := by simp; omega
    have e2 : (j + 1) * 2 + 1 - [Value.int .i64 y.1, Value.int .i64 y.2].length = j * 2 + 1 := by simp; omega
    rw [e1, e2]
    exact ⟨h1, h2⟩
/-- A slice of darts. -/
def Drts (n : Nat) (W : World) (sv : Value) (L : List Dt) : Prop :=
  ((∃ p c, sv = .slice p 0 c) ∧ L = []) ∨ ∃ b off cap, sv = .slice (some ⟨b, off, none⟩) L.length cap ∧ b < n ∧ L.length ≤ cap ∧ ∀ j x, L[j]? = some x → W.cell? ⟨b, off + j * 2, none⟩ = some (.int .i64 x.1) ∧ W.cell? ⟨b, off + j * 2 + 1, none⟩ = some (.int .i64 x.2)
theorem Drts.below {n : Nat} {W W' : World} {sv : Value} {L : List Dt} (h : Drts n W sv L) (hb : Below n W W') : Drts n W' sv L := by
  rcases h with h | ⟨b, off, cap, h1, h2, h3, h4⟩
  · exact .inl h
  · exact .inr ⟨b, off, cap, h1, h2, h3, fun j x hx => ⟨(hb.cell (p := ⟨b, _, none⟩) h2).trans (h4 j x hx).1, (hb.cell (p := ⟨b, _, none⟩) h2).trans (h4 j x hx).2⟩⟩
theorem Drts.mono {n m : Nat} {W : World} {sv : Value} {L : List Dt} (h : Drts n W sv L) (hb : n ≤ m) : Drts m W sv L := by
  rcases h with h | ⟨b, off, cap, h1, h2, h3, h4⟩
  · exact .inl h
  · exact .inr ⟨b, off, cap, h1, Nat.lt_of_lt_of_le h2 hb, h3, h4⟩
theorem Drts.go {W W' : World} {sv : Value} {L : List Dt} (h : Drts W.heap.size W sv L) (hb : Below W.heap.size W W') : Drts W'.heap.size W' sv L := (h.below hb).mono hb.size
theorem Drts.len {n : Nat} {W : World} {sv : Value} {L : List Dt} (h : Drts n W sv L) : ∃ p c, sv = .slice p L.length c := by
  rcases h with ⟨⟨p, c, rfl⟩, rfl⟩ | ⟨b, off, cap, rfl, _⟩ <;> exact ⟨_, _, rfl⟩
theorem Drts.cellAt {n : Nat} {w : World} {p : Option Addr} {c : Nat} {L : List Dt} (h : Drts n w (.slice p L.length c) L) {j : Nat} (hj : j < L.length) :
    ∃ b off, p = some ⟨b, off, none⟩ ∧ b < n ∧ L.length ≤ c ∧ w.cell? ⟨b, off + j * 2, none⟩ = some (.int .i64 L[j].1) ∧ w.cell? ⟨b, off + j * 2 + 1, none⟩ = some (.int .i64 L[j].2) := by
  rcases h with ⟨_, h0⟩ | ⟨b, off, cap, h1, h2, h3, h4⟩
  · subst h0; simp at hj
  · simp only [Value.slice.injEq] at h1
    obtain ⟨rfl, _, rfl⟩ := h1
    obtain ⟨h5, h6⟩ := h4 j _ (List.getElem?_eq_getElem hj)
    exact ⟨b, off, rfl, h2, h3, h5, h6⟩
theorem Drts.of_owns {W : World} {base : Nat} {e : TypeId} {v : Value} {L : List Dt} (h : W.ownsRow base e 2 v L.length (flatD L)) : Drts W.heap.size W v L := by
  rcases h.2 with ⟨rfl, h0⟩ | ⟨g, cap, cur, rfl, hb, hg, hn, hc⟩
  · exact .inl ⟨⟨_, _, rfl⟩, List.eq_nil_of_length_eq_zero h0⟩
  · refine .inr ⟨g, 0, cap, rfl, (Array.getElem?_eq_some_iff.1 hg).1, hn, fun j x hx => ?_⟩
    obtain ⟨k0, k1⟩ := flatD_at hx
    have c0 := h.cells (g := g) rfl (j * 2) _ k0
    have c1 := h.cells (g := g) rfl (j * 2 + 1) _ k1
    rw [Go.WideShapes.add_plain] at c0 c1
    exact ⟨c0, c1⟩
theorem newsD {w : World} {t : TypeId} (d : Dt) : ∀ (i : Nat) (u : Value), (encDc d)[i]? = some u → (w.alloc (.cells #[.int .i64 d.1, .int .i64 d.2] t)).cell? ((⟨w.heap.size, 0, none⟩ : Addr).add i) = some u := by
  intro i u h
  match i, h with
  | 0, h =>
    have : u = .int .i64 d.1 := by simpa [encDc] using h.symm
    subst this
    simp [Addr.add]
  | 1, h =>
    have : u = .int .i64 d.2 := by simpa [encDc] using h.symm
    subst this
    simp [Addr.add]
  | i + 2, h => simp [encDc] at h
theorem oneD (d : Dt) : ∀ u ∈ encDc d, u.oneCell' = true := by
  intro u hu
  simp only [encDc, List.mem_cons, List.not_mem_nil, or_false] at hu
  rcases hu with rfl | rfl <;> rfl
theorem dartsL_succ (l : List Ed) (j : Nat) : dartsL (j + 1) l = dartsL j l ++ (nb l (j : Int)).map fun v => ((j : Int), v) := by
  unfold dartsL
  rw [List.range_succ, List.flatMap_append]
  simp
theorem dartsL_few {l : List Ed} (hm : l.length ≤ 4194304) : ∀ j, (dartsL j l).length ≤ j * 4194304
  | 0 => by simp [dartsL]
  | j + 1 => by
    have := dartsL_few hm j
    have := nb_len (j : Int) l
    rw [dartsL_succ, List.length_append, List.length_map]
    omega

theorem NearI.grown {N g h0 : Nat} {bs : List Nat} {deg : Nat → Nat} {pre : Nat → List Int} {A B : World} {q : Option Nat} (h : NearI N g h0 bs deg pre A) (hg : A.grownBy B q) (h1 : some g ≠ q) (h2 : ∀ v, v < N → some (bs.getD v 0) ≠ q) : NearI N g h0 bs deg pre B :=
  ⟨h.len, h.inj, h.low, h.out, h.row.grown hg h1, fun v hv => owns_keep (h.own v hv) hg (.inr (h2 v hv))⟩
def preD (l : List Ed) (j k : Nat) : List Dt := dartsL j l ++ ((nb l (j : Int)).take k).map fun v => ((j : Int), v)
theorem preD_zero (l : List Ed) (j : Nat) : preD l j 0 = dartsL j l := by simp [preD]
theorem preD_full (l : List Ed) (j : Nat) : preD l j (nb l (j : Int)).length = dartsL (j + 1) l := by unfold preD; rw [List.take_length, dartsL_succ]
theorem preD_step {l : List Ed} {j k : Nat} (h : k < (nb l (j : Int)).length) : preD l j (k + 1) = preD l j k ++ [((j : Int), (nb l (j : Int))[k])] := by
  unfold preD
  rw [List.take_add_one, List.getElem?_eq_getElem h, List.map_append, List.append_assoc]
  rfl
theorem preD_few {l : List Ed} (hm : l.length ≤ 4194304) (j k : Nat) : (preD l j k).length ≤ (j + 1) * 4194304 := by
  unfold preD
  have := dartsL_few hm j
  have := nb_len (j : Int) l
  rw [List.length_append, List.length_map, List.length_take]
  omega

set_option maxRecDepth 100000 in
set_option maxHeartbeats 4000000 in
theorem darts_any (N : Nat) (l : List Ed) (hR : RightG (N : Int) l) (sv : Value) (w : World) (hl : Edges w.heap.size w sv l) :
    Calls Try.prog 63 #[.agg #[.int .i64 (N : Int), sv]] w fun r w' => ∃ dv, r = .returned dv ∧ w'.ownsRow w.heap.size 27 2 dv (dartsL N l).length (flatD (dartsL N l)) ∧ Below w.heap.size w w' := by
  obtain ⟨p, c, rfl⟩ := hl.len
  have hg1 : Grew w (w.alloc (.cells #[.int .i64 (N : Int), .slice p l.length c] 24)) := (Grew.refl w).alloc _
  have hX1 : Blk 24 (w.alloc (.cells #[.int .i64 (N : Int), .slice p l.length c] 24)) w.heap.size [.int .i64 (N : Int), .slice p l.length c] := heap_alloc_new w _
  obtain ⟨i0, hi, hz0, hz1, hz2⟩ := info_parts infoDt
  have hn1 := hR.n1
  have hm1 := hR.m1
  have q0 := hX1.cell (j := 0) rfl
  have q1 := hX1.cell (j := 1) rfl
  have hs1 : (w.alloc (.cells #[.int .i64 (N : Int), .slice p l.length c] 24)).heap.size = w.heap.size + 1 := by simp
  go_enter Try.func63, Try.ntmps63
  go_wp2_with (at_make; refine wpList_make_own _ rfl _ _ 50 rfl w.heap.size 27 i0 (.agg #[.int .i64 0, .int .i64 0]) 2 Try.underlying50 hi hz0 hz1 .i64 .i64 _ (2 * l.length) rfl rfl (by go_num) (by rw [hz2]; omega) (by unfold maxLen; omega) (by rw [hs1]; omega) ?_; intro w3 hown hgrow; have hb3 : Below (w.heap.size + 1) (w.alloc (.cells #[.int .i64 (N : Int), .slice p l.length c] 24)) w3 := (Below.refl _ _).grown hgrow (by rw [hs1]; exact Nat.le_refl _) (fun k e => by cases e); have x0 := (hb3.cell (p := ⟨w.heap.size, 0, none⟩) (by simp only; omega)).trans q0; have x1 := (hb3.cell (p := ⟨w.heap.size, 1, none⟩) (by simp only; omega)).trans q1; have hbw3 : Below w.heap.size w w3 := hg1.below.trans (hb3.mono (by omega)); have hnr := near_at N l hR _ _ (hl.go hbw3); rw [hs1] at hown; have hsz3 : w.heap.size + 1 < w3.heap.size := (hown.lt _ rfl).2)
  clear hgrow hb3 hX1 hg1 hs1 q0 q1
  go_wp2_with fail
  refine hnr.mono ?_
  clear hnr
  rintro e w4 ⟨gn, hn0, bsn, degn, rfl, hN4, hgn, hb4⟩
  have hbw4 := hbw3.trans (hb4.mono hbw3.size)
  have hown4 := owns_below hown hb4
  have hn40 := hb4.size
  have hb30 := hbw3.size
  clear hown hb4 x0 x1 hbw3
  go_wp2
  go_loopw [3, 16] (fun ov iv wr => ∃ j : Nat, j ≤ N ∧ iv = .int .i64 j ∧ wr.ownsRow w.heap.size 27 2 ov (dartsL j l).length (flatD (dartsL j l)) ∧ NearI N gn hn0 bsn degn (fun v => nb l (v : Int)) wr ∧ (ov.ownBlock = some (w.heap.size + 1) ∨ ∃ q, ov.ownBlock = some q ∧ w4.heap.size ≤ q) ∧ Below w.heap.size w wr ∧ w4.heap.size ≤ wr.heap.size) (fun _ iv _ => N - (intOf iv).toNat)
  case atStart => exact ⟨0, Nat.zero_le _, rfl, hown4, hN4, .inl rfl, hbw4, Nat.le_refl _⟩
  case round =>
    obtain ⟨j, hj, rfl, hown, hNr, hob, hb, hsr⟩ := hrel
    have hfew := dartsL_few hm1 j
    obtain ⟨ax, cx, rfl⟩ := owns_formP hown
    by_cases hlt : j < N
    · have hjl : (j : Int) < (N : Int) := by omega
      have c0 := hNr.row.cell (rowsV_at hlt)
      obtain ⟨bj, HBJ⟩ : ∃ bj, Hid (bsn.getD j 0 = bj) := ⟨_, rfl⟩
      rw [HBJ.out] at c0
      have hgn4 := hN4.row.lt
      have HBS4 : Hid (∀ v, v < N → bsn.getD v 0 < w4.heap.size) := fun v hv => ((hN4.own v hv).lt _ rfl).2
      have HBSL : Hid (∀ v, v < N → hn0 ≤ bsn.getD v 0) := hN4.low
      have hno := hN4.out
      rw [← preD_zero] at hown hob ⊢
      have HFL : Hid _ := preD_full l j
      have hnl := nb_len (j : Int) l
      generalize wr = w5 at *
      go_wp2
      go_loopw [3, 23] (fun ov iv wr => ∃ k : Nat, k ≤ (nb l (j : Int)).length ∧ iv = .int .i64 k ∧ wr.ownsRow w.heap.size 27 2 ov (preD l j k).length (flatD (preD l j k)) ∧ NearI N gn hn0 bsn degn (fun v => nb l (v : Int)) wr ∧ (ov.ownBlock = some (w.heap.size + 1) ∨ ∃ q, ov.ownBlock = some q ∧ w4.heap.size ≤ q) ∧ Below w.heap.size w wr ∧ w4.heap.size ≤ wr.heap.size) (fun _ iv _ => (nb l (j : Int)).length - (intOf iv).toNat)
      case atStart => exact ⟨0, Nat.zero_le _, rfl, hown, hNr, hob, hb, hsr⟩
      case round =>
        obtain ⟨k, hk, rfl, hownk, hNk, hobk, hbk, hsk⟩ := hrel
        have hfk := preD_few hm1 j k
        obtain ⟨ay, cy, rfl⟩ := owns_formP hownk
        by_cases hkl : k < (nb l (j : Int)).length
        · have hkl' : (k : Int) < ((nb l (j : Int)).length : Int) := by omega
          obtain ⟨rest, hBk, hnk, hck, hmk, hbk2⟩ := owns_ints (hNk.own j hlt)
          rw [HBJ.out] at hBk
          have c1 : wr.cell? ⟨bj, k, none⟩ = some (.int .i64 (nb l (j : Int))[k]) := hBk.cell (by rw [List.getElem?_append_left (by simpa using hkl), List.getElem?_map, List.getElem?_eq_getElem hkl]; rfl)
          have HST : Hid _ := preD_step hkl
          generalize (nb l (j : Int))[k] = x at *
          generalize preD l j k = R at *
          have hbA : wr.grownBy (wr.alloc (.cells #[.int .i64 (j : Int), .int .i64 x] 27)) none := World.grownBy_alloc _ _ _
          have hownA := hownk.alloc (.cells #[.int .i64 (j : Int), .int .i64 x] 27)
          have hnews := newsD (w := wr) (t := 27) ((j : Int), x)
          have hone := oneD ((j : Int), x)
          have hmx : R.length + 1 ≤ maxLen := by unfold maxLen; omega
          have hby : (R.length + 1) * 16 ≤ 140737488355328 := by omega
          have hbs : w.heap.size ≤ (wr.alloc (.cells #[.int .i64 (j : Int), .int .i64 x] 27)).heap.size := by have := hbk.size; simp; omega
          have hlow : ∀ q, (Value.slice ay R.length cy).ownBlock = some q → w.heap.size ≤ q := fun q hq => (hownk.lt q hq).1
          go_wp2_with (at_builtin; refine wpList_append_own_at _ rfl _ _ 50 rfl w.heap.size 27 i0 (.agg #[.int .i64 0, .int .i64 0]) 2 16 Try.underlying50 hi hz0 hz1 hz2 rfl (by decide) (.slice ay R.length cy) _ _ rfl hownA ⟨wr.heap.size, 0, none⟩ 1 1 (encDc ((j : Int), x)) rfl rfl hnews hone hmx hby hbs ?_)
          intro v7 w7 hown7 hg7 hnil7 hat7
          obtain ⟨a7, m7, k7, rfl⟩ := owns_slice hown7
          have hb7 : Below w.heap.size w w7 := (hbk.alloc hbk.size _).grown hg7 hbs hlow
          have hown7' : w7.ownsRow w.heap.size 27 2 (.slice a7 m7 k7) (R ++ [((j : Int), x)]).length (flatD (R ++ [((j : Int), x)])) := by
            rw [List.length_append, flatD_snoc]; exact hown7
          have hg17 : wr.grownBy w7 (Value.slice ay R.length cy).ownBlock := ⟨hg7.os, hg7.tape, hg7.output, Nat.le_trans hbA.size hg7.size, fun q hq hne => (hg7.block q (Nat.lt_of_lt_of_le hq hbA.size) hne).trans (hbA.block q hq (by simp))⟩
          have hNx : NearI N gn hn0 bsn degn (fun v => nb l (v : Int)) w7 := by
            refine hNk.grown hg17 ?_ ?_
            · rcases hobk with h1 | ⟨q, h1, h2⟩
              · rw [h1]; simp; omega
              · rw [h1]; simp; omega
            · intro v hv
              have g1 := HBS4.out v hv
              have g2 := HBSL.out v hv
              rcases hobk with h1 | ⟨q, h1, h2⟩
              · rw [h1]; intro e; have := Option.some.inj e; omega
              · rw [h1]; intro e; have := Option.some.inj e; omega
          have hob7 : (Value.slice a7 m7 k7).ownBlock = some (w.heap.size + 1) ∨ ∃ q, (Value.slice a7 m7 k7).ownBlock = some q ∧ w4.heap.size ≤ q := by
            rcases hat7 with h1 | h1
            · rw [h1]; exact hobk
            · right
              refine ⟨_, h1, ?_⟩
              omega
          have hs7 : w4.heap.size ≤ w7.heap.size := Nat.le_trans hsk hg17.size
          clear hown7 hg7 hnil7 hat7 hownA hnews hone hg17 hbA
          go_wp2
          exact ⟨⟨k + 1, by omega, by go_num, by rw [HST.out]; exact hown7', hNx, hob7, hb7, hs7⟩, by simp [intOf]; omega⟩
        · obtain rfl : k = (nb l (j : Int)).length := by omega
          have hkl' : ¬ ((nb l (j : Int)).length : Int) < ((nb l (j : Int)).length : Int) := by omega
          rw [HFL.out] at hownk hobk ⊢
          go_wp2
          exact ⟨⟨j + 1, by omega, by go_num, hownk, hNk, hobk, hbk, hsk⟩, by simp [intOf]; omega⟩
    · obtain rfl : j = N := by omega
      have hjl : ¬ (j : Int) < (j : Int) := by omega
      obtain ⟨m, HM⟩ : ∃ m, Hid ((dartsL j l).length = m) := ⟨_, rfl⟩
      rw [HM.out] at hown ⊢
      go_wp2
      go_ret
      exact ⟨.slice ax m cx, rfl, by rw [HM.out]; exact hown, hb⟩
end Go.Proofs.Ytnmlbkmbiecpnaa
