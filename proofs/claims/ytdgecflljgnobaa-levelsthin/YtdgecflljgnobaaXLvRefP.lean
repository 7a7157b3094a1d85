/-
  The contracts of the reference's Asked, Kept and Pieces (filigreeref18), and of levels.Pieces where something stands against it.
-/
import Derived.Test.YtdgecflljgnobaaXLvPcs
namespace Go.Proofs.Ytdgecflljgnobaa
open Go Go.Proofs Go.RowKit

set_option maxRecDepth 100000 in
set_option maxHeartbeats 2000000 in
theorem pieces_bad (n : Int) (l : List Ed) (k s : Int) (hF : fitL n l k s ≠ 0) (sv : Value) (w : World) (hl : Edges w.heap.size w sv l) :
    Calls Try.prog 14 #[.agg #[.int .i64 n, sv], .int .i64 k, .int .i64 s] w fun r w' => r = .returned (.tuple #[.slice none 0 0, .int .i64 (fitL n l k s)]) ∧ Below w.heap.size w w' := by
  have hg1 : Grew w (w.alloc (.cells #[.int .i64 n, sv] 24)) := (Grew.refl w).alloc _
  obtain ⟨p, c, rfl⟩ := hl.len
  have hkb := kept_bad n l k s hF _ _ (hl.go hg1.below)
  have hk : (fitL n l k s != 0) = true := by simpa using hF
  generalize fitL n l k s = q at *
  go_enter Try.func14, Try.ntmps14
  go_wp2_with fail
  refine hkb.mono ?_
  rintro e w2 ⟨rfl, hb2⟩
  have f3 : (w2.alloc (.cells #[.slice none 0 0] 35)).frozen? ⟨w2.heap.size, 0, none⟩ = false := Blk.frozen (t := 35) (vs := [.slice none 0 0]) (heap_alloc_new w2 (.cells #[.slice none 0 0] 35)) 0
  have hb3 : Below w2.heap.size w2 (w2.alloc (.cells #[.slice none 0 0] 35)) := (Below.refl _ _).alloc (Nat.le_refl _) _
  clear hkb
  go_wp2
  go_ret2
  exact ⟨rfl, hg1.below.trans ((hb2.trans (hb3.mono hb2.size)).mono hg1.below.size)⟩

set_option maxRecDepth 100000 in
set_option maxHeartbeats 4000000 in
theorem askedL_any (n : Int) (l : List Ed) (k s : Int) (sv : Value) (w : World) (hl : Edges w.heap.size w sv l) :
    Calls Try.prog 15 #[.agg #[.int .i64 n, sv], .int .i64 k, .int .i64 s] w fun r w' => r = .returned (.int .i64 (fitL n l k s)) ∧ Below w.heap.size w w' := by
  have hg1 : Grew w (w.alloc (.cells #[.int .i64 n, sv] 24)) := (Grew.refl w).alloc _
  have hl1 := hl.go hg1.below
  obtain ⟨p, c, rfl⟩ := hl.len
  have hrc := refRight_any n l (.slice p l.length c) _ hl1
  unfold fitL
  by_cases hk : rightK n l = 0
  · rw [if_neg (by simp [hk])]
    rw [hk] at hrc
    clear hk
    obtain ⟨q, HQ⟩ : ∃ q : Int, Hid ((if k < 1 ∨ 8 < k ∨ s < 0 ∨ k < s then (11 : Int) else 0) = q) := ⟨_, rfl⟩
    rw [HQ.out]
    go_enter Try.func15, Try.ntmps15
    go_wp2_with fail
    refine hrc.mono ?_
    rintro e w2 ⟨rfl, hg2⟩
    have hbw := (hg1.trans hg2).below
    clear hrc hl1
    by_cases h1 : k < 1
    · obtain rfl : (11 : Int) = q := by rw [← HQ.out, if_pos (.inl h1)]
      go_wp2
      go_ret
      exact ⟨rfl, hbw⟩
    · by_cases h2 : 8 < k
      · obtain rfl : (11 : Int) = q := by rw [← HQ.out, if_pos (.inr (.inl h2))]
        go_wp2
        go_ret
        exact ⟨rfl, hbw⟩
      · by_cases h3 : s < 0
        · obtain rfl : (11 : Int) = q := by rw [← HQ.out, if_pos (.inr (.inr (.inl h3)))]
          go_wp2
          go_ret
          exact ⟨rfl, hbw⟩
        · by_cases h4 : k < s
          · obtain rfl : (11 : Int) = q := by rw [← HQ.out, if_pos (.inr (.inr (.inr h4)))]
            go_wp2
            go_ret
            exact ⟨rfl, hbw⟩
          · obtain rfl : (0 : Int) = q := by rw [← HQ.out, if_neg (by omega)]
            go_wp2
            go_ret
            exact ⟨rfl, hbw⟩
  · rw [if_pos hk]
    have hk' : (rightK n l != 0) = true := by simpa using hk
    generalize rightK n l = q at *
    go_enter Try.func15, Try.ntmps15
    go_wp2_with fail
    refine hrc.mono ?_
    rintro e w2 ⟨rfl, hg2⟩
    have hbw := (hg1.trans hg2).below
    clear hrc hl1
    go_wp2
    go_ret
    exact ⟨rfl, hbw⟩

theorem staysL_ref {N : Nat} {l : List Ed} {D : List Int} (hD : Lev N l D) {k s : Int} (hk : 1 ≤ k) (hs0 : 0 ≤ s) (hsk : s ≤ k) : (D.map fun y => (Int.tmod y (k + 1) != s)) = staysL D k s := by
  unfold staysL
  apply List.map_congr_left
  intro y hy
  obtain ⟨v, hv, rfl⟩ := List.getElem_of_mem hy
  have h1 := (hD.ran v (by rw [← hD.len]; exact hv)).1
  have h2 : D.getD v 0 = D[v] := by simp [hv]
  exact (mod_stay (by omega) hk hs0 hsk).symm

set_option maxRecDepth 100000 in
set_option maxHeartbeats 4000000 in
theorem refKept_any (N : Nat) (l : List Ed) (hR : RightG (N : Int) l) (D : List Int) (hD : Lev N l D) (k s : Int) (hk1 : 1 ≤ k) (hk8 : k ≤ 8) (hs0 : 0 ≤ s) (hsk : s ≤ k) (sv : Value) (w : World) (hl : Edges w.heap.size w sv l) :
    Calls Try.prog 16 #[.agg #[.int .i64 (N : Int), sv], .int .i64 k, .int .i64 s] w fun r w' => ∃ g : Nat, r = .returned (.slice (some ⟨g, 0, none⟩) N N) ∧ w.heap.size < g ∧ Blk 4 w' g ((staysL D k s).map Value.bool) ∧ Below w.heap.size w w' := by
  obtain ⟨p, c, rfl⟩ := hl.len
  have hn1 := hR.n1
  obtain ⟨w1, hw1⟩ : ∃ W, (w.alloc (.cells #[.int .i64 (N : Int), .slice p l.length c] 24)) = W := ⟨_, rfl⟩
  have hb1 : Below w.heap.size w w1 := by rw [← hw1]; exact (Below.refl _ _).alloc (Nat.le_refl _) _
  have hX1 : Blk 24 w1 w.heap.size [.int .i64 (N : Int), .slice p l.length c] := by rw [← hw1]; exact heap_alloc_new w _
  have x0 := hX1.cell (j := 0) rfl
  have x1 := hX1.cell (j := 1) rfl
  have hof := refOf_any N l hR D hD _ w1 (hl.go hb1)
  go_enter Try.func16, Try.ntmps16
  go_wp2_with fail
  refine hof.mono ?_
  rintro e w2 ⟨gd, rfl, hBD, hgd, hb2⟩
  clear hof x0 x1
  have hX2 := hX1.go hb2
  have x0 := hX2.cell (j := 0) rfl
  have hdl := hBD.lt
  obtain ⟨i0, hi, hz0, hz1, hz2⟩ := info_parts infoBo
  go_wp2_with (at_make; refine wpList_make_full _ rfl _ _ 35 rfl w2.heap.size 4 i0 (.bool false) 1 Try.underlying35 hi hz0 hz1 .i64 .i64 _ _ N rfl rfl rfl rfl (by rw [hz2]; omega) (by unfold maxLen; omega) (Nat.le_refl _) ?_; intro w3 hown hgrow; have hb3 : Below w2.heap.size w2 w3 := (Below.refl _ _).grown hgrow (Nat.le_refl _) (fun k e => by cases e))
  have hX3 := hX2.go hb3
  have hBD3 := hBD.go hb3
  have hrow := Blk.made hown
  rw [bools_madeP, ← hD.len, ← someL_zero (fun y => (Int.tmod y (k + 1) != s)) D] at hrow
  have HW : Hid (Below w.heap.size w w3) := hb1.trans ((hb2.trans (hb3.mono hb2.size)).mono hb1.size)
  have hx1 : w.heap.size < w2.heap.size := hX2.lt
  have hDl := hD.len
  have hne : gd < w2.heap.size := hdl
  clear hb1 hX1 hb2 hX2 x0 hown hgrow hb3 hi hz0 hz1 hz2 hw1 hBD hdl
  generalize w2.heap.size = g at *
  go_loopw [9] (fun i wr => ∃ j : Nat, j ≤ N ∧ i = .int .i64 (j : Int) ∧ Hid (Blk 4 wr g ((someL (fun y => (Int.tmod y (k + 1) != s)) D j).map Value.bool)) ∧ Hid (Blk 3 wr gd (D.map (Value.int .i64))) ∧ Hid (Blk 24 wr w.heap.size [.int .i64 (N : Int), .slice p l.length c]) ∧ Hid (Below g w3 wr)) (fun i _ => N - (intOf i).toNat)
  case atStart => exact ⟨0, Nat.zero_le _, rfl, hrow, hBD3, hX3, Below.refl _ _⟩
  case round =>
    clear hrow hBD3 hX3
    obtain ⟨j, hj, rfl, HG, HD, HX, HB⟩ := hrel
    have x0 := HX.out.cell (j := 0) rfl
    by_cases hlt : j < N
    · have hjl : (j : Int) < (N : Int) := by omega
      have t0 := HD.out.cell (getD_cell (show j < D.length by omega))
      have u0 : wr.cell? ⟨g, j, none⟩ = some (.bool ((someL (fun y => (Int.tmod y (k + 1) != s)) D j).getD j false)) := HG.out.cell (by rw [List.getElem?_map, List.getElem?_eq_getElem (by rw [someL_len]; omega)]; simp [someL_len, show j < D.length by omega])
      have f0 := HG.out.frozen j
      have hr := hD.ran j hlt
      have hgn := HG.out.set j (.bool ((Int.tmod (D.getD j 0) (k + 1) != s)))
      rw [← List.map_set, someL_step (fun y => (Int.tmod y (k + 1) != s)) (by omega)] at hgn
      have HG2 : Hid _ := hgn
      have HD2 : Hid _ := HD.out.other (p := ⟨g, j, none⟩) (by show gd ≠ g; omega) (.bool ((Int.tmod (D.getD j 0) (k + 1) != s)))
      have HX2 : Hid _ := HX.out.other (p := ⟨g, j, none⟩) (by show w.heap.size ≠ g; omega) (.bool ((Int.tmod (D.getD j 0) (k + 1) != s)))
      have HB2 : Hid _ := HB.out.setCell (p := ⟨g, j, none⟩) (Nat.le_refl _) (.bool ((Int.tmod (D.getD j 0) (k + 1) != s)))
      clear hgn
      generalize D.getD j 0 = d at *
      have hmod : Int.tmod d (k + 1) = d % (k + 1) := Int.tmod_eq_emod_of_nonneg hr.1
      rw [hmod] at HG2 HD2 HX2 HB2
      have hw2 : IntKind.i64.wrap (k + 1) = k + 1 := wrap_i _ (by omega) (by omega)
      have hz : ¬ (k + 1 = 0) := by omega
      go_wp2
      exact ⟨⟨j + 1, by omega, by go_num, HG2, HD2, HX2, HB2⟩, by simp [intOf]; omega⟩
    · obtain rfl : N = j := by omega
      have hN : ¬ (N : Int) < (N : Int) := by omega
      go_wp2
      go_ret
      refine ⟨g, rfl, hx1, ?_, HW.out.trans (HB.out.mono (by omega))⟩
      have h1 := HG.out
      rw [← hDl, someL_full, staysL_ref hD hk1 hs0 hsk] at h1
      exact h1

/-- Headers of lists that lie below n. -/
def LstV (n : Nat) (W : World) (ss : List Value) (LL : List (List Int)) : Prop := ss.length = LL.length ∧ ∀ (j : Nat) (sx : Value) (x : List Int), ss[j]? = some sx → LL[j]? = some x → Ints n W sx x
theorem LstV.below {n : Nat} {W W' : World} {ss : List Value} {LL : List (List Int)} (h : LstV n W ss LL) (hb : Below n W W') : LstV n W' ss LL :=
  ⟨h.1, fun j sx x h1 h2 => (h.2 j sx x h1 h2).below hb⟩
theorem LstV.snoc {n : Nat} {W : World} {ss : List Value} {LL : List (List Int)} (h : LstV n W ss LL) {sx : Value} {x : List Int} (hx : Ints n W sx x) : LstV n W (ss ++ [sx]) (LL ++ [x]) := by
  have hl := h.1
  refine ⟨by simp [hl], fun j sy y h1 h2 => ?_⟩
  by_cases hj : j < ss.length
  · rw [List.getElem?_append_left hj] at h1
    rw [List.getElem?_append_left (by omega)] at h2
    exact h.2 j sy y h1 h2
  · have hb := (List.getElem?_eq_some_iff.1 h1).1
    simp at hb
    obtain rfl : j = ss.length := by omega
    rw [hl, List.getElem?_append_right (Nat.le_refl _), Nat.sub_self] at h2
    rw [List.getElem?_append_right (Nat.le_refl _), Nat.sub_self] at h1
    simp at h1 h2
    subst h1
    subst h2
    exact hx
theorem LstV.lsts {n z : Nat} {W : World} {lv : Value} {ss : List Value} {LL : List (List Int)} (h : LstV n W ss LL) (ho : W.ownsRow z 27 1 lv ss.length ss) (hn : n ≤ W.heap.size) : Lsts W.heap.size W lv LL := by
  have hl := h.1
  rcases Nat.eq_zero_or_pos ss.length with h0 | h0
  · obtain ⟨p, c, rfl⟩ := owns_formP ho
    obtain rfl : LL = [] := List.eq_nil_of_length_eq_zero (by omega)
    rw [h0]
    exact .inl ⟨⟨_, _, rfl⟩, rfl⟩
  · obtain ⟨g, cap, rfl⟩ := owns_pos ho h0
    obtain ⟨rest, hB, -, hc, hg⟩ := owns_blkL ho
    refine .inr ⟨g, 0, cap, by rw [hl], hB.lt, by omega, fun j x hx => ?_⟩
    have hj := (List.getElem?_eq_some_iff.1 hx).1
    refine ⟨ss[j]'(by omega), ?_, (h.2 j _ x (List.getElem?_eq_getElem (by omega)) hx).mono hn⟩
    rw [Nat.zero_add]
    exact hB.cell (by rw [List.getElem?_append_left (by omega), List.getElem?_eq_getElem (by omega)])

set_option maxRecDepth 100000 in
set_option maxHeartbeats 4000000 in
theorem refPieces_any (N : Nat) (l : List Ed) (hR : RightG (N : Int) l) (D : List Int) (hD : Lev N l D) (k s : Int) (hk1 : 1 ≤ k) (hk8 : k ≤ 8) (hs0 : 0 ≤ s) (hsk : s ≤ k) (sv : Value) (w : World) (hl : Edges w.heap.size w sv l) :
    Calls Try.prog 18 #[.agg #[.int .i64 (N : Int), sv], .int .i64 k, .int .i64 s] w fun r w' => ∃ rv, r = .returned rv ∧ Lsts w'.heap.size w' rv (piecesL N l (staysL D k s)) ∧ Below w.heap.size w w' := by
  obtain ⟨p, c, rfl⟩ := hl.len
  have hn1 := hR.n1
  obtain ⟨w1, hw1⟩ : ∃ W, (w.alloc (.cells #[.int .i64 (N : Int), .slice p l.length c] 24)) = W := ⟨_, rfl⟩
  have hb1 : Below w.heap.size w w1 := by rw [← hw1]; exact (Below.refl _ _).alloc (Nat.le_refl _) _
  have hX1 : Blk 24 w1 w.heap.size [.int .i64 (N : Int), .slice p l.length c] := by rw [← hw1]; exact heap_alloc_new w _
  have x0 := hX1.cell (j := 0) rfl
  have x1 := hX1.cell (j := 1) rfl
  have hkp := refKept_any N l hR D hD k s hk1 hk8 hs0 hsk _ w1 (hl.go hb1)
  go_enter Try.func18, Try.ntmps18
  go_wp2_with fail
  refine hkp.mono ?_
  clear hkp x0 x1
  rintro e w2 ⟨gk, rfl, hgk, hB2, hb2⟩
  have hX2 := hX1.go hb2
  have x0 := hX2.cell (j := 0) rfl
  have x1 := hX2.cell (j := 1) rfl
  have hdl : (staysL D k s).length = N := by rw [staysL_len, hD.len]
  have hbw2 : Below w.heap.size w w2 := hb1.trans (hb2.mono hb1.size)
  have hK : Bools w2.heap.size w2 (.slice (some ⟨gk, 0, none⟩) N N) (staysL D k s) := by
    have := hB2.bools
    rwa [hdl] at this
  have hon := refOnly_any (N : Int) l hR (staysL D k s) (.slice p l.length c) (.slice (some ⟨gk, 0, none⟩) N N) w2 (hl.go hbw2) hK
  go_wp2_with fail
  refine hon.mono ?_
  clear hon x0 x1
  rintro e w3 ⟨gv, rfl, hE3, hb3⟩
  have hR' := keep_rightL hR (onlyP l (staysL D k s))
  have hco := refComponents_any N _ hR' gv w3 hE3
  have HC : Hid (piecesL N l (staysL D k s) = (rcAt (labAt N (keepL l (onlyP l (staysL D k s)) l.length) N) N N).filter fun x => (staysL D k s).getD (x.headD 0).toNat false) := rfl
  have HH : Hid (∀ x ∈ rcAt (labAt N (keepL l (onlyP l (staysL D k s)) l.length) N) N N, ∃ (h : 0 < x.length) (v : Nat), x[0] = (v : Int) ∧ v < N) := fun x hx => by
    obtain ⟨h1, v, h2, h3, -, -⟩ := rc_head (Nat.le_refl _) x hx
    exact ⟨h1, v, h2, h3⟩
  have hlen5 : (rcAt (labAt N (keepL l (onlyP l (staysL D k s)) l.length) N) N N).length ≤ 4194304 := by
    have := rcAt_len (labAt N (keepL l (onlyP l (staysL D k s)) l.length) N) N N
    omega
  generalize rcAt (labAt N (keepL l (onlyP l (staysL D k s)) l.length) N) N N = CC at *
  obtain ⟨kp, hkpe⟩ : ∃ kp, staysL D k s = kp := ⟨_, rfl⟩
  have HKE : Hid (staysL D k s = kp) := hkpe
  rw [hkpe] at hdl hK HC
  clear hkpe
  go_wp2_with fail
  refine hco.mono ?_
  clear hco
  rintro e w5 ⟨lv, svs, h0, rfl, hG, hb5⟩
  have hL5 := hG.lsts
  obtain ⟨cp, cc, rfl⟩ := hL5.len
  have HK5 : Hid (Bools w2.heap.size w5 (.slice (some ⟨gk, 0, none⟩) N N) kp) := hK.below (hb3.trans (hb5.mono hb3.size))
  have HL5 : Hid (Lsts w5.heap.size w5 (.slice cp CC.length cc) CC) := hL5
  have HW5 : Hid (Below w.heap.size w w5) := hbw2.trans ((hb3.trans (hb5.mono hb3.size)).mono hbw2.size)
  have hz5 : w2.heap.size ≤ w5.heap.size := Nat.le_trans hb3.size hb5.size
  obtain ⟨j0, kj, kz0, kz1, kz2⟩ := info_parts infoSl
  obtain ⟨F, HF⟩ : ∃ F : Nat → List (List Int), Hid (∀ j, F j = (CC.take j).filter fun x => kp.getD (x.headD 0).toNat false) := ⟨_, fun _ => rfl⟩
  clear hG hL5 hE3 hb3 hb5 hK hbw2 hB2 hX2 hX1 hb1 hb2 hw1 hR'
  go_wp2
  go_loopw [9, 10] (fun ov iv wr => ∃ (j : Nat) (ss : List Value), j ≤ CC.length ∧ iv = .int .i64 (j : Int) ∧ ss.length ≤ j ∧ wr.ownsRow w5.heap.size 27 1 ov ss.length ss ∧ Hid (LstV w5.heap.size wr ss (F j)) ∧ Below w5.heap.size w5 wr) (fun _ iv _ => CC.length - (intOf iv).toNat)
  case atStart => exact ⟨0, [], Nat.zero_le _, rfl, Nat.le_refl _, World.ownsRow_nil _ _ _ _, ⟨by rw [HF.out]; simp, fun j sx x h => by simp at h⟩, Below.refl _ _⟩
  case round =>
    obtain ⟨j, ss, hj, rfl, hss, hO, HV, hb⟩ := hrel
    obtain ⟨al, cl, rfl⟩ := owns_formP hO
    by_cases hlt : j < CC.length
    · have hjl : (j : Int) < (CC.length : Int) := by omega
      obtain ⟨b, off, rfl, hbb, hcap, px, cx, hIx, c0⟩ := Lsts.cellAt HL5.out hlt
      replace c0 := (hb.cell (p := ⟨b, off + j, none⟩) hbb).trans c0
      obtain ⟨hx0, v, hxv, hvN⟩ := HH.out CC[j] (List.getElem_mem hlt)
      have HFN : Hid (F (j + 1) = if kp.getD v false = true then F j ++ [CC[j]] else F j) := by
        show _ = _
        rw [HF.out, HF.out, List.take_add_one, List.getElem?_eq_getElem hlt, List.filter_append]
        simp only [Option.toList_some, List.filter_cons, List.filter_nil, headD_of hx0 hxv, Int.toNat_natCast]
        split <;> simp
      have HIX : Hid (Ints w5.heap.size wr (.slice px CC[j].length cx) CC[j]) := hIx.below hb
      obtain ⟨bx, ox, rfl, hbx, hcx, hqx⟩ := hIx.open hx0
      have c1 := hqx wr hb 0 hx0
      rw [hxv, Nat.add_zero] at c1
      have hK5 : Bools w2.heap.size w5 (.slice (some ⟨gk, 0, none⟩) kp.length N) kp := by rw [hdl]; exact HK5.out
      obtain ⟨bk, ok, hbk, -, -, hqk⟩ := hK5.open (j := v) (by omega)
      cases hbk
      have c2 := hqk wr (hb.mono hz5) v (by omega)
      rw [show kp[v]'(by omega) = kp.getD v false by simp [show v < kp.length by omega], Nat.zero_add] at c2
      have hvl : (v : Int) < (N : Int) := by omega
      have hxl : (0 : Int) < (CC[j].length : Int) := by omega
      have hj4 : j < 4194304 := by omega
      clear hIx hqx hqk hK5 hxv hx0
      generalize CC[j] = cj at *
      generalize cj.length = xl at *
      have HJ : Hid (j < CC.length) := hlt
      cases hkv : kp.getD v false with
      | true =>
        rw [hkv] at c2
        have HF2 : Hid (F (j + 1) = F j ++ [cj]) := by rw [Hid, HFN.out, if_pos hkv]
        have hOA := World.ownsRow.alloc hO (.cells #[.slice (some ⟨bx, ox, none⟩) xl cx] 27)
        have hnews := one_cell wr (.slice (some ⟨bx, ox, none⟩) xl cx) 27
        have hone : ∀ z ∈ [Value.slice (some ⟨bx, ox, none⟩) xl cx], z.oneCell' = true := by intro z hz; rw [List.mem_singleton.1 hz]; rfl
        have hmx : ss.length + 1 ≤ maxLen := by unfold maxLen; omega
        have hby : (ss.length + 1) * 24 ≤ 140737488355328 := by omega
        have hbs : w5.heap.size ≤ (wr.alloc (.cells #[.slice (some ⟨bx, ox, none⟩) xl cx] 27)).heap.size := by have := hb.size; simp; omega
        have hlow : ∀ q, (Value.slice al ss.length cl).ownBlock = some q → w5.heap.size ≤ q := fun q hq => (hO.lt q hq).1
        have hbA : Below w5.heap.size wr (wr.alloc (.cells #[.slice (some ⟨bx, ox, none⟩) xl cx] 27)) := (Below.refl _ _).alloc hb.size _
        clear hkv HFN hlt
        go_wp2_with (at_builtin; refine wpList_append_own_at _ rfl _ _ 38 rfl w5.heap.size 27 j0 (.slice none 0 0) 1 24 Try.underlying38 kj kz0 kz1 kz2 rfl (by decide) (.slice al ss.length cl) _ _ rfl hOA ⟨wr.heap.size, 0, none⟩ 1 1 [.slice (some ⟨bx, ox, none⟩) xl cx] rfl rfl hnews hone hmx hby hbs ?_)
        intro v6 w6 hown6 hg6 hnil6 hat6
        obtain ⟨a6, c6, rfl⟩ := owns_formP hown6
        have hb6 : Below w5.heap.size wr w6 := hbA.grown hg6 hbs hlow
        have HV6 : Hid (LstV w5.heap.size w6 (ss ++ [.slice (some ⟨bx, ox, none⟩) xl cx]) (F (j + 1))) := by
          rw [HF2.out]
          exact (HV.out.below hb6).snoc (HIX.out.below hb6)
        have HO6 : Hid (w6.ownsRow w5.heap.size 27 1 (.slice a6 (ss.length + 1) c6) (ss ++ [Value.slice (some ⟨bx, ox, none⟩) xl cx]).length (ss ++ [Value.slice (some ⟨bx, ox, none⟩) xl cx])) := by
          rw [Hid, List.length_append]
          exact hown6
        have HB6 : Hid (Below w5.heap.size w5 w6) := hb.trans (hb6.mono (Nat.le_refl _))
        clear hown6 hg6 hnil6 hat6 hOA hnews hone hbA hb6 hb hO c0 c1 c2 HV HIX
        go_wp2
        exact ⟨⟨j + 1, _, HJ.out, by go_num, by rw [List.length_append, List.length_singleton]; omega, HO6.out, HV6, HB6.out⟩, by have := HJ.out; simp [intOf]; omega⟩
      | false =>
        rw [hkv] at c2
        have HF2 : Hid (LstV w5.heap.size wr ss (F (j + 1))) := by
          rw [Hid, HFN.out, if_neg (by rw [hkv]; simp)]
          exact HV.out
        clear hkv HFN hlt HV
        go_wp2
        exact ⟨⟨j + 1, ss, HJ.out, by go_num, by omega, hO, HF2, hb⟩, by have := HJ.out; simp [intOf]; omega⟩
    · obtain rfl : j = CC.length := by omega
      have hjl : ¬ (CC.length : Int) < (CC.length : Int) := by omega
      go_wp2
      go_ret
      refine ⟨_, rfl, ?_, HW5.out.trans (hb.mono HW5.out.size)⟩
      rw [HKE.out, HC.out]
      have h1 := HV.out.lsts hO hb.size
      rw [HF.out, List.take_length] at h1
      exact h1
end Go.Proofs.Ytdgecflljgnobaa
