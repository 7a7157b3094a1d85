/-
  The contract of natural.divideByLimb.
-/
import Derived.Test.YtkalknmindgljaaDoorTrimB
namespace Go.Proofs.YtkalknmindgljaaDoor
open Go Go.Proofs Go.RowKit Go.Shelf

attribute [local go_sem] Oper.semAt_some

/-- One round of divideByLimb: the rest, and what has been written. -/
def dblStep (a : List Int) (d : Int) (st : Int × List Int) (x : Nat) : Int × List Int := ((st.1 * 4294967296 + nth a x) % d, st.2.set x ((st.1 * 4294967296 + nth a x) / d))
def dblState (a : List Int) (d : Int) (pre : List (Fin a.length)) : Int × List Int := pre.foldl (fun st x => dblStep a d st x.1) (0, List.replicate a.length 0)
theorem dblState_snoc (a : List Int) (d : Int) (pre : List (Fin a.length)) (x : Fin a.length) : dblState a d (pre ++ [x]) = dblStep a d (dblState a d pre) x.1 := by simp [dblState]
theorem dbl_digit {d r x : Int} (hd : 0 < d) (hr : 0 ≤ r ∧ r < d) (hx : 0 ≤ x ∧ x < 4294967296) : 0 ≤ (r * 4294967296 + x) / d ∧ (r * 4294967296 + x) / d < 4294967296 := by
  refine ⟨Int.ediv_nonneg (by omega) (by omega), Int.ediv_lt_of_lt_mul hd ?_⟩
  have : r * 4294967296 ≤ (d - 1) * 4294967296 := Int.mul_le_mul_of_nonneg_right (by omega) (by omega)
  omega
theorem dblState_ok {a : List Int} (da : Dig a) {d : Int} (hd : 0 < d) (pre : List (Fin a.length)) : (0 ≤ (dblState a d pre).1 ∧ (dblState a d pre).1 < d) ∧ (dblState a d pre).2.length = a.length ∧ Dig (dblState a d pre).2 := by
  unfold dblState
  generalize hst : ((0 : Int), List.replicate a.length (0 : Int)) = st
  have h0 : (0 ≤ st.1 ∧ st.1 < d) ∧ st.2.length = a.length ∧ Dig st.2 := by rw [← hst]; exact ⟨by simpa using hd, by simp, Dig.replicate _⟩
  clear hst
  induction pre generalizing st with
  | nil => exact h0
  | cons x r ih =>
    refine ih _ ⟨⟨Int.emod_nonneg _ (by omega), Int.emod_lt_of_pos _ hd⟩, by simp [dblStep, h0.2.1], ?_⟩
    exact h0.2.2.set _ (dbl_digit hd h0.1 (da.get _))
/-- The value of the limbs from place i on. -/
def Hi (x : List Int) (i : Nat) : Int := val (x.drop i)
theorem Hi_succ (x : List Int) (i : Nat) (h : i < x.length) : Hi x i = nth x i + 4294967296 * Hi x (i + 1) := by
  unfold Hi
  rw [List.drop_eq_getElem_cons h, val, ← nth_lt h]
theorem Hi_end (x : List Int) (i : Nat) (h : x.length ≤ i) : Hi x i = 0 := by unfold Hi; rw [List.drop_of_length_le h]; rfl
theorem Hi_set (x : List Int) (i j : Nat) (v : Int) (h : i < j) : Hi (x.set i v) j = Hi x j := by unfold Hi; rw [List.drop_set_of_lt h]
theorem dblState_take {a : List Int} (da : Dig a) {d : Int} (hd : 0 < d) (k : Nat) (hk : k ≤ a.length) : Hi a (a.length - k) = d * Hi (dblState a d ((downs a.length).take k)).2 (a.length - k) + (dblState a d ((downs a.length).take k)).1 := by
  induction k with
  | zero =>
    rw [Nat.sub_zero, Hi_end _ _ (Nat.le_refl _), Hi_end _ _ (by rw [(dblState_ok da hd _).2.1]; exact Nat.le_refl _)]
    simp [dblState]
  | succ k ih =>
    have hk' : k < a.length := by omega
    have h1 := ih (by omega)
    rw [downs_take_succ hk', dblState_snoc]
    have hok := dblState_ok da hd ((downs a.length).take k)
    clear ih
    generalize dblState a d ((downs a.length).take k) = st at *
    have e : a.length - (k + 1) = a.length - 1 - k := by omega
    have e2 : a.length - 1 - k + 1 = a.length - k := by omega
    simp only [dblStep]
    rw [e, Hi_succ a _ (by omega), Hi_succ (List.set _ _ _) _ (by rw [List.length_set, hok.2.1]; omega), nth_set_eq (by rw [hok.2.1]; omega), Hi_set _ _ _ _ (by omega), e2, h1]
    have hx := Int.mul_ediv_add_emod (st.1 * 4294967296 + nth a (a.length - 1 - k)) d
    generalize (st.1 * 4294967296 + nth a (a.length - 1 - k)) / d = q at *
    generalize (st.1 * 4294967296 + nth a (a.length - 1 - k)) % d = r at *
    grind
theorem dblState_val {a : List Int} (da : Dig a) {d : Int} (hd : 0 < d) : val (dblState a d (downs a.length)).2 = val a / d ∧ (dblState a d (downs a.length)).1 = val a % d := by
  have h := dblState_take da hd a.length (Nat.le_refl _)
  have hok := dblState_ok da hd (downs a.length)
  rw [downs_all, Nat.sub_self] at h
  have h2 : val a = (dblState a d (downs a.length)).1 + d * val (dblState a d (downs a.length)).2 := by simpa [Hi, Int.add_comm] using h
  rw [h2]
  refine ⟨?_, ?_⟩
  · rw [Int.add_mul_ediv_left _ _ (by omega), Int.ediv_eq_zero_of_lt hok.1.1 hok.1.2]; omega
  · rw [Int.add_mul_emod_self_left, Int.emod_eq_of_lt hok.1.1 hok.1.2]

set_option maxRecDepth 100000 in
set_option maxHeartbeats 8000000 in
theorem divideByLimb_any {a : List Int} {w : World} {sa : Value} {d : Int} (hA : U32 w sa a) (da : Dig a) (ha : a.length ≤ 1073741824) (hd : 0 < d ∧ d < 4294967296) :
    Calls Tryd.prog 45 #[sa, .int .u32 d] w fun e w' => ∃ sq sr, e = .returned (.tuple #[sq, sr]) ∧ U32 w' sq (num (val a / d)) ∧ U32 w' sr (num (val a % d)) ∧ Below w.heap.size w w' := by
  obtain ⟨i0, hi, hz0, hz1, hz2⟩ := info_parts info42
  obtain ⟨pa, ca, rfl⟩ := hA.len
  refine (callsIn_wide (n := 4)).1 ?_
  refine callsIn_of_wp_N Tryd.func45 rfl trivial ?_ rfl
  simp only [Tryd.ntmps45, List.size_toArray, List.length_cons, List.length_nil, Nat.reduceAdd, Nat.reduceSub, Array.replicate_succ, Array.replicate_zero, List.push_toArray, List.append_toArray, List.nil_append, List.cons_append]
  have hBy0 := (Boxed.new w 42 (.int .u32 d)).alloc (.cells #[.slice none 0 0] 23)
  have hQ0 := Boxed.new (w.alloc (.cells #[.int .u32 d] 42)) 23 (.slice none 0 0)
  rw [World.size_alloc] at hQ0
  gi_wp2_with (first | (gi_at_make; refine wpListIn_make_row _ rfl _ _ 23 rfl 42 i0 .u32 Tryd.underlying23 hi hz0 hz1 .i64 .i64 _ _ a.length rfl rfl rfl rfl (by rw [hz2]; omega) (by unfold maxLen; omega) ?_; intro w2 hrow hb2; have hqc := (hb2.block (w.heap.size + 1) (by simp)).trans hQ0; have hq1 := Boxed.cell hqc; have hq2 := Boxed.frozen hqc) | (refine ⟨trivial, ?_⟩; gi_at_call 34; refine (back_in Fence.wide _ trivial rfl _ _ _ _).mono ?_; rintro e w' ⟨rfl, rfl⟩))
  have hsa : ((w.alloc (.cells #[.int .u32 d] 42)).alloc (.cells #[.slice none 0 0] 23)).heap.size = w.heap.size + 1 + 1 := by simp
  rw [hsa] at hrow hb2
  have hb1 : Below w.heap.size w w2 := (((Below.refl _ _).alloc (Nat.le_refl _) _).alloc (by simp) _).trans (hb2.mono (by omega))
  have hBy2 : Boxed w2 w.heap.size 42 (.int .u32 d) := (hb2.block _ (by omega)).trans hBy0
  obtain ⟨S, hS⟩ : ∃ S, S = w2.heap.size := ⟨_, rfl⟩
  have hsz : w.heap.size + 1 + 1 < S := by have := hrow.lt; omega
  obtain ⟨w3, hw3⟩ : ∃ w3, w2.setCell ⟨w.heap.size + 1, 0, none⟩ (.slice (some ⟨w.heap.size + 1 + 1, 0, none⟩) a.length a.length) = w3 := ⟨_, rfl⟩
  have hs3 : w3.heap.size = S := by rw [← hw3, hS]; simp
  have hB3 : Below w.heap.size w w3 := by rw [← hw3]; exact hb1.setCell (p := ⟨w.heap.size + 1, 0, none⟩) (by simp) _
  have hQ3 : Boxed w3 (w.heap.size + 1) 23 (.slice (some ⟨w.heap.size + 1 + 1, 0, none⟩) a.length a.length) := by rw [← hw3]; exact Boxed.set _ hqc
  have hBy3 : Boxed w3 w.heap.size 42 (.int .u32 d) := by rw [← hw3]; exact (Below.heap_setCell _ _ _ _ (by simp)).trans hBy2
  have hrow3 : Row .u32 42 w3 (w.heap.size + 1 + 1) (List.replicate a.length 0) := by rw [← hw3]; exact hrow.other (by simp) _
  rw [hw3, ← hS]
  clear hw3 hQ0 hBy0 hqc hq1 hq2 hrow hb2 hb1 hBy2
  have bA := Boxed.new w3 22 (.int .u64 0)
  have bN := Boxed.new (w3.alloc (.cells #[.int .u64 0] 22)) 23 (.slice pa a.length ca)
  obtain ⟨W0, hW0⟩ : ∃ W0, (w3.alloc (.cells #[.int .u64 0] 22)).alloc (.cells #[.slice pa a.length ca] 23) = W0 := ⟨_, rfl⟩
  have hB0 : Below w3.heap.size w3 W0 := by rw [← hW0]; exact ((Below.refl _ _).alloc (Nat.le_refl _) _).alloc (by simp) _
  have bA' : Boxed W0 S 22 (.int .u64 0) := by rw [hs3] at bA; rw [← hW0]; exact bA.alloc _
  have bN' : Boxed W0 (S + 1) 23 (.slice pa a.length ca) := by rw [World.size_alloc, hs3] at bN; rw [← hW0]; exact bN
  have hsW : W0.heap.size = S + 1 + 1 := by rw [← hW0]; simp [hs3]
  have hrow0 : Row .u32 42 W0 (w.heap.size + 1 + 1) (List.replicate a.length 0) := hrow3.below hB0 (by omega)
  have hBy : Boxed W0 w.heap.size 42 (.int .u32 d) := (hB0.block _ (by omega)).trans hBy3
  have hQ : Boxed W0 (w.heap.size + 1) 23 (.slice (some ⟨w.heap.size + 1 + 1, 0, none⟩) a.length a.length) := (hB0.block _ (by omega)).trans hQ3
  have hbl : Below w.heap.size w W0 := hB3.trans (hB0.mono (by omega))
  have hA0 : U32s w.heap.size W0 (.slice pa a.length ca) a := Seg.below hbl hA
  rw [hW0]
  have hsW1 : S + 1 < W0.heap.size := by omega
  clear hW0 bA bN hB0 hS hsW hs3 hB3 hQ3 hBy3 hrow3
  have hblk := hA.block
  have hmx : Tryd.prog.follows .mixedOrders = true := by kernel_rfl
  refine wpIn_rangeFunc_ownG rfl (by omega) (gf := 58) (lb := #[.pointer (some ⟨S + 1, 0, none⟩)]) rfl trivial (enters_of Tryd.func58 (by kernel_rfl) rfl)
    (back_stops Fence.wide _ trivial rfl (by omega) (S + 1) w.heap.size _ a (by omega) _ (by omega) (by omega) bN'.cell hA0) keepS_t (keepS_b (fun a' m k e => by have := hblk a' m k e; omega) (by omega)) (Below.refl _ _) (fun _ => rfl)
    (fun pre W => (Boxed W w.heap.size 42 (.int .u32 d) ∧ Boxed W (w.heap.size + 1) 23 (.slice (some ⟨w.heap.size + 1 + 1, 0, none⟩) a.length a.length) ∧ Boxed W S 22 (.int .u64 (dblState a d pre).1) ∧ Row .u32 42 W (w.heap.size + 1 + 1) (dblState a d pre).2) ∧ Below w.heap.size w W)
    (fun _ _ _ => False)
    (OwnFrom.and (Own.from (fun s A B row hs hg hr => ⟨block_kept hs.1 hg hr, block_kept hs.2.1 hg hr, block_kept hs.2.2.1 hg hr, block_kept hs.2.2.2 hg hr⟩) _) (ownFrom_below (Nat.le_refl _) (by omega)))
    (fun _ _ _ _ _ hs _ _ => hs)
    ⟨⟨hBy, hQ, bA', hrow0⟩, hbl⟩
    (fun z => { tmps := #[.slice pa a.length ca, .int .u32 d, undef, .pointer (some ⟨w.heap.size, 0, none⟩), .pointer (some ⟨w.heap.size + 1, 0, none⟩), .slice none 0 0, .pointer (some ⟨S, 0, none⟩), .int .i64 (z.1 : Int), .int .u32 (nth a z.1), .slice pa a.length ca, .int .i64 a.length, .slice (some ⟨w.heap.size + 1 + 1, 0, none⟩) a.length a.length, .slice pa a.length ca, .func (.func 58) #[] #[.pointer (some ⟨S + 1, 0, none⟩)], .int .i64 (z.1 : Int), .int .u32 (nth a z.1), undef, undef, undef, undef, undef, undef, undef, undef, undef, undef, undef, undef, undef, undef, undef, undef, undef, undef, undef, undef, undef], defers := [] }) ?assign ?body ?done ?stop
  case assign =>
    intro l z W K hK
    gi_wp2
    exact hK
  case body =>
    rintro l pre z W ⟨⟨h1, h2, h3, h4⟩, hB2⟩ _
    obtain ⟨z, hz⟩ := z
    dsimp only at *
    obtain ⟨hst1, hst2, hst3⟩ := dblState_ok da hd.1 pre
    have hga := da.get z
    have HS : Hid (dblState a d (pre ++ [⟨z, hz⟩]) = dblStep a d (dblState a d pre) z) := dblState_snoc a d pre ⟨z, hz⟩
    generalize dblState a d pre = st at *
    have hor := or_limbs st.1 (nth a z) (by omega) hga
    have hdig := dbl_digit hd.1 hst1 hga
    have hd1 : ¬ d = 0 := by omega
    have hw1 := IntWalk.u64_in d ⟨by omega, by omega⟩
    have hw4 := IntWalk.u32_in ((st.1 * 4294967296 + nth a z) / d) ⟨by omega, by omega⟩
    have hw2 := IntWalk.u64_quo (st.1 * 4294967296 + nth a z) d ⟨by omega, by omega, by omega⟩
    have hr1 := Int.emod_nonneg (st.1 * 4294967296 + nth a z) (show d ≠ 0 by omega)
    have hr2 := Int.emod_lt_of_pos (st.1 * 4294967296 + nth a z) hd.1
    have c1 := h1.cell
    have c2 := h2.cell
    have c3 := h3.cell
    have f3 := h3.frozen
    have c4 := h4.cell (j := z) (by omega)
    have f4 := h4.frozen z
    have HL : Hid (st.2.length = a.length) := hst2
    clear hst2
    gi_wp2
    refine wpIn_mono (Q := fun e a' W' => match e with
      | .normal => ∃ u21 u22 u23 u24 u25 u26 u27 u28 v, a' = { tmps := #[.slice pa a.length ca, .int .u32 d, undef, .pointer (some ⟨w.heap.size, 0, none⟩), .pointer (some ⟨w.heap.size + 1, 0, none⟩), .slice none 0 0, .pointer (some ⟨S, 0, none⟩), .int .i64 (z : Int), .int .u32 (nth a z), .slice pa a.length ca, .int .i64 a.length, .slice (some ⟨w.heap.size + 1 + 1, 0, none⟩) a.length a.length, .slice pa a.length ca, .func (.func 58) #[] #[.pointer (some ⟨S + 1, 0, none⟩)], .int .i64 (z : Int), .int .u32 (nth a z), .int .u64 st.1, .int .u64 (st.1 * 4294967296), .int .u32 (nth a z), .int .u64 (nth a z), .int .u64 (st.1 * 4294967296 + nth a z), u21, u22, u23, u24, u25, u26, u27, u28, undef, undef, undef, undef, undef, undef, undef, undef], defers := [] } ∧ W' = ((W.setCell ⟨S, 0, none⟩ (.int .u64 (st.1 * 4294967296 + nth a z))).setCell ⟨w.heap.size + 1 + 1, z, none⟩ (.int .u32 v)).drew ∧ v = (st.1 * 4294967296 + nth a z) / d
      | _ => False) ?reg ?rest
    case reg =>
      gi_region_with_o (fail)
      all_goals first | exact ⟨_, _, _, _, _, _, _, _, _, rfl, rfl, rfl⟩ | exact ⟨_, _, _, _, _, _, _, _, _, rfl, rfl, hw4⟩
    case rest =>
      rintro e a' W' h
      cases e with
      | normal =>
        obtain ⟨u21, u22, u23, u24, u25, u26, u27, u28, v, rfl, rfl, rfl⟩ := h
        gi_wp2
        refine ⟨(((KeepsOthers.setCell _ _ _).trans ((KeepsOthers.setCell _ _ _).trans (KeepsOthers.setCell _ _ _))).trans (KeepsOthers.drew _)).from _, (((KeepS.refl _ _ W).setCell (p := ⟨S, 0, none⟩) (fun a' m k e => by have := hblk a' m k e; simp; omega) (by simp) _).setCell (p := ⟨w.heap.size + 1 + 1, z, none⟩) (fun a' m k e => by have := hblk a' m k e; simp; omega) (by simp; omega) _).setCell (p := ⟨S, 0, none⟩) (fun a' m k e => by have := hblk a' m k e; simp; omega) (by simp) _, ⟨?_, ?_, ?_, ?_⟩, (((hB2.setCell (p := ⟨S, 0, none⟩) (by simp; omega) _).setCell (p := ⟨w.heap.size + 1 + 1, z, none⟩) (by simp; omega) _).setCell (p := ⟨S, 0, none⟩) (by simp; omega) _).drew⟩
        · exact (Below.heap_setCell _ ⟨S, 0, none⟩ _ _ (by simp; omega)).trans ((Below.heap_setCell _ ⟨w.heap.size + 1 + 1, z, none⟩ _ _ (by simp; omega)).trans ((Below.heap_setCell _ ⟨S, 0, none⟩ _ _ (by simp; omega)).trans h1))
        · exact (Below.heap_setCell _ ⟨S, 0, none⟩ _ _ (by simp; omega)).trans ((Below.heap_setCell _ ⟨w.heap.size + 1 + 1, z, none⟩ _ _ (by simp)).trans ((Below.heap_setCell _ ⟨S, 0, none⟩ _ _ (by simp; omega)).trans h2))
        · rw [HS.out]
          exact Boxed.set _ ((Below.heap_setCell _ ⟨w.heap.size + 1 + 1, z, none⟩ _ _ (by simp; omega)).trans (Boxed.set _ h3))
        · rw [HS.out]
          exact (Below.heap_setCell _ ⟨S, 0, none⟩ _ _ (by simp; omega)).trans (Row.set ((Below.heap_setCell _ ⟨S, 0, none⟩ _ _ (by simp; omega)).trans h4) z _)
      | _ => exact h.elim
  case done =>
    rintro D ys W hD rfl ⟨⟨h1, h2, h3, h4⟩, hB2⟩ hK
    obtain ⟨hst1, hst2, hst3⟩ := dblState_ok da hd.1 (downs a.length)
    obtain ⟨hv1, hv2⟩ := dblState_val da hd.1
    have c2 := h2.cell
    have f2 := h2.frozen
    have c3 := h3.cell
    have hvr : val a % d < 4294967296 := by omega
    have hQv : trimL (dblState a d (downs a.length)).2 = num (val a / d) := by rw [trimL_num hst3, hv1]
    have hRv : trimL [(val a % d) % 4294967296, (val a % d) / 4294967296] = num (val a % d) := by
      have hd2 : Dig [(val a % d) % 4294967296, (val a % d) / 4294967296] := by
        intro z hz
        simp at hz
        rcases hz with rfl | rfl <;> omega
      rw [trimL_num hd2]
      congr 1
      simp only [val]
      omega
    have hlW : (dblState a d (downs a.length)).2.length ≤ 1073741824 := by omega
    have hsg := h4.seg
    have HQ : Hid (trimL (dblState a d (downs a.length)).2 = num (val a / d)) := hQv
    have HR : Hid (trimL [(val a % d) % 4294967296, (val a % d) / 4294967296] = num (val a % d)) := hRv
    rw [hst2] at hsg
    rw [hv2] at c3 hst1
    clear hv1 hv2 hst2 hQv hRv
    generalize (dblState a d (downs a.length)).2 = zs at *
    generalize (dblState a d (downs a.length)).1 = rr at *
    have hDl : D < W.heap.size := (Array.getElem?_eq_some_iff.1 hK).1
    have hst : ∀ X, Below W.heap.size W X → Below w.heap.size w X ∧ X.cell? ⟨w.heap.size + 1, 0, none⟩ = some (.slice (some ⟨w.heap.size + 1 + 1, 0, none⟩) a.length a.length) ∧ X.frozen? ⟨w.heap.size + 1, 0, none⟩ = false ∧ X.cell? ⟨S, 0, none⟩ = some (.int .u64 (val a % d)) ∧ U32s W.heap.size X (.slice (some ⟨w.heap.size + 1 + 1, 0, none⟩) a.length a.length) zs ∧ W.heap.size ≤ X.heap.size := fun X h =>
      ⟨hB2.trans (h.mono hB2.size), (h.cell (p := ⟨w.heap.size + 1, 0, none⟩) h2.lt).trans c2, (h.frozen (p := ⟨w.heap.size + 1, 0, none⟩) h2.lt).trans f2, (h.cell (p := ⟨S, 0, none⟩) h3.lt).trans c3, Seg.below h hsg, h.size⟩
    have hX1 : Below W.heap.size W W.drew := (Below.refl _ _).drew
    obtain ⟨hx1, hx2, hx3, hx4, hx5, hx6⟩ := hst _ hX1
    gi_wp2
    refine wpIn_mono (Q := fun e a' W' => match e with
      | .normal => ∃ sq sr, a' = { tmps := #[.slice pa a.length ca, .int .u32 d, undef, .pointer (some ⟨w.heap.size, 0, none⟩), .pointer (some ⟨w.heap.size + 1, 0, none⟩), sr, .pointer (some ⟨S, 0, none⟩), undef, undef, .slice pa a.length ca, .int .i64 a.length, .slice (some ⟨w.heap.size + 1 + 1, 0, none⟩) a.length a.length, .slice pa a.length ca, .func (.func 58) #[] #[.pointer (some ⟨S + 1, 0, none⟩)], undef, undef, undef, undef, undef, undef, undef, undef, undef, undef, undef, undef, undef, undef, undef, undef, undef, undef, undef, .slice (some ⟨w.heap.size + 1 + 1, 0, none⟩) a.length a.length, sq, .int .u64 (val a % d), sr], defers := [{ target := .collected D, args := #[] }] } ∧
          U32 W' sq (num (val a / d)) ∧ U32 W' sr (num (val a % d)) ∧ W'.cell? ⟨w.heap.size + 1, 0, none⟩ = some sq ∧ W'.heap[D]? = some (.deferred (some [])) ∧ Below w.heap.size w W'
      | _ => False) ?reg ?rest
    case reg =>
      gi_region_with_o (first | (refine ⟨trivial, ?_⟩; gi_at_call 32; refine (callsIn_wide.2 (trim2_at (n₀ := W.heap.size) (by assumption) hlW (by assumption))).mono ?_; rintro e w1 ⟨sv, rfl, hs, hbw, hblk2⟩; obtain ⟨px, cx, rfl⟩ := hs.len; have hX : Below W.heap.size W w1 := Below.trans (by assumption) (hbw.mono (by assumption)); obtain ⟨hx1, hx2, hx3, hx4, hx5, hx6⟩ := hst _ hX) | (refine ⟨trivial, ?_⟩; gi_at_call 12; refine (callsIn_wide.2 (of2_any _ (by omega) _)).mono ?_; rintro e w1 ⟨sv, rfl, hs, hbw, hnew⟩; obtain ⟨px, cx, rfl⟩ := hs.len; have hX : Below W.heap.size W w1 := Below.trans (by assumption) (hbw.mono (by assumption)); obtain ⟨hx1, hx2, hx3, hx4, hx5, hx6⟩ := hst _ hX))
      all_goals
        rename_i w0 hbw0 px0 cx0 hs0 hX0 hx10 hx20 hx30 hx40 hx50 hx60
        refine ⟨_, _, rfl, ?_, ?_, World.cell?_setCell_same' _ _ _ (by rw [hx2]; rfl), ?_, hx1.setCell (p := ⟨w.heap.size + 1, 0, none⟩) (by simp) _⟩
        · rw [← HQ.out]
          exact ((Seg.below (hbw.mono hx60) hs0).setCell (fun x m k e => by obtain ⟨y, _, _, e', ey⟩ := hblk2 x m k e; cases e'; rw [← ey]; simp) _).up (by simp; omega)
        · rw [← HR.out]
          exact (hs.setCell (fun x m k e => by have := hnew x m k e; have := hx20; simp; omega) _).up (by simp)
        · exact (Below.heap_setCell _ _ _ _ (by simp; omega)).trans ((hX.block D hDl).trans hK)
    case rest =>
      rintro e a' W' h
      cases e with
      | normal =>
        obtain ⟨sq, sr, rfl, hq, hr, hc, hDD, hbb⟩ := h
        gi_wp2
        refine ⟨by simp, .inl ⟨_, _, rfl, run_takeDeferred hDD, ?_⟩⟩
        have hc5 := cell_kept hc (grownBy_putObj' _ D (.deferred none)) (fun r e => by cases e; exact ⟨_, hDD, rfl⟩)
        have hbK := belowK_b (w := w) (Nat.le_refl _) W' D _ (.deferred none) (by omega) hDD rfl rfl
        have hkp : ∀ {sv : Value} {zs : List Int}, U32 W' sv zs → U32 (W'.putObj D (.deferred none)) sv zs := fun {sv zs} h => by
          rcases h with h | ⟨b, off, cap, e, hb, hl, hcs⟩
          · exact .inl h
          · exact .inr ⟨b, off, cap, e, Nat.lt_of_lt_of_le hb (grownBy_putObj' W' D (.deferred none)).size, hl, fun j hj => cell_kept (hcs j hj) (grownBy_putObj' _ D (.deferred none)) (fun r e => by cases e; exact ⟨_, hDD, rfl⟩)⟩
        refine ⟨.tuple #[sq, sr], ?_, sq, sr, rfl, hkp hq, hkp hr, hbb.trans hbK⟩
        simp [results, Tryd.f45, go_sem, hc5]
      | _ => exact h.elim
  case stop =>
    rintro D c pre W _ _ h _
    exact h.elim

end Go.Proofs.YtkalknmindgljaaDoor
