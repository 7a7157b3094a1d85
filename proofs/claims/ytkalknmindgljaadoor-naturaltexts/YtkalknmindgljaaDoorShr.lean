/-
  The contract of natural.shiftRight.
-/
import Derived.Test.YtkalknmindgljaaDoorRangeLib
namespace Go.Proofs.YtkalknmindgljaaDoor
open Go Go.Proofs Go.RowKit Go.Shelf

attribute [local go_sem] Oper.semAt_some

/-- One round of shiftRight: the limb above, and what has been written. -/
def shrStep (a : List Int) (s : Nat) (st : Int × List Int) (x : Nat) : Int × List Int := (nth a x, st.2.set x ((st.1 * 4294967296 + nth a x) / 2 ^ s % 4294967296))
def shrState (a : List Int) (s : Nat) (pre : List (Fin a.length)) : Int × List Int := pre.foldl (fun st x => shrStep a s st x.1) (0, List.replicate a.length 0)

theorem shrState_snoc (a : List Int) (s : Nat) (pre : List (Fin a.length)) (x : Fin a.length) : shrState a s (pre ++ [x]) = shrStep a s (shrState a s pre) x.1 := by simp [shrState]
theorem shrState_ok {a : List Int} (da : Dig a) (s : Nat) (pre : List (Fin a.length)) : (0 ≤ (shrState a s pre).1 ∧ (shrState a s pre).1 < 4294967296) ∧ (shrState a s pre).2.length = a.length ∧ Dig (shrState a s pre).2 := by
  unfold shrState
  generalize hst : ((0 : Int), List.replicate a.length (0 : Int)) = st
  have h0 : (0 ≤ st.1 ∧ st.1 < 4294967296) ∧ st.2.length = a.length ∧ Dig st.2 := by rw [← hst]; exact ⟨by simp, by simp, Dig.replicate _⟩
  clear hst
  induction pre generalizing st with
  | nil => exact h0
  | cons x r ih =>
    refine ih _ ⟨da.get _, by simp [shrStep, h0.2.1], ?_⟩
    exact h0.2.2.set _ ⟨Int.emod_nonneg _ (by omega), Int.emod_lt_of_pos _ (by omega)⟩

theorem shrState_take {a : List Int} (da : Dig a) (s k : Nat) (hk : k ≤ a.length) : (shrState a s ((downs a.length).take k)).1 = nth a (a.length - k) ∧
    ∀ j, a.length - k ≤ j → j < a.length → nth (shrState a s ((downs a.length).take k)).2 j = (nth a (j + 1) * 4294967296 + nth a j) / 2 ^ s % 4294967296 := by
  induction k with
  | zero =>
    refine ⟨?_, fun j h1 h2 => by omega⟩
    rw [nth_ge (by omega)]; rfl
  | succ k ih =>
    obtain ⟨h1, h2⟩ := ih (by omega)
    have hok := shrState_ok da s ((downs a.length).take k)
    rw [downs_take_succ (by omega), shrState_snoc]
    refine ⟨by show nth a (a.length - 1 - k) = _; rw [Nat.sub_sub, Nat.add_comm], fun j h3 h4 => ?_⟩
    show nth (List.set _ (a.length - 1 - k) _) j = _
    by_cases c : j = a.length - 1 - k
    · rw [c, nth_set_eq (by rw [hok.2.1]; omega), h1]
      rw [show a.length - 1 - k + 1 = a.length - k by omega]
    · rw [nth_set_ne (by omega)]; exact h2 j (by omega) h4
theorem shrState_val {a : List Int} (da : Dig a) (s : Nat) (hs : s ≤ 32) : val (shrState a s (downs a.length)).2 = val a / 2 ^ s := by
  have h := (shrState_take da s a.length (Nat.le_refl _)).2
  rw [downs_all] at h
  exact shr_val da (shrState_ok da s _).2.1 s hs (fun j hj => h j (by omega) hj)

set_option maxRecDepth 100000 in
set_option maxHeartbeats 4000000 in
theorem shiftRight2_any {a : List Int} {w : World} {sa : Value} {s : Nat} (hA : U32 w sa a) (da : Dig a) (ha : a.length ≤ 1073741824) (hs : s < 32) :
    Calls Tryd.prog 48 #[sa, .int .i64 s] w fun e w' => ∃ sv r, e = .returned sv ∧ U32 w' sv r ∧ Dig r ∧ r.length = a.length ∧ val r = val a / 2 ^ s ∧ Below w.heap.size w w' ∧ (∀ x m k, sv = .slice (some x) m k → w.heap.size ≤ x.block) := by
  obtain ⟨i0, hi, hz0, hz1, hz2⟩ := info_parts info42
  obtain ⟨pa, ca, rfl⟩ := hA.len
  refine (callsIn_wide (n := 4)).1 ?_
  refine callsIn_of_wp_N Tryd.func48 rfl trivial ?_ rfl
  simp only [Tryd.ntmps48, List.size_toArray, List.length_cons, List.length_nil, Nat.reduceAdd, Nat.reduceSub, Array.replicate_succ, Array.replicate_zero, List.push_toArray, List.append_toArray, List.nil_append, List.cons_append]
  gi_wp2_with (first | (gi_at_make; refine wpListIn_make_row _ rfl _ _ 23 rfl 42 i0 .u32 Tryd.underlying23 hi hz0 hz1 .i64 .i64 _ _ a.length rfl rfl rfl rfl (by rw [hz2]; omega) (by unfold maxLen; omega) ?_; intro w2 hrow hb2) | (refine ⟨trivial, ?_⟩; gi_at_call 34; refine (back_in Fence.wide _ trivial rfl _ _ _ _).mono ?_; rintro e w' ⟨rfl, rfl⟩))
  rw [World.size_alloc] at hrow
  obtain ⟨S, hS⟩ : ∃ S, S = w2.heap.size := ⟨_, rfl⟩
  rw [← hS]
  have hBy0 := Boxed.new w 3 (.int .i64 s)
  have hb1 : Below w.heap.size w w2 := ((Below.refl _ _).alloc (Nat.le_refl _) _).trans (hb2.mono (by simp))
  have hsz : w.heap.size + 1 < S := by have := hrow.lt; omega
  have hBy2 : Boxed w2 w.heap.size 3 (.int .i64 s) := (hb2.block _ (by simp)).trans hBy0
  have bS := Boxed.new w2 23 (.slice (some ⟨w.heap.size + 1, 0, none⟩) a.length a.length)
  have bA := Boxed.new (w2.alloc (.cells #[.slice (some ⟨w.heap.size + 1, 0, none⟩) a.length a.length] 23)) 42 (.int .u32 0)
  have bN := Boxed.new ((w2.alloc (.cells #[.slice (some ⟨w.heap.size + 1, 0, none⟩) a.length a.length] 23)).alloc (.cells #[.int .u32 0] 42)) 23 (.slice pa a.length ca)
  obtain ⟨W0, hW0⟩ : ∃ W0, ((w2.alloc (.cells #[.slice (some ⟨w.heap.size + 1, 0, none⟩) a.length a.length] 23)).alloc (.cells #[.int .u32 0] 42)).alloc (.cells #[.slice pa a.length ca] 23) = W0 := ⟨_, rfl⟩
  have hB0 : Below w2.heap.size w2 W0 := by rw [← hW0]; exact (((Below.refl _ _).alloc (Nat.le_refl _) _).alloc (by simp) _).alloc (by simp; omega) _
  have bS' : Boxed W0 S 23 (.slice (some ⟨w.heap.size + 1, 0, none⟩) a.length a.length) := by rw [← hW0, hS]; exact (bS.alloc _).alloc _
  have bA' : Boxed W0 (S + 1) 42 (.int .u32 0) := by rw [World.size_alloc] at bA; rw [← hW0, hS]; exact bA.alloc _
  have bN' : Boxed W0 (S + 1 + 1) 23 (.slice pa a.length ca) := by rw [World.size_alloc, World.size_alloc] at bN; rw [← hW0, hS]; exact bN
  have hsW : W0.heap.size = S + 1 + 1 + 1 := by rw [← hW0, hS]; simp
  have hrow0 : Row .u32 42 W0 (w.heap.size + 1) (List.replicate a.length 0) := hrow.below hB0 (by omega)
  have hBy : Boxed W0 w.heap.size 3 (.int .i64 s) := (hB0.block _ (by omega)).trans hBy2
  have hbl : Below w.heap.size w W0 := hb1.trans (hB0.mono (by omega))
  have hA0 : U32s w.heap.size W0 (.slice pa a.length ca) a := Seg.below hbl hA
  rw [hW0]
  have hsW1 : S + 1 + 1 < W0.heap.size := by omega
  have hgS : w.heap.size + 1 ≠ S := by omega
  clear hW0 bS bA bN hBy2 hBy0 hrow hb2 hb1 hB0 hS hsW
  have hblk := hA.block
  have hmx : Tryd.prog.follows .mixedOrders = true := by kernel_rfl
  refine wpIn_rangeFunc_ownG rfl (by omega) (gf := 58) (lb := #[.pointer (some ⟨S + 1 + 1, 0, none⟩)]) rfl trivial (enters_of Tryd.func58 (by kernel_rfl) rfl)
    (back_stops Fence.wide _ trivial rfl (by omega) (S + 1 + 1) w.heap.size _ a (by omega) _ (by omega) (by omega) bN'.cell hA0) keepS_t (keepS_b (fun a' m k e => by have := hblk a' m k e; omega) (by omega)) (Below.refl _ _) (fun _ => rfl)
    (fun pre W => (Boxed W w.heap.size 3 (.int .i64 s) ∧ Boxed W S 23 (.slice (some ⟨w.heap.size + 1, 0, none⟩) a.length a.length) ∧ Boxed W (S + 1) 42 (.int .u32 (shrState a s pre).1) ∧ Row .u32 42 W (w.heap.size + 1) (shrState a s pre).2) ∧ Below w.heap.size w W)
    (fun _ _ _ => False)
    (OwnFrom.and (Own.from (fun s A B row hs hg hr => ⟨block_kept hs.1 hg hr, block_kept hs.2.1 hg hr, block_kept hs.2.2.1 hg hr, block_kept hs.2.2.2 hg hr⟩) _) (ownFrom_below (Nat.le_refl _) (by omega)))
    (fun _ _ _ _ _ hs _ _ => hs)
    ⟨⟨hBy, bS', bA', hrow0⟩, hbl⟩
    (fun z => { tmps := #[.slice pa a.length ca, .int .i64 s, undef, .pointer (some ⟨w.heap.size, 0, none⟩), .slice none 0 0, .pointer (some ⟨S, 0, none⟩), .pointer (some ⟨S + 1, 0, none⟩), .int .i64 (z.1 : Int), .int .u32 (nth a z.1), undef, .slice pa a.length ca, .int .i64 a.length, .slice (some ⟨w.heap.size + 1, 0, none⟩) a.length a.length, .slice pa a.length ca, .func (.func 58) #[] #[.pointer (some ⟨S + 1 + 1, 0, none⟩)], .int .i64 (z.1 : Int), .int .u32 (nth a z.1), undef, undef, undef, undef, undef, undef, undef, undef, undef, undef, undef, undef, undef, undef, undef], defers := [] }) ?assign ?body ?done ?stop
  case assign =>
    intro l z W K hK
    gi_wp2
    exact hK
  case body =>
    rintro l pre z W ⟨⟨h1, h2, h3, h4⟩, hB2⟩ _
    obtain ⟨z, hz⟩ := z
    dsimp only at *
    obtain ⟨hst1, hst2, hst3⟩ := shrState_ok da s pre
    have hor := or_limbs _ (nth a z) hst1 (da.get z)
    have hga := da.get z
    have HS : Hid (shrState a s (pre ++ [⟨z, hz⟩]) = shrStep a s (shrState a s pre) z) := shrState_snoc a s pre ⟨z, hz⟩
    generalize shrState a s pre = st at *
    have c1 := h1.cell
    have c2 := h2.cell
    have c3 := h3.cell
    have f3 := h3.frozen
    have c4 := h4.cell (j := z) (by omega)
    have f4 := h4.frozen z
    have HL : Hid (st.2.length = a.length) := hst2
    clear hst2
    gi_wp2
    gi_region_with_o (fail)
    all_goals
      gi_wp2
      refine ⟨(((KeepsOthers.setCell _ _ _).trans (KeepsOthers.setCell _ _ _)).trans (KeepsOthers.drew _)).from _, ((KeepS.refl _ _ W).setCell (p := ⟨w.heap.size + 1, z, none⟩) (fun a' m k e => by have := hblk a' m k e; simp; omega) (by simp; omega) _).setCell (p := ⟨S + 1, 0, none⟩) (fun a' m k e => by have := hblk a' m k e; simp; omega) (by simp) _, ⟨?_, ?_, ?_, ?_⟩, ((hB2.setCell (p := ⟨w.heap.size + 1, z, none⟩) (by simp) _).setCell (p := ⟨S + 1, 0, none⟩) (by simp; omega) _).drew⟩
      · exact (Below.heap_setCell _ ⟨S + 1, 0, none⟩ _ _ (by simp; omega)).trans ((Below.heap_setCell _ ⟨w.heap.size + 1, z, none⟩ _ _ (by simp)).trans h1)
      · exact (Below.heap_setCell _ ⟨S + 1, 0, none⟩ _ _ (by simp)).trans ((Below.heap_setCell _ ⟨w.heap.size + 1, z, none⟩ _ _ (by simp; omega)).trans h2)
      · rw [HS.out]
        exact Boxed.set _ ((Below.heap_setCell _ ⟨w.heap.size + 1, z, none⟩ _ _ (by simp; omega)).trans h3)
      · rw [HS.out]
        exact (Below.heap_setCell _ ⟨S + 1, 0, none⟩ _ _ (by simp; omega)).trans (h4.set z _)
  case done =>
    rintro D ys W hD rfl ⟨⟨h1, h2, h3, h4⟩, hB2⟩ hK
    have c2 := h2.cell
    gi_wp2
    refine ⟨by simp, .inl ⟨_, _, rfl, run_takeDeferred hK, ?_⟩⟩
    obtain ⟨hst1, hst2, hst3⟩ := shrState_ok da s (downs a.length)
    have hrow5 : Row .u32 42 (W.putObj D (.deferred none)) (w.heap.size + 1) (shrState a s (downs a.length)).2 := block_kept h4 (grownBy_putObj' _ D (.deferred none)) (fun r e => by cases e; exact ⟨_, hK, rfl⟩)
    have hsg := hrow5.seg
    rw [hst2] at hsg
    refine ⟨.slice (some ⟨w.heap.size + 1, 0, none⟩) a.length a.length, by simp [results, Tryd.f48, go_sem], ?_⟩
    exact ⟨_, _, rfl, hsg, hst3, hst2, shrState_val da s (by omega), hB2.trans (belowK_b (w := w) (Nat.le_refl _) W D _ (.deferred none) (by omega) hK rfl rfl), fun x m k e => by cases e; simp⟩
  case stop =>
    rintro D c pre W _ _ h _
    exact h.elim

theorem shiftRight_any {a : List Int} {w : World} {sa : Value} {s : Nat} (hA : U32 w sa a) (da : Dig a) (ha : a.length ≤ 1073741824) (hs : s < 32) :
    Calls Tryd.prog 48 #[sa, .int .i64 s] w fun e w' => ∃ sv r, e = .returned sv ∧ U32 w' sv r ∧ Dig r ∧ r.length = a.length ∧ val r = val a / 2 ^ s ∧ Below w.heap.size w w' := by
  refine (shiftRight2_any hA da ha hs).mono ?_
  rintro e w' ⟨sv, r, h1, h2, h3, h4, h5, h6, _⟩
  exact ⟨sv, r, h1, h2, h3, h4, h5, h6⟩

end Go.Proofs.YtkalknmindgljaaDoor
