/-
  The contract of filigreeref01.Mul: the product, bit by bit.
-/
import Derived.BigRegion
import Derived.Test.YtkalknmindgljaaDoorAppSeg
import Derived.Test.YtkalknmindgljaaDoorLimbs
namespace Go.Proofs.YtkalknmindgljaaDoor
open Go Go.Proofs Go.RowKit Go.Shelf

theorem owns_mono {w : World} {base base' : Nat} {e : TypeId} {size : Nat} {v : Value} {n : Nat} {xs : List Value} (h : w.ownsRow base e size v n xs) (hb : base' ≤ base) : w.ownsRow base' e size v n xs := by
  refine ⟨h.1, ?_⟩
  rcases h.2 with h | ⟨g, cap, cur, e1, h2, r⟩
  · exact .inl h
  · exact .inr ⟨g, cap, cur, e1, by omega, r⟩
theorem owns_below {w w' : World} {base : Nat} {e : TypeId} {size : Nat} {v : Value} {n : Nat} {xs : List Value} (h : w.ownsRow base e size v n xs) (hb : Below w.heap.size w w') : w'.ownsRow base e size v n xs := by
  refine h.kept (row := none) (⟨hb.os, hb.tape, hb.output, hb.size, fun k hk _ => hb.block k hk⟩ : w.grownBy w' none) ?_
  cases v.ownBlock with
  | none => exact .inl rfl
  | some k => exact .inr (by simp)
theorem V_zeros (k n : Nat) : V (List.replicate k 0) n = 0 := by
  induction n with
  | zero => rfl
  | succ n ih => simp only [V]; rw [ih, nth_replicate]; simp
theorem Bit.zeros (k : Nat) : Bit (List.replicate k 0) := fun _ hz => .inl (List.eq_of_mem_replicate hz)
theorem V_shifted (X : List Int) (k : Nat) : V (List.replicate k 0 ++ X) (List.replicate k 0 ++ X).length = 2 ^ k * V X X.length := by
  have h := V_append (List.replicate k 0) X X.length
  rw [V_zeros, List.length_replicate] at h
  rw [List.length_append, List.length_replicate, h]
  omega
structure MulI (X Y out : List Int) (k : Nat) : Prop where
  bit : Bit out
  len : out.length ≤ X.length + k
  eq : V out out.length = V X X.length * V Y k
theorem MulI.start (X Y : List Int) : MulI X Y [] 0 := ⟨Bit.nil, by simp, by simp [V]⟩
theorem MulI.skip {X Y out : List Int} {k : Nat} (h : MulI X Y out k) (h0 : nth Y k = 0) : MulI X Y out (k + 1) := ⟨h.bit, by have := h.len; omega, by simp only [V]; rw [h0, h.eq]; simp⟩
theorem MulI.step {X Y out z : List Int} {k : Nat} (h : MulI X Y out k) (h0 : nth Y k = 1) (bz : Bit z) (hl : z.length = max out.length (List.replicate k (0 : Int) ++ X).length + 1) (hv : V z z.length = V out out.length + V (List.replicate k 0 ++ X) (List.replicate k 0 ++ X).length) : MulI X Y z (k + 1) := by
  refine ⟨bz, ?_, ?_⟩
  · have := h.len
    simp only [List.length_append, List.length_replicate] at hl
    omega
  · rw [hv, V_shifted, h.eq]
    simp only [V]
    rw [h0]
    grind
theorem zeros_snoc (k : Nat) : (List.replicate k (0 : Int)).map (Value.int .u8) ++ [.int .u8 0] = (List.replicate (k + 1) (0 : Int)).map (Value.int .u8) := by
  rw [List.replicate_succ', List.map_append]; rfl

set_option maxRecDepth 100000 in
set_option maxHeartbeats 4000000 in
theorem refMul_any {a b : List Int} {w : World} {sa sb : Value} (hA : U32 w sa a) (hB : U32 w sb b) (da : Dig a) (db : Dig b) (ha : a.length ≤ 1048576) (hb : b.length ≤ 1048576) :
    Calls Tryd.prog 23 #[sa, sb] w fun e w' => ∃ sv, e = .returned sv ∧ U32 w' sv (num (val a * val b)) ∧ Below w.heap.size w w' := by
  obtain ⟨i0, hi, hz0, hz1, hz2⟩ := info_parts info5
  have hla := trimL_length a
  have hlb := trimL_length b
  have l1 : Hid ((bitsL (trimL a)).length = 32 * (trimL a).length) := bitsL_length _
  have l2 : Hid ((bitsL (trimL b)).length = 32 * (trimL b).length) := bitsL_length _
  have m1 : (bitsL (trimL a)).length ≤ 33554432 := by rw [l1.out]; omega
  have m2 : (bitsL (trimL b)).length ≤ 33554432 := by rw [l2.out]; omega
  have v1 : Hid (V (bitsL (trimL a)) (bitsL (trimL a)).length = val a) := by show _ = _; rw [l1.out, V_bitsL _ da.trimL, trimL_num da, num_val (val_nonneg da)]
  have v2 : Hid (V (bitsL (trimL b)) (bitsL (trimL b)).length = val b) := by show _ = _; rw [l2.out, V_bitsL _ db.trimL, trimL_num db, num_val (val_nonneg db)]
  have bX := bit_bitsL (trimL a)
  have bY := bit_bitsL (trimL b)
  go_enter Tryd.func23, Tryd.ntmps23
  go_wp2_with fail
  refine (refNorm_any a (by omega) _ _ hA).mono ?_
  rintro e w1 ⟨s1, rfl, h1, hb1⟩
  go_wp2_with fail
  refine (bits_any h1 (by omega) da.trimL).mono ?_
  rintro e w2 ⟨s2, rfl, h2, hb2⟩
  have hb12 := hb1.trans (hb2.mono hb1.size)
  go_wp2_with fail
  refine (refNorm_any b (by omega) _ _ (hB.go hb12)).mono ?_
  rintro e w3 ⟨s3, rfl, h3, hb3⟩
  go_wp2_with fail
  refine (bits_any h3 (by omega) db.trimL).mono ?_
  rintro e w4 ⟨s4, rfl, h4, hb4⟩
  have hb34 := hb3.trans (hb4.mono hb3.size)
  have hX := h2.go hb34
  have hbl := hb12.trans (hb34.mono hb12.size)
  have hY := h4
  clear h1 h2 h3 h4 hb1 hb2 hb3 hb4 hb12 hb34 l1 l2 hla hlb
  generalize bitsL (trimL a) = X at *
  generalize bitsL (trimL b) = Y at *
  obtain ⟨pY, cY, rfl⟩ := hY.len
  go_wp2
  go_loopw [7, 8, 9] (fun o s i wr => ∃ (k : Nat) (out : List Int), k ≤ Y.length ∧ i = .int .i64 k ∧ wr.ownsRow w4.heap.size 5 1 o out.length (out.map (Value.int .u8)) ∧ wr.ownsRow w4.heap.size 5 1 s k ((List.replicate k (0 : Int)).map (Value.int .u8)) ∧ (∀ g, s.ownBlock = some g → o.ownBlock ≠ some g) ∧ Below w4.heap.size w4 wr ∧ MulI X Y out k) (fun _ _ i _ => Y.length - (intOf i).toNat)
  case atStart => exact ⟨0, [], Nat.zero_le _, rfl, World.ownsRow_nil _ _ _ _, World.ownsRow_nil _ _ _ _, (fun g e => by cases e), Below.refl _ _, MulI.start X Y⟩
  case round =>
    obtain ⟨k, out, hk, rfl, hO, hS, hne, hB4, hinv⟩ := hrel
    have hsz := hB4.size
    by_cases hlt : k < Y.length
    · have hYr := Seg.below hB4 hY
      obtain ⟨b1, o1, c1, e1, _, _, hc1⟩ := hYr.pos (by omega)
      simp only [Value.slice.injEq] at e1
      obtain ⟨rfl, _, rfl⟩ := e1
      have hcx := hc1 k hlt
      have hXr := Seg.below hB4 hX
      have hol := hinv.len
      rcases bY.get k with h0 | h1
      · have he' : (nth Y k == 1) = false := by rw [h0]; rfl
        have hst := hinv.skip h0
        clear h0
        go_wp2_with (at_builtin; refine wpList_append_own_at _ rfl _ _ 49 rfl w4.heap.size 5 i0 (.int .u8 0) 1 1 Tryd.underlying49 hi hz0 hz1 hz2 rfl (by decide) _ _ _ rfl (hS.alloc _) ⟨wr.heap.size, 0, none⟩ 1 1 [.int .u8 0] rfl rfl (cell_one_new _ _ _) (by simp [Value.oneCell']) (by unfold maxLen; omega) (by omega) (by simp; omega) ?_; intro v' w5 hown' hgrow _ hat)
        have hB5 : Below w4.heap.size w4 w5 := (hB4.alloc hsz _).grown hgrow (by simp; omega) (fun i e => owns_ge hS e)
        have hO5 : w5.ownsRow w4.heap.size 5 1 u7 out.length (out.map (Value.int .u8)) := by
          refine (hO.alloc (.cells #[.int .u8 0] 5)).kept hgrow ?_
          cases ho : u7.ownBlock with
          | none => exact .inl rfl
          | some g => exact .inr (fun e => hne g e.symm ho)
        go_roundw
        case rel =>
          refine ⟨k + 1, out, by omega, by go_num, hO5, by rw [← zeros_snoc]; exact hown', ?_, hB5, hst⟩
          intro g hg ho
          rcases hat with e | e
          · exact hne g (e ▸ hg) ho
          · rw [hg] at e
            have h1 := (hO.lt g ho).2
            simp at e
            omega
        case measure => simp [intOf]; omega
      · have he' : (nth Y k == 1) = true := by rw [h1]; rfl
        have HH : Hid (nth Y k = 1) := h1
        clear h1
        have hown0 : (wr.alloc (.cells #[] 5)).ownsRow wr.heap.size 5 1 (.slice (some ⟨wr.heap.size, 0, none⟩) 0 0) 0 [] := ⟨rfl, .inr ⟨wr.heap.size, 0, #[], rfl, Nat.le_refl _, World.alloc_heap_new wr _, Nat.le_refl _, Nat.zero_le _, rfl, rfl⟩⟩
        have hba : Below wr.heap.size wr (wr.alloc (.cells #[] 5)) := (Below.refl _ _).alloc (Nat.le_refl _) _
        have hSs : Seg .u8 wr.heap.size wr u8 (List.replicate k (0 : Int)) := Seg.of_owns (t := 5) (base := w4.heap.size) (by rw [List.length_replicate]; exact hS)
        have hSa := Seg.below hba hSs
        have hrl : (List.replicate k (0 : Int)).length ≤ 33554432 := by rw [List.length_replicate]; omega
        go_wp2_with (first
          | (at_builtin; refine wpList_append_seg _ rfl _ _ 49 rfl wr.heap.size 5 i0 (.int .u8 0) 1 Tryd.underlying49 hi hz0 hz1 hz2 rfl (.slice (some ⟨wr.heap.size, 0, none⟩) 0 0) u8 _ _ rfl hown0 rfl hSa (by unfold maxLen; omega) (by omega) (by simp) ?_; intro v5 w5 hown5 hgrow5 _; clear hown0 hSa; rw [List.length_replicate, Nat.zero_add, List.nil_append] at hown5; have hb5 : Below wr.heap.size wr w5 := hba.grown hgrow5 (by simp) (fun g e => by cases e; exact Nat.le_refl _); have hX5 := Seg.below (hb5.mono hsz) hXr; clear hgrow5)
          | (at_builtin; refine wpList_append_seg _ rfl _ _ 49 rfl wr.heap.size 5 i0 (.int .u8 0) 1 Tryd.underlying49 hi hz0 hz1 hz2 rfl v5 s2 k _ rfl hown5 rfl hX5 (by unfold maxLen; omega) (by omega) hb5.size ?_; intro v6 w6 hown6 hgrow6 _; have hb6 : Below wr.heap.size wr w6 := hb5.grown hgrow6 hb5.size (fun g e => owns_ge hown5 e); clear hgrow6 hown5 hX5))
        obtain ⟨T, hT⟩ : ∃ T, T = List.replicate k (0 : Int) ++ X := ⟨_, rfl⟩
        have hT1 : T.length = k + X.length := by rw [hT]; simp
        have hT2 : Bit T := by rw [hT]; exact (Bit.zeros k).append bX
        have hT3 : Seg .u8 w6.heap.size w6 v6 T := Seg.of_owns (t := 5) (base := wr.heap.size) (by rw [hT1, hT, List.map_append]; exact hown6)
        have HT : Hid (T = List.replicate k (0 : Int) ++ X) := hT
        have hT4 : T.length ≤ 67108864 := by omega
        clear hT hT1 hown6
        refine (sum_own ((Seg.below hb6 (Seg.of_owns hO)).up hb6.size) hT3 hinv.bit hT2 (by omega) (by omega)).mono ?_
        rintro e w7 ⟨s7, z, rfl, hz7, bz, lz, vz, hb7⟩
        rw [HT.out] at lz vz
        have hst := hinv.step HH.out bz lz vz
        have hb67 : Below wr.heap.size wr w7 := hb6.trans (hb7.mono hb6.size)
        have hS7 := owns_below hS hb67
        have hB7 : Below w4.heap.size w4 w7 := hB4.trans (hb67.mono hsz)
        have hs7 := hB7.size
        have hO7 : w7.ownsRow w4.heap.size 5 1 s7 z.length (z.map (Value.int .u8)) := owns_mono hz7 (Nat.le_trans hsz hb6.size)
        clear lz vz hT2 hT3 HT hT4 hb5
        go_wp2_with (at_builtin; refine wpList_append_own_at _ rfl _ _ 49 rfl w4.heap.size 5 i0 (.int .u8 0) 1 1 Tryd.underlying49 hi hz0 hz1 hz2 rfl (by decide) u8 _ _ rfl (hS7.alloc _) ⟨w7.heap.size, 0, none⟩ 1 1 [.int .u8 0] rfl rfl (cell_one_new _ _ _) (by simp [Value.oneCell']) (by unfold maxLen; omega) (by omega) (by simp; omega) ?_; intro v' w8 hown' hgrow _ hat)
        have hB8 : Below w4.heap.size w4 w8 := (hB7.alloc hs7 _).grown hgrow (by simp; omega) (fun i e => owns_ge hS7 e)
        have hO8 : w8.ownsRow w4.heap.size 5 1 s7 z.length (z.map (Value.int .u8)) := by
          refine (hO7.alloc (.cells #[.int .u8 0] 5)).kept hgrow ?_
          cases ho : s7.ownBlock with
          | none => exact .inl rfl
          | some g =>
            refine .inr (fun e => ?_)
            have h1 := (hz7.lt g ho).1
            have h2 := (hS.lt g e.symm).2
            have h3 := hb6.size
            omega
        go_roundw
        case rel =>
          refine ⟨k + 1, z, by omega, by go_num, hO8, by rw [← zeros_snoc]; exact hown', ?_, hB8, hst⟩
          intro g hg ho
          have h1 := hz7.lt g ho
          have h3 := hb6.size
          rcases hat with e | e
          · have h2 := (hS.lt g (e ▸ hg)).2
            omega
          · rw [hg] at e
            simp at e
            omega
        case measure => simp [intOf]; omega
    · obtain rfl : k = Y.length := by omega
      have hl := hinv.len
      have heq := hinv.eq
      rw [v1.out, v2.out] at heq
      have HQ : Hid (V out out.length = val a * val b) := heq
      have hseg := Seg.of_owns hO
      clear heq
      go_wp2_with fail
      refine (limbs_any hseg hinv.bit (by omega)).mono ?_
      rintro e w5 ⟨s5, rfl, h5, hb5⟩
      rw [HQ.out] at h5
      go_wp2
      go_ret
      exact ⟨_, rfl, h5, hbl.trans ((hB4.trans (hb5.mono hsz)).mono hbl.size)⟩

end Go.Proofs.YtkalknmindgljaaDoor
