/-
  The contract of filigreeref01.Norm, with where the new list lies; append at a step of a region that draws its order.
-/
import Derived.Test.YtkalknmindgljaaDoorAppSeg
namespace Go.Proofs.YtkalknmindgljaaDoor
open Go Go.Proofs Go.RowKit Go.Shelf

theorem step_append_seg {q : IntKind} {n₀ : Nat} {zs : List Int} (w : World) {ops : Array Oper} {o : Oper} {a : Act} {K : Act → World → Prop} {Q : Exit → Act → World → Prop} {E : Prop} (hgd : o.guard = none) (s x : Operand) (t : TypeId)
    (ho : o.op = .call { callee := .builtin .append, args := #[s, x], argTypes := #[t, t] })
    (base : Nat) (e : TypeId) (i : TypeInfo) (z : Value) (bytes : Nat) (ht : Tryd.prog.underlying t = some (.slice e)) (hi : Tryd.prog.info? e = some i) (hz : i.zero = some z)
    (hsize : i.size = 1) (hby : i.bytes = bytes) (hzs : z.cells.size = 1)
    (v sx : Value) (n : Nat) (xs : List Value) (hs : a.eval s = v) (hown : w.ownsRow base e 1 v n xs) (he : a.eval x = sx) (hx : Seg q n₀ w sx zs)
    (h63 : n + zs.length ≤ maxLen) (hbytes : (n + zs.length) * bytes ≤ 140737488355328) (hbase : base ≤ w.heap.size)
    (h : ∀ v' w', w'.ownsRow base e 1 v' (n + zs.length) (xs ++ zs.map (Value.int q)) → w.grownBy w' v.ownBlock → (v'.ownBlock = v.ownBlock ∨ v'.ownBlock = some w.heap.size) → K (a.put o.dst v') w') :
    if Region.wanted o (yielded ops a.tmps) = true then Oper.wp Tryd.prog o a w K Q else E := by
  have hw : Region.wanted o (yielded ops a.tmps) = true := by simp [Region.wanted, hgd]
  rw [if_pos hw]
  obtain ⟨v', w', hr, h2, h3, h5⟩ := run_append_seg w base t o.type e i z bytes ht hi hz hsize hby hzs v n xs hown hx h63 hbytes hbase
  unfold Oper.wp execOp
  simp only [ho, resolve, invoke, builtin, Sem.run_bind, Sem.run_pure, Result.andThen_ok, List.map_toArray, List.map_cons, List.map_nil, hs, he, hr]
  exact h v' w' h2 h3 h5

set_option maxRecDepth 100000 in
set_option maxHeartbeats 1000000 in
theorem refNorm2_any (zs : List Int) (hreach : zs.length * 4 ≤ 140737488351232) (w : World) (sv : Value) (hI : U32 w sv zs) :
    Calls Tryd.prog 15 #[sv] w fun e w' => ∃ sv', e = .returned sv' ∧ U32 w' sv' (trimL zs) ∧ Below w.heap.size w w' ∧ (∀ x m k, sv' = .slice (some x) m k → w.heap.size ≤ x.block) := by
  obtain ⟨i0, hi, hz0, hz1, hz2⟩ := info_parts info42
  by_cases hz : 0 < zs.length
  · obtain ⟨b, off, cap, rfl, hb, hl, hc⟩ := hI.pos hz
    go_enter Tryd.func15, Tryd.ntmps15
    go_wp2
    go_loop [3] (fun i => ∃ k : Nat, k ≤ zs.length ∧ i = .int .i64 k ∧ (∀ j, k ≤ j → j < zs.length → nth zs j = 0)) (fun i => (intOf i).toNat)
    case atStart => exact ⟨zs.length, Nat.le_refl _, rfl, by intro j h1 h2; omega⟩
    case round =>
      obtain ⟨k, hk, rfl, hj⟩ := hrel
      by_cases hlt : 0 < k
      · obtain ⟨m, rfl⟩ : ∃ m, k = m + 1 := ⟨k - 1, by omega⟩
        have hcx := hc m (by omega)
        by_cases he : nth zs m = 0
        · have he' : (nth zs m == 0) = true := by simpa using he
          have HE : Hid (∀ j, m ≤ j → j < zs.length → nth zs j = 0) := fun j h1 h2 => by
            rcases Nat.eq_or_lt_of_le h1 with h | h
            · rw [← h]; exact he
            · exact hj j h h2
          clear he
          go_wp2
          go_round
          case rel => exact ⟨m, by omega, by go_num, HE.out⟩
          case measure => simp [intOf]
        · have he' : (nth zs m == 0) = false := by simpa using he
          have HE : Hid (trimL zs = zs.take (m + 1)) := trimL_take zs m (by omega) he (fun j h1 h2 => hj j h1 h2)
          have hcs : ∀ j, j < (zs.take (m + 1)).length → (w.alloc (.cells #[] 42)).cell? ⟨b, off + j, none⟩ = some (.int .u32 (nth (zs.take (m + 1)) j)) := fun j hj' => by
            simp at hj'
            rw [nth_take (by omega), World.cell?_alloc_past (hn := hb)]
            exact hc j (by omega)
          have hown : (w.alloc (.cells #[] 42)).ownsRow w.heap.size 42 1 (.slice (some ⟨w.heap.size, 0, none⟩) 0 0) 0 [] := ⟨rfl, .inr ⟨w.heap.size, 0, #[], rfl, Nat.le_refl _, World.alloc_heap_new w _, Nat.le_refl _, Nat.zero_le _, rfl, rfl⟩⟩
          go_wp2_with (at_builtin; refine wpList_append_own _ rfl _ _ 23 rfl w.heap.size 42 i0 (.int .u32 0) 1 4 Tryd.underlying23 hi hz0 hz1 hz2 rfl (by decide) _ _ _ rfl hown ⟨b, off, none⟩ (m + 1) cap ((zs.take (m + 1)).map (Value.int .u32)) rfl (by simp; omega) (news_cells hcs) (news_one _ _) (by unfold maxLen; omega) (by omega) (by simp) ?_; intro v' w1 hown' hgrow _)
          go_ret
          rw [Nat.zero_add, List.nil_append] at hown'
          refine ⟨_, rfl, ?_, ?_, fun x m k e => owns_ge hown' (by rw [show v' = .slice (some x) m k from e]; rfl)⟩
          · rw [HE.out]
            exact Seg.of_owns (t := 42) (base := w.heap.size) (by rw [List.length_take, Nat.min_eq_left (by omega)]; exact hown')
          · exact ((Below.refl _ _).alloc (Nat.le_refl _) _).grown hgrow (by simp) (fun k e => by cases e; exact Nat.le_refl _)
      · obtain rfl : k = 0 := by omega
        have HE : Hid (trimL zs = []) := trimL_nil zs (fun j h2 => hj j (Nat.zero_le _) h2)
        go_wp2
        go_ret
        rw [HE.out]
        exact ⟨_, rfl, (Seg.new (q := .u32) w #[] 42 [] 0 (by simp) (by intro j hj; simp at hj)).up (by simp), (Below.refl _ _).alloc (Nat.le_refl _) _, fun x m k e => by cases e; exact Nat.le_refl _⟩
  · obtain rfl : zs = [] := List.eq_nil_of_length_eq_zero (by omega)
    obtain ⟨p, c, rfl⟩ := hI.len
    rcases p with _ | x
    all_goals
      go_enter Tryd.func15, Tryd.ntmps15
      go_wp2
      refine wp_loop_rounds 1 ?_; rw [rounds_succ]
      go_wp2
      go_ret
      exact ⟨_, rfl, (Seg.new (q := .u32) w #[] 42 [] 0 (by simp) (by intro j hj; simp at hj)).up (by simp), (Below.refl _ _).alloc (Nat.le_refl _) _, fun x m k e => by cases e; exact Nat.le_refl _⟩

end Go.Proofs.YtkalknmindgljaaDoor
