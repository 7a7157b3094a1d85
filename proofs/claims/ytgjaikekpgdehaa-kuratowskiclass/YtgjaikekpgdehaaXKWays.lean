/-
  All ways of a graph: kuratowski.walkAll.
-/
import Derived.Test.YtgjaikekpgdehaaXKMem
namespace Go.Proofs.Ytgjaikekpgdehaa
open Go Go.Proofs Go.RowKit

/-- The ways from one corner over these neighbours, as they are told. -/
def vWays (l : List Ed) (N : Nat) (v : Int) (us : List Int) : List (List Int) := (us.map (wayL l N v)).filter toldB
theorem vWays_snoc (l : List Ed) (N : Nat) (v : Int) (us : List Int) (u : Int) : vWays l N v (us ++ [u]) = vWays l N v us ++ (if toldB (wayL l N v u) = true then [wayL l N v u] else []) := by
  unfold vWays
  rw [List.map_append, List.filter_append, List.map_singleton]
  congr 1
  by_cases h : toldB (wayL l N v u) = true
  · rw [if_pos h]; simp [h]
  · rw [if_neg h]; simp [h]
def waysTo (l : List Ed) (N : Nat) : Nat → List (List Int)
  | 0 => []
  | j + 1 => waysTo l N j ++ (if (nb l (j : Int)).length < 3 then [] else vWays l N (j : Int) (nb l (j : Int)))
/-- How many edges are on them. -/
def onL (ws : List (List Int)) : Int := (ws.map fun w => (w.length : Int) - 1).sum
theorem onL_snoc (ws : List (List Int)) (w : List Int) : onL (ws ++ [w]) = onL ws + ((w.length : Int) - 1) := by
  unfold onL
  rw [List.map_append, List.sum_append]
  simp
/-- What is under way: the ways that have been told, and the one that is walked. -/
structure WM (bw : Nat) (lv : Value) (svs : List Value) (ws : List (List Int)) (sv : Value) (L : List Int) (W : World) : Prop where
  grp : Grp (bw + 1) lv svs ws W
  box : Blk 25 W bw [sv]
  own : W.ownsRow (bw + 1) 3 1 sv L.length (L.map (Value.int .i64))
  off : Off sv.ownBlock lv svs
theorem WM.kw {bw : Nat} {lv sv : Value} {svs : List Value} {ws : List (List Int)} {L : List Int} {W : World} (h : WM bw lv svs ws sv L W) : KW bw sv.ownBlock W L sv W := ⟨h.box, h.own, .inl rfl, Kp.refl _ _ _⟩
theorem WM.go {bw : Nat} {lv sv : Value} {svs : List Value} {ws : List (List Int)} {L : List Int} {W W' : World} (h : WM bw lv svs ws sv L W) (hb : Below W.heap.size W W') : WM bw lv svs ws sv L W' := ⟨h.grp.go hb, h.box.go hb, owns_below h.own hb, h.off⟩
theorem WM.walked {bw : Nat} {lv sv sv' : Value} {svs : List Value} {ws : List (List Int)} {L L' : List Int} {W W' : World} (h : WM bw lv svs ws sv L W) (hk : KW bw sv.ownBlock W L' sv' W') : WM bw lv svs ws sv' L' W' := by
  refine ⟨h.grp.kp hk.kept (by omega) h.off, hk.box, hk.own, fun q hq => ?_⟩
  rcases hk.lies with h1 | ⟨b, h1, h2⟩
  · exact h.off q (by rw [← h1]; exact hq)
  · rw [h1] at hq
    simp only [Option.some.injEq] at hq
    subst hq
    refine ⟨fun e => ?_, fun s hs e => ?_⟩
    · have := (h.grp.own.lt b e).2; omega
    · have := (h.grp.lts hs e).2; omega
theorem WM.snoc {bw : Nat} {lv lv' sv cv : Value} {svs : List Value} {ws : List (List Int)} {L : List Int} {W A B : World} {o : Obj} (h : WM bw lv svs ws sv L W) (hbW : bw + 1 ≤ W.heap.size) (hA : Below W.heap.size W A) (hs : A.ownsRow W.heap.size 3 1 cv L.length (L.map (Value.int .i64)))
    (hB : B.ownsRow (bw + 1) 25 1 lv' (svs.length + 1) (svs ++ [cv])) (hg : (A.alloc o).grownBy B lv.ownBlock) (hat : lv'.ownBlock = lv.ownBlock ∨ lv'.ownBlock = some (A.alloc o).heap.size) : WM bw lv' (svs ++ [cv]) (ws ++ [L]) sv L B := by
  have hbA : Below W.heap.size W (A.alloc o) := hA.alloc hA.size _
  have hne : sv.ownBlock = none ∨ sv.ownBlock ≠ lv.ownBlock := by
    cases hq : sv.ownBlock with
    | none => exact .inl rfl
    | some q => exact .inr fun e => (h.off q hq).1 e.symm
  have hnb : some bw ≠ lv.ownBlock := fun e => by have := (h.grp.own.lt bw e.symm).1; omega
  refine ⟨h.grp.snoc (grown_below' hA none) (owns_downK hs hbW) (fun q hq => (hs.lt q hq).1) hB hg hat, (h.box.go hbA).grown hg hnb, owns_keep (owns_below h.own hbA) hg hne, fun q hq => ?_⟩
  have hqW := (h.own.lt q hq).2
  refine ⟨fun e => ?_, fun s hs' e => ?_⟩
  · rcases hat with h1 | h1
    · exact (h.off q hq).1 (by rw [← h1]; exact e)
    · rw [h1] at e
      have := hA.size
      simp only [Option.some.injEq] at e
      have h2 : (A.alloc o).heap.size = A.heap.size + 1 := by simp
      omega
  · rcases List.mem_append.1 hs' with h1 | h1
    · exact (h.off q hq).2 s h1 e
    · rw [List.mem_singleton.1 h1] at e
      have := (hs.lt q e).1
      omega
theorem wayL_len {N : Nat} {l : List Ed} (hR : RightG (N : Int) l) {v u : Int} (hu : u ∈ nb l v) (hv : (nb l v).length ≠ 2) : 2 ≤ (wayL l N v u).length ∧ (wayL l N v u).length ≤ N + 1 := by
  obtain ⟨k, hk, _, _, hway, _⟩ := way_facts hR hu hv
  rw [hway]
  simp
  omega
theorem nb_lenW {N : Nat} {l : List Ed} (hR : RightG (N : Int) l) (v : Int) : (nb l v).length ≤ N := by
  have := nodup_lenK (A := nb l v) (B := (List.range N).map fun (x : Nat) => (x : Int)) (nb_nodup hR v) (fun x hx => by
    have hb := nb_mutual hR hx
    exact List.mem_map.2 ⟨x.toNat, List.mem_range.2 (by omega), by omega⟩)
  simpa using this

theorem cnt_le {j i : Nat} (h : j ≤ 1048576) (h2 : i ≤ 1048576) : j * 1048576 + i ≤ 1099512676352 := by
  generalize hM : (1048576 : Nat) = M at h h2 ⊢
  have h1 : j * M ≤ M * M := Nat.mul_le_mul_right _ h
  have h3 : M * M = 1099511627776 := by rw [← hM]
  omega
/-- So many ways at most, and so many edges on them. -/
def Bnd (ws : List (List Int)) (c : Nat) : Prop := ws.length ≤ c ∧ 0 ≤ onL ws ∧ onL ws ≤ (c : Int) * 1048577
theorem bnd_mono {ws : List (List Int)} {c d : Nat} (h : Bnd ws c) (hd : c ≤ d) : Bnd ws d := by
  obtain ⟨h1, h2, h3⟩ := h
  exact ⟨by omega, h2, by omega⟩
theorem bnd_stay {ws : List (List Int)} {j : Nat} (h : Bnd ws (j * 1048576)) : Bnd ws ((j + 1) * 1048576) := bnd_mono h (Nat.mul_le_mul_right _ (Nat.le_succ j))
theorem bnd_snoc {ws : List (List Int)} {L : List Int} {c : Nat} (h : Bnd ws c) (h1 : 2 ≤ L.length) (h2 : L.length ≤ 1048577) : Bnd (ws ++ [L]) (c + 1) := by
  obtain ⟨h3, h4, h5⟩ := h
  refine ⟨by simp; omega, ?_, ?_⟩
  · rw [onL_snoc]; omega
  · rw [onL_snoc]; omega
set_option maxRecDepth 100000 in
set_option maxHeartbeats 4000000 in
theorem walkAll_any (N : Nat) (l : List Ed) (hR : RightG (N : Int) l) (nv : Value) (w : World) (hN : Lsts w.heap.size w nv (nearL N l)) :
    Calls Try.prog 39 #[nv] w fun r w' => ∃ lv svs, r = .returned (.tuple #[lv, .int .i64 (onL (waysTo l N N))]) ∧ Grp (w.heap.size + 2) lv svs (waysTo l N N) w' ∧ Below w.heap.size w w' := by
  obtain ⟨pn, cn, rfl⟩ := hN.len
  have hn1 := hR.n1
  have hent : ∀ (args : Array Value) (W : World), (callFunc 55 args).run Try.prog W = .ok (.enter 55 args) W := fun args W => by kernel_rfl
  obtain ⟨i0, hi, hz0, hz1, hz2⟩ := info_parts infoSl
  rw [nearL_len] at hN ⊢
  have hg1 : Grew w ((w.alloc (.cells #[.slice pn N cn] 28)).alloc (.cells #[.slice none 0 0] 25)) := ((Grew.refl w).alloc _).alloc _
  have hB0 : Blk 28 ((w.alloc (.cells #[.slice pn N cn] 28)).alloc (.cells #[.slice none 0 0] 25)) w.heap.size [.slice pn N cn] := by
    have h1 : Blk 28 (w.alloc (.cells #[.slice pn N cn] 28)) w.heap.size [.slice pn N cn] := heap_alloc_new w _
    exact h1.go (((Grew.refl _).alloc _).below)
  have hB1 : Blk 25 ((w.alloc (.cells #[.slice pn N cn] 28)).alloc (.cells #[.slice none 0 0] 25)) (w.heap.size + 1) [.slice none 0 0] := by
    have := heap_alloc_new (w.alloc (.cells #[.slice pn N cn] 28)) (.cells #[.slice none 0 0] 25)
    simpa [Blk] using this
  have hW : WM (w.heap.size + 1) (.slice none 0 0) [] [] (.slice none 0 0) [] ((w.alloc (.cells #[.slice pn N cn] 28)).alloc (.cells #[.slice none 0 0] 25)) := ⟨Grp.start _ _, hB1, World.ownsRow_nil _ _ _ _, fun q hq => by cases hq⟩
  have hb1 := hg1.below
  have hsz1 : ((w.alloc (.cells #[.slice pn N cn] 28)).alloc (.cells #[.slice none 0 0] 25)).heap.size = w.heap.size + 2 := by simp
  have q0 := hB0.cell (j := 0) rfl
  clear hB1 hg1
  go_enter Try.func39, Try.ntmps39
  go_wp2
  generalize (w.alloc (.cells #[.slice pn N cn] 28)).alloc (.cells #[.slice none 0 0] 25) = w1 at hW hb1 hsz1 q0 hB0 ⊢
  go_loopw [2, 3, 13] (fun lv on i wr => ∃ (j : Nat) (svs : List Value) (sv : Value) (L : List Int), j ≤ N ∧ i = .int .i64 j ∧ on = .int .i64 (onL (waysTo l N j)) ∧ Hid (WM (w.heap.size + 1) lv svs (waysTo l N j) sv L wr) ∧ Below (w.heap.size + 1) w1 wr ∧ Hid (Bnd (waysTo l N j) (j * 1048576))) (fun _ _ i _ => N - (intOf i).toNat)
  case atStart => exact ⟨0, [], _, [], Nat.zero_le _, rfl, rfl, hW, Below.refl _ _, ⟨Nat.zero_le _, Int.le_refl _, by simp [waysTo, onL]⟩⟩
  case round =>
    obtain ⟨j, svs, sv, L, hj, rfl, rfl, HW, hb, HB⟩ := hrel
    have hbw1 : Below w.heap.size w wr := hb1.trans (hb.mono (by omega))
    have hszr : w.heap.size + 2 ≤ wr.heap.size := by have := hb.size; omega
    by_cases hlt : j < N
    · have hjI : (j : Int) < (N : Int) := by omega
      have hNr : Lsts w.heap.size w (.slice pn (nearL N l).length cn) (nearL N l) := by rw [nearL_len]; exact hN
      obtain ⟨bq, offq, rfl, hbq, hcapq, px, cx, hIx, hcx⟩ := hNr.cellAt (j := j) (by rw [nearL_len]; exact hlt)
      have ex : (nearL N l)[j]'(by rw [nearL_len]; exact hlt) = nb l (j : Int) := by simp [nearL]
      rw [ex] at hIx hcx
      rw [nearL_len] at hcapq
      replace hcx := (hbw1.cell (p := ⟨bq, offq + j, none⟩) hbq).trans hcx
      have HST : Hid (waysTo l N (j + 1) = waysTo l N j ++ (if (nb l (j : Int)).length < 3 then [] else vWays l N (j : Int) (nb l (j : Int)))) := rfl
      have hdN := nb_lenW hR (j : Int)
      have HIx : Hid _ := hIx
      clear ex hNr hIx
      by_cases h3 : (nb l (j : Int)).length < 3
      · have HE : Hid (waysTo l N (j + 1) = waysTo l N j) := by unfold Hid; rw [HST.out, if_pos h3, List.append_nil]
        generalize (nb l (j : Int)).length = d at *
        have HD3 : Hid (d < 3) := h3
        have h3b : decide ((d : Int) < 3) = true := by simp; omega
        clear HST HIx h3
        go_wp2
        refine ⟨⟨j + 1, svs, sv, L, by omega, by go_num, by rw [HE.out], by rw [HE.out]; exact HW, hb, ?_⟩, by simp [intOf]; omega⟩
        rw [HE.out]
        exact bnd_stay HB.out
      · have hv2 : Hid ((nb l (j : Int)).length ≠ 2) := by unfold Hid; omega
        obtain ⟨us, hus⟩ : ∃ us, nb l (j : Int) = us := ⟨_, rfl⟩
        have HUS : Hid (nb l (j : Int) = us) := hus
        rw [if_neg h3] at HST
        rw [hus] at HST HIx hcx hdN h3
        have hd3 : ¬ (us.length : Int) < 3 := by omega
        clear hus h3
        have hN1 : N ≤ 1048576 := by omega
        have hb1' : Hid (Below w.heap.size w w1) := hb1
        go_wp2
        go_loopw [2, 3, 23] (fun lv on i wt => ∃ (i' : Nat) (svs : List Value) (sv : Value) (L : List Int), i' ≤ us.length ∧ i = .int .i64 i' ∧ on = .int .i64 (onL (waysTo l N j ++ vWays l N (j : Int) (us.take i'))) ∧ Hid (WM (w.heap.size + 1) lv svs (waysTo l N j ++ vWays l N (j : Int) (us.take i')) sv L wt) ∧ Below (w.heap.size + 1) w1 wt ∧ Hid (Bnd (waysTo l N j ++ vWays l N (j : Int) (us.take i')) (j * 1048576 + i'))) (fun _ _ i _ => us.length - (intOf i).toNat)
        case atStart =>
          have e0 : waysTo l N j ++ vWays l N (j : Int) (us.take 0) = waysTo l N j := by rw [List.take_zero]; exact List.append_nil _
          exact ⟨0, svs, sv, L, Nat.zero_le _, rfl, by rw [e0], by rw [e0]; exact HW, hb, by rw [e0]; exact bnd_mono HB.out (Nat.le_add_right _ _)⟩
        case round =>
          clear hb HB HW hszr hbw1 hcx
          obtain ⟨i, svs, sv, L, hi', rfl, rfl, HW, hb, HB⟩ := hrel
          have hbw1 : Below w.heap.size w wr := hb1'.out.trans (hb.mono (by omega))
          have hszr : w.heap.size + 2 ≤ wr.heap.size := by have := hb.size; omega
          by_cases hil : i < us.length
          · have hu : us[i] ∈ nb l (j : Int) := by rw [HUS.out]; exact List.getElem_mem hil
            have hiI : (i : Int) < (us.length : Int) := by omega
            obtain ⟨bx, ox, rfl, hbx, hcapx, hcxx⟩ := Vals.open HIx.out hil
            have c0 := hcxx wr hbw1 i hil
            have HSN : Hid (vWays l N (j : Int) (us.take (i + 1)) = vWays l N (j : Int) (us.take i) ++ (if toldB (wayL l N (j : Int) us[i]) = true then [wayL l N (j : Int) us[i]] else [])) := by
              unfold Hid
              rw [take_snoc hil, vWays_snoc]
            have hcl := walk1_any N l hR (j : Int) us[i] hu hv2.out w.heap.size (w.heap.size + 1) (by omega) (.slice (some ⟨bq, offq, none⟩) N cn) sv L wr HW.out.kw ((hb.cell (p := ⟨w.heap.size, 0, none⟩) (by simp)).trans q0) ((hN.below hbw1).mono (by omega))
            obtain ⟨hl2, hl3⟩ := wayL_len hR hu hv2.out
            generalize us[i] = u at *
            generalize wayL l N (j : Int) u = way at *
            have HU : Hid _ := hu
            clear hu hcxx
            go_wp2_with fail
            refine hcl.mono ?_
            rintro e w2 ⟨rfl, sv2, hK2⟩
            have hW2 := HW.out.walked hK2
            have hb2 : Below (w.heap.size + 1) w1 w2 := hb.trans (hK2.kept.below (by omega) (fun q e => by have := (HW.out.own.lt q e).1; omega))
            have hsz2 := hK2.kept.size
            obtain ⟨p2, c2, rfl⟩ := owns_form hW2.own
            have b2 := hW2.box.cell (j := 0) rfl
            have hta := isAsTold_any way hl2 (by omega) _ w2 (owns_intsK hW2.own)
            have HW2 : Hid _ := hW2
            clear hcl hK2 HW hW2 c0 hb
            go_wp2_with fail
            refine hta.mono ?_
            rintro e w3 ⟨rfl, hb3⟩
            have hW3 := WM.go HW2.out hb3
            have hb23 : Below (w.heap.size + 1) w1 w3 := hb2.trans (hb3.mono (by omega))
            have hsz3 := hb3.size
            have b3 := cell_keepW hb3 b2
            clear hta HW2 hb2 b2 hb3
            cases ht : toldB way with
            | false =>
              rw [ht] at HSN
              have HE : Hid (waysTo l N j ++ vWays l N (j : Int) (us.take (i + 1)) = waysTo l N j ++ vWays l N (j : Int) (us.take i)) := by unfold Hid; rw [HSN.out]; simp
              have HW3 : Hid _ := hW3
              clear HSN hW3 ht
              go_wp2
              refine ⟨⟨i + 1, svs, .slice p2 way.length c2, way, by omega, by go_num, by rw [HE.out], by rw [HE.out]; exact HW3, hb23, ?_⟩, by simp [intOf]; omega⟩
              rw [HE.out]
              exact bnd_mono HB.out (Nat.add_le_add_left (Nat.le_succ i) _)
            | true =>
              rw [ht] at HSN
              have HE : Hid (waysTo l N j ++ vWays l N (j : Int) (us.take (i + 1)) = (waysTo l N j ++ vWays l N (j : Int) (us.take i)) ++ [way]) := by unfold Hid; rw [HSN.out]; simp
              have hcn := cloneI_any way (by omega) _ w3 (owns_intsK hW3.own)
              have HW3 : Hid _ := hW3
              clear HSN hW3 ht
              go_wp2_with fail
              refine hcn.mono ?_
              rintro e w4 ⟨cv, rfl, hO4, hb4⟩
              obtain ⟨p4, c4, rfl⟩ := owns_form hO4
              obtain ⟨pl, cl, rfl⟩ := owns_form HW3.out.grp.own
              obtain ⟨ws, hws⟩ : ∃ ws, waysTo l N j ++ vWays l N (j : Int) (us.take i) = ws := ⟨_, rfl⟩
              rw [hws] at HE HW3 HB ⊢
              have hsvl : svs.length = ws.length := HW3.out.grp.len
              obtain ⟨hB1, hB2, hB3⟩ := HB.out
              have hcb : j * 1048576 + i ≤ 1099512676352 := cnt_le (by omega) (by omega)
              generalize hcbe : j * 1048576 + i = cb at *
              have HCB : Hid (j * 1048576 + i = cb) := hcbe
              clear hcbe
              have hownA := World.ownsRow.alloc (HW3.out.grp.go hb4).own (.cells #[.slice p4 way.length c4] 25)
              have hnews := one_cellK w4 (.slice p4 way.length c4) 25
              have hone : ∀ q ∈ [Value.slice p4 way.length c4], q.oneCell' = true := fun q hq => by rw [List.mem_singleton.1 hq]; rfl
              have hlb : svs.length ≤ 1099512676352 := by omega
              have hmx : svs.length + 1 ≤ maxLen := by unfold maxLen; omega
              have hby : (svs.length + 1) * 24 ≤ 140737488355328 := by omega
              have hsz4 := hb4.size
              have hbs : w.heap.size + 1 + 1 ≤ (w4.alloc (.cells #[.slice p4 way.length c4] 25)).heap.size := by simp; omega
              have hob : 0 ≤ onL ws ∧ onL ws ≤ 2000000000000000000 := ⟨hB2, by omega⟩
              have HB' : Hid (Bnd ws cb) := HB
              have HSL : Hid _ := hsvl
              clear hws hB1 hB2 hB3 hcb hsvl hcn HB
              go_wp2_with (at_builtin; refine wpList_append_own_at _ rfl _ _ 28 rfl (w.heap.size + 1 + 1) 25 i0 (.slice none 0 0) 1 24 Try.underlying28 hi hz0 hz1 hz2 rfl (by decide) (.slice pl svs.length cl) _ _ rfl hownA ⟨w4.heap.size, 0, none⟩ 1 1 [.slice p4 way.length c4] rfl rfl hnews hone hmx hby hbs ?_)
              intro v6 w6 hown6 hg6 hnil6 hat6
              obtain ⟨p6, c6, rfl⟩ := owns_form hown6
              have hW6 := HW3.out.snoc (by omega) hb4 hO4 hown6 hg6 (by simpa using hat6)
              have b6 := hW6.box.cell (j := 0) rfl
              have hb6 : Below (w.heap.size + 1) w1 w6 := by
                have h1 : Below (w.heap.size + 1) w1 (w4.alloc (.cells #[.slice p4 way.length c4] 25)) := (hb23.trans (hb4.mono (by omega))).alloc (by omega) _
                exact h1.grown hg6 (by omega) (fun q hq => by have := (hownA.lt q hq).1; omega)
              have hob6 : Hid (onL (ws ++ [way]) = onL ws + ((way.length : Int) - 1)) := onL_snoc ws way
              have HW6 : Hid _ := hW6
              clear hown6 hg6 hnil6 hat6 hownA hnews hone hmx hby hbs hW6 b3 hb4 hO4
              have hw1 := wrap_i ((way.length : Int) - 1) (by omega) (by omega)
              have hw2 := wrap_i (onL ws + ((way.length : Int) - 1)) (by omega) (by omega)
              go_wp2
              refine ⟨⟨i + 1, svs ++ [.slice p4 way.length c4], .slice p2 way.length c2, way, by omega, by go_num, by rw [HE.out, hob6.out], by rw [HE.out]; exact HW6, hb6, ?_⟩, by simp [intOf]; omega⟩
              rw [HE.out, ← Nat.add_assoc, HCB.out]
              exact bnd_snoc HB'.out hl2 (by omega)
          · obtain rfl : i = us.length := by omega
            rw [List.take_length] at HW HB ⊢
            go_wp2
            refine ⟨⟨j + 1, svs, sv, L, by omega, by go_num, by rw [HST.out], by rw [HST.out]; exact HW, hb, ?_⟩, by simp [intOf]; omega⟩
            rw [HST.out]
            exact bnd_mono HB.out (by rw [Nat.succ_mul]; exact Nat.add_le_add_left (Nat.le_trans hdN hN1) _)
    · obtain rfl : j = N := by omega
      go_wp2
      go_ret2
      exact ⟨_, svs, rfl, HW.out.grp, hbw1⟩
end Go.Proofs.Ytgjaikekpgdehaa
