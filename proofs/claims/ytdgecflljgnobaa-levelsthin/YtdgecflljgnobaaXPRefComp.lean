/-
  The reference's Components (filigreeref06).
-/
import Derived.Test.YtdgecflljgnobaaXPRefLab
namespace Go.Proofs.Ytdgecflljgnobaa
open Go Go.Proofs Go.RowKit

theorem owns_base {W : World} {a b : Nat} {e : TypeId} {size : Nat} {v : Value} {n : Nat} {xs : List Value} (h : W.ownsRow b e size v n xs) (hab : a ≤ b) : W.ownsRow a e size v n xs := by
  obtain ⟨h1, h2⟩ := h
  refine ⟨h1, ?_⟩
  rcases h2 with h2 | ⟨g, cap, cur, hv, hb, r⟩
  · exact .inl h2
  · exact .inr ⟨g, cap, cur, hv, Nat.le_trans hab hb, r⟩
/-- A list that was made behind the others is laid behind them. -/
theorem Grp.add {h0 : Nat} {lv lv' sv : Value} {svs : List Value} {pre : List (List Int)} {W A B : World} {o : Obj} {xs : List Int} (h : Grp h0 lv svs pre W) (hh : h0 ≤ W.heap.size) (hA : Below W.heap.size W A) (hs : A.ownsRow W.heap.size 3 1 sv xs.length (xs.map (Value.int .i64)))
    (hB : B.ownsRow h0 27 1 lv' (svs.length + 1) (svs ++ [sv])) (hg : (A.alloc o).grownBy B lv.ownBlock) (hat : lv'.ownBlock = lv.ownBlock ∨ lv'.ownBlock = some (A.alloc o).heap.size) : Grp h0 lv' (svs ++ [sv]) (pre ++ [xs]) B := by
  have hA' := h.go hA
  have hkA : ∀ {e : TypeId} {size : Nat} {v : Value} {n : Nat} {zs : List Value}, A.ownsRow h0 e size v n zs → (v.ownBlock = none ∨ v.ownBlock ≠ lv.ownBlock) → B.ownsRow h0 e size v n zs := fun {e size v n zs} ho hne => owns_keep (World.ownsRow.alloc ho o) hg hne
  have hlen := h.len
  have far : ∀ {e : TypeId} {size : Nat} {x : Value} {n : Nat} {zs : List Value}, W.ownsRow h0 e size x n zs → sv.ownBlock = none ∨ sv.ownBlock ≠ x.ownBlock := fun {e size x n zs} ho => by
    cases hv : sv.ownBlock with
    | none => exact .inl rfl
    | some b =>
      refine .inr fun e => ?_
      have h1 := (hs.lt b hv).1
      have h2 := (ho.lt b e.symm).2
      omega
  have far' : ∀ {e : TypeId} {size : Nat} {x : Value} {n : Nat} {zs : List Value}, W.ownsRow h0 e size x n zs → x.ownBlock = none ∨ x.ownBlock ≠ sv.ownBlock := fun {e size x n zs} ho => by
    cases hv : x.ownBlock with
    | none => exact .inl rfl
    | some b =>
      refine .inr fun e => ?_
      have h1 := (hs.lt b e.symm).1
      have h2 := (ho.lt b hv).2
      omega
  have split : ∀ {k : Nat} {x : Value}, (svs ++ [sv])[k]? = some x → (k < svs.length ∧ svs[k]? = some x) ∨ (k = svs.length ∧ x = sv) := fun {k x} hx => by
    rw [List.getElem?_append] at hx
    by_cases hk : k < svs.length
    · rw [if_pos hk] at hx
      exact .inl ⟨hk, hx⟩
    · rw [if_neg hk] at hx
      have h1 := (List.getElem?_eq_some_iff.1 hx).1
      simp at h1
      have h2 : k = svs.length := by omega
      subst h2
      simp at hx
      exact .inr ⟨rfl, hx.symm⟩
  have row : ∀ {k : Nat} {x : Value}, svs[k]? = some x → ∃ zs : List Int, W.ownsRow h0 3 1 x zs.length (zs.map (Value.int .i64)) := fun {k x} hx => by
    have hk := (List.getElem?_eq_some_iff.1 hx).1
    exact ⟨_, h.inn k x _ hx (List.getElem?_eq_getElem (by omega))⟩
  have new : ∀ {e : TypeId} {size : Nat} {x : Value} {n : Nat} {zs : List Value}, A.ownsRow h0 e size x n zs → x.ownBlock = none ∨ x.ownBlock ≠ some (A.alloc o).heap.size := fun {e size x n zs} ho => ownB_lt ho (by simp)
  refine ⟨by simp [hlen], by rw [List.length_append]; exact hB, ?_, ?_, ?_⟩
  · intro k x zs hx hp
    rcases split hx with ⟨hk, hy⟩ | ⟨rfl, rfl⟩
    · rw [List.getElem?_append_left (by omega)] at hp
      exact hkA (hA'.inn k x zs hy hp) (h.outer k x hy)
    · rw [hlen, List.getElem?_append_right (Nat.le_refl _), Nat.sub_self] at hp
      simp at hp
      subst hp
      exact hkA (owns_base hs hh) (far h.own)
  · intro k j x x' hx hx' hkj
    rcases split hx with ⟨hk, hy⟩ | ⟨rfl, rfl⟩
    · rcases split hx' with ⟨hj, hy'⟩ | ⟨rfl, rfl⟩
      · exact h.apart k j x x' hy hy' hkj
      · obtain ⟨zs, hz⟩ := row hy
        exact far' hz
    · rcases split hx' with ⟨hj, hy'⟩ | ⟨rfl, rfl⟩
      · obtain ⟨zs, hz⟩ := row hy'
        exact far hz
      · exact absurd rfl hkj
  · intro k x hx
    rcases split hx with ⟨hk, hy⟩ | ⟨rfl, rfl⟩
    · rcases hat with e | e
      · rw [e]; exact h.outer k x hy
      · rw [e]
        exact new (hA'.inn k x _ hy (List.getElem?_eq_getElem (by omega)))
    · rcases hat with e | e
      · rw [e]; exact far h.own
      · rw [e]
        exact new (owns_base hs hh)

/-- Those from v on, below u, whose label is v. -/
def memAt (L : List Int) (v u : Nat) : List Int := ((List.range u).filter fun x => decide (v ≤ x) && decide (L.getD x 0 = (v : Int))).map fun (x : Nat) => (x : Int)
theorem memAt_start (L : List Int) (v : Nat) : memAt L v v = [] := by
  unfold memAt
  rw [List.filter_eq_nil_iff.2]
  · rfl
  · intro x hx
    have := List.mem_range.1 hx
    simp
    omega
theorem memAt_next {L : List Int} {v u : Nat} (h : v ≤ u) : memAt L v (u + 1) = if L.getD u 0 = (v : Int) then memAt L v u ++ [(u : Int)] else memAt L v u := by
  unfold memAt
  rw [List.range_succ, List.filter_append, List.map_append]
  have e : List.filter (fun x => decide (v ≤ x) && decide (L.getD x 0 = (v : Int))) [u] = if (decide (v ≤ u) && decide (L.getD u 0 = (v : Int))) = true then [u] else [] := by
    rw [List.filter_cons]
    rfl
  by_cases hu : L.getD u 0 = (v : Int)
  · have hc : (decide (v ≤ u) && decide (L.getD u 0 = (v : Int))) = true := by rw [decide_eq_true h, decide_eq_true hu]; rfl
    rw [if_pos hu, e, if_pos hc]
    rfl
  · have hc : ¬ (decide (v ≤ u) && decide (L.getD u 0 = (v : Int))) = true := by rw [decide_eq_false hu, Bool.and_false]; simp
    rw [if_neg hu, e, if_neg hc, List.map_nil, List.append_nil]
theorem memAt_len (L : List Int) (v u : Nat) : (memAt L v u).length ≤ u := by
  unfold memAt
  rw [List.length_map]
  exact Nat.le_trans (List.length_filter_le _ _) (by simp)
/-- The components of the vertices below j. -/
def rcAt (L : List Int) (N : Nat) : Nat → List (List Int)
  | 0 => []
  | j + 1 => if L.getD j 0 = (j : Int) then rcAt L N j ++ [memAt L j N] else rcAt L N j
theorem rcAt_len (L : List Int) (N : Nat) : ∀ j, (rcAt L N j).length ≤ j
  | 0 => by simp [rcAt]
  | j + 1 => by
    have := rcAt_len L N j
    unfold rcAt
    split
    · simp; omega
    · omega

set_option maxRecDepth 100000 in
set_option maxHeartbeats 4000000 in
theorem refComponents_any (N : Nat) (l : List Ed) (hR : RightG (N : Int) l) (sv : Value) (w : World) (hl : Edges w.heap.size w sv l) :
    Calls Try.prog 30 #[.agg #[.int .i64 (N : Int), sv]] w fun r w' => ∃ lv svs h0, r = .returned lv ∧ Grp h0 lv svs (rcAt (labAt N l N) N N) w' ∧ Below w.heap.size w w' := by
  obtain ⟨p, c, rfl⟩ := hl.len
  have hg1 : Grew w (w.alloc (.cells #[.int .i64 (N : Int), .slice p l.length c] 24)) := (Grew.refl w).alloc _
  have hX1 : Blk 24 (w.alloc (.cells #[.int .i64 (N : Int), .slice p l.length c] 24)) w.heap.size [.int .i64 (N : Int), .slice p l.length c] := heap_alloc_new w _
  obtain ⟨i0, hi, hz0, hz1, hz2⟩ := info_parts infoI
  obtain ⟨j0, kj, kz0, kz1, kz2⟩ := info_parts infoSl
  have hn1 := hR.n1
  have q0 := hX1.cell (j := 0) rfl
  have q1 := hX1.cell (j := 1) rfl
  have hlb := refLabels_any N l hR _ _ (hl.go hg1.below)
  go_enter Try.func30, Try.ntmps30
  go_wp2_with fail
  refine hlb.mono ?_
  clear hlb
  rintro e w2 ⟨g, rfl, hB2, hgw, hb2⟩
  have hbw2 := hg1.below.trans (hb2.mono hg1.below.size)
  have hX2 := hX1.go hb2
  have hwl : w.heap.size < w2.heap.size := hX2.lt
  have hgl : g < w2.heap.size := hB2.lt
  have x0 := hX2.cell (j := 0) rfl
  have hll := labAt_len N l N
  obtain ⟨L, HL⟩ : ∃ L, Hid (labAt N l N = L) := ⟨_, rfl⟩
  rw [HL.out] at hB2 hll
  clear q0 q1 hX1 hb2 hg1 hX2
  go_wp2
  go_loopw [4, 5] (fun ov iv wr => ∃ (j : Nat) (svs : List Value), j ≤ N ∧ iv = .int .i64 j ∧ Grp w2.heap.size ov svs (rcAt L N j) wr ∧ Below w2.heap.size w2 wr) (fun _ iv _ => N - (intOf iv).toNat)
  case atStart => exact ⟨0, [], Nat.zero_le _, rfl, Grp.start _ _, Below.refl _ _⟩
  case round =>
    obtain ⟨j, svs, hj, rfl, hGr, hb⟩ := hrel
    have y0 := (hb.cell (p := ⟨w.heap.size, 0, none⟩) hwl).trans x0
    have hBr := hB2.below hb hgl
    have hbw : Below w.heap.size w wr := hbw2.trans (hb.mono (by omega))
    by_cases hlt : j < N
    · have hjl : (j : Int) < (N : Int) := by omega
      have t0 : wr.cell? ⟨g, j, none⟩ = some (.int .i64 (L.getD j 0)) := hBr.cell (by rw [List.getElem?_map, List.getElem?_eq_getElem (by omega)]; simp [show j < L.length by omega])
      have HRC : Hid (rcAt L N (j + 1) = if L.getD j 0 = (j : Int) then rcAt L N j ++ [memAt L j N] else rcAt L N j) := rfl
      have hrl := rcAt_len L N j
      have hsl := hGr.len
      have hs2 : svs.length ≤ j := by omega
      clear hsl hrl
      obtain ⟨al, cl, rfl⟩ := owns_formP hGr.own
      by_cases he : L.getD j 0 = (j : Int)
      · have he' : (L.getD j 0 != (j : Int)) = false := by simpa using he
        have HRN : Hid (rcAt L N (j + 1) = rcAt L N j ++ [memAt L j N]) := by rw [Hid, HRC.out, if_pos he]
        have hszr := hb.size
        clear HRC he
        generalize L.getD j 0 = a at he' t0
        generalize wr = w4 at *
        go_wp2
        go_loopw [6, 7] (fun cv uv wx => ∃ u : Nat, j ≤ u ∧ u ≤ N ∧ uv = .int .i64 u ∧ wx.ownsRow w4.heap.size 3 1 cv (memAt L j u).length ((memAt L j u).map (Value.int .i64)) ∧ Below w4.heap.size w4 wx) (fun _ uv _ => N - (intOf uv).toNat)
        case atStart => exact ⟨j, Nat.le_refl _, by omega, rfl, by rw [memAt_start]; exact World.ownsRow_nil _ _ _ _, Below.refl _ _⟩
        case round =>
          obtain ⟨u, hu1, hu2, rfl, hown, hbx⟩ := hrel
          have z0 := (hbx.cell (p := ⟨w.heap.size, 0, none⟩) (by simp only; omega)).trans y0
          have hBx := hBr.below hbx (by omega)
          have hml := memAt_len L j u
          obtain ⟨ax, cx, rfl⟩ := owns_formP hown
          by_cases hul : u < N
          · have hul' : (u : Int) < (N : Int) := by omega
            have t1 : wr.cell? ⟨g, u, none⟩ = some (.int .i64 (L.getD u 0)) := hBx.cell (by rw [List.getElem?_map, List.getElem?_eq_getElem (by omega)]; simp [show u < L.length by omega])
            have HM : Hid (memAt L j (u + 1) = if L.getD u 0 = (j : Int) then memAt L j u ++ [(u : Int)] else memAt L j u) := memAt_next hu1
            by_cases hd : L.getD u 0 = (j : Int)
            · have hd' : (L.getD u 0 == (j : Int)) = true := by simpa using hd
              have HM2 : Hid (memAt L j (u + 1) = memAt L j u ++ [(u : Int)]) := by rw [Hid, HM.out, if_pos hd]
              clear HM hd
              generalize L.getD u 0 = d at *
              generalize memAt L j u = R at *
              have hownA := hown.alloc (.cells #[.int .i64 (u : Int)] 3)
              have hnews := one_cell wr (.int .i64 (u : Int)) 3
              have hone : ∀ z ∈ [Value.int .i64 (u : Int)], z.oneCell' = true := by intro z hz; rw [List.mem_singleton.1 hz]; rfl
              have hmx : R.length + 1 ≤ maxLen := by unfold maxLen; omega
              have hby : (R.length + 1) * 8 ≤ 140737488355328 := by omega
              have hbs : w4.heap.size ≤ (wr.alloc (.cells #[.int .i64 (u : Int)] 3)).heap.size := by have := hbx.size; simp; omega
              have hlow : ∀ k, (Value.slice ax R.length cx).ownBlock = some k → w4.heap.size ≤ k := fun k hk => (hown.lt k hk).1
              go_wp2_with (at_builtin; refine wpList_append_own_at _ rfl _ _ 27 rfl w4.heap.size 3 i0 (.int .i64 0) 1 8 Try.underlying27 hi hz0 hz1 hz2 rfl (by decide) (.slice ax R.length cx) _ _ rfl hownA ⟨wr.heap.size, 0, none⟩ 1 1 [.int .i64 (u : Int)] rfl rfl hnews hone hmx hby hbs ?_)
              intro v6 w6 hown6 hg6 hnil6 hat6
              obtain ⟨a6, m6, k6, rfl⟩ := owns_slice hown6
              have hb6 : Below w4.heap.size w4 w6 := (hbx.alloc hbx.size _).grown hg6 hbs hlow
              have hown6' : w6.ownsRow w4.heap.size 3 1 (.slice a6 m6 k6) (R ++ [(u : Int)]).length ((R ++ [(u : Int)]).map (Value.int .i64)) := by
                rw [List.length_append, List.map_append]; exact hown6
              clear hown6 hg6 hnil6 hat6 hownA hnews hone
              go_wp2
              exact ⟨⟨u + 1, by omega, by omega, by go_num, by rw [HM2.out]; exact hown6', hb6⟩, by simp [intOf]; omega⟩
            · have hd' : (L.getD u 0 == (j : Int)) = false := by simpa using hd
              have HM2 : Hid (memAt L j (u + 1) = memAt L j u) := by rw [Hid, HM.out, if_neg hd]
              clear HM hd
              generalize L.getD u 0 = d at *
              go_wp2
              exact ⟨⟨u + 1, by omega, by omega, by go_num, by rw [HM2.out]; exact hown, hbx⟩, by simp [intOf]; omega⟩
          · obtain rfl : u = N := by omega
            have hul' : ¬ (u : Int) < (u : Int) := by omega
            generalize memAt L j u = R at *
            have hLA := World.ownsRow.alloc (hGr.go hbx).own (.cells #[.slice ax R.length cx] 27)
            have hnews := one_cell wr (.slice ax R.length cx) 27
            have hone : ∀ z ∈ [Value.slice ax R.length cx], z.oneCell' = true := by intro z hz; rw [List.mem_singleton.1 hz]; rfl
            have hmx : svs.length + 1 ≤ maxLen := by unfold maxLen; omega
            have hby : (svs.length + 1) * 24 ≤ 140737488355328 := by omega
            have hbs : w2.heap.size ≤ (wr.alloc (.cells #[.slice ax R.length cx] 27)).heap.size := by have := hbx.size; simp; omega
            have hlow : ∀ k, (Value.slice al svs.length cl).ownBlock = some k → w2.heap.size ≤ k := fun k hk => (hGr.own.lt k hk).1
            go_wp2_with (at_builtin; refine wpList_append_own_at _ rfl _ _ 38 rfl w2.heap.size 27 j0 (.slice none 0 0) 1 24 Try.underlying38 kj kz0 kz1 kz2 rfl (by decide) (.slice al svs.length cl) _ _ rfl hLA ⟨wr.heap.size, 0, none⟩ 1 1 [.slice ax R.length cx] rfl rfl hnews hone hmx hby hbs ?_)
            intro v6 w6 hown6 hg6 hnil6 hat6
            have hGn := hGr.add hszr hbx hown hown6 hg6 (by rw [World.size_alloc]; exact hat6)
            obtain ⟨a6, m6, k6, rfl⟩ := owns_slice hown6
            have hb6 : Below w2.heap.size w2 w6 := ((hb.trans (hbx.mono hszr)).alloc (by have := hbx.size; omega) _).grown hg6 hbs hlow
            clear hown6 hg6 hnil6 hat6 hLA hnews hone
            go_wp2
            exact ⟨⟨j + 1, svs ++ [.slice ax R.length cx], by omega, by go_num, by rw [HRN.out]; exact hGn, hb6⟩, by simp [intOf]; omega⟩
      · have he' : (L.getD j 0 != (j : Int)) = true := by simpa using he
        have HRN : Hid (rcAt L N (j + 1) = rcAt L N j) := by rw [Hid, HRC.out, if_neg he]
        clear HRC he
        generalize L.getD j 0 = a at *
        go_wp2
        exact ⟨⟨j + 1, svs, by omega, by go_num, by rw [HRN.out]; exact hGr, hb⟩, by simp [intOf]; omega⟩
    · obtain rfl : j = N := by omega
      have hjl : ¬ (j : Int) < (j : Int) := by omega
      go_wp2
      go_ret
      rw [HL.out]
      exact ⟨_, rfl, ⟨svs, _, hGr⟩, hbw⟩
end Go.Proofs.Ytdgecflljgnobaa
