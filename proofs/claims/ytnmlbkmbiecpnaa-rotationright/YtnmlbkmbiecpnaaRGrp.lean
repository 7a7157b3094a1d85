/-
  Lists of faces, as a call makes them; the contract of slices.Clone at darts; what rotation.Faces does with each face.
-/
import Derived.Test.YtnmlbkmbiecpnaaRRound
import Derived.Test.YtnmlbkmbiecpnaaGHeldL
import Derived.Test.YtnmlbkmbiecpnaaM5
namespace Go.Proofs.Ytnmlbkmbiecpnaa
open Go Go.Proofs Go.RowKit

/-- The lists: their slices svs lie in the row lv; each row is its own. -/
structure GrpD (h0 : Nat) (lv : Value) (svs : List Value) (pre : List (List Dt)) (W : World) : Prop where
  len : svs.length = pre.length
  own : W.ownsRow h0 50 1 lv svs.length svs
  inn : ∀ (k : Nat) (sv : Value) (xs : List Dt), svs[k]? = some sv → pre[k]? = some xs → W.ownsRow h0 27 2 sv xs.length (flatD xs)
  apart : ∀ (k j : Nat) (sv sv' : Value), svs[k]? = some sv → svs[j]? = some sv' → k ≠ j → sv.ownBlock = none ∨ sv.ownBlock ≠ sv'.ownBlock
  outer : ∀ (k : Nat) (sv : Value), svs[k]? = some sv → sv.ownBlock = none ∨ sv.ownBlock ≠ lv.ownBlock
theorem GrpD.start (h0 : Nat) (W : World) : GrpD h0 (.slice none 0 0) [] [] W :=
  ⟨rfl, World.ownsRow_nil _ _ _ _, fun k sv xs h => by simp at h, fun k j sv sv' h => by simp at h, fun k sv h => by simp at h⟩
theorem GrpD.go {h0 : Nat} {lv : Value} {svs : List Value} {pre : List (List Dt)} {A B : World} (h : GrpD h0 lv svs pre A) (hb : Below A.heap.size A B) : GrpD h0 lv svs pre B := by
  have hk : ∀ {e : TypeId} {size : Nat} {v : Value} {n : Nat} {xs : List Value}, A.ownsRow h0 e size v n xs → B.ownsRow h0 e size v n xs := fun {e size v n xs} ho => by
    refine owns_keep ho (grown_below' hb none) ?_
    cases v.ownBlock with
    | none => exact .inl rfl
    | some k => exact .inr (by simp)
  exact ⟨h.len, hk h.own, fun k sv xs h1 h2 => hk (h.inn k sv xs h1 h2), h.apart, h.outer⟩
theorem GrpD.low {h0 : Nat} {lv : Value} {svs : List Value} {pre : List (List Dt)} {W : World} (h : GrpD h0 lv svs pre W) {p : Addr} (hp : p.block < h0) (u : Value) : GrpD h0 lv svs pre (W.setCell p u) :=
  ⟨h.len, owns_lowset h.own hp u, fun k sv xs h1 h2 => owns_lowset (h.inn k sv xs h1 h2) hp u, h.apart, h.outer⟩
/-- A list that was made behind the others is laid behind them. -/
theorem GrpD.add {h0 : Nat} {lv lv' sv : Value} {svs : List Value} {pre : List (List Dt)} {W A B : World} {o : Obj} {xs : List Dt} (h : GrpD h0 lv svs pre W) (hh : h0 ≤ W.heap.size) (hA : Below W.heap.size W A) (hs : A.ownsRow W.heap.size 27 2 sv xs.length (flatD xs))
    (hB : B.ownsRow h0 50 1 lv' (svs.length + 1) (svs ++ [sv])) (hg : (A.alloc o).grownBy B lv.ownBlock) (hat : lv'.ownBlock = lv.ownBlock ∨ lv'.ownBlock = some (A.alloc o).heap.size) : GrpD h0 lv' (svs ++ [sv]) (pre ++ [xs]) B := by
  have hA' := h.go hA
  have hkA : ∀ {e : TypeId} {size : Nat} {v : Value} {n : Nat} {zs : List Value}, A.ownsRow h0 e size v n zs → (v.ownBlock = none ∨ v.ownBlock ≠ lv.ownBlock) → B.ownsRow h0 e size v n zs := fun {e size v n zs} ho hne => owns_keep (World.ownsRow.alloc ho o) hg hne
  have hlen := h.len
  have far : ∀ {e : TypeId} {size : Nat} {x : Value} {n : Nat} {zs : List Value}, W.ownsRow h0 e size x n zs → sv.ownBlock = none ∨ sv.ownBlock ≠ x.ownBlock := fun {e size x n zs} ho => by
    cases hv : sv.ownBlock with
    | none => exact .inl rfl
    | some b =>
      refine .inr fun e => ?_
      have h1 := (hs.lt b hv).1
      have h2 := (ho.lt b e.symm).2
      omega
  have far' : ∀ {e : TypeId} {size : Nat} {x : Value} {n : Nat} {zs : List Value}, W.ownsRow h0 e size x n zs → x.ownBlock = none ∨ x.ownBlock ≠ sv.ownBlock := fun {e size x n zs} ho => by
    cases hv : x.ownBlock with
    | none => exact .inl rfl
    | some b =>
      refine .inr fun e => ?_
      have h1 := (hs.lt b e.symm).1
      have h2 := (ho.lt b hv).2
      omega
  have split : ∀ {k : Nat} {x : Value}, (svs ++ [sv])[k]? = some x → (k < svs.length ∧ svs[k]? = some x) ∨ (k = svs.length ∧ x = sv) := fun {k x} hx => by
    rw [List.getElem?_append] at hx
    by_cases hk : k < svs.length
    · rw [if_pos hk] at hx
      exact .inl ⟨hk, hx⟩
    · rw [if_neg hk] at hx
      have h1 := (List.getElem?_eq_some_iff.1 hx).1
      simp at h1
      have h2 : k = svs.length := by omega
      subst h2
      simp at hx
      exact .inr ⟨rfl, hx.symm⟩
  have row : ∀ {k : Nat} {x : Value}, svs[k]? = some x → ∃ zs : List Dt, W.ownsRow h0 27 2 x zs.length (flatD zs) := fun {k x} hx => by
    have hk := (List.getElem?_eq_some_iff.1 hx).1
    exact ⟨_, h.inn k x _ hx (List.getElem?_eq_getElem (by omega))⟩
  have new : ∀ {e : TypeId} {size : Nat} {x : Value} {n : Nat} {zs : List Value}, A.ownsRow h0 e size x n zs → x.ownBlock = none ∨ x.ownBlock ≠ some (A.alloc o).heap.size := fun {e size x n zs} ho => ownB_lt ho (by simp)
  refine ⟨by simp [hlen], by rw [List.length_append]; exact hB, ?_, ?_, ?_⟩
  · intro k x zs hx hp
    rcases split hx with ⟨hk, hy⟩ | ⟨rfl, rfl⟩
    · rw [List.getElem?_append_left (by omega)] at hp
      exact hkA (hA'.inn k x zs hy hp) (h.outer k x hy)
    · rw [hlen, List.getElem?_append_right (Nat.le_refl _), Nat.sub_self] at hp
      simp at hp
      subst hp
      exact hkA (owns_base hs hh) (far h.own)
  · intro k j x x' hx hx' hkj
    rcases split hx with ⟨hk, hy⟩ | ⟨rfl, rfl⟩
    · rcases split hx' with ⟨hj, hy'⟩ | ⟨rfl, rfl⟩
      · exact h.apart k j x x' hy hy' hkj
      · obtain ⟨zs, hz⟩ := row hy
        exact far' hz
    · rcases split hx' with ⟨hj, hy'⟩ | ⟨rfl, rfl⟩
      · obtain ⟨zs, hz⟩ := row hy'
        exact far hz
      · exact absurd rfl hkj
  · intro k x hx
    rcases split hx with ⟨hk, hy⟩ | ⟨rfl, rfl⟩
    · rcases hat with e | e
      · rw [e]; exact h.outer k x hy
      · rw [e]
        exact new (hA'.inn k x _ hy (List.getElem?_eq_getElem (by omega)))
    · rcases hat with e | e
      · rw [e]; exact far h.own
      · rw [e]
        exact new (owns_base hs hh)

theorem flatD_len : ∀ L : List Dt, (flatD L).length = L.length * 2
  | [] => rfl
  | d :: L => by
    have e : flatD (d :: L) = [.int .i64 d.1, .int .i64 d.2] ++ flatD L := rfl
    rw [e, List.length_append, flatD_len L, List.length_cons]
    simp
    omega
theorem flatD_cells {n : Nat} {w : World} {b off c : Nat} {L : List Dt} (h : Drts n w (.slice (some ⟨b, off, none⟩) L.length c) L) : ∀ (j : Nat) (u : Value), (flatD L)[j]? = some u → w.cell? ((⟨b, off, none⟩ : Addr).add j) = some u := by
  intro j u hu
  have hj := (List.getElem?_eq_some_iff.1 hu).1
  rw [flatD_len] at hj
  have hi : j / 2 < L.length := by omega
  obtain ⟨b', off', e, _, _, c0, c1⟩ := h.cellAt hi
  simp only [Option.some.injEq, Addr.mk.injEq, and_true] at e
  obtain ⟨rfl, rfl⟩ := e
  obtain ⟨k0, k1⟩ := flatD_at (List.getElem?_eq_getElem hi)
  rw [Go.WideShapes.add_plain]
  rcases Nat.mod_two_eq_zero_or_one j with h0 | h0
  · have e : j = j / 2 * 2 := by omega
    rw [← e] at k0 c0
    rw [hu] at k0
    rw [Option.some.inj k0]
    exact c0
  · have e : j = j / 2 * 2 + 1 := by omega
    rw [← e] at k1
    rw [hu] at k1
    rw [Option.some.inj k1]
    rw [Nat.add_assoc, ← e] at c1
    exact c1
theorem flatD_one : ∀ (L : List Dt), ∀ u ∈ flatD L, u.oneCell' = true := by
  intro L u hu
  unfold flatD at hu
  obtain ⟨d, _, h⟩ := List.mem_flatMap.1 hu
  exact oneD d u h

set_option maxRecDepth 100000 in
set_option maxHeartbeats 2000000 in
theorem cloneD_any (L : List Dt) (hL : L.length ≤ 8388608) (hne : L ≠ []) (sv : Value) (w : World) (h : Drts w.heap.size w sv L) :
    Calls Try.prog 41 #[sv] w fun e w' => ∃ v', e = .returned v' ∧ w'.ownsRow w.heap.size 27 2 v' L.length (flatD L) ∧ Below w.heap.size w w' := by
  obtain ⟨p, c, rfl⟩ := h.len
  have hpos := List.length_pos_iff.2 hne
  obtain ⟨b, off, rfl, hbb, hcap, _, _⟩ := h.cellAt hpos
  obtain ⟨i0, hi, hz0, hz1, hz2⟩ := info_parts infoDt
  have hbA : Below w.heap.size w (w.alloc (.cells #[] 27)) := (Below.refl _ _).alloc (Nat.le_refl _) _
  have hB : Blk 27 (w.alloc (.cells #[] 27)) w.heap.size [] := heap_alloc_new w _
  have hown : (w.alloc (.cells #[] 27)).ownsRow w.heap.size 27 2 (.slice (some ⟨w.heap.size, 0, none⟩) 0 0) 0 [] := ⟨by simp, .inr ⟨w.heap.size, 0, #[], rfl, Nat.le_refl _, hB, Nat.le_refl _, by unfold maxLen; omega, rfl, rfl⟩⟩
  have heq : (binOp .eql 50 (.slice (some ⟨b, off, none⟩) L.length c) (.slice none 0 0)).run Try.prog w = .ok (.bool false) w := by rfl
  have hnews := flatD_cells (h.go hbA)
  have hone := flatD_one L
  have hfl := flatD_len L
  have hmx : 0 + L.length ≤ maxLen := by unfold maxLen; omega
  have hby : (0 + L.length) * 16 ≤ 140737488355328 := by omega
  have hbs : w.heap.size ≤ (w.alloc (.cells #[] 27)).heap.size := by simp
  go_enter Try.func41, Try.ntmps41
  go_wp2_with (at_builtin; refine wpList_append_own_at _ rfl _ _ 50 rfl w.heap.size 27 i0 (.agg #[.int .i64 0, .int .i64 0]) 2 16 Try.underlying50 hi hz0 hz1 hz2 rfl (by decide) (.slice (some ⟨w.heap.size, 0, none⟩) 0 0) _ _ rfl hown ⟨b, off, none⟩ L.length c (flatD L) rfl hfl hnews hone hmx hby hbs ?_)
  intro v7 w7 hown7 hg7 hnil7 hat7
  obtain ⟨a7, m7, k7, rfl⟩ := owns_slice hown7
  have hb7 : Below w.heap.size w w7 := hbA.grown hg7 hbs (fun k e => (hown.lt k e).1)
  have HO : Hid _ := hown7
  clear hown7 hg7 hnil7 hat7 hnews hone hfl hown
  go_wp2
  go_ret
  exact ⟨.slice a7 m7 k7, rfl, HO.out, hb7⟩
/-- What Faces has gathered: fb is its variable; all else below h0 is as it was in w0. -/
structure IF (w0 : World) (h0 fb : Nat) (fs : List (List Dt)) (bs : List Nat) (W : World) (lv : Value) (svs : List Value) : Prop where
  grp : GrpD h0 lv svs fs W
  var : Blk 35 W fb [lv]
  inl : ∀ q, lv.ownBlock = some q → q ∈ bs
  ins : ∀ sv ∈ svs, ∀ q, sv.ownBlock = some q → q ∈ bs
  os : W.os = w0.os
  tape : W.tape = w0.tape
  output : W.output = w0.output
  size : h0 ≤ W.heap.size
  low : ∀ q, q < h0 → q ≠ fb → W.heap[q]? = w0.heap[q]?
  few : fs.length ≤ (fs.map List.length).sum
theorem GrpD.same {h0 : Nat} {lv : Value} {svs : List Value} {pre : List (List Dt)} {A B : World} (h : GrpD h0 lv svs pre A) (h1 : ∀ q, lv.ownBlock = some q → B.heap[q]? = A.heap[q]?) (h2 : ∀ sv ∈ svs, ∀ q, sv.ownBlock = some q → B.heap[q]? = A.heap[q]?) : GrpD h0 lv svs pre B :=
  ⟨h.len, owns_same h.own h1, fun k sv xs hk hp => owns_same (h.inn k sv xs hk hp) (h2 sv (List.mem_of_getElem? hk)), h.apart, h.outer⟩
theorem GrpD.lts {h0 : Nat} {lv : Value} {svs : List Value} {pre : List (List Dt)} {W : World} (h : GrpD h0 lv svs pre W) {sv : Value} (hs : sv ∈ svs) {q : Nat} (hq : sv.ownBlock = some q) : h0 ≤ q ∧ q < W.heap.size := by
  obtain ⟨k, hk⟩ := List.getElem?_of_mem hs
  have hlt := (List.getElem?_eq_some_iff.1 hk).1
  exact owns_blk (h.inn k sv _ hk (List.getElem?_eq_getElem (by rw [← h.len]; exact hlt))) hq
theorem IF.still {w0 : World} {h0 fb : Nat} (hfb : fb < h0) {fs : List (List Dt)} {bs : List Nat} {A B : World} {lv : Value} {svs : List Value} (h : IF w0 h0 fb fs bs A lv svs) (hS : StillR h0 bs A B) : IF w0 h0 fb fs bs B lv svs := by
  refine ⟨h.grp.same (fun q hq => hS.block q (owns_blk h.grp.own hq).2 (.inr (h.inl q hq))) (fun sv hs q hq => hS.block q (h.grp.lts hs hq).2 (.inr (h.ins sv hs q hq))), (hS.block fb h.var.lt (.inl hfb)).trans h.var, h.inl, h.ins, hS.os.trans h.os, hS.tape.trans h.tape, hS.output.trans h.output, Nat.le_trans h.size hS.size, fun q hq hne => (hS.block q (Nat.lt_of_lt_of_le hq h.size) (.inl hq)).trans (h.low q hq hne), h.few⟩
theorem infoDs : (Try.prog.info? 50).map (fun i => (i.zero, i.size, i.bytes)) = some (some (.slice none 0 0), 1, 24) := by kernel_rfl

set_option maxRecDepth 100000 in
set_option maxHeartbeats 4000000 in
theorem faces1_tells (w0 : World) (h0 fb : Nat) (hfb : fb < h0) (S : List Dt) : Tells h0 40 #[.pointer (some ⟨fb, 0, none⟩)] S (fun fs bs W => ∃ lv svs, IF w0 h0 fb fs bs W lv svs) := by
  intro fs bs face fv W hIF hbs hsz hne hfS hsum hfo hap
  obtain ⟨lv, svs, hIF⟩ := hIF
  obtain ⟨i0, hi, hz0, hz1, hz2⟩ := info_parts infoDs
  have hfp := List.length_pos_iff.2 hne
  have hc0 := hIF.var.cell (j := 0) rfl
  obtain ⟨pl, cl, rfl⟩ := owns_formP hIF.grp.own
  have hfew := hIF.few
  have hlen := hIF.grp.len
  have hmx : svs.length + 1 ≤ maxLen := by unfold maxLen; omega
  have hby : (svs.length + 1) * 24 ≤ 140737488355328 := by omega
  clear hlen hfew
  have hmix := mixed
  have hcl := cloneD_any face (by omega) hne fv
  show Calls Try.prog 40 #[fv, .pointer (some ⟨fb, 0, none⟩)] W _
  obtain ⟨pf, cf, rfl⟩ := owns_formP hfo
  have HIF : Hid _ := hIF
  have HFO : Hid _ := hfo
  have HBS : Hid _ := hbs
  clear hIF hfo hbs hap hfS
  go_enter Try.func40, Try.ntmps40
  go_wp2
  refine wp_region_last (S := (fun w' : World => w'.cell? ⟨fb, 0, none⟩ = some (.slice pl svs.length cl))) (by kernel_rfl) ?_ (fun hHeld => ?_)
  · (try dsimp only); go_keep
  refine wpAnyL_take (i := 0) (v := ?_) rfl (by kernel_rfl) (by kernel_rfl) (by kernel_rfl) (by kernel_rfl) (fun _ _ _ h => h) (Or.inl ⟨by rfl, ?_⟩) (by assumption) ?_
  rotate_left
  · intro w hSw; (try dsimp only at hSw); go_simp; (try with_reducible rfl)
  try simp only [Act.put, List.setIfInBounds_toArray]
  refine wpAnyL_take (i := 1) (v := ?_) rfl (by kernel_rfl) (by kernel_rfl) (by kernel_rfl) (by kernel_rfl) (fun _ _ _ h => h) (Or.inl ⟨by rfl, ?_⟩) (by assumption) ?_
  rotate_left
  · intro w hSw; (try dsimp only at hSw); go_simp; (try with_reducible rfl)
  try simp only [Act.put]
  have hbd : Below W.heap.size W W.drew := below_drewN (Below.refl _ _) 1
  generalize W.drew = wd at *
  refine wpAnyL_ready (rs := [2]) (by kernel_rfl) (by simp) ?_
  refine AllReadyL.cons rfl (fun K hK => ?_) AllReadyL.nil
  go_simp
  refine (hcl wd ((Drts.of_owns HFO.out).go hbd)).mono ?_
  rintro e w4 ⟨v4, rfl, hO4, hb4⟩
  have hb34 := hbd.trans (hb4.mono hbd.size)
  have c4 := cell_keepK hb34 hc0
  refine hK.out _ _ c4 (fun hHeld4 => ?_)
  clear hK K hHeld
  obtain ⟨p4, k4, rfl⟩ := owns_formP hO4
  try simp only [Act.put, List.setIfInBounds_toArray, List.set_cons_zero, List.set_cons_succ]
  have hb4A : Below w4.heap.size w4 (w4.alloc (.cells #[.slice p4 face.length k4] 50)) := (Below.refl _ _).alloc (Nat.le_refl _) _
  have hG4 := HIF.out.grp.go hb34
  have hownA := owns_below hG4.own hb4A
  have hnw : Src (w4.alloc (.cells #[.slice p4 face.length k4] 50)) (.slice (some ⟨w4.heap.size, 0, none⟩) 1 1) 1 1 [.slice p4 face.length k4] := .inr ⟨⟨w4.heap.size, 0, none⟩, 1, rfl, rfl, one_cell w4 (.slice p4 face.length k4) 50, fun z hz => by rw [List.mem_singleton.1 hz]; rfl⟩
  have hsz4 : h0 ≤ (w4.alloc (.cells #[.slice p4 face.length k4] 50)).heap.size := by have := hb34.size; simp; omega
  have hfb4 : fb < w4.heap.size := by have := hb34.size; omega
  refine wpAnyL_ready (rs := [3]) (by kernel_rfl) (by simp) ?_
  refine AllReadyL.cons rfl (fun K hK => ?_) AllReadyL.nil
  go_simp
  refine hK.out _ _ (cell_keepK hb4A c4) (fun hHeld5 => ?_)
  clear hK K
  try simp only [Act.put, List.setIfInBounds_toArray, List.set_cons_zero, List.set_cons_succ]
  refine wpAnyL_ready (rs := [4]) (by kernel_rfl) (by simp) ?_
  refine AllReadyL.cons rfl (fun K hK => ?_) AllReadyL.nil
  refine step_append_src rfl _ _ 35 rfl h0 50 i0 (.slice none 0 0) 1 24 Try.underlying35 hi hz0 hz1 hz2 rfl (by decide) (.slice pl svs.length cl) svs.length svs rfl hownA (.slice (some ⟨w4.heap.size, 0, none⟩) 1 1) 1 [.slice p4 face.length k4] rfl hnw hmx hby hsz4 ?_
  intro v8 w8 ho8 hg8 hat8
  obtain ⟨a8, m8, k8, rfl⟩ := owns_slice ho8
  have hlvb : ∀ q, (Value.slice pl svs.length cl).ownBlock = some q → h0 ≤ q := fun q hq => (owns_blk hownA hq).1
  have hV8 : Blk 35 w8 fb [.slice pl svs.length cl] := (hg8.block fb (by simp; omega) (fun e => by have := hlvb fb e.symm; omega)).trans ((HIF.out.var.go hb34).go hb4A)
  refine hK.out _ _ (hV8.cell (j := 0) rfl) (fun hHeld8 => ?_)
  clear hK K
  try simp only [Act.put, List.setIfInBounds_toArray]
  have g0 := hV8.cell (j := 0) rfl
  have f0 := hV8.frozen 0
  have hV9 := hV8.set 0 (.slice a8 m8 k8)
  have hb3A := hb34.trans (hb4A.mono hb34.size)
  have hsz8 := hg8.size
  have hszA := hb3A.size
  have hG9 : GrpD h0 (.slice a8 m8 k8) (svs ++ [.slice p4 face.length k4]) (fs ++ [face]) (w8.setCell ⟨fb, 0, none⟩ (.slice a8 m8 k8)) := GrpD.low (HIF.out.grp.add HIF.out.size hb34 (owns_base hO4 hbd.size) ho8 hg8 hat8) (by simp; omega) _
  have HFIN : Hid (∃ bs', (∃ lv svs, IF w0 h0 fb (fs ++ [face]) bs' (w8.setCell ⟨fb, 0, none⟩ (.slice a8 m8 k8)) lv svs) ∧ ToldR h0 bs bs' W (w8.setCell ⟨fb, 0, none⟩ (.slice a8 m8 k8))) := by
    have h := HIF.out
    refine ⟨bs ++ ((Value.slice p4 face.length k4).ownBlock.toList ++ (Value.slice a8 m8 k8).ownBlock.toList), ⟨_, _, hG9, hV9, fun q hq => by rw [hq]; simp, fun sv hs q hq => ?_, ?_, ?_, ?_, ?_, fun q hq hne => ?_, ?_⟩, ?_, fun q h1 h2 h3 => ?_, fun q hq => ?_, fun q hq => ?_⟩
    · rcases List.mem_append.1 hs with h1 | h1
      · exact List.mem_append_left _ (h.ins sv h1 q hq)
      · rw [List.mem_singleton.1 h1] at hq
        rw [hq]
        simp
    · exact (hg8.os.trans hb3A.os).trans h.os
    · exact (hg8.tape.trans hb3A.tape).trans h.tape
    · exact (hg8.output.trans hb3A.output).trans h.output
    · simp; omega
    · have e1 : (w8.setCell ⟨fb, 0, none⟩ (.slice a8 m8 k8)).heap[q]? = w8.heap[q]? := Below.heap_setCell _ _ _ _ (by simpa using hne)
      rw [e1, hg8.block q (by omega) (fun e => by have := hlvb q e.symm; omega), hb3A.block q (by omega)]
      exact h.low q hq hne
    · rw [List.map_append, List.sum_append, List.length_append]
      have := h.few
      simp
      omega
    · simp; omega
    · have e1 : (w8.setCell ⟨fb, 0, none⟩ (.slice a8 m8 k8)).heap[q]? = w8.heap[q]? := Below.heap_setCell _ _ _ _ (by simp; omega)
      rw [e1, hg8.block q (by omega) (fun e => h3 (h.inl q e.symm)), hb3A.block q h2]
    · rcases List.mem_append.1 hq with h1 | h1
      · exact .inl h1
      · rcases List.mem_append.1 h1 with h2 | h2
        · right
          have e : (Value.slice p4 face.length k4).ownBlock = some q := by simpa using h2
          have := (owns_blk hO4 e).1
          have := hbd.size
          omega
        · have e : (Value.slice a8 m8 k8).ownBlock = some q := by simpa using h2
          rcases hat8 with h3 | h3
          · rw [h3] at e
            exact .inl (h.inl q e)
          · rw [h3] at e
            have := Option.some.inj e
            right
            omega
    · have hs : (w8.setCell ⟨fb, 0, none⟩ (.slice a8 m8 k8)).heap.size = w8.heap.size := by simp
      rw [hs]
      rcases List.mem_append.1 hq with h1 | h1
      · have := (HBS.out q h1).2
        omega
      · rcases List.mem_append.1 h1 with h2 | h2
        · have e : (Value.slice p4 face.length k4).ownBlock = some q := by simpa using h2
          have := (owns_blk hO4 e).2
          have := hb4A.size
          omega
        · have e : (Value.slice a8 m8 k8).ownBlock = some q := by simpa using h2
          exact (owns_blk ho8 e).2
  clear ho8 hg8 hat8 hG9 hV9 hV8 hownA hnw hG4 hO4 hlvb hHeld4 hHeld5
  refine wpAnyL_ready (rs := [5]) (by kernel_rfl) (by simp) ?_
  refine AllReadyL.last rfl (by kernel_rfl) (fun K hK => ?_)
  go_simp
  refine hK.out _ _ ?_
  clear hK K
  try simp only [Act.put, List.setIfInBounds_toArray, List.set_cons_zero, List.set_cons_succ]
  refine wpAnyL_done (by kernel_rfl) ?_ _
  go_wp2
  refine bodyPost_end (results_none rfl _ _ _) rfl ?_
  exact ⟨rfl, HFIN.out⟩
end Go.Proofs.Ytnmlbkmbiecpnaa
