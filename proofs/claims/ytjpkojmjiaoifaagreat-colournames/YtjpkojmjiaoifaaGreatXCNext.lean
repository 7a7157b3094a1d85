import Derived.Deep.LoopGhost
import Derived.Test.YtjpkojmjiaoifaaGreatZAV
namespace Go.Proofs.YtjpkojmjiaoifaaGreat
open Go Go.Proofs Go.RowKit Go.Maps
def FV (n m : Nat) (F : List (List Int)) : Prop := F.length = 6 ∧ ∀ L ∈ F, L.length ≤ m ∧ ∀ x ∈ L, ∃ k : Nat, x = (k : Int) ∧ k < n
def Bk (N : List (Option (List Int))) (F : List (List Int)) (r : Int) : Prop := ∀ (v : Nat) (S : List Int), N[v]? = some (some S) → S.length ≤ 5 → (v : Int) ≠ r → (v : Int) ∈ F.getD S.length []
theorem getD_set_self {α : Type} {l : List α} {i : Nat} (h : i < l.length) (x d : α) : (l.set i x).getD i d = x := by
 rw [List.getD_eq_getElem?_getD, List.getElem?_set_self h]; rfl
theorem getD_set_other {α : Type} {l : List α} {i j : Nat} (h : i ≠ j) (x d : α) : (l.set i x).getD j d = l.getD j d := by
 rw [List.getD_eq_getElem?_getD, List.getElem?_set_ne h, List.getD_eq_getElem?_getD]
theorem FV.set {n m d : Nat} {F : List (List Int)} (h : FV n m F) {L : List Int} (hL : L.length ≤ m ∧ ∀ x ∈ L, ∃ k : Nat, x = (k : Int) ∧ k < n) : FV n m (F.set d L) := by
 refine ⟨by rw [List.length_set]; exact h.1, fun L' hL' => ?_⟩
 rcases List.mem_or_eq_of_mem_set hL' with h1 | rfl
 ·exact h.2 L' h1
 ·exact hL
theorem FV.mono {n m m' : Nat} {F : List (List Int)} (h : FV n m F) (hm : m ≤ m') : FV n m' F := ⟨h.1, fun L hL => ⟨Nat.le_trans (h.2 L hL).1 hm, (h.2 L hL).2⟩⟩
theorem FV.file {n m d k : Nat} {F : List (List Int)} (h : FV n m F) (hk : k < n) : FV n (m + 1) (fileF F d (k : Int)) := by
 unfold fileF
 split
 ·refine (h.mono (Nat.le_succ m)).set ?_
  by_cases hd : d < F.length
  ·have hm := h.2 _ (List.getElem_mem hd)
   rw [List.getD_eq_getElem?_getD, List.getElem?_eq_getElem hd]
   refine ⟨by simp only [Option.getD_some, List.length_append, List.length_singleton]; omega, fun x hx => ?_⟩
   rcases List.mem_append.1 hx with hx | hx
   ·exact hm.2 x hx
   ·exact ⟨k, List.mem_singleton.1 hx, hk⟩
  ·rw [List.getD_eq_getElem?_getD, List.getElem?_eq_none (by omega)]
   refine ⟨by simp, fun x hx => ?_⟩
   simp at hx
   exact ⟨k, hx, hk⟩
 ·exact h.mono (Nat.le_succ m)
theorem Bk.pop {N : List (Option (List Int))} {F : List (List Int)} {d : Nat} {L : List Int} {x : Int} (h : Bk N F (-1)) (hd : d < F.length) (hF : F.getD d [] = L ++ [x]) : Bk N (F.set d L) x := by
 intro v S hv h5 hne
 have h1 := h v S hv h5 (by omega)
 by_cases e : d = S.length
 ·subst e
  rw [getD_set_self hd]
  rw [hF] at h1
  rcases List.mem_append.1 h1 with h2 | h2
  ·exact h2
  ·exact absurd (List.mem_singleton.1 h2) hne
 ·rw [getD_set_other e]
  exact h1
theorem Bk.stale {N : List (Option (List Int))} {F : List (List Int)} {d : Nat} {L : List Int} {k : Nat} (h : Bk N F (-1)) (hd : d < F.length) (hF : F.getD d [] = L ++ [(k : Int)]) (hs : ∀ S, N[k]? = some (some S) → S.length ≠ d) : Bk N (F.set d L) (-1) := by
 intro v S hv h5 hne
 by_cases e : (v : Int) = (k : Int)
 ·have e' : v = k := by omega
  subst e'
  rw [getD_set_other (Ne.symm (hs S hv))]
  exact h v S hv h5 hne
 ·exact h.pop hd hF v S hv h5 e
theorem owns_pop {W : World} {h0 : Nat} {e : TypeId} {p : Option Addr} {n m c : Nat} {xs : List Value} {x : Value} (h : W.ownsRow h0 e 1 (.slice p m c) (n + 1) (xs ++ [x])) (hx : xs.length = n) : W.ownsRow h0 e 1 (.slice p n c) n xs := by
 obtain ⟨h1, h2⟩ := h
 refine ⟨by omega, ?_⟩
 rcases h2 with ⟨_, h2⟩ | ⟨g, cap, cur, hv, hb, hg, hn, hm, hs, ht⟩
 ·omega
 ·simp only [Value.slice.injEq] at hv
  obtain ⟨rfl, _, rfl⟩ := hv
  refine .inr ⟨g, c, cur, rfl, hb, hg, by omega, hm, hs, ?_⟩
  have h3 : (cur.toList.take ((n + 1) * 1)).take n = (xs ++ [x]).take n := by rw [ht]
  rw [List.take_take, Nat.min_eq_left (by omega)] at h3
  rw [Nat.mul_one, h3, List.take_append_of_le_length (by omega), List.take_of_length_le (by omega)]
theorem map_none_ne (W : World) : (binOp BinOp.neq 71 (.map none) (.map none)).run Tryz.prog W = .ok (.bool false) W := by kernel_rfl
theorem map_some_ne (b : Nat) (W : World) : (binOp BinOp.neq 71 (.map (some b)) (.map none)).run Tryz.prog W = .ok (.bool true) W := by kernel_rfl
def NextP (n m : Nat) (N : List (Option (List Int))) (r : Int) (F : List (List Int)) : Prop := FV n m F ∧ Bk N F r ∧ ((r = -1 ∧ ∀ (v : Nat) (S : List Int), N[v]? = some (some S) → 5 < S.length) ∨ ∃ (k : Nat) (S : List Int), r = (k : Int) ∧ N[k]? = some (some S) ∧ S.length ≤ 5)
set_option maxRecDepth 100000 in
set_option maxHeartbeats 8000000 in
theorem next_any (h0 sb m : Nat) (hm : m ≤ 1000000000) (N : List (Option (List Int))) (F : List (List Int)) (st : List StpM) (w : World) (hX : SX h0 sb N F st w) (hF : FV N.length m F) (hB : Bk N F (-1)) :
  Calls Tryz.prog 19 #[.pointer (some ⟨sb, 0, none⟩)] w fun e w' => ∃ (r : Int) (F' : List (List Int)), e = .returned (.int .i64 r) ∧ SX h0 sb N F' st w' ∧ NextP N.length m N r F' ∧ Below h0 w w' := by
 have HX0 : Hid (SX h0 sb N F st w) := hX
 have HF0 : Hid (FV N.length m F ∧ Bk N F (-1)) := ⟨hF, hB⟩
 clear hX hF hB
 go_enter Tryz.func19, Tryz.ntmps19
 go_wp2
 go_loopw [6] (fun iv wr => ∃ (d : Nat) (F' : List (List Int)), d ≤ 6 ∧ iv = .int .i64 d ∧ SX h0 sb N F' st wr ∧ FV N.length m F' ∧ Bk N F' (-1) ∧ (∀ j, j < d → F'.getD j [] = []) ∧ Below h0 w wr) (fun iv _ => 6 - (intOf iv).toNat)
 case atStart => exact ⟨0, F, by omega, rfl, HX0.out, HF0.out.1, HF0.out.2, fun j hj => absurd hj (Nat.not_lt_zero _), Below.refl _ _⟩
 case round =>
  clear HX0 HF0
  obtain ⟨d, F1, hd, rfl, hX1, hF1, hB1, hE1, hb1⟩ := hrel
  by_cases hlt : d < 6
  ·have hdI : (d : Int) < 6 := by omega
   have HX1 : Hid (SX h0 sb N F1 st wr) := hX1
   have HF1 : Hid (FV N.length m F1 ∧ Bk N F1 (-1) ∧ (∀ j, j < d → F1.getD j [] = [])) := ⟨hF1, hB1, hE1⟩
   have HB1 : Hid (Below h0 w wr) := hb1
   clear hX1 hF1 hB1 hE1 hb1
   go_wp2
   go_loopg [] ((F1.getD d []).length + 1) (fun k ws => ∃ F2 : List (List Int), (F2.getD d []).length < k ∧ SX h0 sb N F2 st ws ∧ FV N.length m F2 ∧ Bk N F2 (-1) ∧ (∀ j, j < d → F2.getD j [] = []) ∧ Below h0 w ws)
   case atStart => exact ⟨F1, by omega, HX1.out, HF1.out.1, HF1.out.2.1, HF1.out.2.2, HB1.out⟩
   case round =>
    clear HX1 HF1 HB1
    obtain ⟨F2, hk2, hX2, hF2, hB2, hE2, hb2⟩ := hrel
    obtain ⟨g, bs, fs, tv, tag, rfl, hM⟩ := hX2
    have h6 := hM.f6
    obtain ⟨x, hx⟩ : ∃ x, fs[d]? = some x := ⟨_, List.getElem?_eq_getElem (by omega)⟩
    have hG : (fs.map Prod.snd).getD d [] = x.2 := by rw [List.getD_eq_getElem?_getD, List.getElem?_map, hx]; rfl
    have c1 := hM.bucket hx
    have f1 := hM.var.frozen (1 + d)
    have hown := hM.few x (List.mem_of_getElem? hx)
    rw [hG] at hk2
    obtain ⟨xv, xl⟩ := x
    dsimp only at *
    rcases List.eq_nil_or_concat xl with rfl | ⟨L, y, hcc⟩
    ·have HE : Hid ((fs.map Prod.snd).getD d [] = []) := hG
     have HS : Hid (SX h0 sb N (fs.map Prod.snd) st wr) := ⟨g, bs, fs, tv, tag, rfl, hM⟩
     have HF2 : Hid (FV N.length m (fs.map Prod.snd) ∧ Bk N (fs.map Prod.snd) (-1) ∧ (∀ j, j < d → (fs.map Prod.snd).getD j [] = []) ∧ Below h0 w wr) := ⟨hF2, hB2, hE2, hb2⟩
     obtain ⟨px, cx, nx, rfl⟩ := owns_slice hown
     have hc0 : cx = 0 := by
      rcases hown.2 with ⟨h, _⟩ | ⟨_, _, _, h, _⟩ <;> simp at h <;> omega
     subst hc0
     clear hM hown hG hk2 hF2 hB2 hE2 hb2 hx
     go_wp2
     refine ⟨⟨d + 1, _, by omega, by go_num, HS.out, HF2.out.1, HF2.out.2.1, fun j hj => ?_, HF2.out.2.2.2⟩, by simp [intOf]; omega⟩
     by_cases e : j = d
     ·subst e; exact HE.out
     ·exact HF2.out.2.2.1 j (by omega)
    ·rw [List.concat_eq_append] at hcc
     subst hcc
     have hxm : (L ++ [y]) ∈ fs.map Prod.snd := List.mem_map.2 ⟨_, List.mem_of_getElem? hx, rfl⟩
     obtain ⟨k, rfl, hkn⟩ := (hF2.2 _ hxm).2 y (by simp)
     have hLm := (hF2.2 _ hxm).1
     rw [List.length_append, List.length_singleton] at hLm hk2 hown
     obtain ⟨b, c, rfl, hLc⟩ : ∃ b c, xv = .slice (some ⟨b, 0, none⟩) (L.length + 1) c ∧ L.length + 1 ≤ c := by
      rcases hown.2 with ⟨_, h⟩ | ⟨b, c, _, h, _, _, h2, _⟩
      ·omega
      ·exact ⟨b, c, h, h2⟩
     have c2 : wr.cell? ⟨b, L.length, none⟩ = some (.int .i64 (k : Int)) := by
      have h1 := hown.cellAt L.length (by omega)
      rw [h1, List.map_append, List.getElem?_append_right (by simp)]
      simp
     have hpop := owns_pop (n := L.length) (by rw [List.map_append] at hown; exact hown) (by simp)
     obtain ⟨tagP, hMP, -⟩ := hM.put hx (Below.refl _ _) (B := wr) (v' := .slice (some ⟨b, 0, none⟩) L.length c) (L := L) hpop ⟨rfl, rfl, rfl, Nat.le_refl _, fun _ _ _ => rfl⟩ (.inl rfl)
     have hbP : Below h0 w (wr.setCell ⟨sb, 1 + d, none⟩ (.slice (some ⟨b, 0, none⟩) L.length c)) := hb2.setCell (p := ⟨sb, 1 + d, none⟩) hM.lsb _
     have HMP : Hid (SM h0 sb g bs N (fs.set d (.slice (some ⟨b, 0, none⟩) L.length c, L)) tv st tagP (wr.setCell ⟨sb, 1 + d, none⟩ (.slice (some ⟨b, 0, none⟩) L.length c))) := hMP
     have HBP : Hid (Below h0 w (wr.setCell ⟨sb, 1 + d, none⟩ (.slice (some ⟨b, 0, none⟩) L.length c))) := hbP
     have hL5 : FV N.length m ((fs.map Prod.snd).set d L) := hF2.set ⟨by omega, fun x hx' => (hF2.2 _ hxm).2 x (List.mem_append_left _ hx')⟩
     have HF2 : Hid (FV N.length m ((fs.map Prod.snd).set d L) ∧ Bk N (fs.map Prod.snd) (-1) ∧ (∀ j, j < d → (fs.map Prod.snd).getD j [] = [])) := ⟨hL5, hB2, hE2⟩
     have HG : Hid ((fs.map Prod.snd).getD d [] = L ++ [(k : Int)]) := hG
     have hdF : d < (fs.map Prod.snd).length := by rw [List.length_map]; omega
     have hkI : (k : Int) < (N.length : Int) := by omega
     have hc0 := hMP.row
     have HK2 : Hid (L.length + 1 < _) := hk2
     have hLc2 : L.length ≤ c := by omega
     clear hM hown hpop hMP hbP hF2 hB2 hE2 hb2 hx hxm hL5 hG h6 hk2
     go_wp2_with fail
     refine wp_region_last (S := (fun w' : World => w'.cell? ⟨sb, 1 + d, none⟩ = some (.slice (some ⟨b, 0, none⟩) (L.length + 1) c))) (by kernel_rfl) c1 (fun hHeld => ?_)
     refine wpAnyL_take (i := 0) (v := ?_) rfl (by kernel_rfl) (by kernel_rfl) (by kernel_rfl) (by kernel_rfl) (fun _ _ _ h => h) (Or.inl ⟨by rfl, ?_⟩) (by assumption) ?_
     rotate_left
     ·intro w hSw; (try dsimp only at hSw); go_simp; (try with_reducible rfl)
     try simp only [Act.put, List.setIfInBounds_toArray]
     refine wpAnyL_take (i := 1) (v := ?_) rfl (by kernel_rfl) (by kernel_rfl) (by kernel_rfl) (by kernel_rfl) (fun _ _ _ h => h) (Or.inl ⟨by rfl, ?_⟩) (by assumption) ?_
     rotate_left
     ·intro w hSw; (try dsimp only at hSw); go_simp; (try with_reducible rfl)
     try simp only [Act.put]
     refine wpAnyL_take (i := 2) (v := ?_) rfl (by kernel_rfl) (by kernel_rfl) (by kernel_rfl) (by kernel_rfl) (fun _ _ _ h => h) (Or.inl ⟨by rfl, ?_⟩) (by assumption) ?_
     rotate_left
     ·intro w hSw; (try dsimp only at hSw); go_simp; (try with_reducible rfl)
     try simp only [Act.put]
     refine wpAnyL_take (i := 3) (v := ?_) rfl (by kernel_rfl) (by kernel_rfl) (by kernel_rfl) (by kernel_rfl) (fun _ _ _ h => h) (Or.inl ⟨by rfl, ?_⟩) (by assumption) ?_
     rotate_left
     ·intro w hSw; (try dsimp only at hSw); go_simp; (try with_reducible rfl)
     try simp only [Act.put]
     refine wpAnyL_take (i := 4) (v := ?_) rfl (by kernel_rfl) (by kernel_rfl) (by kernel_rfl) (by kernel_rfl) (fun _ _ _ h => h) (Or.inl ⟨by rfl, ?_⟩) (by assumption) ?_
     rotate_left
     ·intro w hSw; (try dsimp only at hSw); go_simp; (try with_reducible rfl)
     try simp only [Act.put]
     refine wpAnyL_take (i := 5) (v := ?_) rfl (by kernel_rfl) (by kernel_rfl) (by kernel_rfl) (by kernel_rfl) (fun _ _ _ h => h) (Or.inl ⟨by rfl, ?_⟩) (by assumption) ?_
     rotate_left
     ·intro w hSw; (try dsimp only at hSw); go_simp; (try with_reducible rfl)
     try simp only [Act.put]
     refine wpAnyL_take (i := 6) (v := ?_) rfl (by kernel_rfl) (by kernel_rfl) (by kernel_rfl) (by kernel_rfl) (fun _ _ _ h => h) (Or.inl ⟨by rfl, ?_⟩) (by assumption) ?_
     rotate_left
     ·intro w hSw; (try dsimp only at hSw); go_simp; (try with_reducible rfl)
     try simp only [Act.put]
     refine wpAnyL_take (i := 7) (v := ?_) rfl (by kernel_rfl) (by kernel_rfl) (by kernel_rfl) (by kernel_rfl) (fun _ _ _ h => h) (Or.inl ⟨by rfl, ?_⟩) (by assumption) ?_
     rotate_left
     ·intro w hSw; (try dsimp only at hSw); go_simp; (try with_reducible rfl)
     try simp only [Act.put]
     refine wpAnyL_take (i := 8) (v := ?_) rfl (by kernel_rfl) (by kernel_rfl) (by kernel_rfl) (by kernel_rfl) (fun _ _ _ h => h) (Or.inl ⟨by rfl, ?_⟩) (by assumption) ?_
     rotate_left
     ·intro w hSw; (try dsimp only at hSw); go_simp; (try with_reducible rfl)
     try simp only [Act.put]
     refine wpAnyL_take (i := 9) (v := ?_) rfl (by kernel_rfl) (by kernel_rfl) (by kernel_rfl) (by kernel_rfl) (fun _ _ _ h => h) (Or.inl ⟨by rfl, ?_⟩) (by assumption) ?_
     rotate_left
     ·intro w hSw; (try dsimp only at hSw); go_simp; (try with_reducible rfl)
     try simp only [Act.put]
     refine wpAnyL_take (i := 10) (v := ?_) rfl (by kernel_rfl) (by kernel_rfl) (by kernel_rfl) (by kernel_rfl) (fun _ _ _ h => h) (Or.inl ⟨by rfl, ?_⟩) (by assumption) ?_
     rotate_left
     ·intro w hSw; (try dsimp only at hSw); go_simp; (try with_reducible rfl)
     try simp only [Act.put]
     refine wpAnyL_take (i := 11) (v := ?_) rfl (by kernel_rfl) (by kernel_rfl) (by kernel_rfl) (by kernel_rfl) (fun _ _ _ h => h) (Or.inl ⟨by rfl, ?_⟩) (by assumption) ?_
     rotate_left
     ·intro w hSw; (try dsimp only at hSw); go_simp; (try with_reducible rfl)
     try simp only [Act.put]
     refine wpAnyL_take (i := 12) (v := ?_) rfl (by kernel_rfl) (by kernel_rfl) (by kernel_rfl) (by kernel_rfl) (fun _ _ _ h => h) (Or.inl ⟨by rfl, ?_⟩) (by assumption) ?_
     rotate_left
     ·intro w hSw; (try dsimp only at hSw); go_simp; (try with_reducible rfl)
     try simp only [Act.put]
     refine wpAnyL_ready (rs := [13]) (by kernel_rfl) (by simp) ?_
     refine AllReadyL.last rfl (by kernel_rfl) (fun K hK => ?_)
     go_simp
     refine hK.out _ _ ?_
     clear hK K
     try simp only [Act.put, List.setIfInBounds_toArray, List.set_cons_zero, List.set_cons_succ]
     refine wpAnyL_done (by kernel_rfl) ?_ _
     clear hHeld c1 f1 c2
     have HMD : Hid (SM h0 sb g bs N (fs.set d (.slice (some ⟨b, 0, none⟩) L.length c, L)) tv st tagP (wr.setCell ⟨sb, 1 + d, none⟩ (.slice (some ⟨b, 0, none⟩) L.length c)).drew) := HMP.out.go (below_drewN (Below.refl _ _) 1)
     have HBD : Hid (Below h0 w (wr.setCell ⟨sb, 1 + d, none⟩ (.slice (some ⟨b, 0, none⟩) L.length c)).drew) := below_drewN HBP.out 1
     have hc0' : (wr.setCell ⟨sb, 1 + d, none⟩ (.slice (some ⟨b, 0, none⟩) L.length c)).drew.cell? ⟨sb, 0, none⟩ = some (.slice (some ⟨g, 0, none⟩) N.length N.length) := hc0
     have HSX : Hid (SX h0 sb N ((fs.map Prod.snd).set d L) st (wr.setCell ⟨sb, 1 + d, none⟩ (.slice (some ⟨b, 0, none⟩) L.length c)).drew) := ⟨g, bs, _, tv, tagP, by rw [List.map_set], HMD.out⟩
     clear HMP HBP hc0
     generalize (wr.setCell ⟨sb, 1 + d, none⟩ (.slice (some ⟨b, 0, none⟩) L.length c)).drew = w5 at *
     cases hNk : N[k]? with
     | none => exact absurd (List.getElem?_eq_none_iff.1 hNk) (by omega)
     | some o =>
      cases o with
      | none =>
       have hcm : w5.cell? ⟨g, k, none⟩ = some (.map none) := HMD.out.nm.row.cell (by rw [List.getElem?_map, HMD.out.nm.gone k hNk]; rfl)
       have HBS : Hid (Bk N ((fs.map Prod.snd).set d L) (-1)) := HF2.out.2.1.stale hdF HG.out (fun S hS => by rw [hNk] at hS; cases hS)
       have hmn := map_none_ne w5
       clear HMD
       go_wp2
       go_roundg (L.length + 1)
       case measure => have := HK2.out; omega
       case rel => exact ⟨_, by rw [getD_set_self hdF]; omega, HSX.out, HF2.out.1, HBS.out, fun j hj => by rw [getD_set_other (by omega)]; exact HF2.out.2.2 j hj, HBD.out⟩
      | some S =>
       obtain ⟨bk, _, hMk, hcm, _⟩ := HMD.out.nm.cell hNk
       have hrun := hMk.len 3
       have hmn := map_some_ne bk w5
       clear hMk
       by_cases hSd : S.length = d
       ·have HNX : Hid (NextP N.length m N (k : Int) ((fs.map Prod.snd).set d L)) := ⟨HF2.out.1, HF2.out.2.1.pop hdF HG.out, .inr ⟨k, S, rfl, hNk, by omega⟩⟩
        have hSI : ((S.length : Int) == (d : Int)) = true := by rw [beq_iff_eq]; omega
        clear HMD hSd
        go_wp2
        go_ret
        exact ⟨_, _, rfl, HSX.out, HNX.out, HBD.out⟩
       ·have HBS : Hid (Bk N ((fs.map Prod.snd).set d L) (-1)) := HF2.out.2.1.stale hdF HG.out (fun T hT => by rw [hNk] at hT; cases hT; exact hSd)
        have hSI : ((S.length : Int) == (d : Int)) = false := by rw [beq_eq_false_iff_ne]; omega
        clear HMD hSd
        go_wp2
        go_roundg (L.length + 1)
        case measure => have := HK2.out; omega
        case rel => exact ⟨_, by rw [getD_set_self hdF]; omega, HSX.out, HF2.out.1, HBS.out, fun j hj => by rw [getD_set_other (by omega)]; exact HF2.out.2.2 j hj, HBD.out⟩
  ·obtain rfl : d = 6 := by omega
   have HX1 : Hid (SX h0 sb N F1 st wr) := hX1
   have HF1 : Hid (NextP N.length m N (-1) F1) := by
    refine ⟨hF1, hB1, .inl ⟨rfl, fun v S hv => ?_⟩⟩
    by_cases h5 : S.length ≤ 5
    ·have h1 := hB1 v S hv h5 (by omega)
     rw [hE1 S.length (by omega)] at h1
     cases h1
    ·omega
   have HB1 : Hid (Below h0 w wr) := hb1
   clear hX1 hF1 hB1 hE1 hb1
   go_wp2
   go_ret
   exact ⟨-1, F1, rfl, HX1.out, HF1.out, HB1.out⟩
end Go.Proofs.YtjpkojmjiaoifaaGreat
