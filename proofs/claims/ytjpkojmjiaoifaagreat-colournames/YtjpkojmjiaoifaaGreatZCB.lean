import Derived.Test.YtjpkojmjiaoifaaGreatZBX
import Derived.Test.YtjpkojmjiaoifaaGreatZCA
import Derived.BigQuiet
import Derived.Test.YtjpkojmjiaoifaaGreatZBZ
namespace Go.Proofs.YtjpkojmjiaoifaaGreat
open Go Go.Proofs Go.RowKit
theorem newsI1 {w : World} {t : TypeId} (x : Value) : ∀ (i : Nat) (u : Value), [x][i]? = some u → (w.alloc (.cells #[x] t)).cell? ((⟨w.heap.size, 0, none⟩ : Addr).add i) = some u := by
 intro i u hu
 rw [Go.WideShapes.add_plain, Nat.zero_add]
 match i, hu with
 | 0, hu => cases hu; simp
def preU (l : List Ed) (u v : Nat) : List Int := ((List.range v).filter fun (y : Nat) => decide (0 ≤ findP l (u : Int) (y : Int))).map fun (y : Nat) => (y : Int)
theorem preU_in {l : List Ed} {u v : Nat} (h : 0 ≤ findP l (u : Int) (v : Int)) : preU l u (v + 1) = preU l u v ++ [(v : Int)] := by
 unfold preU
 rw [List.range_succ, List.filter_append, List.map_append]
 simp [h]
theorem preU_out {l : List Ed} {u v : Nat} (h : findP l (u : Int) (v : Int) < 0) : preU l u (v + 1) = preU l u v := by
 unfold preU
 rw [List.range_succ, List.filter_append, List.map_append]
 have : ¬ 0 ≤ findP l (u : Int) (v : Int) := by omega
 simp [this]
theorem preU_len (l : List Ed) (u v : Nat) : (preU l u v).length ≤ v := by
 unfold preU
 rw [List.length_map]
 exact Nat.le_trans (List.length_filter_le _ _) (by simp)
theorem findP_iff {l : List Ed} {u v : Int} : 0 ≤ findP l u v ↔ ∃ e ∈ l, endsB u v e = true := by
 unfold findP
 cases h : l.findIdx? (endsB u v) with
 | none =>
  rw [List.findIdx?_eq_none_iff] at h
  constructor
  ·intro h0; simp at h0
  ·rintro ⟨e, he, hb⟩; rw [h e he] at hb; cases hb
 | some i =>
  rw [List.findIdx?_eq_some_iff_getElem] at h
  obtain ⟨h1, h2, _⟩ := h
  exact ⟨fun _ => ⟨_, List.getElem_mem h1, h2⟩, fun _ => by simp only; omega⟩
theorem sorted_same : ∀ (a b : List Int), a.Pairwise (· < ·) → b.Pairwise (· < ·) → (∀ x, x ∈ a ↔ x ∈ b) → a = b
 | [], [], _, _, _ => rfl
 | [], y :: b, _, _, h => by have := (h y).2 (List.mem_cons_self ..); cases this
 | x :: a, [], _, _, h => by have := (h x).1 (List.mem_cons_self ..); cases this
 | x :: a, y :: b, ha, hb, h => by
  rw [List.pairwise_cons] at ha hb
  have hxy : x = y := by
   have h1 := (h x).1 (List.mem_cons_self ..)
   have h2 := (h y).2 (List.mem_cons_self ..)
   rcases List.mem_cons.1 h1 with e | h1
   ·exact e
   ·rcases List.mem_cons.1 h2 with e | h2
    ·exact e.symm
    ·have := hb.1 x h1; have := ha.1 y h2; omega
  subst hxy
  rw [sorted_same a b ha.2 hb.2 fun z => ?_]
  constructor
  ·intro hz
   rcases List.mem_cons.1 ((h z).1 (List.mem_cons_of_mem _ hz)) with e | h1
   ·have := ha.1 z hz; omega
   ·exact h1
  ·intro hz
   rcases List.mem_cons.1 ((h z).2 (List.mem_cons_of_mem _ hz)) with e | h1
   ·have := hb.1 z hz; omega
   ·exact h1
theorem preU_rise (l : List Ed) (u v : Nat) : (preU l u v).Pairwise (· < ·) := by
 unfold preU
 rw [List.pairwise_map]
 refine (List.Pairwise.filter _ List.pairwise_lt_range).imp ?_
 intro a b h; omega
theorem preU_full {N : Nat} {l : List Ed} (hR : RightG (N : Int) l) (u : Nat) : preU l u N = nb l (u : Int) := by
 refine sorted_same _ _ (preU_rise l u N) (nb_rise hR _) fun x => ?_
 unfold preU
 rw [List.mem_map]
 constructor
 ·rintro ⟨y, hy, rfl⟩
  rw [List.mem_filter] at hy
  obtain ⟨e, he, hb⟩ := findP_iff.1 (of_decide_eq_true hy.2)
  have hlt := (hR.each e he).2
  refine mem_nb.2 ⟨e, he, ?_⟩
  simp only [endsB, Bool.or_eq_true, Bool.and_eq_true, decide_eq_true_eq] at hb
  omega
 ·intro hx
  obtain ⟨_, h0, h1, _⟩ := nb_mutual hR hx
  obtain ⟨e, he, hc⟩ := mem_nb.1 hx
  refine ⟨x.toNat, ?_, by omega⟩
  rw [List.mem_filter]
  refine ⟨List.mem_range.2 (by omega), decide_eq_true (findP_iff.2 ⟨e, he, ?_⟩)⟩
  simp only [endsB, Bool.or_eq_true, Bool.and_eq_true, decide_eq_true_eq]
  omega
structure RNear (N g H : Nat) (l : List Ed) (u : Nat) (s : Value) (pre : List Int) (vs : List Value) (W : World) : Prop where
 row : Blk 28 W g vs
 len : vs.length = N
 out : g < H
 hi : H ≤ W.heap.size
 old : ∀ i, i < u → i < N → ∃ s, vs[i]? = some s ∧ W.ownsRow (g + 1) 3 1 s (nb l (i : Int)).length ((nb l (i : Int)).map (Value.int .i64)) ∧ ∀ k, s.ownBlock = some k → k < H
 new : ∀ i, u < i → i < N → vs[i]? = some (.slice none 0 0)
 here : vs[u]? = some s
 own : W.ownsRow H 3 1 s pre.length (pre.map (Value.int .i64))
theorem RNear.go {N g H : Nat} {l : List Ed} {u : Nat} {s : Value} {pre : List Int} {vs : List Value} {A B : World} (h : RNear N g H l u s pre vs A) (hb : Below A.heap.size A B) : RNear N g H l u s pre vs B :=
 ⟨h.row.go hb, h.len, h.out, Nat.le_trans h.hi hb.size, fun i hi hN => by
  obtain ⟨s, h1, h2, h3⟩ := h.old i hi hN
  exact ⟨s, h1, owns_below h2 hb, h3⟩, h.new, h.here, owns_below h.own hb⟩
theorem RNear.push {N g H : Nat} {l : List Ed} {u : Nat} {s s' : Value} {pre : List Int} {vs : List Value} {A B : World} (h : RNear N g H l u s pre vs A) (y : Int)
  (hown : B.ownsRow H 3 1 s' (pre.length + 1) (pre.map (Value.int .i64) ++ [.int .i64 y])) (hg : A.grownBy B s.ownBlock) :
  RNear N g H l u s' (pre ++ [y]) (vs.set u s') (B.setCell ⟨g, u, none⟩ s') := by
 have hu : u < vs.length := (List.getElem?_eq_some_iff.1 h.here).1
 have hgo := h.out
 have hne : some g ≠ s.ownBlock := fun e => by have := (h.own.lt g e.symm).1; omega
 refine ⟨(h.row.grown hg hne).set u s', by rw [List.length_set]; exact h.len, h.out, ?_, fun i hi hN => ?_, fun i hi hN => ?_, ?_, ?_⟩
 ·have := hg.size; have := h.hi; simp; omega
 ·obtain ⟨si, h1, h2, h3⟩ := h.old i hi hN
  refine ⟨si, by rw [List.getElem?_set_ne (by omega)]; exact h1, owns_set (h2.kept hg ?_) (by simp) _, h3⟩
  cases hk : si.ownBlock with
  | none => exact .inl rfl
  | some k => exact .inr fun e => by have := h3 k hk; have := (h.own.lt k e.symm).1; omega
 ·rw [List.getElem?_set_ne (by omega)]; exact h.new i hi hN
 ·rw [List.getElem?_set_self hu]
 ·refine owns_set ?_ (by simpa using h.out) _
  rw [List.length_append, List.map_append]
  exact hown
theorem RNear.next {N g H : Nat} {l : List Ed} {u : Nat} {s : Value} {vs : List Value} {W : World} (h : RNear N g H l u s (nb l (u : Int)) vs W) (hu : u + 1 < N) : RNear N g W.heap.size l (u + 1) (.slice none 0 0) [] vs W :=
 ⟨h.row, h.len, h.row.lt, Nat.le_refl _, fun i hi hN => by
  by_cases e : i = u
  ·subst e
   exact ⟨s, h.here, owns_base h.own (by have := h.out; omega), fun k hk => (h.own.lt k hk).2⟩
  ·obtain ⟨si, h1, h2, h3⟩ := h.old i (by omega) hN
   exact ⟨si, h1, h2, fun k hk => (h2.lt k hk).2⟩, fun i hi hN => h.new i (by omega) hN, h.new (u + 1) (by omega) hu, World.ownsRow_nil _ _ _ _⟩
def RDone (N g : Nat) (l : List Ed) (vs : List Value) (W : World) : Prop :=
 Blk 28 W g vs ∧ vs.length = N ∧ ∀ i, i < N → ∃ s, vs[i]? = some s ∧ W.ownsRow (g + 1) 3 1 s (nb l (i : Int)).length ((nb l (i : Int)).map (Value.int .i64))
theorem RNear.done {N g H : Nat} {l : List Ed} {u : Nat} {s : Value} {vs : List Value} {W : World} (h : RNear N g H l u s (nb l (u : Int)) vs W) (hu : u + 1 = N) : RDone N g l vs W :=
 ⟨h.row, h.len, fun i hi => by
  by_cases e : i = u
  ·subst e
   exact ⟨s, h.here, owns_base h.own (by have := h.out; omega)⟩
  ·obtain ⟨si, h1, h2, h3⟩ := h.old i (by omega) hi
   exact ⟨si, h1, h2⟩⟩
theorem owns_Ints {W : World} {base : Nat} {e : TypeId} {v : Value} {xs : List Int} {n : Nat} (h : W.ownsRow base e 1 v n (xs.map (Value.int .i64))) (hn : xs.length = n) : Ints W.heap.size W v xs := by
 rcases owns_form h with ⟨p, c, rfl⟩
 rcases h.2 with ⟨h2, _⟩ | ⟨g, cap, cur, hv, _⟩
 ·have : xs = [] := by
   cases xs with
   | nil => rfl
   | cons x xs => simp only [Value.slice.injEq] at h2; simp at hn; omega
  subst this
  simp at hn; subst hn
  exact Vals.nil _ _ _ _
 ·simp only [Value.slice.injEq] at hv
  obtain ⟨rfl, _, rfl⟩ := hv
  obtain ⟨rest, hB, h1, h3, _, _⟩ := owns_ints h
  subst hn
  exact .inr ⟨g, 0, _, rfl, hB.lt, by omega, fun j x hx => by
   rw [Nat.zero_add]
   refine hB.cell ?_
   have hj := (List.getElem?_eq_some_iff.1 hx).1
   rw [List.getElem?_append_left (by simpa using hj), List.getElem?_map, hx]; rfl⟩
theorem RDone.lsts {N g : Nat} {l : List Ed} {vs : List Value} {W : World} (h : RDone N g l vs W) : Lsts W.heap.size W (.slice (some ⟨g, 0, none⟩) N N) (nearL N l) := by
 obtain ⟨h1, h2, h3⟩ := h
 refine .inr ⟨g, 0, N, by rw [nearL_len], h1.lt, by rw [nearL_len]; exact Nat.le_refl _, fun j x hx => ?_⟩
 have hj : j < N := by have := (List.getElem?_eq_some_iff.1 hx).1; rwa [nearL_len] at this
 rw [nearL_at hj] at hx
 cases hx
 obtain ⟨s, h4, h5⟩ := h3 j hj
 exact ⟨s, by rw [Nat.zero_add]; exact h1.cell h4, owns_Ints h5 rfl⟩
theorem RNear.start {N g : Nat} {l : List Ed} {W : World} (h : Blk 28 W g (List.replicate N (.slice none 0 0))) (hN : 0 < N) : RNear N g W.heap.size l 0 (.slice none 0 0) [] (List.replicate N (.slice none 0 0)) W :=
 ⟨h, by simp, h.lt, Nat.le_refl _, fun i hi => by omega, fun i _ hi => by rw [List.getElem?_replicate, if_pos hi], by rw [List.getElem?_replicate, if_pos hN], World.ownsRow_nil _ _ _ _⟩
set_option maxRecDepth 100000 in
set_option maxHeartbeats 4000000 in
theorem refNear_any (N : Nat) (l : List Ed) (hR : RightG (N : Int) l) (sv : Value) (w : World) (hl : Edges w.heap.size w sv l) :
  Calls Tryz.prog 45 #[.agg #[.int .i64 (N : Int), sv]] w fun r w' => ∃ nv, r = .returned nv ∧ Lsts w'.heap.size w' nv (nearL N l) ∧ Below w.heap.size w w' := by
 have hg1 : Grew w (w.alloc (.cells #[.int .i64 (N : Int), sv] 24)) := (Grew.refl w).alloc _
 obtain ⟨p, c, rfl⟩ := hl.len
 obtain ⟨i0, hi, hz0, hz1, hz2⟩ := info_parts infoS
 obtain ⟨k0, hki, hkz0, hkz1, hkz2⟩ := info_parts infoI
 have hn1 := hR.n1
 have hm1 := hR.m1
 go_enter Tryz.func45, Tryz.ntmps45
 go_wp2_with (at_make; refine wpList_make_full _ rfl _ _ 25 rfl (w.heap.size + 1) 28 i0 (.slice none 0 0) 1 Tryz.underlying25 hi hz0 hz1 .i64 .i64 _ _ N rfl rfl rfl rfl (by rw [hz2]; omega) (by unfold maxLen; omega) (by simp) ?_; intro w3 hown hgrow; have hb3 : Below (w.heap.size + 1) (w.alloc (.cells #[.int .i64 (N : Int), .slice p l.length c] 24)) w3 := (Below.refl _ _).grown hgrow (by simp) (fun k e => by cases e); have x0 : w3.cell? ⟨w.heap.size, 0, none⟩ = some (.int .i64 (N : Int)) := (hb3.cell (p := ⟨w.heap.size, 0, none⟩) (by simp)).trans (by simp); have x1 : w3.cell? ⟨w.heap.size, 1, none⟩ = some (.slice p l.length c) := (hb3.cell (p := ⟨w.heap.size, 1, none⟩) (by simp)).trans (by simp))
 have hrow := Blk.made hown
 rw [slices_made] at hrow
 simp only [World.size_alloc] at hrow
 have hgl3 := hrow.lt
 have hbw3 : Below w.heap.size w w3 := hg1.below.trans (hb3.mono (by omega))
 clear hown hgrow hi hz0 hz1 hz2 hb3
 have hst : 0 < N → RNear N (w.heap.size + 1) w3.heap.size l 0 (.slice none 0 0) [] (List.replicate N (.slice none 0 0)) w3 := fun h => RNear.start hrow h
 have hsd : 0 = N → RDone N (w.heap.size + 1) l (List.replicate N (.slice none 0 0)) w3 := fun h => ⟨hrow, by simp, fun i hi => by omega⟩
 go_loopw [4] (fun i wr => ∃ (u H : Nat) (vs : List Value), u ≤ N ∧ i = .int .i64 u ∧ (u < N → RNear N (w.heap.size + 1) H l u (.slice none 0 0) [] vs wr) ∧ (u = N → RDone N (w.heap.size + 1) l vs wr) ∧ Below (w.heap.size + 1) w3 wr) (fun i _ => N - (intOf i).toNat)
 case atStart => exact ⟨0, _, _, Nat.zero_le _, rfl, hst, hsd, Below.refl _ _⟩
 case round =>
  obtain ⟨u, H, vs, hu, rfl, hrn, hrd, hb⟩ := hrel
  have y0 := (hb.cell (p := ⟨w.heap.size, 0, none⟩) (by simp)).trans x0
  have y1 := (hb.cell (p := ⟨w.heap.size, 1, none⟩) (by simp)).trans x1
  by_cases hlt : u < N
  ·have hRN := hrn hlt
   have huN : (u : Int) < (N : Int) := by omega
   clear hrn hrd hst hsd hrow
   go_wp2
   clear y0 y1
   go_loopw [5] (fun i wr2 => ∃ (v : Nat) (s : Value) (vs : List Value), v ≤ N ∧ i = .int .i64 v ∧ RNear N (w.heap.size + 1) H l u s (preU l u v) vs wr2 ∧ Below (w.heap.size + 1) w3 wr2) (fun i _ => N - (intOf i).toNat)
   case atStart => exact ⟨0, _, _, Nat.zero_le _, rfl, hRN, hb⟩
   case round =>
    obtain ⟨v, s, vs2, hv, rfl, hI, hb2⟩ := hrel
    clear hRN hb
    have z0 := (hb2.cell (p := ⟨w.heap.size, 0, none⟩) (by simp)).trans x0
    have z1 := (hb2.cell (p := ⟨w.heap.size, 1, none⟩) (by simp)).trans x1
    have hbw : Below w.heap.size w wr := hbw3.trans (hb2.mono (by omega))
    have hgw := hI.row.lt
    by_cases hlv : v < N
    ·have hvN : (v : Int) < (N : Int) := by omega
     have hfd := refFind_any (N : Int) l hm1 (u : Int) (v : Int) (.slice p l.length c) wr (hl.go hbw)
     by_cases hf : 0 ≤ findP l (u : Int) (v : Int)
     ·have HP : Hid _ := preU_in hf
      generalize findP l (u : Int) (v : Int) = k at hfd hf
      go_wp2_with fail
      refine hfd.mono ?_
      rintro e w5 ⟨rfl, hg5⟩
      have hI6 := hI.go (hg5.trans ((Grew.refl w5).alloc (.cells #[.int .i64 (v : Int)] 3))).below
      have hI5 := hI.go hg5.below
      have hb5 : Below (w.heap.size + 1) w3 w5 := hb2.trans (hg5.below.mono (by omega))
      clear hfd hI z0 z1
      obtain ⟨ps, cs, rfl⟩ := owns_form hI5.own
      have k1 := hI5.row.cell hI5.here
      have hpl := preU_len l u v
      have hown6 := hI6.own
      have hne : some (w.heap.size + 1) ≠ (Value.slice ps (preU l u v).length cs).ownBlock := fun e => by have := (hI6.own.lt _ e.symm).1; have := hI6.out; omega
      have hlow : ∀ k, (Value.slice ps (preU l u v).length cs).ownBlock = some k → w.heap.size + 1 ≤ k := fun k e => by have := (hI6.own.lt _ e).1; have := hI6.out; omega
      have hnw : ∀ (i : Nat) (x : Value), [Value.int .i64 (v : Int)][i]? = some x → (w5.alloc (.cells #[.int .i64 (v : Int)] 3)).cell? ((⟨w5.heap.size, 0, none⟩ : Addr).add i) = some x := newsI1 _
      have hmx : (preU l u v).length + 1 ≤ maxLen := by unfold maxLen; omega
      have hby : ((preU l u v).length + 1) * 8 ≤ 140737488355328 := by omega
      have hbs := hI6.hi
      have hb6 : Below (w.heap.size + 1) w3 (w5.alloc (.cells #[.int .i64 (v : Int)] 3)) := hb5.alloc (by have := hg5.below.size; omega) _
      have hs6 : w.heap.size + 1 ≤ (w5.alloc (.cells #[.int .i64 (v : Int)] 3)).heap.size := by have := hg5.below.size; simp; omega
      have hvl : (u : Int) < (N : Int) := huN
      go_wp2_with (at_builtin; refine wpList_append_own_at _ rfl _ _ 28 rfl H 3 k0 (.int .i64 0) 1 8 Tryz.underlying28 hki hkz0 hkz1 hkz2 (by simp [Value.cells]) (by decide) (.slice ps (preU l u v).length cs) _ _ rfl hown6 ⟨w5.heap.size, 0, none⟩ 1 1 [.int .i64 (v : Int)] rfl rfl hnw (by simp [Value.oneCell']) hmx hby hbs ?_; intro v6 w6 hown7 hgrow7 hnil7 hat7; obtain ⟨p6, c6, rfl⟩ := owns_form hown7; have hr7 := hI6.row.grown hgrow7 hne; have k6 := hr7.cell hI6.here; have f6 := hr7.frozen u)
      have hpu := hI6.push (v : Int) hown7 hgrow7
      have hb7 : Below (w.heap.size + 1) w3 w6 := hb6.grown hgrow7 hs6 hlow
      rw [← HP.out] at hpu
      exact ⟨⟨v + 1, _, _, by omega, by go_num, hpu, hb7.setCell (p := ⟨w.heap.size + 1, u, none⟩) (Nat.le_refl _) _⟩, by simp [intOf]; omega⟩
     ·have hf' : findP l (u : Int) (v : Int) < 0 := by omega
      have HP : Hid _ := preU_out hf'
      clear hf
      generalize findP l (u : Int) (v : Int) = k at hfd hf'
      go_wp2_with fail
      refine hfd.mono ?_
      rintro e w5 ⟨rfl, hg5⟩
      have hI5 := hI.go hg5.below
      have hb5 : Below (w.heap.size + 1) w3 w5 := hb2.trans (hg5.below.mono (by omega))
      clear hfd hI z0 z1
      go_wp2
      refine ⟨⟨v + 1, s, vs2, by omega, by go_num, ?_, hb5⟩, by simp [intOf]; omega⟩
      rw [HP.out]
      exact hI5
    ·obtain rfl : v = N := by omega
     rw [preU_full hR] at hI
     have hnx := fun h => hI.next h
     have hdn := fun h => hI.done h
     go_wp2
     exact ⟨⟨u + 1, _, vs2, by omega, by go_num, hnx, hdn, hb2⟩, by simp [intOf]; omega⟩
  ·obtain rfl : u = N := by omega
   have hL := (hrd rfl).lsts
   go_wp2
   go_ret
   exact ⟨_, rfl, hL, hbw3.trans (hb.mono (by omega))⟩
end Go.Proofs.YtjpkojmjiaoifaaGreat

namespace Go.Proofs.YtjpkojmjiaoifaaGreat
open Go Go.Proofs Go.RowKit
theorem perm_of_sub : ∀ (A B : List Int), A.Nodup → (∀ x ∈ A, x ∈ B) → B.length ≤ A.length → A.Perm B
 | [], B, _, _, h => by
  have : B = [] := List.eq_nil_of_length_eq_zero (by simpa using h)
  rw [this]
 | a :: A, B, hn, hs, hl => by
  have ha : a ∈ B := hs a (by simp)
  have hp := List.perm_cons_erase ha
  rw [List.nodup_cons] at hn
  refine List.Perm.trans (List.Perm.cons a (perm_of_sub A (B.erase a) hn.2 (fun x hx => ?_) ?_)) hp.symm
  ·refine (List.mem_erase_of_ne ?_).2 (hs x (by simp [hx]))
   intro e
   rw [e] at hx
   exact hn.1 hx
  ·rw [List.length_erase_of_mem ha]
   simp at hl
   omega
def OneR (l : List Ed) (r : List (List Int)) (u : Nat) : Prop := (r.getD u []).length = (nb l (u : Int)).length ∧ ∀ x ∈ nb l (u : Int), x ∈ r.getD u []
theorem sys_of_ones {N : Nat} {l : List Ed} {r : List (List Int)} (hR : RightG (N : Int) l) (hl : r.length = N) (h : ∀ u, u < N → OneR l r u) : SysR N l r :=
 ⟨hl, fun v hv => (perm_of_sub _ _ ((nb_rise hR (v : Int)).imp fun {a b} (h : a < b) => (show a ≠ b by omega)) (h v hv).2 (by rw [(h v hv).1]; exact Nat.le_refl _)).symm⟩
theorem SysR.one {N : Nat} {l : List Ed} {r : List (List Int)} (h : SysR N l r) {u : Nat} (hu : u < N) : OneR l r u := ⟨(h.perm u hu).length_eq, fun _ hx => (h.perm u hu).mem_iff.2 hx⟩
set_option maxRecDepth 100000 in
set_option maxHeartbeats 4000000 in
theorem refSys_any (n : Int) (l : List Ed) (r : List (List Int)) (sv rv : Value) (w : World) (hl : Edges w.heap.size w sv l) (hr : Lsts w.heap.size w rv r) :
  Calls Tryz.prog 22 #[.agg #[.int .i64 n, sv], rv] w fun e w' => e = .returned (.int .i64 (sysK n l r)) ∧ Below w.heap.size w w' := by
 have hgA : Grew w (w.alloc (.cells #[.int .i64 n, sv] 24)) := (Grew.refl w).alloc _
 have hX : Blk 24 (w.alloc (.cells #[.int .i64 n, sv] 24)) w.heap.size [.int .i64 n, sv] := heap_alloc_new w _
 have q0 := hX.cell (j := 0) rfl
 have q1 := hX.cell (j := 1) rfl
 have hrc := refRight_any n l sv _ (hl.go hgA.below)
 have HX : Hid (Blk 24 (w.alloc (.cells #[.int .i64 n, sv] 24)) w.heap.size [.int .i64 n, sv]) := hX
 have HL : Hid (Edges w.heap.size w sv l) := hl
 obtain ⟨pr, cr, rfl⟩ := hr.len
 have HR0 : Hid (Lsts w.heap.size w (.slice pr r.length cr) r) := hr
 have HBA : Hid _ := hgA.below
 clear hX hl hr hgA
 go_enter Tryz.func22, Tryz.ntmps22
 go_wp2_with fail
 generalize w.alloc (.cells #[.int .i64 n, sv] 24) = w1 at *
 refine hrc.mono ?_
 clear hrc
 rintro e w2 ⟨rfl, hg2⟩
 have hX2 := HX.out.go hg2.below
 have y0 := hX2.cell (j := 0) rfl
 have y1 := hX2.cell (j := 1) rfl
 have HB2 : Hid (Below w.heap.size w w2) := HBA.out.trans (hg2.below.mono HBA.out.size)
 have HX2 : Hid (Blk 24 w2 w.heap.size [.int .i64 n, sv]) := hX2
 clear hX2 q0 q1 HX hg2 HBA
 by_cases hk : rightK n l = 0
 ·have hR := right_iff.1 hk
  obtain ⟨N, rfl⟩ : ∃ N : Nat, n = (N : Int) := ⟨n.toNat, by have := hR.n0; omega⟩
  have hn1 := hR.n1
  have hm1 := hR.m1
  have HR : Hid (RightG (N : Int) l) := hR
  rw [hk]
  by_cases hlen : r.length = N
  ·have hne := refNear_any N l hR sv w2 (HL.out.go HB2.out)
   have hlen' : ((N : Int) != (N : Int)) = false := by simp
   rw [hlen] at HR0 ⊢
   clear hk hR
   go_wp2_with fail
   refine hne.mono ?_
   clear hne
   rintro e w3 ⟨nv, rfl, hN3, hb3⟩
   obtain ⟨pn, cn, rfl⟩ := hN3.len
   rw [nearL_len] at hN3 ⊢
   have HN3 : Hid (Lsts w3.heap.size w3 (.slice pn N cn) (nearL N l)) := hN3
   have HB3 : Hid (Below w.heap.size w w3) := HB2.out.trans (hb3.mono HB2.out.size)
   have HX3 : Hid (Blk 24 w3 w.heap.size [.int .i64 (N : Int), sv]) := HX2.out.go hb3
   clear hN3 hb3 HX2 y0 y1 hlen'
   go_wp2
   go_loopw [6] (fun iv wr => ∃ j : Nat, j ≤ N ∧ iv = .int .i64 j ∧ Hid (∀ u, u < j → OneR l r u) ∧ Below w3.heap.size w3 wr) (fun i _ => N - (intOf i).toNat)
   case atStart => exact ⟨0, Nat.zero_le _, rfl, fun u h => by omega, Below.refl _ _⟩
   case round =>
    obtain ⟨j, hj, rfl, HS, hb⟩ := hrel
    have hXr := HX3.out.go hb
    have x0 := hXr.cell (j := 0) rfl
    have hbw : Below w.heap.size w wr := HB3.out.trans (hb.mono HB3.out.size)
    by_cases hlt : j < N
    ·have hjl : (j : Int) < (N : Int) := by omega
     have hRr : Lsts w.heap.size wr (.slice pr r.length cr) r := by rw [hlen]; exact HR0.out.below hbw
     have hNr : Lsts w3.heap.size wr (.slice pn (nearL N l).length cn) (nearL N l) := by rw [nearL_len]; exact HN3.out.below hb
     have hjr : j < r.length := by omega
     have hjn : j < (nearL N l).length := by rw [nearL_len]; exact hlt
     obtain ⟨b, off, rfl, hbb, hcap, pA, cA, hIA, c0⟩ := hRr.cellAt hjr
     obtain ⟨bn, offn, rfl, hbn, hcapn, pB, cB, hIB, d0⟩ := hNr.cellAt hjn
     have hgA : r.getD j [] = r[j] := by rw [List.getD_eq_getElem?_getD, List.getElem?_eq_getElem hjr]; rfl
     have hgB : (nearL N l)[j] = nb l (j : Int) := by
      have := nearL_at (l := l) hlt
      rw [List.getElem?_eq_getElem hjn, Option.some.injEq] at this
      exact this
     have hBl : (nearL N l)[j].length ≤ 4194304 := by rw [hgB]; exact Nat.le_trans (nb_len _ _) hm1
     have HONE : Hid (OneR l r j ↔ r[j].length = (nearL N l)[j].length ∧ ∀ x ∈ (nearL N l)[j], x ∈ r[j]) := by unfold Hid OneR; rw [hgA, hgB]
     have HNO : Hid (¬ OneR l r j → sysK (N : Int) l r = 12) := fun h => sysK_not HR.out fun hs => h (SysR.one hs hlt)
     have HLT : Hid (j < N) := hlt
     have HIA : Hid (Ints wr.heap.size wr (.slice pA r[j].length cA) r[j]) := hIA.mono hbw.size
     have HIB : Hid (Ints wr.heap.size wr (.slice pB (nearL N l)[j].length cB) (nearL N l)[j]) := hIB.mono hb.size
     clear hgA hgB hRr hNr hIA hIB hXr
     generalize r[j] = A at *
     generalize (nearL N l)[j] = B at *
     clear hjr hjn hlt
     have HB : Hid (Below w3.heap.size w3 wr) := hb
     clear hb
     by_cases hl2 : A.length = B.length
     ·have hl2' : ((A.length : Int) != (B.length : Int)) = false := by rw [hl2]; simp
      have HL2 : Hid (A.length = B.length) := hl2
      clear hl2
      go_wp2
      go_quiet (fail)
      have c0q : (wr.drewN nq).cell? ⟨b, off + j, none⟩ = some (.slice pA A.length cA) := c0
      have d0q : (wr.drewN nq).cell? ⟨bn, offn + j, none⟩ = some (.slice pB B.length cB) := d0
      have HBq : Hid (Below w3.heap.size w3 (wr.drewN nq)) := below_drewN HB.out nq
      have HIAq : Hid (Ints (wr.drewN nq).heap.size (wr.drewN nq) (.slice pA A.length cA) A) := HIA.out
      have HIBq : Hid (Ints (wr.drewN nq).heap.size (wr.drewN nq) (.slice pB B.length cB) B) := HIB.out
      clear c0 d0 HB HIA HIB x0 hbw
      generalize wr.drewN nq = w4 at *
      go_wp2
      go_loopw [7] (fun iv wx => ∃ k : Nat, k ≤ B.length ∧ iv = .int .i64 k ∧ Hid (∀ (i : Nat) (h1 : i < B.length), i < k → B[i] ∈ A) ∧ Below w4.heap.size w4 wx) (fun i _ => B.length - (intOf i).toNat)
      case atStart => exact ⟨0, Nat.zero_le _, rfl, fun i _ h => by omega, Below.refl _ _⟩
      case round =>
       obtain ⟨k, hk, rfl, HIN, hbk⟩ := hrel
       have c1 := cell_keepK hbk c0q
       have d1 := cell_keepK hbk d0q
       by_cases hkl : k < B.length
       ·have hkl' : (k : Int) < (B.length : Int) := by omega
        obtain ⟨bB, oB, rfl, hbB, hcB, hcl⟩ := HIBq.out.open hkl
        have e1 := hcl wr hbk k hkl
        have hht : ∀ q, Calls Tryz.prog 46 #[.slice pA A.length cA, .int .i64 B[k]] (wr.drewN q) fun r w' => r = .returned (.bool (inB A B[k])) ∧ w' = wr.drewN q := fun q => has_any A (by have := HL2.out; omega) _ _ _ _ (HIAq.out.go (below_drewN hbk q))
        have HNI : Hid (inB A B[k] = true → ∀ (i : Nat) (h1 : i < B.length), i < k + 1 → B[i] ∈ A) := fun h i h1 hi => by
         by_cases e : i = k
         ·subst e; exact inB_true.1 h
         ·exact HIN.out i h1 (by omega)
        have HNB : Hid (inB A B[k] = false → sysK (N : Int) l r = 12) := fun h => HNO.out (fun h1 => inB_false.1 h ((HONE.out.1 h1).2 _ (List.getElem_mem hkl)))
        have HKL : Hid (k < B.length) := hkl
        have HBk : Hid (Below w4.heap.size w4 wr) := hbk
        clear HIN hcl hbk
        generalize B[k] = x at *
        clear hkl
        go_wp2
        go_quiet ((go_at_call 46; exact Calls.quiet_of_same (hht _)))
        have HBq2 : Hid (Below w4.heap.size w4 (wr.drewN nq)) := below_drewN HBk.out nq
        generalize wr.drewN nq = w8 at HBq2 ⊢
        clear c1 d1 e1 hht
        cases hin : inB A x with
        | true =>
         have HN2 : Hid _ := HNI.out hin
         clear hin HNI HNB
         go_wp2
         exact ⟨⟨k + 1, HKL.out, by go_num, HN2.out, HBq2.out⟩, by have := HKL.out; simp [intOf]; omega⟩
        | false =>
         have HE : Hid _ := HNB.out hin
         have HFB : Hid (Below w.heap.size w w8) := by
          have h1 := HBq.out.trans (HBq2.out.mono HBq.out.size)
          exact HB3.out.trans (h1.mono HB3.out.size)
         clear hin HNI HNB
         go_wp2
         go_ret
         exact ⟨by rw [HE.out]; rfl, HFB.out⟩
       ·obtain rfl : k = B.length := by omega
        have HO2 : Hid (∀ u, u < j + 1 → OneR l r u) := fun u hu => by
         by_cases e : u = j
         ·subst e
          refine HONE.out.2 ⟨HL2.out, fun x hx => ?_⟩
          obtain ⟨i, hi, rfl⟩ := List.getElem_of_mem hx
          exact HIN.out i hi hi
         ·exact HS.out u (by omega)
        have HFB : Hid (Below w3.heap.size w3 wr) := HBq.out.trans (hbk.mono HBq.out.size)
        clear HIN HONE HNO HS hbk
        go_wp2
        exact ⟨⟨j + 1, HLT.out, by go_num, HO2.out, HFB.out⟩, by have := HLT.out; simp [intOf]; omega⟩
     ·have hl2' : ((A.length : Int) != (B.length : Int)) = true := by rw [bne_iff_ne]; omega
      have HE : Hid _ := HNO.out (fun h => hl2 (HONE.out.1 h).1)
      clear HONE HNO HS hl2
      go_wp2
      go_quiet (fail)
      have HFB : Hid (Below w.heap.size w (wr.drewN nq)) := below_drewN hbw nq
      generalize wr.drewN nq = w8 at HFB ⊢
      go_wp2
      go_ret
      exact ⟨by rw [HE.out]; rfl, HFB.out⟩
    ·obtain rfl : j = N := by omega
     have HE : Hid _ := sysK_ok HR.out (sys_of_ones HR.out hlen HS.out)
     clear HS hXr
     go_wp2
     go_ret
     exact ⟨by rw [HE.out]; rfl, hbw⟩
  ·have hlen' : ((r.length : Int) != (N : Int)) = true := by rw [bne_iff_ne]; omega
   have HE : Hid (sysK (N : Int) l r = 12) := sysK_not HR.out fun h => hlen h.len
   clear hk hR
   go_wp2
   go_ret
   exact ⟨by rw [HE.out]; rfl, HB2.out⟩
 ·have HE : Hid (sysK n l r = 1) := if_neg hk
  generalize rightK n l = k at *
  go_wp2
  go_ret
  exact ⟨by rw [HE.out]; rfl, HB2.out⟩
end Go.Proofs.YtjpkojmjiaoifaaGreat

namespace Go.Proofs.YtjpkojmjiaoifaaGreat
open Go Go.Proofs Go.RowKit
theorem sysK_nought {n : Int} {l : List Ed} {r : List (List Int)} (h : sysK n l r = 0) : ∃ N : Nat, n = (N : Int) ∧ RightG (N : Int) l ∧ SysR N l r := by
 unfold sysK at h
 by_cases hk : rightK n l = 0
 ·rw [if_pos hk] at h
  have hR := right_iff.1 hk
  obtain ⟨N, rfl⟩ : ∃ N : Nat, n = (N : Int) := ⟨n.toNat, by have := hR.n0; omega⟩
  refine ⟨N, rfl, hR, ?_⟩
  by_cases hs : r.map sortL = nearL (N : Int).toNat l
  ·exact (sys_iff hR).1 hs
  ·rw [if_neg hs] at h; cases h
 ·rw [if_neg hk] at h; cases h
end Go.Proofs.YtjpkojmjiaoifaaGreat
