import Derived.Test.YtjpkojmjiaoifaaGreatXCFvG
namespace Go.Proofs.YtjpkojmjiaoifaaGreat
open Go Go.Proofs Go.RowKit
theorem hue_of {C T near B : List Int} {v m : Nat} (hT : T.length = m) (hno : ∀ (i : Nat), i < T.length → T.getD i 0 ≠ (v : Int)) (hB : ∀ u ∈ near, ∃ w ∈ B, C.getD w.toNat 0 = C.getD u.toNat 0) (hfew : B.length < m) : ∃ k : Nat, hueL C v T near = (k : Int) ∧ k < m ∧ LeastC C near k := by
 have hmk := markT_at C (v : Int) near T hno
 have hlen : (markT C (v : Int) T near).length = m := by rw [markT_len, hT]
 have hat : ∀ i (h : i < (markT C (v : Int) T near).length), (markT C (v : Int) T near).getD i 0 = (markT C (v : Int) T near)[i] := fun i h => by rw [List.getD_eq_getElem?_getD, List.getElem?_eq_getElem h]; rfl
 unfold hueL idxF
 cases hf : (markT C (v : Int) T near).findIdx? (fun t => t != (v : Int)) with
 | none =>
  exfalso
  rw [List.findIdx?_eq_none_iff] at hf
  have hall : ∀ i, i < m → i ∈ B.map (fun u => (C.getD u.toNat 0).toNat) := fun i hi => by
   have h1 := hf _ (List.getElem_mem (by rw [hlen]; exact hi : i < (markT C (v : Int) T near).length))
   have h2 : (markT C (v : Int) T near)[i]'(by rw [hlen]; exact hi) = (v : Int) := by simpa using h1
   rw [← hat i (by rw [hlen]; exact hi)] at h2
   obtain ⟨u, hu, _, e⟩ := (hmk i (by rw [hT]; exact hi)).1 h2
   obtain ⟨w, hw, ew⟩ := hB u hu
   exact List.mem_map.2 ⟨w, hw, by rw [ew]; exact e⟩
  have := nodup_lenC (A := List.range m) (B := B.map (fun u => (C.getD u.toNat 0).toNat)) List.nodup_range (fun x hx => hall x (List.mem_range.1 hx))
  rw [List.length_range, List.length_map] at this
  omega
 | some k =>
  rw [List.findIdx?_eq_some_iff_getElem] at hf
  obtain ⟨hk, hp, hlo⟩ := hf
  have hkm : k < m := by rw [hlen] at hk; exact hk
  have hne : (markT C (v : Int) T near).getD k 0 ≠ (v : Int) := by rw [hat k hk]; simpa using hp
  refine ⟨k, rfl, hkm, fun u hu e => ?_, fun i hi => ?_⟩
  ·exact hne ((hmk k (by rw [hT]; exact hkm)).2 ⟨u, hu, by omega, by omega⟩)
  ·have h1 := hlo i hi
   have h2 : (markT C (v : Int) T near)[i]'(by omega) = (v : Int) := by simpa using h1
   rw [← hat i (by omega)] at h2
   obtain ⟨u, hu, h3, e⟩ := (hmk i (by omega)).1 h2
   exact ⟨u, hu, by omega⟩
theorem setC_getD {C : List Int} {v : Nat} {x : Int} (i : Nat) : (C.set v x).getD i 0 = if v = i ∧ i < C.length then x else C.getD i 0 := by
 rw [List.getD_eq_getElem?_getD, List.getElem?_set]
 by_cases e : v = i
 ·subst e
  by_cases hl : v < C.length
  ·rw [if_pos rfl, if_pos hl, if_pos ⟨rfl, hl⟩]; rfl
  ·rw [if_pos rfl, if_neg hl, if_neg (fun h => hl h.2), List.getD_eq_getElem?_getD, List.getElem?_eq_none (by omega)]
 ·rw [if_neg e, if_neg (fun h => e h.1), List.getD_eq_getElem?_getD]
theorem GS.more {m : Nat} {C T T' P : List Int} (h : GS m C T P) {v : Nat} {k : Int} (h0 : -1 ≤ k) (hk : k < m) (hT : T'.length = T.length) (ht : ∀ i : Nat, i < T.length → T'.getD i 0 = -1 ∨ T'.getD i 0 ∈ P ∨ T'.getD i 0 = (v : Int)) : GS m (C.set v k) T' (P ++ [(v : Int)]) := by
 refine ⟨hT.trans h.len, fun i => ?_, fun i hi => ?_, fun i hi => ?_⟩
 ·rw [setC_getD]
  split
  ·exact hk
  ·exact h.small i
 ·rw [setC_getD]
  split
  ·exact h0
  ·exact h.low i (by rw [List.length_set] at hi; exact hi)
 ·rcases ht i (by rw [← hT]; exact hi) with h1 | h1 | h1
  ·exact .inl h1
  ·exact .inr (List.mem_append_left _ h1)
  ·exact .inr (by rw [h1]; simp)
theorem colr_of (n : Nat) : ∀ (ss : List StpM) (adj : Nat → Nat → Prop) (S : List Nat), Shr (ss.map conv) adj S → (∀ s ∈ ss, StepOK n s) → (ss.map fun s => s.1).Nodup →
  ColR (ss.map conv) (fun u => (undS n (revS ss)).1.getD u (-1)) ∧ GS 5 (undS n (revS ss)).1 (undS n (revS ss)).2 ((revS ss).map fun s => s.1)
 | [], _, _, _, _, _ => by
  refine ⟨fun u => ?_, ?_⟩
  ·show (List.replicate n (-1 : Int)).getD u (-1) = -1
   rw [List.getD_eq_getElem?_getD, List.getElem?_replicate]
   split <;> rfl
  ·exact GS.start n 5 (by omega)
 | s :: ss, adj, S, hsh, hs, hn => by
  rw [List.map_cons, List.nodup_cons] at hn
  rw [List.map_cons] at hsh
  obtain ⟨⟨v, hv, hvn⟩, hy, hl, hu⟩ := hs s List.mem_cons_self
  have hsh' : ∃ adj' S', Shr (ss.map conv) adj' S' := by
   unfold conv at hsh
   split at hsh
   ·exact ⟨_, _, hsh.2.2.2.2⟩
   ·exact ⟨_, _, hsh.2.2.2.2⟩
  obtain ⟨adj', S', hsh'⟩ := hsh'
  obtain ⟨ih1, ih2⟩ := colr_of n ss adj' S' hsh' (fun x hx => hs x (List.mem_cons_of_mem _ hx)) hn.2
  have hP : (v : Int) ∉ (revS ss).map fun s => s.1 := by
   intro hm
   obtain ⟨x, hx, e⟩ := List.mem_map.1 hm
   unfold revS at hx
   rw [List.mem_reverse, List.mem_map] at hx
   obtain ⟨y, hy', rfl⟩ := hx
   exact hn.1 (List.mem_map.2 ⟨y, hy', by rw [hv]; exact e⟩)
  have hlen := undS_len n (revS ss)
  have hfirst : ∀ t ss', ss = t :: ss' → 0 ≤ t.2.2.2 → (undS n (revS ss)).1.getD t.1.toNat 0 = (undS n (revS ss)).1.getD t.2.2.2.toNat 0 := by
   rintro t ss' rfl ht
   obtain ⟨⟨a, ha, han⟩, hb, _⟩ := hs t (by simp)
   have hl' := undS_len n (revS ss')
   rw [revS_cons, undS_snoc]
   generalize undS n (revS ss') = q at *
   obtain ⟨C, T⟩ := q
   unfold und1
   dsimp only at *
   rw [if_pos ht]
   dsimp only
   have e1 : t.1.toNat = a := by omega
   rw [e1, setC_getD, setC_getD, if_pos ⟨rfl, by omega⟩]
   split <;> rfl
  rw [revS_cons, undS_snoc]
  rw [List.map_cons, List.map_append, List.map_cons, List.map_nil]
  rcases hy with hy | ⟨y, hy, hyn⟩
  ·have e2 : conv s = (v, s.2.2.1.map Int.toNat, none) := by unfold conv; rw [hv, Int.toNat_natCast, hy, if_pos (by omega)]
   rw [e2] at hsh ⊢
   have hB : ∃ B : List Int, (∀ u ∈ s.2.2.1, ∃ w ∈ B, (undS n (revS ss)).1.getD w.toNat 0 = (undS n (revS ss)).1.getD u.toNat 0) ∧ B.length < 5 := by
    rcases hsh.2.2.2.1 with h4 | ⟨h5, x, z, l, rest', hr, hx, hz, hxz⟩
    ·rw [List.length_map] at h4
     exact ⟨s.2.2.1, fun u hu => ⟨u, hu, rfl⟩, by omega⟩
    ·rw [List.length_map] at h5
     cases hss : ss with
     | nil => rw [hss] at hr; cases hr
     | cons t ss' =>
      rw [hss, List.map_cons] at hr
      have ht0 : 0 ≤ t.2.2.2 ∧ t.1.toNat = x ∧ t.2.2.2.toNat = z := by
       have h1 := (List.cons.inj hr).1
       unfold conv at h1
       by_cases h0 : t.2.2.2 < 0
       ·rw [if_pos h0] at h1
        cases h1
       ·rw [if_neg h0] at h1
        simp only [Prod.mk.injEq, Option.some.injEq] at h1
        exact ⟨by omega, h1.1, h1.2.2⟩
      have hf := hfirst t ss' hss ht0.1
      rw [ht0.2.1, ht0.2.2] at hf
      rw [← hss]
      obtain ⟨x', hx', ex⟩ := List.mem_map.1 hx
      obtain ⟨z', hz', ez⟩ := List.mem_map.1 hz
      refine ⟨s.2.2.1.erase x', fun u hu' => ?_, by rw [List.length_erase_of_mem hx']; have := List.length_pos_of_mem hx'; omega⟩
      by_cases e : u = x'
      ·subst e
       have hne : z' ≠ u := fun e => hxz (by rw [← ex, ← ez, e])
       exact ⟨z', (List.mem_erase_of_ne hne).2 hz', by rw [ex, ez]; exact hf.symm⟩
      ·exact ⟨u, (List.mem_erase_of_ne e).2 hu', rfl⟩
   clear hfirst
   generalize undS n (revS ss) = q at *
   obtain ⟨C, T⟩ := q
   have e1 : und1 (C, T) (s.1, s.2.2) = (C.set v (hueL C v T s.2.2.1), markT C (v : Int) T s.2.2.1) := by
    unfold und1
    dsimp only
    rw [hy, if_neg (by omega), hv, Int.toNat_natCast]
   rw [e1]
   dsimp only at *
   obtain ⟨B, hB1, hB2⟩ := hB
   obtain ⟨c, hc, hc5, hL⟩ := hue_of ih2.len (ih2.fresh hP) hB1 hB2
   refine ⟨?_, ?_⟩
   ·have hgd : ∀ u ∈ s.2.2.1, C.getD u.toNat (-1) = C.getD u.toNat 0 := fun u hu' => by
     obtain ⟨j, rfl, hj⟩ := hu u hu'
     rw [Int.toNat_natCast, List.getD_eq_getElem?_getD, List.getD_eq_getElem?_getD, List.getElem?_eq_getElem (by omega)]
     rfl
    refine ⟨fun u => C.getD u (-1), c, ih1, ⟨fun u hu' => ?_, fun i hi => ?_⟩, ?_⟩
    ·obtain ⟨x, hx, rfl⟩ := List.mem_map.1 hu'
     show C.getD x.toNat (-1) ≠ (c : Int)
     rw [hgd x hx]
     exact hL.none x hx
    ·obtain ⟨x, hx, e⟩ := hL.each i hi
     exact ⟨x.toNat, List.mem_map.2 ⟨x, hx, rfl⟩, by show C.getD x.toNat (-1) = (i : Int); rw [hgd x hx]; exact e⟩
    ·funext u
     unfold updC
     rw [List.getD_eq_getElem?_getD, List.getElem?_set, hc]
     by_cases e : v = u
     ·subst e
      rw [if_pos rfl, if_pos (by omega), if_pos rfl]
      rfl
     ·rw [if_neg e, if_neg (Ne.symm e)]
      show _ = C.getD u (-1)
      rw [List.getD_eq_getElem?_getD]
   ·rw [hc, hv]
    exact ih2.more (by omega) (by omega) (markT_len ..) (markT_was C (v : Int) _ s.2.2.1 T (fun i hi => (ih2.takers i hi).imp_right .inl))
  ·have e2 : conv s = (v, s.2.2.1.map Int.toNat, some y) := by unfold conv; rw [hv, Int.toNat_natCast, hy, if_neg (by omega), Int.toNat_natCast]
   rw [e2]
   clear hfirst
   generalize undS n (revS ss) = q at *
   obtain ⟨C, T⟩ := q
   have e1 : und1 (C, T) (s.1, s.2.2) = (C.set v (C.getD y 0), T) := by
    unfold und1
    dsimp only
    rw [hy, if_pos (by omega), hv, Int.toNat_natCast, Int.toNat_natCast]
   rw [e1]
   dsimp only at *
   refine ⟨⟨fun u => C.getD u (-1), ih1, ?_⟩, ?_⟩
   ·funext u
    unfold updC
    rw [List.getD_eq_getElem?_getD, List.getElem?_set]
    by_cases e : v = u
    ·subst e
     rw [if_pos rfl, if_pos (by omega), if_pos rfl]
     show C.getD y 0 = C.getD y (-1)
     rw [List.getD_eq_getElem?_getD, List.getD_eq_getElem?_getD, List.getElem?_eq_getElem (by omega)]
     rfl
    ·rw [if_neg e, if_neg (Ne.symm e)]
     show _ = C.getD u (-1)
     rw [List.getD_eq_getElem?_getD]
   ·rw [hv]
    exact ih2.more (ih2.low y (by omega)) (ih2.small y) rfl (fun i hi => (ih2.takers i hi).imp_right .inl)
structure FvI (n : Nat) (adj0 : Nat → Nat → Prop) (N : List (Option (List Int))) (F : List (List Int)) (ss : List StpM) : Prop where
 h : FvH n N F ss
 shr : ∀ rest, Shr rest (adjN N) (leftL N) → Shr (ss.map conv ++ rest) adj0 (List.range n)
 plan : Plan n (adjN N)
section
variable {n : Nat} {adj0 : Nat → Nat → Prop} {N : List (Option (List Int))} {F F1 : List (List Int)} {ss : List StpM}
theorem conv_alone (k : Nat) (sv : Value) (L : List Int) : conv ((k : Int), sv, L, -1) = (k, L.map Int.toNat, none) := by
 unfold conv
 rw [if_pos (show (-1 : Int) < 0 by omega), Int.toNat_natCast]
theorem conv_into (k y : Nat) (sv : Value) (L : List Int) : conv ((k : Int), sv, L, (y : Int)) = (k, L.map Int.toNat, some y) := by
 unfold conv
 rw [if_neg (show ¬ (y : Int) < 0 by omega), Int.toNat_natCast, Int.toNat_natCast]
theorem FvI.step (h : FvI n adj0 N F ss) {k : Nat} {S : List Int} (hS : N[k]? = some (some S)) (hS4 : S.length ≤ 4) (hF1 : FV n (n + (n + 6) * ss.length) F1) (hB1 : Bk N F1 (k : Int)) {L : List Int} (hp : L.Perm S) (sv : Value) :
  FvI n adj0 (dropQ (k : Int) L N F1).1 (dropQ (k : Int) L N F1).2 (ss ++ [((k : Int), sv, L, -1)]) := by
 obtain ⟨h1, h2, h3, h4, h5⟩ := h.h.step hS (by omega) hF1 hB1 hp sv
 refine ⟨h1, fun rest hr => ?_, by rw [← h2]; exact h.plan.less k⟩
 rw [List.map_append, List.append_assoc]
 refine h.shr _ ?_
 rw [List.map_cons, List.map_nil, conv_alone]
 show Shr ((k, L.map Int.toNat, none) :: rest) (adjN N) (leftL N)
 exact ⟨mem_left.2 ⟨S, hS⟩, h4, h5, .inl (by rw [List.length_map, hp.length_eq]; exact hS4), by rw [h2, ← h3]; exact hr⟩
theorem FvI.five (h : FvI n adj0 N F ss) {k : Nat} {S : List Int} (hS : N[k]? = some (some S)) (hS5 : S.length ≤ 5) (hF1 : FV n (n + (n + 6) * ss.length) F1) (hB1 : Bk N F1 (k : Int)) {L : List Int} (hp : L.Perm S) (sv : Value)
  {x y : Nat} (hx : (x : Int) ∈ L) (hy : (y : Int) ∈ L) (hxy : x ≠ y) {Sx Sy : List Int} (hSx : (dropQ (k : Int) L N F1).1[x]? = some (some Sx)) (hSy : (dropQ (k : Int) L N F1).1[y]? = some (some Sy)) (hno : (y : Int) ∉ Sx) {Lx : List Int} (hpx : Lx.Perm Sx) (sv2 : Value) :
  FvI n adj0 (mrgQ (x : Int) (y : Int) Lx (dropQ (k : Int) L N F1).1 (dropQ (k : Int) L N F1).2).1 (mrgQ (x : Int) (y : Int) Lx (dropQ (k : Int) L N F1).1 (dropQ (k : Int) L N F1).2).2 ((ss ++ [((k : Int), sv, L, -1)]) ++ [((x : Int), sv2, [], (y : Int))]) := by
 obtain ⟨h1, h2, h3, h4, h5⟩ := h.h.step hS hS5 hF1 hB1 hp sv
 obtain ⟨g1, g2, g3⟩ := h1.merge hSx hSy hxy hno hpx sv2
 have hnx : ¬ adjN (dropQ (k : Int) L N F1).1 x y := fun ⟨T, hT, hm⟩ => by
  rw [hSx] at hT
  simp only [Option.some.injEq] at hT
  subst hT
  exact hno hm
 have hkx : adjN N k x := ⟨S, hS, hp.mem_iff.1 hx⟩
 have hky : adjN N k y := ⟨S, hS, hp.mem_iff.1 hy⟩
 have hnN : ¬ adjN N x y := fun ha => by
  have hxk := (h.plan.lt hkx).2.2.1
  have hyk := (h.plan.lt hky).2.2.1
  have : less1 (adjN N) k x y := ⟨ha, hxk, hyk⟩
  rw [h2] at this
  exact hnx this
 refine ⟨g1, fun rest hr => ?_, by rw [← g2, ← h2]; exact h.plan.merge hkx hky hxy hnN⟩
 rw [List.map_append, List.map_append, List.append_assoc, List.append_assoc]
 refine h.shr _ ?_
 rw [List.map_cons, List.map_nil, List.map_cons, List.map_nil, conv_alone, conv_into]
 show Shr ((k, L.map Int.toNat, none) :: (x, [].map Int.toNat, some y) :: rest) (adjN N) (leftL N)
 refine ⟨mem_left.2 ⟨S, hS⟩, h4, h5, .inr ⟨by rw [List.length_map, hp.length_eq]; exact hS5, x, y, _, rest, rfl, List.mem_map.2 ⟨_, hx, by simp⟩, List.mem_map.2 ⟨_, hy, by simp⟩, hxy⟩, ?_⟩
 rw [h2, ← h3]
 exact ⟨mem_left.2 ⟨Sx, hSx⟩, mem_left.2 ⟨Sy, hSy⟩, hxy, hnx, by rw [g2, ← g3]; exact hr⟩
theorem FvI.left (h : FvI n adj0 N F ss) (hend : ∀ (v : Nat) (S : List Int), N[v]? = some (some S) → 5 < S.length) : leftL N = [] := by
 cases e : leftL N with
 | nil => rfl
 | cons v t =>
  exfalso
  obtain ⟨S, hS⟩ := mem_left.1 (show v ∈ leftL N by rw [e]; exact List.mem_cons_self)
  have h1 := hend v S hS
  obtain ⟨z, hz⟩ : ∃ z, z ∈ S := by
   cases S with
   | nil => simp at h1
   | cons z S => exact ⟨z, by simp⟩
  obtain ⟨j, rfl, _⟩ := (h.h.sub v S hS).2 z hz
  obtain ⟨u, L, ⟨w, Su, hSu, _⟩, hL, hLm, hl⟩ := h.plan.few (show adjN N v j from ⟨S, hS, hz⟩)
  have h2 := hend u Su hSu
  obtain ⟨hn, hm⟩ := h.h.sub u Su hSu
  have : Su.length ≤ (L.map fun (j : Nat) => (j : Int)).length := nodup_le hn fun z hz => by
   obtain ⟨j, rfl, _⟩ := hm z hz
   exact List.mem_map.2 ⟨j, (hLm j).2 ⟨Su, hSu, hz⟩, rfl⟩
  rw [List.length_map] at this
  omega
theorem FvI.apart (h : FvI n adj0 N F ss) {k : Nat} {S : List Int} (hS : N[k]? = some (some S)) (h5 : S.length = 5) (hF1 : FV n (n + (n + 6) * ss.length) F1) (hB1 : Bk N F1 (k : Int)) {L : List Int} (hp : L.Perm S) (hall : ∀ x y : Nat, (x : Int) ∈ L → (y : Int) ∈ L → x ≠ y → (y : Int) ∈ nbN (dropQ (k : Int) L N F1).1 (x : Int) ∨ (x : Int) ∈ nbN (dropQ (k : Int) L N F1).1 (y : Int)) : False := by
 obtain ⟨h1, h2, h3, h4, hm⟩ := h.h.step hS (by omega) hF1 hB1 hp (.slice none 0 0)
 obtain ⟨x, hx, y, hy, hxy, hno⟩ := h.plan.apart (v := k) (L := L.map Int.toNat) h4 (fun u hu => ((hm u).1 hu).2) (by rw [List.length_map, hp.length_eq]; exact h5)
 have hin : ∀ u, u ∈ L.map Int.toNat → (u : Int) ∈ L := fun u hu => by
  obtain ⟨S', hS', hz⟩ := ((hm u).1 hu).2
  rw [hS] at hS'
  simp only [Option.some.injEq] at hS'
  subst hS'
  exact hp.mem_iff.2 hz
 have hadj : ∀ a b : Nat, (b : Int) ∈ nbN (dropQ (k : Int) L N F1).1 (a : Int) → adjN N a b := fun a b hab => by
  have : adjN (dropQ (k : Int) L N F1).1 a b := by
   unfold nbN at hab
   rw [Int.toNat_natCast, List.getD_eq_getElem?_getD] at hab
   cases e : (dropQ (k : Int) L N F1).1[a]? with
   | none => rw [e] at hab; simp at hab
   | some o =>
    rw [e] at hab
    cases o with
    | none => simp at hab
    | some T => exact ⟨T, e, by simpa using hab⟩
  rw [← h2] at this
  exact this.1
 rcases hall x y (hin x hx) (hin y hy) hxy with h6 | h6
 ·exact hno (hadj x y h6)
 ·exact hno (h.plan.lt (hadj y x h6)).2.2.2
theorem FvI.done (h : FvI n adj0 N F ss) (hs : ∀ a b, adj0 a b → adj0 b a) (hi : ∀ a, ¬ adj0 a a) (hend : ∀ (v : Nat) (S : List Int), N[v]? = some (some S) → 5 < S.length) :
  ∀ u, u < n → (0 ≤ (undS n (revS ss)).1.getD u (-1) ∧ (undS n (revS ss)).1.getD u (-1) < 5) ∧ ∀ w, w < n → adj0 u w → (undS n (revS ss)).1.getD u (-1) ≠ (undS n (revS ss)).1.getD w (-1) := by
 have hshr := h.shr [] (by rw [h.left hend]; rfl)
 rw [List.append_nil] at hshr
 have hcol := (colr_of n ss adj0 _ hshr (fun s hs => (h.h.stp s hs).1) h.h.nod).1
 have := col_five (ss.map conv) adj0 (List.range n) _ hs hi List.nodup_range hshr hcol
 intro u hu
 obtain ⟨h1, h2⟩ := this u (List.mem_range.2 hu)
 exact ⟨h1, fun w hw ha => h2 w (List.mem_range.2 hw) ha⟩
end
end Go.Proofs.YtjpkojmjiaoifaaGreat
