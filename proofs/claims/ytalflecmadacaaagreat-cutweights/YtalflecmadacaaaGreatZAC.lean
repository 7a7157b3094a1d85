import Derived.OwnWalk
import Derived.Test.YtalflecmadacaaaGreatZAB
import Derived.Laws.OwnMore
import Derived.Maps.AppendAt
set_option maxRecDepth 100000
set_option maxHeartbeats 8000000
namespace Go.Proofs.YtalflecmadacaaaGreat
open Go Go.Proofs Go.RowKit
theorem infoI : (Tryz.prog.info? 3).map (fun i => (i.zero, i.size, i.bytes)) = some (some (.int .i64 0), 1, 8) := by kernel_rfl
theorem ints_made (n : Nat) : (madeCells (Value.int .i64 0).cells (n * 1)).toList = (List.replicate n (0 : Int)).map (Value.int .i64) := by
 apply List.ext_getElem
 ·simp [madeCells]
 ·intro i h1 h2
  simp [madeCells, Value.cells, Nat.mod_one]
theorem Blk.ints {W : World} {g : Nat} {l : List Int} {t : TypeId} (h : Blk t W g (l.map (Value.int .i64))) : Ints W.heap.size W (.slice (some ⟨g, 0, none⟩) l.length l.length) l :=
 .inr ⟨g, 0, l.length, rfl, h.lt, Nat.le_refl _, fun j x hx => by rw [Nat.zero_add]; exact h.cell (by rw [List.getElem?_map, hx]; rfl)⟩
def degL (N : Nat) (l : List Ed) (j : Nat) : List Int := (List.range N).map fun (v : Nat) => ((nb (l.take j) (v : Int)).length : Int)
theorem degL_len (N : Nat) (l : List Ed) (j : Nat) : (degL N l j).length = N := by simp [degL]
theorem degL_at {N : Nat} {l : List Ed} {j v : Nat} (h : v < N) : (degL N l j)[v]? = some ((nb (l.take j) (v : Int)).length : Int) := by simp [degL, h]
theorem degL_zero (N : Nat) (l : List Ed) : degL N l 0 = List.replicate N 0 := by
 apply List.ext_getElem <;> simp [degL, nb]
theorem degL_step {N : Nat} {l : List Ed} {j u v : Nat} (h : j < l.length) (hu : l[j].1 = (u : Int)) (hv : l[j].2.1 = (v : Int)) (hne : u ≠ v) (huN : u < N) (hvN : v < N) :
  ((degL N l j).set u ((nb (l.take j) (u : Int)).length + 1)).set v ((nb (l.take j) (v : Int)).length + 1) = degL N l (j + 1) := by
 apply List.ext_getElem?
 intro i
 by_cases hi : i < N
 ·rw [degL_at hi, List.getElem?_set, List.getElem?_set, degL_at hi, nb_snoc h, List.length_append]
  simp only [List.length_set, degL_len]
  unfold nbOf
  rw [hu, hv]
  by_cases h1 : v = i
  ·subst h1
   rw [if_pos rfl, if_pos hvN, if_neg (by omega), if_pos rfl]; simp
  ·rw [if_neg h1]
   by_cases h2 : u = i
   ·subst h2
    rw [if_pos rfl, if_pos huN, if_pos rfl]; simp
   ·rw [if_neg h2, if_neg (by omega), if_neg (by omega)]; simp
 ·rw [List.getElem?_eq_none (by simp [degL_len]; omega), List.getElem?_eq_none (by rw [degL_len]; omega)]
theorem degrees_any (N : Nat) (l : List Ed) (hR : RightG (N : Int) l) (sv : Value) (w : World) (hl : Edges w.heap.size w sv l) :
  Calls Tryz.prog 92 #[.agg #[.int .i64 (N : Int), sv]] w fun r w' => ∃ dv, r = .returned dv ∧ Ints w'.heap.size w' dv (degL N l l.length) ∧ (∃ g, dv = .slice (some ⟨g, 0, none⟩) N N ∧ w.heap.size < g) ∧ Below w.heap.size w w' := by
 have hg1 : Grew w (w.alloc (.cells #[.int .i64 (N : Int), sv] 24)) := (Grew.refl w).alloc _
 have hl1 := hl.go hg1.below
 obtain ⟨p, c, rfl⟩ := hl.len
 obtain ⟨i0, hi, hz0, hz1, hz2⟩ := info_parts infoI
 have hrc := fun W h => right_any (N : Int) l (.slice p l.length c) W h
 rw [right_iff.2 hR] at hrc
 have hn1 := hR.n1
 have hm1 := hR.m1
 go_enter Tryz.func92, Tryz.ntmps92
 go_wp2_with fail
 refine (hrc _ hl1).mono ?_
 rintro e w2 ⟨rfl, hg2⟩
 have q0 := (box2 _ hg2).1
 have q1 := (box2 _ hg2).2
 have hbox := box2_lt hg2
 have hbw := (hg1.trans hg2).below
 clear hrc hl1
 go_wp2_with (at_make; refine wpList_make_full _ rfl _ _ 27 rfl w2.heap.size 3 i0 (.int .i64 0) 1 Tryz.underlying27 hi hz0 hz1 .i64 .i64 _ _ N rfl rfl rfl rfl (by rw [hz2]; omega) (by unfold maxLen; omega) (Nat.le_refl _) ?_; intro w3 hown hgrow; have hb3 : Below w2.heap.size w2 w3 := (Below.refl _ _).grown hgrow (Nat.le_refl _) (fun k e => by cases e); have x1 := (hb3.cell (p := ⟨w.heap.size, 1, none⟩) hbox).trans q1)
 have hrow := Blk.made hown
 rw [ints_made, ← degL_zero N l] at hrow
 have hbw3 := hbw.trans (hb3.mono hbw.size)
 clear hown hgrow hi hz0 hz1 hz2 hb3 q0 q1 hg2 hg1 hbw
 generalize w2.heap.size = g at hrow hbox
 go_loopw [15] (fun i wr => ∃ j : Nat, j ≤ l.length ∧ i = .int .i64 j ∧ Blk 3 wr g ((degL N l j).map (Value.int .i64)) ∧ Below g w3 wr) (fun i _ => l.length - (intOf i).toNat)
 case atStart => exact ⟨0, Nat.zero_le _, rfl, hrow, Below.refl _ _⟩
 case round =>
  obtain ⟨j, hj, rfl, hB, hb⟩ := hrel
  have hbwr := hbw3.trans (hb.mono (by omega))
  have hgl := hB.lt
  by_cases hlt : j < l.length
  ·obtain ⟨b, off, rfl, hbb, hcap, hc, -⟩ := hl.open hlt
   obtain ⟨c0, c1, c2⟩ := hc wr hbwr j hlt
   have hjl : (j : Int) < (l.length : Int) := by omega
   have hok := hR.each l[j] (List.getElem_mem hlt)
   unfold okE at hok
   obtain ⟨u, hu⟩ : ∃ u : Nat, l[j].1 = (u : Int) := ⟨l[j].1.toNat, by omega⟩
   obtain ⟨v, hv⟩ : ∃ v : Nat, l[j].2.1 = (v : Int) := ⟨l[j].2.1.toNat, by omega⟩
   have huN : u < N := by omega
   have hvN : v < N := by omega
   have hne : u ≠ v := by omega
   have HS : Hid _ := degL_step (N := N) hlt hu hv hne huN hvN
   rw [hu] at c0
   rw [hv] at c1
   have hul := nb_le l (u : Int) j
   have hvl := nb_le l (v : Int) j
   have hul2 := nb_len (u : Int) l
   have hvl2 := nb_len (v : Int) l
   have huN' : (u : Int) < (N : Int) := by omega
   have hvN' : (v : Int) < (N : Int) := by omega
   have t0 : wr.cell? ⟨g, u, none⟩ = some (.int .i64 ((nb (l.take j) (u : Int)).length : Int)) := hB.cell (by rw [List.getElem?_map, degL_at huN]; rfl)
   have t1 : wr.cell? ⟨g, v, none⟩ = some (.int .i64 ((nb (l.take j) (v : Int)).length : Int)) := hB.cell (by rw [List.getElem?_map, degL_at hvN]; rfl)
   have f0 := hB.frozen u
   have f1 := hB.frozen v
   have hBn := (hB.set u (.int .i64 ((nb (l.take j) (u : Int)).length + 1))).set v (.int .i64 ((nb (l.take j) (v : Int)).length + 1))
   rw [← List.map_set, ← List.map_set, HS.out] at hBn
   generalize (nb (l.take j) (u : Int)).length = du at *
   generalize (nb (l.take j) (v : Int)).length = dv at *
   generalize l[j].2.2 = wv at c2
   have hbg : b ≠ g := by omega
   clear hc hok hu hv
   go_wp2
   exact ⟨⟨j + 1, by omega, by go_num, hBn.go ((Below.refl _ _).alloc (Nat.le_refl _) _), ((hb.setCell (p := ⟨g, u, none⟩) (Nat.le_refl _) _).setCell (p := ⟨g, v, none⟩) (Nat.le_refl _) _).alloc (by simp; omega) _⟩, by simp [intOf]; omega⟩
  ·obtain rfl : j = l.length := by omega
   have hI := hB.ints
   rw [degL_len] at hI
   go_wp2
   go_ret
   exact ⟨_, rfl, hI, ⟨g, rfl, hbox⟩, hbwr⟩
def cntL (N : Nat) (l : List Int) (j : Nat) : List Int := (List.range N).map fun (v : Nat) => (((l.take j).count (v : Int) : Nat) : Int)
theorem cntL_len (N : Nat) (l : List Int) (j : Nat) : (cntL N l j).length = N := by simp [cntL]
theorem cntL_at {N : Nat} {l : List Int} {j v : Nat} (h : v < N) : (cntL N l j)[v]? = some (((l.take j).count (v : Int) : Nat) : Int) := by simp [cntL, h]
theorem cntL_zero (N : Nat) (l : List Int) : cntL N l 0 = List.replicate N 0 := by
 apply List.ext_getElem <;> simp [cntL]
theorem count_next {l : List Int} {j : Nat} (h : j < l.length) (x : Int) : (l.take (j + 1)).count x = (l.take j).count x + (if l[j] = x then 1 else 0) := by
 rw [List.take_add_one, List.getElem?_eq_getElem h, List.count_append]
 congr 1
 show List.count x [l[j]] = _
 rw [List.count_singleton]
 by_cases hx : l[j] = x
 ·rw [if_pos hx, if_pos (by simpa using hx)]
 ·rw [if_neg hx, if_neg (by simpa using hx)]
theorem cntL_step {N : Nat} {l : List Int} {j u : Nat} (h : j < l.length) (hu : l[j] = (u : Int)) (huN : u < N) :
  (cntL N l j).set u (((l.take j).count (u : Int) : Nat) + 1) = cntL N l (j + 1) := by
 apply List.ext_getElem?
 intro i
 by_cases hi : i < N
 ·rw [cntL_at hi, List.getElem?_set, cntL_at hi, count_next h, cntL_len, hu]
  by_cases h1 : u = i
  ·subst h1
   rw [if_pos rfl, if_pos huN, if_pos rfl]
   simp
  ·rw [if_neg h1, if_neg (by omega)]
   simp
 ·rw [List.getElem?_eq_none (by simp [cntL_len]; omega), List.getElem?_eq_none (by rw [cntL_len]; omega)]
def Labels (l : List Int) : Prop := ∀ x ∈ l, 0 ≤ x ∧ x < (l.length : Int)
theorem counted_any (l : List Int) (hL : Labels l) (hl : l.length ≤ 4194304) (sv : Value) (w : World) (hA : Ints w.heap.size w sv l) :
  Calls Tryz.prog 96 #[sv] w fun r w' => ∃ g, r = .returned (.slice (some ⟨g, 0, none⟩) l.length l.length) ∧ Blk 3 w' g ((cntL l.length l l.length).map (Value.int .i64)) ∧ w.heap.size ≤ g ∧ Below w.heap.size w w' := by
 obtain ⟨p, c, rfl⟩ := hA.len
 obtain ⟨i0, hi, hz0, hz1, hz2⟩ := info_parts infoI
 go_enter Tryz.func96, Tryz.ntmps96
 go_wp2_with (at_make; refine wpList_make_full _ rfl _ _ 27 rfl w.heap.size 3 i0 (.int .i64 0) 1 Tryz.underlying27 hi hz0 hz1 .i64 .i64 _ _ l.length rfl rfl rfl rfl (by rw [hz2]; omega) (by unfold maxLen; omega) (Nat.le_refl _) ?_; intro w3 hown hgrow; have hb3 : Below w.heap.size w w3 := (Below.refl _ _).grown hgrow (Nat.le_refl _) (fun k e => by cases e))
 have hrow := Blk.made hown
 rw [ints_made, ← cntL_zero l.length l] at hrow
 clear hown hgrow hi hz0 hz1 hz2
 have hwg : w.heap.size ≤ w.heap.size := Nat.le_refl _
 obtain ⟨g, hg⟩ : ∃ g, g = w.heap.size := ⟨_, rfl⟩
 rw [← hg] at hrow ⊢
 go_loopw [11] (fun i wr => ∃ j : Nat, j ≤ l.length ∧ i = .int .i64 j ∧ Blk 3 wr g ((cntL l.length l j).map (Value.int .i64)) ∧ Below g w3 wr) (fun i _ => l.length - (intOf i).toNat)
 case atStart => exact ⟨0, Nat.zero_le _, rfl, hrow, Below.refl _ _⟩
 case round =>
  obtain ⟨j, hj, rfl, hB, hb⟩ := hrel
  have hbwr : Below w.heap.size w wr := hb3.trans (hb.mono (by omega))
  have hgl := hB.lt
  by_cases hlt : j < l.length
  ·obtain ⟨b, off, rfl, hbb, hcap, hc⟩ := hA.open hlt
   have c0 := hc wr hbwr j hlt
   have hjl : (j : Int) < (l.length : Int) := by omega
   have hok := hL l[j] (List.getElem_mem hlt)
   obtain ⟨u, hu⟩ : ∃ u : Nat, l[j] = (u : Int) := ⟨l[j].toNat, by omega⟩
   have huN : u < l.length := by omega
   have HS : Hid _ := cntL_step (N := l.length) hlt hu huN
   rw [hu] at c0
   have hul : (l.take j).count (u : Int) ≤ l.length := Nat.le_trans List.count_le_length (by rw [List.length_take]; omega)
   have huN' : (u : Int) < (l.length : Int) := by omega
   have t0 : wr.cell? ⟨g, u, none⟩ = some (.int .i64 (((l.take j).count (u : Int) : Nat) : Int)) := hB.cell (by rw [List.getElem?_map, cntL_at huN]; rfl)
   have f0 := hB.frozen u
   have hBn := hB.set u (.int .i64 (((l.take j).count (u : Int) : Nat) + 1))
   rw [← List.map_set, HS.out] at hBn
   generalize (l.take j).count (u : Int) = du at *
   have hbg : b ≠ g := by omega
   clear hc hok hu hg
   go_wp2
   exact ⟨⟨j + 1, by omega, by go_num, hBn, hb.setCell (p := ⟨g, u, none⟩) (Nat.le_refl _) _⟩, by simp [intOf]; omega⟩
  ·obtain rfl : j = l.length := by omega
   go_wp2
   go_ret
   exact ⟨g, rfl, hB, by omega, hbwr⟩
theorem infoSl : (Tryz.prog.info? 27).map (fun i => (i.zero, i.size, i.bytes)) = some (some (.slice none 0 0), 1, 24) := by kernel_rfl
theorem owns_keep {A B : World} {base : Nat} {e : TypeId} {size : Nat} {v : Value} {n : Nat} {xs : List Value} {r : Option Nat} (h : A.ownsRow base e size v n xs) (hg : A.grownBy B r) (hne : v.ownBlock = none ∨ v.ownBlock ≠ r) : B.ownsRow base e size v n xs := h.kept hg hne
theorem owns_lowset {W : World} {base : Nat} {e : TypeId} {size : Nat} {v : Value} {n : Nat} {xs : List Value} (h : W.ownsRow base e size v n xs) {p : Addr} (hp : p.block < base) (u : Value) : (W.setCell p u).ownsRow base e size v n xs := by
 obtain ⟨h1, h2⟩ := h
 refine ⟨h1, ?_⟩
 rcases h2 with h2 | ⟨g, cap, cur, hv, hb, hg, r⟩
 ·exact .inl h2
 ·exact .inr ⟨g, cap, cur, hv, hb, (Below.heap_setCell _ _ _ _ (by omega)).trans hg, r⟩
theorem grown_below' {A B : World} (h : Below A.heap.size A B) (r : Option Nat) : A.grownBy B r := ⟨h.os, h.tape, h.output, h.size, fun k hk _ => h.block k hk⟩
structure Grp (h0 : Nat) (lv : Value) (svs : List Value) (pre : List (List Int)) (W : World) : Prop where
 len : svs.length = pre.length
 own : W.ownsRow h0 27 1 lv svs.length svs
 inn : ∀ (k : Nat) (sv : Value) (xs : List Int), svs[k]? = some sv → pre[k]? = some xs → W.ownsRow h0 3 1 sv xs.length (xs.map (Value.int .i64))
 apart : ∀ (k j : Nat) (sv sv' : Value), svs[k]? = some sv → svs[j]? = some sv' → k ≠ j → sv.ownBlock = none ∨ sv.ownBlock ≠ sv'.ownBlock
 outer : ∀ (k : Nat) (sv : Value), svs[k]? = some sv → sv.ownBlock = none ∨ sv.ownBlock ≠ lv.ownBlock
theorem Grp.start (h0 : Nat) (W : World) : Grp h0 (.slice none 0 0) [] [] W :=
 ⟨rfl, World.ownsRow_nil _ _ _ _, fun k sv xs h => by simp at h, fun k j sv sv' h => by simp at h, fun k sv h => by simp at h⟩
theorem Grp.low {h0 : Nat} {lv : Value} {svs : List Value} {pre : List (List Int)} {W : World} (h : Grp h0 lv svs pre W) {p : Addr} (hp : p.block < h0) (u : Value) : Grp h0 lv svs pre (W.setCell p u) :=
 ⟨h.len, owns_lowset h.own hp u, fun k sv xs h1 h2 => owns_lowset (h.inn k sv xs h1 h2) hp u, h.apart, h.outer⟩
theorem ownB_lt {W : World} {base : Nat} {e : TypeId} {size : Nat} {v : Value} {n : Nat} {xs : List Value} (h : W.ownsRow base e size v n xs) {k : Nat} (hk : W.heap.size ≤ k) : v.ownBlock = none ∨ v.ownBlock ≠ some k := by
 cases hv : v.ownBlock with
 | none => exact .inl rfl
 | some b =>
  refine .inr fun e => ?_
  have := (h.lt b hv).2
  simp only [Option.some.injEq] at e
  omega
theorem Grp.new {h0 : Nat} {lv lv' sv : Value} {svs : List Value} {pre : List (List Int)} {W A B : World} {o : Obj} (h : Grp h0 lv svs pre W) (hA : W.grownBy A none) (hs : A.ownsRow h0 3 1 sv 0 []) (hsb : sv.ownBlock = some W.heap.size) (hWA : W.heap.size < A.heap.size)
  (hB : B.ownsRow h0 27 1 lv' (svs.length + 1) (svs ++ [sv])) (hg : (A.alloc o).grownBy B lv.ownBlock) (hat : lv'.ownBlock = lv.ownBlock ∨ lv'.ownBlock = some (A.alloc o).heap.size) : Grp h0 lv' (svs ++ [sv]) (pre ++ [[]]) B := by
 have hkA : ∀ {e : TypeId} {size : Nat} {v : Value} {n : Nat} {xs : List Value}, W.ownsRow h0 e size v n xs → (A.alloc o).ownsRow h0 e size v n xs := fun {e size v n xs} ho => by
  refine World.ownsRow.alloc (owns_keep ho hA ?_) o
  cases v.ownBlock with
  | none => exact .inl rfl
  | some k => exact .inr (by simp)
 have hlvW : lv.ownBlock = none ∨ lv.ownBlock ≠ some W.heap.size := ownB_lt h.own (Nat.le_refl _)
 have hne : sv.ownBlock ≠ lv.ownBlock := fun e => by
  rw [hsb] at e
  rcases hlvW with h1 | h1
  ·rw [h1] at e; cases e
  ·exact h1 e.symm
 have hsA := (World.ownsRow.alloc hs o)
 have hlen := h.len
 have split : ∀ {k : Nat} {x : Value}, (svs ++ [sv])[k]? = some x → (k < svs.length ∧ svs[k]? = some x) ∨ (k = svs.length ∧ x = sv) := fun {k x} hx => by
  rw [List.getElem?_append] at hx
  by_cases hk : k < svs.length
  ·rw [if_pos hk] at hx
   exact .inl ⟨hk, hx⟩
  ·rw [if_neg hk] at hx
   have h1 := (List.getElem?_eq_some_iff.1 hx).1
   simp at h1
   have h2 : k = svs.length := by omega
   subst h2
   simp at hx
   exact .inr ⟨rfl, hx.symm⟩
 have far : ∀ {k : Nat} {x : Value}, svs[k]? = some x → x.ownBlock = none ∨ ∀ m, W.heap.size ≤ m → x.ownBlock ≠ some m := fun {k x} hx => by
  have hk := (List.getElem?_eq_some_iff.1 hx).1
  obtain ⟨xs, hxs⟩ : ∃ xs, pre[k]? = some xs := ⟨_, List.getElem?_eq_getElem (by omega)⟩
  cases hv : x.ownBlock with
  | none => exact .inl rfl
  | some b =>
   refine .inr fun m hm e => ?_
   have := ((h.inn k x xs hx hxs).lt b hv).2
   simp only [Option.some.injEq] at e
   omega
 refine ⟨by simp [hlen], by rw [List.length_append]; exact hB, ?_, ?_, ?_⟩
 ·intro k x xs hx hp
  rcases split hx with ⟨hk, hx⟩ | ⟨rfl, rfl⟩
  ·rw [List.getElem?_append_left (by omega)] at hp
   exact owns_keep (hkA (h.inn k x xs hx hp)) hg (h.outer k x hx)
  ·rw [hlen, List.getElem?_append_right (Nat.le_refl _), Nat.sub_self] at hp
   simp at hp
   subst hp
   exact owns_keep hsA hg (.inr hne)
 ·intro k j x x' hx hx' hkj
  rcases split hx with ⟨hk, hy⟩ | ⟨rfl, rfl⟩
  ·rcases split hx' with ⟨hj, hy'⟩ | ⟨rfl, rfl⟩
   ·exact h.apart k j x x' hy hy' hkj
   ·rw [hsb]
    rcases far hy with h1 | h1
    ·exact .inl h1
    ·exact .inr (h1 _ (Nat.le_refl _))
  ·rcases split hx' with ⟨hj, hy'⟩ | ⟨rfl, rfl⟩
   ·refine .inr fun e => ?_
    rw [hsb] at e
    rcases far hy' with h1 | h1
    ·rw [h1] at e; cases e
    ·exact h1 _ (Nat.le_refl _) e.symm
   ·exact absurd rfl hkj
 ·intro k x hx
  rcases split hx with ⟨hk, hx⟩ | ⟨rfl, rfl⟩
  ·rcases hat with e | e
   ·rw [e]; exact h.outer k x hx
   ·rw [e]
    rcases far hx with h1 | h1
    ·exact .inl h1
    ·exact .inr (h1 _ (by simp; omega))
  ·rcases hat with e | e
   ·rw [e]; exact .inr hne
   ·rw [e, hsb]
    refine .inr fun e2 => ?_
    simp at e2
    omega
theorem Grp.push {h0 g cap k : Nat} {svs : List Value} {pre : List (List Int)} {W B : World} {o : Obj} {sv sv' : Value} {xs : List Int} {y : Int} (h : Grp h0 (.slice (some ⟨g, 0, none⟩) svs.length cap) svs pre W) (hk : svs[k]? = some sv) (hp : pre[k]? = some xs)
  (hB : B.ownsRow h0 3 1 sv' (xs.length + 1) (xs.map (Value.int .i64) ++ [.int .i64 y])) (hg : (W.alloc o).grownBy B sv.ownBlock) (hat : sv'.ownBlock = sv.ownBlock ∨ sv'.ownBlock = some (W.alloc o).heap.size) : Grp h0 (.slice (some ⟨g, 0, none⟩) svs.length cap) (svs.set k sv') (pre.set k (xs ++ [y])) (B.setCell ⟨g, k, none⟩ sv') := by
 have hlen := h.len
 have hkl := (List.getElem?_eq_some_iff.1 hk).1
 have hgl : g < W.heap.size := (h.own.lt g rfl).2
 have hkW : ∀ {e : TypeId} {size : Nat} {v : Value} {n : Nat} {zs : List Value}, W.ownsRow h0 e size v n zs → (v.ownBlock = none ∨ v.ownBlock ≠ sv.ownBlock) → B.ownsRow h0 e size v n zs := fun {e size v n zs} ho hne => owns_keep (World.ownsRow.alloc ho o) hg hne
 have hout := h.outer k sv hk
 have hlvne : (Value.slice (some ⟨g, 0, none⟩) svs.length cap).ownBlock = none ∨ (Value.slice (some ⟨g, 0, none⟩) svs.length cap).ownBlock ≠ sv.ownBlock := by
  refine .inr fun e => ?_
  rcases hout with h1 | h1
  ·rw [h1] at e; cases e
  ·exact h1 e.symm
 have hlvB := hkW h.own hlvne
 obtain ⟨hst, hsg⟩ := hlvB.stored k sv'
 have hsvg : sv'.ownBlock = none ∨ sv'.ownBlock ≠ some g := by
  rcases hat with e | e
  ·rw [e]; exact hout
  ·rw [e]
   refine .inr fun e2 => ?_
   simp at e2
   omega
 have split : ∀ {j : Nat} {x : Value}, (svs.set k sv')[j]? = some x → (j ≠ k ∧ svs[j]? = some x) ∨ (j = k ∧ x = sv') := fun {j x} hx => by
  rw [List.getElem?_set] at hx
  by_cases hj : k = j
  ·subst hj
   rw [if_pos rfl, if_pos hkl] at hx
   exact .inr ⟨rfl, (Option.some.inj hx).symm⟩
  ·rw [if_neg hj] at hx
   exact .inl ⟨Ne.symm hj, hx⟩
 have far : ∀ {j : Nat} {x : Value}, svs[j]? = some x → x.ownBlock = none ∨ ∀ m, W.heap.size ≤ m → x.ownBlock ≠ some m := fun {j x} hx => by
  have hj := (List.getElem?_eq_some_iff.1 hx).1
  obtain ⟨zs, hzs⟩ : ∃ zs, pre[j]? = some zs := ⟨_, List.getElem?_eq_getElem (by omega)⟩
  cases hv : x.ownBlock with
  | none => exact .inl rfl
  | some b =>
   refine .inr fun m hm e => ?_
   have := ((h.inn j x zs hx hzs).lt b hv).2
   simp only [Option.some.injEq] at e
   omega
 refine ⟨by simp [hlen], by rw [List.length_set]; exact hst, ?_, ?_, ?_⟩
 ·intro j x zs hx hz
  rcases split hx with ⟨hj, hx⟩ | ⟨rfl, rfl⟩
  ·rw [List.getElem?_set_ne (Ne.symm hj)] at hz
   refine owns_keep (hkW (h.inn j x zs hx hz) (h.apart j k x sv hx hk hj)) hsg ?_
   exact h.outer j x hx
  ·rw [List.getElem?_set_self (by omega)] at hz
   cases hz
   rw [List.length_append, List.map_append]
   exact owns_keep hB hsg hsvg
 ·intro i j x x' hx hx' hij
  rcases split hx with ⟨hi, hy⟩ | ⟨rfl, rfl⟩
  ·rcases split hx' with ⟨hj, hy'⟩ | ⟨rfl, rfl⟩
   ·exact h.apart i j x x' hy hy' hij
   ·rcases hat with e | e
    ·rw [e]; exact h.apart i j x sv hy hk hi
    ·rw [e]
     rcases far hy with h1 | h1
     ·exact .inl h1
     ·exact .inr (h1 _ (by simp))
  ·rcases split hx' with ⟨hj, hy'⟩ | ⟨rfl, rfl⟩
   ·rcases hat with e | e
    ·rw [e]; exact h.apart i j sv x' hk hy' hij
    ·rw [e]
     refine .inr fun e2 => ?_
     rcases far hy' with h1 | h1
     ·rw [h1] at e2; cases e2
     ·exact h1 _ (by simp) e2.symm
   ·exact absurd rfl hij
 ·intro j x hx
  rcases split hx with ⟨hj, hx⟩ | ⟨rfl, rfl⟩
  ·exact h.outer j x hx
  ·exact hsvg
end Go.Proofs.YtalflecmadacaaaGreat
