/-
  The contract of parts.counted: how often each label is there.
-/
import Derived.Test.YteekhofollaooaaQA
import Derived.OwnWalk
import Derived.Laws.OwnMore
import Derived.Maps.AppendAt
import Derived.Deep.QuietTactic
import Derived.BigQuiet
import Derived.Deep.RegionWith
import Derived.Deep.RegionHeld3
namespace Go.Proofs.Yteekhofollaooaa
open Go Go.Proofs Go.RowKit

/-- How often each number below N is among the first j. -/
def cntL (N : Nat) (l : List Int) (j : Nat) : List Int := (List.range N).map fun (v : Nat) => (((l.take j).count (v : Int) : Nat) : Int)
theorem cntL_len (N : Nat) (l : List Int) (j : Nat) : (cntL N l j).length = N := by simp [cntL]
theorem cntL_at {N : Nat} {l : List Int} {j v : Nat} (h : v < N) : (cntL N l j)[v]? = some (((l.take j).count (v : Int) : Nat) : Int) := by simp [cntL, h]
theorem cntL_zero (N : Nat) (l : List Int) : cntL N l 0 = List.replicate N 0 := by
  apply List.ext_getElem <;> simp [cntL]
theorem count_next {l : List Int} {j : Nat} (h : j < l.length) (x : Int) : (l.take (j + 1)).count x = (l.take j).count x + (if l[j] = x then 1 else 0) := by
  rw [List.take_add_one, List.getElem?_eq_getElem h, List.count_append]
  congr 1
  show List.count x [l[j]] = _
  rw [List.count_singleton]
  by_cases hx : l[j] = x
  · rw [if_pos hx, if_pos (by simpa using hx)]
  · rw [if_neg hx, if_neg (by simpa using hx)]
theorem cntL_step {N : Nat} {l : List Int} {j u : Nat} (h : j < l.length) (hu : l[j] = (u : Int)) (huN : u < N) :
    (cntL N l j).set u (((l.take j).count (u : Int) : Nat) + 1) = cntL N l (j + 1) := by
  apply List.ext_getElem?
  intro i
  by_cases hi : i < N
  · rw [cntL_at hi, List.getElem?_set, cntL_at hi, count_next h, cntL_len, hu]
    by_cases h1 : u = i
    · subst h1
      rw [if_pos rfl, if_pos huN, if_pos rfl]
      simp
    · rw [if_neg h1, if_neg (by omega)]
      simp
  · rw [List.getElem?_eq_none (by simp [cntL_len]; omega), List.getElem?_eq_none (by rw [cntL_len]; omega)]
/-- Labels: each one below the list's length. -/
def Labels (l : List Int) : Prop := ∀ x ∈ l, 0 ≤ x ∧ x < (l.length : Int)

set_option maxRecDepth 100000 in
set_option maxHeartbeats 2000000 in
theorem counted_any (l : List Int) (hL : Labels l) (hl : l.length ≤ 4194304) (sv : Value) (w : World) (hA : Ints w.heap.size w sv l) :
    Calls Try.prog 78 #[sv] w fun r w' => ∃ g, r = .returned (.slice (some ⟨g, 0, none⟩) l.length l.length) ∧ Blk 3 w' g ((cntL l.length l l.length).map (Value.int .i64)) ∧ w.heap.size ≤ g ∧ Below w.heap.size w w' := by
  obtain ⟨p, c, rfl⟩ := hA.len
  obtain ⟨i0, hi, hz0, hz1, hz2⟩ := info_parts infoI
  go_enter Try.func78, Try.ntmps78
  go_wp2_with (at_make; refine wpList_make_full _ rfl _ _ 25 rfl w.heap.size 3 i0 (.int .i64 0) 1 Try.underlying25 hi hz0 hz1 .i64 .i64 _ _ l.length rfl rfl rfl rfl (by rw [hz2]; omega) (by unfold maxLen; omega) (Nat.le_refl _) ?_; intro w3 hown hgrow; have hb3 : Below w.heap.size w w3 := (Below.refl _ _).grown hgrow (Nat.le_refl _) (fun k e => by cases e))
  have hrow := Blk.made hown
  rw [ints_made, ← cntL_zero l.length l] at hrow
  clear hown hgrow hi hz0 hz1 hz2
  have hwg : w.heap.size ≤ w.heap.size := Nat.le_refl _
  obtain ⟨g, hg⟩ : ∃ g, g = w.heap.size := ⟨_, rfl⟩
  rw [← hg] at hrow ⊢
  go_loopw [11] (fun i wr => ∃ j : Nat, j ≤ l.length ∧ i = .int .i64 j ∧ Blk 3 wr g ((cntL l.length l j).map (Value.int .i64)) ∧ Below g w3 wr) (fun i _ => l.length - (intOf i).toNat)
  case atStart => exact ⟨0, Nat.zero_le _, rfl, hrow, Below.refl _ _⟩
  case round =>
    obtain ⟨j, hj, rfl, hB, hb⟩ := hrel
    have hbwr : Below w.heap.size w wr := hb3.trans (hb.mono (by omega))
    have hgl := hB.lt
    by_cases hlt : j < l.length
    · obtain ⟨b, off, rfl, hbb, hcap, hc⟩ := hA.open hlt
      have c0 := hc wr hbwr j hlt
      have hjl : (j : Int) < (l.length : Int) := by omega
      have hok := hL l[j] (List.getElem_mem hlt)
      obtain ⟨u, hu⟩ : ∃ u : Nat, l[j] = (u : Int) := ⟨l[j].toNat, by omega⟩
      have huN : u < l.length := by omega
      have HS : Hid _ := cntL_step (N := l.length) hlt hu huN
      rw [hu] at c0
      have hul : (l.take j).count (u : Int) ≤ l.length := Nat.le_trans List.count_le_length (by rw [List.length_take]; omega)
      have huN' : (u : Int) < (l.length : Int) := by omega
      have t0 : wr.cell? ⟨g, u, none⟩ = some (.int .i64 (((l.take j).count (u : Int) : Nat) : Int)) := hB.cell (by rw [List.getElem?_map, cntL_at huN]; rfl)
      have f0 := hB.frozen u
      have hBn := hB.set u (.int .i64 (((l.take j).count (u : Int) : Nat) + 1))
      rw [← List.map_set, HS.out] at hBn
      generalize (l.take j).count (u : Int) = du at *
      have hbg : b ≠ g := by omega
      clear hc hok hu hg
      go_wp2
      exact ⟨⟨j + 1, by omega, by go_num, hBn, hb.setCell (p := ⟨g, u, none⟩) (Nat.le_refl _) _⟩, by simp [intOf]; omega⟩
    · obtain rfl : j = l.length := by omega
      go_wp2
      go_ret
      exact ⟨g, rfl, hB, by omega, hbwr⟩
end Go.Proofs.Yteekhofollaooaa

namespace Go.Proofs.Yteekhofollaooaa
open Go Go.Proofs Go.RowKit

theorem infoSl : (Try.prog.info? 25).map (fun i => (i.zero, i.size, i.bytes)) = some (some (.slice none 0 0), 1, 24) := by kernel_rfl
theorem owns_keep {A B : World} {base : Nat} {e : TypeId} {size : Nat} {v : Value} {n : Nat} {xs : List Value} {r : Option Nat} (h : A.ownsRow base e size v n xs) (hg : A.grownBy B r) (hne : v.ownBlock = none ∨ v.ownBlock ≠ r) : B.ownsRow base e size v n xs := h.kept hg hne
theorem owns_lowset {W : World} {base : Nat} {e : TypeId} {size : Nat} {v : Value} {n : Nat} {xs : List Value} (h : W.ownsRow base e size v n xs) {p : Addr} (hp : p.block < base) (u : Value) : (W.setCell p u).ownsRow base e size v n xs := by
  obtain ⟨h1, h2⟩ := h
  refine ⟨h1, ?_⟩
  rcases h2 with h2 | ⟨g, cap, cur, hv, hb, hg, r⟩
  · exact .inl h2
  · exact .inr ⟨g, cap, cur, hv, hb, (Below.heap_setCell _ _ _ _ (by omega)).trans hg, r⟩
theorem grown_below' {A B : World} (h : Below A.heap.size A B) (r : Option Nat) : A.grownBy B r := ⟨h.os, h.tape, h.output, h.size, fun k hk _ => h.block k hk⟩
/-- The lists: their slices svs lie in the row lv; each row is its own. -/
structure Grp (h0 : Nat) (lv : Value) (svs : List Value) (pre : List (List Int)) (W : World) : Prop where
  len : svs.length = pre.length
  own : W.ownsRow h0 25 1 lv svs.length svs
  inn : ∀ (k : Nat) (sv : Value) (xs : List Int), svs[k]? = some sv → pre[k]? = some xs → W.ownsRow h0 3 1 sv xs.length (xs.map (Value.int .i64))
  apart : ∀ (k j : Nat) (sv sv' : Value), svs[k]? = some sv → svs[j]? = some sv' → k ≠ j → sv.ownBlock = none ∨ sv.ownBlock ≠ sv'.ownBlock
  outer : ∀ (k : Nat) (sv : Value), svs[k]? = some sv → sv.ownBlock = none ∨ sv.ownBlock ≠ lv.ownBlock
theorem Grp.start (h0 : Nat) (W : World) : Grp h0 (.slice none 0 0) [] [] W :=
  ⟨rfl, World.ownsRow_nil _ _ _ _, fun k sv xs h => by simp at h, fun k j sv sv' h => by simp at h, fun k sv h => by simp at h⟩
theorem Grp.go {h0 : Nat} {lv : Value} {svs : List Value} {pre : List (List Int)} {A B : World} (h : Grp h0 lv svs pre A) (hb : Below A.heap.size A B) : Grp h0 lv svs pre B := by
  have hk : ∀ {e : TypeId} {size : Nat} {v : Value} {n : Nat} {xs : List Value}, A.ownsRow h0 e size v n xs → B.ownsRow h0 e size v n xs := fun {e size v n xs} ho => by
    refine owns_keep ho (grown_below' hb none) ?_
    cases v.ownBlock with
    | none => exact .inl rfl
    | some k => exact .inr (by simp)
  exact ⟨h.len, hk h.own, fun k sv xs h1 h2 => hk (h.inn k sv xs h1 h2), h.apart, h.outer⟩
theorem Grp.low {h0 : Nat} {lv : Value} {svs : List Value} {pre : List (List Int)} {W : World} (h : Grp h0 lv svs pre W) {p : Addr} (hp : p.block < h0) (u : Value) : Grp h0 lv svs pre (W.setCell p u) :=
  ⟨h.len, owns_lowset h.own hp u, fun k sv xs h1 h2 => owns_lowset (h.inn k sv xs h1 h2) hp u, h.apart, h.outer⟩
theorem ownB_lt {W : World} {base : Nat} {e : TypeId} {size : Nat} {v : Value} {n : Nat} {xs : List Value} (h : W.ownsRow base e size v n xs) {k : Nat} (hk : W.heap.size ≤ k) : v.ownBlock = none ∨ v.ownBlock ≠ some k := by
  cases hv : v.ownBlock with
  | none => exact .inl rfl
  | some b =>
    refine .inr fun e => ?_
    have := (h.lt b hv).2
    simp only [Option.some.injEq] at e
    omega
/-- A new list, of nothing, behind the others. -/
theorem Grp.new {h0 : Nat} {lv lv' sv : Value} {svs : List Value} {pre : List (List Int)} {W A B : World} {o : Obj} (h : Grp h0 lv svs pre W) (hA : W.grownBy A none) (hs : A.ownsRow h0 3 1 sv 0 []) (hsb : sv.ownBlock = some W.heap.size) (hWA : W.heap.size < A.heap.size)
    (hB : B.ownsRow h0 25 1 lv' (svs.length + 1) (svs ++ [sv])) (hg : (A.alloc o).grownBy B lv.ownBlock) (hat : lv'.ownBlock = lv.ownBlock ∨ lv'.ownBlock = some (A.alloc o).heap.size) : Grp h0 lv' (svs ++ [sv]) (pre ++ [[]]) B := by
  have hkA : ∀ {e : TypeId} {size : Nat} {v : Value} {n : Nat} {xs : List Value}, W.ownsRow h0 e size v n xs → (A.alloc o).ownsRow h0 e size v n xs := fun {e size v n xs} ho => by
    refine World.ownsRow.alloc (owns_keep ho hA ?_) o
    cases v.ownBlock with
    | none => exact .inl rfl
    | some k => exact .inr (by simp)
  have hlvW : lv.ownBlock = none ∨ lv.ownBlock ≠ some W.heap.size := ownB_lt h.own (Nat.le_refl _)
  have hne : sv.ownBlock ≠ lv.ownBlock := fun e => by
    rw [hsb] at e
    rcases hlvW with h1 | h1
    · rw [h1] at e; cases e
    · exact h1 e.symm
  have hsA := (World.ownsRow.alloc hs o)
  have hlen := h.len
  have split : ∀ {k : Nat} {x : Value}, (svs ++ [sv])[k]? = some x → (k < svs.length ∧ svs[k]? = some x) ∨ (k = svs.length ∧ x = sv) := fun {k x} hx => by
    rw [List.getElem?_append] at hx
    by_cases hk : k < svs.length
    · rw [if_pos hk] at hx
      exact .inl ⟨hk, hx⟩
    · rw [if_neg hk] at hx
      have h1 := (List.getElem?_eq_some_iff.1 hx).1
      simp at h1
      have h2 : k = svs.length := by omega
      subst h2
      simp at hx
      exact .inr ⟨rfl, hx.symm⟩
  have far : ∀ {k : Nat} {x : Value}, svs[k]? = some x → x.ownBlock = none ∨ ∀ m, W.heap.size ≤ m → x.ownBlock ≠ some m := fun {k x} hx => by
    have hk := (List.getElem?_eq_some_iff.1 hx).1
    obtain ⟨xs, hxs⟩ : ∃ xs, pre[k]? = some xs := ⟨_, List.getElem?_eq_getElem (by omega)⟩
    cases hv : x.ownBlock with
    | none => exact .inl rfl
    | some b =>
      refine .inr fun m hm e => ?_
      have := ((h.inn k x xs hx hxs).lt b hv).2
      simp only [Option.some.injEq] at e
      omega
  refine ⟨by simp [hlen], by rw [List.length_append]; exact hB, ?_, ?_, ?_⟩
  · intro k x xs hx hp
    rcases split hx with ⟨hk, hx⟩ | ⟨rfl, rfl⟩
    · rw [List.getElem?_append_left (by omega)] at hp
      exact owns_keep (hkA (h.inn k x xs hx hp)) hg (h.outer k x hx)
    · rw [hlen, List.getElem?_append_right (Nat.le_refl _), Nat.sub_self] at hp
      simp at hp
      subst hp
      exact owns_keep hsA hg (.inr hne)
  · intro k j x x' hx hx' hkj
    rcases split hx with ⟨hk, hy⟩ | ⟨rfl, rfl⟩
    · rcases split hx' with ⟨hj, hy'⟩ | ⟨rfl, rfl⟩
      · exact h.apart k j x x' hy hy' hkj
      · rw [hsb]
        rcases far hy with h1 | h1
        · exact .inl h1
        · exact .inr (h1 _ (Nat.le_refl _))
    · rcases split hx' with ⟨hj, hy'⟩ | ⟨rfl, rfl⟩
      · refine .inr fun e => ?_
        rw [hsb] at e
        rcases far hy' with h1 | h1
        · rw [h1] at e; cases e
        · exact h1 _ (Nat.le_refl _) e.symm
      · exact absurd rfl hkj
  · intro k x hx
    rcases split hx with ⟨hk, hx⟩ | ⟨rfl, rfl⟩
    · rcases hat with e | e
      · rw [e]; exact h.outer k x hx
      · rw [e]
        rcases far hx with h1 | h1
        · exact .inl h1
        · exact .inr (h1 _ (by simp; omega))
    · rcases hat with e | e
      · rw [e]; exact .inr hne
      · rw [e, hsb]
        refine .inr fun e2 => ?_
        simp at e2
        omega
/-- A number more in the list number k. -/
theorem Grp.push {h0 g cap k : Nat} {svs : List Value} {pre : List (List Int)} {W B : World} {o : Obj} {sv sv' : Value} {xs : List Int} {y : Int} (h : Grp h0 (.slice (some ⟨g, 0, none⟩) svs.length cap) svs pre W) (hk : svs[k]? = some sv) (hp : pre[k]? = some xs)
    (hB : B.ownsRow h0 3 1 sv' (xs.length + 1) (xs.map (Value.int .i64) ++ [.int .i64 y])) (hg : (W.alloc o).grownBy B sv.ownBlock) (hat : sv'.ownBlock = sv.ownBlock ∨ sv'.ownBlock = some (W.alloc o).heap.size) : Grp h0 (.slice (some ⟨g, 0, none⟩) svs.length cap) (svs.set k sv') (pre.set k (xs ++ [y])) (B.setCell ⟨g, k, none⟩ sv') := by
  have hlen := h.len
  have hkl := (List.getElem?_eq_some_iff.1 hk).1
  have hgl : g < W.heap.size := (h.own.lt g rfl).2
  have hkW : ∀ {e : TypeId} {size : Nat} {v : Value} {n : Nat} {zs : List Value}, W.ownsRow h0 e size v n zs → (v.ownBlock = none ∨ v.ownBlock ≠ sv.ownBlock) → B.ownsRow h0 e size v n zs := fun {e size v n zs} ho hne => owns_keep (World.ownsRow.alloc ho o) hg hne
  have hout := h.outer k sv hk
  have hlvne : (Value.slice (some ⟨g, 0, none⟩) svs.length cap).ownBlock = none ∨ (Value.slice (some ⟨g, 0, none⟩) svs.length cap).ownBlock ≠ sv.ownBlock := by
    refine .inr fun e => ?_
    rcases hout with h1 | h1
    · rw [h1] at e; cases e
    · exact h1 e.symm
  have hlvB := hkW h.own hlvne
  obtain ⟨hst, hsg⟩ := hlvB.stored k sv'
  have hsvg : sv'.ownBlock = none ∨ sv'.ownBlock ≠ some g := by
    rcases hat with e | e
    · rw [e]; exact hout
    · rw [e]
      refine .inr fun e2 => ?_
      simp at e2
      omega
  have split : ∀ {j : Nat} {x : Value}, (svs.set k sv')[j]? = some x → (j ≠ k ∧ svs[j]? = some x) ∨ (j = k ∧ x = sv') := fun {j x} hx => by
    rw [List.getElem?_set] at hx
    by_cases hj : k = j
    · subst hj
      rw [if_pos rfl, if_pos hkl] at hx
      exact .inr ⟨rfl, (Option.some.inj hx).symm⟩
    · rw [if_neg hj] at hx
      exact .inl ⟨Ne.symm hj, hx⟩
  have far : ∀ {j : Nat} {x : Value}, svs[j]? = some x → x.ownBlock = none ∨ ∀ m, W.heap.size ≤ m → x.ownBlock ≠ some m := fun {j x} hx => by
    have hj := (List.getElem?_eq_some_iff.1 hx).1
    obtain ⟨zs, hzs⟩ : ∃ zs, pre[j]? = some zs := ⟨_, List.getElem?_eq_getElem (by omega)⟩
    cases hv : x.ownBlock with
    | none => exact .inl rfl
    | some b =>
      refine .inr fun m hm e => ?_
      have := ((h.inn j x zs hx hzs).lt b hv).2
      simp only [Option.some.injEq] at e
      omega
  refine ⟨by simp [hlen], by rw [List.length_set]; exact hst, ?_, ?_, ?_⟩
  · intro j x zs hx hz
    rcases split hx with ⟨hj, hx⟩ | ⟨rfl, rfl⟩
    · rw [List.getElem?_set_ne (Ne.symm hj)] at hz
      refine owns_keep (hkW (h.inn j x zs hx hz) (h.apart j k x sv hx hk hj)) hsg ?_
      exact h.outer j x hx
    · rw [List.getElem?_set_self (by omega)] at hz
      cases hz
      rw [List.length_append, List.map_append]
      exact owns_keep hB hsg hsvg
  · intro i j x x' hx hx' hij
    rcases split hx with ⟨hi, hy⟩ | ⟨rfl, rfl⟩
    · rcases split hx' with ⟨hj, hy'⟩ | ⟨rfl, rfl⟩
      · exact h.apart i j x x' hy hy' hij
      · rcases hat with e | e
        · rw [e]; exact h.apart i j x sv hy hk hi
        · rw [e]
          rcases far hy with h1 | h1
          · exact .inl h1
          · exact .inr (h1 _ (by simp))
    · rcases split hx' with ⟨hj, hy'⟩ | ⟨rfl, rfl⟩
      · rcases hat with e | e
        · rw [e]; exact h.apart i j sv x' hk hy' hij
        · rw [e]
          refine .inr fun e2 => ?_
          rcases far hy' with h1 | h1
          · rw [h1] at e2; cases e2
          · exact h1 _ (by simp) e2.symm
      · exact absurd rfl hij
  · intro j x hx
    rcases split hx with ⟨hj, hx⟩ | ⟨rfl, rfl⟩
    · exact h.outer j x hx
    · exact hsvg
end Go.Proofs.Yteekhofollaooaa

namespace Go.Proofs.Yteekhofollaooaa
open Go Go.Proofs Go.RowKit

/-- The labels among the first i, in the order in which they come, and the places of each. -/
def gath (l : List Int) : Nat → List Int × List (List Int)
  | 0 => ([], [])
  | i + 1 => if (gath l i).1.contains (l.getD i 0) then ((gath l i).1, (gath l i).2.set ((gath l i).1.idxOf (l.getD i 0)) ((gath l i).2.getD ((gath l i).1.idxOf (l.getD i 0)) [] ++ [(i : Int)])) else ((gath l i).1 ++ [l.getD i 0], (gath l i).2 ++ [[(i : Int)]])
theorem gath_old {l : List Int} {i : Nat} (h : l.getD i 0 ∈ (gath l i).1) : gath l (i + 1) = ((gath l i).1, (gath l i).2.set ((gath l i).1.idxOf (l.getD i 0)) ((gath l i).2.getD ((gath l i).1.idxOf (l.getD i 0)) [] ++ [(i : Int)])) := by
  rw [gath, if_pos (List.contains_iff_mem.2 h)]
theorem gath_new {l : List Int} {i : Nat} (h : l.getD i 0 ∉ (gath l i).1) : gath l (i + 1) = ((gath l i).1 ++ [l.getD i 0], (gath l i).2 ++ [[(i : Int)]]) := by
  rw [gath, if_neg (fun e => h (List.contains_iff_mem.1 e))]
theorem gath_len (l : List Int) : ∀ i, (gath l i).1.length = (gath l i).2.length
  | 0 => rfl
  | i + 1 => by
    have := gath_len l i
    by_cases h : l.getD i 0 ∈ (gath l i).1
    · rw [gath_old h]; simpa using this
    · rw [gath_new h]; simpa using this
theorem gath_mem {l : List Int} : ∀ {i : Nat}, i ≤ l.length → ∀ u, u ∈ (gath l i).1 ↔ u ∈ l.take i
  | 0, _, u => by simp [gath]
  | i + 1, h, u => by
    have ih := gath_mem (l := l) (i := i) (by omega)
    have hi : i < l.length := by omega
    have hg : l.getD i 0 = l[i] := by simp [hi]
    rw [List.take_add_one, List.getElem?_eq_getElem hi]
    by_cases hm : l.getD i 0 ∈ (gath l i).1
    · rw [gath_old hm]
      show u ∈ (gath l i).1 ↔ _
      rw [ih u, List.mem_append]
      constructor
      · exact .inl
      · rintro (h1 | h1)
        · exact h1
        · have : u = l[i] := by simpa using h1
          subst this
          rw [← hg]
          exact (ih _).1 hm
    · rw [gath_new hm]
      show u ∈ (gath l i).1 ++ [l.getD i 0] ↔ _
      rw [List.mem_append, List.mem_append, ih u, hg]
      simp
theorem gath_few (l : List Int) : ∀ i, (gath l i).1.length ≤ i
  | 0 => by simp [gath]
  | i + 1 => by
    have := gath_few l i
    by_cases h : l.getD i 0 ∈ (gath l i).1
    · rw [gath_old h]
      show (gath l i).1.length ≤ i + 1
      omega
    · rw [gath_new h]
      simp
      omega
theorem gath_short (l : List Int) : ∀ i, ∀ xs ∈ (gath l i).2, xs.length ≤ i
  | 0, xs, h => by simp [gath] at h
  | i + 1, xs, h => by
    have ih := gath_short l i
    by_cases hm : l.getD i 0 ∈ (gath l i).1
    · rw [gath_old hm] at h
      rcases List.mem_or_eq_of_mem_set h with h1 | h1
      · have := ih xs h1; omega
      · rw [h1, List.length_append]
        have hk : (gath l i).1.idxOf (l.getD i 0) < (gath l i).2.length := by rw [← gath_len]; exact List.idxOf_lt_length_iff.2 hm
        have h2 : (gath l i).2.getD ((gath l i).1.idxOf (l.getD i 0)) [] ∈ (gath l i).2 := by
          have e : (gath l i).2.getD ((gath l i).1.idxOf (l.getD i 0)) [] = (gath l i).2[(gath l i).1.idxOf (l.getD i 0)] := by rw [List.getD_eq_getElem?_getD, List.getElem?_eq_getElem hk]; rfl
          rw [e]
          exact List.getElem_mem hk
        have := ih _ h2
        rw [List.length_singleton]
        omega
    · rw [gath_new hm] at h
      rcases List.mem_append.1 h with h1 | h1
      · have := ih xs h1; omega
      · rw [List.mem_singleton.1 h1]
        simp
/-- How many of each label are still to come as a new one. -/
def szL (l : List Int) (i : Nat) : List Int := (List.range l.length).map fun (v : Nat) => if (v : Int) ∈ l.take i then 0 else ((l.count (v : Int) : Nat) : Int)
theorem szL_len (l : List Int) (i : Nat) : (szL l i).length = l.length := by simp [szL]
theorem szL_at {l : List Int} {i v : Nat} (h : v < l.length) : (szL l i)[v]? = some (if (v : Int) ∈ l.take i then 0 else ((l.count (v : Int) : Nat) : Int)) := by simp [szL, h]
theorem szL_zero (l : List Int) : szL l 0 = cntL l.length l l.length := by
  simp [szL, cntL]
theorem mem_next {l : List Int} {i : Nat} (h : i < l.length) (x : Int) : x ∈ l.take (i + 1) ↔ x ∈ l.take i ∨ x = l[i] := by
  rw [List.take_add_one, List.getElem?_eq_getElem h, List.mem_append]
  simp
theorem szL_old {l : List Int} {i u : Nat} (h : i < l.length) (hu : l[i] = (u : Int)) (hm : (u : Int) ∈ l.take i) : szL l (i + 1) = szL l i := by
  unfold szL
  refine List.map_congr_left fun v _ => ?_
  have : (v : Int) ∈ l.take (i + 1) ↔ (v : Int) ∈ l.take i := by
    rw [mem_next h, hu]
    constructor
    · rintro (h1 | h1)
      · exact h1
      · rw [h1]; exact hm
    · exact .inl
  simp only [this]
theorem szL_new {l : List Int} {i u : Nat} (h : i < l.length) (hu : l[i] = (u : Int)) (huN : u < l.length) : (szL l i).set u 0 = szL l (i + 1) := by
  apply List.ext_getElem?
  intro v
  by_cases hv : v < l.length
  · rw [szL_at hv, List.getElem?_set, szL_len, szL_at hv]
    by_cases h1 : u = v
    · subst h1
      rw [if_pos rfl, if_pos huN, if_pos ((mem_next h _).2 (.inr hu.symm))]
    · rw [if_neg h1]
      have : (v : Int) ∈ l.take (i + 1) ↔ (v : Int) ∈ l.take i := by
        rw [mem_next h, hu]
        constructor
        · rintro (h2 | h2)
          · exact h2
          · omega
        · exact .inl
      simp only [this]
  · rw [List.getElem?_eq_none (by rw [List.length_set, szL_len]; omega), List.getElem?_eq_none (by rw [szL_len]; omega)]
theorem idx_left {o : List Int} {x y : Int} (h : x ∈ o) : (o ++ [y]).idxOf x = o.idxOf x := by rw [List.idxOf_append, if_pos h]
/-- The groups' row: of each label that has come, which list it is. -/
def GrpRow (o : List Int) (grow : List Int) : Prop := ∀ v : Nat, (v : Int) ∈ o → grow[v]? = some ((o.idxOf (v : Int) : Nat) : Int)
theorem GrpRow.new {o grow : List Int} {u : Nat} (h : GrpRow o grow) (hu : (u : Int) ∉ o) (hl : u < grow.length) : GrpRow (o ++ [(u : Int)]) (grow.set u ((o.length : Nat) : Int)) := by
  intro v hv
  rw [List.getElem?_set]
  by_cases he : u = v
  · subst he
    rw [if_pos rfl, if_pos hl, List.idxOf_append, if_neg hu]
    simp
  · rw [if_neg he]
    rcases List.mem_append.1 hv with h1 | h1
    · rw [idx_left h1]; exact h v h1
    · simp at h1; omega
theorem owns_slice {W : World} {base : Nat} {e : TypeId} {size : Nat} {v : Value} {n : Nat} {xs : List Value} (h : W.ownsRow base e size v n xs) : ∃ a m c, v = .slice a m c := by
  rcases h.2 with ⟨hv, _⟩ | ⟨g, cap, cur, hv, _⟩ <;> exact ⟨_, _, _, hv⟩
theorem owns_formP {W : World} {base : Nat} {e : TypeId} {size : Nat} {v : Value} {n : Nat} {xs : List Value} (h : W.ownsRow base e size v n xs) : ∃ p c, v = .slice p n c := by
  rcases h.2 with ⟨rfl, rfl⟩ | ⟨g, cap, cur, rfl, _⟩ <;> exact ⟨_, _, rfl⟩
theorem or_none (v : Value) : v.ownBlock = none ∨ v.ownBlock ≠ none := by
  cases v.ownBlock with
  | none => exact .inl rfl
  | some k => exact .inr (by simp)
theorem one_cell (W : World) (v : Value) (t : TypeId) : ∀ (q : Nat) (u : Value), [v][q]? = some u → (W.alloc (.cells #[v] t)).cell? ((⟨W.heap.size, 0, none⟩ : Addr).add q) = some u := by
  intro q u hu
  cases q with
  | zero => simp at hu; subst hu; simp [Addr.add]
  | succ q => simp at hu
theorem owns_pos {w : World} {base size n : Nat} {e : TypeId} {v : Value} {xs : List Value} (h : w.ownsRow base e size v n xs) (hn : 0 < n) : ∃ g cap, v = .slice (some ⟨g, 0, none⟩) n cap := by
  rcases h.2 with ⟨_, h0⟩ | ⟨g, cap, cur, hv, _⟩
  · omega
  · exact ⟨g, cap, hv⟩

set_option maxRecDepth 100000 in
set_option maxHeartbeats 4000000 in
theorem gathered_any (l : List Int) (hL : Labels l) (hl : l.length ≤ 4194304) (sv : Value) (w : World) (hA : Ints w.heap.size w sv l) :
    Calls Try.prog 70 #[sv] w fun r w' => ∃ lv svs h0, r = .returned lv ∧ Grp h0 lv svs (gath l l.length).2 w' ∧ Below w.heap.size w w' := by
  obtain ⟨p, c, rfl⟩ := hA.len
  obtain ⟨i0, hi, hz0, hz1, hz2⟩ := info_parts infoI
  obtain ⟨j0, kj, kz0, kz1, kz2⟩ := info_parts infoSl
  have hct := counted_any l hL hl _ w hA
  go_enter Try.func70, Try.ntmps70
  go_wp2_with fail
  refine hct.mono ?_
  clear hct
  rintro e w2 ⟨gs, rfl, hS2, hgs, hb2⟩
  have hgl2 := hS2.lt
  go_wp2_with (at_make; refine wpList_make_full _ rfl _ _ 25 rfl w2.heap.size 3 i0 (.int .i64 0) 1 Try.underlying25 hi hz0 hz1 .i64 .i64 _ _ l.length rfl rfl rfl rfl (by rw [hz2]; omega) (by unfold maxLen; omega) (Nat.le_refl _) ?_; intro w3 hown hgrow; have hb3 : Below w2.heap.size w2 w3 := (Below.refl _ _).grown hgrow (Nat.le_refl _) (fun k e => by cases e))
  have hG3 := Blk.made hown
  rw [ints_made] at hG3
  have hS3 := hS2.go hb3
  rw [← szL_zero] at hS3
  have hbw3 := hb2.trans (hb3.mono hb2.size)
  have hgg3 : w2.heap.size < w3.heap.size := hG3.lt
  have hgg0 : w.heap.size ≤ w2.heap.size := hb2.size
  clear hown hgrow hb3 hS2 hb2
  generalize w2.heap.size = gg at hG3 hgg3 hgl2 hgg0
  go_loopw [5, 16] (fun lv iv wr => ∃ (i : Nat) (svs : List Value) (grow : List Int), i ≤ l.length ∧ iv = .int .i64 i ∧ Grp w3.heap.size lv svs (gath l i).2 wr ∧ Blk 3 wr gs ((szL l i).map (Value.int .i64)) ∧ Blk 3 wr gg (grow.map (Value.int .i64)) ∧ grow.length = l.length ∧ Hid (GrpRow (gath l i).1 grow) ∧ Below w.heap.size w wr ∧ w3.heap.size ≤ wr.heap.size) (fun _ iv _ => l.length - (intOf iv).toNat)
  case atStart => exact ⟨0, [], List.replicate l.length 0, Nat.zero_le _, rfl, Grp.start _ _, hS3, hG3, by simp, fun v hv => by simp [gath] at hv, hbw3, Nat.le_refl _⟩
  case round =>
    obtain ⟨i, svs, grow, hil, rfl, hGr, hS, hG, hgl, hrow, hb, hsz⟩ := hrel
    by_cases hlt : i < l.length
    · obtain ⟨b, off, rfl, hbb, hcap, hc⟩ := hA.open hlt
      have c0 := hc wr hb i hlt
      have hjl : (i : Int) < (l.length : Int) := by omega
      have hok := hL l[i] (List.getElem_mem hlt)
      obtain ⟨u, hu⟩ : ∃ u : Nat, l[i] = (u : Int) := ⟨l[i].toNat, by omega⟩
      have huN : u < l.length := by omega
      have huN' : (u : Int) < (l.length : Int) := by omega
      have hgd : l.getD i 0 = (u : Int) := by simp [hlt, hu]
      rw [hu] at c0
      have f0 := hS.frozen u
      have f1 := hG.frozen u
      have hmem := gath_mem (l := l) (i := i) (by omega) (u : Int)
      have hfew := gath_few l i
      have hlen := gath_len l i
      have hsl := hGr.len
      by_cases hm : (u : Int) ∈ l.take i
      · have hmo : (u : Int) ∈ (gath l i).1 := hmem.2 hm
        have HG : Hid (gath l (i + 1) = ((gath l i).1, (gath l i).2.set ((gath l i).1.idxOf (u : Int)) ((gath l i).2.getD ((gath l i).1.idxOf (u : Int)) [] ++ [(i : Int)]))) := by
          rw [Hid, gath_old (by rw [hgd]; exact hmo), hgd]
        have HSZ : Hid (szL l (i + 1) = szL l i) := szL_old hlt hu hm
        have t0 : wr.cell? ⟨gs, u, none⟩ = some (.int .i64 0) := hS.cell (by rw [List.getElem?_map, szL_at huN, if_pos hm]; rfl)
        have hk2 : (gath l i).1.idxOf (u : Int) < (gath l i).2.length := by rw [← hlen]; exact List.idxOf_lt_length_iff.2 hmo
        have t1 : wr.cell? ⟨gg, u, none⟩ = some (.int .i64 (((gath l i).1.idxOf (u : Int) : Nat) : Int)) := hG.cell (by rw [List.getElem?_map, hrow.out u hmo]; rfl)
        obtain ⟨k, hk⟩ : ∃ k, (gath l i).1.idxOf (u : Int) = k := ⟨_, rfl⟩
        rw [hk] at HG hk2 t1
        obtain ⟨xs, hxs⟩ : ∃ xs, (gath l i).2[k]? = some xs := ⟨_, List.getElem?_eq_getElem hk2⟩
        have hxl := gath_short l i xs (List.mem_of_getElem? hxs)
        have HG2 : Hid (gath l (i + 1) = ((gath l i).1, (gath l i).2.set k (xs ++ [(i : Int)]))) := by
          rw [Hid, HG.out, List.getD_eq_getElem?_getD, hxs]
          rfl
        obtain ⟨sk, hsk⟩ : ∃ sk, svs[k]? = some sk := ⟨_, List.getElem?_eq_getElem (by omega)⟩
        obtain ⟨g, cap2, rfl⟩ := owns_pos hGr.own (by omega)
        have hin := hGr.inn k sk xs hsk hxs
        obtain ⟨ak, mk, ck, rfl⟩ := owns_slice hin
        have hcell : wr.cell? ⟨g, k, none⟩ = some (.slice ak mk ck) := (hGr.own.cellAt k (by omega)).trans hsk
        have hkl : (k : Int) < (svs.length : Int) := by omega
        have hownA := hin.alloc (.cells #[.int .i64 (i : Int)] 3)
        have hnews : ∀ (q : Nat) (u : Value), [Value.int .i64 (i : Int)][q]? = some u → (wr.alloc (.cells #[.int .i64 (i : Int)] 3)).cell? ((⟨wr.heap.size, 0, none⟩ : Addr).add q) = some u := by
          intro q u hu
          cases q with
          | zero => simp at hu; subst hu; simp [Addr.add]
          | succ q => simp at hu
        have hone : ∀ u ∈ [Value.int .i64 (i : Int)], u.oneCell' = true := by intro u hu; rw [List.mem_singleton.1 hu]; rfl
        have hmx : xs.length + 1 ≤ maxLen := by unfold maxLen; omega
        have hby : (xs.length + 1) * 8 ≤ 140737488355328 := by omega
        have hbs : w3.heap.size ≤ (wr.alloc (.cells #[.int .i64 (i : Int)] 3)).heap.size := by simp; omega
        have hlow : ∀ q, (Value.slice ak mk ck).ownBlock = some q → w3.heap.size ≤ q := fun q hq => (hin.lt q hq).1
        have hog := (hGr.own.lt g rfl)
        clear hc hok hmem HG hm hmo hk hgd
        go_wp2_with (at_builtin; refine wpList_append_own_at _ rfl _ _ 25 rfl w3.heap.size 3 i0 (.int .i64 0) 1 8 Try.underlying25 hi hz0 hz1 hz2 rfl (by decide) (.slice ak mk ck) _ _ rfl hownA ⟨wr.heap.size, 0, none⟩ 1 1 [.int .i64 (i : Int)] rfl rfl hnews hone hmx hby hbs ?_)
        intro v6 w6 hown6 hg6 hnil6 hat6
        obtain ⟨a6, m6, k6, rfl⟩ := owns_slice hown6
        have hP := hGr.push hsk hxs hown6 hg6 (by rw [World.size_alloc]; exact hat6)
        have hout : (Value.slice (some ⟨g, 0, none⟩) svs.length cap2).ownBlock = none ∨ (Value.slice (some ⟨g, 0, none⟩) svs.length cap2).ownBlock ≠ (Value.slice ak mk ck).ownBlock := by
          refine .inr fun e => ?_
          rcases hGr.outer k _ hsk with h1 | h1
          · rw [h1] at e; cases e
          · exact h1 e.symm
        have hown7 := owns_keep (World.ownsRow.alloc hGr.own (.cells #[.int .i64 (i : Int)] 3)) hg6 hout
        have y0 : w6.cell? ⟨g, k, none⟩ = some (.slice ak mk ck) := (hown7.cellAt k (by omega)).trans hsk
        have y1 := hown7.frozenAt k
        have hb6 : Below w.heap.size w w6 := (hb.alloc hb.size _).grown hg6 (by simp; omega) (fun q hq => by have := hlow q hq; omega)
        have hlo6 : Below w3.heap.size wr w6 := ((Below.refl _ _).alloc hsz _).grown hg6 hbs (fun q hq => hlow q hq)
        have hS6 := hS.below hlo6 (by omega)
        have hG6 := hG.below hlo6 (by omega)
        have hgw : w3.heap.size ≤ g := hog.1
        have hsz6 := hlo6.size
        clear hown6 hg6 hnil6 hat6 hownA hnews hone c0 t0 t1 hcell hGr
        go_wp2
        refine ⟨⟨i + 1, svs.set k (.slice a6 m6 k6), grow, by omega, by go_num, ?_, ?_, hG6.other (by simp only; omega) _, hgl, ?_, hb6.setCell (p := ⟨g, k, none⟩) (by simp only; omega) _, by simp; omega⟩, by simp [intOf]; omega⟩
        · rw [HG2.out, ← hsl]
          exact hP
        · rw [HSZ.out]
          exact hS6.other (by simp only; omega) _
        · rw [HG2.out]
          exact hrow
      · have hmo : (u : Int) ∉ (gath l i).1 := fun h => hm (hmem.1 h)
        have HG2 : Hid (gath l (i + 1) = ((gath l i).1 ++ [(u : Int)], (gath l i).2 ++ [[(i : Int)]])) := by
          rw [Hid, gath_new (by rw [hgd]; exact hmo), hgd]
        have HSZ : Hid ((szL l i).set u 0 = szL l (i + 1)) := szL_new hlt hu huN
        have HRW : Hid (GrpRow ((gath l i).1 ++ [(u : Int)]) (grow.set u (((gath l i).1.length : Nat) : Int))) := GrpRow.new hrow.out hmo (by omega)
        have hcp : 0 < l.count (u : Int) := List.count_pos_iff.2 (by rw [← hu]; exact List.getElem_mem hlt)
        have hcl : l.count (u : Int) ≤ l.length := List.count_le_length
        obtain ⟨q, hq⟩ : ∃ q, l.count (u : Int) = q := ⟨_, rfl⟩
        have t0 : wr.cell? ⟨gs, u, none⟩ = some (.int .i64 (q : Int)) := hS.cell (by rw [List.getElem?_map, szL_at huN, if_neg hm, hq]; rfl)
        rw [hq] at hcp hcl
        obtain ⟨gv, hgv⟩ : ∃ gv, grow[u]? = some gv := ⟨_, List.getElem?_eq_getElem (by omega)⟩
        have t1 : wr.cell? ⟨gg, u, none⟩ = some (.int .i64 gv) := hG.cell (by rw [List.getElem?_map, hgv]; rfl)
        obtain ⟨al, cl, rfl⟩ := owns_formP hGr.own
        have hK : (gath l i).1.length = svs.length := by omega
        rw [hK] at HRW
        have hsl2 : svs.length ≤ i := by omega
        have hq0 : (0 : Int) < (q : Int) := by omega
        have HSL : Hid (svs.length = (gath l i).2.length) := hsl
        clear hc hok hmem hm hmo hgd hq hgv hsl hlen hfew hrow
        have hGr1 := hGr.low (p := ⟨gg, u, none⟩) (by simp only; omega) (.int .i64 (svs.length : Int))
        have hS1 := hS.other (p := ⟨gg, u, none⟩) (by simp only; omega) (.int .i64 (svs.length : Int))
        have hG1 := hG.set u (.int .i64 (svs.length : Int))
        rw [← List.map_set] at hG1
        have hb1 := hb.setCell (p := ⟨gg, u, none⟩) (by simp only; omega) (.int .i64 (svs.length : Int))
        have tq : (wr.setCell ⟨gg, u, none⟩ (.int .i64 (svs.length : Int))).cell? ⟨gs, u, none⟩ = some (.int .i64 (q : Int)) := (World.cell?_setCell_other _ _ _ _ (fun e => by have h1 := congrArg Addr.block e; simp only at h1; omega)).trans t0
        have hsz1 : w3.heap.size ≤ (wr.setCell ⟨gg, u, none⟩ (.int .i64 (svs.length : Int))).heap.size := by simpa using hsz
        have hne : gs ≠ gg := by omega
        have hsW : (wr.setCell ⟨gg, u, none⟩ (.int .i64 (svs.length : Int))).heap.size = wr.heap.size := by simp
        have hmx : svs.length + 1 ≤ maxLen := by unfold maxLen; omega
        have hby : (svs.length + 1) * 24 ≤ 140737488355328 := by omega
        have hone : ∀ u ∈ [Value.slice (some ⟨wr.heap.size, 0, none⟩) 0 q], u.oneCell' = true := by intro u hu; rw [List.mem_singleton.1 hu]; rfl
        go_wp2_with (first | (at_make; refine wpList_make_own _ rfl _ _ 25 rfl w3.heap.size 3 i0 (.int .i64 0) 1 Try.underlying25 hi hz0 hz1 .i64 .i64 _ q rfl rfl rfl (by rw [hz2]; omega) (by unfold maxLen; omega) hsz1 ?_; intro wA hownA hgA; rw [hsW] at hownA; have hLA := World.ownsRow.alloc (owns_keep hGr1.own hgA (or_none _)) (.cells #[.slice (some ⟨wr.heap.size, 0, none⟩) 0 q] 25); have hnews := one_cell wA (.slice (some ⟨wr.heap.size, 0, none⟩) 0 q) 25; have hbs : w3.heap.size ≤ (wA.alloc (.cells #[.slice (some ⟨wr.heap.size, 0, none⟩) 0 q] 25)).heap.size := Nat.le_trans (Nat.le_trans hsz1 hgA.size) (by simp)) | (at_builtin; refine wpList_append_own_at _ rfl _ _ 38 rfl w3.heap.size 25 j0 (.slice none 0 0) 1 24 Try.underlying38 kj kz0 kz1 kz2 rfl (by decide) (.slice al svs.length cl) _ _ rfl hLA ⟨wA.heap.size, 0, none⟩ 1 1 [.slice (some ⟨wr.heap.size, 0, none⟩) 0 q] rfl rfl hnews hone hmx hby hbs ?_))
        intro v6 w6 hown6 hg6 hnil6 hat6
        obtain ⟨g, cap2, rfl⟩ := owns_pos hown6 (by omega)
        have hWA : wr.heap.size < wA.heap.size := (hownA.lt wr.heap.size rfl).2
        have hGr6 := hGr1.new hgA hownA (by simp [Value.ownBlock]) (by rw [hsW]; exact hWA) hown6 hg6 (by rw [World.size_alloc]; exact hat6)
        have hlowL : ∀ k, (Value.slice al svs.length cl).ownBlock = some k → w3.heap.size ≤ k := fun k e => (hGr1.own.lt k e).1
        have hlo6 : Below w3.heap.size (wr.setCell ⟨gg, u, none⟩ (.int .i64 (svs.length : Int))) w6 := (((Below.refl _ _).grown hgA hsz1 (fun k e => by cases e)).alloc (Nat.le_trans hsz1 hgA.size) _).grown hg6 hbs hlowL
        have hS6 := hS1.below hlo6 (by omega)
        have hG6 := hG1.below hlo6 (by omega)
        have hb6 : Below w.heap.size w w6 := hb1.trans (hlo6.mono (by omega))
        have hsz6 : w3.heap.size ≤ w6.heap.size := Nat.le_trans hsz1 hlo6.size
        have s0 : w6.cell? ⟨gs, u, none⟩ = some (.int .i64 (q : Int)) := (hlo6.cell (p := ⟨gs, u, none⟩) (by simp only; omega)).trans tq
        have s1 := hS6.frozen u
        have hS7 := hS6.set u (.int .i64 0)
        rw [← List.map_set, HSZ.out] at hS7
        have hG7 := hG6.other (p := ⟨gs, u, none⟩) (by simp only; omega) (.int .i64 0)
        have hGr7 := hGr6.low (p := ⟨gs, u, none⟩) (by simp only; omega) (.int .i64 0)
        have hb7 := hb6.setCell (p := ⟨gs, u, none⟩) (by simp only; omega) (.int .i64 0)
        have hsz7 : w3.heap.size ≤ (w6.setCell ⟨gs, u, none⟩ (.int .i64 0)).heap.size := by simpa using hsz6
        have t7 : (w6.setCell ⟨gs, u, none⟩ (.int .i64 0)).cell? ⟨gg, u, none⟩ = some (.int .i64 (svs.length : Int)) := hG7.cell (by rw [List.getElem?_map, List.getElem?_set_self (by omega)]; rfl)
        clear hown6 hg6 hnil6 hat6 hLA hnews hone hbs hgA hownA hGr6 hGr1 hS1 hG1 tq t0 t1 hlo6 hS6 hG6 hlowL hmx hby
        generalize hC : w6.setCell ⟨gs, u, none⟩ (.int .i64 0) = w7 at hS7 hG7 hGr7 hb7 hsz7 t7
        have hsk : (svs ++ [Value.slice (some ⟨wr.heap.size, 0, none⟩) 0 q])[svs.length]? = some (.slice (some ⟨wr.heap.size, 0, none⟩) 0 q) := by simp
        have hxs : ((gath l i).2 ++ [([] : List Int)])[svs.length]? = some [] := by rw [HSL.out]; simp
        have hin := hGr7.inn svs.length _ _ hsk hxs
        have hll : (svs ++ [Value.slice (some ⟨wr.heap.size, 0, none⟩) 0 q]).length = svs.length + 1 := by simp
        have hown7 := hGr7.own
        rw [hll] at hown7
        have hcell : w7.cell? ⟨g, svs.length, none⟩ = some (.slice (some ⟨wr.heap.size, 0, none⟩) 0 q) := (hown7.cellAt svs.length (by omega)).trans hsk
        have hkl : (svs.length : Int) < (svs.length : Int) + 1 := by omega
        have hownI := hin.alloc (.cells #[.int .i64 (i : Int)] 3)
        have hnews := one_cell w7 (.int .i64 (i : Int)) 3
        have hone : ∀ u ∈ [Value.int .i64 (i : Int)], u.oneCell' = true := by intro u hu; rw [List.mem_singleton.1 hu]; rfl
        have hbs : w3.heap.size ≤ (w7.alloc (.cells #[.int .i64 (i : Int)] 3)).heap.size := by simp; omega
        have hlow : ∀ k, (Value.slice (some ⟨wr.heap.size, 0, none⟩) 0 q).ownBlock = some k → w3.heap.size ≤ k := fun k hk => (hin.lt k hk).1
        have hmx : ([] : List Int).length + 1 ≤ maxLen := by unfold maxLen; simp
        have hby : (([] : List Int).length + 1) * 8 ≤ 140737488355328 := by simp
        have hog := hown7.lt g rfl
        go_wp2_with (at_builtin; refine wpList_append_own_at _ rfl _ _ 25 rfl w3.heap.size 3 i0 (.int .i64 0) 1 8 Try.underlying25 hi hz0 hz1 hz2 rfl (by decide) (.slice (some ⟨wr.heap.size, 0, none⟩) 0 q) _ _ rfl hownI ⟨w7.heap.size, 0, none⟩ 1 1 [.int .i64 (i : Int)] rfl rfl hnews hone hmx hby hbs ?_)
        intro v8 w8 hown8 hg8 hnil8 hat8
        obtain ⟨a8, m8, k8, rfl⟩ := owns_slice hown8
        have hGr7' := hGr7
        rw [← hll] at hGr7'
        have hP := hGr7'.push (y := (i : Int)) hsk hxs hown8 hg8 (by rw [World.size_alloc]; exact hat8)
        have hout : (Value.slice (some ⟨g, 0, none⟩) (svs.length + 1) cap2).ownBlock = none ∨ (Value.slice (some ⟨g, 0, none⟩) (svs.length + 1) cap2).ownBlock ≠ (Value.slice (some ⟨wr.heap.size, 0, none⟩) 0 q).ownBlock := by
          refine .inr fun e => ?_
          rcases hGr7.outer svs.length _ hsk with h1 | h1
          · rw [h1] at e; cases e
          · exact h1 e.symm
        have hown9 := owns_keep (World.ownsRow.alloc hown7 (.cells #[.int .i64 (i : Int)] 3)) hg8 hout
        have y0 : w8.cell? ⟨g, svs.length, none⟩ = some (.slice (some ⟨wr.heap.size, 0, none⟩) 0 q) := (hown9.cellAt svs.length (by omega)).trans hsk
        have y1 := hown9.frozenAt svs.length
        have hlo8 : Below w3.heap.size w7 w8 := ((Below.refl _ _).alloc hsz7 _).grown hg8 hbs hlow
        have hb8 : Below w.heap.size w w8 := hb7.trans (hlo8.mono (by omega))
        have hS8 := hS7.below hlo8 (by omega)
        have hG8 := hG7.below hlo8 (by omega)
        have hgw : w3.heap.size ≤ g := hog.1
        have hsz8 : w3.heap.size ≤ w8.heap.size := Nat.le_trans hsz7 hlo8.size
        have HPre : Hid (((gath l i).2 ++ [([] : List Int)]).set svs.length ([] ++ [(i : Int)]) = (gath l i).2 ++ [[(i : Int)]]) := by
          rw [Hid, HSL.out, List.set_append_right _ _ (Nat.le_refl _), Nat.sub_self]
          rfl
        rw [HPre.out, hll] at hP
        clear hown8 hg8 hnil8 hat8 hownI hnews hone c0 t7 hcell hGr7 hGr7' hown9 hown7 hC
        go_wp2
        refine ⟨⟨i + 1, (svs ++ [Value.slice (some ⟨wr.heap.size, 0, none⟩) 0 q]).set svs.length (.slice a8 m8 k8), grow.set u (svs.length : Int), by omega, by go_num, ?_, hS8.other (by simp only; omega) _, hG8.other (by simp only; omega) _, by rw [List.length_set]; exact hgl, ?_, hb8.setCell (p := ⟨g, svs.length, none⟩) (by simp only; omega) _, by simp; omega⟩, by simp [intOf]; omega⟩
        · rw [HG2.out]
          exact hP
        · rw [HG2.out]
          exact HRW
    · obtain rfl : i = l.length := by omega
      go_wp2
      go_ret
      exact ⟨_, svs, _, rfl, hGr, hb⟩
end Go.Proofs.Yteekhofollaooaa

namespace Go.Proofs.Yteekhofollaooaa
open Go Go.Proofs Go.RowKit

/-- An edge makes its two ends' labels the lesser one. -/
def relax (L : List Int) (e : Ed) : List Int := (L.set e.1.toNat (min (L.getD e.1.toNat 0) (L.getD e.2.1.toNat 0))).set e.2.1.toNat (min (L.getD e.1.toNat 0) (L.getD e.2.1.toNat 0))
theorem relax_len (L : List Int) (e : Ed) : (relax L e).length = L.length := by simp [relax]
theorem fold_relax_len : ∀ (es : List Ed) (L : List Int), (es.foldl relax L).length = L.length
  | [], _ => rfl
  | e :: es, L => by rw [List.foldl_cons, fold_relax_len es, relax_len]
def idL (N : Nat) : List Int := (List.range N).map fun (v : Nat) => (v : Int)
/-- The labels behind i rounds. -/
def labAt (N : Nat) (es : List Ed) : Nat → List Int
  | 0 => idL N
  | i + 1 => es.foldl relax (labAt N es i)
theorem labAt_len (N : Nat) (es : List Ed) : ∀ i, (labAt N es i).length = N
  | 0 => by simp [labAt, idL]
  | i + 1 => by rw [labAt, fold_relax_len, labAt_len N es i]
theorem fold_next {es : List Ed} {j : Nat} (h : j < es.length) (L : List Int) : (es.take (j + 1)).foldl relax L = relax ((es.take j).foldl relax L) es[j] := by
  rw [List.take_add_one, List.getElem?_eq_getElem h, List.foldl_append]
  rfl
/-- The first j numbers stand; nothing behind them. -/
def firstL (N j : Nat) : List Int := (List.range N).map fun (v : Nat) => if v < j then (v : Int) else 0
theorem firstL_len (N j : Nat) : (firstL N j).length = N := by simp [firstL]
theorem firstL_at {N j v : Nat} (h : v < N) : (firstL N j)[v]? = some (if v < j then (v : Int) else 0) := by simp [firstL, h]
theorem firstL_zero (N : Nat) : firstL N 0 = List.replicate N 0 := by
  apply List.ext_getElem <;> simp [firstL]
theorem firstL_full (N : Nat) : firstL N N = idL N := by
  unfold firstL idL
  refine List.map_congr_left fun v hv => ?_
  rw [if_pos (List.mem_range.1 hv)]
theorem firstL_step {N j : Nat} (h : j < N) : (firstL N j).set j (j : Int) = firstL N (j + 1) := by
  apply List.ext_getElem?
  intro v
  by_cases hv : v < N
  · rw [firstL_at hv, List.getElem?_set, firstL_len, firstL_at hv]
    by_cases h1 : j = v
    · subst h1
      rw [if_pos rfl, if_pos h, if_pos (by omega)]
    · rw [if_neg h1]
      by_cases h2 : v < j
      · rw [if_pos h2, if_pos (by omega)]
      · rw [if_neg h2, if_neg (by omega)]
  · rw [List.getElem?_eq_none (by rw [List.length_set, firstL_len]; omega), List.getElem?_eq_none (by rw [firstL_len]; omega)]

end Go.Proofs.Yteekhofollaooaa

namespace Go.Proofs.Yteekhofollaooaa
open Go Go.Proofs Go.RowKit

theorem owns_base {W : World} {a b : Nat} {e : TypeId} {size : Nat} {v : Value} {n : Nat} {xs : List Value} (h : W.ownsRow b e size v n xs) (hab : a ≤ b) : W.ownsRow a e size v n xs := by
  obtain ⟨h1, h2⟩ := h
  refine ⟨h1, ?_⟩
  rcases h2 with h2 | ⟨g, cap, cur, hv, hb, r⟩
  · exact .inl h2
  · exact .inr ⟨g, cap, cur, hv, Nat.le_trans hab hb, r⟩
/-- A list that was made behind the others is laid behind them. -/
theorem Grp.add {h0 : Nat} {lv lv' sv : Value} {svs : List Value} {pre : List (List Int)} {W A B : World} {o : Obj} {xs : List Int} (h : Grp h0 lv svs pre W) (hh : h0 ≤ W.heap.size) (hA : Below W.heap.size W A) (hs : A.ownsRow W.heap.size 3 1 sv xs.length (xs.map (Value.int .i64)))
    (hB : B.ownsRow h0 25 1 lv' (svs.length + 1) (svs ++ [sv])) (hg : (A.alloc o).grownBy B lv.ownBlock) (hat : lv'.ownBlock = lv.ownBlock ∨ lv'.ownBlock = some (A.alloc o).heap.size) : Grp h0 lv' (svs ++ [sv]) (pre ++ [xs]) B := by
  have hA' := h.go hA
  have hkA : ∀ {e : TypeId} {size : Nat} {v : Value} {n : Nat} {zs : List Value}, A.ownsRow h0 e size v n zs → (v.ownBlock = none ∨ v.ownBlock ≠ lv.ownBlock) → B.ownsRow h0 e size v n zs := fun {e size v n zs} ho hne => owns_keep (World.ownsRow.alloc ho o) hg hne
  have hlen := h.len
  have far : ∀ {e : TypeId} {size : Nat} {x : Value} {n : Nat} {zs : List Value}, W.ownsRow h0 e size x n zs → sv.ownBlock = none ∨ sv.ownBlock ≠ x.ownBlock := fun {e size x n zs} ho => by
    cases hv : sv.ownBlock with
    | none => exact .inl rfl
    | some b =>
      refine .inr fun e => ?_
      have h1 := (hs.lt b hv).1
      have h2 := (ho.lt b e.symm).2
      omega
  have far' : ∀ {e : TypeId} {size : Nat} {x : Value} {n : Nat} {zs : List Value}, W.ownsRow h0 e size x n zs → x.ownBlock = none ∨ x.ownBlock ≠ sv.ownBlock := fun {e size x n zs} ho => by
    cases hv : x.ownBlock with
    | none => exact .inl rfl
    | some b =>
      refine .inr fun e => ?_
      have h1 := (hs.lt b e.symm).1
      have h2 := (ho.lt b hv).2
      omega
  have split : ∀ {k : Nat} {x : Value}, (svs ++ [sv])[k]? = some x → (k < svs.length ∧ svs[k]? = some x) ∨ (k = svs.length ∧ x = sv) := fun {k x} hx => by
    rw [List.getElem?_append] at hx
    by_cases hk : k < svs.length
    · rw [if_pos hk] at hx
      exact .inl ⟨hk, hx⟩
    · rw [if_neg hk] at hx
      have h1 := (List.getElem?_eq_some_iff.1 hx).1
      simp at h1
      have h2 : k = svs.length := by omega
      subst h2
      simp at hx
      exact .inr ⟨rfl, hx.symm⟩
  have row : ∀ {k : Nat} {x : Value}, svs[k]? = some x → ∃ zs : List Int, W.ownsRow h0 3 1 x zs.length (zs.map (Value.int .i64)) := fun {k x} hx => by
    have hk := (List.getElem?_eq_some_iff.1 hx).1
    exact ⟨_, h.inn k x _ hx (List.getElem?_eq_getElem (by omega))⟩
  have new : ∀ {e : TypeId} {size : Nat} {x : Value} {n : Nat} {zs : List Value}, A.ownsRow h0 e size x n zs → x.ownBlock = none ∨ x.ownBlock ≠ some (A.alloc o).heap.size := fun {e size x n zs} ho => ownB_lt ho (by simp)
  refine ⟨by simp [hlen], by rw [List.length_append]; exact hB, ?_, ?_, ?_⟩
  · intro k x zs hx hp
    rcases split hx with ⟨hk, hy⟩ | ⟨rfl, rfl⟩
    · rw [List.getElem?_append_left (by omega)] at hp
      exact hkA (hA'.inn k x zs hy hp) (h.outer k x hy)
    · rw [hlen, List.getElem?_append_right (Nat.le_refl _), Nat.sub_self] at hp
      simp at hp
      subst hp
      exact hkA (owns_base hs hh) (far h.own)
  · intro k j x x' hx hx' hkj
    rcases split hx with ⟨hk, hy⟩ | ⟨rfl, rfl⟩
    · rcases split hx' with ⟨hj, hy'⟩ | ⟨rfl, rfl⟩
      · exact h.apart k j x x' hy hy' hkj
      · obtain ⟨zs, hz⟩ := row hy
        exact far' hz
    · rcases split hx' with ⟨hj, hy'⟩ | ⟨rfl, rfl⟩
      · obtain ⟨zs, hz⟩ := row hy'
        exact far hz
      · exact absurd rfl hkj
  · intro k x hx
    rcases split hx with ⟨hk, hy⟩ | ⟨rfl, rfl⟩
    · rcases hat with e | e
      · rw [e]; exact h.outer k x hy
      · rw [e]
        exact new (hA'.inn k x _ hy (List.getElem?_eq_getElem (by omega)))
    · rcases hat with e | e
      · rw [e]; exact far h.own
      · rw [e]
        exact new (owns_base hs hh)

/-- Those from v on, below u, whose label is v. -/
def memAt (L : List Int) (v u : Nat) : List Int := ((List.range u).filter fun x => decide (v ≤ x) && decide (L.getD x 0 = (v : Int))).map fun (x : Nat) => (x : Int)
theorem memAt_start (L : List Int) (v : Nat) : memAt L v v = [] := by
  unfold memAt
  rw [List.filter_eq_nil_iff.2]
  · rfl
  · intro x hx
    have := List.mem_range.1 hx
    simp
    omega
theorem memAt_next {L : List Int} {v u : Nat} (h : v ≤ u) : memAt L v (u + 1) = if L.getD u 0 = (v : Int) then memAt L v u ++ [(u : Int)] else memAt L v u := by
  unfold memAt
  rw [List.range_succ, List.filter_append, List.map_append]
  have e : List.filter (fun x => decide (v ≤ x) && decide (L.getD x 0 = (v : Int))) [u] = if (decide (v ≤ u) && decide (L.getD u 0 = (v : Int))) = true then [u] else [] := by
    rw [List.filter_cons]
    rfl
  by_cases hu : L.getD u 0 = (v : Int)
  · have hc : (decide (v ≤ u) && decide (L.getD u 0 = (v : Int))) = true := by rw [decide_eq_true h, decide_eq_true hu]; rfl
    rw [if_pos hu, e, if_pos hc]
    rfl
  · have hc : ¬ (decide (v ≤ u) && decide (L.getD u 0 = (v : Int))) = true := by rw [decide_eq_false hu, Bool.and_false]; simp
    rw [if_neg hu, e, if_neg hc, List.map_nil, List.append_nil]
theorem memAt_len (L : List Int) (v u : Nat) : (memAt L v u).length ≤ u := by
  unfold memAt
  rw [List.length_map]
  exact Nat.le_trans (List.length_filter_le _ _) (by simp)
/-- The components of the vertices below j. -/
def rcAt (L : List Int) (N : Nat) : Nat → List (List Int)
  | 0 => []
  | j + 1 => if L.getD j 0 = (j : Int) then rcAt L N j ++ [memAt L j N] else rcAt L N j
theorem rcAt_len (L : List Int) (N : Nat) : ∀ j, (rcAt L N j).length ≤ j
  | 0 => by simp [rcAt]
  | j + 1 => by
    have := rcAt_len L N j
    unfold rcAt
    split
    · simp; omega
    · omega

end Go.Proofs.Yteekhofollaooaa

namespace Go.Proofs.Yteekhofollaooaa
open Go Go.Proofs Go.RowKit

/-- Lists of numbers, in memory. -/
def Lsts (n : Nat) (W : World) (sv : Value) (LL : List (List Int)) : Prop :=
  ((∃ p c, sv = .slice p 0 c) ∧ LL = []) ∨ ∃ b off cap, sv = .slice (some ⟨b, off, none⟩) LL.length cap ∧ b < n ∧ LL.length ≤ cap ∧ ∀ (j : Nat) (x : List Int), LL[j]? = some x → ∃ sx, W.cell? ⟨b, off + j, none⟩ = some sx ∧ Ints n W sx x
theorem Lsts.below {n : Nat} {W W' : World} {sv : Value} {LL : List (List Int)} (h : Lsts n W sv LL) (hb : Below n W W') : Lsts n W' sv LL := by
  rcases h with h | ⟨b, off, cap, h1, h2, h3, h4⟩
  · exact .inl h
  · exact .inr ⟨b, off, cap, h1, h2, h3, fun j x hx => by
      obtain ⟨sx, h5, h6⟩ := h4 j x hx
      exact ⟨sx, (hb.cell (p := ⟨b, _, none⟩) h2).trans h5, h6.below hb⟩⟩
theorem Lsts.mono {n m : Nat} {W : World} {sv : Value} {LL : List (List Int)} (h : Lsts n W sv LL) (hb : n ≤ m) : Lsts m W sv LL := by
  rcases h with h | ⟨b, off, cap, h1, h2, h3, h4⟩
  · exact .inl h
  · exact .inr ⟨b, off, cap, h1, Nat.lt_of_lt_of_le h2 hb, h3, fun j x hx => by
      obtain ⟨sx, h5, h6⟩ := h4 j x hx
      exact ⟨sx, h5, h6.mono hb⟩⟩
theorem Lsts.go {W W' : World} {sv : Value} {LL : List (List Int)} (h : Lsts W.heap.size W sv LL) (hb : Below W.heap.size W W') : Lsts W'.heap.size W' sv LL := (h.below hb).mono hb.size
theorem Lsts.len {n : Nat} {W : World} {sv : Value} {LL : List (List Int)} (h : Lsts n W sv LL) : ∃ p c, sv = .slice p LL.length c := by
  rcases h with ⟨⟨p, c, rfl⟩, rfl⟩ | ⟨b, off, cap, rfl, _⟩ <;> exact ⟨_, _, rfl⟩
theorem Lsts.cellAt {n : Nat} {w : World} {p : Option Addr} {c : Nat} {L : List (List Int)} (h : Lsts n w (.slice p L.length c) L) {j : Nat} (hj : j < L.length) :
    ∃ b off, p = some ⟨b, off, none⟩ ∧ b < n ∧ L.length ≤ c ∧ ∃ px cx, Ints n w (.slice px L[j].length cx) L[j] ∧ w.cell? ⟨b, off + j, none⟩ = some (.slice px L[j].length cx) := by
  rcases h with ⟨_, h0⟩ | ⟨b, off, cap, h1, h2, h3, h4⟩
  · subst h0; simp at hj
  · simp only [Value.slice.injEq] at h1
    obtain ⟨rfl, _, rfl⟩ := h1
    obtain ⟨sx, h5, h6⟩ := h4 j _ (List.getElem?_eq_getElem hj)
    obtain ⟨px, cx, rfl⟩ := h6.len
    exact ⟨b, off, rfl, h2, h3, px, cx, h6, h5⟩
set_option maxRecDepth 100000 in
set_option maxHeartbeats 2000000 in
theorem refInts_any (a b : List Int) (hlen : a.length ≤ 4194304) (sa sb : Value) (w : World) (ha : Ints w.heap.size w sa a) (hb : Ints w.heap.size w sb b) :
    Calls Try.prog 12 #[sa, sb] w fun r w' => r = .returned (.bool (decide (a = b))) ∧ Grew w w' := by
  obtain ⟨p, c, rfl⟩ := ha.len
  obtain ⟨q, d, rfl⟩ := hb.len
  have hmix := mixed
  by_cases hlk : a.length = b.length
  · have hlk' : ((a.length : Int) != (b.length : Int)) = false := by simp; omega
    have HL : Hid (a.length = b.length) := hlk
    clear hlk
    go_enter Try.func12, Try.ntmps12
    go_wp2
    go_loopw [5] (fun i wr => ∃ j : Nat, j ≤ a.length ∧ i = .int .i64 j ∧ Hid (a.take j = b.take j) ∧ Grew w wr) (fun i _ => a.length - (intOf i).toNat)
    case atStart => exact ⟨0, Nat.zero_le _, rfl, rfl, Grew.refl _⟩
    case round =>
      obtain ⟨j, hj, rfl, hr, hg⟩ := hrel
      by_cases hlt : j < a.length
      · have hlt2 : j < b.length := by have := HL.out; omega
        obtain ⟨b1, off, rfl, hbb, hcap, hc⟩ := ha.open hlt
        obtain ⟨b2, off2, rfl, hbb2, hcap2, hc2⟩ := hb.open hlt2
        have c0 := hc wr hg.below j hlt
        have d0 := hc2 wr hg.below j hlt2
        have hjl : (j : Int) < (a.length : Int) := by omega
        have hjl2 : (j : Int) < (b.length : Int) := by omega
        have HS : Hid (a[j] = b[j] → a.take (j + 1) = b.take (j + 1)) := fun h => by
          rw [List.take_add_one, List.take_add_one, hr.out, List.getElem?_eq_getElem hlt, List.getElem?_eq_getElem hlt2, h]
        have HN : Hid (a[j] ≠ b[j] → a ≠ b) := fun h e => by subst e; exact h rfl
        clear hc hc2 hr
        generalize a[j] = x at c0 HS HN
        generalize b[j] = y at d0 HS HN
        by_cases he : x = y
        · have hb' : (x != y) = false := by simpa using he
          have HT : Hid _ := HS.out he
          clear HS HN he
          go_wp2
          go_quiet (fail)
          have hgq := hg.drewN nq
          generalize wr.drewN nq = w8 at hgq ⊢
          go_wp2
          exact ⟨⟨j + 1, by omega, by go_num, HT, hgq⟩, by simp [intOf]; omega⟩
        · have hb' : (x != y) = true := by simpa using he
          have HE : Hid (decide (a = b) = false) := decide_eq_false (HN.out he)
          clear HS HN he
          go_wp2
          go_quiet (fail)
          have hgq := hg.drewN nq
          generalize wr.drewN nq = w8 at hgq ⊢
          go_wp2
          go_ret
          exact ⟨by rw [HE.out]; rfl, hgq⟩
      · obtain rfl : j = a.length := by omega
        have HE : Hid (decide (a = b) = true) := by
          have h1 := hr.out
          have h2 := HL.out
          rw [List.take_length, h2, List.take_length] at h1
          exact decide_eq_true h1
        clear hr
        go_wp2
        go_ret
        exact ⟨by rw [HE.out]; rfl, hg⟩
  · have hlk' : ((a.length : Int) != (b.length : Int)) = true := by simp; omega
    have HE : Hid (decide (a = b) = false) := decide_eq_false (fun h => hlk (by rw [h]))
    clear hlk
    go_enter Try.func12, Try.ntmps12
    go_wp2
    go_ret
    exact ⟨by rw [HE.out]; rfl, Grew.refl w⟩
theorem ints_owned {W : World} {base : Nat} {e : TypeId} {v : Value} {l : List Int} (h : W.ownsRow base e 1 v l.length (l.map (Value.int .i64))) : Ints W.heap.size W v l := by
  rcases h.2 with ⟨rfl, h0⟩ | ⟨g, cap, cur, rfl, hb, hg, hn, hc⟩
  · have : l = [] := List.eq_nil_of_length_eq_zero h0
    subst this
    exact .inl ⟨⟨_, _, rfl⟩, rfl⟩
  · refine .inr ⟨g, 0, cap, rfl, (Array.getElem?_eq_some_iff.1 hg).1, hn, fun j x hx => ?_⟩
    have := h.cells (g := g) rfl j (.int .i64 x) (by rw [List.getElem?_map, hx]; rfl)
    rwa [Go.WideShapes.add_plain] at this
theorem Grp.lsts {h0 : Nat} {lv : Value} {svs : List Value} {pre : List (List Int)} {W : World} (h : Grp h0 lv svs pre W) : Lsts W.heap.size W lv pre := by
  have hlen := h.len
  rcases h.own.2 with ⟨rfl, h1⟩ | ⟨g, cap, cur, rfl, hb, hg, hn, hc⟩
  · exact .inl ⟨⟨_, _, rfl⟩, List.eq_nil_of_length_eq_zero (by omega)⟩
  · refine .inr ⟨g, 0, cap, by rw [hlen], (Array.getElem?_eq_some_iff.1 hg).1, by omega, fun j x hx => ?_⟩
    have hj := (List.getElem?_eq_some_iff.1 hx).1
    obtain ⟨sx, hs⟩ : ∃ sx, svs[j]? = some sx := ⟨_, List.getElem?_eq_getElem (by omega)⟩
    refine ⟨sx, ?_, ints_owned (h.inn j sx x hs hx)⟩
    have := h.own.cells (g := g) rfl j sx hs
    rwa [Go.WideShapes.add_plain] at this
end Go.Proofs.Yteekhofollaooaa
