/-
  Lists of lists that a call makes by append, in memory.
-/
import Derived.OwnWalk
import Derived.Laws.OwnMore
import Derived.Maps.AppendAt
import Derived.Test.YtgjaikekpgdehaaXGDeg
import Derived.Deep.QuietTactic
import Derived.Deep.RegionWith
import Derived.Deep.RegionHeld3
import Derived.Test.YtgjaikekpgdehaaQA
import Derived.Deep.AppendLies
namespace Go.Proofs.Ytgjaikekpgdehaa
open Go Go.Proofs Go.RowKit

theorem infoSl : (Try.prog.info? 25).map (fun i => (i.zero, i.size, i.bytes)) = some (some (.slice none 0 0), 1, 24) := by kernel_rfl
theorem owns_keep {A B : World} {base : Nat} {e : TypeId} {size : Nat} {v : Value} {n : Nat} {xs : List Value} {r : Option Nat} (h : A.ownsRow base e size v n xs) (hg : A.grownBy B r) (hne : v.ownBlock = none ∨ v.ownBlock ≠ r) : B.ownsRow base e size v n xs := h.kept hg hne
theorem owns_lowset {W : World} {base : Nat} {e : TypeId} {size : Nat} {v : Value} {n : Nat} {xs : List Value} (h : W.ownsRow base e size v n xs) {p : Addr} (hp : p.block < base) (u : Value) : (W.setCell p u).ownsRow base e size v n xs := by
  obtain ⟨h1, h2⟩ := h
  refine ⟨h1, ?_⟩
  rcases h2 with h2 | ⟨g, cap, cur, hv, hb, hg, r⟩
  · exact .inl h2
  · exact .inr ⟨g, cap, cur, hv, hb, (Below.heap_setCell _ _ _ _ (by omega)).trans hg, r⟩
theorem grown_below' {A B : World} (h : Below A.heap.size A B) (r : Option Nat) : A.grownBy B r := ⟨h.os, h.tape, h.output, h.size, fun k hk _ => h.block k hk⟩
/-- The lists: their slices svs lie in the row lv; each row is its own. -/
structure Grp (h0 : Nat) (lv : Value) (svs : List Value) (pre : List (List Int)) (W : World) : Prop where
  len : svs.length = pre.length
  own : W.ownsRow h0 25 1 lv svs.length svs
  inn : ∀ (k : Nat) (sv : Value) (xs : List Int), svs[k]? = some sv → pre[k]? = some xs → W.ownsRow h0 3 1 sv xs.length (xs.map (Value.int .i64))
  apart : ∀ (k j : Nat) (sv sv' : Value), svs[k]? = some sv → svs[j]? = some sv' → k ≠ j → sv.ownBlock = none ∨ sv.ownBlock ≠ sv'.ownBlock
  outer : ∀ (k : Nat) (sv : Value), svs[k]? = some sv → sv.ownBlock = none ∨ sv.ownBlock ≠ lv.ownBlock
theorem Grp.start (h0 : Nat) (W : World) : Grp h0 (.slice none 0 0) [] [] W :=
  ⟨rfl, World.ownsRow_nil _ _ _ _, fun k sv xs h => by simp at h, fun k j sv sv' h => by simp at h, fun k sv h => by simp at h⟩
theorem Grp.go {h0 : Nat} {lv : Value} {svs : List Value} {pre : List (List Int)} {A B : World} (h : Grp h0 lv svs pre A) (hb : Below A.heap.size A B) : Grp h0 lv svs pre B := by
  have hk : ∀ {e : TypeId} {size : Nat} {v : Value} {n : Nat} {xs : List Value}, A.ownsRow h0 e size v n xs → B.ownsRow h0 e size v n xs := fun {e size v n xs} ho => by
    refine owns_keep ho (grown_below' hb none) ?_
    cases v.ownBlock with
    | none => exact .inl rfl
    | some k => exact .inr (by simp)
  exact ⟨h.len, hk h.own, fun k sv xs h1 h2 => hk (h.inn k sv xs h1 h2), h.apart, h.outer⟩
theorem Grp.low {h0 : Nat} {lv : Value} {svs : List Value} {pre : List (List Int)} {W : World} (h : Grp h0 lv svs pre W) {p : Addr} (hp : p.block < h0) (u : Value) : Grp h0 lv svs pre (W.setCell p u) :=
  ⟨h.len, owns_lowset h.own hp u, fun k sv xs h1 h2 => owns_lowset (h.inn k sv xs h1 h2) hp u, h.apart, h.outer⟩
theorem ownB_lt {W : World} {base : Nat} {e : TypeId} {size : Nat} {v : Value} {n : Nat} {xs : List Value} (h : W.ownsRow base e size v n xs) {k : Nat} (hk : W.heap.size ≤ k) : v.ownBlock = none ∨ v.ownBlock ≠ some k := by
  cases hv : v.ownBlock with
  | none => exact .inl rfl
  | some b =>
    refine .inr fun e => ?_
    have := (h.lt b hv).2
    simp only [Option.some.injEq] at e
    omega
/-- A new list, of nothing, behind the others. -/
theorem Grp.new {h0 : Nat} {lv lv' sv : Value} {svs : List Value} {pre : List (List Int)} {W A B : World} {o : Obj} (h : Grp h0 lv svs pre W) (hA : W.grownBy A none) (hs : A.ownsRow h0 3 1 sv 0 []) (hsb : sv.ownBlock = some W.heap.size) (hWA : W.heap.size < A.heap.size)
    (hB : B.ownsRow h0 25 1 lv' (svs.length + 1) (svs ++ [sv])) (hg : (A.alloc o).grownBy B lv.ownBlock) (hat : lv'.ownBlock = lv.ownBlock ∨ lv'.ownBlock = some (A.alloc o).heap.size) : Grp h0 lv' (svs ++ [sv]) (pre ++ [[]]) B := by
  have hkA : ∀ {e : TypeId} {size : Nat} {v : Value} {n : Nat} {xs : List Value}, W.ownsRow h0 e size v n xs → (A.alloc o).ownsRow h0 e size v n xs := fun {e size v n xs} ho => by
    refine World.ownsRow.alloc (owns_keep ho hA ?_) o
    cases v.ownBlock with
    | none => exact .inl rfl
    | some k => exact .inr (by simp)
  have hlvW : lv.ownBlock = none ∨ lv.ownBlock ≠ some W.heap.size := ownB_lt h.own (Nat.le_refl _)
  have hne : sv.ownBlock ≠ lv.ownBlock := fun e => by
    rw [hsb] at e
    rcases hlvW with h1 | h1
    · rw [h1] at e; cases e
    · exact h1 e.symm
  have hsA := (World.ownsRow.alloc hs o)
  have hlen := h.len
  have split : ∀ {k : Nat} {x : Value}, (svs ++ [sv])[k]? = some x → (k < svs.length ∧ svs[k]? = some x) ∨ (k = svs.length ∧ x = sv) := fun {k x} hx => by
    rw [List.getElem?_append] at hx
    by_cases hk : k < svs.length
    · rw [if_pos hk] at hx
      exact .inl ⟨hk, hx⟩
    · rw [if_neg hk] at hx
      have h1 := (List.getElem?_eq_some_iff.1 hx).1
      simp at h1
      have h2 : k = svs.length := by omega
      subst h2
      simp at hx
      exact .inr ⟨rfl, hx.symm⟩
  have far : ∀ {k : Nat} {x : Value}, svs[k]? = some x → x.ownBlock = none ∨ ∀ m, W.heap.size ≤ m → x.ownBlock ≠ some m := fun {k x} hx => by
    have hk := (List.getElem?_eq_some_iff.1 hx).1
    obtain ⟨xs, hxs⟩ : ∃ xs, pre[k]? = some xs := ⟨_, List.getElem?_eq_getElem (by omega)⟩
    cases hv : x.ownBlock with
    | none => exact .inl rfl
    | some b =>
      refine .inr fun m hm e => ?_
      have := ((h.inn k x xs hx hxs).lt b hv).2
      simp only [Option.some.injEq] at e
      omega
  refine ⟨by simp [hlen], by rw [List.length_append]; exact hB, ?_, ?_, ?_⟩
  · intro k x xs hx hp
    rcases split hx with ⟨hk, hx⟩ | ⟨rfl, rfl⟩
    · rw [List.getElem?_append_left (by omega)] at hp
      exact owns_keep (hkA (h.inn k x xs hx hp)) hg (h.outer k x hx)
    · rw [hlen, List.getElem?_append_right (Nat.le_refl _), Nat.sub_self] at hp
      simp at hp
      subst hp
      exact owns_keep hsA hg (.inr hne)
  · intro k j x x' hx hx' hkj
    rcases split hx with ⟨hk, hy⟩ | ⟨rfl, rfl⟩
    · rcases split hx' with ⟨hj, hy'⟩ | ⟨rfl, rfl⟩
      · exact h.apart k j x x' hy hy' hkj
      · rw [hsb]
        rcases far hy with h1 | h1
        · exact .inl h1
        · exact .inr (h1 _ (Nat.le_refl _))
    · rcases split hx' with ⟨hj, hy'⟩ | ⟨rfl, rfl⟩
      · refine .inr fun e => ?_
        rw [hsb] at e
        rcases far hy' with h1 | h1
        · rw [h1] at e; cases e
        · exact h1 _ (Nat.le_refl _) e.symm
      · exact absurd rfl hkj
  · intro k x hx
    rcases split hx with ⟨hk, hx⟩ | ⟨rfl, rfl⟩
    · rcases hat with e | e
      · rw [e]; exact h.outer k x hx
      · rw [e]
        rcases far hx with h1 | h1
        · exact .inl h1
        · exact .inr (h1 _ (by simp; omega))
    · rcases hat with e | e
      · rw [e]; exact .inr hne
      · rw [e, hsb]
        refine .inr fun e2 => ?_
        simp at e2
        omega
/-- A number more in the list number k. -/
theorem Grp.push {h0 g cap k : Nat} {svs : List Value} {pre : List (List Int)} {W B : World} {o : Obj} {sv sv' : Value} {xs : List Int} {y : Int} (h : Grp h0 (.slice (some ⟨g, 0, none⟩) svs.length cap) svs pre W) (hk : svs[k]? = some sv) (hp : pre[k]? = some xs)
    (hB : B.ownsRow h0 3 1 sv' (xs.length + 1) (xs.map (Value.int .i64) ++ [.int .i64 y])) (hg : (W.alloc o).grownBy B sv.ownBlock) (hat : sv'.ownBlock = sv.ownBlock ∨ sv'.ownBlock = some (W.alloc o).heap.size) : Grp h0 (.slice (some ⟨g, 0, none⟩) svs.length cap) (svs.set k sv') (pre.set k (xs ++ [y])) (B.setCell ⟨g, k, none⟩ sv') := by
  have hlen := h.len
  have hkl := (List.getElem?_eq_some_iff.1 hk).1
  have hgl : g < W.heap.size := (h.own.lt g rfl).2
  have hkW : ∀ {e : TypeId} {size : Nat} {v : Value} {n : Nat} {zs : List Value}, W.ownsRow h0 e size v n zs → (v.ownBlock = none ∨ v.ownBlock ≠ sv.ownBlock) → B.ownsRow h0 e size v n zs := fun {e size v n zs} ho hne => owns_keep (World.ownsRow.alloc ho o) hg hne
  have hout := h.outer k sv hk
  have hlvne : (Value.slice (some ⟨g, 0, none⟩) svs.length cap).ownBlock = none ∨ (Value.slice (some ⟨g, 0, none⟩) svs.length cap).ownBlock ≠ sv.ownBlock := by
    refine .inr fun e => ?_
    rcases hout with h1 | h1
    · rw [h1] at e; cases e
    · exact h1 e.symm
  have hlvB := hkW h.own hlvne
  obtain ⟨hst, hsg⟩ := hlvB.stored k sv'
  have hsvg : sv'.ownBlock = none ∨ sv'.ownBlock ≠ some g := by
    rcases hat with e | e
    · rw [e]; exact hout
    · rw [e]
      refine .inr fun e2 => ?_
      simp at e2
      omega
  have split : ∀ {j : Nat} {x : Value}, (svs.set k sv')[j]? = some x → (j ≠ k ∧ svs[j]? = some x) ∨ (j = k ∧ x = sv') := fun {j x} hx => by
    rw [List.getElem?_set] at hx
    by_cases hj : k = j
    · subst hj
      rw [if_pos rfl, if_pos hkl] at hx
      exact .inr ⟨rfl, (Option.some.inj hx).symm⟩
    · rw [if_neg hj] at hx
      exact .inl ⟨Ne.symm hj, hx⟩
  have far : ∀ {j : Nat} {x : Value}, svs[j]? = some x → x.ownBlock = none ∨ ∀ m, W.heap.size ≤ m → x.ownBlock ≠ some m := fun {j x} hx => by
    have hj := (List.getElem?_eq_some_iff.1 hx).1
    obtain ⟨zs, hzs⟩ : ∃ zs, pre[j]? = some zs := ⟨_, List.getElem?_eq_getElem (by omega)⟩
    cases hv : x.ownBlock with
    | none => exact .inl rfl
    | some b =>
      refine .inr fun m hm e => ?_
      have := ((h.inn j x zs hx hzs).lt b hv).2
      simp only [Option.some.injEq] at e
      omega
  refine ⟨by simp [hlen], by rw [List.length_set]; exact hst, ?_, ?_, ?_⟩
  · intro j x zs hx hz
    rcases split hx with ⟨hj, hx⟩ | ⟨rfl, rfl⟩
    · rw [List.getElem?_set_ne (Ne.symm hj)] at hz
      refine owns_keep (hkW (h.inn j x zs hx hz) (h.apart j k x sv hx hk hj)) hsg ?_
      exact h.outer j x hx
    · rw [List.getElem?_set_self (by omega)] at hz
      cases hz
      rw [List.length_append, List.map_append]
      exact owns_keep hB hsg hsvg
  · intro i j x x' hx hx' hij
    rcases split hx with ⟨hi, hy⟩ | ⟨rfl, rfl⟩
    · rcases split hx' with ⟨hj, hy'⟩ | ⟨rfl, rfl⟩
      · exact h.apart i j x x' hy hy' hij
      · rcases hat with e | e
        · rw [e]; exact h.apart i j x sv hy hk hi
        · rw [e]
          rcases far hy with h1 | h1
          · exact .inl h1
          · exact .inr (h1 _ (by simp))
    · rcases split hx' with ⟨hj, hy'⟩ | ⟨rfl, rfl⟩
      · rcases hat with e | e
        · rw [e]; exact h.apart i j sv x' hk hy' hij
        · rw [e]
          refine .inr fun e2 => ?_
          rcases far hy' with h1 | h1
          · rw [h1] at e2; cases e2
          · exact h1 _ (by simp) e2.symm
      · exact absurd rfl hij
  · intro j x hx
    rcases split hx with ⟨hj, hx⟩ | ⟨rfl, rfl⟩
    · exact h.outer j x hx
    · exact hsvg
end Go.Proofs.Ytgjaikekpgdehaa

namespace Go.Proofs.Ytgjaikekpgdehaa
open Go Go.Proofs Go.RowKit

/-- Lists of numbers, in memory. -/
def Lsts (n : Nat) (W : World) (sv : Value) (LL : List (List Int)) : Prop :=
  ((∃ p c, sv = .slice p 0 c) ∧ LL = []) ∨ ∃ b off cap, sv = .slice (some ⟨b, off, none⟩) LL.length cap ∧ b < n ∧ LL.length ≤ cap ∧ ∀ (j : Nat) (x : List Int), LL[j]? = some x → ∃ sx, W.cell? ⟨b, off + j, none⟩ = some sx ∧ Ints n W sx x
theorem Lsts.below {n : Nat} {W W' : World} {sv : Value} {LL : List (List Int)} (h : Lsts n W sv LL) (hb : Below n W W') : Lsts n W' sv LL := by
  rcases h with h | ⟨b, off, cap, h1, h2, h3, h4⟩
  · exact .inl h
  · exact .inr ⟨b, off, cap, h1, h2, h3, fun j x hx => by
      obtain ⟨sx, h5, h6⟩ := h4 j x hx
      exact ⟨sx, (hb.cell (p := ⟨b, _, none⟩) h2).trans h5, h6.below hb⟩⟩
theorem Lsts.mono {n m : Nat} {W : World} {sv : Value} {LL : List (List Int)} (h : Lsts n W sv LL) (hb : n ≤ m) : Lsts m W sv LL := by
  rcases h with h | ⟨b, off, cap, h1, h2, h3, h4⟩
  · exact .inl h
  · exact .inr ⟨b, off, cap, h1, Nat.lt_of_lt_of_le h2 hb, h3, fun j x hx => by
      obtain ⟨sx, h5, h6⟩ := h4 j x hx
      exact ⟨sx, h5, h6.mono hb⟩⟩
theorem Lsts.go {W W' : World} {sv : Value} {LL : List (List Int)} (h : Lsts W.heap.size W sv LL) (hb : Below W.heap.size W W') : Lsts W'.heap.size W' sv LL := (h.below hb).mono hb.size
theorem Lsts.len {n : Nat} {W : World} {sv : Value} {LL : List (List Int)} (h : Lsts n W sv LL) : ∃ p c, sv = .slice p LL.length c := by
  rcases h with ⟨⟨p, c, rfl⟩, rfl⟩ | ⟨b, off, cap, rfl, _⟩ <;> exact ⟨_, _, rfl⟩
theorem Lsts.cellAt {n : Nat} {w : World} {p : Option Addr} {c : Nat} {L : List (List Int)} (h : Lsts n w (.slice p L.length c) L) {j : Nat} (hj : j < L.length) :
    ∃ b off, p = some ⟨b, off, none⟩ ∧ b < n ∧ L.length ≤ c ∧ ∃ px cx, Ints n w (.slice px L[j].length cx) L[j] ∧ w.cell? ⟨b, off + j, none⟩ = some (.slice px L[j].length cx) := by
  rcases h with ⟨_, h0⟩ | ⟨b, off, cap, h1, h2, h3, h4⟩
  · subst h0; simp at hj
  · simp only [Value.slice.injEq] at h1
    obtain ⟨rfl, _, rfl⟩ := h1
    obtain ⟨sx, h5, h6⟩ := h4 j _ (List.getElem?_eq_getElem hj)
    obtain ⟨px, cx, rfl⟩ := h6.len
    exact ⟨b, off, rfl, h2, h3, px, cx, h6, h5⟩
set_option maxRecDepth 100000 in
set_option maxHeartbeats 2000000 in
theorem refInts_any (a b : List Int) (hlen : a.length ≤ 4194304) (sa sb : Value) (w : World) (ha : Ints w.heap.size w sa a) (hb : Ints w.heap.size w sb b) :
    Calls Try.prog 27 #[sa, sb] w fun r w' => r = .returned (.bool (decide (a = b))) ∧ Grew w w' := by
  obtain ⟨p, c, rfl⟩ := ha.len
  obtain ⟨q, d, rfl⟩ := hb.len
  have hmix := mixed
  by_cases hlk : a.length = b.length
  · have hlk' : ((a.length : Int) != (b.length : Int)) = false := by simp; omega
    have HL : Hid (a.length = b.length) := hlk
    clear hlk
    go_enter Try.func27, Try.ntmps27
    go_wp2
    go_loopw [5] (fun i wr => ∃ j : Nat, j ≤ a.length ∧ i = .int .i64 j ∧ Hid (a.take j = b.take j) ∧ Grew w wr) (fun i _ => a.length - (intOf i).toNat)
    case atStart => exact ⟨0, Nat.zero_le _, rfl, rfl, Grew.refl _⟩
    case round =>
      obtain ⟨j, hj, rfl, hr, hg⟩ := hrel
      by_cases hlt : j < a.length
      · have hlt2 : j < b.length := by have := HL.out; omega
        obtain ⟨b1, off, rfl, hbb, hcap, hc⟩ := ha.open hlt
        obtain ⟨b2, off2, rfl, hbb2, hcap2, hc2⟩ := hb.open hlt2
        have c0 := hc wr hg.below j hlt
        have d0 := hc2 wr hg.below j hlt2
        have hjl : (j : Int) < (a.length : Int) := by omega
        have hjl2 : (j : Int) < (b.length : Int) := by omega
        have HS : Hid (a[j] = b[j] → a.take (j + 1) = b.take (j + 1)) := fun h => by
          rw [List.take_add_one, List.take_add_one, hr.out, List.getElem?_eq_getElem hlt, List.getElem?_eq_getElem hlt2, h]
        have HN : Hid (a[j] ≠ b[j] → a ≠ b) := fun h e => by subst e; exact h rfl
        clear hc hc2 hr
        generalize a[j] = x at c0 HS HN
        generalize b[j] = y at d0 HS HN
        by_cases he : x = y
        · have hb' : (x != y) = false := by simpa using he
          have HT : Hid _ := HS.out he
          clear HS HN he
          go_wp2
          go_quiet (fail)
          have hgq := hg.drewN nq
          generalize wr.drewN nq = w8 at hgq ⊢
          go_wp2
          exact ⟨⟨j + 1, by omega, by go_num, HT, hgq⟩, by simp [intOf]; omega⟩
        · have hb' : (x != y) = true := by simpa using he
          have HE : Hid (decide (a = b) = false) := decide_eq_false (HN.out he)
          clear HS HN he
          go_wp2
          go_quiet (fail)
          have hgq := hg.drewN nq
          generalize wr.drewN nq = w8 at hgq ⊢
          go_wp2
          go_ret
          exact ⟨by rw [HE.out]; rfl, hgq⟩
      · obtain rfl : j = a.length := by omega
        have HE : Hid (decide (a = b) = true) := by
          have h1 := hr.out
          have h2 := HL.out
          rw [List.take_length, h2, List.take_length] at h1
          exact decide_eq_true h1
        clear hr
        go_wp2
        go_ret
        exact ⟨by rw [HE.out]; rfl, hg⟩
  · have hlk' : ((a.length : Int) != (b.length : Int)) = true := by simp; omega
    have HE : Hid (decide (a = b) = false) := decide_eq_false (fun h => hlk (by rw [h]))
    clear hlk
    go_enter Try.func27, Try.ntmps27
    go_wp2
    go_ret
    exact ⟨by rw [HE.out]; rfl, Grew.refl w⟩
set_option maxRecDepth 100000 in
set_option maxHeartbeats 2000000 in
theorem refLists_any (a b : List (List Int)) (hlen : a.length ≤ 4194304) (hin : ∀ x ∈ a, x.length ≤ 4194304) (sa sb : Value) (w : World) (ha : Lsts w.heap.size w sa a) (hb : Lsts w.heap.size w sb b) :
    Calls Try.prog 11 #[sa, sb] w fun r w' => r = .returned (.bool (decide (a = b))) ∧ Grew w w' := by
  obtain ⟨p, c, rfl⟩ := ha.len
  obtain ⟨q, d, rfl⟩ := hb.len
  have hmix := mixed
  by_cases hlk : a.length = b.length
  · have hlk' : ((a.length : Int) != (b.length : Int)) = false := by simp; omega
    have HL : Hid (a.length = b.length) := hlk
    clear hlk
    go_enter Try.func11, Try.ntmps11
    go_wp2
    go_loopw [5] (fun i wr => ∃ j : Nat, j ≤ a.length ∧ i = .int .i64 j ∧ Hid (a.take j = b.take j) ∧ Grew w wr) (fun i _ => a.length - (intOf i).toNat)
    case atStart => exact ⟨0, Nat.zero_le _, rfl, rfl, Grew.refl _⟩
    case round =>
      obtain ⟨j, hj, rfl, hr, hg⟩ := hrel
      by_cases hlt : j < a.length
      · have hlt2 : j < b.length := by have := HL.out; omega
        obtain ⟨b1, off, rfl, hbb, hcap, px, cx, hx, c0⟩ := (ha.go hg.below).cellAt hlt
        obtain ⟨b2, off2, rfl, hbb2, hcap2, py, cy, hy, d0⟩ := (hb.go hg.below).cellAt hlt2
        have hjl : (j : Int) < (a.length : Int) := by omega
        have hjl2 : (j : Int) < (b.length : Int) := by omega
        have HS : Hid (a[j] = b[j] → a.take (j + 1) = b.take (j + 1)) := fun h => by
          rw [List.take_add_one, List.take_add_one, hr.out, List.getElem?_eq_getElem hlt, List.getElem?_eq_getElem hlt2, h]
        have HN : Hid (a[j] ≠ b[j] → a ≠ b) := fun h e => by subst e; exact h rfl
        have hxl := hin _ (List.getElem_mem hlt)
        have c0' : ∀ n os, (Go.Sort.grow (wr.drewN n) os).cell? ⟨b1, off + j, none⟩ = some (.slice px a[j].length cx) := cell_grown (a := ⟨b1, off + j, none⟩) hbb c0
        have d0' : ∀ n os, (Go.Sort.grow (wr.drewN n) os).cell? ⟨b2, off2 + j, none⟩ = some (.slice py b[j].length cy) := cell_grown (a := ⟨b2, off2 + j, none⟩) hbb2 d0
        have hic : ∀ W, Grew wr W → Calls Try.prog 27 #[.slice px a[j].length cx, .slice py b[j].length cy] W fun r w' => r = .returned (.bool (decide (a[j] = b[j]))) ∧ Grew W w' := fun W hW => refInts_any _ _ hxl _ _ W (hx.go hW.below) (hy.go hW.below)
        clear hr hx hy c0 d0
        clear hxl
        by_cases he : a[j] = b[j]
        · have hb' : decide (a[j] = b[j]) = true := decide_eq_true he
          have HT : Hid _ := HS.out he
          rw [hb'] at hic
          clear HS HN he hb'
          go_wp2
          go_quiet_grown (first | (go_at_call 27; refine Calls.grown_of (hic _ ⟨_, _, rfl⟩)))
          have hgq := hg.trans ⟨nq, osq, rfl⟩
          generalize Go.Sort.grow (wr.drewN nq) osq = w8 at hgq ⊢
          clear c0' d0' hic
          go_wp2
          exact ⟨⟨j + 1, by omega, by go_num, HT, hgq⟩, by simp [intOf]; omega⟩
        · have hb' : decide (a[j] = b[j]) = false := decide_eq_false he
          have HE : Hid (decide (a = b) = false) := decide_eq_false (HN.out he)
          rw [hb'] at hic
          clear HS HN he hb'
          go_wp2
          go_quiet_grown (first | (go_at_call 27; refine Calls.grown_of (hic _ ⟨_, _, rfl⟩)))
          have hgq := hg.trans ⟨nq, osq, rfl⟩
          generalize Go.Sort.grow (wr.drewN nq) osq = w8 at hgq ⊢
          clear c0' d0' hic
          go_wp2
          go_ret
          exact ⟨by rw [HE.out]; rfl, hgq⟩
      · obtain rfl : j = a.length := by omega
        have HE : Hid (decide (a = b) = true) := by
          have h1 := hr.out
          have h2 := HL.out
          rw [List.take_length, h2, List.take_length] at h1
          exact decide_eq_true h1
        clear hr
        go_wp2
        go_ret
        exact ⟨by rw [HE.out]; rfl, hg⟩
  · have hlk' : ((a.length : Int) != (b.length : Int)) = true := by simp; omega
    have HE : Hid (decide (a = b) = false) := decide_eq_false (fun h => hlk (by rw [h]))
    clear hlk
    go_enter Try.func11, Try.ntmps11
    go_wp2
    go_ret
    exact ⟨by rw [HE.out]; rfl, Grew.refl w⟩
theorem ints_owned {W : World} {base : Nat} {e : TypeId} {v : Value} {l : List Int} (h : W.ownsRow base e 1 v l.length (l.map (Value.int .i64))) : Ints W.heap.size W v l := by
  rcases h.2 with ⟨rfl, h0⟩ | ⟨g, cap, cur, rfl, hb, hg, hn, hc⟩
  · have : l = [] := List.eq_nil_of_length_eq_zero h0
    subst this
    exact .inl ⟨⟨_, _, rfl⟩, rfl⟩
  · refine .inr ⟨g, 0, cap, rfl, (Array.getElem?_eq_some_iff.1 hg).1, hn, fun j x hx => ?_⟩
    have := h.cells (g := g) rfl j (.int .i64 x) (by rw [List.getElem?_map, hx]; rfl)
    rwa [Go.WideShapes.add_plain] at this
theorem Grp.lsts {h0 : Nat} {lv : Value} {svs : List Value} {pre : List (List Int)} {W : World} (h : Grp h0 lv svs pre W) : Lsts W.heap.size W lv pre := by
  have hlen := h.len
  rcases h.own.2 with ⟨rfl, h1⟩ | ⟨g, cap, cur, rfl, hb, hg, hn, hc⟩
  · exact .inl ⟨⟨_, _, rfl⟩, List.eq_nil_of_length_eq_zero (by omega)⟩
  · refine .inr ⟨g, 0, cap, by rw [hlen], (Array.getElem?_eq_some_iff.1 hg).1, by omega, fun j x hx => ?_⟩
    have hj := (List.getElem?_eq_some_iff.1 hx).1
    obtain ⟨sx, hs⟩ : ∃ sx, svs[j]? = some sx := ⟨_, List.getElem?_eq_getElem (by omega)⟩
    refine ⟨sx, ?_, ints_owned (h.inn j sx x hs hx)⟩
    have := h.own.cells (g := g) rfl j sx hs
    rwa [Go.WideShapes.add_plain] at this
end Go.Proofs.Ytgjaikekpgdehaa

namespace Go.Proofs.Ytgjaikekpgdehaa
open Go Go.Proofs Go.RowKit
theorem infoE : (Try.prog.info? 41).map (fun i => (i.zero, i.size, i.bytes)) = some (some (.agg #[.int .i64 0, .int .i64 0, .int .i64 0]), 3, 24) := by kernel_rfl
theorem owns_below {w w' : World} {base : Nat} {e : TypeId} {size : Nat} {v : Value} {n : Nat} {xs : List Value} (h : w.ownsRow base e size v n xs) (hb : Below w.heap.size w w') : w'.ownsRow base e size v n xs := by
  refine h.kept (row := none) (⟨hb.os, hb.tape, hb.output, hb.size, fun k hk _ => hb.block k hk⟩ : w.grownBy w' none) ?_
  cases v.ownBlock with
  | none => exact .inl rfl
  | some k => exact .inr (by simp)
theorem Edges.of_owns {W : World} {base : Nat} {e : TypeId} {v : Value} {l : List Ed} (h : W.ownsRow base e 3 v l.length (flat l)) : Edges W.heap.size W v l := by
  rcases h.2 with ⟨rfl, h0⟩ | ⟨g, cap, cur, rfl, hb, hg, hn, hc⟩
  · exact .inl ⟨⟨_, _, rfl⟩, List.eq_nil_of_length_eq_zero h0⟩
  · refine .inr ⟨g, 0, cap, rfl, (Array.getElem?_eq_some_iff.1 hg).1, hn, fun j x hx => ?_⟩
    obtain ⟨k0, k1, k2⟩ := flat_at hx
    have c0 := h.cells (g := g) rfl (j * 3) _ k0
    have c1 := h.cells (g := g) rfl (j * 3 + 1) _ k1
    have c2 := h.cells (g := g) rfl (j * 3 + 2) _ k2
    rw [Go.WideShapes.add_plain] at c0 c1 c2
    exact ⟨c0, c1, c2⟩
/-- A slice's block is none of those below n. -/
def Above (n : Nat) (sv : Value) : Prop := ∀ a len c, sv = .slice (some a) len c → 0 < len → n ≤ a.block
theorem Above.of_owns {W : World} {base : Nat} {e : TypeId} {size : Nat} {v : Value} {n : Nat} {xs : List Value} (h : W.ownsRow base e size v n xs) : Above base v := by
  intro a len c hv _
  rcases h.2 with ⟨h1, _⟩ | ⟨g, cap, cur, h1, hb, _⟩
  · rw [h1] at hv; cases hv
  · rw [h1] at hv
    simp only [Value.slice.injEq, Option.some.injEq] at hv
    rw [← hv.1]; exact hb
theorem Edges.setLow {W : World} {n : Nat} {sv : Value} {l : List Ed} (h : Edges W.heap.size W sv l) (ha : Above n sv) {p : Addr} (hp : p.block < n) (v : Value) : Edges (W.setCell p v).heap.size (W.setCell p v) sv l := by
  rcases h with h | ⟨b, off, cap, h1, h2, h3, h4⟩
  · exact .inl h
  · refine .inr ⟨b, off, cap, h1, by simpa using h2, h3, fun j x hx => ?_⟩
    have hj := (List.getElem?_eq_some_iff.1 hx).1
    have hb := ha _ _ _ h1 (by omega)
    simp only at hb
    obtain ⟨k0, k1, k2⟩ := h4 j x hx
    have hne : ∀ o, p ≠ ⟨b, o, none⟩ := fun o e => by rw [e] at hp; simp at hp; omega
    exact ⟨(World.cell?_setCell_other _ _ _ _ (hne _)).trans k0, (World.cell?_setCell_other _ _ _ _ (hne _)).trans k1, (World.cell?_setCell_other _ _ _ _ (hne _)).trans k2⟩
theorem news3 {w : World} {t : TypeId} (e : Ed) : ∀ (i : Nat) (u : Value), (encE e)[i]? = some u → (w.alloc (.cells #[.int .i64 e.1, .int .i64 e.2.1, .int .i64 e.2.2] t)).cell? ((⟨w.heap.size, 0, none⟩ : Addr).add i) = some u := by
  intro i u hu
  rw [Go.WideShapes.add_plain, Nat.zero_add]
  match i with
  | 0 => simp [encE] at hu; subst hu; simp
  | 1 => simp [encE] at hu; subst hu; simp
  | 2 => simp [encE] at hu; subst hu; simp
  | i + 3 => simp [encE] at hu
theorem one3 (e : Ed) : ∀ u ∈ encE e, u.oneCell' = true := by
  intro u hu
  simp [encE] at hu
  rcases hu with rfl | rfl | rfl <;> rfl
theorem flat_snoc (l : List Ed) (e : Ed) : flat (l ++ [e]) = flat l ++ encE e := by simp [flat]
theorem owns_none (w : World) (base : Nat) (e : TypeId) : w.ownsRow base e 3 (.slice none 0 0) 0 (flat []) := World.ownsRow_nil w base e 3
theorem ret_graph1 {fn : Func} {p : Tmp} (h : fn.results = #[.cell p 24]) {tmps : Array Value} {w : World} {b : Nat} {x y : Value} (hp : tmps.getD p undef = .pointer (some ⟨b, 0, none⟩)) (h0 : w.cell? ⟨b, 0, none⟩ = some x) (h1 : w.cell? ⟨b, 1, none⟩ = some y) :
    (results fn tmps).run Try.prog w = .ok (.agg #[x, y]) w := by
  have a1 := Try.isAgg24
  have a2 := Try.sizeOf24
  rw [Array.getD_eq_getD_getElem?] at hp
  simp only [results, h]
  simp [Sem.run_bind, Result.andThen, hp]
  go_simp
theorem owns_form {W : World} {base : Nat} {e : TypeId} {size : Nat} {v : Value} {n : Nat} {xs : List Value} (h : W.ownsRow base e size v n xs) : ∃ p c, v = .slice p n c := by
  rcases h.2 with ⟨rfl, rfl⟩ | ⟨g, cap, cur, rfl, _⟩ <;> exact ⟨_, _, rfl⟩
theorem Blk.grown {t : TypeId} {A B : World} {g : Nat} {vs : List Value} {row : Option Nat} (h : Blk t A g vs) (hg : A.grownBy B row) (hne : some g ≠ row) : Blk t B g vs := (hg.block g h.lt hne).trans h
theorem owns_set {W : World} {base : Nat} {e : TypeId} {size : Nat} {v : Value} {n : Nat} {xs : List Value} (h : W.ownsRow base e size v n xs) {p : Addr} (hp : p.block < base) (u : Value) : (W.setCell p u).ownsRow base e size v n xs := by
  obtain ⟨h1, h2⟩ := h
  refine ⟨h1, ?_⟩
  rcases h2 with h2 | ⟨g, cap, cur, hv, hb, hg, r⟩
  · exact .inl h2
  · exact .inr ⟨g, cap, cur, hv, hb, (Below.heap_setCell _ _ _ _ (by omega)).trans hg, r⟩
end Go.Proofs.Ytgjaikekpgdehaa
