/-
  Lists of lists that a call makes by append, in memory.
-/
import Derived.OwnWalk
import Derived.Laws.OwnMore
import Derived.Maps.AppendAt
import Derived.Test.YtdgecflljgnobaaXPCount
namespace Go.Proofs.Ytdgecflljgnobaa
open Go Go.Proofs Go.RowKit

theorem infoSl : (Try.prog.info? 27).map (fun i => (i.zero, i.size, i.bytes)) = some (some (.slice none 0 0), 1, 24) := by kernel_rfl
theorem owns_keep {A B : World} {base : Nat} {e : TypeId} {size : Nat} {v : Value} {n : Nat} {xs : List Value} {r : Option Nat} (h : A.ownsRow base e size v n xs) (hg : A.grownBy B r) (hne : v.ownBlock = none ∨ v.ownBlock ≠ r) : B.ownsRow base e size v n xs := h.kept hg hne
theorem owns_lowset {W : World} {base : Nat} {e : TypeId} {size : Nat} {v : Value} {n : Nat} {xs : List Value} (h : W.ownsRow base e size v n xs) {p : Addr} (hp : p.block < base) (u : Value) : (W.setCell p u).ownsRow base e size v n xs := by
  obtain ⟨h1, h2⟩ := h
  refine ⟨h1, ?_⟩
  rcases h2 with h2 | ⟨g, cap, cur, hv, hb, hg, r⟩
  · exact .inl h2
  · exact .inr ⟨g, cap, cur, hv, hb, (Below.heap_setCell _ _ _ _ (by omega)).trans hg, r⟩
theorem grown_below' {A B : World} (h : Below A.heap.size A B) (r : Option Nat) : A.grownBy B r := ⟨h.os, h.tape, h.output, h.size, fun k hk _ => h.block k hk⟩
/-- The lists: their slices svs lie in the row lv; each row is its own. -/
structure Grp (h0 : Nat) (lv : Value) (svs : List Value) (pre : List (List Int)) (W : World) : Prop where
  len : svs.length = pre.length
  own : W.ownsRow h0 27 1 lv svs.length svs
  inn : ∀ (k : Nat) (sv : Value) (xs : List Int), svs[k]? = some sv → pre[k]? = some xs → W.ownsRow h0 3 1 sv xs.length (xs.map (Value.int .i64))
  apart : ∀ (k j : Nat) (sv sv' : Value), svs[k]? = some sv → svs[j]? = some sv' → k ≠ j → sv.ownBlock = none ∨ sv.ownBlock ≠ sv'.ownBlock
  outer : ∀ (k : Nat) (sv : Value), svs[k]? = some sv → sv.ownBlock = none ∨ sv.ownBlock ≠ lv.ownBlock
theorem Grp.start (h0 : Nat) (W : World) : Grp h0 (.slice none 0 0) [] [] W :=
  ⟨rfl, World.ownsRow_nil _ _ _ _, fun k sv xs h => by simp at h, fun k j sv sv' h => by simp at h, fun k sv h => by simp at h⟩
theorem Grp.go {h0 : Nat} {lv : Value} {svs : List Value} {pre : List (List Int)} {A B : World} (h : Grp h0 lv svs pre A) (hb : Below A.heap.size A B) : Grp h0 lv svs pre B := by
  have hk : ∀ {e : TypeId} {size : Nat} {v : Value} {n : Nat} {xs : List Value}, A.ownsRow h0 e size v n xs → B.ownsRow h0 e size v n xs := fun {e size v n xs} ho => by
    refine owns_keep ho (grown_below' hb none) ?_
    cases v.ownBlock with
    | none => exact .inl rfl
    | some k => exact .inr (by simp)
  exact ⟨h.len, hk h.own, fun k sv xs h1 h2 => hk (h.inn k sv xs h1 h2), h.apart, h.outer⟩
theorem Grp.low {h0 : Nat} {lv : Value} {svs : List Value} {pre : List (List Int)} {W : World} (h : Grp h0 lv svs pre W) {p : Addr} (hp : p.block < h0) (u : Value) : Grp h0 lv svs pre (W.setCell p u) :=
  ⟨h.len, owns_lowset h.own hp u, fun k sv xs h1 h2 => owns_lowset (h.inn k sv xs h1 h2) hp u, h.apart, h.outer⟩
theorem ownB_lt {W : World} {base : Nat} {e : TypeId} {size : Nat} {v : Value} {n : Nat} {xs : List Value} (h : W.ownsRow base e size v n xs) {k : Nat} (hk : W.heap.size ≤ k) : v.ownBlock = none ∨ v.ownBlock ≠ some k := by
  cases hv : v.ownBlock with
  | none => exact .inl rfl
  | some b =>
    refine .inr fun e => ?_
    have := (h.lt b hv).2
    simp only [Option.some.injEq] at e
    omega
/-- A new list, of nothing, behind the others. -/
theorem Grp.new {h0 : Nat} {lv lv' sv : Value} {svs : List Value} {pre : List (List Int)} {W A B : World} {o : Obj} (h : Grp h0 lv svs pre W) (hA : W.grownBy A none) (hs : A.ownsRow h0 3 1 sv 0 []) (hsb : sv.ownBlock = some W.heap.size) (hWA : W.heap.size < A.heap.size)
    (hB : B.ownsRow h0 27 1 lv' (svs.length + 1) (svs ++ [sv])) (hg : (A.alloc o).grownBy B lv.ownBlock) (hat : lv'.ownBlock = lv.ownBlock ∨ lv'.ownBlock = some (A.alloc o).heap.size) : Grp h0 lv' (svs ++ [sv]) (pre ++ [[]]) B := by
  have hkA : ∀ {e : TypeId} {size : Nat} {v : Value} {n : Nat} {xs : List Value}, W.ownsRow h0 e size v n xs → (A.alloc o).ownsRow h0 e size v n xs := fun {e size v n xs} ho => by
    refine World.ownsRow.alloc (owns_keep ho hA ?_) o
    cases v.ownBlock with
    | none => exact .inl rfl
    | some k => exact .inr (by simp)
  have hlvW : lv.ownBlock = none ∨ lv.ownBlock ≠ some W.heap.size := ownB_lt h.own (Nat.le_refl _)
  have hne : sv.ownBlock ≠ lv.ownBlock := fun e => by
    rw [hsb] at e
    rcases hlvW with h1 | h1
    · rw [h1] at e; cases e
    · exact h1 e.symm
  have hsA := (World.ownsRow.alloc hs o)
  have hlen := h.len
  have split : ∀ {k : Nat} {x : Value}, (svs ++ [sv])[k]? = some x → (k < svs.length ∧ svs[k]? = some x) ∨ (k = svs.length ∧ x = sv) := fun {k x} hx => by
    rw [List.getElem?_append] at hx
    by_cases hk : k < svs.length
    · rw [if_pos hk] at hx
      exact .inl ⟨hk, hx⟩
    · rw [if_neg hk] at hx
      have h1 := (List.getElem?_eq_some_iff.1 hx).1
      simp at h1
      have h2 : k = svs.length := by omega
      subst h2
      simp at hx
      exact .inr ⟨rfl, hx.symm⟩
  have far : ∀ {k : Nat} {x : Value}, svs[k]? = some x → x.ownBlock = none ∨ ∀ m, W.heap.size ≤ m → x.ownBlock ≠ some m := fun {k x} hx => by
    have hk := (List.getElem?_eq_some_iff.1 hx).1
    obtain ⟨xs, hxs⟩ : ∃ xs, pre[k]? = some xs := ⟨_, List.getElem?_eq_getElem (by omega)⟩
    cases hv : x.ownBlock with
    | none => exact .inl rfl
    | some b =>
      refine .inr fun m hm e => ?_
      have := ((h.inn k x xs hx hxs).lt b hv).2
      simp only [Option.some.injEq] at e
      omega
  refine ⟨by simp [hlen], by rw [List.length_append]; exact hB, ?_, ?_, ?_⟩
  · intro k x xs hx hp
    rcases split hx with ⟨hk, hx⟩ | ⟨rfl, rfl⟩
    · rw [List.getElem?_append_left (by omega)] at hp
      exact owns_keep (hkA (h.inn k x xs hx hp)) hg (h.outer k x hx)
    · rw [hlen, List.getElem?_append_right (Nat.le_refl _), Nat.sub_self] at hp
      simp at hp
      subst hp
      exact owns_keep hsA hg (.inr hne)
  · intro k j x x' hx hx' hkj
    rcases split hx with ⟨hk, hy⟩ | ⟨rfl, rfl⟩
    · rcases split hx' with ⟨hj, hy'⟩ | ⟨rfl, rfl⟩
      · exact h.apart k j x x' hy hy' hkj
      · rw [hsb]
        rcases far hy with h1 | h1
        · exact .inl h1
        · exact .inr (h1 _ (Nat.le_refl _))
    · rcases split hx' with ⟨hj, hy'⟩ | ⟨rfl, rfl⟩
      · refine .inr fun e => ?_
        rw [hsb] at e
        rcases far hy' with h1 | h1
        · rw [h1] at e; cases e
        · exact h1 _ (Nat.le_refl _) e.symm
      · exact absurd rfl hkj
  · intro k x hx
    rcases split hx with ⟨hk, hx⟩ | ⟨rfl, rfl⟩
    · rcases hat with e | e
      · rw [e]; exact h.outer k x hx
      · rw [e]
        rcases far hx with h1 | h1
        · exact .inl h1
        · exact .inr (h1 _ (by simp; omega))
    · rcases hat with e | e
      · rw [e]; exact .inr hne
      · rw [e, hsb]
        refine .inr fun e2 => ?_
        simp at e2
        omega
/-- A number more in the list number k. -/
theorem Grp.push {h0 g cap k : Nat} {svs : List Value} {pre : List (List Int)} {W B : World} {o : Obj} {sv sv' : Value} {xs : List Int} {y : Int} (h : Grp h0 (.slice (some ⟨g, 0, none⟩) svs.length cap) svs pre W) (hk : svs[k]? = some sv) (hp : pre[k]? = some xs)
    (hB : B.ownsRow h0 3 1 sv' (xs.length + 1) (xs.map (Value.int .i64) ++ [.int .i64 y])) (hg : (W.alloc o).grownBy B sv.ownBlock) (hat : sv'.ownBlock = sv.ownBlock ∨ sv'.ownBlock = some (W.alloc o).heap.size) : Grp h0 (.slice (some ⟨g, 0, none⟩) svs.length cap) (svs.set k sv') (pre.set k (xs ++ [y])) (B.setCell ⟨g, k, none⟩ sv') := by
  have hlen := h.len
  have hkl := (List.getElem?_eq_some_iff.1 hk).1
  have hgl : g < W.heap.size := (h.own.lt g rfl).2
  have hkW : ∀ {e : TypeId} {size : Nat} {v : Value} {n : Nat} {zs : List Value}, W.ownsRow h0 e size v n zs → (v.ownBlock = none ∨ v.ownBlock ≠ sv.ownBlock) → B.ownsRow h0 e size v n zs := fun {e size v n zs} ho hne => owns_keep (World.ownsRow.alloc ho o) hg hne
  have hout := h.outer k sv hk
  have hlvne : (Value.slice (some ⟨g, 0, none⟩) svs.length cap).ownBlock = none ∨ (Value.slice (some ⟨g, 0, none⟩) svs.length cap).ownBlock ≠ sv.ownBlock := by
    refine .inr fun e => ?_
    rcases hout with h1 | h1
    · rw [h1] at e; cases e
    · exact h1 e.symm
  have hlvB := hkW h.own hlvne
  obtain ⟨hst, hsg⟩ := hlvB.stored k sv'
  have hsvg : sv'.ownBlock = none ∨ sv'.ownBlock ≠ some g := by
    rcases hat with e | e
    · rw [e]; exact hout
    · rw [e]
      refine .inr fun e2 => ?_
      simp at e2
      omega
  have split : ∀ {j : Nat} {x : Value}, (svs.set k sv')[j]? = some x → (j ≠ k ∧ svs[j]? = some x) ∨ (j = k ∧ x = sv') := fun {j x} hx => by
    rw [List.getElem?_set] at hx
    by_cases hj : k = j
    · subst hj
      rw [if_pos rfl, if_pos hkl] at hx
      exact .inr ⟨rfl, (Option.some.inj hx).symm⟩
    · rw [if_neg hj] at hx
      exact .inl ⟨Ne.symm hj, hx⟩
  have far : ∀ {j : Nat} {x : Value}, svs[j]? = some x → x.ownBlock = none ∨ ∀ m, W.heap.size ≤ m → x.ownBlock ≠ some m := fun {j x} hx => by
    have hj := (List.getElem?_eq_some_iff.1 hx).1
    obtain ⟨zs, hzs⟩ : ∃ zs, pre[j]? = some zs := ⟨_, List.getElem?_eq_getElem (by omega)⟩
    cases hv : x.ownBlock with
    | none => exact .inl rfl
    | some b =>
      refine .inr fun m hm e => ?_
      have := ((h.inn j x zs hx hzs).lt b hv).2
      simp only [Option.some.injEq] at e
      omega
  refine ⟨by simp [hlen], by rw [List.length_set]; exact hst, ?_, ?_, ?_⟩
  · intro j x zs hx hz
    rcases split hx with ⟨hj, hx⟩ | ⟨rfl, rfl⟩
    · rw [List.getElem?_set_ne (Ne.symm hj)] at hz
      refine owns_keep (hkW (h.inn j x zs hx hz) (h.apart j k x sv hx hk hj)) hsg ?_
      exact h.outer j x hx
    · rw [List.getElem?_set_self (by omega)] at hz
      cases hz
      rw [List.length_append, List.map_append]
      exact owns_keep hB hsg hsvg
  · intro i j x x' hx hx' hij
    rcases split hx with ⟨hi, hy⟩ | ⟨rfl, rfl⟩
    · rcases split hx' with ⟨hj, hy'⟩ | ⟨rfl, rfl⟩
      · exact h.apart i j x x' hy hy' hij
      · rcases hat with e | e
        · rw [e]; exact h.apart i j x sv hy hk hi
        · rw [e]
          rcases far hy with h1 | h1
          · exact .inl h1
          · exact .inr (h1 _ (by simp))
    · rcases split hx' with ⟨hj, hy'⟩ | ⟨rfl, rfl⟩
      · rcases hat with e | e
        · rw [e]; exact h.apart i j sv x' hk hy' hij
        · rw [e]
          refine .inr fun e2 => ?_
          rcases far hy' with h1 | h1
          · rw [h1] at e2; cases e2
          · exact h1 _ (by simp) e2.symm
      · exact absurd rfl hij
  · intro j x hx
    rcases split hx with ⟨hj, hx⟩ | ⟨rfl, rfl⟩
    · exact h.outer j x hx
    · exact hsvg
end Go.Proofs.Ytdgecflljgnobaa
