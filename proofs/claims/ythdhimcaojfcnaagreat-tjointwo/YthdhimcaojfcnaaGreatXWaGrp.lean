/-
  Lists of lists that a call makes, in memory (as in the stages before).
-/
import Derived.OwnWalk
import Derived.Laws.OwnMore
import Derived.Maps.AppendAt
import Derived.Test.YthdhimcaojfcnaaGreatJA
import Derived.Test.YthdhimcaojfcnaaGreatXGAppSrc
namespace Go.Proofs.YthdhimcaojfcnaaGreat
open Go Go.Proofs Go.RowKit

theorem infoSl : (Tryz.prog.info? 25).map (fun i => (i.zero, i.size, i.bytes)) = some (some (.slice none 0 0), 1, 24) := by kernel_rfl
theorem owns_keep {A B : World} {base : Nat} {e : TypeId} {size : Nat} {v : Value} {n : Nat} {xs : List Value} {r : Option Nat} (h : A.ownsRow base e size v n xs) (hg : A.grownBy B r) (hne : v.ownBlock = none ∨ v.ownBlock ≠ r) : B.ownsRow base e size v n xs := h.kept hg hne
theorem owns_lowset {W : World} {base : Nat} {e : TypeId} {size : Nat} {v : Value} {n : Nat} {xs : List Value} (h : W.ownsRow base e size v n xs) {p : Addr} (hp : p.block < base) (u : Value) : (W.setCell p u).ownsRow base e size v n xs := by
  obtain ⟨h1, h2⟩ := h
  refine ⟨h1, ?_⟩
  rcases h2 with h2 | ⟨g, cap, cur, hv, hb, hg, r⟩
  · exact .inl h2
  · exact .inr ⟨g, cap, cur, hv, hb, (Below.heap_setCell _ _ _ _ (by omega)).trans hg, r⟩
theorem grown_below' {A B : World} (h : Below A.heap.size A B) (r : Option Nat) : A.grownBy B r := ⟨h.os, h.tape, h.output, h.size, fun k hk _ => h.block k hk⟩
/-- The lists: their slices svs lie in the row lv; each row is its own. -/
structure Grp (h0 : Nat) (lv : Value) (svs : List Value) (pre : List (List Int)) (W : World) : Prop where
  len : svs.length = pre.length
  own : W.ownsRow h0 25 1 lv svs.length svs
  inn : ∀ (k : Nat) (sv : Value) (xs : List Int), svs[k]? = some sv → pre[k]? = some xs → W.ownsRow h0 3 1 sv xs.length (xs.map (Value.int .i64))
  apart : ∀ (k j : Nat) (sv sv' : Value), svs[k]? = some sv → svs[j]? = some sv' → k ≠ j → sv.ownBlock = none ∨ sv.ownBlock ≠ sv'.ownBlock
  outer : ∀ (k : Nat) (sv : Value), svs[k]? = some sv → sv.ownBlock = none ∨ sv.ownBlock ≠ lv.ownBlock
theorem Grp.start (h0 : Nat) (W : World) : Grp h0 (.slice none 0 0) [] [] W :=
  ⟨rfl, World.ownsRow_nil _ _ _ _, fun k sv xs h => by simp at h, fun k j sv sv' h => by simp at h, fun k sv h => by simp at h⟩
theorem Grp.go {h0 : Nat} {lv : Value} {svs : List Value} {pre : List (List Int)} {A B : World} (h : Grp h0 lv svs pre A) (hb : Below A.heap.size A B) : Grp h0 lv svs pre B := by
  have hk : ∀ {e : TypeId} {size : Nat} {v : Value} {n : Nat} {xs : List Value}, A.ownsRow h0 e size v n xs → B.ownsRow h0 e size v n xs := fun {e size v n xs} ho => by
    refine owns_keep ho (grown_below' hb none) ?_
    cases v.ownBlock with
    | none => exact .inl rfl
    | some k => exact .inr (by simp)
  exact ⟨h.len, hk h.own, fun k sv xs h1 h2 => hk (h.inn k sv xs h1 h2), h.apart, h.outer⟩
theorem Grp.low {h0 : Nat} {lv : Value} {svs : List Value} {pre : List (List Int)} {W : World} (h : Grp h0 lv svs pre W) {p : Addr} (hp : p.block < h0) (u : Value) : Grp h0 lv svs pre (W.setCell p u) :=
  ⟨h.len, owns_lowset h.own hp u, fun k sv xs h1 h2 => owns_lowset (h.inn k sv xs h1 h2) hp u, h.apart, h.outer⟩
theorem ownB_lt {W : World} {base : Nat} {e : TypeId} {size : Nat} {v : Value} {n : Nat} {xs : List Value} (h : W.ownsRow base e size v n xs) {k : Nat} (hk : W.heap.size ≤ k) : v.ownBlock = none ∨ v.ownBlock ≠ some k := by
  cases hv : v.ownBlock with
  | none => exact .inl rfl
  | some b =>
    refine .inr fun e => ?_
    have := (h.lt b hv).2
    simp only [Option.some.injEq] at e
    omega
/-- A number more in the list number k. -/
theorem Grp.push {h0 g cap k : Nat} {svs : List Value} {pre : List (List Int)} {W B : World} {o : Obj} {sv sv' : Value} {xs : List Int} {y : Int} (h : Grp h0 (.slice (some ⟨g, 0, none⟩) svs.length cap) svs pre W) (hk : svs[k]? = some sv) (hp : pre[k]? = some xs)
    (hB : B.ownsRow h0 3 1 sv' (xs.length + 1) (xs.map (Value.int .i64) ++ [.int .i64 y])) (hg : (W.alloc o).grownBy B sv.ownBlock) (hat : sv'.ownBlock = sv.ownBlock ∨ sv'.ownBlock = some (W.alloc o).heap.size) : Grp h0 (.slice (some ⟨g, 0, none⟩) svs.length cap) (svs.set k sv') (pre.set k (xs ++ [y])) (B.setCell ⟨g, k, none⟩ sv') := by
  have hlen := h.len
  have hkl := (List.getElem?_eq_some_iff.1 hk).1
  have hgl : g < W.heap.size := (h.own.lt g rfl).2
  have hkW : ∀ {e : TypeId} {size : Nat} {v : Value} {n : Nat} {zs : List Value}, W.ownsRow h0 e size v n zs → (v.ownBlock = none ∨ v.ownBlock ≠ sv.ownBlock) → B.ownsRow h0 e size v n zs := fun {e size v n zs} ho hne => owns_keep (World.ownsRow.alloc ho o) hg hne
  have hout := h.outer k sv hk
  have hlvne : (Value.slice (some ⟨g, 0, none⟩) svs.length cap).ownBlock = none ∨ (Value.slice (some ⟨g, 0, none⟩) svs.length cap).ownBlock ≠ sv.ownBlock := by
    refine .inr fun e => ?_
    rcases hout with h1 | h1
    · rw [h1] at e; cases e
    · exact h1 e.symm
  have hlvB := hkW h.own hlvne
  obtain ⟨hst, hsg⟩ := hlvB.stored k sv'
  have hsvg : sv'.ownBlock = none ∨ sv'.ownBlock ≠ some g := by
    rcases hat with e | e
    · rw [e]; exact hout
    · rw [e]
      refine .inr fun e2 => ?_
      simp at e2
      omega
  have split : ∀ {j : Nat} {x : Value}, (svs.set k sv')[j]? = some x → (j ≠ k ∧ svs[j]? = some x) ∨ (j = k ∧ x = sv') := fun {j x} hx => by
    rw [List.getElem?_set] at hx
    by_cases hj : k = j
    · subst hj
      rw [if_pos rfl, if_pos hkl] at hx
      exact .inr ⟨rfl, (Option.some.inj hx).symm⟩
    · rw [if_neg hj] at hx
      exact .inl ⟨Ne.symm hj, hx⟩
  have far : ∀ {j : Nat} {x : Value}, svs[j]? = some x → x.ownBlock = none ∨ ∀ m, W.heap.size ≤ m → x.ownBlock ≠ some m := fun {j x} hx => by
    have hj := (List.getElem?_eq_some_iff.1 hx).1
    obtain ⟨zs, hzs⟩ : ∃ zs, pre[j]? = some zs := ⟨_, List.getElem?_eq_getElem (by omega)⟩
    cases hv : x.ownBlock with
    | none => exact .inl rfl
    | some b =>
      refine .inr fun m hm e => ?_
      have := ((h.inn j x zs hx hzs).lt b hv).2
      simp only [Option.some.injEq] at e
      omega
  refine ⟨by simp [hlen], by rw [List.length_set]; exact hst, ?_, ?_, ?_⟩
  · intro j x zs hx hz
    rcases split hx with ⟨hj, hx⟩ | ⟨rfl, rfl⟩
    · rw [List.getElem?_set_ne (Ne.symm hj)] at hz
      refine owns_keep (hkW (h.inn j x zs hx hz) (h.apart j k x sv hx hk hj)) hsg ?_
      exact h.outer j x hx
    · rw [List.getElem?_set_self (by omega)] at hz
      cases hz
      rw [List.length_append, List.map_append]
      exact owns_keep hB hsg hsvg
  · intro i j x x' hx hx' hij
    rcases split hx with ⟨hi, hy⟩ | ⟨rfl, rfl⟩
    · rcases split hx' with ⟨hj, hy'⟩ | ⟨rfl, rfl⟩
      · exact h.apart i j x x' hy hy' hij
      · rcases hat with e | e
        · rw [e]; exact h.apart i j x sv hy hk hi
        · rw [e]
          rcases far hy with h1 | h1
          · exact .inl h1
          · exact .inr (h1 _ (by simp))
    · rcases split hx' with ⟨hj, hy'⟩ | ⟨rfl, rfl⟩
      · rcases hat with e | e
        · rw [e]; exact h.apart i j sv x' hk hy' hij
        · rw [e]
          refine .inr fun e2 => ?_
          rcases far hy' with h1 | h1
          · rw [h1] at e2; cases e2
          · exact h1 _ (by simp) e2.symm
      · exact absurd rfl hij
  · intro j x hx
    rcases split hx with ⟨hj, hx⟩ | ⟨rfl, rfl⟩
    · exact h.outer j x hx
    · exact hsvg
theorem owns_slice {W : World} {base : Nat} {e : TypeId} {size : Nat} {v : Value} {n : Nat} {xs : List Value} (h : W.ownsRow base e size v n xs) : ∃ a m c, v = .slice a m c := by
  rcases h.2 with ⟨hv, _⟩ | ⟨g, cap, cur, hv, _⟩ <;> exact ⟨_, _, _, hv⟩
theorem owns_formP {W : World} {base : Nat} {e : TypeId} {size : Nat} {v : Value} {n : Nat} {xs : List Value} (h : W.ownsRow base e size v n xs) : ∃ p c, v = .slice p n c := by
  rcases h.2 with ⟨rfl, rfl⟩ | ⟨g, cap, cur, rfl, _⟩ <;> exact ⟨_, _, rfl⟩
theorem one_cell (W : World) (v : Value) (t : TypeId) : ∀ (q : Nat) (u : Value), [v][q]? = some u → (W.alloc (.cells #[v] t)).cell? ((⟨W.heap.size, 0, none⟩ : Addr).add q) = some u := by
  intro q u hu
  cases q with
  | zero => simp at hu; subst hu; simp [Addr.add]
  | succ q => simp at hu
theorem owns_pos {w : World} {base size n : Nat} {e : TypeId} {v : Value} {xs : List Value} (h : w.ownsRow base e size v n xs) (hn : 0 < n) : ∃ g cap, v = .slice (some ⟨g, 0, none⟩) n cap := by
  rcases h.2 with ⟨_, h0⟩ | ⟨g, cap, cur, hv, _⟩
  · omega
  · exact ⟨g, cap, hv⟩
theorem slices_madeK (n : Nat) : (madeCells (Value.slice none 0 0).cells (n * 1)).toList = List.replicate n (.slice none 0 0) := by
  apply List.ext_getElem
  · simp [madeCells]
  · intro i h1 h2
    simp [madeCells, Value.cells, Nat.mod_one]
theorem owns_base {W : World} {a b : Nat} {e : TypeId} {size : Nat} {v : Value} {n : Nat} {xs : List Value} (h : W.ownsRow b e size v n xs) (hab : a ≤ b) : W.ownsRow a e size v n xs := by
  obtain ⟨h1, h2⟩ := h
  refine ⟨h1, ?_⟩
  rcases h2 with h2 | ⟨g, cap, cur, hv, hb, r⟩
  · exact .inl h2
  · exact .inr ⟨g, cap, cur, hv, Nat.le_trans hab hb, r⟩
theorem owns_below {w w' : World} {base : Nat} {e : TypeId} {size : Nat} {v : Value} {n : Nat} {xs : List Value} (h : w.ownsRow base e size v n xs) (hb : Below w.heap.size w w') : w'.ownsRow base e size v n xs := by
  refine h.kept (row := none) (⟨hb.os, hb.tape, hb.output, hb.size, fun k hk _ => hb.block k hk⟩ : w.grownBy w' none) ?_
  cases v.ownBlock with
  | none => exact .inl rfl
  | some k => exact .inr (by simp)
theorem Grp.made {h0 g N : Nat} {W : World} (h : W.ownsRow h0 25 1 (.slice (some ⟨g, 0, none⟩) N N) N (madeCells (Value.slice none 0 0).cells (N * 1)).toList) : Grp h0 (.slice (some ⟨g, 0, none⟩) N N) (List.replicate N (.slice none 0 0)) (List.replicate N []) W := by
  rw [slices_madeK] at h
  have hnil : ∀ {k : Nat} {sv : Value}, (List.replicate N (Value.slice none 0 0))[k]? = some sv → sv = .slice none 0 0 := fun {k sv} hk => by
    have := List.mem_of_getElem? hk
    exact (List.mem_replicate.1 this).2
  refine ⟨by simp, by rw [List.length_replicate]; exact h, fun k sv xs h1 h2 => ?_, fun k j sv sv' h1 h2 _ => .inl (by rw [hnil h1]; rfl), fun k sv h1 => .inl (by rw [hnil h1]; rfl)⟩
  have e1 := hnil h1
  have e2 : xs = [] := (List.mem_replicate.1 (List.mem_of_getElem? h2)).2
  subst e1; subst e2
  exact World.ownsRow_nil _ _ _ _
/-- A list that was made behind all is laid at place k. -/
theorem Grp.put {h0 g cap k : Nat} {svs : List Value} {pre : List (List Int)} {W B : World} {sv' : Value} {xs : List Int} (h : Grp h0 (.slice (some ⟨g, 0, none⟩) svs.length cap) svs pre W) (hk : k < svs.length) (hh : h0 ≤ W.heap.size) (hb : Below W.heap.size W B)
    (hB : B.ownsRow W.heap.size 3 1 sv' xs.length (xs.map (Value.int .i64))) : Grp h0 (.slice (some ⟨g, 0, none⟩) svs.length cap) (svs.set k sv') (pre.set k xs) (B.setCell ⟨g, k, none⟩ sv') := by
  have hlen := h.len
  have hgl : g < W.heap.size := (h.own.lt g rfl).2
  have hlvB := owns_below h.own hb
  obtain ⟨hst, hsg⟩ := hlvB.stored k sv'
  have hsvg : sv'.ownBlock = none ∨ sv'.ownBlock ≠ some g := by
    cases hv : sv'.ownBlock with
    | none => exact .inl rfl
    | some b =>
      refine .inr fun e => ?_
      have := (hB.lt b hv).1
      simp at e
      omega
  have split : ∀ {j : Nat} {x : Value}, (svs.set k sv')[j]? = some x → (j ≠ k ∧ svs[j]? = some x) ∨ (j = k ∧ x = sv') := fun {j x} hx => by
    rw [List.getElem?_set] at hx
    by_cases hj : k = j
    · subst hj
      rw [if_pos rfl, if_pos hk] at hx
      exact .inr ⟨rfl, (Option.some.inj hx).symm⟩
    · rw [if_neg hj] at hx
      exact .inl ⟨Ne.symm hj, hx⟩
  have far : ∀ {j : Nat} {x : Value}, svs[j]? = some x → ∀ b, x.ownBlock = some b → b < W.heap.size := fun {j x} hx b hv => by
    have hj := (List.getElem?_eq_some_iff.1 hx).1
    exact ((h.inn j x _ hx (List.getElem?_eq_getElem (by omega))).lt b hv).2
  refine ⟨by simp [hlen], by rw [List.length_set]; exact hst, ?_, ?_, ?_⟩
  · intro j x zs hx hz
    rcases split hx with ⟨hj, hx⟩ | ⟨rfl, rfl⟩
    · rw [List.getElem?_set_ne (Ne.symm hj)] at hz
      exact owns_keep (owns_below (h.inn j x zs hx hz) hb) hsg (h.outer j x hx)
    · rw [List.getElem?_set_self (by omega)] at hz
      cases hz
      exact owns_keep (owns_base hB hh) hsg hsvg
  · intro i j x x' hx hx' hij
    rcases split hx with ⟨hi, hy⟩ | ⟨rfl, rfl⟩
    · rcases split hx' with ⟨hj, hy'⟩ | ⟨rfl, rfl⟩
      · exact h.apart i j x x' hy hy' hij
      · cases hv : x.ownBlock with
        | none => exact .inl rfl
        | some b =>
          refine .inr fun e => ?_
          have h1 := far hy b hv
          have h2 := (hB.lt b e.symm).1
          omega
    · rcases split hx' with ⟨hj, hy'⟩ | ⟨rfl, rfl⟩
      · cases hv : x.ownBlock with
        | none => exact .inl rfl
        | some b =>
          refine .inr fun e => ?_
          have h1 := far hy' b e.symm
          have h2 := (hB.lt b hv).1
          omega
      · exact absurd rfl hij
  · intro j x hx
    rcases split hx with ⟨hj, hy⟩ | ⟨rfl, rfl⟩
    · exact h.outer j x hy
    · exact hsvg
/-- What an append upon the list number k leaves. -/
theorem Grp.pushed {h0 g N k c : Nat} {p : Option Addr} {svs : List Value} {pre : List (List Int)} {W B : World} {o : Obj} {sv' : Value} {xs : List Int} {y : Int} (h : Grp h0 (.slice (some ⟨g, 0, none⟩) N N) svs pre W) (hN : svs.length = N) (hk : svs[k]? = some (.slice p xs.length c)) (hp : pre[k]? = some xs)
    (hB : B.ownsRow h0 3 1 sv' (xs.length + 1) (xs.map (Value.int .i64) ++ [.int .i64 y])) (hg : (W.alloc o).grownBy B (Value.slice p xs.length c).ownBlock) (hat : sv'.ownBlock = (Value.slice p xs.length c).ownBlock ∨ sv'.ownBlock = some (W.alloc o).heap.size) :
    B.cell? ⟨g, k, none⟩ = some (.slice p xs.length c) ∧ B.frozen? ⟨g, k, none⟩ = false ∧ Grp h0 (.slice (some ⟨g, 0, none⟩) N N) (svs.set k sv') (pre.set k (xs ++ [y])) (B.setCell ⟨g, k, none⟩ sv') := by
  subst hN
  have hne : (Value.slice (some ⟨g, 0, none⟩) svs.length svs.length).ownBlock = none ∨ (Value.slice (some ⟨g, 0, none⟩) svs.length svs.length).ownBlock ≠ (Value.slice p xs.length c).ownBlock := by
    refine .inr fun e => ?_
    rcases h.outer k _ hk with h1 | h1
    · rw [h1] at e; cases e
    · exact h1 e.symm
  have h2 := owns_keep (World.ownsRow.alloc h.own o) hg hne
  refine ⟨?_, h2.frozenAt k, h.push hk hp hB hg hat⟩
  have h3 := h2.cells (g := g) rfl k _ hk
  rwa [Go.WideShapes.add_plain, Nat.zero_add] at h3
end Go.Proofs.YthdhimcaojfcnaaGreat
