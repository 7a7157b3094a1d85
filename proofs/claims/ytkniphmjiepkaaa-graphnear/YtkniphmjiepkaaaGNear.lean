/-
  The contract of graph.Near.
-/
import Derived.Test.YtkniphmjiepkaaaGDeg
import Derived.Deep.AppendLies
import Derived.Test.YtkniphmjiepkaaaGRefOnly
namespace Go.Proofs.Ytkniphmjiepkaaa
open Go Go.Proofs Go.RowKit

theorem infoS : (Try.prog.info? 37).map (fun i => (i.zero, i.size, i.bytes)) = some (some (.slice none 0 0), 1, 24) := by kernel_rfl
theorem slices_made (n : Nat) : (madeCells (Value.slice none 0 0).cells (n * 1)).toList = List.replicate n (.slice none 0 0) := by
  apply List.ext_getElem
  · simp [madeCells]
  · intro i h1 h2
    simp [madeCells, Value.cells, Nat.mod_one]

/-- The outer row's cells: a slice a vertex. -/
def rowsV (N : Nat) (bs : List Nat) (pre : Nat → List Int) (deg : Nat → Nat) : List Value := (List.range N).map fun v => .slice (some ⟨bs.getD v 0, 0, none⟩) (pre v).length (deg v)
theorem rowsV_at {N : Nat} {bs : List Nat} {pre : Nat → List Int} {deg : Nat → Nat} {v : Nat} (h : v < N) : (rowsV N bs pre deg)[v]? = some (.slice (some ⟨bs.getD v 0, 0, none⟩) (pre v).length (deg v)) := by simp [rowsV, h]
theorem rowsV_len (N : Nat) (bs : List Nat) (pre : Nat → List Int) (deg : Nat → Nat) : (rowsV N bs pre deg).length = N := by simp [rowsV]
def upd (pre : Nat → List Int) (v : Nat) (y : Int) : Nat → List Int := fun i => if i = v then pre v ++ [y] else pre i
structure NearI (N g h0 : Nat) (bs : List Nat) (deg : Nat → Nat) (pre : Nat → List Int) (W : World) : Prop where
  len : bs.length = N
  inj : ∀ u v, u < N → v < N → bs.getD u 0 = bs.getD v 0 → u = v
  low : ∀ v, v < N → h0 ≤ bs.getD v 0
  out : g < h0
  row : Blk 37 W g (rowsV N bs pre deg)
  own : ∀ v, v < N → W.ownsRow h0 3 1 (.slice (some ⟨bs.getD v 0, 0, none⟩) (pre v).length (deg v)) (pre v).length ((pre v).map (Value.int .i64))
theorem NearI.go {N g h0 : Nat} {bs : List Nat} {deg : Nat → Nat} {pre : Nat → List Int} {A B : World} (h : NearI N g h0 bs deg pre A) (hb : Below A.heap.size A B) : NearI N g h0 bs deg pre B :=
  ⟨h.len, h.inj, h.low, h.out, h.row.go hb, fun v hv => owns_below (h.own v hv) hb⟩
/-- An owned row of numbers, as a block. -/
theorem owns_ints {w : World} {base : Nat} {e : TypeId} {b n c : Nat} {xs : List Int} (h : w.ownsRow base e 1 (.slice (some ⟨b, 0, none⟩) n c) n (xs.map (Value.int .i64))) : ∃ rest, Blk e w b (xs.map (Value.int .i64) ++ rest) ∧ xs.length = n ∧ n + rest.length = c ∧ c ≤ maxLen ∧ base ≤ b := by
  obtain ⟨h1, h2⟩ := h
  rcases h2 with ⟨h2, _⟩ | ⟨g, cap, cur, hv, hb, hg, hn, hc, hsz, ht⟩
  · cases h2
  · simp only [Value.slice.injEq, Option.some.injEq, Addr.mk.injEq] at hv
    obtain ⟨⟨rfl, _, _⟩, _, rfl⟩ := hv
    have h1' : xs.length = n := by simpa using h1
    refine ⟨cur.toList.drop (n * 1), ?_, h1', ?_, hc, hb⟩
    · unfold Blk
      rw [hg, ← ht, List.take_append_drop]
    · simp at hsz ⊢; omega
theorem ints_owns {w : World} {base : Nat} {e : TypeId} {b n c : Nat} {xs : List Int} {rest : List Value} (hB : Blk e w b (xs.map (Value.int .i64) ++ rest)) (hn : xs.length = n) (hc : n + rest.length = c) (hm : c ≤ maxLen) (hb : base ≤ b) : w.ownsRow base e 1 (.slice (some ⟨b, 0, none⟩) n c) n (xs.map (Value.int .i64)) := by
  refine ⟨by simp [hn], .inr ⟨b, c, _, rfl, hb, hB, by omega, hm, by simp; omega, ?_⟩⟩
  simp [hn]
theorem NearI.push {N g h0 : Nat} {bs : List Nat} {deg : Nat → Nat} {pre : Nat → List Int} {W : World} (h : NearI N g h0 bs deg pre W) {v : Nat} (hv : v < N) (y : Int) (hd : (pre v).length < deg v) :
    NearI N g h0 bs deg (upd pre v y) ((W.setCell ⟨bs.getD v 0, (pre v).length, none⟩ (.int .i64 y)).setCell ⟨g, v, none⟩ (.slice (some ⟨bs.getD v 0, 0, none⟩) ((pre v).length + 1) (deg v))) := by
  have hgo := h.out
  refine ⟨h.len, h.inj, h.low, h.out, ?_, ?_⟩
  · have h1 := (h.row.other (p := ⟨bs.getD v 0, (pre v).length, none⟩) (by have := h.low v hv; simp only; omega) (.int .i64 y)).set v (.slice (some ⟨bs.getD v 0, 0, none⟩) ((pre v).length + 1) (deg v))
    have h2 : (rowsV N bs pre deg).set v (.slice (some ⟨bs.getD v 0, 0, none⟩) ((pre v).length + 1) (deg v)) = rowsV N bs (upd pre v y) deg := by
      apply List.ext_getElem?
      intro i
      rw [List.getElem?_set, rowsV_len]
      by_cases hi : i < N
      · rw [rowsV_at hi, rowsV_at hi]
        by_cases he : v = i
        · subst he; rw [if_pos rfl, if_pos hv]; simp [upd]
        · rw [if_neg he]; simp [upd, Ne.symm he]
      · rw [List.getElem?_eq_none (by rw [rowsV_len]; omega), List.getElem?_eq_none (by rw [rowsV_len]; omega)]
        split
        · rename_i e; omega
        · rfl
    rwa [h2] at h1
  · intro u hu
    obtain ⟨rest, hB, hn, hc, hm, hb⟩ := owns_ints (h.own u hu)
    by_cases he : u = v
    · subst he
      match rest, hc with
      | [], hc => simp at hc; omega
      | z :: rest, hc =>
        have h1 := (hB.set (pre u).length (.int .i64 y)).other (p := ⟨g, u, none⟩) (by simp only; omega) (.slice (some ⟨bs.getD u 0, 0, none⟩) ((pre u).length + 1) (deg u))
        have h2 : ((pre u).map (Value.int .i64) ++ z :: rest).set (pre u).length (.int .i64 y) = (upd pre u y u).map (Value.int .i64) ++ rest := by
          rw [List.set_append_right _ _ (by simp)]
          simp [upd]
        rw [h2] at h1
        exact ints_owns h1 rfl (by simp [upd] at hc ⊢; omega) hm hb
    · have hne : bs.getD u 0 ≠ bs.getD v 0 := fun e => he (h.inj u v hu hv e)
      have h1 := (hB.other (p := ⟨bs.getD v 0, (pre v).length, none⟩) hne (.int .i64 y)).other (p := ⟨g, v, none⟩) (by simp only; omega) (.slice (some ⟨bs.getD v 0, 0, none⟩) ((pre v).length + 1) (deg v))
      have hup : upd pre v y u = pre u := by simp [upd, he]
      rw [hup]
      exact ints_owns h1 hn hc hm hb

/-- Lists of numbers, in memory. -/
def Lsts (n : Nat) (W : World) (sv : Value) (LL : List (List Int)) : Prop :=
  ((∃ p c, sv = .slice p 0 c) ∧ LL = []) ∨ ∃ b off cap, sv = .slice (some ⟨b, off, none⟩) LL.length cap ∧ b < n ∧ LL.length ≤ cap ∧ ∀ (j : Nat) (x : List Int), LL[j]? = some x → ∃ sx, W.cell? ⟨b, off + j, none⟩ = some sx ∧ Ints n W sx x
theorem Lsts.below {n : Nat} {W W' : World} {sv : Value} {LL : List (List Int)} (h : Lsts n W sv LL) (hb : Below n W W') : Lsts n W' sv LL := by
  rcases h with h | ⟨b, off, cap, h1, h2, h3, h4⟩
  · exact .inl h
  · exact .inr ⟨b, off, cap, h1, h2, h3, fun j x hx => by
      obtain ⟨sx, h5, h6⟩ := h4 j x hx
      exact ⟨sx, (hb.cell (p := ⟨b, _, none⟩) h2).trans h5, h6.below hb⟩⟩
theorem Lsts.mono {n m : Nat} {W : World} {sv : Value} {LL : List (List Int)} (h : Lsts n W sv LL) (hb : n ≤ m) : Lsts m W sv LL := by
  rcases h with h | ⟨b, off, cap, h1, h2, h3, h4⟩
  · exact .inl h
  · exact .inr ⟨b, off, cap, h1, Nat.lt_of_lt_of_le h2 hb, h3, fun j x hx => by
      obtain ⟨sx, h5, h6⟩ := h4 j x hx
      exact ⟨sx, h5, h6.mono hb⟩⟩
theorem Lsts.go {W W' : World} {sv : Value} {LL : List (List Int)} (h : Lsts W.heap.size W sv LL) (hb : Below W.heap.size W W') : Lsts W'.heap.size W' sv LL := (h.below hb).mono hb.size
theorem Lsts.len {n : Nat} {W : World} {sv : Value} {LL : List (List Int)} (h : Lsts n W sv LL) : ∃ p c, sv = .slice p LL.length c := by
  rcases h with ⟨⟨p, c, rfl⟩, rfl⟩ | ⟨b, off, cap, rfl, _⟩ <;> exact ⟨_, _, rfl⟩
def nearL (N : Nat) (l : List Ed) : List (List Int) := (List.range N).map fun (v : Nat) => nb l (v : Int)
theorem nearL_at {N : Nat} {l : List Ed} {v : Nat} (h : v < N) : (nearL N l)[v]? = some (nb l (v : Int)) := by simp [nearL, h]
theorem nearL_len (N : Nat) (l : List Ed) : (nearL N l).length = N := by simp [nearL]
theorem NearI.lsts {N g h0 : Nat} {bs : List Nat} {deg : Nat → Nat} {l : List Ed} {W : World} (h : NearI N g h0 bs deg (fun v => nb l (v : Int)) W) : Lsts W.heap.size W (.slice (some ⟨g, 0, none⟩) N N) (nearL N l) := by
  refine .inr ⟨g, 0, N, by rw [nearL_len], h.row.lt, by rw [nearL_len]; exact Nat.le_refl _, fun j x hx => ?_⟩
  have hj : j < N := by have := (List.getElem?_eq_some_iff.1 hx).1; rwa [nearL_len] at this
  rw [nearL_at hj] at hx
  cases hx
  refine ⟨_, by rw [Nat.zero_add]; exact h.row.cell (rowsV_at hj), ?_⟩
  obtain ⟨rest, hB, hn, hc, hm, hb⟩ := owns_ints (h.own j hj)
  exact .inr ⟨bs.getD j 0, 0, deg j, rfl, hB.lt, by omega, fun i y hy => by
    rw [Nat.zero_add]
    refine hB.cell ?_
    have hi := (List.getElem?_eq_some_iff.1 hy).1
    rw [List.getElem?_append_left (by simpa using hi), List.getElem?_map, hy]; rfl⟩

theorem cell_keepN {A B : World} (hb : Below A.heap.size A B) {a : Addr} {v : Value} (h : A.cell? a = some v) : B.cell? a = some v := (hb.cell (World.block_lt_of_cell? A a h)).trans h
/-- The outer row while its slices are being made. -/
def halfV (N : Nat) (bs : List Nat) (deg : Nat → Nat) (j : Nat) : List Value := (List.range N).map fun v => if v < j then .slice (some ⟨bs.getD v 0, 0, none⟩) 0 (deg v) else .slice none 0 0
theorem halfV_at {N : Nat} {bs : List Nat} {deg : Nat → Nat} {j v : Nat} (h : v < N) : (halfV N bs deg j)[v]? = some (if v < j then .slice (some ⟨bs.getD v 0, 0, none⟩) 0 (deg v) else .slice none 0 0) := by simp [halfV, h]
theorem halfV_len (N : Nat) (bs : List Nat) (deg : Nat → Nat) (j : Nat) : (halfV N bs deg j).length = N := by simp [halfV]
theorem halfV_zero (N : Nat) (deg : Nat → Nat) : halfV N [] deg 0 = List.replicate N (.slice none 0 0) := by
  apply List.ext_getElem <;> simp [halfV]
theorem halfV_step {N : Nat} {bs : List Nat} {deg : Nat → Nat} {j b : Nat} (hj : j < N) (hl : bs.length = j) : (halfV N bs deg j).set j (.slice (some ⟨b, 0, none⟩) 0 (deg j)) = halfV N (bs ++ [b]) deg (j + 1) := by
  apply List.ext_getElem?
  intro i
  rw [List.getElem?_set, halfV_len]
  by_cases hi : i < N
  · rw [halfV_at hi, halfV_at hi]
    by_cases he : j = i
    · subst he
      rw [if_pos rfl, if_pos hj, if_pos (by omega)]
      simp [← hl]
    · rw [if_neg he]
      by_cases h2 : i < j
      · rw [if_pos h2, if_pos (by omega)]
        have : (bs ++ [b]).getD i 0 = bs.getD i 0 := by simp [List.getElem?_append_left (show i < bs.length by omega)]
        rw [this]
      · rw [if_neg h2, if_neg (by omega)]
  · rw [List.getElem?_eq_none (by rw [halfV_len]; omega), List.getElem?_eq_none (by rw [halfV_len]; omega)]
    split
    · rename_i e; omega
    · rfl
theorem halfV_full (N : Nat) (bs : List Nat) (deg : Nat → Nat) : halfV N bs deg N = rowsV N bs (fun _ => []) deg := by
  apply List.ext_getElem?
  intro i
  by_cases hi : i < N
  · rw [halfV_at hi, rowsV_at hi, if_pos hi]; rfl
  · rw [List.getElem?_eq_none (by rw [halfV_len]; omega), List.getElem?_eq_none (by rw [rowsV_len]; omega)]
/-- What stands while the slices are being made. -/
structure HalfI (N g h0 : Nat) (bs : List Nat) (deg : Nat → Nat) (j : Nat) (W : World) : Prop where
  len : bs.length = j
  lt : ∀ v, v < j → bs.getD v 0 < W.heap.size
  inj : ∀ u v, u < j → v < j → bs.getD u 0 = bs.getD v 0 → u = v
  low : ∀ v, v < j → h0 ≤ bs.getD v 0
  row : Blk 37 W g (halfV N bs deg j)
  own : ∀ v, v < j → W.ownsRow h0 3 1 (.slice (some ⟨bs.getD v 0, 0, none⟩) 0 (deg v)) 0 []

theorem getD_left {bs : List Nat} {b v : Nat} (h : v < bs.length) : (bs ++ [b]).getD v 0 = bs.getD v 0 := by simp [List.getElem?_append_left h]
theorem getD_last {bs : List Nat} {b : Nat} : (bs ++ [b]).getD bs.length 0 = b := by simp
theorem HalfI.step {N g h0 : Nat} {bs : List Nat} {deg : Nat → Nat} {j : Nat} {W w6 : World} (h : HalfI N g h0 bs deg j W) (hj : j < N) (hgl : g < h0) (hh0 : h0 ≤ W.heap.size) (hg : W.grownBy w6 none)
    (hown : w6.ownsRow h0 3 1 (.slice (some ⟨W.heap.size, 0, none⟩) 0 (deg j)) 0 []) : HalfI N g h0 (bs ++ [W.heap.size]) deg (j + 1) (w6.setCell ⟨g, j, none⟩ (.slice (some ⟨W.heap.size, 0, none⟩) 0 (deg j))) := by
  have hlt6 : W.heap.size < w6.heap.size := (hown.lt W.heap.size rfl).2
  have hsz : (w6.setCell ⟨g, j, none⟩ (.slice (some ⟨W.heap.size, 0, none⟩) 0 (deg j))).heap.size = w6.heap.size := by simp
  have hgs := hg.size
  have hl := h.len
  refine ⟨by simp [hl], fun v hv => ?_, fun u v hu hv he => ?_, fun v hv => ?_, ?_, fun v hv => ?_⟩
  · rw [hsz]
    by_cases e : v = j
    · subst e; rw [← hl, getD_last]; exact hlt6
    · rw [getD_left (by omega)]; have := h.lt v (by omega); omega
  · by_cases e : u = j
    · by_cases e2 : v = j
      · omega
      · subst e
        rw [← hl, getD_last, getD_left (by omega)] at he
        have := h.lt v (by omega); omega
    · by_cases e2 : v = j
      · subst e2
        rw [← hl, getD_last, getD_left (by omega)] at he
        have := h.lt u (by omega); omega
      · rw [getD_left (by omega), getD_left (by omega)] at he
        exact h.inj u v (by omega) (by omega) he
  · by_cases e : v = j
    · subst e; rw [← hl, getD_last]; exact hh0
    · rw [getD_left (by omega)]; exact h.low v (by omega)
  · have h1 := (h.row.grown hg (by simp)).set j (.slice (some ⟨W.heap.size, 0, none⟩) 0 (deg j))
    rwa [halfV_step hj hl] at h1
  · refine owns_set ?_ hgl _
    by_cases e : v = j
    · subst e; rw [← hl, getD_last, hl]; exact hown
    · rw [getD_left (by omega)]
      exact (h.own v (by omega)).kept (row := none) hg (.inr (by simp [Value.ownBlock]))
theorem HalfI.full {N g h0 : Nat} {bs : List Nat} {deg : Nat → Nat} {W : World} (h : HalfI N g h0 bs deg N W) (hgl : g < h0) : NearI N g h0 bs deg (fun _ => []) W :=
  ⟨h.len, h.inj, h.low, hgl, by rw [← halfV_full]; exact h.row, fun v hv => h.own v hv⟩

end Go.Proofs.Ytkniphmjiepkaaa
