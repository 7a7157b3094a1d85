/-
  The links of a graph, cut of one list: offsets, and what an append into such a cut does. (For parts.linked.)
-/
import Derived.Test.YtdgecflljgnobaaZBA
import Derived.Test.YtdgecflljgnobaaXGDeg
namespace Go.Proofs.Ytdgecflljgnobaa
open Go Go.Proofs Go.RowKit

theorem linkOf_app (v : Int) : ∀ (x y : List Ed) (p : Nat), linkOf v p (x ++ y) = linkOf v p x ++ linkOf v (p + x.length) y
  | [], y, p => by simp [linkOf]
  | e :: x, y, p => by
    rw [List.cons_append, linkOf, linkOf, linkOf_app v x y (p + 1), List.append_assoc, List.length_cons]
    have : p + 1 + x.length = p + (x.length + 1) := by omega
    rw [this]
theorem linkOf_snoc {l : List Ed} {i : Nat} (h : i < l.length) (v : Int) : linkOf v 0 (l.take (i + 1)) = linkOf v 0 (l.take i) ++ (if l[i].1 = v then [(l[i].2.1, (i : Int))] else if l[i].2.1 = v then [(l[i].1, (i : Int))] else []) := by
  rw [List.take_add_one, List.getElem?_eq_getElem h, linkOf_app]
  have : (l.take i).length = i := by rw [List.length_take]; omega
  rw [this, Nat.zero_add]
  simp [linkOf]
theorem linkOf_len (v : Int) : ∀ (l : List Ed) (p : Nat), (linkOf v p l).length = (nb l v).length
  | [], p => rfl
  | e :: l, p => by
    have ih := linkOf_len v l (p + 1)
    have hl : (nb (e :: l) v).length = (nbOf e v).length + (nb l v).length := by unfold nb; rw [List.flatMap_cons, List.length_append]
    rw [linkOf, List.length_append, ih, hl]
    unfold nbOf
    split
    · rfl
    · split <;> rfl
/-- Where the cut of each vertex begins: it stands still where nothing is left. -/
def offR (l : List Ed) (M2 : Nat) : Nat → Nat
  | 0 => 0
  | v + 1 => if (nb l (v : Int)).length = M2 - degS l v then offR l M2 v else offR l M2 v + (nb l (v : Int)).length
theorem offR_eq {l : List Ed} {M2 : Nat} : ∀ {v : Nat}, degS l v < M2 → offR l M2 v = degS l v
  | 0, _ => rfl
  | v + 1, h => by
    have hd : degS l (v + 1) = degS l v + (nb l (v : Int)).length := rfl
    have ih := offR_eq (l := l) (M2 := M2) (v := v) (by omega)
    rw [offR, if_neg (by omega), ih, hd]
theorem offR_at {l : List Ed} {M2 N : Nat} (hM : degS l N = M2) {v : Nat} (hv : v < N) (hd : 0 < (nb l (v : Int)).length) : offR l M2 v = degS l v := by
  have h1 : degS l (v + 1) = degS l v + (nb l (v : Int)).length := rfl
  have h2 := degS_le (l := l) (v := v + 1) (n := N) hv
  exact offR_eq (by omega)
theorem offR_sep {l : List Ed} {M2 N : Nat} (hM : degS l N = M2) {u v j k : Nat} (hu : u < N) (hv : v < N) (hj : j < (nb l (u : Int)).length) (hk : k < (nb l (v : Int)).length) (he : offR l M2 u + j = offR l M2 v + k) : u = v ∧ j = k := by
  rw [offR_at hM hu (by omega), offR_at hM hv (by omega)] at he
  have h1 : degS l (u + 1) = degS l u + (nb l (u : Int)).length := rfl
  have h2 : degS l (v + 1) = degS l v + (nb l (v : Int)).length := rfl
  rcases Nat.lt_trichotomy u v with h | h | h
  · have := degS_le (l := l) (v := u + 1) (n := v) h; omega
  · subst h; exact ⟨rfl, by omega⟩
  · have := degS_le (l := l) (v := v + 1) (n := u) h; omega
theorem offR_in {l : List Ed} {M2 N : Nat} (hM : degS l N = M2) {v j : Nat} (hv : v < N) (hj : j < (nb l (v : Int)).length) : offR l M2 v + j < M2 := by
  rw [offR_at hM hv (by omega)]
  have h2 : degS l (v + 1) = degS l v + (nb l (v : Int)).length := rfl
  have := degS_le (l := l) (v := v + 1) (n := N) hv
  omega
/-- The rows of the links: each cut's length, where it begins and how long it may become. -/
def rowsK (N sb : Nat) (off deg : Nat → Nat) (pre : Nat → List (Int × Int)) : List Value := (List.range N).map fun v => .slice (some ⟨sb, off v * 2, none⟩) (pre v).length (deg v)
theorem rowsK_at {N sb : Nat} {off deg : Nat → Nat} {pre : Nat → List (Int × Int)} {v : Nat} (h : v < N) : (rowsK N sb off deg pre)[v]? = some (.slice (some ⟨sb, off v * 2, none⟩) (pre v).length (deg v)) := by simp [rowsK, h]
theorem rowsK_len (N sb : Nat) (off deg : Nat → Nat) (pre : Nat → List (Int × Int)) : (rowsK N sb off deg pre).length = N := by simp [rowsK]
def halfK (N sb : Nat) (off deg : Nat → Nat) (j : Nat) : List Value := (List.range N).map fun v => if v < j then .slice (some ⟨sb, off v * 2, none⟩) 0 (deg v) else .slice none 0 0
theorem halfK_at {N sb : Nat} {off deg : Nat → Nat} {j v : Nat} (h : v < N) : (halfK N sb off deg j)[v]? = some (if v < j then .slice (some ⟨sb, off v * 2, none⟩) 0 (deg v) else .slice none 0 0) := by simp [halfK, h]
theorem halfK_len (N sb : Nat) (off deg : Nat → Nat) (j : Nat) : (halfK N sb off deg j).length = N := by simp [halfK]
theorem halfK_zero (N sb : Nat) (off deg : Nat → Nat) : halfK N sb off deg 0 = List.replicate N (.slice none 0 0) := by
  apply List.ext_getElem?
  intro i
  by_cases h : i < N
  · rw [halfK_at h]; simp [h]
  · rw [List.getElem?_eq_none (by rw [halfK_len]; omega), List.getElem?_eq_none (by simp; omega)]
theorem halfK_step {N sb : Nat} {off deg : Nat → Nat} {j : Nat} : (halfK N sb off deg j).set j (.slice (some ⟨sb, off j * 2, none⟩) 0 (deg j)) = halfK N sb off deg (j + 1) := by
  apply List.ext_getElem?
  intro i
  by_cases h : i < N
  · rw [List.getElem?_set, halfK_at h, halfK_at h, halfK_len]
    by_cases e : j = i
    · subst e; rw [if_pos rfl, if_pos h, if_pos (by omega)]
    · rw [if_neg e]
      by_cases hi : i < j
      · rw [if_pos hi, if_pos (by omega)]
      · rw [if_neg hi, if_neg (by omega)]
  · rw [List.getElem?_eq_none (by rw [List.length_set, halfK_len]; omega), List.getElem?_eq_none (by rw [halfK_len]; omega)]
theorem halfK_full (N sb : Nat) (off deg : Nat → Nat) : halfK N sb off deg N = rowsK N sb off deg (fun _ => []) := by
  unfold halfK rowsK
  refine List.map_congr_left fun v hv => ?_
  rw [if_pos (List.mem_range.1 hv)]
  rfl
def updK (pre : Nat → List (Int × Int)) (v : Nat) (y : Int × Int) : Nat → List (Int × Int) := fun i => if i = v then pre v ++ [y] else pre i
structure LnkI (N lb sb M2 : Nat) (off deg : Nat → Nat) (pre : Nat → List (Int × Int)) (W : World) : Prop where
  row : Blk 73 W lb (rowsK N sb off deg pre)
  le : ∀ v, v < N → (pre v).length ≤ deg v
  cur : ∃ cs, Blk 75 W sb cs ∧ cs.length = M2 * 2 ∧ ∀ v j x, v < N → (pre v)[j]? = some x → cs[(off v + j) * 2]? = some (.int .i64 x.1) ∧ cs[(off v + j) * 2 + 1]? = some (.int .i64 x.2)
theorem LnkI.go {N lb sb M2 : Nat} {off deg : Nat → Nat} {pre : Nat → List (Int × Int)} {A B : World} (h : LnkI N lb sb M2 off deg pre A) (hb : Below A.heap.size A B) : LnkI N lb sb M2 off deg pre B := by
  obtain ⟨cs, h1, h2, h3⟩ := h.cur
  exact ⟨h.row.go hb, h.le, cs, h1.go hb, h2, h3⟩
theorem LnkI.push {N lb sb M2 : Nat} {off deg : Nat → Nat} {pre : Nat → List (Int × Int)} {W : World} (h : LnkI N lb sb M2 off deg pre W) (hne : lb ≠ sb) (hsep : ∀ u v j k, u < N → v < N → j < deg u → k < deg v → off u + j = off v + k → u = v ∧ j = k) (hin : ∀ v j, v < N → j < deg v → off v + j < M2) {v : Nat} (hv : v < N) (y : Int × Int) (hd : (pre v).length + 1 ≤ deg v) :
    LnkI N lb sb M2 off deg (updK pre v y) (((W.setCell ⟨sb, (off v + (pre v).length) * 2, none⟩ (.int .i64 y.1)).setCell ⟨sb, (off v + (pre v).length) * 2 + 1, none⟩ (.int .i64 y.2)).setCell ⟨lb, v, none⟩ (.slice (some ⟨sb, off v * 2, none⟩) ((pre v).length + 1) (deg v))) := by
  obtain ⟨cs, h1, h2, h3⟩ := h.cur
  have hr := ((h.row.other (p := ⟨sb, (off v + (pre v).length) * 2, none⟩) hne (.int .i64 y.1)).other (p := ⟨sb, (off v + (pre v).length) * 2 + 1, none⟩) hne (.int .i64 y.2)).set v (.slice (some ⟨sb, off v * 2, none⟩) ((pre v).length + 1) (deg v))
  have e1 : (rowsK N sb off deg pre).set v (.slice (some ⟨sb, off v * 2, none⟩) ((pre v).length + 1) (deg v)) = rowsK N sb off deg (updK pre v y) := by
    apply List.ext_getElem?
    intro i
    by_cases hi : i < N
    · rw [List.getElem?_set, rowsK_len, rowsK_at hi, rowsK_at hi]
      by_cases e : v = i
      · subst e; rw [if_pos rfl, if_pos hi]; simp [updK]
      · rw [if_neg e]
        have : updK pre v y i = pre i := by unfold updK; rw [if_neg (Ne.symm e)]
        rw [this]
    · rw [List.getElem?_eq_none (by rw [List.length_set, rowsK_len]; omega), List.getElem?_eq_none (by rw [rowsK_len]; omega)]
  rw [e1] at hr
  have hcs := ((h1.set ((off v + (pre v).length) * 2) (.int .i64 y.1)).set ((off v + (pre v).length) * 2 + 1) (.int .i64 y.2)).other (p := ⟨lb, v, none⟩) (Ne.symm hne) (.slice (some ⟨sb, off v * 2, none⟩) ((pre v).length + 1) (deg v))
  have hO := hin v (pre v).length hv (by omega)
  refine ⟨hr, fun u hu => ?_, _, hcs, by simp only [List.length_set]; exact h2, fun u j x hu hx => ?_⟩
  · unfold updK
    by_cases e : u = v
    · subst e; rw [if_pos rfl, List.length_append]; exact hd
    · rw [if_neg e]; exact h.le u hu
  · have old : (pre u)[j]? = some x → (((cs.set ((off v + (pre v).length) * 2) (.int .i64 y.1)).set ((off v + (pre v).length) * 2 + 1) (.int .i64 y.2))[(off u + j) * 2]? = some (.int .i64 x.1) ∧ ((cs.set ((off v + (pre v).length) * 2) (.int .i64 y.1)).set ((off v + (pre v).length) * 2 + 1) (.int .i64 y.2))[(off u + j) * 2 + 1]? = some (.int .i64 x.2)) := fun hx' => by
      obtain ⟨g1, g2⟩ := h3 u j x hu hx'
      have hjl := (List.getElem?_eq_some_iff.1 hx').1
      have hle := h.le u hu
      have hnq : off v + (pre v).length ≠ off u + j := fun e => by
        obtain ⟨e1, e2⟩ := hsep v u (pre v).length j hv hu (by omega) (by omega) e
        subst e1
        omega
      refine ⟨?_, ?_⟩
      · rw [List.getElem?_set_ne (by omega), List.getElem?_set_ne (by omega)]; exact g1
      · rw [List.getElem?_set_ne (by omega), List.getElem?_set_ne (by omega)]; exact g2
    unfold updK at hx
    by_cases e : u = v
    · subst e
      rw [if_pos rfl] at hx
      by_cases hjl : j < (pre u).length
      · rw [List.getElem?_append_left hjl] at hx
        exact old hx
      · have hj := (List.getElem?_eq_some_iff.1 hx).1
        rw [List.length_append, List.length_singleton] at hj
        obtain rfl : j = (pre u).length := by omega
        rw [List.getElem?_append_right (Nat.le_refl _), Nat.sub_self] at hx
        obtain rfl : y = x := by simpa using hx
        refine ⟨?_, ?_⟩
        · rw [List.getElem?_set_ne (by omega), List.getElem?_set_self (by rw [h2]; omega)]
        · rw [List.getElem?_set_self (by rw [List.length_set, h2]; omega)]
    · rw [if_neg e] at hx
      exact old hx
end Go.Proofs.Ytdgecflljgnobaa
