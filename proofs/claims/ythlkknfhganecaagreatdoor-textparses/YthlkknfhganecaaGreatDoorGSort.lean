/-
  Blocks that a call has made itself, and the contract of slices.SortFunc at edges.
-/
import Derived.Test.YthlkknfhganecaaGreatDoorGRight
import Derived.Test.YthlkknfhganecaaGreatDoorShelf
namespace Go.Proofs.YthlkknfhganecaaGreatDoor
open Go Go.Proofs Go.RowKit

/-- Block g is a row of these cells, all of it, free to be written. -/
def Blk (t : TypeId) (W : World) (g : Nat) (vs : List Value) : Prop := W.heap[g]? = some (.cells vs.toArray t (0, 0))
theorem Blk.lt {t : TypeId} {W : World} {g : Nat} {vs : List Value} (h : Blk t W g vs) : g < W.heap.size := (Array.getElem?_eq_some_iff.1 h).1
theorem Blk.cell {t : TypeId} {W : World} {g : Nat} {vs : List Value} (h : Blk t W g vs) {j : Nat} {v : Value} (hj : vs[j]? = some v) : W.cell? ⟨g, j, none⟩ = some v := by
  unfold Blk at h
  simp only [World.cell?, h]
  simpa using hj
theorem Blk.frozen {t : TypeId} {W : World} {g : Nat} {vs : List Value} (h : Blk t W g vs) (j : Nat) : W.frozen? ⟨g, j, none⟩ = false := by
  unfold Blk at h
  simp [World.frozen?, h]
theorem Blk.below {t : TypeId} {A B : World} {g n : Nat} {vs : List Value} (h : Blk t A g vs) (hb : Below n A B) (hg : g < n) : Blk t B g vs := (hb.block g hg).trans h
theorem Blk.go {t : TypeId} {A B : World} {g : Nat} {vs : List Value} (h : Blk t A g vs) (hb : Below A.heap.size A B) : Blk t B g vs := h.below hb h.lt
theorem Blk.set {t : TypeId} {W : World} {g : Nat} {vs : List Value} (h : Blk t W g vs) (j : Nat) (v : Value) : Blk t (W.setCell ⟨g, j, none⟩ v) g (vs.set j v) := by
  obtain ⟨hlt, hk⟩ := Array.getElem?_eq_some_iff.1 h
  show (W.heap.modify g _)[g]? = _
  rw [Array.getElem?_eq_getElem (by rw [Array.size_modify]; exact hlt), Array.getElem_modify_self, hk]
  simp
theorem Blk.other {t : TypeId} {W : World} {g : Nat} {vs : List Value} (h : Blk t W g vs) {p : Addr} (hp : g ≠ p.block) (v : Value) : Blk t (W.setCell p v) g vs := (Below.heap_setCell _ _ _ _ hp).trans h
/-- What 'make' leaves. -/
theorem Blk.made {t : TypeId} {W : World} {g n k base : Nat} {z : Value} (h : W.ownsRow base t k (.slice (some ⟨g, 0, none⟩) n n) n (madeCells z.cells (n * k)).toList) : Blk t W g (madeCells z.cells (n * k)).toList := by
  obtain ⟨h1, h2⟩ := h
  rcases h2 with ⟨h2, _⟩ | ⟨g', cap, cur, e, _, hb, _, _, hsz, ht⟩
  · cases h2
  · simp only [Value.slice.injEq, Option.some.injEq, Addr.mk.injEq] at e
    obtain ⟨⟨rfl, _, _⟩, _, rfl⟩ := e
    unfold Blk
    rw [hb]
    congr 2
    apply Array.toList_inj.1
    rw [List.take_of_length_le (by simp [hsz])] at ht
    rw [ht]

/-- The cells of edges. -/
def flat (l : List Ed) : List Value := l.flatMap encE
theorem flat_cons (e : Ed) (l : List Ed) : flat (e :: l) = .int .i64 e.1 :: .int .i64 e.2.1 :: .int .i64 e.2.2 :: flat l := rfl
theorem flat_len : ∀ l : List Ed, (flat l).length = l.length * 3
  | [] => rfl
  | e :: l => by rw [flat_cons]; simp [flat_len l]; omega
theorem flat_at : ∀ {l : List Ed} {j : Nat} {x : Ed}, l[j]? = some x → (flat l)[j * 3]? = some (.int .i64 x.1) ∧ (flat l)[j * 3 + 1]? = some (.int .i64 x.2.1) ∧ (flat l)[j * 3 + 2]? = some (.int .i64 x.2.2)
  | [], j, x, h => by simp at h
  | e :: l, 0, x, h => by simp at h; subst h; rw [flat_cons]; simp
  | e :: l, j + 1, x, h => by
    rw [flat_cons, show (j + 1) * 3 = j * 3 + 1 + 1 + 1 by omega]
    simpa using flat_at (l := l) (j := j) (by simpa using h)
theorem flat_set : ∀ (l : List Ed) (j : Nat) (x : Ed), (((flat l).set (j * 3) (.int .i64 x.1)).set (j * 3 + 1) (.int .i64 x.2.1)).set (j * 3 + 2) (.int .i64 x.2.2) = flat (l.set j x)
  | [], j, x => by simp [flat]
  | e :: l, 0, x => by simp [flat_cons]
  | e :: l, j + 1, x => by
    rw [flat_cons, List.set_cons_succ, flat_cons, ← flat_set l j x, show (j + 1) * 3 = j * 3 + 1 + 1 + 1 by omega]
    simp
theorem flat_zero : ∀ n : Nat, flat (List.replicate n (0, 0, 0)) = List.replicate (n * 3) (.int .i64 0)
  | 0 => rfl
  | n + 1 => by rw [List.replicate_succ, flat_cons, flat_zero n, show (n + 1) * 3 = n * 3 + 1 + 1 + 1 by omega]; rfl
theorem flat_made (n : Nat) : (madeCells (Value.agg #[.int .i64 0, .int .i64 0, .int .i64 0]).cells (n * 3)).toList = flat (List.replicate n (0, 0, 0)) := by
  rw [flat_zero]
  have hz : (Value.agg #[.int .i64 0, .int .i64 0, .int .i64 0]).cells = #[.int .i64 0, .int .i64 0, .int .i64 0] := by simp [Value.cells]
  rw [hz]
  apply List.ext_getElem
  · simp [madeCells]
  · intro i h1 h2
    have hm : i % 3 < 3 := Nat.mod_lt _ (by omega)
    simp [madeCells]
    generalize i % 3 = b at hm
    match b, hm with
    | 0, _ => rfl
    | 1, _ => rfl
    | 2, _ => rfl

theorem Blk.edges {W : World} {g : Nat} {l : List Ed} {t : TypeId} (h : Blk t W g (flat l)) : Edges W.heap.size W (.slice (some ⟨g, 0, none⟩) l.length l.length) l :=
  .inr ⟨g, 0, l.length, rfl, h.lt, Nat.le_refl _, fun j x hx => by
    simp only [Nat.zero_add]
    exact ⟨h.cell (flat_at hx).1, h.cell (flat_at hx).2.1, h.cell (flat_at hx).2.2⟩⟩

theorem encE_len (x : Ed) : (encE x).length = 3 := rfl
theorem Blk.holds {W : World} {g : Nat} {l : List Ed} {t : TypeId} (h : Blk t W g (flat l)) : Go.Sort.HoldsK encE 3 W g 0 l.toArray := by
  intro j hj
  rw [Go.Sort.size_flatK] at hj
  rw [Go.Sort.get_flatK _ _ _ _ hj]
  refine ⟨?_, by rw [Nat.zero_add]; exact h.frozen j⟩
  have hq : j / 3 < l.length := by simp at hj; omega
  have hm : j % 3 < 3 := Nat.mod_lt _ (by omega)
  have hat := flat_at (List.getElem?_eq_getElem hq)
  have he : l.toArray[j / 3]! = l[j / 3] := by simp [hq]
  rw [Nat.zero_add, he]
  refine h.cell ?_
  have hj3 : j = j / 3 * 3 + j % 3 := by omega
  generalize j / 3 = a at *
  generalize j % 3 = b at *
  subst hj3
  match b, hm with
  | 0, _ => exact hat.1
  | 1, _ => exact hat.2.1
  | 2, _ => exact hat.2.2

theorem swoE : Go.Sort.SWO (ltOf cfE) where
  irrefl x := by unfold ltOf; rw [cfE_lt]; exact lo_irrefl x
  trans x y z h1 h2 := by unfold ltOf at *; rw [cfE_lt] at *; exact lo_trans h1 h2
  ntrans x y z h1 h2 := by unfold ltOf at *; rw [cfE_lt] at *; rw [lo_not] at *; omega

theorem perm_of {d d' : Array Ed} (h : Go.Sort.PermIn 0 d.size d d') : d'.toList.Perm d.toList := by
  obtain ⟨h1, _, h3⟩ := h
  have e : List.take d'.size d.toList = d.toList := List.take_of_length_le (by simp [h1])
  simpa [← h1, e] using h3
theorem weak_of {d : Array Ed} {n : Nat} (hn : n = d.size) (h : Go.Sort.SortedIn (ltOf cfE) 0 n d) : Weak d.toList := by
  subst hn
  refine List.pairwise_iff_getElem.2 fun i j hi hj hij => ?_
  have := h i j (Nat.zero_le _) hij (by simpa using hj)
  unfold ltOf at this
  rw [cfE_lt] at this
  simp at hi hj
  simpa [hi, hj] using this

theorem sortWorld_below {α : Type} [Inhabited α] (enc : α → List Value) (k : Nat) (W : World) (g off m : Nat) (d : Array α) (os : Array Obj) {n : Nat} (hn : n ≤ g) (hs : n ≤ W.heap.size) : Below n W (sortWorldK enc k W g off m d os) := by
  refine ⟨rfl, rfl, rfl, ?_, fun j hj => ?_⟩
  · exact size_sortWorldK_c enc k W g off m d os
  · have h1 : j < W.heap.size := by omega
    have h2 : g ≠ j := by omega
    unfold sortWorldK Go.Sort.grow Go.Sort.putRowK Go.Sort.putRow Go.Sort.mapBlock Go.Sort.ahead
    simp [Array.getElem?_append, Array.getElem_modify, h1, h2]

set_option maxRecDepth 100000 in
theorem sort_any (W : World) (g cap : Nat) (l : List Ed) (t : TypeId) (hB : Blk t W g (flat l)) (hl : l.length ≤ 4194304) :
    Calls Tryz.prog 51 #[.slice (some ⟨g, 0, none⟩) l.length cap, .func (.func 52) #[] #[]] W fun e w' => e = .returned (.tuple #[]) ∧
      ∃ s, s.Perm l ∧ Weak s ∧ s.length = l.length ∧ Edges w'.heap.size w' (.slice (some ⟨g, 0, none⟩) l.length l.length) s ∧ ∀ n, n ≤ g → Below n W w' := by
  have eg : ∀ args w, (callFunc 52 args).run Tryz.prog w = .ok (.enter 52 args) w := enters_of Tryz.func52 (by kernel_rfl) rfl
  have hcmp : CmpLays Tryz.prog 52 #[] encE 3 cfE g 0 l.toArray.size W := fun m os dk _ x y => byEnds_any x y _
  have hcon := AnyQ.slices_SortFunc Tryz.sortE 3 Tryz.isAgg50 Tryz.sizeOf50 encE encE_len (fun x v hv => by simp [encE] at hv; rcases hv with rfl | rfl | rfl <;> rfl) cfE swoE 52 #[] g 0 cap l.toArray W eg hcmp hB.holds hB.lt (by simp; omega)
  have hcon' : Calls Tryz.prog 51 #[.slice (some ⟨g, 0, none⟩) l.length cap, .func (.func 52) #[] #[]] W _ := hcon
  refine hcon'.mono ?_
  rintro e w' ⟨rfl, d', m, os, hp, hs, rfl⟩
  have hsz : d'.size = l.toArray.size := hp.1
  have hp' := perm_of hp
  have hh := holdsK_sortWorldK encE 3 W g 0 m l.toArray d' os hB.lt hB.holds hsz
  have hlen : d'.toList.length = l.length := by simpa using hsz
  refine ⟨rfl, d'.toList, by simpa using hp', weak_of hsz.symm hs, hlen, ?_, fun n hn => sortWorld_below _ _ _ _ _ _ _ _ hn (Nat.le_trans hn (Nat.le_of_lt hB.lt))⟩
  refine .inr ⟨g, 0, l.length, by rw [hlen], lt_sortWorldK encE 3 W g 0 m d' os hB.lt, by omega, fun j x hx => ?_⟩
  have hj : j < d'.size := by simpa using (List.getElem?_eq_some_iff.1 hx).1
  have he : d'[j]! = x := by simpa [hj] using hx
  have k0 := (hh.cell (i := j) (c := 0) hj (by omega)).1
  have k1 := (hh.cell (i := j) (c := 1) hj (by omega)).1
  have k2 := (hh.cell (i := j) (c := 2) hj (by omega)).1
  rw [he] at k0 k1 k2
  exact ⟨k0, k1, k2⟩

end Go.Proofs.YthlkknfhganecaaGreatDoor
