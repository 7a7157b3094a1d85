/-
  The contract of graph.Degrees.
-/
import Derived.OwnWalk
import Derived.Test.YtdgecflljgnobaaXGNbMath
import Derived.Test.YtdgecflljgnobaaZAE
import Derived.Test.YtdgecflljgnobaaXGSort
namespace Go.Proofs.Ytdgecflljgnobaa
open Go Go.Proofs Go.RowKit

theorem infoI : (Try.prog.info? 3).map (fun i => (i.zero, i.size, i.bytes)) = some (some (.int .i64 0), 1, 8) := by kernel_rfl
theorem ints_made (n : Nat) : (madeCells (Value.int .i64 0).cells (n * 1)).toList = (List.replicate n (0 : Int)).map (Value.int .i64) := by
  apply List.ext_getElem
  · simp [madeCells]
  · intro i h1 h2
    simp [madeCells, Value.cells, Nat.mod_one]
theorem Blk.ints {W : World} {g : Nat} {l : List Int} {t : TypeId} (h : Blk t W g (l.map (Value.int .i64))) : Ints W.heap.size W (.slice (some ⟨g, 0, none⟩) l.length l.length) l :=
  .inr ⟨g, 0, l.length, rfl, h.lt, Nat.le_refl _, fun j x hx => by rw [Nat.zero_add]; exact h.cell (by rw [List.getElem?_map, hx]; rfl)⟩

/-- The degrees as far as the first j edges tell. -/
def degL (N : Nat) (l : List Ed) (j : Nat) : List Int := (List.range N).map fun (v : Nat) => ((nb (l.take j) (v : Int)).length : Int)
theorem degL_len (N : Nat) (l : List Ed) (j : Nat) : (degL N l j).length = N := by simp [degL]
theorem degL_at {N : Nat} {l : List Ed} {j v : Nat} (h : v < N) : (degL N l j)[v]? = some ((nb (l.take j) (v : Int)).length : Int) := by simp [degL, h]
theorem degL_zero (N : Nat) (l : List Ed) : degL N l 0 = List.replicate N 0 := by
  apply List.ext_getElem <;> simp [degL, nb]
theorem degL_step {N : Nat} {l : List Ed} {j u v : Nat} (h : j < l.length) (hu : l[j].1 = (u : Int)) (hv : l[j].2.1 = (v : Int)) (hne : u ≠ v) (huN : u < N) (hvN : v < N) :
    ((degL N l j).set u ((nb (l.take j) (u : Int)).length + 1)).set v ((nb (l.take j) (v : Int)).length + 1) = degL N l (j + 1) := by
  apply List.ext_getElem?
  intro i
  by_cases hi : i < N
  · rw [degL_at hi, List.getElem?_set, List.getElem?_set, degL_at hi, nb_snoc h, List.length_append]
    simp only [List.length_set, degL_len]
    unfold nbOf
    rw [hu, hv]
    by_cases h1 : v = i
    · subst h1
      rw [if_pos rfl, if_pos hvN, if_neg (by omega), if_pos rfl]; simp
    · rw [if_neg h1]
      by_cases h2 : u = i
      · subst h2
        rw [if_pos rfl, if_pos huN, if_pos rfl]; simp
      · rw [if_neg h2, if_neg (by omega), if_neg (by omega)]; simp
  · rw [List.getElem?_eq_none (by simp [degL_len]; omega), List.getElem?_eq_none (by rw [degL_len]; omega)]

set_option maxRecDepth 100000 in
set_option maxHeartbeats 2000000 in
theorem degrees_any (N : Nat) (l : List Ed) (hR : RightG (N : Int) l) (sv : Value) (w : World) (hl : Edges w.heap.size w sv l) :
    Calls Try.prog 43 #[.agg #[.int .i64 (N : Int), sv]] w fun r w' => ∃ dv, r = .returned dv ∧ Ints w'.heap.size w' dv (degL N l l.length) ∧ (∃ g, dv = .slice (some ⟨g, 0, none⟩) N N ∧ w.heap.size < g) ∧ Below w.heap.size w w' := by
  have hg1 : Grew w (w.alloc (.cells #[.int .i64 (N : Int), sv] 24)) := (Grew.refl w).alloc _
  have hl1 := hl.go hg1.below
  obtain ⟨p, c, rfl⟩ := hl.len
  obtain ⟨i0, hi, hz0, hz1, hz2⟩ := info_parts infoI
  have hrc := fun W h => right_any (N : Int) l (.slice p l.length c) W h
  rw [right_iff.2 hR] at hrc
  have hn1 := hR.n1
  have hm1 := hR.m1
  go_enter Try.func43, Try.ntmps43
  go_wp2_with fail
  refine (hrc _ hl1).mono ?_
  rintro e w2 ⟨rfl, hg2⟩
  have q0 := (box2 _ hg2).1
  have q1 := (box2 _ hg2).2
  have hbox := box2_lt hg2
  have hbw := (hg1.trans hg2).below
  clear hrc hl1
  go_wp2_with (at_make; refine wpList_make_full _ rfl _ _ 27 rfl w2.heap.size 3 i0 (.int .i64 0) 1 Try.underlying27 hi hz0 hz1 .i64 .i64 _ _ N rfl rfl rfl rfl (by rw [hz2]; omega) (by unfold maxLen; omega) (Nat.le_refl _) ?_; intro w3 hown hgrow; have hb3 : Below w2.heap.size w2 w3 := (Below.refl _ _).grown hgrow (Nat.le_refl _) (fun k e => by cases e); have x1 := (hb3.cell (p := ⟨w.heap.size, 1, none⟩) hbox).trans q1)
  have hrow := Blk.made hown
  rw [ints_made, ← degL_zero N l] at hrow
  have hbw3 := hbw.trans (hb3.mono hbw.size)
  clear hown hgrow hi hz0 hz1 hz2 hb3 q0 q1 hg2 hg1 hbw
  generalize w2.heap.size = g at hrow hbox
  go_loopw [15] (fun i wr => ∃ j : Nat, j ≤ l.length ∧ i = .int .i64 j ∧ Blk 3 wr g ((degL N l j).map (Value.int .i64)) ∧ Below g w3 wr) (fun i _ => l.length - (intOf i).toNat)
  case atStart => exact ⟨0, Nat.zero_le _, rfl, hrow, Below.refl _ _⟩
  case round =>
    obtain ⟨j, hj, rfl, hB, hb⟩ := hrel
    have hbwr := hbw3.trans (hb.mono (by omega))
    have hgl := hB.lt
    by_cases hlt : j < l.length
    · obtain ⟨b, off, rfl, hbb, hcap, hc, -⟩ := hl.open hlt
      obtain ⟨c0, c1, c2⟩ := hc wr hbwr j hlt
      have hjl : (j : Int) < (l.length : Int) := by omega
      have hok := hR.each l[j] (List.getElem_mem hlt)
      unfold okE at hok
      obtain ⟨u, hu⟩ : ∃ u : Nat, l[j].1 = (u : Int) := ⟨l[j].1.toNat, by omega⟩
      obtain ⟨v, hv⟩ : ∃ v : Nat, l[j].2.1 = (v : Int) := ⟨l[j].2.1.toNat, by omega⟩
      have huN : u < N := by omega
      have hvN : v < N := by omega
      have hne : u ≠ v := by omega
      have HS : Hid _ := degL_step (N := N) hlt hu hv hne huN hvN
      rw [hu] at c0
      rw [hv] at c1
      have hul := nb_le l (u : Int) j
      have hvl := nb_le l (v : Int) j
      have hul2 := nb_len (u : Int) l
      have hvl2 := nb_len (v : Int) l
      have huN' : (u : Int) < (N : Int) := by omega
      have hvN' : (v : Int) < (N : Int) := by omega
      have t0 : wr.cell? ⟨g, u, none⟩ = some (.int .i64 ((nb (l.take j) (u : Int)).length : Int)) := hB.cell (by rw [List.getElem?_map, degL_at huN]; rfl)
      have t1 : wr.cell? ⟨g, v, none⟩ = some (.int .i64 ((nb (l.take j) (v : Int)).length : Int)) := hB.cell (by rw [List.getElem?_map, degL_at hvN]; rfl)
      have f0 := hB.frozen u
      have f1 := hB.frozen v
      have hBn := (hB.set u (.int .i64 ((nb (l.take j) (u : Int)).length + 1))).set v (.int .i64 ((nb (l.take j) (v : Int)).length + 1))
      rw [← List.map_set, ← List.map_set, HS.out] at hBn
      generalize (nb (l.take j) (u : Int)).length = du at *
      generalize (nb (l.take j) (v : Int)).length = dv at *
      generalize l[j].2.2 = wv at c2
      have hbg : b ≠ g := by omega
      clear hc hok hu hv
      go_wp2
      exact ⟨⟨j + 1, by omega, by go_num, hBn.go ((Below.refl _ _).alloc (Nat.le_refl _) _), ((hb.setCell (p := ⟨g, u, none⟩) (Nat.le_refl _) _).setCell (p := ⟨g, v, none⟩) (Nat.le_refl _) _).alloc (by simp; omega) _⟩, by simp [intOf]; omega⟩
    · obtain rfl : j = l.length := by omega
      have hI := hB.ints
      rw [degL_len] at hI
      go_wp2
      go_ret
      exact ⟨_, rfl, hI, ⟨g, rfl, hbox⟩, hbwr⟩

set_option maxRecDepth 100000 in
theorem degrees_bad (n : Int) (l : List Ed) (hR : rightK n l ≠ 0) (sv : Value) (w : World) (hl : Edges w.heap.size w sv l) :
    Calls Try.prog 43 #[.agg #[.int .i64 n, sv]] w fun r w' => r = .returned (.slice none 0 0) ∧ Grew w w' := by
  have hg1 : Grew w (w.alloc (.cells #[.int .i64 n, sv] 24)) := (Grew.refl w).alloc _
  have hl1 := hl.go hg1.below
  obtain ⟨p, c, rfl⟩ := hl.len
  have hrc := fun W h => right_any n l (.slice p l.length c) W h
  generalize rightK n l = k at hrc hR
  have hk : (k == 0) = false := by simpa using hR
  clear hR
  go_enter Try.func43, Try.ntmps43
  go_wp2_with fail
  refine (hrc _ hl1).mono ?_
  rintro e w2 ⟨rfl, hg2⟩
  clear hrc
  go_wp2
  go_ret
  exact ⟨rfl, hg1.trans hg2⟩

end Go.Proofs.Ytdgecflljgnobaa
