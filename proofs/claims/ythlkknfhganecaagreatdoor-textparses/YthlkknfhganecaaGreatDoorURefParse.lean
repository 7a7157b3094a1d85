/-
  The reference's Parse (filigreeref05): the graph of a text, or which of its lines is wrong, and how: what the program's own tells.
-/
import Derived.Deep.DeepCutAuto
import Derived.Deep.CutBlock
import Derived.Test.YthlkknfhganecaaGreatDoorUParseMath
import Derived.Test.YthlkknfhganecaaGreatDoorURefNums
import Derived.Test.YthlkknfhganecaaGreatDoorURefMake
namespace Go.Proofs.YthlkknfhganecaaGreatDoor
open Go Go.Proofs Go.RowKit

def faultV : Option (ByteArray × Int × Int) → Value
  | none => .agg #[.string ⟨#[]⟩, .int .i64 0, .int .i64 0]
  | some (s, a, x) => .agg #[.string s, .int .i64 a, .int .i64 x]
/-- What the reference's Parse ends with. -/
def RParseP (p : Parsed) (w : World) (e : Ending) (w' : World) : Prop := ∃ gv, e = .returned (.tuple #[.agg #[.int .i64 p.n, gv], faultV p.bad]) ∧ Edges w'.heap.size w' gv p.l ∧ Below w.heap.size w w'
/-- What Parse has laid: its two results. -/
structure PaI (w W : World) : Prop where
  res : Blk 30 W w.heap.size [.int .i64 0, .slice none 0 0]
  flt : Blk 36 W (w.heap.size + 1) [.string ⟨#[]⟩, .int .i64 0, .int .i64 0]
  bel : Below w.heap.size w W
theorem PaI.go {w A B : World} (h : PaI w A) (hb : Below A.heap.size A B) : PaI w B := ⟨h.res.go hb, h.flt.go hb, h.bel.trans (hb.mono h.bel.size)⟩
def putR (w W : World) (n : Int) (gv : Value) (s : ByteArray) (a k : Int) : World := ((((W.setCell ⟨w.heap.size, 0, none⟩ (.int .i64 n)).setCell ⟨w.heap.size, 1, none⟩ gv).setCell ⟨w.heap.size + 1, 0, none⟩ (.string s)).setCell ⟨w.heap.size + 1, 1, none⟩ (.int .i64 a)).setCell ⟨w.heap.size + 1, 2, none⟩ (.int .i64 k)
theorem PaI.put {w W : World} (h : PaI w W) (n : Int) (gv : Value) (s : ByteArray) (a k : Int) :
    Blk 30 (putR w W n gv s a k) w.heap.size [.int .i64 n, gv] ∧ Blk 36 (putR w W n gv s a k) (w.heap.size + 1) [.string s, .int .i64 a, .int .i64 k] ∧ Below w.heap.size w (putR w W n gv s a k) := by
  have h1 : w.heap.size ≠ w.heap.size + 1 := by omega
  have h2 : w.heap.size + 1 ≠ w.heap.size := by omega
  refine ⟨((((h.res.set 0 _).set 1 _).other h1 _).other h1 _).other h1 _, (((((h.flt.other h2 _).other h2 _).set 0 _).set 1 _).set 2 _), ?_⟩
  exact ((((h.bel.setCell (p := ⟨_, _, none⟩) (Nat.le_refl _) _).setCell (p := ⟨_, _, none⟩) (Nat.le_refl _) _).setCell (p := ⟨_, _, none⟩) (Nat.le_succ _) _).setCell (p := ⟨_, _, none⟩) (Nat.le_succ _) _).setCell (p := ⟨_, _, none⟩) (Nat.le_succ _) _
theorem putR_edges {w W : World} {n : Int} {gv : Value} {s : ByteArray} {a k : Int} {sv : Value} {l : List Ed} (h : Edges W.heap.size W sv l) (hA : Above (w.heap.size + 2) sv) : Edges (putR w W n gv s a k).heap.size (putR w W n gv s a k) sv l := by
  unfold putR
  exact ((((h.setB hA (p := ⟨w.heap.size, 0, none⟩) (by simp) _).setB hA (p := ⟨w.heap.size, 1, none⟩) (by simp) _).setB hA (p := ⟨w.heap.size + 1, 0, none⟩) (by simp) _).setB hA (p := ⟨w.heap.size + 1, 1, none⟩) (by simp) _).setB hA (p := ⟨w.heap.size + 1, 2, none⟩) (by simp) _
theorem ret_gf {fn : Func} (h : fn.results = #[.cell 2 30, .cell 3 36]) {tmps : Array Value} {W : World} {a b : Nat} {x y s p q : Value} (h2 : tmps.getD 2 undef = .pointer (some ⟨a, 0, none⟩)) (h3 : tmps.getD 3 undef = .pointer (some ⟨b, 0, none⟩))
    (c0 : W.cell? ⟨a, 0, none⟩ = some x) (c1 : W.cell? ⟨a, 1, none⟩ = some y) (d0 : W.cell? ⟨b, 0, none⟩ = some s) (d1 : W.cell? ⟨b, 1, none⟩ = some p) (d2 : W.cell? ⟨b, 2, none⟩ = some q) : (results fn tmps).run Tryz.prog W = .ok (.tuple #[.agg #[x, y], .agg #[s, p, q]]) W := by
  have a1 := Tryz.isAgg30
  have a2 := Tryz.sizeOf30
  have b1 := Tryz.isAgg36
  have b2 := Tryz.sizeOf36
  rw [Array.getD_eq_getD_getElem?] at h2 h3
  simp only [results, h]
  simp [Sem.run_bind, Result.andThen, h2, h3]
  go_simp
theorem PaI.cells {w W : World} (h : PaI w W) : (W.cell? ⟨w.heap.size, 0, none⟩ = some (.int .i64 0) ∧ W.cell? ⟨w.heap.size, 1, none⟩ = some (.slice none 0 0) ∧ W.frozen? ⟨w.heap.size, 0, none⟩ = false ∧ W.frozen? ⟨w.heap.size, 1, none⟩ = false) ∧ W.cell? ⟨w.heap.size + 1, 0, none⟩ = some (.string ⟨#[]⟩) ∧ W.cell? ⟨w.heap.size + 1, 1, none⟩ = some (.int .i64 0) ∧ W.cell? ⟨w.heap.size + 1, 2, none⟩ = some (.int .i64 0) ∧ W.frozen? ⟨w.heap.size + 1, 0, none⟩ = false ∧ W.frozen? ⟨w.heap.size + 1, 1, none⟩ = false ∧ W.frozen? ⟨w.heap.size + 1, 2, none⟩ = false :=
  ⟨⟨h.res.cell (j := 0) rfl, h.res.cell (j := 1) rfl, h.res.frozen 0, h.res.frozen 1⟩, h.flt.cell (j := 0) rfl, h.flt.cell (j := 1) rfl, h.flt.cell (j := 2) rfl, h.flt.frozen 0, h.flt.frozen 1, h.flt.frozen 2⟩
theorem lin_small : ∀ (l : List UInt8), (lin l).1.length ≤ l.length ∧ ∀ y ∈ (lin l).1, y.length ≤ l.length := by
  have h : ∀ (N : Nat) (l : List UInt8), l.length ≤ N → (lin l).1.length ≤ l.length ∧ ∀ y ∈ (lin l).1, y.length ≤ l.length := by
    intro N
    induction N with
    | zero =>
      intro l hl
      have : l = [] := List.eq_nil_of_length_eq_zero (by omega)
      subst this
      simp [lin]
    | succ N ih =>
      intro l hl
      rcases lin_cases l with ⟨e, _⟩ | ⟨a, b, rfl, _, e⟩
      · rw [e]
        simp
      · rw [e]
        simp only [List.length_append, List.length_cons] at hl ⊢
        obtain ⟨h1, h2⟩ := ih b (by omega)
        refine ⟨by omega, fun y hy => ?_⟩
        rcases List.mem_cons.1 hy with rfl | hy
        · omega
        · have := h2 y hy
          omega
  exact fun l => h l.length l (Nat.le_refl _)

def badV (n u v : Int) : Bool := decide (u < 0) || decide (n ≤ u) || decide (v < 0) || decide (n ≤ v)

set_option maxRecDepth 100000 in
set_option maxHeartbeats 8000000 in
theorem refParse_any (xs : List Int) (hx : xs.length ≤ 20000) (hxb : ∀ x ∈ xs, 0 ≤ x ∧ x ≤ 255) (sv : Value) (w : World) (hB : Bytes w.heap.size w sv xs) :
    Calls Tryz.prog 12 #[sv] w (RParseP (parseM xs) w) := by
  have hmix := mixed
  obtain ⟨p, c, rfl⟩ := hB.len
  have hI1 : PaI w ((w.alloc (.cells #[.int .i64 0, .slice none 0 0] 30)).alloc (.cells #[.string ⟨#[]⟩, .int .i64 0, .int .i64 0] 36)) := by
    have h1 : Blk 30 (w.alloc (.cells #[.int .i64 0, .slice none 0 0] 30)) w.heap.size [.int .i64 0, .slice none 0 0] := heap_alloc_new w _
    have h2 := heap_alloc_new (w.alloc (.cells #[.int .i64 0, .slice none 0 0] 30)) (.cells #[.string ⟨#[]⟩, .int .i64 0, .int .i64 0] 36)
    exact ⟨h1.go (((Grew.refl _).alloc _).below), by simpa [Blk] using h2, (((Grew.refl w).alloc _).alloc _).below⟩
  have hd : ¬ (134217728 : Int) < (xs.length : Int) := by omega
  have HM : Hid (parseM xs = linesP (lin (bytesL xs)).2 (lin (bytesL xs)).1) := parse_lines xs (by omega)
  obtain ⟨hln, hen⟩ := lines_lin xs hxb
  have hli := refLines_any xs hx _ _ (hB.go hI1.bel)
  rw [hln, hen] at hli
  obtain ⟨hs1, hs2⟩ := lin_small (bytesL xs)
  rw [bytesL_len] at hs1 hs2
  generalize (lin (bytesL xs)).1 = L at *
  generalize (lin (bytesL xs)).2 = tl at *
  generalize parseM xs = PM at *
  obtain ⟨en, HEN⟩ : ∃ en, Hid (decide (tl = []) = en) := ⟨_, rfl⟩
  rw [HEN.out] at hli
  go_enter Tryz.func12, Tryz.ntmps12
  go_wp2_with fail
  refine hli.mono ?_
  clear hli hln hen
  rintro e w2 ⟨lv, rfl, hS2, hb2⟩
  have hI2 := hI1.go hb2
  clear hI1
  obtain ⟨pl, cl, rfl⟩ := hS2.len
  rw [List.length_map] at hS2 ⊢
  cases L with
  | nil =>
    have HX : Hid (PM = ⟨0, [], some (lineB, 1, 3)⟩) := HM.out
    clear HM
    obtain ⟨⟨r0, r1, rf0, rf1⟩, t0, t1, t2, tf0, tf1, tf2⟩ := hI2.cells
    obtain ⟨g1, g2, g3⟩ := hI2.put 0 (.slice none 0 0) lineB 1 3
    go_wp2
    (try simp only [Exit.inBlock, Exit.then])
    refine bodyPost_ret (ret_gf rfl (by rfl) (by rfl) (g1.cell (j := 0) rfl) (g1.cell (j := 1) rfl) (g2.cell (j := 0) rfl) (g2.cell (j := 1) rfl) (g2.cell (j := 2) rfl)) rfl ?_
    rw [HX.out]
    exact ⟨_, rfl, Edges.nil _ _ _ _, g3⟩
  | cons a ls =>
    have hal : a.length ≤ 20000 := Nat.le_trans (hs2 a (List.mem_cons_self ..)) hx
    have hll : (a :: ls).length ≤ 20000 := Nat.le_trans hs1 hx
    have hls2 : Hid (∀ y ∈ ls, y.length ≤ 20000) := fun y hy => Nat.le_trans (hs2 y (List.mem_cons_of_mem _ hy)) hx
    obtain ⟨b, off, cap, hpl, hbb, hcap, hcell⟩ := hS2.at (j := 0) (by simp)
    rw [List.length_map] at hpl hcap
    simp only [Value.slice.injEq, true_and] at hpl
    obtain ⟨rfl, rfl⟩ := hpl
    have hcl : Hid (∀ W', Below w2.heap.size w2 W' → ∀ i y, (a :: ls)[i]? = some y → W'.cell? ⟨b, off + i, none⟩ = some (.string (ofL y))) := fun W' h i y hy => hcell W' h i (ofL y) (by rw [List.getElem?_map, hy]; rfl)
    have c0 := hcl.out w2 (Below.refl _ _) 0 a rfl
    rw [Nat.add_zero] at c0
    have hnum := refNumbers_any (ofL a) graphB (by rw [ofL_size]; exact hal) 2 (by omega) (by omega) w2
    have hL0 : (((a :: ls).length : Int) == 0) = false := by rw [beq_eq_false_iff_ne]; simp only [List.length_cons]; omega
    have hL1 : (0 : Int) < ((a :: ls).length : Int) := by simp only [List.length_cons]; omega
    obtain ⟨N, HN⟩ : ∃ N, Hid ((a :: ls).length = N) := ⟨_, rfl⟩
    rw [HN.out] at hcap hL0 hL1 hll ⊢
    clear hcell hS2 hs1 hs2 hxb
    go_wp2_with fail
    refine hnum.mono ?_
    clear hnum
    rintro e w3 ⟨hb3, he3⟩
    rw [ofL_data] at he3
    have hI3 := hI2.go hb3
    cases hn : numsL a graphB.data.toList 2 with
    | none =>
      rw [hn] at he3
      subst he3
      have HX : Hid (PM = ⟨0, [], some (lineB, 1, 3)⟩) := by
        rw [Hid, HM.out]
        simp only [linesP, hn]
      clear HM hn c0
      obtain ⟨⟨r0, r1, rf0, rf1⟩, t0, t1, t2, tf0, tf1, tf2⟩ := hI3.cells
      obtain ⟨g1, g2, g3⟩ := hI3.put 0 (.slice none 0 0) lineB 1 3
      go_wp2
      (try simp only [Exit.inBlock, Exit.then])
      refine bodyPost_ret (ret_gf rfl (by rfl) (by rfl) (g1.cell (j := 0) rfl) (g1.cell (j := 1) rfl) (g2.cell (j := 0) rfl) (g2.cell (j := 1) rfl) (g2.cell (j := 2) rfl)) rfl ?_
      rw [HX.out]
      exact ⟨_, rfl, Edges.nil _ _ _ _, g3⟩
    | some hh =>
      rw [hn] at he3
      obtain ⟨hv, rfl, hIn, hlen⟩ := he3
      have HX : Hid (PM = headP2 tl ls (headL hh)) := by
        rw [Hid, HM.out]
        simp only [linesP, hn]
      clear HM hn c0
      obtain ⟨ph, ch, rfl⟩ := hIn.len
      rw [hlen] at hIn ⊢
      obtain ⟨bh, oh, rfl, hbh, hch, hcellh⟩ := ints_at hIn hlen (j := 0) (by omega)
      have c0 := hcellh 0 (by omega)
      have c1 := hcellh 1 (by omega)
      rw [Nat.add_zero] at c0
      have HL : Hid (headL hh = if hh.getD 0 0 < 0 ∨ hh.getD 1 0 < 0 then .error 1 else if 1048576 < hh.getD 0 0 ∨ 4194304 < hh.getD 1 0 then .error 4 else .ok (hh.getD 0 0, hh.getD 1 0)) := rfl
      generalize hh.getD 0 0 = n at c0 HL
      generalize hh.getD 1 0 = m at c1 HL
      clear hcellh hIn
      by_cases hneg : n < 0 ∨ m < 0
      · have HX2 : Hid (PM = ⟨0, [], some (lineB, 1, 1)⟩) := by
          rw [Hid, HX.out, HL.out, if_pos hneg]
          rfl
        clear HX HL
        rcases (by omega : n < 0 ∨ ¬ n < 0 ∧ m < 0) with h1 | ⟨h1, h2⟩
        · clear hneg
          obtain ⟨⟨r0, r1, rf0, rf1⟩, t0, t1, t2, tf0, tf1, tf2⟩ := hI3.cells
          obtain ⟨g1, g2, g3⟩ := hI3.put 0 (.slice none 0 0) lineB 1 1
          go_wp2
          (try simp only [Exit.inBlock, Exit.then])
          refine bodyPost_ret (ret_gf rfl (by rfl) (by rfl) (g1.cell (j := 0) rfl) (g1.cell (j := 1) rfl) (g2.cell (j := 0) rfl) (g2.cell (j := 1) rfl) (g2.cell (j := 2) rfl)) rfl ?_
          rw [HX2.out]
          exact ⟨_, rfl, Edges.nil _ _ _ _, g3⟩
        · clear hneg
          obtain ⟨⟨r0, r1, rf0, rf1⟩, t0, t1, t2, tf0, tf1, tf2⟩ := hI3.cells
          obtain ⟨g1, g2, g3⟩ := hI3.put 0 (.slice none 0 0) lineB 1 1
          go_wp2
          (try simp only [Exit.inBlock, Exit.then])
          refine bodyPost_ret (ret_gf rfl (by rfl) (by rfl) (g1.cell (j := 0) rfl) (g1.cell (j := 1) rfl) (g2.cell (j := 0) rfl) (g2.cell (j := 1) rfl) (g2.cell (j := 2) rfl)) rfl ?_
          rw [HX2.out]
          exact ⟨_, rfl, Edges.nil _ _ _ _, g3⟩
      · have hn1 : ¬ n < 0 := fun h => hneg (.inl h)
        have hn2 : ¬ m < 0 := fun h => hneg (.inr h)
        by_cases hbig : 1048576 < n ∨ 4194304 < m
        · have HX2 : Hid (PM = ⟨0, [], some (lineB, 1, 4)⟩) := by
            rw [Hid, HX.out, HL.out, if_neg hneg, if_pos hbig]
            rfl
          clear HX HL
          rcases (by omega : 1048576 < n ∨ ¬ 1048576 < n ∧ 4194304 < m) with h1 | ⟨h1, h2⟩
          · clear hneg hbig
            obtain ⟨⟨r0, r1, rf0, rf1⟩, t0, t1, t2, tf0, tf1, tf2⟩ := hI3.cells
            obtain ⟨g1, g2, g3⟩ := hI3.put 0 (.slice none 0 0) lineB 1 4
            go_wp2
            (try simp only [Exit.inBlock, Exit.then])
            refine bodyPost_ret (ret_gf rfl (by rfl) (by rfl) (g1.cell (j := 0) rfl) (g1.cell (j := 1) rfl) (g2.cell (j := 0) rfl) (g2.cell (j := 1) rfl) (g2.cell (j := 2) rfl)) rfl ?_
            rw [HX2.out]
            exact ⟨_, rfl, Edges.nil _ _ _ _, g3⟩
          · clear hneg hbig
            obtain ⟨⟨r0, r1, rf0, rf1⟩, t0, t1, t2, tf0, tf1, tf2⟩ := hI3.cells
            obtain ⟨g1, g2, g3⟩ := hI3.put 0 (.slice none 0 0) lineB 1 4
            go_wp2
            (try simp only [Exit.inBlock, Exit.then])
            refine bodyPost_ret (ret_gf rfl (by rfl) (by rfl) (g1.cell (j := 0) rfl) (g1.cell (j := 1) rfl) (g2.cell (j := 0) rfl) (g2.cell (j := 1) rfl) (g2.cell (j := 2) rfl)) rfl ?_
            rw [HX2.out]
            exact ⟨_, rfl, Edges.nil _ _ _ _, g3⟩
        · have hn3 : ¬ 1048576 < n := fun h => hbig (.inl h)
          have hn4 : ¬ 4194304 < m := fun h => hbig (.inr h)
          have HX2 : Hid (PM = tailP n tl (refEdges n m.toNat ls 1 [])) := by
            rw [Hid, HX.out, HL.out, if_neg hneg, if_neg hbig]
            rfl
          clear HX HL hneg hbig
          obtain ⟨M, rfl⟩ : ∃ M : Nat, m = (M : Int) := ⟨m.toNat, by omega⟩
          rw [Int.toNat_natCast] at HX2
          go_wp2
          go_quiet (fail)
          have hb34 : Below w3.heap.size w3 (w3.drewN nq) := below_drewN (Below.refl _ _) nq
          have hI4 := hI3.go hb34
          have hb24 : Below w2.heap.size w2 (w3.drewN nq) := hb3.trans (hb34.mono hb3.size)
          generalize w3.drewN nq = w4 at hI4 hb24 ⊢
          clear hI3 hb3 hb34 c0 c1 hI2 hb2 hB hn1 hn2 hn3
          obtain ⟨i0, hi, hz0, hz1, hz2⟩ := info_parts infoE
          have HLN : Hid (ls.length + 1 = N) := HN.out
          have hM4 : M ≤ 4194304 := by omega
          go_wp2
          go_loopw [10, 11] (fun ev iv wr => ∃ acc : List Ed, acc.length ≤ M ∧ acc.length ≤ ls.length ∧ iv = .int .i64 ((acc.length : Int) + 1) ∧ wr.ownsRow w4.heap.size 50 3 ev acc.length (flat acc) ∧ Below w4.heap.size w4 wr ∧ Hid (refEdges n M ls 1 [] = refEdges n (M - acc.length) (ls.drop acc.length) (acc.length + 1) acc)) (fun _ iv _ => M + 1 - (intOf iv).toNat)
          case atStart => exact ⟨[], Nat.zero_le _, Nat.zero_le _, rfl, World.ownsRow_nil _ _ _ _, Below.refl _ _, rfl⟩
          case round =>
            obtain ⟨acc, ha1, ha2, rfl, hown, hb, HR⟩ := hrel
            have hIr := hI4.go hb
            have hb2r : Below w2.heap.size w2 wr := hb24.trans (hb.mono hb24.size)
            obtain ⟨pe, ce, rfl⟩ := owns_form hown
            have hq2 : acc.length ≤ 20000 := by have := HLN.out; omega
            by_cases hlt : acc.length < M
            · have hlt' : (acc.length : Int) + 1 ≤ (M : Int) := by omega
              by_cases hin : acc.length < ls.length
              · have hin' : ¬ (N : Int) ≤ (acc.length : Int) + 1 := by have := HLN.out; omega
                have hin2 : (acc.length : Int) + 1 < (N : Int) := by have := HLN.out; omega
                obtain ⟨y, hy⟩ : ∃ y, ls[acc.length]? = some y := ⟨_, List.getElem?_eq_getElem hin⟩
                have hyl := hls2.out y (List.mem_of_getElem? hy)
                have cy := hcl.out wr hb2r (acc.length + 1) y (by rw [List.getElem?_cons_succ]; exact hy)
                have hnum := refNumbers_any (ofL y) edgeB (by rw [ofL_size]; exact hyl) 3 (by omega) (by omega) wr
                have hdr : ls.drop acc.length = y :: ls.drop (acc.length + 1) := by
                  rw [List.drop_eq_getElem_cons hin]
                  congr 1
                  rw [List.getElem?_eq_getElem hin] at hy
                  exact Option.some.inj hy
                have HRN : Hid (refEdges n M ls 1 [] = match numsL y edgeB.data.toList 3 with | none => .error (3, acc.length + 1 + 1) | some x => match edgeL n x with | .error e => .error (e, acc.length + 1 + 1) | .ok e => refEdges n (M - (acc.length + 1)) (ls.drop (acc.length + 1)) (acc.length + 1 + 1) (acc ++ [e])) := by
                  rw [Hid, HR.out, hdr, show M - acc.length = (M - (acc.length + 1)) + 1 by omega]
                  rfl
                have hjn : ((acc.length : Int) + 1).toNat = acc.length + 1 := by omega
                clear HR hdr hy
                go_wp2_with fail
                refine hnum.mono ?_
                clear hnum
                rintro e w5 ⟨hb5, he5⟩
                rw [ofL_data] at he5
                have hI5 := hIr.go hb5
                have hb45 : Below w4.heap.size w4 w5 := hb.trans (hb5.mono hb.size)
                have hown5 := owns_go hown hb5
                cases hn : numsL y edgeB.data.toList 3 with
                | none =>
                  rw [hn] at he5
                  subst he5
                  have HX3 : Hid (PM = ⟨0, [], some (lineB, ((acc.length + 1 + 1 : Nat) : Int), 3)⟩) := by
                    rw [Hid, HX2.out, HRN.out, hn]
                    rfl
                  rw [show ((acc.length + 1 + 1 : Nat) : Int) = (acc.length : Int) + 1 + 1 by omega] at HX3
                  clear HX2 HRN hn cy
                  obtain ⟨⟨r0, r1, rf0, rf1⟩, t0, t1, t2, tf0, tf1, tf2⟩ := hI5.cells
                  obtain ⟨g1, g2, g3⟩ := hI5.put 0 (.slice none 0 0) lineB ((acc.length : Int) + 1 + 1) 3
                  go_wp2
                  (try simp only [Exit.inBlock, Exit.then])
                  refine bodyPost_ret (ret_gf rfl (by rfl) (by rfl) (g1.cell (j := 0) rfl) (g1.cell (j := 1) rfl) (g2.cell (j := 0) rfl) (g2.cell (j := 1) rfl) (g2.cell (j := 2) rfl)) rfl ?_
                  rw [HX3.out]
                  exact ⟨_, rfl, Edges.nil _ _ _ _, g3⟩
                | some xl =>
                  rw [hn] at he5
                  obtain ⟨xv, rfl, hIn, hlen⟩ := he5
                  have HRE : Hid (refEdges n M ls 1 [] = match edgeL n xl with | .error e => .error (e, acc.length + 1 + 1) | .ok e => refEdges n (M - (acc.length + 1)) (ls.drop (acc.length + 1)) (acc.length + 1 + 1) (acc ++ [e])) := by
                    rw [Hid, HRN.out, hn]
                  clear HRN hn cy
                  obtain ⟨px, cx, rfl⟩ := hIn.len
                  rw [hlen] at hIn ⊢
                  obtain ⟨bx, ox, rfl, hbx, hcx, hcellx⟩ := ints_at hIn hlen (j := 0) (by omega)
                  have x0 := hcellx 0 (by omega)
                  have x1 := hcellx 1 (by omega)
                  have x2 := hcellx 2 (by omega)
                  rw [Nat.add_zero] at x0
                  have HEL : Hid (edgeL n xl = if edgeK n (xl.getD 0 0, xl.getD 1 0, xl.getD 2 0) = 0 then .ok (xl.getD 0 0, xl.getD 1 0, xl.getD 2 0) else .error (edgeK n (xl.getD 0 0, xl.getD 1 0, xl.getD 2 0))) := rfl
                  generalize xl.getD 0 0 = u at x0 HEL
                  generalize xl.getD 1 0 = v at x1 HEL
                  generalize xl.getD 2 0 = t at x2 HEL
                  clear hcellx hIn
                  go_upto_region 24 with fail
                  go_cut [123] (fun cv wx => cv = .bool (badV n u v) ∧ wx = w5)
                  case first =>
                    by_cases h1 : u < 0
                    · have HV : Hid (badV n u v = true) := by simp [Hid, badV, h1]
                      go_wp2
                      go_meet
                      exact ⟨by rw [HV.out], rfl⟩
                    · by_cases h2 : n ≤ u
                      · have HV : Hid (badV n u v = true) := by simp [Hid, badV, h2]
                        go_wp2
                        go_meet
                        exact ⟨by rw [HV.out], rfl⟩
                      · by_cases h3 : v < 0
                        · have HV : Hid (badV n u v = true) := by simp [Hid, badV, h3]
                          go_wp2
                          go_meet
                          exact ⟨by rw [HV.out], rfl⟩
                        · by_cases h4 : n ≤ v
                          · have HV : Hid (badV n u v = true) := by simp [Hid, badV, h4]
                            go_wp2
                            go_meet
                            exact ⟨by rw [HV.out], rfl⟩
                          · have HV : Hid (badV n u v = false) := by simp [Hid, badV]; omega
                            go_wp2
                            go_meet
                            exact ⟨by rw [HV.out], rfl⟩
                  case rest =>
                    obtain ⟨rfl, hw⟩ := hcut
                    have hw' := hw.symm
                    subst hw'
                    clear hw
                    obtain ⟨bv, HBV⟩ : ∃ bv, Hid (badV n u v = bv) := ⟨_, rfl⟩
                    rw [HBV.out]
                    go_upto_if 123 with fail
                    go_cut [14] (fun kv wx => kv = .int .i64 (edgeK n (u, v, t)) ∧ Below w5.heap.size w5 wx)
                    case first =>
                      have HEK : Hid (edgeK n (u, v, t) = if u < 0 ∨ n ≤ u ∨ v < 0 ∨ n ≤ v then 5 else if u = v then 6 else if t ≤ -2147483648 ∨ 2147483648 ≤ t then 8 else 0) := rfl
                      have HBI : Hid (bv = true ↔ (u < 0 ∨ n ≤ u ∨ v < 0 ∨ n ≤ v)) := by
                        rw [Hid, ← HBV.out]
                        simp [badV, or_assoc]
                      clear HBV
                      cases bv with
                      | true =>
                        have hbad := HBI.out.1 rfl
                        have HK : Hid (edgeK n (u, v, t) = 5) := by rw [Hid, HEK.out, if_pos hbad]
                        clear HEK hbad
                        go_wp2
                        go_meet
                        exact ⟨by rw [HK.out], Below.refl _ _⟩
                      | false =>
                        have HB : Hid (¬ (u < 0 ∨ n ≤ u ∨ v < 0 ∨ n ≤ v)) := fun h => by cases HBI.out.2 h
                        go_wp2
                        go_quiet (fail)
                        have x2q : (w5.drewN nq).cell? ⟨bx, ox + 2, none⟩ = some (.int .i64 t) := x2
                        have hbq : Below w5.heap.size w5 (w5.drewN nq) := below_drewN (Below.refl _ _) nq
                        generalize w5.drewN nq = w6 at x2q hbq ⊢
                        by_cases huv : u = v
                        · have huv' : (u == v) = true := by simpa using huv
                          have HK : Hid (edgeK n (u, v, t) = 6) := by rw [Hid, HEK.out, if_neg HB.out, if_pos huv]
                          clear HEK huv
                          go_wp2
                          go_meet
                          exact ⟨by rw [HK.out], hbq⟩
                        · have huv' : (u == v) = false := by simpa using huv
                          by_cases ht1 : t ≤ -2147483648
                          · have HK : Hid (edgeK n (u, v, t) = 8) := by rw [Hid, HEK.out, if_neg HB.out, if_neg huv, if_pos (.inl ht1)]
                            clear HEK huv
                            go_wp2
                            go_meet
                            exact ⟨by rw [HK.out], hbq⟩
                          · by_cases ht2 : 2147483648 ≤ t
                            · have HK : Hid (edgeK n (u, v, t) = 8) := by rw [Hid, HEK.out, if_neg HB.out, if_neg huv, if_pos (.inr ht2)]
                              clear HEK huv
                              go_wp2
                              go_meet
                              exact ⟨by rw [HK.out], hbq⟩
                            · have HK : Hid (edgeK n (u, v, t) = 0) := by rw [Hid, HEK.out, if_neg HB.out, if_neg huv, if_neg (by omega)]
                              clear HEK huv
                              go_wp2
                              go_meet
                              exact ⟨by rw [HK.out], hbq⟩
                    case rest =>
                      obtain ⟨rfl, hbk⟩ := hcut
                      have hIk := hI5.go hbk
                      have hownk := owns_go hown5 hbk
                      have hb4k : Below w4.heap.size w4 wc := hb45.trans (hbk.mono hb45.size)
                      replace x0 := cell_keep hbk x0
                      replace x1 := cell_keep hbk x1
                      replace x2 := cell_keep hbk x2
                      by_cases hk0 : edgeK n (u, v, t) = 0
                      · have HRO : Hid (refEdges n M ls 1 [] = refEdges n (M - (acc.length + 1)) (ls.drop (acc.length + 1)) (acc.length + 1 + 1) (acc ++ [(u, v, t)])) := by
                          rw [Hid, HRE.out, HEL.out, if_pos hk0]
                        rw [hk0]
                        clear HRE HEL hk0
                        have hownA : (wc.alloc (.cells #[.int .i64 u, .int .i64 v, .int .i64 t] 50)).drew.ownsRow w4.heap.size 50 3 (.slice pe acc.length ce) acc.length (flat acc) := owns_go (hownk.alloc _) (below_drewN (Below.refl _ _) 1)
                        have hbA : Below w4.heap.size w4 (wc.alloc (.cells #[.int .i64 u, .int .i64 v, .int .i64 t] 50)).drew := below_drewN (hb4k.alloc hb4k.size _) 1
                        have hlow : ∀ k, (Value.slice pe acc.length ce).ownBlock = some k → w4.heap.size ≤ k := fun k e => (hownk.lt k e).1
                        have hsrc : Src (wc.alloc (.cells #[.int .i64 u, .int .i64 v, .int .i64 t] 50)).drew (.slice (some ⟨wc.heap.size, 0, none⟩) 1 1) 1 3 (flat [(u, v, t)]) := one_news (W := wc) (u, v, t)
                        go_wp2
                        go_region_law (refine step_append_src rfl _ _ 28 rfl w4.heap.size 50 i0 (.agg #[.int .i64 0, .int .i64 0, .int .i64 0]) 3 24 Tryz.underlying28 hi hz0 hz1 hz2 (by simp [Value.cells]) (by decide) (.slice pe acc.length ce) acc.length (flat acc) rfl hownA (.slice (some ⟨_, 0, none⟩) 1 1) 1 (flat [(u, v, t)]) rfl hsrc (by unfold maxLen; omega) (by omega) hbA.size ?_; intro v6 w6 hown6 hg6 hat6; have hb6 := hbA.grown hg6 hbA.size hlow; obtain ⟨p6, c6, rfl⟩ := owns_form hown6)
                        all_goals go_wp2
                        all_goals refine ⟨⟨acc ++ [(u, v, t)], by simp; omega, by simp; omega, by simp, ?_, hb6, by rw [Hid, HRO.out, List.length_append]; rfl⟩, by simp [intOf]; omega⟩
                        all_goals rw [List.length_append, show flat (acc ++ [(u, v, t)]) = flat acc ++ flat [(u, v, t)] by simp [flat]]
                        all_goals exact hown6
                      · have HX3 : Hid (PM = ⟨0, [], some (lineB, ((acc.length + 1 + 1 : Nat) : Int), edgeK n (u, v, t))⟩) := by
                          rw [Hid, HX2.out, HRE.out, HEL.out, if_neg hk0]
                          rfl
                        rw [show ((acc.length + 1 + 1 : Nat) : Int) = (acc.length : Int) + 1 + 1 by omega] at HX3
                        have hk1 : (edgeK n (u, v, t) != 0) = true := by simpa using hk0
                        clear HX2 HRE HEL hk0
                        generalize edgeK n (u, v, t) = kk at *
                        obtain ⟨⟨r0, r1, rf0, rf1⟩, t0, t1, t2, tf0, tf1, tf2⟩ := hIk.cells
                        obtain ⟨g1, g2, g3⟩ := hIk.put 0 (.slice none 0 0) lineB ((acc.length : Int) + 1 + 1) kk
                        go_wp2
                        (try simp only [Exit.inBlock, Exit.then])
                        refine bodyPost_ret (ret_gf rfl (by rfl) (by rfl) (g1.cell (j := 0) rfl) (g1.cell (j := 1) rfl) (g2.cell (j := 0) rfl) (g2.cell (j := 1) rfl) (g2.cell (j := 2) rfl)) rfl ?_
                        rw [HX3.out]
                        exact ⟨_, rfl, Edges.nil _ _ _ _, g3⟩
              · have hin' : (N : Int) ≤ (acc.length : Int) + 1 := by have := HLN.out; omega
                have HX3 : Hid (PM = ⟨0, [], some (lineB, ((acc.length + 1 + 1 : Nat) : Int), 3)⟩) := by
                  rw [Hid, HX2.out, HR.out, List.drop_eq_nil_of_le (by omega), show M - acc.length = (M - (acc.length + 1)) + 1 by omega]
                  rfl
                rw [show ((acc.length + 1 + 1 : Nat) : Int) = (acc.length : Int) + 1 + 1 by omega] at HX3
                clear HX2 HR hin
                obtain ⟨⟨r0, r1, rf0, rf1⟩, t0, t1, t2, tf0, tf1, tf2⟩ := hIr.cells
                obtain ⟨g1, g2, g3⟩ := hIr.put 0 (.slice none 0 0) lineB ((acc.length : Int) + 1 + 1) 3
                go_wp2
                (try simp only [Exit.inBlock, Exit.then])
                refine bodyPost_ret (ret_gf rfl (by rfl) (by rfl) (g1.cell (j := 0) rfl) (g1.cell (j := 1) rfl) (g2.cell (j := 0) rfl) (g2.cell (j := 1) rfl) (g2.cell (j := 2) rfl)) rfl ?_
                rw [HX3.out]
                exact ⟨_, rfl, Edges.nil _ _ _ _, g3⟩
            · have hlt' : ¬ (acc.length : Int) + 1 ≤ (M : Int) := by omega
              have hMa : M = acc.length := by omega
              have HXF : Hid (PM = tailP n tl (.ok (acc, ls.drop acc.length, acc.length + 1))) := by
                rw [Hid, HX2.out, HR.out, hMa, Nat.sub_self]
                rfl
              clear HX2 HR
              subst hMa
              by_cases hmore : acc.length < ls.length
              · have hm1 : (acc.length : Int) + 1 < (N : Int) := by have := HLN.out; omega
                have HX3 : Hid (PM = ⟨0, [], some (lineB, ((acc.length + 1 + 1 : Nat) : Int), 3)⟩) := by
                  rw [Hid, HXF.out]
                  simp only [tailP]
                  rw [if_neg]
                  intro h
                  have h2 := congrArg List.length h.1
                  rw [List.length_drop] at h2
                  simp at h2
                  omega
                rw [show ((acc.length + 1 + 1 : Nat) : Int) = (acc.length : Int) + 2 by omega] at HX3
                clear HXF
                obtain ⟨⟨r0, r1, rf0, rf1⟩, t0, t1, t2, tf0, tf1, tf2⟩ := hIr.cells
                obtain ⟨g1, g2, g3⟩ := hIr.put 0 (.slice none 0 0) lineB ((acc.length : Int) + 2) 3
                go_wp2
                (try simp only [Exit.inBlock, Exit.then])
                refine bodyPost_ret (ret_gf rfl (by rfl) (by rfl) (g1.cell (j := 0) rfl) (g1.cell (j := 1) rfl) (g2.cell (j := 0) rfl) (g2.cell (j := 1) rfl) (g2.cell (j := 2) rfl)) rfl ?_
                rw [HX3.out]
                exact ⟨_, rfl, Edges.nil _ _ _ _, g3⟩
              · have hm1 : ¬ (acc.length : Int) + 1 < (N : Int) := by have := HLN.out; omega
                have hdn : ls.drop acc.length = [] := List.drop_eq_nil_of_le (by omega)
                cases en with
                | false =>
                  have htl : tl ≠ [] := by
                    have := HEN.out
                    simpa using this
                  have HX3 : Hid (PM = ⟨0, [], some (lineB, ((acc.length + 1 + 1 : Nat) : Int), 3)⟩) := by
                    rw [Hid, HXF.out]
                    simp only [tailP]
                    rw [if_neg (fun h => htl h.2)]
                  rw [show ((acc.length + 1 + 1 : Nat) : Int) = (acc.length : Int) + 2 by omega] at HX3
                  clear HXF htl hdn
                  obtain ⟨⟨r0, r1, rf0, rf1⟩, t0, t1, t2, tf0, tf1, tf2⟩ := hIr.cells
                  obtain ⟨g1, g2, g3⟩ := hIr.put 0 (.slice none 0 0) lineB ((acc.length : Int) + 2) 3
                  go_wp2
                  (try simp only [Exit.inBlock, Exit.then])
                  refine bodyPost_ret (ret_gf rfl (by rfl) (by rfl) (g1.cell (j := 0) rfl) (g1.cell (j := 1) rfl) (g2.cell (j := 0) rfl) (g2.cell (j := 1) rfl) (g2.cell (j := 2) rfl)) rfl ?_
                  rw [HX3.out]
                  exact ⟨_, rfl, Edges.nil _ _ _ _, g3⟩
                | true =>
                  have htl : tl = [] := by
                    have := HEN.out
                    simpa using this
                  have HXG : Hid (PM = ⟨makeN n acc, makeL n acc, if makeK n acc = 0 then none else some (textB, 0, makeK n acc)⟩) := by
                    rw [Hid, HXF.out]
                    simp only [tailP]
                    rw [if_pos ⟨hdn, htl⟩]
                  clear HXF htl hdn
                  have hmk := refMake_any n acc hq2 _ _ (edges_of_owns hown)
                  go_wp2_with fail
                  refine hmk.mono ?_
                  clear hmk
                  rintro e w5 ⟨gv, rfl, hg5, hab, hb5⟩
                  obtain ⟨pg, cg, rfl⟩ := hg5.len
                  have hsz := hIr.flt.lt
                  have hAb : Above (w.heap.size + 2) (.slice pg (makeL n acc).length cg) := fun a len c h h0 => by have := hab a len c h h0; omega
                  have hI5 := hIr.go hb5
                  have HNL : Hid (makeK n acc ≠ 0 → makeN n acc = 0 ∧ makeL n acc = []) := fun h => by
                    unfold makeN makeL
                    rw [if_neg h, if_neg h]
                    exact ⟨rfl, rfl⟩
                  generalize makeN n acc = NN at *
                  generalize makeL n acc = LL at *
                  generalize makeK n acc = KK at *
                  have hb6 : Below w5.heap.size w5 (w5.alloc (.cells #[.int .i64 NN, .slice pg LL.length cg] 30)) := (Below.refl _ _).alloc (Nat.le_refl _) _
                  have hG6 : Blk 30 (w5.alloc (.cells #[.int .i64 NN, .slice pg LL.length cg] 30)) w5.heap.size [.int .i64 NN, .slice pg LL.length cg] := heap_alloc_new w5 _
                  have hI6 := hI5.go hb6
                  have hg6 := hg5.go hb6
                  have m0 := hG6.cell (j := 0) rfl
                  have m1 := hG6.cell (j := 1) rfl
                  have hszw : w.heap.size + 1 < w5.heap.size := hI5.flt.lt
                  generalize hw6 : w5.alloc (.cells #[.int .i64 NN, .slice pg LL.length cg] 30) = w6 at hI6 hg6 m0 m1
                  by_cases hk0 : KK = 0
                  · subst hk0
                    have HX3 : Hid (PM = ⟨NN, LL, none⟩) := by rw [Hid, HXG.out, if_pos rfl]
                    clear HXG
                    obtain ⟨⟨r0, r1, rf0, rf1⟩, t0, t1, t2, tf0, tf1, tf2⟩ := hI6.cells
                    obtain ⟨g1, g2, g3⟩ := hI6.put NN (.slice pg LL.length cg) ⟨#[]⟩ 0 0
                    have hEd := putR_edges (n := NN) (gv := .slice pg LL.length cg) (s := ⟨#[]⟩) (a := 0) (k := 0) hg6 hAb
                    go_wp2
                    (try simp only [Exit.inBlock, Exit.then])
                    refine bodyPost_ret (ret_gf rfl (by rfl) (by rfl) (g1.cell (j := 0) rfl) (g1.cell (j := 1) rfl) (g2.cell (j := 0) rfl) (g2.cell (j := 1) rfl) (g2.cell (j := 2) rfl)) rfl ?_
                    rw [HX3.out]
                    exact ⟨_, rfl, hEd, g3⟩
                  · have HX3 : Hid (PM = ⟨0, [], some (textB, 0, KK)⟩) := by
                      rw [Hid, HXG.out, if_neg hk0]
                      obtain ⟨e1, e2⟩ := HNL.out hk0
                      rw [e1, e2]
                    have hk1 : (KK != 0) = true := by simpa using hk0
                    clear HXG HNL hk0
                    obtain ⟨⟨r0, r1, rf0, rf1⟩, t0, t1, t2, tf0, tf1, tf2⟩ := hI6.cells
                    obtain ⟨g1, g2, g3⟩ := hI6.put 0 (.slice none 0 0) textB 0 KK
                    go_wp2
                    (try simp only [Exit.inBlock, Exit.then])
                    refine bodyPost_ret (ret_gf rfl (by rfl) (by rfl) (g1.cell (j := 0) rfl) (g1.cell (j := 1) rfl) (g2.cell (j := 0) rfl) (g2.cell (j := 1) rfl) (g2.cell (j := 2) rfl)) rfl ?_
                    rw [HX3.out]
                    exact ⟨_, rfl, Edges.nil _ _ _ _, g3⟩
end Go.Proofs.YthlkknfhganecaaGreatDoor
