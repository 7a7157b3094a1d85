/-
  text.Print: the canonical text of a right graph; of one that is not, why it has none.
-/
import Derived.Test.YthlkknfhganecaaGreatDoorUPrint1
namespace Go.Proofs.YthlkknfhganecaaGreatDoor
open Go Go.Proofs Go.RowKit

def tellE (e : Ed) : List UInt8 := lineL edgeB [e.1, e.2.1, e.2.2]
def tellH (n k : Int) : List UInt8 := lineL graphB [n, k]
def printL (n : Int) (l : List Ed) : List UInt8 := tellH n (l.length : Int) ++ l.flatMap tellE
theorem lineL_len (word : ByteArray) (ns : List Int) (h : ∀ x ∈ ns, In64 x) : (lineL word ns).length ≤ word.size + 22 * ns.length + 1 := by
  have h1 := fm_len ns h
  have e1 : word.data.toList.length = word.size := Array.length_toList
  simp only [lineL, List.length_append, List.length_cons, List.length_nil, e1]
  omega
theorem edges_len : ∀ (l : List Ed), (∀ e ∈ l, In64 e.1 ∧ In64 e.2.1 ∧ In64 e.2.2) → (l.flatMap tellE).length ≤ 72 * l.length
  | [], _ => by simp
  | e :: l, h => by
    have h1 := edges_len l (fun x hx => h x (by simp [hx]))
    obtain ⟨a, b, c⟩ := h e (by simp)
    have h2 := lineL_len edgeB [e.1, e.2.1, e.2.2] (by simp [a, b, c])
    have e1 : edgeB.size = 4 := rfl
    have e2 : [e.1, e.2.1, e.2.2].length = 3 := rfl
    simp only [List.flatMap_cons, List.length_append, List.length_cons, tellE] at h1 ⊢
    omega
theorem headP_list (n k : Int) : (headP n k).data.toList = tellH n k := by
  simp [headP, tellH, lineL, graphB, iB]
theorem edgeP_list (s : ByteArray) (e : Ed) : (edgeP s e).data.toList = s.data.toList ++ tellE e := by
  simp [edgeP, tellE, lineL, edgeB, iB]
theorem fold_list : ∀ (l : List Ed) (s : ByteArray), (l.foldl edgeP s).data.toList = s.data.toList ++ l.flatMap tellE
  | [], s => by simp
  | e :: l, s => by rw [List.foldl_cons, fold_list l, edgeP_list]; simp
theorem printB_list (n : Int) (l : List Ed) : (printB n l).data.toList = printL n l := by
  rw [printB, fold_list, headP_list]; rfl
theorem right64 {n : Int} {l : List Ed} (h : RightG n l) : ∀ e ∈ l, In64 e.1 ∧ In64 e.2.1 ∧ In64 e.2.2 := fun e he => by
  obtain ⟨⟨h1, h2, h3, h4, h5, h6, h7⟩, _⟩ := h.each e he
  have := h.n1
  unfold In64
  omega
theorem bytes_of_owns {W : World} {base : Nat} {v : Value} {xs : List UInt8} (h : W.ownsRow base 5 1 v xs.length (Lib.byteCells xs)) : Bytes W.heap.size W v (xs.map fun b => (b.toNat : Int)) := by
  rcases h.2 with ⟨rfl, h0⟩ | ⟨g, cap, cur, rfl, hb, hg, hn, hc⟩
  · have : xs = [] := List.eq_nil_of_length_eq_zero h0
    subst this
    exact .inl ⟨⟨_, _, rfl⟩, rfl⟩
  · refine .inr ⟨g, 0, cap, by rw [List.length_map], (Array.getElem?_eq_some_iff.1 hg).1, by rw [List.length_map]; exact hn, fun j x hx => ?_⟩
    have := h.cells (g := g) rfl j (.int .u8 x) (by
      rw [List.getElem?_map] at hx
      obtain ⟨b, hb1, hb2⟩ := Option.map_eq_some_iff.1 hx
      subst hb2
      simp [Lib.byteCells, hb1])
    rwa [Lib.add_plain] at this

theorem PrI.alloc {c : Nat} {xs : List UInt8} {W : World} (h : PrI c xs W) (o : Obj) : PrI c xs (W.alloc o) := by
  obtain ⟨tv, h1, h2⟩ := h
  exact ⟨tv, (Below.heap_alloc _ _ _ (Array.getElem?_eq_some_iff.1 h1).1).trans h1, h2.alloc _⟩
theorem enters30 (args : Array Value) (W : World) : (callFunc 30 args).run Tryz.prog W = .ok (.enter 30 args) W := by kernel_rfl

set_option maxRecDepth 100000 in
set_option maxHeartbeats 2000000 in
theorem print_bad (n : Int) (l : List Ed) (hR : rightK n l ≠ 0) (sv : Value) (w : World) (hl : Edges w.heap.size w sv l) :
    Calls Tryz.prog 15 #[.agg #[.int .i64 n, sv]] w fun e w' => ∃ ev, e = .returned (.tuple #[.slice none 0 0, ev]) ∧ ErrIs w' ev (some (graphB, 0, rightK n l)) ∧ Below w.heap.size w w' := by
  obtain ⟨p, q, rfl⟩ := hl.len
  have hb1 : Below w.heap.size w (w.alloc (.cells #[.int .i64 n, .slice p l.length q] 30)) := (Below.refl _ _).alloc (Nat.le_refl _) _
  have hX1 : Blk 30 (w.alloc (.cells #[.int .i64 n, .slice p l.length q] 30)) w.heap.size [.int .i64 n, .slice p l.length q] := heap_alloc_new w _
  have q0 := hX1.cell (j := 0) rfl
  have q1 := hX1.cell (j := 1) rfl
  have hr := right_any n l _ _ (hl.go hb1)
  go_enter Tryz.func15, Tryz.ntmps15
  go_wp2_with fail
  refine hr.mono ?_
  clear hr
  rintro e w2 ⟨rfl, hg2⟩
  have hb2 := hb1.trans (hg2.below.mono hb1.size)
  have hw := fun W => wrap_any graphB 0 _ (Wraps.kind (rightK n l) hR) W
  go_wp2_with fail
  refine (hw _).mono ?_
  rintro e w3 ⟨rfl, rfl⟩
  have hb3 : Below w.heap.size w (w2.alloc (.cells #[.string graphB, .int .i64 0, .iface 22 (.int .i64 (rightK n l))] 83)) := hb2.trans (((Below.refl _ _).alloc (Nat.le_refl _) _).mono hb2.size)
  go_wp2
  go_ret2
  exact ⟨_, rfl, ⟨hR, _, rfl, heap_alloc_new _ _⟩, hb3⟩

set_option maxRecDepth 100000 in
set_option maxHeartbeats 2000000 in
theorem print_good (n : Int) (l : List Ed) (hR : RightG n l) (sv : Value) (w : World) (hE : Env w) (hl : Edges w.heap.size w sv l) :
    Calls Tryz.prog 15 #[.agg #[.int .i64 n, sv]] w fun e w' => ∃ bv, e = .returned (.tuple #[bv, .nilIface]) ∧ Bytes w'.heap.size w' bv ((printL n l).map fun b => (b.toNat : Int)) ∧ Below w.heap.size w w' := by
  have hI := right64 hR
  have hm1 := hR.m1
  have hn64 : In64 n := by have := hR.n0; have := hR.n1; unfold In64; omega
  have hk64 : In64 (l.length : Int) := by have := hR.m1; unfold In64; omega
  have hm := hmf
  obtain ⟨p, q, rfl⟩ := hl.len
  have hb1 : Below w.heap.size w (w.alloc (.cells #[.int .i64 n, .slice p l.length q] 30)) := (Below.refl _ _).alloc (Nat.le_refl _) _
  have hX1 : Blk 30 (w.alloc (.cells #[.int .i64 n, .slice p l.length q] 30)) w.heap.size [.int .i64 n, .slice p l.length q] := heap_alloc_new w _
  have q0 := hX1.cell (j := 0) rfl
  have q1 := hX1.cell (j := 1) rfl
  have hr := right_any n l _ _ (hl.go hb1)
  rw [right_iff.2 hR] at hr
  go_enter Tryz.func15, Tryz.ntmps15
  go_wp2_with fail
  refine hr.mono ?_
  clear hr
  rintro e w2 ⟨rfl, hg2⟩
  have hb2 := hb1.trans (hg2.below.mono hb1.size)
  have hX2 := hX1.go hg2.below
  have hw := fun W => wrap_ok graphB 0 W
  go_wp2_with fail
  refine (hw _).mono ?_
  rintro e w3 ⟨rfl, rfl⟩
  have hE3 := hE.go hb2
  have r0 := hX2.cell (j := 0) rfl
  have r1 := hX2.cell (j := 1) rfl
  have hlt2 : w.heap.size < w3.heap.size := by have := hg2.below.size; simp only [World.size_alloc] at this; omega
  have hs3 := hb2.size
  have HL3 := hl.go hb2
  have hc4 : (w3.alloc (.cells #[.slice none 0 0] 27)).heap[w3.heap.size]? = some (.cells #[.slice none 0 0] 27 (0, 0)) := heap_alloc_new _ _
  have hb4 : Below w3.heap.size w3 (w3.alloc (.cells #[.slice none 0 0] 27)) := (Below.refl _ _).alloc (Nat.le_refl _) _
  have hb5 : Below w3.heap.size w3 ((w3.alloc (.cells #[.slice none 0 0] 27)).alloc (.cells #[.int .i64 n, .int .i64 (l.length : Int)] 2)) := hb4.alloc hb4.size _
  have hN5 : NB ((w3.alloc (.cells #[.slice none 0 0] 27)).alloc (.cells #[.int .i64 n, .int .i64 (l.length : Int)] 2)) (w3.heap.size + 1) [n, (l.length : Int)] := by
    have := heap_alloc_new (w3.alloc (.cells #[.slice none 0 0] 27)) (.cells #[.int .i64 n, .int .i64 (l.length : Int)] 2)
    rw [World.size_alloc] at this
    exact this
  have hP5 : PrI w3.heap.size [] ((w3.alloc (.cells #[.slice none 0 0] 27)).alloc (.cells #[.int .i64 n, .int .i64 (l.length : Int)] 2)) := ⟨.slice none 0 0, (Below.heap_alloc _ _ _ (by simp)).trans hc4, World.ownsRow_nil _ _ _ _⟩
  have hline := line1_any w3.heap.size (w3.heap.size + 1) 2 graphB (by decide) [n, (l.length : Int)] (by simp) (by simp [hn64, hk64]) [] (by simp) _ hE3.all (hE3.go hb5) hP5 hN5
  go_wp2_with fail
  refine hline.mono ?_
  clear hline hw q0 q1 hX1
  rintro e w6 ⟨rfl, hP6, hb6'⟩
  rw [List.nil_append] at hP6
  have hb6 : Below w3.heap.size w3 w6 := hb5.trans hb6'
  have s0 := cell_keep hb6 r0
  have s1 := cell_keep hb6 r1
  clear hP5 hN5 hb5 hb4 hc4 hb6' hm
  go_wp2
  go_loopw [28] (fun iv wr => ∃ j : Nat, j ≤ l.length ∧ iv = .int .i64 j ∧ PrI w3.heap.size (tellH n (l.length : Int) ++ (l.take j).flatMap tellE) wr ∧ Below w3.heap.size w3 wr) (fun iv _ => l.length - (intOf iv).toNat)
  case atStart => exact ⟨0, Nat.zero_le _, rfl, by simpa [tellH] using hP6, hb6⟩
  case round =>
    obtain ⟨j, hj, rfl, hPr, hbr⟩ := hrel
    have hsr := hbr.size
    by_cases hlt : j < l.length
    · have hlt' : (j : Int) < (l.length : Int) := by omega
      obtain ⟨b, off, rfl, hbb, hcap, hc, -⟩ := HL3.open hlt
      obtain ⟨c0, c1, c2⟩ := hc wr hbr j hlt
      obtain ⟨g0, g1, g2⟩ := hI l[j] (List.getElem_mem hlt)
      have hlen : (tellH n (l.length : Int) ++ (l.take j).flatMap tellE).length ≤ 1000000000 := by
        have h1 := edges_len (l.take j) (fun e he => hI e (List.mem_of_mem_take he))
        have h2 := lineL_len graphB [n, (l.length : Int)] (by simp [hn64, hk64])
        have h3 := List.length_take_le' j l
        have h4 := hR.m1
        have e1 : graphB.size = 5 := rfl
        have e2 : [n, (l.length : Int)].length = 2 := rfl
        rw [List.length_append, tellH]
        omega
      have HS : Hid (tellH n (l.length : Int) ++ (l.take (j + 1)).flatMap tellE = tellH n (l.length : Int) ++ (l.take j).flatMap tellE ++ tellE l[j]) := by
        rw [Hid, List.take_succ_eq_append_getElem hlt, List.flatMap_append, List.append_assoc]
        simp only [List.flatMap_cons, List.flatMap_nil, List.append_nil]
      have HE : Hid (tellE l[j] = lineL edgeB [l[j].1, l[j].2.1, l[j].2.2]) := rfl
      generalize tellH n (l.length : Int) ++ (l.take j).flatMap tellE = A at hPr hlen HS
      have hbr2 : b < wr.heap.size := Nat.lt_of_lt_of_le hbb hsr
      clear hc
      generalize l[j].1 = x0 at *
      generalize l[j].2.1 = x1 at *
      generalize l[j].2.2 = x2 at *
      have hb7 : Below w3.heap.size w3 ((wr.alloc (.cells #[.int .i64 x0, .int .i64 x1, .int .i64 x2] 50)).alloc (.cells #[.int .i64 x0, .int .i64 x1, .int .i64 x2] 2)) := (hbr.alloc hsr _).alloc (by rw [World.size_alloc]; omega) _
      have hP7 := (hPr.alloc (.cells #[.int .i64 x0, .int .i64 x1, .int .i64 x2] 50)).alloc (.cells #[.int .i64 x0, .int .i64 x1, .int .i64 x2] 2)
      have hN7 : NB ((wr.alloc (.cells #[.int .i64 x0, .int .i64 x1, .int .i64 x2] 50)).alloc (.cells #[.int .i64 x0, .int .i64 x1, .int .i64 x2] 2)) (wr.heap.size + 1) [x0, x1, x2] := by
        have := heap_alloc_new (wr.alloc (.cells #[.int .i64 x0, .int .i64 x1, .int .i64 x2] 50)) (.cells #[.int .i64 x0, .int .i64 x1, .int .i64 x2] 2)
        rw [World.size_alloc] at this
        exact this
      have hline := line1_any w3.heap.size (wr.heap.size + 1) 3 edgeB (by decide) [x0, x1, x2] (by simp) (by simp [g0, g1, g2]) A hlen _ hE3.all (hE3.go hb7) hP7 hN7
      go_wp2_with fail
      refine hline.mono ?_
      clear hline
      rintro e w8 ⟨rfl, hP8, hb8⟩
      go_wp2
      exact ⟨⟨j + 1, by omega, by go_num, by rw [HS.out, HE.out]; exact hP8, hb7.trans hb8⟩, by simp [intOf]; omega⟩
    · obtain rfl : j = l.length := by omega
      have hlt' : ¬ (l.length : Int) < (l.length : Int) := by omega
      rw [List.take_length] at hPr
      obtain ⟨tv, hct, hown⟩ := hPr
      obtain ⟨a9, m9, k9, rfl⟩ := owns_slice hown
      have t0 := cell0 hct
      have hB := bytes_of_owns hown
      clear hown
      go_wp2
      go_ret2
      exact ⟨_, rfl, hB, hb2.trans (hbr.mono hs3)⟩
end Go.Proofs.YthlkknfhganecaaGreatDoor
