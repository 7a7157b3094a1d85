/-
  The contract of text.Parse.
-/
import Derived.Laws.BytesArg
import Derived.Test.YthlkknfhganecaaGreatDoorURead
namespace Go.Proofs.YthlkknfhganecaaGreatDoor
open Go Go.Proofs Go.RowKit

abbrev Bytes (n : Nat) (W : World) (sv : Value) (xs : List Int) : Prop := Vals (Value.int .u8) n W sv xs
theorem conv_any {n : Nat} {W : World} {sv : Value} {xs : List Int} (h : Bytes n W sv xs) : (convert 27 9 sv).run Tryz.prog W = .ok (.string (strOfNums xs)) W := by
  rcases h with ⟨⟨p, c, rfl⟩, rfl⟩ | ⟨b, off, cap, rfl, _, _, h4⟩
  · rw [run_convert_bytes_string W 27 9 5 _ 0 c Tryz.underlying27 Tryz.underlying5 Tryz.underlying9]
    cases p <;> simp [Conv.bytesToString, loadCells]
    all_goals rfl
  · exact run_convert_bytes_arg W 27 5 Tryz.underlying27 Tryz.underlying5 b off xs.length cap xs rfl (fun i hi => by rw [h4 i xs[i] (List.getElem?_eq_getElem hi)]; simp [hi]) 9 Tryz.underlying9

/-- A slice's block is none of those below n. -/
def Above (n : Nat) (sv : Value) : Prop := ∀ a len c, sv = .slice (some a) len c → 0 < len → n ≤ a.block
theorem Edges.setB {W : World} {n : Nat} {sv : Value} {l : List Ed} (h : Edges W.heap.size W sv l) (ha : Above n sv) {p : Addr} (hp : p.block < n) (v : Value) : Edges (W.setCell p v).heap.size (W.setCell p v) sv l := by
  rcases h with h | ⟨b, off, cap, h1, h2, h3, h4⟩
  · exact .inl h
  · refine .inr ⟨b, off, cap, h1, by simpa using h2, h3, fun j x hx => ?_⟩
    have hj := (List.getElem?_eq_some_iff.1 hx).1
    have hb := ha _ _ _ h1 (by omega)
    simp only at hb
    obtain ⟨k0, k1, k2⟩ := h4 j x hx
    have hne : ∀ o, p ≠ ⟨b, o, none⟩ := fun o e => by rw [e] at hp; simp at hp; omega
    exact ⟨(World.cell?_setCell_other _ _ _ _ (hne _)).trans k0, (World.cell?_setCell_other _ _ _ _ (hne _)).trans k1, (World.cell?_setCell_other _ _ _ _ (hne _)).trans k2⟩
def textB : ByteArray := ⟨#[116, 101, 120, 116]⟩
/-- A graph, and what is wrong: where, at which place, of which kind. -/
structure Parsed where
  n : Int
  l : List Ed
  bad : Option (ByteArray × Int × Int)
def parseM (xs : List Int) : Parsed := if (134217728 : Int) < (xs.length : Int) then ⟨0, [], some (textB, 0, 4)⟩ else
  match readM (strOfNums xs) with
  | .error (x, k) => ⟨0, [], some (lineB, (k : Int), x)⟩
  | .ok (n, es) => ⟨makeN n es, makeL n es, if makeK n es = 0 then none else some (textB, 0, makeK n es)⟩
def ErrIs (w : World) (ev : Value) : Option (ByteArray × Int × Int) → Prop
  | none => ev = .nilIface
  | some (s, a, x) => x ≠ 0 ∧ ∃ b, ev = .iface 81 (.pointer (some ⟨b, 0, none⟩)) ∧ FB w b s a (.iface 22 (.int .i64 x))
/-- What Parse ends with. -/
def ParseP (p : Parsed) (w : World) (e : Ending) (w' : World) : Prop := ∃ gv ev, e = .returned (.tuple #[.agg #[.int .i64 p.n, gv], ev]) ∧ Edges w'.heap.size w' gv p.l ∧ ErrIs w' ev p.bad ∧ Below w.heap.size w w'


theorem read_bad {text : ByteArray} {x : Int} {k : Nat} (h : readM text = .error (x, k)) : x ≠ 0 := by
  have hE : ∀ (n : Int) (m : Nat) (rest : ByteArray) (j : Nat) (acc : List Ed) (p : Int × Nat), readEdges n m rest j acc = .error p → p.1 ≠ 0 := by
    intro n m
    induction m with
    | zero => intro rest j acc p h; cases h
    | succ m ih =>
      intro rest j acc p h
      rw [readEdges] at h
      split at h
      · rename_i hx; cases h; exact edge_err hx
      · exact ih _ _ _ _ h
  unfold readM at h
  split at h
  · rename_i hx; cases h; exact head_err hx
  · rename_i n m _
    generalize hr : readEdges n m.toNat (lineR text) 1 [] = r at h
    cases r with
    | error p => cases h; exact hE _ _ _ _ _ _ hr
    | ok q =>
      obtain ⟨es, rest, j⟩ := q
      have h2 : (if endM rest = true then (Except.ok (n, es) : Except (Int × Nat) (Int × List Ed)) else .error (3, j + 1)) = .error (x, k) := h
      split at h2
      · cases h2
      · cases h2; decide

set_option maxRecDepth 100000 in
set_option maxHeartbeats 4000000 in
theorem parse_any (xs : List Int) (hx : xs.length ≤ 140737488355328) (sv : Value) (w : World) (hE : Env w) (hB : Bytes w.heap.size w sv xs) :
    Calls Tryz.prog 11 #[sv] w (ParseP (parseM xs) w) := by
  have hmix := mixed
  obtain ⟨p, c, rfl⟩ := hB.len
  have hb1 : Below w.heap.size w (w.alloc (.cells #[.int .i64 0, .slice none 0 0] 30)) := (Below.refl _ _).alloc (Nat.le_refl _) _
  have hG1 : Blk 30 (w.alloc (.cells #[.int .i64 0, .slice none 0 0] 30)) w.heap.size [.int .i64 0, .slice none 0 0] := heap_alloc_new w _
  have HM : Hid (parseM xs = if (134217728 : Int) < (xs.length : Int) then ⟨0, [], some (textB, 0, 4)⟩ else match readM (strOfNums xs) with | .error (x, k) => ⟨0, [], some (lineB, (k : Int), x)⟩ | .ok (n, es) => ⟨makeN n es, makeL n es, if makeK n es = 0 then none else some (textB, 0, makeK n es)⟩) := rfl
  by_cases hl : (134217728 : Int) < (xs.length : Int)
  · have HX : Hid (parseM xs = ⟨0, [], some (textB, 0, 4)⟩) := by rw [Hid, HM.out, if_pos hl]
    clear HM
    go_enter Tryz.func11, Tryz.ntmps11
    go_wp2_with fail
    refine (wrap_any textB 0 (.iface 22 (.int .i64 4)) (Wraps.kind 4 (by decide)) _).mono ?_
    rintro e w2 ⟨rfl, rfl⟩
    have hb2 : Below (w.alloc (.cells #[.int .i64 0, .slice none 0 0] 30)).heap.size (w.alloc (.cells #[.int .i64 0, .slice none 0 0] 30)) ((w.alloc (.cells #[.int .i64 0, .slice none 0 0] 30)).alloc (.cells #[.string textB, .int .i64 0, .iface 22 (.int .i64 4)] 83)) := (Below.refl _ _).alloc (Nat.le_refl _) _
    have hG2 := hG1.go hb2
    have hF2 := heap_alloc_new (w.alloc (.cells #[.int .i64 0, .slice none 0 0] 30)) (.cells #[.string textB, .int .i64 0, .iface 22 (.int .i64 4)] 83)
    go_wp2
    (try simp only [Exit.inBlock, Exit.then])
    refine bodyPost_ret (ret_graph rfl (by rfl) (hG2.cell (j := 0) rfl) (hG2.cell (j := 1) rfl)) rfl ?_
    rw [HX.out]
    simp only [World.size_alloc] at hF2
    exact ⟨.slice none 0 0, _, rfl, Edges.nil _ _ _ _, ⟨by decide, w.heap.size + 1, rfl, hF2⟩, hb1.trans (hb2.mono hb1.size)⟩
  · have hs : (strOfNums xs).size ≤ 134217728 := by rw [strOfNums_size]; omega
    have hB1 := hB.go hb1
    have hcv := conv_any hB1
    have hE1 := hE.go hb1
    have hrd := read_any (strOfNums xs) hs _ hE1
    have hd : decide ((134217728 : Int) < (xs.length : Int)) = false := by simpa using hl
    have HY : Hid (parseM xs = match readM (strOfNums xs) with | .error (x, k) => ⟨0, [], some (lineB, (k : Int), x)⟩ | .ok (n, es) => ⟨makeN n es, makeL n es, if makeK n es = 0 then none else some (textB, 0, makeK n es)⟩) := by rw [Hid, HM.out, if_neg hl]
    clear HM hl
    generalize strOfNums xs = text at *
    go_enter Tryz.func11, Tryz.ntmps11
    go_wp2_with fail
    refine hrd.mono ?_
    rintro e w2 ⟨hb2, he2⟩
    clear hrd hcv
    have hG2 := hG1.go hb2
    have f0 := hG2.frozen 0
    have f1 := hG2.frozen 1
    have d0 := hG2.cell (j := 0) rfl
    have d1 := hG2.cell (j := 1) rfl
    have hbw2 := hb1.trans (hb2.mono hb1.size)
    cases hr : readM text with
    | error q =>
      obtain ⟨x, k⟩ := q
      rw [hr] at he2
      obtain ⟨b, rfl, hF⟩ := he2
      have hx := read_bad hr
      have HX : Hid (parseM xs = ⟨0, [], some (lineB, (k : Int), x)⟩) := by rw [Hid, HY.out, hr]
      clear HY hr
      go_wp2
      have hbf := (hG2.set 0 (.int .i64 0)).set 1 (.slice none 0 0)
      (try simp only [Exit.inBlock, Exit.then])
      refine bodyPost_ret (ret_graph rfl (by rfl) (hbf.cell (j := 0) rfl) (hbf.cell (j := 1) rfl)) rfl ?_
      rw [HX.out]
      have hbne : b ≠ w.heap.size := fun e => by
        subst e
        have h2 := (show w2.heap[w.heap.size]? = _ from hF).symm.trans (show w2.heap[w.heap.size]? = _ from hG2)
        simp at h2
      have hF2 : FB ((w2.setCell ⟨w.heap.size, 0, none⟩ (.int .i64 0)).setCell ⟨w.heap.size, 1, none⟩ (.slice none 0 0)) b lineB (k : Int) (.iface 22 (.int .i64 x)) := ((Below.heap_setCell _ _ _ _ hbne).trans (Below.heap_setCell _ _ _ _ hbne)).trans hF
      exact ⟨.slice none 0 0, _, rfl, Edges.nil _ _ _ _, ⟨hx, b, rfl, hF2⟩, (hbw2.setCell (p := ⟨w.heap.size, 0, none⟩) (Nat.le_refl _) _).setCell (p := ⟨w.heap.size, 1, none⟩) (Nat.le_refl _) _⟩
    | ok q =>
      obtain ⟨n, es⟩ := q
      rw [hr] at he2
      obtain ⟨ev, rfl, hEs⟩ := he2
      have HX : Hid (parseM xs = ⟨makeN n es, makeL n es, if makeK n es = 0 then none else some (textB, 0, makeK n es)⟩) := by rw [Hid, HY.out, hr]
      clear HY hr
      obtain ⟨pe, ce, rfl⟩ := hEs.len
      have hmk := make_at n es _ _ hEs
      go_wp2_with fail
      refine hmk.mono ?_
      rintro e w3 ⟨gv, rfl, hg3, hab, hb3⟩
      clear hmk
      obtain ⟨pg, cg, rfl⟩ := hg3.len
      generalize makeN n es = N at *
      generalize makeK n es = k at *
      generalize makeL n es = L at *
      have hG3 := hG2.go hb3
      have hbw3 := hbw2.trans (hb3.mono hbw2.size)
      have hb4 : Below w3.heap.size w3 (w3.alloc (.cells #[.int .i64 N, .slice pg L.length cg] 30)) := (Below.refl _ _).alloc (Nat.le_refl _) _
      have hX4 : Blk 30 (w3.alloc (.cells #[.int .i64 N, .slice pg L.length cg] 30)) w3.heap.size [.int .i64 N, .slice pg L.length cg] := heap_alloc_new w3 _
      have hG4 := hG3.go hb4
      have hg4 := hg3.go hb4
      have hbw4 := hbw3.trans (hb4.mono hbw3.size)
      have hGl := hG3.lt
      generalize hw4 : w3.alloc (.cells #[.int .i64 N, .slice pg L.length cg] 30) = w4 at hb4 hX4 hG4 hg4 hbw4
      have x0 := hX4.cell (j := 0) rfl
      have x1 := hX4.cell (j := 1) rfl
      have g0 := hG4.cell (j := 0) rfl
      have g1 := hG4.cell (j := 1) rfl
      have fg0 := hG4.frozen 0
      have fg1 := hG4.frozen 1
      have hX4l := hX4.lt
      have hG4l := hG4.lt
      have hAb : Above (w.heap.size + 1) (.slice pg L.length cg) := fun a len c h h0 => by have := hab a len c h h0; have := hb2.size; simp at this; omega
      clear d0 d1 f0 f1 hG3 hG2
      by_cases hk : k = 0
      · subst hk
        have HXX : Hid (parseM xs = ⟨N, L, none⟩) := by rw [Hid, HX.out]; simp
        have hwo := wrap_ok textB 0
        go_wp2
        go_region_held3 (fun w' => w'.cell? ⟨w3.heap.size, 0, none⟩ = some (.int .i64 N) ∧ w'.cell? ⟨w3.heap.size, 1, none⟩ = some (.slice pg L.length cg)) ((repeat first | assumption | exact ⟨x0, x1⟩ | refine keepC_drew ?_ | refine keepC_alloc ?_ _ | refine keepC_set ?_ (by simp only; omega) (by simp only; omega) _)) (first | (go_at_call 22; refine (hwo _).mono ?_; rintro e wK ⟨rfl, rfl⟩))
        have hEd := (hg4.setB hAb (p := ⟨w.heap.size, 0, none⟩) (by simp only; omega) (.int .i64 N)).setB hAb (p := ⟨w.heap.size, 1, none⟩) (by simp only; omega) (.slice pg L.length cg)
        have hbf := (hG4.set 0 (.int .i64 N)).set 1 (.slice pg L.length cg)
        have hbF := (hbw4.setCell (p := ⟨w.heap.size, 0, none⟩) (Nat.le_refl _) (.int .i64 N)).setCell (p := ⟨w.heap.size, 1, none⟩) (Nat.le_refl _) (.slice pg L.length cg)
        go_wp2
        (try simp only [Exit.inBlock, Exit.then])
        refine bodyPost_ret (ret_graph rfl (by rfl) (hbf.cell (j := 0) rfl) (hbf.cell (j := 1) rfl)) rfl ?_
        rw [HXX.out]
        exact ⟨_, _, rfl, hEd, rfl, below_drewN hbF 1⟩
      · have hwa := wrap_any textB 0 (.iface 22 (.int .i64 k)) (Wraps.kind k hk)
        have HXX : Hid (parseM xs = ⟨N, L, some (textB, 0, k)⟩) := by rw [Hid, HX.out, if_neg hk]
        go_wp2
        go_region_held3 (fun w' => w'.cell? ⟨w3.heap.size, 0, none⟩ = some (.int .i64 N) ∧ w'.cell? ⟨w3.heap.size, 1, none⟩ = some (.slice pg L.length cg)) ((repeat first | assumption | exact ⟨x0, x1⟩ | refine keepC_drew ?_ | refine keepC_alloc ?_ _ | refine keepC_set ?_ (by simp only; omega) (by simp only; omega) _)) (first | (go_at_call 22; refine (hwa _).mono ?_; rintro e wK ⟨rfl, rfl⟩))
        have hEd := (hg4.setB hAb (p := ⟨w.heap.size, 0, none⟩) (by simp only; omega) (.int .i64 N)).setB hAb (p := ⟨w.heap.size, 1, none⟩) (by simp only; omega) (.slice pg L.length cg)
        have hbf := (hG4.set 0 (.int .i64 N)).set 1 (.slice pg L.length cg)
        have hbF := (hbw4.setCell (p := ⟨w.heap.size, 0, none⟩) (Nat.le_refl _) (.int .i64 N)).setCell (p := ⟨w.heap.size, 1, none⟩) (Nat.le_refl _) (.slice pg L.length cg)
        have hsz : ((w4.setCell ⟨w.heap.size, 0, none⟩ (.int .i64 N)).setCell ⟨w.heap.size, 1, none⟩ (.slice pg L.length cg)).heap.size = w4.heap.size := by simp
        go_wp2
        generalize (w4.setCell ⟨w.heap.size, 0, none⟩ (.int .i64 N)).setCell ⟨w.heap.size, 1, none⟩ (.slice pg L.length cg) = A at hEd hbf hbF hsz ⊢
        have hbA : Below A.heap.size A (A.alloc (.cells #[.string textB, .int .i64 0, .iface 22 (.int .i64 k)] 83)).drew := below_drewN ((Below.refl _ _).alloc (Nat.le_refl _) _) 1
        have hnew := heap_alloc_new A (.cells #[.string textB, .int .i64 0, .iface 22 (.int .i64 k)] 83)
        rw [hsz] at hnew
        have hbf2 := hbf.go hbA
        (try simp only [Exit.inBlock, Exit.then])
        refine bodyPost_ret (ret_graph rfl (by rfl) (hbf2.cell (j := 0) rfl) (hbf2.cell (j := 1) rfl)) rfl ?_
        rw [HXX.out]
        exact ⟨_, _, rfl, hEd.go hbA, ⟨hk, w4.heap.size, rfl, hnew⟩, hbF.trans (hbA.mono hbF.size)⟩

end Go.Proofs.YthlkknfhganecaaGreatDoor
