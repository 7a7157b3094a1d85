/-
  The contracts of (*reader).head, edge and end.
-/
import Derived.Test.YthlkknfhganecaaGreatDoorUNums
import Derived.Test.YthlkknfhganecaaGreatDoorGMake
namespace Go.Proofs.YthlkknfhganecaaGreatDoor
open Go Go.Proofs Go.RowKit

def graphB : ByteArray := ⟨#[103, 114, 97, 112, 104]⟩
def edgeB : ByteArray := ⟨#[101, 100, 103, 101]⟩
def headL (l : List Int) : Except Int (Int × Int) := if l.getD 0 0 < 0 ∨ l.getD 1 0 < 0 then .error 1 else if 1048576 < l.getD 0 0 ∨ 4194304 < l.getD 1 0 then .error 4 else .ok (l.getD 0 0, l.getD 1 0)
def headM (rest : ByteArray) : Except Int (Int × Int) := match numbersM rest graphB 2 with
  | none => .error 3
  | some l => headL l
def EndsAs {α : Type} (r : Except Int α) (enc : α → Value) (e : Ending) : Prop := match r with
  | .ok x => e = .returned (enc x)
  | .error x => e = kindP x
/-- What a method of the reader ends with. -/
def MethP {α : Type} (rb : Nat) (rest : ByteArray) (k : Nat) (w : World) (r : Except Int α) (enc : α → Value) (e : Ending) (w' : World) : Prop :=
  RB w' rb (lineR rest) (k + 1) ∧ w.grownBy w' (some rb) ∧ EndsAs r enc e
def encP (p : Int × Int) : Value := .tuple #[.int .i64 p.1, .int .i64 p.2]
theorem Blk.grown2 {t : TypeId} {A B : World} {g : Nat} {vs : List Value} {row : Option Nat} (h : Blk t A g vs) (hg : A.grownBy B row) (hne : some g ≠ row) : Blk t B g vs := (hg.block g h.lt hne).trans h
theorem ints_at {n : Nat} {W : World} {p : Option Addr} {cc c : Nat} {l : List Int} (h : Ints n W (.slice p c cc) l) (hl : l.length = c) {j : Nat} (hj : j < c) : ∃ b off, p = some ⟨b, off, none⟩ ∧ b < n ∧ c ≤ cc ∧ ∀ i, i < c → W.cell? ⟨b, off + i, none⟩ = some (.int .i64 (l.getD i 0)) := by
  rcases h with ⟨_, rfl⟩ | ⟨b, off, cap, h1, h2, h3, h4⟩
  · simp at hl; omega
  · simp only [Value.slice.injEq] at h1
    obtain ⟨rfl, _, rfl⟩ := h1
    refine ⟨b, off, rfl, h2, by omega, fun i hi => ?_⟩
    have hi2 : i < l.length := by omega
    have := h4 i l[i] (List.getElem?_eq_getElem hi2)
    rw [this]
    simp [List.getD, hi2]

set_option maxRecDepth 100000 in
set_option maxHeartbeats 4000000 in
theorem head_any (rb : Nat) (rest : ByteArray) (k : Nat) (hs : rest.size < 4294967000) (hk : k < 100000000) (w : World) (hE : Env w) (hrb : 9 ≤ rb) (hR : RB w rb rest k) :
    Calls Tryz.prog 46 #[.pointer (some ⟨rb, 0, none⟩)] w (MethP rb rest k w (headM rest) encP) := by
  have hmix := mixed
  have hnc := numbers_any rb rest graphB 2 k (by omega) (by omega) hs hk w hE hrb hR
  have HM : Hid (headM rest = match numbersM rest graphB 2 with | none => .error 3 | some l => headL l) := rfl
  have HP : Hid (∀ e W, RB W rb (lineR rest) (k + 1) → w.grownBy W (some rb) → EndsAs (headM rest) encP e → MethP rb rest k w (headM rest) encP e W) := fun e W h1 h2 h3 => ⟨h1, h2, h3⟩
  unfold NumsP at hnc
  cases hn : numbersM rest graphB 2 with
  | none =>
    rw [hn] at hnc
    have HH : Hid (headM rest = .error 3) := by rw [Hid, HM.out, hn]
    clear HM hn
    go_enter Tryz.func46, Tryz.ntmps46
    go_wp2_with fail
    refine hnc.mono ?_
    rintro e w2 ⟨hR2, hg2, rfl⟩
    exact ⟨rfl, HP.out _ _ hR2 hg2 (by rw [HH.out]; rfl)⟩
  | some l =>
    rw [hn] at hnc
    have HH : Hid (headM rest = headL l) := by rw [Hid, HM.out, hn]
    clear HM hn
    have HL : Hid (headL l = if l.getD 0 0 < 0 ∨ l.getD 1 0 < 0 then .error 1 else if 1048576 < l.getD 0 0 ∨ 4194304 < l.getD 1 0 then .error 4 else .ok (l.getD 0 0, l.getD 1 0)) := rfl
    go_enter Tryz.func46, Tryz.ntmps46
    go_wp2_with fail
    refine hnc.mono ?_
    rintro e w2 ⟨hR2, hg2, sv, rfl, hI, hlen⟩
    obtain ⟨p, cc, rfl⟩ := hI.len
    rw [hlen] at hI
    obtain ⟨b, off, rfl, hbl, hcc, hcell⟩ := ints_at hI hlen (j := 0) (by omega)
    have c0 := hcell 0 (by omega)
    have c1 := hcell 1 (by omega)
    rw [hlen]
    rw [Nat.add_zero] at c0
    clear hnc hI hcell hlen
    generalize l.getD 0 0 = n at c0 HL
    generalize l.getD 1 0 = m at c1 HL
    by_cases hn0 : n < 0
    · have HX : Hid (headM rest = .error 1) := by rw [Hid, HH.out, HL.out, if_pos (.inl hn0)]
      go_wp2
      exact ⟨rfl, HP.out _ _ hR2 hg2 (by rw [HX.out]; rfl)⟩
    · by_cases hm0 : m < 0
      · have HX : Hid (headM rest = .error 1) := by rw [Hid, HH.out, HL.out, if_pos (.inr hm0)]
        go_wp2
        exact ⟨rfl, HP.out _ _ hR2 hg2 (by rw [HX.out]; rfl)⟩
      · by_cases hn1 : 1048576 < n
        · have HX : Hid (headM rest = .error 4) := by rw [Hid, HH.out, HL.out, if_neg (by omega), if_pos (.inl hn1)]
          go_wp2
          exact ⟨rfl, HP.out _ _ hR2 hg2 (by rw [HX.out]; rfl)⟩
        · by_cases hm1 : 4194304 < m
          · have HX : Hid (headM rest = .error 4) := by rw [Hid, HH.out, HL.out, if_neg (by omega), if_pos (.inr hm1)]
            go_wp2
            exact ⟨rfl, HP.out _ _ hR2 hg2 (by rw [HX.out]; rfl)⟩
          · have HX : Hid (headM rest = .ok (n, m)) := by rw [Hid, HH.out, HL.out, if_neg (by omega), if_neg (by omega)]
            go_wp2
            go_quiet (fail)
            go_wp2
            go_ret2
            exact HP.out _ _ hR2 ⟨hg2.os, hg2.tape, hg2.output, hg2.size, hg2.block⟩ (by rw [HX.out]; rfl)


def edgeL (n : Int) (l : List Int) : Except Int Ed := if edgeK n (l.getD 0 0, l.getD 1 0, l.getD 2 0) = 0 then .ok (l.getD 0 0, l.getD 1 0, l.getD 2 0) else .error (edgeK n (l.getD 0 0, l.getD 1 0, l.getD 2 0))
def edgeM (n : Int) (rest : ByteArray) : Except Int Ed := match numbersM rest edgeB 3 with
  | none => .error 3
  | some l => edgeL n l
theorem make_one {n : Int} (h0 : 0 ≤ n) (h1 : n ≤ 1048576) (e : Ed) : makeK n [e] = edgeK n e := by
  have hm : manyK n (([e] : List Ed).length) = 0 := by unfold manyK; rw [if_neg (by omega), if_neg (by simp; omega)]
  have hf : firstK n [e] = edgeK n e := by
    have := firstK_step (n := n) (l := [e]) (i := 0) (by simp)
    simp only [List.drop_zero] at this
    rw [this]
    by_cases h : edgeK n e = 0
    · simp [h, firstK]
    · simp [h]
  have ha : Alone ([e].map norm) := List.pairwise_singleton _ _
  unfold makeK
  rw [if_pos hm, hf]
  by_cases h : edgeK n e = 0
  · rw [if_pos h, if_pos ha, h]
  · rw [if_neg h]
theorem ret_edge1 {fn : Func} {p : Tmp} (h : fn.results = #[.cell p 50]) {tmps : Array Value} {w : World} {b : Nat} {x y z : Value} (hp : tmps.getD p undef = .pointer (some ⟨b, 0, none⟩)) (h0 : w.cell? ⟨b, 0, none⟩ = some x) (h1 : w.cell? ⟨b, 1, none⟩ = some y) (h2 : w.cell? ⟨b, 2, none⟩ = some z) :
    (results fn tmps).run Tryz.prog w = .ok (.agg #[x, y, z]) w := by
  have a1 := Tryz.isAgg50
  have a2 := Tryz.sizeOf50
  rw [Array.getD_eq_getD_getElem?] at hp
  simp only [results, h]
  simp [Sem.run_bind, Result.andThen, hp]
  go_simp
theorem grown_setNew {A B : World} {r : Option Nat} (h : A.grownBy B r) {b : Nat} (hb : A.heap.size ≤ b) (o : Nat) (v : Value) : A.grownBy (B.setCell ⟨b, o, none⟩ v) r :=
  have hs := (Below.refl 0 B).setCell (p := ⟨b, o, none⟩) (Nat.zero_le _) v
  ⟨hs.os.trans h.os, hs.tape.trans h.tape, hs.output.trans h.output, Nat.le_trans h.size hs.size, fun k hk hn => (Below.heap_setCell _ _ _ _ (by simp only; omega)).trans (h.block k hk hn)⟩
theorem grown_go {A B C : World} {r : Option Nat} (h : A.grownBy B r) (hb : Below B.heap.size B C) : A.grownBy C r := grown_trans h (grown_below hb r)
theorem grown_alloc (A : World) (o : Obj) (r : Option Nat) : A.grownBy (A.alloc o) r := grown_all (grown_refl A r) o
theorem grown_drewN {A B : World} {r : Option Nat} (h : A.grownBy B r) (n : Nat) : A.grownBy (B.drewN n) r := ⟨h.os, h.tape, h.output, h.size, h.block⟩

set_option maxRecDepth 100000 in
set_option maxHeartbeats 4000000 in
theorem edge_any (n : Int) (hn0 : 0 ≤ n) (hn1 : n ≤ 1048576) (rb : Nat) (rest : ByteArray) (k : Nat) (hs : rest.size < 4294967000) (hk : k < 100000000) (w : World) (hE : Env w) (hrb : 9 ≤ rb) (hR : RB w rb rest k) :
    Calls Tryz.prog 47 #[.pointer (some ⟨rb, 0, none⟩), .int .i64 n] w (MethP rb rest k w (edgeM n rest) edV) := by
  have hmix := mixed
  have hrl := Blk.lt hR
  have hb1 : Below w.heap.size w (w.alloc (.cells #[.int .i64 0, .int .i64 0, .int .i64 0] 50)) := (Below.refl _ _).alloc (Nat.le_refl _) _
  have hB1 : Blk 50 (w.alloc (.cells #[.int .i64 0, .int .i64 0, .int .i64 0] 50)) w.heap.size [.int .i64 0, .int .i64 0, .int .i64 0] := heap_alloc_new w _
  have hnc := numbers_any rb rest edgeB 3 k (by omega) (by omega) hs hk _ (hE.go hb1) hrb (hR.below hb1 hrl)
  have HM : Hid (edgeM n rest = match numbersM rest edgeB 3 with | none => .error 3 | some l => edgeL n l) := rfl
  have HP : Hid (∀ e W, RB W rb (lineR rest) (k + 1) → w.grownBy W (some rb) → EndsAs (edgeM n rest) edV e → MethP rb rest k w (edgeM n rest) edV e W) := fun e W h1 h2 h3 => ⟨h1, h2, h3⟩
  unfold NumsP at hnc
  cases hn : numbersM rest edgeB 3 with
  | none =>
    rw [hn] at hnc
    have HH : Hid (edgeM n rest = .error 3) := by rw [Hid, HM.out, hn]
    clear HM hn
    go_enter Tryz.func47, Tryz.ntmps47
    go_wp2_with fail
    refine hnc.mono ?_
    rintro e w2 ⟨hR2, hg2, rfl⟩
    exact ⟨rfl, HP.out _ _ hR2 (grown_trans (grown_alloc w _ (some rb)) hg2) (by rw [HH.out]; rfl)⟩
  | some l =>
    rw [hn] at hnc
    have HH : Hid (edgeM n rest = edgeL n l) := by rw [Hid, HM.out, hn]
    clear HM hn
    have HL : Hid (edgeL n l = if edgeK n (l.getD 0 0, l.getD 1 0, l.getD 2 0) = 0 then .ok (l.getD 0 0, l.getD 1 0, l.getD 2 0) else .error (edgeK n (l.getD 0 0, l.getD 1 0, l.getD 2 0))) := rfl
    go_enter Tryz.func47, Tryz.ntmps47
    go_wp2_with fail
    refine hnc.mono ?_
    rintro e w2 ⟨hR2, hg2, sv, rfl, hI, hlen⟩
    obtain ⟨p, cc, rfl⟩ := hI.len
    rw [hlen] at hI
    obtain ⟨b, off, rfl, hbl, hcc, hcell⟩ := ints_at hI hlen (j := 0) (by omega)
    have c0 := hcell 0 (by omega)
    have c1 := hcell 1 (by omega)
    have c2 := hcell 2 (by omega)
    rw [hlen]
    rw [Nat.add_zero] at c0
    have hB2 : Blk 50 w2 w.heap.size [.int .i64 0, .int .i64 0, .int .i64 0] := hB1.grown2 hg2 (by simp only [ne_eq, Option.some.injEq]; omega)
    have hgw2 : w.grownBy w2 (some rb) := grown_trans (grown_alloc w _ (some rb)) hg2
    clear hnc hI hcell hlen hg2 hB1 hb1
    generalize l.getD 0 0 = u at c0 HL
    generalize l.getD 1 0 = v at c1 HL
    generalize l.getD 2 0 = x at c2 HL
    go_wp2
    go_region_held3 (fun w' => w'.cell? ⟨b, off, none⟩ = some (.int .i64 u) ∧ w'.cell? ⟨b, off + 1, none⟩ = some (.int .i64 v) ∧ w'.cell? ⟨b, off + 2, none⟩ = some (.int .i64 x)) (go_keep) (first | fail)
    have hb3 : Below w2.heap.size w2 (w2.alloc (.cells #[.int .i64 u, .int .i64 v, .int .i64 x] 50)).drew := below_drewN ((Below.refl _ _).alloc (Nat.le_refl _) _) 1
    have hB3 : Blk 50 (w2.alloc (.cells #[.int .i64 u, .int .i64 v, .int .i64 x] 50)).drew w2.heap.size (flat [(u, v, x)]) := heap_alloc_new w2 _
    have hRl := Blk.lt hR2
    have hBl := hB2.lt
    have hR3 := hR2.below hb3 hRl
    have hB3r := hB2.go hb3
    have hg3 := grown_go hgw2 hb3
    generalize hw3 : (w2.alloc (.cells #[.int .i64 u, .int .i64 v, .int .i64 x] 50)).drew = w3 at hB3 hb3 hR3 hB3r hg3 ⊢
    have hEb := hB3.lt
    generalize w2.heap.size = eb at hB3 hEb hRl hBl ⊢
    clear hw3 c0 c1 c2 hb3 hB2 hR2 hgw2
    have e0 := hB3.cell (j := 0) rfl
    have e1 := hB3.cell (j := 1) rfl
    have e2 := hB3.cell (j := 2) rfl
    have hb4 : Below w3.heap.size w3 (w3.alloc (.cells #[.int .i64 u, .int .i64 v, .int .i64 x] 50)) := (Below.refl _ _).alloc (Nat.le_refl _) _
    have hB4 : Blk 50 (w3.alloc (.cells #[.int .i64 u, .int .i64 v, .int .i64 x] 50)) w3.heap.size (flat [(u, v, x)]) := heap_alloc_new w3 _
    have hmk := make_any n [(u, v, x)] _ _ hB4.edges
    rw [make_one hn0 hn1] at hmk
    go_wp2_with fail
    refine hmk.mono ?_
    rintro e w5 ⟨gv, rfl, hgE, hb5⟩
    obtain ⟨pg, cg, rfl⟩ := hgE.len
    generalize makeN n [(u, v, x)] = gn
    generalize (makeL n [(u, v, x)]).length = gl at *
    have hb35 : Below w3.heap.size w3 w5 := hb4.trans (hb5.mono hb4.size)
    have hb6 : Below w3.heap.size w3 (w5.alloc (.cells #[.int .i64 gn, .slice pg gl cg] 30)) := hb35.alloc hb35.size _
    have hR6 := hR3.below hb6 (by omega)
    have hB6 := hB3r.below hb6 (by omega)
    have hE6 := hB3.below hb6 hEb
    have hg6 := grown_go hg3 hb6
    have f0 := hB6.frozen 0
    have f1 := hB6.frozen 1
    have f2 := hB6.frozen 2
    have d0 := hB6.cell (j := 0) rfl
    have d1 := hB6.cell (j := 1) rfl
    have d2 := hB6.cell (j := 2) rfl
    have e0 := hE6.cell (j := 0) rfl
    have e1 := hE6.cell (j := 1) rfl
    have e2 := hE6.cell (j := 2) rfl
    clear hmk hb5 hb35 hb4 hB4 hB3 hB3r hR3 hg3 hgE
    by_cases hke : edgeK n (u, v, x) = 0
    · have HX : Hid (edgeM n rest = .ok (u, v, x)) := by rw [Hid, HH.out, HL.out, if_pos hke]
      rw [hke]
      go_wp2
      have hbf := ((hB6.set 0 (.int .i64 u)).set 1 (.int .i64 v)).set 2 (.int .i64 x)
      (try simp only [Exit.inBlock, Exit.then])
      refine bodyPost_ret (ret_edge1 rfl (by rfl) (hbf.cell (j := 0) rfl) (hbf.cell (j := 1) rfl) (hbf.cell (j := 2) rfl)) rfl ?_
      refine HP.out _ _ ?_ ?_ (by rw [HX.out]; rfl)
      · exact ((Blk.other hR6 (p := ⟨w.heap.size, 0, none⟩) (by simp only; omega) _).other (p := ⟨w.heap.size, 1, none⟩) (by simp only; omega) _).other (p := ⟨w.heap.size, 2, none⟩) (by simp only; omega) _
      · exact grown_setNew (grown_setNew (grown_setNew hg6 (Nat.le_refl _) _ _) (Nat.le_refl _) _ _) (Nat.le_refl _) _ _
    · have HX : Hid (edgeM n rest = .error (edgeK n (u, v, x))) := by rw [Hid, HH.out, HL.out, if_neg hke]
      generalize edgeK n (u, v, x) = ek at *
      have hk' : (ek == 0) = false := by simpa using hke
      go_wp2
      exact ⟨rfl, HP.out _ _ hR6 hg6 (by rw [HX.out]; rfl)⟩

def endM (rest : ByteArray) : Bool := rest.toList == []
set_option maxRecDepth 100000 in
theorem end_text (rb : Nat) (rest : ByteArray) (k : Nat) (hk : k < 100000000) (w : World) (hR : RB w rb rest k) :
    Calls Tryz.prog 48 #[.pointer (some ⟨rb, 0, none⟩)] w fun e w' => w.grownBy w' (some rb) ∧ if endM rest = true then e = .returned (.tuple #[]) ∧ RB w' rb rest k else e = kindP 3 ∧ RB w' rb rest (k + 1) := by
  have c0 := Blk.cell hR (j := 0) rfl
  have c1 := Blk.cell hR (j := 1) rfl
  have f1 := Blk.frozen hR 1
  have hR1 : RB (w.setCell ⟨rb, 1, none⟩ (.int .i64 ((k : Int) + 1))) rb rest (k + 1) := Blk.set hR 1 _
  cases he : endM rest with
  | true =>
    have hq : (rest.toList == []) = true := he
    simp only [if_true]
    go_enter Tryz.func48, Tryz.ntmps48
    go_wp2
    go_end0
    exact ⟨grown_refl _ _, rfl, hR⟩
  | false =>
    have hq : (rest.toList == []) = false := he
    simp only [Bool.false_eq_true, if_false]
    go_enter Tryz.func48, Tryz.ntmps48
    go_wp2
    exact ⟨rfl, grown_setC _ _ _ _, rfl, hR1⟩

end Go.Proofs.YthlkknfhganecaaGreatDoor
