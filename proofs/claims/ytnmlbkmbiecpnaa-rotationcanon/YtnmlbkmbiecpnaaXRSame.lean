/-
  Lists of faces that are read; the contract of the reference's Same.
-/
import Derived.Test.YtnmlbkmbiecpnaaQI
import Derived.BigQuiet
namespace Go.Proofs.Ytnmlbkmbiecpnaa
open Go Go.Proofs Go.RowKit

/-- Lists of darts, in memory. -/
def LDr (n : Nat) (W : World) (sv : Value) (LL : List (List Dt)) : Prop :=
  ((∃ p c, sv = .slice p 0 c) ∧ LL = []) ∨ ∃ b off cap, sv = .slice (some ⟨b, off, none⟩) LL.length cap ∧ b < n ∧ LL.length ≤ cap ∧ ∀ (j : Nat) (x : List Dt), LL[j]? = some x → ∃ sx, W.cell? ⟨b, off + j, none⟩ = some sx ∧ Drts n W sx x
theorem LDr.below {n : Nat} {W W' : World} {sv : Value} {LL : List (List Dt)} (h : LDr n W sv LL) (hb : Below n W W') : LDr n W' sv LL := by
  rcases h with h | ⟨b, off, cap, h1, h2, h3, h4⟩
  · exact .inl h
  · exact .inr ⟨b, off, cap, h1, h2, h3, fun j x hx => by
      obtain ⟨sx, h5, h6⟩ := h4 j x hx
      exact ⟨sx, (hb.cell (p := ⟨b, _, none⟩) h2).trans h5, h6.below hb⟩⟩
theorem LDr.mono {n m : Nat} {W : World} {sv : Value} {LL : List (List Dt)} (h : LDr n W sv LL) (hb : n ≤ m) : LDr m W sv LL := by
  rcases h with h | ⟨b, off, cap, h1, h2, h3, h4⟩
  · exact .inl h
  · exact .inr ⟨b, off, cap, h1, Nat.lt_of_lt_of_le h2 hb, h3, fun j x hx => by
      obtain ⟨sx, h5, h6⟩ := h4 j x hx
      exact ⟨sx, h5, h6.mono hb⟩⟩
theorem LDr.go {W W' : World} {sv : Value} {LL : List (List Dt)} (h : LDr W.heap.size W sv LL) (hb : Below W.heap.size W W') : LDr W'.heap.size W' sv LL := (h.below hb).mono hb.size
theorem LDr.len {n : Nat} {W : World} {sv : Value} {LL : List (List Dt)} (h : LDr n W sv LL) : ∃ p c, sv = .slice p LL.length c := by
  rcases h with ⟨⟨p, c, rfl⟩, rfl⟩ | ⟨b, off, cap, rfl, _⟩ <;> exact ⟨_, _, rfl⟩
theorem LDr.cellAt {n : Nat} {w : World} {p : Option Addr} {c : Nat} {L : List (List Dt)} (h : LDr n w (.slice p L.length c) L) {j : Nat} (hj : j < L.length) :
    ∃ b off, p = some ⟨b, off, none⟩ ∧ b < n ∧ L.length ≤ c ∧ ∃ px cx, Drts n w (.slice px L[j].length cx) L[j] ∧ w.cell? ⟨b, off + j, none⟩ = some (.slice px L[j].length cx) := by
  rcases h with ⟨_, h0⟩ | ⟨b, off, cap, h1, h2, h3, h4⟩
  · subst h0; simp at hj
  · simp only [Value.slice.injEq] at h1
    obtain ⟨rfl, _, rfl⟩ := h1
    obtain ⟨sx, h5, h6⟩ := h4 j _ (List.getElem?_eq_getElem hj)
    obtain ⟨px, cx, rfl⟩ := h6.len
    exact ⟨b, off, rfl, h2, h3, px, cx, h6, h5⟩
theorem GrpD.ldr {h0 : Nat} {lv : Value} {svs : List Value} {pre : List (List Dt)} {W : World} (h : GrpD h0 lv svs pre W) : LDr W.heap.size W lv pre := by
  have hlen := h.len
  rcases h.own.2 with ⟨rfl, h1⟩ | ⟨g, cap, cur, rfl, hb, hg, hn, hc⟩
  · exact .inl ⟨⟨_, _, rfl⟩, List.eq_nil_of_length_eq_zero (by omega)⟩
  · refine .inr ⟨g, 0, cap, by rw [hlen], (Array.getElem?_eq_some_iff.1 hg).1, by omega, fun j x hx => ?_⟩
    have hj := (List.getElem?_eq_some_iff.1 hx).1
    obtain ⟨sx, hs⟩ : ∃ sx, svs[j]? = some sx := ⟨_, List.getElem?_eq_getElem (by omega)⟩
    refine ⟨sx, ?_, Drts.of_owns (h.inn j sx x hs hx)⟩
    have := h.own.cells (g := g) rfl j sx hs
    rwa [Go.WideShapes.add_plain] at this

set_option maxRecDepth 100000 in
set_option maxHeartbeats 4000000 in
theorem same_any (L : List (List Dt)) (hL : L.length ≤ 4194304) (hin : ∀ x ∈ L, x.length ≤ 4194304) (sa sb : Value) (w : World) (ha : LDr w.heap.size w sa L) (hb : LDr w.heap.size w sb L) :
    Calls Try.prog 16 #[sa, sb] w fun e w' => e = .returned (.bool true) ∧ Below w.heap.size w w' := by
  obtain ⟨p, c, rfl⟩ := ha.len
  obtain ⟨q, d, rfl⟩ := hb.len
  have hmix := mixed
  have HA : Hid (LDr w.heap.size w (.slice p L.length c) L) := ha
  have HB : Hid (LDr w.heap.size w (.slice q L.length d) L) := hb
  have HIN : Hid (∀ x ∈ L, x.length ≤ 4194304) := hin
  clear ha hb hin
  go_enter Try.func16, Try.ntmps16
  go_wp2
  go_loopw [5] (fun iv wr => ∃ j : Nat, j ≤ L.length ∧ iv = .int .i64 j ∧ Below w.heap.size w wr) (fun i _ => L.length - (intOf i).toNat)
  case atStart => exact ⟨0, Nat.zero_le _, rfl, Below.refl _ _⟩
  case round =>
    obtain ⟨j, hj, rfl, hbr⟩ := hrel
    by_cases hlt : j < L.length
    · have hjl : (j : Int) < (L.length : Int) := by omega
      obtain ⟨b1, o1, rfl, hb1, hc1, p1, c1, hD1, x1⟩ := (HA.out.go hbr).cellAt hlt
      obtain ⟨b2, o2, rfl, hb2, hc2, p2, c2, hD2, x2⟩ := (HB.out.go hbr).cellAt hlt
      have hxl := HIN.out _ (List.getElem_mem hlt)
      have HBR : Hid (Below w.heap.size w wr) := hbr
      have HD1 : Hid (Drts wr.heap.size wr (.slice p1 L[j].length c1) L[j]) := hD1
      have HD2 : Hid (Drts wr.heap.size wr (.slice p2 L[j].length c2) L[j]) := hD2
      have HLT : Hid (j < L.length) := hlt
      clear hbr hD1 hD2
      generalize L[j] = X at *
      clear hlt
      go_wp2
      go_quiet (fail)
      have y1 : (wr.drewN nq).cell? ⟨b1, o1 + j, none⟩ = some (.slice p1 X.length c1) := x1
      have y2 : (wr.drewN nq).cell? ⟨b2, o2 + j, none⟩ = some (.slice p2 X.length c2) := x2
      have HBW : Hid (Below wr.heap.size wr (wr.drewN nq)) := below_drewN (Below.refl _ _) nq
      have HB1' : Hid (b1 < (wr.drewN nq).heap.size ∧ b2 < (wr.drewN nq).heap.size) := ⟨hb1, hb2⟩
      clear x1 x2
      generalize wr.drewN nq = w3 at *
      go_wp2
      go_loopw [6] (fun iv w4 => ∃ k : Nat, k ≤ X.length ∧ iv = .int .i64 k ∧ Below w3.heap.size w3 w4) (fun i _ => X.length - (intOf i).toNat)
      case atStart => exact ⟨0, Nat.zero_le _, rfl, Below.refl _ _⟩
      case round =>
        obtain ⟨k, hk, rfl, hb4⟩ := hrel
        rename World => w4
        have z1 := (hb4.cell (p := ⟨b1, o1 + j, none⟩) HB1'.out.1).trans y1
        have z2 := (hb4.cell (p := ⟨b2, o2 + j, none⟩) HB1'.out.2).trans y2
        have hbr4 := HBW.out.trans (hb4.mono HBW.out.size)
        by_cases hkl : k < X.length
        · have hkl' : (k : Int) < (X.length : Int) := by omega
          obtain ⟨g1, f1, rfl, hg1, hh1, s1, t1⟩ := (HD1.out.go hbr4).cellAt hkl
          obtain ⟨g2, f2, rfl, hg2, hh2, s2, t2⟩ := (HD2.out.go hbr4).cellAt hkl
          have HB4 : Hid (Below w3.heap.size w3 w4) := hb4
          have HKL : Hid (k < X.length) := hkl
          generalize X[k] = y at *
          obtain ⟨ya, yb⟩ := y
          simp only at s1 t1 s2 t2
          clear hb4 hbr4 y1 y2 hkl
          go_wp2
          go_quiet (fail)
          have HB5 : Hid (Below w3.heap.size w3 (w4.drewN nq)) := below_drewN HB4.out nq
          generalize w4.drewN nq = w5 at HB5 ⊢
          go_wp2
          exact ⟨⟨k + 1, HKL.out, by go_num, HB5.out⟩, by have := HKL.out; simp [intOf]; omega⟩
        · have hkn : ¬ (k : Int) < (X.length : Int) := by omega
          have HB5 : Hid (Below w.heap.size w w4) := HBR.out.trans (hbr4.mono HBR.out.size)
          clear hb4 hbr4 hkl
          go_wp2
          exact ⟨⟨j + 1, HLT.out, by go_num, HB5.out⟩, by have := HLT.out; simp [intOf]; omega⟩
    · have hjn : ¬ (j : Int) < (L.length : Int) := by omega
      have HBR : Hid (Below w.heap.size w wr) := hbr
      clear hbr hlt
      go_wp2
      go_ret
      exact ⟨rfl, HBR.out⟩
end Go.Proofs.Ytnmlbkmbiecpnaa
