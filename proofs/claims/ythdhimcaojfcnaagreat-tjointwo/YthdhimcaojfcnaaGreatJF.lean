/-
  Of two vertices with one edge: matching.Right, highest, cheapest.
-/
import Derived.Deep.QuietTactic
import Derived.BigQuiet
import Derived.Deep.RegionHeld3
import Derived.Test.YthdhimcaojfcnaaGreatJD
import Derived.Test.YthdhimcaojfcnaaGreatXWaAt
import Derived.Test.YthdhimcaojfcnaaGreatXGEachD
namespace Go.Proofs.YthdhimcaojfcnaaGreat
open Go Go.Proofs Go.RowKit

/-- The edge of two vertices. -/
def L2 (c : Nat) : List Eg := [(1, 0, c)]
theorem L2_at {p : Option Addr} {q c : Nat} {w : World} (h : Edges w.heap.size w (.slice p 1 q) ((L2 c).map edE)) : ∃ b off, p = some ⟨b, off, none⟩ ∧ b < w.heap.size ∧ 1 ≤ q ∧ ∀ W', Below w.heap.size w W' → W'.cell? ⟨b, off, none⟩ = some (.int .i64 1) ∧ W'.cell? ⟨b, off + 1, none⟩ = some (.int .i64 0) ∧ W'.cell? ⟨b, off + 2, none⟩ = some (.int .i64 (c : Int)) := by
  obtain ⟨b, off, h1, h2, h3, h4⟩ := Edges.eg (L := L2 c) (j := 0) h (by simp [L2])
  refine ⟨b, off, h1, h2, h3, fun W' hW => ?_⟩
  have := h4 W' hW 0 (by simp [L2])
  simpa [L2] using this
set_option maxRecDepth 100000 in
theorem mIsVertex_any (v : Int) (sv : Value) (w : World) (h0 : 0 ≤ v) (h1 : v < 2) (hs : ∃ p k c, sv = .slice p k c) : Calls Tryz.prog 80 #[.agg #[.int .i64 2, sv], .int .i64 v] w fun r w' => r = .returned (.bool true) ∧ Grew w w' := by
  obtain ⟨p, k, c, rfl⟩ := hs
  have hg1 : Grew w (w.alloc (.cells #[.int .i64 2, .slice p k c] 24)) := (Grew.refl w).alloc _
  go_enter Tryz.func80, Tryz.ntmps80
  go_wp2
  go_ret
  exact ⟨rfl, hg1⟩
theorem two_boxes {w W' : World} {a0 a1 b0 b1 b2 : Value} {ta tb : TypeId} (h : Grew ((w.alloc (.cells #[a0, a1] ta)).alloc (.cells #[b0, b1, b2] tb)) W') : W'.cell? ⟨w.heap.size, 0, none⟩ = some a0 ∧ W'.cell? ⟨w.heap.size, 1, none⟩ = some a1 ∧ W'.cell? ⟨w.heap.size + 1, 0, none⟩ = some b0 ∧ W'.cell? ⟨w.heap.size + 1, 1, none⟩ = some b1 ∧ W'.cell? ⟨w.heap.size + 1, 2, none⟩ = some b2 := by
  have h1 : Blk ta (w.alloc (.cells #[a0, a1] ta)) w.heap.size [a0, a1] := heap_alloc_new w _
  have h2 : Blk tb ((w.alloc (.cells #[a0, a1] ta)).alloc (.cells #[b0, b1, b2] tb)) (w.alloc (.cells #[a0, a1] ta)).heap.size [b0, b1, b2] := heap_alloc_new _ _
  have h3 := (h1.go ((Below.refl _ _).alloc (Nat.le_refl _) _ : Below _ _ ((w.alloc (.cells #[a0, a1] ta)).alloc (.cells #[b0, b1, b2] tb)))).go h.below
  have h4 := h2.go h.below
  have e : (w.alloc (.cells #[a0, a1] ta)).heap.size = w.heap.size + 1 := by simp
  rw [e] at h4
  exact ⟨h3.cell (j := 0) rfl, h3.cell (j := 1) rfl, h4.cell (j := 0) rfl, h4.cell (j := 1) rfl, h4.cell (j := 2) rfl⟩
set_option maxRecDepth 100000 in
set_option maxHeartbeats 4000000 in
theorem mFits_any (c : Nat) (hc : c < 1099511627776) (sv : Value) (w : World) (hs : ∃ p k c, sv = .slice p k c) : Calls Tryz.prog 57 #[.agg #[.int .i64 2, sv], .agg #[.int .i64 1, .int .i64 0, .int .i64 (c : Int)]] w fun r w' => r = .returned (.int .i64 0) ∧ Below w.heap.size w w' := by
  obtain ⟨p, k, q, rfl⟩ := hs
  have hg1 : Grew w ((w.alloc (.cells #[.int .i64 2, .slice p k q] 24)).alloc (.cells #[.int .i64 1, .int .i64 0, .int .i64 (c : Int)] 46)) := ((Grew.refl w).alloc _).alloc _
  have hv := fun v W a b => mIsVertex_any v (.slice p k q) W a b ⟨p, k, q, rfl⟩
  have hc1 : decide ((c : Int) ≤ -1099511627776) = false := decide_eq_false (by omega)
  have hc2 : decide ((1099511627776 : Int) ≤ (c : Int)) = false := decide_eq_false (by omega)
  go_enter Tryz.func57, Tryz.ntmps57
  go_wp2_with fail
  refine (hv 1 _ (by omega) (by omega)).mono ?_
  rintro e w2 ⟨rfl, hg2⟩
  obtain ⟨x0, x1, y0, y1, y2⟩ := two_boxes hg2
  go_wp2_with fail
  refine (hv 0 _ (by omega) (by omega)).mono ?_
  rintro e w3 ⟨rfl, hg3⟩
  have hg4 := hg2.trans hg3
  clear x0 x1 y0 y1 y2
  obtain ⟨x0, x1, y0, y1, y2⟩ := two_boxes hg4
  go_wp2
  go_ret
  exact ⟨rfl, (hg1.trans hg4).below⟩
set_option maxRecDepth 100000 in
set_option maxHeartbeats 4000000 in
theorem mRight_any (c : Nat) (hc : c < 1099511627776) (p : Option Addr) (q : Nat) (w : World) (hl : Edges w.heap.size w (.slice p 1 q) ((L2 c).map edE)) : Calls Tryz.prog 46 #[.agg #[.int .i64 2, .slice p 1 q]] w fun r w' => r = .returned (.int .i64 0) ∧ Below w.heap.size w w' := by
  obtain ⟨b, off, rfl, hb, hq, hcl⟩ := L2_at hl
  have hx : Blk 24 (w.alloc (.cells #[.int .i64 2, .slice (some ⟨b, off, none⟩) 1 q] 24)) w.heap.size [.int .i64 2, .slice (some ⟨b, off, none⟩) 1 q] := heap_alloc_new w _
  have hg1 : Below w.heap.size w (w.alloc (.cells #[.int .i64 2, .slice (some ⟨b, off, none⟩) 1 q] 24)) := (Below.refl _ _).alloc (Nat.le_refl _) _
  have HX : Hid (Blk 24 (w.alloc (.cells #[.int .i64 2, .slice (some ⟨b, off, none⟩) 1 q] 24)) w.heap.size [.int .i64 2, .slice (some ⟨b, off, none⟩) 1 q]) := hx
  have HG : Hid _ := hg1
  have HC : Hid _ := hcl
  clear hx hg1 hcl hl
  go_enter Tryz.func46, Tryz.ntmps46
  go_wp2
  go_loopw [21] (fun i wr => ∃ j : Nat, j ≤ 1 ∧ i = .int .i64 j ∧ Below (w.alloc (.cells #[.int .i64 2, .slice (some ⟨b, off, none⟩) 1 q] 24)).heap.size (w.alloc (.cells #[.int .i64 2, .slice (some ⟨b, off, none⟩) 1 q] 24)) wr) (fun i _ => 1 - (intOf i).toNat)
  case atStart => exact ⟨0, by omega, rfl, Below.refl _ _⟩
  case round =>
    obtain ⟨j, hj, rfl, hbr⟩ := hrel
    have hX := HX.out.go hbr
    have x0 := hX.cell (j := 0) rfl
    have x1 := hX.cell (j := 1) rfl
    have hbw := HG.out.trans (hbr.mono HG.out.size)
    by_cases hlt : j = 0
    · subst hlt
      obtain ⟨c0, c1, c2⟩ := HC.out wr hbw
      have hf := mFits_any c hc (.slice (some ⟨b, off, none⟩) 1 q) (wr.alloc (.cells #[.int .i64 1, .int .i64 0, .int .i64 (c : Int)] 46)) ⟨_, _, _, rfl⟩
      have hbx := hX.lt
      have HA : Hid (Below wr.heap.size wr (wr.alloc (.cells #[.int .i64 1, .int .i64 0, .int .i64 (c : Int)] 46))) := (Below.refl _ _).alloc (Nat.le_refl _) _
      clear hX
      go_wp2_with fail
      refine hf.mono ?_
      rintro e w3 ⟨rfl, hb3⟩
      have HB3 : Hid (Below (w.alloc (.cells #[.int .i64 2, .slice (some ⟨b, off, none⟩) 1 q] 24)).heap.size (w.alloc (.cells #[.int .i64 2, .slice (some ⟨b, off, none⟩) 1 q] 24)) w3) := hbr.trans ((HA.out.trans (hb3.mono HA.out.size)).mono hbr.size)
      clear hf hb3 hbr x0 x1 c0 c1 c2
      go_wp2
      exact ⟨⟨1, by omega, rfl, HB3.out⟩, by simp [intOf]⟩
    · obtain rfl : j = 1 := by omega
      have HBf : Hid _ := hbw
      clear hbw hX
      go_wp2
      go_ret
      exact ⟨rfl, HBf.out⟩
set_option maxRecDepth 100000 in
set_option maxHeartbeats 4000000 in
theorem highest_any (c : Nat) (hc : c < 1099511627776) (p : Option Addr) (q : Nat) (w : World) (hl : Edges w.heap.size w (.slice p 1 q) ((L2 c).map edE)) : Calls Tryz.prog 59 #[.agg #[.int .i64 2, .slice p 1 q]] w fun r w' => r = .returned (.int .i64 (-(c : Int))) ∧ Below w.heap.size w w' := by
  obtain ⟨b, off, rfl, hb, hq, hcl⟩ := L2_at hl
  have hx : Blk 24 (w.alloc (.cells #[.int .i64 2, .slice (some ⟨b, off, none⟩) 1 q] 24)) w.heap.size [.int .i64 2, .slice (some ⟨b, off, none⟩) 1 q] := heap_alloc_new w _
  have hg1 : Below w.heap.size w (w.alloc (.cells #[.int .i64 2, .slice (some ⟨b, off, none⟩) 1 q] 24)) := (Below.refl _ _).alloc (Nat.le_refl _) _
  have HX : Hid (Blk 24 (w.alloc (.cells #[.int .i64 2, .slice (some ⟨b, off, none⟩) 1 q] 24)) w.heap.size [.int .i64 2, .slice (some ⟨b, off, none⟩) 1 q]) := hx
  have HG : Hid _ := hg1
  have HC : Hid _ := hcl
  have hm1 : (-1099511627776 : Int) ≤ -(c : Int) := by omega
  have hm2 : (-1099511627776 : Int) < -(c : Int) := by omega
  clear hx hg1 hcl hl
  go_enter Tryz.func59, Tryz.ntmps59
  go_wp2
  go_loopw [3, 9] (fun mv i wr => ((i = .int .i64 0 ∧ mv = .int .i64 (-1099511627776)) ∨ (i = .int .i64 1 ∧ mv = .int .i64 (-(c : Int)))) ∧ Below (w.alloc (.cells #[.int .i64 2, .slice (some ⟨b, off, none⟩) 1 q] 24)).heap.size (w.alloc (.cells #[.int .i64 2, .slice (some ⟨b, off, none⟩) 1 q] 24)) wr) (fun _ i _ => 1 - (intOf i).toNat)
  case atStart => exact ⟨.inl ⟨rfl, rfl⟩, Below.refl _ _⟩
  case round =>
    obtain ⟨hor, hbr⟩ := hrel
    have hX := HX.out.go hbr
    have x0 := hX.cell (j := 0) rfl
    have x1 := hX.cell (j := 1) rfl
    have hbw := HG.out.trans (hbr.mono HG.out.size)
    rcases hor with ⟨rfl, rfl⟩ | ⟨rfl, rfl⟩
    · obtain ⟨c0, c1, c2⟩ := HC.out wr hbw
      have hbx := hX.lt
      have HB3 : Hid (Below (w.alloc (.cells #[.int .i64 2, .slice (some ⟨b, off, none⟩) 1 q] 24)).heap.size (w.alloc (.cells #[.int .i64 2, .slice (some ⟨b, off, none⟩) 1 q] 24)) (wr.alloc (.cells #[.int .i64 1, .int .i64 0, .int .i64 (c : Int)] 46))) := hbr.alloc hbr.size _
      clear hX hbw hbr
      go_wp2
      exact ⟨⟨.inr ⟨rfl, rfl⟩, HB3.out⟩, by simp [intOf]⟩
    · have HBf : Hid _ := hbw
      clear hbw hX
      go_wp2
      go_ret
      exact ⟨rfl, HBf.out⟩
end Go.Proofs.YthdhimcaojfcnaaGreat

namespace Go.Proofs.YthdhimcaojfcnaaGreat
open Go Go.Proofs Go.RowKit

/-- Two rows in memory. -/
structure R2 (t tr : TypeId) (n rb b0 b1 : Nat) (r0 r1 : List Value) (W : World) : Prop where
  rows : Blk tr W rb [.slice (some ⟨b0, 0, none⟩) n n, .slice (some ⟨b1, 0, none⟩) n n]
  r0 : Blk t W b0 r0
  r1 : Blk t W b1 r1
  lt0 : rb < b0
  lt1 : b0 < b1
theorem R2.go {t tr : TypeId} {n rb b0 b1 : Nat} {r0 r1 : List Value} {W W' : World} (h : R2 t tr n rb b0 b1 r0 r1 W) (hb : Below W.heap.size W W') : R2 t tr n rb b0 b1 r0 r1 W' := ⟨h.rows.go hb, h.r0.go hb, h.r1.go hb, h.lt0, h.lt1⟩
theorem R2.of {t tr : TypeId} {row : List Value} {rb : Nat} {bs : Nat → Nat} {W : World} (h : SQ t tr 2 2 row rb bs W) : R2 t tr 2 rb (bs 0) (bs 1) row row W :=
  ⟨by have := h.rows; simpa [rowsK, List.range_succ] using this, h.row 0 (by omega), h.row 1 (by omega), h.gt 0 (by omega), h.rise 0 1 (by omega) (by omega)⟩
theorem neg_rows : List.replicate 2 (Value.int .i64 (-1)) = [.int .i64 (-1), .int .i64 (-1)] := rfl

set_option maxRecDepth 100000 in
set_option maxHeartbeats 4000000 in
theorem cheapest_any (c : Nat) (p : Option Addr) (q : Nat) (w : World) (hl : Edges w.heap.size w (.slice p 1 q) ((L2 c).map edE)) : Calls Tryz.prog 61 #[.agg #[.int .i64 2, .slice p 1 q]] w fun r w' => ∃ rb b0 b1, r = .returned (.slice (some ⟨rb, 0, none⟩) 2 2) ∧ R2 3 25 2 rb b0 b1 [.int .i64 (-1), .int .i64 0] [.int .i64 0, .int .i64 (-1)] w' ∧ Below w.heap.size w w' ∧ w.heap.size ≤ rb := by
  have hmix := mixed
  obtain ⟨b, off, rfl, hb, hq, hcl⟩ := L2_at hl
  have hx : Blk 24 (w.alloc (.cells #[.int .i64 2, .slice (some ⟨b, off, none⟩) 1 q] 24)) w.heap.size [.int .i64 2, .slice (some ⟨b, off, none⟩) 1 q] := heap_alloc_new w _
  have hg1 : Below w.heap.size w (w.alloc (.cells #[.int .i64 2, .slice (some ⟨b, off, none⟩) 1 q] 24)) := (Below.refl _ _).alloc (Nat.le_refl _) _
  have hsq := squareI_any (-1) 2 (by omega) (by omega) (w.alloc (.cells #[.int .i64 2, .slice (some ⟨b, off, none⟩) 1 q] 24))
  have HX : Hid (Blk 24 (w.alloc (.cells #[.int .i64 2, .slice (some ⟨b, off, none⟩) 1 q] 24)) w.heap.size [.int .i64 2, .slice (some ⟨b, off, none⟩) 1 q]) := hx
  have HG : Hid _ := hg1
  have HC : Hid _ := hcl
  clear hx hg1 hcl hl
  go_enter Tryz.func61, Tryz.ntmps61
  go_wp2_with fail
  refine hsq.mono ?_
  rintro e w2 ⟨rb, bs, rfl, hSQ, hb2, hrb⟩
  clear hsq
  have hX := Blk.go HX.out hb2
  have x0 := hX.cell (j := 0) rfl
  have x1 := hX.cell (j := 1) rfl
  have HB2 : Hid (Below w.heap.size w w2) := HG.out.trans (hb2.mono HG.out.size)
  have hR := R2.of hSQ
  rw [neg_rows] at hR
  have hxs : (w.alloc (.cells #[.int .i64 2, .slice (some ⟨b, off, none⟩) 1 q] 24)).heap.size = w.heap.size + 1 := by simp
  rw [hxs] at hrb
  generalize bs 0 = b0 at hR
  generalize bs 1 = b1 at hR
  have HR : Hid (R2 3 25 2 rb b0 b1 [.int .i64 (-1), .int .i64 (-1)] [.int .i64 (-1), .int .i64 (-1)] w2) := hR
  have hbx := hX.lt
  have HX2 : Hid (Blk 24 w2 w.heap.size [.int .i64 2, .slice (some ⟨b, off, none⟩) 1 q]) := hX
  clear hSQ hb2 hR hX HX HG hxs
  obtain ⟨x, hx⟩ : ∃ x, w.heap.size = x := ⟨_, rfl⟩
  have HCx : Hid (∀ W', Below x w W' → W'.cell? ⟨b, off, none⟩ = some (.int .i64 1) ∧ W'.cell? ⟨b, off + 1, none⟩ = some (.int .i64 0) ∧ W'.cell? ⟨b, off + 2, none⟩ = some (.int .i64 (c : Int))) := by rw [← hx]; exact HC.out
  rw [hx] at HX2 HB2 hrb hbx hb x0 x1 ⊢
  clear HC
  go_wp2
  have h1 := HR.out.lt0
  have h2 := HR.out.lt1
  go_loopw [13] (fun i wr => (i = .int .i64 0 ∧ wr = w2) ∨ (i = .int .i64 1 ∧ R2 3 25 2 rb b0 b1 [.int .i64 (-1), .int .i64 0] [.int .i64 0, .int .i64 (-1)] wr ∧ Below x w wr ∧ wr.cell? ⟨x, 1, none⟩ = some (.slice (some ⟨b, off, none⟩) 1 q))) (fun i _ => 1 - (intOf i).toNat)
  case atStart => exact .inl ⟨rfl, rfl⟩
  case round =>
    rcases hrel with ⟨rfl, rfl⟩ | ⟨rfl, hR, hbr, hx1⟩
    · obtain ⟨c0, c1, c2⟩ := HCx.out wr HB2.out
      have hsr := HR.out.r1.lt
      have HE6 : Hid (Blk 46 (wr.alloc (.cells #[.int .i64 1, .int .i64 0, .int .i64 (c : Int)] 46)) wr.heap.size [.int .i64 1, .int .i64 0, .int .i64 (c : Int)]) := heap_alloc_new wr _
      have HB6 : Hid (Below wr.heap.size wr (wr.alloc (.cells #[.int .i64 1, .int .i64 0, .int .i64 (c : Int)] 46))) := (Below.refl _ _).alloc (Nat.le_refl _) _
      go_wp2
      obtain ⟨w6, hw6⟩ : ∃ W, wr.alloc (.cells #[.int .i64 1, .int .i64 0, .int .i64 (c : Int)] 46) = W := ⟨_, rfl⟩
      rw [hw6] at HE6 HB6 ⊢
      clear hw6 c0 c1 c2 x0 x1
      have HR6 : Hid (R2 3 25 2 rb b0 b1 [.int .i64 (-1), .int .i64 (-1)] [.int .i64 (-1), .int .i64 (-1)] w6) := HR.out.go HB6.out
      have HX6 : Hid (Blk 24 w6 x [.int .i64 2, .slice (some ⟨b, off, none⟩) 1 q]) := HX2.out.go HB6.out
      have HBw6 : Hid (Below x w w6) := HB2.out.trans (HB6.out.mono (by omega))
      obtain ⟨eb, heb⟩ : ∃ n, wr.heap.size = n := ⟨_, rfl⟩
      rw [heb] at HE6 hsr hbx ⊢
      clear heb HB6 HR HX2 HB2
      have y0 := HE6.out.cell (j := 0) rfl
      have y1 := HE6.out.cell (j := 1) rfl
      have y2 := HE6.out.cell (j := 2) rfl
      have r0 := HR6.out.rows.cell (j := 0) rfl
      have r1 := HR6.out.rows.cell (j := 1) rfl
      have s0 := HR6.out.r0.cell (j := 1) rfl
      have s1 := HR6.out.r1.cell (j := 0) rfl
      have f0 := HR6.out.r0.frozen 1
      have f1 := HR6.out.r1.frozen 0
      go_quiet (fail)
      generalize nq = k1
      go_wp2
      go_quiet (fail)
      obtain ⟨w7, hw7⟩ : ∃ W, (w6.drewN k1).drewN nq = W := ⟨_, rfl⟩
      have HR7 : Hid (R2 3 25 2 rb b0 b1 [.int .i64 (-1), .int .i64 (-1)] [.int .i64 (-1), .int .i64 (-1)] w7) := by rw [← hw7]; exact ⟨HR6.out.rows, HR6.out.r0, HR6.out.r1, h1, h2⟩
      have HX7 : Hid (Blk 24 w7 x [.int .i64 2, .slice (some ⟨b, off, none⟩) 1 q]) := by rw [← hw7]; exact HX6.out
      have HE7 : Hid (Blk 46 w7 eb [.int .i64 1, .int .i64 0, .int .i64 (c : Int)]) := by rw [← hw7]; exact HE6.out
      have HBw7 : Hid (Below x w w7) := by rw [← hw7]; exact below_drewN (below_drewN HBw6.out k1) nq
      rw [hw7]
      clear hw7 HR6 HX6 HE6 HBw6 y0 y1 y2 r0 r1 s0 s1 f0 f1
      have y0 := HE7.out.cell (j := 0) rfl
      have y1 := HE7.out.cell (j := 1) rfl
      have r0 := HR7.out.rows.cell (j := 0) rfl
      have r1 := HR7.out.rows.cell (j := 1) rfl
      have s0 := HR7.out.r0.cell (j := 1) rfl
      have s1 := HR7.out.r1.cell (j := 0) rfl
      have f0 := HR7.out.r0.frozen 1
      have f1 := HR7.out.r1.frozen 0
      have n1 : b0 ≠ b1 := by omega
      have n2 : eb ≠ b0 := by omega
      have n3 : eb ≠ b1 := by omega
      have n4 : rb ≠ b0 := by omega
      have n5 : rb ≠ b1 := by omega
      have HR8 : Hid (R2 3 25 2 rb b0 b1 [.int .i64 (-1), .int .i64 0] [.int .i64 0, .int .i64 (-1)] ((w7.setCell ⟨b1, 0, none⟩ (.int .i64 0)).setCell ⟨b0, 1, none⟩ (.int .i64 0))) :=
        ⟨(HR7.out.rows.other (p := ⟨b1, 0, none⟩) n5 _).other (p := ⟨b0, 1, none⟩) n4 _, (HR7.out.r0.other (p := ⟨b1, 0, none⟩) n1 _).set 1 _, (HR7.out.r1.set 0 _).other (p := ⟨b0, 1, none⟩) (Ne.symm n1) _, h1, h2⟩
      have HX8 : Hid (Blk 24 ((w7.setCell ⟨b1, 0, none⟩ (.int .i64 0)).setCell ⟨b0, 1, none⟩ (.int .i64 0)) x [.int .i64 2, .slice (some ⟨b, off, none⟩) 1 q]) :=
        (HX7.out.other (p := ⟨b1, 0, none⟩) (by show x ≠ b1; omega) _).other (p := ⟨b0, 1, none⟩) (by show x ≠ b0; omega) _
      have HBw8 : Hid (Below x w ((w7.setCell ⟨b1, 0, none⟩ (.int .i64 0)).setCell ⟨b0, 1, none⟩ (.int .i64 0))) := (HBw7.out.setCell (p := ⟨b1, 0, none⟩) (by show x ≤ b1; omega) _).setCell (p := ⟨b0, 1, none⟩) (by show x ≤ b0; omega) _
      clear HR7 HX7 HE7 HBw7
      go_wp2
      go_big_region_o
      go_wp2
      exact ⟨.inr ⟨rfl, ⟨HR8.out.rows, HR8.out.r0, HR8.out.r1, h1, h2⟩, below_drewN HBw8.out 1, HX8.out.cell (j := 1) rfl⟩, by simp [intOf]⟩
    · go_wp2
      go_ret
      exact ⟨rb, b0, b1, rfl, hR, by rw [hx]; exact hbr, by omega⟩
end Go.Proofs.YthdhimcaojfcnaaGreat

namespace Go.Proofs.YthdhimcaojfcnaaGreat
open Go Go.Proofs Go.RowKit

/-- Three rows in memory. -/
structure R3 (t tr : TypeId) (n rb b0 b1 b2 : Nat) (r0 r1 r2 : List Value) (W : World) : Prop where
  rows : Blk tr W rb [.slice (some ⟨b0, 0, none⟩) n n, .slice (some ⟨b1, 0, none⟩) n n, .slice (some ⟨b2, 0, none⟩) n n]
  r0 : Blk t W b0 r0
  r1 : Blk t W b1 r1
  r2 : Blk t W b2 r2
  lt0 : rb < b0
  lt1 : b0 < b1
  lt2 : b1 < b2
theorem R3.go {t tr : TypeId} {n rb b0 b1 b2 : Nat} {r0 r1 r2 : List Value} {W W' : World} (h : R3 t tr n rb b0 b1 b2 r0 r1 r2 W) (hb : Below W.heap.size W W') : R3 t tr n rb b0 b1 b2 r0 r1 r2 W' := ⟨h.rows.go hb, h.r0.go hb, h.r1.go hb, h.r2.go hb, h.lt0, h.lt1, h.lt2⟩
theorem R3.of {t tr : TypeId} {row : List Value} {rb : Nat} {bs : Nat → Nat} {W : World} (h : SQ t tr 3 3 row rb bs W) : R3 t tr 3 rb (bs 0) (bs 1) (bs 2) row row row W :=
  ⟨by have := h.rows; simpa [rowsK, List.range_succ] using this, h.row 0 (by omega), h.row 1 (by omega), h.row 2 (by omega), h.gt 0 (by omega), h.rise 0 1 (by omega) (by omega), h.rise 1 2 (by omega) (by omega)⟩
def nodeZ : List Value := [.int .i64 0, .int .i64 0, .int .i64 0, .int .i64 0, .int .i64 0, .int .i64 0, .int .i64 0, .slice none 0 0, .slice none 0 0, .int .i64 0]
def nodeA : Value := .agg #[.int .i64 0, .int .i64 0, .int .i64 0, .int .i64 0, .int .i64 0, .int .i64 0, .int .i64 0, .slice none 0 0, .slice none 0 0, .int .i64 0]
theorem infoN : (Tryz.prog.info? 109).map (fun i => (i.zero, i.size, i.bytes)) = some (some nodeA, 10, 112) := by kernel_rfl
theorem node_made : (madeCells nodeA.cells (3 * 10)).toList = nodeZ ++ (nodeZ ++ nodeZ) := by kernel_rfl
def linkN : List Value := [.int .i64 (-1), .int .i64 (-1), .int .i64 (-1), .int .i64 (-1), .int .i64 (-1), .int .i64 (-1)]
/-- What each operation has made. -/
def CF (c x : Nat) (i : Nat) (v : Value) (tg : Nat → Nat) (W : World) : Prop :=
  (i = 2 → ∃ nb, v = .slice (some ⟨nb, 0, none⟩) 3 3 ∧ Blk 109 W nb (nodeZ ++ (nodeZ ++ nodeZ)) ∧ tg nb = 2 ∧ x ≤ nb) ∧
  (i = 4 → v = .int .i64 (-(c : Int))) ∧
  (i = 5 → ∃ b, v = .slice (some ⟨b, 0, none⟩) 1 1 ∧ Blk 2 W b [.int .i64 (-(c : Int))]) ∧
  (i = 8 → ∃ b, v = .slice (some ⟨b, 0, none⟩) 2 2 ∧ Blk 2 W b [.int .i64 (-(c : Int)), .int .i64 (-(c : Int))] ∧ tg b = 8 ∧ x ≤ b) ∧
  (i = 9 → ∃ b, v = .slice (some ⟨b, 0, none⟩) 1 1 ∧ Blk 3 W b [.int .i64 (-1)]) ∧
  (i = 12 → ∃ b, v = .slice (some ⟨b, 0, none⟩) 2 2 ∧ Blk 3 W b [.int .i64 (-1), .int .i64 (-1)] ∧ tg b = 12 ∧ x ≤ b) ∧
  (i = 15 → ∃ b, v = .slice (some ⟨b, 0, none⟩) 2 2 ∧ Blk 3 W b [.int .i64 0, .int .i64 0] ∧ tg b = 15 ∧ x ≤ b) ∧
  (i = 17 → ∃ rb b0 b1, v = .slice (some ⟨rb, 0, none⟩) 2 2 ∧ R2 3 25 2 rb b0 b1 [.int .i64 (-1), .int .i64 0] [.int .i64 0, .int .i64 (-1)] W ∧ tg rb = 17 ∧ tg b0 = 17 ∧ tg b1 = 17 ∧ x ≤ rb) ∧
  (i = 20 → ∃ rb b0 b1, v = .slice (some ⟨rb, 0, none⟩) 2 2 ∧ R2 2 41 2 rb b0 b1 [.int .i64 0, .int .i64 0] [.int .i64 0, .int .i64 0] W ∧ tg rb = 20 ∧ tg b0 = 20 ∧ tg b1 = 20 ∧ x ≤ rb) ∧
  (i = 22 → v = .agg #[.int .i64 (-1), .int .i64 (-1)]) ∧
  (i = 23 → ∃ rb b0 b1 b2, v = .slice (some ⟨rb, 0, none⟩) 3 3 ∧ R3 102 107 3 rb b0 b1 b2 linkN linkN linkN W ∧ tg rb = 23 ∧ tg b0 = 23 ∧ tg b1 = 23 ∧ tg b2 = 23 ∧ x ≤ rb)
theorem CF.go {c x i : Nat} {v : Value} {tg tg' : Nat → Nat} {W W' : World} (h : CF c x i v tg W) (hb : Below W.heap.size W W') (ht : ∀ b, b < W.heap.size → tg' b = tg b) : CF c x i v tg' W' := by
  obtain ⟨h2, h4, h5, h8, h9, h12, h15, h17, h20, h22, h23⟩ := h
  refine ⟨fun e => ?_, h4, fun e => ?_, fun e => ?_, fun e => ?_, fun e => ?_, fun e => ?_, fun e => ?_, fun e => ?_, h22, fun e => ?_⟩
  · obtain ⟨b, a1, a2, a3, a4⟩ := h2 e; exact ⟨b, a1, a2.go hb, (ht b a2.lt).trans a3, a4⟩
  · obtain ⟨b, a1, a2⟩ := h5 e; exact ⟨b, a1, a2.go hb⟩
  · obtain ⟨b, a1, a2, a3, a4⟩ := h8 e; exact ⟨b, a1, a2.go hb, (ht b a2.lt).trans a3, a4⟩
  · obtain ⟨b, a1, a2⟩ := h9 e; exact ⟨b, a1, a2.go hb⟩
  · obtain ⟨b, a1, a2, a3, a4⟩ := h12 e; exact ⟨b, a1, a2.go hb, (ht b a2.lt).trans a3, a4⟩
  · obtain ⟨b, a1, a2, a3, a4⟩ := h15 e; exact ⟨b, a1, a2.go hb, (ht b a2.lt).trans a3, a4⟩
  · obtain ⟨rb, b0, b1, a1, a2, a3, a4, a5, a6⟩ := h17 e; exact ⟨rb, b0, b1, a1, a2.go hb, (ht _ a2.rows.lt).trans a3, (ht _ a2.r0.lt).trans a4, (ht _ a2.r1.lt).trans a5, a6⟩
  · obtain ⟨rb, b0, b1, a1, a2, a3, a4, a5, a6⟩ := h20 e; exact ⟨rb, b0, b1, a1, a2.go hb, (ht _ a2.rows.lt).trans a3, (ht _ a2.r0.lt).trans a4, (ht _ a2.r1.lt).trans a5, a6⟩
  · obtain ⟨rb, b0, b1, b2, a1, a2, a3, a4, a5, a6, a7⟩ := h23 e; exact ⟨rb, b0, b1, b2, a1, a2.go hb, (ht _ a2.rows.lt).trans a3, (ht _ a2.r0.lt).trans a4, (ht _ a2.r1.lt).trans a5, (ht _ a2.r2.lt).trans a6, a7⟩
def tgN (tg : Nat → Nat) (s i : Nat) : Nat → Nat := fun b => if s ≤ b then i else tg b
theorem tgN_old {tg : Nat → Nat} {s i b : Nat} (h : b < s) : tgN tg s i b = tg b := if_neg (by omega)
theorem tgN_new {tg : Nat → Nat} {s i b : Nat} (h : s ≤ b) : tgN tg s i b = i := if_pos h
def updX (X : Nat → Value) (i : Nat) (v : Value) : Nat → Value := fun j => if j = i then v else X j
/-- What has been made. -/
def JF (c x : Nat) (d : List Nat) (X : Nat → Value) (tg : Nat → Nat) (W : World) : Prop := ∀ i, i ∈ d → CF c x i (X i) tg W
theorem JF.nil (c x : Nat) (X : Nat → Value) (tg : Nat → Nat) (W : World) : JF c x [] X tg W := fun i hi => by simp at hi
theorem JF.add {c x : Nat} {d : List Nat} {X : Nat → Value} {tg : Nat → Nat} {W W' : World} (h : JF c x d X tg W) {i : Nat} (hi : i ∉ d) (hb : Below W.heap.size W W') {v : Value} (hC : CF c x i v (tgN tg W.heap.size i) W') : JF c x (i :: d) (updX X i v) (tgN tg W.heap.size i) W' := by
  intro j hj
  rcases List.mem_cons.1 hj with rfl | hj
  · simpa [updX] using hC
  · have hne : j ≠ i := fun e => hi (e ▸ hj)
    have e : updX X i v j = X j := by simp [updX, hne]
    rw [e]
    exact (h j hj).go hb fun b hb' => tgN_old hb'
theorem CF.m2 {c x : Nat} {tg : Nat → Nat} {W : World} {b : Nat} (h : Blk 109 W b (nodeZ ++ (nodeZ ++ nodeZ))) (ht : tg b = 2) (hx : x ≤ b) : CF c x 2 (.slice (some ⟨b, 0, none⟩) 3 3) tg W :=
  ⟨fun _ => ⟨b, rfl, h, ht, hx⟩, fun e => absurd e (by decide), fun e => absurd e (by decide), fun e => absurd e (by decide), fun e => absurd e (by decide), fun e => absurd e (by decide), fun e => absurd e (by decide), fun e => absurd e (by decide), fun e => absurd e (by decide), fun e => absurd e (by decide), fun e => absurd e (by decide)⟩
theorem CF.m4 {c x : Nat} {tg : Nat → Nat} {W : World}  : CF c x 4 (.int .i64 (-(c : Int))) tg W :=
  ⟨fun e => absurd e (by decide), fun _ => rfl, fun e => absurd e (by decide), fun e => absurd e (by decide), fun e => absurd e (by decide), fun e => absurd e (by decide), fun e => absurd e (by decide), fun e => absurd e (by decide), fun e => absurd e (by decide), fun e => absurd e (by decide), fun e => absurd e (by decide)⟩
theorem CF.m5 {c x : Nat} {tg : Nat → Nat} {W : World} {b : Nat} (h : Blk 2 W b [.int .i64 (-(c : Int))]) : CF c x 5 (.slice (some ⟨b, 0, none⟩) 1 1) tg W :=
  ⟨fun e => absurd e (by decide), fun e => absurd e (by decide), fun _ => ⟨b, rfl, h⟩, fun e => absurd e (by decide), fun e => absurd e (by decide), fun e => absurd e (by decide), fun e => absurd e (by decide), fun e => absurd e (by decide), fun e => absurd e (by decide), fun e => absurd e (by decide), fun e => absurd e (by decide)⟩
theorem CF.m8 {c x : Nat} {tg : Nat → Nat} {W : World} {b : Nat} (h : Blk 2 W b [.int .i64 (-(c : Int)), .int .i64 (-(c : Int))]) (ht : tg b = 8) (hx : x ≤ b) : CF c x 8 (.slice (some ⟨b, 0, none⟩) 2 2) tg W :=
  ⟨fun e => absurd e (by decide), fun e => absurd e (by decide), fun e => absurd e (by decide), fun _ => ⟨b, rfl, h, ht, hx⟩, fun e => absurd e (by decide), fun e => absurd e (by decide), fun e => absurd e (by decide), fun e => absurd e (by decide), fun e => absurd e (by decide), fun e => absurd e (by decide), fun e => absurd e (by decide)⟩
theorem CF.m9 {c x : Nat} {tg : Nat → Nat} {W : World} {b : Nat} (h : Blk 3 W b [.int .i64 (-1)]) : CF c x 9 (.slice (some ⟨b, 0, none⟩) 1 1) tg W :=
  ⟨fun e => absurd e (by decide), fun e => absurd e (by decide), fun e => absurd e (by decide), fun e => absurd e (by decide), fun _ => ⟨b, rfl, h⟩, fun e => absurd e (by decide), fun e => absurd e (by decide), fun e => absurd e (by decide), fun e => absurd e (by decide), fun e => absurd e (by decide), fun e => absurd e (by decide)⟩
theorem CF.m12 {c x : Nat} {tg : Nat → Nat} {W : World} {b : Nat} (h : Blk 3 W b [.int .i64 (-1), .int .i64 (-1)]) (ht : tg b = 12) (hx : x ≤ b) : CF c x 12 (.slice (some ⟨b, 0, none⟩) 2 2) tg W :=
  ⟨fun e => absurd e (by decide), fun e => absurd e (by decide), fun e => absurd e (by decide), fun e => absurd e (by decide), fun e => absurd e (by decide), fun _ => ⟨b, rfl, h, ht, hx⟩, fun e => absurd e (by decide), fun e => absurd e (by decide), fun e => absurd e (by decide), fun e => absurd e (by decide), fun e => absurd e (by decide)⟩
theorem CF.m15 {c x : Nat} {tg : Nat → Nat} {W : World} {b : Nat} (h : Blk 3 W b [.int .i64 0, .int .i64 0]) (ht : tg b = 15) (hx : x ≤ b) : CF c x 15 (.slice (some ⟨b, 0, none⟩) 2 2) tg W :=
  ⟨fun e => absurd e (by decide), fun e => absurd e (by decide), fun e => absurd e (by decide), fun e => absurd e (by decide), fun e => absurd e (by decide), fun e => absurd e (by decide), fun _ => ⟨b, rfl, h, ht, hx⟩, fun e => absurd e (by decide), fun e => absurd e (by decide), fun e => absurd e (by decide), fun e => absurd e (by decide)⟩
theorem CF.m17 {c x : Nat} {tg : Nat → Nat} {W : World} {rb b0 b1 : Nat} (h : R2 3 25 2 rb b0 b1 [.int .i64 (-1), .int .i64 0] [.int .i64 0, .int .i64 (-1)] W) (ht : ∀ b, x ≤ b → rb ≤ b → tg b = 17) (hx : x ≤ rb) : CF c x 17 (.slice (some ⟨rb, 0, none⟩) 2 2) tg W :=
  ⟨fun e => absurd e (by decide), fun e => absurd e (by decide), fun e => absurd e (by decide), fun e => absurd e (by decide), fun e => absurd e (by decide), fun e => absurd e (by decide), fun e => absurd e (by decide), fun _ => ⟨rb, b0, b1, rfl, h, ht _ hx (Nat.le_refl _), ht _ (by have := h.lt0; omega) (by have := h.lt0; omega), ht _ (by have := h.lt0; have := h.lt1; omega) (by have := h.lt0; have := h.lt1; omega), hx⟩, fun e => absurd e (by decide), fun e => absurd e (by decide), fun e => absurd e (by decide)⟩
theorem CF.m20 {c x : Nat} {tg : Nat → Nat} {W : World} {rb b0 b1 : Nat} (h : R2 2 41 2 rb b0 b1 [.int .i64 0, .int .i64 0] [.int .i64 0, .int .i64 0] W) (ht : ∀ b, x ≤ b → rb ≤ b → tg b = 20) (hx : x ≤ rb) : CF c x 20 (.slice (some ⟨rb, 0, none⟩) 2 2) tg W :=
  ⟨fun e => absurd e (by decide), fun e => absurd e (by decide), fun e => absurd e (by decide), fun e => absurd e (by decide), fun e => absurd e (by decide), fun e => absurd e (by decide), fun e => absurd e (by decide), fun e => absurd e (by decide), fun _ => ⟨rb, b0, b1, rfl, h, ht _ hx (Nat.le_refl _), ht _ (by have := h.lt0; omega) (by have := h.lt0; omega), ht _ (by have := h.lt0; have := h.lt1; omega) (by have := h.lt0; have := h.lt1; omega), hx⟩, fun e => absurd e (by decide), fun e => absurd e (by decide)⟩
theorem CF.m22 {c x : Nat} {tg : Nat → Nat} {W : World}  : CF c x 22 (.agg #[.int .i64 (-1), .int .i64 (-1)]) tg W :=
  ⟨fun e => absurd e (by decide), fun e => absurd e (by decide), fun e => absurd e (by decide), fun e => absurd e (by decide), fun e => absurd e (by decide), fun e => absurd e (by decide), fun e => absurd e (by decide), fun e => absurd e (by decide), fun e => absurd e (by decide), fun _ => rfl, fun e => absurd e (by decide)⟩
theorem CF.m23 {c x : Nat} {tg : Nat → Nat} {W : World} {rb b0 b1 b2 : Nat} (h : R3 102 107 3 rb b0 b1 b2 linkN linkN linkN W) (ht : ∀ b, x ≤ b → rb ≤ b → tg b = 23) (hx : x ≤ rb) : CF c x 23 (.slice (some ⟨rb, 0, none⟩) 3 3) tg W :=
  ⟨fun e => absurd e (by decide), fun e => absurd e (by decide), fun e => absurd e (by decide), fun e => absurd e (by decide), fun e => absurd e (by decide), fun e => absurd e (by decide), fun e => absurd e (by decide), fun e => absurd e (by decide), fun e => absurd e (by decide), fun e => absurd e (by decide), fun _ => ⟨rb, b0, b1, b2, rfl, h, ht _ hx (Nat.le_refl _), ht _ (by have := h.lt0; omega) (by have := h.lt0; omega), ht _ (by have := h.lt0; have := h.lt1; omega) (by have := h.lt0; have := h.lt1; omega), ht _ (by have := h.lt0; have := h.lt1; have := h.lt2; omega) (by have := h.lt0; have := h.lt1; have := h.lt2; omega), hx⟩⟩
theorem ex_updX {X : Nat → Value} {i : Nat} {v : Value} (h : X i = v) : ∃ X', X = updX X' i v := by
  refine ⟨X, funext fun j => ?_⟩
  unfold updX
  by_cases e : j = i
  · rw [if_pos e, e, h]
  · rw [if_neg e]
set_option maxRecDepth 100000 in
theorem missing_any (w : World) : Calls Tryz.prog 64 #[] w fun r w' => r = .returned (.agg #[.int .i64 (-1), .int .i64 (-1)]) ∧ Below w.heap.size w w' := by
  have hal : Below w.heap.size w (w.alloc (.cells #[.int .i64 (-1), .int .i64 (-1)] 102)) := (Below.refl _ _).alloc (Nat.le_refl _) _
  go_enter Tryz.func64, Tryz.ntmps64
  go_wp2
  exact bodyPost_ret (v := .agg #[.int .i64 (-1), .int .i64 (-1)]) (by simp [results, Tryz.results64, go_sem]) rfl ⟨rfl, hal⟩
end Go.Proofs.YthdhimcaojfcnaaGreat
