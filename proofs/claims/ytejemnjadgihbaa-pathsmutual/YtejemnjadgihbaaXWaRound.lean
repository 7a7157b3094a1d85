/-
  The contract of paths.goesRound.
-/
import Derived.Deep.LoopGhost
import Derived.Test.YtejemnjadgihbaaXWaChk
namespace Go.Proofs.Ytejemnjadgihbaa
open Go Go.Proofs Go.RowKit

def EndsW (L : List Eg) (V : List Int) (v : Nat) : Prop := ∃ k, at' V (up L V k v) = -1
theorem EndsW.step {L : List Eg} {V : List Int} {v : Nat} (h : EndsW L V (par L V v)) : EndsW L V v := by
  obtain ⟨k, hk⟩ := h
  exact ⟨k + 1, hk⟩
/-- Each last edge is none, or one that ends there. -/
def ValidV (L : List Eg) (N : Nat) (V : List Int) : Prop := ∀ v, v < N → at' V v = -1 ∨ ∃ (i : Nat) (e : Eg), at' V v = i ∧ L[i]? = some e ∧ (e.1 = v ∨ e.2.1 = v)
theorem par_of {L : List Eg} {V : List Int} {v i : Nat} {e : Eg} (h : at' V v = i) (he : L[i]? = some e) : par L V v = oth e v := by
  unfold par
  rw [if_neg (by omega), h, Int.toNat_natCast]
  have : L.getD i (0, 0, 0) = e := by simp [List.getD, he]
  rw [this]
theorem par_ltV {L : List Eg} {N : Nat} {V : List Int} (hE : ∀ e ∈ L, e.1 < N ∧ e.2.1 < N) (hV : ValidV L N V) {v : Nat} (hv : v < N) : par L V v < N := by
  rcases hV v hv with h | ⟨i, e, h1, h2, h3⟩
  · rw [par_none h]; exact hv
  · rw [par_of h1 h2]
    have := hE e (List.mem_of_getElem? h2)
    rcases oth_jn h3 with ⟨a, b⟩ | ⟨a, b⟩ <;> omega
/-- Going by last edges never ends from some vertex on. -/
def RoundsW (L : List Eg) (N : Nat) (V : List Int) : Prop := ∃ v, v < N ∧ ∃ M : Nat → Prop, M v ∧ ∀ x, x < N → M x → at' V x ≠ -1 ∧ M (par L V x)
/-- Behind j starts. -/
structure GO (L : List Eg) (N : Nat) (V : List Int) (j : Nat) (wl : List Int) : Prop where
  len : wl.length = N
  num : ∀ y, y < N → 0 ≤ at' wl y ∧ at' wl y ≤ (j : Int)
  fin : ∀ y, y < N → at' wl y ≠ 0 → EndsW L V y
  all : ∀ y, y < j → EndsW L V y
/-- In the walk from start j, at v. -/
structure GIn (L : List Eg) (N : Nat) (V : List Int) (j : Nat) (wl : List Int) (v : Nat) : Prop where
  len : wl.length = N
  num : ∀ y, y < N → 0 ≤ at' wl y ∧ at' wl y ≤ ((j + 1 : Nat) : Int)
  vlt : v < N
  fin : ∀ y, y < N → at' wl y ≠ 0 → at' wl y ≠ ((j + 1 : Nat) : Int) → EndsW L V y
  own : ∀ y, y < N → at' wl y = ((j + 1 : Nat) : Int) → at' V y ≠ -1 ∧ (at' wl (par L V y) = ((j + 1 : Nat) : Int) ∨ par L V y = v) ∧ (EndsW L V v → EndsW L V y)
  from' : EndsW L V v → EndsW L V j
  all : ∀ y, y < j → EndsW L V y
theorem GO.go {L : List Eg} {N : Nat} {V : List Int} {j : Nat} {wl : List Int} (h : GO L N V j wl) (hj : j < N) : GIn L N V j wl j :=
  ⟨h.len, fun y hy => by have := h.num y hy; omega, hj, fun y hy h0 _ => h.fin y hy h0, fun y hy h1 => by have := h.num y hy; omega, id, h.all⟩
theorem GIn.out {L : List Eg} {N : Nat} {V : List Int} {j : Nat} {wl : List Int} {v : Nat} (h : GIn L N V j wl v) (he : EndsW L V v) : GO L N V (j + 1) wl := by
  refine ⟨h.len, h.num, fun y hy h0 => ?_, fun y hy => ?_⟩
  · by_cases e : at' wl y = ((j + 1 : Nat) : Int)
    · exact (h.own y hy e).2.2 he
    · exact h.fin y hy h0 e
  · by_cases e : y = j
    · subst e; exact h.from' he
    · exact h.all y (by omega)
theorem GIn.step {L : List Eg} {N : Nat} {V : List Int} {j : Nat} {wl : List Int} {v : Nat} (h : GIn L N V j wl v) (hE : ∀ e ∈ L, e.1 < N ∧ e.2.1 < N) (hV : ValidV L N V) (h0 : at' wl v = 0) (h1 : at' V v ≠ -1) : GIn L N V j (wl.set v ((j + 1 : Nat) : Int)) (par L V v) := by
  have hlt : v < wl.length := by rw [h.len]; exact h.vlt
  have hs : ∀ y, at' (wl.set v ((j + 1 : Nat) : Int)) y = if y = v then ((j + 1 : Nat) : Int) else at' wl y := at_set _ hlt
  refine ⟨by simp [h.len], fun y hy => ?_, par_ltV hE hV h.vlt, fun y hy a b => ?_, fun y hy a => ?_, fun he => h.from' he.step, h.all⟩
  · rw [hs]; have := h.num y hy; split <;> omega
  · rw [hs] at a b
    by_cases e : y = v
    · rw [if_pos e] at b; exact absurd rfl b
    · rw [if_neg e] at a b; exact h.fin y hy a b
  · by_cases e : y = v
    · subst e; exact ⟨h1, .inr rfl, fun he => he.step⟩
    · rw [hs, if_neg e] at a
      obtain ⟨k1, k2, k3⟩ := h.own y hy a
      refine ⟨k1, .inl ?_, fun he => k3 he.step⟩
      rw [hs]
      rcases k2 with k2 | k2
      · split
        · rfl
        · exact k2
      · rw [if_pos k2]
theorem GIn.round {L : List Eg} {N : Nat} {V : List Int} {j : Nat} {wl : List Int} {v : Nat} (h : GIn L N V j wl v) (he : at' wl v = ((j + 1 : Nat) : Int)) : RoundsW L N V := by
  refine ⟨v, h.vlt, fun x => at' wl x = ((j + 1 : Nat) : Int), he, fun x hx hm => ?_⟩
  obtain ⟨k1, k2, _⟩ := h.own x hx hm
  refine ⟨k1, ?_⟩
  rcases k2 with k2 | k2
  · exact k2
  · show at' wl (par L V x) = _
    rw [k2]; exact he
theorem GO.start (L : List Eg) (N : Nat) (V : List Int) : GO L N V 0 (List.replicate N 0) := by
  have hz : ∀ y, y < N → at' (List.replicate N (0 : Int)) y = 0 := fun y hy => by rw [at_get (by simpa using hy)]; simp
  exact ⟨by simp, fun y hy => by rw [hz y hy]; omega, fun y hy h0 => absurd (hz y hy) h0, fun y hy => by omega⟩
def zerosW (wl : List Int) : Nat := wl.count 0
theorem zeros_set {wl : List Int} {v : Nat} (h : v < wl.length) (h0 : at' wl v = 0) {x : Int} (hx : x ≠ 0) : zerosW (wl.set v x) < zerosW wl := by
  unfold zerosW
  rw [at_get h] at h0
  have hpos : 0 < wl.count 0 := List.count_pos_iff.2 (by rw [← h0]; exact List.getElem_mem h)
  rw [List.count_set h, h0]
  simp [hx]
  omega
def RoundP (L : List Eg) (N : Nat) (V : List Int) (r : Ending) : Prop := (r = .returned (.bool true) ∧ RoundsW L N V) ∨ (r = .returned (.bool false) ∧ ∀ v, v < N → EndsW L V v)

set_option maxRecDepth 100000 in
set_option maxHeartbeats 4000000 in
theorem goesRound_any (N : Nat) (L : List Eg) (hN : N ≤ 1048576) (hE : ∀ e ∈ L, e.1 < N ∧ e.2.1 < N) (V : List Int) (lV : V.length = N) (hV : ValidV L N V) (sv vv : Value) (w : World) (hl : Edges w.heap.size w sv (L.map edE)) (hI : Ints w.heap.size w vv V) :
    Calls Try.prog 28 #[.agg #[.int .i64 (N : Int), sv], vv] w fun r w' => RoundP L N V r ∧ Below w.heap.size w w' := by
  have hmix := mixed
  obtain ⟨p, c, rfl⟩ := hl.lenG
  obtain ⟨pv, cv, rfl, hov⟩ := hI.openW
  obtain ⟨i0, hi, hz0, hz1, hz2⟩ := info_partsW infoIW
  have hs1 : (w.alloc (.cells #[.int .i64 (N : Int), .slice p L.length c] 24)).heap.size = w.heap.size + 1 := by simp
  have hb1 : Below w.heap.size w (w.alloc (.cells #[.int .i64 (N : Int), .slice p L.length c] 24)) := (Below.refl _ _).alloc (Nat.le_refl _) _
  have hX1 : Blk 24 (w.alloc (.cells #[.int .i64 (N : Int), .slice p L.length c] 24)) w.heap.size [.int .i64 (N : Int), .slice p L.length c] := heap_alloc_new w _
  have q0 := hX1.cell (j := 0) rfl
  rw [lV] at hov
  have hov' := fun (j : Nat) (hj : j < N) => hov (j := j) hj
  have HOV : Hid _ := hov'
  have HL : Hid _ := hl
  have HV : Hid _ := hV
  have HE : Hid _ := hE
  clear hov hov' hl hI hV hE
  rw [lV]
  clear lV
  go_enter Try.func28, Try.ntmps28
  go_wp2_with (at_make; generalize hw1 : w.alloc (.cells #[.int .i64 (N : Int), .slice p L.length c] 24) = w1 at *; refine wpList_make_full _ rfl _ _ 31 rfl (w.heap.size + 1) 3 i0 (.int .i64 0) 1 Try.underlying31 hi hz0 hz1 .i64 .i64 _ _ N rfl rfl rfl rfl (by rw [hz2]; omega) (by unfold maxLen; omega) (by omega) ?_; rw [hs1]; intro w3 hown hgrow; have hb3 : Below (w.heap.size + 1) w1 w3 := (Below.refl _ _).grown hgrow (by omega) (fun k e => by cases e); have x0 := (hX1.below hb3 (by omega)).cell (j := 0) rfl)
  have hrow := Blk.made hown
  rw [ints_madeW] at hrow
  have hX3 := hX1.below hb3 (by omega)
  have hbw3 : Below w.heap.size w w3 := hb1.trans (hb3.mono (by omega))
  have hG0 := GO.start L N V
  generalize List.replicate N (0 : Int) = wl0 at hrow hG0
  obtain ⟨g, hgg⟩ : ∃ g, w.heap.size + 1 = g := ⟨_, rfl⟩
  rw [hgg] at hrow ⊢
  have HGG : Hid _ := hgg
  clear hown hgrow hb3 hX1 hgg q0 hb1 hs1
  go_loopw [14] (fun i wr => ∃ (j : Nat) (wl : List Int), j ≤ N ∧ i = .int .i64 j ∧ GO L N V j wl ∧ Blk 3 wr g (wl.map (Value.int .i64)) ∧ Blk 24 wr w.heap.size [.int .i64 (N : Int), .slice p L.length c] ∧ Below w.heap.size w wr) (fun i _ => N - (intOf i).toNat)
  case atStart => exact ⟨0, wl0, Nat.zero_le _, rfl, hG0, hrow, hX3, hbw3⟩
  case round =>
    clear hrow hG0 hX3 hbw3 x0
    obtain ⟨j, wl, hj, rfl, hGO, hB, hX, hb⟩ := hrel
    by_cases hjN : j < N
    · have hjl : (j : Int) < (N : Int) := by omega
      have hGI := hGO.go hjN
      go_wp2
      generalize wr = w5 at *
      go_loopg [8] (zerosW wl) (fun k vv wr => ∃ (v : Nat) (wl' : List Int), zerosW wl' ≤ k ∧ vv = .int .i64 v ∧ GIn L N V j wl' v ∧ Blk 3 wr g (wl'.map (Value.int .i64)) ∧ Blk 24 wr w.heap.size [.int .i64 (N : Int), .slice p L.length c] ∧ Below w.heap.size w wr)
      case atStart => exact ⟨j, wl, Nat.le_refl _, rfl, hGI, hB, hX, hb⟩
      case round =>
        clear hGI hB hX hb
        obtain ⟨v, wl', hz, rfl, hGI, hB, hX, hb⟩ := hrel
        have hvN := hGI.vlt
        have hvl : (v : Int) < (N : Int) := by omega
        have hwlen : v < wl'.length := by rw [hGI.len]; exact hvN
        have t0 : wr.cell? ⟨g, v, none⟩ = some (.int .i64 (at' wl' v)) := hB.cell (by rw [List.getElem?_map, at_get? hwlen]; rfl)
        obtain ⟨bv, ov, rfl, hbv, hcv⟩ := HOV.out v hvN
        have v0 := hcv wr hb v hvN
        have hnum := hGI.num v hvN
        clear hcv
        by_cases h0 : at' wl' v = 0
        · by_cases h1 : at' V v = -1
          · have hend : EndsW L V v := ⟨0, h1⟩
            have hnext := hGI.out hend
            have HH0 : Hid _ := h0
            have HH1 : Hid _ := h1
            rw [h0] at t0
            rw [h1] at v0
            clear h0 h1 hnum
            go_wp2
            exact ⟨⟨j + 1, wl', by omega, by go_num, hnext, hB, hX, hb⟩, by simp [intOf]; omega⟩
          · rcases HV.out v hvN with h2 | ⟨i, e, h2, he, hev⟩
            · exact absurd h2 h1
            · have hil := (List.getElem?_eq_some_iff.1 he).1
              have hie := (List.getElem?_eq_some_iff.1 he).2
              obtain ⟨bl, ol, rfl, hbl, hcl, hcel⟩ := Edges.eg HL.out hil
              obtain ⟨e0, e1, e2⟩ := hcel wr hb i hil
              rw [hie] at e0 e1 e2
              have hil' : (i : Int) < (L.length : Int) := by omega
              have hstep := hGI.step HE.out HV.out h0 h1
              have hzs := zeros_set hwlen h0 (x := ((j + 1 : Nat) : Int)) (by omega)
              have hpar := par_of h2 he
              rw [hpar] at hstep
              have hBn := hB.set v (.int .i64 ((j + 1 : Nat) : Int))
              rw [← List.map_set] at hBn
              have hXn := hX.other (p := ⟨g, v, none⟩) (by have := HGG.out; show w.heap.size ≠ g; omega) (.int .i64 ((j + 1 : Nat) : Int))
              have hbn := hb.setCell (p := ⟨g, v, none⟩) (by have := HGG.out; show w.heap.size ≤ g; omega) (.int .i64 ((j + 1 : Nat) : Int))
              have f0 := hB.frozen v
              have hbg : bv ≠ g := by have := HGG.out; omega
              have hblg : bl ≠ g := by have := HGG.out; omega
              have hxg : w.heap.size ≠ g := by have := HGG.out; omega
              rw [h0] at t0
              rw [h2] at v0
              have hni : ¬ (i : Int) = -1 := by omega
              have hot := fun W => other_any e v W
              have hj1 : ((j + 1 : Nat) : Int) = (j : Int) + 1 := by omega
              rw [hj1] at hBn hXn hbn hstep hzs
              have x1 := hX.cell (j := 1) rfl
              generalize oth e v = u at *
              clear hcel he hie hev h0 h1 h2 hnum hGI hpar hB hX hb hj1
              go_wp2
              have x1' : (wr.setCell ⟨g, v, none⟩ (.int .i64 ((j : Int) + 1))).cell? ⟨w.heap.size, 1, none⟩ = some (.slice (some ⟨bl, ol, none⟩) L.length c) := hXn.cell (j := 1) rfl
              have v1 : (wr.setCell ⟨g, v, none⟩ (.int .i64 ((j : Int) + 1))).cell? ⟨bv, ov + v, none⟩ = some (.int .i64 (i : Int)) := (World.cell?_setCell_other _ _ _ _ (by intro e; simp at e)).trans v0
              have g0 : (wr.setCell ⟨g, v, none⟩ (.int .i64 ((j : Int) + 1))).cell? ⟨bl, ol + i * 3, none⟩ = some (.int .i64 (e.1 : Int)) := (World.cell?_setCell_other _ _ _ _ (by intro e; simp at e)).trans e0
              have g1 : (wr.setCell ⟨g, v, none⟩ (.int .i64 ((j : Int) + 1))).cell? ⟨bl, ol + i * 3 + 1, none⟩ = some (.int .i64 (e.2.1 : Int)) := (World.cell?_setCell_other _ _ _ _ (by intro e; simp at e)).trans e1
              have g2 : (wr.setCell ⟨g, v, none⟩ (.int .i64 ((j : Int) + 1))).cell? ⟨bl, ol + i * 3 + 2, none⟩ = some (.int .i64 (e.2.2 : Int)) := (World.cell?_setCell_other _ _ _ _ (by intro e; simp at e)).trans e2
              clear t0 v0 e0 e1 e2 x1 f0
              generalize wr.setCell ⟨g, v, none⟩ (.int .i64 ((j : Int) + 1)) = w6 at *
              have hs6 := hbn.size
              have hXl := hXn.lt
              replace x1' := cell_grown (a := ⟨w.heap.size, 1, none⟩) hXl x1'
              replace v1 := cell_grown (a := ⟨bv, ov + v, none⟩) (by show bv < _; omega) v1
              replace g0 := cell_grown (a := ⟨bl, ol + i * 3, none⟩) (by show bl < _; omega) g0
              replace g1 := cell_grown (a := ⟨bl, ol + i * 3 + 1, none⟩) (by show bl < _; omega) g1
              replace g2 := cell_grown (a := ⟨bl, ol + i * 3 + 2, none⟩) (by show bl < _; omega) g2
              go_quiet_grown (first | (go_at_call 30; refine Calls.grown_of (hot _)))
              have hgr : Grew w6 (Go.Sort.grow (w6.drewN nq) osq) := ⟨nq, osq, rfl⟩
              generalize Go.Sort.grow (w6.drewN nq) osq = w7 at *
              go_wp2
              go_roundg (zerosW (wl'.set v ((j : Int) + 1)))
              case measure => omega
              case rel => exact ⟨u, _, Nat.le_refl _, rfl, hstep, hBn.go hgr.below, hXn.go hgr.below, hbn.trans (hgr.below.mono hs6)⟩
        · by_cases h1 : at' wl' v = ((j + 1 : Nat) : Int)
          · have hrd := hGI.round h1
            have hj1 : ((j + 1 : Nat) : Int) = (j : Int) + 1 := by omega
            rw [h1, hj1] at t0
            have hj0 : ¬ (j : Int) + 1 = 0 := by omega
            clear h0 h1 hnum hj1
            go_wp2
            go_ret
            exact ⟨.inl ⟨rfl, hrd⟩, hb⟩
          · have hnext := hGI.out (hGI.fin v hvN h0 h1)
            have h1' : ¬ at' wl' v = (j : Int) + 1 := by omega
            generalize at' wl' v = z at *
            go_wp2
            exact ⟨⟨j + 1, wl', by omega, by go_num, hnext, hB, hX, hb⟩, by simp [intOf]; omega⟩
    · obtain rfl : N = j := by omega
      go_wp2
      go_ret
      exact ⟨.inr ⟨rfl, hGO.all⟩, hb⟩
end Go.Proofs.Ytejemnjadgihbaa
