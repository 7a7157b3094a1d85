/-
  The contract of paths.Way, where the last edges are edges that end there.
-/
import Derived.Sort.OwnSortedInts
import Derived.Test.YthdhimcaojfcnaaGreatShelfS
import Derived.Test.YthdhimcaojfcnaaGreatXWaRound
namespace Go.Proofs.YthdhimcaojfcnaaGreat
open Go Go.Proofs Go.RowKit

/-- The places of the edges that are gone by from v on, the last one first. -/
def wayM (L : List Eg) (V : List Int) : Nat → Nat → List Int
  | 0, _ => []
  | k + 1, v => if at' V v = -1 then [] else at' V v :: wayM L V k (par L V v)
theorem wayM_none {L : List Eg} {V : List Int} {v : Nat} (h : at' V v = -1) : ∀ k, wayM L V k v = []
  | 0 => rfl
  | _ + 1 => if_pos h
theorem wayM_step {L : List Eg} {V : List Int} {v k : Nat} (h : at' V v ≠ -1) : wayM L V (k + 1) v = at' V v :: wayM L V k (par L V v) := if_neg h
theorem grow_nilW (W : World) : Go.Sort.grow W #[] = W := by cases W; simp [Go.Sort.grow]

set_option maxRecDepth 100000 in
set_option maxHeartbeats 4000000 in
theorem way_any (N : Nat) (L : List Eg) (hN : N ≤ 40) (hE : ∀ e ∈ L, e.1 < N ∧ e.2.1 < N) (V : List Int) (lV : V.length = N) (hV : ValidV L N V) (v : Nat) (hv : v < N) (sv vv : Value) (w : World) (hl : Edges w.heap.size w sv (L.map edE)) (hI : Ints w.heap.size w vv V) :
    Calls Tryz.prog 51 #[.agg #[.int .i64 (N : Int), sv], vv, .int .i64 (v : Int)] w fun r w' => ∃ rv, r = .returned rv ∧ w'.ownsRow w.heap.size 3 1 rv (wayM L V N v).length ((wayM L V N v).reverse.map (Value.int .i64)) ∧ Below w.heap.size w w' := by
  have hmix := mixed
  obtain ⟨p, c, rfl⟩ := hl.lenG
  obtain ⟨pv, cv, rfl, hov⟩ := hI.openW
  obtain ⟨bv, ov, rfl, hbv, hcv⟩ := hov (j := v) (by omega)
  obtain ⟨i0, hi, hz0, hz1, hz2⟩ := info_partsW infoIW
  have hb1 : Below w.heap.size w (w.alloc (.cells #[.int .i64 (N : Int), .slice p L.length c] 24)) := (Below.refl _ _).alloc (Nat.le_refl _) _
  have hX1 : Blk 24 (w.alloc (.cells #[.int .i64 (N : Int), .slice p L.length c] 24)) w.heap.size [.int .i64 (N : Int), .slice p L.length c] := heap_alloc_new w _
  have q0 := hX1.cell (j := 0) rfl
  have hN1 : (N : Int) < 1048576 := by omega
  have HCV : Hid (∀ W', Below w.heap.size w W' → ∀ i, i < N → W'.cell? ⟨bv, ov + i, none⟩ = some (.int .i64 (at' V i))) := by rw [lV] at hcv; exact hcv
  have HL : Hid _ := hl
  have HV : Hid _ := hV
  have HE : Hid _ := hE
  rw [lV]
  clear hcv hov hl hI hV hE lV
  have hs1 : (w.alloc (.cells #[.int .i64 (N : Int), .slice p L.length c] 24)).heap.size = w.heap.size + 1 := by simp
  have hiv : ∀ (u : Nat) W, u < N → Calls Tryz.prog 43 #[.agg #[.int .i64 (N : Int), .slice p L.length c], .int .i64 (u : Int)] W fun r w' => r = .returned (.bool true) ∧ Grew W w' := fun u W hu => by
    have h := isVertex_any (N : Int) (u : Int) (.slice p L.length c) W ⟨_, _, _, rfl⟩
    rwa [vtx_iff.2 (by omega)] at h
  go_enter Tryz.func51, Tryz.ntmps51
  go_wp2
  generalize w.alloc (.cells #[.int .i64 (N : Int), .slice p L.length c] 24) = w1 at *
  have hmax : max (1048576 : Int) (N : Int) = 1048576 := by omega
  have hmin : min (N : Int) 1048576 = (N : Int) := by omega
  rw [hmax, hmin]
  clear hmax hmin
  go_loopg [2, 8] N (fun k vv wv wr => ∃ (u : Nat) (A : List Int), vv = .int .i64 u ∧ u < N ∧ A.length + k = N ∧ Hid (A ++ wayM L V k u = wayM L V N v) ∧ wr.ownsRow (w.heap.size + 1) 3 1 wv A.length (A.map (Value.int .i64)) ∧ Blk 24 wr w.heap.size [.int .i64 (N : Int), .slice p L.length c] ∧ Below w.heap.size w wr)
  case atStart => exact ⟨v, [], rfl, hv, by simp, (show Hid _ from by simp [Hid]), World.ownsRow_nil _ _ _ _, hX1, hb1⟩
  case round =>
    clear hX1 hb1 q0 hs1
    obtain ⟨u, A, rfl, hu, hAk, HA, hO, hX, hb⟩ := hrel
    obtain ⟨pa, ca, rfl⟩ := owns_formP hO
    have q0 := hX.cell (j := 0) rfl
    have q1 := hX.cell (j := 1) rfl
    have hiu := hiv u wr hu
    have hul : (u : Int) < (N : Int) := by omega
    go_wp2_with fail
    refine hiu.mono ?_
    rintro e w2 ⟨rfl, hg2⟩
    clear hiu q0 q1
    have hX2 := hX.go hg2.below
    have hb2 := hb.trans (hg2.below.mono hb.size)
    have hO2 := owns_below hO hg2.below
    clear hX hb hO hg2
    have v0 := HCV.out w2 hb2 u hu
    by_cases hstop : gk = 0 ∨ at' V u = -1
    · have hAE : A = wayM L V N v := by
        rw [← HA.out]
        rcases hstop with h | h
        · rw [h]; simp [wayM]
        · rw [wayM_none h]; simp
      have HAE : Hid _ := hAE
      have hrv : ∃ Q : Ending → World → Prop, (Calls Tryz.prog 76 #[.slice pa A.length ca] w2 Q) ∧ ∀ e w', Q e w' → e = .returned (.tuple #[]) ∧ w'.ownsRow w.heap.size 3 1 (.slice pa A.length ca) A.length (A.reverse.map (Value.int .i64)) ∧ Below w.heap.size w w' := by
        by_cases hA0 : A.length = 0
        · rw [hA0]
          refine ⟨_, Tryz.slices_Reverse_int_empty pa ca w2, ?_⟩
          rintro e w' ⟨rfl, rfl⟩
          have : A = [] := List.eq_nil_of_length_eq_zero hA0
          subst this
          exact ⟨rfl, owns_base hO2 (by omega), hb2⟩
        · obtain ⟨g, cap, e⟩ := owns_pos hO2 (by omega)
          simp only [Value.slice.injEq] at e
          obtain ⟨rfl, _, rfl⟩ := e
          rcases hO2.2 with ⟨h0, _⟩ | ⟨g2, cap2, cur2, e2, hbase, hblk, h1, h2, h3, h4⟩
          · cases h0
          · simp only [Value.slice.injEq, Option.some.injEq, Addr.mk.injEq] at e2
            obtain ⟨⟨rfl, _, _⟩, _, rfl⟩ := e2
            refine ⟨_, Tryz.slices_Reverse_int g 0 ca A w2 (holds_of_blockI hblk (by simpa using h4)) (by omega), ?_⟩
            rintro e w3 ⟨rfl, nn, hw3⟩
            have hw4 : w3 = Go.Sort.grow (Go.Sort.putRow (Value.int .i64) (Go.Sort.ahead w2 nn) g 0 A.reverse.toArray) #[] := by
              rw [hw3, grow_nilW]
            refine ⟨rfl, ?_, ?_⟩
            · rw [hw4]
              exact ownsRow_sortedI (ss := A) (ts := A.reverse) (by simp) (by omega) hblk h1 h2 h3
            · have hg3 : w2.grownBy w3 (some g) := by
                rw [hw4]
                exact grownBy_sortedI _
              exact hb2.grown hg3 hb2.size (fun q e => by cases e; omega)
      obtain ⟨QQ, hrv, hQQ⟩ := hrv
      have HQ : Hid _ := hQQ
      have HS : Hid _ := hstop
      clear hQQ hAE hstop
      by_cases hk0 : gk = 0
      · have hd : ((A.length : Int) == (N : Int)) = true := by simp; omega
        clear hAk HA hk0 HS
        go_wp2_with fail
        refine hrv.mono ?_
        intro e w3 hq3
        obtain ⟨rfl, hO3, hb3⟩ := HQ.out e w3 hq3
        clear hrv
        go_wp2
        go_ret
        exact ⟨_, rfl, by rw [← HAE.out]; exact hO3, hb3⟩
      · have hd : ((A.length : Int) == (N : Int)) = false := by simp; omega
        rw [HS.out.resolve_left hk0] at v0
        clear hAk HA hk0 HS
        go_wp2_with fail
        refine hrv.mono ?_
        intro e w3 hq3
        obtain ⟨rfl, hO3, hb3⟩ := HQ.out e w3 hq3
        clear hrv
        go_wp2
        go_ret
        exact ⟨_, rfl, by rw [← HAE.out]; exact hO3, hb3⟩
    · obtain ⟨k, HGK⟩ : ∃ k, Hid (gk = k + 1) := ⟨gk - 1, show gk = gk - 1 + 1 by omega⟩
      have hne : at' V u ≠ -1 := fun h => hstop (.inr h)
      rcases HV.out u hu with h2 | ⟨i, e, h2, he, hev⟩
      · exact absurd h2 hne
      · have hd : ((A.length : Int) == (N : Int)) = false := by have := HGK.out; simp; omega
        have hstep := wayM_step (L := L) (k := k) hne
        rw [par_of h2 he, h2] at hstep
        have HST : Hid _ := hstep
        have hil := (List.getElem?_eq_some_iff.1 he).1
        have hie := (List.getElem?_eq_some_iff.1 he).2
        have hen : endsB L (i : Int) u = true := ends_iff.2 ⟨i, rfl, e, he, hev⟩
        have hun : oth e u < N := by
          have := HE.out e (List.mem_of_getElem? he)
          rcases oth_jn hev with ⟨a, b⟩ | ⟨a, b⟩ <;> omega
        have hot := fun W => other_any e u W
        rw [h2] at v0
        have hni : ¬ (i : Int) = -1 := by omega
        obtain ⟨bl, ol, rfl, hbl, hcl, hcel⟩ := Edges.eg HL.out hil
        have HCE : Hid (∀ W', Below w.heap.size w W' → W'.cell? ⟨bl, ol + i * 3, none⟩ = some (.int .i64 (e.1 : Int)) ∧ W'.cell? ⟨bl, ol + i * 3 + 1, none⟩ = some (.int .i64 (e.2.1 : Int)) ∧ W'.cell? ⟨bl, ol + i * 3 + 2, none⟩ = some (.int .i64 (e.2.2 : Int))) := fun W' hW => by
          have := hcel W' hW i hil
          rwa [hie] at this
        have hea : ∀ W, Below w.heap.size w W → Calls Tryz.prog 74 #[.agg #[.int .i64 (N : Int), .slice (some ⟨bl, ol, none⟩) L.length c], .int .i64 (i : Int), .int .i64 (u : Int)] W fun r w' => r = .returned (.bool true) ∧ Grew W w' := fun W h => by
          have := endsAt_any (N : Int) L (i : Int) u _ W ((Edges.below HL.out h).mono h.size)
          rwa [hen] at this
        have hil' : (i : Int) < (L.length : Int) := by omega
        have HVI : Hid _ := h2
        clear hcel he hie hev hne h2 hstop hstep
        generalize oth e u = u' at *
        have hAL : A.length ≤ 40 := by omega
        rw [HGK.out] at HA
        have hNu : decide (N ≤ u) = false := by simp; omega
        have hib : ((i : Int) == -1) = false := by simp
        have HAK : Hid _ := hAk
        clear hAk
        go_wp2
        have hxl := hX2.lt
        have q0g := cell_grown (a := ⟨w.heap.size, 0, none⟩) hxl (hX2.cell (j := 0) rfl)
        have q1g := cell_grown (a := ⟨w.heap.size, 1, none⟩) hxl (hX2.cell (j := 1) rfl)
        have v0g := cell_grown (a := ⟨bv, ov + u, none⟩) (by show bv < _; omega) v0
        have hea1 : ∀ n os, Calls Tryz.prog 74 #[.agg #[.int .i64 (N : Int), .slice (some ⟨bl, ol, none⟩) L.length c], .int .i64 (i : Int), .int .i64 (u : Int)] (Go.Sort.grow (w2.drewN n) os) fun r w' => r = .returned (.bool true) ∧ Grew (Go.Sort.grow (w2.drewN n) os) w' := fun n os => hea _ (hb2.trans ((Grew.below ⟨n, os, rfl⟩).mono hb2.size))
        go_quiet_grown (first | (go_at_call 74; refine Calls.grown_of (hea1 _ _)))
        have hgr : Grew w2 (Go.Sort.grow (w2.drewN nq) osq) := ⟨nq, osq, rfl⟩
        generalize Go.Sort.grow (w2.drewN nq) osq = w3 at *
        have hX3 := hX2.go hgr.below
        have hb3 := hb2.trans (hgr.below.mono hb2.size)
        have hO3 := owns_below hO2 hgr.below
        clear q0g q1g v0g hea1 hea hX2 hb2 hO2 hgr v0 hxl
        have v3 := HCV.out w3 hb3 u hu
        rw [HVI.out] at v3
        have hOA := World.ownsRow.alloc hO3 (.cells #[.int .i64 (i : Int)] 3)
        have hnews := one_cell w3 (.int .i64 (i : Int)) 3
        have hmx : A.length + 1 ≤ maxLen := by unfold maxLen; omega
        have hby : (A.length + 1) * 8 ≤ 140737488355328 := by omega
        have hxl := hX3.lt
        have hbs : w.heap.size + 1 ≤ (w3.alloc (.cells #[.int .i64 (i : Int)] 3)).heap.size := by simp only [World.size_alloc]; omega
        have hlow : ∀ q, (Value.slice pa A.length ca).ownBlock = some q → w.heap.size + 1 ≤ q := fun q hq => (hO3.lt q hq).1
        have hone : ∀ z ∈ [Value.int .i64 (i : Int)], z.oneCell' = true := fun z hz => by rw [List.mem_singleton.1 hz]; rfl
        go_wp2_with (at_builtin; refine wpList_append_own_at _ rfl _ _ 25 rfl (w.heap.size + 1) 3 i0 (.int .i64 0) 1 8 Tryz.underlying25 hi hz0 hz1 hz2 rfl (by decide) (.slice pa A.length ca) _ _ rfl hOA ⟨w3.heap.size, 0, none⟩ 1 1 [.int .i64 (i : Int)] rfl rfl hnews hone hmx hby hbs ?_)
        intro v7 w7 hown7 hg7 hnil7 hat7
        obtain ⟨a7, c7, rfl⟩ := owns_formP hown7
        have hbA : Below w.heap.size w (w3.alloc (.cells #[.int .i64 (i : Int)] 3)) := hb3.trans (((Below.refl w3.heap.size w3).alloc (Nat.le_refl _) _).mono hb3.size)
        have hb7 : Below w.heap.size w w7 := hbA.grown hg7 hbA.size (fun q hq => by have := hlow q hq; omega)
        have hXA : Blk 24 (w3.alloc (.cells #[.int .i64 (i : Int)] 3)) w.heap.size [.int .i64 (N : Int), .slice (some ⟨bl, ol, none⟩) L.length c] := hX3.go ((Below.refl w3.heap.size w3).alloc (Nat.le_refl _) _)
        have hX7 : Blk 24 w7 w.heap.size [.int .i64 (N : Int), .slice (some ⟨bl, ol, none⟩) L.length c] := (hg7.block w.heap.size hXA.lt (fun e => by have := hlow _ e.symm; omega)).trans hXA
        clear hg7 hnil7 hat7 hOA hnews hone hbs hXA hbA hX3 hb3 hO3 v3 hxl hlow hmx hby
        go_wp2
        have hs7 := hb7.size
        have hxl := hX7.lt
        obtain ⟨g0, g1, g2⟩ := HCE.out w7 hb7
        have v7 := HCV.out w7 hb7 u hu
        rw [HVI.out] at v7
        have q1g := cell_grown (a := ⟨w.heap.size, 1, none⟩) hxl (hX7.cell (j := 1) rfl)
        replace v7 := cell_grown (a := ⟨bv, ov + u, none⟩) (by show bv < _; omega) v7
        replace g0 := cell_grown (a := ⟨bl, ol + i * 3, none⟩) (by show bl < _; omega) g0
        replace g1 := cell_grown (a := ⟨bl, ol + i * 3 + 1, none⟩) (by show bl < _; omega) g1
        replace g2 := cell_grown (a := ⟨bl, ol + i * 3 + 2, none⟩) (by show bl < _; omega) g2
        go_quiet_grown (first | (go_at_call 75; refine Calls.grown_of (hot _)))
        have hgr : Grew w7 (Go.Sort.grow (w7.drewN nq) osq) := ⟨nq, osq, rfl⟩
        generalize Go.Sort.grow (w7.drewN nq) osq = w8 at *
        go_wp2
        go_roundg k
        case measure => have := HGK.out; omega
        case rel =>
          refine ⟨u', A ++ [(i : Int)], rfl, hun, by have := HAK.out; have := HGK.out; simp; omega, ?_, ?_, hX7.go hgr.below, hb7.trans (hgr.below.mono hs7)⟩
          · unfold Hid
            have := HA.out
            rw [HST.out] at this
            rw [← this]; simp
          · rw [List.length_append, List.map_append]
            exact owns_below hown7 hgr.below
end Go.Proofs.YthdhimcaojfcnaaGreat
