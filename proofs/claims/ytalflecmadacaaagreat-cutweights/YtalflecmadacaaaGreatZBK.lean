import Derived.Deep.LoopGhost
import Derived.Test.YtalflecmadacaaaGreatZAJ
import Derived.Sort.OwnSortedInts
import Derived.Test.YtalflecmadacaaaGreatShelfS
import Derived.Test.YtalflecmadacaaaGreatZAH
set_option maxRecDepth 100000
set_option maxHeartbeats 8000000
namespace Go.Proofs.YtalflecmadacaaaGreat
open Go Go.Proofs Go.RowKit
def ValidV (L : List Eg) (N : Nat) (V : List Int) : Prop := ∀ v, v < N → at' V v = -1 ∨ ∃ (i : Nat) (e : Eg), at' V v = i ∧ L[i]? = some e ∧ (e.1 = v ∨ e.2.1 = v)
theorem par_of {L : List Eg} {V : List Int} {v i : Nat} {e : Eg} (h : at' V v = i) (he : L[i]? = some e) : par L V v = oth e v := by
 unfold par
 rw [if_neg (by omega), h, Int.toNat_natCast]
 have : L.getD i (0, 0, 0) = e := by simp [List.getD, he]
 rw [this]
theorem par_ltV {L : List Eg} {N : Nat} {V : List Int} (hE : ∀ e ∈ L, e.1 < N ∧ e.2.1 < N) (hV : ValidV L N V) {v : Nat} (hv : v < N) : par L V v < N := by
 rcases hV v hv with h | ⟨i, e, h1, h2, h3⟩
 ·rw [par_none h]; exact hv
 ·rw [par_of h1 h2]
  have := hE e (List.mem_of_getElem? h2)
  rcases oth_jn h3 with ⟨a, b⟩ | ⟨a, b⟩ <;> omega
def wayM (L : List Eg) (V : List Int) : Nat → Nat → List Int
 | 0, _ => []
 | k + 1, v => if at' V v = -1 then [] else at' V v :: wayM L V k (par L V v)
theorem wayM_none {L : List Eg} {V : List Int} {v : Nat} (h : at' V v = -1) : ∀ k, wayM L V k v = []
 | 0 => rfl
 | _ + 1 => if_pos h
theorem wayM_step {L : List Eg} {V : List Int} {v k : Nat} (h : at' V v ≠ -1) : wayM L V (k + 1) v = at' V v :: wayM L V k (par L V v) := if_neg h
theorem grow_nilW (W : World) : Go.Sort.grow W #[] = W := by cases W; simp [Go.Sort.grow]
theorem way_any (N : Nat) (L : List Eg) (hN : N ≤ 40) (hE : ∀ e ∈ L, e.1 < N ∧ e.2.1 < N) (V : List Int) (lV : V.length = N) (hV : ValidV L N V) (v : Nat) (hv : v < N) (sv vv : Value) (w : World) (hl : Edges w.heap.size w sv (L.map edE)) (hI : Ints w.heap.size w vv V) :
  Calls Tryz.prog 116 #[.agg #[.int .i64 (N : Int), sv], vv, .int .i64 (v : Int)] w fun r w' => ∃ rv, r = .returned rv ∧ w'.ownsRow w.heap.size 3 1 rv (wayM L V N v).length ((wayM L V N v).reverse.map (Value.int .i64)) ∧ Below w.heap.size w w' := by
 have hmix := mixed
 obtain ⟨p, c, rfl⟩ := hl.lenG
 obtain ⟨pv, cv, rfl, hov⟩ := hI.openW
 obtain ⟨bv, ov, rfl, hbv, hcv⟩ := hov (j := v) (by omega)
 obtain ⟨i0, hi, hz0, hz1, hz2⟩ := info_partsW infoIW
 have hb1 : Below w.heap.size w (w.alloc (.cells #[.int .i64 (N : Int), .slice p L.length c] 24)) := (Below.refl _ _).alloc (Nat.le_refl _) _
 have hX1 : Blk 24 (w.alloc (.cells #[.int .i64 (N : Int), .slice p L.length c] 24)) w.heap.size [.int .i64 (N : Int), .slice p L.length c] := heap_alloc_new w _
 have q0 := hX1.cell (j := 0) rfl
 have hN1 : (N : Int) < 1048576 := by omega
 have HCV : Hid (∀ W', Below w.heap.size w W' → ∀ i, i < N → W'.cell? ⟨bv, ov + i, none⟩ = some (.int .i64 (at' V i))) := by rw [lV] at hcv; exact hcv
 have HL : Hid _ := hl
 have HV : Hid _ := hV
 have HE : Hid _ := hE
 rw [lV]
 clear hcv hov hl hI hV hE lV
 have hs1 : (w.alloc (.cells #[.int .i64 (N : Int), .slice p L.length c] 24)).heap.size = w.heap.size + 1 := by simp
 have hiv : ∀ (u : Nat) W, u < N → Calls Tryz.prog 126 #[.agg #[.int .i64 (N : Int), .slice p L.length c], .int .i64 (u : Int)] W fun r w' => r = .returned (.bool true) ∧ Grew W w' := fun u W hu => by
  have h := isVertex_any (N : Int) (u : Int) (.slice p L.length c) W ⟨_, _, _, rfl⟩
  rwa [vtx_iff.2 (by omega)] at h
 go_enter Tryz.func116, Tryz.ntmps116
 go_wp2
 generalize w.alloc (.cells #[.int .i64 (N : Int), .slice p L.length c] 24) = w1 at *
 have hmax : max (1048576 : Int) (N : Int) = 1048576 := by omega
 have hmin : min (N : Int) 1048576 = (N : Int) := by omega
 rw [hmax, hmin]
 clear hmax hmin
 go_loopg [2, 8] N (fun k vv wv wr => ∃ (u : Nat) (A : List Int), vv = .int .i64 u ∧ u < N ∧ A.length + k = N ∧ Hid (A ++ wayM L V k u = wayM L V N v) ∧ wr.ownsRow (w.heap.size + 1) 3 1 wv A.length (A.map (Value.int .i64)) ∧ Blk 24 wr w.heap.size [.int .i64 (N : Int), .slice p L.length c] ∧ Below w.heap.size w wr)
 case atStart => exact ⟨v, [], rfl, hv, by simp, (show Hid _ from by simp [Hid]), World.ownsRow_nil _ _ _ _, hX1, hb1⟩
 case round =>
  clear hX1 hb1 q0 hs1
  obtain ⟨u, A, rfl, hu, hAk, HA, hO, hX, hb⟩ := hrel
  obtain ⟨pa, ca, rfl⟩ := owns_formPT hO
  have q0 := hX.cell (j := 0) rfl
  have q1 := hX.cell (j := 1) rfl
  have hiu := hiv u wr hu
  have hul : (u : Int) < (N : Int) := by omega
  go_wp2_with fail
  refine hiu.mono ?_
  rintro e w2 ⟨rfl, hg2⟩
  clear hiu q0 q1
  have hX2 := hX.go hg2.below
  have hb2 := hb.trans (hg2.below.mono hb.size)
  have hO2 := owns_belowT hO hg2.below
  clear hX hb hO hg2
  have v0 := HCV.out w2 hb2 u hu
  by_cases hstop : gk = 0 ∨ at' V u = -1
  ·have hAE : A = wayM L V N v := by
    rw [← HA.out]
    rcases hstop with h | h
    ·rw [h]; simp [wayM]
    ·rw [wayM_none h]; simp
   have HAE : Hid _ := hAE
   have hrv : ∃ Q : Ending → World → Prop, (Calls Tryz.prog 151 #[.slice pa A.length ca] w2 Q) ∧ ∀ e w', Q e w' → e = .returned (.tuple #[]) ∧ w'.ownsRow w.heap.size 3 1 (.slice pa A.length ca) A.length (A.reverse.map (Value.int .i64)) ∧ Below w.heap.size w w' := by
    by_cases hA0 : A.length = 0
    ·rw [hA0]
     refine ⟨_, Tryz.slices_Reverse_int_empty pa ca w2, ?_⟩
     rintro e w' ⟨rfl, rfl⟩
     have : A = [] := List.eq_nil_of_length_eq_zero hA0
     subst this
     exact ⟨rfl, owns_baseT hO2 (by omega), hb2⟩
    ·obtain ⟨g, cap, e⟩ := owns_posT hO2 (by omega)
     simp only [Value.slice.injEq] at e
     obtain ⟨rfl, _, rfl⟩ := e
     rcases hO2.2 with ⟨h0, _⟩ | ⟨g2, cap2, cur2, e2, hbase, hblk, h1, h2, h3, h4⟩
     ·cases h0
     ·simp only [Value.slice.injEq, Option.some.injEq, Addr.mk.injEq] at e2
      obtain ⟨⟨rfl, _, _⟩, _, rfl⟩ := e2
      refine ⟨_, Tryz.slices_Reverse_int g 0 ca A w2 (holds_of_blockI hblk (by simpa using h4)) (by omega), ?_⟩
      rintro e w3 ⟨rfl, nn, hw3⟩
      have hw4 : w3 = Go.Sort.grow (Go.Sort.putRow (Value.int .i64) (Go.Sort.ahead w2 nn) g 0 A.reverse.toArray) #[] := by
       rw [hw3, grow_nilW]
      refine ⟨rfl, ?_, ?_⟩
      ·rw [hw4]
       exact ownsRow_sortedI (ss := A) (ts := A.reverse) (by simp) (by omega) hblk h1 h2 h3
      ·have hg3 : w2.grownBy w3 (some g) := by
        rw [hw4]
        exact grownBy_sortedI _
       exact hb2.grown hg3 hb2.size (fun q e => by cases e; omega)
   obtain ⟨QQ, hrv, hQQ⟩ := hrv
   have HQ : Hid _ := hQQ
   have HS : Hid _ := hstop
   clear hQQ hAE hstop
   by_cases hk0 : gk = 0
   ·have hd : ((A.length : Int) == (N : Int)) = true := by simp; omega
    clear hAk HA hk0 HS
    go_wp2_with fail
    refine hrv.mono ?_
    intro e w3 hq3
    obtain ⟨rfl, hO3, hb3⟩ := HQ.out e w3 hq3
    clear hrv
    go_wp2
    go_ret
    exact ⟨_, rfl, by rw [← HAE.out]; exact hO3, hb3⟩
   ·have hd : ((A.length : Int) == (N : Int)) = false := by simp; omega
    rw [HS.out.resolve_left hk0] at v0
    clear hAk HA hk0 HS
    go_wp2_with fail
    refine hrv.mono ?_
    intro e w3 hq3
    obtain ⟨rfl, hO3, hb3⟩ := HQ.out e w3 hq3
    clear hrv
    go_wp2
    go_ret
    exact ⟨_, rfl, by rw [← HAE.out]; exact hO3, hb3⟩
  ·obtain ⟨k, HGK⟩ : ∃ k, Hid (gk = k + 1) := ⟨gk - 1, show gk = gk - 1 + 1 by omega⟩
   have hne : at' V u ≠ -1 := fun h => hstop (.inr h)
   rcases HV.out u hu with h2 | ⟨i, e, h2, he, hev⟩
   ·exact absurd h2 hne
   ·have hd : ((A.length : Int) == (N : Int)) = false := by have := HGK.out; simp; omega
    have hstep := wayM_step (L := L) (k := k) hne
    rw [par_of h2 he, h2] at hstep
    have HST : Hid _ := hstep
    have hil := (List.getElem?_eq_some_iff.1 he).1
    have hie := (List.getElem?_eq_some_iff.1 he).2
    have hen : endsBT L (i : Int) u = true := ends_iff.2 ⟨i, rfl, e, he, hev⟩
    have hun : oth e u < N := by
     have := HE.out e (List.mem_of_getElem? he)
     rcases oth_jn hev with ⟨a, b⟩ | ⟨a, b⟩ <;> omega
    have hot := fun W => other_any e u W
    rw [h2] at v0
    have hni : ¬ (i : Int) = -1 := by omega
    obtain ⟨bl, ol, rfl, hbl, hcl, hcel⟩ := Edges.eg HL.out hil
    have HCE : Hid (∀ W', Below w.heap.size w W' → W'.cell? ⟨bl, ol + i * 3, none⟩ = some (.int .i64 (e.1 : Int)) ∧ W'.cell? ⟨bl, ol + i * 3 + 1, none⟩ = some (.int .i64 (e.2.1 : Int)) ∧ W'.cell? ⟨bl, ol + i * 3 + 2, none⟩ = some (.int .i64 (e.2.2 : Int))) := fun W' hW => by
     have := hcel W' hW i hil
     rwa [hie] at this
    have hea : ∀ W, Below w.heap.size w W → Calls Tryz.prog 149 #[.agg #[.int .i64 (N : Int), .slice (some ⟨bl, ol, none⟩) L.length c], .int .i64 (i : Int), .int .i64 (u : Int)] W fun r w' => r = .returned (.bool true) ∧ Grew W w' := fun W h => by
     have := endsAt_any (N : Int) L (i : Int) u _ W ((Edges.below HL.out h).mono h.size)
     rwa [hen] at this
    have hil' : (i : Int) < (L.length : Int) := by omega
    have HVI : Hid _ := h2
    clear hcel he hie hev hne h2 hstop hstep
    generalize oth e u = u' at *
    have hAL : A.length ≤ 40 := by omega
    rw [HGK.out] at HA
    have hNu : decide (N ≤ u) = false := by simp; omega
    have hib : ((i : Int) == -1) = false := by simp
    have HAK : Hid _ := hAk
    clear hAk
    go_wp2
    have hxl := hX2.lt
    have q0g := cell_grown (a := ⟨w.heap.size, 0, none⟩) hxl (hX2.cell (j := 0) rfl)
    have q1g := cell_grown (a := ⟨w.heap.size, 1, none⟩) hxl (hX2.cell (j := 1) rfl)
    have v0g := cell_grown (a := ⟨bv, ov + u, none⟩) (by show bv < _; omega) v0
    have hea1 : ∀ n os, Calls Tryz.prog 149 #[.agg #[.int .i64 (N : Int), .slice (some ⟨bl, ol, none⟩) L.length c], .int .i64 (i : Int), .int .i64 (u : Int)] (Go.Sort.grow (w2.drewN n) os) fun r w' => r = .returned (.bool true) ∧ Grew (Go.Sort.grow (w2.drewN n) os) w' := fun n os => hea _ (hb2.trans ((Grew.below ⟨n, os, rfl⟩).mono hb2.size))
    go_quiet_grown (first | (go_at_call 149; refine Calls.grown_of (hea1 _ _)))
    have hgr : Grew w2 (Go.Sort.grow (w2.drewN nq) osq) := ⟨nq, osq, rfl⟩
    generalize Go.Sort.grow (w2.drewN nq) osq = w3 at *
    have hX3 := hX2.go hgr.below
    have hb3 := hb2.trans (hgr.below.mono hb2.size)
    have hO3 := owns_belowT hO2 hgr.below
    clear q0g q1g v0g hea1 hea hX2 hb2 hO2 hgr v0 hxl
    have v3 := HCV.out w3 hb3 u hu
    rw [HVI.out] at v3
    have hOA := World.ownsRow.alloc hO3 (.cells #[.int .i64 (i : Int)] 3)
    have hnews := one_cellT w3 (.int .i64 (i : Int)) 3
    have hmx : A.length + 1 ≤ maxLen := by unfold maxLen; omega
    have hby : (A.length + 1) * 8 ≤ 140737488355328 := by omega
    have hxl := hX3.lt
    have hbs : w.heap.size + 1 ≤ (w3.alloc (.cells #[.int .i64 (i : Int)] 3)).heap.size := by simp only [World.size_alloc]; omega
    have hlow : ∀ q, (Value.slice pa A.length ca).ownBlock = some q → w.heap.size + 1 ≤ q := fun q hq => (hO3.lt q hq).1
    have hone : ∀ z ∈ [Value.int .i64 (i : Int)], z.oneCell' = true := fun z hz => by rw [List.mem_singleton.1 hz]; rfl
    go_wp2_with (at_builtin; refine wpList_append_own_at _ rfl _ _ 27 rfl (w.heap.size + 1) 3 i0 (.int .i64 0) 1 8 Tryz.underlying27 hi hz0 hz1 hz2 rfl (by decide) (.slice pa A.length ca) _ _ rfl hOA ⟨w3.heap.size, 0, none⟩ 1 1 [.int .i64 (i : Int)] rfl rfl hnews hone hmx hby hbs ?_)
    intro v7 w7 hown7 hg7 hnil7 hat7
    obtain ⟨a7, c7, rfl⟩ := owns_formPT hown7
    have hbA : Below w.heap.size w (w3.alloc (.cells #[.int .i64 (i : Int)] 3)) := hb3.trans (((Below.refl w3.heap.size w3).alloc (Nat.le_refl _) _).mono hb3.size)
    have hb7 : Below w.heap.size w w7 := hbA.grown hg7 hbA.size (fun q hq => by have := hlow q hq; omega)
    have hXA : Blk 24 (w3.alloc (.cells #[.int .i64 (i : Int)] 3)) w.heap.size [.int .i64 (N : Int), .slice (some ⟨bl, ol, none⟩) L.length c] := hX3.go ((Below.refl w3.heap.size w3).alloc (Nat.le_refl _) _)
    have hX7 : Blk 24 w7 w.heap.size [.int .i64 (N : Int), .slice (some ⟨bl, ol, none⟩) L.length c] := (hg7.block w.heap.size hXA.lt (fun e => by have := hlow _ e.symm; omega)).trans hXA
    clear hg7 hnil7 hat7 hOA hnews hone hbs hXA hbA hX3 hb3 hO3 v3 hxl hlow hmx hby
    go_wp2
    have hs7 := hb7.size
    have hxl := hX7.lt
    obtain ⟨g0, g1, g2⟩ := HCE.out w7 hb7
    have v7 := HCV.out w7 hb7 u hu
    rw [HVI.out] at v7
    have q1g := cell_grown (a := ⟨w.heap.size, 1, none⟩) hxl (hX7.cell (j := 1) rfl)
    replace v7 := cell_grown (a := ⟨bv, ov + u, none⟩) (by show bv < _; omega) v7
    replace g0 := cell_grown (a := ⟨bl, ol + i * 3, none⟩) (by show bl < _; omega) g0
    replace g1 := cell_grown (a := ⟨bl, ol + i * 3 + 1, none⟩) (by show bl < _; omega) g1
    replace g2 := cell_grown (a := ⟨bl, ol + i * 3 + 2, none⟩) (by show bl < _; omega) g2
    go_quiet_grown (first | (go_at_call 150; refine Calls.grown_of (hot _)))
    have hgr : Grew w7 (Go.Sort.grow (w7.drewN nq) osq) := ⟨nq, osq, rfl⟩
    generalize Go.Sort.grow (w7.drewN nq) osq = w8 at *
    go_wp2
    go_roundg k
    case measure => have := HGK.out; omega
    case rel =>
     refine ⟨u', A ++ [(i : Int)], rfl, hun, by have := HAK.out; have := HGK.out; simp; omega, ?_, ?_, hX7.go hgr.below, hb7.trans (hgr.below.mono hs7)⟩
     ·unfold Hid
      have := HA.out
      rw [HST.out] at this
      rw [← this]; simp
     ·rw [List.length_append, List.map_append]
      exact owns_belowT hown7 hgr.below
end Go.Proofs.YtalflecmadacaaaGreat
namespace Go.Proofs.YtalflecmadacaaaGreat
def SWD (l : List Eg) (s : Nat) (d : List Int) : List Nat → Nat → Prop
 | [], _ => False
 | [v], c => v = s ∧ c = 0 ∧ at' d v = 0
 | v :: u :: t, c => (0 ≤ at' d v ∧ at' d v ≤ c) ∧ ∃ e, e ∈ l ∧ Jn e u v ∧ ∃ c', c = c' + e.2.2 ∧ SWD l s d (u :: t) c'
theorem SWD.sw {l : List Eg} {s : Nat} {d : List Int} : ∀ {L : List Nat} {c : Nat}, SWD l s d L c → SW l s L c
 | [], _, h => h
 | [v], c, h => ⟨h.1, h.2.1⟩
 | v :: u :: t, c, h => by
  obtain ⟨_, e, he, hj, c', hc, h'⟩ := h
  exact ⟨e, he, hj, c', hc, h'.sw⟩
theorem SWD.le {l : List Eg} {s : Nat} {d : List Int} : ∀ {L : List Nat} {c : Nat} {v : Nat}, SWD l s d L c → v ∈ L → 0 ≤ at' d v ∧ at' d v ≤ c
 | [], _, _, h, _ => h.elim
 | [x], c, v, h, hv => by
  have : v = x := by simpa using hv
  subst this
  have := h.2.2
  have := h.2.1
  omega
 | x :: u :: t, c, v, h, hv => by
  obtain ⟨h0, e, he, hj, c', hc, h'⟩ := h
  rcases List.mem_cons.1 hv with h1 | h1
  ·subst h1; exact h0
  ·have := SWD.le h' h1
   omega
theorem SWD.less {l : List Eg} {s : Nat} {d d' : List Int} (hs : at' d' s = 0) (hm : Mn d d') : ∀ {L : List Nat} {c : Nat}, SWD l s d L c → SWD l s d' L c
 | [], _, h => h
 | [v], c, h => by
  obtain ⟨rfl, h2, h3⟩ := h
  exact ⟨rfl, h2, hs⟩
 | v :: u :: t, c, h => by
  obtain ⟨h0, e, he, hj, c', hc, h'⟩ := h
  exact ⟨by have := hm v h0.1; omega, e, he, hj, c', hc, h'.less hs hm⟩
theorem sw_cost {l : List Eg} {s M : Nat} (hM : ∀ e ∈ l, e.2.2 ≤ M) : ∀ {L : List Nat} {c : Nat}, SW l s L c → c ≤ L.length * M
 | [], _, h => h.elim
 | [v], c, h => by rw [h.2]; omega
 | v :: u :: t, c, h => by
  obtain ⟨e, he, hj, c', hc, h'⟩ := h
  have := sw_cost hM h'
  have := hM e he
  have e1 : (v :: u :: t).length * M = (u :: t).length * M + M := Nat.succ_mul _ _
  omega
structure FIT (l : List Eg) (s n : Nat) (D V : List Int) (Q : List (Nat × Nat)) : Prop where
 lenD : D.length = n
 lenV : V.length = n
 zero : at' D s = 0
 none : at' V s = -1
 reach : ∀ v, v < n → (at' D v = -1 ∧ at' V v = -1) ∨ ∃ c : Nat, at' D v = c ∧ ∃ L, SWD l s D (v :: L) c ∧ (v :: L).Nodup
 via : ∀ v, v < n → v ≠ s → 0 ≤ at' D v → ∃ i : Nat, at' V v = i ∧ ∃ e, l[i]? = some e ∧ (e.1 = v ∨ e.2.1 = v) ∧ 0 ≤ at' D (oth e v) ∧ at' D (oth e v) + e.2.2 ≤ at' D v
 chain : ∀ v, v < n → 0 ≤ at' D v → ∃ k, up l V k v = s
 queue : ∀ x ∈ Q, x.2 < n ∧ 0 ≤ at' D x.2 ∧ at' D x.2 ≤ x.1
def Opn (l : List Eg) (n : Nat) (D : List Int) (Q : List (Nat × Nat)) (u : Nat) (pl : List Nat) : Prop :=
 ∀ x, x < n → 0 ≤ at' D x → (∃ c : Nat, at' D x = c ∧ (c, x) ∈ Q) ∨ ∀ (i : Nat) e, l[i]? = some e → (x = u → i ∈ pl ∨ e.1 = e.2.1) → ∀ b, Jn e x b → 0 ≤ at' D b ∧ at' D b ≤ at' D x + e.2.2
theorem FIT.perm {l : List Eg} {s n : Nat} {D V : List Int} {Q Q' : List (Nat × Nat)} (h : FIT l s n D V Q) (hp : ∀ x ∈ Q', x ∈ Q) : FIT l s n D V Q' := ⟨h.lenD, h.lenV, h.zero, h.none, h.reach, h.via, h.chain, fun x hx => h.queue x (hp x hx)⟩
theorem FIT.ge {l : List Eg} {s n : Nat} {D V : List Int} {Q : List (Nat × Nat)} (h : FIT l s n D V Q) {v : Nat} (hv : v < n) : -1 ≤ at' D v := by
 rcases h.reach v hv with h1 | ⟨c, h1, _⟩ <;> omega
theorem FIT.few {l : List Eg} {s n M : Nat} {D V : List Int} {Q : List (Nat × Nat)} (h : FIT l s n D V Q) (hl : ∀ e ∈ l, e.1 < n ∧ e.2.1 < n) (hs : s < n) (hM : ∀ e ∈ l, e.2.2 ≤ M) {v : Nat} (hv : v < n) : at' D v ≤ ((n * M : Nat) : Int) := by
 rcases h.reach v hv with h1 | ⟨c, h1, L, h2, h3⟩
 ·omega
 ·have h4 := sw_cost hM h2.sw
  have h5 := nodup_le n _ h3 (sw_lt hl hs h2.sw)
  have := Nat.mul_le_mul_right M h5
  omega
theorem FIT.start (l : List Eg) {s n : Nat} (hs : s < n) {Q : List (Nat × Nat)} (hQ : ∀ x, x ∈ Q ↔ x = (0, s)) : FIT l s n (dist0 n s) ((negs n).set s (-1)) Q ∧ Opn l n (dist0 n s) Q n [] := by
 have hlen : s < (negs n).length := by simpa [negs] using hs
 have hV : ∀ v, at' ((negs n).set s (-1)) v = -1 := fun v => by rw [at_set _ hlen, at_negs]; simp
 have hD : ∀ v, at' (dist0 n s) v = if v = s then 0 else -1 := fun v => by unfold dist0; rw [at_set _ hlen, at_negs]
 refine ⟨⟨by simp [dist0, negs], by simp [negs], by rw [hD, if_pos rfl], hV s, fun v hv => ?_, fun v hv hne h0 => ?_, fun v hv h0 => ?_, fun x hx => ?_⟩, fun x hx h0 => ?_⟩
 ·by_cases e : v = s
  ·subst e
   exact .inr ⟨0, by rw [hD, if_pos rfl]; rfl, [], ⟨rfl, rfl, by rw [hD, if_pos rfl]⟩, by simp⟩
  ·exact .inl ⟨by rw [hD, if_neg e], hV v⟩
 ·rw [hD, if_neg hne] at h0; omega
 ·by_cases e : v = s
  ·exact ⟨0, e⟩
  ·rw [hD, if_neg e] at h0; omega
 ·rw [(hQ x).1 hx]
  exact ⟨hs, by rw [hD, if_pos rfl]; simp, by rw [hD, if_pos rfl]; simp⟩
 ·by_cases e : x = s
  ·subst e
   exact .inl ⟨0, by rw [hD, if_pos rfl]; rfl, (hQ _).2 rfl⟩
  ·rw [hD, if_neg e] at h0; omega
theorem FIT.par {l : List Eg} {s n : Nat} {D V : List Int} {Q : List (Nat × Nat)} (h : FIT l s n D V Q) (hl : ∀ e ∈ l, e.1 < n ∧ e.2.1 < n) {v : Nat} (hv : v < n) (h0 : 0 ≤ at' D v) : par l V v < n ∧ 0 ≤ at' D (par l V v) ∧ at' D (par l V v) ≤ at' D v := by
 by_cases e : v = s
 ·subst e
  rw [par_none h.none]
  exact ⟨hv, h0, Int.le_refl _⟩
 ·obtain ⟨i, hi, e', he, hx, h1, h2⟩ := h.via v hv e h0
  have hp : Go.Proofs.YtalflecmadacaaaGreat.par l V v = oth e' v := by
   unfold Go.Proofs.YtalflecmadacaaaGreat.par
   rw [if_neg (by omega), hi]
   have : l.getD i (0, 0, 0) = e' := by simp [List.getD, he]
   rw [Int.toNat_natCast, this]
  rw [hp]
  have hm := hl e' (List.mem_of_getElem? he)
  refine ⟨?_, h1, by omega⟩
  rcases oth_jn hx with ⟨a, b⟩ | ⟨a, b⟩ <;> omega
theorem FIT.up {l : List Eg} {s n : Nat} {D V : List Int} {Q : List (Nat × Nat)} (h : FIT l s n D V Q) (hl : ∀ e ∈ l, e.1 < n ∧ e.2.1 < n) : ∀ (k v : Nat), v < n → 0 ≤ at' D v → up l V k v < n ∧ 0 ≤ at' D (up l V k v) ∧ at' D (up l V k v) ≤ at' D v
 | 0, v, hv, h0 => ⟨hv, h0, Int.le_refl _⟩
 | k + 1, v, hv, h0 => by
  obtain ⟨h1, h2, h3⟩ := h.par hl hv h0
  obtain ⟨h4, h5, h6⟩ := FIT.up h hl k (Go.Proofs.YtalflecmadacaaaGreat.par l V v) h1 h2
  exact ⟨h4, h5, Int.le_trans h6 h3⟩
theorem par_set {l : List Eg} {V : List Int} {b : Nat} (hb : b < V.length) (i : Int) {x : Nat} (hx : x ≠ b) : par l (V.set b i) x = par l V x := by
 unfold par
 rw [at_set _ hb, if_neg hx]
theorem up_set {l : List Eg} {V : List Int} {b : Nat} (hb : b < V.length) (i : Int) : ∀ (k x : Nat), (∀ j, up l V j x ≠ b) → up l (V.set b i) k x = up l V k x
 | 0, x, _ => rfl
 | k + 1, x, h => by
  show up l (V.set b i) k (par l (V.set b i) x) = up l V k (par l V x)
  rw [par_set (x := x) hb i (h 0)]
  exact up_set hb i k _ fun j => h (j + 1)
theorem FIT.come {l : List Eg} {s n : Nat} {D V : List Int} {Q : List (Nat × Nat)} (h : FIT l s n D V Q) (hl : ∀ e ∈ l, e.1 < n ∧ e.2.1 < n) {i u b c : Nat} {e : Eg} (he : l[i]? = some e) (hj : Jn e u b) (hu : u < n) (hb : b < n) (hc : at' D u = c)
  (hnew : at' D b = -1 ∨ ((c + e.2.2 : Nat) : Int) < at' D b) {Q' : List (Nat × Nat)} (hQ : ∀ x ∈ Q', x = (c + e.2.2, b) ∨ x ∈ Q) : FIT l s n (D.set b ((c + e.2.2 : Nat) : Int)) (V.set b (i : Int)) Q' := by
 have hbD : b < D.length := by rw [h.lenD]; exact hb
 have hbV : b < V.length := by rw [h.lenV]; exact hb
 have hem := List.mem_of_getElem? he
 have hbs : b ≠ s := by
  intro x
  subst x
  have := h.zero
  omega
 have hD : ∀ v, at' (D.set b ((c + e.2.2 : Nat) : Int)) v = if v = b then ((c + e.2.2 : Nat) : Int) else at' D v := at_set _ hbD
 have hV : ∀ v, at' (V.set b (i : Int)) v = if v = b then (i : Int) else at' V v := at_set _ hbV
 have hub : u ≠ b := by
  intro x
  subst x
  omega
 have hno : at' D b = -1 ∨ at' D u < at' D b := by omega
 have hzero' : at' (D.set b ((c + e.2.2 : Nat) : Int)) s = 0 := by rw [hD, if_neg (Ne.symm hbs)]; exact h.zero
 have hbefore : ∀ k x, x < n → 0 ≤ at' D x → at' D x ≤ at' D u → Go.Proofs.YtalflecmadacaaaGreat.up l V k x ≠ b := by
  intro k x hx h0 hle e'
  have := h.up hl k x hx h0
  rw [e'] at this
  omega
 have hsame : ∀ k, Go.Proofs.YtalflecmadacaaaGreat.up l (V.set b (i : Int)) k u = Go.Proofs.YtalflecmadacaaaGreat.up l V k u := fun k => up_set hbV _ k u fun j => hbefore j u hu (by omega) (Int.le_refl _)
 have hpb : Go.Proofs.YtalflecmadacaaaGreat.par l (V.set b (i : Int)) b = u := by
  unfold Go.Proofs.YtalflecmadacaaaGreat.par
  rw [hV, if_pos rfl, if_neg (by omega), Int.toNat_natCast]
  have : l.getD i (0, 0, 0) = e := by simp [List.getD, he]
  rw [this]
  exact oth_of hj
 have hMn : Mn D (D.set b ((c + e.2.2 : Nat) : Int)) := fun v hv => by
  rw [hD]
  split
  ·rename_i e'; subst e'; omega
  ·omega
 have hge : ∀ v, v < n → -1 ≤ at' D v := fun v hv => h.ge hv
 refine ⟨by simp [h.lenD], by simp [h.lenV], hzero', by rw [hV, if_neg (Ne.symm hbs)]; exact h.none, fun v hv => ?_, fun v hv hne h0 => ?_, fun v hv h0 => ?_, fun x hx => ?_⟩
 ·by_cases e' : v = b
  ·subst e'
   refine .inr ⟨c + e.2.2, by rw [hD, if_pos rfl], ?_⟩
   rcases h.reach u hu with h1 | ⟨c1, h1, L, h2, h3⟩
   ·omega
   ·obtain rfl : c1 = c := by omega
    refine ⟨u :: L, ⟨?_, e, hem, hj, c1, rfl, h2.less hzero' hMn⟩, List.nodup_cons.2 ⟨fun hm => ?_, h3⟩⟩
    ·rw [hD, if_pos rfl]; omega
    ·have := h2.le hm
     omega
  ·rcases h.reach v hv with h1 | ⟨c1, h1, L, h2, h3⟩
   ·exact .inl ⟨by rw [hD, if_neg e']; exact h1.1, by rw [hV, if_neg e']; exact h1.2⟩
   ·exact .inr ⟨c1, by rw [hD, if_neg e']; exact h1, L, h2.less hzero' hMn, h3⟩
 ·by_cases e' : v = b
  ·subst e'
   refine ⟨i, by rw [hV, if_pos rfl], e, he, ?_, ?_⟩
   ·rcases hj with ⟨x, y⟩ | ⟨x, y⟩
    ·exact .inr y
    ·exact .inl x
   ·rw [oth_of hj, hD, hD, if_pos rfl, if_neg hub]; omega
  ·rw [hD, if_neg e'] at h0
   obtain ⟨i1, k1, e1, k2, k3, k4, k5⟩ := h.via v hv hne h0
   have := hMn _ k4
   exact ⟨i1, by rw [hV, if_neg e']; exact k1, e1, k2, k3, this.1, by rw [hD v, if_neg e']; omega⟩
 ·have hu' : ∃ k, Go.Proofs.YtalflecmadacaaaGreat.up l (V.set b (i : Int)) k u = s := by
   obtain ⟨k, hk⟩ := h.chain u hu (by omega)
   exact ⟨k, by rw [hsame]; exact hk⟩
  have hb' : ∃ k, Go.Proofs.YtalflecmadacaaaGreat.up l (V.set b (i : Int)) k b = s := by
   obtain ⟨k, hk⟩ := hu'
   exact ⟨k + 1, by show Go.Proofs.YtalflecmadacaaaGreat.up l (V.set b (i : Int)) k (Go.Proofs.YtalflecmadacaaaGreat.par l (V.set b (i : Int)) b) = s; rw [hpb]; exact hk⟩
  have hall : ∀ k x, Go.Proofs.YtalflecmadacaaaGreat.up l V k x = s → ∃ k', Go.Proofs.YtalflecmadacaaaGreat.up l (V.set b (i : Int)) k' x = s := by
   intro k
   induction k with
   | zero => intro x hx; exact ⟨0, hx⟩
   | succ k ih =>
    intro x hx
    by_cases e' : x = b
    ·subst e'; exact hb'
    ·obtain ⟨k', hk'⟩ := ih (Go.Proofs.YtalflecmadacaaaGreat.par l V x) hx
     exact ⟨k' + 1, by show Go.Proofs.YtalflecmadacaaaGreat.up l (V.set b (i : Int)) k' (Go.Proofs.YtalflecmadacaaaGreat.par l (V.set b (i : Int)) x) = s; rw [par_set hbV _ e']; exact hk'⟩
  by_cases e' : v = b
  ·subst e'; exact hb'
  ·rw [hD, if_neg e'] at h0
   obtain ⟨k, hk⟩ := h.chain v hv h0
   exact hall k v hk
 ·rcases hQ x hx with h1 | h1
  ·subst h1
   exact ⟨hb, by rw [hD, if_pos rfl]; omega, by rw [hD, if_pos rfl]; exact Int.le_refl _⟩
  ·obtain ⟨k1, k2, k3⟩ := h.queue x h1
   have := hMn _ k2
   exact ⟨k1, this.1, by omega⟩
theorem Opn.come {l : List Eg} {n : Nat} {D : List Int} {Q : List (Nat × Nat)} {i u b c : Nat} {pl : List Nat} {e : Eg} (h : Opn l n D Q u pl) (hlen : D.length = n) (he : l[i]? = some e) (hj : Jn e u b) (hne : u ≠ b) (hb : b < n) (hc : at' D u = c)
  (hnew : at' D b = -1 ∨ ((c + e.2.2 : Nat) : Int) < at' D b) {Q' : List (Nat × Nat)} (hQ1 : (c + e.2.2, b) ∈ Q') (hQ2 : ∀ x ∈ Q, x ∈ Q') : Opn l n (D.set b ((c + e.2.2 : Nat) : Int)) Q' u (i :: pl) := by
 have hbD : b < D.length := by rw [hlen]; exact hb
 have hD : ∀ v, at' (D.set b ((c + e.2.2 : Nat) : Int)) v = if v = b then ((c + e.2.2 : Nat) : Int) else at' D v := at_set _ hbD
 have hMn : Mn D (D.set b ((c + e.2.2 : Nat) : Int)) := fun v hv => by
  rw [hD]
  split
  ·rename_i e'; subst e'; omega
  ·omega
 intro x hx h0
 by_cases e' : x = b
 ·subst e'
  exact .inl ⟨c + e.2.2, by rw [hD, if_pos rfl], hQ1⟩
 ·rw [hD, if_neg e'] at h0
  rcases h x hx h0 with ⟨c1, k1, k2⟩ | k
  ·exact .inl ⟨c1, by rw [hD, if_neg e']; exact k1, hQ2 _ k2⟩
  ·refine .inr fun i1 e1 h1 h2 b1 h3 => ?_
   rw [hD x, if_neg e']
   by_cases ei : x = u ∧ i1 = i
   ·obtain ⟨rfl, rfl⟩ := ei
    rw [he] at h1
    obtain rfl := Option.some.inj h1
    have hb1 : b1 = b := by
     have := oth_of h3.symm
     have := oth_of hj.symm
     omega
    subst hb1
    rw [hD, if_pos rfl]
    omega
   ·have := k i1 e1 h1 (fun hxu => by
     rcases h2 hxu with h4 | h4
     ·rcases List.mem_cons.1 h4 with h5 | h5
      ·exact absurd ⟨hxu, h5⟩ ei
      ·exact .inl h5
     ·exact .inr h4) b1 h3
    have := hMn _ this.1
    omega
theorem Opn.skip {l : List Eg} {n : Nat} {D : List Int} {Q : List (Nat × Nat)} {i u b c : Nat} {pl : List Nat} {e : Eg} (h : Opn l n D Q u pl) (he : l[i]? = some e) (hj : Jn e u b) (hc : at' D u = c) (hold : 0 ≤ at' D b ∧ at' D b ≤ ((c + e.2.2 : Nat) : Int)) : Opn l n D Q u (i :: pl) := by
 intro x hx h0
 rcases h x hx h0 with k | k
 ·exact .inl k
 ·refine .inr fun i1 e1 h1 h2 b1 h3 => ?_
  by_cases ei : x = u ∧ i1 = i
  ·obtain ⟨rfl, rfl⟩ := ei
   rw [he] at h1
   obtain rfl := Option.some.inj h1
   have hb1 : b1 = b := by
    have := oth_of h3.symm
    have := oth_of hj.symm
    omega
   subst hb1
   omega
  ·exact k i1 e1 h1 (fun hxu => by
    rcases h2 hxu with h4 | h4
    ·rcases List.mem_cons.1 h4 with h5 | h5
     ·exact absurd ⟨hxu, h5⟩ ei
     ·exact .inl h5
    ·exact .inr h4) b1 h3
theorem Opn.stale {l : List Eg} {n : Nat} {D : List Int} {Q Q' : List (Nat × Nat)} {c v : Nat} (h : Opn l n D Q n []) (hst : at' D v ≠ (c : Int)) (hQ : ∀ x ∈ Q, x = (c, v) ∨ x ∈ Q') : Opn l n D Q' n [] := by
 intro x hx h0
 rcases h x hx h0 with ⟨c1, k1, k2⟩ | k
 ·refine .inl ⟨c1, k1, (hQ _ k2).resolve_left fun e => ?_⟩
  have e1 := congrArg Prod.fst e
  have e2 := congrArg Prod.snd e
  simp only at e1 e2
  subst e1 e2
  exact hst k1
 ·exact .inr k
theorem Opn.take {l : List Eg} {n : Nat} {D : List Int} {Q Q' : List (Nat × Nat)} {c v : Nat} (h : Opn l n D Q n []) (hQ : ∀ x ∈ Q, x = (c, v) ∨ x ∈ Q') : Opn l n D Q' v [] := by
 intro x hx h0
 by_cases e : x = v
 ·subst e
  refine .inr fun i e he h2 b hj => ?_
  rcases h2 rfl with h3 | h3
  ·simp at h3
  ·have : b = x := by rcases hj with ⟨a, b⟩ | ⟨a, b⟩ <;> omega
   subst this
   omega
 ·rcases h x hx h0 with ⟨c1, k1, k2⟩ | k
  ·exact .inl ⟨c1, k1, (hQ _ k2).resolve_left fun e' => e (congrArg Prod.snd e')⟩
  ·exact .inr fun i e1 h1 _ b hj => k i e1 h1 (fun hxn => absurd hxn (by omega)) b hj
theorem Opn.full {l : List Eg} {n : Nat} {D : List Int} {Q : List (Nat × Nat)} {v : Nat} {pl : List Nat} (h : Opn l n D Q v pl) (hpl : ∀ (i : Nat) e, l[i]? = some e → (e.1 = v ∨ e.2.1 = v) → i ∈ pl ∨ e.1 = e.2.1) : Opn l n D Q n [] := by
 intro x hx h0
 rcases h x hx h0 with k | k
 ·exact .inl k
 ·refine .inr fun i e1 h1 _ b hj => k i e1 h1 (fun hxv => ?_) b hj
  subst hxv
  exact hpl i e1 h1 (by rcases hj with ⟨a, b⟩ | ⟨a, b⟩; exact .inl a; exact .inr b)
theorem FIT.okc {l : List Eg} {s n : Nat} {D V : List Int} (h : FIT l s n D V []) (ho : Opn l n D [] n []) (hl : ∀ e ∈ l, e.1 < n ∧ e.2.1 < n) : OKc l s n D V := by
 have hstep : ∀ e ∈ l, ∀ a b, Jn e a b → a < n → 0 ≤ at' D a → 0 ≤ at' D b ∧ at' D b ≤ at' D a + e.2.2 := by
  intro e he a b hj ha h0
  obtain ⟨i, hi⟩ := List.getElem?_of_mem he
  rcases ho a ha h0 with ⟨c, _, hc⟩ | k
  ·simp at hc
  ·exact k i e hi (fun hx => absurd hx (by omega)) b hj
 have hkept : ∀ e ∈ l, Kept D e := by
  intro e he
  obtain ⟨h1, h2⟩ := hl e he
  have a := hstep e he e.1 e.2.1 (.inl ⟨rfl, rfl⟩) h1
  have b := hstep e he e.2.1 e.1 (.inr ⟨rfl, rfl⟩) h2
  have c := h.ge h1
  have c' := h.ge h2
  by_cases k : 0 ≤ at' D e.1
  ·exact .inr (by have := a k; have := b this.1; omega)
  ·by_cases k' : 0 ≤ at' D e.2.1
   ·have := b k'; omega
   ·exact .inl (by omega)
 refine ⟨isD_of h.lenD h.zero hkept fun v hv => ?_, h.lenV, h.none, fun v hv hne => ?_, h.chain⟩
 ·rcases h.reach v hv with h1 | ⟨c, h1, L, h2, _⟩
  ·exact .inl h1.1
  ·exact .inr ⟨L, c, h1, h2.sw⟩
 ·rcases h.reach v hv with h1 | ⟨c, h1, _⟩
  ·exact .inl ⟨by omega, h1.2⟩
  ·have h0 : 0 ≤ at' D v := by omega
   obtain ⟨i, k1, e, k2, k3, k4, k5⟩ := h.via v hv hne h0
   have hm := List.mem_of_getElem? k2
   have := kept_le (hkept e hm) (oth_jn k3) k4
   exact .inr ⟨h0, i, k1, e, k2, k3, by omega⟩
def potI (B : Nat) (x : Int) : Nat := if x < 0 then B else x.toNat
def potT (B : Nat) (D : List Int) : Nat := (D.map (potI B)).sum
theorem sum_set : ∀ (L : List Nat) (i x : Nat) (h : i < L.length), (L.set i x).sum + L[i] = L.sum + x
 | [], i, x, h => by simp at h
 | y :: L, 0, x, h => by simp; omega
 | y :: L, i + 1, x, h => by
  have := sum_set L i x (by simpa using h)
  simp at this ⊢
  omega
theorem pot_less {B : Nat} {D : List Int} {b : Nat} (hb : b < D.length) {x : Nat} (hx : x < B) (hnew : at' D b = -1 ∨ (x : Int) < at' D b) : potT B (D.set b (x : Int)) < potT B D := by
 unfold potT
 rw [List.map_set]
 have hl : b < (D.map (potI B)).length := by simpa using hb
 have h1 := sum_set (D.map (potI B)) b (potI B (x : Int)) hl
 have h2 : (D.map (potI B))[b] = potI B (at' D b) := by rw [at_get hb]; simp
 have h3 : potI B (x : Int) = x := by unfold potI; rw [if_neg (by omega)]; simp
 have h4 : x < potI B (at' D b) := by
  unfold potI
  split <;> omega
 omega
end Go.Proofs.YtalflecmadacaaaGreat
namespace Go.Proofs.YtalflecmadacaaaGreat
theorem IsD.few {l : List Eg} {s n M : Nat} {d : List Int} (h : IsD l s n d) (hl : ∀ e ∈ l, e.1 < n ∧ e.2.1 < n) (hs : s < n) (hM : ∀ e ∈ l, e.2.2 ≤ M) {v : Nat} (hv : v < n) : at' d v ≤ ((n * M : Nat) : Int) := by
 rcases h.2 v hv with ⟨h1, _⟩ | ⟨c, h1, ⟨L, h2⟩, h3⟩
 ·omega
 ·obtain ⟨t, c', k1, k2, k3⟩ := sw_simple h2
  have h4 := sw_cost hM k1
  have h5 := nodup_le n _ k3 (sw_lt hl hs k1)
  have h6 := Nat.mul_le_mul_right M h5
  have h7 := h3 _ _ k1
  omega
theorem OKc.valid {l : List Eg} {s n : Nat} {d via : List Int} (h : OKc l s n d via) : ValidV l n via := fun v hv => by
 by_cases e : v = s
 ·subst e; exact .inl h.zero
 ·rcases h.last v hv e with h1 | ⟨_, i, h1, e', h2, h3, _⟩
  ·exact .inl h1.2
  ·exact .inr ⟨i, e', h1, h2, h3⟩
def wP (l : List Eg) (p : Int) : Int := ((l.getD p.toNat (0, 0, 0)).2.2 : Int)
def sumP (l : List Eg) (A : List Int) : Int := (A.map (wP l)).sum
theorem sumP_nil (l : List Eg) : sumP l [] = 0 := rfl
theorem sumP_cons (l : List Eg) (p : Int) (A : List Int) : sumP l (p :: A) = wP l p + sumP l A := by simp [sumP]
theorem sumP_append (l : List Eg) (A B : List Int) : sumP l (A ++ B) = sumP l A + sumP l B := by simp [sumP]
theorem sumP_reverse (l : List Eg) : ∀ A : List Int, sumP l A.reverse = sumP l A
 | [] => rfl
 | p :: A => by rw [List.reverse_cons, sumP_append, sumP_reverse l A, sumP_cons, sumP_cons, sumP_nil]; omega
theorem sumP_few {l : List Eg} {M : Nat} (hM : ∀ e ∈ l, e.2.2 ≤ M) : ∀ A : List Int, 0 ≤ sumP l A ∧ sumP l A ≤ ((A.length * M : Nat) : Int)
 | [] => by simp [sumP]
 | p :: A => by
  have h := sumP_few hM A
  have h1 : 0 ≤ wP l p ∧ wP l p ≤ (M : Int) := by
   unfold wP
   rw [List.getD_eq_getElem?_getD]
   cases hq : l[p.toNat]? with
   | none => simp
   | some e => have := hM e (List.mem_of_getElem? hq); simp; omega
  have e1 : (p :: A).length * M = A.length * M + M := Nat.succ_mul _ _
  rw [sumP_cons]
  omega
theorem wayM_len (l : List Eg) (via : List Int) : ∀ (k v : Nat), (wayM l via k v).length ≤ k
 | 0, _ => Nat.le_refl _
 | k + 1, v => by
  unfold wayM
  split
  ·simp
  ·have := wayM_len l via k (par l via v); simp; omega
theorem wayM_valid {l : List Eg} {n : Nat} {via : List Int} (hl : ∀ e ∈ l, e.1 < n ∧ e.2.1 < n) (hV : ValidV l n via) : ∀ (k v : Nat), v < n → ∀ p ∈ wayM l via k v, ∃ i : Nat, p = i ∧ i < l.length
 | 0, _, _, p, hp => by simp [wayM] at hp
 | k + 1, v, hv, p, hp => by
  unfold wayM at hp
  split at hp
  ·simp at hp
  ·rename_i hne
   rcases List.mem_cons.1 hp with rfl | hp
   ·rcases hV v hv with h | ⟨i, e, h1, h2, _⟩
    ·exact absurd h hne
    ·exact ⟨i, h1, (List.getElem?_eq_some_iff.1 h2).1⟩
   ·exact wayM_valid hl hV k _ (par_ltV hl hV hv) p hp
theorem way_sum {l : List Eg} {s n : Nat} {d via : List Int} (h : OKc l s n d via) (hl : ∀ e ∈ l, e.1 < n ∧ e.2.1 < n) (hs : s < n) : ∀ (t : List Nat) (k v : Nat), v < n → 0 ≤ at' d v → CH l via s (v :: t) → t.length ≤ k → sumP l (wayM l via k v) = at' d v := by
 have hbase : ∀ k, sumP l (wayM l via k s) = at' d s := fun k => by rw [wayM_none h.zero, sumP_nil, h.dist.zero hs]
 intro t
 induction t with
 | nil =>
  intro k v hv h0 hc _
  have : v = s := hc
  subst this
  exact hbase k
 | cons u t ih =>
  intro k v hv h0 hc hk
  by_cases e : v = s
  ·subst e; exact hbase k
  ·rcases h.last v hv e with h1 | ⟨_, hL⟩
   ·omega
   ·obtain ⟨k', rfl⟩ : ∃ k', k = k' + 1 := ⟨k - 1, by simp at hk; omega⟩
    obtain ⟨i, hi, e', he, hm, hj, hp, hd⟩ := hL.par
    have hk1 := kept_le (h.dist.kept hl hm) hj.symm h0
    have hpl := par_lt hl hL
    have hc2 := hc.2
    rw [hc.1] at hc2
    have ih' := ih k' (par l via v) hpl hk1.1 hc2 (by simp at hk; omega)
    rw [wayM_step (by omega), sumP_cons, ih', hd]
    have hw : wP l (at' via v) = (e'.2.2 : Int) := by
     unfold wP
     rw [hi, Int.toNat_natCast, List.getD_eq_getElem?_getD, he]
     rfl
    rw [hw]
    omega
theorem OKc.sum {l : List Eg} {s n : Nat} {d via : List Int} (h : OKc l s n d via) (hl : ∀ e ∈ l, e.1 < n ∧ e.2.1 < n) (hs : s < n) {v : Nat} (hv : v < n) (h0 : 0 ≤ at' d v) : sumP l (wayM l via n v).reverse = at' d v := by
 obtain ⟨t, h1, h2⟩ := h.short hl hs hv h0
 rw [sumP_reverse]
 exact way_sum h hl hs t n v hv h0 h1 (by omega)
end Go.Proofs.YtalflecmadacaaaGreat
