/-
  The contract of paths.Check.
-/
import Derived.Test.YtejemnjadgihbaaXWaRound
namespace Go.Proofs.Ytejemnjadgihbaa
open Go Go.Proofs Go.RowKit

/-- OK just where all is right; else a witness that does not hold. -/
def CheckP (L : List Eg) (s N : Nat) (D V : List Int) (r : Ending) : Prop := (r = .returned (.int .i64 0) ∧ OKc L s N D V) ∨ (r = .returned (.int .i64 13) ∧ ¬ OKc L s N D V)

set_option maxRecDepth 100000 in
set_option maxHeartbeats 2000000 in
theorem check_bad (n f : Int) (l : List Ed) (sv dv vv : Value) (w : World) (hl : Edges w.heap.size w sv l) (hk : rgtW n l ≠ 0) :
    Calls Try.prog 15 #[.agg #[.int .i64 n, sv], .int .i64 f, dv, vv] w fun e w' => e = .returned (.int .i64 (rgtW n l)) ∧ Below w.heap.size w w' := by
  obtain ⟨p, c, rfl⟩ := hl.len
  have hg1 : Grew w (w.alloc (.cells #[.int .i64 n, .slice p l.length c] 24)) := (Grew.refl w).alloc _
  have hrt := rightW_any n l _ _ (hl.go hg1.below)
  generalize rgtW n l = k at hrt hk
  have hk' : (k == 0) = false := by simpa using hk
  go_enter Try.func15, Try.ntmps15
  go_wp2_with fail
  refine hrt.mono ?_
  rintro e w1 ⟨rfl, hg2⟩
  clear hrt
  go_wp2
  go_ret
  exact ⟨rfl, (hg1.trans hg2).below⟩
set_option maxRecDepth 100000 in
set_option maxHeartbeats 2000000 in
theorem check_none (n f : Int) (l : List Ed) (sv dv vv : Value) (w : World) (hl : Edges w.heap.size w sv l) (hk : rgtW n l = 0) (hv : vtxB n f = false) :
    Calls Try.prog 15 #[.agg #[.int .i64 n, sv], .int .i64 f, dv, vv] w fun e w' => e = .returned (.int .i64 5) ∧ Below w.heap.size w w' := by
  obtain ⟨p, c, rfl⟩ := hl.len
  have hg1 : Grew w (w.alloc (.cells #[.int .i64 n, .slice p l.length c] 24)) := (Grew.refl w).alloc _
  have hrt := rightW_any n l _ _ (hl.go hg1.below)
  have hiv := fun W => isVertex_any n f (.slice p l.length c) W ⟨_, _, _, rfl⟩
  rw [hk] at hrt
  rw [hv] at hiv
  clear hk hv
  go_enter Try.func15, Try.ntmps15
  go_wp2_with fail
  refine hrt.mono ?_
  rintro e w1 ⟨rfl, hg2⟩
  clear hrt
  have q0 := (box2 _ hg2).1
  have q1 := (box2 _ hg2).2
  go_wp2_with fail
  refine (hiv _).mono ?_
  rintro e w2 ⟨rfl, hg3⟩
  clear hiv
  go_wp2
  go_ret
  exact ⟨rfl, ((hg1.trans hg2).trans hg3).below⟩
set_option maxRecDepth 100000 in
set_option maxHeartbeats 4000000 in
theorem check_any (N : Nat) (L : List Eg) (s : Nat) (hN : N ≤ 1048576) (hs : s < N) (hm : L.length ≤ 4194304) (hE : ∀ e ∈ L, e.1 < N ∧ e.2.1 < N) (hW : ∀ e ∈ L, e.2.2 ≤ 2147483647) (hk : rgtW (N : Int) (L.map edE) = 0) (D V : List Int) (hbd : ∀ x ∈ D, x ≤ 9223372036854775807) (sv dv vv : Value) (w : World) (hl : Edges w.heap.size w sv (L.map edE)) (hD : Ints w.heap.size w dv D) (hV : Ints w.heap.size w vv V) :
    Calls Try.prog 15 #[.agg #[.int .i64 (N : Int), sv], .int .i64 (s : Int), dv, vv] w fun e w' => CheckP L s N D V e ∧ Below w.heap.size w w' := by
  have hmix := mixed
  obtain ⟨p, c, rfl⟩ := hl.lenG
  obtain ⟨pd, cd, rfl, hod⟩ := hD.openW
  obtain ⟨pv, cv, rfl, hov⟩ := hV.openW
  have hg1 : Grew w (w.alloc (.cells #[.int .i64 (N : Int), .slice p L.length c] 24)) := (Grew.refl w).alloc _
  have hrt := rightW_any (N : Int) (L.map edE) _ _ (hl.go hg1.below)
  have hiv := fun W => isVertex_any (N : Int) (s : Int) (.slice p L.length c) W ⟨_, _, _, rfl⟩
  rw [hk] at hrt
  have hvt : vtxB (N : Int) (s : Int) = true := vtx_iff.2 (by omega)
  rw [hvt] at hiv
  clear hk hvt
  go_enter Try.func15, Try.ntmps15
  go_wp2_with fail
  refine hrt.mono ?_
  rintro e w1 ⟨rfl, hg2⟩
  clear hrt
  have q0 := (box2 _ hg2).1
  have q1 := (box2 _ hg2).2
  go_wp2_with fail
  refine (hiv _).mono ?_
  rintro e w2 ⟨rfl, hg3⟩
  clear hiv q0 q1
  have hX : Blk 24 w2 w.heap.size [.int .i64 (N : Int), .slice p L.length c] := Blk.go (heap_alloc_new w _) (hg2.trans hg3).below
  have hb : Below w.heap.size w w2 := ((hg1.trans hg2).trans hg3).below
  have q0 := hX.cell (j := 0) rfl
  have q1 := hX.cell (j := 1) rfl
  clear hg1 hg2 hg3
  by_cases lD : D.length = N
  · by_cases lV : V.length = N
    · obtain ⟨bd, od, rfl, hbbd, hcd⟩ := hod (j := s) (by omega)
      obtain ⟨bv, ov, rfl, hbbv, hcv⟩ := hov (j := s) (by omega)
      have d0 := hcd w2 hb s (by omega)
      have v0 := hcv w2 hb s (by omega)
      have hsD : (s : Int) < (D.length : Int) := by omega
      have hsV : (s : Int) < (V.length : Int) := by omega
      clear hcd hcv hod hov
      by_cases hds : at' D s = 0
      · by_cases hvs : at' V s = -1
        · have HDS : Hid _ := hds
          have HVS : Hid _ := hvs
          have HLD : Hid _ := lD
          have HLV : Hid _ := lV
          rw [hds] at d0
          rw [hvs] at v0
          rw [lD] at hD hsD ⊢
          rw [lV] at hV hsV ⊢
          clear hds hvs lD lV
          go_wp2
          clear d0 v0
          go_loopw [51] (fun i wr => ∃ j : Nat, j ≤ L.length ∧ i = .int .i64 j ∧ Hid (∀ e ∈ L.take j, Kept D e) ∧ Blk 24 wr w.heap.size [.int .i64 (N : Int), .slice p L.length c] ∧ Below w.heap.size w wr) (fun i _ => L.length - (intOf i).toNat)
          case atStart => exact ⟨0, Nat.zero_le _, rfl, (fun e he => by simp at he), hX, hb⟩
          case round =>
            clear hX hb q0 q1
            obtain ⟨j, hj, rfl, HKE, hX, hb⟩ := hrel
            by_cases hjl : j < L.length
            · obtain ⟨bl, ol, rfl, hbl, hcl, hcel⟩ := hl.eg hjl
              obtain ⟨e0, e1, e2⟩ := hcel wr hb j hjl
              have hjl' : (j : Int) < (L.length : Int) := by omega
              have hem := List.getElem_mem hjl
              have hal : Below wr.heap.size wr (wr.alloc (.cells #[.int .i64 (L[j].1 : Int), .int .i64 (L[j].2.1 : Int), .int .i64 (L[j].2.2 : Int)] 39)) := (Below.refl _ _).alloc (Nat.le_refl _) _
              have hbA := hb.trans (hal.mono hb.size)
              have hXA := hX.go hal
              have hik := isKept_any N D L[j] _ _ ((hD.below hbA).mono hbA.size) HLD.out (hE _ hem).1 (hE _ hem).2 (hW _ hem) hbd
              have HN : Hid (¬ Kept D L[j] → ¬ OKc L s N D V) := fun hk h => hk (h.dist.kept hE hem)
              have HT : Hid (Kept D L[j] → ∀ e ∈ L.take (j + 1), Kept D e) := fun hk e he => by
                rw [List.take_succ_eq_append_getElem hjl] at he
                rcases List.mem_append.1 he with h | h
                · exact HKE.out e h
                · rw [List.mem_singleton.1 h]; exact hk
              generalize Kept D L[j] = kp at hik HN HT
              clear hcel HKE
              go_wp2_with fail
              refine hik.mono ?_
              rintro r w5 ⟨⟨b, rfl, hbk⟩, hg5⟩
              clear hik e0 e1 e2
              have hX5 := hXA.go hg5.below
              have hb5 := hbA.trans (hg5.below.mono hbA.size)
              cases b with
              | false =>
                have HNo := HN.out (by simpa using hbk)
                go_wp2
                go_ret
                exact ⟨.inr ⟨rfl, HNo⟩, hb5⟩
              | true =>
                have HYes := HT.out (hbk.1 rfl)
                have HY : Hid _ := HYes
                clear HYes hbk HN HT
                go_wp2
                exact ⟨⟨j + 1, by omega, by go_num, HY, hX5, hb5⟩, by simp [intOf]; omega⟩
            · obtain rfl : j = L.length := by omega
              have HK : Hid (∀ e ∈ L, Kept D e) := by have := HKE.out; rwa [List.take_length] at this
              have q0 := hX.cell (j := 0) rfl
              clear HKE
              go_wp2
              generalize wr = w5 at *
              go_loopw [62] (fun i wr => ∃ j : Nat, j ≤ N ∧ i = .int .i64 j ∧ Hid (∀ v, v < j → v ≠ s → RA L D V v) ∧ Blk 24 wr w.heap.size [.int .i64 (N : Int), .slice p L.length c] ∧ Below w.heap.size w wr) (fun i _ => N - (intOf i).toNat)
              case atStart => exact ⟨0, Nat.zero_le _, rfl, (fun v hv => by omega), hX, hb⟩
              case round =>
                clear hX hb q0
                obtain ⟨j, hj, rfl, HRA, hX, hb⟩ := hrel
                have q0 := hX.cell (j := 0) rfl
                have q1 := hX.cell (j := 1) rfl
                by_cases hjN : j < N
                · have hjl' : (j : Int) < (N : Int) := by omega
                  by_cases hjs : j = s
                  · have HR2 : Hid (∀ v, v < j + 1 → v ≠ s → RA L D V v) := fun v hv hne => HRA.out v (by omega) hne
                    have hjs' : (j : Int) = (s : Int) := by omega
                    clear HRA
                    subst hjs
                    go_wp2
                    exact ⟨⟨j + 1, by omega, by go_num, HR2, hX, hb⟩, by simp [intOf]; omega⟩
                  · have hjs' : ¬ (j : Int) = (s : Int) := by omega
                    have hir := isRightAt_any N L hE hW D V j hjN _ _ _ wr ((hl.below hb).mono hb.size) ((hD.below hb).mono hb.size) ((hV.below hb).mono hb.size) HLD.out HLV.out hbd
                    have HN : Hid (¬ RA L D V j → ¬ OKc L s N D V) := fun hk h => hk (by
                      rcases h.last j hjN hjs with ⟨a, b⟩ | ab
                      · exact .inl ⟨by have := h.dist.ge hjN; omega, b⟩
                      · exact .inr ab)
                    have HT : Hid (RA L D V j → ∀ v, v < j + 1 → v ≠ s → RA L D V v) := fun hk v hv hne => by
                      by_cases e : v = j
                      · subst e; exact hk
                      · exact HRA.out v (by omega) hne
                    generalize RA L D V j = kp at hir HN HT
                    clear HRA
                    go_wp2_with fail
                    refine hir.mono ?_
                    rintro r w6 ⟨⟨b, rfl, hbk⟩, hg6⟩
                    clear hir q0 q1
                    have hX6 := hX.go hg6.below
                    have hb6 := hb.trans (hg6.below.mono hb.size)
                    cases b with
                    | false =>
                      have HNo := HN.out (by simpa using hbk)
                      go_wp2
                      go_ret
                      exact ⟨.inr ⟨rfl, HNo⟩, hb6⟩
                    | true =>
                      have HY : Hid _ := HT.out (hbk.1 rfl)
                      clear hbk HN HT
                      go_wp2
                      exact ⟨⟨j + 1, by omega, by go_num, HY, hX6, hb6⟩, by simp [intOf]; omega⟩
                · obtain rfl : N = j := by omega
                  have hval : ValidV L N V := fun v hv => by
                    by_cases e : v = s
                    · subst e; exact .inl HVS.out
                    · rcases HRA.out v hv e with h | ⟨_, i, h1, e', h2, h3, _⟩
                      · exact .inl h.2
                      · exact .inr ⟨i, e', h1, h2, h3⟩
                  have hgr := goesRound_any N L hN hE V HLV.out hval _ _ wr ((hl.below hb).mono hb.size) ((hV.below hb).mono hb.size)
                  have HE : Hid _ := hE
                  go_wp2_with fail
                  refine hgr.mono ?_
                  rintro r w6 ⟨hr | hr, hb6⟩
                  · obtain ⟨rfl, v, hv, M, hM, hcl⟩ := hr
                    have HNo : ¬ OKc L s N D V := fun h => h.round hv M hM hcl HE.out
                    clear hgr
                    go_wp2
                    go_ret
                    exact ⟨.inr ⟨rfl, HNo⟩, hb.trans (hb6.mono hb.size)⟩
                  · obtain ⟨rfl, hends⟩ := hr
                    have HYes : OKc L s N D V := okc_of HE.out HLD.out HLV.out HDS.out HVS.out HK.out HRA.out hends
                    clear hgr hends
                    go_wp2
                    go_ret
                    exact ⟨.inl ⟨rfl, HYes⟩, hb.trans (hb6.mono hb.size)⟩
        · have HNo : ¬ OKc L s N D V := fun h => hvs h.zero
          rw [hds] at d0
          rw [lD] at hsD ⊢
          rw [lV] at hsV ⊢
          generalize at' V s = x at *
          go_wp2
          go_ret
          exact ⟨.inr ⟨rfl, HNo⟩, hb⟩
      · have HNo : ¬ OKc L s N D V := fun h => hds (h.dist.zero hs)
        rw [lD] at hsD ⊢
        rw [lV] at hsV ⊢
        generalize at' D s = x at *
        go_wp2
        go_ret
        exact ⟨.inr ⟨rfl, HNo⟩, hb⟩
    · have HNo : ¬ OKc L s N D V := fun h => lV h.len
      have lV' : ¬ (V.length : Int) = (N : Int) := by omega
      rw [lD]
      clear hod hov
      go_wp2
      go_ret
      exact ⟨.inr ⟨rfl, HNo⟩, hb⟩
  · have HNo : ¬ OKc L s N D V := fun h => lD h.dist.1
    have lD' : ¬ (D.length : Int) = (N : Int) := by omega
    clear hod hov
    go_wp2
    go_ret
    exact ⟨.inr ⟨rfl, HNo⟩, hb⟩
end Go.Proofs.Ytejemnjadgihbaa
