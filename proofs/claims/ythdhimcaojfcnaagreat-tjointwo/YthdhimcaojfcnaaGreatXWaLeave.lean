/-
  The contract of the search's leave.
-/
import Derived.Test.YthdhimcaojfcnaaGreatXWaCome
namespace Go.Proofs.YthdhimcaojfcnaaGreat
open Go Go.Proofs Go.RowKit

/-- Above all distances. -/
def aboveW (N : Nat) : Nat := N * 2147483647 + 1
/-- What leave leaves. -/
def Left' (S : SL) (s K : Nat) (w w' : World) : Prop := ∃ D' V' qv' Q', SM S D' V' qv' Q' w' ∧ FI S.L s S.N D' V' Q' ∧ Opn S.L S.N D' Q' S.N [] ∧ 2 * pot (aboveW S.N) D' + Q'.length ≤ K ∧ Fr S w w'

/-- While v's edges are gone over: k of them have been. -/
def LvI (S : SL) (s K : Nat) (w : World) (xb c v k : Nat) (W : World) : Prop := ∃ D V qv Q pls, SM S D V qv Q W ∧ FI S.L s S.N D V Q ∧ Opn S.L S.N D Q v pls ∧ (∀ i ∈ (plW S.L S.L.length v).take k, i ∈ pls) ∧ at' D v = (c : Int) ∧ 2 * pot (aboveW S.N) D + Q.length ≤ K ∧ Fr S w W ∧ Blk 90 W xb [.int .i64 (c : Int), .int .i64 (v : Int)] ∧ some xb ≠ qv.ownBlock

set_option maxRecDepth 100000 in
set_option maxHeartbeats 4000000 in
theorem leave_any (S : SL) (ok : SLok S) (s : Nat) (hs : s < S.N) (hN : S.N ≤ 40) (w0 : World) (hE : Edges w0.heap.size w0 (.slice S.p S.L.length S.c) (S.L.map edE)) (h1 : w0.heap.size ≤ S.sb) (h2 : w0.heap.size ≤ S.bD) (h3 : w0.heap.size ≤ S.bV)
    (D V : List Int) (qv : Value) (Q Q0 : List Stp) (c v : Nat) (w : World) (hb : Below w0.heap.size w0 w) (h : SM S D V qv Q w) (hF : FI S.L s S.N D V Q) (hv : v < S.N) (h0 : 0 ≤ at' D v) (hc : at' D v ≤ (c : Int)) (ho : Opn S.L S.N D Q0 S.N []) (hQ0 : ∀ x ∈ Q0, x = (c, v) ∨ x ∈ Q) (K : Nat) (hK : 2 * pot (aboveW S.N) D + Q.length ≤ K) (hK2 : K ≤ 8796093022207) :
    Calls Tryz.prog 55 #[.pointer (some ⟨S.sb, 0, none⟩), .agg #[.int .i64 (c : Int), .int .i64 (v : Int)]] w fun e w' => e = .returned (.tuple #[]) ∧ Left' S s K w w' := by
  have hmix := mixed
  have hal : Below w.heap.size w (w.alloc (.cells #[.int .i64 (c : Int), .int .i64 (v : Int)] 90)) := (Below.refl _ _).alloc (Nat.le_refl _) _
  have hA := h.go ok hal
  have hFrA : Fr S w (w.alloc (.cells #[.int .i64 (c : Int), .int .i64 (v : Int)] 90)) := Fr.of_below h.size hal
  have hbA := hb.trans (hal.mono hb.size)
  have hXA : Blk 90 (w.alloc (.cells #[.int .i64 (c : Int), .int .i64 (v : Int)] 90)) w.heap.size [.int .i64 (c : Int), .int .i64 (v : Int)] := heap_alloc_new w _
  have hqb : some w.heap.size ≠ qv.ownBlock := fun e => by have := (h.own.lt _ e.symm).2; omega
  have hxh : S.h1 ≤ w.heap.size := h.size
  have hvl : (v : Int) < (S.N : Int) := by omega
  have hDl : v < D.length := by rw [hF.lenD]; exact hv
  have hdv : D[v]? = some (at' D v) := at_get? hDl
  have h1' : w0.heap.size ≤ S.h1 := by have := ok.s.1; omega
  have HF : Hid _ := hF
  have HO : Hid _ := ho
  have HQ : Hid _ := hQ0
  have HOK : Hid _ := ok
  have HBw : Hid _ := hb
  clear h hb hal hF ho hQ0
  go_enter Tryz.func55, Tryz.ntmps55
  go_wp2
  generalize w.alloc (.cells #[.int .i64 (c : Int), .int .i64 (v : Int)] 90) = wA at *
  generalize w.heap.size = xb at hXA hqb hxh ⊢
  have c3 := hA.cells.2.2.2.1
  have c2 := hA.cells.2.2.1
  have x0 := hXA.cell (j := 0) rfl
  have x1 := hXA.cell (j := 1) rfl
  have d0 : wA.cell? ⟨S.bD, v, none⟩ = some (.int .i64 (at' D v)) := hA.dist.cell (by rw [List.getElem?_map, hdv]; rfl)
  clear hdv
  go_quiet (fail)
  by_cases hst : at' D v < (c : Int)
  · have HST : Hid _ := hst
    go_wp2
    refine bodyPost_ret (v := .tuple #[]) (results_none rfl _ _ _) rfl ⟨rfl, D, V, qv, Q, hA.drewN nq, HF.out, Opn.stale HO.out (by have := HST.out; omega) HQ.out, hK, hFrA.drewN nq⟩
  · have hcv : at' D v = (c : Int) := by omega
    have HC : Hid _ := hcv
    have hOp := Opn.take HO.out HQ.out
    have hB := hA.drewN nq
    have hFrB := hFrA.drewN nq
    have hbB := below_drewN hbA nq
    have hXB : Blk 90 (wA.drewN nq) xb [.int .i64 (c : Int), .int .i64 (v : Int)] := hXA
    clear hA hFrA hbA hXA c3 c2 x0 x1 d0
    go_wp2
    generalize wA.drewN nq = wB at *
    obtain ⟨hlo, hhi, hrows⟩ := hB.at'
    obtain ⟨pp, cp, r0, hpl⟩ := hrows v hv
    clear hrows
    have HPL : Hid _ := hpl
    clear hpl hcv
    have c2 := hB.cells.2.2.1
    have x1 := hXB.cell (j := 1) rfl
    go_quiet (fail)
    have hstart : LvI S s K w xb c v 0 (wB.drewN nq) := ⟨D, V, qv, Q, [], hB.drewN nq, HF.out, hOp, fun i hi => by simp at hi, HC.out, hK, hFrB.drewN nq, hXB, hqb⟩
    have hbl : ∀ W, Fr S w W → ∀ k, S.lo ≤ k → k < S.hi → W.heap[k]? = wB.heap[k]? := fun W hW k k1 k2 => by
      have o1 := HOK.out.hi
      have o2 := HOK.out.s
      have o3 := HOK.out.d
      have o4 := HOK.out.v
      have a1 : k ≠ S.sb := fun e => o2.2.1 (e ▸ ⟨k1, k2⟩)
      have a2 : k ≠ S.bD := fun e => o3.2.1 (e ▸ ⟨k1, k2⟩)
      have a3 : k ≠ S.bV := fun e => o4.2 (e ▸ ⟨k1, k2⟩)
      exact (hW.block k (by omega) a1 a2 a3).trans (hFrB.block k (by omega) a1 a2 a3).symm
    have hbel : ∀ W, Fr S w W → Below w0.heap.size w0 W := fun W hW => by
      exact Fr.below HBw.out hW h1' h1 h2 h3
    have HBL : Hid _ := hbl
    have HBE : Hid _ := hbel
    clear hbl hbel hB hFrB hbB hXB hqb hOp c2 x1 r0 HF HO HQ
    have hplen : (plW S.L S.L.length v).length ≤ 4194304 := by have := plW_len S.L S.L.length v; have := HOK.out.m; omega
    go_wp2
    generalize wB.drewN nq = wC at hstart ⊢
    go_loopw [27] (fun i wr => ∃ k : Nat, k ≤ (plW S.L S.L.length v).length ∧ i = .int .i64 k ∧ LvI S s K w xb c v k wr) (fun i _ => (plW S.L S.L.length v).length - (intOf i).toNat)
    case atStart => exact ⟨0, Nat.zero_le _, rfl, hstart⟩
    case round =>
      clear hstart
      obtain ⟨k, hk, rfl, hI⟩ := hrel
      obtain ⟨D1, V1, qv1, Q1, pls, hS, hF, hO, hT, hcv, hK1, hFr, hX, hq⟩ := hI
      by_cases hlt : k < (plW S.L S.L.length v).length
      · obtain ⟨bp, offp, rfl, p1, p2, rc0⟩ := HPL.out k hlt
        have rc : wr.cell? ⟨bp, offp + k, none⟩ = some (.int .i64 ((plW S.L S.L.length v)[k] : Int)) := (World.cell?_of_block (a := ⟨bp, offp + k, none⟩) (HBL.out wr hFr bp p1 p2)).trans rc0
        have hmem := mem_plW.1 (List.getElem_mem hlt)
        have hT2 : ∀ j ∈ (plW S.L S.L.length v).take (k + 1), j = (plW S.L S.L.length v)[k] ∨ j ∈ pls := fun j hj => by
          rw [List.take_succ_eq_append_getElem hlt] at hj
          rcases List.mem_append.1 hj with h | h
          · exact .inr (hT j h)
          · exact .inl (by simpa using h)
        have HT2 : Hid _ := hT2
        generalize (plW S.L S.L.length v)[k] = i at rc hmem HT2
        obtain ⟨hil, hat⟩ := hmem
        have heL : S.L[i]? = some S.L[i] := List.getElem?_eq_getElem hil
        have hat' : (S.L[i].1 = v ∨ S.L[i].2.1 = v) ∧ S.L[i].1 ≠ S.L[i].2.1 := by
          unfold isAt at hat
          rw [heL] at hat
          simpa using hat
        obtain ⟨be, offe, hpe, hbe, hce, hcells⟩ := hE.eg hil
        obtain ⟨e0, e1, e2⟩ := hcells wr (HBE.out wr hFr) i hil
        have hem := List.getElem_mem hil
        have hends := HOK.out.ends _ hem
        have hwt := HOK.out.few _ hem
        have hj := (oth_jn hat'.1).symm
        have hbn : oth S.L[i] v < S.N := by rcases hj with ⟨a, b⟩ | ⟨a, b⟩ <;> omega
        have hbv : v ≠ oth S.L[i] v := by rcases hj with ⟨a, b⟩ | ⟨a, b⟩ <;> (have := hat'.2; omega)
        have hcN := hF.few HOK.out.ends hs HOK.out.few hv
        have HOT : Hid _ := other_any S.L[i] v
        generalize S.L[i] = e at heL hat' e0 e1 e2 hem hends hwt hj hbn hbv HOT
        obtain ⟨b, HB⟩ : ∃ b, Hid (oth e v = b) := ⟨_, show Hid _ from rfl⟩
        rw [HB.out] at hj hbn hbv
        have c1 := hS.cells.2.1
        rw [hpe] at c1
        have hil' : (i : Int) < (S.L.length : Int) := by omega
        have hkl : (k : Int) < ((plW S.L S.L.length v).length : Int) := by omega
        have hcb : (c : Int) ≤ 85899345880 := by
          have : S.N * 2147483647 ≤ 85899345880 := by omega
          omega
        have hwb : (e.2.2 : Int) ≤ 2147483647 := by omega
        have hal : Below wr.heap.size wr (wr.alloc (.cells #[.int .i64 (e.1 : Int), .int .i64 (e.2.1 : Int), .int .i64 (e.2.2 : Int)] 46)) := (Below.refl _ _).alloc (Nat.le_refl _) _
        have hSD := hS.go HOK.out hal
        have hFD := hFr.trans (Fr.of_below hS.size hal)
        have hXD := hX.go hal
        have hXe : Blk 46 (wr.alloc (.cells #[.int .i64 (e.1 : Int), .int .i64 (e.2.1 : Int), .int .i64 (e.2.2 : Int)] 46)) wr.heap.size [.int .i64 (e.1 : Int), .int .i64 (e.2.1 : Int), .int .i64 (e.2.2 : Int)] := heap_alloc_new wr _
        have HHE : Hid _ := heL
        have HAT : Hid _ := hat'
        have HHJ : Hid _ := hj
        have HCV : Hid _ := hcv
        clear hT hT2 hcells hat heL hat' hj hcv rc0 hcN
        go_wp2_with fail
        clear e0 e1 e2 c1 rc hal hS hFr hX
        generalize wr.heap.size = eb at *
        generalize wr.alloc (.cells #[.int .i64 (e.1 : Int), .int .i64 (e.2.1 : Int), .int .i64 (e.2.2 : Int)] 46) = wD at *
        have x0 := hXD.cell (j := 0) rfl
        have x1 := hXD.cell (j := 1) rfl
        have y0 := hXe.cell (j := 0) rfl
        have y1 := hXe.cell (j := 1) rfl
        have y2 := hXe.cell (j := 2) rfl
        have hwr := wrap_i ((c : Int) + (e.2.2 : Int)) (by omega) (by omega)
        refine wp_region_last (S := (fun w' : World => w'.cell? ⟨eb, 0, none⟩ = some (.int .i64 (e.1 : Int)) ∧ w'.cell? ⟨eb, 1, none⟩ = some (.int .i64 (e.2.1 : Int)) ∧ w'.cell? ⟨eb, 2, none⟩ = some (.int .i64 (e.2.2 : Int)) ∧ w'.cell? ⟨xb, 0, none⟩ = some (.int .i64 (c : Int)) ∧ w'.cell? ⟨xb, 1, none⟩ = some (.int .i64 (v : Int)))) (by kernel_rfl) ?_ (fun hHeld => ?_)
        · (try dsimp only); go_keep
        refine wpAnyL_take (i := 0) (v := ?_) rfl (by kernel_rfl) (by kernel_rfl) (by kernel_rfl) (by kernel_rfl) (fun _ _ _ h => h) (Or.inl ⟨by rfl, ?_⟩) (by assumption) ?_
        rotate_left
        · intro w hSw; (try dsimp only at hSw); go_simp; (try with_reducible rfl)
        try simp only [Act.put, List.setIfInBounds_toArray]
        refine wpAnyL_take (i := 1) (v := ?_) rfl (by kernel_rfl) (by kernel_rfl) (by kernel_rfl) (by kernel_rfl) (fun _ _ _ h => h) (Or.inl ⟨by rfl, ?_⟩) (by assumption) ?_
        rotate_left
        · intro w hSw; (try dsimp only at hSw); go_simp; (try with_reducible rfl)
        try simp only [Act.put]
        refine wpAnyL_take (i := 2) (v := ?_) rfl (by kernel_rfl) (by kernel_rfl) (by kernel_rfl) (by kernel_rfl) (fun _ _ _ h => h) (Or.inl ⟨by rfl, ?_⟩) (by assumption) ?_
        rotate_left
        · intro w hSw; (try dsimp only at hSw); go_simp; (try with_reducible rfl)
        try simp only [Act.put]
        refine wpAnyL_take (i := 3) (v := ?_) rfl (by kernel_rfl) (by kernel_rfl) (by kernel_rfl) (by kernel_rfl) (fun _ _ _ h => h) (Or.inl ⟨by rfl, ?_⟩) (by assumption) ?_
        rotate_left
        · intro w hSw; (try dsimp only at hSw); go_simp; (try with_reducible rfl)
        try simp only [Act.put]
        refine wpAnyL_take (i := 5) (v := ?_) rfl (by kernel_rfl) (by kernel_rfl) (by kernel_rfl) (by kernel_rfl) (fun _ _ _ h => h) (Or.inl ⟨by rfl, ?_⟩) (by assumption) ?_
        rotate_left
        · intro w hSw; (try dsimp only at hSw); go_simp; (try with_reducible rfl)
        try simp only [Act.put]
        refine wpAnyL_take (i := 6) (v := ?_) rfl (by kernel_rfl) (by kernel_rfl) (by kernel_rfl) (by kernel_rfl) (fun _ _ _ h => h) (Or.inl ⟨by rfl, ?_⟩) (by assumption) ?_
        rotate_left
        · intro w hSw; (try dsimp only at hSw); go_simp; (try with_reducible rfl)
        try simp only [Act.put]
        refine wpAnyL_take (i := 7) (v := ?_) rfl (by kernel_rfl) (by kernel_rfl) (by kernel_rfl) (by kernel_rfl) (fun _ _ _ h => h) (Or.inl ⟨by rfl, ?_⟩) (by assumption) ?_
        rotate_left
        · intro w hSw; (try dsimp only at hSw); go_simp; (try with_reducible rfl)
        try simp only [Act.put]
        refine wpAnyL_take (i := 8) (v := ?_) rfl (by kernel_rfl) (by kernel_rfl) (by kernel_rfl) (by kernel_rfl) (fun _ _ _ h => h) (Or.inl ⟨by rfl, ?_⟩) (by assumption) ?_
        rotate_left
        · intro w hSw; (try dsimp only at hSw); go_simp; (try with_reducible rfl)
        try simp only [Act.put]
        refine wpAnyL_take (i := 9) (v := ?_) rfl (by kernel_rfl) (by kernel_rfl) (by kernel_rfl) (by kernel_rfl) (fun _ _ _ h => h) (Or.inl ⟨by rfl, ?_⟩) (by assumption) ?_
        rotate_left
        · intro w hSw; (try dsimp only at hSw); go_simp; (try with_reducible rfl)
        try simp only [Act.put]
        refine wpAnyL_take (i := 10) (v := ?_) rfl (by kernel_rfl) (by kernel_rfl) (by kernel_rfl) (by kernel_rfl) (fun _ _ _ h => h) (Or.inl ⟨by rfl, ?_⟩) (by assumption) ?_
        rotate_left
        · intro w hSw; (try dsimp only at hSw); go_simp; (try with_reducible rfl)
        try simp only [Act.put]
        have hSd := hSD.drewN 1
        have hFd := hFD.drewN 1
        have hXd : Blk 90 (wD.drewN 1) xb [.int .i64 (c : Int), .int .i64 (v : Int)] := hXD
        have hdd : wD.drewN 1 = wD.drew := rfl
        rw [hdd] at hSd hFd hXd
        generalize wD.drew = wd at *
        clear hdd hSD hFD hXD hXe x0 x1 y0 y1 y2 hwr
        refine wpAnyL_ready (rs := [4]) (by kernel_rfl) (by simp) ?_
        refine AllReadyL.cons rfl (fun K' hK' => ?_) AllReadyL.nil
        go_simp
        refine (HOT.out wd).mono ?_
        rw [HB.out]
        rintro r w2 ⟨rfl, hg2⟩
        have hb2 := hg2.below
        refine hK'.out _ _ ⟨cell_keepW hb2 hHeld.1, cell_keepW hb2 hHeld.2.1, cell_keepW hb2 hHeld.2.2.1, cell_keepW hb2 hHeld.2.2.2.1, cell_keepW hb2 hHeld.2.2.2.2⟩ (fun hHeld12 => ?_)
        clear hK' K'
        try simp only [Act.put, List.setIfInBounds_toArray, List.set_cons_zero, List.set_cons_succ]
        have hS2 := hSd.go HOK.out hb2
        have hF2 := hFd.trans (Fr.of_below hSd.size hb2)
        have hX2 := hXd.go hb2
        clear hSd hFd hXd hHeld hHeld12 hb2 hg2
        have hcw : (c : Int) + (e.2.2 : Int) = ((c + e.2.2 : Nat) : Int) := by omega
        have hbD : b < D1.length := by rw [hF.lenD]; exact hbn
        have hQb : Q1.length ≤ 8796093022207 := by omega
        refine wpAnyL_ready (rs := [11]) (by kernel_rfl) (by simp) ?_
        refine AllReadyL.last rfl (by kernel_rfl) (fun K' hK' => ?_)
        by_cases hold : 0 ≤ at' D1 b ∧ at' D1 b ≤ ((c + e.2.2 : Nat) : Int)
        · have hco := come_old S D1 V1 qv1 Q1 b (c + e.2.2) (i : Int) (at' D1 b) w2 hS2 hbn (at_get? hbD) hold.1 hold.2
          rw [← hcw] at hco
          have HHO : Hid _ := hold
          clear hold hcw
          go_simp
          refine hco.mono ?_
          rintro r w3 ⟨rfl, rfl⟩
          refine hK'.out _ _ ?_
          clear hK' K' hco
          try simp only [Act.put, List.setIfInBounds_toArray, List.set_cons_zero, List.set_cons_succ]
          refine wpAnyL_done (by kernel_rfl) ?_ _
          go_wp2
          refine ⟨⟨k + 1, by omega, by go_num, D1, V1, qv1, Q1, i :: pls, hS2, hF, hO.skip HHE.out HHJ.out HCV.out HHO.out, fun j hj => ?_, HCV.out, hK1, hF2, hX2, hq⟩, by simp [intOf]; omega⟩
          rcases HT2.out j hj with e' | e'
          · rw [e']; simp
          · exact List.mem_cons_of_mem _ e'
        · have hge := hF.ge hbn
          have hnew : at' D1 b = -1 ∨ ((c + e.2.2 : Nat) : Int) < at' D1 b := by omega
          have hco := come_new S HOK.out D1 V1 qv1 Q1 b (c + e.2.2) (i : Int) (at' D1 b) w2 hS2 hbn (at_get? hbD) hF.lenV hnew hQb
          rw [← hcw] at hco
          have HNEW : Hid _ := hnew
          have HCW : Hid _ := hcw
          clear hold hcw hnew
          go_simp
          refine hco.mono ?_
          rintro r w3 ⟨rfl, qv3, Q3, hp3, hS3, hF3, hn3, hk3⟩
          refine hK'.out _ _ ?_
          clear hK' K' hco
          try simp only [Act.put, List.setIfInBounds_toArray, List.set_cons_zero, List.set_cons_succ]
          refine wpAnyL_done (by kernel_rfl) ?_ _
          rw [HCW.out] at hS3
          have hx2 : xb < w2.heap.size := hX2.lt
          have hX3 : Blk 90 w3 xb [.int .i64 (c : Int), .int .i64 (v : Int)] := (hk3 xb hx2 hxh hq).trans hX2
          have hq3 : some xb ≠ qv3.ownBlock := by
            rcases hn3 with e' | ⟨m, e', hm⟩
            · rw [e']; exact hq
            · rw [e']; intro e''; have := Option.some.inj e''; omega
          have hFn : FI S.L s S.N (D1.set b ((c + e.2.2 : Nat) : Int)) (V1.set b (i : Int)) Q3 := hF.come HOK.out.ends HHE.out HHJ.out hv hbn HCV.out HNEW.out fun x hx => by
            rcases List.mem_append.1 (hp3.mem_iff.1 hx) with h | h
            · exact .inr h
            · exact .inl (by simpa using h)
          have hOn : Opn S.L S.N (D1.set b ((c + e.2.2 : Nat) : Int)) Q3 v (i :: pls) := hO.come hF.lenD HHE.out HHJ.out hbv hbn HCV.out HNEW.out (hp3.mem_iff.2 (by simp)) fun x hx => hp3.mem_iff.2 (by simp [hx])
          have hcv3 : at' (D1.set b ((c + e.2.2 : Nat) : Int)) v = (c : Int) := by rw [at_set _ hbD, if_neg hbv]; exact HCV.out
          have hfew := hFn.few HOK.out.ends hs HOK.out.few hbn
          rw [at_set _ hbD, if_pos rfl] at hfew
          have hpot := pot_less (B := aboveW S.N) hbD (x := c + e.2.2) (by unfold aboveW; omega) HNEW.out
          have hl3 : Q3.length = Q1.length + 1 := by rw [hp3.length_eq]; simp
          go_wp2
          refine ⟨⟨k + 1, by omega, by go_num, _, _, qv3, Q3, i :: pls, hS3, hFn, hOn, fun j hj => ?_, hcv3, by omega, hF2.trans hF3, hX3, hq3⟩, by simp [intOf]; omega⟩
          rcases HT2.out j hj with e' | e'
          · rw [e']; simp
          · exact List.mem_cons_of_mem _ e'
      · obtain rfl : k = (plW S.L S.L.length v).length := by omega
        have hpl : ∀ (i : Nat) e, S.L[i]? = some e → (e.1 = v ∨ e.2.1 = v) → i ∈ pls ∨ e.1 = e.2.1 := fun i e he hx => by
          by_cases hl : e.1 = e.2.1
          · exact .inr hl
          · refine .inl (hT i ?_)
            rw [List.take_length, mem_plW]
            exact ⟨(List.getElem?_eq_some_iff.1 he).1, by unfold isAt; rw [he]; simpa using ⟨hx, hl⟩⟩
        go_wp2
        exact bodyPost_end (results_none rfl _ _ _) rfl ⟨rfl, D1, V1, qv1, Q1, hS, hF, hO.full hpl, hK1, hFr⟩
end Go.Proofs.YthdhimcaojfcnaaGreat
