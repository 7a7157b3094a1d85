/-
  The contract of the reference's Right of stage 7.
-/
import Derived.Test.YtonfhkdciaiilaaXRRefNear
import Derived.BigQuiet
namespace Go.Proofs.Ytonfhkdciaiilaa
open Go Go.Proofs Go.RowKit

theorem perm_of_sub : ∀ (A B : List Int), A.Nodup → (∀ x ∈ A, x ∈ B) → B.length ≤ A.length → A.Perm B
  | [], B, _, _, h => by
    have : B = [] := List.eq_nil_of_length_eq_zero (by simpa using h)
    rw [this]
  | a :: A, B, hn, hs, hl => by
    have ha : a ∈ B := hs a (by simp)
    have hp := List.perm_cons_erase ha
    rw [List.nodup_cons] at hn
    refine List.Perm.trans (List.Perm.cons a (perm_of_sub A (B.erase a) hn.2 (fun x hx => ?_) ?_)) hp.symm
    · refine (List.mem_erase_of_ne ?_).2 (hs x (by simp [hx]))
      intro e
      rw [e] at hx
      exact hn.1 hx
    · rw [List.length_erase_of_mem ha]
      simp at hl
      omega
/-- One list is an order of the neighbours. -/
def OneR (l : List Ed) (r : List (List Int)) (u : Nat) : Prop := (r.getD u []).length = (nb l (u : Int)).length ∧ ∀ x ∈ nb l (u : Int), x ∈ r.getD u []
theorem sys_of_ones {N : Nat} {l : List Ed} {r : List (List Int)} (hR : RightG (N : Int) l) (hl : r.length = N) (h : ∀ u, u < N → OneR l r u) : SysR N l r :=
  ⟨hl, fun v hv => (perm_of_sub _ _ ((nb_rise hR (v : Int)).imp fun {a b} (h : a < b) => (show a ≠ b by omega)) (h v hv).2 (by rw [(h v hv).1]; exact Nat.le_refl _)).symm⟩
theorem SysR.one {N : Nat} {l : List Ed} {r : List (List Int)} (h : SysR N l r) {u : Nat} (hu : u < N) : OneR l r u := ⟨(h.perm u hu).length_eq, fun _ hx => (h.perm u hu).mem_iff.2 hx⟩

set_option maxRecDepth 100000 in
set_option maxHeartbeats 4000000 in
theorem refSys_any (n : Int) (l : List Ed) (r : List (List Int)) (sv rv : Value) (w : World) (hl : Edges w.heap.size w sv l) (hr : Lsts w.heap.size w rv r) :
    Calls Try.prog 26 #[.agg #[.int .i64 n, sv], rv] w fun e w' => e = .returned (.int .i64 (sysK n l r)) ∧ Below w.heap.size w w' := by
  have hgA : Grew w (w.alloc (.cells #[.int .i64 n, sv] 24)) := (Grew.refl w).alloc _
  have hX : Blk 24 (w.alloc (.cells #[.int .i64 n, sv] 24)) w.heap.size [.int .i64 n, sv] := heap_alloc_new w _
  have q0 := hX.cell (j := 0) rfl
  have q1 := hX.cell (j := 1) rfl
  have hrc := refRight_any n l sv _ (hl.go hgA.below)
  have HX : Hid (Blk 24 (w.alloc (.cells #[.int .i64 n, sv] 24)) w.heap.size [.int .i64 n, sv]) := hX
  have HL : Hid (Edges w.heap.size w sv l) := hl
  obtain ⟨pr, cr, rfl⟩ := hr.len
  have HR0 : Hid (Lsts w.heap.size w (.slice pr r.length cr) r) := hr
  have HBA : Hid _ := hgA.below
  clear hX hl hr hgA
  go_enter Try.func26, Try.ntmps26
  go_wp2_with fail
  generalize w.alloc (.cells #[.int .i64 n, sv] 24) = w1 at *
  refine hrc.mono ?_
  clear hrc
  rintro e w2 ⟨rfl, hg2⟩
  have hX2 := HX.out.go hg2.below
  have y0 := hX2.cell (j := 0) rfl
  have y1 := hX2.cell (j := 1) rfl
  have HB2 : Hid (Below w.heap.size w w2) := HBA.out.trans (hg2.below.mono HBA.out.size)
  have HX2 : Hid (Blk 24 w2 w.heap.size [.int .i64 n, sv]) := hX2
  clear hX2 q0 q1 HX hg2 HBA
  by_cases hk : rightK n l = 0
  · have hR := right_iff.1 hk
    obtain ⟨N, rfl⟩ : ∃ N : Nat, n = (N : Int) := ⟨n.toNat, by have := hR.n0; omega⟩
    have hn1 := hR.n1
    have hm1 := hR.m1
    have HR : Hid (RightG (N : Int) l) := hR
    rw [hk]
    by_cases hlen : r.length = N
    · have hne := refNear_any N l hR sv w2 (HL.out.go HB2.out)
      have hlen' : ((N : Int) != (N : Int)) = false := by simp
      rw [hlen] at HR0 ⊢
      clear hk hR
      go_wp2_with fail
      refine hne.mono ?_
      clear hne
      rintro e w3 ⟨nv, rfl, hN3, hb3⟩
      obtain ⟨pn, cn, rfl⟩ := hN3.len
      rw [nearL_len] at hN3 ⊢
      have HN3 : Hid (Lsts w3.heap.size w3 (.slice pn N cn) (nearL N l)) := hN3
      have HB3 : Hid (Below w.heap.size w w3) := HB2.out.trans (hb3.mono HB2.out.size)
      have HX3 : Hid (Blk 24 w3 w.heap.size [.int .i64 (N : Int), sv]) := HX2.out.go hb3
      clear hN3 hb3 HX2 y0 y1 hlen'
      go_wp2
      go_loopw [6] (fun iv wr => ∃ j : Nat, j ≤ N ∧ iv = .int .i64 j ∧ Hid (∀ u, u < j → OneR l r u) ∧ Below w3.heap.size w3 wr) (fun i _ => N - (intOf i).toNat)
      case atStart => exact ⟨0, Nat.zero_le _, rfl, fun u h => by omega, Below.refl _ _⟩
      case round =>
        obtain ⟨j, hj, rfl, HS, hb⟩ := hrel
        have hXr := HX3.out.go hb
        have x0 := hXr.cell (j := 0) rfl
        have hbw : Below w.heap.size w wr := HB3.out.trans (hb.mono HB3.out.size)
        by_cases hlt : j < N
        · have hjl : (j : Int) < (N : Int) := by omega
          have hRr : Lsts w.heap.size wr (.slice pr r.length cr) r := by rw [hlen]; exact HR0.out.below hbw
          have hNr : Lsts w3.heap.size wr (.slice pn (nearL N l).length cn) (nearL N l) := by rw [nearL_len]; exact HN3.out.below hb
          have hjr : j < r.length := by omega
          have hjn : j < (nearL N l).length := by rw [nearL_len]; exact hlt
          obtain ⟨b, off, rfl, hbb, hcap, pA, cA, hIA, c0⟩ := hRr.cellAt hjr
          obtain ⟨bn, offn, rfl, hbn, hcapn, pB, cB, hIB, d0⟩ := hNr.cellAt hjn
          have hgA : r.getD j [] = r[j] := by rw [List.getD_eq_getElem?_getD, List.getElem?_eq_getElem hjr]; rfl
          have hgB : (nearL N l)[j] = nb l (j : Int) := by
            have := nearL_at (l := l) hlt
            rw [List.getElem?_eq_getElem hjn, Option.some.injEq] at this
            exact this
          have hBl : (nearL N l)[j].length ≤ 4194304 := by rw [hgB]; exact Nat.le_trans (nb_len _ _) hm1
          have HONE : Hid (OneR l r j ↔ r[j].length = (nearL N l)[j].length ∧ ∀ x ∈ (nearL N l)[j], x ∈ r[j]) := by unfold Hid OneR; rw [hgA, hgB]
          have HNO : Hid (¬ OneR l r j → sysK (N : Int) l r = 12) := fun h => sysK_not HR.out fun hs => h (SysR.one hs hlt)
          have HLT : Hid (j < N) := hlt
          have HIA : Hid (Ints wr.heap.size wr (.slice pA r[j].length cA) r[j]) := hIA.mono hbw.size
          have HIB : Hid (Ints wr.heap.size wr (.slice pB (nearL N l)[j].length cB) (nearL N l)[j]) := hIB.mono hb.size
          clear hgA hgB hRr hNr hIA hIB hXr
          generalize r[j] = A at *
          generalize (nearL N l)[j] = B at *
          clear hjr hjn hlt
          have HB : Hid (Below w3.heap.size w3 wr) := hb
          clear hb
          by_cases hl2 : A.length = B.length
          · have hl2' : ((A.length : Int) != (B.length : Int)) = false := by rw [hl2]; simp
            have HL2 : Hid (A.length = B.length) := hl2
            clear hl2
            go_wp2
            go_quiet (fail)
            have c0q : (wr.drewN nq).cell? ⟨b, off + j, none⟩ = some (.slice pA A.length cA) := c0
            have d0q : (wr.drewN nq).cell? ⟨bn, offn + j, none⟩ = some (.slice pB B.length cB) := d0
            have HBq : Hid (Below w3.heap.size w3 (wr.drewN nq)) := below_drewN HB.out nq
            have HIAq : Hid (Ints (wr.drewN nq).heap.size (wr.drewN nq) (.slice pA A.length cA) A) := HIA.out
            have HIBq : Hid (Ints (wr.drewN nq).heap.size (wr.drewN nq) (.slice pB B.length cB) B) := HIB.out
            clear c0 d0 HB HIA HIB x0 hbw
            generalize wr.drewN nq = w4 at *
            go_wp2
            go_loopw [7] (fun iv wx => ∃ k : Nat, k ≤ B.length ∧ iv = .int .i64 k ∧ Hid (∀ (i : Nat) (h1 : i < B.length), i < k → B[i] ∈ A) ∧ Below w4.heap.size w4 wx) (fun i _ => B.length - (intOf i).toNat)
            case atStart => exact ⟨0, Nat.zero_le _, rfl, fun i _ h => by omega, Below.refl _ _⟩
            case round =>
              obtain ⟨k, hk, rfl, HIN, hbk⟩ := hrel
              have c1 := cell_keepK hbk c0q
              have d1 := cell_keepK hbk d0q
              by_cases hkl : k < B.length
              · have hkl' : (k : Int) < (B.length : Int) := by omega
                obtain ⟨bB, oB, rfl, hbB, hcB, hcl⟩ := HIBq.out.open hkl
                have e1 := hcl wr hbk k hkl
                have hht : ∀ q, Calls Try.prog 17 #[.slice pA A.length cA, .int .i64 B[k]] (wr.drewN q) fun r w' => r = .returned (.bool (inB A B[k])) ∧ w' = wr.drewN q := fun q => has_any A (by have := HL2.out; omega) _ _ _ _ (HIAq.out.go (below_drewN hbk q))
                have HNI : Hid (inB A B[k] = true → ∀ (i : Nat) (h1 : i < B.length), i < k + 1 → B[i] ∈ A) := fun h i h1 hi => by
                  by_cases e : i = k
                  · subst e; exact inB_true.1 h
                  · exact HIN.out i h1 (by omega)
                have HNB : Hid (inB A B[k] = false → sysK (N : Int) l r = 12) := fun h => HNO.out (fun h1 => inB_false.1 h ((HONE.out.1 h1).2 _ (List.getElem_mem hkl)))
                have HKL : Hid (k < B.length) := hkl
                have HBk : Hid (Below w4.heap.size w4 wr) := hbk
                clear HIN hcl hbk
                generalize B[k] = x at *
                clear hkl
                go_wp2
                go_quiet ((go_at_call 17; exact Calls.quiet_of_same (hht _)))
                have HBq2 : Hid (Below w4.heap.size w4 (wr.drewN nq)) := below_drewN HBk.out nq
                generalize wr.drewN nq = w8 at HBq2 ⊢
                clear c1 d1 e1 hht
                cases hin : inB A x with
                | true =>
                  have HN2 : Hid _ := HNI.out hin
                  clear hin HNI HNB
                  go_wp2
                  exact ⟨⟨k + 1, HKL.out, by go_num, HN2.out, HBq2.out⟩, by have := HKL.out; simp [intOf]; omega⟩
                | false =>
                  have HE : Hid _ := HNB.out hin
                  have HFB : Hid (Below w.heap.size w w8) := by
                    have h1 := HBq.out.trans (HBq2.out.mono HBq.out.size)
                    exact HB3.out.trans (h1.mono HB3.out.size)
                  clear hin HNI HNB
                  go_wp2
                  go_ret
                  exact ⟨by rw [HE.out]; rfl, HFB.out⟩
              · obtain rfl : k = B.length := by omega
                have HO2 : Hid (∀ u, u < j + 1 → OneR l r u) := fun u hu => by
                  by_cases e : u = j
                  · subst e
                    refine HONE.out.2 ⟨HL2.out, fun x hx => ?_⟩
                    obtain ⟨i, hi, rfl⟩ := List.getElem_of_mem hx
                    exact HIN.out i hi hi
                  · exact HS.out u (by omega)
                have HFB : Hid (Below w3.heap.size w3 wr) := HBq.out.trans (hbk.mono HBq.out.size)
                clear HIN HONE HNO HS hbk
                go_wp2
                exact ⟨⟨j + 1, HLT.out, by go_num, HO2.out, HFB.out⟩, by have := HLT.out; simp [intOf]; omega⟩
          · have hl2' : ((A.length : Int) != (B.length : Int)) = true := by rw [bne_iff_ne]; omega
            have HE : Hid _ := HNO.out (fun h => hl2 (HONE.out.1 h).1)
            clear HONE HNO HS hl2
            go_wp2
            go_quiet (fail)
            have HFB : Hid (Below w.heap.size w (wr.drewN nq)) := below_drewN hbw nq
            generalize wr.drewN nq = w8 at HFB ⊢
            go_wp2
            go_ret
            exact ⟨by rw [HE.out]; rfl, HFB.out⟩
        · obtain rfl : j = N := by omega
          have HE : Hid _ := sysK_ok HR.out (sys_of_ones HR.out hlen HS.out)
          clear HS hXr
          go_wp2
          go_ret
          exact ⟨by rw [HE.out]; rfl, hbw⟩
    · have hlen' : ((r.length : Int) != (N : Int)) = true := by rw [bne_iff_ne]; omega
      have HE : Hid (sysK (N : Int) l r = 12) := sysK_not HR.out fun h => hlen h.len
      clear hk hR
      go_wp2
      go_ret
      exact ⟨by rw [HE.out]; rfl, HB2.out⟩
  · have HE : Hid (sysK n l r = 1) := if_neg hk
    generalize rightK n l = k at *
    go_wp2
    go_ret
    exact ⟨by rw [HE.out]; rfl, HB2.out⟩
end Go.Proofs.Ytonfhkdciaiilaa
