/-
  The contract of the reference's Two.
-/
import Derived.Deep.QuietTactic
import Derived.BigQuiet
import Derived.Test.YtdadpfkoocpfaaaPTwo
import Derived.Test.YtdadpfkoocpfaaaPRefLab
namespace Go.Proofs.Ytdadpfkoocpfaaa
open Go Go.Proofs Go.RowKit

def c0P (N : Nat) (es : List Ed) (j : Nat) : List Int := (List.range N).map fun (v : Nat) => if v < j ∧ (labAt N es N).getD v 0 = (v : Int) then 1 else 0
theorem c0P_len (N : Nat) (es : List Ed) (j : Nat) : (c0P N es j).length = N := by simp [c0P]
theorem c0P_at {N : Nat} {es : List Ed} {j v : Nat} (h : v < N) : (c0P N es j)[v]? = some (if v < j ∧ (labAt N es N).getD v 0 = (v : Int) then 1 else 0) := by simp [c0P, h]
theorem c0P_zero (N : Nat) (es : List Ed) : c0P N es 0 = List.replicate N 0 := by
  apply List.ext_getElem?
  intro i
  by_cases h : i < N
  · rw [c0P_at h]; simp [h]
  · rw [List.getElem?_eq_none (by rw [c0P_len]; omega), List.getElem?_eq_none (by simp; omega)]
theorem c0P_full (N : Nat) (es : List Ed) : c0P N es N = c0L N es := by
  unfold c0P c0L
  refine List.map_congr_left fun v hv => ?_
  have hv' := List.mem_range.1 hv
  simp [hv']
theorem c0P_yes {N : Nat} {es : List Ed} {j : Nat} (h : (labAt N es N).getD j 0 = (j : Int)) : (c0P N es j).set j 1 = c0P N es (j + 1) := by
  apply List.ext_getElem?
  intro i
  by_cases hi : i < N
  · rw [List.getElem?_set, c0P_len, c0P_at hi, c0P_at hi]
    by_cases e : j = i
    · subst e
      rw [if_pos rfl, if_pos hi, if_pos ⟨by omega, h⟩]
    · rw [if_neg e]
      congr 1
      have : (i < j ↔ i < j + 1) := by omega
      simp only [this]
  · rw [List.getElem?_eq_none (by rw [List.length_set, c0P_len]; omega), List.getElem?_eq_none (by rw [c0P_len]; omega)]
theorem c0P_no {N : Nat} {es : List Ed} {j : Nat} (h : ¬ (labAt N es N).getD j 0 = (j : Int)) : c0P N es (j + 1) = c0P N es j := by
  unfold c0P
  refine List.map_congr_left fun v _ => ?_
  by_cases e : v = j
  · subst e
    rw [if_neg (fun a => h a.2), if_neg (fun a => h a.2)]
  · have : (v < j + 1 ↔ v < j) := by omega
    simp only [this]
/-- No edge has one colour at both ends. -/
def NoneOne (L : List Int) (l : List Ed) : Prop := ∀ e ∈ l, L.getD e.1.toNat 0 ≠ L.getD e.2.1.toNat 0
/-- The colours while a round goes on. -/
def cIn (N : Nat) (es : List Ed) (i k : Nat) : List Int := (es.take k).foldl tint (cAt N es i)
theorem cIn_len (N : Nat) (es : List Ed) (i k : Nat) : (cIn N es i k).length = N := by unfold cIn; rw [fold_tint_len, cAt_len]
theorem cIn_zero (N : Nat) (es : List Ed) (i : Nat) : cIn N es i 0 = cAt N es i := rfl
theorem cIn_next (N : Nat) (es : List Ed) (i : Nat) : cIn N es i es.length = cAt N es (i + 1) := by unfold cIn; rw [List.take_length]; rfl
theorem cIn_step {N : Nat} {es : List Ed} {i k : Nat} (h : k < es.length) : cIn N es i (k + 1) = tint (cIn N es i k) es[k] := by
  unfold cIn
  rw [List.take_add_one, List.getElem?_eq_getElem h, List.foldl_append]
  rfl
theorem cIn_cols {N : Nat} {es : List Ed} (hE : Ends N es) (i k : Nat) : Cols (cIn N es i k) :=
  fold_cols (fun e he => hE e (List.mem_of_mem_take he)) (cAt_len N es i) (cAt_cols hE i)
def twoL (L : List Int) (N j : Nat) : List Bool := (List.range N).map fun v => if v < j then L.getD v 0 == 2 else false
theorem twoL_zero (L : List Int) (N : Nat) : twoL L N 0 = List.replicate N false := by
  apply List.ext_getElem?
  intro i
  by_cases h : i < N
  · simp [twoL, h]
  · simp [twoL, h]
theorem twoL_step {L : List Int} {N j : Nat} : (twoL L N j).set j (L.getD j 0 == 2) = twoL L N (j + 1) := by
  apply List.ext_getElem?
  intro i
  by_cases h : i < N
  · rw [List.getElem?_set]
    by_cases e : j = i
    · subst e
      simp [twoL, h]
    · rw [if_neg e]
      by_cases hi : i < j
      · simp [twoL, h, hi, show i < j + 1 by omega]
      · simp [twoL, h, hi, show ¬ i < j + 1 by omega]
  · rw [List.getElem?_eq_none (by simp [twoL]; omega), List.getElem?_eq_none (by simp [twoL]; omega)]
theorem tint_first {L : List Int} {e : Ed} {u v : Nat} {N : Nat} (hL : L.length = N) (hu : e.1.toNat = u) (hv : e.2.1.toNat = v) (hvN : v < N) (h1 : L.getD u 0 ≠ 0) (h2 : L.getD v 0 = 0) : tint L e = L.set v (3 - L.getD u 0) := by
  unfold tint
  rw [hu, hv]
  have e1 : tint1 L u v = L.set v (3 - L.getD u 0) := by unfold tint1; rw [if_pos ⟨h1, h2⟩]
  have hk := tint1_keep (u := u) (v := v) (L := L) (by omega) h1
  have e2 : tint1 (tint1 L u v) v u = tint1 L u v := by
    conv => lhs; unfold tint1
    exact if_neg (fun h => by
      have h3 := h.2
      have h4 : (tint1 L u v).getD u 0 = 0 := h3
      rw [hk] at h4
      exact h1 h4)
  rw [e2, e1]
theorem tint_second {L : List Int} {e : Ed} {u v : Nat} (hu : e.1.toNat = u) (hv : e.2.1.toNat = v) (h1 : L.getD u 0 = 0) (h2 : L.getD v 0 ≠ 0) : tint L e = L.set u (3 - L.getD v 0) := by
  unfold tint
  rw [hu, hv]
  have e1 : tint1 L u v = L := by unfold tint1; exact if_neg (fun h => h.1 h1)
  rw [e1]
  unfold tint1
  exact if_pos ⟨h2, h1⟩
theorem tint_none {L : List Int} {e : Ed} {u v : Nat} (hu : e.1.toNat = u) (hv : e.2.1.toNat = v) (h : L.getD u 0 = 0 ↔ L.getD v 0 = 0) : tint L e = L := by
  unfold tint
  rw [hu, hv]
  have e1 : tint1 L u v = L := by unfold tint1; exact if_neg (fun a => a.1 (h.2 a.2))
  rw [e1]
  unfold tint1
  exact if_neg (fun a => a.1 (h.1 a.2))

set_option maxRecDepth 100000 in
set_option maxHeartbeats 8000000 in
theorem refTwo_any (N : Nat) (l : List Ed) (hR : RightG (N : Int) l) (sv : Value) (w : World) (hl : Edges w.heap.size w sv l) :
    Calls Try.prog 22 #[.agg #[.int .i64 (N : Int), sv]] w fun r w' => ((NoneOne (cAt N l N) l ∧ ∃ bv, r = .returned (.tuple #[bv, .bool true]) ∧ Bools w'.heap.size w' bv (twoL (cAt N l N) N N)) ∨ (¬ NoneOne (cAt N l N) l ∧ r = .returned (.tuple #[.slice none 0 0, .bool false]))) ∧ Below w.heap.size w w' := by
  have hmix := mixed
  obtain ⟨i0, hi, hz0, hz1, hz2⟩ := info_parts infoI
  obtain ⟨j0, kj, kz0, kz1, kz2⟩ := info_parts infoBo
  have hE := right_ends hR
  have hn1 := hR.n1
  have hm1 := hR.m1
  obtain ⟨p, c, rfl⟩ := hl.len
  have hb1 : Below w.heap.size w (w.alloc (.cells #[.int .i64 (N : Int), .slice p l.length c] 24)) := (Below.refl _ _).alloc (Nat.le_refl _) _
  have q0 : (w.alloc (.cells #[.int .i64 (N : Int), .slice p l.length c] 24)).cell? ⟨w.heap.size, 0, none⟩ = some (.int .i64 (N : Int)) := new_cell rfl rfl
  have q1 : (w.alloc (.cells #[.int .i64 (N : Int), .slice p l.length c] 24)).cell? ⟨w.heap.size, 1, none⟩ = some (.slice p l.length c) := new_cell rfl rfl
  have hsz1 : (w.alloc (.cells #[.int .i64 (N : Int), .slice p l.length c] 24)).heap.size = w.heap.size + 1 := by simp
  go_enter Try.func22, Try.ntmps22
  go_wp2_with (at_make; refine wpList_make_full _ rfl _ _ 33 rfl 0 3 i0 (.int .i64 0) 1 Try.underlying33 hi hz0 hz1 .i64 .i64 _ _ N rfl rfl rfl rfl (by rw [hz2]; omega) (by unfold maxLen; omega) (Nat.zero_le _) ?_; intro w2 hown hgrow; have hb2 : Below (w.heap.size + 1) (w.alloc (.cells #[.int .i64 (N : Int), .slice p l.length c] 24)) w2 := (Below.refl _ _).grown hgrow (by rw [hsz1]; exact Nat.le_refl _) (fun k e => by cases e); have s0 := (hb2.cell (p := ⟨w.heap.size, 0, none⟩) (Nat.lt_succ_self _)).trans q0; have s1 := (hb2.cell (p := ⟨w.heap.size, 1, none⟩) (Nat.lt_succ_self _)).trans q1)
  have hC2 := Blk.made hown
  rw [ints_made, ← c0P_zero N l, hsz1] at hC2
  have hbw2 := hb1.trans (hb2.mono (by omega))
  have hl2 := hl.go hbw2
  clear hown hgrow q0 q1
  have hcg := hC2.lt
  refine (refLabels_any N l hR _ _ hl2).mono ?_
  rintro e w3 ⟨lg, rfl, hLg, hlgt, hb3⟩
  have hC3 := hC2.go hb3
  have t0 := cell_keepK hb3 s0
  have t1 := cell_keepK hb3 s1
  have hbw3 := hbw2.trans (hb3.mono hbw2.size)
  have hne : lg ≠ w.heap.size + 1 := by omega
  have hxw : w.heap.size < w3.heap.size := World.block_lt_of_cell? w3 ⟨w.heap.size, 0, none⟩ t0
  have HLab : Hid (∀ v, v < N → w3.cell? ⟨lg, v, none⟩ = some (.int .i64 ((labAt N l N).getD v 0))) := fun v hv => hLg.cell (by rw [List.getElem?_map, List.getElem?_eq_getElem (by rw [labAt_len]; exact hv)]; simp [show v < (labAt N l N).length by rw [labAt_len]; exact hv])
  have hcl3 : w.heap.size + 1 < w3.heap.size := hC3.lt
  have HR : Hid _ := hR
  have HEn : Hid _ := hE
  have HC3 : Hid (Blk 3 w3 (w.heap.size + 1) ((c0P N l 0).map (Value.int .i64))) := hC3
  clear hC2 hb2 hb3 s0 s1 hbw2 hl2 hLg hC3 hR hE hb1 hsz1 hcg
  generalize hcb : w.heap.size + 1 = cb at *
  have hxcb : w.heap.size < cb := by omega
  clear hcb
  generalize hxb : w.heap.size = xb at t0 t1 hxw hxcb ⊢
  go_wp2
  go_loopw [6] (fun iv wr => ∃ j : Nat, j ≤ N ∧ iv = .int .i64 j ∧ Hid (Blk 3 wr cb ((c0P N l j).map (Value.int .i64))) ∧ Hid (w3.grownBy wr (some cb))) (fun i _ => N - (intOf i).toNat)
  case atStart => exact ⟨0, Nat.zero_le _, rfl, HC3.out, ⟨rfl, rfl, rfl, Nat.le_refl _, fun _ _ _ => rfl⟩⟩
  case round =>
    obtain ⟨j, hj, rfl, HC, HG⟩ := hrel
    have r0 := HG.out.cell t0 (by simp; omega)
    by_cases hlt : j < N
    · have a0 := HG.out.cell (HLab.out j hlt) (by simp; omega)
      have hjl : (j : Int) < (N : Int) := by omega
      obtain ⟨z, hz⟩ : ∃ z, wr.cell? ⟨cb, j, none⟩ = some z := ⟨_, HC.out.cell (by rw [List.getElem?_map, c0P_at hlt]; rfl)⟩
      have fz := HC.out.frozen j
      have HC2 : Hid _ := HC.out.set j (.int .i64 1)
      have HG2 : Hid (w3.grownBy (wr.setCell ⟨cb, j, none⟩ (.int .i64 1)) (some cb)) := ⟨HG.out.os, HG.out.tape, HG.out.output, by simp; exact HG.out.size, fun k hk hne => (Below.heap_setCell _ _ _ _ (fun e => hne (by rw [e]))).trans (HG.out.block k hk hne)⟩
      by_cases hr : (labAt N l N).getD j 0 = (j : Int)
      · rw [hr] at a0
        have HY : Hid _ := c0P_yes hr
        clear hr
        go_wp2
        refine ⟨⟨j + 1, by omega, by go_num, ?_, HG2.out⟩, by simp [intOf]; omega⟩
        unfold Hid
        rw [← HY.out, List.map_set]
        exact HC2.out
      · have HN : Hid _ := c0P_no hr
        generalize (labAt N l N).getD j 0 = lj at *
        have hr' : (lj == (j : Int)) = false := by simpa using hr
        go_wp2
        refine ⟨⟨j + 1, by omega, by go_num, ?_, HG.out⟩, by simp [intOf]; omega⟩
        rw [HN.out]
        exact HC.out
    · obtain rfl : N = j := by omega
      have hjl : ¬ (N : Int) < (N : Int) := by omega
      rw [c0P_full] at HC
      clear HLab HC3
      generalize wr = wq at *
      go_wp2
      go_loopw [7] (fun iv wr => ∃ i : Nat, i ≤ N ∧ iv = .int .i64 i ∧ Hid (Blk 3 wr cb ((cAt N l i).map (Value.int .i64))) ∧ Hid (w3.grownBy wr (some cb))) (fun i _ => N - (intOf i).toNat)
      case atStart => exact ⟨0, Nat.zero_le _, rfl, HC.out, HG.out⟩
      case round =>
        obtain ⟨i, hiN, rfl, HCi, HGi⟩ := hrel
        have r0i := HGi.out.cell t0 (by simp; omega)
        by_cases hlt : i < N
        · have hil : (i : Int) < (N : Int) := by omega
          have HLT : Hid (i < N) := hlt
          generalize wr = wp at *
          go_wp2
          go_loopw [8] (fun kv wr => ∃ k : Nat, k ≤ l.length ∧ kv = .int .i64 k ∧ Hid (Blk 3 wr cb ((cIn N l i k).map (Value.int .i64))) ∧ Hid (w3.grownBy wr (some cb))) (fun i _ => l.length - (intOf i).toNat)
          case atStart => exact ⟨0, Nat.zero_le _, rfl, HCi.out, HGi.out⟩
          case round =>
            obtain ⟨k, hk, rfl, HCk, HGk⟩ := hrel
            have r1 := HGk.out.cell t1 (by simp; omega)
            by_cases hltk : k < l.length
            · have hbwk : Below w.heap.size w wr := ⟨HGk.out.os.trans hbw3.os, HGk.out.tape.trans hbw3.tape, HGk.out.output.trans hbw3.output, Nat.le_trans hbw3.size HGk.out.size, fun q hq => (HGk.out.block q (by omega) (by simp; omega)).trans (hbw3.block q hq)⟩
              obtain ⟨b, off, rfl, hbb, hcap, hc, -⟩ := hl.open hltk
              obtain ⟨c0, c1, c2⟩ := hc wr hbwk k hltk
              have hkl : (k : Int) < (l.length : Int) := by omega
              have hokE := (HR.out.each l[k] (List.getElem_mem hltk)).1
              unfold okE at hokE
              obtain ⟨u, hu⟩ : ∃ u : Nat, l[k].1 = (u : Int) := ⟨l[k].1.toNat, by omega⟩
              obtain ⟨v, hv⟩ : ∃ v : Nat, l[k].2.1 = (v : Int) := ⟨l[k].2.1.toNat, by omega⟩
              have huN : u < N := by omega
              have hvN : v < N := by omega
              have huv : u ≠ v := by omega
              have hut : l[k].1.toNat = u := by omega
              have hvt : l[k].2.1.toNat = v := by omega
              have HS : Hid _ := cIn_step (N := N) (es := l) (i := i) hltk
              have hcu := cIn_cols HEn.out i k u
              have hcv := cIn_cols HEn.out i k v
              have HF1 : Hid (∀ (h1 : (cIn N l i k).getD u 0 ≠ 0) (h2 : (cIn N l i k).getD v 0 = 0), cIn N l i (k + 1) = (cIn N l i k).set v (3 - (cIn N l i k).getD u 0)) := fun h1 h2 => HS.out.trans (tint_first (cIn_len N l i k) hut hvt hvN h1 h2)
              have HF2 : Hid (∀ (h1 : (cIn N l i k).getD u 0 = 0) (h2 : (cIn N l i k).getD v 0 ≠ 0), cIn N l i (k + 1) = (cIn N l i k).set u (3 - (cIn N l i k).getD v 0)) := fun h1 h2 => HS.out.trans (tint_second hut hvt h1 h2)
              have HF3 : Hid (((cIn N l i k).getD u 0 = 0 ↔ (cIn N l i k).getD v 0 = 0) → cIn N l i (k + 1) = cIn N l i k) := fun h => HS.out.trans (tint_none hut hvt h)
              have HU : Hid ((cIn N l i k)[u]? = some ((cIn N l i k).getD u 0)) := by unfold Hid; rw [List.getD_eq_getElem?_getD, List.getElem?_eq_getElem (by rw [cIn_len]; exact huN)]; rfl
              have HV : Hid ((cIn N l i k)[v]? = some ((cIn N l i k).getD v 0)) := by unfold Hid; rw [List.getD_eq_getElem?_getD, List.getElem?_eq_getElem (by rw [cIn_len]; exact hvN)]; rfl
              rw [hu] at c0
              rw [hv] at c1
              have hul : (u : Int) < (N : Int) := by omega
              have hvl : (v : Int) < (N : Int) := by omega
              have HLK : Hid (k < l.length) := hltk
              clear hc hokE hu hv hut hvt HS c2 hltk
              go_wp2
              go_quiet (fail)
              have HC5 : Hid (Blk 3 (wr.drewN nq) cb ((cIn N l i k).map (Value.int .i64))) := HCk.out
              have HG5 : Hid (w3.grownBy (wr.drewN nq) (some cb)) := ⟨HGk.out.os, HGk.out.tape, HGk.out.output, HGk.out.size, HGk.out.block⟩
              clear HCk HGk c0 c1 r1 hbwk
              generalize wr.drewN nq = w5 at HC5 HG5 ⊢
              have t5 : w5.cell? ⟨cb, u, none⟩ = some (.int .i64 ((cIn N l i k).getD u 0)) := HC5.out.cell (by rw [List.getElem?_map, HU.out]; rfl)
              have t6 : w5.cell? ⟨cb, v, none⟩ = some (.int .i64 ((cIn N l i k).getD v 0)) := HC5.out.cell (by rw [List.getElem?_map, HV.out]; rfl)
              have f5 := HC5.out.frozen u
              have f6 := HC5.out.frozen v
              generalize hLL : cIn N l i k = LL at *
              generalize hau : LL.getD u 0 = au at *
              generalize hav : LL.getD v 0 = av at *
              have hklt := HLK.out
              have HGs : Hid (∀ (q : Nat) (x : Int), w3.grownBy (w5.setCell ⟨cb, q, none⟩ (.int .i64 x)) (some cb)) := fun q x => ⟨HG5.out.os, HG5.out.tape, HG5.out.output, by simp; exact HG5.out.size, fun q2 hq hne => (Below.heap_setCell _ _ _ _ (fun e => hne (by rw [e]))).trans (HG5.out.block q2 hq hne)⟩
              clear hLL hau hav HU HV
              by_cases h1 : au = 0
              · subst h1
                by_cases h2 : av = 0
                · subst h2
                  have HE : Hid _ := HF3.out ⟨fun _ => rfl, fun _ => rfl⟩
                  clear HF1 HF2 HF3
                  go_wp2
                  refine ⟨⟨k + 1, HLK.out, by go_num, ?_, HG5.out⟩, by simp [intOf]; omega⟩
                  rw [HE.out]
                  exact HC5.out
                · have HE : Hid _ := HF2.out rfl h2
                  have h2' : (av == 0) = false := by simpa using h2
                  have HC6 : Hid _ := HC5.out.set u (.int .i64 (3 - av))
                  clear HF1 HF2 HF3
                  go_wp2
                  refine ⟨⟨k + 1, HLK.out, by go_num, ?_, HGs.out u _⟩, by simp [intOf]; omega⟩
                  unfold Hid
                  rw [HE.out, List.map_set]
                  exact HC6.out
              · have h1' : (au == 0) = false := by simpa using h1
                by_cases h2 : av = 0
                · subst h2
                  have HE : Hid _ := HF1.out h1 rfl
                  have HC6 : Hid _ := HC5.out.set v (.int .i64 (3 - au))
                  have h3' : ((3 - au) == 0) = false := by
                    have : ¬ 3 - au = 0 := by omega
                    simpa using this
                  clear HF1 HF2 HF3
                  go_wp2
                  refine ⟨⟨k + 1, HLK.out, by go_num, ?_, HGs.out v _⟩, by simp [intOf]; omega⟩
                  unfold Hid
                  rw [HE.out, List.map_set]
                  exact HC6.out
                · have h2' : (av == 0) = false := by simpa using h2
                  have HE : Hid _ := HF3.out ⟨fun h => absurd h h1, fun h => absurd h h2⟩
                  clear HF1 HF2 HF3
                  go_wp2
                  refine ⟨⟨k + 1, HLK.out, by go_num, ?_, HG5.out⟩, by simp [intOf]; omega⟩
                  rw [HE.out]
                  exact HC5.out
            · obtain rfl : k = l.length := by omega
              have hkl : ¬ (l.length : Int) < (l.length : Int) := by omega
              rw [cIn_next] at HCk
              go_wp2
              exact ⟨⟨i + 1, HLT.out, by have := HLT.out; go_num, HCk.out, HGk.out⟩, by have := HLT.out; simp [intOf]; omega⟩
        · obtain rfl : N = i := by omega
          have hil : ¬ (N : Int) < (N : Int) := by omega
          have r1i := HGi.out.cell t1 (by simp; omega)
          have hbwi : Below w.heap.size w wr := ⟨HGi.out.os.trans hbw3.os, HGi.out.tape.trans hbw3.tape, HGi.out.output.trans hbw3.output, Nat.le_trans hbw3.size HGi.out.size, fun q hq => (HGi.out.block q (by omega) (by simp; omega)).trans (hbw3.block q hq)⟩
          have HCV : Hid (∀ v, v < N → wr.cell? ⟨cb, v, none⟩ = some (.int .i64 ((cAt N l N).getD v 0))) := fun v hv => HCi.out.cell (by rw [List.getElem?_map, List.getElem?_eq_getElem (by rw [cAt_len]; exact hv)]; simp [show v < (cAt N l N).length by rw [cAt_len]; exact hv])
          clear HCi HGi HC HG hbw3 t0 t1
          go_wp2_with (at_make; refine wpList_make_full _ rfl _ _ 36 rfl wr.heap.size 4 j0 (.bool false) 1 Try.underlying36 kj kz0 kz1 .i64 .i64 _ _ N rfl rfl rfl rfl (by rw [kz2]; omega) (by unfold maxLen; omega) (Nat.le_refl _) ?_; intro w7 hown hgrow; have hb7 : Below wr.heap.size wr w7 := (Below.refl _ _).grown hgrow (Nat.le_refl _) (fun k e => by cases e))
          have hM7 := Blk.made hown
          rw [bools_madeT, ← twoL_zero (cAt N l N)] at hM7
          have hbw7 := hbwi.trans (hb7.mono hbwi.size)
          have y0 := cell_keepK hb7 r0i
          have y1 := cell_keepK hb7 r1i
          have HCV7 : Hid (∀ v, v < N → w7.cell? ⟨cb, v, none⟩ = some (.int .i64 ((cAt N l N).getD v 0))) := fun v hv => cell_keepK hb7 (HCV.out v hv)
          have hgl := hM7.lt
          have hcbl : N = 0 ∨ cb < wr.heap.size := by
            by_cases h : N = 0
            · exact .inl h
            · exact .inr (World.block_lt_of_cell? wr ⟨cb, 0, none⟩ (HCV.out 0 (by omega)))
          have hwg : w.heap.size ≤ wr.heap.size := hbwi.size
          have hxg : xb < wr.heap.size := World.block_lt_of_cell? wr ⟨xb, 0, none⟩ r0i
          have HM7 : Hid (Blk 4 w7 wr.heap.size ((twoL (cAt N l N) N 0).map Value.bool)) := hM7
          clear hown hgrow hb7 r0i r1i HCV hM7 hbwi
          generalize wr.heap.size = g at *
          generalize wr = wz at *
          go_wp2
          go_loopw [12] (fun iv wr => ∃ k : Nat, k ≤ l.length ∧ iv = .int .i64 k ∧ Hid (∀ (q : Nat) (e : Ed), q < k → l[q]? = some e → (cAt N l N).getD e.1.toNat 0 ≠ (cAt N l N).getD e.2.1.toNat 0) ∧ Grew w7 wr) (fun i _ => l.length - (intOf i).toNat)
          case atStart => exact ⟨0, Nat.zero_le _, rfl, fun q e h => by omega, Grew.refl _⟩
          case round =>
            obtain ⟨k, hk, rfl, HP, hgm⟩ := hrel
            have hbm : Below w.heap.size w wr := hbw7.trans (hgm.below.mono hbw7.size)
            have z1 := cell_keepK hgm.below y1
            by_cases hltk : k < l.length
            · obtain ⟨b, off, rfl, hbb, hcap, hc, -⟩ := hl.open hltk
              obtain ⟨c0, c1, c2⟩ := hc _ hbm k hltk
              have hkl : (k : Int) < (l.length : Int) := by omega
              have hokE := (HR.out.each l[k] (List.getElem_mem hltk)).1
              unfold okE at hokE
              obtain ⟨u, hu⟩ : ∃ u : Nat, l[k].1 = (u : Int) := ⟨l[k].1.toNat, by omega⟩
              obtain ⟨v, hv⟩ : ∃ v : Nat, l[k].2.1 = (v : Int) := ⟨l[k].2.1.toNat, by omega⟩
              have huN : u < N := by omega
              have hvN : v < N := by omega
              have HY : Hid ((cAt N l N).getD u 0 = (cAt N l N).getD v 0 → ¬ NoneOne (cAt N l N) l) := fun h hall => hall l[k] (List.getElem_mem hltk) (by rw [hu, hv]; exact h)
              have HNx : Hid ((cAt N l N).getD u 0 ≠ (cAt N l N).getD v 0 → ∀ (q : Nat) (e : Ed), q < k + 1 → l[q]? = some e → (cAt N l N).getD e.1.toNat 0 ≠ (cAt N l N).getD e.2.1.toNat 0) := fun hne q e hq he => by
                by_cases h : q = k
                · subst h
                  rw [List.getElem?_eq_getElem hltk] at he
                  cases he
                  rw [hu, hv]
                  exact hne
                · exact HP.out q e (by omega) he
              have d0 := cell_keepK hgm.below (HCV7.out u huN)
              have d1 := cell_keepK hgm.below (HCV7.out v hvN)
              have HGm : Hid (Grew w7 wr) := hgm
              clear hgm
              rw [hu] at c0
              rw [hv] at c1
              have hul : (u : Int) < (N : Int) := by omega
              have hvl : (v : Int) < (N : Int) := by omega
              have HLK : Hid (k < l.length) := hltk
              clear hc hokE hu hv c2 hltk HP
              generalize (cAt N l N).getD u 0 = cu at *
              generalize (cAt N l N).getD v 0 = cv at *
              have HBm : Hid _ := hbm
              clear hbm
              generalize wr = wm at *
              by_cases hcc : cu = cv
              · have HQ : Hid _ := HY.out hcc
                subst hcc
                clear HY HNx
                go_wp2
                go_quiet (fail)
                have HBq : Hid (Below w.heap.size w (wm.drewN nq)) := below_drewN HBm.out nq
                generalize wm.drewN nq = wn at HBq ⊢
                go_wp2
                (try simp only [Exit.inBlock, Exit.then])
                refine bodyPost_ret (results_tmp2 rfl _ _ _) rfl ?_
                exact ⟨.inr ⟨HQ.out, rfl⟩, HBq.out⟩
              · have HQ : Hid _ := HNx.out hcc
                have hcc' : (cu == cv) = false := by simpa using hcc
                clear HY HNx
                go_wp2
                go_quiet (fail)
                have HGq : Hid (Grew w7 (wm.drewN nq)) := Grew.drewN HGm.out nq
                have hlk := HLK.out
                go_wp2
                exact ⟨⟨k + 1, HLK.out, by go_num, HQ.out, HGq.out⟩, by simp [intOf]; omega⟩
            · obtain rfl : k = l.length := by omega
              have hkl : ¬ (l.length : Int) < (l.length : Int) := by omega
              have HA : Hid (NoneOne (cAt N l N) l) := fun e he => by
                obtain ⟨q, hq, rfl⟩ := List.getElem_of_mem he
                exact HP.out q _ hq (List.getElem?_eq_getElem hq)
              have z0 := cell_keepK hgm.below y0
              have HM8 : Hid (Blk 4 wr g ((twoL (cAt N l N) N 0).map Value.bool)) := Blk.go HM7.out hgm.below
              have HCV8 : Hid (∀ v, v < N → wr.cell? ⟨cb, v, none⟩ = some (.int .i64 ((cAt N l N).getD v 0))) := fun v hv => cell_keepK hgm.below (HCV7.out v hv)
              clear HP hgm HM7 HCV7 y0 y1 hbw7
              generalize wr = wm at *
              go_wp2
              go_loopw [13] (fun iv wr => ∃ v : Nat, v ≤ N ∧ iv = .int .i64 v ∧ Hid (Blk 4 wr g ((twoL (cAt N l N) N v).map Value.bool)) ∧ Hid (Below g wm wr)) (fun i _ => N - (intOf i).toNat)
              case atStart => exact ⟨0, Nat.zero_le _, rfl, HM8.out, Below.refl _ _⟩
              case round =>
                obtain ⟨v, hv, rfl, HM, HB⟩ := hrel
                have x0 : wr.cell? ⟨xb, 0, none⟩ = some (.int .i64 (N : Int)) := (HB.out.cell (p := ⟨xb, 0, none⟩) hxg).trans z0
                by_cases hlt : v < N
                · have hvl : (v : Int) < (N : Int) := by omega
                  have d0 := (HB.out.cell (p := ⟨cb, v, none⟩) (by show cb < g; omega)).trans (HCV8.out v hlt)
                  obtain ⟨z, hz⟩ : ∃ z, wr.cell? ⟨g, v, none⟩ = some z := ⟨_, HM.out.cell (by rw [List.getElem?_map]; rw [List.getElem?_eq_getElem (by simp [twoL]; exact hlt)]; rfl)⟩
                  have fz := HM.out.frozen v
                  have HM2 : Hid _ := HM.out.set v (.bool ((cAt N l N).getD v 0 == 2))
                  have HB2 : Hid _ := HB.out.setCell (p := ⟨g, v, none⟩) (Nat.le_refl _) (.bool ((cAt N l N).getD v 0 == 2))
                  have HT : Hid _ := twoL_step (L := cAt N l N) (N := N) (j := v)
                  clear HM HB
                  generalize (cAt N l N).getD v 0 = cv at *
                  go_wp2
                  refine ⟨⟨v + 1, by omega, by go_num, ?_, HB2.out⟩, by simp [intOf]; omega⟩
                  unfold Hid
                  rw [← HT.out, List.map_set]
                  exact HM2.out
                · obtain rfl : N = v := by omega
                  have hvl : ¬ (N : Int) < (N : Int) := by omega
                  have hsl : (twoL (cAt N l N) N N).length = N := by simp [twoL]
                  have HI : Hid (Bools wr.heap.size wr (.slice (some ⟨g, 0, none⟩) N N) (twoL (cAt N l N) N N)) := by
                    have := HM.out.bools
                    rw [hsl] at this
                    exact this
                  have HB3 : Hid (Below w.heap.size w wr) := hbm.trans (HB.out.mono hwg)
                  clear HM HB
                  go_wp2
                  (try simp only [Exit.inBlock, Exit.then])
                  refine bodyPost_ret (results_tmp2 rfl _ _ _) rfl ?_
                  exact ⟨.inl ⟨HA.out, .slice (some ⟨g, 0, none⟩) N N, rfl, HI.out⟩, by rw [← hxb]; exact HB3.out⟩
end Go.Proofs.Ytdadpfkoocpfaaa
