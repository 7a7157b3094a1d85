/-
  The contract of the reference's Joined.
-/
import Derived.Test.YtonfhkdciaiilaaGreatXFcRJ
import Derived.Test.YtonfhkdciaiilaaGreatXGRefMakeP
import Derived.Test.YtonfhkdciaiilaaGreatQO
namespace Go.Proofs.YtonfhkdciaiilaaGreat
open Go Go.Proofs Go.RowKit

/-- A block of two cells holds no edge. -/
theorem Edges.setTwo {W : World} {sv : Value} {l : List Ed} {t : TypeId} {b : Nat} {x y : Value} (h : Edges W.heap.size W sv l) (hb : Blk t W b [x, y]) {p : Addr} (hp : p.block = b) (v : Value) : Edges (W.setCell p v).heap.size (W.setCell p v) sv l := by
  have hs : (W.setCell p v).heap.size = W.heap.size := by simp
  rw [hs]
  rcases h with h | ⟨b', off, cap, h1, h2, h3, h4⟩
  · exact .inl h
  · refine .inr ⟨b', off, cap, h1, h2, h3, fun j z hz => ?_⟩
    have hne : b' ≠ p.block := fun e => by
      rw [hp] at e
      subst e
      have hc := (h4 j z hz).2.2
      unfold Blk at hb
      simp only [World.cell?, hb] at hc
      have := (Array.getElem?_eq_some_iff.1 hc).1
      simp at this
      omega
    obtain ⟨c0, c1, c2⟩ := h4 j z hz
    have e := Below.heap_setCell W p v b' hne
    exact ⟨(World.cell?_of_block (a := ⟨b', _, none⟩) e).trans c0, (World.cell?_of_block (a := ⟨b', _, none⟩) e).trans c1, (World.cell?_of_block (a := ⟨b', _, none⟩) e).trans c2⟩

set_option maxRecDepth 100000 in
set_option maxHeartbeats 8000000 in
theorem refJoined_any (N : Nat) (l : List Ed) (hR : RightG (N : Int) l) (r : List (List Int)) (hrl : r.length = N) (hin : ∀ x ∈ r, x.length ≤ 4194304) (hm : l.length + N ≤ 500) (sv rv : Value) (w : World) (hl : Edges w.heap.size w sv l) (hr : Lsts w.heap.size w rv r) :
    Calls Tryz.prog 9 #[.agg #[.int .i64 (N : Int), sv], rv] w fun e w' => ∃ gv lv, e = .returned (.tuple #[.agg #[.int .i64 (makeN (N : Int) (jE l (compC N l) (compC N l).length)), gv], lv]) ∧ Edges w'.heap.size w' gv (makeL (N : Int) (jE l (compC N l) (compC N l).length)) ∧ Lsts w'.heap.size w' lv (jR r (compC N l) (compC N l).length) ∧ Below w.heap.size w w' := by
  obtain ⟨p, c, rfl⟩ := hl.len
  obtain ⟨pr, cr, rfl⟩ := hr.len
  obtain ⟨i0, hi, hz0, hz1, hz2⟩ := info_parts infoSl
  obtain ⟨e0, he, hx0, hx1, hx2⟩ := info_parts infoE
  obtain ⟨j0, hj, hy0, hy1, hy2⟩ := info_parts infoI
  have hbA : Below w.heap.size w (w.alloc (.cells #[.int .i64 (N : Int), .slice p l.length c] 24)) := (Below.refl _ _).alloc (Nat.le_refl _) _
  have hX : Blk 24 (w.alloc (.cells #[.int .i64 (N : Int), .slice p l.length c] 24)) w.heap.size [.int .i64 (N : Int), .slice p l.length c] := heap_alloc_new w _
  have hs1 : (w.alloc (.cells #[.int .i64 (N : Int), .slice p l.length c] 24)).heap.size = w.heap.size + 1 := by simp
  generalize hw1 : w.alloc (.cells #[.int .i64 (N : Int), .slice p l.length c] 24) = w1 at *
  have hbB : Below w1.heap.size w1 (w1.alloc (.cells #[.int .i64 0, .slice none 0 0] 24)) := (Below.refl _ _).alloc (Nat.le_refl _) _
  have hY : Blk 24 (w1.alloc (.cells #[.int .i64 0, .slice none 0 0] 24)) w1.heap.size [.int .i64 0, .slice none 0 0] := heap_alloc_new w1 _
  have hX1 := hX.go hbB
  rw [hs1] at hY
  have q0 := hX1.cell (j := 0) rfl
  have q1 := hX1.cell (j := 1) rfl
  have hbw2 : Below w.heap.size w (w1.alloc (.cells #[.int .i64 0, .slice none 0 0] 24)) := hbA.trans (hbB.mono hbA.size)
  have hcm : Calls Tryz.prog 21 #[.agg #[.int .i64 (N : Int), .slice p l.length c]] (w1.alloc (.cells #[.int .i64 0, .slice none 0 0] 24)) fun r w' => ∃ lv svs h0, r = .returned lv ∧ Grp h0 lv svs (compC N l) w' ∧ Below (w1.alloc (.cells #[.int .i64 0, .slice none 0 0] 24)).heap.size (w1.alloc (.cells #[.int .i64 0, .slice none 0 0] 24)) w' := refComponents_any N l hR (.slice p l.length c) _ (hl.go hbw2)
  have HL : Hid (Edges w.heap.size w (.slice p l.length c) l) := hl
  have HRr : Hid (Lsts w.heap.size w (.slice pr r.length cr) r) := hr
  have HC : Hid (CompsOK N (compC N l)) := comps_ok hR
  have HIN : Hid (∀ x ∈ r, x.length ≤ 4194304) := hin
  have HX : Hid (Blk 24 (w1.alloc (.cells #[.int .i64 0, .slice none 0 0] 24)) w.heap.size [.int .i64 (N : Int), .slice p l.length c]) := hX1
  have HY : Hid (Blk 24 (w1.alloc (.cells #[.int .i64 0, .slice none 0 0] 24)) (w.heap.size + 1) [.int .i64 0, .slice none 0 0]) := hY
  have HB2 : Hid (Below w.heap.size w (w1.alloc (.cells #[.int .i64 0, .slice none 0 0] 24))) := hbw2
  have HRL : Hid (r.length = N) := hrl
  clear hl hr hX hX1 hY hbA hbB hbw2 hR hin hrl
  generalize hCC : compC N l = C at *
  have HCC : Hid (compC N l = C) := hCC
  clear hCC
  go_enter Tryz.func9, Tryz.ntmps9
  go_wp2_with fail
  generalize w1.alloc (.cells #[.int .i64 0, .slice none 0 0] 24) = w2 at *
  refine hcm.mono ?_
  clear hcm
  rintro e w3 ⟨lv, cvs, hc, rfl, hGC, hb3⟩
  have hLs := hGC.lsts
  obtain ⟨pc, cc, rfl⟩ := hLs.len
  have HLS : Hid (Lsts w3.heap.size w3 (.slice pc C.length cc) C) := hLs
  have HX3 : Hid (Blk 24 w3 w.heap.size [.int .i64 (N : Int), .slice p l.length c]) := HX.out.go hb3
  have HY3 : Hid (Blk 24 w3 (w.heap.size + 1) [.int .i64 0, .slice none 0 0]) := HY.out.go hb3
  have HB3 : Hid (Below w.heap.size w w3) := HB2.out.trans (hb3.mono HB2.out.size)
  clear q0 q1 HX HY HB2 hb3 hGC hLs cvs
  have hY3 := HY3.out.lt
  have hX3 := HX3.out.lt
  have hgs := HB3.out.size
  have hcf := HC.out.few
  -- the edges
  have hbE : Below w3.heap.size w3 (w3.alloc (.cells #[] 40)) := (Below.refl _ _).alloc (Nat.le_refl _) _
  have hBE : Blk 40 (w3.alloc (.cells #[] 40)) w3.heap.size [] := heap_alloc_new w3 _
  have hownE : (w3.alloc (.cells #[] 40)).ownsRow w3.heap.size 40 3 (.slice (some ⟨w3.heap.size, 0, none⟩) 0 0) 0 [] := ⟨by simp, .inr ⟨w3.heap.size, 0, #[], rfl, Nat.le_refl _, hBE, Nat.le_refl _, by unfold maxLen; omega, rfl, rfl⟩⟩
  have q1 := (HX3.out.go hbE).cell (j := 1) rfl
  have hsrcE := Src.edges ((HL.out.go HB3.out).go hbE)
  have hmxE : 0 + l.length ≤ maxLen := by unfold maxLen; omega
  have hbyE : (0 + l.length) * 24 ≤ 140737488355328 := by omega
  have hbsE : w3.heap.size ≤ (w3.alloc (.cells #[] 40)).heap.size := by simp
  go_wp2_with (at_builtin; refine wpList_append_src _ rfl _ _ 22 rfl w3.heap.size 40 e0 (.agg #[.int .i64 0, .int .i64 0, .int .i64 0]) 3 24 Tryz.underlying22 he hx0 hx1 hx2 (by simp [Value.cells]) (by decide) (.slice (some ⟨w3.heap.size, 0, none⟩) 0 0) _ _ rfl hownE (.slice p l.length c) l.length (flat l) rfl hsrcE hmxE hbyE hbsE ?_)
  intro v4 w4 hown4 hg4
  obtain ⟨pl, kl, rfl⟩ := owns_form hown4
  have hb34 : Below w3.heap.size w3 w4 := hbE.grown hg4 hbsE (fun k e => (hownE.lt k e).1)
  have hO4 : w4.ownsRow w3.heap.size 40 3 (.slice pl l.length kl) l.length (flat l) := by simpa using hown4
  clear hown4 hg4 hownE hsrcE hbE hBE hmxE hbyE hbsE q1
  -- the lists
  have hbL : Below w4.heap.size w4 (w4.alloc (.cells #[] 37)) := (Below.refl _ _).alloc (Nat.le_refl _) _
  have hBL : Blk 37 (w4.alloc (.cells #[] 37)) w4.heap.size [] := heap_alloc_new w4 _
  have hownL : (w4.alloc (.cells #[] 37)).ownsRow w4.heap.size 37 1 (.slice (some ⟨w4.heap.size, 0, none⟩) 0 0) 0 [] := ⟨by simp, .inr ⟨w4.heap.size, 0, #[], rfl, Nat.le_refl _, hBL, Nat.le_refl _, by unfold maxLen; omega, rfl, rfl⟩⟩
  have hb04 : Below w.heap.size w w4 := HB3.out.trans (hb34.mono hgs)
  have hb05 : Below w.heap.size w (w4.alloc (.cells #[] 37)) := hb04.trans (hbL.mono hb04.size)
  obtain ⟨svs, hsl, hsrcL, hent⟩ := Src.lsts (HRr.out.below hb05)
  have hr500 : r.length ≤ 500 := by have := HRL.out; omega
  have hmxL : 0 + r.length ≤ maxLen := by unfold maxLen; omega
  have hbyL : (0 + r.length) * 24 ≤ 140737488355328 := by omega
  have hbsL : w4.heap.size ≤ (w4.alloc (.cells #[] 37)).heap.size := by simp
  have HENT : Hid _ := hent
  clear hent
  have HSL : Hid (svs.length = r.length) := hsl
  clear hsl
  go_wp2_with (at_builtin; refine wpList_append_src _ rfl _ _ 25 rfl w4.heap.size 37 i0 (.slice none 0 0) 1 24 Tryz.underlying25 hi hz0 hz1 hz2 rfl (by decide) (.slice (some ⟨w4.heap.size, 0, none⟩) 0 0) _ _ rfl hownL (.slice pr r.length cr) r.length svs rfl hsrcL hmxL hbyL hbsL ?_)
  intro v5 w5 hown5 hg5
  obtain ⟨po, ko, rfl⟩ := owns_form hown5
  have hb45 : Below w4.heap.size w4 w5 := hbL.grown hg5 hbsL (fun k e => (hownL.lt k e).1)
  have hO5 : w5.ownsRow w4.heap.size 37 1 (.slice po r.length ko) r.length svs := by simpa using hown5
  have hb35 : Below w3.heap.size w3 w5 := hb34.trans (hb45.mono hb34.size)
  have hA5 : Below w.heap.size (w4.alloc (.cells #[] 37)) w5 := (Below.refl _ _).grown hg5 (by have := hb04.size; simp; omega) (fun k e => by have := (hownL.lt k e).1; have := hb04.size; omega)
  have hJ5 : RJ w5 w3.heap.size r.length (w.heap.size + 1) (.slice pl l.length kl) (.slice po r.length ko) svs l r w5 := by
    refine ⟨owns_below hO4 hb45, owns_base hO5 hb34.size, HSL.out, rfl, fun q hq e => ?_, fun k sv xs h1 h2 => ?_, hY3, hb35.size, Below.refl _ _⟩
    · have h1 := (hO4.lt q hq).2
      have h2 := (hO5.lt q e).1
      omega
    · refine Lies.of ((HENT.out k sv xs h1 h2).below hA5) (by have := hb35.size; omega) (fun b hb h3 => ?_)
      rcases h3 with h3 | h3 | h3
      · omega
      · have h4 := (hO5.lt b h3).1
        have := hb04.size
        omega
      · have h4 := (hO4.lt b h3).1
        omega
  have HLS5 : Hid (Lsts w3.heap.size w5 (.slice pc C.length cc) C) := HLS.out.below hb35
  have HX5 : Hid (Blk 24 w5 w.heap.size [.int .i64 (N : Int), .slice p l.length c]) := HX3.out.go hb35
  have HY5 : Hid (Blk 24 w5 (w.heap.size + 1) [.int .i64 0, .slice none 0 0]) := HY3.out.go hb35
  have HB5 : Hid (Below w.heap.size w w5) := HB3.out.trans (hb35.mono hgs)
  have HJ5 : Hid (RJ w5 w3.heap.size r.length (w.heap.size + 1) (.slice pl l.length kl) (.slice po r.length ko) svs l r w5) := hJ5
  clear hown5 hg5 hownL hsrcL hbL hBL hmxL hbyL hbsL hO5 hO4 hb34 hb45 hb35 hA5 hJ5 HENT HSL HX3 HY3 HB3 HLS hb04 hb05
  generalize w3.heap.size = h0 at *
  go_wp2
  go_loopw [7, 9] (fun lv iv wr => ∃ (i : Nat) (svs : List Value), 1 ≤ i ∧ (i ≤ C.length ∨ (i = 1 ∧ C.length = 0)) ∧ iv = .int .i64 i ∧ RJ w5 h0 r.length (w.heap.size + 1) lv (.slice po r.length ko) svs (jE l C i) (jR r C i) wr) (fun _ iv _ => C.length - (intOf iv).toNat)
  case atStart => exact ⟨1, _, Nat.le_refl _, by omega, rfl, HJ5.out⟩
  case round =>
    clear HJ5
    obtain ⟨i, svs, hi1, hi, rfl, hJ⟩ := hrel
    by_cases hlt : i < C.length
    · have hil : (i : Int) < (C.length : Int) := by omega
      have h0C : 0 < C.length := by omega
      have hLs := HLS5.out.below hJ.keep
      obtain ⟨bc, oc, rfl, hbc, hcc, px, kx, hIx, c0⟩ := hLs.cellAt hlt
      obtain ⟨bc', oc', e', _, _, p0, k0, hI0, c00⟩ := hLs.cellAt h0C
      simp only [Option.some.injEq, Addr.mk.injEq, and_true] at e'
      obtain ⟨rfl, rfl⟩ := e'
      obtain ⟨u, hu, huN, hul, hu0⟩ := atC_ok HC.out h0C
      obtain ⟨v, hv, hvN, hvl, hv0⟩ := atC_ok HC.out hlt
      obtain ⟨ba, oa, rfl, hba, hca, hcla⟩ := hI0.open (j := 0) (by omega)
      obtain ⟨bb, ob, rfl, hbb, hcb, hclb⟩ := hIx.open (j := 0) (by omega)
      have x0 := hcla wr (Below.refl _ _) 0 (by omega)
      have y0 := hclb wr (Below.refl _ _) 0 (by omega)
      have eu : C[0][0]'(by omega) = (u : Int) := by rw [List.getElem?_eq_getElem (by omega)] at hu0; exact Option.some.inj hu0
      have ev : C[i][0]'(by omega) = (v : Int) := by rw [List.getElem?_eq_getElem (by omega)] at hv0; exact Option.some.inj hv0
      rw [eu] at x0
      rw [ev] at y0
      simp only [Nat.add_zero] at x0 y0 c00
      have hz : ¬ i = 0 := by omega
      have HE : Hid (jE l C i ++ [((u : Int), (v : Int), 0)] = jE l C (i + 1)) := by
        unfold Hid
        rw [← hu, ← hv]
        show _ = if i = 0 then _ else _
        rw [if_neg hz]
      have HRR : Hid (pushR (pushR (jR r C i) u (v : Int)) v (u : Int) = jR r C (i + 1)) := by
        unfold Hid
        show _ = if i = 0 then _ else _
        rw [if_neg hz, hu, hv]
        rfl
      have hCl0 : 0 < C[0].length := by omega
      have hCli : 0 < C[i].length := by omega
      have hN9 : Hid (u < r.length) := by unfold Hid; rw [HRL.out]; exact huN
      have hN10 : Hid (v < r.length) := by unfold Hid; rw [HRL.out]; exact hvN
      have hul' : (u : Int) < (r.length : Int) := by have := hN9.out; omega
      have hvl' : (v : Int) < (r.length : Int) := by have := hN10.out; omega
      have hjs : ∀ x ∈ jR r C i, x.length ≤ 4194304 + 2 * i := jR_short HIN.out i
      have HSH9 : Hid (∀ x ∈ jR r C i, x.length ≤ 8388608) := fun x hx => by have := hjs x hx; omega
      have HSH10 : Hid (∀ x ∈ pushR (jR r C i) u (v : Int), x.length ≤ 8388608) := fun x hx => by have := pushR_short hjs x hx; omega
      have hel : (jE l C i).length ≤ 1000 := by have := jE_len l C i; omega
      obtain ⟨g, rfl⟩ : ∃ g, po = some ⟨g, 0, none⟩ := by
        rcases hJ.row.2 with ⟨h1, _⟩ | ⟨g, cap, cur, h1, _⟩
        · exfalso
          have h2 : r.length = 0 := by injection h1
          have := hN9.out
          omega
        · injection h1 with h2
          exact ⟨g, h2⟩
      obtain ⟨pe, ke, rfl⟩ := owns_form hJ.own
      have HJ : Hid (RJ w5 h0 r.length (w.heap.size + 1) (.slice pe (jE l C i).length ke) (.slice (some ⟨g, 0, none⟩) r.length ko) svs (jE l C i) (jR r C i) wr) := hJ
      clear hJ hLs hIx hI0 hcla hclb eu ev hu0 hv0 hjs hu hv
      generalize C[0].length = n0 at *
      generalize C[i].length = n1 at *
      generalize hEi : jE l C i = Ei at *
      generalize hRi : jR r C i = Ri at *
      clear hEi hRi
      go_wp2_with fail
      go_quiet (fail)
      have HJ6 : Hid (RJ w5 h0 r.length (w.heap.size + 1) (.slice pe Ei.length ke) (.slice (some ⟨g, 0, none⟩) r.length ko) svs Ei Ri (wr.drewN nq)) := HJ.out.go (below_drewN (Below.refl _ _) nq)
      clear HJ x0 y0 c00 c0
      generalize wr.drewN nq = w6 at *
      have hbA : Below w6.heap.size w6 (w6.alloc (.cells #[.int .i64 (u : Int), .int .i64 (v : Int), .int .i64 0] 40)) := (Below.refl _ _).alloc (Nat.le_refl _) _
      have hownA := owns_below HJ6.out.own hbA
      have hnews : ∀ i w, (encE ((u : Int), (v : Int), 0))[i]? = some w → (w6.alloc (.cells #[.int .i64 (u : Int), .int .i64 (v : Int), .int .i64 0] 40)).cell? ((⟨w6.heap.size, 0, none⟩ : Addr).add i) = some w := news3 (w := w6) ((u : Int), (v : Int), 0)
      have hone := one3 ((u : Int), (v : Int), 0)
      have hmx : Ei.length + 1 ≤ maxLen := by unfold maxLen; omega
      have hby : (Ei.length + 1) * 24 ≤ 140737488355328 := by omega
      have hbs : h0 ≤ (w6.alloc (.cells #[.int .i64 (u : Int), .int .i64 (v : Int), .int .i64 0] 40)).heap.size := by have := HJ6.out.size; simp; omega
      go_wp2_with (at_builtin; refine wpList_append_own_at _ rfl _ _ 22 rfl h0 40 e0 (.agg #[.int .i64 0, .int .i64 0, .int .i64 0]) 3 24 Tryz.underlying22 he hx0 hx1 hx2 (by simp [Value.cells]) (by decide) (.slice pe Ei.length ke) _ _ rfl hownA ⟨w6.heap.size, 0, none⟩ 1 1 (encE ((u : Int), (v : Int), 0)) rfl rfl hnews hone hmx hby hbs ?_)
      intro v7 w7 hown7 hg7 _ hat7
      obtain ⟨a7, k7, rfl⟩ := owns_form hown7
      have hat7' : (Value.slice a7 (Ei.length + 1) k7).ownBlock = (Value.slice pe Ei.length ke).ownBlock ∨ (Value.slice a7 (Ei.length + 1) k7).ownBlock = some (w6.alloc (.cells #[.int .i64 (u : Int), .int .i64 (v : Int), .int .i64 0] 40)).heap.size := by simpa using hat7
      have hJ7 := HJ6.out.edge hown7 hg7 hat7'
      have HJ7 : Hid (RJ w5 h0 r.length (w.heap.size + 1) (.slice a7 (Ei.length + 1) k7) (.slice (some ⟨g, 0, none⟩) r.length ko) svs (Ei ++ [((u : Int), (v : Int), 0)]) Ri w7) := hJ7
      clear hJ7 hown7 hg7 hat7 hat7' hownA hnews hone hmx hby hbs hbA HJ6
      rw [HE.out] at HJ7
      have hk9 : u < (Ri).length := by rw [HJ7.out.len]; exact hN9.out
      have hp9 := getD_some hk9
      have hks9 : u < (svs).length := by rw [HJ7.out.num]; exact hN9.out
      have hs9 := List.getElem?_eq_getElem hks9
      have hx9 : ((Ri).getD u []).length ≤ 8388608 := HSH9.out _ (List.mem_of_getElem? hp9)
      have hI9 := (HJ7.out.ent _ _ _ hs9 hp9).ints
      obtain ⟨p9, k9, hf9⟩ := hI9.len
      rw [hf9] at hs9 hI9
      have c9 : (w7).cell? ⟨g, u, none⟩ = some (.slice p9 ((Ri).getD u []).length k9) := by
        have h1 := HJ7.out.row.cells (g := g) rfl u _ hs9
        rwa [Go.WideShapes.add_plain, Nat.zero_add] at h1
      have HPU9 : Hid ((Ri).set u ((Ri).getD u [] ++ [(v : Int)]) = pushR (Ri) u (v : Int)) := rfl
      clear hk9 hp9 hks9 hs9 hf9
      generalize (Ri).getD u [] = xs9 at *
      have hbx9 : Below (w7).heap.size (w7) ((w7).alloc (.cells #[] 3)) := (Below.refl _ _).alloc (Nat.le_refl _) _
      have hBx9 : Blk 3 ((w7).alloc (.cells #[] 3)) (w7).heap.size [] := heap_alloc_new _ _
      have hox9 : ((w7).alloc (.cells #[] 3)).ownsRow (w7).heap.size 3 1 (.slice (some ⟨(w7).heap.size, 0, none⟩) 0 0) 0 [] := ⟨by simp, .inr ⟨(w7).heap.size, 0, #[], rfl, Nat.le_refl _, hBx9, Nat.le_refl _, by unfold maxLen; omega, rfl, rfl⟩⟩
      have hsx9 := Src.ints (hI9.go hbx9)
      have cx9 := cell_keepK hbx9 c9
      have hmx9 : 0 + xs9.length ≤ maxLen := by unfold maxLen; omega
      have hby9 : (0 + xs9.length) * 8 ≤ 140737488355328 := by omega
      have hbs9 : (w7).heap.size ≤ ((w7).alloc (.cells #[] 3)).heap.size := by simp
      go_wp2_with (at_builtin; refine wpList_append_src _ rfl _ _ 37 rfl (w7).heap.size 3 j0 (.int .i64 0) 1 8 Tryz.underlying37 hj hy0 hy1 hy2 rfl (by decide) (.slice (some ⟨(w7).heap.size, 0, none⟩) 0 0) _ _ rfl hox9 (.slice p9 xs9.length k9) xs9.length (xs9.map (Value.int .i64)) rfl hsx9 hmx9 hby9 hbs9 ?_)
      intro va9 wa9 hoa9 hga9
      obtain ⟨pa9, ka9, rfl⟩ := owns_form hoa9
      have hba9 : Below (w7).heap.size (w7) wa9 := hbx9.grown hga9 hbs9 (fun k e => (hox9.lt k e).1)
      have hob9 : wa9.ownsRow (w7).heap.size 3 1 (.slice pa9 xs9.length ka9) xs9.length (xs9.map (Value.int .i64)) := by simpa using hoa9
      clear hoa9 hga9 hox9 hsx9 hbx9 hBx9 cx9
      have hbz9 : Below wa9.heap.size wa9 (wa9.alloc (.cells #[.int .i64 (v : Int)] 3)) := (Below.refl _ _).alloc (Nat.le_refl _) _
      have hoz9 := owns_below hob9 hbz9
      have hnw9 : Src (wa9.alloc (.cells #[.int .i64 (v : Int)] 3)) (.slice (some ⟨wa9.heap.size, 0, none⟩) 1 1) 1 1 [.int .i64 (v : Int)] := .inr ⟨⟨wa9.heap.size, 0, none⟩, 1, rfl, rfl, one_cell wa9 (.int .i64 (v : Int)) 3, fun z hz => by rw [List.mem_singleton.1 hz]; rfl⟩
      have hmy9 : xs9.length + 1 ≤ maxLen := by unfold maxLen; omega
      have hbv9 : (xs9.length + 1) * 8 ≤ 140737488355328 := by omega
      have hbt9 : (w7).heap.size ≤ (wa9.alloc (.cells #[.int .i64 (v : Int)] 3)).heap.size := by have := hba9.size; simp; omega
      go_wp2_with (at_builtin; refine wpList_append_src _ rfl _ _ 37 rfl (w7).heap.size 3 j0 (.int .i64 0) 1 8 Tryz.underlying37 hj hy0 hy1 hy2 rfl (by decide) (.slice pa9 xs9.length ka9) _ _ rfl hoz9 (.slice (some ⟨wa9.heap.size, 0, none⟩) 1 1) 1 [.int .i64 (v : Int)] rfl hnw9 hmy9 hbv9 hbt9 ?_)
      intro vb9 wb9 hoc9 hgc9
      obtain ⟨pb9, kb9, rfl⟩ := owns_form hoc9
      have hbb9 : Below (w7).heap.size (w7) wb9 := (hba9.trans (hbz9.mono hba9.size)).grown hgc9 hbt9 (fun k e => (hoz9.lt k e).1)
      have hod9 : wb9.ownsRow (w7).heap.size 3 1 (.slice pb9 (xs9.length + 1) kb9) (xs9 ++ [(v : Int)]).length ((xs9 ++ [(v : Int)]).map (Value.int .i64)) := by
        rw [List.length_append, List.map_append]
        exact hoc9
      have hPT9 := HJ7.out.put hN9.out hbb9 hod9
      rw [HPU9.out] at hPT9
      have d9 := cell_keepK hbb9 c9
      have f9 : wb9.frozen? ⟨g, u, none⟩ = false := (HJ7.out.go hbb9).row.frozenAt u
      have HPT9 : Hid _ := hPT9
      clear hoc9 hgc9 hoz9 hnw9 hbz9 hod9 hPT9 hba9 hbb9 hob9 c9 hI9
      obtain ⟨W9, hW9⟩ : ∃ W, wb9.setCell ⟨g, u, none⟩ (.slice pb9 (xs9.length + 1) kb9) = W := ⟨_, rfl⟩
      have hsz9 : W9.heap.size = wb9.heap.size := by rw [← hW9]; simp
      rw [hW9] at HPT9
      have HJ8 : Hid (RJ w5 h0 r.length (w.heap.size + 1) (.slice a7 (Ei.length + 1) k7) (.slice (some ⟨g, 0, none⟩) r.length ko) (svs.set u (.slice pb9 (xs9.length + 1) kb9)) (jE l C (i + 1)) (pushR Ri u (v : Int)) W9) := HPT9.out
      clear HPT9 HPU9 HJ7
      generalize svs.set u (.slice pb9 (xs9.length + 1) kb9) = svs8 at *
      have hk10 : v < (pushR Ri u (v : Int)).length := by rw [HJ8.out.len]; exact hN10.out
      have hp10 := getD_some hk10
      have hks10 : v < (svs8).length := by rw [HJ8.out.num]; exact hN10.out
      have hs10 := List.getElem?_eq_getElem hks10
      have hx10 : ((pushR Ri u (v : Int)).getD v []).length ≤ 8388608 := HSH10.out _ (List.mem_of_getElem? hp10)
      have hI10 := (HJ8.out.ent _ _ _ hs10 hp10).ints
      obtain ⟨p10, k10, hf10⟩ := hI10.len
      rw [hf10] at hs10 hI10
      have c10 : (W9).cell? ⟨g, v, none⟩ = some (.slice p10 ((pushR Ri u (v : Int)).getD v []).length k10) := by
        have h1 := HJ8.out.row.cells (g := g) rfl v _ hs10
        rwa [Go.WideShapes.add_plain, Nat.zero_add] at h1
      have HPU10 : Hid ((pushR Ri u (v : Int)).set v ((pushR Ri u (v : Int)).getD v [] ++ [(u : Int)]) = pushR (pushR Ri u (v : Int)) v (u : Int)) := rfl
      clear hk10 hp10 hks10 hs10 hf10
      generalize (pushR Ri u (v : Int)).getD v [] = xs10 at *
      have hbx10 : Below (W9).heap.size (W9) ((W9).alloc (.cells #[] 3)) := (Below.refl _ _).alloc (Nat.le_refl _) _
      have hBx10 : Blk 3 ((W9).alloc (.cells #[] 3)) (W9).heap.size [] := heap_alloc_new _ _
      have hox10 : ((W9).alloc (.cells #[] 3)).ownsRow (W9).heap.size 3 1 (.slice (some ⟨(W9).heap.size, 0, none⟩) 0 0) 0 [] := ⟨by simp, .inr ⟨(W9).heap.size, 0, #[], rfl, Nat.le_refl _, hBx10, Nat.le_refl _, by unfold maxLen; omega, rfl, rfl⟩⟩
      have hsx10 := Src.ints (hI10.go hbx10)
      have cx10 := cell_keepK hbx10 c10
      have hmx10 : 0 + xs10.length ≤ maxLen := by unfold maxLen; omega
      have hby10 : (0 + xs10.length) * 8 ≤ 140737488355328 := by omega
      have hbs10 : (W9).heap.size ≤ ((W9).alloc (.cells #[] 3)).heap.size := by simp
      have cy10 := cx10
      rw [← hW9] at cy10
      go_wp2_with (at_builtin; (try rw [hW9]); (try rw [← hsz9]); refine wpList_append_src _ rfl _ _ 37 rfl (W9).heap.size 3 j0 (.int .i64 0) 1 8 Tryz.underlying37 hj hy0 hy1 hy2 rfl (by decide) (.slice (some ⟨(W9).heap.size, 0, none⟩) 0 0) _ _ rfl hox10 (.slice p10 xs10.length k10) xs10.length (xs10.map (Value.int .i64)) rfl hsx10 hmx10 hby10 hbs10 ?_)
      intro va10 wa10 hoa10 hga10
      rw [← hsz9] at hoa10 hga10
      clear hsz9 hW9 cy10 d9 f9
      obtain ⟨pa10, ka10, rfl⟩ := owns_form hoa10
      have hba10 : Below (W9).heap.size (W9) wa10 := hbx10.grown hga10 hbs10 (fun k e => (hox10.lt k e).1)
      have hob10 : wa10.ownsRow (W9).heap.size 3 1 (.slice pa10 xs10.length ka10) xs10.length (xs10.map (Value.int .i64)) := by simpa using hoa10
      clear hoa10 hga10 hox10 hsx10 hbx10 hBx10 cx10
      have hbz10 : Below wa10.heap.size wa10 (wa10.alloc (.cells #[.int .i64 (u : Int)] 3)) := (Below.refl _ _).alloc (Nat.le_refl _) _
      have hoz10 := owns_below hob10 hbz10
      have hnw10 : Src (wa10.alloc (.cells #[.int .i64 (u : Int)] 3)) (.slice (some ⟨wa10.heap.size, 0, none⟩) 1 1) 1 1 [.int .i64 (u : Int)] := .inr ⟨⟨wa10.heap.size, 0, none⟩, 1, rfl, rfl, one_cell wa10 (.int .i64 (u : Int)) 3, fun z hz => by rw [List.mem_singleton.1 hz]; rfl⟩
      have hmy10 : xs10.length + 1 ≤ maxLen := by unfold maxLen; omega
      have hbv10 : (xs10.length + 1) * 8 ≤ 140737488355328 := by omega
      have hbt10 : (W9).heap.size ≤ (wa10.alloc (.cells #[.int .i64 (u : Int)] 3)).heap.size := by have := hba10.size; simp; omega
      go_wp2_with (at_builtin; refine wpList_append_src _ rfl _ _ 37 rfl (W9).heap.size 3 j0 (.int .i64 0) 1 8 Tryz.underlying37 hj hy0 hy1 hy2 rfl (by decide) (.slice pa10 xs10.length ka10) _ _ rfl hoz10 (.slice (some ⟨wa10.heap.size, 0, none⟩) 1 1) 1 [.int .i64 (u : Int)] rfl hnw10 hmy10 hbv10 hbt10 ?_)
      intro vb10 wb10 hoc10 hgc10
      obtain ⟨pb10, kb10, rfl⟩ := owns_form hoc10
      have hbb10 : Below (W9).heap.size (W9) wb10 := (hba10.trans (hbz10.mono hba10.size)).grown hgc10 hbt10 (fun k e => (hoz10.lt k e).1)
      have hod10 : wb10.ownsRow (W9).heap.size 3 1 (.slice pb10 (xs10.length + 1) kb10) (xs10 ++ [(u : Int)]).length ((xs10 ++ [(u : Int)]).map (Value.int .i64)) := by
        rw [List.length_append, List.map_append]
        exact hoc10
      have hPT10 := HJ8.out.put hN10.out hbb10 hod10
      rw [HPU10.out] at hPT10
      have d10 := cell_keepK hbb10 c10
      have f10 : wb10.frozen? ⟨g, v, none⟩ = false := (HJ8.out.go hbb10).row.frozenAt v
      have HPT10 : Hid _ := hPT10
      clear hoc10 hgc10 hoz10 hnw10 hbz10 hod10 hPT10 hba10 hbb10 hob10 c10 hI10
      go_wp2_with fail
      generalize wb10.setCell ⟨g, v, none⟩ (.slice pb10 (xs10.length + 1) kb10) = W10 at *
      clear d10 f10
      have HFIN : Hid (RJ w5 h0 r.length (w.heap.size + 1) (.slice a7 (Ei.length + 1) k7) (.slice (some ⟨g, 0, none⟩) r.length ko) (svs8.set v (.slice pb10 (xs10.length + 1) kb10)) (jE l C (i + 1)) (jR r C (i + 1)) W10) := by
        unfold Hid
        rw [← HRR.out]
        exact HPT10.out
      clear HPT10 HPU10 HJ8
      go_wp2
      exact ⟨⟨i + 1, _, by omega, by omega, by go_num, HFIN.out⟩, by simp [intOf]; omega⟩
    · have hil : ¬ (i : Int) < (C.length : Int) := by omega
      have eE : jE l C i = jE l C C.length ∧ jR r C i = jR r C C.length := by
        rcases hi with h | ⟨h1, h2⟩
        · have : i = C.length := by omega
          rw [this]
          exact ⟨rfl, rfl⟩
        · subst h1
          rw [h2]
          exact ⟨if_pos rfl, if_pos rfl⟩
      rw [eE.1, eE.2] at hJ
      have hbW : Below w.heap.size w wr := HB5.out.trans (hJ.keep.mono hgs)
      have hX10 : Blk 24 wr w.heap.size [.int .i64 (N : Int), .slice p l.length c] := (hJ.keep.block _ hX3).trans HX5.out
      have hY10 : Blk 24 wr (w.heap.size + 1) [.int .i64 0, .slice none 0 0] := (hJ.keep.block _ hY3).trans HY5.out
      have q0 := hX10.cell (j := 0) rfl
      have hEd := Edges.of_owns hJ.own
      have hmk := refMake_any (N : Int) (jE l C C.length) (by have := jE_len l C C.length; omega) _ wr hEd
      obtain ⟨pe2, ce2, rfl⟩ := hEd.len
      have HJ : Hid (RJ w5 h0 r.length (w.heap.size + 1) (.slice pe2 (jE l C C.length).length ce2) (.slice po r.length ko) svs (jE l C C.length) (jR r C C.length) wr) := hJ
      have HY10 : Hid (Blk 24 wr (w.heap.size + 1) [.int .i64 0, .slice none 0 0]) := hY10
      have HBW : Hid (Below w.heap.size w wr) := hbW
      clear hJ hX10 hY10 hbW hEd eE hi
      generalize hEE : jE l C C.length = E at *
      generalize hRR : jR r C C.length = R at *
      have HEE : Hid (jE l C C.length = E) := hEE
      have HRR : Hid (jR r C C.length = R) := hRR
      clear hEE hRR
      go_wp2_with fail
      refine hmk.mono ?_
      clear hmk
      rintro e w10 ⟨gv, rfl, hE10, hb10⟩
      obtain ⟨pg, cg, rfl⟩ := hE10.len
      have hJ10 := HJ.out.go hb10
      have hY11 := HY10.out.go hb10
      have HB11 : Hid (Below w.heap.size w w10) := HBW.out.trans (hb10.mono HBW.out.size)
      generalize hLL : makeL (N : Int) E = L at *
      generalize hNN : makeN (N : Int) E = nn at *
      have HLL : Hid (makeL (N : Int) E = L) := hLL
      have HNN : Hid (makeN (N : Int) E = nn) := hNN
      clear hLL hNN
      have hbJ : Below w10.heap.size w10 (w10.alloc (.cells #[.int .i64 nn, .slice pg L.length cg] 24)) := (Below.refl _ _).alloc (Nat.le_refl _) _
      have hGJ : Blk 24 (w10.alloc (.cells #[.int .i64 nn, .slice pg L.length cg] 24)) w10.heap.size [.int .i64 nn, .slice pg L.length cg] := heap_alloc_new w10 _
      have hYJ := hY11.go hbJ
      have j0 := hGJ.cell (j := 0) rfl
      have j1 := hGJ.cell (j := 1) rfl
      have y0 := hYJ.cell (j := 0) rfl
      have y1 := hYJ.cell (j := 1) rfl
      have f0 := hYJ.frozen 0
      have f1 := hYJ.frozen 1
      have HED : Hid (Edges (w10.alloc (.cells #[.int .i64 nn, .slice pg L.length cg] 24)).heap.size (w10.alloc (.cells #[.int .i64 nn, .slice pg L.length cg] 24)) (.slice pg L.length cg) L) := hE10.go hbJ
      have HRJ : Hid (RJ w5 h0 r.length (w.heap.size + 1) (.slice pe2 E.length ce2) (.slice po r.length ko) svs E R (w10.alloc (.cells #[.int .i64 nn, .slice pg L.length cg] 24))) := hJ10.go hbJ
      have HYJ : Hid (Blk 24 (w10.alloc (.cells #[.int .i64 nn, .slice pg L.length cg] 24)) (w.heap.size + 1) [.int .i64 0, .slice none 0 0]) := hYJ
      have HBJ : Hid (Below w.heap.size w (w10.alloc (.cells #[.int .i64 nn, .slice pg L.length cg] 24))) := HB11.out.trans (hbJ.mono HB11.out.size)
      have hlY : w.heap.size + 1 < w10.heap.size := hY11.lt
      have hYF := (HYJ.out.set 0 (.int .i64 nn)).set 1 (.slice pg L.length cg)
      have z0 := hYF.cell (j := 0) rfl
      have z1 := hYF.cell (j := 1) rfl
      have g0 := hY11.cell (j := 0) rfl
      have g1 := hY11.cell (j := 1) rfl
      have h0f := hY11.frozen 0
      have h1f := hY11.frozen 1
      have hY12 := hY11.set 0 (.int .i64 nn)
      have hb12 : Below (w10.setCell ⟨w.heap.size + 1, 0, none⟩ (.int .i64 nn)).heap.size (w10.setCell ⟨w.heap.size + 1, 0, none⟩ (.int .i64 nn)) ((w10.setCell ⟨w.heap.size + 1, 0, none⟩ (.int .i64 nn)).alloc (.cells #[.int .i64 nn, .slice pg L.length cg] 24)) := (Below.refl _ _).alloc (Nat.le_refl _) _
      have g2 := (hY12.go hb12).cell (j := 1) rfl
      have h2f := (hY12.go hb12).frozen 1
      clear hE10 hb10 hbJ hGJ hYJ q0 HJ HY10 HBW hY11 HB11 hJ10 hYF hY12 hb12
      go_wp2
      have eW : (((w10.alloc (.cells #[.int .i64 nn, .slice pg L.length cg] 24)).setCell ⟨w.heap.size + 1, 0, none⟩ (.int .i64 nn)).setCell ⟨w.heap.size + 1, 1, none⟩ (.slice pg L.length cg)) = (((w10.setCell ⟨w.heap.size + 1, 0, none⟩ (.int .i64 nn)).setCell ⟨w.heap.size + 1, 1, none⟩ (.slice pg L.length cg)).alloc (.cells #[.int .i64 nn, .slice pg L.length cg] 24)) := by
        rw [World.setCell_alloc_past _ _ _ _ hlY, World.setCell_alloc_past _ _ _ _ (by simp; omega)]
      rw [← eW]
      clear eW g0 g1 g2 h0f h1f h2f
      generalize w10.alloc (.cells #[.int .i64 nn, .slice pg L.length cg] 24) = w11 at *
      refine bodyPost_ret (ret_graph2 rfl rfl z0 z1) rfl ?_
      refine ⟨.slice pg L.length cg, .slice po r.length ko, ?_, ?_, ?_, ?_⟩
      · rw [HEE.out, HNN.out]
        rfl
      · rw [HEE.out, HLL.out]
        exact Edges.setTwo (Edges.setTwo HED.out HYJ.out (p := ⟨w.heap.size + 1, 0, none⟩) rfl _) (HYJ.out.set 0 _) (p := ⟨w.heap.size + 1, 1, none⟩) rfl _
      · rw [HRR.out]
        exact HRJ.out.lsts (by simp) (fun q hq => (Below.heap_setCell _ _ _ _ (by simpa using hq)).trans (Below.heap_setCell _ _ _ _ (by simpa using hq)))
      · exact (HBJ.out.setCell (p := ⟨w.heap.size + 1, 0, none⟩) (by simp) _).setCell (p := ⟨w.heap.size + 1, 1, none⟩) (by simp) _
end Go.Proofs.YtonfhkdciaiilaaGreat
