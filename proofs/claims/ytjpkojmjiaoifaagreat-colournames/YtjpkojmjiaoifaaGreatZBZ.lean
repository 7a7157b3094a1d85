import Derived.Test.YtjpkojmjiaoifaaGreatXRRefF
import Derived.Test.YtjpkojmjiaoifaaGreatZBP
import Derived.BigQuiet
namespace Go.Proofs.YtjpkojmjiaoifaaGreat
open Go Go.Proofs Go.RowKit
set_option maxRecDepth 100000 in
set_option maxHeartbeats 8000000 in
theorem refFaces_any (N : Nat) (l : List Ed) (hR : RightG (N : Int) l) (r : List (List Int)) (hS : SysR N l r) (hm : l.length ≤ 4000) (sv rv : Value) (w : World) (hl : Edges w.heap.size w sv l) (hr : Lsts w.heap.size w rv r) :
  Calls Tryz.prog 48 #[.agg #[.int .i64 (N : Int), sv], rv] w fun e w' => ∃ lv svs, e = .returned lv ∧ GrpD w.heap.size lv svs (facesL N l r) w' ∧ Below w.heap.size w w' := by
 obtain ⟨p, c, rfl⟩ := hl.len
 obtain ⟨pr, cr, rfl⟩ := hr.len
 have hb1 : Below w.heap.size w (w.alloc (.cells #[.int .i64 (N : Int), .slice p l.length c] 24)) := (Below.refl _ _).alloc (Nat.le_refl _) _
 have hX1 : Blk 24 (w.alloc (.cells #[.int .i64 (N : Int), .slice p l.length c] 24)) w.heap.size [.int .i64 (N : Int), .slice p l.length c] := heap_alloc_new w _
 obtain ⟨i0, hi, hz0, hz1, hz2⟩ := info_parts infoDt
 obtain ⟨j0, hj, hy0, hy1, hy2⟩ := info_parts infoDs
 have hn1 := hR.n1
 have HR : Hid (RightG (N : Int) l) := hR
 have HSY : Hid (SysR N l r) := hS
 have HB1 : Hid (Below w.heap.size w (w.alloc (.cells #[.int .i64 (N : Int), .slice p l.length c] 24))) := hb1
 have HX1 : Hid (Blk 24 (w.alloc (.cells #[.int .i64 (N : Int), .slice p l.length c] 24)) w.heap.size [.int .i64 (N : Int), .slice p l.length c]) := hX1
 have HL : Hid (Lsts w.heap.size w (.slice pr r.length cr) r) := hr
 have hrl : r.length = N := hS.len
 have HRR : Hid (∀ x ∈ r, x.length ≤ 9223372036854775807) := fun x hx => by
  obtain ⟨v, hv, rfl⟩ := List.getElem_of_mem hx
  have h1 := (hS.perm v (by omega)).length_eq
  rw [List.getD_eq_getElem?_getD, List.getElem?_eq_getElem hv] at h1
  have := nb_len (v : Int) l
  simp only [Option.getD_some] at h1
  omega
 have HLEN : Hid (r.length = N) := hrl
 have HSP : Hid (PermS (nxD r) (keysR r N)) := sys_perm hS hR
 have HSN : Hid ((keysR r N).Nodup) := keysR_nodup hS hR
 have HSL : Hid ((keysR r N).length = 2 * l.length) := by
  unfold Hid
  rw [keysR_len hS (Nat.le_refl _), degS_all (fun e he => (hR.each e he).1)]
 rw [hrl] at HL ⊢
 clear hb1 hX1 hl hr hR hS hrl
 go_enter Tryz.func48, Tryz.ntmps48
 go_wp2
 generalize w.alloc (.cells #[.int .i64 (N : Int), .slice p l.length c] 24) = w1 at *
 go_loopw [5, 6, 7] (fun ov mv iv wr => ∃ (u : Nat) (svs : List Value), u ≤ N ∧ iv = .int .i64 u ∧ FI w1.heap.size ov mv svs (stF l r u 0) wr ∧ Below w1.heap.size w1 wr) (fun _ _ iv _ => N - (intOf iv).toNat)
 case atStart => exact ⟨0, [], Nat.zero_le _, rfl, by rw [stF_zero HR.out]; exact FI.start _ _, Below.refl _ _⟩
 case round =>
  obtain ⟨u, svs, hu, rfl, hF, hb⟩ := hrel
  have q0 := (HX1.out.go hb).cell (j := 0) rfl
  by_cases hlt : u < N
  ·have hul : (u : Int) < (N : Int) := by omega
   have HF : Hid (FI w1.heap.size _ _ svs (stF l r u 0) wr) := hF
   have HB : Hid (Below w1.heap.size w1 wr) := hb
   clear hF hb
   generalize wr = w2 at *
   go_wp2
   go_loopw [5, 6, 8] (fun ov mv iv wr => ∃ (v : Nat) (svs : List Value), v ≤ N ∧ iv = .int .i64 v ∧ FI w1.heap.size ov mv svs (stF l r u v) wr ∧ Below w1.heap.size w1 wr) (fun _ _ iv _ => N - (intOf iv).toNat)
   case atStart => exact ⟨0, svs, Nat.zero_le _, rfl, HF.out, HB.out⟩
   case round =>
    clear HF HB q0
    clear svs
    obtain ⟨v, svs, hv, rfl, hF, hb⟩ := hrel
    have q0 := (HX1.out.go hb).cell (j := 0) rfl
    have q1 := (HX1.out.go hb).cell (j := 1) rfl
    by_cases hvl : v < N
    ·have hvl' : (v : Int) < (N : Int) := by omega
     have hst := stF_few HR.out r (v := v) hu
     obtain ⟨po, co, rfl⟩ := owns_formP hF.grp.own
     obtain ⟨pm, cm, rfl⟩ := owns_formP hF.met
     have HSM : Hid ((v : Int) ∈ nb l (u : Int) → stF l r u (v + 1) = stepF (nxD r) (2 * l.length + 1) (stF l r u v) ((u : Int), (v : Int))) := stF_mem HR.out
     have HSO : Hid ((v : Int) ∉ nb l (u : Int) → stF l r u (v + 1) = stF l r u v) := stF_not
     have HDM : Hid ((v : Int) ∈ nb l (u : Int) → ((u : Int), (v : Int)) ∈ dartsL N l) := fun h => dartsL_mem.2 ⟨u, hlt, rfl, h⟩
     have hsvl := hF.grp.len
     have hf1 : svs.length ≤ 12000 := by omega
     have hf2 : (stF l r u v).2.length ≤ 100000000 := by
      refine Nat.le_trans hst.2 (Nat.le_trans (Nat.mul_le_mul (Nat.mul_le_mul_left 3 hm) (Nat.add_le_add_right (Nat.mul_le_mul_left 2 hm) 1)) (by decide))
     generalize stF l r u v = st at *
     clear hst hsvl
     have hbA : Below wr.heap.size wr (wr.alloc (.cells #[.int .i64 (u : Int), .int .i64 (v : Int)] 84)) := (Below.refl _ _).alloc (Nat.le_refl _) _
     have hXd : Blk 84 (wr.alloc (.cells #[.int .i64 (u : Int), .int .i64 (v : Int)] 84)) wr.heap.size [.int .i64 (u : Int), .int .i64 (v : Int)] := heap_alloc_new wr _
     have hb3 : Below w1.heap.size w1 (wr.alloc (.cells #[.int .i64 (u : Int), .int .i64 (v : Int)] 84)) := hb.trans (hbA.mono hb.size)
     have hF3 := hF.go hbA
     have HWR : Hid (wr.heap.size < (wr.alloc (.cells #[.int .i64 (u : Int), .int .i64 (v : Int)] 84)).heap.size ∧ w1.heap.size ≤ wr.heap.size) := ⟨by simp, hb.size⟩
     have hbw3 := HB1.out.trans (hb3.mono HB1.out.size)
     have hLr : Lsts w.heap.size (wr.alloc (.cells #[.int .i64 (u : Int), .int .i64 (v : Int)] 84)) (.slice pr r.length cr) r := by rw [HLEN.out]; exact HL.out.below hbw3
     have hur : u < r.length := by rw [HLEN.out]; exact hlt
     obtain ⟨br, offr, rfl, hbr, hcr, px, cx, hIx, c0⟩ := hLr.cellAt hur
     have hpu := HSY.out.perm u hlt
     rw [List.getD_eq_getElem?_getD, List.getElem?_eq_getElem hur] at hpu
     simp only [Option.getD_some] at hpu
     have hxl : r[u].length ≤ 4194304 := by have := hpu.length_eq; have := nb_len (u : Int) l; omega
     have hhas := has_any r[u] hxl (v : Int) _ _ _ hIx
     have hme : (v : Int) ∈ r[u] ↔ (v : Int) ∈ nb l (u : Int) := hpu.mem_iff
     clear hpu hxl hIx hLr
     generalize r[u] = X at *
     have HFX : Hid (FI w1.heap.size (.slice po svs.length co) (.slice pm st.2.length cm) svs st wr) := hF
     have HF3 : Hid (FI w1.heap.size (.slice po svs.length co) (.slice pm st.2.length cm) svs st (wr.alloc (.cells #[.int .i64 (u : Int), .int .i64 (v : Int)] 84))) := hF3
     have HB3 : Hid (Below w1.heap.size w1 (wr.alloc (.cells #[.int .i64 (u : Int), .int .i64 (v : Int)] 84))) := hb3
     have HXD : Hid (Blk 84 (wr.alloc (.cells #[.int .i64 (u : Int), .int .i64 (v : Int)] 84)) wr.heap.size [.int .i64 (u : Int), .int .i64 (v : Int)]) := hXd
     have hin := refIn_any st.2 (by omega) ((u : Int), (v : Int)) _ _ (Drts.of_owns hF3.met)
     have d0 := hXd.cell (j := 0) rfl
     have d1 := hXd.cell (j := 1) rfl
     clear hF hF3 hb3 hXd hbA hb hbw3
     by_cases hmem : (v : Int) ∈ nb l (u : Int)
     ·rw [inB_true.2 (hme.2 hmem)] at hhas
      have HST : Hid _ := HSM.out hmem
      have HD : Hid _ := HDM.out hmem
      clear HSM HSO HDM hme hmem
      go_wp2_with fail
      generalize hdb : wr.heap.size = db at *
      generalize wr.alloc (.cells #[.int .i64 (u : Int), .int .i64 (v : Int)] 84) = w3 at *
      refine hhas.mono ?_
      clear hhas
      rintro e w4 ⟨rfl, rfl⟩
      go_wp2_with fail
      refine hin.mono ?_
      clear hin
      rintro e w5 ⟨rfl, hb5⟩
      have hb5' := HB3.out.trans (hb5.mono HB3.out.size)
      have hF5 := HF3.out.go hb5
      by_cases hct : st.2.contains ((u : Int), (v : Int)) = true
      ·rw [hct]
       have HST2 : Hid (stF l r u (v + 1) = st) := by
        unfold Hid
        rw [HST.out]
        unfold stepF
        rw [if_pos hct]
       have HF5 : Hid _ := hF5
       have HB5 : Hid _ := hb5'
       clear hct HST hF5 hb5'
       go_wp2
       exact ⟨⟨v + 1, svs, by omega, by go_num, by rw [HST2.out]; exact HF5.out, HB5.out⟩, by simp [intOf]; omega⟩
      ·have hcf : st.2.contains ((u : Int), (v : Int)) = false := by simpa using hct
       rw [hcf]
       have HST2 : Hid (stF l r u (v + 1) = (st.1 ++ [orb (nxD r) ((u : Int), (v : Int)) (2 * l.length + 1) ((u : Int), (v : Int))], st.2 ++ orb (nxD r) ((u : Int), (v : Int)) (2 * l.length + 1) ((u : Int), (v : Int)))) := by
        unfold Hid
        rw [HST.out]
        unfold stepF
        rw [if_neg hct]
       have HOL : Hid ((orb (nxD r) ((u : Int), (v : Int)) (2 * l.length + 1) ((u : Int), (v : Int))).length ≤ 2 * l.length) := by
        unfold Hid
        have := orb_few HSP.out HSN.out (fuel := 2 * l.length + 1) (by have := HSL.out; omega) ((keys_darts HSY.out HR.out).2 HD.out)
        have := HSL.out
        omega
       have HOS : Hid (OrbI (nxD r) ((u : Int), (v : Int)) (2 * l.length + 1) [] ((u : Int), (v : Int)) (orb (nxD r) ((u : Int), (v : Int)) (2 * l.length + 1) ((u : Int), (v : Int)))) := by
        unfold Hid OrbI
        rfl
       generalize orb (nxD r) ((u : Int), (v : Int)) (2 * l.length + 1) ((u : Int), (v : Int)) = O at *
       have hXd5 := HXD.out.go hb5
       have HXD5 : Hid (Blk 84 w5 db [.int .i64 (u : Int), .int .i64 (v : Int)]) := hXd5
       have HF5 : Hid (FI w1.heap.size (.slice po svs.length co) (.slice pm st.2.length cm) svs st w5) := hF5
       have HB5 : Hid (Below w1.heap.size w1 w5) := hb5'
       have HDB : Hid (db < w5.heap.size) := hXd5.lt
       clear d0 d1
       have d0 := hXd5.cell (j := 0) rfl
       have d1 := hXd5.cell (j := 1) rfl
       have q15 := (HX1.out.go hb5').cell (j := 1) rfl
       have hb6 : Below w5.heap.size w5 (w5.alloc (.cells #[.int .i64 (u : Int), .int .i64 (v : Int)] 84)) := (Below.refl _ _).alloc (Nat.le_refl _) _
       have hX6 : Blk 84 (w5.alloc (.cells #[.int .i64 (u : Int), .int .i64 (v : Int)] 84)) w5.heap.size [.int .i64 (u : Int), .int .i64 (v : Int)] := heap_alloc_new w5 _
       have HB6 : Hid (Below w5.heap.size w5 (w5.alloc (.cells #[.int .i64 (u : Int), .int .i64 (v : Int)] 84))) := hb6
       have HX6 : Hid (Blk 84 (w5.alloc (.cells #[.int .i64 (u : Int), .int .i64 (v : Int)] 84)) w5.heap.size [.int .i64 (u : Int), .int .i64 (v : Int)]) := hX6
       have HS6 : Hid ((w5.alloc (.cells #[.int .i64 (u : Int), .int .i64 (v : Int)] 84)).heap.size = w5.heap.size + 1) := by unfold Hid; simp
       clear hct hcf HST hF5 hb5' hXd5 hb6 hX6 hb5 HXD
       go_wp2
       generalize w5.alloc (.cells #[.int .i64 (u : Int), .int .i64 (v : Int)] 84) = w6 at *
       go_loopw [10, 11] (fun fv xv wr => ∃ (F : List Dt) (x : Dt) (bx : Nat), xv = .pointer (some ⟨bx, 0, none⟩) ∧ Blk 84 wr bx [.int .i64 x.1, .int .i64 x.2] ∧ wr.ownsRow w6.heap.size 84 2 fv F.length (flatD F) ∧ Hid (x ∈ dartsL N l) ∧ OrbI (nxD r) ((u : Int), (v : Int)) (2 * l.length + 1) F x O ∧ fv.ownBlock ≠ some bx ∧ w5.heap.size ≤ bx ∧ Below w5.heap.size w5 wr ∧ w6.heap.size ≤ wr.heap.size) (fun fv _ _ => 2 * l.length + 1 - (lenOf fv))
       case atStart => exact ⟨[], ((u : Int), (v : Int)), w5.heap.size, rfl, HX6.out, World.ownsRow_nil _ _ _ _, HD.out, HOS.out, by simp [Value.ownBlock], Nat.le_refl _, HB6.out, Nat.le_refl _⟩
       case round =>
        obtain ⟨F, ⟨x1, x2⟩, bx, rfl, hBx, hown, HXM, hOI, hobx, hbx, hbr, hszr⟩ := hrel
        obtain ⟨pf, cf, rfl⟩ := owns_formP hown
        have hFO := hOI.len (by have := HOL.out; omega)
        have hfl : (F.length : Int) ≤ 2 * (l.length : Int) := by have := HOL.out; omega
        have HFO : Hid (F.length < O.length) := hFO
        have HOI : Hid (OrbI (nxD r) ((u : Int), (v : Int)) (2 * l.length + 1) F (x1, x2) O) := hOI
        have hbw := HB5.out.trans (hbr.mono HB5.out.size)
        have e1 := (HX1.out.go hbw).cell (j := 1) rfl
        have x0 := hBx.cell (j := 0) rfl
        have x1' := hBx.cell (j := 1) rfl
        have hbxl := hBx.lt
        have hownA := hown.alloc (.cells #[.int .i64 x1, .int .i64 x2] 84)
        have hbA : Below wr.heap.size wr (wr.alloc (.cells #[.int .i64 x1, .int .i64 x2] 84)) := (Below.refl _ _).alloc (Nat.le_refl _) _
        have hnews := newsD (w := wr) (t := 84) (x1, x2)
        have hone := oneD (x1, x2)
        have hmx : F.length + 1 ≤ maxLen := by unfold maxLen; omega
        have hby : (F.length + 1) * 16 ≤ 140737488355328 := by omega
        have hbs : w6.heap.size ≤ (wr.alloc (.cells #[.int .i64 x1, .int .i64 x2] 84)).heap.size := by have := hbA.size; omega
        have hlow : ∀ q, (Value.slice pf F.length cf).ownBlock = some q → w5.heap.size ≤ q := fun q hq => by have := (hown.lt q hq).1; have := HS6.out; omega
        have HBX : Hid (Blk 84 wr bx [.int .i64 x1, .int .i64 x2]) := hBx
        have HBR : Hid (Below w5.heap.size w5 wr) := hbr
        have HOBX : Hid ((Value.slice pf F.length cf).ownBlock ≠ some bx) := hobx
        clear hBx hOI hFO hobx hbw
        clear q0 q1 d0 d1 q15
        go_wp2_with (at_builtin; refine wpList_append_own_at _ rfl _ _ 85 rfl w6.heap.size 84 i0 (.agg #[.int .i64 0, .int .i64 0]) 2 16 Tryz.underlying85 hi hz0 hz1 hz2 rfl (by decide) (.slice pf F.length cf) _ _ rfl hownA ⟨wr.heap.size, 0, none⟩ 1 1 (encDc (x1, x2)) rfl rfl hnews hone hmx hby hbs ?_)
        intro v7 w7 hown7 hg7 hnil7 hat7
        obtain ⟨g7, k7, rfl, hg7b⟩ : ∃ g k, v7 = .slice (some ⟨g, 0, none⟩) (F.length + 1) k ∧ v7.ownBlock = some g := by
         rcases hown7.2 with ⟨_, h0⟩ | ⟨g, cap, cur, h1, _⟩
         ·omega
         ·exact ⟨g, cap, h1, by rw [h1]; rfl⟩
        have hb7 : Below w5.heap.size w5 w7 := (HBR.out.alloc HBR.out.size _).grown hg7 (by have := HBR.out.size; have := hbA.size; omega) hlow
        have hX7 : Blk 84 w7 bx [.int .i64 x1, .int .i64 x2] := (HBX.out.go hbA).grown hg7 (fun e => HOBX.out e.symm)
        have hne7 : g7 ≠ bx := by
         intro e
         rcases hat7 with h1 | h1
         ·rw [hg7b, e] at h1; exact HOBX.out h1.symm
         ·rw [hg7b] at h1
          have := Option.some.inj h1
          have := hbA.size
          omega
        have hs7 : w6.heap.size ≤ w7.heap.size := Nat.le_trans hbs hg7.size
        obtain ⟨G, HG⟩ : ∃ G, Hid (G = F ++ [(x1, x2)]) := ⟨_, rfl⟩
        have hGl : F.length + 1 = G.length := by rw [HG.out]; simp
        have hown8 : w7.ownsRow w6.heap.size 84 2 (.slice (some ⟨g7, 0, none⟩) G.length k7) G.length (flatD G) := by
         rw [← hGl, HG.out, flatD_snoc]; exact hown7
        rw [hGl]
        have HO8 : Hid (w7.ownsRow w6.heap.size 84 2 (.slice (some ⟨g7, 0, none⟩) G.length k7) G.length (flatD G)) := hown8
        have HB7 : Hid (Below w5.heap.size w5 w7) := hb7
        have HX7 : Hid (Blk 84 w7 bx [.int .i64 x1, .int .i64 x2]) := hX7
        clear x0 x1' e1 hown hownA hnews hone hown7 hg7 hnil7 hat7 hown8 hlow hbs
        have x0 := hX7.cell (j := 0) rfl
        have x1' := hX7.cell (j := 1) rfl
        have hbw7 := HB1.out.trans ((HB5.out.trans (hb7.mono HB5.out.size)).mono HB1.out.size)
        have hrn := refNext_any r HRR.out (x1, x2) _ w7 (HL.out.go hbw7)
        rw [nxR_dart HR.out HSY.out HXM.out] at hrn
        have HYM : Hid (nxD r (x1, x2) ∈ dartsL N l) := nx_mem HR.out HSY.out HXM.out
        have HND : Hid (nxD r (x1, x2) = ((u : Int), (v : Int)) → G = O) := fun h => by rw [HG.out]; exact HOI.out.done (by have := HOL.out; omega) h
        have HNN : Hid (nxD r (x1, x2) ≠ ((u : Int), (v : Int)) → OrbI (nxD r) ((u : Int), (v : Int)) (2 * l.length + 1) G (nxD r (x1, x2)) O) := fun h => by rw [HG.out]; exact HOI.out.next (by have := HOL.out; omega) h
        have HGL : Hid (F.length + 1 = G.length ∧ F.length < O.length) := ⟨hGl, HFO.out⟩
        clear hX7 hb7 HBX HBR HOBX HOI HFO HG hGl hbw7 HXM
        generalize nxD r (x1, x2) = y at *
        obtain ⟨y1, y2⟩ := y
        go_wp2_with fail
        refine hrn.mono ?_
        clear hrn
        rintro e w8 ⟨rfl, hb8⟩
        have hX8 := HX7.out.go hb8
        clear x0 x1'
        have x0 := hX8.cell (j := 0) rfl
        have x1' := hX8.cell (j := 1) rfl
        have fx0 := hX8.frozen 0
        have fx1 := hX8.frozen 1
        have hb58 := HB7.out.trans (hb8.mono HB7.out.size)
        have hXd8 := HXD5.out.go hb58
        have d0 := hXd8.cell (j := 0) rfl
        have d1 := hXd8.cell (j := 1) rfl
        have hdbx : db ≠ bx := by have := HDB.out; omega
        have HX9 : Hid (Blk 84 ((w8.setCell ⟨bx, 0, none⟩ (.int .i64 y1)).setCell ⟨bx, 1, none⟩ (.int .i64 y2)) bx [.int .i64 y1, .int .i64 y2]) := (hX8.set 0 (.int .i64 y1)).set 1 (.int .i64 y2)
        have HB9 : Hid (Below w5.heap.size w5 ((w8.setCell ⟨bx, 0, none⟩ (.int .i64 y1)).setCell ⟨bx, 1, none⟩ (.int .i64 y2))) := (hb58.setCell (p := ⟨bx, 0, none⟩) hbx _).setCell (p := ⟨bx, 1, none⟩) hbx _
        have HO9 : Hid (((w8.setCell ⟨bx, 0, none⟩ (.int .i64 y1)).setCell ⟨bx, 1, none⟩ (.int .i64 y2)).ownsRow w6.heap.size 84 2 (.slice (some ⟨g7, 0, none⟩) G.length k7) G.length (flatD G)) := by
         refine owns_same (owns_below HO8.out hb8) (fun q hq => ?_)
         have hq' : g7 = q := by simpa [Value.ownBlock] using hq
         subst hq'
         rw [Below.heap_setCell _ _ _ _ hne7, Below.heap_setCell _ _ _ _ hne7]
        have HS9 : Hid (w6.heap.size ≤ ((w8.setCell ⟨bx, 0, none⟩ (.int .i64 y1)).setCell ⟨bx, 1, none⟩ (.int .i64 y2)).heap.size) := by
         have := hb8.size
         unfold Hid
         simp
         omega
        have hbx9 : bx < ((w8.setCell ⟨bx, 0, none⟩ (.int .i64 y1)).setCell ⟨bx, 1, none⟩ (.int .i64 y2)).heap.size := HX9.out.lt
        clear hX8 hb8 hb58 hXd8 HX7 HB7 HO8
        by_cases hyd : y1 = (u : Int) ∧ y2 = (v : Int)
        ·obtain ⟨rfl, rfl⟩ := hyd
         have HGO : Hid (G = O) := HND.out rfl
         clear HND HNN
         have hF9 := HF5.out.go HB9.out
         have hbw9 := HB5.out.trans (HB9.out.mono HB5.out.size)
         have HBW9 : Hid _ := hbw9
         have hownM := hF9.met
         have hnews := flatD_cells (Drts.of_owns HO9.out)
         have hone := flatD_one G
         have hflG := flatD_len G
         have hGf : G.length ≤ 8000 := by have := HOL.out; have := HGL.out; rw [HGO.out]; omega
         have hmx2 : st.2.length + G.length ≤ maxLen := by unfold maxLen; omega
         have hby2 : (st.2.length + G.length) * 16 ≤ 140737488355328 := by omega
         have hbs2 : w1.heap.size ≤ ((w8.setCell ⟨bx, 0, none⟩ (.int .i64 (u : Int))).setCell ⟨bx, 1, none⟩ (.int .i64 (v : Int))).heap.size := hbw9.size
         have hlowM : ∀ q, (Value.slice pm st.2.length cm).ownBlock = some q → w1.heap.size ≤ q := fun q hq => (HF5.out.met.lt q hq).1
         have hlowO : ∀ q, (Value.slice po svs.length co).ownBlock = some q → w1.heap.size ≤ q := fun q hq => (HF5.out.grp.own.lt q hq).1
         have HF9 : Hid (FI w1.heap.size (.slice po svs.length co) (.slice pm st.2.length cm) svs st ((w8.setCell ⟨bx, 0, none⟩ (.int .i64 (u : Int))).setCell ⟨bx, 1, none⟩ (.int .i64 (v : Int)))) := hF9
         clear hF9 hbw9 HGL HYM HX9 HBW9
         go_wp2_with (at_builtin; refine wpList_append_own_at _ rfl _ _ 85 rfl w1.heap.size 84 i0 (.agg #[.int .i64 0, .int .i64 0]) 2 16 Tryz.underlying85 hi hz0 hz1 hz2 rfl (by decide) (.slice pm st.2.length cm) _ _ rfl hownM ⟨g7, 0, none⟩ G.length k7 (flatD G) rfl hflG hnews hone hmx2 hby2 hbs2 ?_)
         intro v10 w10 hown10 hg10 hnil10 hat10
         obtain ⟨a10, m10, k10, rfl⟩ := owns_slice hown10
         have hO10 : w10.ownsRow w1.heap.size 85 1 (.slice po svs.length co) svs.length svs := by
          refine owns_keep HF9.out.grp.own hg10 ?_
          cases hv9 : (Value.slice po svs.length co).ownBlock with
          | none => exact .inl rfl
          | some b9 =>
           refine .inr fun e => ?_
           rcases HF9.out.ap1 with h1 | h1
           ·rw [h1] at e; cases e
           ·exact h1 (by rw [hv9]; exact e.symm)
         have hownA2 := hO10.alloc (.cells #[.slice (some ⟨g7, 0, none⟩) G.length k7] 85)
         have hnews2 := one_cell w10 (.slice (some ⟨g7, 0, none⟩) G.length k7) 85
         have hone2 : ∀ z ∈ [Value.slice (some ⟨g7, 0, none⟩) G.length k7], z.oneCell' = true := fun z hz => by rw [List.mem_singleton.1 hz]; rfl
         have hb10 : Below w1.heap.size w1 w10 := (HB5.out.trans (HB9.out.mono HB5.out.size)).grown hg10 hbs2 hlowM
         have hb11 : Below w1.heap.size w1 (w10.alloc (.cells #[.slice (some ⟨g7, 0, none⟩) G.length k7] 85)) := hb10.alloc hb10.size _
         have hbs3 := hb11.size
         have hmx3 : svs.length + 1 ≤ maxLen := by unfold maxLen; omega
         have hby3 : (svs.length + 1) * 24 ≤ 140737488355328 := by omega
         have HOWN10 : Hid _ := hown10
         have HG10 : Hid _ := hg10
         have HAT10 : Hid _ := hat10
         clear hown10 hg10 hnil10 hat10 hownM hnews hone hflG hO10
         go_wp2_with (at_builtin; refine wpList_append_own_at _ rfl _ _ 81 rfl w1.heap.size 85 j0 (.slice none 0 0) 1 24 Tryz.underlying81 hj hy0 hy1 hy2 rfl (by decide) (.slice po svs.length co) _ _ rfl hownA2 ⟨w10.heap.size, 0, none⟩ 1 1 [.slice (some ⟨g7, 0, none⟩) G.length k7] rfl rfl hnews2 hone2 hmx3 hby3 hbs3 ?_)
         intro v12 w12 hown12 hg12 hnil12 hat12
         obtain ⟨a12, m12, k12, rfl⟩ := owns_slice hown12
         have HB12 : Hid (Below w1.heap.size w1 w12) := hb11.grown hg12 hbs3 hlowO
         have HSZ : Hid (((w8.setCell ⟨bx, 0, none⟩ (.int .i64 (u : Int))).setCell ⟨bx, 1, none⟩ (.int .i64 (v : Int))).heap.size = w8.heap.size) := by unfold Hid; simp
         have hs16 : w1.heap.size ≤ w6.heap.size := by have := HB5.out.size; have := HS6.out; omega
         have HF12 : Hid _ := HF9.out.add hs16 HS9.out (fun q hq => by have := (HF5.out.grp.own.lt q hq).2; have := HS6.out; omega) (fun q hq => by have := (HF5.out.met.lt q hq).2; have := HS6.out; omega) (fun x hx q hq => by have := (HF5.out.grp.lts hx hq).2; have := HS6.out; omega) HO9.out HOWN10.out HG10.out (by rw [HSZ.out]; exact HAT10.out) hown12 hg12 (by rw [World.size_alloc]; exact hat12)
         clear hown12 hg12 hnil12 hat12 hownA2 hnews2 hone2 HOWN10 HG10 HAT10
         go_wp2
         exact ⟨⟨v + 1, svs ++ [.slice (some ⟨g7, 0, none⟩) G.length k7], by omega, by go_num, by rw [HST2.out, ← HGO.out]; exact HF12.out, HB12.out⟩, by simp [intOf]; omega⟩
        ·have HOI2 : Hid (OrbI (nxD r) ((u : Int), (v : Int)) (2 * l.length + 1) G (y1, y2) O) := HNN.out (fun e => hyd ⟨congrArg Prod.fst e, congrArg Prod.snd e⟩)
         clear HND HNN
         have HXN : Hid (Blk 84 (((w8.setCell ⟨bx, 0, none⟩ (.int .i64 y1)).setCell ⟨bx, 1, none⟩ (.int .i64 y2)).alloc (.cells #[.int .i64 y1, .int .i64 y2] 84)) ((w8.setCell ⟨bx, 0, none⟩ (.int .i64 y1)).setCell ⟨bx, 1, none⟩ (.int .i64 y2)).heap.size [.int .i64 y1, .int .i64 y2]) := heap_alloc_new _ _
         have HBN : Hid (Below w5.heap.size w5 (((w8.setCell ⟨bx, 0, none⟩ (.int .i64 y1)).setCell ⟨bx, 1, none⟩ (.int .i64 y2)).alloc (.cells #[.int .i64 y1, .int .i64 y2] 84))) := HB9.out.alloc HB9.out.size _
         have HON : Hid _ := HO9.out.alloc (.cells #[.int .i64 y1, .int .i64 y2] 84)
         have HLE : Hid (g7 < ((w8.setCell ⟨bx, 0, none⟩ (.int .i64 y1)).setCell ⟨bx, 1, none⟩ (.int .i64 y2)).heap.size) := (HO9.out.lt g7 rfl).2
         have HMS : Hid (2 * l.length + 1 - G.length < 2 * l.length + 1 - F.length) := by have := HOL.out; have := HGL.out; unfold Hid; omega
         have HSN9 : Hid (w5.heap.size ≤ ((w8.setCell ⟨bx, 0, none⟩ (.int .i64 y1)).setCell ⟨bx, 1, none⟩ (.int .i64 y2)).heap.size) := HB9.out.size
         have HSZ : Hid (((w8.setCell ⟨bx, 0, none⟩ (.int .i64 y1)).setCell ⟨bx, 1, none⟩ (.int .i64 y2)).heap.size = w8.heap.size) := by unfold Hid; simp
         have HXN2 : Hid (Blk 84 (((w8.setCell ⟨bx, 0, none⟩ (.int .i64 y1)).setCell ⟨bx, 1, none⟩ (.int .i64 y2)).alloc (.cells #[.int .i64 y1, .int .i64 y2] 84)) w8.heap.size [.int .i64 y1, .int .i64 y2]) := by
          have := HXN.out
          rw [HSZ.out] at this
          exact this
         have HNB : Hid ((Value.slice (some ⟨g7, 0, none⟩) G.length k7).ownBlock ≠ some w8.heap.size) := by
          have h1 := HLE.out
          rw [HSZ.out] at h1
          intro e
          have : g7 = w8.heap.size := by simpa [Value.ownBlock] using e
          omega
         have HS8 : Hid (w5.heap.size ≤ w8.heap.size) := by
          have h1 := HSN9.out
          rw [HSZ.out] at h1
          exact h1
         have HS10 : Hid (w6.heap.size ≤ (((w8.setCell ⟨bx, 0, none⟩ (.int .i64 y1)).setCell ⟨bx, 1, none⟩ (.int .i64 y2)).alloc (.cells #[.int .i64 y1, .int .i64 y2] 84)).heap.size) := by
          have h1 := HS9.out
          rw [HSZ.out] at h1
          unfold Hid
          rw [World.size_alloc, HSZ.out]
          omega
         clear HX9 HB9 HO9 HXN HLE HSN9 HS9 HSZ
         by_cases hy1u : y1 = (u : Int)
         ·have hy2v : (y2 == (v : Int)) = false := by
           rw [beq_eq_false_iff_ne]
           exact fun e => hyd ⟨hy1u, e⟩
          subst hy1u
          clear hyd
          go_wp2
          exact ⟨⟨G, ((u : Int), y2), w8.heap.size, rfl, HXN2.out, HON.out, HYM, HOI2.out, HNB.out, HS8.out, HBN.out, HS10.out⟩, HMS.out⟩
         ·have hy1v : (y1 == (u : Int)) = false := by
           rw [beq_eq_false_iff_ne]; exact hy1u
          clear hyd hy1u
          go_wp2
          exact ⟨⟨G, (y1, y2), w8.heap.size, rfl, HXN2.out, HON.out, HYM, HOI2.out, HNB.out, HS8.out, HBN.out, HS10.out⟩, HMS.out⟩
     ·rw [inB_false.2 (fun h => hmem (hme.1 h))] at hhas
      have HST : Hid _ := HSO.out hmem
      clear HSM HSO HDM hme hmem hin
      go_wp2_with fail
      generalize hdb : wr.heap.size = db at *
      generalize wr.alloc (.cells #[.int .i64 (u : Int), .int .i64 (v : Int)] 84) = w3 at *
      refine hhas.mono ?_
      clear hhas
      rintro e w4 ⟨rfl, rfl⟩
      go_wp2
      exact ⟨⟨v + 1, svs, by omega, by go_num, by rw [HST.out]; exact HF3.out, HB3.out⟩, by simp [intOf]; omega⟩
    ·have hvn : ¬ (v : Int) < (N : Int) := by omega
     have HVN : Hid (v = N) := by unfold Hid; omega
     have HF : Hid _ := hF
     have HB : Hid _ := hb
     clear hF hb hv hvl
     go_wp2
     exact ⟨⟨u + 1, svs, by omega, by go_num, by rw [← stF_full HR.out, ← HVN.out]; exact HF.out, HB.out⟩, by simp [intOf]; omega⟩
  ·have hun : ¬ (u : Int) < (N : Int) := by omega
   have HUN : Hid (u = N) := by unfold Hid; omega
   obtain ⟨po, co, rfl⟩ := owns_formP hF.grp.own
   have HF : Hid (GrpD w.heap.size (.slice po svs.length co) svs (facesL N l r) wr ∧ Below w.heap.size w wr) := by
    refine ⟨?_, HB1.out.trans (hb.mono HB1.out.size)⟩
    rw [← facesL_st HR.out, ← HUN.out]
    exact hF.grp.base HB1.out.size
   clear hF hb hlt hu
   go_wp2
   go_ret
   exact ⟨.slice po svs.length co, rfl, ⟨svs, HF.out.1⟩, HF.out.2⟩
end Go.Proofs.YtjpkojmjiaoifaaGreat

namespace Go.Proofs.YtjpkojmjiaoifaaGreat
open Go Go.Proofs Go.RowKit
def LDr (n : Nat) (W : World) (sv : Value) (LL : List (List Dt)) : Prop :=
 ((∃ p c, sv = .slice p 0 c) ∧ LL = []) ∨ ∃ b off cap, sv = .slice (some ⟨b, off, none⟩) LL.length cap ∧ b < n ∧ LL.length ≤ cap ∧ ∀ (j : Nat) (x : List Dt), LL[j]? = some x → ∃ sx, W.cell? ⟨b, off + j, none⟩ = some sx ∧ Drts n W sx x
theorem LDr.below {n : Nat} {W W' : World} {sv : Value} {LL : List (List Dt)} (h : LDr n W sv LL) (hb : Below n W W') : LDr n W' sv LL := by
 rcases h with h | ⟨b, off, cap, h1, h2, h3, h4⟩
 ·exact .inl h
 ·exact .inr ⟨b, off, cap, h1, h2, h3, fun j x hx => by
   obtain ⟨sx, h5, h6⟩ := h4 j x hx
   exact ⟨sx, (hb.cell (p := ⟨b, _, none⟩) h2).trans h5, h6.below hb⟩⟩
theorem LDr.mono {n m : Nat} {W : World} {sv : Value} {LL : List (List Dt)} (h : LDr n W sv LL) (hb : n ≤ m) : LDr m W sv LL := by
 rcases h with h | ⟨b, off, cap, h1, h2, h3, h4⟩
 ·exact .inl h
 ·exact .inr ⟨b, off, cap, h1, Nat.lt_of_lt_of_le h2 hb, h3, fun j x hx => by
   obtain ⟨sx, h5, h6⟩ := h4 j x hx
   exact ⟨sx, h5, h6.mono hb⟩⟩
theorem LDr.go {W W' : World} {sv : Value} {LL : List (List Dt)} (h : LDr W.heap.size W sv LL) (hb : Below W.heap.size W W') : LDr W'.heap.size W' sv LL := (h.below hb).mono hb.size
theorem LDr.len {n : Nat} {W : World} {sv : Value} {LL : List (List Dt)} (h : LDr n W sv LL) : ∃ p c, sv = .slice p LL.length c := by
 rcases h with ⟨⟨p, c, rfl⟩, rfl⟩ | ⟨b, off, cap, rfl, _⟩ <;> exact ⟨_, _, rfl⟩
theorem LDr.cellAt {n : Nat} {w : World} {p : Option Addr} {c : Nat} {L : List (List Dt)} (h : LDr n w (.slice p L.length c) L) {j : Nat} (hj : j < L.length) :
  ∃ b off, p = some ⟨b, off, none⟩ ∧ b < n ∧ L.length ≤ c ∧ ∃ px cx, Drts n w (.slice px L[j].length cx) L[j] ∧ w.cell? ⟨b, off + j, none⟩ = some (.slice px L[j].length cx) := by
 rcases h with ⟨_, h0⟩ | ⟨b, off, cap, h1, h2, h3, h4⟩
 ·subst h0; simp at hj
 ·simp only [Value.slice.injEq] at h1
  obtain ⟨rfl, _, rfl⟩ := h1
  obtain ⟨sx, h5, h6⟩ := h4 j _ (List.getElem?_eq_getElem hj)
  obtain ⟨px, cx, rfl⟩ := h6.len
  exact ⟨b, off, rfl, h2, h3, px, cx, h6, h5⟩
theorem GrpD.ldr {h0 : Nat} {lv : Value} {svs : List Value} {pre : List (List Dt)} {W : World} (h : GrpD h0 lv svs pre W) : LDr W.heap.size W lv pre := by
 have hlen := h.len
 rcases h.own.2 with ⟨rfl, h1⟩ | ⟨g, cap, cur, rfl, hb, hg, hn, hc⟩
 ·exact .inl ⟨⟨_, _, rfl⟩, List.eq_nil_of_length_eq_zero (by omega)⟩
 ·refine .inr ⟨g, 0, cap, by rw [hlen], (Array.getElem?_eq_some_iff.1 hg).1, by omega, fun j x hx => ?_⟩
  have hj := (List.getElem?_eq_some_iff.1 hx).1
  obtain ⟨sx, hs⟩ : ∃ sx, svs[j]? = some sx := ⟨_, List.getElem?_eq_getElem (by omega)⟩
  refine ⟨sx, ?_, Drts.of_owns (h.inn j sx x hs hx)⟩
  have := h.own.cells (g := g) rfl j sx hs
  rwa [Go.WideShapes.add_plain] at this
end Go.Proofs.YtjpkojmjiaoifaaGreat
