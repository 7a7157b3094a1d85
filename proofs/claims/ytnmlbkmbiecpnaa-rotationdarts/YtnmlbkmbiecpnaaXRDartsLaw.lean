/-
  The walk of filigreelaw07.RotationDarts.
-/
import Derived.Test.YtnmlbkmbiecpnaaXRDartsM
import Derived.Test.YtnmlbkmbiecpnaaXRFacesLaw
import Derived.BigQuiet
namespace Go.Proofs.Ytnmlbkmbiecpnaa
open Go Go.Proofs Go.RowKit

set_option maxRecDepth 100000 in
set_option maxHeartbeats 8000000 in
theorem darts_law (n : Int) (l : List Ed) (r : List (List Int)) (hr1 : r.length ≤ 9223372036854775807) (sv rv : Value) (w : World) (hl : Edges w.heap.size w sv l) (hr : Lsts w.heap.size w rv r) :
    Calls Try.prog 7 #[.agg #[.int .i64 n, sv], rv] w fun e w' => e = .returned (.bool true) ∧ Below w.heap.size w w' := by
  obtain ⟨p, c, rfl⟩ := hl.len
  have hb1 : Below w.heap.size w (w.alloc (.cells #[.int .i64 n, .slice p l.length c] 24)) := (Below.refl _ _).alloc (Nat.le_refl _) _
  have hX1 : Blk 24 (w.alloc (.cells #[.int .i64 n, .slice p l.length c] 24)) w.heap.size [.int .i64 n, .slice p l.length c] := heap_alloc_new w _
  have hlt := lightR_any n l r hr1 40 (by decide) (by decide) _ rv _ (hl.go hb1) (hr.go hb1)
  have q0 := hX1.cell (j := 0) rfl
  have q1 := hX1.cell (j := 1) rfl
  have HL : Hid (Edges w.heap.size w (.slice p l.length c) l) := hl
  have HR : Hid (Lsts w.heap.size w rv r) := hr
  have HB1 : Hid (Below w.heap.size w (w.alloc (.cells #[.int .i64 n, .slice p l.length c] 24))) := hb1
  have HX1 : Hid (Blk 24 (w.alloc (.cells #[.int .i64 n, .slice p l.length c] 24)) w.heap.size [.int .i64 n, .slice p l.length c]) := hX1
  clear hb1 hX1 hl hr
  have hmix := mixed
  go_enter Try.func7, Try.ntmps7
  go_wp2_with fail
  generalize w.alloc (.cells #[.int .i64 n, .slice p l.length c] 24) = w2 at *
  refine hlt.mono ?_
  clear hlt
  rintro e w3 ⟨bb, rfl, hbb, hb3⟩
  have HB3 : Hid (Below w.heap.size w w3) := HB1.out.trans (hb3.mono HB1.out.size)
  have HX3 : Hid (Blk 24 w3 w.heap.size [.int .i64 n, .slice p l.length c]) := HX1.out.go hb3
  have HBB : Hid (bb = true → lightB n l 40 = true ∧ (r.length : Int) ≤ 2 * 40) := hbb
  clear HB1 HX1 hb3 q0 q1 hbb
  cases bb with
  | false =>
    go_wp2_with fail
    refine (alive_any w3).mono ?_
    rintro e w4 ⟨rfl, hb4⟩
    have HB4 : Hid (Below w.heap.size w w4) := HB3.out.trans (hb4.mono HB3.out.size)
    clear hb4
    go_wp2
    go_ret
    exact ⟨rfl, HB4.out⟩
  | true =>
    have q0 := HX3.out.cell (j := 0) rfl
    have q1 := HX3.out.cell (j := 1) rfl
    have hrc := refSys_any n l r _ rv w3 (HL.out.go HB3.out) (HR.out.go HB3.out)
    by_cases hk : sysK n l r = 0
    · obtain ⟨N, rfl, hR, hS⟩ := sysK_nought hk
      rw [hk] at hrc
      have hlm : l.length ≤ 160 := by have := (lightB_true (HBB.out rfl).1).2; omega
      have hnm : N ≤ 40 := by have := (lightB_true (HBB.out rfl).1).1; omega
      obtain ⟨i0, hi, hz0, hz1, hz2⟩ := info_parts infoSl
      obtain ⟨j0, hj, hy0, hy1, hy2⟩ := info_parts infoI
      have HFA : Hid (∀ W, Edges W.heap.size W (.slice p l.length c) l → Lsts W.heap.size W rv r → _) := fun W h1 h2 => faces_any N l hR r hS (.slice p l.length c) rv W h1 h2
      have HSY : Hid (RightG (N : Int) l ∧ SysR N l r) := ⟨hR, hS⟩
      have HRR : Hid (∀ x ∈ r, x.length ≤ 9223372036854775807) := fun x hx => by
        obtain ⟨v, hv, rfl⟩ := List.getElem_of_mem hx
        have h0 := hS.len
        have h1 := (hS.perm v (by omega)).length_eq
        rw [List.getD_eq_getElem?_getD, List.getElem?_eq_getElem hv] at h1
        have := nb_len (v : Int) l
        simp only [Option.getD_some] at h1
        omega
      have HFD : Hid (Dec (nxD r) (fun x => x ∈ dartsL N l) (facesL N l r)) := faces_dec hR hS
      have HFL : Hid ((facesL N l r).flatten.length = 2 * l.length) := faces_all hR hS
      have HFF : Hid ((facesL N l r).length ≤ 480) := by have := facesL_few hR r; unfold Hid; omega
      have HFE : Hid (∀ f ∈ facesL N l r, f.length ≤ 321) := fun f hf => by have := facesL_each N l r f hf; omega
      clear hk hR hS
      generalize facesL N l r = fs at *
      go_wp2_with fail
      refine hrc.mono ?_
      clear hrc
      rintro e w4 ⟨rfl, hb4⟩
      have HB4 : Hid (Below w.heap.size w w4) := HB3.out.trans (hb4.mono HB3.out.size)
      have HX4 : Hid (Blk 24 w4 w.heap.size [.int .i64 (N : Int), .slice p l.length c]) := HX3.out.go hb4
      clear hb4 q0 q1 HB3 HX3
      have q0 := HX4.out.cell (j := 0) rfl
      have q1 := HX4.out.cell (j := 1) rfl
      have hfa := HFA.out w4 (HL.out.go HB4.out) (HR.out.go HB4.out)
      go_wp2_with fail
      refine hfa.mono ?_
      clear hfa
      rintro e w5 ⟨lv, svf, rfl, hG5, hb5⟩
      have hF5 := hG5.ldr
      obtain ⟨pf, cf, rfl⟩ := hF5.len
      have HF5 : Hid (LDr w5.heap.size w5 (.slice pf fs.length cf) fs) := hF5
      have HB5 : Hid (Below w.heap.size w w5) := HB4.out.trans (hb5.mono HB4.out.size)
      have HX5 : Hid (Blk 24 w5 w.heap.size [.int .i64 (N : Int), .slice p l.length c]) := HX4.out.go hb5
      have HX5L : Hid (w.heap.size < w5.heap.size) := (HX4.out.go hb5).lt
      clear hG5 hF5 hb5 q0 q1 HB4 HX4 HFA
      have q0 := HX5.out.cell (j := 0) rfl
      have q1 := HX5.out.cell (j := 1) rfl
      go_wp2_with (at_make; refine wpList_make_full _ rfl _ _ 25 rfl w5.heap.size 41 i0 (.slice none 0 0) 1 Try.underlying25 hi hz0 hz1 .i64 .i64 _ _ N rfl rfl rfl rfl (by rw [hz2]; omega) (by unfold maxLen; omega) (Nat.le_refl _) ?_; intro w6 hown hgrow)
      have hb6 : Below w5.heap.size w5 w6 := (Below.refl _ _).grown hgrow (Nat.le_refl _) (fun k e => by cases e)
      have hGr := Grp.made hown
      rw [← atL_nil, ← preF_start fs] at hGr
      have HG6 : Hid (Grp w5.heap.size (.slice (some ⟨w5.heap.size, 0, none⟩) N N) (List.replicate N (.slice none 0 0)) (atL N (preF fs 0 0)) w6) := hGr
      have HB6 : Hid (Below w5.heap.size w5 w6) := hb6
      clear hown hgrow hGr hb6 hi hz0 hz1 hz2 q0 q1
      have HNM : Hid (N ≤ 40) := hnm
      go_wp2
      go_loopw [8, 9] (fun nv iv wr => ∃ (i : Nat) (P : List Dt) (svs : List Value), i ≤ fs.length ∧ iv = .int .i64 i ∧ Hid (P = preF fs i 0) ∧ nv = .int .i64 (P.length : Int) ∧ Grp w5.heap.size (.slice (some ⟨w5.heap.size, 0, none⟩) N N) svs (atL N P) wr ∧ Below w5.heap.size w5 wr) (fun _ iv _ => fs.length - (intOf iv).toNat)
      case atStart => exact ⟨0, [], List.replicate N (.slice none 0 0), Nat.zero_le _, rfl, (preF_start fs).symm, rfl, by have := HG6.out; rw [preF_start] at this; exact this, HB6.out⟩
      case round =>
        clear HG6 HB6
        obtain ⟨i, P, svs, hiF, rfl, HP, rfl, hG, hb⟩ := hrel
        have hff := HFF.out
        by_cases hlt : i < fs.length
        · have hil : (i : Int) < (fs.length : Int) := by omega
          have HLT : Hid (i < fs.length) := hlt
          have HG : Hid (Grp w5.heap.size (.slice (some ⟨w5.heap.size, 0, none⟩) N N) svs (atL N P) wr) := hG
          have HB : Hid (Below w5.heap.size w5 wr) := hb
          obtain ⟨f, HFI⟩ : ∃ f, Hid (fs[i]? = some f) := ⟨fs[i], List.getElem?_eq_getElem hlt⟩
          have HFN : Hid (f ∈ fs) := List.mem_of_getElem? HFI.out
          have hfe := HFE.out f HFN.out
          clear hG hb
          generalize wr = w7 at *
          go_wp2
          go_loopw [8, 10] (fun nv jv wr => ∃ (j : Nat) (P : List Dt) (svs : List Value), j ≤ f.length ∧ jv = .int .i64 j ∧ Hid (P = preF fs i j) ∧ nv = .int .i64 (P.length : Int) ∧ Grp w5.heap.size (.slice (some ⟨w5.heap.size, 0, none⟩) N N) svs (atL N P) wr ∧ Below w5.heap.size w5 wr) (fun _ jv _ => f.length - (intOf jv).toNat)
          case atStart => exact ⟨0, P, svs, Nat.zero_le _, rfl, HP.out, rfl, HG.out, HB.out⟩
          case round =>
            clear HG HB HP
            obtain ⟨j, P, svs, hjF, rfl, HP, rfl, hG, hb⟩ := hrel
            have hPl : P.length ≤ 320 := by rw [HP.out]; have := preF_le fs i j; have := HFL.out; omega
            have hfc := (HF5.out.below hb).cellAt hlt
            rw [show fs[i] = f from (List.getElem?_eq_some_iff.1 HFI.out).2] at hfc
            obtain ⟨bf, of, rfl, hbf, hcf, px, cx, hDx, c0⟩ := hfc
            by_cases hjl : j < f.length
            · have hjl' : (j : Int) < (f.length : Int) := by omega
              obtain ⟨bx, ox, rfl, hbx, hcx, g0, g1⟩ := hDx.cellAt hjl
              have hkl : (j + 1) % f.length < f.length := Nat.mod_lt _ (by omega)
              obtain ⟨bx', ox', e', _, _, k0, k1⟩ := hDx.cellAt hkl
              simp only [Option.some.injEq, Addr.mk.injEq, and_true] at e'
              obtain ⟨rfl, rfl⟩ := e'
              have hmem : f[j] ∈ dartsL N l := (HFD.out.mem _).1 (List.mem_flatten.2 ⟨f, HFN.out, List.getElem_mem hjl⟩)
              have hnx : nxR r f[j] = (f[(j + 1) % f.length], true) := by rw [nxR_dart HSY.out.1 HSY.out.2 hmem, (HFD.out.rnd f HFN.out).at j hjl]
              have hmod : Int.tmod ((j : Int) + 1) (f.length : Int) = (((j + 1) % f.length : Nat) : Int) := by
                rw [Int.natCast_emod, Int.tmod_eq_emod_of_nonneg (by omega)]
                rfl
              have HST : Hid (preF fs i (j + 1) = P ++ [f[j]]) := by
                unfold Hid
                rw [HP.out]
                exact preF_step2 HFI.out hjl
              have HNI : Hid (f[j] ∉ P) := by
                unfold Hid
                rw [HP.out]
                exact preF_new2 HFD.out.nodup HFI.out hjl
              have HJL : Hid (j < f.length) := hjl
              obtain ⟨u, v, euv, huN, hvN, _, _⟩ := dart_ends HSY.out.1 hmem
              generalize f[(j + 1) % f.length] = y at *
              generalize f[j] = d at *
              subst euv
              obtain ⟨y1, y2⟩ := y
              simp only at g0 g1 k0 k1
              generalize (j + 1) % f.length = k at *
              have hkl' : (k : Int) < (f.length : Int) := by omega
              obtain ⟨su, hsu⟩ : ∃ su, svs[u]? = some su := ⟨_, List.getElem?_eq_getElem (by have := hG.len; rw [atL_len] at this; omega)⟩
              have hxs := atL_at P huN
              have HNEW : Hid ((v : Int) ∉ (P.filter fun d => decide (d.1 = (u : Int))).map fun d => d.2) := atL_new (d := ((u : Int), (v : Int))) rfl HNI.out
              have HPU : Hid (atL N (P ++ [((u : Int), (v : Int))]) = (atL N P).set u ((P.filter fun d => decide (d.1 = (u : Int))).map (fun d => d.2) ++ [(v : Int)])) := atL_push rfl
              generalize (P.filter fun d => decide (d.1 = (u : Int))).map (fun d => d.2) = xs at *
              have hinn := hG.inn u su xs hsu hxs
              have HAT : Hid ((atL N P)[u]? = some xs) := hxs
              have HSUB : Hid (∀ q, su.ownBlock = some q → q < wr.heap.size) := fun q hq => (hinn.lt q hq).2
              obtain ⟨ps, cs, rfl⟩ := owns_formP hinn
              have hxl : xs.length ≤ 320 := by have := atL_short N P xs (List.mem_of_getElem? hxs); omega
              have HG : Hid (Grp w5.heap.size (.slice (some ⟨w5.heap.size, 0, none⟩) N N) svs (atL N P) wr) := hG
              have HB : Hid (Below w5.heap.size w5 wr) := hb
              have hbA : Below wr.heap.size wr (wr.alloc (.cells #[.int .i64 (u : Int), .int .i64 (v : Int)] 27)) := (Below.refl _ _).alloc (Nat.le_refl _) _
              have hXd : Blk 27 (wr.alloc (.cells #[.int .i64 (u : Int), .int .i64 (v : Int)] 27)) wr.heap.size [.int .i64 (u : Int), .int .i64 (v : Int)] := heap_alloc_new wr _
              have hb5A := hb.trans (hbA.mono hb.size)
              have hrn := refNext_any r HRR.out ((u : Int), (v : Int)) rv _ (HR.out.go (HB5.out.trans (hb5A.mono HB5.out.size)))
              rw [hnx] at hrn
              have HC0 : Hid (wr.cell? ⟨bf, of + i, none⟩ = some (.slice (some ⟨bx, ox, none⟩) f.length cx)) := c0
              have HK0 : Hid (wr.cell? ⟨bx, ox + k * 2, none⟩ = some (.int .i64 y1) ∧ wr.cell? ⟨bx, ox + k * 2 + 1, none⟩ = some (.int .i64 y2)) := ⟨k0, k1⟩
              have d0 := hXd.cell (j := 0) rfl
              have d1 := hXd.cell (j := 1) rfl
              have HXD : Hid (Blk 27 (wr.alloc (.cells #[.int .i64 (u : Int), .int .i64 (v : Int)] 27)) wr.heap.size [.int .i64 (u : Int), .int .i64 (v : Int)]) := hXd
              have HBA : Hid (Below wr.heap.size wr (wr.alloc (.cells #[.int .i64 (u : Int), .int .i64 (v : Int)] 27))) := hbA
              clear hnx hmem hG hb hDx hXd hbA hb5A hjl hinn hxs k0 k1 HNI
              go_wp2_with fail
              refine hrn.mono ?_
              clear hrn
              rintro e w8 ⟨rfl, hb8⟩
              simp only
              have hbC : Below w8.heap.size w8 (w8.alloc (.cells #[.int .i64 y1, .int .i64 y2] 27)) := (Below.refl _ _).alloc (Nat.le_refl _) _
              have hXx : Blk 27 (w8.alloc (.cells #[.int .i64 y1, .int .i64 y2] 27)) w8.heap.size [.int .i64 y1, .int .i64 y2] := heap_alloc_new w8 _
              have hb89 := hb8.trans (hbC.mono hb8.size)
              have hXd9 := HXD.out.go hb89
              have hbr9 := HBA.out.trans (hb89.mono HBA.out.size)
              have hG9 := HG.out.go hbr9
              have hb59 := HB.out.trans (hbr9.mono HB.out.size)
              have hX9 := HX5.out.below hb59 HX5L.out
              have HXD9 : Hid (Blk 27 (w8.alloc (.cells #[.int .i64 y1, .int .i64 y2] 27)) wr.heap.size [.int .i64 (u : Int), .int .i64 (v : Int)]) := hXd9
              have HG9 : Hid (Grp w5.heap.size (.slice (some ⟨w5.heap.size, 0, none⟩) N N) svs (atL N P) (w8.alloc (.cells #[.int .i64 y1, .int .i64 y2] 27))) := hG9
              have HB59 : Hid (Below w5.heap.size w5 (w8.alloc (.cells #[.int .i64 y1, .int .i64 y2] 27))) := hb59
              clear d0 d1
              have d0 := hXd9.cell (j := 0) rfl
              have d1 := hXd9.cell (j := 1) rfl
              have x0 := hXx.cell (j := 0) rfl
              have x1 := hXx.cell (j := 1) rfl
              have n0 := hX9.cell (j := 0) rfl
              have c9 := cell_keepK hbr9 HC0.out
              have k0 := cell_keepK hbr9 HK0.out.1
              have k1 := cell_keepK hbr9 HK0.out.2
              have s0 : (w8.alloc (.cells #[.int .i64 y1, .int .i64 y2] 27)).cell? ⟨w5.heap.size, u, none⟩ = some (.slice ps xs.length cs) := by
                have h1 := hG9.own.cells (g := w5.heap.size) rfl u _ hsu
                rwa [Go.WideShapes.add_plain, Nat.zero_add] at h1
              clear c0 g0 g1 hb8 hbC hXx hb89 hXd9 hbr9 hG9 hb59 hX9 HG HB HXD HBA HC0 HK0
              have hht : ∀ q, Calls Try.prog 28 #[.slice ps xs.length cs, .int .i64 (v : Int)] ((w8.alloc (.cells #[.int .i64 y1, .int .i64 y2] 27)).drewN q) fun r w' => r = .returned (.bool false) ∧ w' = (w8.alloc (.cells #[.int .i64 y1, .int .i64 y2] 27)).drewN q := fun q => by
                have h1 := ints_owned (HG9.out.inn u _ xs hsu HAT.out)
                have h2 := has_any xs (by omega) (v : Int) _ _ _ (h1.go (below_drewN (Below.refl _ _) q))
                rw [inB_false.2 HNEW.out] at h2
                exact h2
              have hu0 : ¬ (u : Int) < 0 := by omega
              have huN' : ¬ (N : Int) ≤ (u : Int) := by omega
              have hul : (u : Int) < (N : Int) := by omega
              have hwp : IntKind.i64.wrap ((j : Int) + 1) = (j : Int) + 1 := wrap_i _ (by omega) (by omega)
              have hf0 : (f.length : Int) ≠ 0 := by omega
              go_wp2_with fail
              generalize hxb : w8.heap.size = xb at *
              generalize w8.alloc (.cells #[.int .i64 y1, .int .i64 y2] 27) = w9 at *
              generalize hgb : w5.heap.size = gb at s0
              generalize hwb : w.heap.size = wb at n0
              generalize hdb : wr.heap.size = db at d0 d1
              have h0 : Calls Try.prog 28 #[.slice ps xs.length cs, .int .i64 (v : Int)] w9.drew fun r w' => r = .returned (.bool false) ∧ w' = w9.drew := hht 1
              have hfn : ¬ f = [] := fun e => by rw [e] at hf0; simp at hf0
              have hdN : decide ((N : Int) ≤ (u : Int)) = false := by rw [decide_eq_false_iff_not]; omega
              refine wp_region_held_drew (S := (fun w' : World => w'.cell? ⟨db, 0, none⟩ = some (.int .i64 (u : Int)) ∧ w'.cell? ⟨db, 1, none⟩ = some (.int .i64 (v : Int)) ∧ w'.cell? ⟨xb, 0, none⟩ = some (.int .i64 y1) ∧ w'.cell? ⟨xb, 1, none⟩ = some (.int .i64 y2) ∧ w'.cell? ⟨wb, 0, none⟩ = some (.int .i64 (N : Int)) ∧ w'.cell? ⟨bf, of + i, none⟩ = some (.slice (some ⟨bx, ox, none⟩) f.length cx) ∧ w'.cell? ⟨bx, ox + k * 2, none⟩ = some (.int .i64 y1) ∧ w'.cell? ⟨bx, ox + k * 2 + 1, none⟩ = some (.int .i64 y2) ∧ w'.cell? ⟨gb, u, none⟩ = some (.slice ps xs.length cs))) (by kernel_rfl) ?_ (fun hHeld => ?_)
              · (try dsimp only); go_keep
              refine wpAnyH_take (i := 0) (v := ?_) rfl (by kernel_rfl) (by kernel_rfl) (by kernel_rfl) (fun _ _ _ h => h) (Or.inl ⟨by rfl, ?_⟩) (by assumption) ?_
              rotate_left
              · intro w hSw; (try dsimp only at hSw); go_simp; (try with_reducible rfl)
              try simp only [Act.put, List.setIfInBounds_toArray]
              refine wpAnyH_take (i := 1) (v := ?_) rfl (by kernel_rfl) (by kernel_rfl) (by kernel_rfl) (fun _ _ _ h => h) (Or.inl ⟨by rfl, ?_⟩) (by assumption) ?_
              rotate_left
              · intro w hSw; (try dsimp only at hSw); go_simp; (try with_reducible rfl)
              try simp only [Act.put]
              refine wpAnyH_take (i := 2) (v := ?_) rfl (by kernel_rfl) (by kernel_rfl) (by kernel_rfl) (fun _ _ _ h => h) (Or.inl ⟨by rfl, ?_⟩) (by assumption) ?_
              rotate_left
              · intro w hSw; (try dsimp only at hSw); go_simp; (try with_reducible rfl)
              try simp only [Act.put]
              simp only [List.getElem_toArray, List.getElem_cons_zero, List.getElem_cons_succ, List.setIfInBounds_toArray, List.set_cons_zero, List.set_cons_succ]
              refine wpAnyH_take (i := 3) (v := ?_) rfl (by kernel_rfl) (by kernel_rfl) (by kernel_rfl) (fun _ _ _ h => h) (Or.inl ⟨by simp [Region.wanted, yielded], ?_⟩) (by assumption) ?_
              rotate_left
              · intro w hSw; (try dsimp only at hSw); go_simp; (try with_reducible rfl)
              try simp only [Act.put]
              simp only [List.getElem_toArray, List.getElem_cons_zero, List.getElem_cons_succ, List.setIfInBounds_toArray, List.set_cons_zero, List.set_cons_succ]
              refine wpAnyH_take (i := 4) (v := ?_) rfl (by kernel_rfl) (by kernel_rfl) (by kernel_rfl) (fun _ _ _ h => h) (Or.inl ⟨by simp [Region.wanted, yielded], ?_⟩) (by assumption) ?_
              rotate_left
              · intro w hSw; (try dsimp only at hSw); go_simp; (try with_reducible rfl)
              try simp only [Act.put]
              simp only [List.getElem_toArray, List.getElem_cons_zero, List.getElem_cons_succ, List.setIfInBounds_toArray, List.set_cons_zero, List.set_cons_succ]
              refine wpAnyH_take (i := 5) (v := ?_) rfl (by kernel_rfl) (by kernel_rfl) (by kernel_rfl) (fun _ _ _ h => h) (Or.inl ⟨by simp [Region.wanted, yielded], ?_⟩) (by assumption) ?_
              rotate_left
              · intro w hSw; (try dsimp only at hSw); go_simp; (try with_reducible rfl)
              try simp only [Act.put]
              simp only [List.getElem_toArray, List.getElem_cons_zero, List.getElem_cons_succ, List.setIfInBounds_toArray, List.set_cons_zero, List.set_cons_succ]
              refine wpAnyH_take (i := 6) (v := ?_) rfl (by kernel_rfl) (by kernel_rfl) (by kernel_rfl) (fun _ _ _ h => h) (Or.inl ⟨by simp [Region.wanted, yielded], ?_⟩) (by assumption) ?_
              rotate_left
              · intro w hSw; (try dsimp only at hSw); go_simp; (try with_reducible rfl)
              try simp only [Act.put]
              simp only [List.getElem_toArray, List.getElem_cons_zero, List.getElem_cons_succ, List.setIfInBounds_toArray, List.set_cons_zero, List.set_cons_succ]
              refine wpAnyH_take (i := 7) (v := ?_) rfl (by kernel_rfl) (by kernel_rfl) (by kernel_rfl) (fun _ _ _ h => h) (Or.inl ⟨by simp [Region.wanted, yielded], ?_⟩) (by assumption) ?_
              rotate_left
              · intro w hSw; (try dsimp only at hSw); go_simp; (try with_reducible rfl)
              try simp only [Act.put]
              simp only [List.getElem_toArray, List.getElem_cons_zero, List.getElem_cons_succ, List.setIfInBounds_toArray, List.set_cons_zero, List.set_cons_succ]
              refine wpAnyH_take (i := 8) (v := ?_) rfl (by kernel_rfl) (by kernel_rfl) (by kernel_rfl) (fun _ _ _ h => h) (Or.inl ⟨by simp [Region.wanted, yielded], ?_⟩) (by assumption) ?_
              rotate_left
              · intro w hSw; (try dsimp only at hSw); go_simp; (try with_reducible rfl)
              try simp only [Act.put]
              simp only [List.getElem_toArray, List.getElem_cons_zero, List.getElem_cons_succ, List.setIfInBounds_toArray, List.set_cons_zero, List.set_cons_succ]
              refine wpAnyH_take (i := 9) (v := ?_) rfl (by kernel_rfl) (by kernel_rfl) (by kernel_rfl) (fun _ _ _ h => h) (Or.inl ⟨by simp [Region.wanted, yielded], ?_⟩) (by assumption) ?_
              rotate_left
              · intro w hSw; (try dsimp only at hSw); go_simp; (try with_reducible rfl)
              try simp only [Act.put]
              simp only [List.getElem_toArray, List.getElem_cons_zero, List.getElem_cons_succ, List.setIfInBounds_toArray, List.set_cons_zero, List.set_cons_succ]
              refine wpAnyH_take (i := 10) (v := ?_) rfl (by kernel_rfl) (by kernel_rfl) (by kernel_rfl) (fun _ _ _ h => h) (Or.inl ⟨by simp [Region.wanted, yielded], ?_⟩) (by assumption) ?_
              rotate_left
              · intro w hSw; (try dsimp only at hSw); go_simp; (try with_reducible rfl)
              try simp only [Act.put]
              simp only [List.getElem_toArray, List.getElem_cons_zero, List.getElem_cons_succ, List.setIfInBounds_toArray, List.set_cons_zero, List.set_cons_succ]
              refine wpAnyH_take (i := 11) (v := ?_) rfl (by kernel_rfl) (by kernel_rfl) (by kernel_rfl) (fun _ _ _ h => h) (Or.inl ⟨by simp [Region.wanted, yielded], ?_⟩) (by assumption) ?_
              rotate_left
              · intro w hSw; (try dsimp only at hSw); go_simp; (try with_reducible rfl)
              try simp only [Act.put]
              simp only [List.getElem_toArray, List.getElem_cons_zero, List.getElem_cons_succ, List.setIfInBounds_toArray, List.set_cons_zero, List.set_cons_succ]
              refine wpAnyH_take (i := 12) (v := ?_) rfl (by kernel_rfl) (by kernel_rfl) (by kernel_rfl) (fun _ _ _ h => h) (Or.inl ⟨by simp [Region.wanted, yielded], ?_⟩) (by assumption) ?_
              rotate_left
              · intro w hSw; (try dsimp only at hSw); go_simp; (try with_reducible rfl)
              try simp only [Act.put]
              simp only [List.getElem_toArray, List.getElem_cons_zero, List.getElem_cons_succ, List.setIfInBounds_toArray, List.set_cons_zero, List.set_cons_succ]
              refine wpAnyH_take (i := 13) (v := ?_) rfl (by kernel_rfl) (by kernel_rfl) (by kernel_rfl) (fun _ _ _ h => h) (Or.inl ⟨by simp [Region.wanted, yielded], ?_⟩) (by assumption) ?_
              rotate_left
              · intro w hSw; (try dsimp only at hSw); go_simp; (try with_reducible rfl)
              try simp only [Act.put]
              simp only [List.getElem_toArray, List.getElem_cons_zero, List.getElem_cons_succ, List.setIfInBounds_toArray, List.set_cons_zero, List.set_cons_succ]
              refine wpAnyH_take (i := 14) (v := ?_) rfl (by kernel_rfl) (by kernel_rfl) (by kernel_rfl) (fun _ _ _ h => h) (Or.inl ⟨by simp [Region.wanted, yielded], ?_⟩) (by assumption) ?_
              rotate_left
              · intro w hSw; (try dsimp only at hSw); go_simp; (try with_reducible rfl)
              try simp only [Act.put]
              simp only [List.getElem_toArray, List.getElem_cons_zero, List.getElem_cons_succ, List.setIfInBounds_toArray, List.set_cons_zero, List.set_cons_succ]
              refine wpAnyH_take (i := 15) (v := .int .i64 (k : Int)) rfl (by kernel_rfl) (by kernel_rfl) (by kernel_rfl) (fun _ _ _ h => h) (Or.inl ⟨by simp [Region.wanted, yielded], ?_⟩) (by assumption) ?_
              · intro w hSw; go_simp
              try simp only [Act.put]
              simp only [List.getElem_toArray, List.getElem_cons_zero, List.getElem_cons_succ, List.setIfInBounds_toArray, List.set_cons_zero, List.set_cons_succ]
              refine wpAnyH_take (i := 16) (v := ?_) rfl (by kernel_rfl) (by kernel_rfl) (by kernel_rfl) (fun _ _ _ h => h) (Or.inl ⟨by simp [Region.wanted, yielded], ?_⟩) (by assumption) ?_
              rotate_left
              · intro w hSw; (try dsimp only at hSw); go_simp; (try with_reducible rfl)
              try simp only [Act.put]
              simp only [List.getElem_toArray, List.getElem_cons_zero, List.getElem_cons_succ, List.setIfInBounds_toArray, List.set_cons_zero, List.set_cons_succ]
              refine wpAnyH_take (i := 17) (v := ?_) rfl (by kernel_rfl) (by kernel_rfl) (by kernel_rfl) (fun _ _ _ h => h) (Or.inl ⟨by simp [Region.wanted, yielded], ?_⟩) (by assumption) ?_
              rotate_left
              · intro w hSw; (try dsimp only at hSw); go_simp; (try with_reducible rfl)
              try simp only [Act.put]
              simp only [List.getElem_toArray, List.getElem_cons_zero, List.getElem_cons_succ, List.setIfInBounds_toArray, List.set_cons_zero, List.set_cons_succ]
              refine wpAnyH_take (i := 18) (v := ?_) rfl (by kernel_rfl) (by kernel_rfl) (by kernel_rfl) (fun _ _ _ h => h) (Or.inl ⟨by simp [Region.wanted, yielded], ?_⟩) (by assumption) ?_
              rotate_left
              · intro w hSw; (try dsimp only at hSw); go_simp; (try with_reducible rfl)
              try simp only [Act.put]
              simp only [List.getElem_toArray, List.getElem_cons_zero, List.getElem_cons_succ, List.setIfInBounds_toArray, List.set_cons_zero, List.set_cons_succ]
              refine wpAnyH_take (i := 19) (v := ?_) rfl (by kernel_rfl) (by kernel_rfl) (by kernel_rfl) (fun _ _ _ h => h) (Or.inl ⟨by simp [Region.wanted], ?_⟩) (by assumption) ?_
              rotate_left
              · intro w hSw; (try dsimp only at hSw); go_simp; (try with_reducible rfl)
              try simp only [Act.put]
              simp only [List.getElem_toArray, List.getElem_cons_zero, List.getElem_cons_succ, List.setIfInBounds_toArray, List.set_cons_zero, List.set_cons_succ]
              refine wpAnyH_take (i := 20) (v := ?_) rfl (by kernel_rfl) (by kernel_rfl) (by kernel_rfl) (fun _ _ _ h => h) (Or.inl ⟨by simp [Region.wanted], ?_⟩) (by assumption) ?_
              rotate_left
              · intro w hSw; (try dsimp only at hSw); go_simp; (try with_reducible rfl)
              try simp only [Act.put]
              simp only [List.getElem_toArray, List.getElem_cons_zero, List.getElem_cons_succ, List.setIfInBounds_toArray, List.set_cons_zero, List.set_cons_succ]
              refine wpAnyH_take (i := 21) (v := ?_) rfl (by kernel_rfl) (by kernel_rfl) (by kernel_rfl) (fun _ _ _ h => h) (Or.inl ⟨by simp [Region.wanted, yielded], ?_⟩) (by assumption) ?_
              rotate_left
              · intro w hSw; (try dsimp only at hSw); go_simp; (try with_reducible rfl)
              try simp only [Act.put]
              simp only [List.getElem_toArray, List.getElem_cons_zero, List.getElem_cons_succ, List.setIfInBounds_toArray, List.set_cons_zero, List.set_cons_succ]
              refine wpAnyH_take (i := 22) (v := ?_) rfl (by kernel_rfl) (by kernel_rfl) (by kernel_rfl) (fun _ _ _ h => h) (Or.inl ⟨by simp [Region.wanted, yielded], ?_⟩) (by assumption) ?_
              rotate_left
              · intro w hSw; (try dsimp only at hSw); go_simp; (try with_reducible rfl)
              try simp only [Act.put]
              simp only [List.getElem_toArray, List.getElem_cons_zero, List.getElem_cons_succ, List.setIfInBounds_toArray, List.set_cons_zero, List.set_cons_succ]
              refine wpAnyH_take (i := 23) (v := ?_) rfl (by kernel_rfl) (by kernel_rfl) (by kernel_rfl) (fun _ _ _ h => h) (Or.inl ⟨by simp [Region.wanted, yielded], ?_⟩) (by assumption) ?_
              rotate_left
              · intro w hSw; (try dsimp only at hSw); go_simp; (try with_reducible rfl)
              try simp only [Act.put]
              simp only [List.getElem_toArray, List.getElem_cons_zero, List.getElem_cons_succ, List.setIfInBounds_toArray, List.set_cons_zero, List.set_cons_succ]
              refine wpAnyH_take (i := 24) (v := ?_) rfl (by kernel_rfl) (by kernel_rfl) (by kernel_rfl) (fun _ _ _ h => h) (Or.inl ⟨by simp [Region.wanted], ?_⟩) (by assumption) ?_
              rotate_left
              · intro w hSw; (try dsimp only at hSw); go_simp; (try with_reducible rfl)
              try simp only [Act.put]
              simp only [List.getElem_toArray, List.getElem_cons_zero, List.getElem_cons_succ, List.setIfInBounds_toArray, List.set_cons_zero, List.set_cons_succ]
              refine wpAnyH_take (i := 25) (v := ?_) rfl (by kernel_rfl) (by kernel_rfl) (by kernel_rfl) (fun _ _ _ h => h) (Or.inl ⟨by simp [Region.wanted], ?_⟩) (by assumption) ?_
              rotate_left
              · intro w hSw; (try dsimp only at hSw); go_simp; (try with_reducible rfl)
              try simp only [Act.put]
              simp only [List.getElem_toArray, List.getElem_cons_zero, List.getElem_cons_succ, List.setIfInBounds_toArray, List.set_cons_zero, List.set_cons_succ]
              refine wpAnyH_take (i := 26) (v := ?_) rfl (by kernel_rfl) (by kernel_rfl) (by kernel_rfl) (fun _ _ _ h => h) (Or.inl ⟨by simp [Region.wanted, yielded], ?_⟩) (by assumption) ?_
              rotate_left
              · intro w hSw; (try dsimp only at hSw); go_simp; (try with_reducible rfl)
              try simp only [Act.put]
              simp only [List.getElem_toArray, List.getElem_cons_zero, List.getElem_cons_succ, List.setIfInBounds_toArray, List.set_cons_zero, List.set_cons_succ]
              refine wpAnyH_take (i := 27) (v := ?_) rfl (by kernel_rfl) (by kernel_rfl) (by kernel_rfl) (fun _ _ _ h => h) (Or.inl ⟨by simp [Region.wanted, yielded], ?_⟩) (by assumption) ?_
              rotate_left
              · intro w hSw; (try dsimp only at hSw); go_simp; (try with_reducible rfl)
              try simp only [Act.put]
              simp only [List.getElem_toArray, List.getElem_cons_zero, List.getElem_cons_succ, List.setIfInBounds_toArray, List.set_cons_zero, List.set_cons_succ]
              refine wpAnyH_take (i := 28) (v := ?_) rfl (by kernel_rfl) (by kernel_rfl) (by kernel_rfl) (fun _ _ _ h => h) (Or.inl ⟨by simp [Region.wanted, yielded], ?_⟩) (by assumption) ?_
              rotate_left
              · intro w hSw; (try dsimp only at hSw); go_simp; (try with_reducible rfl)
              try simp only [Act.put]
              simp only [List.getElem_toArray, List.getElem_cons_zero, List.getElem_cons_succ, List.setIfInBounds_toArray, List.set_cons_zero, List.set_cons_succ]
              refine wpAnyH_take (i := 29) (v := ?_) rfl (by kernel_rfl) (by kernel_rfl) (by kernel_rfl) (fun _ _ _ h => h) (Or.inl ⟨by simp [Region.wanted, yielded], ?_⟩) (by assumption) ?_
              rotate_left
              · intro w hSw; (try dsimp only at hSw); go_simp; (try with_reducible rfl)
              try simp only [Act.put]
              simp only [List.getElem_toArray, List.getElem_cons_zero, List.getElem_cons_succ, List.setIfInBounds_toArray, List.set_cons_zero, List.set_cons_succ]
              refine wpAnyH_take (i := 30) (v := .bool false) rfl (by kernel_rfl) (by kernel_rfl) (by kernel_rfl) (fun _ _ _ h => h) (Or.inl ⟨by simp [Region.wanted, yielded], ?_⟩) (by assumption) ?_
              · intro w hSw; go_simp
              try simp only [Act.put]
              simp only [List.getElem_toArray, List.getElem_cons_zero, List.getElem_cons_succ, List.setIfInBounds_toArray, List.set_cons_zero, List.set_cons_succ]
              refine wpAnyH_take (i := 31) (v := ?_) rfl (by kernel_rfl) (by kernel_rfl) (by kernel_rfl) (fun _ _ _ h => h) (Or.inl ⟨by simp [Region.wanted], ?_⟩) (by assumption) ?_
              rotate_left
              · intro w hSw; (try dsimp only at hSw); go_simp; (try with_reducible rfl)
              try simp only [Act.put]
              simp only [List.getElem_toArray, List.getElem_cons_zero, List.getElem_cons_succ, List.setIfInBounds_toArray, List.set_cons_zero, List.set_cons_succ]
              refine wpAnyH_take (i := 32) (v := ?_) rfl (by kernel_rfl) (by kernel_rfl) (by kernel_rfl) (fun _ _ _ h => h) (Or.inl ⟨by simp [Region.wanted], ?_⟩) (by assumption) ?_
              rotate_left
              · intro w hSw; (try dsimp only at hSw); go_simp; (try with_reducible rfl)
              try simp only [Act.put]
              simp only [List.getElem_toArray, List.getElem_cons_zero, List.getElem_cons_succ, List.setIfInBounds_toArray, List.set_cons_zero, List.set_cons_succ]
              refine wpAnyH_take (i := 33) (v := ?_) rfl (by kernel_rfl) (by kernel_rfl) (by kernel_rfl) (fun _ _ _ h => h) (Or.inl ⟨by simp [Region.wanted, yielded], ?_⟩) (by assumption) ?_
              rotate_left
              · intro w hSw; (try dsimp only at hSw); go_simp; (try with_reducible rfl)
              try simp only [Act.put]
              simp only [List.getElem_toArray, List.getElem_cons_zero, List.getElem_cons_succ, List.setIfInBounds_toArray, List.set_cons_zero, List.set_cons_succ]
              refine wpAnyH_take (i := 34) (v := ?_) rfl (by kernel_rfl) (by kernel_rfl) (by kernel_rfl) (fun _ _ _ h => h) (Or.inl ⟨by simp [Region.wanted, yielded], ?_⟩) (by assumption) ?_
              rotate_left
              · intro w hSw; (try dsimp only at hSw); go_simp; (try with_reducible rfl)
              try simp only [Act.put]
              simp only [List.getElem_toArray, List.getElem_cons_zero, List.getElem_cons_succ, List.setIfInBounds_toArray, List.set_cons_zero, List.set_cons_succ]
              refine wpAnyH_take (i := 35) (v := ?_) rfl (by kernel_rfl) (by kernel_rfl) (by kernel_rfl) (fun _ _ _ h => h) (Or.inl ⟨by simp [Region.wanted, yielded], ?_⟩) (by assumption) ?_
              rotate_left
              · intro w hSw; (try dsimp only at hSw); go_simp; (try with_reducible rfl)
              try simp only [Act.put]
              simp only [List.getElem_toArray, List.getElem_cons_zero, List.getElem_cons_succ, List.setIfInBounds_toArray, List.set_cons_zero, List.set_cons_succ]
              refine wpAnyH_take (i := 36) (v := ?_) rfl (by kernel_rfl) (by kernel_rfl) (by kernel_rfl) (fun _ _ _ h => h) (Or.inl ⟨by simp [Region.wanted, yielded], ?_⟩) (by assumption) ?_
              rotate_left
              · intro w hSw; (try dsimp only at hSw); go_simp; (try with_reducible rfl)
              try simp only [Act.put]
              simp only [List.getElem_toArray, List.getElem_cons_zero, List.getElem_cons_succ, List.setIfInBounds_toArray, List.set_cons_zero, List.set_cons_succ]
              refine wpAnyH_take (i := 37) (v := ?_) rfl (by kernel_rfl) (by kernel_rfl) (by kernel_rfl) (fun _ _ _ h => h) (Or.inl ⟨by simp [Region.wanted, yielded], ?_⟩) (by assumption) ?_
              rotate_left
              · intro w hSw; (try dsimp only at hSw); go_simp; (try with_reducible rfl)
              try simp only [Act.put]
              simp only [List.getElem_toArray, List.getElem_cons_zero, List.getElem_cons_succ, List.setIfInBounds_toArray, List.set_cons_zero, List.set_cons_succ]
              refine wpAnyH_take (i := 38) (v := ?_) rfl (by kernel_rfl) (by kernel_rfl) (by kernel_rfl) (fun _ _ _ h => h) (Or.inl ⟨by simp [Region.wanted, yielded], ?_⟩) (by assumption) ?_
              rotate_left
              · intro w hSw; (try dsimp only at hSw); go_simp; (try with_reducible rfl)
              try simp only [Act.put]
              simp only [List.getElem_toArray, List.getElem_cons_zero, List.getElem_cons_succ, List.setIfInBounds_toArray, List.set_cons_zero, List.set_cons_succ]
              refine wpAnyH_take (i := 39) (v := ?_) rfl (by kernel_rfl) (by kernel_rfl) (by kernel_rfl) (fun _ _ _ h => h) (Or.inl ⟨by simp [Region.wanted, yielded], ?_⟩) (by assumption) ?_
              rotate_left
              · intro w hSw; (try dsimp only at hSw); go_simp; (try with_reducible rfl)
              try simp only [Act.put]
              simp only [List.getElem_toArray, List.getElem_cons_zero, List.getElem_cons_succ, List.setIfInBounds_toArray, List.set_cons_zero, List.set_cons_succ]
              refine wpAnyH_ready (rs := [40]) (by kernel_rfl) (by simp) ?_
              refine AllReadyH.cons rfl (fun K hK => ?_) AllReadyH.nil
              go_simp
              refine h0.mono ?_
              rintro e w10 ⟨rfl, rfl⟩
              refine hK.out _ _ hHeld (fun hHeld10 => ?_)
              clear hK K
              try simp only [Act.put, List.setIfInBounds_toArray, List.set_cons_zero, List.set_cons_succ]
              refine wpAnyH_take (i := 41) (v := ?_) rfl (by kernel_rfl) (by kernel_rfl) (by kernel_rfl) (fun _ _ _ h => h) (Or.inl ⟨by simp [Region.wanted], ?_⟩) (by assumption) ?_
              rotate_left
              · intro w hSw; (try dsimp only at hSw); go_simp; (try with_reducible rfl)
              try simp only [Act.put]
              simp only [List.getElem_toArray, List.getElem_cons_zero, List.getElem_cons_succ, List.setIfInBounds_toArray, List.set_cons_zero, List.set_cons_succ]
              refine wpAnyH_done (by kernel_rfl) ?_ _
              have hbd : Below w9.heap.size w9 w9.drew := below_drewN (Below.refl _ _) 1
              have HG10 : Hid (Grp w5.heap.size (.slice (some ⟨w5.heap.size, 0, none⟩) N N) svs (atL N P) w9.drew) := HG9.out.go hbd
              have HB10 : Hid (Below w5.heap.size w5 w9.drew) := HB59.out.trans (hbd.mono HB59.out.size)
              have e0 := hHeld10.1
              have e1 := hHeld10.2.1
              have e2 := hHeld10.2.2.2.2.2.2.2.2
              have HDB : Hid (db < w9.drew.heap.size) := World.block_lt_of_cell? _ _ e0
              have HXD10 : Hid (Blk 27 w9.drew db [.int .i64 (u : Int), .int .i64 (v : Int)]) := by
                have h1 := HXD9.out.go hbd
                rw [hdb] at h1
                exact h1
              have HPSB : Hid (∀ q, (Value.slice ps xs.length cs).ownBlock = some q → q < db) := by
                have h1 := HSUB.out
                rw [hdb] at h1
                exact h1
              clear hHeld hHeld10 hbd d0 d1 x0 x1 n0 c9 k0 k1 s0 h0 hht HG9 HB59 HXD9
              generalize w9.drew = w10 at *
              go_wp2_with fail
              refine wp_region_last (S := (fun w' : World => w'.cell? ⟨db, 0, none⟩ = some (.int .i64 (u : Int)) ∧ w'.cell? ⟨db, 1, none⟩ = some (.int .i64 (v : Int)) ∧ w'.cell? ⟨gb, u, none⟩ = some (.slice ps xs.length cs))) (by kernel_rfl) ?_ (fun hHeld => ?_)
              · (try dsimp only); go_keep
              refine wpAnyL_take (i := 0) (v := ?_) rfl (by kernel_rfl) (by kernel_rfl) (by kernel_rfl) (by kernel_rfl) (fun _ _ _ h => h) (Or.inl ⟨by rfl, ?_⟩) (by assumption) ?_
              rotate_left
              · intro w hSw; (try dsimp only at hSw); go_simp; (try with_reducible rfl)
              try simp only [Act.put, List.setIfInBounds_toArray]
              refine wpAnyL_take (i := 1) (v := ?_) rfl (by kernel_rfl) (by kernel_rfl) (by kernel_rfl) (by kernel_rfl) (fun _ _ _ h => h) (Or.inl ⟨by rfl, ?_⟩) (by assumption) ?_
              rotate_left
              · intro w hSw; (try dsimp only at hSw); go_simp; (try with_reducible rfl)
              try simp only [Act.put]
              refine wpAnyL_take (i := 2) (v := ?_) rfl (by kernel_rfl) (by kernel_rfl) (by kernel_rfl) (by kernel_rfl) (fun _ _ _ h => h) (Or.inl ⟨by rfl, ?_⟩) (by assumption) ?_
              rotate_left
              · intro w hSw; (try dsimp only at hSw); go_simp; (try with_reducible rfl)
              try simp only [Act.put]
              refine wpAnyL_take (i := 3) (v := ?_) rfl (by kernel_rfl) (by kernel_rfl) (by kernel_rfl) (by kernel_rfl) (fun _ _ _ h => h) (Or.inl ⟨by rfl, ?_⟩) (by assumption) ?_
              rotate_left
              · intro w hSw; (try dsimp only at hSw); go_simp; (try with_reducible rfl)
              try simp only [Act.put]
              refine wpAnyL_take (i := 4) (v := ?_) rfl (by kernel_rfl) (by kernel_rfl) (by kernel_rfl) (by kernel_rfl) (fun _ _ _ h => h) (Or.inl ⟨by rfl, ?_⟩) (by assumption) ?_
              rotate_left
              · intro w hSw; (try dsimp only at hSw); go_simp; (try with_reducible rfl)
              try simp only [Act.put]
              refine wpAnyL_take (i := 5) (v := ?_) rfl (by kernel_rfl) (by kernel_rfl) (by kernel_rfl) (by kernel_rfl) (fun _ _ _ h => h) (Or.inl ⟨by rfl, ?_⟩) (by assumption) ?_
              rotate_left
              · intro w hSw; (try dsimp only at hSw); go_simp; (try with_reducible rfl)
              try simp only [Act.put]
              refine wpAnyL_take (i := 6) (v := ?_) rfl (by kernel_rfl) (by kernel_rfl) (by kernel_rfl) (by kernel_rfl) (fun _ _ _ h => h) (Or.inl ⟨by rfl, ?_⟩) (by assumption) ?_
              rotate_left
              · intro w hSw; (try dsimp only at hSw); go_simp; (try with_reducible rfl)
              try simp only [Act.put]
              refine wpAnyL_take (i := 7) (v := ?_) rfl (by kernel_rfl) (by kernel_rfl) (by kernel_rfl) (by kernel_rfl) (fun _ _ _ h => h) (Or.inl ⟨by rfl, ?_⟩) (by assumption) ?_
              rotate_left
              · intro w hSw; (try dsimp only at hSw); go_simp; (try with_reducible rfl)
              try simp only [Act.put]
              refine wpAnyL_take (i := 8) (v := ?_) rfl (by kernel_rfl) (by kernel_rfl) (by kernel_rfl) (by kernel_rfl) (fun _ _ _ h => h) (Or.inl ⟨by rfl, ?_⟩) (by assumption) ?_
              rotate_left
              · intro w hSw; (try dsimp only at hSw); go_simp; (try with_reducible rfl)
              try simp only [Act.put]
              refine wpAnyL_take (i := 9) (v := ?_) rfl (by kernel_rfl) (by kernel_rfl) (by kernel_rfl) (by kernel_rfl) (fun _ _ _ h => h) (Or.inl ⟨by rfl, ?_⟩) (by assumption) ?_
              rotate_left
              · intro w hSw; (try dsimp only at hSw); go_simp; (try with_reducible rfl)
              try simp only [Act.put]
              have hbd : Below w10.heap.size w10 w10.drew := below_drewN (Below.refl _ _) 1
              have hG11 := HG10.out.go hbd
              have hB11 := HB10.out.trans (hbd.mono HB10.out.size)
              have hbd0 := hbd
              clear hbd e0 e1 e2
              generalize w10.drew = w11 at *
              have hbA : Below w11.heap.size w11 (w11.alloc (.cells #[.int .i64 (v : Int)] 3)) := (Below.refl _ _).alloc (Nat.le_refl _) _
              have hGA := hG11.go hbA
              have hBA := hB11.trans (hbA.mono hB11.size)
              have hownA := hGA.inn u _ xs hsu HAT.out
              have hnw : Src (w11.alloc (.cells #[.int .i64 (v : Int)] 3)) (.slice (some ⟨w11.heap.size, 0, none⟩) 1 1) 1 1 [.int .i64 (v : Int)] := .inr ⟨⟨w11.heap.size, 0, none⟩, 1, rfl, rfl, one_cell w11 (.int .i64 (v : Int)) 3, fun z hz => by rw [List.mem_singleton.1 hz]; rfl⟩
              have hmx : xs.length + 1 ≤ maxLen := by unfold maxLen; omega
              have hby : (xs.length + 1) * 8 ≤ 140737488355328 := by omega
              have hsA : w5.heap.size ≤ (w11.alloc (.cells #[.int .i64 (v : Int)] 3)).heap.size := hBA.size
              refine wpAnyL_ready (rs := [10]) (by kernel_rfl) (by simp) ?_
              refine AllReadyL.cons rfl (fun K hK => ?_) AllReadyL.nil
              go_simp
              refine hK.out _ _ ⟨cell_keepK hbA hHeld.1, cell_keepK hbA hHeld.2.1, cell_keepK hbA hHeld.2.2⟩ (fun hHeld12 => ?_)
              clear hK K
              try simp only [Act.put, List.setIfInBounds_toArray, List.set_cons_zero, List.set_cons_succ]
              refine wpAnyL_ready (rs := [11]) (by kernel_rfl) (by simp) ?_
              refine AllReadyL.cons rfl (fun K hK => ?_) AllReadyL.nil
              refine step_append_src rfl _ _ 41 rfl w5.heap.size 3 j0 (.int .i64 0) 1 8 Try.underlying41 hj hy0 hy1 hy2 rfl (by decide) (.slice ps xs.length cs) xs.length (xs.map (Value.int .i64)) rfl hownA (.slice (some ⟨w11.heap.size, 0, none⟩) 1 1) 1 [.int .i64 (v : Int)] rfl hnw hmx hby hsA ?_
              intro v8 w12 ho8 hg8 hat8
              obtain ⟨a8, m8, k8, rfl⟩ := owns_slice ho8
              have hsl : svs.length = N := by have := hG11.len; rw [atL_len] at this; exact this
              have hne1 : some gb ≠ (Value.slice ps xs.length cs).ownBlock := by
                intro e
                rcases hG11.outer u _ hsu with h1 | h1
                · rw [h1] at e; cases e
                · rw [← e, ← hgb] at h1; exact h1 rfl
              have hgl : gb < w11.heap.size := by have := (hG11.own.lt w5.heap.size rfl).2; omega
              have c12 : w12.cell? ⟨gb, u, none⟩ = some (.slice ps xs.length cs) := by
                have h1 := hG11.own
                have h2 := owns_keep (World.ownsRow.alloc h1 (.cells #[.int .i64 (v : Int)] 3)) hg8 (.inr (by rw [hgb]; exact hne1))
                have h3 := h2.cells (g := w5.heap.size) rfl u _ hsu
                rw [Go.WideShapes.add_plain, Nat.zero_add, hgb] at h3
                exact h3
              have f12 : w12.frozen? ⟨gb, u, none⟩ = false := by
                have h1 := hG11.own
                have h2 := owns_keep (World.ownsRow.alloc h1 (.cells #[.int .i64 (v : Int)] 3)) hg8 (.inr (by rw [hgb]; exact hne1))
                rw [hsl] at h2
                have h3 := h2.frozenAt u
                rw [hgb] at h3
                exact h3
              have hpush : Grp w5.heap.size (.slice (some ⟨w5.heap.size, 0, none⟩) N N) (svs.set u (.slice a8 m8 k8)) ((atL N P).set u (xs ++ [(v : Int)])) (w12.setCell ⟨w5.heap.size, u, none⟩ (.slice a8 m8 k8)) := by
                have h1 : Grp w5.heap.size (.slice (some ⟨w5.heap.size, 0, none⟩) svs.length N) svs (atL N P) w11 := by rw [hsl]; exact hG11
                have h2 := h1.push hsu HAT.out ho8 hg8 hat8
                rw [hsl] at h2
                exact h2
              have HPUSH : Hid (Grp w5.heap.size (.slice (some ⟨w5.heap.size, 0, none⟩) N N) (svs.set u (.slice a8 m8 k8)) (atL N (P ++ [((u : Int), (v : Int))])) (w12.setCell ⟨gb, u, none⟩ (.slice a8 m8 k8))) := by
                unfold Hid
                rw [HPU.out, ← hgb]
                exact hpush
              have hlow : ∀ q, (Value.slice ps xs.length cs).ownBlock = some q → w5.heap.size ≤ q := fun q hq => (hownA.lt q hq).1
              have HBF : Hid (Below w5.heap.size w5 (w12.setCell ⟨gb, u, none⟩ (.slice a8 m8 k8))) := (hBA.grown hg8 hsA hlow).setCell (p := ⟨gb, u, none⟩) (by simp only; omega) _
              have hXd12 := ((HXD10.out.go hbd0).go hbA).grown hg8 (fun e => by have := HPSB.out db e.symm; omega)
              have e12 : w12.cell? ⟨db, 0, none⟩ = some (.int .i64 (u : Int)) ∧ w12.cell? ⟨db, 1, none⟩ = some (.int .i64 (v : Int)) := ⟨hXd12.cell (j := 0) rfl, hXd12.cell (j := 1) rfl⟩
              refine hK.out _ _ ⟨e12.1, e12.2, c12⟩ (fun hHeld13 => ?_)
              clear hK K
              try simp only [Act.put, List.setIfInBounds_toArray]
              clear ho8 hg8 hat8 hpush hownA hnw hGA hBA hbA hG11 hB11 hHeld hHeld12 hXd12 hbd0 HXD10 HG10 HB10
              refine wpAnyL_take (i := 12) (v := ?_) rfl (by kernel_rfl) (by kernel_rfl) (by kernel_rfl) (by kernel_rfl) (fun _ _ _ h => h) (Or.inl ⟨by rfl, ?_⟩) (by assumption) ?_
              rotate_left
              · intro w hSw; (try dsimp only at hSw); go_simp; (try with_reducible rfl)
              try simp only [Act.put]
              refine wpAnyL_ready (rs := [13]) (by kernel_rfl) (by simp) ?_
              refine AllReadyL.last rfl (by kernel_rfl) (fun K hK => ?_)
              go_simp
              refine hK.out _ _ ?_
              clear hK K
              try simp only [Act.put, List.setIfInBounds_toArray, List.set_cons_zero, List.set_cons_succ]
              refine wpAnyL_done (by kernel_rfl) ?_ _
              clear hHeld13 c12 f12 e12
              generalize w12.setCell ⟨gb, u, none⟩ (.slice a8 m8 k8) = w14 at *
              subst hgb
              subst hwb
              subst hdb
              subst hxb
              go_wp2
              exact ⟨⟨j + 1, P ++ [((u : Int), (v : Int))], svs.set u (.slice a8 m8 k8), HJL.out, by go_num, HST.out.symm, by show Value.int .i64 _ = Value.int .i64 _; congr 1; rw [List.length_append]; simp, HPUSH.out, HBF.out⟩, by have := HJL.out; simp [intOf]; omega⟩
            · have hjn : ¬ (j : Int) < (f.length : Int) := by omega
              have HPN : Hid (P = preF fs (i + 1) 0) := by unfold Hid; rw [HP.out]; exact preF_full2 HFI.out (by omega)
              have HG : Hid (Grp w5.heap.size (.slice (some ⟨w5.heap.size, 0, none⟩) N N) svs (atL N P) wr) := hG
              have HB : Hid (Below w5.heap.size w5 wr) := hb
              clear hG hb hDx hjl HP
              go_wp2
              exact ⟨⟨i + 1, P, svs, HLT.out, by go_num, HPN.out, rfl, HG.out, HB.out⟩, by have := HLT.out; simp [intOf]; omega⟩
        · have hin : ¬ (i : Int) < (fs.length : Int) := by omega
          have hPl : P.length = 2 * l.length := by
            have e : i = fs.length := by omega
            rw [HP.out, e, preF_all]
            exact HFL.out
          have q1 := (HX5.out.below hb HX5L.out).cell (j := 1) rfl
          have HB : Hid (Below w.heap.size w wr) := HB5.out.trans (hb.mono HB5.out.size)
          have hPb : ((P.length : Int) == 2 * (l.length : Int)) = true := by rw [beq_iff_eq]; omega
          clear hG hb hlt hPl HP
          go_wp2_with fail
          refine (alive_any wr).mono ?_
          rintro e w9 ⟨rfl, hb9⟩
          have HB9 : Hid (Below w.heap.size w w9) := HB.out.trans (hb9.mono HB.out.size)
          clear hb9
          go_wp2
          go_ret
          exact ⟨rfl, HB9.out⟩
    · have hkb : (sysK n l r != 0) = true := by simpa using hk
      generalize sysK n l r = k at *
      go_wp2_with fail
      refine hrc.mono ?_
      clear hrc
      rintro e w4 ⟨rfl, hb4⟩
      have HB4 : Hid (Below w.heap.size w w4) := HB3.out.trans (hb4.mono HB3.out.size)
      clear hb4 q0 q1
      go_wp2_with fail
      refine (alive_any w4).mono ?_
      rintro e w5 ⟨rfl, hb5⟩
      have HB5 : Hid (Below w.heap.size w w5) := HB4.out.trans (hb5.mono HB4.out.size)
      clear hb5
      go_wp2
      go_ret
      exact ⟨rfl, HB5.out⟩
end Go.Proofs.Ytnmlbkmbiecpnaa
