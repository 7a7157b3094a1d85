/-
  The walk of filigreelaw06.PartsAll.
-/
import Derived.Deep.QuietTactic
import Derived.BigQuiet
import Derived.Test.YtdadpfkoocpfaaaPAlive
import Derived.Test.YtdadpfkoocpfaaaPParts2
import Derived.Test.YtdadpfkoocpfaaaPAllMath
import Derived.Test.YtdadpfkoocpfaaaPCompLaw
namespace Go.Proofs.Ytdadpfkoocpfaaa
open Go Go.Proofs Go.RowKit

/-- Which slice list i is. -/
theorem Grp.sv {h0 : Nat} {lv : Value} {svs : List Value} {pre : List (List Int)} {W : World} (h : Grp h0 lv svs pre W) {i : Nat} {g : List Int} (hg : pre[i]? = some g) : ∃ p c, svs[i]? = some (.slice p g.length c) ∧ ∀ (k : Nat) (x : Int), g[k]? = some x → ∃ ib, p = some ⟨ib, 0, none⟩ ∧ h0 ≤ ib := by
  have hi := (List.getElem?_eq_some_iff.1 hg).1
  have hl := h.len
  obtain ⟨sv, hsv⟩ : ∃ sv, svs[i]? = some sv := ⟨_, List.getElem?_eq_getElem (by omega)⟩
  have hin := h.inn i sv g hsv hg
  obtain ⟨p, c, rfl⟩ := owns_formP hin
  refine ⟨p, c, hsv, fun k x hx => ?_⟩
  have hk := (List.getElem?_eq_some_iff.1 hx).1
  obtain ⟨ib, cc, he⟩ := owns_pos hin (by omega)
  simp only [Value.slice.injEq] at he
  obtain ⟨rfl, _, rfl⟩ := he
  exact ⟨ib, rfl, (hin.lt ib rfl).1⟩
theorem Grp.outerAt {h0 gb m cap : Nat} {svs : List Value} {pre : List (List Int)} {W : World} (h : Grp h0 (.slice (some ⟨gb, 0, none⟩) m cap) svs pre W) {i : Nat} {v : Value} (hs : svs[i]? = some v) : W.cell? ⟨gb, i, none⟩ = some v := by
  have hi := (List.getElem?_eq_some_iff.1 hs).1
  have ho := h.own
  obtain ⟨p, c, he⟩ := owns_formP ho
  simp only [Value.slice.injEq] at he
  obtain ⟨rfl, rfl, rfl⟩ := he
  exact (ho.cellAt i (by omega)).trans hs
theorem Grp.innerAt {h0 ib c i : Nat} {lv : Value} {svs : List Value} {pre : List (List Int)} {W : World} {g : List Int} (h : Grp h0 lv svs pre W) (hg : pre[i]? = some g) (hs : svs[i]? = some (.slice (some ⟨ib, 0, none⟩) g.length c)) {k : Nat} {x : Int} (hx : g[k]? = some x) : W.cell? ⟨ib, k, none⟩ = some (.int .i64 x) := by
  have hk := (List.getElem?_eq_some_iff.1 hx).1
  have hin := h.inn i _ g hs hg
  rw [hin.cellAt k (by omega), List.getElem?_map, hx]
  rfl

theorem those_mem {Pk : Nat → Bool} {j : Nat} {x : Int} (h : x ∈ thoseL Pk j) : ∃ k : Nat, x = (k : Int) ∧ k < j ∧ Pk k = true := by
  unfold thoseL at h
  obtain ⟨k, hk, rfl⟩ := List.mem_map.1 h
  rw [List.mem_filter, List.mem_range] at hk
  exact ⟨k, rfl, hk.1, hk.2⟩

set_option maxRecDepth 100000 in
set_option maxHeartbeats 8000000 in
theorem all_law (n : Int) (l : List Ed) (sv : Value) (w : World) (hl : Edges w.heap.size w sv l) :
    Calls Try.prog 7 #[.agg #[.int .i64 n, sv]] w fun e w' => e = .returned (.bool true) ∧ Below w.heap.size w w' := by
  have hmix := mixed
  have hg1 : Grew w (w.alloc (.cells #[.int .i64 n, sv] 24)) := (Grew.refl w).alloc _
  have hl1 := hl.go hg1.below
  obtain ⟨p, c, rfl⟩ := hl.len
  obtain ⟨i0, hi, hz0, hz1, hz2⟩ := info_parts infoI
  have hlt := light_any n l 60 (by decide) (by decide) (.slice p l.length c) _ hl1
  go_enter Try.func7, Try.ntmps7
  go_wp2_with fail
  refine hlt.mono ?_
  rintro e w2 ⟨rfl, hg2⟩
  obtain ⟨q0, q1⟩ := box2 _ hg2
  have hbox := box2_lt hg2
  have hbw2 := (hg1.trans hg2).below
  have hl2 := hl.go hbw2
  clear hlt hl1 hg1 hg2
  cases hL : lightB n l 60 with
  | false =>
    go_wp2_with fail
    refine (alive_any w2).mono ?_
    rintro e w3 ⟨rfl, hb3⟩
    have HB : Hid _ := hbw2.trans (hb3.mono hbw2.size)
    clear hb3 hbw2 hl2
    go_wp2
    go_ret
    exact ⟨rfl, HB.out⟩
  | true =>
    have hrr := refRight_any n l (.slice p l.length c) w2 hl2
    go_wp2_with fail
    refine hrr.mono ?_
    rintro e w3 ⟨rfl, hg3⟩
    have r0 := cell_keepK hg3.below q0
    have r1 := cell_keepK hg3.below q1
    have hbw3 := hbw2.trans (hg3.below.mono hbw2.size)
    have hl3 := hl.go hbw3
    have hbox3 : w.heap.size < w3.heap.size := Nat.lt_of_lt_of_le hbox hg3.below.size
    clear hrr hg3 q0 q1 hbw2 hl2 hbox
    by_cases hk : rightK n l = 0
    · have hR := right_iff.1 hk
      obtain ⟨N, rfl⟩ : ∃ N : Nat, n = (N : Int) := ⟨n.toNat, by have := hR.n0; omega⟩
      have hn1 := hR.n1
      have hm1 := hR.m1
      have hlenR : (walkW N l).root.length = N := (walkW_ok hR).lenR
      have hlenB : (walkW N l).block.length = l.length := (walkW_ok hR).lenK
      have HLR := root_labels hR
      have HLB := block_labels hR
      have HR : Hid _ := hR
      rw [hk]
      clear hk hL hR
      generalize hxb : w.heap.size = xb at r0 r1 hbox3
      go_wp2_with (at_make; refine wpList_make_full _ rfl _ _ 33 rfl w3.heap.size 3 i0 (.int .i64 0) 1 Try.underlying33 hi hz0 hz1 .i64 .i64 _ _ N rfl rfl rfl rfl (by rw [hz2]; omega) (by unfold maxLen; omega) (Nat.le_refl _) ?_; intro w4 hown hgrow; have hb4 : Below w3.heap.size w3 w4 := (Below.refl _ _).grown hgrow (Nat.le_refl _) (fun k e => by cases e); have s0 := cell_keepK hb4 r0; have s1 := cell_keepK hb4 r1)
      have hM4 := Blk.made hown
      rw [ints_made, ← cn_nil] at hM4
      have hbw4 := hbw3.trans (hb4.mono hbw3.size)
      have hl4 := hl3.go hb4
      have hmb4 : w3.heap.size < w4.heap.size := hM4.lt
      clear hown hgrow hb4 hbw3 hl3 r0 r1
      generalize w3.heap.size = mb at *
      refine (components_at N l HR.out HLR hlenR _ _ hl4).mono ?_
      rintro e w5 ⟨lv5, svs, h0, rfl, hG5, hh0, hb5⟩
      have hGl : (gath (walkW N l).root (walkW N l).root.length).2 = gOf (walkW N l).root := rfl
      rw [hGl] at hG5
      obtain ⟨pl, cl, rfl⟩ := hG5.lsts.len
      have hM5 := hM4.go hb5
      have t0 := cell_keepK hb5 s0
      have t1 := cell_keepK hb5 s1
      have hbw5 := hbw4.trans (hb5.mono hbw4.size)
      have hGlen := gath_short2 (walkW N l).root
      rw [hGl, hlenR] at hGlen
      have hmh : mb < h0 := by omega
      have HG5 : Hid _ := hG5
      have HM5 : Hid (Blk 3 w5 mb ((cn N []).map (Value.int .i64))) := hM5
      have HGS : Hid (∀ g ∈ gOf (walkW N l).root, g.length ≤ N) := fun g hg => by have := gath_short (walkW N l).root (walkW N l).root.length g hg; rw [hlenR] at this; exact this
      have HFC : Hid (∀ v, v < N → (gOf (walkW N l).root).flatten.count (v : Int) = 1) := fun v hv => flat_count (by rw [hlenR]; exact hv)
      have HAT : Hid (∀ {i k : Nat} {g : List Int} {x : Int}, (gOf (walkW N l).root)[i]? = some g → g[k]? = some x → ∃ p : Nat, x = (p : Int) ∧ p < N ∧ (p : Int) ∉ pre2 (gOf (walkW N l).root) i k) := fun hg hx => by
        obtain ⟨p, h1, h2, _, h3⟩ := all_at hg hx
        rw [hlenR] at h2
        exact ⟨p, h1, h2, h3⟩
      clear hG5 hM5 hM4 hb5 s0 s1 hl4 hbw4 hGl
      generalize gOf (walkW N l).root = G at *
      go_wp2
      go_loopw [5] (fun iv wr => ∃ i : Nat, i ≤ G.length ∧ iv = .int .i64 i ∧ Hid (Grp h0 (.slice pl G.length cl) svs G wr) ∧ Hid (Blk 3 wr mb ((cn N (pre2 G i 0)).map (Value.int .i64))) ∧ Hid (Below mb w5 wr)) (fun i _ => G.length - (intOf i).toNat)
      case atStart => exact ⟨0, Nat.zero_le _, rfl, HG5.out, by unfold Hid; rw [show pre2 G 0 0 = [] from by simp [pre2]]; exact HM5.out, Below.refl _ _⟩
      case round =>
        obtain ⟨i, hil, rfl, HGr, HMr, HBr⟩ := hrel
        by_cases hlt : i < G.length
        · obtain ⟨g, hg⟩ : ∃ g, G[i]? = some g := ⟨_, List.getElem?_eq_getElem hlt⟩
          obtain ⟨pi, ci, hsi, hpi⟩ := HGr.out.sv hg
          have hgl := HGS.out g (List.mem_of_getElem? hg)
          obtain ⟨gb, rfl⟩ : ∃ gb, pl = some ⟨gb, 0, none⟩ := by
            have hl := HGr.out.len
            obtain ⟨gb, cap, he⟩ := owns_pos HGr.out.own (by omega)
            simp only [Value.slice.injEq] at he
            exact ⟨gb, he.1⟩
          have a1 := HGr.out.outerAt hsi
          have hil' : (i : Int) < (G.length : Int) := by omega
          have Hsi : Hid _ := hsi
          have Hg : Hid _ := hg
          have Hpi : Hid _ := hpi
          have HLT : Hid (i < G.length) := hlt
          clear hsi hg hpi hlt
          generalize wr = wq at *
          go_wp2
          go_loopw [6] (fun kv wr => ∃ k : Nat, k ≤ g.length ∧ kv = .int .i64 k ∧ Hid (Grp h0 (.slice (some ⟨gb, 0, none⟩) G.length cl) svs G wr) ∧ Hid (Blk 3 wr mb ((cn N (pre2 G i k)).map (Value.int .i64))) ∧ Hid (Below mb w5 wr)) (fun i _ => g.length - (intOf i).toNat)
          case atStart => exact ⟨0, Nat.zero_le _, rfl, HGr.out, HMr.out, HBr.out⟩
          case round =>
            obtain ⟨k, hkl, rfl, HG2, HM2, HB2⟩ := hrel
            have a2 := HG2.out.outerAt Hsi.out
            by_cases hlt : k < g.length
            · obtain ⟨x, hx⟩ : ∃ x, g[k]? = some x := ⟨_, List.getElem?_eq_getElem hlt⟩
              obtain ⟨pv, rfl, hpN, hnot⟩ := HAT.out Hg.out hx
              obtain ⟨ib, rfl, hib⟩ := Hpi.out k _ hx
              have a3 := HG2.out.innerAt Hg.out Hsi.out hx
              have hct : (pre2 G i k).count (pv : Int) = 0 := List.count_eq_zero.2 hnot
              have b0 : wr.cell? ⟨xb, 0, none⟩ = some (.int .i64 (N : Int)) := (HB2.out.cell (p := ⟨xb, 0, none⟩) hbox3).trans t0
              have hkl' : (k : Int) < (g.length : Int) := by omega
              have hpN' : (pv : Int) < (N : Int) := by omega
              have hng : ¬ (N : Int) ≤ (pv : Int) := by omega
              have HC : Hid ((cn N (pre2 G i k)).set pv 1 = cn N (pre2 G i (k + 1))) := by
                unfold Hid
                rw [pre2_step Hg.out hx, ← cn_step, hct]
                rfl
              have HK : Hid (k < g.length) := hlt
              have Hct : Hid _ := hct
              have Hx : Hid _ := hx
              clear hct hnot hx hlt hkl
              go_wp2
              go_quiet (fail)
              have hbq : Below wr.heap.size wr (wr.drewN nq) := below_drewN (Below.refl _ _) nq
              have HG4 : Hid _ := HG2.out.go hbq
              have HM4 : Hid (Blk 3 (wr.drewN nq) mb ((cn N (pre2 G i k)).map (Value.int .i64))) := HM2.out
              have HB4 : Hid (Below mb w5 (wr.drewN nq)) := below_drewN HB2.out nq
              clear hbq HG2 HM2 HB2 a2 a3 b0
              generalize wr.drewN nq = w9 at HG4 HM4 HB4 ⊢
              have a2 := HG4.out.outerAt Hsi.out
              have a3 := HG4.out.innerAt Hg.out Hsi.out Hx.out
              have m1 : w9.cell? ⟨mb, pv, none⟩ = some (.int .i64 0) := HM4.out.cell (by rw [List.getElem?_map, cn_at hpN, Hct.out]; rfl)
              have f1 := HM4.out.frozen pv
              have HM3 : Hid _ := HM4.out.set pv (.int .i64 1)
              have HG3 : Hid _ := HG4.out.low (p := ⟨mb, pv, none⟩) hmh (.int .i64 1)
              have HB3 : Hid _ := HB4.out.setCell (p := ⟨mb, pv, none⟩) (Nat.le_refl _) (.int .i64 1)
              clear HG4 HM4 HB4
              go_wp2
              refine ⟨⟨k + 1, HK.out, by have := HK.out; go_num, HG3.out, ?_, HB3.out⟩, by have := HK.out; simp [intOf]; omega⟩
              unfold Hid
              rw [← HC.out, List.map_set]
              exact HM3.out
            · obtain rfl : k = g.length := by omega
              have hng : ¬ (g.length : Int) < (g.length : Int) := by omega
              go_wp2
              refine ⟨⟨i + 1, HLT.out, by have := HLT.out; go_num, HG2.out, ?_, HB2.out⟩, by have := HLT.out; simp [intOf]; omega⟩
              rw [← pre2_next Hg.out]
              exact HM2.out
        · obtain rfl : i = G.length := by omega
          rw [pre2_all] at HMr
          have hbwr := hbw5.trans (HBr.out.mono (by omega))
          have hlr := hl.go hbwr
          have r0 : wr.cell? ⟨xb, 0, none⟩ = some (.int .i64 (N : Int)) := (HBr.out.cell (p := ⟨xb, 0, none⟩) hbox3).trans t0
          have r1 : wr.cell? ⟨xb, 1, none⟩ = some (.slice p l.length c) := (HBr.out.cell (p := ⟨xb, 1, none⟩) hbox3).trans t1
          clear HGr HBr t0 t1 hbw5 HAT HGS hGlen HG5 HM5 hmh hh0 hmb4
          generalize wr = wa at *
          generalize G.flatten = FL at *
          go_wp2
          go_loopw [7] (fun iv wr => ∃ v : Nat, v ≤ N ∧ iv = .int .i64 v ∧ wr = wa) (fun i _ => N - (intOf i).toNat)
          case atStart => exact ⟨0, Nat.zero_le _, rfl, rfl⟩
          case round =>
            obtain ⟨v, hvN, rfl, rfl⟩ := hrel
            by_cases hlt : v < N
            · have c0 : wr.cell? ⟨mb, v, none⟩ = some (.int .i64 1) := HMr.out.cell (by rw [List.getElem?_map, cn_at hlt, HFC.out v hlt]; rfl)
              have hvl : (v : Int) < (N : Int) := by omega
              go_wp2
              exact ⟨⟨v + 1, by omega, by go_num, trivial⟩, by simp [intOf]; omega⟩
            · obtain rfl : N = v := by omega
              clear HMr HFC hvN hlt
              have hvl : ¬ (N : Int) < (N : Int) := by omega
              have hwx : xb < wr.heap.size := World.block_lt_of_cell? wr ⟨xb, 0, none⟩ r0
              go_wp2_with (at_make; refine wpList_make_full _ rfl _ _ 33 rfl wr.heap.size 3 i0 (.int .i64 0) 1 Try.underlying33 hi hz0 hz1 .i64 .i64 _ _ l.length rfl rfl rfl rfl (by rw [hz2]; omega) (by unfold maxLen; omega) (Nat.le_refl _) ?_; intro wb hown hgrow; have hbb : Below wr.heap.size wr wb := (Below.refl _ _).grown hgrow (Nat.le_refl _) (fun k e => by cases e); have s0 := cell_keepK hbb r0; have s1 := cell_keepK hbb r1)
              have hO4 := Blk.made hown
              rw [ints_made, ← hlenB, ← ofL_nil] at hO4
              have hbwb := hbwr.trans (hbb.mono hbwr.size)
              have hlb := hlr.go hbb
              have hob4 : wr.heap.size < wb.heap.size := hO4.lt
              clear hown hgrow hbb hbwr hlr r0 r1
              generalize wr.heap.size = ob at *
              refine (blocks_at N l HR.out HLB hlenB _ _ hlb).mono ?_
              rintro e wc ⟨lv6, svs6, h6, rfl, hG6, hh6, hb6⟩
              have hGl : (gath (walkW N l).block (walkW N l).block.length).2 = gOf (walkW N l).block := rfl
              rw [hGl] at hG6
              obtain ⟨pb, cb, rfl⟩ := hG6.lsts.len
              have hO6 := hO4.go hb6
              have t0 := cell_keepK hb6 s0
              have t1 := cell_keepK hb6 s1
              have hbwc := hbwb.trans (hb6.mono hbwb.size)
              have hGlen := gath_short2 (walkW N l).block
              rw [hGl, hlenB] at hGlen
              have hoh : ob < h6 := by omega
              have HG6 : Hid _ := hG6
              have HGS : Hid (∀ g ∈ gOf (walkW N l).block, g.length ≤ l.length) := fun g hg => by have := gath_short (walkW N l).block (walkW N l).block.length g hg; rw [hlenB] at this; exact this
              have HAT : Hid (∀ {i k : Nat} {g : List Int} {x : Int}, (gOf (walkW N l).block)[i]? = some g → g[k]? = some x → ∃ p : Nat, x = (p : Int) ∧ p < l.length ∧ (oOf (walkW N l).block).idxOf ((walkW N l).block.getD p 0) = i ∧ (p : Int) ∉ pre2 (gOf (walkW N l).block) i k) := fun hg hx => by
                obtain ⟨p, h1, h2, h4, h3⟩ := all_at hg hx
                rw [hlenB] at h2
                exact ⟨p, h1, h2, h4, h3⟩
              have HIN : Hid (∀ p, p < l.length → (p : Int) ∈ (gOf (walkW N l).block).flatten) := fun p hp => all_in (by rw [hlenB]; exact hp)
              have HOF : Hid (∀ p, p < l.length → (gOf (walkW N l).block)[(oOf (walkW N l).block).idxOf ((walkW N l).block.getD p 0)]? = some (memb (walkW N l).block ((walkW N l).block.getD p 0) (walkW N l).block.length)) := fun p hp => gOf_of (by rw [hlenB]; exact hp)
              have HAL : Hid _ := alone_all (walkW N l).block
              have HBG : Hid (∀ p, bridgeB (walkW N l).block p = true → (memb (walkW N l).block ((walkW N l).block.getD p 0) (walkW N l).block.length).length = 1) := fun p hb => bridge_group hb
              have HO6 : Hid (Blk 3 wc ob ((ofL (walkW N l).block []).map (Value.int .i64))) := hO6
              have Hlen : Hid ((walkW N l).block.length = l.length) := hlenB
              clear hG6 hO6 hO4 hb6 s0 s1 hlb hbwb hGl HLR hlenR hlenB
              have HLB' : Hid _ := HLB
              clear HLB
              generalize hBL : (walkW N l).block = BL at *
              generalize hGG : gOf BL = G at *
              clear hGG
              go_wp2
              go_loopw [10] (fun iv wr => ∃ i : Nat, i ≤ G.length ∧ iv = .int .i64 i ∧ Hid (Grp h6 (.slice pb G.length cb) svs6 G wr) ∧ Hid (Blk 3 wr ob ((ofL BL (pre2 G i 0)).map (Value.int .i64))) ∧ Hid (Below ob wc wr)) (fun i _ => G.length - (intOf i).toNat)
              case atStart => exact ⟨0, Nat.zero_le _, rfl, HG6.out, by unfold Hid; rw [show pre2 G 0 0 = [] from by simp [pre2]]; exact HO6.out, Below.refl _ _⟩
              case round =>
                obtain ⟨i, hil, rfl, HGr, HMr, HBr⟩ := hrel
                by_cases hlt : i < G.length
                · obtain ⟨g, hg⟩ : ∃ g, G[i]? = some g := ⟨_, List.getElem?_eq_getElem hlt⟩
                  obtain ⟨pi, ci, hsi, hpi⟩ := HGr.out.sv hg
                  have hgl := HGS.out g (List.mem_of_getElem? hg)
                  obtain ⟨gb, rfl⟩ : ∃ gb, pb = some ⟨gb, 0, none⟩ := by
                    have hl := HGr.out.len
                    obtain ⟨gb, cap, he⟩ := owns_pos HGr.out.own (by omega)
                    simp only [Value.slice.injEq] at he
                    exact ⟨gb, he.1⟩
                  have a1 := HGr.out.outerAt hsi
                  have hil' : (i : Int) < (G.length : Int) := by omega
                  have Hsi : Hid _ := hsi
                  have Hg : Hid _ := hg
                  have Hpi : Hid _ := hpi
                  have HLT : Hid (i < G.length) := hlt
                  have HLE : Hid (i < l.length) := by unfold Hid; omega
                  clear hsi hg hpi hlt
                  generalize wr = wq at *
                  go_wp2
                  go_loopw [11] (fun kv wr => ∃ k : Nat, k ≤ g.length ∧ kv = .int .i64 k ∧ Hid (Grp h6 (.slice (some ⟨gb, 0, none⟩) G.length cb) svs6 G wr) ∧ Hid (Blk 3 wr ob ((ofL BL (pre2 G i k)).map (Value.int .i64))) ∧ Hid (Below ob wc wr)) (fun i _ => g.length - (intOf i).toNat)
                  case atStart => exact ⟨0, Nat.zero_le _, rfl, HGr.out, HMr.out, HBr.out⟩
                  case round =>
                    obtain ⟨k, hkl, rfl, HG2, HM2, HB2⟩ := hrel
                    have a2 := HG2.out.outerAt Hsi.out
                    by_cases hlt : k < g.length
                    · obtain ⟨x, hx⟩ : ∃ x, g[k]? = some x := ⟨_, List.getElem?_eq_getElem hlt⟩
                      obtain ⟨pv, rfl, hpN, hidx, hnot⟩ := HAT.out Hg.out hx
                      obtain ⟨ib, rfl, hib⟩ := Hpi.out k _ hx
                      have a3 := HG2.out.innerAt Hg.out Hsi.out hx
                      have m0 : wr.cell? ⟨ob, pv, none⟩ = some (.int .i64 0) := HM2.out.cell (by rw [List.getElem?_map, ofL_at (by rw [Hlen.out]; exact hpN), if_neg hnot]; rfl)
                      have b1 : wr.cell? ⟨xb, 1, none⟩ = some (.slice p l.length c) := (HB2.out.cell (p := ⟨xb, 1, none⟩) hwx).trans t1
                      have hkl' : (k : Int) < (g.length : Int) := by omega
                      have hpN' : (pv : Int) < (l.length : Int) := by omega
                      have hng : ¬ (l.length : Int) ≤ (pv : Int) := by omega
                      have HC : Hid ((ofL BL (pre2 G i k)).set pv ((i : Int) + 1) = ofL BL (pre2 G i (k + 1))) := by
                        unfold Hid
                        rw [pre2_step Hg.out hx, ← ofL_step _ hidx]
                      have HK : Hid (k < g.length) := hlt
                      have Hnot : Hid _ := hnot
                      have Hx : Hid _ := hx
                      clear hnot hx hlt hkl hidx
                      go_wp2
                      go_quiet (fail)
                      have hbq : Below wr.heap.size wr (wr.drewN nq) := below_drewN (Below.refl _ _) nq
                      have HG4 : Hid _ := HG2.out.go hbq
                      have HM4 : Hid (Blk 3 (wr.drewN nq) ob ((ofL BL (pre2 G i k)).map (Value.int .i64))) := HM2.out
                      have HB4 : Hid (Below ob wc (wr.drewN nq)) := below_drewN HB2.out nq
                      have m1 : (wr.drewN nq).cell? ⟨ob, pv, none⟩ = some (.int .i64 0) := m0
                      clear hbq HG2 HM2 HB2 a2 a3 b1 m0
                      generalize wr.drewN nq = w9 at HG4 HM4 HB4 m1 ⊢
                      have a2 := HG4.out.outerAt Hsi.out
                      have a3 := HG4.out.innerAt Hg.out Hsi.out Hx.out
                      have f1 := HM4.out.frozen pv
                      have HM3 : Hid _ := HM4.out.set pv (.int .i64 ((i : Int) + 1))
                      have HG3 : Hid _ := HG4.out.low (p := ⟨ob, pv, none⟩) hoh (.int .i64 ((i : Int) + 1))
                      have HB3 : Hid _ := HB4.out.setCell (p := ⟨ob, pv, none⟩) (Nat.le_refl _) (.int .i64 ((i : Int) + 1))
                      have hile := HLE.out
                      clear HG4 HM4 HB4
                      go_wp2
                      refine ⟨⟨k + 1, HK.out, by have := HK.out; go_num, HG3.out, ?_, HB3.out⟩, by have := HK.out; simp [intOf]; omega⟩
                      unfold Hid
                      rw [← HC.out, List.map_set]
                      exact HM3.out
                    · obtain rfl : k = g.length := by omega
                      have hng : ¬ (g.length : Int) < (g.length : Int) := by omega
                      go_wp2
                      refine ⟨⟨i + 1, HLT.out, by have := HLT.out; go_num, HG2.out, ?_, HB2.out⟩, by have := HLT.out; simp [intOf]; omega⟩
                      rw [← pre2_next Hg.out]
                      exact HM2.out
                · obtain rfl : i = G.length := by omega
                  rw [pre2_all] at HMr
                  have hbwr := hbwc.trans (HBr.out.mono (by omega))
                  have hlr := hl.go hbwr
                  have r0 : wr.cell? ⟨xb, 0, none⟩ = some (.int .i64 (N : Int)) := (HBr.out.cell (p := ⟨xb, 0, none⟩) hwx).trans t0
                  have r1 : wr.cell? ⟨xb, 1, none⟩ = some (.slice p l.length c) := (HBr.out.cell (p := ⟨xb, 1, none⟩) hwx).trans t1
                  have HOV : Hid (∀ (v : Nat), v < l.length → wr.cell? ⟨ob, v, none⟩ = some (.int .i64 ((((oOf BL).idxOf (BL.getD v 0) : Nat) : Int) + 1))) := fun v hv => HMr.out.cell (by rw [List.getElem?_map, ofL_at (by rw [Hlen.out]; exact hv), if_pos (HIN.out v hv)]; rfl)
                  clear HBr t0 t1 hbwc HAT HG6 HO6 hoh hh6 hob4 HIN HMr
                  generalize wr = wa at *
                  go_wp2
                  go_loopw [13] (fun iv wr => ∃ v : Nat, v ≤ l.length ∧ iv = .int .i64 v ∧ wr = wa) (fun i _ => l.length - (intOf i).toNat)
                  case atStart => exact ⟨0, Nat.zero_le _, rfl, rfl⟩
                  case round =>
                    obtain ⟨v, hvN, rfl, rfl⟩ := hrel
                    by_cases hlt : v < l.length
                    · have c0 := HOV.out v hlt
                      have hvl : (v : Int) < (l.length : Int) := by omega
                      generalize (oOf BL).idxOf (BL.getD v 0) = ix at c0
                      have hnz : ¬ ((ix : Int) + 1) = 0 := by omega
                      go_wp2
                      exact ⟨⟨v + 1, by omega, by go_num, trivial⟩, by simp [intOf]; omega⟩
                    · obtain rfl : v = l.length := by omega
                      have hvl : ¬ (l.length : Int) < (l.length : Int) := by omega
                      generalize wr = wa at *
                      go_wp2
                      go_loopw [12, 14] (fun av iv wr => ∃ i : Nat, i ≤ G.length ∧ iv = .int .i64 i ∧ av = .int .i64 (aloneN G i : Int) ∧ wr = wa) (fun _ i _ => G.length - (intOf i).toNat)
                      case atStart => exact ⟨0, Nat.zero_le _, rfl, rfl, rfl⟩
                      case round =>
                        obtain ⟨i, hil, rfl, rfl, rfl⟩ := hrel
                        by_cases hlt : i < G.length
                        · obtain ⟨g, hg⟩ : ∃ g, G[i]? = some g := ⟨_, List.getElem?_eq_getElem hlt⟩
                          obtain ⟨pi, ci, hsi, -⟩ := HGr.out.sv hg
                          have hgl := HGS.out g (List.mem_of_getElem? hg)
                          obtain ⟨gb, rfl⟩ : ∃ gb, pb = some ⟨gb, 0, none⟩ := by
                            have hl := HGr.out.len
                            obtain ⟨gb, cap, he⟩ := owns_pos HGr.out.own (by omega)
                            simp only [Value.slice.injEq] at he
                            exact ⟨gb, he.1⟩
                          have a1 := HGr.out.outerAt hsi
                          have hil' : (i : Int) < (G.length : Int) := by omega
                          have HN : Hid _ := aloneN_next hg
                          have hale := aloneN_le G i
                          clear hsi hg
                          by_cases h1 : g.length = 1
                          · rw [h1] at a1
                            have HN' : Hid (((aloneN G (i + 1) : Nat) : Int) = (aloneN G i : Int) + 1) := by unfold Hid; rw [HN.out, if_pos h1]; omega
                            clear HN
                            generalize aloneN G i = al at *
                            go_wp2
                            exact ⟨⟨i + 1, by omega, by go_num, by rw [HN'.out], trivial⟩, by simp [intOf]; omega⟩
                          · have h1' : ¬ (g.length : Int) = 1 := by omega
                            have HN' : Hid (((aloneN G (i + 1) : Nat) : Int) = (aloneN G i : Int)) := by unfold Hid; rw [HN.out, if_neg h1]; omega
                            clear HN
                            generalize aloneN G i = al at *
                            go_wp2
                            exact ⟨⟨i + 1, by omega, by go_num, by rw [HN'.out], trivial⟩, by simp [intOf]; omega⟩
                        · obtain rfl : i = G.length := by omega
                          have hil' : ¬ (G.length : Int) < (G.length : Int) := by omega
                          have hbr := bridges_any N l HR.out (by rw [hBL]; exact HLB'.out) (.slice p l.length c) wr hlr
                          rw [hBL] at hbr
                          have HT : Hid (∀ (k : Nat) (x : Int), (thoseL (bridgeB BL) l.length)[k]? = some x → ∃ q : Nat, x = (q : Int) ∧ q < l.length ∧ bridgeB BL q = true) := fun k x hx => those_mem (List.mem_of_getElem? hx)
                          have HAL2 : Hid ((thoseL (bridgeB BL) l.length).length = aloneN G G.length) := by have := HAL.out; rw [Hlen.out] at this; exact this
                          have hll := thoseL_len (bridgeB BL) l.length
                          clear HAL hlr
                          generalize thoseL (bridgeB BL) l.length = T at *
                          go_wp2_with fail
                          refine hbr.mono ?_
                          rintro e wd ⟨lv7, rfl, hI7, hb7⟩
                          obtain ⟨p7, c7, rfl⟩ := hI7.len
                          have HG7 : Hid _ := HGr.out.go hb7
                          have HOV7 : Hid (∀ (v : Nat), v < l.length → wd.cell? ⟨ob, v, none⟩ = some (.int .i64 ((((oOf BL).idxOf (BL.getD v 0) : Nat) : Int) + 1))) := fun v hv => cell_keepK hb7 (HOV.out v hv)
                          have HI7 : Hid (Ints wd.heap.size wd (.slice p7 T.length c7) T) := hI7
                          have hbwd := hbwr.trans (hb7.mono hbwr.size)
                          clear hbr hI7 hb7 HGr HOV hbwr r0 r1
                          go_wp2
                          go_loopw [16] (fun iv wr => ∃ q : Nat, q ≤ T.length ∧ iv = .int .i64 q ∧ wr = wd) (fun i _ => T.length - (intOf i).toNat)
                          case atStart => exact ⟨0, Nat.zero_le _, rfl, rfl⟩
                          case round =>
                            obtain ⟨q, hql, rfl, rfl⟩ := hrel
                            by_cases hlt : q < T.length
                            · obtain ⟨b, off, rfl, hbb, hcap, hc⟩ := Vals.open HI7.out hlt
                              have c0 := hc wr (Below.refl _ _) q hlt
                              obtain ⟨pv, hpv, hpM, hpb⟩ := HT.out q T[q] (List.getElem?_eq_getElem hlt)
                              rw [hpv] at c0
                              have c1 := HOV7.out pv hpM
                              have hgi := HOF.out pv hpM
                              have hone := HBG.out pv hpb
                              obtain ⟨pi, ci, hsi, -⟩ := HG7.out.sv hgi
                              rw [hone] at hsi
                              have hixl := (List.getElem?_eq_some_iff.1 hgi).1
                              obtain ⟨gb, rfl⟩ : ∃ gb, pb = some ⟨gb, 0, none⟩ := by
                                have hl := HG7.out.len
                                obtain ⟨gb, cap, he⟩ := owns_pos HG7.out.own (by omega)
                                simp only [Value.slice.injEq] at he
                                exact ⟨gb, he.1⟩
                              have a1 := HG7.out.outerAt hsi
                              generalize (oOf BL).idxOf (BL.getD pv 0) = ix at *
                              have hql' : (q : Int) < (T.length : Int) := by omega
                              have hpM' : (pv : Int) < (l.length : Int) := by omega
                              have hng : ¬ (l.length : Int) ≤ (pv : Int) := by omega
                              have hn1' : ¬ ((ix : Int) + 1) < 1 := by omega
                              have hix' : (ix : Int) < (G.length : Int) := by omega
                              clear hc hpv hsi hgi hone hpb
                              go_wp2
                              exact ⟨⟨q + 1, by omega, by go_num, trivial⟩, by simp [intOf]; omega⟩
                            · obtain rfl : q = T.length := by omega
                              have hql' : ¬ (T.length : Int) < (T.length : Int) := by omega
                              have hal : (T.length : Int) = (aloneN G G.length : Int) := by have := HAL2.out; omega
                              go_wp2_with fail
                              refine (alive_any wr).mono ?_
                              rintro e we ⟨rfl, hbe⟩
                              have HB : Hid _ := hbwd.trans (hbe.mono hbwd.size)
                              clear hbe hbwd
                              go_wp2
                              go_ret
                              exact ⟨rfl, HB.out⟩
    · have hbad : (rightK n l == 0) = false := by simpa using hk
      generalize rightK n l = k at *
      go_wp2_with fail
      refine (alive_any w3).mono ?_
      rintro e w4 ⟨rfl, hb4⟩
      have HB : Hid _ := hbw3.trans (hb4.mono hbw3.size)
      clear hb4 hbw3
      go_wp2
      go_ret
      exact ⟨rfl, HB.out⟩
end Go.Proofs.Ytdadpfkoocpfaaa
