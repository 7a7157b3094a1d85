/-
  (*walk).start: a vertex that has not been seen: all of its component.
-/
import Derived.Deep.QuietTactic
import Derived.Deep.LoopGhost
import Derived.BigQuiet
import Derived.Test.YtdgecflljgnobaaXPLookA
import Derived.Test.YtdgecflljgnobaaXPLeave
import Derived.Test.YtdgecflljgnobaaXPLinked
import Derived.Test.YtdgecflljgnobaaXPOkM
namespace Go.Proofs.Ytdgecflljgnobaa
open Go Go.Proofs Go.RowKit

/-- The cells of the links of a vertex. -/
theorem LK.at {a : Lay} {lv : Value} {lk : List (List (Int × Int))} {W : World} (h : LK a lv lk W) {v : Nat} (hv : v < a.N) : ∃ lb sb off c, lv = .slice (some ⟨lb, 0, none⟩) a.N a.N ∧ lb < a.h0 ∧ sb < a.h0 ∧ ¬ a.five lb ∧ ¬ a.five sb ∧ W.cell? ⟨lb, v, none⟩ = some (.slice (some ⟨sb, off, none⟩) (lk.getD v []).length c) ∧ ∀ j x, (lk.getD v [])[j]? = some x → W.cell? ⟨sb, off + j * 2, none⟩ = some (.int .i64 x.1) ∧ W.cell? ⟨sb, off + j * 2 + 1, none⟩ = some (.int .i64 x.2) := by
  obtain ⟨lb, sb, svs, cs, h1, h2, h3, h4, h5, h6, h7, h8, h9⟩ := h.ex
  have hl : lk[v]? = some (lk.getD v []) := by rw [List.getD_eq_getElem?_getD, List.getElem?_eq_getElem (by omega)]; rfl
  obtain ⟨off, c, g1, g2⟩ := h9 v _ hl
  exact ⟨lb, sb, off, c, h1, h2, h4, h3, h5, h7.cell g1, fun j x hx => ⟨h8.cell (g2 j x hx).1, h8.cell (g2 j x hx).2⟩⟩

set_option maxRecDepth 100000 in
set_option maxHeartbeats 4000000 in
theorem start_new (a : Lay) (hL : LayOK a) (lv pv ov : Value) (lk : List (List (Int × Int))) (C : Nat) (s : WS) (r : Nat) (hr : r < a.N) (hN : a.N ≤ 1048576) (hC : C ≤ 1073741823) (hK : LinksIn a.N a.M lk) (hdeg : ∀ v, (lk.getD v []).length ≤ 4194304) (hOk : OkW a.N a.M C lk s) (hp : s.path = []) (hs : s.depth.getD r 0 < 0) (fuel : Nat) (hf : pot lk a.N s ≤ fuel) (w : World) (h : WB a lv pv ov s w) (hA : Apart2 pv ov) (hlk : LK a lv lk w) (hh : a.h0 ≤ w.heap.size) :
    Calls Try.prog 47 #[.pointer (some ⟨a.wb, 0, none⟩), .int .i64 (r : Int)] w fun e w' => e = .returned (.tuple #[]) ∧ ∃ pv' ov', WB a lv pv' ov' (startW lk fuel s r) w' ∧ Apart2 pv' ov' ∧ Wk a w w' ∧ OkW a.N a.M C lk (startW lk fuel s r) ∧ (startW lk fuel s r).path = [] := by
  have hmix := mixed
  obtain ⟨i0, hi, hz0, hz1, hz2⟩ := info_parts infoSt
  have HOk1 : Hid _ := hOk.root hp hr hs
  have HP1 : Hid _ := Nat.le_trans (pot_root hOk hp hr hs) hf
  have HS : Hid (startW lk fuel s r = runW lk fuel { s with root := s.root.set r (r : Int), from_ := s.from_.set r (-1), depth := s.depth.set r 0, path := s.path ++ [⟨(r : Int), -1, 0, 0, 0⟩] }) := by
    unfold Hid startW; rw [if_neg (by omega)]
  have HS3 : Hid _ := ((h.setRoot hL r (r : Int)).setFrom hL r (-1)).setDepth hL r 0
  have HK3 : Hid _ := (((Wk.refl a w).set (p := ⟨a.rb, r, none⟩) (.inl (.inr (.inl rfl))) (.int .i64 (r : Int))).set (p := ⟨a.fb, r, none⟩) (.inl (.inr (.inr (.inl rfl)))) (.int .i64 (-1))).set (p := ⟨a.db, r, none⟩) (.inl (.inr (.inr (.inr (.inl rfl))))) (.int .i64 0)
  have b1 := h.blk.cell (j := 1) rfl
  have b2 := h.blk.cell (j := 2) rfl
  have b3 := h.blk.cell (j := 3) rfl
  have t0 : w.cell? ⟨a.db, r, none⟩ = some (.int .i64 (s.depth.getD r 0)) := h.dep.cell (by rw [List.getElem?_map, List.getElem?_eq_getElem (by rw [hOk.lenD]; exact hr)]; simp [show r < s.depth.length by rw [hOk.lenD]; exact hr])
  obtain ⟨y1, k1⟩ : ∃ z, w.cell? ⟨a.rb, r, none⟩ = some z := ⟨_, h.root.cell (by rw [List.getElem?_map, List.getElem?_eq_getElem (by rw [hOk.lenR]; exact hr)]; rfl)⟩
  obtain ⟨y2, k2⟩ : ∃ z, w.cell? ⟨a.fb, r, none⟩ = some z := ⟨_, h.frm.cell (by rw [List.getElem?_map, List.getElem?_eq_getElem (by rw [hOk.lenF]; exact hr)]; rfl)⟩
  have f1 := h.root.frozen r
  have f2 := h.frm.frozen r
  have f3 := h.dep.frozen r
  have n1 := hL.wr
  have n2 := hL.wf
  have n3 := hL.wd
  have n4 := hL.rf
  have n5 := hL.rd
  have n6 := hL.fd
  have hrN : (r : Int) < (a.N : Int) := by omega
  have HOk : Hid _ := hOk
  have HK : Hid _ := hK
  have Hp : Hid _ := hp
  have HA : Hid _ := hA
  have HLK : Hid _ := hlk
  have HF : Hid _ := hf
  have HD : Hid _ := hdeg
  generalize s.depth.getD r 0 = dr at *
  have hs' : ¬ 0 ≤ dr := by omega
  clear h hOk hK hp hA hlk hf hdeg
  go_enter Try.func47, Try.ntmps47
  go_wp2
  go_big_region_o
  have hW1 := HS3.out.go (B := (((w.setCell ⟨a.rb, r, none⟩ (.int .i64 (r : Int))).setCell ⟨a.fb, r, none⟩ (.int .i64 (-1))).setCell ⟨a.db, r, none⟩ (.int .i64 0)).drew) (below_drewN (Below.refl _ _) 1)
  have hk1 : Wk a w (((w.setCell ⟨a.rb, r, none⟩ (.int .i64 (r : Int))).setCell ⟨a.fb, r, none⟩ (.int .i64 (-1))).setCell ⟨a.db, r, none⟩ (.int .i64 0)).drew := ⟨HK3.out.os, HK3.out.tape, HK3.out.output, HK3.out.size, HK3.out.block⟩
  clear HS3 HK3 b1 b2 b3 t0 k1 k2 f1 f2 f3 n1 n2 n3 n4 n5 n6
  generalize (((w.setCell ⟨a.rb, r, none⟩ (.int .i64 (r : Int))).setCell ⟨a.fb, r, none⟩ (.int .i64 (-1))).setCell ⟨a.db, r, none⟩ (.int .i64 0)).drew = w1 at hW1 hk1 ⊢
  have hh1 : a.h0 ≤ w1.heap.size := Nat.le_trans hh hk1.size
  have hl0 : s.path.length = 0 := by rw [Hp.out]; rfl
  obtain ⟨pp, pc, rfl⟩ := owns_formP hW1.way
  have hb2 : Below w1.heap.size w1 (w1.alloc (.cells #[.int .i64 (r : Int), .int .i64 (-1), .int .i64 0, .int .i64 0, .int .i64 0] 77)) := (Below.refl _ _).alloc (Nat.le_refl _) _
  have hW2 := hW1.go hb2
  have hk2 := hk1.trans (Wk.of_below hb2 hh1)
  have hown : (w1.alloc (.cells #[.int .i64 (r : Int), .int .i64 (-1), .int .i64 0, .int .i64 0, .int .i64 0] 77)).ownsRow a.h0 77 5 (.slice pp s.path.length pc) s.path.length (flatP s.path) := hW2.way
  have hfl : flatP s.path = [] := by rw [Hp.out]; rfl
  rw [hl0, hfl] at hown
  have hh2 : a.h0 ≤ (w1.alloc (.cells #[.int .i64 (r : Int), .int .i64 (-1), .int .i64 0, .int .i64 0, .int .i64 0] 77)).heap.size := Nat.le_trans hh1 hb2.size
  have hnews : ∀ (j : Nat) (u : Value), ([.int .i64 (r : Int), .int .i64 (-1), .int .i64 0, .int .i64 0, .int .i64 0] : List Value)[j]? = some u → (w1.alloc (.cells #[.int .i64 (r : Int), .int .i64 (-1), .int .i64 0, .int .i64 0, .int .i64 0] 77)).cell? ((⟨w1.heap.size, 0, none⟩ : Addr).add j) = some u := fun j u hu => by
    have hb : Blk 77 (w1.alloc (.cells #[.int .i64 (r : Int), .int .i64 (-1), .int .i64 0, .int .i64 0, .int .i64 0] 77)) w1.heap.size [.int .i64 (r : Int), .int .i64 (-1), .int .i64 0, .int .i64 0, .int .i64 0] := heap_alloc_new w1 _
    rw [addr_add]
    exact hb.cell hu
  have hone : ∀ u ∈ ([.int .i64 (r : Int), .int .i64 (-1), .int .i64 0, .int .i64 0, .int .i64 0] : List Value), u.oneCell' = true := by
    intro u hu
    simp at hu
    rcases hu with rfl | rfl | rfl <;> rfl
  have b5 := hW1.blk.cell (j := 5) rfl
  rw [show ({ s with root := s.root.set r (r : Int), from_ := s.from_.set r (-1), depth := s.depth.set r 0 } : WS).path.length = 0 from hl0] at b5
  have Hlow : Hid (∀ k, (Value.slice pp s.path.length pc).ownBlock = some k → a.h0 ≤ k) := fun k e => (hW2.way.lt k e).1
  have Hov : Hid (∀ k, ov.ownBlock = some k → k < (w1.alloc (.cells #[.int .i64 (r : Int), .int .i64 (-1), .int .i64 0, .int .i64 0, .int .i64 0] 77)).heap.size) := fun k e => (hW2.opn.lt k e).2
  have HW2 : Hid _ := hW2
  have HK2 : Hid _ := hk2
  have Hl0 : Hid _ := hl0
  clear hW1 hk1 hW2 hk2 hb2 hl0 hfl
  go_wp2_with (at_builtin; refine wpList_append_own_at _ rfl _ _ 59 rfl a.h0 77 i0 (.agg #[.int .i64 0, .int .i64 0, .int .i64 0, .int .i64 0, .int .i64 0]) 5 40 Try.underlying59 hi hz0 hz1 hz2 rfl (by decide) (.slice pp 0 pc) _ _ rfl hown ⟨w1.heap.size, 0, none⟩ 1 1 [.int .i64 (r : Int), .int .i64 (-1), .int .i64 0, .int .i64 0, .int .i64 0] rfl rfl hnews hone (by decide) (by decide) hh2 ?_)
  intro v6 w6 hown6 hg6 hnil6 hat6
  obtain ⟨a6, m6, c6, rfl⟩ := owns_slice hown6
  have hS := HW2.out.setPth (P := s.path ++ [⟨(r : Int), -1, 0, 0, 0⟩]) hL HA.out (B := w6) (pv' := .slice a6 m6 c6) (by rw [show (Value.slice pp s.path.length pc).ownBlock = (Value.slice pp 0 pc).ownBlock from by cases pp <;> rfl]; exact hg6) Hlow.out (by rw [List.length_append, flatP_app, Hl0.out, Hp.out]; exact hown6)
  have hb8 : Blk 61 w6 a.wb (cellsW a lv (.slice pp s.path.length pc) ov) := (hg6.block a.wb HW2.out.blk.lt (fun e => by have := Hlow.out a.wb (by rw [show (Value.slice pp s.path.length pc).ownBlock = (Value.slice pp 0 pc).ownBlock from by cases pp <;> rfl]; exact e.symm); have := hL.w0; omega)).trans HW2.out.blk
  have c5 := hb8.cell (j := 5) rfl
  have f5 := hb8.frozen 5
  have hlow6 : ∀ k, (Value.slice pp 0 pc).ownBlock = some k → a.h0 ≤ k := fun k e => Hlow.out k (by rw [show (Value.slice pp s.path.length pc).ownBlock = (Value.slice pp 0 pc).ownBlock from by cases pp <;> rfl]; exact e)
  have HS1 : Hid _ := hS
  have HK1 : Hid _ := (HK2.out.trans (Wk.grown hg6 hh2 hlow6)).set (p := ⟨a.wb, 5, none⟩) (.inl (.inl rfl)) (.slice a6 m6 c6)
  have HA1 : Hid (Apart2 (.slice a6 m6 c6) ov) := apart_grown HA.out (by rw [show (Value.slice pp s.path.length pc).ownBlock = (Value.slice pp 0 pc).ownBlock from by cases pp <;> rfl, World.size_alloc]; exact hat6) Hov.out
  clear hS hb8 hown6 hg6 hnil6 hat6 HK2 HW2 Hlow Hov hlow6 hnews hone hown b5 hi hz0 hz1 hz2 HA
  go_wp2
  go_loopg [4] fuel (fun k _ wr => ∃ s' pv' ov', WB a lv pv' ov' s' wr ∧ Apart2 pv' ov' ∧ Wk a w wr ∧ OkW a.N a.M C lk s' ∧ pot lk a.N s' ≤ k ∧ runW lk k s' = startW lk fuel s r)
  case atStart => exact ⟨_, _, _, HS1.out, HA1.out, HK1.out, HOk1.out, HP1.out, HS.out.symm⟩
  case round =>
    obtain ⟨s', pv', ov', hW, hA, hk, hOk, hpot, hrun⟩ := hrel
    obtain ⟨pp', pc', rfl⟩ := owns_formP hW.way
    have b5 := hW.blk.cell (j := 5) rfl
    have hpw : s'.path.length ≤ pot lk a.N s' := pot_way
    have hbo := hOk.bo
    cases hpl : s'.path.getLast? with
    | none =>
      have hpn : s'.path = [] := List.getLast?_eq_none_iff.1 hpl
      have HE : Hid (startW lk fuel s r = s') := by unfold Hid; rw [← hrun, run_stay hpn]
      have hl' : s'.path.length = 0 := by rw [hpn]; rfl
      have Hn : Hid _ := hpn
      have HW : Hid _ := hW
      have HA : Hid _ := hA
      have HK' : Hid _ := hk
      have HOk' : Hid _ := hOk
      clear hW hA hk hOk hpot hrun hpn hpl hpw hbo
      go_wp2
      refine bodyPost_end (results_none rfl _ _ _) rfl ?_
      refine ⟨rfl, _, _, ?_, HA.out, HK'.out, ?_, ?_⟩
      · rw [HE.out]; exact HW.out
      · rw [HE.out]; exact HOk'.out
      · rw [HE.out]; exact Hn.out
    | some top =>
      obtain ⟨init, hp'⟩ := List.getLast?_eq_some_iff.1 hpl
      have hln : s'.path.length = init.length + 1 := by rw [hp']; simp
      obtain ⟨pb, hpb⟩ : ∃ pb, pp' = some ⟨pb, 0, none⟩ := by
        obtain ⟨g, cp, hg⟩ := owns_pos hW.way (by omega)
        simp only [Value.slice.injEq] at hg
        exact ⟨g, hg.1⟩
      subst hpb
      obtain ⟨v, ev, hvN, hdv⟩ := hOk.way top.v (by rw [hp']; simp)
      have hnx := hOk.nxt top (by rw [hp']; simp)
      unfold degW at hnx
      have hvt : top.v.toNat = v := by rw [ev]; rfl
      rw [hvt] at hnx
      have hdg := HD.out v
      obtain ⟨k', hk'⟩ : ∃ k', gk = k' + 1 := ⟨gk - 1, by omega⟩
      subst hk'
      have HRUN : Hid (runW lk k' (stepW lk s') = startW lk fuel s r) := hrun
      have hst : stepW lk s' = if top.next = (lk.getD v []).length then leaveW s' init top else lookW s' init { top with next := top.next + 1 } ((lk.getD v []).getD top.next (0, 0)) := by
        unfold stepW
        rw [hpl]
        simp only [hvt]
        rw [show s'.path.dropLast = init from by rw [hp']; simp]
      generalize hxs : lk.getD v [] = xs at hnx hdg hst
      have HXS : Hid _ := hxs
      have HST : Hid _ := hst
      have hbl : init.length + 1 ≤ 1073741823 := by omega
      have hol : s'.opn.length ≤ 1073741823 := by omega
      have HW : Hid _ := hW
      have HA : Hid _ := hA
      have HK' : Hid _ := hk
      have HOk' : Hid _ := hOk
      have Hp' : Hid _ := hp'
      have Hln : Hid _ := hln
      have Hpot : Hid _ := hpot
      have hvN' : (v : Int) < (a.N : Int) := by omega
      rw [hln] at b5
      clear hW hA hk hOk hpot hrun hpl hpw hbo hp' hln hst hxs
      go_wp2
      go_quiet (fail)
      have hb1 : Below wr.heap.size wr (wr.drewN nq) := below_drewN (Below.refl _ _) nq
      have hW1 := HW.out.go hb1
      have hpb1 := HW.out.way.lt pb rfl
      have hk1 : Wk a w (wr.drewN nq) := HK'.out.trans (Wk.of_below hb1 (by omega))
      clear HW HK' b5
      generalize wr.drewN nq = w8 at hW1 hk1 ⊢
      obtain ⟨lb, sb, off, cc, rfl, hlb, hsb, hl5, hs5, g0, g1⟩ := (HLK.out.go hk1).at hvN
      rw [HXS.out] at g0 g1
      have b0 := hW1.blk.cell (j := 0) rfl
      obtain ⟨p0, -, p2, -, -⟩ := hW1.top Hp'.out
      rw [ev] at p0
      have G1 : Hid _ := g1
      have HW : Hid _ := hW1
      have HK' : Hid _ := hk1
      clear hW1 hk1 g1
      go_wp2
      go_quiet (fail)
      have hb2 : Below w8.heap.size w8 (w8.drewN nq) := below_drewN (Below.refl _ _) nq
      have hW2 := HW.out.go hb2
      have hpb2 := HW.out.way.lt pb rfl
      have hk2 : Wk a w (w8.drewN nq) := HK'.out.trans (Wk.of_below hb2 (by omega))
      have G2 : Hid _ := fun j x hx => (⟨cell_keepK hb2 (G1.out j x hx).1, cell_keepK hb2 (G1.out j x hx).2⟩ : _ ∧ _)
      have g02 := cell_keepK hb2 g0
      clear HW HK' b0 p0 p2 g0 G1 hpb1
      generalize w8.drewN nq = w9 at hW2 hk2 G2 g02 ⊢
      by_cases hnq : top.next = xs.length
      · have HE : Hid (stepW lk s' = leaveW s' init top) := by unfold Hid; rw [HST.out, if_pos hnq]
        have hlv := leave_any a hL _ ov' s' init top pb pc' Hp'.out (by rw [Hln.out]; omega) (by omega) HOk'.out.lenD HOk'.out.lenK (fun st hst => by
          obtain ⟨z, z1, z2, _⟩ := HOk'.out.way st.v (by rw [Hp'.out]; exact List.mem_map.2 ⟨st, List.mem_append_left _ hst, rfl⟩)
          exact ⟨z, z1, z2⟩) (HOk'.out.opl top.opn (by rw [Hp'.out]; simp)) HOk'.out.ops w9 hW2 HA.out
        have hnq' : (xs.length : Int) = (top.next : Int) := by omega
        clear hW2 G2 g02
        go_wp2_with fail
        refine hlv.mono ?_
        rintro e w10 ⟨rfl, pv2, ov2, z1, z2, z3⟩
        have HZ1 : Hid _ := z1
        have HZ2 : Hid _ := z2
        have HZ3 : Hid _ := hk2.trans z3
        clear z1 z2 z3 hk2 hlv
        go_wp2
        go_roundg k'
        case measure => exact Nat.lt_succ_self _
        case rel =>
          have hle := leave_less (lk := lk) (N := a.N) Hp'.out
          have hpo := Hpot.out
          refine ⟨leaveW s' init top, pv2, ov2, HZ1.out, HZ2.out, HZ3.out, HOk'.out.leave Hp'.out, by omega, ?_⟩
          rw [← HE.out]
          exact HRUN.out
      · have hlt : top.next < xs.length := by omega
        obtain ⟨x, hx⟩ : ∃ x, xs[top.next]? = some x := ⟨_, List.getElem?_eq_getElem hlt⟩
        have hxd : xs.getD top.next (0, 0) = x := by rw [List.getD_eq_getElem?_getD, hx]; rfl
        have HE : Hid (stepW lk s' = lookW s' init { top with next := top.next + 1 } x) := by unfold Hid; rw [HST.out, if_neg hnq, hxd]
        have HOkL : Hid _ := HOk'.out.look HK.out Hp'.out (x := x) (by rw [hvt, HXS.out]; exact hx)
        have HLess : Hid _ := look_less (lk := lk) (N := a.N) (x := x) Hp'.out (by unfold degW; rw [hvt, HXS.out]; exact hlt) HOk'.out.lenD (by obtain ⟨⟨u, eu, hu⟩, _⟩ := HK.out v x (by rw [HXS.out]; exact List.mem_of_getElem? hx); rw [eu]; exact hu) (by unfold at_; rw [hvt]; exact hdv)
        obtain ⟨⟨u, eu, hu⟩, pl, epl, hpl⟩ := HK.out v x (by rw [HXS.out]; exact List.mem_of_getElem? hx)
        obtain ⟨q0, q1⟩ := G2.out top.next x hx
        rw [eu] at q0
        rw [epl] at q1
        have hxe : x = ((u : Int), (pl : Int)) := by rw [← eu, ← epl]
        subst hxe
        obtain ⟨p0, -, p2, -, -⟩ := hW2.top Hp'.out
        rw [ev] at p0
        have b0 := hW2.blk.cell (j := 0) rfl
        have fr := hW2.way.frozenAt (init.length * 5 + 2)
        have hS := hW2.setWay hL HA.out (j := init.length * 5 + 2) (u := .int .i64 ((top.next + 1 : Nat) : Int)) (P := init ++ [{ top with next := top.next + 1 }]) (by rw [Hp'.out]; exact flatP_next init top (top.next + 1)) (by rw [Hp'.out]; simp)
        have hk3 := hk2.set (p := ⟨pb, init.length * 5 + 2, none⟩) (.inr hpb2.1) (.int .i64 ((top.next + 1 : Nat) : Int))
        have HS2 : Hid _ := hS
        have HK3 : Hid _ := hk3
        have hnw : pb ≠ a.wb := by have := hL.w0; omega
        have hnl : pb ≠ lb := by omega
        have hns : pb ≠ sb := by omega
        have hbd := HOk'.out.bd v
        have hnx' : ¬ (top.next : Int) = (xs.length : Int) := by omega
        have hlt' : (top.next : Int) < (xs.length : Int) := by omega
        clear hW2 hk2 G2 hS hk3
        have Hx : Hid _ := hx
        clear hx hxd eu epl
        generalize xs.length = dg at *
        go_wp2
        have hW4 := HS2.out
        have hk4 := HK3.out
        rw [show ((top.next + 1 : Nat) : Int) = (top.next : Int) + 1 from by omega] at hW4 hk4
        have g03 : (w9.setCell ⟨pb, init.length * 5 + 2, none⟩ (.int .i64 ((top.next : Int) + 1))).cell? ⟨lb, v, none⟩ = some (.slice (some ⟨sb, off, none⟩) dg cc) := (World.cell?_of_block (Below.heap_setCell w9 _ _ lb (Ne.symm hnl))).trans g02
        have q03 : (w9.setCell ⟨pb, init.length * 5 + 2, none⟩ (.int .i64 ((top.next : Int) + 1))).cell? ⟨sb, off + top.next * 2, none⟩ = some (.int .i64 (u : Int)) := (World.cell?_of_block (Below.heap_setCell w9 _ _ sb (Ne.symm hns))).trans q0
        have q13 : (w9.setCell ⟨pb, init.length * 5 + 2, none⟩ (.int .i64 ((top.next : Int) + 1))).cell? ⟨sb, off + top.next * 2 + 1, none⟩ = some (.int .i64 (pl : Int)) := (World.cell?_of_block (Below.heap_setCell w9 _ _ sb (Ne.symm hns))).trans q1
        clear HS2 HK3 g02 q0 q1 p0 p2 b0 fr
        generalize (w9.setCell ⟨pb, init.length * 5 + 2, none⟩ (.int .i64 ((top.next : Int) + 1))) = w10 at hW4 hk4 g03 q03 q13 ⊢
        have b0 := hW4.blk.cell (j := 0) rfl
        obtain ⟨p0, -, p2, -, -⟩ := hW4.top (s := { s' with path := init ++ [{ top with next := top.next + 1 }] }) rfl
        rw [show (({ top with next := top.next + 1 } : Stp).next : Int) = (top.next : Int) + 1 from by show ((top.next + 1 : Nat) : Int) = _; omega] at p2
        have p0' : w10.cell? ⟨pb, init.length * 5, none⟩ = some (.int .i64 (v : Int)) := by rw [← ev]; exact p0
        have Hlook : Hid _ := fun (W : World) (hb : Below w10.heap.size w10 W) => look_any a hL _ ov' { s' with path := init ++ [{ top with next := top.next + 1 }] } init { top with next := top.next + 1 } pb pc' v u (pl : Int) rfl ev hvN hu hN HOk'.out.lenD HOk'.out.lenR HOk'.out.lenF (by show (init ++ [_]).length ≤ _; rw [List.length_append, List.length_singleton]; omega) (by show s'.opn.length ≤ _; omega) hdv (by show s'.depth.getD v 0 ≤ _; omega) W (hW4.go hb) HA.out
        have HW4 : Hid _ := hW4
        have HK4 : Hid _ := hk4
        have hpb4 := hW4.way.lt pb rfl
        have Hp0 : Hid _ := p0
        clear hW4 hk4 p0 hbd hdv hvt hu hpl
        have hw1 : IntKind.i64.wrap ((top.next : Int) + 1 - 1) = (top.next : Int) := by rw [show (top.next : Int) + 1 - 1 = (top.next : Int) from by omega]; exact wrap_i _ (by omega) (by omega)
        have hw2 : IntKind.i64.wrap (top.next : Int) = (top.next : Int) := wrap_i _ (by omega) (by omega)
        generalize hof : init.length * 5 = of at *
        refine wp_region_last (S := (fun w' : World => w'.cell? ⟨a.wb, 0, none⟩ = some (.slice (some ⟨lb, 0, none⟩) a.N a.N) ∧ w'.cell? ⟨pb, of, none⟩ = some (.int .i64 (v : Int)) ∧ w'.cell? ⟨pb, of + 2, none⟩ = some (.int .i64 ((top.next : Int) + 1)) ∧ w'.cell? ⟨lb, v, none⟩ = some (.slice (some ⟨sb, off, none⟩) dg cc) ∧ w'.cell? ⟨sb, off + top.next * 2, none⟩ = some (.int .i64 (u : Int)) ∧ w'.cell? ⟨sb, off + top.next * 2 + 1, none⟩ = some (.int .i64 (pl : Int)))) (by kernel_rfl) ?_ (fun hHeld => ?_)
        · (try dsimp only); go_keep
        refine wpAnyL_take (i := 0) (v := ?_) rfl (by kernel_rfl) (by kernel_rfl) (by kernel_rfl) (by kernel_rfl) (fun _ _ _ h => h) (Or.inl ⟨by rfl, ?_⟩) (by assumption) ?_
        rotate_left
        · intro w hSw; (try dsimp only at hSw); go_simp; (try with_reducible rfl)
        try simp only [Act.put, List.setIfInBounds_toArray]
        refine wpAnyL_take (i := 1) (v := ?_) rfl (by kernel_rfl) (by kernel_rfl) (by kernel_rfl) (by kernel_rfl) (fun _ _ _ h => h) (Or.inl ⟨by rfl, ?_⟩) (by assumption) ?_
        rotate_left
        · intro w hSw; (try dsimp only at hSw); go_simp; (try with_reducible rfl)
        try simp only [Act.put]
        refine wpAnyL_take (i := 2) (v := ?_) rfl (by kernel_rfl) (by kernel_rfl) (by kernel_rfl) (by kernel_rfl) (fun _ _ _ h => h) (Or.inl ⟨by rfl, ?_⟩) (by assumption) ?_
        rotate_left
        · intro w hSw; (try dsimp only at hSw); go_simp; (try with_reducible rfl)
        try simp only [Act.put]
        refine wpAnyL_take (i := 3) (v := ?_) rfl (by kernel_rfl) (by kernel_rfl) (by kernel_rfl) (by kernel_rfl) (fun _ _ _ h => h) (Or.inl ⟨by rfl, ?_⟩) (by assumption) ?_
        rotate_left
        · intro w hSw; (try dsimp only at hSw); go_simp; (try with_reducible rfl)
        try simp only [Act.put]
        refine wpAnyL_take (i := 4) (v := ?_) rfl (by kernel_rfl) (by kernel_rfl) (by kernel_rfl) (by kernel_rfl) (fun _ _ _ h => h) (Or.inl ⟨by rfl, ?_⟩) (by assumption) ?_
        rotate_left
        · intro w hSw; (try dsimp only at hSw); go_simp; (try with_reducible rfl)
        try simp only [Act.put]
        refine wpAnyL_take (i := 5) (v := ?_) rfl (by kernel_rfl) (by kernel_rfl) (by kernel_rfl) (by kernel_rfl) (fun _ _ _ h => h) (Or.inl ⟨by rfl, ?_⟩) (by assumption) ?_
        rotate_left
        · intro w hSw; (try dsimp only at hSw); go_simp; (try with_reducible rfl)
        try simp only [Act.put]
        refine wpAnyL_take (i := 6) (v := ?_) rfl (by kernel_rfl) (by kernel_rfl) (by kernel_rfl) (by kernel_rfl) (fun _ _ _ h => h) (Or.inl ⟨by rfl, ?_⟩) (by assumption) ?_
        rotate_left
        · intro w hSw; (try dsimp only at hSw); go_simp; (try with_reducible rfl)
        try simp only [Act.put]
        refine wpAnyL_take (i := 7) (v := ?_) rfl (by kernel_rfl) (by kernel_rfl) (by kernel_rfl) (by kernel_rfl) (fun _ _ _ h => h) (Or.inl ⟨by rfl, ?_⟩) (by assumption) ?_
        rotate_left
        · intro w hSw; (try dsimp only at hSw); go_simp; (try with_reducible rfl)
        try simp only [Act.put]
        refine wpAnyL_take (i := 8) (v := ?_) rfl (by kernel_rfl) (by kernel_rfl) (by kernel_rfl) (by kernel_rfl) (fun _ _ _ h => h) (Or.inl ⟨by rfl, ?_⟩) (by assumption) ?_
        rotate_left
        · intro w hSw; (try dsimp only at hSw); go_simp; (try with_reducible rfl)
        try simp only [Act.put]
        refine wpAnyL_take (i := 9) (v := ?_) rfl (by kernel_rfl) (by kernel_rfl) (by kernel_rfl) (by kernel_rfl) (fun _ _ _ h => h) (Or.inl ⟨by rfl, ?_⟩) (by assumption) ?_
        rotate_left
        · intro w hSw; (try dsimp only at hSw); go_simp; (try with_reducible rfl)
        try simp only [Act.put]
        refine wpAnyL_take (i := 10) (v := ?_) rfl (by kernel_rfl) (by kernel_rfl) (by kernel_rfl) (by kernel_rfl) (fun _ _ _ h => h) (Or.inl ⟨by rfl, ?_⟩) (by assumption) ?_
        rotate_left
        · intro w hSw; (try dsimp only at hSw); go_simp; (try with_reducible rfl)
        try simp only [Act.put]
        refine wpAnyL_take (i := 11) (v := ?_) rfl (by kernel_rfl) (by kernel_rfl) (by kernel_rfl) (by kernel_rfl) (fun _ _ _ h => h) (Or.inl ⟨by rfl, ?_⟩) (by assumption) ?_
        rotate_left
        · intro w hSw; (try dsimp only at hSw); go_simp; (try with_reducible rfl)
        try simp only [Act.put]
        refine wpAnyL_take (i := 12) (v := ?_) rfl (by kernel_rfl) (by kernel_rfl) (by kernel_rfl) (by kernel_rfl) (fun _ _ _ h => h) (Or.inl ⟨by rfl, ?_⟩) (by assumption) ?_
        rotate_left
        · intro w hSw; (try dsimp only at hSw); go_simp; (try with_reducible rfl)
        try simp only [Act.put]
        refine wpAnyL_take (i := 13) (v := ?_) rfl (by kernel_rfl) (by kernel_rfl) (by kernel_rfl) (by kernel_rfl) (fun _ _ _ h => h) (Or.inl ⟨by rfl, ?_⟩) (by assumption) ?_
        rotate_left
        · intro w hSw; (try dsimp only at hSw); go_simp; (try with_reducible rfl)
        try simp only [Act.put]
        refine wpAnyL_take (i := 14) (v := ?_) rfl (by kernel_rfl) (by kernel_rfl) (by kernel_rfl) (by kernel_rfl) (fun _ _ _ h => h) (Or.inl ⟨by rfl, ?_⟩) (by assumption) ?_
        rotate_left
        · intro w hSw; (try dsimp only at hSw); go_simp; (try with_reducible rfl)
        try simp only [Act.put]
        refine wpAnyL_take (i := 15) (v := ?_) rfl (by kernel_rfl) (by kernel_rfl) (by kernel_rfl) (by kernel_rfl) (fun _ _ _ h => h) (Or.inl ⟨by rfl, ?_⟩) (by assumption) ?_
        rotate_left
        · intro w hSw; (try dsimp only at hSw); go_simp; (try with_reducible rfl)
        try simp only [Act.put]
        refine wpAnyL_take (i := 16) (v := ?_) rfl (by kernel_rfl) (by kernel_rfl) (by kernel_rfl) (by kernel_rfl) (fun _ _ _ h => h) (Or.inl ⟨by rfl, ?_⟩) (by assumption) ?_
        rotate_left
        · intro w hSw; (try dsimp only at hSw); go_simp; (try with_reducible rfl)
        try simp only [Act.put]
        refine wpAnyL_take (i := 17) (v := ?_) rfl (by kernel_rfl) (by kernel_rfl) (by kernel_rfl) (by kernel_rfl) (fun _ _ _ h => h) (Or.inl ⟨by rfl, ?_⟩) (by assumption) ?_
        rotate_left
        · intro w hSw; (try dsimp only at hSw); go_simp; (try with_reducible rfl)
        try simp only [Act.put]
        refine wpAnyL_take (i := 18) (v := ?_) rfl (by kernel_rfl) (by kernel_rfl) (by kernel_rfl) (by kernel_rfl) (fun _ _ _ h => h) (Or.inl ⟨by rfl, ?_⟩) (by assumption) ?_
        rotate_left
        · intro w hSw; (try dsimp only at hSw); go_simp; (try with_reducible rfl)
        try simp only [Act.put]
        refine wpAnyL_ready (rs := [19]) (by kernel_rfl) (by simp) ?_
        refine AllReadyL.last rfl (by kernel_rfl) (fun K hK => ?_)
        go_simp
        refine (Hlook.out w10.drew (below_drewN (Below.refl _ _) 1)).mono ?_
        rintro e w11 ⟨rfl, pv2, ov2, z1, z2, z3⟩
        have HZ1 : Hid _ := z1
        have HZ2 : Hid _ := z2
        have HZ3 : Hid (Wk a w w11) := (HK4.out.trans (Wk.of_below (below_drewN (Below.refl w10.heap.size _) 1) (by omega))).trans z3
        clear z1 z2 z3
        refine hK.out _ _ ?_
        clear hK K Hlook HW4 HK4
        try simp only [Act.put, List.setIfInBounds_toArray, List.set_cons_zero, List.set_cons_succ]
        refine wpAnyL_done (by kernel_rfl) ?_ _
        go_wp2
        go_roundg k'
        case measure => exact Nat.lt_succ_self _
        case rel =>
          have hle := HLess.out
          have hpo := Hpot.out
          refine ⟨lookW s' init { top with next := top.next + 1 } ((u : Int), (pl : Int)), pv2, ov2, HZ1.out, HZ2.out, HZ3.out, HOkL.out, by omega, ?_⟩
          rw [← HE.out]
          exact HRUN.out
end Go.Proofs.Ytdgecflljgnobaa
