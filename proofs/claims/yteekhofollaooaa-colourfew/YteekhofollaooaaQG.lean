/-
  (*walk).leave: back from the vertex on top.
-/
import Derived.Deep.QuietTactic
import Derived.Deep.RegionLaw
import Derived.BigQuiet
import Derived.Deep.RegionHeld3
import Derived.Test.YteekhofollaooaaQD
import Derived.Test.YteekhofollaooaaQC
import Derived.Deep.LoopGhost
import Derived.Test.YteekhofollaooaaQE
import Derived.Test.YteekhofollaooaaQF
import Derived.Test.YteekhofollaooaaQA
import Derived.Deep.OwnRows
namespace Go.Proofs.Yteekhofollaooaa
open Go Go.Proofs Go.RowKit

theorem owns_shrink {W : World} {base : Nat} {e : TypeId} {size : Nat} {p : Option Addr} {n c : Nat} {xs : List Value} (h : W.ownsRow base e size (.slice p n c) n xs) {m : Nat} (hm : m ≤ n) : W.ownsRow base e size (.slice p m c) m (xs.take (m * size)) := by
  obtain ⟨hl, h1⟩ := h
  have hms : m * size ≤ n * size := Nat.mul_le_mul_right _ hm
  refine ⟨by rw [List.length_take]; omega, ?_⟩
  rcases h1 with ⟨h2, h3⟩ | ⟨g, cap, cur, h2, h3, h4, h5, h6, h7, h8⟩
  · simp only [Value.slice.injEq] at h2
    obtain ⟨rfl, rfl, rfl⟩ := h2
    obtain rfl : m = 0 := by omega
    exact .inl ⟨rfl, rfl⟩
  · simp only [Value.slice.injEq] at h2
    obtain ⟨rfl, _, rfl⟩ := h2
    refine .inr ⟨g, c, cur, rfl, h3, h4, by omega, h6, h7, ?_⟩
    rw [← h8, List.take_take]
    congr 1
    omega
theorem addr_add (b k : Nat) : (⟨b, 0, none⟩ : Addr).add k = ⟨b, k, none⟩ := by
  simp only [Addr.add]
  by_cases h : k = 0
  · subst h; rfl
  · simp [h]
theorem flatP_take (P Q : List Stp) : (flatP (P ++ Q)).take (P.length * 5) = flatP P := by
  rw [flatP_app, ← flatP_len P]
  exact List.take_left
/-- The way without its last steps. -/
theorem WB.cutWay {a : Lay} {lv ov : Value} {s : WS} {W : World} {pb n cap : Nat} {P Q : List Stp} (h : WB a lv (.slice (some ⟨pb, 0, none⟩) n cap) ov s W) (hn : n = s.path.length) (hL : LayOK a) (hp : s.path = P ++ Q) : WB a lv (.slice (some ⟨pb, 0, none⟩) P.length cap) ov { s with path := P } (W.setCell ⟨a.wb, 5, none⟩ (.slice (some ⟨pb, 0, none⟩) P.length cap)) := by
  subst hn
  have hw := owns_shrink h.way (m := P.length) (by rw [hp]; simp)
  rw [hp, flatP_take] at hw
  exact ⟨h.blk.set 5 _, h.root.other (Ne.symm hL.wr) _, h.frm.other (Ne.symm hL.wf) _, h.dep.other (Ne.symm hL.wd) _, h.bls.other (Ne.symm hL.wk) _, owns_lowset hw hL.w0 _, owns_lowset h.opn hL.w0 _⟩
/-- The open edges without the last ones. -/
theorem WB.cutOpn {a : Lay} {lv pv : Value} {s : WS} {W : World} {po : Option Addr} {co k : Nat} (h : WB a lv pv (.slice po s.opn.length co) s W) (hL : LayOK a) (hk : k ≤ s.opn.length) : WB a lv pv (.slice po k co) { s with opn := s.opn.take k } (W.setCell ⟨a.wb, 6, none⟩ (.slice po k co)) := by
  have hw := owns_shrink h.opn hk
  rw [Nat.mul_one, ← List.map_take] at hw
  have hlen : (s.opn.take k).length = k := by rw [List.length_take]; omega
  refine ⟨h.blk.set 6 _, h.root.other (Ne.symm hL.wr) _, h.frm.other (Ne.symm hL.wf) _, h.dep.other (Ne.symm hL.wd) _, h.bls.other (Ne.symm hL.wk) _, owns_lowset h.way hL.w0 _, ?_⟩
  show World.ownsRow _ a.h0 _ 1 _ (s.opn.take k).length _
  rw [hlen]
  exact owns_lowset hw hL.w0 _

set_option maxRecDepth 100000 in
set_option maxHeartbeats 4000000 in
theorem leave_any (a : Lay) (hL : LayOK a) (lv ov : Value) (s : WS) (init : List Stp) (last : Stp) (pb cap : Nat) (hp : s.path = init ++ [last]) (hP : s.path.length ≤ 1073741824) (hO : s.opn.length ≤ 1073741824) (hD : s.depth.length = a.N) (hK : s.block.length = a.M) (hv : ∀ st ∈ init, ∃ v : Nat, st.v = (v : Int) ∧ v < a.N) (ho : last.opn ≤ s.opn.length) (hops : ∀ x ∈ s.opn, ∃ k : Nat, x = (k : Int) ∧ k < a.M) (w : World) (h : WB a lv (.slice (some ⟨pb, 0, none⟩) s.path.length cap) ov s w) (hA : Apart2 (.slice (some ⟨pb, 0, none⟩) s.path.length cap) ov) :
    Calls Try.prog 94 #[.pointer (some ⟨a.wb, 0, none⟩)] w fun e w' => e = .returned (.tuple #[]) ∧ ∃ pv' ov', WB a lv pv' ov' (leaveW s init last) w' ∧ Apart2 pv' ov' ∧ Wk a w w' := by
  have hmix := mixed
  have b5 := h.blk.cell (j := 5) rfl
  have hl : s.path.length = init.length + 1 := by rw [hp]; simp
  have hpb := h.way.lt pb rfl
  have hcap : init.length + 1 ≤ cap := by
    have := h.way.2
    rcases this with ⟨h1, _⟩ | ⟨g, c, cur, h1, _, _, h2, _⟩
    · cases h1
    · simp only [Value.slice.injEq] at h1; omega
  have hcap1 : (init.length : Int) ≤ (cap : Int) := by omega
  have hcap0 : cap ≠ 0 := by omega
  obtain ⟨p0, p1, p2, p3, p4⟩ := h.top hp
  have hwl : a.wb < w.heap.size := by have := hL.w0; omega
  have hpl : pb < w.heap.size := hpb.2
  rw [hl] at b5 hP
  have hP' : (init.length : Int) ≤ 1073741824 := by omega
  have Hh : Hid _ := h
  have HA : Hid _ := hA
  have HV : Hid _ := hv
  have HOPS : Hid _ := hops
  have HP : Hid _ := hp
  have HLn : Hid _ := hl
  clear h hA hv hops hp hl
  go_enter Try.func94, Try.ntmps94
  go_wp2
  go_big_region_o
  have hb1 : Below w.heap.size w (w.alloc (.cells #[.int .i64 last.v, .int .i64 last.by_, .int .i64 (last.next : Int), .int .i64 last.low, .int .i64 (last.opn : Int)] 142)).drew := below_drewN ((Below.refl _ _).alloc (Nat.le_refl _) _) 1
  have hX1 : Blk 142 (w.alloc (.cells #[.int .i64 last.v, .int .i64 last.by_, .int .i64 (last.next : Int), .int .i64 last.low, .int .i64 (last.opn : Int)] 142)).drew w.heap.size [.int .i64 last.v, .int .i64 last.by_, .int .i64 (last.next : Int), .int .i64 last.low, .int .i64 (last.opn : Int)] := heap_alloc_new w _
  have hW1 := Hh.out.go hb1
  have hk1 : Wk a w (w.alloc (.cells #[.int .i64 last.v, .int .i64 last.by_, .int .i64 (last.next : Int), .int .i64 last.low, .int .i64 (last.opn : Int)] 142)).drew := Wk.of_below hb1 (by omega)
  have hs1 : w.heap.size < (w.alloc (.cells #[.int .i64 last.v, .int .i64 last.by_, .int .i64 (last.next : Int), .int .i64 last.low, .int .i64 (last.opn : Int)] 142)).drew.heap.size := hX1.lt
  have hsx : a.h0 ≤ w.heap.size := by omega
  clear b5 p0 p1 p2 p3 p4 hb1
  generalize (w.alloc (.cells #[.int .i64 last.v, .int .i64 last.by_, .int .i64 (last.next : Int), .int .i64 last.low, .int .i64 (last.opn : Int)] 142)).drew = w1 at hX1 hW1 hk1 hs1 ⊢
  generalize w.heap.size = xb at *
  have HW2 : Hid _ := hW1.cutWay rfl hL HP.out
  have HX2 : Hid _ := hX1.other (p := ⟨a.wb, 5, none⟩) (by have := hL.w0; simp only; omega) (.slice (some ⟨pb, 0, none⟩) init.length cap)
  have HK2 : Hid _ := hk1.set (p := ⟨a.wb, 5, none⟩) (.inl (.inl rfl)) (.slice (some ⟨pb, 0, none⟩) init.length cap)
  have b5 := hW1.blk.cell (j := 5) rfl
  have f5 := hW1.blk.frozen 5
  rw [HLn.out] at b5
  clear hW1 hX1 hk1
  go_wp2
  go_big_region_o
  have hW2 := HW2.out.go (B := (w1.setCell ⟨a.wb, 5, none⟩ (.slice (some ⟨pb, 0, none⟩) init.length cap)).drew) (below_drewN (Below.refl _ _) 1)
  have hX2 : Blk 142 (w1.setCell ⟨a.wb, 5, none⟩ (.slice (some ⟨pb, 0, none⟩) init.length cap)).drew xb [.int .i64 last.v, .int .i64 last.by_, .int .i64 (last.next : Int), .int .i64 last.low, .int .i64 (last.opn : Int)] := HX2.out
  have hk2 : Wk a w (w1.setCell ⟨a.wb, 5, none⟩ (.slice (some ⟨pb, 0, none⟩) init.length cap)).drew := ⟨HK2.out.os, HK2.out.tape, HK2.out.output, HK2.out.size, HK2.out.block⟩
  have hs2 : xb < (w1.setCell ⟨a.wb, 5, none⟩ (.slice (some ⟨pb, 0, none⟩) init.length cap)).drew.heap.size := hX2.lt
  have hA2 : Apart2 (.slice (some ⟨pb, 0, none⟩) init.length cap) ov := HA.out
  clear HW2 HX2 HK2 b5 f5 hs1 Hh HA
  generalize (w1.setCell ⟨a.wb, 5, none⟩ (.slice (some ⟨pb, 0, none⟩) init.length cap)).drew = w2 at hW2 hX2 hk2 hs2 ⊢
  have b5 := hW2.blk.cell (j := 5) rfl
  cases hin : init.getLast? with
  | none =>
    obtain rfl : init = [] := List.getLast?_eq_none_iff.1 hin
    have HE : Hid (leaveW s [] last = { s with path := [] }) := rfl
    have Hres : Hid _ := hW2
    have HK3 : Hid _ := hk2
    have HA3 : Hid _ := hA2
    clear hW2 hX2 hk2 hA2
    simp only [List.length_nil] at b5
    go_wp2
    refine bodyPost_ret (results_none rfl _ _ _) rfl ?_
    refine ⟨rfl, _, _, ?_, HA3.out, HK3.out⟩
    rw [HE.out]
    exact Hres.out
  | some top =>
    obtain ⟨pre, rfl⟩ := List.getLast?_eq_some_iff.1 hin
    obtain ⟨v, hv, hvN⟩ := HV.out top (by simp)
    have hln : (pre ++ [top]).length = pre.length + 1 := by simp
    obtain ⟨p0, -, -, p3, -⟩ := hW2.top (s := { s with path := pre ++ [top] }) rfl
    rw [hv] at p0
    have b3 := hW2.blk.cell (j := 3) rfl
    have x3 := hX2.cell (j := 3) rfl
    have t0 : w2.cell? ⟨a.db, v, none⟩ = some (.int .i64 (s.depth.getD v 0)) := hW2.dep.cell (by rw [List.getElem?_map, List.getElem?_eq_getElem (by show v < s.depth.length; omega)]; simp [show v < s.depth.length by omega])
    have hvN' : (v : Int) < (a.N : Int) := by omega
    have HW3 : Hid _ := hW2
    have HX3 : Hid _ := hX2
    have HK3 : Hid _ := hk2
    have HA3 : Hid _ := hA2
    rw [hln] at b5
    clear hW2 hX2 hk2 hA2
    generalize hdv : s.depth.getD v 0 = dv at *
    have hpl' : (pre.length : Int) ≤ 1073741824 := by rw [hln] at hP; omega
    go_wp2
    go_quiet (fail)
    have hb3 : Below w2.heap.size w2 (w2.drewN nq) := below_drewN (Below.refl _ _) nq
    have hW3 := HW3.out.go hb3
    have hX3 : Blk 142 (w2.drewN nq) xb [.int .i64 last.v, .int .i64 last.by_, .int .i64 (last.next : Int), .int .i64 last.low, .int .i64 (last.opn : Int)] := HX3.out
    have hk3 : Wk a w (w2.drewN nq) := HK3.out.trans (Wk.of_below hb3 (by omega))
    have hs3 : xb < (w2.drewN nq).heap.size := hX3.lt
    clear HW3 HX3 HK3 b5 b3 x3 p0 p3 t0 hb3 hs2
    generalize w2.drewN nq = w3 at hW3 hX3 hk3 hs3 ⊢
    obtain ⟨p0, -, -, p3, -⟩ := hW3.top (s := { s with path := pre ++ [top] }) rfl
    rw [hv] at p0
    have b3 := hW3.blk.cell (j := 3) rfl
    have x3 := hX3.cell (j := 3) rfl
    have t0 : w3.cell? ⟨a.db, v, none⟩ = some (.int .i64 dv) := hW3.dep.cell (by rw [List.getElem?_map, List.getElem?_eq_getElem (by show v < s.depth.length; omega)]; simp [← hdv, show v < s.depth.length by omega])
    have HW3 : Hid _ := hW3
    have HX3 : Hid _ := hX3
    have HK3 : Hid _ := hk3
    clear hW3 hX3 hk3
    go_wp2
    go_quiet (fail)
    have hb4 : Below w3.heap.size w3 (w3.drewN nq) := below_drewN (Below.refl _ _) nq
    have hW4 := HW3.out.go hb4
    have hX4 : Blk 142 (w3.drewN nq) xb [.int .i64 last.v, .int .i64 last.by_, .int .i64 (last.next : Int), .int .i64 last.low, .int .i64 (last.opn : Int)] := HX3.out
    have hk4 : Wk a w (w3.drewN nq) := HK3.out.trans (Wk.of_below hb4 (by omega))
    have hs4 : xb < (w3.drewN nq).heap.size := hX4.lt
    clear HW3 HX3 HK3 b3 x3 p0 p3 t0 hb4 hs3
    generalize w3.drewN nq = w4 at hW4 hX4 hk4 hs4 ⊢
    have hat : at_ s.depth top.v = dv := by unfold at_; rw [hv]; exact hdv
    by_cases hlow : last.low < dv
    · have HE : Hid (leaveW s (pre ++ [top]) last = { s with path := pre ++ [{ top with low := min top.low last.low }] }) := by
        unfold Hid leaveW
        rw [hin]
        simp only [hat, if_pos hlow, List.dropLast_concat]
      obtain ⟨-, -, -, p3, -⟩ := hW4.top (s := { s with path := pre ++ [top] }) rfl
      have x3 := hX4.cell (j := 3) rfl
      have fr := hW4.way.frozenAt (pre.length * 5 + 3)
      have fin : ∀ m : Int, m = min top.low last.low → ∃ pv' ov', WB a lv pv' ov' (leaveW s (pre ++ [top]) last) (w4.setCell ⟨pb, pre.length * 5 + 3, none⟩ (.int .i64 m)).drew ∧ Apart2 pv' ov' ∧ Wk a w (w4.setCell ⟨pb, pre.length * 5 + 3, none⟩ (.int .i64 m)).drew := fun m hm => by
        have h1 := hW4.setWay (s := { s with path := pre ++ [top] }) hL HA3.out (j := pre.length * 5 + 3) (u := .int .i64 m) (P := pre ++ [{ top with low := m }]) (flatP_low pre top m) (by simp)
        have h2 := hk4.set (p := ⟨pb, pre.length * 5 + 3, none⟩) (.inr hpb.1) (.int .i64 m)
        refine ⟨.slice (some ⟨pb, 0, none⟩) (pre ++ [{ top with low := m }]).length cap, ov, ?_, ?_, ⟨h2.os, h2.tape, h2.output, h2.size, h2.block⟩⟩
        · rw [HE.out, ← hm]
          exact h1.go (below_drewN (Below.refl _ _) 1)
        · exact HA3.out
      have Hfin : Hid _ := fin
      clear fin hW4 hX4 hk4
      by_cases hm : last.low < top.low
      · have hz := Hfin.out last.low (by omega)
        go_wp2
        go_big_region_o
        go_wp2
        refine bodyPost_ret (results_none rfl _ _ _) rfl ?_
        exact ⟨rfl, hz⟩
      · have hz := Hfin.out top.low (by omega)
        go_wp2
        go_big_region_o
        go_wp2
        refine bodyPost_ret (results_none rfl _ _ _) rfl ?_
        exact ⟨rfl, hz⟩
    · have HE : Hid (leaveW s (pre ++ [top]) last = { s with path := pre ++ [top], block := (s.opn.drop last.opn).foldl (fun b p => b.set p.toNat last.by_) s.block, opn := s.opn.take last.opn }) := by
        unfold Hid leaveW
        rw [hin]
        simp only [hat, if_neg hlow]
      obtain ⟨po, co, rfl⟩ := owns_formP hW4.opn
      have hco : s.opn.length ≤ co := by
        rcases hW4.opn.2 with ⟨h1, h2⟩ | ⟨g, c, cur, h1, _, _, h2, _⟩
        · have h3 : s.opn.length = 0 := h2; omega
        · simp only [Value.slice.injEq] at h1; obtain ⟨_, _, h4⟩ := h1; have h3 : s.opn.length ≤ c := h2; omega
      have hgo : ∀ j, j < s.opn.length → ∃ ob, po = some ⟨ob, 0, none⟩ := fun j hj => by
        rcases hW4.opn.2 with ⟨h1, h2⟩ | ⟨g, c, cur, h1, _, _, h2, _⟩
        · exact absurd h2 (by show ¬ s.opn.length = 0; omega)
        · simp only [Value.slice.injEq] at h1; exact ⟨g, h1.1⟩
      have b6 := hW4.blk.cell (j := 6) rfl
      have x4 := hX4.cell (j := 4) rfl
      have HW4 : Hid _ := hW4
      have HX4 : Hid _ := hX4
      have HK4 : Hid _ := hk4
      have HGO : Hid _ := hgo
      have ho' : (last.opn : Int) ≤ (s.opn.length : Int) := by omega
      clear hW4 hX4 hk4 hgo
      go_wp2
      go_quiet (fail)
      have hb5 : Below w4.heap.size w4 (w4.drewN nq) := below_drewN (Below.refl _ _) nq
      have hW5 := HW4.out.go hb5
      have hX5 : Blk 142 (w4.drewN nq) xb [.int .i64 last.v, .int .i64 last.by_, .int .i64 (last.next : Int), .int .i64 last.low, .int .i64 (last.opn : Int)] := HX4.out
      have hk5 : Wk a w (w4.drewN nq) := HK4.out.trans (Wk.of_below hb5 (by omega))
      clear HW4 HX4 HK4 b6 x4 hb5 hs4
      generalize w4.drewN nq = w5 at hW5 hX5 hk5 ⊢
      generalize hq : (if co = last.opn then po else Option.map (fun x => x.add last.opn) po) = q
      have HQ : Hid _ := hq
      have hkM : s.block.length = a.M := hK
      have HS0 : Hid _ := hW5
      have HX0 : Hid _ := hX5
      have HK0 : Hid _ := hk5
      have hnl : ((s.opn.length - last.opn : Nat) : Int) ≤ 1073741824 := by omega
      clear hq hW5 hX5 hk5 hv hP hcap hcap1 hP' hln hlow hdv hD hpl'
      go_wp2
      go_loopw [80] (fun i wr => ∃ j : Nat, j ≤ s.opn.length - last.opn ∧ i = .int .i64 j ∧ Hid (WB a lv (.slice (some ⟨pb, 0, none⟩) (pre ++ [top]).length cap) (.slice po s.opn.length co) { s with path := pre ++ [top], block := ((s.opn.drop last.opn).take j).foldl (fun b p => b.set p.toNat last.by_) s.block } wr) ∧ Hid (Blk 142 wr xb [.int .i64 last.v, .int .i64 last.by_, .int .i64 (last.next : Int), .int .i64 last.low, .int .i64 (last.opn : Int)]) ∧ Hid (Wk a w wr)) (fun i _ => (s.opn.length - last.opn) - (intOf i).toNat)
      case atStart => exact ⟨0, Nat.zero_le _, rfl, HS0.out, HX0.out, HK0.out⟩
      case round =>
        obtain ⟨j, hj, rfl, HWr, HXr, HKr⟩ := hrel
        by_cases hlt : j < s.opn.length - last.opn
        · obtain ⟨ob, rfl⟩ := HGO.out j (by omega)
          have hq' : q = some ⟨ob, last.opn, none⟩ := by
            rw [← HQ.out, if_neg (by omega), Option.map_some, addr_add]
          subst hq'
          have hjo : last.opn + j < s.opn.length := by omega
          obtain ⟨pk, hpk, hpkM⟩ := HOPS.out s.opn[last.opn + j] (List.getElem_mem hjo)
          have c0 : wr.cell? ⟨ob, last.opn + j, none⟩ = some (.int .i64 (pk : Int)) := by
            have := HWr.out.opn.cellAt (last.opn + j) (by show last.opn + j < s.opn.length * 1; omega)
            rw [this, List.getElem?_map]
            show Option.map _ s.opn[last.opn + j]? = _
            rw [List.getElem?_eq_getElem hjo, hpk]
            rfl
          have b4 := HWr.out.blk.cell (j := 4) rfl
          have x1 := HXr.out.cell (j := 1) rfl
          have hfl : (((s.opn.drop last.opn).take j).foldl (fun b p => b.set p.toNat last.by_) s.block).length = a.M := (foldl_len _ _ _).trans hkM
          obtain ⟨y0, k0⟩ : ∃ z, wr.cell? ⟨a.kb, pk, none⟩ = some z := ⟨_, HWr.out.bls.cell (by rw [List.getElem?_map]; show Option.map _ (((s.opn.drop last.opn).take j).foldl (fun b p => b.set p.toNat last.by_) s.block)[pk]? = _; rw [List.getElem?_eq_getElem (by rw [hfl]; exact hpkM)]; rfl)⟩
          have f0 := HWr.out.bls.frozen pk
          have hpk' : (pk : Int) < (a.M : Int) := by omega
          have hjn : (j : Int) < ((s.opn.length - last.opn : Nat) : Int) := by omega
          have hS := HWr.out.setBlock hL pk last.by_
          have HFB : Hid (((s.opn.drop last.opn).take (j + 1)).foldl (fun b p => b.set p.toNat last.by_) s.block = (((s.opn.drop last.opn).take j).foldl (fun b p => b.set p.toNat last.by_) s.block).set pk last.by_) := by
            unfold Hid
            rw [List.take_add_one, List.getElem?_drop, List.getElem?_eq_getElem hjo, List.foldl_append, hpk]
            rfl
          have HR1 : Hid _ := hS.go (B := (wr.setCell ⟨a.kb, pk, none⟩ (.int .i64 last.by_)).drew) (below_drewN (Below.refl _ _) 1)
          have HR2 : Hid (Blk 142 (wr.setCell ⟨a.kb, pk, none⟩ (.int .i64 last.by_)).drew xb _) := HXr.out.other (p := ⟨a.kb, pk, none⟩) (by have := hL.k0; simp only; omega) (.int .i64 last.by_)
          have hk6 := HKr.out.set (p := ⟨a.kb, pk, none⟩) (.inl (.inr (.inr (.inr (.inr rfl))))) (.int .i64 last.by_)
          have HR3 : Hid (Wk a w (wr.setCell ⟨a.kb, pk, none⟩ (.int .i64 last.by_)).drew) := ⟨hk6.os, hk6.tape, hk6.output, hk6.size, hk6.block⟩
          clear hS hk6 HWr HXr HKr HOPS HGO HQ hpk hfl HA3 HS0 HX0 HK0
          go_wp2
          go_big_region_o
          go_wp2
          refine ⟨⟨j + 1, by omega, by go_num, ?_, HR2.out, HR3.out⟩, by simp [intOf]; omega⟩
          rw [HFB.out]
          exact HR1.out
        · obtain rfl : j = s.opn.length - last.opn := by omega
          have hfull : (s.opn.drop last.opn).take (s.opn.length - last.opn) = s.opn.drop last.opn := List.take_of_length_le (by rw [List.length_drop]; omega)
          rw [hfull] at HWr
          have b6 := HWr.out.blk.cell (j := 6) rfl
          have f6 := HWr.out.blk.frozen 6
          have x4 := HXr.out.cell (j := 4) rfl
          have hz : ∃ pv' ov', WB a lv pv' ov' (leaveW s (pre ++ [top]) last) (wr.setCell ⟨a.wb, 6, none⟩ (.slice po last.opn co)).drew ∧ Apart2 pv' ov' ∧ Wk a w (wr.setCell ⟨a.wb, 6, none⟩ (.slice po last.opn co)).drew := by
            have h1 := (HWr.out.cutOpn (s := { s with path := pre ++ [top], block := (s.opn.drop last.opn).foldl (fun b p => b.set p.toNat last.by_) s.block }) hL (k := last.opn) ho).go (B := (wr.setCell ⟨a.wb, 6, none⟩ (.slice po last.opn co)).drew) (below_drewN (Below.refl _ _) 1)
            have h2 := HKr.out.set (p := ⟨a.wb, 6, none⟩) (.inl (.inl rfl)) (.slice po last.opn co)
            refine ⟨.slice (some ⟨pb, 0, none⟩) (pre ++ [top]).length cap, .slice po last.opn co, ?_, ?_, ⟨h2.os, h2.tape, h2.output, h2.size, h2.block⟩⟩
            · rw [HE.out]
              exact h1
            · cases po with
              | none => exact ⟨.inr (by simp [Value.ownBlock]), .inl rfl⟩
              | some ad => exact HA3.out
          have Hz : Hid _ := hz
          clear HWr HXr HKr HOPS HGO HQ HA3 HS0 HX0 HK0 hz hfull
          have hoc : (last.opn : Int) ≤ (co : Int) := by omega
          go_wp2
          go_big_region_o
          go_wp2
          refine bodyPost_end (results_none rfl _ _ _) rfl ?_
          exact ⟨rfl, Hz.out⟩
end Go.Proofs.Yteekhofollaooaa

namespace Go.Proofs.Yteekhofollaooaa
open Go Go.Proofs Go.RowKit

/-- The cells of the links of a vertex. -/
theorem LK.at {a : Lay} {lv : Value} {lk : List (List (Int × Int))} {W : World} (h : LK a lv lk W) {v : Nat} (hv : v < a.N) : ∃ lb sb off c, lv = .slice (some ⟨lb, 0, none⟩) a.N a.N ∧ lb < a.h0 ∧ sb < a.h0 ∧ ¬ a.five lb ∧ ¬ a.five sb ∧ W.cell? ⟨lb, v, none⟩ = some (.slice (some ⟨sb, off, none⟩) (lk.getD v []).length c) ∧ ∀ j x, (lk.getD v [])[j]? = some x → W.cell? ⟨sb, off + j * 2, none⟩ = some (.int .i64 x.1) ∧ W.cell? ⟨sb, off + j * 2 + 1, none⟩ = some (.int .i64 x.2) := by
  obtain ⟨lb, sb, svs, cs, h1, h2, h3, h4, h5, h6, h7, h8, h9⟩ := h.ex
  have hl : lk[v]? = some (lk.getD v []) := by rw [List.getD_eq_getElem?_getD, List.getElem?_eq_getElem (by omega)]; rfl
  obtain ⟨off, c, g1, g2⟩ := h9 v _ hl
  exact ⟨lb, sb, off, c, h1, h2, h4, h3, h5, h7.cell g1, fun j x hx => ⟨h8.cell (g2 j x hx).1, h8.cell (g2 j x hx).2⟩⟩

theorem pot_root {N M C : Nat} {lk : List (List (Int × Int))} {s : WS} {r : Nat} (h : OkW N M C lk s) (hp : s.path = []) (hr : r < N) (hs : s.depth.getD r 0 < 0) :
    pot lk N { s with root := s.root.set r (r : Int), from_ := s.from_.set r (-1), depth := s.depth.set r 0, path := s.path ++ [⟨(r : Int), -1, 0, 0, 0⟩] } ≤ pot lk N s := by
  have hpe : s.path ++ [(⟨(r : Int), -1, 0, 0, 0⟩ : Stp)] = [⟨(r : Int), -1, 0, 0, 0⟩] := by rw [hp]; rfl
  have hu := unseen_set (lk := lk) h.lenD hr hs (Int.le_refl 0)
  unfold pot
  show 2 * unseenPot lk N (s.depth.set r 0) + wayPot lk (s.path ++ [(⟨(r : Int), -1, 0, 0, 0⟩ : Stp)]) ≤ 2 * unseenPot lk N s.depth + wayPot lk s.path
  rw [hpe, wayPot_one, hp]
  simp only
  have : degW lk (r : Int) = (lk.getD r []).length := by unfold degW; rfl
  rw [this]
  have : wayPot lk [] = 0 := rfl
  omega

set_option maxRecDepth 100000 in
set_option maxHeartbeats 4000000 in
theorem start_new (a : Lay) (hL : LayOK a) (lv pv ov : Value) (lk : List (List (Int × Int))) (C : Nat) (s : WS) (r : Nat) (hr : r < a.N) (hN : a.N ≤ 1048576) (hC : C ≤ 1073741823) (hK : LinksIn a.N a.M lk) (hdeg : ∀ v, (lk.getD v []).length ≤ 4194304) (hOk : OkW a.N a.M C lk s) (hp : s.path = []) (hs : s.depth.getD r 0 < 0) (fuel : Nat) (hf : pot lk a.N s ≤ fuel) (w : World) (h : WB a lv pv ov s w) (hA : Apart2 pv ov) (hlk : LK a lv lk w) (hh : a.h0 ≤ w.heap.size) :
    Calls Try.prog 81 #[.pointer (some ⟨a.wb, 0, none⟩), .int .i64 (r : Int)] w fun e w' => e = .returned (.tuple #[]) ∧ ∃ pv' ov', WB a lv pv' ov' (startW lk fuel s r) w' ∧ Apart2 pv' ov' ∧ Wk a w w' ∧ OkW a.N a.M C lk (startW lk fuel s r) ∧ (startW lk fuel s r).path = [] := by
  have hmix := mixed
  obtain ⟨i0, hi, hz0, hz1, hz2⟩ := info_parts infoSt
  have HOk1 : Hid _ := hOk.root hp hr hs
  have HP1 : Hid _ := Nat.le_trans (pot_root hOk hp hr hs) hf
  have HS : Hid (startW lk fuel s r = runW lk fuel { s with root := s.root.set r (r : Int), from_ := s.from_.set r (-1), depth := s.depth.set r 0, path := s.path ++ [⟨(r : Int), -1, 0, 0, 0⟩] }) := by
    unfold Hid startW; rw [if_neg (by omega)]
  have HS3 : Hid _ := ((h.setRoot hL r (r : Int)).setFrom hL r (-1)).setDepth hL r 0
  have HK3 : Hid _ := (((Wk.refl a w).set (p := ⟨a.rb, r, none⟩) (.inl (.inr (.inl rfl))) (.int .i64 (r : Int))).set (p := ⟨a.fb, r, none⟩) (.inl (.inr (.inr (.inl rfl)))) (.int .i64 (-1))).set (p := ⟨a.db, r, none⟩) (.inl (.inr (.inr (.inr (.inl rfl))))) (.int .i64 0)
  have b1 := h.blk.cell (j := 1) rfl
  have b2 := h.blk.cell (j := 2) rfl
  have b3 := h.blk.cell (j := 3) rfl
  have t0 : w.cell? ⟨a.db, r, none⟩ = some (.int .i64 (s.depth.getD r 0)) := h.dep.cell (by rw [List.getElem?_map, List.getElem?_eq_getElem (by rw [hOk.lenD]; exact hr)]; simp [show r < s.depth.length by rw [hOk.lenD]; exact hr])
  obtain ⟨y1, k1⟩ : ∃ z, w.cell? ⟨a.rb, r, none⟩ = some z := ⟨_, h.root.cell (by rw [List.getElem?_map, List.getElem?_eq_getElem (by rw [hOk.lenR]; exact hr)]; rfl)⟩
  obtain ⟨y2, k2⟩ : ∃ z, w.cell? ⟨a.fb, r, none⟩ = some z := ⟨_, h.frm.cell (by rw [List.getElem?_map, List.getElem?_eq_getElem (by rw [hOk.lenF]; exact hr)]; rfl)⟩
  have f1 := h.root.frozen r
  have f2 := h.frm.frozen r
  have f3 := h.dep.frozen r
  have n1 := hL.wr
  have n2 := hL.wf
  have n3 := hL.wd
  have n4 := hL.rf
  have n5 := hL.rd
  have n6 := hL.fd
  have hrN : (r : Int) < (a.N : Int) := by omega
  have HOk : Hid _ := hOk
  have HK : Hid _ := hK
  have Hp : Hid _ := hp
  have HA : Hid _ := hA
  have HLK : Hid _ := hlk
  have HF : Hid _ := hf
  have HD : Hid _ := hdeg
  generalize s.depth.getD r 0 = dr at *
  have hs' : ¬ 0 ≤ dr := by omega
  clear h hOk hK hp hA hlk hf hdeg
  go_enter Try.func81, Try.ntmps81
  go_wp2
  go_big_region_o
  have hW1 := HS3.out.go (B := (((w.setCell ⟨a.rb, r, none⟩ (.int .i64 (r : Int))).setCell ⟨a.fb, r, none⟩ (.int .i64 (-1))).setCell ⟨a.db, r, none⟩ (.int .i64 0)).drew) (below_drewN (Below.refl _ _) 1)
  have hk1 : Wk a w (((w.setCell ⟨a.rb, r, none⟩ (.int .i64 (r : Int))).setCell ⟨a.fb, r, none⟩ (.int .i64 (-1))).setCell ⟨a.db, r, none⟩ (.int .i64 0)).drew := ⟨HK3.out.os, HK3.out.tape, HK3.out.output, HK3.out.size, HK3.out.block⟩
  clear HS3 HK3 b1 b2 b3 t0 k1 k2 f1 f2 f3 n1 n2 n3 n4 n5 n6
  generalize (((w.setCell ⟨a.rb, r, none⟩ (.int .i64 (r : Int))).setCell ⟨a.fb, r, none⟩ (.int .i64 (-1))).setCell ⟨a.db, r, none⟩ (.int .i64 0)).drew = w1 at hW1 hk1 ⊢
  have hh1 : a.h0 ≤ w1.heap.size := Nat.le_trans hh hk1.size
  have hl0 : s.path.length = 0 := by rw [Hp.out]; rfl
  obtain ⟨pp, pc, rfl⟩ := owns_formP hW1.way
  have hb2 : Below w1.heap.size w1 (w1.alloc (.cells #[.int .i64 (r : Int), .int .i64 (-1), .int .i64 0, .int .i64 0, .int .i64 0] 142)) := (Below.refl _ _).alloc (Nat.le_refl _) _
  have hW2 := hW1.go hb2
  have hk2 := hk1.trans (Wk.of_below hb2 hh1)
  have hown : (w1.alloc (.cells #[.int .i64 (r : Int), .int .i64 (-1), .int .i64 0, .int .i64 0, .int .i64 0] 142)).ownsRow a.h0 142 5 (.slice pp s.path.length pc) s.path.length (flatP s.path) := hW2.way
  have hfl : flatP s.path = [] := by rw [Hp.out]; rfl
  rw [hl0, hfl] at hown
  have hh2 : a.h0 ≤ (w1.alloc (.cells #[.int .i64 (r : Int), .int .i64 (-1), .int .i64 0, .int .i64 0, .int .i64 0] 142)).heap.size := Nat.le_trans hh1 hb2.size
  have hnews : ∀ (j : Nat) (u : Value), ([.int .i64 (r : Int), .int .i64 (-1), .int .i64 0, .int .i64 0, .int .i64 0] : List Value)[j]? = some u → (w1.alloc (.cells #[.int .i64 (r : Int), .int .i64 (-1), .int .i64 0, .int .i64 0, .int .i64 0] 142)).cell? ((⟨w1.heap.size, 0, none⟩ : Addr).add j) = some u := fun j u hu => by
    have hb : Blk 142 (w1.alloc (.cells #[.int .i64 (r : Int), .int .i64 (-1), .int .i64 0, .int .i64 0, .int .i64 0] 142)) w1.heap.size [.int .i64 (r : Int), .int .i64 (-1), .int .i64 0, .int .i64 0, .int .i64 0] := heap_alloc_new w1 _
    rw [addr_add]
    exact hb.cell hu
  have hone : ∀ u ∈ ([.int .i64 (r : Int), .int .i64 (-1), .int .i64 0, .int .i64 0, .int .i64 0] : List Value), u.oneCell' = true := by
    intro u hu
    simp at hu
    rcases hu with rfl | rfl | rfl <;> rfl
  have b5 := hW1.blk.cell (j := 5) rfl
  rw [show ({ s with root := s.root.set r (r : Int), from_ := s.from_.set r (-1), depth := s.depth.set r 0 } : WS).path.length = 0 from hl0] at b5
  have Hlow : Hid (∀ k, (Value.slice pp s.path.length pc).ownBlock = some k → a.h0 ≤ k) := fun k e => (hW2.way.lt k e).1
  have Hov : Hid (∀ k, ov.ownBlock = some k → k < (w1.alloc (.cells #[.int .i64 (r : Int), .int .i64 (-1), .int .i64 0, .int .i64 0, .int .i64 0] 142)).heap.size) := fun k e => (hW2.opn.lt k e).2
  have HW2 : Hid _ := hW2
  have HK2 : Hid _ := hk2
  have Hl0 : Hid _ := hl0
  clear hW1 hk1 hW2 hk2 hb2 hl0 hfl
  go_wp2_with (at_builtin; refine wpList_append_own_at _ rfl _ _ 113 rfl a.h0 142 i0 (.agg #[.int .i64 0, .int .i64 0, .int .i64 0, .int .i64 0, .int .i64 0]) 5 40 Try.underlying113 hi hz0 hz1 hz2 rfl (by decide) (.slice pp 0 pc) _ _ rfl hown ⟨w1.heap.size, 0, none⟩ 1 1 [.int .i64 (r : Int), .int .i64 (-1), .int .i64 0, .int .i64 0, .int .i64 0] rfl rfl hnews hone (by decide) (by decide) hh2 ?_)
  intro v6 w6 hown6 hg6 hnil6 hat6
  obtain ⟨a6, m6, c6, rfl⟩ := owns_slice hown6
  have hS := HW2.out.setPth (P := s.path ++ [⟨(r : Int), -1, 0, 0, 0⟩]) hL HA.out (B := w6) (pv' := .slice a6 m6 c6) (by rw [show (Value.slice pp s.path.length pc).ownBlock = (Value.slice pp 0 pc).ownBlock from by cases pp <;> rfl]; exact hg6) Hlow.out (by rw [List.length_append, flatP_app, Hl0.out, Hp.out]; exact hown6)
  have hb8 : Blk 115 w6 a.wb (cellsW a lv (.slice pp s.path.length pc) ov) := (hg6.block a.wb HW2.out.blk.lt (fun e => by have := Hlow.out a.wb (by rw [show (Value.slice pp s.path.length pc).ownBlock = (Value.slice pp 0 pc).ownBlock from by cases pp <;> rfl]; exact e.symm); have := hL.w0; omega)).trans HW2.out.blk
  have c5 := hb8.cell (j := 5) rfl
  have f5 := hb8.frozen 5
  have hlow6 : ∀ k, (Value.slice pp 0 pc).ownBlock = some k → a.h0 ≤ k := fun k e => Hlow.out k (by rw [show (Value.slice pp s.path.length pc).ownBlock = (Value.slice pp 0 pc).ownBlock from by cases pp <;> rfl]; exact e)
  have HS1 : Hid _ := hS
  have HK1 : Hid _ := (HK2.out.trans (Wk.grown hg6 hh2 hlow6)).set (p := ⟨a.wb, 5, none⟩) (.inl (.inl rfl)) (.slice a6 m6 c6)
  have HA1 : Hid (Apart2 (.slice a6 m6 c6) ov) := apart_grown HA.out (by rw [show (Value.slice pp s.path.length pc).ownBlock = (Value.slice pp 0 pc).ownBlock from by cases pp <;> rfl, World.size_alloc]; exact hat6) Hov.out
  clear hS hb8 hown6 hg6 hnil6 hat6 HK2 HW2 Hlow Hov hlow6 hnews hone hown b5 hi hz0 hz1 hz2 HA
  go_wp2
  go_loopg [4] fuel (fun k _ wr => ∃ s' pv' ov', WB a lv pv' ov' s' wr ∧ Apart2 pv' ov' ∧ Wk a w wr ∧ OkW a.N a.M C lk s' ∧ pot lk a.N s' ≤ k ∧ runW lk k s' = startW lk fuel s r)
  case atStart => exact ⟨_, _, _, HS1.out, HA1.out, HK1.out, HOk1.out, HP1.out, HS.out.symm⟩
  case round =>
    obtain ⟨s', pv', ov', hW, hA, hk, hOk, hpot, hrun⟩ := hrel
    obtain ⟨pp', pc', rfl⟩ := owns_formP hW.way
    have b5 := hW.blk.cell (j := 5) rfl
    have hpw : s'.path.length ≤ pot lk a.N s' := pot_way
    have hbo := hOk.bo
    cases hpl : s'.path.getLast? with
    | none =>
      have hpn : s'.path = [] := List.getLast?_eq_none_iff.1 hpl
      have HE : Hid (startW lk fuel s r = s') := by unfold Hid; rw [← hrun, run_stay hpn]
      have hl' : s'.path.length = 0 := by rw [hpn]; rfl
      have Hn : Hid _ := hpn
      have HW : Hid _ := hW
      have HA : Hid _ := hA
      have HK' : Hid _ := hk
      have HOk' : Hid _ := hOk
      clear hW hA hk hOk hpot hrun hpn hpl hpw hbo
      go_wp2
      refine bodyPost_end (results_none rfl _ _ _) rfl ?_
      refine ⟨rfl, _, _, ?_, HA.out, HK'.out, ?_, ?_⟩
      · rw [HE.out]; exact HW.out
      · rw [HE.out]; exact HOk'.out
      · rw [HE.out]; exact Hn.out
    | some top =>
      obtain ⟨init, hp'⟩ := List.getLast?_eq_some_iff.1 hpl
      have hln : s'.path.length = init.length + 1 := by rw [hp']; simp
      obtain ⟨pb, hpb⟩ : ∃ pb, pp' = some ⟨pb, 0, none⟩ := by
        obtain ⟨g, cp, hg⟩ := owns_pos hW.way (by omega)
        simp only [Value.slice.injEq] at hg
        exact ⟨g, hg.1⟩
      subst hpb
      obtain ⟨v, ev, hvN, hdv⟩ := hOk.way top.v (by rw [hp']; simp)
      have hnx := hOk.nxt top (by rw [hp']; simp)
      unfold degW at hnx
      have hvt : top.v.toNat = v := by rw [ev]; rfl
      rw [hvt] at hnx
      have hdg := HD.out v
      obtain ⟨k', hk'⟩ : ∃ k', gk = k' + 1 := ⟨gk - 1, by omega⟩
      subst hk'
      have HRUN : Hid (runW lk k' (stepW lk s') = startW lk fuel s r) := hrun
      have hst : stepW lk s' = if top.next = (lk.getD v []).length then leaveW s' init top else lookW s' init { top with next := top.next + 1 } ((lk.getD v []).getD top.next (0, 0)) := by
        unfold stepW
        rw [hpl]
        simp only [hvt]
        rw [show s'.path.dropLast = init from by rw [hp']; simp]
      generalize hxs : lk.getD v [] = xs at hnx hdg hst
      have HXS : Hid _ := hxs
      have HST : Hid _ := hst
      have hbl : init.length + 1 ≤ 1073741823 := by omega
      have hol : s'.opn.length ≤ 1073741823 := by omega
      have HW : Hid _ := hW
      have HA : Hid _ := hA
      have HK' : Hid _ := hk
      have HOk' : Hid _ := hOk
      have Hp' : Hid _ := hp'
      have Hln : Hid _ := hln
      have Hpot : Hid _ := hpot
      have hvN' : (v : Int) < (a.N : Int) := by omega
      rw [hln] at b5
      clear hW hA hk hOk hpot hrun hpl hpw hbo hp' hln hst hxs
      go_wp2
      go_quiet (fail)
      have hb1 : Below wr.heap.size wr (wr.drewN nq) := below_drewN (Below.refl _ _) nq
      have hW1 := HW.out.go hb1
      have hpb1 := HW.out.way.lt pb rfl
      have hk1 : Wk a w (wr.drewN nq) := HK'.out.trans (Wk.of_below hb1 (by omega))
      clear HW HK' b5
      generalize wr.drewN nq = w8 at hW1 hk1 ⊢
      obtain ⟨lb, sb, off, cc, rfl, hlb, hsb, hl5, hs5, g0, g1⟩ := (HLK.out.go hk1).at hvN
      rw [HXS.out] at g0 g1
      have b0 := hW1.blk.cell (j := 0) rfl
      obtain ⟨p0, -, p2, -, -⟩ := hW1.top Hp'.out
      rw [ev] at p0
      have G1 : Hid _ := g1
      have HW : Hid _ := hW1
      have HK' : Hid _ := hk1
      clear hW1 hk1 g1
      go_wp2
      go_quiet (fail)
      have hb2 : Below w8.heap.size w8 (w8.drewN nq) := below_drewN (Below.refl _ _) nq
      have hW2 := HW.out.go hb2
      have hpb2 := HW.out.way.lt pb rfl
      have hk2 : Wk a w (w8.drewN nq) := HK'.out.trans (Wk.of_below hb2 (by omega))
      have G2 : Hid _ := fun j x hx => (⟨cell_keepK hb2 (G1.out j x hx).1, cell_keepK hb2 (G1.out j x hx).2⟩ : _ ∧ _)
      have g02 := cell_keepK hb2 g0
      clear HW HK' b0 p0 p2 g0 G1 hpb1
      generalize w8.drewN nq = w9 at hW2 hk2 G2 g02 ⊢
      by_cases hnq : top.next = xs.length
      · have HE : Hid (stepW lk s' = leaveW s' init top) := by unfold Hid; rw [HST.out, if_pos hnq]
        have hlv := leave_any a hL _ ov' s' init top pb pc' Hp'.out (by rw [Hln.out]; omega) (by omega) HOk'.out.lenD HOk'.out.lenK (fun st hst => by
          obtain ⟨z, z1, z2, _⟩ := HOk'.out.way st.v (by rw [Hp'.out]; exact List.mem_map.2 ⟨st, List.mem_append_left _ hst, rfl⟩)
          exact ⟨z, z1, z2⟩) (HOk'.out.opl top.opn (by rw [Hp'.out]; simp)) HOk'.out.ops w9 hW2 HA.out
        have hnq' : (xs.length : Int) = (top.next : Int) := by omega
        clear hW2 G2 g02
        go_wp2_with fail
        refine hlv.mono ?_
        rintro e w10 ⟨rfl, pv2, ov2, z1, z2, z3⟩
        have HZ1 : Hid _ := z1
        have HZ2 : Hid _ := z2
        have HZ3 : Hid _ := hk2.trans z3
        clear z1 z2 z3 hk2 hlv
        go_wp2
        go_roundg k'
        case measure => exact Nat.lt_succ_self _
        case rel =>
          have hle := leave_less (lk := lk) (N := a.N) Hp'.out
          have hpo := Hpot.out
          refine ⟨leaveW s' init top, pv2, ov2, HZ1.out, HZ2.out, HZ3.out, HOk'.out.leave Hp'.out, by omega, ?_⟩
          rw [← HE.out]
          exact HRUN.out
      · have hlt : top.next < xs.length := by omega
        obtain ⟨x, hx⟩ : ∃ x, xs[top.next]? = some x := ⟨_, List.getElem?_eq_getElem hlt⟩
        have hxd : xs.getD top.next (0, 0) = x := by rw [List.getD_eq_getElem?_getD, hx]; rfl
        have HE : Hid (stepW lk s' = lookW s' init { top with next := top.next + 1 } x) := by unfold Hid; rw [HST.out, if_neg hnq, hxd]
        have HOkL : Hid _ := HOk'.out.look HK.out Hp'.out (x := x) (by rw [hvt, HXS.out]; exact hx)
        have HLess : Hid _ := look_less (lk := lk) (N := a.N) (x := x) Hp'.out (by unfold degW; rw [hvt, HXS.out]; exact hlt) HOk'.out.lenD (by obtain ⟨⟨u, eu, hu⟩, _⟩ := HK.out v x (by rw [HXS.out]; exact List.mem_of_getElem? hx); rw [eu]; exact hu) (by unfold at_; rw [hvt]; exact hdv)
        obtain ⟨⟨u, eu, hu⟩, pl, epl, hpl⟩ := HK.out v x (by rw [HXS.out]; exact List.mem_of_getElem? hx)
        obtain ⟨q0, q1⟩ := G2.out top.next x hx
        rw [eu] at q0
        rw [epl] at q1
        have hxe : x = ((u : Int), (pl : Int)) := by rw [← eu, ← epl]
        subst hxe
        obtain ⟨p0, -, p2, -, -⟩ := hW2.top Hp'.out
        rw [ev] at p0
        have b0 := hW2.blk.cell (j := 0) rfl
        have fr := hW2.way.frozenAt (init.length * 5 + 2)
        have hS := hW2.setWay hL HA.out (j := init.length * 5 + 2) (u := .int .i64 ((top.next + 1 : Nat) : Int)) (P := init ++ [{ top with next := top.next + 1 }]) (by rw [Hp'.out]; exact flatP_next init top (top.next + 1)) (by rw [Hp'.out]; simp)
        have hk3 := hk2.set (p := ⟨pb, init.length * 5 + 2, none⟩) (.inr hpb2.1) (.int .i64 ((top.next + 1 : Nat) : Int))
        have HS2 : Hid _ := hS
        have HK3 : Hid _ := hk3
        have hnw : pb ≠ a.wb := by have := hL.w0; omega
        have hnl : pb ≠ lb := by omega
        have hns : pb ≠ sb := by omega
        have hbd := HOk'.out.bd v
        have hnx' : ¬ (top.next : Int) = (xs.length : Int) := by omega
        have hlt' : (top.next : Int) < (xs.length : Int) := by omega
        clear hW2 hk2 G2 hS hk3
        have Hx : Hid _ := hx
        clear hx hxd eu epl
        generalize xs.length = dg at *
        go_wp2
        have hW4 := HS2.out
        have hk4 := HK3.out
        rw [show ((top.next + 1 : Nat) : Int) = (top.next : Int) + 1 from by omega] at hW4 hk4
        have g03 : (w9.setCell ⟨pb, init.length * 5 + 2, none⟩ (.int .i64 ((top.next : Int) + 1))).cell? ⟨lb, v, none⟩ = some (.slice (some ⟨sb, off, none⟩) dg cc) := (World.cell?_of_block (Below.heap_setCell w9 _ _ lb (Ne.symm hnl))).trans g02
        have q03 : (w9.setCell ⟨pb, init.length * 5 + 2, none⟩ (.int .i64 ((top.next : Int) + 1))).cell? ⟨sb, off + top.next * 2, none⟩ = some (.int .i64 (u : Int)) := (World.cell?_of_block (Below.heap_setCell w9 _ _ sb (Ne.symm hns))).trans q0
        have q13 : (w9.setCell ⟨pb, init.length * 5 + 2, none⟩ (.int .i64 ((top.next : Int) + 1))).cell? ⟨sb, off + top.next * 2 + 1, none⟩ = some (.int .i64 (pl : Int)) := (World.cell?_of_block (Below.heap_setCell w9 _ _ sb (Ne.symm hns))).trans q1
        clear HS2 HK3 g02 q0 q1 p0 p2 b0 fr
        generalize (w9.setCell ⟨pb, init.length * 5 + 2, none⟩ (.int .i64 ((top.next : Int) + 1))) = w10 at hW4 hk4 g03 q03 q13 ⊢
        have b0 := hW4.blk.cell (j := 0) rfl
        obtain ⟨p0, -, p2, -, -⟩ := hW4.top (s := { s' with path := init ++ [{ top with next := top.next + 1 }] }) rfl
        rw [show (({ top with next := top.next + 1 } : Stp).next : Int) = (top.next : Int) + 1 from by show ((top.next + 1 : Nat) : Int) = _; omega] at p2
        have p0' : w10.cell? ⟨pb, init.length * 5, none⟩ = some (.int .i64 (v : Int)) := by rw [← ev]; exact p0
        have Hlook : Hid _ := fun (W : World) (hb : Below w10.heap.size w10 W) => look_any a hL _ ov' { s' with path := init ++ [{ top with next := top.next + 1 }] } init { top with next := top.next + 1 } pb pc' v u (pl : Int) rfl ev hvN hu hN HOk'.out.lenD HOk'.out.lenR HOk'.out.lenF (by show (init ++ [_]).length ≤ _; rw [List.length_append, List.length_singleton]; omega) (by show s'.opn.length ≤ _; omega) hdv (by show s'.depth.getD v 0 ≤ _; omega) W (hW4.go hb) HA.out
        have HW4 : Hid _ := hW4
        have HK4 : Hid _ := hk4
        have hpb4 := hW4.way.lt pb rfl
        have Hp0 : Hid _ := p0
        clear hW4 hk4 p0 hbd hdv hvt hu hpl
        have hw1 : IntKind.i64.wrap ((top.next : Int) + 1 - 1) = (top.next : Int) := by rw [show (top.next : Int) + 1 - 1 = (top.next : Int) from by omega]; exact wrap_i _ (by omega) (by omega)
        have hw2 : IntKind.i64.wrap (top.next : Int) = (top.next : Int) := wrap_i _ (by omega) (by omega)
        generalize hof : init.length * 5 = of at *
        refine wp_region_last (S := (fun w' : World => w'.cell? ⟨a.wb, 0, none⟩ = some (.slice (some ⟨lb, 0, none⟩) a.N a.N) ∧ w'.cell? ⟨pb, of, none⟩ = some (.int .i64 (v : Int)) ∧ w'.cell? ⟨pb, of + 2, none⟩ = some (.int .i64 ((top.next : Int) + 1)) ∧ w'.cell? ⟨lb, v, none⟩ = some (.slice (some ⟨sb, off, none⟩) dg cc) ∧ w'.cell? ⟨sb, off + top.next * 2, none⟩ = some (.int .i64 (u : Int)) ∧ w'.cell? ⟨sb, off + top.next * 2 + 1, none⟩ = some (.int .i64 (pl : Int)))) (by kernel_rfl) ?_ (fun hHeld => ?_)
        · (try dsimp only); go_keep
        refine wpAnyL_take (i := 0) (v := ?_) rfl (by kernel_rfl) (by kernel_rfl) (by kernel_rfl) (by kernel_rfl) (fun _ _ _ h => h) (Or.inl ⟨by rfl, ?_⟩) (by assumption) ?_
        rotate_left
        · intro w hSw; (try dsimp only at hSw); go_simp; (try with_reducible rfl)
        try simp only [Act.put, List.setIfInBounds_toArray]
        refine wpAnyL_take (i := 1) (v := ?_) rfl (by kernel_rfl) (by kernel_rfl) (by kernel_rfl) (by kernel_rfl) (fun _ _ _ h => h) (Or.inl ⟨by rfl, ?_⟩) (by assumption) ?_
        rotate_left
        · intro w hSw; (try dsimp only at hSw); go_simp; (try with_reducible rfl)
        try simp only [Act.put]
        refine wpAnyL_take (i := 2) (v := ?_) rfl (by kernel_rfl) (by kernel_rfl) (by kernel_rfl) (by kernel_rfl) (fun _ _ _ h => h) (Or.inl ⟨by rfl, ?_⟩) (by assumption) ?_
        rotate_left
        · intro w hSw; (try dsimp only at hSw); go_simp; (try with_reducible rfl)
        try simp only [Act.put]
        refine wpAnyL_take (i := 3) (v := ?_) rfl (by kernel_rfl) (by kernel_rfl) (by kernel_rfl) (by kernel_rfl) (fun _ _ _ h => h) (Or.inl ⟨by rfl, ?_⟩) (by assumption) ?_
        rotate_left
        · intro w hSw; (try dsimp only at hSw); go_simp; (try with_reducible rfl)
        try simp only [Act.put]
        refine wpAnyL_take (i := 4) (v := ?_) rfl (by kernel_rfl) (by kernel_rfl) (by kernel_rfl) (by kernel_rfl) (fun _ _ _ h => h) (Or.inl ⟨by rfl, ?_⟩) (by assumption) ?_
        rotate_left
        · intro w hSw; (try dsimp only at hSw); go_simp; (try with_reducible rfl)
        try simp only [Act.put]
        refine wpAnyL_take (i := 5) (v := ?_) rfl (by kernel_rfl) (by kernel_rfl) (by kernel_rfl) (by kernel_rfl) (fun _ _ _ h => h) (Or.inl ⟨by rfl, ?_⟩) (by assumption) ?_
        rotate_left
        · intro w hSw; (try dsimp only at hSw); go_simp; (try with_reducible rfl)
        try simp only [Act.put]
        refine wpAnyL_take (i := 6) (v := ?_) rfl (by kernel_rfl) (by kernel_rfl) (by kernel_rfl) (by kernel_rfl) (fun _ _ _ h => h) (Or.inl ⟨by rfl, ?_⟩) (by assumption) ?_
        rotate_left
        · intro w hSw; (try dsimp only at hSw); go_simp; (try with_reducible rfl)
        try simp only [Act.put]
        refine wpAnyL_take (i := 7) (v := ?_) rfl (by kernel_rfl) (by kernel_rfl) (by kernel_rfl) (by kernel_rfl) (fun _ _ _ h => h) (Or.inl ⟨by rfl, ?_⟩) (by assumption) ?_
        rotate_left
        · intro w hSw; (try dsimp only at hSw); go_simp; (try with_reducible rfl)
        try simp only [Act.put]
        refine wpAnyL_take (i := 8) (v := ?_) rfl (by kernel_rfl) (by kernel_rfl) (by kernel_rfl) (by kernel_rfl) (fun _ _ _ h => h) (Or.inl ⟨by rfl, ?_⟩) (by assumption) ?_
        rotate_left
        · intro w hSw; (try dsimp only at hSw); go_simp; (try with_reducible rfl)
        try simp only [Act.put]
        refine wpAnyL_take (i := 9) (v := ?_) rfl (by kernel_rfl) (by kernel_rfl) (by kernel_rfl) (by kernel_rfl) (fun _ _ _ h => h) (Or.inl ⟨by rfl, ?_⟩) (by assumption) ?_
        rotate_left
        · intro w hSw; (try dsimp only at hSw); go_simp; (try with_reducible rfl)
        try simp only [Act.put]
        refine wpAnyL_take (i := 10) (v := ?_) rfl (by kernel_rfl) (by kernel_rfl) (by kernel_rfl) (by kernel_rfl) (fun _ _ _ h => h) (Or.inl ⟨by rfl, ?_⟩) (by assumption) ?_
        rotate_left
        · intro w hSw; (try dsimp only at hSw); go_simp; (try with_reducible rfl)
        try simp only [Act.put]
        refine wpAnyL_take (i := 11) (v := ?_) rfl (by kernel_rfl) (by kernel_rfl) (by kernel_rfl) (by kernel_rfl) (fun _ _ _ h => h) (Or.inl ⟨by rfl, ?_⟩) (by assumption) ?_
        rotate_left
        · intro w hSw; (try dsimp only at hSw); go_simp; (try with_reducible rfl)
        try simp only [Act.put]
        refine wpAnyL_take (i := 12) (v := ?_) rfl (by kernel_rfl) (by kernel_rfl) (by kernel_rfl) (by kernel_rfl) (fun _ _ _ h => h) (Or.inl ⟨by rfl, ?_⟩) (by assumption) ?_
        rotate_left
        · intro w hSw; (try dsimp only at hSw); go_simp; (try with_reducible rfl)
        try simp only [Act.put]
        refine wpAnyL_take (i := 13) (v := ?_) rfl (by kernel_rfl) (by kernel_rfl) (by kernel_rfl) (by kernel_rfl) (fun _ _ _ h => h) (Or.inl ⟨by rfl, ?_⟩) (by assumption) ?_
        rotate_left
        · intro w hSw; (try dsimp only at hSw); go_simp; (try with_reducible rfl)
        try simp only [Act.put]
        refine wpAnyL_take (i := 14) (v := ?_) rfl (by kernel_rfl) (by kernel_rfl) (by kernel_rfl) (by kernel_rfl) (fun _ _ _ h => h) (Or.inl ⟨by rfl, ?_⟩) (by assumption) ?_
        rotate_left
        · intro w hSw; (try dsimp only at hSw); go_simp; (try with_reducible rfl)
        try simp only [Act.put]
        refine wpAnyL_take (i := 15) (v := ?_) rfl (by kernel_rfl) (by kernel_rfl) (by kernel_rfl) (by kernel_rfl) (fun _ _ _ h => h) (Or.inl ⟨by rfl, ?_⟩) (by assumption) ?_
        rotate_left
        · intro w hSw; (try dsimp only at hSw); go_simp; (try with_reducible rfl)
        try simp only [Act.put]
        refine wpAnyL_take (i := 16) (v := ?_) rfl (by kernel_rfl) (by kernel_rfl) (by kernel_rfl) (by kernel_rfl) (fun _ _ _ h => h) (Or.inl ⟨by rfl, ?_⟩) (by assumption) ?_
        rotate_left
        · intro w hSw; (try dsimp only at hSw); go_simp; (try with_reducible rfl)
        try simp only [Act.put]
        refine wpAnyL_take (i := 17) (v := ?_) rfl (by kernel_rfl) (by kernel_rfl) (by kernel_rfl) (by kernel_rfl) (fun _ _ _ h => h) (Or.inl ⟨by rfl, ?_⟩) (by assumption) ?_
        rotate_left
        · intro w hSw; (try dsimp only at hSw); go_simp; (try with_reducible rfl)
        try simp only [Act.put]
        refine wpAnyL_take (i := 18) (v := ?_) rfl (by kernel_rfl) (by kernel_rfl) (by kernel_rfl) (by kernel_rfl) (fun _ _ _ h => h) (Or.inl ⟨by rfl, ?_⟩) (by assumption) ?_
        rotate_left
        · intro w hSw; (try dsimp only at hSw); go_simp; (try with_reducible rfl)
        try simp only [Act.put]
        refine wpAnyL_ready (rs := [19]) (by kernel_rfl) (by simp) ?_
        refine AllReadyL.last rfl (by kernel_rfl) (fun K hK => ?_)
        go_simp
        refine (Hlook.out w10.drew (below_drewN (Below.refl _ _) 1)).mono ?_
        rintro e w11 ⟨rfl, pv2, ov2, z1, z2, z3⟩
        have HZ1 : Hid _ := z1
        have HZ2 : Hid _ := z2
        have HZ3 : Hid (Wk a w w11) := (HK4.out.trans (Wk.of_below (below_drewN (Below.refl w10.heap.size _) 1) (by omega))).trans z3
        clear z1 z2 z3
        refine hK.out _ _ ?_
        clear hK K Hlook HW4 HK4
        try simp only [Act.put, List.setIfInBounds_toArray, List.set_cons_zero, List.set_cons_succ]
        refine wpAnyL_done (by kernel_rfl) ?_ _
        go_wp2
        go_roundg k'
        case measure => exact Nat.lt_succ_self _
        case rel =>
          have hle := HLess.out
          have hpo := Hpot.out
          refine ⟨lookW s' init { top with next := top.next + 1 } ((u : Int), (pl : Int)), pv2, ov2, HZ1.out, HZ2.out, HZ3.out, HOkL.out, by omega, ?_⟩
          rw [← HE.out]
          exact HRUN.out
end Go.Proofs.Yteekhofollaooaa

namespace Go.Proofs.Yteekhofollaooaa
open Go Go.Proofs

section
variable {P : Program} {ops : Array Oper} {Q : Exit → Act → World → Prop} {md : Region.Mode} {S : World → Prop}

/-- In whatever order these come up: those that have not are ready, and no others; behind them all, just so much is listed. -/
def eachB (md : Region.Mode) (ops : Array Oper) (ps : List Nat) (full : Array Bool) : Nat → Array Bool → List Nat → Bool
  | 0, listed, d => (ps.filter fun i => !d.contains i).isEmpty && listed == full
  | n + 1, listed, d => (Region.ready md ops listed == ps.filter fun i => !d.contains i) && (ps.filter fun i => !d.contains i).all fun i => eachB md ops ps full n (listed.setIfInBounds i true) (i :: d)

theorem filter_less {ps : List Nat} (hn : ps.Nodup) (d : List Nat) {i : Nat} (hi : i ∈ ps.filter fun i => !d.contains i) : (ps.filter fun j => !(i :: d).contains j).length + 1 = (ps.filter fun j => !d.contains j).length := by
  have e : (ps.filter fun j => !(i :: d).contains j) = (ps.filter fun j => !d.contains j).erase i := by
    have hnf : (ps.filter fun j => !d.contains j).Nodup := hn.filter _
    rw [hnf.erase_eq_filter, List.filter_filter]
    refine List.filter_congr fun j _ => ?_
    simp only [List.contains_cons, Bool.not_or, bne]
  rw [e, List.length_erase_of_mem hi]
  have := List.length_pos_of_mem hi
  omega

theorem wpAnyH_each (ps : List Nat) (hn : ps.Nodup) (full : Array Bool) (J : List Nat → Act → World → Prop) (fe : Nat)
    (hstep : ∀ i ∈ ps, ∀ d a w, i ∉ d → J d a w → wpOp P ops Q i (fun a' w' => S w' ∧ J (i :: d) a' w') a w)
    (hend : ∀ d a w, (∀ i ∈ ps, i ∈ d) → J d a w → wpAnyH P md ops Q S fe full a w) :
    ∀ (n : Nat) (listed : Array Bool) (d : List Nat) (a : Act) (w : World), (ps.filter fun i => !d.contains i).length = n → eachB md ops ps full n listed d = true → J d a w → wpAnyH P md ops Q S (fe + n) listed a w
  | 0, listed, d, a, w, hl, h, hJ => by
    unfold eachB at h
    rw [Bool.and_eq_true] at h
    have h1 := List.isEmpty_iff.1 h.1
    have h2 : listed = full := by simpa using h.2
    subst h2
    refine hend d a w (fun i hi => ?_) hJ
    have : i ∉ ps.filter fun i => !d.contains i := by rw [h1]; simp
    rw [List.mem_filter] at this
    by_cases hd : i ∈ d
    · exact hd
    · exact absurd ⟨hi, by simp [hd]⟩ this
  | n + 1, listed, d, a, w, hl, h, hJ => by
    unfold eachB at h
    rw [Bool.and_eq_true] at h
    have h1 : Region.ready md ops listed = ps.filter fun i => !d.contains i := by simpa using h.1
    have hne : (ps.filter fun i => !d.contains i) ≠ [] := fun e => by rw [e] at hl; simp at hl
    refine wpAnyH_ready h1 hne (fun i hi => ?_)
    obtain ⟨hip, hid⟩ := List.mem_filter.1 hi
    have hid' : i ∉ d := by simpa using hid
    refine wpOp_mono (fun a' w' h' => ⟨h'.1, ?_⟩) (hstep i hip d a w hid' hJ)
    have hl' := filter_less hn d hi
    exact wpAnyH_each ps hn full J fe hstep hend n _ (i :: d) a' w' (by omega) (List.all_eq_true.1 h.2 i hi) h'.2
/-- One operation, as the walk takes it. -/
theorem wpOp_each {i : Nat} {o : Oper} {a : Act} {w : World} {R : Act → World → Prop} (ho : ops[i]? = some o)
    (h : ∀ K' : Act → World → Prop, Shut (∀ a w, S w → R a w → K' a w) → if Region.wanted o (yielded ops a.tmps) = true then Oper.wp P o a w K' Q else K' (a.put o.dst undef) w) : wpOp P ops Q i (fun a' w' => S w' ∧ R a' w') a w :=
  wpOp_step ho (fun K' hK => h K' (fun a w hS hR => hK a w ⟨hS, hR⟩))
end
end Go.Proofs.Yteekhofollaooaa

namespace Go.Proofs.Yteekhofollaooaa
open Go Go.Proofs Go.RowKit

def lenR (N M : Nat) (i : Nat) : Nat := if i = 14 then M else N
def updV {α : Type} (X : Nat → α) (i : Nat) (v : α) : Nat → α := fun j => if j = i then v else X j
theorem updV_same {α : Type} (X : Nat → α) (i : Nat) (v : α) : updV X i v i = v := by simp [updV]
theorem updV_other {α : Type} (X : Nat → α) {i j : Nat} (v : α) (h : j ≠ i) : updV X i v j = X j := by simp [updV, h]
def rowZ (n : Nat) : List Value := (List.replicate n (0 : Int)).map (Value.int .i64)
/-- What has been made: d: which ones have; X: what they are; B: where they lie. -/
structure JW (N : Nat) (l : List Ed) (n1 : Nat) (d : List Nat) (X : Nat → Value) (B : Nat → Nat) (W : World) : Prop where
  ge : ∀ i, i ∈ d → n1 ≤ B i ∧ B i < W.heap.size
  sb : 1 ∈ d → n1 ≤ B 18 ∧ B 18 < W.heap.size ∧ B 1 ≠ B 18
  ne : ∀ i j, i ∈ d → j ∈ d → i ≠ j → B i ≠ B j
  ns : ∀ i, i ∈ d → i ≠ 1 → 1 ∈ d → B i ≠ B 18
  row : ∀ i, i ∈ d → i ≠ 1 → X i = .slice (some ⟨B i, 0, none⟩) (lenR N l.length i) (lenR N l.length i) ∧ Blk 3 W (B i) (rowZ (lenR N l.length i))
  lnk : 1 ∈ d → X 1 = .slice (some ⟨B 1, 0, none⟩) N N ∧ LnkI N (B 1) (B 18) (2 * l.length) (offR l (2 * l.length)) (fun v => (nb l (v : Int)).length) (fun v => linkOf (v : Int) 0 l) W
theorem JW.nil (N : Nat) (l : List Ed) (n1 : Nat) (X : Nat → Value) (B : Nat → Nat) (W : World) : JW N l n1 [] X B W :=
  ⟨fun i h => by simp at h, fun h => by simp at h, fun i j h => by simp at h, fun i h => by simp at h, fun i h => by simp at h, fun h => by simp at h⟩
theorem JW.addRow {N : Nat} {l : List Ed} {n1 : Nat} {d : List Nat} {X : Nat → Value} {B : Nat → Nat} {W : World} (h : JW N l n1 d X B W) {i : Nat} (hi : i ∉ d) (h1 : i ≠ 1) (h18 : i ≠ 18) (hn : n1 ≤ W.heap.size) {W' : World} (hB : Blk 3 W' W.heap.size (rowZ (lenR N l.length i))) (hb : Below W.heap.size W W') :
    JW N l n1 (i :: d) (updV X i (.slice (some ⟨W.heap.size, 0, none⟩) (lenR N l.length i) (lenR N l.length i))) (updV B i W.heap.size) W' := by
  have hlt : W.heap.size < W'.heap.size := hB.lt
  have hB18 : ∀ v, updV B i v 18 = B 18 := fun v => updV_other B v (Ne.symm h18)
  have hB1 : ∀ v, updV B i v 1 = B 1 := fun v => updV_other B v (Ne.symm h1)
  have hold : ∀ j, j ∈ d → j ≠ i := fun j hj e => hi (e ▸ hj)
  have o1 : 1 ∈ i :: d → 1 ∈ d := fun h => by rcases List.mem_cons.1 h with e | e; · exact absurd e.symm h1
                                              · exact e
  refine ⟨fun j hj => ?_, fun hj => ?_, fun j k hj hk hne => ?_, fun j hj hj1 h1d => ?_, fun j hj hj1 => ?_, fun hj => ?_⟩
  · rcases List.mem_cons.1 hj with rfl | hj
    · rw [updV_same]; exact ⟨hn, hlt⟩
    · rw [updV_other B _ (hold j hj)]; have := h.ge j hj; omega
  · rw [hB18, hB1]; have := h.sb (o1 hj); omega
  · rcases List.mem_cons.1 hj with ej | hj'
    · rcases List.mem_cons.1 hk with ek | hk'
      · exact absurd (ej.trans ek.symm) hne
      · rw [ej, updV_same, updV_other B _ (hold k hk')]; have := h.ge k hk'; omega
    · rcases List.mem_cons.1 hk with ek | hk'
      · rw [ek, updV_same, updV_other B _ (hold j hj')]; have := h.ge j hj'; omega
      · rw [updV_other B _ (hold j hj'), updV_other B _ (hold k hk')]; exact h.ne j k hj' hk' hne
  · rw [hB18]
    have hs := h.sb (o1 h1d)
    rcases List.mem_cons.1 hj with rfl | hj
    · rw [updV_same]; omega
    · rw [updV_other B _ (hold j hj)]; exact h.ns j hj hj1 (o1 h1d)
  · rcases List.mem_cons.1 hj with rfl | hj
    · rw [updV_same, updV_same]; exact ⟨rfl, hB⟩
    · rw [updV_other B _ (hold j hj), updV_other X _ (hold j hj)]
      obtain ⟨g1, g2⟩ := h.row j hj hj1
      exact ⟨g1, g2.go hb⟩
  · rw [hB18, hB1, updV_other X _ (Ne.symm h1)]
    obtain ⟨g1, g2⟩ := h.lnk (o1 hj)
    exact ⟨g1, g2.go hb⟩
theorem JW.addLnk {N : Nat} {l : List Ed} {n1 : Nat} {d : List Nat} {X : Nat → Value} {B : Nat → Nat} {W : World} (h : JW N l n1 d X B W) (hi : 1 ∉ d) (h18 : 18 ∉ d) (hn : n1 ≤ W.heap.size) {W' : World} {lb sb : Nat} (hlb : W.heap.size < lb) (hsb : W.heap.size < sb) (hne : lb ≠ sb) (hI : LnkI N lb sb (2 * l.length) (offR l (2 * l.length)) (fun v => (nb l (v : Int)).length) (fun v => linkOf (v : Int) 0 l) W') (hb : Below W.heap.size W W') :
    JW N l n1 (1 :: d) (updV X 1 (.slice (some ⟨lb, 0, none⟩) N N)) (updV (updV B 1 lb) 18 sb) W' := by
  have e18 : updV (updV B 1 lb) 18 sb 18 = sb := updV_same _ _ _
  have e1 : updV (updV B 1 lb) 18 sb 1 = lb := by rw [updV_other _ _ (by omega), updV_same]
  have eo : ∀ j, j ∈ d → updV (updV B 1 lb) 18 sb j = B j := fun j hj => by
    rw [updV_other _ _ (fun e => h18 (by rw [← e]; exact hj)), updV_other _ _ (fun e => hi (by rw [← e]; exact hj))]
  have hl1 := hI.row.lt
  have hl2 : sb < W'.heap.size := by obtain ⟨cs, hc, _⟩ := hI.cur; exact hc.lt
  refine ⟨fun j hj => ?_, fun _ => ?_, fun j k hj hk hjk => ?_, fun j hj hj1 _ => ?_, fun j hj hj1 => ?_, fun _ => ?_⟩
  · rcases List.mem_cons.1 hj with rfl | hj
    · rw [e1]; omega
    · rw [eo j hj]; have := h.ge j hj; have := hb.size; omega
  · rw [e18, e1]; omega
  · rcases List.mem_cons.1 hj with rfl | hj
    · rcases List.mem_cons.1 hk with rfl | hk
      · exact absurd rfl hjk
      · rw [e1, eo k hk]; have := h.ge k hk; omega
    · rcases List.mem_cons.1 hk with rfl | hk
      · rw [e1, eo j hj]; have := h.ge j hj; omega
      · rw [eo j hj, eo k hk]; exact h.ne j k hj hk hjk
  · rcases List.mem_cons.1 hj with rfl | hj
    · exact absurd rfl hj1
    · rw [e18, eo j hj]; have := h.ge j hj; omega
  · rcases List.mem_cons.1 hj with rfl | hj
    · exact absurd rfl hj1
    · rw [eo j hj, updV_other X _ (fun e => hi (by rw [← e]; exact hj))]
      obtain ⟨g1, g2⟩ := h.row j hj hj1
      exact ⟨g1, g2.go hb⟩
  · rw [e18, e1, updV_same]; exact ⟨rfl, hI⟩
theorem rowZ_made (n : Nat) : (madeCells #[Value.int .i64 0] n).toList = rowZ n := by
  have := ints_made n
  rw [Nat.mul_one] at this
  exact this

theorem lnk_lk {a : Lay} {lb sb M2 : Nat} {off deg : Nat → Nat} {l : List Ed} {W : World} (hI : LnkI a.N lb sb M2 off deg (fun v => linkOf (v : Int) 0 l) W) (h1 : lb < a.h0) (h2 : sb < a.h0) (h3 : ¬ a.five lb) (h4 : ¬ a.five sb) : LK a (.slice (some ⟨lb, 0, none⟩) a.N a.N) (linksL a.N l) W := by
  obtain ⟨cs, hc, hcl, hcs⟩ := hI.cur
  refine ⟨lb, sb, _, cs, rfl, h1, h3, h2, h4, by simp [linksL], hI.row, hc, fun v xs hxs => ?_⟩
  have hv : v < a.N := by
    have := (List.getElem?_eq_some_iff.1 hxs).1
    simpa [linksL] using this
  have he : xs = linkOf (v : Int) 0 l := by
    have := hxs
    simp [linksL, hv] at this
    exact this.symm
  subst he
  refine ⟨off v * 2, deg v, rowsK_at hv, fun j x hx => ?_⟩
  have := hcs v j x hv hx
  rw [Nat.add_mul] at this
  exact this
theorem linkOf_place {v : Int} {x : Int × Int} : ∀ {l : List Ed} {p : Nat}, x ∈ linkOf v p l → ∃ k : Nat, x.2 = (k : Int) ∧ k < p + l.length
  | [], _, h => by simp [linkOf] at h
  | e :: l, p, h => by
    rw [linkOf] at h
    rcases List.mem_append.1 h with h1 | h1
    · refine ⟨p, ?_, by simp⟩
      split at h1
      · rw [List.mem_singleton.1 h1]
      · split at h1
        · rw [List.mem_singleton.1 h1]
        · simp at h1
    · obtain ⟨k, e1, e2⟩ := linkOf_place h1
      exact ⟨k, e1, by rw [List.length_cons]; omega⟩
theorem linksL_out {N : Nat} {l : List Ed} {v : Nat} (h : ¬ v < N) : (linksL N l).getD v [] = [] := by
  rw [List.getD_eq_getElem?_getD, List.getElem?_eq_none (by simp [linksL]; omega)]
  rfl
theorem links_in {N : Nat} {l : List Ed} (hR : RightG (N : Int) l) : LinksIn N l.length (linksL N l) := by
  intro v x hx
  by_cases hv : v < N
  · obtain ⟨u, e, hu, _⟩ := (links_ok hR).sound v x hv hx
    rw [linksL_get hv] at hx
    obtain ⟨k, e1, e2⟩ := linkOf_place hx
    exact ⟨⟨u, e, hu⟩, k, e1, by omega⟩
  · rw [linksL_out hv] at hx
    simp at hx
theorem links_short {N : Nat} {l : List Ed} (hR : RightG (N : Int) l) (v : Nat) : ((linksL N l).getD v []).length ≤ 4194304 := by
  by_cases hv : v < N
  · rw [linksL_get hv, linkOf_len]
    have := nb_len (v : Int) l
    have := hR.m1
    omega
  · rw [linksL_out hv]; simp
theorem rep_set (N j : Nat) (hj : j < N) : (List.replicate j (-1 : Int) ++ List.replicate (N - j) 0).set j (-1) = List.replicate (j + 1) (-1) ++ List.replicate (N - (j + 1)) 0 := by
  rw [List.set_append_right _ _ (by simp), List.length_replicate, Nat.sub_self]
  obtain ⟨m, hm⟩ : ∃ m, N - j = m + 1 := ⟨N - j - 1, by omega⟩
  rw [hm, List.replicate_succ, List.set_cons_zero, show N - (j + 1) = m from by omega, List.replicate_succ', List.append_assoc]
  rfl
theorem start_any (a : Lay) (hL : LayOK a) (lv pv ov : Value) (lk : List (List (Int × Int))) (C : Nat) (s : WS) (r : Nat) (hr : r < a.N) (hN : a.N ≤ 1048576) (hC : C ≤ 1073741823) (hK : LinksIn a.N a.M lk) (hdeg : ∀ v, (lk.getD v []).length ≤ 4194304) (hOk : OkW a.N a.M C lk s) (hp : s.path = []) (w : World) (h : WB a lv pv ov s w) (hA : Apart2 pv ov) (hlk : LK a lv lk w) (hh : a.h0 ≤ w.heap.size) :
    Calls Try.prog 81 #[.pointer (some ⟨a.wb, 0, none⟩), .int .i64 (r : Int)] w fun e w' => e = .returned (.tuple #[]) ∧ ∃ pv' ov', WB a lv pv' ov' (startW lk C s r) w' ∧ Apart2 pv' ov' ∧ Wk a w w' ∧ OkW a.N a.M C lk (startW lk C s r) ∧ (startW lk C s r).path = [] := by
  by_cases hs : s.depth.getD r 0 < 0
  · exact start_new a hL lv pv ov lk C s r hr hN hC hK hdeg hOk hp hs C (by have := hOk.bo; omega) w h hA hlk hh
  · refine (start_seen a lv pv ov s r hr hN hOk.lenD (by omega) w h).mono ?_
    rintro e w' ⟨rfl, rfl⟩
    have e : startW lk C s r = s := by unfold startW; rw [if_pos (by omega)]
    rw [e]
    exact ⟨rfl, pv, ov, h, hA, Wk.refl _ _, hOk, hp⟩
end Go.Proofs.Yteekhofollaooaa

namespace Go.Proofs.Yteekhofollaooaa
open Go Go.Proofs Go.RowKit

set_option maxRecDepth 100000 in
set_option maxHeartbeats 4000000 in
theorem walked_any (N : Nat) (l : List Ed) (hR : RightG (N : Int) l) (sv : Value) (w : World) (hl : Edges w.heap.size w sv l) :
    Calls Try.prog 71 #[.agg #[.int .i64 (N : Int), sv]] w fun r w' => ∃ (a : Lay) (lv pv ov : Value), r = .returned (.pointer (some ⟨a.wb, 0, none⟩)) ∧ a.N = N ∧ a.M = l.length ∧ LayOK a ∧ WB a lv pv ov (walkW N l) w' ∧ LK a lv (linksL N l) w' ∧ (∀ k, a.five k → w.heap.size < k ∧ k < w'.heap.size) ∧ a.h0 ≤ w'.heap.size ∧ Below w.heap.size w w' := by
  have hmix := mixed
  obtain ⟨p, c, rfl⟩ := hl.len
  have hn1 := hR.n1
  have hm1 := hR.m1
  have hb1 : Below w.heap.size w (w.alloc (.cells #[.int .i64 (N : Int), .slice p l.length c] 24)) := (Below.refl _ _).alloc (Nat.le_refl _) _
  have q0 : (w.alloc (.cells #[.int .i64 (N : Int), .slice p l.length c] 24)).cell? ⟨w.heap.size, 0, none⟩ = some (.int .i64 (N : Int)) := new_cell rfl rfl
  have q1 : (w.alloc (.cells #[.int .i64 (N : Int), .slice p l.length c] 24)).cell? ⟨w.heap.size, 1, none⟩ = some (.slice p l.length c) := new_cell rfl rfl
  have hsz1 : (w.alloc (.cells #[.int .i64 (N : Int), .slice p l.length c] 24)).heap.size = w.heap.size + 1 := by simp
  have HL : Hid (Edges w.heap.size w (.slice p l.length c) l) := hl
  have HR : Hid _ := hR
  clear hl hR
  go_enter Try.func71, Try.ntmps71
  go_wp2
  generalize hw1 : (w.alloc (.cells #[.int .i64 (N : Int), .slice p l.length c] 24)) = w1 at *
  generalize hxb : w.heap.size = xb at *
  refine wp_region_held_drew (S := (fun w' : World => w'.cell? ⟨xb, 0, none⟩ = some (.int .i64 (N : Int)) ∧ w'.cell? ⟨xb, 1, none⟩ = some (.slice p l.length c))) (by kernel_rfl) ?_ (fun hHeld => ?_)
  · (try dsimp only); go_keep
  refine wpAnyH_take (i := 0) (v := ?_) rfl (by kernel_rfl) (by kernel_rfl) (by kernel_rfl) (fun _ _ _ h => h) (Or.inl ⟨by rfl, ?_⟩) (by assumption) ?_
  rotate_left
  · intro w hSw; (try dsimp only at hSw); go_simp; (try with_reducible rfl)
  try simp only [Act.put, List.setIfInBounds_toArray]
  refine wpAnyH_take (i := 2) (v := ?_) rfl (by kernel_rfl) (by kernel_rfl) (by kernel_rfl) (fun _ _ _ h => h) (Or.inl ⟨by rfl, ?_⟩) (by assumption) ?_
  rotate_left
  · intro w hSw; (try dsimp only at hSw); go_simp; (try with_reducible rfl)
  try simp only [Act.put]
  refine wpAnyH_take (i := 3) (v := ?_) rfl (by kernel_rfl) (by kernel_rfl) (by kernel_rfl) (fun _ _ _ h => h) (Or.inl ⟨by rfl, ?_⟩) (by assumption) ?_
  rotate_left
  · intro w hSw; (try dsimp only at hSw); go_simp; (try with_reducible rfl)
  try simp only [Act.put]
  refine wpAnyH_take (i := 5) (v := ?_) rfl (by kernel_rfl) (by kernel_rfl) (by kernel_rfl) (fun _ _ _ h => h) (Or.inl ⟨by rfl, ?_⟩) (by assumption) ?_
  rotate_left
  · intro w hSw; (try dsimp only at hSw); go_simp; (try with_reducible rfl)
  try simp only [Act.put]
  refine wpAnyH_take (i := 6) (v := ?_) rfl (by kernel_rfl) (by kernel_rfl) (by kernel_rfl) (fun _ _ _ h => h) (Or.inl ⟨by rfl, ?_⟩) (by assumption) ?_
  rotate_left
  · intro w hSw; (try dsimp only at hSw); go_simp; (try with_reducible rfl)
  try simp only [Act.put]
  refine wpAnyH_take (i := 8) (v := ?_) rfl (by kernel_rfl) (by kernel_rfl) (by kernel_rfl) (fun _ _ _ h => h) (Or.inl ⟨by rfl, ?_⟩) (by assumption) ?_
  rotate_left
  · intro w hSw; (try dsimp only at hSw); go_simp; (try with_reducible rfl)
  try simp only [Act.put]
  refine wpAnyH_take (i := 9) (v := ?_) rfl (by kernel_rfl) (by kernel_rfl) (by kernel_rfl) (fun _ _ _ h => h) (Or.inl ⟨by rfl, ?_⟩) (by assumption) ?_
  rotate_left
  · intro w hSw; (try dsimp only at hSw); go_simp; (try with_reducible rfl)
  try simp only [Act.put]
  refine wpAnyH_take (i := 11) (v := ?_) rfl (by kernel_rfl) (by kernel_rfl) (by kernel_rfl) (fun _ _ _ h => h) (Or.inl ⟨by rfl, ?_⟩) (by assumption) ?_
  rotate_left
  · intro w hSw; (try dsimp only at hSw); go_simp; (try with_reducible rfl)
  try simp only [Act.put]
  refine wpAnyH_take (i := 12) (v := ?_) rfl (by kernel_rfl) (by kernel_rfl) (by kernel_rfl) (fun _ _ _ h => h) (Or.inl ⟨by rfl, ?_⟩) (by assumption) ?_
  rotate_left
  · intro w hSw; (try dsimp only at hSw); go_simp; (try with_reducible rfl)
  try simp only [Act.put]
  refine wpAnyH_take (i := 13) (v := ?_) rfl (by kernel_rfl) (by kernel_rfl) (by kernel_rfl) (fun _ _ _ h => h) (Or.inl ⟨by rfl, ?_⟩) (by assumption) ?_
  rotate_left
  · intro w hSw; (try dsimp only at hSw); go_simp; (try with_reducible rfl)
  try simp only [Act.put]
  simp only [List.getElem_toArray, List.getElem_cons_zero, List.getElem_cons_succ, List.setIfInBounds_toArray, List.set_cons_zero, List.set_cons_succ]
  refine wpAnyH_each [1, 4, 7, 10, 14] (by decide) #[true, true, true, true, true, true, true, true, true, true, true, true, true, true, true, false, false, false] (fun d a W => ∃ X B, a = { tmps := #[.agg #[.int .i64 (N : Int), .slice p l.length c], .pointer (some ⟨xb, 0, none⟩), .pointer none, undef, undef, .agg #[.int .i64 (N : Int), .slice p l.length c], X 1, .pointer (some ⟨xb, 0, none⟩), .int .i64 (N : Int), X 4, .pointer (some ⟨xb, 0, none⟩), .int .i64 (N : Int), X 7, .pointer (some ⟨xb, 0, none⟩), .int .i64 (N : Int), X 10, .pointer (some ⟨xb, 1, none⟩), .slice p l.length c, .int .i64 (l.length : Int), X 14, undef, undef, undef, undef, undef, undef, undef, undef, undef, undef, undef, undef, undef, undef, undef, undef, undef, undef, undef, undef, undef, undef, undef], defers := [] } ∧ (∀ i ∈ d, i ≠ 18) ∧ JW N l (xb + 1) d X B W ∧ Below (xb + 1) w1 W) 3 ?_ ?_ 5 _ [] _ _ rfl (by kernel_rfl) ?_
  · intro i hi d a W hid hJ
    obtain ⟨X, B, rfl, hd18, hJ, hb⟩ := hJ
    have hi' : i = 1 ∨ i = 4 ∨ i = 7 ∨ i = 10 ∨ i = 14 := by simpa using hi
    have hWs : xb + 1 ≤ W.heap.size := by have := hb.size; omega
    have hbw : Below xb w W := hb1.trans (hb.mono (by omega))
    have keep : ∀ W', Below W.heap.size W W' → W'.cell? ⟨xb, 0, none⟩ = some (.int .i64 (N : Int)) ∧ W'.cell? ⟨xb, 1, none⟩ = some (.slice p l.length c) := fun W' h => by
      have h' := hb.trans (h.mono hWs)
      exact ⟨(h'.cell (p := ⟨xb, 0, none⟩) (by simp)).trans q0, (h'.cell (p := ⟨xb, 1, none⟩) (by simp)).trans q1⟩
    clear hi hHeld
    rcases hi' with rfl | rfl | rfl | rfl | rfl
    · refine wpOp_each rfl (fun K hK => ?_)
      have HJ : Hid _ := hJ
      have HKp : Hid _ := keep
      clear hJ keep
      go_simp
      refine (linked_any N l HR.out _ W ((Edges.below HL.out hbw).mono (by omega))).mono ?_
      rintro e W2 ⟨lb, sb, rfl, g1, g2, g3, g4, g5⟩
      refine hK.out _ _ (HKp.out _ g5) ⟨_, _, ?_, fun j hj => ?_, HJ.out.addLnk hid (fun h => hd18 18 h rfl) hWs g1 g2 g3 g4 g5, hb.trans (g5.mono hWs)⟩
      · rfl
      · rcases List.mem_cons.1 hj with rfl | hj
        · decide
        · exact hd18 j hj
    · refine wpOp_each rfl (fun K hK => ?_)
      have hmk := run_make_row' (P := Try.prog) 25 3 (.int .i64 0) 8 Try.underlying25 infoI rfl .i64 .i64 (N) (by omega) (by omega)
      have HJ : Hid _ := hJ
      have HKp : Hid _ := keep
      clear hJ keep
      go_simp
      have hbx : Below W.heap.size W (W.alloc (.cells (madeCells #[.int .i64 0] (N)) 3)) := (Below.refl _ _).alloc (Nat.le_refl _) _
      have hbk : Blk 3 (W.alloc (.cells (madeCells #[.int .i64 0] (N)) 3)) W.heap.size (rowZ (lenR N l.length 4)) := by
        have h0 : (W.alloc (.cells (madeCells #[.int .i64 0] (N)) 3)).heap[W.heap.size]? = some (.cells (madeCells #[.int .i64 0] (N)) 3 (0, 0)) := heap_alloc_new W _
        show _ = some (Obj.cells (rowZ (N)).toArray 3 (0, 0))
        rw [← rowZ_made]
        simpa using h0
      refine hK.out _ _ (HKp.out _ hbx) ⟨_, _, ?_, fun j hj => ?_, HJ.out.addRow hid (by decide) (by decide) hWs hbk hbx, hb.trans (hbx.mono hWs)⟩
      · rfl
      · rcases List.mem_cons.1 hj with rfl | hj
        · decide
        · exact hd18 j hj
    · refine wpOp_each rfl (fun K hK => ?_)
      have hmk := run_make_row' (P := Try.prog) 25 3 (.int .i64 0) 8 Try.underlying25 infoI rfl .i64 .i64 (N) (by omega) (by omega)
      have HJ : Hid _ := hJ
      have HKp : Hid _ := keep
      clear hJ keep
      go_simp
      have hbx : Below W.heap.size W (W.alloc (.cells (madeCells #[.int .i64 0] (N)) 3)) := (Below.refl _ _).alloc (Nat.le_refl _) _
      have hbk : Blk 3 (W.alloc (.cells (madeCells #[.int .i64 0] (N)) 3)) W.heap.size (rowZ (lenR N l.length 7)) := by
        have h0 : (W.alloc (.cells (madeCells #[.int .i64 0] (N)) 3)).heap[W.heap.size]? = some (.cells (madeCells #[.int .i64 0] (N)) 3 (0, 0)) := heap_alloc_new W _
        show _ = some (Obj.cells (rowZ (N)).toArray 3 (0, 0))
        rw [← rowZ_made]
        simpa using h0
      refine hK.out _ _ (HKp.out _ hbx) ⟨_, _, ?_, fun j hj => ?_, HJ.out.addRow hid (by decide) (by decide) hWs hbk hbx, hb.trans (hbx.mono hWs)⟩
      · rfl
      · rcases List.mem_cons.1 hj with rfl | hj
        · decide
        · exact hd18 j hj
    · refine wpOp_each rfl (fun K hK => ?_)
      have hmk := run_make_row' (P := Try.prog) 25 3 (.int .i64 0) 8 Try.underlying25 infoI rfl .i64 .i64 (N) (by omega) (by omega)
      have HJ : Hid _ := hJ
      have HKp : Hid _ := keep
      clear hJ keep
      go_simp
      have hbx : Below W.heap.size W (W.alloc (.cells (madeCells #[.int .i64 0] (N)) 3)) := (Below.refl _ _).alloc (Nat.le_refl _) _
      have hbk : Blk 3 (W.alloc (.cells (madeCells #[.int .i64 0] (N)) 3)) W.heap.size (rowZ (lenR N l.length 10)) := by
        have h0 : (W.alloc (.cells (madeCells #[.int .i64 0] (N)) 3)).heap[W.heap.size]? = some (.cells (madeCells #[.int .i64 0] (N)) 3 (0, 0)) := heap_alloc_new W _
        show _ = some (Obj.cells (rowZ (N)).toArray 3 (0, 0))
        rw [← rowZ_made]
        simpa using h0
      refine hK.out _ _ (HKp.out _ hbx) ⟨_, _, ?_, fun j hj => ?_, HJ.out.addRow hid (by decide) (by decide) hWs hbk hbx, hb.trans (hbx.mono hWs)⟩
      · rfl
      · rcases List.mem_cons.1 hj with rfl | hj
        · decide
        · exact hd18 j hj
    · refine wpOp_each rfl (fun K hK => ?_)
      have hmk := run_make_row' (P := Try.prog) 25 3 (.int .i64 0) 8 Try.underlying25 infoI rfl .i64 .i64 (l.length) (by omega) (by omega)
      have HJ : Hid _ := hJ
      have HKp : Hid _ := keep
      clear hJ keep
      go_simp
      have hbx : Below W.heap.size W (W.alloc (.cells (madeCells #[.int .i64 0] (l.length)) 3)) := (Below.refl _ _).alloc (Nat.le_refl _) _
      have hbk : Blk 3 (W.alloc (.cells (madeCells #[.int .i64 0] (l.length)) 3)) W.heap.size (rowZ (lenR N l.length 14)) := by
        have h0 : (W.alloc (.cells (madeCells #[.int .i64 0] (l.length)) 3)).heap[W.heap.size]? = some (.cells (madeCells #[.int .i64 0] (l.length)) 3 (0, 0)) := heap_alloc_new W _
        show _ = some (Obj.cells (rowZ (l.length)).toArray 3 (0, 0))
        rw [← rowZ_made]
        simpa using h0
      refine hK.out _ _ (HKp.out _ hbx) ⟨_, _, ?_, fun j hj => ?_, HJ.out.addRow hid (by decide) (by decide) hWs hbk hbx, hb.trans (hbx.mono hWs)⟩
      · rfl
      · rcases List.mem_cons.1 hj with rfl | hj
        · decide
        · exact hd18 j hj
  · intro d a W hall hJ
    obtain ⟨X, B, rfl, hd18, hJ, hb⟩ := hJ
    have i1 : 1 ∈ d := hall 1 (by decide)
    have i4 : 4 ∈ d := hall 4 (by decide)
    have i7 : 7 ∈ d := hall 7 (by decide)
    have i10 : 10 ∈ d := hall 10 (by decide)
    have i14 : 14 ∈ d := hall 14 (by decide)
    obtain ⟨e1, hI⟩ := hJ.lnk i1
    obtain ⟨e4, r4⟩ := hJ.row 4 i4 (by decide)
    obtain ⟨e7, r7⟩ := hJ.row 7 i7 (by decide)
    obtain ⟨e10, r10⟩ := hJ.row 10 i10 (by decide)
    obtain ⟨e14, r14⟩ := hJ.row 14 i14 (by decide)
    have eN : ∀ k, k ≠ 14 → lenR N l.length k = N := fun k hk => by unfold lenR; rw [if_neg hk]
    have eM : lenR N l.length 14 = l.length := rfl
    rw [eN 4 (by decide)] at e4 r4
    rw [eN 7 (by decide)] at e7 r7
    rw [eN 10 (by decide)] at e10 r10
    rw [eM] at e14 r14
    rw [e1, e4, e7, e10, e14]
    have g1 := hJ.ge 1 i1
    have g4 := hJ.ge 4 i4
    have g7 := hJ.ge 7 i7
    have g10 := hJ.ge 10 i10
    have g14 := hJ.ge 14 i14
    obtain ⟨g18, g18', n118⟩ := hJ.sb i1
    have hLay : LayOK ⟨N, l.length, W.heap.size, B 4, B 7, B 10, B 14, W.heap.size + 1⟩ := ⟨by show W.heap.size < W.heap.size + 1; omega, by show B 4 < W.heap.size + 1; omega, by show B 7 < W.heap.size + 1; omega, by show B 10 < W.heap.size + 1; omega, by show B 14 < W.heap.size + 1; omega, by show W.heap.size ≠ B 4; omega, by show W.heap.size ≠ B 7; omega, by show W.heap.size ≠ B 10; omega, by show W.heap.size ≠ B 14; omega, hJ.ne 4 7 i4 i7 (by decide), hJ.ne 4 10 i4 i10 (by decide), hJ.ne 4 14 i4 i14 (by decide), hJ.ne 7 10 i7 i10 (by decide), hJ.ne 7 14 i7 i14 (by decide), hJ.ne 10 14 i10 i14 (by decide)⟩
    have hF1 : ¬ (Lay.five ⟨N, l.length, W.heap.size, B 4, B 7, B 10, B 14, W.heap.size + 1⟩ (B 1)) := by
      have n4 := hJ.ne 1 4 i1 i4 (by decide)
      have n7 := hJ.ne 1 7 i1 i7 (by decide)
      have n10 := hJ.ne 1 10 i1 i10 (by decide)
      have n14 := hJ.ne 1 14 i1 i14 (by decide)
      unfold Lay.five
      show ¬ (B 1 = W.heap.size ∨ B 1 = B 4 ∨ B 1 = B 7 ∨ B 1 = B 10 ∨ B 1 = B 14)
      omega
    have hF18 : ¬ (Lay.five ⟨N, l.length, W.heap.size, B 4, B 7, B 10, B 14, W.heap.size + 1⟩ (B 18)) := by
      have n4 := hJ.ns 4 i4 (by decide) i1
      have n7 := hJ.ns 7 i7 (by decide) i1
      have n10 := hJ.ns 10 i10 (by decide) i1
      have n14 := hJ.ns 14 i14 (by decide) i1
      unfold Lay.five
      show ¬ (B 18 = W.heap.size ∨ B 18 = B 4 ∨ B 18 = B 7 ∨ B 18 = B 10 ∨ B 18 = B 14)
      omega
    have hcell : W.cell? ⟨xb, 0, none⟩ = some (.int .i64 (N : Int)) ∧ W.cell? ⟨xb, 1, none⟩ = some (.slice p l.length c) := ⟨(hb.cell (p := ⟨xb, 0, none⟩) (by simp)).trans q0, (hb.cell (p := ⟨xb, 1, none⟩) (by simp)).trans q1⟩
    obtain ⟨k0, k1⟩ := hcell
    have hxW : xb < W.heap.size := by omega
    have HJ : Hid _ := hJ
    clear hJ hHeld hd18 e1 e4 e7 e10 e14 eN eM hall i1 i4 i7 i10 i14
    have Hg : Hid (xb < B 1 ∧ xb < B 4 ∧ xb < B 7 ∧ xb < B 10 ∧ xb < B 14 ∧ B 1 < W.heap.size ∧ B 4 < W.heap.size ∧ B 7 < W.heap.size ∧ B 10 < W.heap.size ∧ B 14 < W.heap.size ∧ B 18 < W.heap.size) := ⟨by omega, by omega, by omega, by omega, by omega, by omega, by omega, by omega, by omega, by omega, by omega⟩
    clear g1 g4 g7 g10 g14 g18 g18' n118
    refine wpAnyH_ready (rs := [15]) (by kernel_rfl) (by simp) ?_
    refine AllReadyH.cons rfl (fun K hK => ?_) AllReadyH.nil
    go_simp
    refine hK.out _ _ ?_ (fun hHeld => ?_)
    · (try dsimp only); first | (go_keep; done) | ((repeat' apply And.intro) <;> go_simp)
    clear hK K
    try simp only [List.setIfInBounds_toArray, List.set_cons_zero, List.set_cons_succ]
    refine wpAnyH_ready (rs := [16]) (by kernel_rfl) (by simp) ?_
    refine AllReadyH.cons rfl (fun K hK => ?_) AllReadyH.nil
    go_simp
    refine hK.out _ _ ?_ (fun hHeld => ?_)
    · (try dsimp only); first | (go_keep; done) | ((repeat' apply And.intro) <;> go_simp)
    clear hK K
    try simp only [List.setIfInBounds_toArray, List.set_cons_zero, List.set_cons_succ]
    refine wpAnyH_ready (rs := [17]) (by kernel_rfl) (by simp) ?_
    refine AllReadyH.cons rfl (fun K hK => ?_) AllReadyH.nil
    go_simp
    refine hK.out _ _ ?_ (fun hHeld => ?_)
    · (try dsimp only); first | (go_keep; done) | ((repeat' apply And.intro) <;> go_simp)
    clear hK K
    try simp only [List.setIfInBounds_toArray, List.set_cons_zero, List.set_cons_succ]
    refine wpAnyH_done (by kernel_rfl) ?_ _
    have hbW : Below W.heap.size W (W.alloc (.cells #[.slice (some ⟨B 1, 0, none⟩) N N, .slice (some ⟨B 4, 0, none⟩) N N, .slice (some ⟨B 7, 0, none⟩) N N, .slice (some ⟨B 10, 0, none⟩) N N, .slice (some ⟨B 14, 0, none⟩) l.length l.length, .slice none 0 0, .slice none 0 0] 115)) := (Below.refl _ _).alloc (Nat.le_refl _) _
    have hlk := lnk_lk (a := ⟨N, l.length, W.heap.size, B 4, B 7, B 10, B 14, W.heap.size + 1⟩) (hI.go hbW) (by have := Hg.out; show B 1 < W.heap.size + 1; omega) (by have := Hg.out; show B 18 < W.heap.size + 1; omega) hF1 hF18
    have hW2 : WB ⟨N, l.length, W.heap.size, B 4, B 7, B 10, B 14, W.heap.size + 1⟩ (.slice (some ⟨B 1, 0, none⟩) N N) (.slice none 0 0) (.slice none 0 0) ⟨List.replicate N 0, List.replicate N 0, List.replicate N 0, List.replicate l.length 0, [], []⟩ (W.alloc (.cells #[.slice (some ⟨B 1, 0, none⟩) N N, .slice (some ⟨B 4, 0, none⟩) N N, .slice (some ⟨B 7, 0, none⟩) N N, .slice (some ⟨B 10, 0, none⟩) N N, .slice (some ⟨B 14, 0, none⟩) l.length l.length, .slice none 0 0, .slice none 0 0] 115)) := ⟨heap_alloc_new W _, r4.go hbW, r7.go hbW, r10.go hbW, r14.go hbW, World.ownsRow_nil _ _ _ _, World.ownsRow_nil _ _ _ _⟩
    have y0 := cell_keepK hbW k0
    have hbx2 : Below (xb + 1) w1 (W.alloc (.cells #[.slice (some ⟨B 1, 0, none⟩) N N, .slice (some ⟨B 4, 0, none⟩) N N, .slice (some ⟨B 7, 0, none⟩) N N, .slice (some ⟨B 10, 0, none⟩) N N, .slice (some ⟨B 14, 0, none⟩) l.length l.length, .slice none 0 0, .slice none 0 0] 115)) := hb.trans (hbW.mono (by omega))
    have hsz2 : (W.alloc (.cells #[.slice (some ⟨B 1, 0, none⟩) N N, .slice (some ⟨B 4, 0, none⟩) N N, .slice (some ⟨B 7, 0, none⟩) N N, .slice (some ⟨B 10, 0, none⟩) N N, .slice (some ⟨B 14, 0, none⟩) l.length l.length, .slice none 0 0, .slice none 0 0] 115)).heap.size = W.heap.size + 1 := by simp
    have hF : ∀ k, Lay.five ⟨N, l.length, W.heap.size, B 4, B 7, B 10, B 14, W.heap.size + 1⟩ k → xb < k ∧ k < W.heap.size + 1 := fun k hk => by
      have := Hg.out
      unfold Lay.five at hk
      have hk' : k = W.heap.size ∨ k = B 4 ∨ k = B 7 ∨ k = B 10 ∨ k = B 14 := hk
      omega
    clear hbW hI r4 r7 r10 r14 k0 k1 hF1 hF18 HJ Hg hb
    generalize (W.alloc (.cells #[.slice (some ⟨B 1, 0, none⟩) N N, .slice (some ⟨B 4, 0, none⟩) N N, .slice (some ⟨B 7, 0, none⟩) N N, .slice (some ⟨B 10, 0, none⟩) N N, .slice (some ⟨B 14, 0, none⟩) l.length l.length, .slice none 0 0, .slice none 0 0] 115)) = w2 at hlk hW2 y0 hbx2 hsz2 ⊢
    generalize hlay : (⟨N, l.length, W.heap.size, B 4, B 7, B 10, B 14, W.heap.size + 1⟩ : Lay) = lay at *
    have aN : lay.N = N := by rw [← hlay]
    have aM : lay.M = l.length := by rw [← hlay]
    have awb : lay.wb = W.heap.size := by rw [← hlay]
    have adb : lay.db = B 10 := by rw [← hlay]
    have ah0 : lay.h0 = W.heap.size + 1 := by rw [← hlay]
    rw [← ah0] at hF hsz2
    rw [← awb, ← adb]
    generalize B 1 = lb at *
    rw [aN] at hlk
    have hxh : xb < lay.h0 := by omega
    clear hHeld hlay awb adb ah0
    have b3 := hW2.blk.cell (j := 3) rfl
    rw [aN] at b3
    have HW2 : Hid _ := hW2
    have HLK : Hid _ := hlk
    have HF : Hid _ := hF
    have HLay : Hid _ := hLay
    clear hW2 hlk hF hLay
    go_wp2
    go_loopw [27] (fun i wr => ∃ j : Nat, j ≤ N ∧ i = .int .i64 j ∧ Hid (WB lay (.slice (some ⟨lb, 0, none⟩) N N) (.slice none 0 0) (.slice none 0 0) ⟨List.replicate N 0, List.replicate N 0, List.replicate j (-1) ++ List.replicate (N - j) 0, List.replicate l.length 0, [], []⟩ wr) ∧ Hid (Wk lay w2 wr)) (fun i _ => N - (intOf i).toNat)
    case atStart => exact ⟨0, Nat.zero_le _, rfl, by unfold Hid; simpa using HW2.out, Wk.refl _ _⟩
    case round =>
      obtain ⟨j, hj, rfl, HWr, HKr⟩ := hrel
      by_cases hlt : j < N
      · have c3 := HWr.out.blk.cell (j := 3) rfl
        rw [aN] at c3
        obtain ⟨z, hz⟩ : ∃ z, wr.cell? ⟨lay.db, j, none⟩ = some z := ⟨_, HWr.out.dep.cell (by rw [List.getElem?_map]; show Option.map _ (List.replicate j (-1 : Int) ++ List.replicate (N - j) 0)[j]? = _; rw [List.getElem?_eq_getElem (by simp; omega)]; rfl)⟩
        have fz := HWr.out.dep.frozen j
        have hS := HWr.out.setDepth HLay.out j (-1)
        have hk := HKr.out.set (p := ⟨lay.db, j, none⟩) (.inl (.inr (.inr (.inr (.inl rfl))))) (.int .i64 (-1))
        have HS : Hid _ := hS
        have HK2 : Hid _ := hk
        have hjN : (j : Int) < (N : Int) := by omega
        clear hS hk HWr HKr
        go_wp2
        refine ⟨⟨j + 1, by omega, by go_num, ?_, HK2.out⟩, by simp [intOf]; omega⟩
        have := HS.out
        rw [show ({ root := List.replicate N 0, from_ := List.replicate N 0, depth := List.replicate j (-1) ++ List.replicate (N - j) 0, block := List.replicate l.length 0, path := [], opn := [] } : WS).depth.set j (-1) = List.replicate (j + 1) (-1) ++ List.replicate (N - (j + 1)) 0 from rep_set N j hlt] at this
        exact this
      · obtain rfl : j = N := by omega
        have hWf : WB lay (.slice (some ⟨lb, 0, none⟩) j j) (.slice none 0 0) (.slice none 0 0) (freshW j l.length) wr := by
          have := HWr.out
          rw [Nat.sub_self] at this
          simpa [freshW] using this
        have hxf : ¬ lay.five xb := fun h => by have := HF.out xb h; omega
        have z0 := (World.cell?_of_block (a := ⟨xb, 0, none⟩) (HKr.out.block xb hxh hxf)).trans y0
        have hC := unseen_le j l (List.replicate j (-1))
        have hCb : 4 * (j + l.length) + 4 ≤ 1073741823 := by omega
        have hcall := fromEach_any j (by omega) lay.wb (fun k V => ∃ pv ov, WB lay (.slice (some ⟨lb, 0, none⟩) j j) pv ov ((List.range k).foldl (startW (linksL j l) (4 * (j + l.length) + 4)) (freshW j l.length)) V ∧ Apart2 pv ov ∧ Wk lay w2 V ∧ OkW j l.length (4 * (j + l.length) + 4) (linksL j l) ((List.range k).foldl (startW (linksL j l) (4 * (j + l.length) + 4)) (freshW j l.length)) ∧ ((List.range k).foldl (startW (linksL j l) (4 * (j + l.length) + 4)) (freshW j l.length)).path = []) (fun k V hk hI => by
          obtain ⟨pv, ov, g1, g2, g3, g4, g5⟩ := hI
          have hst := start_any lay HLay.out (.slice (some ⟨lb, 0, none⟩) j j) pv ov (linksL j l) (4 * (j + l.length) + 4) _ k (by rw [aN]; exact hk) (by rw [aN]; omega) hCb (by rw [aN, aM]; exact links_in HR.out) (links_short HR.out) (by rw [aN, aM]; exact g4) g5 V g1 g2 (HLK.out.go g3) (by have := g3.size; omega)
          refine hst.mono ?_
          rintro e V' ⟨rfl, pv', ov', f1, f2, f3, f4, f5⟩
          rw [aN, aM] at f4
          refine ⟨rfl, pv', ov', ?_, f2, g3.trans f3, ?_, ?_⟩
          · rw [List.range_succ, List.foldl_append]; exact f1
          · rw [List.range_succ, List.foldl_append]; exact f4
          · rw [List.range_succ, List.foldl_append]; exact f5) wr ⟨_, _, hWf, ⟨.inl rfl, .inl rfl⟩, HKr.out, OkW.fresh hC, rfl⟩
        clear hWf HWr HKr hC HW2 y0 b3
        go_wp2_with fail
        refine hcall.mono ?_
        rintro e w6 ⟨rfl, pv, ov, g1, g2, g3, g4, g5⟩
        have HG1 : Hid _ := g1
        have HG3 : Hid _ := g3
        clear g1 g2 g3 g4 g5 hcall
        go_wp2
        go_ret
        refine ⟨lay, _, pv, ov, rfl, aN, aM, HLay.out, HG1.out, HLK.out.go HG3.out, fun k hk => ?_, ?_, ?_⟩
        · have := HF.out k hk; have := HG3.out.size; omega
        · have := HG3.out.size; omega
        · rw [hxb]; exact hb1.trans ((hbx2.mono (by omega)).trans (HG3.out.below (by omega) (fun k hk h => by have := HF.out k h; omega)))
  · exact ⟨fun _ => undef, fun _ => 0, rfl, fun i hi => by simp at hi, JW.nil _ _ _ _ _ _, below_drewN (Below.refl _ _) 1⟩
end Go.Proofs.Yteekhofollaooaa

namespace Go.Proofs.Yteekhofollaooaa
open Go Go.Proofs Go.RowKit

theorem OkW.step {N M C : Nat} {lk : List (List (Int × Int))} {s : WS} (h : OkW N M C lk s) (hK : LinksIn N M lk) (hne : s.path ≠ []) : OkW N M C lk (stepW lk s) ∧ pot lk N (stepW lk s) + 1 ≤ pot lk N s := by
  unfold stepW
  cases hl : s.path.getLast? with
  | none => exact absurd (List.getLast?_eq_none_iff.1 hl) hne
  | some top =>
    have hp := path_last hl
    simp only
    split
    · exact ⟨h.leave hp, leave_less hp⟩
    · rename_i hn
      have hle := h.nxt top (by rw [hp]; simp)
      have hlt : top.next < degW lk top.v := by unfold degW at hle ⊢; omega
      have hx := List.getElem?_eq_getElem (l := lk.getD top.v.toNat []) hlt
      have e : (lk.getD top.v.toNat []).getD top.next (0, 0) = (lk.getD top.v.toNat [])[top.next] := by rw [List.getD_eq_getElem?_getD, hx]; rfl
      obtain ⟨v, ev, hv, hsv⟩ := h.way top.v (by rw [hp]; simp)
      have evt : top.v.toNat = v := by rw [ev]; rfl
      obtain ⟨⟨u, eu, hu⟩, _⟩ := hK _ _ (List.getElem_mem hlt)
      rw [e]
      exact ⟨h.look hK hp hx, look_less hp hlt h.lenD (by rw [eu]; exact hu) (by unfold at_; rw [evt]; exact hsv)⟩
theorem OkW.run {N M C : Nat} {lk : List (List (Int × Int))} (hK : LinksIn N M lk) : ∀ (k : Nat) {s : WS}, OkW N M C lk s → pot lk N s ≤ k → OkW N M C lk (runW lk k s) ∧ (runW lk k s).path = []
  | 0, s, h, hk => by
    refine ⟨h, ?_⟩
    have := pot_way (lk := lk) (N := N) (s := s)
    exact List.length_eq_zero_iff.1 (by show s.path.length = 0; omega)
  | k + 1, s, h, hk => by
    rw [runW]
    by_cases hp : s.path = []
    · rw [step_stay hp, run_stay hp]
      exact ⟨h, hp⟩
    · obtain ⟨h1, h2⟩ := h.step hK hp
      exact OkW.run hK k h1 (by omega)
theorem OkW.start {N M C : Nat} {lk : List (List (Int × Int))} (hK : LinksIn N M lk) {s : WS} {r : Nat} (h : OkW N M C lk s) (hp : s.path = []) (hr : r < N) : OkW N M C lk (startW lk C s r) ∧ (startW lk C s r).path = [] := by
  unfold startW
  split
  · exact ⟨h, hp⟩
  · refine OkW.run hK C (h.root hp hr (by omega)) ?_
    have := pot_root h hp hr (by omega)
    have := h.bo
    omega
theorem walk_ok {N : Nat} {l : List Ed} (hR : RightG (N : Int) l) : ∀ k, k ≤ N → OkW N l.length (4 * (N + l.length) + 4) (linksL N l) ((List.range k).foldl (startW (linksL N l) (4 * (N + l.length) + 4)) (freshW N l.length)) ∧ ((List.range k).foldl (startW (linksL N l) (4 * (N + l.length) + 4)) (freshW N l.length)).path = []
  | 0, _ => ⟨OkW.fresh (unseen_le N l _), rfl⟩
  | k + 1, hk => by
    obtain ⟨h1, h2⟩ := walk_ok hR k (by omega)
    rw [List.range_succ, List.foldl_append]
    exact h1.start (links_in hR) h2 (by omega)
theorem walkW_ok {N : Nat} {l : List Ed} (hR : RightG (N : Int) l) : OkW N l.length (4 * (N + l.length) + 4) (linksL N l) (walkW N l) := (walk_ok hR N (Nat.le_refl _)).1
theorem owns_intsP {W : World} {base : Nat} {v : Value} {xs : List Int} (h : W.ownsRow base 3 1 v xs.length (xs.map (Value.int .i64))) : Ints W.heap.size W v xs := by
  rcases h.2 with ⟨h1, h2⟩ | ⟨g, cap, cur, h1, h2, h3, h4, h5, h6, h7⟩
  · exact .inl ⟨⟨_, _, h1⟩, List.length_eq_zero_iff.1 h2⟩
  · subst h1
    refine .inr ⟨g, 0, cap, rfl, (Array.getElem?_eq_some_iff.1 h3).1, h4, fun j x hx => ?_⟩
    have hj := (List.getElem?_eq_some_iff.1 hx).1
    rw [Nat.zero_add, h.cellAt j (by omega), List.getElem?_map, hx]
    rfl

set_option maxRecDepth 100000 in
set_option maxHeartbeats 4000000 in
theorem components_any (N : Nat) (l : List Ed) (hR : RightG (N : Int) l) (hLb : Labels (walkW N l).root) (hln : (walkW N l).root.length = N) (sv : Value) (w : World) (hl : Edges w.heap.size w sv l) :
    Calls Try.prog 57 #[.agg #[.int .i64 (N : Int), sv]] w fun r w' => ∃ lv svs h0, r = .returned lv ∧ Grp h0 lv svs (gath (walkW N l).root (walkW N l).root.length).2 w' ∧ Below w.heap.size w w' := by
  have hg1 : Grew w (w.alloc (.cells #[.int .i64 (N : Int), sv] 24)) := (Grew.refl w).alloc _
  have hl1 := hl.go hg1.below
  obtain ⟨p, c, rfl⟩ := hl.len
  have hrc := fun W h => right_any (N : Int) l (.slice p l.length c) W h
  rw [right_iff.2 hR] at hrc
  have hn1 := hR.n1
  have hm1 := hR.m1
  go_enter Try.func57, Try.ntmps57
  go_wp2_with fail
  refine (hrc _ hl1).mono ?_
  rintro e w2 ⟨rfl, hg2⟩
  have q0 := (box2 _ hg2).1
  have q1 := (box2 _ hg2).2
  have hbox := box2_lt hg2
  have hbw := (hg1.trans hg2).below
  clear hrc hl1
  go_wp2_with fail
  refine (walked_any N l hR _ _ (hl.go hbw)).mono ?_
  rintro e w3 ⟨a, lv, pv, ov, rfl, aN, aM, hLay, hW, hLK, hF, hh, hb3⟩
  have b := hW.blk.cell (j := 1) rfl
  have hI := hW.root.ints
  rw [hln] at hI
  rw [aN] at b
  have hga := fun W (hb : Below w3.heap.size w3 W) => gathered_any (walkW N l).root hLb (by rw [hln]; omega) _ W (hI.go hb)
  have hbw3 := hbw.trans (hb3.mono hbw.size)
  clear hW hLK hF hI
  go_wp2_with fail
  refine (hga _ (Below.refl _ _)).mono ?_
  rintro e w4 ⟨lv4, svs, h0, rfl, hG, hb4⟩
  have HG : Hid _ := hG
  have HB : Hid _ := hbw3.trans (hb4.mono hbw3.size)
  clear hG hb4 hga
  go_wp2
  go_ret
  exact ⟨lv4, svs, h0, rfl, HG.out, HB.out⟩

set_option maxRecDepth 100000 in
set_option maxHeartbeats 2000000 in
theorem components_bad (n : Int) (l : List Ed) (hR : rightK n l ≠ 0) (sv : Value) (w : World) (hl : Edges w.heap.size w sv l) :
    Calls Try.prog 57 #[.agg #[.int .i64 n, sv]] w fun r w' => r = .returned (.slice none 0 0) ∧ Below w.heap.size w w' := by
  have hg1 : Grew w (w.alloc (.cells #[.int .i64 n, sv] 24)) := (Grew.refl w).alloc _
  have hl1 := hl.go hg1.below
  obtain ⟨p, c, rfl⟩ := hl.len
  have hrc := fun W h => right_any n l (.slice p l.length c) W h
  go_enter Try.func57, Try.ntmps57
  go_wp2_with fail
  refine (hrc _ hl1).mono ?_
  rintro e w2 ⟨rfl, hg2⟩
  have hbw := (hg1.trans hg2).below
  clear hrc hl1
  generalize rightK n l = k at *
  go_wp2
  go_ret
  exact ⟨rfl, hbw⟩

end Go.Proofs.Yteekhofollaooaa
