/-
  (*walk).leave: back from the vertex on top.
-/
import Derived.Deep.QuietTactic
import Derived.Deep.RegionLaw
import Derived.BigQuiet
import Derived.Deep.RegionHeld3
import Derived.Test.YtdgecflljgnobaaXPWalkD
import Derived.Test.YtdgecflljgnobaaXGHeldL
import Derived.Test.YtdgecflljgnobaaXPOkW
namespace Go.Proofs.Ytdgecflljgnobaa
open Go Go.Proofs Go.RowKit

theorem owns_shrink {W : World} {base : Nat} {e : TypeId} {size : Nat} {p : Option Addr} {n c : Nat} {xs : List Value} (h : W.ownsRow base e size (.slice p n c) n xs) {m : Nat} (hm : m ≤ n) : W.ownsRow base e size (.slice p m c) m (xs.take (m * size)) := by
  obtain ⟨hl, h1⟩ := h
  have hms : m * size ≤ n * size := Nat.mul_le_mul_right _ hm
  refine ⟨by rw [List.length_take]; omega, ?_⟩
  rcases h1 with ⟨h2, h3⟩ | ⟨g, cap, cur, h2, h3, h4, h5, h6, h7, h8⟩
  · simp only [Value.slice.injEq] at h2
    obtain ⟨rfl, rfl, rfl⟩ := h2
    obtain rfl : m = 0 := by omega
    exact .inl ⟨rfl, rfl⟩
  · simp only [Value.slice.injEq] at h2
    obtain ⟨rfl, _, rfl⟩ := h2
    refine .inr ⟨g, c, cur, rfl, h3, h4, by omega, h6, h7, ?_⟩
    rw [← h8, List.take_take]
    congr 1
    omega
theorem addr_add (b k : Nat) : (⟨b, 0, none⟩ : Addr).add k = ⟨b, k, none⟩ := by
  simp only [Addr.add]
  by_cases h : k = 0
  · subst h; rfl
  · simp [h]
theorem flatP_take (P Q : List Stp) : (flatP (P ++ Q)).take (P.length * 5) = flatP P := by
  rw [flatP_app, ← flatP_len P]
  exact List.take_left
/-- The way without its last steps. -/
theorem WB.cutWay {a : Lay} {lv ov : Value} {s : WS} {W : World} {pb n cap : Nat} {P Q : List Stp} (h : WB a lv (.slice (some ⟨pb, 0, none⟩) n cap) ov s W) (hn : n = s.path.length) (hL : LayOK a) (hp : s.path = P ++ Q) : WB a lv (.slice (some ⟨pb, 0, none⟩) P.length cap) ov { s with path := P } (W.setCell ⟨a.wb, 5, none⟩ (.slice (some ⟨pb, 0, none⟩) P.length cap)) := by
  subst hn
  have hw := owns_shrink h.way (m := P.length) (by rw [hp]; simp)
  rw [hp, flatP_take] at hw
  exact ⟨h.blk.set 5 _, h.root.other (Ne.symm hL.wr) _, h.frm.other (Ne.symm hL.wf) _, h.dep.other (Ne.symm hL.wd) _, h.bls.other (Ne.symm hL.wk) _, owns_lowset hw hL.w0 _, owns_lowset h.opn hL.w0 _⟩
/-- The open edges without the last ones. -/
theorem WB.cutOpn {a : Lay} {lv pv : Value} {s : WS} {W : World} {po : Option Addr} {co k : Nat} (h : WB a lv pv (.slice po s.opn.length co) s W) (hL : LayOK a) (hk : k ≤ s.opn.length) : WB a lv pv (.slice po k co) { s with opn := s.opn.take k } (W.setCell ⟨a.wb, 6, none⟩ (.slice po k co)) := by
  have hw := owns_shrink h.opn hk
  rw [Nat.mul_one, ← List.map_take] at hw
  have hlen : (s.opn.take k).length = k := by rw [List.length_take]; omega
  refine ⟨h.blk.set 6 _, h.root.other (Ne.symm hL.wr) _, h.frm.other (Ne.symm hL.wf) _, h.dep.other (Ne.symm hL.wd) _, h.bls.other (Ne.symm hL.wk) _, owns_lowset h.way hL.w0 _, ?_⟩
  show World.ownsRow _ a.h0 _ 1 _ (s.opn.take k).length _
  rw [hlen]
  exact owns_lowset hw hL.w0 _

set_option maxRecDepth 100000 in
set_option maxHeartbeats 4000000 in
theorem leave_any (a : Lay) (hL : LayOK a) (lv ov : Value) (s : WS) (init : List Stp) (last : Stp) (pb cap : Nat) (hp : s.path = init ++ [last]) (hP : s.path.length ≤ 1073741824) (hO : s.opn.length ≤ 1073741824) (hD : s.depth.length = a.N) (hK : s.block.length = a.M) (hv : ∀ st ∈ init, ∃ v : Nat, st.v = (v : Int) ∧ v < a.N) (ho : last.opn ≤ s.opn.length) (hops : ∀ x ∈ s.opn, ∃ k : Nat, x = (k : Int) ∧ k < a.M) (w : World) (h : WB a lv (.slice (some ⟨pb, 0, none⟩) s.path.length cap) ov s w) (hA : Apart2 (.slice (some ⟨pb, 0, none⟩) s.path.length cap) ov) :
    Calls Try.prog 50 #[.pointer (some ⟨a.wb, 0, none⟩)] w fun e w' => e = .returned (.tuple #[]) ∧ ∃ pv' ov', WB a lv pv' ov' (leaveW s init last) w' ∧ Apart2 pv' ov' ∧ Wk a w w' := by
  have hmix := mixed
  have b5 := h.blk.cell (j := 5) rfl
  have hl : s.path.length = init.length + 1 := by rw [hp]; simp
  have hpb := h.way.lt pb rfl
  have hcap : init.length + 1 ≤ cap := by
    have := h.way.2
    rcases this with ⟨h1, _⟩ | ⟨g, c, cur, h1, _, _, h2, _⟩
    · cases h1
    · simp only [Value.slice.injEq] at h1; omega
  have hcap1 : (init.length : Int) ≤ (cap : Int) := by omega
  have hcap0 : cap ≠ 0 := by omega
  obtain ⟨p0, p1, p2, p3, p4⟩ := h.top hp
  have hwl : a.wb < w.heap.size := by have := hL.w0; omega
  have hpl : pb < w.heap.size := hpb.2
  rw [hl] at b5 hP
  have hP' : (init.length : Int) ≤ 1073741824 := by omega
  have Hh : Hid _ := h
  have HA : Hid _ := hA
  have HV : Hid _ := hv
  have HOPS : Hid _ := hops
  have HP : Hid _ := hp
  have HLn : Hid _ := hl
  clear h hA hv hops hp hl
  go_enter Try.func50, Try.ntmps50
  go_wp2
  go_big_region_o
  have hb1 : Below w.heap.size w (w.alloc (.cells #[.int .i64 last.v, .int .i64 last.by_, .int .i64 (last.next : Int), .int .i64 last.low, .int .i64 (last.opn : Int)] 77)).drew := below_drewN ((Below.refl _ _).alloc (Nat.le_refl _) _) 1
  have hX1 : Blk 77 (w.alloc (.cells #[.int .i64 last.v, .int .i64 last.by_, .int .i64 (last.next : Int), .int .i64 last.low, .int .i64 (last.opn : Int)] 77)).drew w.heap.size [.int .i64 last.v, .int .i64 last.by_, .int .i64 (last.next : Int), .int .i64 last.low, .int .i64 (last.opn : Int)] := heap_alloc_new w _
  have hW1 := Hh.out.go hb1
  have hk1 : Wk a w (w.alloc (.cells #[.int .i64 last.v, .int .i64 last.by_, .int .i64 (last.next : Int), .int .i64 last.low, .int .i64 (last.opn : Int)] 77)).drew := Wk.of_below hb1 (by omega)
  have hs1 : w.heap.size < (w.alloc (.cells #[.int .i64 last.v, .int .i64 last.by_, .int .i64 (last.next : Int), .int .i64 last.low, .int .i64 (last.opn : Int)] 77)).drew.heap.size := hX1.lt
  have hsx : a.h0 ≤ w.heap.size := by omega
  clear b5 p0 p1 p2 p3 p4 hb1
  generalize (w.alloc (.cells #[.int .i64 last.v, .int .i64 last.by_, .int .i64 (last.next : Int), .int .i64 last.low, .int .i64 (last.opn : Int)] 77)).drew = w1 at hX1 hW1 hk1 hs1 ⊢
  generalize w.heap.size = xb at *
  have HW2 : Hid _ := hW1.cutWay rfl hL HP.out
  have HX2 : Hid _ := hX1.other (p := ⟨a.wb, 5, none⟩) (by have := hL.w0; simp only; omega) (.slice (some ⟨pb, 0, none⟩) init.length cap)
  have HK2 : Hid _ := hk1.set (p := ⟨a.wb, 5, none⟩) (.inl (.inl rfl)) (.slice (some ⟨pb, 0, none⟩) init.length cap)
  have b5 := hW1.blk.cell (j := 5) rfl
  have f5 := hW1.blk.frozen 5
  rw [HLn.out] at b5
  clear hW1 hX1 hk1
  go_wp2
  go_big_region_o
  have hW2 := HW2.out.go (B := (w1.setCell ⟨a.wb, 5, none⟩ (.slice (some ⟨pb, 0, none⟩) init.length cap)).drew) (below_drewN (Below.refl _ _) 1)
  have hX2 : Blk 77 (w1.setCell ⟨a.wb, 5, none⟩ (.slice (some ⟨pb, 0, none⟩) init.length cap)).drew xb [.int .i64 last.v, .int .i64 last.by_, .int .i64 (last.next : Int), .int .i64 last.low, .int .i64 (last.opn : Int)] := HX2.out
  have hk2 : Wk a w (w1.setCell ⟨a.wb, 5, none⟩ (.slice (some ⟨pb, 0, none⟩) init.length cap)).drew := ⟨HK2.out.os, HK2.out.tape, HK2.out.output, HK2.out.size, HK2.out.block⟩
  have hs2 : xb < (w1.setCell ⟨a.wb, 5, none⟩ (.slice (some ⟨pb, 0, none⟩) init.length cap)).drew.heap.size := hX2.lt
  have hA2 : Apart2 (.slice (some ⟨pb, 0, none⟩) init.length cap) ov := HA.out
  clear HW2 HX2 HK2 b5 f5 hs1 Hh HA
  generalize (w1.setCell ⟨a.wb, 5, none⟩ (.slice (some ⟨pb, 0, none⟩) init.length cap)).drew = w2 at hW2 hX2 hk2 hs2 ⊢
  have b5 := hW2.blk.cell (j := 5) rfl
  cases hin : init.getLast? with
  | none =>
    obtain rfl : init = [] := List.getLast?_eq_none_iff.1 hin
    have HE : Hid (leaveW s [] last = { s with path := [] }) := rfl
    have Hres : Hid _ := hW2
    have HK3 : Hid _ := hk2
    have HA3 : Hid _ := hA2
    clear hW2 hX2 hk2 hA2
    simp only [List.length_nil] at b5
    go_wp2
    refine bodyPost_ret (results_none rfl _ _ _) rfl ?_
    refine ⟨rfl, _, _, ?_, HA3.out, HK3.out⟩
    rw [HE.out]
    exact Hres.out
  | some top =>
    obtain ⟨pre, rfl⟩ := List.getLast?_eq_some_iff.1 hin
    obtain ⟨v, hv, hvN⟩ := HV.out top (by simp)
    have hln : (pre ++ [top]).length = pre.length + 1 := by simp
    obtain ⟨p0, -, -, p3, -⟩ := hW2.top (s := { s with path := pre ++ [top] }) rfl
    rw [hv] at p0
    have b3 := hW2.blk.cell (j := 3) rfl
    have x3 := hX2.cell (j := 3) rfl
    have t0 : w2.cell? ⟨a.db, v, none⟩ = some (.int .i64 (s.depth.getD v 0)) := hW2.dep.cell (by rw [List.getElem?_map, List.getElem?_eq_getElem (by show v < s.depth.length; omega)]; simp [show v < s.depth.length by omega])
    have hvN' : (v : Int) < (a.N : Int) := by omega
    have HW3 : Hid _ := hW2
    have HX3 : Hid _ := hX2
    have HK3 : Hid _ := hk2
    have HA3 : Hid _ := hA2
    rw [hln] at b5
    clear hW2 hX2 hk2 hA2
    generalize hdv : s.depth.getD v 0 = dv at *
    have hpl' : (pre.length : Int) ≤ 1073741824 := by rw [hln] at hP; omega
    go_wp2
    go_quiet (fail)
    have hb3 : Below w2.heap.size w2 (w2.drewN nq) := below_drewN (Below.refl _ _) nq
    have hW3 := HW3.out.go hb3
    have hX3 : Blk 77 (w2.drewN nq) xb [.int .i64 last.v, .int .i64 last.by_, .int .i64 (last.next : Int), .int .i64 last.low, .int .i64 (last.opn : Int)] := HX3.out
    have hk3 : Wk a w (w2.drewN nq) := HK3.out.trans (Wk.of_below hb3 (by omega))
    have hs3 : xb < (w2.drewN nq).heap.size := hX3.lt
    clear HW3 HX3 HK3 b5 b3 x3 p0 p3 t0 hb3 hs2
    generalize w2.drewN nq = w3 at hW3 hX3 hk3 hs3 ⊢
    obtain ⟨p0, -, -, p3, -⟩ := hW3.top (s := { s with path := pre ++ [top] }) rfl
    rw [hv] at p0
    have b3 := hW3.blk.cell (j := 3) rfl
    have x3 := hX3.cell (j := 3) rfl
    have t0 : w3.cell? ⟨a.db, v, none⟩ = some (.int .i64 dv) := hW3.dep.cell (by rw [List.getElem?_map, List.getElem?_eq_getElem (by show v < s.depth.length; omega)]; simp [← hdv, show v < s.depth.length by omega])
    have HW3 : Hid _ := hW3
    have HX3 : Hid _ := hX3
    have HK3 : Hid _ := hk3
    clear hW3 hX3 hk3
    go_wp2
    go_quiet (fail)
    have hb4 : Below w3.heap.size w3 (w3.drewN nq) := below_drewN (Below.refl _ _) nq
    have hW4 := HW3.out.go hb4
    have hX4 : Blk 77 (w3.drewN nq) xb [.int .i64 last.v, .int .i64 last.by_, .int .i64 (last.next : Int), .int .i64 last.low, .int .i64 (last.opn : Int)] := HX3.out
    have hk4 : Wk a w (w3.drewN nq) := HK3.out.trans (Wk.of_below hb4 (by omega))
    have hs4 : xb < (w3.drewN nq).heap.size := hX4.lt
    clear HW3 HX3 HK3 b3 x3 p0 p3 t0 hb4 hs3
    generalize w3.drewN nq = w4 at hW4 hX4 hk4 hs4 ⊢
    have hat : at_ s.depth top.v = dv := by unfold at_; rw [hv]; exact hdv
    by_cases hlow : last.low < dv
    · have HE : Hid (leaveW s (pre ++ [top]) last = { s with path := pre ++ [{ top with low := min top.low last.low }] }) := by
        unfold Hid leaveW
        rw [hin]
        simp only [hat, if_pos hlow, List.dropLast_concat]
      obtain ⟨-, -, -, p3, -⟩ := hW4.top (s := { s with path := pre ++ [top] }) rfl
      have x3 := hX4.cell (j := 3) rfl
      have fr := hW4.way.frozenAt (pre.length * 5 + 3)
      have fin : ∀ m : Int, m = min top.low last.low → ∃ pv' ov', WB a lv pv' ov' (leaveW s (pre ++ [top]) last) (w4.setCell ⟨pb, pre.length * 5 + 3, none⟩ (.int .i64 m)).drew ∧ Apart2 pv' ov' ∧ Wk a w (w4.setCell ⟨pb, pre.length * 5 + 3, none⟩ (.int .i64 m)).drew := fun m hm => by
        have h1 := hW4.setWay (s := { s with path := pre ++ [top] }) hL HA3.out (j := pre.length * 5 + 3) (u := .int .i64 m) (P := pre ++ [{ top with low := m }]) (flatP_low pre top m) (by simp)
        have h2 := hk4.set (p := ⟨pb, pre.length * 5 + 3, none⟩) (.inr hpb.1) (.int .i64 m)
        refine ⟨.slice (some ⟨pb, 0, none⟩) (pre ++ [{ top with low := m }]).length cap, ov, ?_, ?_, ⟨h2.os, h2.tape, h2.output, h2.size, h2.block⟩⟩
        · rw [HE.out, ← hm]
          exact h1.go (below_drewN (Below.refl _ _) 1)
        · exact HA3.out
      have Hfin : Hid _ := fin
      clear fin hW4 hX4 hk4
      by_cases hm : last.low < top.low
      · have hz := Hfin.out last.low (by omega)
        go_wp2
        go_big_region_o
        go_wp2
        refine bodyPost_ret (results_none rfl _ _ _) rfl ?_
        exact ⟨rfl, hz⟩
      · have hz := Hfin.out top.low (by omega)
        go_wp2
        go_big_region_o
        go_wp2
        refine bodyPost_ret (results_none rfl _ _ _) rfl ?_
        exact ⟨rfl, hz⟩
    · have HE : Hid (leaveW s (pre ++ [top]) last = { s with path := pre ++ [top], block := (s.opn.drop last.opn).foldl (fun b p => b.set p.toNat last.by_) s.block, opn := s.opn.take last.opn }) := by
        unfold Hid leaveW
        rw [hin]
        simp only [hat, if_neg hlow]
      obtain ⟨po, co, rfl⟩ := owns_formP hW4.opn
      have hco : s.opn.length ≤ co := by
        rcases hW4.opn.2 with ⟨h1, h2⟩ | ⟨g, c, cur, h1, _, _, h2, _⟩
        · have h3 : s.opn.length = 0 := h2; omega
        · simp only [Value.slice.injEq] at h1; obtain ⟨_, _, h4⟩ := h1; have h3 : s.opn.length ≤ c := h2; omega
      have hgo : ∀ j, j < s.opn.length → ∃ ob, po = some ⟨ob, 0, none⟩ := fun j hj => by
        rcases hW4.opn.2 with ⟨h1, h2⟩ | ⟨g, c, cur, h1, _, _, h2, _⟩
        · exact absurd h2 (by show ¬ s.opn.length = 0; omega)
        · simp only [Value.slice.injEq] at h1; exact ⟨g, h1.1⟩
      have b6 := hW4.blk.cell (j := 6) rfl
      have x4 := hX4.cell (j := 4) rfl
      have HW4 : Hid _ := hW4
      have HX4 : Hid _ := hX4
      have HK4 : Hid _ := hk4
      have HGO : Hid _ := hgo
      have ho' : (last.opn : Int) ≤ (s.opn.length : Int) := by omega
      clear hW4 hX4 hk4 hgo
      go_wp2
      go_quiet (fail)
      have hb5 : Below w4.heap.size w4 (w4.drewN nq) := below_drewN (Below.refl _ _) nq
      have hW5 := HW4.out.go hb5
      have hX5 : Blk 77 (w4.drewN nq) xb [.int .i64 last.v, .int .i64 last.by_, .int .i64 (last.next : Int), .int .i64 last.low, .int .i64 (last.opn : Int)] := HX4.out
      have hk5 : Wk a w (w4.drewN nq) := HK4.out.trans (Wk.of_below hb5 (by omega))
      clear HW4 HX4 HK4 b6 x4 hb5 hs4
      generalize w4.drewN nq = w5 at hW5 hX5 hk5 ⊢
      generalize hq : (if co = last.opn then po else Option.map (fun x => x.add last.opn) po) = q
      have HQ : Hid _ := hq
      have hkM : s.block.length = a.M := hK
      have HS0 : Hid _ := hW5
      have HX0 : Hid _ := hX5
      have HK0 : Hid _ := hk5
      have hnl : ((s.opn.length - last.opn : Nat) : Int) ≤ 1073741824 := by omega
      clear hq hW5 hX5 hk5 hv hP hcap hcap1 hP' hln hlow hdv hD hpl'
      go_wp2
      go_loopw [80] (fun i wr => ∃ j : Nat, j ≤ s.opn.length - last.opn ∧ i = .int .i64 j ∧ Hid (WB a lv (.slice (some ⟨pb, 0, none⟩) (pre ++ [top]).length cap) (.slice po s.opn.length co) { s with path := pre ++ [top], block := ((s.opn.drop last.opn).take j).foldl (fun b p => b.set p.toNat last.by_) s.block } wr) ∧ Hid (Blk 77 wr xb [.int .i64 last.v, .int .i64 last.by_, .int .i64 (last.next : Int), .int .i64 last.low, .int .i64 (last.opn : Int)]) ∧ Hid (Wk a w wr)) (fun i _ => (s.opn.length - last.opn) - (intOf i).toNat)
      case atStart => exact ⟨0, Nat.zero_le _, rfl, HS0.out, HX0.out, HK0.out⟩
      case round =>
        obtain ⟨j, hj, rfl, HWr, HXr, HKr⟩ := hrel
        by_cases hlt : j < s.opn.length - last.opn
        · obtain ⟨ob, rfl⟩ := HGO.out j (by omega)
          have hq' : q = some ⟨ob, last.opn, none⟩ := by
            rw [← HQ.out, if_neg (by omega), Option.map_some, addr_add]
          subst hq'
          have hjo : last.opn + j < s.opn.length := by omega
          obtain ⟨pk, hpk, hpkM⟩ := HOPS.out s.opn[last.opn + j] (List.getElem_mem hjo)
          have c0 : wr.cell? ⟨ob, last.opn + j, none⟩ = some (.int .i64 (pk : Int)) := by
            have := HWr.out.opn.cellAt (last.opn + j) (by show last.opn + j < s.opn.length * 1; omega)
            rw [this, List.getElem?_map]
            show Option.map _ s.opn[last.opn + j]? = _
            rw [List.getElem?_eq_getElem hjo, hpk]
            rfl
          have b4 := HWr.out.blk.cell (j := 4) rfl
          have x1 := HXr.out.cell (j := 1) rfl
          have hfl : (((s.opn.drop last.opn).take j).foldl (fun b p => b.set p.toNat last.by_) s.block).length = a.M := (foldl_len _ _ _).trans hkM
          obtain ⟨y0, k0⟩ : ∃ z, wr.cell? ⟨a.kb, pk, none⟩ = some z := ⟨_, HWr.out.bls.cell (by rw [List.getElem?_map]; show Option.map _ (((s.opn.drop last.opn).take j).foldl (fun b p => b.set p.toNat last.by_) s.block)[pk]? = _; rw [List.getElem?_eq_getElem (by rw [hfl]; exact hpkM)]; rfl)⟩
          have f0 := HWr.out.bls.frozen pk
          have hpk' : (pk : Int) < (a.M : Int) := by omega
          have hjn : (j : Int) < ((s.opn.length - last.opn : Nat) : Int) := by omega
          have hS := HWr.out.setBlock hL pk last.by_
          have HFB : Hid (((s.opn.drop last.opn).take (j + 1)).foldl (fun b p => b.set p.toNat last.by_) s.block = (((s.opn.drop last.opn).take j).foldl (fun b p => b.set p.toNat last.by_) s.block).set pk last.by_) := by
            unfold Hid
            rw [List.take_add_one, List.getElem?_drop, List.getElem?_eq_getElem hjo, List.foldl_append, hpk]
            rfl
          have HR1 : Hid _ := hS.go (B := (wr.setCell ⟨a.kb, pk, none⟩ (.int .i64 last.by_)).drew) (below_drewN (Below.refl _ _) 1)
          have HR2 : Hid (Blk 77 (wr.setCell ⟨a.kb, pk, none⟩ (.int .i64 last.by_)).drew xb _) := HXr.out.other (p := ⟨a.kb, pk, none⟩) (by have := hL.k0; simp only; omega) (.int .i64 last.by_)
          have hk6 := HKr.out.set (p := ⟨a.kb, pk, none⟩) (.inl (.inr (.inr (.inr (.inr rfl))))) (.int .i64 last.by_)
          have HR3 : Hid (Wk a w (wr.setCell ⟨a.kb, pk, none⟩ (.int .i64 last.by_)).drew) := ⟨hk6.os, hk6.tape, hk6.output, hk6.size, hk6.block⟩
          clear hS hk6 HWr HXr HKr HOPS HGO HQ hpk hfl HA3 HS0 HX0 HK0
          go_wp2
          go_big_region_o
          go_wp2
          refine ⟨⟨j + 1, by omega, by go_num, ?_, HR2.out, HR3.out⟩, by simp [intOf]; omega⟩
          rw [HFB.out]
          exact HR1.out
        · obtain rfl : j = s.opn.length - last.opn := by omega
          have hfull : (s.opn.drop last.opn).take (s.opn.length - last.opn) = s.opn.drop last.opn := List.take_of_length_le (by rw [List.length_drop]; omega)
          rw [hfull] at HWr
          have b6 := HWr.out.blk.cell (j := 6) rfl
          have f6 := HWr.out.blk.frozen 6
          have x4 := HXr.out.cell (j := 4) rfl
          have hz : ∃ pv' ov', WB a lv pv' ov' (leaveW s (pre ++ [top]) last) (wr.setCell ⟨a.wb, 6, none⟩ (.slice po last.opn co)).drew ∧ Apart2 pv' ov' ∧ Wk a w (wr.setCell ⟨a.wb, 6, none⟩ (.slice po last.opn co)).drew := by
            have h1 := (HWr.out.cutOpn (s := { s with path := pre ++ [top], block := (s.opn.drop last.opn).foldl (fun b p => b.set p.toNat last.by_) s.block }) hL (k := last.opn) ho).go (B := (wr.setCell ⟨a.wb, 6, none⟩ (.slice po last.opn co)).drew) (below_drewN (Below.refl _ _) 1)
            have h2 := HKr.out.set (p := ⟨a.wb, 6, none⟩) (.inl (.inl rfl)) (.slice po last.opn co)
            refine ⟨.slice (some ⟨pb, 0, none⟩) (pre ++ [top]).length cap, .slice po last.opn co, ?_, ?_, ⟨h2.os, h2.tape, h2.output, h2.size, h2.block⟩⟩
            · rw [HE.out]
              exact h1
            · cases po with
              | none => exact ⟨.inr (by simp [Value.ownBlock]), .inl rfl⟩
              | some ad => exact HA3.out
          have Hz : Hid _ := hz
          clear HWr HXr HKr HOPS HGO HQ HA3 HS0 HX0 HK0 hz hfull
          have hoc : (last.opn : Int) ≤ (co : Int) := by omega
          go_wp2
          go_big_region_o
          go_wp2
          refine bodyPost_end (results_none rfl _ _ _) rfl ?_
          exact ⟨rfl, Hz.out⟩
end Go.Proofs.Ytdgecflljgnobaa
