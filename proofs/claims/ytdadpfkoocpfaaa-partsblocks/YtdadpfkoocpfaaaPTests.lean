/-
  The tests of parts.Cuts and parts.Bridges.
-/
import Derived.Deep.QuietTactic
import Derived.BigQuiet
import Derived.Test.YtdadpfkoocpfaaaPMade
namespace Go.Proofs.Ytdadpfkoocpfaaa
open Go Go.Proofs Go.RowKit

def cutB (lk : List (List (Int × Int))) (bl : List Int) (v : Nat) : Bool := (lk.getD v []).any fun x => at_ bl x.2 != at_ bl ((lk.getD v []).getD 0 (0, 0)).2
def bridgeB (bl : List Int) (p : Nat) : Bool := ((bl.count (bl.getD p 0) : Nat) : Int) == 1

set_option maxRecDepth 100000 in
set_option maxHeartbeats 4000000 in
theorem cut1_any (a : Lay) (lv pv ov : Value) (lk : List (List (Int × Int))) (s : WS) (w : World) (h : WB a lv pv ov s w) (hlk : LK a lv lk w) (hh : a.h0 ≤ w.heap.size) (hK : LinksIn a.N a.M lk) (hdeg : ∀ v, (lk.getD v []).length ≤ 4194304) (hB : s.block.length = a.M) (xb : Nat) (hx : w.cell? ⟨xb, 0, none⟩ = some (.pointer (some ⟨a.wb, 0, none⟩))) (v : Nat) (hv : v < a.N) (W : World) (hW : Below w.heap.size w W) :
    Calls Try.prog 32 #[.int .i64 (v : Int), .pointer (some ⟨xb, 0, none⟩)] W fun e w' => e = .returned (.bool (cutB lk s.block v)) ∧ Below W.heap.size W w' := by
  have hWW := h.go hW
  obtain ⟨lb, sb, off, cc, rfl, hlb, hsb, hl5, hs5, g0, g1⟩ := (hlk.go (Wk.of_below hW hh)).at hv
  have hx' := cell_keepK hW hx
  have hdg := hdeg v
  have hKv := hK v
  have HC : Hid (cutB lk s.block v = (lk.getD v []).any fun x => at_ s.block x.2 != at_ s.block ((lk.getD v []).getD 0 (0, 0)).2) := rfl
  generalize lk.getD v [] = xs at *
  have b0 := hWW.blk.cell (j := 0) rfl
  have b4 := hWW.blk.cell (j := 4) rfl
  have hvN : (v : Int) < (a.N : Int) := by omega
  have HG : Hid _ := g1
  have HKv : Hid _ := hKv
  have HWW : Hid _ := hWW
  clear g1 hKv hWW h hlk hK hdeg
  go_enter Try.func32, Try.ntmps32
  go_wp2
  go_loopw [14] (fun i wr => ∃ j : Nat, j ≤ xs.length ∧ i = .int .i64 j ∧ Hid (∀ k x, k < j → xs[k]? = some x → at_ s.block x.2 = at_ s.block (xs.getD 0 (0, 0)).2) ∧ Below W.heap.size W wr) (fun i _ => xs.length - (intOf i).toNat)
  case atStart => exact ⟨0, Nat.zero_le _, rfl, fun k x h => by omega, Below.refl _ _⟩
  case round =>
    obtain ⟨j, hj, rfl, HS, hb⟩ := hrel
    by_cases hlt : j < xs.length
    · obtain ⟨x, hxj⟩ : ∃ x, xs[j]? = some x := ⟨_, List.getElem?_eq_getElem hlt⟩
      obtain ⟨y, hy0⟩ : ∃ y, xs[0]? = some y := ⟨_, List.getElem?_eq_getElem (by omega)⟩
      have hyd : xs.getD 0 (0, 0) = y := by rw [List.getD_eq_getElem?_getD, hy0]; rfl
      obtain ⟨⟨xu, ex1, hxu⟩, xp, ex2, hxp⟩ := HKv.out x (List.mem_of_getElem? hxj)
      obtain ⟨⟨yu, ey1, hyu⟩, yp, ey2, hyp⟩ := HKv.out y (List.mem_of_getElem? hy0)
      have q0 := cell_keepK hb (HG.out j x hxj).1
      have q1 := cell_keepK hb (HG.out j x hxj).2
      have r1 := cell_keepK hb (HG.out 0 y hy0).2
      rw [ex1] at q0
      rw [ex2] at q1
      rw [ey2] at r1
      have hWr := HWW.out.go hb
      have t0 : wr.cell? ⟨a.kb, xp, none⟩ = some (.int .i64 (s.block.getD xp 0)) := hWr.bls.cell (by rw [List.getElem?_map, List.getElem?_eq_getElem (by omega)]; simp [show xp < s.block.length by omega])
      have t1 : wr.cell? ⟨a.kb, yp, none⟩ = some (.int .i64 (s.block.getD yp 0)) := hWr.bls.cell (by rw [List.getElem?_map, List.getElem?_eq_getElem (by omega)]; simp [show yp < s.block.length by omega])
      have c0 := hWr.blk.cell (j := 0) rfl
      have c4 := hWr.blk.cell (j := 4) rfl
      have g0r := cell_keepK hb g0
      have hxr := cell_keepK hb hx'
      have hxpM : (xp : Int) < (a.M : Int) := by omega
      have hypM : (yp : Int) < (a.M : Int) := by omega
      have hjl : (j : Int) < (xs.length : Int) := by omega
      have hl0 : (0 : Int) < (xs.length : Int) := by omega
      have eX : at_ s.block x.2 = s.block.getD xp 0 := by unfold at_; rw [ex2]; rfl
      have eY : at_ s.block (xs.getD 0 (0, 0)).2 = s.block.getD yp 0 := by unfold at_; rw [hyd, ey2]; rfl
      have HEX : Hid _ := eX
      have HEY : Hid _ := eY
      have Hxj : Hid _ := hxj
      rw [Nat.zero_mul, Nat.add_zero] at r1
      clear eX eY hxj hy0 hyd ex1 ex2 ey1 ey2 hWr
      generalize hbx : s.block.getD xp 0 = bx at *
      generalize hby : s.block.getD yp 0 = byv at *
      clear hbx hby
      have hbA : Below wr.heap.size wr (wr.alloc (.cells #[.int .i64 (xu : Int), .int .i64 (xp : Int)] 57)) := (Below.refl _ _).alloc (Nat.le_refl _) _
      have hXA : Blk 57 (wr.alloc (.cells #[.int .i64 (xu : Int), .int .i64 (xp : Int)] 57)) wr.heap.size [.int .i64 (xu : Int), .int .i64 (xp : Int)] := heap_alloc_new wr _
      have HBA : Hid (Below W.heap.size W (wr.alloc (.cells #[.int .i64 (xu : Int), .int .i64 (xp : Int)] 57))) := hb.trans (hbA.mono hb.size)
      have HXS : Hid (∀ z : Int × Int, xs.any (fun x => at_ s.block x.2 != at_ s.block z.2) = true ↔ ∃ x ∈ xs, at_ s.block x.2 ≠ at_ s.block z.2) := fun z => by simp [List.any_eq_true]
      have HLT : Hid (j < xs.length) := hlt
      go_wp2
      have A0 := cell_keepK hbA c0
      have A4 := cell_keepK hbA c4
      have AG := cell_keepK hbA g0r
      have AX := cell_keepK hbA hxr
      have AR := cell_keepK hbA r1
      have AT0 := cell_keepK hbA t0
      have AT1 := cell_keepK hbA t1
      have AB := hXA.cell (j := 1) rfl
      clear c0 c4 g0r hxr r1 t0 t1 hXA hbA b0 b4 g0 hx' q0 q1
      generalize wr.heap.size = eb at *
      generalize (wr.alloc (.cells #[.int .i64 (xu : Int), .int .i64 (xp : Int)] 57)) = wA at *
      by_cases hd : bx = byv
      · have HS2 : Hid (∀ k x, k < j + 1 → xs[k]? = some x → at_ s.block x.2 = at_ s.block (xs.getD 0 (0, 0)).2) := fun k x' hk hx' => by
          by_cases e : k = j
          · subst e
            rw [Hxj.out] at hx'
            cases hx'
            rw [HEX.out, HEY.out, hd]
          · exact HS.out k x' (by omega) hx'
        subst hd
        go_quiet (fail)
        have HB2 : Hid (Below W.heap.size W (wA.drewN nq)) := below_drewN HBA.out nq
        generalize wA.drewN nq = wB at HB2 ⊢
        go_wp2
        exact ⟨⟨j + 1, HLT.out, by go_num, HS2.out, HB2.out⟩, by have := HLT.out; simp [intOf]; omega⟩
      · have HR : Hid (cutB lk s.block v = true) := by
          unfold Hid
          rw [HC.out, HXS.out]
          exact ⟨x, List.mem_of_getElem? Hxj.out, by rw [HEX.out, HEY.out]; exact hd⟩
        go_quiet (fail)
        have HB2 : Hid (Below W.heap.size W (wA.drewN nq)) := below_drewN HBA.out nq
        generalize wA.drewN nq = wB at HB2 ⊢
        go_wp2
        go_ret
        rw [HR.out]
        exact ⟨rfl, HB2.out⟩
    · obtain rfl : j = xs.length := by omega
      have HR : Hid (cutB lk s.block v = false) := by
        unfold Hid
        rw [HC.out]
        rw [Bool.eq_false_iff]
        intro h
        obtain ⟨x, hx1, hx2⟩ := List.any_eq_true.1 h
        obtain ⟨k, hk, he⟩ := List.getElem_of_mem hx1
        have := HS.out k x hk (by rw [List.getElem?_eq_getElem hk, he])
        simp [this] at hx2
      go_wp2
      go_ret
      rw [HR.out]
      exact ⟨rfl, hb⟩

set_option maxRecDepth 100000 in
set_option maxHeartbeats 4000000 in
theorem bridge1_any (bl : List Int) (hL : Labels bl) (kb gs : Nat) (n xs xq : Nat) (hn : bl.length = n) (w : World) (h1 : Blk 3 w kb (bl.map (Value.int .i64))) (h2 : Blk 3 w gs ((cntL bl.length bl bl.length).map (Value.int .i64))) (hx : w.cell? ⟨xs, 0, none⟩ = some (.slice (some ⟨gs, 0, none⟩) n n)) (hq : w.cell? ⟨xq, 0, none⟩ = some (.slice (some ⟨kb, 0, none⟩) n n)) (p : Nat) (hp : p < n) (W : World) (hW : Below w.heap.size w W) :
    Calls Try.prog 34 #[.int .i64 (p : Int), .pointer (some ⟨xs, 0, none⟩), .pointer (some ⟨xq, 0, none⟩)] W fun e w' => e = .returned (.bool (bridgeB bl p)) ∧ Below W.heap.size W w' := by
  subst hn
  have c1 := cell_keepK hW hx
  have c2 := cell_keepK hW hq
  have hok := hL bl[p] (List.getElem_mem hp)
  obtain ⟨u, hu⟩ : ∃ u : Nat, bl[p] = (u : Int) := ⟨bl[p].toNat, by omega⟩
  have huN : u < bl.length := by omega
  have t0 : W.cell? ⟨kb, p, none⟩ = some (.int .i64 (u : Int)) := (h1.go hW).cell (by rw [List.getElem?_map, List.getElem?_eq_getElem hp, hu]; rfl)
  have t1 : W.cell? ⟨gs, u, none⟩ = some (.int .i64 ((bl.count (u : Int) : Nat) : Int)) := (h2.go hW).cell (by rw [List.getElem?_map, cntL_at huN, List.take_length]; rfl)
  have HE : Hid (bridgeB bl p = (((bl.count (u : Int) : Nat) : Int) == 1)) := by
    unfold Hid bridgeB
    rw [List.getD_eq_getElem?_getD, List.getElem?_eq_getElem hp, Option.getD_some, hu]
  have hpN : (p : Int) < (bl.length : Int) := by omega
  have huN' : (u : Int) < (bl.length : Int) := by omega
  clear h1 h2 hx hq hW hok hu hL
  generalize bl.length = n at *
  generalize ((bl.count (u : Int) : Nat) : Int) = cu at *
  go_enter Try.func34, Try.ntmps34
  go_wp2
  go_quiet (fail)
  have HB2 : Hid (Below W.heap.size W (W.drewN nq)) := below_drewN (Below.refl _ _) nq
  generalize W.drewN nq = wB at HB2 ⊢
  go_wp2
  go_ret
  rw [HE.out]
  exact ⟨rfl, HB2.out⟩
end Go.Proofs.Ytdadpfkoocpfaaa
