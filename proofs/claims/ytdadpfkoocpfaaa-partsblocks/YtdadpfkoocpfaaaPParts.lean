/-
  The contracts of parts.Components, Blocks, Cuts, Bridges, as the walk's model tells them.
-/
import Derived.Test.YtdadpfkoocpfaaaPThose
import Derived.Test.YtdadpfkoocpfaaaPTests
import Derived.Test.YtdadpfkoocpfaaaPWalked
namespace Go.Proofs.Ytdadpfkoocpfaaa
open Go Go.Proofs Go.RowKit

theorem OkW.step {N M C : Nat} {lk : List (List (Int × Int))} {s : WS} (h : OkW N M C lk s) (hK : LinksIn N M lk) (hne : s.path ≠ []) : OkW N M C lk (stepW lk s) ∧ pot lk N (stepW lk s) + 1 ≤ pot lk N s := by
  unfold stepW
  cases hl : s.path.getLast? with
  | none => exact absurd (List.getLast?_eq_none_iff.1 hl) hne
  | some top =>
    have hp := path_last hl
    simp only
    split
    · exact ⟨h.leave hp, leave_less hp⟩
    · rename_i hn
      have hle := h.nxt top (by rw [hp]; simp)
      have hlt : top.next < degW lk top.v := by unfold degW at hle ⊢; omega
      have hx := List.getElem?_eq_getElem (l := lk.getD top.v.toNat []) hlt
      have e : (lk.getD top.v.toNat []).getD top.next (0, 0) = (lk.getD top.v.toNat [])[top.next] := by rw [List.getD_eq_getElem?_getD, hx]; rfl
      obtain ⟨v, ev, hv, hsv⟩ := h.way top.v (by rw [hp]; simp)
      have evt : top.v.toNat = v := by rw [ev]; rfl
      obtain ⟨⟨u, eu, hu⟩, _⟩ := hK _ _ (List.getElem_mem hlt)
      rw [e]
      exact ⟨h.look hK hp hx, look_less hp hlt h.lenD (by rw [eu]; exact hu) (by unfold at_; rw [evt]; exact hsv)⟩
theorem OkW.run {N M C : Nat} {lk : List (List (Int × Int))} (hK : LinksIn N M lk) : ∀ (k : Nat) {s : WS}, OkW N M C lk s → pot lk N s ≤ k → OkW N M C lk (runW lk k s) ∧ (runW lk k s).path = []
  | 0, s, h, hk => by
    refine ⟨h, ?_⟩
    have := pot_way (lk := lk) (N := N) (s := s)
    exact List.length_eq_zero_iff.1 (by show s.path.length = 0; omega)
  | k + 1, s, h, hk => by
    rw [runW]
    by_cases hp : s.path = []
    · rw [step_stay hp, run_stay hp]
      exact ⟨h, hp⟩
    · obtain ⟨h1, h2⟩ := h.step hK hp
      exact OkW.run hK k h1 (by omega)
theorem OkW.start {N M C : Nat} {lk : List (List (Int × Int))} (hK : LinksIn N M lk) {s : WS} {r : Nat} (h : OkW N M C lk s) (hp : s.path = []) (hr : r < N) : OkW N M C lk (startW lk C s r) ∧ (startW lk C s r).path = [] := by
  unfold startW
  split
  · exact ⟨h, hp⟩
  · refine OkW.run hK C (h.root hp hr (by omega)) ?_
    have := pot_root h hp hr (by omega)
    have := h.bo
    omega
theorem walk_ok {N : Nat} {l : List Ed} (hR : RightG (N : Int) l) : ∀ k, k ≤ N → OkW N l.length (4 * (N + l.length) + 4) (linksL N l) ((List.range k).foldl (startW (linksL N l) (4 * (N + l.length) + 4)) (freshW N l.length)) ∧ ((List.range k).foldl (startW (linksL N l) (4 * (N + l.length) + 4)) (freshW N l.length)).path = []
  | 0, _ => ⟨OkW.fresh (unseen_le N l _), rfl⟩
  | k + 1, hk => by
    obtain ⟨h1, h2⟩ := walk_ok hR k (by omega)
    rw [List.range_succ, List.foldl_append]
    exact h1.start (links_in hR) h2 (by omega)
theorem walkW_ok {N : Nat} {l : List Ed} (hR : RightG (N : Int) l) : OkW N l.length (4 * (N + l.length) + 4) (linksL N l) (walkW N l) := (walk_ok hR N (Nat.le_refl _)).1
theorem owns_intsP {W : World} {base : Nat} {v : Value} {xs : List Int} (h : W.ownsRow base 3 1 v xs.length (xs.map (Value.int .i64))) : Ints W.heap.size W v xs := by
  rcases h.2 with ⟨h1, h2⟩ | ⟨g, cap, cur, h1, h2, h3, h4, h5, h6, h7⟩
  · exact .inl ⟨⟨_, _, h1⟩, List.length_eq_zero_iff.1 h2⟩
  · subst h1
    refine .inr ⟨g, 0, cap, rfl, (Array.getElem?_eq_some_iff.1 h3).1, h4, fun j x hx => ?_⟩
    have hj := (List.getElem?_eq_some_iff.1 hx).1
    rw [Nat.zero_add, h.cellAt j (by omega), List.getElem?_map, hx]
    rfl

set_option maxRecDepth 100000 in
set_option maxHeartbeats 4000000 in
theorem components_any (N : Nat) (l : List Ed) (hR : RightG (N : Int) l) (hLb : Labels (walkW N l).root) (hln : (walkW N l).root.length = N) (sv : Value) (w : World) (hl : Edges w.heap.size w sv l) :
    Calls Try.prog 11 #[.agg #[.int .i64 (N : Int), sv]] w fun r w' => ∃ lv svs h0, r = .returned lv ∧ Grp h0 lv svs (gath (walkW N l).root (walkW N l).root.length).2 w' ∧ Below w.heap.size w w' := by
  have hg1 : Grew w (w.alloc (.cells #[.int .i64 (N : Int), sv] 24)) := (Grew.refl w).alloc _
  have hl1 := hl.go hg1.below
  obtain ⟨p, c, rfl⟩ := hl.len
  have hrc := fun W h => right_any (N : Int) l (.slice p l.length c) W h
  rw [right_iff.2 hR] at hrc
  have hn1 := hR.n1
  have hm1 := hR.m1
  go_enter Try.func11, Try.ntmps11
  go_wp2_with fail
  refine (hrc _ hl1).mono ?_
  rintro e w2 ⟨rfl, hg2⟩
  have q0 := (box2 _ hg2).1
  have q1 := (box2 _ hg2).2
  have hbox := box2_lt hg2
  have hbw := (hg1.trans hg2).below
  clear hrc hl1
  go_wp2_with fail
  refine (walked_any N l hR _ _ (hl.go hbw)).mono ?_
  rintro e w3 ⟨a, lv, pv, ov, rfl, aN, aM, hLay, hW, hLK, hF, hh, hb3⟩
  have b := hW.blk.cell (j := 1) rfl
  have hI := hW.root.ints
  rw [hln] at hI
  rw [aN] at b
  have hga := fun W (hb : Below w3.heap.size w3 W) => gathered_any (walkW N l).root hLb (by rw [hln]; omega) _ W (hI.go hb)
  have hbw3 := hbw.trans (hb3.mono hbw.size)
  clear hW hLK hF hI
  go_wp2_with fail
  refine (hga _ (Below.refl _ _)).mono ?_
  rintro e w4 ⟨lv4, svs, h0, rfl, hG, hb4⟩
  have HG : Hid _ := hG
  have HB : Hid _ := hbw3.trans (hb4.mono hbw3.size)
  clear hG hb4 hga
  go_wp2
  go_ret
  exact ⟨lv4, svs, h0, rfl, HG.out, HB.out⟩

set_option maxRecDepth 100000 in
set_option maxHeartbeats 2000000 in
theorem components_bad (n : Int) (l : List Ed) (hR : rightK n l ≠ 0) (sv : Value) (w : World) (hl : Edges w.heap.size w sv l) :
    Calls Try.prog 11 #[.agg #[.int .i64 n, sv]] w fun r w' => r = .returned (.slice none 0 0) ∧ Below w.heap.size w w' := by
  have hg1 : Grew w (w.alloc (.cells #[.int .i64 n, sv] 24)) := (Grew.refl w).alloc _
  have hl1 := hl.go hg1.below
  obtain ⟨p, c, rfl⟩ := hl.len
  have hrc := fun W h => right_any n l (.slice p l.length c) W h
  go_enter Try.func11, Try.ntmps11
  go_wp2_with fail
  refine (hrc _ hl1).mono ?_
  rintro e w2 ⟨rfl, hg2⟩
  have hbw := (hg1.trans hg2).below
  clear hrc hl1
  generalize rightK n l = k at *
  go_wp2
  go_ret
  exact ⟨rfl, hbw⟩

set_option maxRecDepth 100000 in
set_option maxHeartbeats 4000000 in
theorem blocks_any (N : Nat) (l : List Ed) (hR : RightG (N : Int) l) (hLb : Labels (walkW N l).block) (hln : (walkW N l).block.length = l.length) (sv : Value) (w : World) (hl : Edges w.heap.size w sv l) :
    Calls Try.prog 19 #[.agg #[.int .i64 (N : Int), sv]] w fun r w' => ∃ lv svs h0, r = .returned lv ∧ Grp h0 lv svs (gath (walkW N l).block (walkW N l).block.length).2 w' ∧ Below w.heap.size w w' := by
  have hg1 : Grew w (w.alloc (.cells #[.int .i64 (N : Int), sv] 24)) := (Grew.refl w).alloc _
  have hl1 := hl.go hg1.below
  obtain ⟨p, c, rfl⟩ := hl.len
  have hrc := fun W h => right_any (N : Int) l (.slice p l.length c) W h
  rw [right_iff.2 hR] at hrc
  have hn1 := hR.n1
  have hm1 := hR.m1
  go_enter Try.func19, Try.ntmps19
  go_wp2_with fail
  refine (hrc _ hl1).mono ?_
  rintro e w2 ⟨rfl, hg2⟩
  have q0 := (box2 _ hg2).1
  have q1 := (box2 _ hg2).2
  have hbox := box2_lt hg2
  have hbw := (hg1.trans hg2).below
  clear hrc hl1
  go_wp2_with fail
  refine (walked_any N l hR _ _ (hl.go hbw)).mono ?_
  rintro e w3 ⟨a, lv, pv, ov, rfl, aN, aM, hLay, hW, hLK, hF, hh, hb3⟩
  have b := hW.blk.cell (j := 4) rfl
  have hI := hW.bls.ints
  rw [hln] at hI
  rw [aM] at b
  have hga := fun W (hb : Below w3.heap.size w3 W) => gathered_any (walkW N l).block hLb (by rw [hln]; omega) _ W (hI.go hb)
  have hbw3 := hbw.trans (hb3.mono hbw.size)
  clear hW hLK hF hI
  go_wp2_with fail
  refine (hga _ (Below.refl _ _)).mono ?_
  rintro e w4 ⟨lv4, svs, h0, rfl, hG, hb4⟩
  have HG : Hid _ := hG
  have HB : Hid _ := hbw3.trans (hb4.mono hbw3.size)
  clear hG hb4 hga
  go_wp2
  go_ret
  exact ⟨lv4, svs, h0, rfl, HG.out, HB.out⟩

set_option maxRecDepth 100000 in
set_option maxHeartbeats 2000000 in
theorem blocks_bad (n : Int) (l : List Ed) (hR : rightK n l ≠ 0) (sv : Value) (w : World) (hl : Edges w.heap.size w sv l) :
    Calls Try.prog 19 #[.agg #[.int .i64 n, sv]] w fun r w' => r = .returned (.slice none 0 0) ∧ Below w.heap.size w w' := by
  have hg1 : Grew w (w.alloc (.cells #[.int .i64 n, sv] 24)) := (Grew.refl w).alloc _
  have hl1 := hl.go hg1.below
  obtain ⟨p, c, rfl⟩ := hl.len
  have hrc := fun W h => right_any n l (.slice p l.length c) W h
  go_enter Try.func19, Try.ntmps19
  go_wp2_with fail
  refine (hrc _ hl1).mono ?_
  rintro e w2 ⟨rfl, hg2⟩
  have hbw := (hg1.trans hg2).below
  clear hrc hl1
  generalize rightK n l = k at *
  go_wp2
  go_ret
  exact ⟨rfl, hbw⟩

set_option maxRecDepth 100000 in
set_option maxHeartbeats 4000000 in
theorem cuts_any (N : Nat) (l : List Ed) (hR : RightG (N : Int) l) (sv : Value) (w : World) (hl : Edges w.heap.size w sv l) :
    Calls Try.prog 14 #[.agg #[.int .i64 (N : Int), sv]] w fun r w' => ∃ lv, r = .returned lv ∧ Ints w'.heap.size w' lv (thoseL (cutB (linksL N l) (walkW N l).block) N) ∧ Below w.heap.size w w' := by
  have hg1 : Grew w (w.alloc (.cells #[.int .i64 (N : Int), sv] 24)) := (Grew.refl w).alloc _
  have hl1 := hl.go hg1.below
  obtain ⟨p, c, rfl⟩ := hl.len
  have hrc := fun W h => right_any (N : Int) l (.slice p l.length c) W h
  rw [right_iff.2 hR] at hrc
  have hn1 := hR.n1
  have hm1 := hR.m1
  go_enter Try.func14, Try.ntmps14
  go_wp2_with fail
  refine (hrc _ hl1).mono ?_
  rintro e w2 ⟨rfl, hg2⟩
  have q0 := (box2 _ hg2).1
  have q1 := (box2 _ hg2).2
  have hbox := box2_lt hg2
  have hbw := (hg1.trans hg2).below
  clear hrc hl1
  go_wp2_with fail
  refine (walked_any N l hR _ _ (hl.go hbw)).mono ?_
  rintro e w3 ⟨a, lv, pv, ov, rfl, aN, aM, hLay, hW, hLK, hF, hh, hb3⟩
  have hbA : Below w3.heap.size w3 (w3.alloc (.cells #[.pointer (some ⟨a.wb, 0, none⟩)] 52)) := (Below.refl _ _).alloc (Nat.le_refl _) _
  have hok := walkW_ok hR
  have hth := those_cuts (.pointer (some ⟨w3.heap.size, 0, none⟩)) N (by omega) (cutB (linksL N l) (walkW N l).block) (w3.alloc (.cells #[.pointer (some ⟨a.wb, 0, none⟩)] 52)) (fun k W hk hb => cut1_any a lv pv ov (linksL N l) (walkW N l) (w3.alloc (.cells #[.pointer (some ⟨a.wb, 0, none⟩)] 52)) (hW.go hbA) (hLK.go (Wk.of_below hbA hh)) (by simp; omega) (by rw [aN, aM]; exact links_in hR) (links_short hR) (by rw [aM]; exact hok.lenK) w3.heap.size (new_cell rfl rfl) k (by rw [aN]; exact hk) W hb)
  have x0 := cell_keepK hbA (cell_keepK hb3 q0)
  have hbw3 := hbw.trans (hb3.mono hbw.size)
  have HB : Hid _ := hbw3.trans (hbA.mono hbw3.size)
  clear hW hLK hF hok
  go_wp2_with fail
  refine hth.mono ?_
  rintro e w4 ⟨lv4, rfl, hO, hb4⟩
  have HG : Hid _ := owns_intsP hO
  have HB4 : Hid _ := HB.out.trans (hb4.mono HB.out.size)
  clear hO hb4 hth
  go_wp2
  go_ret
  exact ⟨lv4, rfl, HG.out, HB4.out⟩

set_option maxRecDepth 100000 in
set_option maxHeartbeats 4000000 in
theorem bridges_any (N : Nat) (l : List Ed) (hR : RightG (N : Int) l) (hLb : Labels (walkW N l).block) (sv : Value) (w : World) (hl : Edges w.heap.size w sv l) :
    Calls Try.prog 15 #[.agg #[.int .i64 (N : Int), sv]] w fun r w' => ∃ lv, r = .returned lv ∧ Ints w'.heap.size w' lv (thoseL (bridgeB (walkW N l).block) l.length) ∧ Below w.heap.size w w' := by
  have hg1 : Grew w (w.alloc (.cells #[.int .i64 (N : Int), sv] 24)) := (Grew.refl w).alloc _
  have hl1 := hl.go hg1.below
  obtain ⟨p, c, rfl⟩ := hl.len
  have hrc := fun W h => right_any (N : Int) l (.slice p l.length c) W h
  rw [right_iff.2 hR] at hrc
  have hn1 := hR.n1
  have hm1 := hR.m1
  go_enter Try.func15, Try.ntmps15
  go_wp2_with fail
  refine (hrc _ hl1).mono ?_
  rintro e w2 ⟨rfl, hg2⟩
  have q0 := (box2 _ hg2).1
  have q1 := (box2 _ hg2).2
  have hbox := box2_lt hg2
  have hbw := (hg1.trans hg2).below
  clear hrc hl1
  go_wp2_with fail
  refine (walked_any N l hR _ _ (hl.go hbw)).mono ?_
  rintro e w3 ⟨a, lv, pv, ov, rfl, aN, aM, hLay, hW, hLK, hF, hh, hb3⟩
  have b := hW.blk.cell (j := 4) rfl
  rw [aM] at b
  have hok := (walkW_ok hR).lenK
  have hbA : Below w3.heap.size w3 (w3.alloc (.cells #[(.slice (some ⟨a.kb, 0, none⟩) l.length l.length)] 33)) := (Below.refl _ _).alloc (Nat.le_refl _) _
  have hWA := hW.go hbA
  have x1 := cell_keepK hbA (cell_keepK hb3 q1)
  have xc : (w3.alloc (.cells #[(.slice (some ⟨a.kb, 0, none⟩) l.length l.length)] 33)).cell? ⟨w3.heap.size, 0, none⟩ = some (.slice (some ⟨a.kb, 0, none⟩) l.length l.length) := new_cell rfl rfl
  have hIA := hWA.bls.ints
  rw [hok] at hIA
  have hct := counted_any (walkW N l).block hLb (by rw [hok]; omega) _ _ hIA
  have hbw3 := hbw.trans (hb3.mono hbw.size)
  have hbwA := hbw3.trans (hbA.mono hbw3.size)
  have hsA : (w3.alloc (.cells #[(.slice (some ⟨a.kb, 0, none⟩) l.length l.length)] 33)).heap.size = w3.heap.size + 1 := by simp
  have Hbls : Hid _ := hWA.bls
  have Hok : Hid _ := hok
  clear hW hLK hF hok hWA hIA
  go_wp2_with fail
  refine hct.mono ?_
  rintro e w4 ⟨gs, rfl, hS, hgs, hb4⟩
  rw [Hok.out]
  have xc4 := cell_keepK hb4 xc
  have x14 := cell_keepK hb4 x1
  have hbls4 : Blk 3 w4 a.kb _ := Blk.go Hbls.out hb4
  have hs4 := hb4.size
  rw [hsA] at hs4
  have hbw4 := hbwA.trans (hb4.mono hbwA.size)
  clear hct xc x1 hb4 hgs
  have hbB : Below w4.heap.size w4 (w4.alloc (.cells #[.slice (some ⟨gs, 0, none⟩) l.length l.length] 33)) := (Below.refl _ _).alloc (Nat.le_refl _) _
  have x15 := cell_keepK hbB x14
  have hth := those_bridges (.pointer (some ⟨w4.heap.size, 0, none⟩)) (.pointer (some ⟨w3.heap.size, 0, none⟩)) l.length (by omega) (bridgeB (walkW N l).block) (w4.alloc (.cells #[.slice (some ⟨gs, 0, none⟩) l.length l.length] 33)) (fun k W hk hb => bridge1_any (walkW N l).block hLb a.kb gs l.length w4.heap.size w3.heap.size Hok.out (w4.alloc (.cells #[.slice (some ⟨gs, 0, none⟩) l.length l.length] 33)) (hbls4.go hbB) (hS.go hbB) (new_cell rfl rfl) (cell_keepK hbB xc4) k hk W hb)
  have HB : Hid _ := hbw4.trans (hbB.mono hbw4.size)
  clear hS hbls4
  go_wp2_with fail
  refine hth.mono ?_
  rintro e w5 ⟨lv5, rfl, hO, hb5⟩
  have HG : Hid _ := owns_intsP hO
  have HB5 : Hid _ := HB.out.trans (hb5.mono HB.out.size)
  clear hO hb5 hth
  go_wp2
  go_ret
  exact ⟨lv5, rfl, HG.out, HB5.out⟩
end Go.Proofs.Ytdadpfkoocpfaaa
