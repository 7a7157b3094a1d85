/-
  Appending edges to a row that the call owns; the contract of graph.staying.
-/
import Derived.OwnWalk
import Derived.Maps.AppendAt
import Derived.Test.YtgjaikekpgdehaaQB
namespace Go.Proofs.Ytgjaikekpgdehaa
open Go Go.Proofs Go.RowKit

theorem below_keep {A B w : World} {n : Nat} (hb : Below A.heap.size A B) (h : Below n w A) (hn : n ≤ w.heap.size) : Below n w B := h.trans (hb.mono (Nat.le_trans hn h.size))
theorem cell_keep {A B : World} (hb : Below A.heap.size A B) {a : Addr} {v : Value} (h : A.cell? a = some v) : B.cell? a = some v := (hb.cell (World.block_lt_of_cell? A a h)).trans h
/-- The edges at those of the first j places that stay. -/
def keepL (l : List Ed) (pred : Nat → Bool) : Nat → List Ed
  | 0 => []
  | j + 1 => keepL l pred j ++ (if pred j = true then l[j]?.toList else [])
theorem keepL_in {l : List Ed} {pred : Nat → Bool} {j : Nat} (h : j < l.length) (hp : pred j = true) : keepL l pred (j + 1) = keepL l pred j ++ [l[j]] := by
  rw [keepL, if_pos hp, List.getElem?_eq_getElem h]; rfl
theorem keepL_out {l : List Ed} {pred : Nat → Bool} {j : Nat} (hp : pred j = false) : keepL l pred (j + 1) = keepL l pred j := by
  rw [keepL, hp]; simp
theorem keepL_len (l : List Ed) (pred : Nat → Bool) : ∀ j, (keepL l pred j).length ≤ j
  | 0 => Nat.le_refl _
  | j + 1 => by
    rw [keepL, List.length_append]
    have := keepL_len l pred j
    split
    · cases l[j]? <;> simp <;> omega
    · simp; omega

def stayN (n : Int) (l : List Ed) : Int := if rightK n l = 0 then n else 0
def stayL (n : Int) (l : List Ed) (pred : Nat → Bool) : List Ed := if rightK n l = 0 then keepL l pred l.length else []

set_option maxRecDepth 100000 in
set_option maxHeartbeats 2000000 in
theorem staying_any (n : Int) (l : List Ed) (pred : Nat → Bool) (f : Nat) (cb : Array Value) (sv : Value) (w : World) (hl : Edges w.heap.size w sv l)
    (eg : ∀ args w, (callFunc f args).run Try.prog w = .ok (.enter f args) w)
    (hp : rightK n l = 0 → ∀ W', Below w.heap.size w W' → ∀ i, i < l.length → Calls Try.prog f (#[.int .i64 (i : Int)] ++ cb) W' fun e w' => e = .returned (.bool (pred i)) ∧ Below W'.heap.size W' w') :
    Calls Try.prog 51 #[.agg #[.int .i64 n, sv], .func (.func f) #[] cb] w fun r w' => ∃ gv, r = .returned (.agg #[.int .i64 (stayN n l), gv]) ∧ Edges w'.heap.size w' gv (stayL n l pred) ∧ Above w.heap.size gv ∧ Below w.heap.size w w' := by
  have hg1 : Grew w ((w.alloc (.cells #[.int .i64 n, sv] 24)).alloc (.cells #[.int .i64 0, .slice none 0 0] 24)) := ((Grew.refl w).alloc _).alloc _
  have hl1 := hl.go hg1.below
  have hB1 : Blk 24 ((w.alloc (.cells #[.int .i64 n, sv] 24)).alloc (.cells #[.int .i64 0, .slice none 0 0] 24)) (w.heap.size + 1) [.int .i64 0, .slice none 0 0] := by
    have := heap_alloc_new (w.alloc (.cells #[.int .i64 n, sv] 24)) (.cells #[.int .i64 0, .slice none 0 0] 24)
    simpa [Blk] using this
  have hB0 : Blk 24 ((w.alloc (.cells #[.int .i64 n, sv] 24)).alloc (.cells #[.int .i64 0, .slice none 0 0] 24)) w.heap.size [.int .i64 n, sv] := by
    have h1 : Blk 24 (w.alloc (.cells #[.int .i64 n, sv] 24)) w.heap.size [.int .i64 n, sv] := heap_alloc_new w _
    exact h1.go (((Grew.refl _).alloc _).below)
  obtain ⟨p, c, rfl⟩ := hl.len
  obtain ⟨i0, hi, hz0, hz1, hz2⟩ := info_parts infoE
  have hrc := fun W h => right_any n l (.slice p l.length c) W h
  by_cases hr : rightK n l = 0
  · have hR := right_iff.1 hr
    have hm1 := hR.m1
    have HN : Hid (stayN n l = n) := if_pos hr
    have HL : Hid (stayL n l pred = keepL l pred l.length) := if_pos hr
    rw [hr] at hrc
    have HP : Hid _ := hp hr
    clear hr hp
    go_enter Try.func51, Try.ntmps51
    go_wp2_with fail
    refine (hrc _ hl1).mono ?_
    rintro e w2 ⟨rfl, hg2⟩
    have hC0 := hB0.go hg2.below
    have hC1 := hB1.go hg2.below
    have q0 := hC0.cell (j := 0) rfl
    have q1 := hC0.cell (j := 1) rfl
    have hbw := (hg1.trans hg2).below
    have hbx : w.heap.size + 2 ≤ w2.heap.size := by have := hC1.lt; omega
    clear hrc hl1 hB0 hB1 hg1 hg2
    go_wp2
    go_loopw [5, 15] (fun s i wr => ∃ j : Nat, j ≤ l.length ∧ i = .int .i64 j ∧ wr.ownsRow (w.heap.size + 2) 41 3 s (keepL l pred j).length (flat (keepL l pred j)) ∧ Below (w.heap.size + 2) w2 wr) (fun _ i _ => l.length - (intOf i).toNat)
    case atStart => exact ⟨0, Nat.zero_le _, rfl, owns_none _ _ _, Below.refl _ _⟩
    case round =>
      obtain ⟨j, hj, rfl, hown, hb⟩ := hrel
      have hbwr : Below w.heap.size w wr := hbw.trans (hb.mono (by omega))
      have hszr : w.heap.size + 2 ≤ wr.heap.size := by have := hb.size; omega
      by_cases hlt : j < l.length
      · obtain ⟨b, off, rfl, hbb, hcap, hc, -⟩ := hl.open hlt
        obtain ⟨c0, c1, c2⟩ := hc wr hbwr j hlt
        have hjl : (j : Int) < (l.length : Int) := by omega
        have hklen := keepL_len l pred j
        have hb7' : Below w.heap.size w (wr.alloc (.cells #[.int .i64 l[j].1, .int .i64 l[j].2.1, .int .i64 l[j].2.2] 41)) := hbwr.alloc (by omega) _
        have hcall := HP.out _ hb7' j hlt
        clear hc
        go_wp2_with fail
        refine hcall.mono ?_
        rintro e w7 ⟨rfl, hb7⟩
        have hown7 := owns_below (hown.alloc (.cells #[.int .i64 l[j].1, .int .i64 l[j].2.1, .int .i64 l[j].2.2] 41)) hb7
        have hbx7 : Below (w.heap.size + 2) w2 w7 := (hb.alloc (by omega) _).trans (hb7.mono (by simp; omega))
        have e0 : w7.cell? ⟨wr.heap.size, 0, none⟩ = some (.int .i64 l[j].1) := cell_keep hb7 (by simp)
        have e1 : w7.cell? ⟨wr.heap.size, 1, none⟩ = some (.int .i64 l[j].2.1) := cell_keep hb7 (by simp)
        have e2 : w7.cell? ⟨wr.heap.size, 2, none⟩ = some (.int .i64 l[j].2.2) := cell_keep hb7 (by simp)
        clear hcall hown hb7' hb7 c0 c1 c2
        cases hpj : pred j with
        | false =>
          have HK : Hid _ := keepL_out (l := l) hpj
          clear hpj
          go_wp2
          exact ⟨⟨j + 1, by omega, by go_num, by rw [HK.out]; exact hown7, hbx7⟩, by simp [intOf]; omega⟩
        | true =>
          have HK : Hid _ := keepL_in hlt hpj
          clear hpj
          have hown8 : (w7.alloc (.cells #[.int .i64 l[j].1, .int .i64 l[j].2.1, .int .i64 l[j].2.2] 41)).ownsRow (w.heap.size + 2) 41 3 u5 (keepL l pred j).length (flat (keepL l pred j)) := hown7.alloc _
          have hmx : (keepL l pred j).length + 1 ≤ maxLen := by unfold maxLen; omega
          have hby : ((keepL l pred j).length + 1) * 24 ≤ 140737488355328 := by omega
          have hbs : w.heap.size + 2 ≤ (w7.alloc (.cells #[.int .i64 l[j].1, .int .i64 l[j].2.1, .int .i64 l[j].2.2] 41)).heap.size := by have := hbx7.size; simp; omega
          have hlow : ∀ k, u5.ownBlock = some k → w.heap.size + 2 ≤ k := fun k e => (hown7.lt k e).1
          have hn3 := news3 (w := w7) (t := 41) l[j]
          have ho3 := one3 l[j]
          go_wp2_with (at_builtin; refine wpList_append_own_at _ rfl _ _ 22 rfl (w.heap.size + 2) 41 i0 (.agg #[.int .i64 0, .int .i64 0, .int .i64 0]) 3 24 Try.underlying22 hi hz0 hz1 hz2 (by simp [Value.cells]) (by decide) u5 _ _ rfl hown8 ⟨w7.heap.size, 0, none⟩ 1 1 (encE l[j]) rfl rfl hn3 ho3 hmx hby hbs ?_; intro v6 w6 hown6 hgrow6 hnil6 hat6)
          have hb6 : Below (w.heap.size + 2) w2 w6 := (hbx7.alloc (by have := hbx7.size; omega) _).grown hgrow6 hbs hlow
          refine ⟨⟨j + 1, by omega, by go_num, ?_, hb6⟩, by simp [intOf]; omega⟩
          rw [HK.out, flat_snoc, List.length_append]
          exact hown6
      · obtain rfl : j = l.length := by omega
        have hD1 := hC1.below hb (by omega)
        have f0 := hD1.frozen 0
        have f1 := hD1.frozen 1
        have d0 := hD1.cell (j := 0) rfl
        have d1 := hD1.cell (j := 1) rfl
        have e0 := (hb.cell (p := ⟨w.heap.size, 0, none⟩) (by show w.heap.size < _; omega)).trans q0
        have hEd := Edges.of_owns hown
        have hAb := Above.of_owns hown
        have hsv : ∃ pp cc, u5 = .slice pp (keepL l pred l.length).length cc := hEd.len
        obtain ⟨pp, cc, rfl⟩ := hsv
        clear hown
        go_wp2
        have hbf := (hD1.set 0 (.int .i64 n)).set 1 (.slice pp (keepL l pred l.length).length cc)
        (try simp only [Exit.inBlock, Exit.then])
        refine bodyPost_ret (ret_graph1 rfl (by rfl) (hbf.cell (j := 0) rfl) (hbf.cell (j := 1) rfl)) rfl ?_
        refine ⟨.slice pp (keepL l pred l.length).length cc, by rw [HN.out], ?_, fun a' len' c' h' h0' => Nat.le_trans (by omega) (hAb a' len' c' h' h0'), (hbwr.setCell (p := ⟨w.heap.size + 1, 0, none⟩) (by simp) _).setCell (p := ⟨w.heap.size + 1, 1, none⟩) (by simp) _⟩
        rw [HL.out]
        exact (hEd.setLow hAb (by simp) _).setLow hAb (by simp) _
  · have HN : Hid (stayN n l = 0) := if_neg hr
    have HL : Hid (stayL n l pred = []) := if_neg hr
    generalize rightK n l = k at hrc hr
    have hk : (k == 0) = false := by simpa using hr
    clear hr hp
    go_enter Try.func51, Try.ntmps51
    go_wp2_with fail
    refine (hrc _ hl1).mono ?_
    rintro e w2 ⟨rfl, hg2⟩
    have hD1 := hB1.go hg2.below
    have hbw := (hg1.trans hg2).below
    have f0 := hD1.frozen 0
    have f1 := hD1.frozen 1
    have d0 := hD1.cell (j := 0) rfl
    have d1 := hD1.cell (j := 1) rfl
    clear hrc
    go_wp2
    have hbf := (hD1.set 0 (.int .i64 0)).set 1 (.slice none 0 0)
    (try simp only [Exit.inBlock, Exit.then])
    refine bodyPost_ret (ret_graph1 rfl (by rfl) (hbf.cell (j := 0) rfl) (hbf.cell (j := 1) rfl)) rfl ?_
    exact ⟨.slice none 0 0, by rw [HN.out], by rw [HL.out]; exact Edges.nil _ _ _ _, (fun a' len' c' h' => by cases h'), (hbw.setCell (p := ⟨w.heap.size + 1, 0, none⟩) (by simp) _).setCell (p := ⟨w.heap.size + 1, 1, none⟩) (by simp) _⟩

end Go.Proofs.Ytgjaikekpgdehaa
