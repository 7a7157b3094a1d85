/-
  The contracts of graph.staying and graph.Only.
-/
import Derived.Laws.EntriesVeiled
import Derived.OwnWalk
import Derived.Maps.AppendAt
import Derived.Deep.RegionHeld3
import Derived.Test.YtdgecflljgnobaaZBV
import Derived.Test.YtdgecflljgnobaaZBN
namespace Go.Proofs.Ytdgecflljgnobaa
open Go Go.Proofs Go.RowKit

theorem cell_keepO {A B : World} (hb : Below A.heap.size A B) {a : Addr} {v : Value} (h : A.cell? a = some v) : B.cell? a = some v := (hb.cell (World.block_lt_of_cell? A a h)).trans h
theorem below_keepO {A B w : World} {n : Nat} (hb : Below A.heap.size A B) (h : Below n w A) (hn : n ≤ w.heap.size) : Below n w B := h.trans (hb.mono (Nat.le_trans hn h.size))
def stayN (n : Int) (l : List Ed) : Int := if rightK n l = 0 then n else 0
def stayL (n : Int) (l : List Ed) (pred : Nat → Bool) : List Ed := if rightK n l = 0 then keepL l pred l.length else []

set_option maxRecDepth 100000 in
set_option maxHeartbeats 2000000 in
theorem staying_any (n : Int) (l : List Ed) (pred : Nat → Bool) (f : Nat) (cb : Array Value) (sv : Value) (w : World) (hl : Edges w.heap.size w sv l)
    (eg : ∀ args w, (callFunc f args).run Try.prog w = .ok (.enter f args) w)
    (hp : rightK n l = 0 → ∀ W', Below w.heap.size w W' → ∀ i, i < l.length → Calls Try.prog f (#[.int .i64 (i : Int)] ++ cb) W' fun e w' => e = .returned (.bool (pred i)) ∧ Below W'.heap.size W' w') :
    Calls Try.prog 40 #[.agg #[.int .i64 n, sv], .func (.func f) #[] cb] w fun r w' => ∃ gv, r = .returned (.agg #[.int .i64 (stayN n l), gv]) ∧ Edges w'.heap.size w' gv (stayL n l pred) ∧ Above w.heap.size gv ∧ Below w.heap.size w w' := by
  have hg1 : Grew w ((w.alloc (.cells #[.int .i64 n, sv] 24)).alloc (.cells #[.int .i64 0, .slice none 0 0] 24)) := ((Grew.refl w).alloc _).alloc _
  have hl1 := hl.go hg1.below
  have hB1 : Blk 24 ((w.alloc (.cells #[.int .i64 n, sv] 24)).alloc (.cells #[.int .i64 0, .slice none 0 0] 24)) (w.heap.size + 1) [.int .i64 0, .slice none 0 0] := by
    have := heap_alloc_new (w.alloc (.cells #[.int .i64 n, sv] 24)) (.cells #[.int .i64 0, .slice none 0 0] 24)
    simpa [Blk] using this
  have hB0 : Blk 24 ((w.alloc (.cells #[.int .i64 n, sv] 24)).alloc (.cells #[.int .i64 0, .slice none 0 0] 24)) w.heap.size [.int .i64 n, sv] := by
    have h1 : Blk 24 (w.alloc (.cells #[.int .i64 n, sv] 24)) w.heap.size [.int .i64 n, sv] := heap_alloc_new w _
    exact h1.go (((Grew.refl _).alloc _).below)
  obtain ⟨p, c, rfl⟩ := hl.len
  obtain ⟨i0, hi, hz0, hz1, hz2⟩ := info_parts infoE
  have hrc := fun W h => right_any n l (.slice p l.length c) W h
  by_cases hr : rightK n l = 0
  · have hR := right_iff.1 hr
    have hm1 := hR.m1
    have HN : Hid (stayN n l = n) := if_pos hr
    have HL : Hid (stayL n l pred = keepL l pred l.length) := if_pos hr
    rw [hr] at hrc
    have HP : Hid _ := hp hr
    clear hr hp
    go_enter Try.func40, Try.ntmps40
    go_wp2_with fail
    refine (hrc _ hl1).mono ?_
    rintro e w2 ⟨rfl, hg2⟩
    have hC0 := hB0.go hg2.below
    have hC1 := hB1.go hg2.below
    have q0 := hC0.cell (j := 0) rfl
    have q1 := hC0.cell (j := 1) rfl
    have hbw := (hg1.trans hg2).below
    have hbx : w.heap.size + 2 ≤ w2.heap.size := by have := hC1.lt; omega
    clear hrc hl1 hB0 hB1 hg1 hg2
    go_wp2
    go_loopw [5, 15] (fun s i wr => ∃ j : Nat, j ≤ l.length ∧ i = .int .i64 j ∧ wr.ownsRow (w.heap.size + 2) 47 3 s (keepL l pred j).length (flat (keepL l pred j)) ∧ Below (w.heap.size + 2) w2 wr) (fun _ i _ => l.length - (intOf i).toNat)
    case atStart => exact ⟨0, Nat.zero_le _, rfl, owns_none _ _ _, Below.refl _ _⟩
    case round =>
      obtain ⟨j, hj, rfl, hown, hb⟩ := hrel
      have hbwr : Below w.heap.size w wr := hbw.trans (hb.mono (by omega))
      have hszr : w.heap.size + 2 ≤ wr.heap.size := by have := hb.size; omega
      by_cases hlt : j < l.length
      · obtain ⟨b, off, rfl, hbb, hcap, hc, -⟩ := hl.open hlt
        obtain ⟨c0, c1, c2⟩ := hc wr hbwr j hlt
        have hjl : (j : Int) < (l.length : Int) := by omega
        have hklen := keepL_len l pred j
        have hb7' : Below w.heap.size w (wr.alloc (.cells #[.int .i64 l[j].1, .int .i64 l[j].2.1, .int .i64 l[j].2.2] 47)) := hbwr.alloc (by omega) _
        have hcall := HP.out _ hb7' j hlt
        clear hc
        go_wp2_with fail
        refine hcall.mono ?_
        rintro e w7 ⟨rfl, hb7⟩
        have hown7 := owns_below (hown.alloc (.cells #[.int .i64 l[j].1, .int .i64 l[j].2.1, .int .i64 l[j].2.2] 47)) hb7
        have hbx7 : Below (w.heap.size + 2) w2 w7 := (hb.alloc (by omega) _).trans (hb7.mono (by simp; omega))
        have e0 : w7.cell? ⟨wr.heap.size, 0, none⟩ = some (.int .i64 l[j].1) := cell_keepO hb7 (by simp)
        have e1 : w7.cell? ⟨wr.heap.size, 1, none⟩ = some (.int .i64 l[j].2.1) := cell_keepO hb7 (by simp)
        have e2 : w7.cell? ⟨wr.heap.size, 2, none⟩ = some (.int .i64 l[j].2.2) := cell_keepO hb7 (by simp)
        clear hcall hown hb7' hb7 c0 c1 c2
        cases hpj : pred j with
        | false =>
          have HK : Hid _ := keepL_out (l := l) hpj
          clear hpj
          go_wp2
          exact ⟨⟨j + 1, by omega, by go_num, by rw [HK.out]; exact hown7, hbx7⟩, by simp [intOf]; omega⟩
        | true =>
          have HK : Hid _ := keepL_in hlt hpj
          clear hpj
          have hown8 : (w7.alloc (.cells #[.int .i64 l[j].1, .int .i64 l[j].2.1, .int .i64 l[j].2.2] 47)).ownsRow (w.heap.size + 2) 47 3 u5 (keepL l pred j).length (flat (keepL l pred j)) := hown7.alloc _
          have hmx : (keepL l pred j).length + 1 ≤ maxLen := by unfold maxLen; omega
          have hby : ((keepL l pred j).length + 1) * 24 ≤ 140737488355328 := by omega
          have hbs : w.heap.size + 2 ≤ (w7.alloc (.cells #[.int .i64 l[j].1, .int .i64 l[j].2.1, .int .i64 l[j].2.2] 47)).heap.size := by have := hbx7.size; simp; omega
          have hlow : ∀ k, u5.ownBlock = some k → w.heap.size + 2 ≤ k := fun k e => (hown7.lt k e).1
          have hn3 := news3 (w := w7) (t := 47) l[j]
          have ho3 := one3 l[j]
          go_wp2_with (at_builtin; refine wpList_append_own_at _ rfl _ _ 22 rfl (w.heap.size + 2) 47 i0 (.agg #[.int .i64 0, .int .i64 0, .int .i64 0]) 3 24 Try.underlying22 hi hz0 hz1 hz2 (by simp [Value.cells]) (by decide) u5 _ _ rfl hown8 ⟨w7.heap.size, 0, none⟩ 1 1 (encE l[j]) rfl rfl hn3 ho3 hmx hby hbs ?_; intro v6 w6 hown6 hgrow6 hnil6 hat6)
          have hb6 : Below (w.heap.size + 2) w2 w6 := (hbx7.alloc (by have := hbx7.size; omega) _).grown hgrow6 hbs hlow
          refine ⟨⟨j + 1, by omega, by go_num, ?_, hb6⟩, by simp [intOf]; omega⟩
          rw [HK.out, flat_snoc, List.length_append]
          exact hown6
      · obtain rfl : j = l.length := by omega
        have hD1 := hC1.below hb (by omega)
        have f0 := hD1.frozen 0
        have f1 := hD1.frozen 1
        have d0 := hD1.cell (j := 0) rfl
        have d1 := hD1.cell (j := 1) rfl
        have e0 := (hb.cell (p := ⟨w.heap.size, 0, none⟩) (by show w.heap.size < _; omega)).trans q0
        have hEd := Edges.of_owns hown
        have hAb := Above.of_owns hown
        have hsv : ∃ pp cc, u5 = .slice pp (keepL l pred l.length).length cc := hEd.len
        obtain ⟨pp, cc, rfl⟩ := hsv
        clear hown
        go_wp2
        have hbf := (hD1.set 0 (.int .i64 n)).set 1 (.slice pp (keepL l pred l.length).length cc)
        (try simp only [Exit.inBlock, Exit.then])
        refine bodyPost_ret (ret_graph1 rfl (by rfl) (hbf.cell (j := 0) rfl) (hbf.cell (j := 1) rfl)) rfl ?_
        refine ⟨.slice pp (keepL l pred l.length).length cc, by rw [HN.out], ?_, fun a' len' c' h' h0' => Nat.le_trans (by omega) (hAb a' len' c' h' h0'), (hbwr.setCell (p := ⟨w.heap.size + 1, 0, none⟩) (by simp) _).setCell (p := ⟨w.heap.size + 1, 1, none⟩) (by simp) _⟩
        rw [HL.out]
        exact (hEd.setLow hAb (by simp) _).setLow hAb (by simp) _
  · have HN : Hid (stayN n l = 0) := if_neg hr
    have HL : Hid (stayL n l pred = []) := if_neg hr
    generalize rightK n l = k at hrc hr
    have hk : (k == 0) = false := by simpa using hr
    clear hr hp
    go_enter Try.func40, Try.ntmps40
    go_wp2_with fail
    refine (hrc _ hl1).mono ?_
    rintro e w2 ⟨rfl, hg2⟩
    have hD1 := hB1.go hg2.below
    have hbw := (hg1.trans hg2).below
    have f0 := hD1.frozen 0
    have f1 := hD1.frozen 1
    have d0 := hD1.cell (j := 0) rfl
    have d1 := hD1.cell (j := 1) rfl
    clear hrc
    go_wp2
    have hbf := (hD1.set 0 (.int .i64 0)).set 1 (.slice none 0 0)
    (try simp only [Exit.inBlock, Exit.then])
    refine bodyPost_ret (ret_graph1 rfl (by rfl) (hbf.cell (j := 0) rfl) (hbf.cell (j := 1) rfl)) rfl ?_
    exact ⟨.slice none 0 0, by rw [HN.out], by rw [HL.out]; exact Edges.nil _ _ _ _, (fun a' len' c' h' => by cases h'), (hbw.setCell (p := ⟨w.heap.size + 1, 0, none⟩) (by simp) _).setCell (p := ⟨w.heap.size + 1, 1, none⟩) (by simp) _⟩

set_option maxRecDepth 100000 in
theorem only1_any (kp : List Bool) (v : Int) (hv : 0 ≤ v) (k : Nat) (sk : Value) (m : Nat) (W : World) (hK : Bools m W sk kp) (hk : W.cell? ⟨k, 0, none⟩ = some sk) :
    Calls Try.prog 39 #[.int .i64 v, .pointer (some ⟨k, 0, none⟩)] W fun e w' => e = .returned (.bool (keptB kp v)) ∧ w' = W := by
  obtain ⟨p, c, rfl⟩ := hK.len
  by_cases hlt : v < (kp.length : Int)
  · obtain ⟨x, rfl⟩ : ∃ x : Nat, v = (x : Int) := ⟨v.toNat, by omega⟩
    have hx : x < kp.length := by omega
    obtain ⟨b, off, rfl, hbb, hcap, hc⟩ := hK.open hx
    have c0 := hc W (Below.refl _ _) x hx
    have HE : Hid (keptB kp (x : Int) = kp[x]) := by simp [Hid, keptB, hx]
    clear hc
    go_enter Try.func39, Try.ntmps39
    go_wp2
    go_ret
    exact ⟨by rw [HE.out]; rfl, rfl⟩
  · have hd : decide (v < (kp.length : Int)) = false := by simpa using hlt
    have HE : Hid (keptB kp v = false) := by unfold Hid keptB; rw [hd]; rfl
    go_enter Try.func39, Try.ntmps39
    go_wp2
    go_ret
    exact ⟨by rw [HE.out]; rfl, rfl⟩

set_option maxRecDepth 100000 in
set_option maxHeartbeats 1000000 in
theorem only2_any (n : Int) (l : List Ed) (hR : RightG n l) (kp : List Bool) (i : Nat) (hi : i < l.length) (k5 k3 k2 : Nat) (sk sv : Value) (W : World) (hl : Edges W.heap.size W sv l) (hK : Bools W.heap.size W sk kp)
    (h5 : W.cell? ⟨k5, 0, none⟩ = some (.func (.func 39) #[] #[.pointer (some ⟨k3, 0, none⟩)])) (h3 : W.cell? ⟨k3, 0, none⟩ = some sk) (h2 : W.cell? ⟨k2, 1, none⟩ = some sv) :
    Calls Try.prog 41 #[.int .i64 (i : Int), .pointer (some ⟨k5, 0, none⟩), .pointer (some ⟨k2, 0, none⟩)] W fun e w' => e = .returned (.bool (onlyP l kp i)) ∧ Below W.heap.size W w' := by
  have eg : ∀ args w, (callFunc 39 args).run Try.prog w = .ok (.enter 39 args) w := enters_of Try.func39 (by kernel_rfl) rfl
  have hmix := mixed
  obtain ⟨p, c, rfl⟩ := hl.len
  obtain ⟨b, off, rfl, hbb, hcap, hc, -⟩ := hl.open hi
  obtain ⟨c0, c1, c2⟩ := hc W (Below.refl _ _) i hi
  have hil : (i : Int) < (l.length : Int) := by omega
  have hi0 : (0 : Int) ≤ (i : Int) := by omega
  have hok := (hR.each l[i] (List.getElem_mem hi)).1
  have hu : 0 ≤ l[i].1 := hok.1
  have hv : 0 ≤ l[i].2.1 := hok.2.2.1
  have e41 : ∀ (x : Int), 0 ≤ x → ∀ W', W'.heap = W.heap → Calls Try.prog 39 #[.int .i64 x, .pointer (some ⟨k3, 0, none⟩)] W' fun e w' => e = .returned (.bool (keptB kp x)) ∧ w' = W' := fun x hx W' hW => by
    have hb : Below W.heap.size W W' ∨ True := .inr trivial
    refine only1_any kp x hx k3 sk W.heap.size W' ?_ ?_
    · rcases hK with h | ⟨b', off', cap', g1, g2, g3, g4⟩
      · exact .inl h
      · exact .inr ⟨b', off', cap', g1, g2, g3, fun j y hy => by rw [← g4 j y hy]; simp only [World.cell?, hW]⟩
    · rw [← h3]; simp only [World.cell?, hW]
  have HE : Hid _ := onlyP_at (kp := kp) hi
  have eU := e41 l[i].1 hu
  have eV := e41 l[i].2.1 hv
  rw [HE.out]
  generalize keptB kp l[i].2.1 = kv at eV
  clear HE e41 hc
  cases hku : keptB kp l[i].1 with
  | true =>
    rw [hku] at eU
    go_enter Try.func41, Try.ntmps41
    go_wp2
    go_region_held3 (fun w' => w'.cell? ⟨k5, 0, none⟩ = some (.func (.func 39) #[] #[.pointer (some ⟨k3, 0, none⟩)]) ∧ w'.cell? ⟨k2, 1, none⟩ = some (.slice (some ⟨b, off, none⟩) l.length c) ∧ w'.cell? ⟨b, off + i * 3, none⟩ = some (.int .i64 l[i].1) ∧ w'.cell? ⟨b, off + i * 3 + 1, none⟩ = some (.int .i64 l[i].2.1) ∧ w'.heap = W.heap) (((try go_split_ands); refine ⟨?_, ?_, ?_, ?_, ?_⟩ <;> first | assumption | (simp only [World.cell?_drew]; assumption) | rfl)) (first | (go_at_call 39; first | (with_reducible (refine (eU _ (by first | rfl | (go_split_ands; assumption))).mono ?_); rintro e w2 ⟨rfl, rfl⟩) | (with_reducible (refine (eV _ (by first | rfl | (go_split_ands; assumption))).mono ?_); rintro e w2 ⟨rfl, rfl⟩)))
    go_split_ands
    go_wp2
    go_ret
    exact ⟨by simp, below_drewN (Below.refl _ _) 1⟩
  | false =>
    rw [hku] at eU
    go_enter Try.func41, Try.ntmps41
    go_wp2
    go_quiet ((go_at_call 39; exact Calls.quiet_of_same (eU _ rfl)))
    go_wp2
    go_ret
    exact ⟨by simp, below_drewN (Below.refl _ _) nq⟩

set_option maxRecDepth 100000 in
set_option maxHeartbeats 2000000 in
theorem only_any (n : Int) (l : List Ed) (kp : List Bool) (sv sk : Value) (w : World) (hl : Edges w.heap.size w sv l) (hK : Bools w.heap.size w sk kp) :
    Calls Try.prog 29 #[.agg #[.int .i64 n, sv], sk] w fun r w' => ∃ gv, r = .returned (.agg #[.int .i64 (stayN n l), gv]) ∧ Edges w'.heap.size w' gv (stayL n l (onlyP l kp)) ∧ Below w.heap.size w w' := by
  have eg : ∀ args w, (callFunc 41 args).run Try.prog w = .ok (.enter 41 args) w := enters_of Try.func41 (by kernel_rfl) rfl
  obtain ⟨p, c, rfl⟩ := hl.len
  obtain ⟨pk, ck, rfl⟩ := hK.len
  have hg1 : Grew w ((((w.alloc (.cells #[.int .i64 n, .slice p l.length c] 24)).alloc (.cells #[.slice pk kp.length ck] 35)).alloc (.cells #[.int .i64 0, .slice none 0 0] 24)).alloc (.cells #[.func (.func 39) #[] #[.pointer (some ⟨w.heap.size + 1, 0, none⟩)]] 64)) := ((((Grew.refl w).alloc _).alloc _).alloc _).alloc _
  have hB0 : Blk 24 ((((w.alloc (.cells #[.int .i64 n, .slice p l.length c] 24)).alloc (.cells #[.slice pk kp.length ck] 35)).alloc (.cells #[.int .i64 0, .slice none 0 0] 24)).alloc (.cells #[.func (.func 39) #[] #[.pointer (some ⟨w.heap.size + 1, 0, none⟩)]] 64)) w.heap.size [.int .i64 n, .slice p l.length c] := by
    have h1 : Blk 24 (w.alloc (.cells #[.int .i64 n, .slice p l.length c] 24)) w.heap.size [.int .i64 n, .slice p l.length c] := heap_alloc_new w _
    exact h1.go (((((Grew.refl _).alloc _).alloc _).alloc _).below)
  have hB1 : Blk 35 ((((w.alloc (.cells #[.int .i64 n, .slice p l.length c] 24)).alloc (.cells #[.slice pk kp.length ck] 35)).alloc (.cells #[.int .i64 0, .slice none 0 0] 24)).alloc (.cells #[.func (.func 39) #[] #[.pointer (some ⟨w.heap.size + 1, 0, none⟩)]] 64)) (w.heap.size + 1) [.slice pk kp.length ck] := by
    have h1 : Blk 35 ((w.alloc (.cells #[.int .i64 n, .slice p l.length c] 24)).alloc (.cells #[.slice pk kp.length ck] 35)) (w.heap.size + 1) [.slice pk kp.length ck] := by
      have := heap_alloc_new (w.alloc (.cells #[.int .i64 n, .slice p l.length c] 24)) (.cells #[.slice pk kp.length ck] 35)
      simpa [Blk] using this
    exact h1.go ((((Grew.refl _).alloc _).alloc _).below)
  have hB2 : Blk 24 ((((w.alloc (.cells #[.int .i64 n, .slice p l.length c] 24)).alloc (.cells #[.slice pk kp.length ck] 35)).alloc (.cells #[.int .i64 0, .slice none 0 0] 24)).alloc (.cells #[.func (.func 39) #[] #[.pointer (some ⟨w.heap.size + 1, 0, none⟩)]] 64)) (w.heap.size + 1 + 1) [.int .i64 0, .slice none 0 0] := by
    have h1 : Blk 24 (((w.alloc (.cells #[.int .i64 n, .slice p l.length c] 24)).alloc (.cells #[.slice pk kp.length ck] 35)).alloc (.cells #[.int .i64 0, .slice none 0 0] 24)) (w.heap.size + 1 + 1) [.int .i64 0, .slice none 0 0] := by
      have := heap_alloc_new ((w.alloc (.cells #[.int .i64 n, .slice p l.length c] 24)).alloc (.cells #[.slice pk kp.length ck] 35)) (.cells #[.int .i64 0, .slice none 0 0] 24)
      simpa [Blk] using this
    exact h1.go (((Grew.refl _).alloc _).below)
  have hB3 : Blk 64 ((((w.alloc (.cells #[.int .i64 n, .slice p l.length c] 24)).alloc (.cells #[.slice pk kp.length ck] 35)).alloc (.cells #[.int .i64 0, .slice none 0 0] 24)).alloc (.cells #[.func (.func 39) #[] #[.pointer (some ⟨w.heap.size + 1, 0, none⟩)]] 64)) (w.heap.size + 1 + 1 + 1) [.func (.func 39) #[] #[.pointer (some ⟨w.heap.size + 1, 0, none⟩)]] := by
    have := heap_alloc_new (((w.alloc (.cells #[.int .i64 n, .slice p l.length c] 24)).alloc (.cells #[.slice pk kp.length ck] 35)).alloc (.cells #[.int .i64 0, .slice none 0 0] 24)) (.cells #[.func (.func 39) #[] #[.pointer (some ⟨w.heap.size + 1, 0, none⟩)]] 64)
    simpa [Blk] using this
  have hl1 := hl.go hg1.below
  have hK1 := hK.go hg1.below
  have hst := staying_any n l (onlyP l kp) 41 #[.pointer (some ⟨w.heap.size + 1 + 1 + 1, 0, none⟩), .pointer (some ⟨w.heap.size, 0, none⟩)] _ _ hl1 eg (fun hr W' hW i hi =>
    only2_any n l (right_iff.1 hr) kp i hi (w.heap.size + 1 + 1 + 1) (w.heap.size + 1) w.heap.size _ _ W' (hl1.go hW) (hK1.go hW) ((hB3.go hW).cell (j := 0) rfl) ((hB1.go hW).cell (j := 0) rfl) ((hB0.go hW).cell (j := 1) rfl))
  go_enter Try.func29, Try.ntmps29
  go_wp2_with fail
  refine hst.mono ?_
  rintro e w9 ⟨gv, rfl, hgE, hgA, hb9⟩
  have hF1 := hB2.go hb9
  have f0 := hF1.frozen 0
  have f1 := hF1.frozen 1
  have x0 := hF1.cell (j := 0) rfl
  have x1 := hF1.cell (j := 1) rfl
  have hbf' := below_keepO hb9 hg1.below (Nat.le_refl _)
  have hsz := hB2.lt
  obtain ⟨pp, cc, rfl⟩ := hgE.len
  clear hst
  go_wp2
  have hbf := (hF1.set 0 (.int .i64 (stayN n l))).set 1 (.slice pp (stayL n l (onlyP l kp)).length cc)
  (try simp only [Exit.inBlock, Exit.then])
  refine bodyPost_ret (ret_graph1 rfl (by rfl) (hbf.cell (j := 0) rfl) (hbf.cell (j := 1) rfl)) rfl ?_
  refine ⟨.slice pp (stayL n l (onlyP l kp)).length cc, rfl, ?_, (hbf'.setCell (p := ⟨w.heap.size + 1 + 1, 0, none⟩) (by simp; omega) _).setCell (p := ⟨w.heap.size + 1 + 1, 1, none⟩) (by simp; omega) _⟩
  exact (hgE.setLow hgA hsz _).setLow hgA hsz _

end Go.Proofs.Ytdgecflljgnobaa
