/-
  The walk of KuratowskiLonger.
-/
import Derived.Test.YtgjaikekpgdehaaXKSrc
import Derived.Test.YtgjaikekpgdehaaXKLonL
import Derived.Test.YtgjaikekpgdehaaQD
import Derived.Test.YtgjaikekpgdehaaXGHeldL
import Derived.Test.YtgjaikekpgdehaaXKRefMake
namespace Go.Proofs.Ytgjaikekpgdehaa
open Go Go.Proofs Go.RowKit

set_option maxRecDepth 100000 in
set_option maxHeartbeats 4000000 in
theorem longer_walk (n : Int) (l : List Ed) (a : List Int) (at' : Int) (sv av : Value) (w : World) (hl : Edges w.heap.size w sv l) (hA : Ints w.heap.size w av a) :
    Calls Try.prog 6 #[.agg #[.int .i64 n, sv], av, .int .i64 at'] w fun r w' => r = .returned (.bool true) ∧ Below w.heap.size w w' := by
  have hmix := mixed
  obtain ⟨p, q, rfl⟩ := hl.len
  obtain ⟨pa, ca, rfl⟩ := hA.len
  have hg1 : Grew w (w.alloc (.cells #[.int .i64 n, .slice p l.length q] 24)) := (Grew.refl w).alloc _
  have q0 := (box2 _ (Grew.refl (w.alloc (.cells #[.int .i64 n, .slice p l.length q] 24)))).1
  have q1 := (box2 _ (Grew.refl (w.alloc (.cells #[.int .i64 n, .slice p l.length q] 24)))).2
  have hlt := light_any n l 30 (by omega) (by omega) (.slice p l.length q) _ (hl.go hg1.below)
  cases hli : lightB n l 30 with
  | false =>
    rw [hli] at hlt
    go_enter Try.func6, Try.ntmps6
    go_wp2_with fail
    refine hlt.mono ?_
    rintro e w1 ⟨rfl, hg2⟩
    clear q0 q1
    have q0 := (box2 _ hg2).1
    have q1 := (box2 _ hg2).2
    have hB1 := (hg1.trans hg2).below
    clear hlt hg1 hg2
    go_wp2_with fail
    refine (alive_any _).mono ?_
    rintro e wD ⟨rfl, hbD⟩
    have HBD : Hid (Below w.heap.size w wD) := hB1.trans (hbD.mono hB1.size)
    clear hbD
    go_wp2
    go_ret
    exact ⟨rfl, HBD.out⟩
  | true =>
    rw [hli] at hlt
    obtain ⟨hli1, hli2⟩ := lightB_true hli
    by_cases h1 : (100 : Int) < (a.length : Int)
    · have h1d : decide ((100 : Int) < (a.length : Int)) = true := decide_eq_true h1
      go_enter Try.func6, Try.ntmps6
      go_wp2_with fail
      refine hlt.mono ?_
      rintro e w1 ⟨rfl, hg2⟩
      clear q0 q1
      have q0 := (box2 _ hg2).1
      have q1 := (box2 _ hg2).2
      have hB1 := (hg1.trans hg2).below
      clear hlt hg1 hg2
      go_wp2_with fail
      refine (alive_any _).mono ?_
      rintro e wD ⟨rfl, hbD⟩
      have HBD : Hid (Below w.heap.size w wD) := hB1.trans (hbD.mono hB1.size)
      clear hbD
      go_wp2
      go_ret
      exact ⟨rfl, HBD.out⟩
    · have h1d : decide ((100 : Int) < (a.length : Int)) = false := by simp; omega
      by_cases hm0 : at' < 0
      · have hm1 : decide (at' < 0) = true := decide_eq_true hm0
        clear hm0
        go_enter Try.func6, Try.ntmps6
        go_wp2_with fail
        refine hlt.mono ?_
        rintro e w1 ⟨rfl, hg2⟩
        clear q0 q1
        have q0 := (box2 _ hg2).1
        have q1 := (box2 _ hg2).2
        have hB1 := (hg1.trans hg2).below
        clear hlt hg1 hg2
        go_wp2_with fail
        refine (alive_any _).mono ?_
        rintro e wD ⟨rfl, hbD⟩
        have HBD : Hid (Below w.heap.size w wD) := hB1.trans (hbD.mono hB1.size)
        clear hbD
        go_wp2
        go_ret
        exact ⟨rfl, HBD.out⟩
      · have hm1 : decide (at' < 0) = false := decide_eq_false hm0
        by_cases hmL : (a.length : Int) ≤ at'
        · have hm2 : decide ((a.length : Int) ≤ at') = true := decide_eq_true hmL
          clear hm0 hmL
          go_enter Try.func6, Try.ntmps6
          go_wp2_with fail
          refine hlt.mono ?_
          rintro e w1 ⟨rfl, hg2⟩
          clear q0 q1
          have q0 := (box2 _ hg2).1
          have q1 := (box2 _ hg2).2
          have hB1 := (hg1.trans hg2).below
          clear hlt hg1 hg2
          go_wp2_with fail
          refine (alive_any _).mono ?_
          rintro e wD ⟨rfl, hbD⟩
          have HBD : Hid (Below w.heap.size w wD) := hB1.trans (hbD.mono hB1.size)
          clear hbD
          go_wp2
          go_ret
          exact ⟨rfl, HBD.out⟩
        · have hm2 : decide ((a.length : Int) ≤ at') = false := decide_eq_false hmL
          obtain ⟨i, rfl⟩ : ∃ i : Nat, at' = (i : Int) := ⟨at'.toNat, by omega⟩
          have hm3 : decide (a.length ≤ i) = false := by simp; omega
          have hi : i < a.length := by omega
          have HL : Hid (Edges w.heap.size w (.slice p l.length q) l) := hl
          have HA : Hid (Ints w.heap.size w (.slice pa a.length ca) a) := hA
          have HC : Hid (l.length ≤ 120 ∧ n ≤ 30 ∧ a.length ≤ 100) := ⟨by omega, by omega, by omega⟩
          have HI : Hid (i < a.length) := hi
          go_enter Try.func6, Try.ntmps6
          go_wp2_with fail
          refine hlt.mono ?_
          rintro e w1 ⟨rfl, hg2⟩
          clear q0 q1
          have q0 := (box2 _ hg2).1
          have q1 := (box2 _ hg2).2
          have hB1 := (hg1.trans hg2).below
          clear hlt hg1 hg2
          have hrt := refRight_any n l (.slice p l.length q) w1 (hl.go hB1)
          clear hl hA hm0 hmL h1 hli1 hli2 hi
          by_cases hr : rightK n l = 0
          · rw [hr] at hrt
            have HR : Hid (RightG n l) := right_iff.1 hr
            clear hr
            go_wp2_with fail
            refine hrt.mono ?_
            rintro e w2 ⟨rfl, hg2⟩
            have hB2 := hB1.trans (hg2.below.mono hB1.size)
            have q0 := cell_keep hg2.below q0
            have q1 := cell_keep hg2.below q1
            have hcl := class_any n l a (by have := HC.out; omega) (.slice p l.length q) (.slice pa a.length ca) w2 (Edges.go HL.out hB2) (Vals.go HA.out hB2)
            clear hrt hg2 hB1
            go_wp2_with fail
            refine hcl.mono ?_
            rintro e w3 ⟨rfl, hb3⟩
            have hB3 := hB2.trans (hb3.mono hB2.size)
            have q0 := cell_keep hb3 q0
            have q1 := cell_keep hb3 q1
            clear hcl hb3 hB2
            by_cases hk : clsK n l a = 0
            · rw [hk]
              have HK : Hid (clsK n l a = 0) := hk
              clear hk
              obtain ⟨hwz, -⟩ := cls_iff.1 HK.out
              obtain ⟨b, off, rfl, hbb, hcap, hcA⟩ := Vals.open HA.out HI.out
              have hxa := (wgtK_iff.1 hwz).2.1 a[i] (List.getElem_mem HI.out)
              obtain ⟨X, hX⟩ : ∃ X : Nat, a[i] = (X : Int) := ⟨a[i].toNat, by omega⟩
              have HXm : Hid ((X : Int) ∈ a) := by unfold Hid; rw [← hX]; exact List.getElem_mem HI.out
              rw [hX] at hxa
              have hXl : X < l.length := by omega
              have a0 : w3.cell? ⟨b, off + i, none⟩ = some (.int .i64 (X : Int)) := by rw [← hX]; exact hcA w3 hB3 i HI.out
              obtain ⟨be, oe, rfl, hbe, hcape, hcE, -⟩ := Edges.open HL.out hXl
              obtain ⟨c0, c1, c2⟩ := hcE w3 hB3 X hXl
              obtain ⟨e, he⟩ : ∃ e, l[X] = e := ⟨_, rfl⟩
              rw [he] at c0 c1 c2
              have HE : Hid (l[X]? = some e) := by unfold Hid; rw [← he]; exact List.getElem?_eq_getElem hXl
              have HXl : Hid (X < l.length) := hXl
              have HCA : Hid _ := hcA
              have HCE : Hid _ := hcE
              have HBB : Hid (b < w.heap.size ∧ be < w.heap.size) := ⟨hbb, hbe⟩
              have x1 : decide ((X : Int) < 0) = false := by simp
              have x2 : decide ((l.length : Int) ≤ (X : Int)) = false := by simp; omega
              have x3 : decide (l.length ≤ X) = false := by simp; omega
              have hiL : (i : Int) < (a.length : Int) := by have := HI.out; omega
              have hXL : (X : Int) < (l.length : Int) := by omega
              clear he
              clear hwz hxa hX hXl hcA hcE hbb hbe
              go_wp2
              go_quiet (fail)
              have hbQ : Below w3.heap.size w3 (w3.drewN nq) := below_drewN (Below.refl _ _) nq
              have hB4 := hB3.trans (hbQ.mono hB3.size)
              replace q0 := cell_keep hbQ q0
              replace q1 := cell_keep hbQ q1
              replace a0 := cell_keep hbQ a0
              replace c0 := cell_keep hbQ c0
              replace c1 := cell_keep hbQ c1
              replace c2 := cell_keep hbQ c2
              generalize w3.drewN nq = w4 at hB4 q0 q1 a0 c0 c1 c2 ⊢
              clear hbQ hB3
              go_wp2_with fail
              have hbd : Below w4.heap.size w4 w4.drew := below_drewN (Below.refl _ _) 1
              have hB5 := hB4.trans (hbd.mono hB4.size)
              replace q0 := cell_keep hbd q0
              refine wp_region_last (S := (fun w' : World => w'.cell? ⟨w.heap.size, 1, none⟩ = some (.slice (some ⟨be, oe, none⟩) l.length q) ∧ w'.cell? ⟨b, off + i, none⟩ = some (.int .i64 (X : Int)) ∧ w'.cell? ⟨be, oe + X * 3, none⟩ = some (.int .i64 e.1) ∧ w'.cell? ⟨be, oe + X * 3 + 1, none⟩ = some (.int .i64 e.2.1) ∧ w'.cell? ⟨be, oe + X * 3 + 2, none⟩ = some (.int .i64 e.2.2))) (by kernel_rfl) ?_ (fun hHeld => ?_)
              · exact ⟨cell_keep hbd q1, cell_keep hbd a0, cell_keep hbd c0, cell_keep hbd c1, cell_keep hbd c2⟩
              refine wpAnyL_take (i := 0) (v := ?_) rfl (by kernel_rfl) (by kernel_rfl) (by kernel_rfl) (by kernel_rfl) (fun _ _ _ h => h) (Or.inl ⟨by rfl, ?_⟩) (by assumption) ?_
              rotate_left
              · intro w hSw; (try dsimp only at hSw); go_simp; (try with_reducible rfl)
              try simp only [Act.put, List.setIfInBounds_toArray]
              refine wpAnyL_take (i := 1) (v := ?_) rfl (by kernel_rfl) (by kernel_rfl) (by kernel_rfl) (by kernel_rfl) (fun _ _ _ h => h) (Or.inl ⟨by rfl, ?_⟩) (by assumption) ?_
              rotate_left
              · intro w hSw; (try dsimp only at hSw); go_simp; (try with_reducible rfl)
              try simp only [Act.put]
              refine wpAnyL_take (i := 2) (v := ?_) rfl (by kernel_rfl) (by kernel_rfl) (by kernel_rfl) (by kernel_rfl) (fun _ _ _ h => h) (Or.inl ⟨by rfl, ?_⟩) (by assumption) ?_
              rotate_left
              · intro w hSw; (try dsimp only at hSw); go_simp; (try with_reducible rfl)
              try simp only [Act.put]
              refine wpAnyL_take (i := 3) (v := ?_) rfl (by kernel_rfl) (by kernel_rfl) (by kernel_rfl) (by kernel_rfl) (fun _ _ _ h => h) (Or.inl ⟨by rfl, ?_⟩) (by assumption) ?_
              rotate_left
              · intro w hSw; (try dsimp only at hSw); go_simp; (try with_reducible rfl)
              try simp only [Act.put]
              refine wpAnyL_take (i := 4) (v := ?_) rfl (by kernel_rfl) (by kernel_rfl) (by kernel_rfl) (by kernel_rfl) (fun _ _ _ h => h) (Or.inl ⟨by rfl, ?_⟩) (by assumption) ?_
              rotate_left
              · intro w hSw; (try dsimp only at hSw); go_simp; (try with_reducible rfl)
              try simp only [Act.put]
              try simp only [List.getElem_toArray, List.getElem_cons_zero, List.getElem_cons_succ, List.setIfInBounds_toArray, List.set_cons_zero, List.set_cons_succ]
              refine wpAnyL_take (i := 5) (v := ?_) rfl (by kernel_rfl) (by kernel_rfl) (by kernel_rfl) (by kernel_rfl) (fun _ _ _ h => h) (Or.inl ⟨by rfl, ?_⟩) (by assumption) ?_
              rotate_left
              · intro w hSw; (try dsimp only at hSw); go_simp; (try with_reducible rfl)
              try simp only [Act.put]
              refine wpAnyL_take (i := 6) (v := ?_) rfl (by kernel_rfl) (by kernel_rfl) (by kernel_rfl) (by kernel_rfl) (fun _ _ _ h => h) (Or.inl ⟨by rfl, ?_⟩) (by assumption) ?_
              rotate_left
              · intro w hSw; (try dsimp only at hSw); go_simp; (try with_reducible rfl)
              try simp only [Act.put]
              refine wpAnyL_take (i := 7) (v := ?_) rfl (by kernel_rfl) (by kernel_rfl) (by kernel_rfl) (by kernel_rfl) (fun _ _ _ h => h) (Or.inl ⟨by rfl, ?_⟩) (by assumption) ?_
              rotate_left
              · intro w hSw; (try dsimp only at hSw); go_simp; (try with_reducible rfl)
              try simp only [Act.put]
              try simp only [List.getElem_toArray, List.getElem_cons_zero, List.getElem_cons_succ, List.setIfInBounds_toArray, List.set_cons_zero, List.set_cons_succ]
              have q1 := hHeld.1
              clear a0 c0 c1 c2 hbd hB4
              generalize w4.drew = w5 at *
              have hbA : Below w5.heap.size w5 (w5.alloc (.cells #[.int .i64 0, .int .i64 0, .int .i64 0] 41)) := (Below.refl _ _).alloc (Nat.le_refl _) _
              have hBk : Blk 41 (w5.alloc (.cells #[.int .i64 0, .int .i64 0, .int .i64 0] 41)) w5.heap.size [.int .i64 0, .int .i64 0, .int .i64 0] := heap_alloc_new w5 _
              refine wpAnyL_ready (rs := [8]) (by kernel_rfl) (by simp) ?_
              refine AllReadyL.cons rfl (fun K hK => ?_) AllReadyL.nil
              go_simp
              refine hK.out _ _ ⟨cell_keep hbA hHeld.1, cell_keep hbA hHeld.2.1, cell_keep hbA hHeld.2.2.1, cell_keep hbA hHeld.2.2.2.1, cell_keep hbA hHeld.2.2.2.2⟩ (fun hHeld6 => ?_)
              clear hK K
              try simp only [Act.put, List.setIfInBounds_toArray, List.set_cons_zero, List.set_cons_succ]
              have hBs : Blk 41 (w5.alloc (.cells #[.int .i64 e.1, .int .i64 e.2.1, .int .i64 e.2.2] 41)) w5.heap.size [.int .i64 e.1, .int .i64 e.2.1, .int .i64 e.2.2] := heap_alloc_new w5 _
              have hb6 : Below w5.heap.size w5 (w5.alloc (.cells #[.int .i64 e.1, .int .i64 e.2.1, .int .i64 e.2.2] 41)) := (Below.refl _ _).alloc (Nat.le_refl _) _
              refine wpAnyL_ready (rs := [9]) (by kernel_rfl) (by simp) ?_
              refine AllReadyL.last rfl (by kernel_rfl) (fun K hK => ?_)
              go_simp
              refine hK.out _ _ ?_
              clear hK K
              try simp only [Act.put, List.setIfInBounds_toArray, List.set_cons_zero, List.set_cons_succ]
              refine wpAnyL_done (by kernel_rfl) ?_ _
              try simp only [List.getElem_toArray, List.getElem_cons_zero, List.getElem_cons_succ, List.setIfInBounds_toArray, List.set_cons_zero, List.set_cons_succ]
              replace q0 := cell_keep hb6 q0
              replace q1 := cell_keep hb6 q1
              have a6 := cell_keep hb6 hHeld.2.1
              have hB6 := hB5.trans (hb6.mono hB5.size)
              have hsz6 := hBs.lt
              have hlow5 := hB5.size
              have hw5 : w.heap.size < w5.heap.size := World.block_lt_of_cell? w5 ⟨w.heap.size, 1, none⟩ hHeld.1
              clear hHeld hHeld6 hbA hBk hb6 hB5
              generalize w5.alloc (.cells #[.int .i64 e.1, .int .i64 e.2.1, .int .i64 e.2.2] 41) = w6 at *
              generalize w5.heap.size = eb at *
              obtain ⟨i0, hi0, hz0, hz1, hz2⟩ := info_parts infoE
              have hL120 : l.length ≤ 120 := HC.out.1
              go_wp2
              go_loopw [10, 11] (fun s iv wr => ∃ j : Nat, j ≤ l.length ∧ iv = .int .i64 j ∧ wr.ownsRow (eb + 1) 41 3 s (keepL l (lonP a (X : Int)) j).length (flat (keepL l (lonP a (X : Int)) j)) ∧ Below (eb + 1) w6 wr) (fun _ iv _ => l.length - (intOf iv).toNat)
              case atStart => exact ⟨0, Nat.zero_le _, rfl, World.ownsRow_nil _ _ _ _, Below.refl _ _⟩
              case round =>
                obtain ⟨j, hj, rfl, hown, hb⟩ := hrel
                have r1 := (hb.cell (p := ⟨w.heap.size, 1, none⟩) (by simp only; omega)).trans q1
                have hBr := hB6.trans (hb.mono (by omega))
                have a0 : wr.cell? ⟨b, off + i, none⟩ = some (.int .i64 (X : Int)) := (hb.cell (p := ⟨b, off + i, none⟩) (by have := HBB.out; simp only; omega)).trans a6
                by_cases hlt : j < l.length
                · have hjl : (j : Int) < (l.length : Int) := by omega
                  by_cases hjx : j = X
                  · have hb' : ((j : Int) != (X : Int)) = false := by simp [hjx]
                    have HK' : Hid _ := keepL_out (l := l) (pred := lonP a (X : Int)) (j := j) (by unfold lonP; rw [decide_eq_true (by omega)]; rfl)
                    clear hjx
                    go_wp2
                    exact ⟨⟨j + 1, by omega, by go_num, by rw [HK'.out]; exact hown, hb⟩, by simp [intOf]; omega⟩
                  · have hb' : ((j : Int) != (X : Int)) = true := by simp; omega
                    have hxd : decide ((j : Int) = (X : Int)) = false := decide_eq_false (by omega)
                    have hhas := has_any a (by have := HC.out; omega) (j : Int) (.slice (some ⟨b, off, none⟩) a.length ca) _ wr (Vals.go HA.out hBr)
                    cases hin : inB a (j : Int) with
                    | false =>
                      rw [hin] at hhas
                      have HK' : Hid _ := keepL_out (l := l) (pred := lonP a (X : Int)) (j := j) (by unfold lonP; rw [hin, hxd]; rfl)
                      clear hin hxd hjx
                      go_wp2_with fail
                      refine hhas.mono ?_
                      rintro ev w7 ⟨rfl, rfl⟩
                      clear hhas
                      go_wp2
                      exact ⟨⟨j + 1, by omega, by go_num, by rw [HK'.out]; exact hown, hb⟩, by simp [intOf]; omega⟩
                    | true =>
                      rw [hin] at hhas
                      have HK' : Hid _ := keepL_in (l := l) (pred := lonP a (X : Int)) hlt (by unfold lonP; rw [hin, hxd]; rfl)
                      clear hin hxd hjx
                      obtain ⟨d0, d1, d2⟩ := HCE.out wr hBr j hlt
                      obtain ⟨ej, hej⟩ : ∃ ej, l[j] = ej := ⟨_, rfl⟩
                      rw [hej] at d0 d1 d2 HK'
                      have hklen := keepL_len l (lonP a (X : Int)) j
                      generalize keepL l (lonP a (X : Int)) j = R at *
                      obtain ⟨pp, cc, rfl⟩ := owns_form hown
                      have hown9 := hown.alloc (.cells #[.int .i64 ej.1, .int .i64 ej.2.1, .int .i64 ej.2.2] 41)
                      have hmx : R.length + 1 ≤ maxLen := by unfold maxLen; omega
                      have hby24 : (R.length + 1) * 24 ≤ 140737488355328 := by omega
                      have hwr : eb + 1 ≤ wr.heap.size := by have := hb.size; omega
                      have hbs : eb + 1 ≤ (wr.alloc (.cells #[.int .i64 ej.1, .int .i64 ej.2.1, .int .i64 ej.2.2] 41)).heap.size := by simp; omega
                      have hlow : ∀ k, (Value.slice pp R.length cc).ownBlock = some k → eb + 1 ≤ k := fun k h => (hown.lt k h).1
                      have hn3 := news3 (w := wr) (t := 41) ej
                      have ho3 := one3 ej
                      have HBx : Hid (Below (eb + 1) w6 (wr.alloc (.cells #[.int .i64 ej.1, .int .i64 ej.2.1, .int .i64 ej.2.2] 41))) := hb.alloc (by omega) _
                      have HJ : Hid (j < l.length) := hlt
                      clear hej hb hBr hklen
                      go_wp2_with fail
                      refine hhas.mono ?_
                      rintro ev w7 ⟨rfl, h7⟩
                      rw [h7]
                      clear hhas h7
                      go_wp2_with (at_builtin; refine wpList_append_own_at _ rfl _ _ 22 rfl (eb + 1) 41 i0 (.agg #[.int .i64 0, .int .i64 0, .int .i64 0]) 3 24 Try.underlying22 hi0 hz0 hz1 hz2 (by simp [Value.cells]) (by decide) (.slice pp R.length cc) _ _ rfl hown9 ⟨wr.heap.size, 0, none⟩ 1 1 (encE ej) rfl rfl hn3 ho3 hmx hby24 hbs ?_; intro v6 w8 hown6 hgrow6 hnil6 hat6; obtain ⟨p6, c6, rfl⟩ := owns_form hown6)
                      have hb8 : Below (eb + 1) w6 w8 := HBx.out.grown hgrow6 (by simp; omega) hlow
                      refine ⟨⟨j + 1, by have := HJ.out; omega, by go_num, ?_, hb8⟩, by have := HJ.out; simp [intOf]; omega⟩
                      rw [HK'.out, List.length_append, flat_snoc]
                      exact hown6
                · obtain rfl : j = l.length := by omega
                  have r0 := (hb.cell (p := ⟨w.heap.size, 0, none⟩) (by simp only; omega)).trans q0
                  have hBe := hBs.below hb (by omega)
                  have z0 := hBe.cell (j := 0) rfl
                  have z1 := hBe.cell (j := 1) rfl
                  have hklen := keepL_len l (lonP a (X : Int)) l.length
                  have HLL : Hid (keepL l (lonP a (X : Int)) l.length ++ [(e.1, n, 0), (e.2.1, n, 0)] = lonL n l a (X : Int) e) := rfl
                  have HLN : Hid _ := lonL_len n l a (X : Int) e
                  have HLG : Hid (∀ hm : makeK (n + 1) (lonL n l a (X : Int) e) = 0, _) := fun hm => longer HK.out HXm.out (by omega) (by simpa using HE.out) hm
                  have HML : Hid (makeK (n + 1) (lonL n l a (X : Int) e) = 0 → (makeL (n + 1) (lonL n l a (X : Int) e)).length = (lonL n l a (X : Int) e).length) := fun hm => by unfold makeL; rw [if_pos hm, srt_len, List.length_map]
                  generalize lonL n l a (X : Int) e = LL at *
                  generalize keepL l (lonP a (X : Int)) l.length = R at *
                  obtain ⟨pp, cc, rfl⟩ := owns_form hown
                  have hown9 := hown.alloc (.cells #[.int .i64 e.1, .int .i64 n, .int .i64 0, .int .i64 e.2.1, .int .i64 n, .int .i64 0] 41)
                  have hmx : R.length + 2 ≤ maxLen := by unfold maxLen; omega
                  have hby24 : (R.length + 2) * 24 ≤ 140737488355328 := by omega
                  have hwr : eb + 1 ≤ wr.heap.size := by have := hb.size; omega
                  have hbs : eb + 1 ≤ (wr.alloc (.cells #[.int .i64 e.1, .int .i64 n, .int .i64 0, .int .i64 e.2.1, .int .i64 n, .int .i64 0] 41)).heap.size := by simp; omega
                  have hlow : ∀ k, (Value.slice pp R.length cc).ownBlock = some k → eb + 1 ≤ k := fun k h => (hown.lt k h).1
                  have hn6 := blk_news wr [.int .i64 e.1, .int .i64 n, .int .i64 0, .int .i64 e.2.1, .int .i64 n, .int .i64 0] 41
                  have ho6 : ∀ u ∈ [Value.int .i64 e.1, .int .i64 n, .int .i64 0, .int .i64 e.2.1, .int .i64 n, .int .i64 0], u.oneCell' = true := by
                    intro u hu
                    simp only [List.mem_cons, List.not_mem_nil, or_false] at hu
                    rcases hu with rfl | rfl | rfl | rfl | rfl | rfl <;> rfl
                  have HBx : Hid (Below (eb + 1) w6 (wr.alloc (.cells #[.int .i64 e.1, .int .i64 n, .int .i64 0, .int .i64 e.2.1, .int .i64 n, .int .i64 0] 41))) := hb.alloc (by omega) _
                  have hn0 := HR.out.n0
                  have hn30 := HC.out.2.1
                  have hwn : IntKind.i64.wrap (n + 1) = n + 1 := wrap_i _ (by omega) (by omega)
                  clear hb hBr hklen hBe
                  go_wp2_with (at_builtin; refine wpList_append_own_at _ rfl _ _ 22 rfl (eb + 1) 41 i0 (.agg #[.int .i64 0, .int .i64 0, .int .i64 0]) 3 24 Try.underlying22 hi0 hz0 hz1 hz2 (by simp [Value.cells]) (by decide) (.slice pp R.length cc) _ _ rfl hown9 ⟨wr.heap.size, 0, none⟩ 2 2 [.int .i64 e.1, .int .i64 n, .int .i64 0, .int .i64 e.2.1, .int .i64 n, .int .i64 0] rfl rfl hn6 ho6 hmx hby24 hbs ?_; intro v6 w8 hown6 hgrow6 hnil6 hat6; obtain ⟨p6, c6, rfl⟩ := owns_form hown6; have hb8 : Below (eb + 1) w6 w8 := HBx.out.grown hgrow6 (by simp; omega) hlow; have r8 := (hb8.cell (p := ⟨w.heap.size, 0, none⟩) (by simp only; omega)).trans q0)
                  have hE8 : Edges w8.heap.size w8 (.slice p6 (R.length + 2) c6) LL := by
                    have : w8.ownsRow (eb + 1) 41 3 (.slice p6 (R.length + 2) c6) LL.length (flat LL) := by
                      have e1 : LL.length = R.length + 2 := by rw [← HLL.out]; simp
                      rw [e1, ← HLL.out]
                      have e2 : flat (R ++ [(e.1, n, 0), (e.2.1, n, 0)]) = flat R ++ [.int .i64 e.1, .int .i64 n, .int .i64 0, .int .i64 e.2.1, .int .i64 n, .int .i64 0] := by simp [flat, encE]
                      rw [e2]
                      exact hown6
                    exact Edges.of_owns this
                  have hB8 := hB6.trans (hb8.mono (by omega))
                  have hmk := refMake_any (n + 1) LL (by have := HLN.out; omega) _ w8 hE8
                  clear hown6 hgrow6 hnil6 hat6 HBx hlow hn6 ho6 hown9 hown hE8 hmx hby24 hbs r0 r1 z0 z1 hb8 HLL hwr
                  refine hmk.mono ?_
                  rintro ev w9 ⟨gv, rfl, hE9, hb9⟩
                  have hB9 := hB8.trans (hb9.mono hB8.size)
                  have hb10 : Below w9.heap.size w9 (w9.alloc (.cells #[.int .i64 (makeN (n + 1) LL), gv] 24)) := ((Grew.refl w9).alloc _).below
                  have hB10 := hB9.trans (hb10.mono hB9.size)
                  have hE10 := hE9.go hb10
                  have g0 := (box2 _ (Grew.refl (w9.alloc (.cells #[.int .i64 (makeN (n + 1) LL), gv] 24)))).1
                  have g1 := (box2 _ (Grew.refl (w9.alloc (.cells #[.int .i64 (makeN (n + 1) LL), gv] 24)))).2
                  obtain ⟨pg, cg, rfl⟩ := hE9.len
                  clear hmk hb9 hB8 hb10 hE9
                  by_cases hmz : makeK (n + 1) LL = 0
                  · rw [hmz]
                    obtain ⟨l1, l2, l3⟩ := HLG.out hmz
                    have hML : (makeL (n + 1) LL).length ≤ 122 := by have h1 := HML.out hmz; have h2 := HLN.out; omega
                    generalize makeL (n + 1) LL = M at *
                    generalize makeN (n + 1) LL = mN at *
                    have HE10 : Hid (Edges (w9.alloc (.cells #[.int .i64 mN, .slice pg M.length cg] 24)).heap.size (w9.alloc (.cells #[.int .i64 mN, .slice pg M.length cg] 24)) (.slice pg M.length cg) M) := hE10
                    clear hE10 HML HLG hmz
                    generalize hw10 : w9.alloc (.cells #[.int .i64 mN, .slice pg M.length cg] 24) = w10 at *
                    go_wp2_with fail
                    have hbd : Below w10.heap.size w10 w10.drew := below_drewN (Below.refl _ _) 1
                    have hB11 := hB10.trans (hbd.mono hB10.size)
                    have hE11 := Edges.go HE10.out hbd
                    generalize w9.heap.size = gb at *
                    refine wp_region_last (S := (fun w' : World => w'.cell? ⟨gb, 0, none⟩ = some (.int .i64 mN) ∧ w'.cell? ⟨gb, 1, none⟩ = some (.slice pg M.length cg))) (by kernel_rfl) ?_ (fun hHeld => ?_)
                    · exact ⟨cell_keep hbd g0, cell_keep hbd g1⟩
                    refine wpAnyL_take (i := 0) (v := ?_) rfl (by kernel_rfl) (by kernel_rfl) (by kernel_rfl) (by kernel_rfl) (fun _ _ _ h => h) (Or.inl ⟨by rfl, ?_⟩) (by assumption) ?_
                    rotate_left
                    · intro w hSw; (try dsimp only at hSw); go_simp; (try with_reducible rfl)
                    try simp only [Act.put, List.setIfInBounds_toArray]
                    refine wpAnyL_take (i := 1) (v := ?_) rfl (by kernel_rfl) (by kernel_rfl) (by kernel_rfl) (by kernel_rfl) (fun _ _ _ h => h) (Or.inl ⟨by rfl, ?_⟩) (by assumption) ?_
                    rotate_left
                    · intro w hSw; (try dsimp only at hSw); go_simp; (try with_reducible rfl)
                    try simp only [Act.put]
                    refine wpAnyL_take (i := 2) (v := ?_) rfl (by kernel_rfl) (by kernel_rfl) (by kernel_rfl) (by kernel_rfl) (fun _ _ _ h => h) (Or.inl ⟨by rfl, ?_⟩) (by assumption) ?_
                    rotate_left
                    · intro w hSw; (try dsimp only at hSw); go_simp; (try with_reducible rfl)
                    try simp only [Act.put]
                    refine wpAnyL_take (i := 3) (v := ?_) rfl (by kernel_rfl) (by kernel_rfl) (by kernel_rfl) (by kernel_rfl) (fun _ _ _ h => h) (Or.inl ⟨by rfl, ?_⟩) (by assumption) ?_
                    rotate_left
                    · intro w hSw; (try dsimp only at hSw); go_simp; (try with_reducible rfl)
                    try simp only [Act.put]
                    try simp only [List.getElem_toArray, List.getElem_cons_zero, List.getElem_cons_succ, List.setIfInBounds_toArray, List.set_cons_zero, List.set_cons_succ]
                    clear HE10 hbd g0 g1 hB10
                    generalize w10.drew = w11 at *
                    have hup := upto_any M.length (by omega) w11
                    refine wpAnyL_ready (rs := [4]) (by kernel_rfl) (by simp) ?_
                    refine AllReadyL.cons rfl (fun K hK => ?_) AllReadyL.nil
                    go_simp
                    refine hup.mono ?_
                    rintro ev w12 ⟨uv, rfl, hU, hb12⟩
                    refine hK.out _ _ ⟨cell_keep hb12 hHeld.1, cell_keep hb12 hHeld.2⟩ (fun hHeld12 => ?_)
                    clear hK K hup
                    try simp only [Act.put, List.setIfInBounds_toArray, List.set_cons_zero, List.set_cons_succ]
                    have hB12 := hB11.trans (hb12.mono hB11.size)
                    have hU2 : Ints w12.heap.size w12 uv (uptoL M.length) := owns_intsK (by rw [uptoL_len]; exact hU)
                    have hcl := class_any mN M (uptoL M.length) (by rw [uptoL_len]; omega) (.slice pg M.length cg) uv w12 (hE11.go hb12) hU2
                    obtain ⟨pu, cu, rfl⟩ := owns_form hU
                    rw [l1, l2] at hcl
                    clear hU hU2 hb12 hB11 hE11 hHeld
                    refine wpAnyL_ready (rs := [5]) (by kernel_rfl) (by simp) ?_
                    refine AllReadyL.cons rfl (fun K hK => ?_) AllReadyL.nil
                    go_simp
                    refine hcl.mono ?_
                    rintro ev w13 ⟨rfl, hb13⟩
                    refine hK.out _ _ ⟨cell_keep hb13 hHeld12.1, cell_keep hb13 hHeld12.2⟩ (fun hHeld13 => ?_)
                    clear hK K hcl
                    try simp only [Act.put, List.setIfInBounds_toArray, List.set_cons_zero, List.set_cons_succ]
                    have hB13 := hB12.trans (hb13.mono hB12.size)
                    clear hb13 hB12 hHeld12
                    refine wpAnyL_take (i := 6) (v := ?_) rfl (by kernel_rfl) (by kernel_rfl) (by kernel_rfl) (by kernel_rfl) (fun _ _ _ h => h) (Or.inl ⟨by rfl, ?_⟩) (by assumption) ?_
                    rotate_left
                    · intro w hSw; (try dsimp only at hSw); go_simp; (try with_reducible rfl)
                    try simp only [Act.put]
                    refine wpAnyL_take (i := 7) (v := ?_) rfl (by kernel_rfl) (by kernel_rfl) (by kernel_rfl) (by kernel_rfl) (fun _ _ _ h => h) (Or.inl ⟨by rfl, ?_⟩) (by assumption) ?_
                    rotate_left
                    · intro w hSw; (try dsimp only at hSw); go_simp; (try with_reducible rfl)
                    try simp only [Act.put]
                    refine wpAnyL_take (i := 8) (v := ?_) rfl (by kernel_rfl) (by kernel_rfl) (by kernel_rfl) (by kernel_rfl) (fun _ _ _ h => h) (Or.inl ⟨by rfl, ?_⟩) (by assumption) ?_
                    rotate_left
                    · intro w hSw; (try dsimp only at hSw); go_simp; (try with_reducible rfl)
                    try simp only [Act.put]
                    try simp only [List.getElem_toArray, List.getElem_cons_zero, List.getElem_cons_succ, List.setIfInBounds_toArray, List.set_cons_zero, List.set_cons_succ]
                    refine wpAnyL_ready (rs := [9]) (by kernel_rfl) (by simp) ?_
                    refine AllReadyL.cons rfl (fun K hK => ?_) AllReadyL.nil
                    go_simp
                    refine hK.out _ _ ?_ (fun hHeld => ?_)
                    · (try dsimp only); first | (go_keep; done) | ((repeat' apply And.intro) <;> go_simp)
                    clear hK K
                    try simp only [Act.put, List.setIfInBounds_toArray, List.set_cons_zero, List.set_cons_succ]
                    refine wpAnyL_ready (rs := [10]) (by kernel_rfl) (by simp) ?_
                    refine AllReadyL.cons rfl (fun K hK => ?_) AllReadyL.nil
                    go_simp
                    refine hK.out _ _ ?_ (fun hHeld => ?_)
                    · (try dsimp only); first | (go_keep; done) | ((repeat' apply And.intro) <;> go_simp)
                    clear hK K
                    try simp only [Act.put, List.setIfInBounds_toArray, List.set_cons_zero, List.set_cons_succ]
                    refine wpAnyL_done (by kernel_rfl) ?_ _
                    try simp only [List.getElem_toArray, List.getElem_cons_zero, List.getElem_cons_succ, List.setIfInBounds_toArray, List.set_cons_zero, List.set_cons_succ]
                    clear l1 l2
                    generalize clsV n l a = cv at *
                    rcases l3 with rfl | rfl
                    · go_wp2_with fail
                      refine (alive_any _).mono ?_
                      rintro ev wD ⟨rfl, hbD⟩
                      have HBD : Hid (Below w.heap.size w wD) := hB13.trans (hbD.mono hB13.size)
                      clear hbD
                      go_wp2
                      go_ret
                      exact ⟨rfl, HBD.out⟩
                    · go_wp2_with fail
                      refine (alive_any _).mono ?_
                      rintro ev wD ⟨rfl, hbD⟩
                      have HBD : Hid (Below w.heap.size w wD) := hB13.trans (hbD.mono hB13.size)
                      clear hbD
                      go_wp2
                      go_ret
                      exact ⟨rfl, HBD.out⟩
                  · have hmz' : (makeK (n + 1) LL != 0) = true := by simpa using hmz
                    clear hmz
                    generalize makeK (n + 1) LL = kk at *
                    go_wp2_with fail
                    refine (alive_any _).mono ?_
                    rintro ev wD ⟨rfl, hbD⟩
                    have HBD : Hid (Below w.heap.size w wD) := hB10.trans (hbD.mono hB10.size)
                    clear hbD
                    go_wp2
                    go_ret
                    exact ⟨rfl, HBD.out⟩
            · have hv := cls_bad hk
              have hk' : (clsK n l a != 0) = true := by simpa using hk
              rw [hv]
              clear hv hk
              generalize clsK n l a = kk at *
              go_wp2_with fail
              refine (alive_any _).mono ?_
              rintro e wD ⟨rfl, hbD⟩
              have HBD : Hid (Below w.heap.size w wD) := hB3.trans (hbD.mono hB3.size)
              clear hbD
              go_wp2
              go_ret
              exact ⟨rfl, HBD.out⟩
          · have hk' : (rightK n l != 0) = true := by simpa using hr
            clear hr
            generalize rightK n l = kk at *
            go_wp2_with fail
            refine hrt.mono ?_
            rintro e w2 ⟨rfl, hg2⟩
            have hB2 := hB1.trans (hg2.below.mono hB1.size)
            clear hrt hg2 hB1
            go_wp2_with fail
            refine (alive_any _).mono ?_
            rintro e wD ⟨rfl, hbD⟩
            have HBD : Hid (Below w.heap.size w wD) := hB2.trans (hbD.mono hB2.size)
            clear hbD
            go_wp2
            go_ret
            exact ⟨rfl, HBD.out⟩
end Go.Proofs.Ytgjaikekpgdehaa
