/-
  The contract of the reference's Only (over a dump without graph's own Only).
-/
import Derived.Deep.AppendLies
import Derived.OwnWalk
import Derived.Maps.AppendAt
import Derived.Test.YtdgecflljgnobaaZBN
import Derived.Test.YtdgecflljgnobaaXPLight
import Derived.Test.YtdgecflljgnobaaZBV
namespace Go.Proofs.Ytdgecflljgnobaa
open Go Go.Proofs Go.RowKit

/-- A slice's block is none of those below n. -/
theorem kept_cases {kp : List Bool} {v : Int} (hv : 0 ≤ v) : ((kp.length : Int) ≤ v ∧ keptB kp v = false) ∨ ∃ (x : Nat) (hx : x < kp.length), v = (x : Int) ∧ keptB kp v = kp[x] := by
  by_cases h : v < (kp.length : Int)
  · right
    refine ⟨v.toNat, by omega, by omega, ?_⟩
    have h2 : v.toNat < kp.length := by omega
    simp [keptB, h, h2]
  · left
    have hd : decide (v < (kp.length : Int)) = false := by simpa using h
    exact ⟨by omega, by unfold keptB; rw [hd]; rfl⟩

set_option maxRecDepth 100000 in
set_option maxHeartbeats 2000000 in
theorem refOnly_at (n : Int) (l : List Ed) (hR : RightG n l) (kp : List Bool) (sv sk : Value) (w : World) (hl : Edges w.heap.size w sv l) (hK : Bools w.heap.size w sk kp) :
    Calls Try.prog 31 #[.agg #[.int .i64 n, sv], sk] w fun r w' => ∃ gv, r = .returned (.agg #[.int .i64 n, gv]) ∧ Edges w'.heap.size w' gv (keepL l (onlyP l kp) l.length) ∧ Above w.heap.size gv ∧ Below w.heap.size w w' := by
  obtain ⟨p, c, rfl⟩ := hl.len
  obtain ⟨pk, ck, rfl⟩ := hK.len
  obtain ⟨i0, hi, hz0, hz1, hz2⟩ := info_parts infoE
  have hm1 := hR.m1
  have hg1 : Grew w (((w.alloc (.cells #[.int .i64 n, .slice p l.length c] 24)).alloc (.cells #[.int .i64 0, .slice none 0 0] 24)).alloc (.cells #[.int .i64 n, .slice none 0 0] 24)) := (((Grew.refl w).alloc _).alloc _).alloc _
  have hB0 : Blk 24 (((w.alloc (.cells #[.int .i64 n, .slice p l.length c] 24)).alloc (.cells #[.int .i64 0, .slice none 0 0] 24)).alloc (.cells #[.int .i64 n, .slice none 0 0] 24)) w.heap.size [.int .i64 n, .slice p l.length c] := by
    have h1 : Blk 24 (w.alloc (.cells #[.int .i64 n, .slice p l.length c] 24)) w.heap.size [.int .i64 n, .slice p l.length c] := heap_alloc_new w _
    exact h1.go ((((Grew.refl _).alloc _).alloc _).below)
  have hB1 : Blk 24 (((w.alloc (.cells #[.int .i64 n, .slice p l.length c] 24)).alloc (.cells #[.int .i64 0, .slice none 0 0] 24)).alloc (.cells #[.int .i64 n, .slice none 0 0] 24)) (w.heap.size + 1) [.int .i64 0, .slice none 0 0] := by
    have h1 : Blk 24 ((w.alloc (.cells #[.int .i64 n, .slice p l.length c] 24)).alloc (.cells #[.int .i64 0, .slice none 0 0] 24)) (w.heap.size + 1) [.int .i64 0, .slice none 0 0] := by
      have := heap_alloc_new (w.alloc (.cells #[.int .i64 n, .slice p l.length c] 24)) (.cells #[.int .i64 0, .slice none 0 0] 24)
      simpa [Blk] using this
    exact h1.go (((Grew.refl _).alloc _).below)
  have hB2 : Blk 24 (((w.alloc (.cells #[.int .i64 n, .slice p l.length c] 24)).alloc (.cells #[.int .i64 0, .slice none 0 0] 24)).alloc (.cells #[.int .i64 n, .slice none 0 0] 24)) (w.heap.size + 1 + 1) [.int .i64 n, .slice none 0 0] := by
    have := heap_alloc_new ((w.alloc (.cells #[.int .i64 n, .slice p l.length c] 24)).alloc (.cells #[.int .i64 0, .slice none 0 0] 24)) (.cells #[.int .i64 n, .slice none 0 0] 24)
    simpa [Blk] using this
  go_enter Try.func31, Try.ntmps31
  go_wp2
  have hsz := hB2.lt
  generalize ((w.alloc (.cells #[.int .i64 n, .slice p l.length c] 24)).alloc (.cells #[.int .i64 0, .slice none 0 0] 24)).alloc (.cells #[.int .i64 n, .slice none 0 0] 24) = w1 at hg1 hB0 hB1 hB2 hsz ⊢
  go_loopw [6] (fun i wr => ∃ (j : Nat) (s : Value), j ≤ l.length ∧ i = .int .i64 j ∧ Blk 24 wr (w.heap.size + 1 + 1) [.int .i64 n, s] ∧ wr.ownsRow (w.heap.size + 3) 47 3 s (keepL l (onlyP l kp) j).length (flat (keepL l (onlyP l kp) j)) ∧ Below (w.heap.size + 2) w1 wr) (fun i _ => l.length - (intOf i).toNat)
  case atStart => exact ⟨0, _, Nat.zero_le _, rfl, hB2, owns_none _ _ _, Below.refl _ _⟩
  case round =>
    obtain ⟨j, s, hj, rfl, hO, hown, hb⟩ := hrel
    have hbwr : Below w.heap.size w wr := hg1.below.trans (hb.mono (by omega))
    have hE0 := hB0.below hb (by omega)
    have hE1 := hB1.below hb (by omega)
    have hOl := hO.lt
    have d1 := hE0.cell (j := 1) rfl
    by_cases hlt : j < l.length
    · obtain ⟨b, off, rfl, hbb, hcap, hc, -⟩ := hl.open hlt
      obtain ⟨c0, c1, c2⟩ := hc wr hbwr j hlt
      have hjl : (j : Int) < (l.length : Int) := by omega
      have hok := (hR.each l[j] (List.getElem_mem hlt)).1
      have hu : 0 ≤ l[j].1 := hok.1
      have hv : 0 ≤ l[j].2.1 := hok.2.2.1
      have hpj := onlyP_at (kp := kp) hlt
      have HP : Hid _ := hpj
      have HIN : onlyP l kp j = true → Hid (keepL l (onlyP l kp) (j + 1) = keepL l (onlyP l kp) j ++ [l[j]]) := fun h => keepL_in hlt h
      have HI : Hid _ := HIN
      clear hc hok hpj HIN
      generalize l[j] = e at c0 c1 c2 hu hv HP HI
      obtain ⟨y1, y2, y3⟩ := e
      simp only at c0 c1 c2 hu hv HP
      have hO8 := hO.go ((Grew.refl wr).alloc (.cells #[.int .i64 y1, .int .i64 y2, .int .i64 y3] 47)).below
      have hown8 := hown.alloc (.cells #[.int .i64 y1, .int .i64 y2, .int .i64 y3] 47)
      have hb8 : Below (w.heap.size + 2) w1 (wr.alloc (.cells #[.int .i64 y1, .int .i64 y2, .int .i64 y3] 47)) := hb.alloc (by omega) _
      have hbk : ∀ x (hx : x < kp.length), ∃ bk offk, pk = some ⟨bk, offk, none⟩ ∧ bk < w.heap.size ∧ kp.length ≤ ck ∧ ∀ i (hi : i < kp.length), wr.cell? ⟨bk, offk + i, none⟩ = some (.bool kp[i]) := fun x hx => by
        obtain ⟨bk, offk, h1, h2, h3, h4⟩ := hK.open hx
        exact ⟨bk, offk, h1, h2, h3, fun i hi => h4 wr hbwr i hi⟩
      rcases kept_cases (kp := kp) hu with ⟨hge, hf⟩ | ⟨x, hx, rfl, hkx⟩
      · have hd : decide (y1 < (kp.length : Int)) = false := by simpa using hge
        have HK : Hid _ := keepL_out (l := l) (pred := onlyP l kp) (j := j) (by rw [HP.out]; rw [hf]; rfl)
        clear HP
        go_wp2
        exact ⟨⟨j + 1, s, by omega, by go_num, hO8, by rw [HK.out]; exact hown8, hb8⟩, by simp [intOf]; omega⟩
      · obtain ⟨bk, offk, rfl, hbkl, hckl, hcells⟩ := hbk x hx
        have e1 := hcells x hx
        have hbkr : bk < wr.heap.size := by omega
        have hxl : (x : Int) < (kp.length : Int) := by omega
        cases hbx : kp[x] with
        | false =>
          rw [hbx] at e1 hkx
          clear hcells hbx hbk
          have HK : Hid _ := keepL_out (l := l) (pred := onlyP l kp) (j := j) (by rw [HP.out]; rw [hkx]; rfl)
          clear HP
          go_wp2
          exact ⟨⟨j + 1, s, by omega, by go_num, hO8, by rw [HK.out]; exact hown8, hb8⟩, by simp [intOf]; omega⟩
        | true =>
          rw [hbx] at e1 hkx
          rcases kept_cases (kp := kp) hv with ⟨hge, hf⟩ | ⟨y, hy, rfl, hky⟩
          · have hd : decide (y2 < (kp.length : Int)) = false := by simpa using hge
            clear hcells hbx hbk
            have HK : Hid _ := keepL_out (l := l) (pred := onlyP l kp) (j := j) (by rw [HP.out]; rw [hf, Bool.and_false])
            clear HP
            go_wp2
            exact ⟨⟨j + 1, s, by omega, by go_num, hO8, by rw [HK.out]; exact hown8, hb8⟩, by simp [intOf]; omega⟩
          · have e2 := hcells y hy
            have hyl : (y : Int) < (kp.length : Int) := by omega
            cases hby : kp[y] with
            | false =>
              rw [hby] at e2 hky
              clear hcells hbx hbk hby
              have HK : Hid _ := keepL_out (l := l) (pred := onlyP l kp) (j := j) (by rw [HP.out]; rw [hky, Bool.and_false])
              clear HP
              go_wp2
              exact ⟨⟨j + 1, s, by omega, by go_num, hO8, by rw [HK.out]; exact hown8, hb8⟩, by simp [intOf]; omega⟩
            | true =>
              rw [hby] at e2 hky
              have HK : Hid _ := HI.out (by rw [HP.out, hkx, hky]; rfl)
              obtain ⟨pp, cc, rfl⟩ : ∃ pp cc, s = .slice pp (keepL l (onlyP l kp) j).length cc := (Edges.of_owns hown).len
              have k1 := hO8.cell (j := 1) rfl
              have f1 := hO8.frozen 1
              have hklen := keepL_len l (onlyP l kp) j
              have hown9 := hown8.alloc (.cells #[.int .i64 (x : Int), .int .i64 (y : Int), .int .i64 y3] 47)
              have hmx : (keepL l (onlyP l kp) j).length + 1 ≤ maxLen := by unfold maxLen; omega
              have hby24 : ((keepL l (onlyP l kp) j).length + 1) * 24 ≤ 140737488355328 := by omega
              have hbs : w.heap.size + 3 ≤ ((wr.alloc (.cells #[.int .i64 (x : Int), .int .i64 (y : Int), .int .i64 y3] 47)).alloc (.cells #[.int .i64 (x : Int), .int .i64 (y : Int), .int .i64 y3] 47)).heap.size := by simp; omega
              have hlow : ∀ k, (Value.slice pp (keepL l (onlyP l kp) j).length cc).ownBlock = some k → w.heap.size + 3 ≤ k := fun k e => (hown8.lt k e).1
              have hn3 := news3 (w := wr.alloc (.cells #[.int .i64 (x : Int), .int .i64 (y : Int), .int .i64 y3] 47)) (t := 47) ((x : Int), (y : Int), y3)
              have ho3 := one3 ((x : Int), (y : Int), y3)
              have hsz8 : (wr.alloc (.cells #[.int .i64 (x : Int), .int .i64 (y : Int), .int .i64 y3] 47)).heap.size = wr.heap.size + 1 := by simp
              rw [hsz8] at hn3
              have hO9 := hO8.go ((Grew.refl _).alloc (.cells #[.int .i64 (x : Int), .int .i64 (y : Int), .int .i64 y3] 47)).below
              have hne9 : some (w.heap.size + 1 + 1) ≠ (Value.slice pp (keepL l (onlyP l kp) j).length cc).ownBlock := fun e => by have := hlow _ e.symm; omega
              clear hcells hbx hbk hby HP hsz8
              go_wp2_with (at_builtin; refine wpList_append_own_at _ rfl _ _ 22 rfl (w.heap.size + 3) 47 i0 (.agg #[.int .i64 0, .int .i64 0, .int .i64 0]) 3 24 Try.underlying22 hi hz0 hz1 hz2 (by simp [Value.cells]) (by decide) (.slice pp (keepL l (onlyP l kp) j).length cc) _ _ rfl hown9 ⟨wr.heap.size + 1, 0, none⟩ 1 1 (encE ((x : Int), (y : Int), y3)) rfl rfl hn3 ho3 hmx hby24 hbs ?_; intro v6 w6 hown6 hgrow6 hnil6 hat6; obtain ⟨p6, c6, rfl⟩ := owns_form hown6; have hO6 := hO9.grown hgrow6 hne9; have k6 := hO6.cell (j := 1) rfl; have f6 := hO6.frozen 1)
              have hb6 : Below (w.heap.size + 2) w1 w6 := (hb8.alloc (by simp; omega) _).grown hgrow6 (by simp; omega) (fun k e => by have := hlow k e; omega)
              refine ⟨⟨j + 1, _, by omega, by go_num, hO6.set 1 _, ?_, hb6.setCell (p := ⟨w.heap.size + 1 + 1, 1, none⟩) (by simp) _⟩, by simp [intOf]; omega⟩
              rw [HK.out, flat_snoc, List.length_append]
              exact owns_set hown6 (by simp) _
    · obtain rfl : j = l.length := by omega
      have hEd := Edges.of_owns hown
      have hAb := Above.of_owns hown
      obtain ⟨pp, cc, rfl⟩ := hEd.len
      have k0 := hO.cell (j := 0) rfl
      have k1 := hO.cell (j := 1) rfl
      have f0 := hE1.frozen 0
      have f1 := hE1.frozen 1
      have x0 := hE1.cell (j := 0) rfl
      have x1 := hE1.cell (j := 1) rfl
      go_wp2
      have hbf := (hE1.set 0 (.int .i64 n)).set 1 (.slice pp (keepL l (onlyP l kp) l.length).length cc)
      (try simp only [Exit.inBlock, Exit.then])
      refine bodyPost_ret (ret_graph1 rfl (by rfl) (hbf.cell (j := 0) rfl) (hbf.cell (j := 1) rfl)) rfl ?_
      refine ⟨.slice pp (keepL l (onlyP l kp) l.length).length cc, rfl, ?_, fun a len c h1 h2 => Nat.le_trans (by omega) (hAb a len c h1 h2), (hbwr.setCell (p := ⟨w.heap.size + 1, 0, none⟩) (by simp) _).setCell (p := ⟨w.heap.size + 1, 1, none⟩) (by simp) _⟩
      exact (hEd.setLow hAb (by simp) _).setLow hAb (by simp) _
theorem refOnly_any (n : Int) (l : List Ed) (hR : RightG n l) (kp : List Bool) (sv sk : Value) (w : World) (hl : Edges w.heap.size w sv l) (hK : Bools w.heap.size w sk kp) :
    Calls Try.prog 31 #[.agg #[.int .i64 n, sv], sk] w fun r w' => ∃ gv, r = .returned (.agg #[.int .i64 n, gv]) ∧ Edges w'.heap.size w' gv (keepL l (onlyP l kp) l.length) ∧ Below w.heap.size w w' :=
  (refOnly_at n l hR kp sv sk w hl hK).mono fun _ _ ⟨gv, h1, h2, _, h3⟩ => ⟨gv, h1, h2, h3⟩
end Go.Proofs.Ytdgecflljgnobaa
