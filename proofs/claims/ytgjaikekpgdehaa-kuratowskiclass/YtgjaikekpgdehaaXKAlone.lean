/-
  The graph with some of its edges alone: kuratowski.alone.
-/
import Derived.Laws.ResultCell
import Derived.Test.YtgjaikekpgdehaaXKLess
namespace Go.Proofs.Ytgjaikekpgdehaa
open Go Go.Proofs Go.RowKit

theorem ret_graphK {fn : Func} {p u : Tmp} (h : fn.results = #[.cell p 24, .tmp u]) {tmps : Array Value} {w : World} {b : Nat} {x y : Value} (hp : tmps.getD p undef = .pointer (some ⟨b, 0, none⟩)) (h0 : w.cell? ⟨b, 0, none⟩ = some x) (h1 : w.cell? ⟨b, 1, none⟩ = some y) :
    (results fn tmps).run Try.prog w = .ok (.tuple #[.agg #[x, y], tmps.getD u undef]) w := by
  rw [results_cell_tmp h, hp]
  have a1 := Try.isAgg24
  have a2 := Try.sizeOf24
  go_simp
theorem or_noneK (v : Value) : v.ownBlock = none ∨ v.ownBlock ≠ none := by
  cases v.ownBlock with
  | none => exact .inl rfl
  | some k => exact .inr (by simp)
theorem one_cellK (W : World) (v : Value) (t : TypeId) : ∀ (q : Nat) (u : Value), [v][q]? = some u → (W.alloc (.cells #[v] t)).cell? ((⟨W.heap.size, 0, none⟩ : Addr).add q) = some u := by
  intro q u hu
  rw [Go.WideShapes.add_plain, Nat.zero_add]
  match q with
  | 0 => simp at hu; subst hu; simp
  | q + 1 => simp at hu
theorem owns_intsK {W : World} {base : Nat} {v : Value} {xs : List Int} (h : W.ownsRow base 3 1 v xs.length (xs.map (Value.int .i64))) : Ints W.heap.size W v xs := by
  rcases h.2 with ⟨rfl, h0⟩ | ⟨g, cap, cur, rfl, hb, hg, hn, hc⟩
  · exact .inl ⟨⟨_, _, rfl⟩, List.eq_nil_of_length_eq_zero h0⟩
  · refine .inr ⟨g, 0, cap, rfl, (Array.getElem?_eq_some_iff.1 hg).1, hn, fun j x hx => ?_⟩
    have c0 := h.cells (g := g) rfl j _ (by rw [List.getElem?_map, hx]; rfl)
    rw [Go.WideShapes.add_plain] at c0
    exact c0
/-- The places that are not named. -/
def othL (a : List Int) : Nat → List Int
  | 0 => []
  | j + 1 => othL a j ++ (if inB a (j : Int) = true then [] else [(j : Int)])
theorem othL_len (a : List Int) : ∀ j, (othL a j).length ≤ j
  | 0 => Nat.le_refl _
  | j + 1 => by
    have := othL_len a j
    rw [othL, List.length_append]
    split <;> simp <;> omega
theorem mem_othL {a : List Int} {x : Int} : ∀ {j : Nat}, x ∈ othL a j ↔ 0 ≤ x ∧ x < (j : Int) ∧ inB a x = false
  | 0 => by
    constructor
    · intro h; cases h
    · intro h; omega
  | j + 1 => by
    rw [othL, List.mem_append, mem_othL (j := j)]
    constructor
    · rintro (⟨h1, h2, h3⟩ | h)
      · exact ⟨h1, by omega, h3⟩
      · split at h
        · cases h
        · rename_i hb
          have e := List.mem_singleton.1 h
          subst e
          exact ⟨by omega, by omega, by simpa using hb⟩
    · rintro ⟨h1, h2, h3⟩
      by_cases e : x = (j : Int)
      · subst e
        right
        rw [if_neg (by rw [h3]; simp)]
        exact List.mem_singleton.2 rfl
      · exact .inl ⟨h1, by omega, h3⟩
/-- The edges that are named. -/
def subL (l : List Ed) (a : List Int) : List Ed := keepL l (fun i => inB a (i : Int)) l.length
theorem keepL_congr {l : List Ed} {p q : Nat → Bool} : ∀ {j : Nat}, (∀ i, i < j → p i = q i) → keepL l p j = keepL l q j
  | 0, _ => rfl
  | j + 1, h => by rw [keepL, keepL, keepL_congr (fun i hi => h i (by omega)), h j (by omega)]
theorem less_sub {n : Int} {l : List Ed} (hR : rightK n l = 0) (a : List Int) : stayL n l (lessP (othL a l.length)) = subL l a := by
  unfold stayL subL
  rw [if_pos hR]
  refine keepL_congr fun i hi => ?_
  unfold lessP
  cases hb : inB a (i : Int) with
  | true =>
    have : inB (othL a l.length) (i : Int) = false := inB_false.2 (fun h => by have := (mem_othL.1 h).2.2; rw [hb] at this; cases this)
    rw [this]; rfl
  | false =>
    have : inB (othL a l.length) (i : Int) = true := inB_true.2 (mem_othL.2 ⟨by omega, by omega, hb⟩)
    rw [this]; rfl
/-- What alone answers. -/
def alnN (n : Int) (l : List Ed) (a : List Int) : Int := if wgtK n l a = 0 then n else 0
def alnL (n : Int) (l : List Ed) (a : List Int) : List Ed := if wgtK n l a = 0 then subL l a else []

set_option maxRecDepth 100000 in
set_option maxHeartbeats 4000000 in
theorem alone_any (n : Int) (l : List Ed) (a : List Int) (ha : a.length ≤ 4194304) (sv sa : Value) (w : World) (hl : Edges w.heap.size w sv l) (hA : Ints w.heap.size w sa a) :
    Calls Try.prog 20 #[.agg #[.int .i64 n, sv], sa] w fun r w' => ∃ gv, r = .returned (.tuple #[.agg #[.int .i64 (alnN n l a), gv], .int .i64 (wgtK n l a)]) ∧ Edges w'.heap.size w' gv (alnL n l a) ∧ Below w.heap.size w w' := by
  have hg1 : Grew w ((w.alloc (.cells #[.int .i64 n, sv] 24)).alloc (.cells #[.int .i64 0, .slice none 0 0] 24)) := ((Grew.refl w).alloc _).alloc _
  have hl1 := hl.go hg1.below
  have hB1 : Blk 24 ((w.alloc (.cells #[.int .i64 n, sv] 24)).alloc (.cells #[.int .i64 0, .slice none 0 0] 24)) (w.heap.size + 1) [.int .i64 0, .slice none 0 0] := by
    have := heap_alloc_new (w.alloc (.cells #[.int .i64 n, sv] 24)) (.cells #[.int .i64 0, .slice none 0 0] 24)
    simpa [Blk] using this
  have hB0 : Blk 24 ((w.alloc (.cells #[.int .i64 n, sv] 24)).alloc (.cells #[.int .i64 0, .slice none 0 0] 24)) w.heap.size [.int .i64 n, sv] := by
    have h1 : Blk 24 (w.alloc (.cells #[.int .i64 n, sv] 24)) w.heap.size [.int .i64 n, sv] := heap_alloc_new w _
    exact h1.go (((Grew.refl _).alloc _).below)
  obtain ⟨p, c, rfl⟩ := hl.len
  obtain ⟨pa, ca, rfl⟩ := hA.len
  obtain ⟨i0, hi, hz0, hz1, hz2⟩ := info_parts infoB
  obtain ⟨k0, hk, hy0, hy1, hy2⟩ := info_parts infoI
  have hrc := fun W h => right_any n l (.slice p l.length c) W h
  have hbadF : wgtK n l a = 1 → Hid (alnN n l a = 0) ∧ Hid (alnL n l a = []) := fun h => by
    unfold Hid alnN alnL; rw [h]; exact ⟨rfl, rfl⟩
  by_cases hr : rightK n l = 0
  · have hR := right_iff.1 hr
    have hm1 := hR.m1
    have HK : Hid (wgtK n l a = wK l a) := if_pos hr
    have HR : Hid (rightK n l = 0) := hr
    rw [hr] at hrc
    clear hr
    go_enter Try.func20, Try.ntmps20
    go_wp2_with fail
    refine (hrc _ hl1).mono ?_
    rintro e w2 ⟨rfl, hg2⟩
    have hC0 := hB0.go hg2.below
    have hC1 := hB1.go hg2.below
    have q0 := hC0.cell (j := 0) rfl
    have q1 := hC0.cell (j := 1) rfl
    have hbw := (hg1.trans hg2).below
    have hbx : w.heap.size + 2 ≤ w2.heap.size := by have := hC1.lt; omega
    clear hrc hl1 hB0 hB1 hg1 hg2
    go_wp2_with (at_make; refine wpList_make_full _ rfl _ _ 60 rfl w2.heap.size 4 i0 (.bool false) 1 Try.underlying60 hi hz0 hz1 .i64 .i64 _ _ l.length rfl rfl rfl rfl (by rw [hz2]; omega) (by unfold maxLen; omega) (Nat.le_refl _) ?_; intro w3 hown hgrow)
    have hb3 : Below w2.heap.size w2 w3 := (Below.refl _ _).grown hgrow (Nat.le_refl _) (fun k e => by cases e)
    have hrow := Blk.made hown
    rw [bools_made] at hrow
    have hD0 := hC0.below hb3 (by omega)
    have hD1 := hC1.below hb3 (by omega)
    have hbw3 := hbw.trans (hb3.mono hbw.size)
    clear hown hgrow hi hz0 hz1 hz2 hb3 hC0 hC1 q0 q1 hbw
    generalize w2.heap.size = g at hrow hbx
    have hone : ∀ x : Nat, x < l.length → (x : Int) < (l.length : Int) := fun x h => by omega
    go_loopw [22] (fun i wr => ∃ j : Nat, j ≤ a.length ∧ i = .int .i64 j ∧ Hid (okB l a j = true) ∧ Blk 4 wr g ((takenL l.length (a.take j)).map Value.bool) ∧ Below g w3 wr) (fun i _ => a.length - (intOf i).toNat)
    case atStart => exact ⟨0, Nat.zero_le _, rfl, rfl, by rw [List.take_zero, takenL_nil]; exact hrow, Below.refl _ _⟩
    case round =>
      obtain ⟨j, hj, rfl, hok, hB, hb⟩ := hrel
      have hE0 := hD0.below hb (by omega)
      have hE1 := hD1.below hb (by omega)
      have d0 := hE0.cell (j := 0) rfl
      have d1 := hE0.cell (j := 1) rfl
      have hbwr := hbw3.trans (hb.mono (by omega))
      have hgl := hB.lt
      by_cases hlt : j < a.length
      · obtain ⟨ba, offa, rfl, hba, hcapa, hca⟩ := hA.open hlt
        have c0 := hca wr hbwr j hlt
        have hjl : (j : Int) < (a.length : Int) := by omega
        have hnext := okB_succ (l := l) hlt
        rw [hok.out, Bool.true_and] at hnext
        have HT : Hid (a.take (j + 1) = a.take j ++ [a[j]]) := take_snoc hlt
        have hbad : okB l a (j + 1) = false → Hid (wgtK n l a = 1) := fun h => by
          have h1 := okB_far h (Nat.succ_le_of_lt hlt)
          unfold Hid
          rw [HK.out]
          unfold wK
          rw [h1]
          rfl
        generalize a[j] = y at *
        have HNX : Hid _ := hnext
        clear hca hnext hok
        have f0 := hE1.frozen 0
        have f1 := hE1.frozen 1
        have x0 := hE1.cell (j := 0) rfl
        have x1 := hE1.cell (j := 1) rfl
        have fin : Hid (wgtK n l a = 1) → ∃ gv, Ending.returned (Value.tuple #[.agg #[.int .i64 0, .slice none 0 0], .int .i64 1]) = .returned (.tuple #[.agg #[.int .i64 (alnN n l a), gv], .int .i64 (wgtK n l a)]) ∧ Edges ((wr.setCell ⟨w.heap.size + 1, 0, none⟩ (.int .i64 0)).setCell ⟨w.heap.size + 1, 1, none⟩ (.slice none 0 0)).heap.size ((wr.setCell ⟨w.heap.size + 1, 0, none⟩ (.int .i64 0)).setCell ⟨w.heap.size + 1, 1, none⟩ (.slice none 0 0)) gv (alnL n l a) ∧ Below w.heap.size w ((wr.setCell ⟨w.heap.size + 1, 0, none⟩ (.int .i64 0)).setCell ⟨w.heap.size + 1, 1, none⟩ (.slice none 0 0)) := fun h => by
          obtain ⟨h1, h2⟩ := hbadF h.out
          exact ⟨.slice none 0 0, by rw [h1.out, h.out], by rw [h2.out]; exact Edges.nil _ _ _ _, (hbwr.setCell (p := ⟨w.heap.size + 1, 0, none⟩) (by simp) _).setCell (p := ⟨w.heap.size + 1, 1, none⟩) (by simp) _⟩
        have hbf := (hE1.set 0 (.int .i64 0)).set 1 (.slice none 0 0)
        have HBF : Hid _ := hbf
        have FIN : Hid _ := fin
        clear hbf fin
        by_cases hy : y < 0
        · have HW := hbad (by rw [HNX.out]; unfold goodB placeB; simp; omega)
          have hyb : decide (y < 0) = true := by simpa using hy
          clear hbad
          go_wp2
          (try simp only [Exit.inBlock, Exit.then])
          refine bodyPost_ret (ret_graphK rfl (by rfl) (Blk.cell HBF.out (j := 0) rfl) (Blk.cell HBF.out (j := 1) rfl)) rfl ?_
          exact FIN.out HW
        · have hyb : decide (y < 0) = false := by simpa using hy
          by_cases hyl : (l.length : Int) ≤ y
          · have HW := hbad (by rw [HNX.out]; unfold goodB placeB; simp; omega)
            have hylb : decide ((l.length : Int) ≤ y) = true := by simpa using hyl
            clear hbad
            go_wp2
            (try simp only [Exit.inBlock, Exit.then])
            refine bodyPost_ret (ret_graphK rfl (by rfl) (Blk.cell HBF.out (j := 0) rfl) (Blk.cell HBF.out (j := 1) rfl)) rfl ?_
            exact FIN.out HW
          · obtain ⟨x, rfl⟩ : ∃ x : Nat, y = (x : Int) := ⟨y.toNat, by omega⟩
            have hx : x < l.length := by omega
            have hxl : (x : Int) < (l.length : Int) := by omega
            have t0 : wr.cell? ⟨g, x, none⟩ = some (.bool (inB (a.take j) (x : Int))) := hB.cell (by rw [List.getElem?_map, takenL_at hx]; rfl)
            have g0 := hB.frozen x
            have hpl : placeB l (x : Int) = true := by unfold placeB; simp; omega
            clear hyb hyl hy
            cases hin : inB (a.take j) (x : Int) with
            | true =>
              have HW := hbad (by rw [HNX.out]; unfold goodB; rw [hpl, hin]; rfl)
              rw [hin] at t0
              clear hbad hpl hin
              go_wp2
              (try simp only [Exit.inBlock, Exit.then])
              refine bodyPost_ret (ret_graphK rfl (by rfl) (Blk.cell HBF.out (j := 0) rfl) (Blk.cell HBF.out (j := 1) rfl)) rfl ?_
              exact FIN.out HW
            | false =>
              have HOK : Hid (okB l a (j + 1) = true) := by unfold Hid; rw [HNX.out]; unfold goodB; rw [hpl, hin]; rfl
              rw [hin] at t0
              have hBn := hB.set x (.bool true)
              rw [← List.map_set, show (takenL l.length (a.take j)).set x true = takenL l.length (a.take (j + 1)) by rw [HT.out]; exact takenL_set (x := (x : Int)) (by omega)] at hBn
              clear hbad hpl hin f0 f1 x0 x1 HBF FIN
              go_wp2
              refine ⟨⟨j + 1, by omega, by go_num, HOK, hBn, hb.setCell (p := ⟨g, x, none⟩) (Nat.le_refl _) _⟩, by simp [intOf]; omega⟩
      · obtain rfl : j = a.length := by omega
        have HW : Hid (wgtK n l a = 0) := by unfold Hid; rw [HK.out]; unfold wK; rw [if_pos hok.out]
        rw [List.take_length] at hB
        clear hok
        go_wp2
        clear hb hrow hD0 hD1 hgl
        obtain ⟨w5, rfl⟩ : ∃ w5, w5 = wr := ⟨_, rfl⟩
        have hgw : g < w5.heap.size := hB.lt
        have hlr : Edges w5.heap.size w5 (.slice p l.length c) l := hl.go hbwr
        go_loopw [9, 48] (fun lv i wr => ∃ j : Nat, j ≤ l.length ∧ i = .int .i64 j ∧ wr.ownsRow w5.heap.size 3 1 lv (othL a j).length ((othL a j).map (Value.int .i64)) ∧ Below w5.heap.size w5 wr) (fun _ i _ => l.length - (intOf i).toNat)
        case atStart => exact ⟨0, Nat.zero_le _, rfl, World.ownsRow_nil _ _ _ _, Below.refl _ _⟩
        case round =>
          obtain ⟨j, hj, rfl, hO, hb⟩ := hrel
          obtain ⟨pp, cc, rfl⟩ := owns_form hO
          have hlen := othL_len a j
          by_cases hlt : j < l.length
          · have hjl : (j : Int) < (l.length : Int) := by omega
            have t0 : wr.cell? ⟨g, j, none⟩ = some (.bool (inB a (j : Int))) := (hB.below hb hgw).cell (by rw [List.getElem?_map, takenL_at hlt]; rfl)
            have hst : Hid (othL a (j + 1) = othL a j ++ (if inB a (j : Int) = true then [] else [(j : Int)])) := rfl
            cases hP : inB a (j : Int) with
            | true =>
              have HE : Hid (othL a (j + 1) = othL a j) := by unfold Hid; rw [hst.out, hP]; simp
              rw [hP] at t0
              have HO2 : Hid _ := hO
              have HB2 : Hid _ := hb
              clear hO hb hP
              go_wp2
              refine ⟨⟨j + 1, by omega, by go_num, ?_, HB2.out⟩, by simp [intOf]; omega⟩
              rw [HE.out]
              exact HO2.out
            | false =>
              have HE : Hid (othL a (j + 1) = othL a j ++ [(j : Int)]) := by unfold Hid; rw [hst.out, hP]; simp
              rw [hP] at t0
              have hownA := hO.alloc (.cells #[.int .i64 (j : Int)] 3)
              have hnews := one_cellK wr (.int .i64 (j : Int)) 3
              have hone1 : ∀ u ∈ [Value.int .i64 (j : Int)], u.oneCell' = true := by intro u hu; rw [List.mem_singleton.1 hu]; rfl
              have hmx : (othL a j).length + 1 ≤ maxLen := by unfold maxLen; omega
              have hby : ((othL a j).length + 1) * 8 ≤ 140737488355328 := by omega
              have hbs : w5.heap.size ≤ (wr.alloc (.cells #[.int .i64 (j : Int)] 3)).heap.size := by have := hb.size; simp; omega
              have hlow : ∀ k, (Value.slice pp (othL a j).length cc).ownBlock = some k → w5.heap.size ≤ k := fun k e => (hO.lt k e).1
              have HB2 : Hid _ := hb
              clear hO hb hP
              go_wp2_with (at_builtin; refine wpList_append_own_at _ rfl _ _ 25 rfl w5.heap.size 3 k0 (.int .i64 0) 1 8 Try.underlying25 hk hy0 hy1 hy2 rfl (by decide) (.slice pp (othL a j).length cc) _ _ rfl hownA ⟨wr.heap.size, 0, none⟩ 1 1 [.int .i64 (j : Int)] rfl rfl hnews hone1 hmx hby hbs ?_)
              intro v6 w6 hown6 hg6 hnil6 hat6
              obtain ⟨a6, c6, rfl⟩ := owns_form hown6
              have HO6 : Hid _ := hown6
              have HB6 : Hid (Below w5.heap.size w5 w6) := (Below.alloc HB2.out (Below.size HB2.out) _).grown hg6 hbs hlow
              clear hown6 hg6 hnil6 hat6 hownA hnews hone1 hmx hby hbs hlow
              go_wp2
              refine ⟨⟨j + 1, by omega, by go_num, ?_, HB6.out⟩, by simp [intOf]; omega⟩
              rw [HE.out, List.length_append, List.map_append]
              exact HO6.out
          · obtain rfl : j = l.length := by omega
            have hF0 := hE0.below hb (by omega)
            have hF1 := hE1.below hb (by omega)
            have e0 := hF0.cell (j := 0) rfl
            have e1 := hF0.cell (j := 1) rfl
            have hI := owns_intsK hO
            have hlt' := hlr.go hb
            have hless := less_at n l (othL a l.length) (by omega) (.slice p l.length c) _ wr hlt' hI
            rw [less_sub HR.out, show stayN n l = n from if_pos HR.out] at hless
            have hbwr9 := hbwr.trans (hb.mono hbwr.size)
            have hszt := hb.size
            clear d0 d1 hO hI hlen
            go_wp2_with fail
            refine hless.mono ?_
            rintro e w8 ⟨gv, rfl, hgE, hgA, hb8⟩
            have hG1 := hF1.go hb8
            have f0 := hG1.frozen 0
            have f1 := hG1.frozen 1
            have x0 := hG1.cell (j := 0) rfl
            have x1 := hG1.cell (j := 1) rfl
            have hb8w := hbwr9.trans (hb8.mono hbwr9.size)
            obtain ⟨p8, c8, rfl⟩ := hgE.len
            have H1 : Hid (alnN n l a = n) := by unfold Hid alnN; rw [HW.out]; rfl
            have H2 : Hid (alnL n l a = subL l a) := by unfold Hid alnL; rw [HW.out]; rfl
            clear hless e0 e1
            go_wp2
            have hbf := (hG1.set 0 (.int .i64 n)).set 1 (.slice p8 (subL l a).length c8)
            (try simp only [Exit.inBlock, Exit.then])
            refine bodyPost_ret (ret_graphK rfl (by rfl) (hbf.cell (j := 0) rfl) (hbf.cell (j := 1) rfl)) rfl ?_
            refine ⟨.slice p8 (subL l a).length c8, by rw [H1.out, HW.out]; rfl, ?_, (hb8w.setCell (p := ⟨w.heap.size + 1, 0, none⟩) (by simp) _).setCell (p := ⟨w.heap.size + 1, 1, none⟩) (by simp) _⟩
            rw [H2.out]
            exact (hgE.setLow hgA (by show w.heap.size + 1 < _; omega) _).setLow hgA (by show w.heap.size + 1 < _; omega) _
  · have HK : Hid (wgtK n l a = 1) := if_neg hr
    generalize rightK n l = k at hrc hr
    have hk : (k == 0) = false := by simpa using hr
    obtain ⟨h1, h2⟩ := hbadF HK.out
    clear hr hbadF
    go_enter Try.func20, Try.ntmps20
    go_wp2_with fail
    refine (hrc _ hl1).mono ?_
    rintro e w2 ⟨rfl, hg2⟩
    have hD1 := hB1.go hg2.below
    have hbw := (hg1.trans hg2).below
    have f0 := hD1.frozen 0
    have f1 := hD1.frozen 1
    have d0 := hD1.cell (j := 0) rfl
    have d1 := hD1.cell (j := 1) rfl
    clear hrc
    go_wp2
    have hbf := (hD1.set 0 (.int .i64 0)).set 1 (.slice none 0 0)
    (try simp only [Exit.inBlock, Exit.then])
    refine bodyPost_ret (ret_graphK rfl (by rfl) (hbf.cell (j := 0) rfl) (hbf.cell (j := 1) rfl)) rfl ?_
    exact ⟨.slice none 0 0, by rw [h1.out, HK.out]; rfl, by rw [h2.out]; exact Edges.nil _ _ _ _, (hbw.setCell (p := ⟨w.heap.size + 1, 0, none⟩) (by simp) _).setCell (p := ⟨w.heap.size + 1, 1, none⟩) (by simp) _⟩
end Go.Proofs.Ytgjaikekpgdehaa
