/-
  filigreelaw08.Upto: the numbers from 0 on.
-/
import Derived.Test.YtgjaikekpgdehaaXKClass
namespace Go.Proofs.Ytgjaikekpgdehaa
open Go Go.Proofs Go.RowKit

def uptoL (n : Nat) : List Int := (List.range n).map fun (k : Nat) => (k : Int)
theorem uptoL_succ (n : Nat) : uptoL (n + 1) = uptoL n ++ [(n : Int)] := by simp [uptoL, List.range_succ]
theorem uptoL_len (n : Nat) : (uptoL n).length = n := by simp [uptoL]

set_option maxRecDepth 100000 in
set_option maxHeartbeats 2000000 in
theorem upto_any (n : Nat) (hn : n ≤ 1048576) (w : World) :
    Calls Try.prog 18 #[.int .i64 (n : Int)] w fun e w' => ∃ v, e = .returned v ∧ w'.ownsRow w.heap.size 3 1 v n ((uptoL n).map (Value.int .i64)) ∧ Below w.heap.size w w' := by
  obtain ⟨i0, hi, hz0, hz1, hz2⟩ := info_parts infoI
  go_enter Try.func18, Try.ntmps18
  go_wp2
  go_loopw [3, 4] (fun ov iv wr => ∃ i : Nat, i ≤ n ∧ iv = .int .i64 i ∧ wr.ownsRow w.heap.size 3 1 ov i ((uptoL i).map (Value.int .i64)) ∧ Below w.heap.size w wr) (fun _ iv _ => n - (intOf iv).toNat)
  case atStart => exact ⟨0, Nat.zero_le _, rfl, World.ownsRow_nil _ _ _ _, Below.refl _ _⟩
  case round =>
    obtain ⟨i, hi', rfl, ho, hb⟩ := hrel
    obtain ⟨po, co, rfl⟩ := owns_form ho
    by_cases hlt : i < n
    · have hil : (i : Int) < (n : Int) := by omega
      have hbA : Below w.heap.size w (wr.alloc (.cells #[.int .i64 (i : Int)] 3)) := hb.alloc hb.size _
      have HOA : Hid ((wr.alloc (.cells #[.int .i64 (i : Int)] 3)).ownsRow w.heap.size 3 1 (.slice po i co) i ((uptoL i).map (Value.int .i64))) := World.ownsRow.alloc ho _
      have HBA : Hid (Below w.heap.size w (wr.alloc (.cells #[.int .i64 (i : Int)] 3))) := hbA
      have HNEW : Hid (∀ j u, [Value.int .i64 (i : Int)][j]? = some u → (wr.alloc (.cells #[.int .i64 (i : Int)] 3)).cell? ((⟨wr.heap.size, 0, none⟩ : Addr).add j) = some u) := one_cellK wr (.int .i64 (i : Int)) 3
      have hmx : i + 1 ≤ maxLen := by unfold maxLen; omega
      have hby : (i + 1) * 8 ≤ 140737488355328 := by omega
      have hbs : w.heap.size ≤ (wr.alloc (.cells #[.int .i64 (i : Int)] 3)).heap.size := hbA.size
      clear ho hb hbA
      go_wp2_with (at_builtin; refine wpList_append_own_at _ rfl _ _ 25 rfl w.heap.size 3 i0 (.int .i64 0) 1 8 Try.underlying25 hi hz0 hz1 hz2 rfl (by decide) (.slice po i co) _ _ rfl HOA.out ⟨wr.heap.size, 0, none⟩ 1 1 [.int .i64 (i : Int)] rfl rfl HNEW.out (by simp [Value.oneCell']) hmx hby hbs ?_)
      intro v6 w6 ho6 hg6 hnil6 hat6
      obtain ⟨a6, c6, rfl⟩ := owns_form ho6
      have HB6 : Hid (Below w.heap.size w w6) := Below.grown HBA.out hg6 hbs (fun q hq => (World.ownsRow.lt HOA.out q hq).1)
      have HO6 : Hid (w6.ownsRow w.heap.size 3 1 (.slice a6 (i + 1) c6) (i + 1) ((uptoL (i + 1)).map (Value.int .i64))) := by unfold Hid; rw [uptoL_succ, List.map_append]; exact ho6
      clear ho6 hg6 hnil6 hat6 HOA HBA HNEW hbs
      go_wp2
      exact ⟨⟨i + 1, hlt, by go_num, HO6.out, HB6.out⟩, by simp [intOf]; omega⟩
    · have hil : ¬ (i : Int) < (n : Int) := by omega
      obtain rfl : i = n := by omega
      have HO : Hid (wr.ownsRow w.heap.size 3 1 (.slice po i co) i ((uptoL i).map (Value.int .i64))) := ho
      have HB : Hid (Below w.heap.size w wr) := hb
      clear ho hb
      go_wp2
      go_ret
      exact ⟨_, rfl, HO.out, HB.out⟩
end Go.Proofs.Ytgjaikekpgdehaa

namespace Go.Proofs.Ytgjaikekpgdehaa
open Go Go.Proofs Go.RowKit

def lightB (n : Int) (l : List Ed) (c : Int) : Bool := decide (n ≤ c) && decide ((l.length : Int) ≤ 4 * c)
theorem lightB_true {n : Int} {l : List Ed} {c : Int} (h : lightB n l c = true) : n ≤ c ∧ (l.length : Int) ≤ 4 * c := by simpa [lightB] using h
set_option maxRecDepth 100000 in
theorem light_any (n : Int) (l : List Ed) (c : Int) (h0 : 0 ≤ c) (h1 : c ≤ 1000) (sv : Value) (w : World) (hl : Edges w.heap.size w sv l) :
    Calls Try.prog 7 #[.agg #[.int .i64 n, sv], .int .i64 c] w fun r w' => r = .returned (.bool (lightB n l c)) ∧ Grew w w' := by
  unfold lightB
  obtain ⟨p, q, rfl⟩ := hl.len
  go_enter Try.func7, Try.ntmps7
  go_wp2
  all_goals go_ret
  all_goals refine ⟨?_, (Grew.refl w).alloc _⟩
  all_goals simp
  all_goals first | done | omega | (simp_all <;> omega)
end Go.Proofs.Ytgjaikekpgdehaa

namespace Go.Proofs.Ytgjaikekpgdehaa
open Go Go.Proofs Go.RowKit

def fulTo (n : Nat) : Nat → List Ed
  | 0 => []
  | j + 1 => fulTo n j ++ (List.range (n - (j + 1))).map fun k => ((j : Int), (((j + 1 + k : Nat)) : Int), 0)
def preU (n j k : Nat) : List Ed := fulTo n j ++ (List.range k).map fun k => ((j : Int), (((j + 1 + k : Nat)) : Int), 0)
theorem preU_zero (n j : Nat) : preU n j 0 = fulTo n j := by simp [preU]
theorem preU_full (n j : Nat) : preU n j (n - (j + 1)) = fulTo n (j + 1) := rfl
theorem preU_step (n j k : Nat) : preU n j (k + 1) = preU n j k ++ [((j : Int), (((j + 1 + k : Nat)) : Int), 0)] := by simp [preU, List.range_succ]
theorem fulTo_len (n : Nat) : ∀ j, (fulTo n j).length ≤ j * n
  | 0 => by simp [fulTo]
  | j + 1 => by
    have := fulTo_len n j
    rw [fulTo, List.length_append, List.length_map, List.length_range, Nat.succ_mul]
    omega
theorem preU_len {n : Nat} (hn : n ≤ 100) {j k : Nat} (hj : j ≤ n) (hk : k ≤ n) : (preU n j k).length ≤ 10100 := by
  have h1 := fulTo_len n j
  have h2 : j * n ≤ 100 * 100 := Nat.mul_le_mul (by omega) hn
  unfold preU
  rw [List.length_append, List.length_map, List.length_range]
  omega
theorem ret_graphF {fn : Func} {p : Tmp} (h : fn.results = #[.cell p 24]) {tmps : Array Value} {w : World} {b : Nat} {x y : Value} (hp : tmps.getD p undef = .pointer (some ⟨b, 0, none⟩)) (h0 : w.cell? ⟨b, 0, none⟩ = some x) (h1 : w.cell? ⟨b, 1, none⟩ = some y) :
    (results fn tmps).run Try.prog w = .ok (.agg #[x, y]) w := by
  have e : (results fn tmps).run Try.prog w = ((asAddr (tmps.getD p undef)).run Try.prog w).andThen fun a w₁ => (loadVar 24 a).run Try.prog w₁ := by
    simp only [results, h]
    simp [Sem.run_bind, Result.andThen]
  rw [e, hp]
  have a1 := Try.isAgg24
  have a2 := Try.sizeOf24
  go_simp

set_option maxRecDepth 100000 in
set_option maxHeartbeats 4000000 in
theorem full_any (n : Nat) (hn : n ≤ 100) (w : World) :
    Calls Try.prog 19 #[.int .i64 (n : Int)] w fun r w' => ∃ gv, r = .returned (.agg #[.int .i64 (n : Int), gv]) ∧ Edges w'.heap.size w' gv (fulTo n n) ∧ Below w.heap.size w w' := by
  obtain ⟨i0, hi, hz0, hz1, hz2⟩ := info_parts infoE
  have hg1 : Grew w ((w.alloc (.cells #[.int .i64 0, .slice none 0 0] 24)).alloc (.cells #[.int .i64 (n : Int), .slice none 0 0] 24)) := ((Grew.refl w).alloc _).alloc _
  have hB1 : Blk 24 ((w.alloc (.cells #[.int .i64 0, .slice none 0 0] 24)).alloc (.cells #[.int .i64 (n : Int), .slice none 0 0] 24)) w.heap.size [.int .i64 0, .slice none 0 0] := by
    have h1 : Blk 24 (w.alloc (.cells #[.int .i64 0, .slice none 0 0] 24)) w.heap.size [.int .i64 0, .slice none 0 0] := heap_alloc_new w _
    exact h1.go (((Grew.refl _).alloc _).below)
  have hB2 : Blk 24 ((w.alloc (.cells #[.int .i64 0, .slice none 0 0] 24)).alloc (.cells #[.int .i64 (n : Int), .slice none 0 0] 24)) (w.heap.size + 1) [.int .i64 (n : Int), .slice none 0 0] := by
    have := heap_alloc_new (w.alloc (.cells #[.int .i64 0, .slice none 0 0] 24)) (.cells #[.int .i64 (n : Int), .slice none 0 0] 24)
    simpa [Blk] using this
  go_enter Try.func19, Try.ntmps19
  go_wp2
  have hsz := hB2.lt
  generalize (w.alloc (.cells #[.int .i64 0, .slice none 0 0] 24)).alloc (.cells #[.int .i64 (n : Int), .slice none 0 0] 24) = w1 at hg1 hB1 hB2 hsz ⊢
  go_loopw [4] (fun i wr => ∃ (j : Nat) (s : Value), j ≤ n ∧ i = .int .i64 j ∧ Blk 24 wr (w.heap.size + 1) [.int .i64 (n : Int), s] ∧ wr.ownsRow (w.heap.size + 2) 41 3 s (fulTo n j).length (flat (fulTo n j)) ∧ Below (w.heap.size + 1) w1 wr) (fun i _ => n - (intOf i).toNat)
  case atStart => exact ⟨0, _, Nat.zero_le _, rfl, hB2, World.ownsRow_nil _ _ _ _, Below.refl _ _⟩
  case round =>
    obtain ⟨j, s, hj, rfl, hO, hown, hb⟩ := hrel
    by_cases hlt : j < n
    · have hjl : (j : Int) < (n : Int) := by omega
      rw [← preU_zero] at hown
      go_wp2
      go_loopw [5] (fun i wr => ∃ (k : Nat) (s : Value), k ≤ n - (j + 1) ∧ i = .int .i64 ((j + 1 + k : Nat) : Int) ∧ Blk 24 wr (w.heap.size + 1) [.int .i64 (n : Int), s] ∧ wr.ownsRow (w.heap.size + 2) 41 3 s (preU n j k).length (flat (preU n j k)) ∧ Below (w.heap.size + 1) w1 wr) (fun i _ => n - (intOf i).toNat)
      case atStart => exact ⟨0, s, Nat.zero_le _, by go_num, hO, hown, hb⟩
      case round =>
        clear hO hown hb s
        obtain ⟨k, s, hk, rfl, hO, hown, hb⟩ := hrel
        have hlb := preU_len hn (j := j) (k := k) hj (by omega)
        have HST : Hid _ := preU_step n j k
        have HFL : Hid _ := preU_full n j
        obtain ⟨v, hv⟩ : ∃ v : Nat, j + 1 + k = v := ⟨_, rfl⟩
        rw [hv] at HST ⊢
        by_cases hkl : v < n
        · have hkl' : (v : Int) < (n : Int) := by omega
          have hk0 : k < n - (j + 1) := by omega
          generalize preU n j k = R at *
          obtain ⟨pp, cc, rfl⟩ := owns_form hown
          have k1 := hO.cell (j := 1) rfl
          have f1 := hO.frozen 1
          have hown9 := hown.alloc (.cells #[.int .i64 (j : Int), .int .i64 (v : Int), .int .i64 0] 41)
          have hmx : R.length + 1 ≤ maxLen := by unfold maxLen; omega
          have hby24 : (R.length + 1) * 24 ≤ 140737488355328 := by omega
          have hOl := hO.lt
          have hbs : w.heap.size + 2 ≤ (wr.alloc (.cells #[.int .i64 (j : Int), .int .i64 (v : Int), .int .i64 0] 41)).heap.size := by simp; omega
          have hlow : ∀ q, (Value.slice pp R.length cc).ownBlock = some q → w.heap.size + 2 ≤ q := fun q e => (hown.lt q e).1
          have hn3 := news3 (w := wr) (t := 41) ((j : Int), (v : Int), 0)
          have ho3 := one3 ((j : Int), (v : Int), 0)
          have hO9 := hO.go ((Grew.refl _).alloc (.cells #[.int .i64 (j : Int), .int .i64 (v : Int), .int .i64 0] 41)).below
          have hne9 : some (w.heap.size + 1) ≠ (Value.slice pp R.length cc).ownBlock := fun e => by have := hlow _ e.symm; omega
          have HBx : Hid (Below (w.heap.size + 1) w1 (wr.alloc (.cells #[.int .i64 (j : Int), .int .i64 (v : Int), .int .i64 0] 41))) := hb.alloc (by omega) _
          clear hb
          go_wp2_with (at_builtin; refine wpList_append_own_at _ rfl _ _ 22 rfl (w.heap.size + 2) 41 i0 (.agg #[.int .i64 0, .int .i64 0, .int .i64 0]) 3 24 Try.underlying22 hi hz0 hz1 hz2 (by simp [Value.cells]) (by decide) (.slice pp R.length cc) _ _ rfl hown9 ⟨wr.heap.size, 0, none⟩ 1 1 (encE ((j : Int), (v : Int), 0)) rfl rfl hn3 ho3 hmx hby24 hbs ?_; intro v6 w6 hown6 hgrow6 hnil6 hat6; obtain ⟨p6, c6, rfl⟩ := owns_form hown6; have hO6 := hO9.grown hgrow6 hne9; have k6 := hO6.cell (j := 1) rfl; have f6 := hO6.frozen 1)
          have hb6 : Below (w.heap.size + 1) w1 w6 := HBx.out.grown hgrow6 (by simp; omega) (fun q e => by have := hlow q e; omega)
          refine ⟨⟨k + 1, _, by omega, by rw [← hv]; go_num, hO6.set 1 _, ?_, hb6.setCell (p := ⟨w.heap.size + 1, 1, none⟩) (by simp) _⟩, by simp [intOf]; omega⟩
          rw [HST.out, List.length_append, flat_snoc]
          exact owns_set hown6 (by simp) _
        · obtain rfl : k = n - (j + 1) := by omega
          rw [HFL.out] at hown
          have hkl' : ¬ ((v : Int) < (n : Int)) := by omega
          go_wp2
          exact ⟨⟨j + 1, s, by omega, by go_num, hO, hown, hb⟩, by simp [intOf]; omega⟩
    · obtain rfl : j = n := by omega
      have z0 := hO.cell (j := 0) rfl
      have z1 := hO.cell (j := 1) rfl
      have hE1 := hB1.below hb (by omega)
      have y0 := hE1.cell (j := 0) rfl
      have y1 := hE1.cell (j := 1) rfl
      have f0 := hE1.frozen 0
      have f1 := hE1.frozen 1
      have hbw : Below w.heap.size w wr := hg1.below.trans (hb.mono (by omega))
      obtain ⟨pp, cc, rfl⟩ := owns_form hown
      have HOW : Hid _ := hown
      have HE1 : Hid _ := hE1
      have HB : Hid _ := hbw
      clear hown hb hB1 hB2 hg1 hE1 hbw
      go_wp2
      have hbf := (Blk.set HE1.out 0 (.int .i64 (j : Int))).set 1 (.slice pp (fulTo j j).length cc)
      (try simp only [Exit.inBlock, Exit.then])
      refine bodyPost_ret (ret_graphF rfl (by rfl) (hbf.cell (j := 0) rfl) (hbf.cell (j := 1) rfl)) rfl ?_
      exact ⟨.slice pp (fulTo j j).length cc, rfl, Edges.of_owns (owns_set (owns_set HOW.out (p := ⟨w.heap.size, 0, none⟩) (by simp) _) (p := ⟨w.heap.size, 1, none⟩) (by simp) _), (Below.setCell HB.out (p := ⟨w.heap.size, 0, none⟩) (by simp) _).setCell (p := ⟨w.heap.size, 1, none⟩) (by simp) _⟩
end Go.Proofs.Ytgjaikekpgdehaa

namespace Go.Proofs.Ytgjaikekpgdehaa
open Go Go.Proofs Go.RowKit

theorem sortL_of {L L' : List Int} (hp : L'.Perm L) (hs : L'.Pairwise (· ≤ ·)) : sortL L = L' :=
  ((sortL_perm L).trans hp.symm).eq_of_pairwise (fun a b _ _ h1 h2 => by omega) (sortL_rise L) hs
def exW : List (List Int) := [[0, 1], [0, 2], [0, 3], [0, 4], [1, 2], [1, 3], [1, 4], [2, 3], [2, 4], [3, 4]]
def exN : List (List Int) := [[0, 1], [0, 2], [0, 3], [0, 4], [1, 2], [1, 3], [1, 4], [2, 3], [2, 4]]
theorem exW_corn : crnL exW = [0, 1, 2, 3, 4] := by
  unfold crnL
  rw [sortL_of (L' := [0, 0, 0, 0, 1, 1, 1, 1, 2, 2, 2, 2, 3, 3, 3, 3, 4, 4, 4, 4]) (by decide +kernel) (by decide +kernel)]
  kernel_rfl
theorem exN_corn : crnL exN = [0, 1, 2, 3, 4] := by
  unfold crnL
  rw [sortL_of (L' := [0, 0, 0, 0, 1, 1, 1, 1, 2, 2, 2, 2, 3, 3, 3, 4, 4, 4]) (by decide +kernel) (by decide +kernel)]
  kernel_rfl
theorem exW_five : fiveB exW = true := by
  unfold fiveB
  rw [exW_corn]
  kernel_rfl
theorem exN_five : fiveB exN = false := by
  unfold fiveB
  rw [exN_corn]
  kernel_rfl
theorem exN_three : threeB exN = false := by
  unfold threeB nrP frP
  rw [exN_corn]
  kernel_rfl
theorem exW_is : wyK 5 (fulTo 5 5) (uptoL 10) = 0 ∧ wyL 5 (fulTo 5 5) (uptoL 10) = exW := by
  constructor <;> kernel_rfl
theorem exN_is : wyK 5 (fulTo 5 5) (uptoL 9) = 0 ∧ wyL 5 (fulTo 5 5) (uptoL 9) = exN := by
  constructor <;> kernel_rfl
theorem ex_five : clsV 5 (fulTo 5 5) (uptoL 10) = 5 ∧ clsK 5 (fulTo 5 5) (uptoL 10) = 0 := by
  unfold clsV clsK
  rw [exW_is.1, exW_is.2, exW_five]
  exact ⟨rfl, rfl⟩
theorem ex_nine : clsK 5 (fulTo 5 5) (uptoL 9) = 13 := by
  unfold clsK
  rw [exN_is.1, exN_is.2, exN_five, exN_three]
  rfl

set_option maxRecDepth 100000 in
set_option maxHeartbeats 2000000 in
theorem alive_any (w : World) : Calls Try.prog 8 #[] w fun e w' => e = .returned (.bool true) ∧ Below w.heap.size w w' := by
  have HF : Hid (∀ W : World, Calls Try.prog 19 #[.int .i64 5] W fun r w' => ∃ gv, r = .returned (.agg #[.int .i64 5, gv]) ∧ Edges w'.heap.size w' gv (fulTo 5 5) ∧ Below W.heap.size W w') := fun W => full_any 5 (by omega) W
  have HT : Hid (∀ W : World, Calls Try.prog 18 #[.int .i64 10] W fun e w' => ∃ v, e = .returned v ∧ w'.ownsRow W.heap.size 3 1 v (uptoL 10).length ((uptoL 10).map (Value.int .i64)) ∧ Below W.heap.size W w') := fun W => upto_any 10 (by omega) W
  have HN : Hid (∀ W : World, Calls Try.prog 18 #[.int .i64 9] W fun e w' => ∃ v, e = .returned v ∧ w'.ownsRow W.heap.size 3 1 v (uptoL 9).length ((uptoL 9).map (Value.int .i64)) ∧ Below W.heap.size W w') := fun W => upto_any 9 (by omega) W
  have HC : Hid (∀ (gv uv : Value) (W : World), Edges W.heap.size W gv (fulTo 5 5) → Ints W.heap.size W uv (uptoL 10) → Calls Try.prog 12 #[.agg #[.int .i64 5, gv], uv] W fun r w' => r = .returned (.tuple #[.int .i64 5, .int .i64 0]) ∧ Below W.heap.size W w') := fun gv uv W hE hI => by
    have := class_any 5 (fulTo 5 5) (uptoL 10) (by rw [uptoL_len]; omega) gv uv W hE hI
    rw [ex_five.1, ex_five.2] at this
    exact this
  have HK : Hid (∀ (gv uv : Value) (W : World), Edges W.heap.size W gv (fulTo 5 5) → Ints W.heap.size W uv (uptoL 9) → Calls Try.prog 14 #[.agg #[.int .i64 5, gv], uv] W fun r w' => r = .returned (.int .i64 13) ∧ Below W.heap.size W w') := fun gv uv W hE hI => by
    have := check_any 5 (fulTo 5 5) (uptoL 9) (by rw [uptoL_len]; omega) gv uv W hE hI
    rw [ex_nine] at this
    exact this
  have h1 := HF.out w
  go_enter Try.func8, Try.ntmps8
  go_wp2_with fail
  refine h1.mono ?_
  clear h1
  rintro e w1 ⟨gv, rfl, hE, hb1⟩
  have h2 := HT.out w1
  have HE : Hid _ := hE
  have HB1 : Hid _ := hb1
  obtain ⟨pg, cg, rfl⟩ := hE.len
  clear hE hb1
  go_wp2_with fail
  refine h2.mono ?_
  clear h2
  rintro e w2 ⟨uv, rfl, hO, hb2⟩
  obtain ⟨pu, cu, rfl⟩ := owns_form hO
  have h3 := HC.out _ _ w2 (Edges.go HE.out hb2) (owns_intsK hO)
  have HB2 : Hid (Below w.heap.size w w2) := HB1.out.trans (hb2.mono HB1.out.size)
  clear hO hb2 HB1 HE
  generalize (uptoL 10).length = u10 at *
  generalize (fulTo 5 5).length = f5 at *
  go_wp2_with fail
  refine h3.mono ?_
  clear h3
  rintro e w3 ⟨rfl, hb3⟩
  have HB3 : Hid (Below w.heap.size w w3) := HB2.out.trans (hb3.mono HB2.out.size)
  clear hb3 HB2
  have h4 := HF.out w3
  go_wp2_with fail
  refine h4.mono ?_
  clear h4
  rintro e w4 ⟨gv, rfl, hE, hb4⟩
  have h5 := HN.out w4
  have HE : Hid _ := hE
  have HB4 : Hid (Below w.heap.size w w4) := HB3.out.trans (hb4.mono HB3.out.size)
  obtain ⟨pg, cg, rfl⟩ := hE.len
  clear hE hb4 HB3
  go_wp2_with fail
  refine h5.mono ?_
  clear h5
  rintro e w5 ⟨uv, rfl, hO, hb5⟩
  obtain ⟨pu, cu, rfl⟩ := owns_form hO
  have h6 := HK.out _ _ w5 (Edges.go HE.out hb5) (owns_intsK hO)
  have HB5 : Hid (Below w.heap.size w w5) := HB4.out.trans (hb5.mono HB4.out.size)
  clear hO hb5 HB4 HE
  generalize (uptoL 9).length = u9 at *
  generalize (fulTo 5 5).length = f5 at *
  go_wp2_with fail
  refine h6.mono ?_
  clear h6
  rintro e w6 ⟨rfl, hb6⟩
  have HB6 : Hid (Below w.heap.size w w6) := HB5.out.trans (hb6.mono HB5.out.size)
  clear hb6 HB5
  go_wp2
  go_ret
  exact ⟨rfl, HB6.out⟩
end Go.Proofs.Ytgjaikekpgdehaa
