/-
  The closure of tjoin.leaders that follows links to a root and shortens them.
-/
import Derived.Deep.QuietTactic
import Derived.BigQuiet
import Derived.Deep.RegionHeld3
import Derived.Test.YthdhimcaojfcnaaGreatJA
import Derived.Test.YthdhimcaojfcnaaGreatXWaRight
import Derived.Test.YthdhimcaojfcnaaGreatJB
import Derived.Test.YthdhimcaojfcnaaGreatXWaChk
import Derived.OwnWalk
import Derived.Laws.OwnMore
import Derived.Test.YthdhimcaojfcnaaGreatXCIdx
import Derived.Test.YthdhimcaojfcnaaGreatXGDeg
namespace Go.Proofs.YthdhimcaojfcnaaGreat
open Go Go.Proofs Go.RowKit

/-- All that was there stands, but block g. -/
structure Tch (g : Nat) (A B : World) : Prop where
  os : B.os = A.os
  tape : B.tape = A.tape
  output : B.output = A.output
  size : A.heap.size ≤ B.heap.size
  block : ∀ k, k < A.heap.size → k ≠ g → B.heap[k]? = A.heap[k]?
theorem Tch.refl (g : Nat) (A : World) : Tch g A A := ⟨rfl, rfl, rfl, Nat.le_refl _, fun _ _ _ => rfl⟩
theorem Tch.trans {g : Nat} {A B C : World} (h : Tch g A B) (h' : Tch g B C) : Tch g A C :=
  ⟨h'.os.trans h.os, h'.tape.trans h.tape, h'.output.trans h.output, Nat.le_trans h.size h'.size, fun k hk hg => (h'.block k (Nat.lt_of_lt_of_le hk h.size) hg).trans (h.block k hk hg)⟩
theorem Tch.drewN {g : Nat} {A B : World} (h : Tch g A B) (n : Nat) : Tch g A (B.drewN n) := ⟨h.os, h.tape, h.output, h.size, h.block⟩
theorem Tch.drew {g : Nat} {A B : World} (h : Tch g A B) : Tch g A B.drew := ⟨h.os, h.tape, h.output, h.size, h.block⟩
theorem Tch.set {g : Nat} {A B : World} (h : Tch g A B) (j : Nat) (v : Value) : Tch g A (B.setCell ⟨g, j, none⟩ v) :=
  ⟨h.os, h.tape, h.output, by simpa using h.size, fun k hk hg => (heap_setCell_other _ ⟨g, j, none⟩ k _ hg).trans (h.block k hk hg)⟩
theorem Tch.below {g n : Nat} {w A B : World} (hb : Below n w A) (h : Tch g A B) (hg : n ≤ g) (hn : n ≤ A.heap.size) : Below n w B :=
  ⟨h.os.trans hb.os, h.tape.trans hb.tape, h.output.trans hb.output, Nat.le_trans hb.size h.size, fun k hk => (h.block k (by omega) (by omega)).trans (hb.block k hk)⟩
theorem Tch.of_below {g : Nat} {A B : World} (h : Below A.heap.size A B) : Tch g A B := ⟨h.os, h.tape, h.output, h.size, fun k hk _ => h.block k hk⟩
theorem Tch.cell {g : Nat} {A B : World} (h : Tch g A B) {b o : Nat} {v : Value} (hv : A.cell? ⟨b, o, none⟩ = some v) (hb : b ≠ g) : B.cell? ⟨b, o, none⟩ = some v :=
  (World.cell?_of_block (a := ⟨b, o, none⟩) (h.block b (World.block_lt_of_cell? A _ hv) hb)).trans hv
theorem Tch.blk {g : Nat} {A B : World} (h : Tch g A B) {t : TypeId} {b : Nat} {vs : List Value} (hv : Blk t A b vs) (hb : b ≠ g) : Blk t B b vs := (h.block b hv.lt hb).trans hv

/-- Numbers as values. -/
def natsV (P : List Nat) : List Value := P.map fun x : Nat => Value.int .i64 (x : Int)
theorem natsV_set (P : List Nat) (v x : Nat) : natsV (P.set v x) = (natsV P).set v (.int .i64 (x : Int)) := by simp [natsV, List.map_set]
theorem natsV_at {P : List Nat} {v : Nat} (h : v < P.length) : (natsV P)[v]? = some (.int .i64 (pf P v : Int)) := by
  unfold natsV
  rw [List.getElem?_map, pf_get? h]; rfl

set_option maxRecDepth 100000 in
set_option maxHeartbeats 4000000 in
theorem find_any (l : List Eg) (N k : Nat) (P : List Nat) (R : Nat → Nat) (hU : UF l N k P R) (v : Nat) (hv : v < N) (lb g : Nat) (hne : lb ≠ g) (w : World) (hlb : w.cell? ⟨lb, 0, none⟩ = some (.slice (some ⟨g, 0, none⟩) N N)) (hB : Blk 3 w g (natsV P)) :
    Calls Tryz.prog 38 #[.int .i64 (v : Int), .pointer (some ⟨lb, 0, none⟩)] w fun e w' => e = .returned (.int .i64 (R v : Int)) ∧ ∃ P', UF l N k P' R ∧ pf P' (R v) = R v ∧ (∀ i, i < N → pf P i = R i → pf P' i = R i) ∧ Blk 3 w' g (natsV P') ∧ Tch g w w' := by
  have hmix := mixed
  have HU : Hid _ := hU
  have HBk : Hid _ := hB
  clear hU hB
  go_enter Tryz.func38, Tryz.ntmps38
  go_wp2
  go_loopw [0] (fun t wr => ∃ (x : Nat) (P' : List Nat), t = .int .i64 (x : Int) ∧ x < N ∧ Hid (R x = R v) ∧ Hid (UF l N k P' R) ∧ Hid (∀ i, i < N → pf P i = R i → pf P' i = R i) ∧ Hid (Blk 3 wr g (natsV P')) ∧ Hid (Tch g w wr)) (fun t _ => (intOf t).toNat)
  case atStart => exact ⟨v, P, rfl, hv, rfl, HU, fun _ _ h => h, HBk, Tch.refl _ _⟩
  case round =>
    obtain ⟨x, P', rfl, hx, HR, HU', HS', HB', HT⟩ := hrel
    have hl : P'.length = N := HU'.out.len
    have hxP : x < P'.length := by omega
    have hy := HU'.out.le x hx
    have c0 := HT.out.cell hlb hne
    have c1 : wr.cell? ⟨g, x, none⟩ = some (.int .i64 (pf P' x : Int)) := HB'.out.cell (natsV_at hxP)
    have c2 : wr.cell? ⟨g, pf P' x, none⟩ = some (.int .i64 (pf P' (pf P' x) : Int)) := HB'.out.cell (natsV_at (by omega))
    have f1 := HB'.out.frozen x
    have hxi : (x : Int) < (N : Int) := by omega
    have hyi : (pf P' x : Int) < (N : Int) := by omega
    have Hl : Hid _ := hl
    have HPx : Hid _ := hxP
    clear hl hxP
    by_cases he : pf P' x = x
    · have heb : ((pf P' x : Int) == (x : Int)) = true := by rw [he]; simp
      have HE : Hid _ := he
      clear he c2
      go_wp2
      go_ret
      have hrx := HU'.out.root x hx HE.out
      have e1 : R v = x := HR.out.symm.trans hrx
      exact ⟨by rw [e1]; rfl, P', HU'.out, by rw [e1]; exact HE.out, HS'.out, HB'.out, HT.out⟩
    · have heb : ((pf P' x : Int) == (x : Int)) = false := by rw [beq_eq_false_iff_ne]; omega
      have hlt : pf P' x < x := by omega
      have hz := HU'.out.le (pf P' x) (by omega)
      have HU2 : Hid _ := HU'.out.half hx
      have HS2 : Hid (∀ i, i < N → pf P i = R i → pf (P'.set x (pf P' (pf P' x))) i = R i) := fun i hi h => HU'.out.stays hx hi (HS'.out i hi h)
      have HB2 : Hid (Blk 3 (wr.setCell ⟨g, x, none⟩ (.int .i64 (pf P' (pf P' x) : Int))) g (natsV (P'.set x (pf P' (pf P' x))))) := by
        have := HB'.out.set x (.int .i64 (pf P' (pf P' x) : Int))
        rw [← natsV_set] at this
        exact this
      have HT2 : Hid _ := HT.out.set x (.int .i64 (pf P' (pf P' x) : Int))
      have HRz : Hid (R (pf P' (pf P' x)) = R v) := by
        show R (pf P' (pf P' x)) = R v
        rw [HU'.out.par _ (by omega), HU'.out.par _ hx]; exact HR.out
      have Hset : Hid (pf (P'.set x (pf P' (pf P' x))) x = pf P' (pf P' x)) := by
        show pf (P'.set x (pf P' (pf P' x))) x = pf P' (pf P' x)
        rw [pf_set HPx.out, if_pos rfl]
      generalize hy1 : pf P' x = y at *
      generalize hz1 : pf P' y = z at *
      clear he hy1 hz1
      go_wp2
      go_big_region_o
      go_wp2
      go_roundw
      case rel => exact ⟨z, _, rfl, by omega, HRz, HU2, HS2, HB2, HT2.out.drew⟩
      case measure => simp [intOf]; omega
end Go.Proofs.YthdhimcaojfcnaaGreat

namespace Go.Proofs.YthdhimcaojfcnaaGreat
open Go Go.Proofs Go.RowKit

set_option maxRecDepth 100000 in
set_option maxHeartbeats 2000000 in
theorem rises_any (l : List Int) (n : Int) (h0 : 0 ≤ n) (hn : n ≤ 4194304) (hl : l.length ≤ 8388608) (sv : Value) (w : World) (hI : Ints w.heap.size w sv l) :
    Calls Tryz.prog 28 #[sv, .int .i64 n] w fun r w' => r = .returned (.bool (rsB l n)) ∧ w' = w := by
  obtain ⟨p, c, rfl, ho⟩ := hI.openW
  have HO : Hid _ := fun (j : Nat) (hj : j < l.length) => ho (j := j) hj
  clear ho hI
  go_enter Tryz.func28, Tryz.ntmps28
  go_wp2
  go_loopw [5, 10] (fun lv i wr => ∃ (k : Nat) (least : Int), k ≤ l.length ∧ i = .int .i64 k ∧ lv = .int .i64 least ∧ Hid (RI l n k least) ∧ least ≤ n ∧ wr = w) (fun _ i _ => l.length - (intOf i).toNat)
  case atStart => exact ⟨0, 0, Nat.zero_le _, rfl, rfl, RI.start l n, h0, rfl⟩
  case round =>
    obtain ⟨k, least, hk, rfl, rfl, HR, hln, rfl⟩ := hrel
    by_cases hlt : k < l.length
    · have hkl : (k : Int) < (l.length : Int) := by omega
      obtain ⟨b, off, rfl, -, hc⟩ := HO.out k hlt
      have c0 := hc wr (Below.refl _ _) k hlt
      rw [at_get hlt] at c0
      have HLT : Hid (k < l.length) := hlt
      by_cases h1 : l[k] < least
      · have HE : Hid (rsB l n = false) := RI.low HR.out hlt h1
        generalize l[k] = x at c0 h1
        clear hlt hc
        go_wp2
        go_ret
        exact ⟨by rw [HE.out]; rfl, rfl⟩
      · by_cases h2 : n ≤ l[k]
        · have HE : Hid (rsB l n = false) := RI.high hlt h2
          generalize l[k] = x at c0 h1 h2
          clear hlt hc
          go_wp2
          go_ret
          exact ⟨by rw [HE.out]; rfl, rfl⟩
        · have HN : Hid _ := HR.out.next hlt (by omega) (by omega)
          have h3 := HR.out.2.1
          generalize l[k] = x at c0 h1 h2 HN
          clear hlt hc
          go_wp2
          exact ⟨⟨k + 1, x + 1, HLT.out, by go_num, rfl, HN, by omega, trivial⟩, by have := HLT.out; simp [intOf]; omega⟩
    · obtain rfl : k = l.length := by omega
      have HE : Hid (rsB l n = true) := RI.done HR.out
      go_wp2
      go_ret
      exact ⟨by rw [HE.out]; rfl, rfl⟩
set_option maxRecDepth 100000 in
set_option maxHeartbeats 4000000 in
theorem refRise_any (l : List Int) (n : Int) (h0 : 0 ≤ n) (hn : n ≤ 4194304) (hl : l.length ≤ 8388608) (sv : Value) (w : World) (hI : Ints w.heap.size w sv l) :
    Calls Tryz.prog 30 #[sv, .int .i64 n] w fun r w' => r = .returned (.bool (rsB l n)) ∧ ∃ q, w' = w.drewN q := by
  have hmix := mixed
  obtain ⟨p, c, rfl, ho⟩ := hI.openW
  have HO : Hid _ := fun (j : Nat) (hj : j < l.length) => ho (j := j) hj
  clear ho hI
  go_enter Tryz.func30, Tryz.ntmps30
  go_wp2
  go_loopw [5] (fun i wr => ∃ (k : Nat) (least : Int), k ≤ l.length ∧ i = .int .i64 k ∧ Hid (RI l n k least) ∧ ∃ q, wr = w.drewN q) (fun i _ => l.length - (intOf i).toNat)
  case atStart => exact ⟨0, 0, Nat.zero_le _, rfl, RI.start l n, 0, rfl⟩
  case round =>
    obtain ⟨k, least, hk, rfl, HR, q, rfl⟩ := hrel
    by_cases hlt : k < l.length
    · have hkl : (k : Int) < (l.length : Int) := by omega
      obtain ⟨b, off, rfl, -, hc⟩ := HO.out k hlt
      have c0 := hc w (Below.refl _ _) k hlt
      rw [at_get hlt] at c0
      have HLT : Hid (k < l.length) := hlt
      by_cases h1 : l[k] < 0
      · have HE : Hid (rsB l n = false) := RI.low HR.out hlt (by have := HR.out.2.1; omega)
        have hd1 : decide (l[k] < 0) = true := decide_eq_true h1
        generalize l[k] = x at c0 h1 hd1
        clear hlt hc
        go_wp2
        go_quiet (fail)
        go_wp2
        go_ret
        exact ⟨by rw [HE.out]; rfl, q + nq, World.drewN_drewN _ _ _⟩
      · have hd1 : decide (l[k] < 0) = false := decide_eq_false h1
        by_cases h2 : n ≤ l[k]
        · have HE : Hid (rsB l n = false) := RI.high hlt h2
          have hd2 : decide (n ≤ l[k]) = true := decide_eq_true h2
          generalize l[k] = x at c0 h1 h2 hd1 hd2
          clear hlt hc
          go_wp2
          go_quiet (fail)
          go_wp2
          go_ret
          exact ⟨by rw [HE.out]; rfl, q + nq, World.drewN_drewN _ _ _⟩
        · have hd2 : decide (n ≤ l[k]) = false := decide_eq_false h2
          by_cases hk0 : k = 0
          · subst hk0
            have h3 := HR.out.zero
            rw [Nat.add_zero] at c0
            have HN : Hid _ := HR.out.next hlt (by omega) (by omega)
            generalize l[0] = x at c0 h1 h2 hd1 hd2 HN
            clear hlt hc
            go_wp2
            go_quiet (fail)
            go_wp2
            exact ⟨⟨1, x + 1, HLT.out, rfl, HN, q + nq, rfl⟩, by have := HLT.out; simp [intOf]; omega⟩
          · obtain ⟨k, rfl⟩ : ∃ k', k = k' + 1 := ⟨k - 1, by omega⟩
            have hk' : k < l.length := by omega
            have c1 := hc w (Below.refl _ _) k hk'
            rw [at_get hk'] at c1
            have h3 := HR.out.prev hk'
            have hkp : (0 : Int) < (k : Int) + 1 := by omega
            have hkl2 : (k : Int) + 1 < (l.length : Int) := by omega
            have hkl3 : (k : Int) < (l.length : Int) := by omega
            by_cases h4 : l[k + 1] ≤ l[k]
            · have HE : Hid (rsB l n = false) := RI.low HR.out hlt (by omega)
              have hd4 : decide (l[k + 1] ≤ l[k]) = true := decide_eq_true h4
              generalize l[k + 1] = x at *
              generalize l[k] = y at *
              clear hlt hc h3 hk'
              go_wp2
              go_quiet (fail)
              go_wp2
              go_ret
              exact ⟨by rw [HE.out]; rfl, q + nq, World.drewN_drewN _ _ _⟩
            · have hd4 : decide (l[k + 1] ≤ l[k]) = false := decide_eq_false h4
              have HN : Hid _ := HR.out.next hlt (by omega) (by omega)
              generalize l[k + 1] = x at *
              generalize l[k] = y at *
              clear hlt hc h3 hk'
              go_wp2
              go_quiet (fail)
              go_wp2
              exact ⟨⟨k + 2, x + 1, HLT.out, by go_num, HN, q + nq, rfl⟩, by have := HLT.out; simp [intOf]; omega⟩
    · obtain rfl : k = l.length := by omega
      have HE : Hid (rsB l n = true) := RI.done HR.out
      go_wp2
      go_ret
      exact ⟨by rw [HE.out]; rfl, q, rfl⟩
end Go.Proofs.YthdhimcaojfcnaaGreat

namespace Go.Proofs.YthdhimcaojfcnaaGreat
open Go Go.Proofs Go.RowKit


set_option maxRecDepth 100000 in
set_option maxHeartbeats 4000000 in
theorem trueOnes_any (T : List Bool) (hT : T.length ≤ 4194304) (tv : Value) (w : World) (hI : Bools w.heap.size w tv T) :
    Calls Tryz.prog 35 #[tv] w fun r w' => ∃ lv, r = .returned lv ∧ w'.ownsRow w.heap.size 3 1 lv (trueL T).length ((trueL T).map (Value.int .i64)) ∧ Below w.heap.size w w' := by
  obtain ⟨i0, hi, hz0, hz1, hz2⟩ := info_parts infoI
  obtain ⟨p, c, rfl⟩ := hI.len
  have HI : Hid (Bools w.heap.size w (.slice p T.length c) T) := hI
  clear hI
  go_enter Tryz.func35, Tryz.ntmps35
  go_wp2
  go_loopw [3, 8] (fun lv iv wr => ∃ j : Nat, j ≤ T.length ∧ iv = .int .i64 j ∧ wr.ownsRow w.heap.size 3 1 lv (trueK T j).length ((trueK T j).map (Value.int .i64)) ∧ Below w.heap.size w wr) (fun _ i _ => T.length - (intOf i).toNat)
  case atStart => exact ⟨0, Nat.zero_le _, rfl, World.ownsRow_nil _ _ _ _, Below.refl _ _⟩
  case round =>
    obtain ⟨j, hj, rfl, hO, hb⟩ := hrel
    obtain ⟨pp, cc, rfl⟩ := owns_formP hO
    by_cases hlt : j < T.length
    · have hjl : (j : Int) < (T.length : Int) := by omega
      obtain ⟨b, off, rfl, hbb, hcap, hc⟩ := Vals.open (enc := Value.bool) HI.out hlt
      have c0 := hc wr hb j hlt
      have hlen := trueK_len T j
      have hst : Hid _ := trueK_succ T j
      have hbT : bAt T j = T[j] := by simp [bAt, hlt]
      rw [← hbT] at c0
      have HLT : Hid (j < T.length) := hlt
      clear hc hlt hbT
      cases hP : bAt T j with
      | false =>
        have HE : Hid (trueK T (j + 1) = trueK T j) := by unfold Hid; rw [hst.out, hP]; simp
        have HO2 : Hid _ := hO
        have HB2 : Hid _ := hb
        rw [hP] at c0
        clear hO hb hP
        go_wp2
        refine ⟨⟨j + 1, HLT.out, by go_num, ?_, HB2.out⟩, by have := HLT.out; simp [intOf]; omega⟩
        rw [HE.out]
        exact HO2.out
      | true =>
        have HE : Hid (trueK T (j + 1) = trueK T j ++ [(j : Int)]) := by unfold Hid; rw [hst.out, hP]; simp
        have hownA := hO.alloc (.cells #[.int .i64 (j : Int)] 3)
        have hnews := one_cell wr (.int .i64 (j : Int)) 3
        have hone : ∀ u ∈ [Value.int .i64 (j : Int)], u.oneCell' = true := by intro u hu; rw [List.mem_singleton.1 hu]; rfl
        have hmx : (trueK T j).length + 1 ≤ maxLen := by unfold maxLen; omega
        have hby : ((trueK T j).length + 1) * 8 ≤ 140737488355328 := by omega
        have hbs : w.heap.size ≤ (wr.alloc (.cells #[.int .i64 (j : Int)] 3)).heap.size := by have := hb.size; simp; omega
        have hlow : ∀ k, (Value.slice pp (trueK T j).length cc).ownBlock = some k → w.heap.size ≤ k := fun k e => (hO.lt k e).1
        have HB2 : Hid _ := hb
        rw [hP] at c0
        clear hO hb hP
        go_wp2_with (at_builtin; refine wpList_append_own_at _ rfl _ _ 25 rfl w.heap.size 3 i0 (.int .i64 0) 1 8 Tryz.underlying25 hi hz0 hz1 hz2 rfl (by decide) (.slice pp (trueK T j).length cc) _ _ rfl hownA ⟨wr.heap.size, 0, none⟩ 1 1 [.int .i64 (j : Int)] rfl rfl hnews hone hmx hby hbs ?_)
        intro v6 w6 hown6 hg6 hnil6 hat6
        obtain ⟨a6, m6, c6, rfl⟩ := owns_slice hown6
        have HO6 : Hid _ := hown6
        have HB6 : Hid (Below w.heap.size w w6) := (HB2.out.alloc HB2.out.size _).grown hg6 hbs hlow
        clear hown6 hg6 hnil6 hat6 hownA hnews hone hmx hby hbs hlow
        go_wp2
        refine ⟨⟨j + 1, HLT.out, by go_num, ?_, HB6.out⟩, by have := HLT.out; simp [intOf]; omega⟩
        rw [HE.out, List.length_append, List.map_append]
        exact HO6.out
    · obtain rfl : j = T.length := by omega
      have HO2 : Hid _ := hO
      clear hO
      go_wp2
      go_ret
      exact ⟨_, rfl, HO2.out, hb⟩
theorem ints_ownsT {W : World} {base : Nat} {v : Value} {l : List Int} {t : TypeId} (h : W.ownsRow base t 1 v l.length (l.map (Value.int .i64))) : Ints W.heap.size W v l := by
  rcases Nat.eq_zero_or_pos l.length with h0 | h0
  · obtain rfl : l = [] := List.eq_nil_of_length_eq_zero h0
    obtain ⟨p, c, rfl⟩ := owns_formP h
    exact Vals.nil _ _ _ _
  · obtain ⟨g, cap, rfl⟩ := owns_pos h h0
    have hlt := h.lt g rfl
    have hcap : l.length ≤ cap := by
      rcases h.2 with ⟨h1, _⟩ | ⟨g', cap', cur, h1, _, _, h2, _⟩
      · simp at h1
      · simp only [Value.slice.injEq] at h1
        obtain ⟨_, _, rfl⟩ := h1
        exact h2
    refine .inr ⟨g, 0, cap, rfl, hlt.2, hcap, fun j x hx => ?_⟩
    have hj := (List.getElem?_eq_some_iff.1 hx).1
    rw [Nat.zero_add, h.cellAt j (by omega), List.getElem?_map, hx]
    rfl
theorem infoBT : (Tryz.prog.info? 4).map (fun i => (i.zero, i.size, i.bytes)) = some (some (.bool false), 1, 1) := by kernel_rfl
theorem bools_madeT (n : Nat) : (madeCells (Value.bool false).cells (n * 1)).toList = (List.replicate n false).map Value.bool := by
  apply List.ext_getElem
  · simp [madeCells]
  · intro i h1 h2
    simp [madeCells, Value.cells, Nat.mod_one]
theorem Blk.boolsT {W : World} {g : Nat} {l : List Bool} {t : TypeId} (h : Blk t W g (l.map Value.bool)) {n : Nat} (hn : l.length = n) : Bools W.heap.size W (.slice (some ⟨g, 0, none⟩) n n) l := by
  subst hn
  exact .inr ⟨g, 0, l.length, rfl, h.lt, Nat.le_refl _, fun j x hx => by rw [Nat.zero_add]; exact h.cell (by rw [List.getElem?_map, hx]; rfl)⟩
theorem Blk.bcell {W : World} {g : Nat} {T : List Bool} {t : TypeId} (h : Blk t W g (T.map Value.bool)) {v : Nat} (hv : v < T.length) : W.cell? ⟨g, v, none⟩ = some (.bool (bAt T v)) :=
  h.cell (by rw [List.getElem?_map, bAt_get? hv]; rfl)
theorem Blk.flip {W : World} {g : Nat} {T : List Bool} {t : TypeId} (h : Blk t W g (T.map Value.bool)) (v : Nat) : Blk t (W.setCell ⟨g, v, none⟩ (.bool (!bAt T v))) g ((flipB T v).map Value.bool) := by
  have := h.set v (.bool (!bAt T v))
  rw [← List.map_set] at this
  exact this
theorem plc_at {m : Nat} {B : List Int} (h : plcB m B = true) {k : Nat} (hk : k < B.length) : ∃ i : Nat, B[k] = (i : Int) ∧ i < m := by
  have := plc_iff.1 h B[k] (List.getElem_mem hk)
  exact ⟨B[k].toNat, by omega, by omega⟩

set_option maxRecDepth 100000 in
set_option maxHeartbeats 8000000 in
theorem oddOf_any (N : Nat) (L : List Eg) (B : List Int) (hN : N ≤ 1048576) (hE : ∀ e ∈ L, e.1 < N ∧ e.2.1 < N) (hB : plcB L.length B = true) (hBl : B.length ≤ 8388608) (sv bv : Value) (w : World) (hl : Edges w.heap.size w sv (L.map edE)) (hI : Ints w.heap.size w bv B) :
    Calls Tryz.prog 26 #[.agg #[.int .i64 (N : Int), sv], bv] w fun r w' => ∃ lv, r = .returned lv ∧ w'.ownsRow w.heap.size 3 1 lv (oddV N L B).length ((oddV N L B).map (Value.int .i64)) ∧ Below w.heap.size w w' := by
  have hmix := mixed
  obtain ⟨p, c, rfl⟩ := hl.lenG
  obtain ⟨pb, cb, rfl, ho⟩ := hI.openW
  have HO : Hid _ := fun (j : Nat) (hj : j < B.length) => ho (j := j) hj
  clear ho
  obtain ⟨i0, hi, hz0, hz1, hz2⟩ := info_parts infoBT
  have hg1 : Grew w (w.alloc (.cells #[.int .i64 (N : Int), .slice p L.length c] 24)) := (Grew.refl w).alloc _
  have E1 : Hid ((w.alloc (.cells #[.int .i64 (N : Int), .slice p L.length c] 24)).heap.size = w.heap.size + 1) := by show _ = _; simp
  go_enter Tryz.func26, Tryz.ntmps26
  go_wp2_with (at_make; refine wpList_make_full _ rfl _ _ 49 rfl w.heap.size 4 i0 (.bool false) 1 Tryz.underlying49 hi hz0 hz1 .i64 .i64 _ _ N rfl rfl rfl rfl (by rw [hz2]; omega) (by unfold maxLen; omega) (by simp) ?_; intro w3 hown hgrow; have hb3 : Below (w.alloc (.cells #[.int .i64 (N : Int), .slice p L.length c] 24)).heap.size (w.alloc (.cells #[.int .i64 (N : Int), .slice p L.length c] 24)) w3 := (Below.refl _ _).grown hgrow (Nat.le_refl _) (fun k e => by cases e); have q0 : w3.cell? ⟨w.heap.size, 0, none⟩ = some (.int .i64 (N : Int)) := (hb3.cell (p := ⟨w.heap.size, 0, none⟩) (by rw [E1.out]; exact Nat.lt_succ_self _)).trans (new_cell rfl rfl); have q1 : w3.cell? ⟨w.heap.size, 1, none⟩ = some (.slice p L.length c) := (hb3.cell (p := ⟨w.heap.size, 1, none⟩) (by rw [E1.out]; exact Nat.lt_succ_self _)).trans (new_cell rfl rfl); have hbw : Below w.heap.size w w3 := hg1.below.trans (hb3.mono (by rw [E1.out]; omega)); rw [E1.out] at hown; have hrow := Blk.made hown; have hsz := hrow.lt; rw [bools_madeT, ← oddT_nil N L] at hrow;  have HRow : Hid (Blk 4 w3 (w.heap.size + 1) ((oddT N L (B.take 0)).map Value.bool)) := hrow; clear hown hgrow hb3 hrow; have hl1 : w.heap.size < w3.heap.size := by omega)
  obtain ⟨x, hx⟩ : ∃ n, w.heap.size = n := ⟨_, rfl⟩
  have HBW : Hid (Below x w w3) := by rw [← hx]; exact hbw
  rw [hx] at HRow hl1 hsz q0 q1 ⊢
  clear hg1 hbw hi hz0 hz1 hz2 E1
  go_loopw [14] (fun i wr => ∃ j : Nat, j ≤ B.length ∧ i = .int .i64 j ∧ Hid (Blk 4 wr (x + 1) ((oddT N L (B.take j)).map Value.bool)) ∧ Hid (Tch (x + 1) w3 wr)) (fun i _ => B.length - (intOf i).toNat)
  case atStart => exact ⟨0, Nat.zero_le _, rfl, HRow, Tch.refl _ _⟩
  case round =>
    obtain ⟨j, hj, rfl, HR, HT⟩ := hrel
    have d0 := HT.out.cell q0 (by omega)
    have d1 := HT.out.cell q1 (by omega)
    have hbr : Below x w wr := HT.out.below HBW.out (by omega) (by omega)
    by_cases hlt : j < B.length
    · have hjl : (j : Int) < (B.length : Int) := by omega
      obtain ⟨b2, off2, rfl, hb2, hc2⟩ := HO.out j hlt
      rw [hx] at hb2 hc2
      have c0 := hc2 wr hbr j hlt
      rw [at_get hlt] at c0
      obtain ⟨i, hi1, hi2⟩ := plc_at hB hlt
      rw [hi1] at c0
      obtain ⟨b, off, rfl, hb1, hcap, hc⟩ := hl.eg hi2
      rw [hx] at hc hb1
      obtain ⟨e0, e1, e2⟩ := hc wr hbr i hi2
      obtain ⟨hu, hv⟩ := hE L[i] (List.getElem_mem hi2)
      have heA : edgeAt L (i : Int) = L[i] := edgeAt_of (List.getElem?_eq_getElem hi2)
      have HST : Hid (flipB (flipB (oddT N L (B.take j)) L[i].1) L[i].2.1 = oddT N L (B.take (j + 1))) := by
        have h1 := oddT_step (N := N) (L := L) (B := B.take j) (i := (i : Int)) (by rw [heA]; exact hu) (by rw [heA]; exact hv)
        rw [heA] at h1
        have h2 : B.take (j + 1) = B.take j ++ [(i : Int)] := by rw [List.take_succ_eq_append_getElem hlt, hi1]
        show _ = _
        rw [h2]; exact h1
      have HLT : Hid (j < B.length) := hlt
      have hi3 : (i : Int) < (L.length : Int) := by omega
      have hwx := World.block_lt_of_cell? wr _ d0
      have hwx1 := HR.out.lt
      have HlT : Hid ((oddT N L (B.take j)).length = N) := oddT_len _ _ _
      generalize oddT N L (B.take j) = T at *
      generalize L[i] = e at *
      obtain ⟨u, v, wt⟩ := e
      simp only at hu hv e0 e1 e2 HST
      clear hc hc2 hi1 heA hlt hbr
      have HE6 : Hid (Blk 46 (wr.alloc (.cells #[.int .i64 (u : Int), .int .i64 (v : Int), .int .i64 (wt : Int)] 46)) wr.heap.size [.int .i64 (u : Int), .int .i64 (v : Int), .int .i64 (wt : Int)]) := heap_alloc_new wr _
      have HB6 : Hid (Below wr.heap.size wr (wr.alloc (.cells #[.int .i64 (u : Int), .int .i64 (v : Int), .int .i64 (wt : Int)] 46))) := (Below.refl _ _).alloc (Nat.le_refl _) _
      go_wp2
      obtain ⟨w6, hw6⟩ : ∃ W, wr.alloc (.cells #[.int .i64 (u : Int), .int .i64 (v : Int), .int .i64 (wt : Int)] 46) = W := ⟨_, rfl⟩
      rw [hw6] at HE6 HB6 ⊢
      clear hw6 e0 e1 e2 d0 d1 c0
      have HT6 : Hid (Tch (x + 1) w3 w6) := HT.out.trans (Tch.of_below HB6.out)
      have HR6 : Hid (Blk 4 w6 (x + 1) (T.map Value.bool)) := HR.out.go HB6.out
      have hne6 : wr.heap.size ≠ x + 1 := by omega
      obtain ⟨eb, heb⟩ : ∃ n, wr.heap.size = n := ⟨_, rfl⟩
      rw [heb] at HE6 hne6 ⊢
      clear HB6 HR HT
      have hu' : (u : Int) < (N : Int) := by omega
      have hv' : (v : Int) < (N : Int) := by omega
      have t0 := HR6.out.bcell (v := u) (by rw [HlT.out]; exact hu)
      have f0 := HR6.out.frozen u
      have x0 := HE6.out.cell (j := 0) rfl
      have HR7 : Hid _ := HR6.out.flip u
      have HT7 : Hid _ := HT6.out.set u (.bool (!bAt T u))
      have HE7 : Hid (Blk 46 (w6.setCell ⟨x + 1, u, none⟩ (.bool (!bAt T u))) eb [.int .i64 (u : Int), .int .i64 (v : Int), .int .i64 (wt : Int)]) := HE6.out.other hne6 _
      have HlT2 : Hid ((flipB T u).length = N) := by show _ = _; rw [flipB_len]; exact HlT.out
      clear HT6 HR6 HE6
      go_big_region_o
      obtain ⟨w7, hw7⟩ : ∃ W, (w6.setCell ⟨x + 1, u, none⟩ (.bool (!bAt T u))).drew = W := ⟨_, rfl⟩
      have HR8 : Hid (Blk 4 w7 (x + 1) ((flipB T u).map Value.bool)) := by rw [← hw7]; exact HR7.out
      have HT8 : Hid (Tch (x + 1) w3 w7) := by rw [← hw7]; exact HT7.out.drew
      have HE8 : Hid (Blk 46 w7 eb [.int .i64 (u : Int), .int .i64 (v : Int), .int .i64 (wt : Int)]) := by rw [← hw7]; exact HE7.out
      rw [hw7]
      clear hw7 HR7 HT7 HE7 t0 f0 x0
      generalize flipB T u = T2 at *
      have t0 := HR8.out.bcell (v := v) (by rw [HlT2.out]; exact hv)
      have f0 := HR8.out.frozen v
      have x1 := HE8.out.cell (j := 1) rfl
      have HR9 : Hid _ := HR8.out.flip v
      have HT9 : Hid _ := HT8.out.set v (.bool (!bAt T2 v))
      clear HT8 HR8 HE8
      go_wp2
      go_big_region_o
      go_wp2
      refine ⟨⟨j + 1, HLT.out, by go_num, ?_, HT9.out.drew⟩, by have := HLT.out; simp [intOf]; omega⟩
      rw [← HST.out]
      exact HR9.out
    · obtain rfl : j = B.length := by omega
      have HF : Hid (Bools wr.heap.size wr (.slice (some ⟨x + 1, 0, none⟩) N N) (oddT N L B)) := by
        have h1 := HR.out
        rw [List.take_length] at h1
        exact h1.boolsT (oddT_len _ _ _)
      have htr := trueOnes_any (oddT N L B) (by rw [oddT_len]; omega) _ wr HF.out
      have HBr : Hid (Below x w wr) := hbr
      clear hbr HR HT d0 d1
      go_wp2_with fail
      refine htr.mono ?_
      rintro e w9 ⟨lv, rfl, ho9, hb9⟩
      have HO9 : Hid _ := ho9
      clear ho9 htr
      go_wp2
      go_ret
      rw [hx]
      exact ⟨lv, rfl, owns_base HO9.out (by have := HBr.out.size; omega), HBr.out.trans (hb9.mono (by have := HBr.out.size; omega))⟩
end Go.Proofs.YthdhimcaojfcnaaGreat
