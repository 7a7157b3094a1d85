/-
  kuratowski.eachTwo, kuratowski.across.
-/
import Derived.Test.YtgjaikekpgdehaaXKPairs
namespace Go.Proofs.Ytgjaikekpgdehaa
open Go Go.Proofs Go.RowKit

/-- All pairs of the first j with one behind. -/
def twoTo (C : List Int) : Nat → List (Int × Int)
  | 0 => []
  | j + 1 => twoTo C j ++ (C.drop (j + 1)).map fun b => (C.getD j 0, b)
def preT (C : List Int) (j k : Nat) : List (Int × Int) := twoTo C j ++ ((C.drop (j + 1)).take k).map fun b => (C.getD j 0, b)
theorem preT_zero (C : List Int) (j : Nat) : preT C j 0 = twoTo C j := by simp [preT]
theorem preT_full (C : List Int) (j : Nat) : preT C j (C.drop (j + 1)).length = twoTo C (j + 1) := by unfold preT; rw [List.take_length]; rfl
theorem preT_step {C : List Int} {j k : Nat} (h : k < (C.drop (j + 1)).length) : preT C j (k + 1) = preT C j k ++ [(C.getD j 0, (C.drop (j + 1))[k])] := by
  unfold preT
  rw [List.take_add_one, List.getElem?_eq_getElem h, List.map_append, List.append_assoc]
  rfl
theorem twoTo_len (C : List Int) : ∀ j, (twoTo C j).length ≤ j * C.length
  | 0 => by simp [twoTo]
  | j + 1 => by
    have := twoTo_len C j
    rw [twoTo, List.length_append, List.length_map, List.length_drop, Nat.succ_mul]
    omega
theorem preT_len {C : List Int} (hC : C.length ≤ 100) {j k : Nat} (hj : j ≤ C.length) : (preT C j k).length ≤ 10100 := by
  have h1 := twoTo_len C j
  have h2 : j * C.length ≤ 100 * 100 := Nat.mul_le_mul (by omega) hC
  unfold preT
  rw [List.length_append, List.length_map, List.length_take, List.length_drop]
  omega

set_option maxRecDepth 100000 in
set_option maxHeartbeats 4000000 in
theorem eachTwo_any (C : List Int) (hC : C.length ≤ 100) (sv : Value) (w : World) (hl : Ints w.heap.size w sv C) :
    Calls Try.prog 44 #[sv] w fun r w' => ∃ pv, r = .returned pv ∧ Prs w'.heap.size w' pv (twoTo C C.length) ∧ Below w.heap.size w w' := by
  obtain ⟨p, c, rfl⟩ := hl.len
  obtain ⟨k0, hk, hy0, hy1, hy2⟩ := info_parts infoP2
  go_enter Try.func44, Try.ntmps44
  go_wp2
  go_loopw [3, 10] (fun pv i wr => ∃ j : Nat, j ≤ C.length ∧ i = .int .i64 j ∧ wr.ownsRow w.heap.size 83 2 pv (twoTo C j).length (flatP (twoTo C j)) ∧ Below w.heap.size w wr) (fun _ i _ => C.length - (intOf i).toNat)
  case atStart => exact ⟨0, Nat.zero_le _, rfl, World.ownsRow_nil _ _ _ _, Below.refl _ _⟩
  case round =>
    obtain ⟨j, hj, rfl, hO, hb⟩ := hrel
    obtain ⟨pp, cc, rfl⟩ := owns_form hO
    by_cases hlt : j < C.length
    · have hjl : (j : Int) < (C.length : Int) := by omega
      obtain ⟨b, off, rfl, hbb, hcap, hcx⟩ := Vals.open hl hlt
      have c0 := hcx wr hb j hlt
      have hgd : C.getD j 0 = C[j] := by simp [hlt]
      obtain ⟨q, hsl, hq⟩ := slice_from b off C.length c (j + 1) (by omega) hcap (by omega)
      have HCX : Hid (∀ k, j + 1 + k < C.length → q = some ⟨b, off + (j + 1), none⟩ ∧ ∀ W, Below w.heap.size w W → W.cell? ⟨b, off + (j + 1) + k, none⟩ = some (.int .i64 ((C.drop (j + 1)).getD k 0))) := fun k hk => by
        refine ⟨hq (by omega), fun W hW => ?_⟩
        have := hcx W hW (j + 1 + k) hk
        rw [show off + (j + 1) + k = off + (j + 1 + k) by omega, this]
        simp [List.getD_eq_getElem?_getD, List.getElem?_drop, hk]
      have HFL : Hid _ := preT_full C j
      have hdl : (C.drop (j + 1)).length = C.length - (j + 1) := List.length_drop
      rw [hdl] at HFL
      have HDL : Hid _ := hdl
      rw [← preT_zero] at hO ⊢
      have HGD : Hid _ := hgd
      generalize C[j] = cj at *
      have hC2 : Hid (C.length ≤ 100) := hC
      obtain ⟨m, hm⟩ : ∃ m, C.length - (j + 1) = m := ⟨_, rfl⟩
      rw [hm] at hsl HFL HDL
      have hsl' : ∀ W : World, (Instr.sliceAt 25 (.slice (some ⟨b, off, none⟩) C.length c) (some (.int .i64 ((j : Int) + 1))) none none).run Try.prog W = .ok (.slice q m (c - (j + 1))) W := hsl
      clear hgd hq hcx hdl hl hsl
      go_wp2
      go_loopw [3, 20] (fun pv i wr => ∃ k : Nat, k ≤ m ∧ i = .int .i64 k ∧ wr.ownsRow w.heap.size 83 2 pv (preT C j k).length (flatP (preT C j k)) ∧ Below w.heap.size w wr) (fun _ i _ => m - (intOf i).toNat)
      case atStart => exact ⟨0, Nat.zero_le _, rfl, hO, hb⟩
      case round =>
        clear hO hb c0
        obtain ⟨k, hkm, rfl, hO, hb⟩ := hrel
        obtain ⟨pp, cc, rfl⟩ := owns_form hO
        have hlb := preT_len hC2.out (j := j) (k := k) hj
        by_cases hkl : k < m
        · obtain ⟨rfl, hcw⟩ := HCX.out k (by omega)
          have c1 := hcw wr hb
          have hkd : k < (C.drop (j + 1)).length := by rw [HDL.out]; exact hkl
          have hkl' : (k : Int) < (m : Int) := by omega
          have HST : Hid (preT C j (k + 1) = preT C j k ++ [(cj, (C.drop (j + 1)).getD k 0)]) := by
            unfold Hid
            rw [preT_step hkd, HGD.out, List.getD_eq_getElem?_getD, List.getElem?_eq_getElem hkd]
            rfl
          generalize (C.drop (j + 1)).getD k 0 = x at *
          generalize preT C j k = R at *
          have hownA := hO.alloc (.cells #[.int .i64 cj, .int .i64 x] 83)
          have hnews := two_news wr (.int .i64 cj) (.int .i64 x) 83
          have hone := oneP (cj, x)
          have hmx : R.length + 1 ≤ maxLen := by unfold maxLen; omega
          have hby : (R.length + 1) * 16 ≤ 140737488355328 := by omega
          have hbs : w.heap.size ≤ (wr.alloc (.cells #[.int .i64 cj, .int .i64 x] 83)).heap.size := by have := hb.size; simp; omega
          have hlow : ∀ q, (Value.slice pp R.length cc).ownBlock = some q → w.heap.size ≤ q := fun q hq => (hO.lt q hq).1
          have HB : Hid _ := hb
          have hcb : m ≤ c - (j + 1) := by omega
          clear hO hb hcw
          go_wp2_with (at_builtin; refine wpList_append_own_at _ rfl _ _ 71 rfl w.heap.size 83 k0 (.agg #[.int .i64 0, .int .i64 0]) 2 16 Try.underlying71 hk hy0 hy1 hy2 rfl (by decide) (.slice pp R.length cc) _ _ rfl hownA ⟨wr.heap.size, 0, none⟩ 1 1 (encPc (cj, x)) rfl rfl hnews hone hmx hby hbs ?_)
          intro v7 w7 hown7 hg7 hnil7 hat7
          obtain ⟨a7, c7, rfl⟩ := owns_form hown7
          have HB7 : Hid (Below w.heap.size w w7) := (Below.alloc HB.out (Below.size HB.out) _).grown hg7 hbs hlow
          have HO7 : Hid _ := hown7
          clear hown7 hg7 hnil7 hat7 hownA hnews hone hmx hby hbs hlow
          go_wp2
          refine ⟨⟨k + 1, by omega, by go_num, ?_, HB7.out⟩, by simp [intOf]; omega⟩
          rw [HST.out, List.length_append, flatP_snoc]
          exact HO7.out
        · obtain rfl : k = m := by omega
          rw [HFL.out] at hO ⊢
          go_wp2
          exact ⟨⟨j + 1, by omega, by go_num, hO, hb⟩, by simp [intOf]; omega⟩
    · obtain rfl : j = C.length := by omega
      have HP : Hid _ := Prs.of_owns hO
      obtain ⟨R, HR⟩ : ∃ R, Hid (twoTo C C.length = R) := ⟨_, rfl⟩
      rw [HR.out] at HP ⊢
      go_wp2
      go_ret
      exact ⟨_, rfl, by rw [HR.out]; exact HP.out, hb⟩

/-- All pairs of one of each side, the lesser one first. -/
def acrTo (A B : List Int) : Nat → List (Int × Int)
  | 0 => []
  | j + 1 => acrTo A B j ++ B.map fun b => (min (A.getD j 0) b, max (A.getD j 0) b)
def preA (A B : List Int) (j k : Nat) : List (Int × Int) := acrTo A B j ++ (B.take k).map fun b => (min (A.getD j 0) b, max (A.getD j 0) b)
theorem preA_zero (A B : List Int) (j : Nat) : preA A B j 0 = acrTo A B j := by simp [preA]
theorem preA_full (A B : List Int) (j : Nat) : preA A B j B.length = acrTo A B (j + 1) := by unfold preA; rw [List.take_length]; rfl
theorem preA_step {A B : List Int} {j k : Nat} (h : k < B.length) : preA A B j (k + 1) = preA A B j k ++ [(min (A.getD j 0) B[k], max (A.getD j 0) B[k])] := by
  unfold preA
  rw [List.take_add_one, List.getElem?_eq_getElem h, List.map_append, List.append_assoc]
  rfl
theorem acrTo_len (A B : List Int) : ∀ j, (acrTo A B j).length = j * B.length
  | 0 => by simp [acrTo]
  | j + 1 => by
    have := acrTo_len A B j
    rw [acrTo, List.length_append, List.length_map, Nat.succ_mul, this]
theorem preA_len {A B : List Int} (hA : A.length ≤ 100) (hB : B.length ≤ 100) {j k : Nat} (hj : j ≤ A.length) : (preA A B j k).length ≤ 10100 := by
  have h1 := acrTo_len A B j
  have h2 : j * B.length ≤ 100 * 100 := Nat.mul_le_mul (by omega) hB
  unfold preA
  rw [List.length_append, List.length_map, List.length_take]
  omega

set_option maxRecDepth 100000 in
set_option maxHeartbeats 4000000 in
theorem across_any (A B : List Int) (hA : A.length ≤ 100) (hB : B.length ≤ 100) (sa sb : Value) (w : World) (ha : Ints w.heap.size w sa A) (hbI : Ints w.heap.size w sb B) :
    Calls Try.prog 46 #[sa, sb] w fun r w' => ∃ pv, r = .returned pv ∧ Prs w'.heap.size w' pv (acrTo A B A.length) ∧ Below w.heap.size w w' := by
  obtain ⟨p, c, rfl⟩ := ha.len
  obtain ⟨pb, cb, rfl⟩ := hbI.len
  obtain ⟨k0, hk, hy0, hy1, hy2⟩ := info_parts infoP2
  go_enter Try.func46, Try.ntmps46
  go_wp2
  go_loopw [5, 12] (fun pv i wr => ∃ j : Nat, j ≤ A.length ∧ i = .int .i64 j ∧ wr.ownsRow w.heap.size 83 2 pv (acrTo A B j).length (flatP (acrTo A B j)) ∧ Below w.heap.size w wr) (fun _ i _ => A.length - (intOf i).toNat)
  case atStart => exact ⟨0, Nat.zero_le _, rfl, World.ownsRow_nil _ _ _ _, Below.refl _ _⟩
  case round =>
    obtain ⟨j, hj, rfl, hO, hb⟩ := hrel
    obtain ⟨pp, cc, rfl⟩ := owns_form hO
    by_cases hlt : j < A.length
    · have hjl : (j : Int) < (A.length : Int) := by omega
      obtain ⟨b, off, rfl, hbb, hcap, hcx⟩ := Vals.open ha hlt
      have c0 := hcx wr hb j hlt
      have hgd : A.getD j 0 = A[j] := by simp [hlt]
      have HFL : Hid _ := preA_full A B j
      rw [← preA_zero] at hO ⊢
      have HGD : Hid _ := hgd
      generalize A[j] = cj at *
      have HA : Hid (A.length ≤ 100) := hA
      have HBB : Hid (B.length ≤ 100) := hB
      have HI : Hid (Ints w.heap.size w (.slice pb B.length cb) B) := hbI
      clear hgd hcx ha hbI
      go_wp2
      go_loopw [5, 18] (fun pv i wr => ∃ k : Nat, k ≤ B.length ∧ i = .int .i64 k ∧ wr.ownsRow w.heap.size 83 2 pv (preA A B j k).length (flatP (preA A B j k)) ∧ Below w.heap.size w wr) (fun _ i _ => B.length - (intOf i).toNat)
      case atStart => exact ⟨0, Nat.zero_le _, rfl, hO, hb⟩
      case round =>
        clear hO hb c0
        obtain ⟨k, hkm, rfl, hO, hb⟩ := hrel
        obtain ⟨pp, cc, rfl⟩ := owns_form hO
        have hlb := preA_len HA.out HBB.out (j := j) (k := k) hj
        by_cases hkl : k < B.length
        · obtain ⟨b2, off2, rfl, hbb2, hcap2, hcx2⟩ := Vals.open HI.out hkl
          have c1 := hcx2 wr hb k hkl
          have hkl' : (k : Int) < (B.length : Int) := by omega
          have HST : Hid (preA A B j (k + 1) = preA A B j k ++ [(min cj B[k], max cj B[k])]) := by
            unfold Hid
            rw [preA_step hkl, HGD.out]
          generalize B[k] = x at *
          generalize preA A B j k = R at *
          have hownA := hO.alloc (.cells #[.int .i64 (min cj x), .int .i64 (max cj x)] 83)
          have hnews := two_news wr (.int .i64 (min cj x)) (.int .i64 (max cj x)) 83
          have hone := oneP (min cj x, max cj x)
          have hmx : R.length + 1 ≤ maxLen := by unfold maxLen; omega
          have hby : (R.length + 1) * 16 ≤ 140737488355328 := by omega
          have hbs : w.heap.size ≤ (wr.alloc (.cells #[.int .i64 (min cj x), .int .i64 (max cj x)] 83)).heap.size := by have := hb.size; simp; omega
          have hlow : ∀ q, (Value.slice pp R.length cc).ownBlock = some q → w.heap.size ≤ q := fun q hq => (hO.lt q hq).1
          have HB : Hid _ := hb
          clear hO hb hcx2
          go_wp2_with (at_builtin; refine wpList_append_own_at _ rfl _ _ 71 rfl w.heap.size 83 k0 (.agg #[.int .i64 0, .int .i64 0]) 2 16 Try.underlying71 hk hy0 hy1 hy2 rfl (by decide) (.slice pp R.length cc) _ _ rfl hownA ⟨wr.heap.size, 0, none⟩ 1 1 (encPc (min cj x, max cj x)) rfl rfl hnews hone hmx hby hbs ?_)
          intro v7 w7 hown7 hg7 hnil7 hat7
          obtain ⟨a7, c7, rfl⟩ := owns_form hown7
          have HB7 : Hid (Below w.heap.size w w7) := (Below.alloc HB.out (Below.size HB.out) _).grown hg7 hbs hlow
          have HO7 : Hid _ := hown7
          clear hown7 hg7 hnil7 hat7 hownA hnews hone hmx hby hbs hlow
          go_wp2
          refine ⟨⟨k + 1, by omega, by go_num, ?_, HB7.out⟩, by simp [intOf]; omega⟩
          rw [HST.out, List.length_append, flatP_snoc]
          exact HO7.out
        · obtain rfl : k = B.length := by omega
          rw [HFL.out] at hO ⊢
          go_wp2
          exact ⟨⟨j + 1, by omega, by go_num, hO, hb⟩, by simp [intOf]; omega⟩
    · obtain rfl : j = A.length := by omega
      have HP : Hid _ := Prs.of_owns hO
      obtain ⟨R, HR⟩ : ∃ R, Hid (acrTo A B A.length = R) := ⟨_, rfl⟩
      rw [HR.out] at HP ⊢
      go_wp2
      go_ret
      exact ⟨_, rfl, by rw [HR.out]; exact HP.out, hb⟩
end Go.Proofs.Ytgjaikekpgdehaa
