/-
  Contracts of natural.addTimes and natural.Mul.
-/
import Derived.Deep.RegionWith
import Derived.Test.YtkalknmindgljaaDoorAdd
namespace Go.Proofs.YtkalknmindgljaaDoor
open Go Go.Proofs Go.RowKit Go.Shelf

/-- A piece of code that is left in no other way than at its end. -/
def NP (Q : Exit → Act → World → Prop) : Exit → Act → World → Prop
  | .normal, a, w => Q .normal a w
  | _, _, _ => False
theorem wp_np {P : Program} {c : Code} {Q : Exit → Act → World → Prop} {a : Act} {w : World} (h : c.wp P (NP Q) a w) : c.wp P Q a w := wp_mono h fun e a w hq => by cases e <;> first | exact hq | exact hq.elim
theorem wpIn_np {F : Fence} {n : Nat} {P : Program} {c : Code} {Q : Exit → Act → World → Prop} {a : Act} {w : World} (h : c.wpIn F n P (NP Q) a w) : c.wpIn F n P Q a w := wpIn_mono h fun e a w hq => by cases e <;> first | exact hq | exact hq.elim

theorem mul_le_B {x t : Int} (hx : 0 ≤ x ∧ x < 4294967296) (ht : 0 ≤ t ∧ t < 4294967296) : 0 ≤ x * t ∧ x * t ≤ 18446744065119617025 := by
  refine ⟨Int.mul_nonneg hx.1 ht.1, ?_⟩
  have h1 : x * t ≤ 4294967295 * t := Int.mul_le_mul_of_nonneg_right (by omega) ht.1
  omega
theorem times_step (po pj U' Uz Ub t cv bj sj : Int) (h : U' + cv * (po * pj) = Uz + t * Ub * po) :
    U' + po * pj * ((cv + (bj * t + sj)) % 4294967296) + (cv + (bj * t + sj)) / 4294967296 * (po * pj * 4294967296) = Uz + po * pj * sj + t * (Ub + pj * bj) * po := by
  have e : cv + (bj * t + sj) = 4294967296 * ((cv + (bj * t + sj)) / 4294967296) + (cv + (bj * t + sj)) % 4294967296 := (Int.mul_ediv_add_emod _ _).symm
  generalize (cv + (bj * t + sj)) / 4294967296 = q at *
  generalize (cv + (bj * t + sj)) % 4294967296 = r at *
  have : (po * pj) * (cv + (bj * t + sj)) = (po * pj) * (4294967296 * q + r) := by rw [e]
  grind
/-- What a row has become by adding a multiple of b from place o on, as far as place j of b. -/
structure Added (zs zs' b : List Int) (o j : Nat) (t cv : Int) : Prop where
  len : zs'.length = zs.length
  dig : Dig zs'
  low : ∀ i, i < o → nth zs' i = nth zs i
  high : ∀ i, o + j ≤ i → nth zs' i = nth zs i
  bound : 0 ≤ cv ∧ cv < 4294967296
  sum : U zs' (o + j) + cv * pB (o + j) = U zs (o + j) + t * U b j * pB o
theorem Added.start {zs b : List Int} {o : Nat} {t : Int} (h : Dig zs) : Added zs zs b o 0 t 0 := ⟨rfl, h, fun _ _ => rfl, fun _ _ => rfl, by omega, by simp [U]⟩
theorem Added.step {zs zs' b : List Int} {o j : Nat} {t cv : Int} (h : Added zs zs' b o j t cv) (hb : Dig b) (ht : 0 ≤ t ∧ t < 4294967296) (hj : o + j < zs.length) :
    Added zs (zs'.set (o + j) ((cv + (nth b j * t + nth zs' (o + j))) % 4294967296)) b o (j + 1) t ((cv + (nth b j * t + nth zs' (o + j))) / 4294967296) := by
  have h1 := mul_le_B (hb.get j) ht
  have h2 := h.dig.get (o + j)
  have h3 := h.bound
  refine ⟨by rw [List.length_set]; exact h.len, h.dig.set _ (by omega), fun i hi => ?_, fun i hi => ?_, by omega, ?_⟩
  · rw [nth_set_ne (by omega)]; exact h.low i hi
  · rw [nth_set_ne (by omega)]; exact h.high i (by omega)
  · rw [← Nat.add_assoc, U_set_succ (by rw [h.len]; exact hj), pB_succ]
    simp only [U]
    rw [h.high (o + j) (Nat.le_refl _), pB_add]
    have := h.sum
    rw [pB_add] at this
    exact times_step _ _ _ _ _ _ _ _ _ this

theorem Row.drewN {q : IntKind} {t : TypeId} {W : World} {g : Nat} {zs : List Int} (h : Row q t W g zs) (n : Nat) : Row q t (W.drewN n) g zs := h
theorem Seg.drew {q : IntKind} {n₀ : Nat} {W : World} {sv : Value} {zs : List Int} (h : Seg q n₀ W sv zs) : Seg q n₀ W.drew sv zs := h
theorem Row.drew {q : IntKind} {t : TypeId} {W : World} {g : Nat} {zs : List Int} (h : Row q t W g zs) : Row q t W.drew g zs := h

set_option maxRecDepth 100000 in
set_option maxHeartbeats 1000000 in
theorem addTimes_any {b zs : List Int} {w : World} {sb : Value} {n₀ g o n c : Nat} {t : Int} (hB : U32s n₀ w sb b) (hr : Row .u32 42 w g zs) (hg : n₀ ≤ g) (db : Dig b) (dz : Dig zs) (hb : b.length ≤ n) (hn : o + n = zs.length) (hz : zs.length ≤ 4294967296) (ht : 0 ≤ t ∧ t < 4294967296) :
    Calls Tryd.prog 44 #[.slice (some ⟨g, o, none⟩) n c, sb, .int .u32 t] w fun e w' => ∃ cv zs', e = .returned (.int .u32 cv) ∧ Row .u32 42 w' g zs' ∧ Added zs zs' b o b.length t cv ∧ Below g w w' := by
  obtain ⟨pb, cb, rfl⟩ := hB.len
  go_enter Tryd.func44, Tryd.ntmps44
  go_wp2
  go_loopw [7, 11] (fun c i wr => ∃ (j : Nat) (cv : Int) (zs' : List Int), j ≤ b.length ∧ i = .int .i64 j ∧ c = .int .u64 cv ∧ Row .u32 42 wr g zs' ∧ Below g w wr ∧ Added zs zs' b o j t cv) (fun _ i _ => b.length - (intOf i).toNat)
  case atStart => exact ⟨0, 0, _, Nat.zero_le _, rfl, rfl, hr, Below.refl _ _, Added.start dz⟩
  case round =>
    obtain ⟨j, cv, zs', hj, rfl, rfl, hrr, hnx, hadd⟩ := hrel
    have hbd := hadd.bound
    by_cases hlt : j < b.length
    · have hBr := Seg.below (hnx.mono hg) hB
      obtain ⟨b1, o1, c1, e1, hb1, hl1, hc1⟩ := hBr.pos (by omega)
      simp only [Value.slice.injEq] at e1
      obtain ⟨rfl, _, rfl⟩ := e1
      have hcb := hc1 j hlt
      have HL : Hid (zs'.length = zs.length) := hadd.len
      have hcz := hrr.cell (j := o + j) (by rw [hadd.len]; omega)
      have hfz := hrr.frozen (o + j)
      have hstep := hadd.step db ht (by omega)
      have hm := mul_le_B (db.get j) ht
      have hgz := hadd.dig.get (o + j)
      have hgb := db.get j
      clear HL
      go_wp2
      go_quiet (fail)
      go_wp2
      go_roundw
      case rel => exact ⟨j + 1, _, _, by omega, by go_num, rfl, Row.set (hrr.drewN nq) _ _, (below_drewN hnx _).setCell (p := ⟨g, o + j, none⟩) (Nat.le_refl _) _, hstep⟩
      case measure => simp [intOf]; omega
    · obtain rfl : j = b.length := by omega
      go_wp2
      go_ret
      exact ⟨cv, zs', rfl, hrr, hadd, hnx⟩

structure MulInv (p q zs : List Int) (k : Nat) : Prop where
  len : zs.length = p.length + q.length
  dig : Dig zs
  sum : U zs (k + q.length) = U p k * val q
  high : ∀ i, k + q.length ≤ i → nth zs i = 0
theorem nth_replicate (n j : Nat) : nth (List.replicate n 0) j = 0 := by
  by_cases h : j < n
  · rw [nth_lt (by simpa using h)]; simp
  · rw [nth_ge (by simp; omega)]
theorem U_zero {x : List Int} {n : Nat} (h : ∀ j, j < n → nth x j = 0) : U x n = 0 := by
  induction n with
  | zero => rfl
  | succ n ih => simp only [U]; rw [ih (fun j hj => h j (by omega)), h n (by omega)]; omega
theorem MulInv.start (p q : List Int) : MulInv p q (List.replicate (p.length + q.length) 0) 0 :=
  ⟨by simp, Dig.replicate _, by rw [U_zero (fun j _ => nth_replicate _ j)]; simp [U], fun i _ => nth_replicate _ i⟩
theorem MulInv.step {p q zs zs' : List Int} {k : Nat} {c : Int} (hi : MulInv p q zs k) (hz : k + q.length < zs.length) (h : Added zs zs' q k q.length (nth p k) c) : MulInv p q (zs'.set (k + q.length) c) (k + 1) := by
  refine ⟨by rw [List.length_set, h.len]; exact hi.len, h.dig.set _ h.bound, ?_, fun i hi' => ?_⟩
  · rw [show k + 1 + q.length = k + q.length + 1 by omega, U_set_succ (by rw [h.len]; exact hz)]
    have := h.sum
    rw [hi.sum, U_val] at this
    simp only [U]
    rw [Int.mul_comm (pB _) c, this]
    grind
  · rw [nth_set_ne (by omega), h.high i (by omega), hi.high i (by omega)]
theorem MulInv.fin {p q zs : List Int} (h : MulInv p q zs p.length) : trimL zs = num (val p * val q) := by
  rw [trimL_num h.dig, ← U_val zs, h.len, h.sum, U_val]

set_option maxRecDepth 100000 in
set_option maxHeartbeats 2000000 in
theorem mul_any {a b : List Int} {w : World} {sa sb : Value} (hA : U32 w sa a) (hB : U32 w sb b) (da : Dig a) (db : Dig b) (ha : a.length ≤ 536870912) (hb : b.length ≤ 536870912) :
    Calls Tryd.prog 22 #[sa, sb] w fun e w' => ∃ sv, e = .returned sv ∧ U32 w' sv (num (val a * val b)) ∧ Below w.heap.size w w' := by
  obtain ⟨i0, hi, hz0, hz1, hz2⟩ := info_parts info42
  go_enter Tryd.func22, Tryd.ntmps22
  go_wp2_with fail
  refine (trim_at hA (by omega) (Nat.le_refl _)).mono ?_
  rintro e w1 ⟨sx, rfl, hx, hb1⟩
  have hB1 := Seg.below hb1 hB
  go_wp2_with fail
  refine (trim_at hB1 (by omega) hb1.size).mono ?_
  rintro e w2 ⟨sy, rfl, hy, hb2⟩
  have hx2 := Seg.below (hb2.mono hb1.size) hx
  have hbl : Below w.heap.size w w2 := hb1.trans (hb2.mono hb1.size)
  have l1 := trimL_length a
  have l2 := trimL_length b
  have dx := da.trimL
  have dy := db.trimL
  have v1 := val_trimL a
  have v2 := val_trimL b
  have hsz := hbl.size
  clear hx hB1 hb1 hb2 hA hB
  have hcase : ∃ (p q : List Int) (sp sq : Value), ((p = trimL b ∧ q = trimL a ∧ sp = sy ∧ sq = sx ∧ p.length < q.length) ∨ (p = trimL a ∧ q = trimL b ∧ sp = sx ∧ sq = sy ∧ p.length ≤ q.length)) := by
    by_cases hsw : (trimL b).length < (trimL a).length
    · exact ⟨_, _, _, _, .inl ⟨rfl, rfl, rfl, rfl, hsw⟩⟩
    · exact ⟨_, _, _, _, .inr ⟨rfl, rfl, rfl, rfl, by omega⟩⟩
  obtain ⟨p, q, sp, sq, hcs⟩ := hcase
  have HV : Hid (val p * val q = val a * val b) := by
    rcases hcs with ⟨rfl, rfl, _⟩ | ⟨rfl, rfl, _⟩
    · rw [v1, v2, Int.mul_comm]; rfl
    · rw [v1, v2]; rfl
  have hp : U32s w.heap.size w2 sp p := by rcases hcs with ⟨rfl, rfl, rfl, rfl, _⟩ | ⟨rfl, rfl, rfl, rfl, _⟩ <;> assumption
  have hq : U32s w.heap.size w2 sq q := by rcases hcs with ⟨rfl, rfl, rfl, rfl, _⟩ | ⟨rfl, rfl, rfl, rfl, _⟩ <;> assumption
  have dp : Dig p := by rcases hcs with ⟨rfl, rfl, _⟩ | ⟨rfl, rfl, _⟩ <;> assumption
  have dq : Dig q := by rcases hcs with ⟨rfl, rfl, _⟩ | ⟨rfl, rfl, _⟩ <;> assumption
  have lp : p.length ≤ 536870912 := by rcases hcs with ⟨rfl, rfl, _⟩ | ⟨rfl, rfl, _⟩ <;> omega
  have lq : q.length ≤ 536870912 := by rcases hcs with ⟨rfl, rfl, _⟩ | ⟨rfl, rfl, _⟩ <;> omega
  obtain ⟨pp, cp, rfl⟩ := hp.len
  obtain ⟨pq, cq, rfl⟩ := hq.len
  clear v1 v2 dx dy hx2 hy
  rcases hcs with ⟨e1, e2, rfl, rfl, hsw⟩ | ⟨e1, e2, rfl, rfl, hsw⟩
  all_goals
    clear e1 e2 l1 l2
    go_wp2_with (at_make; refine wpList_make_full _ rfl _ _ 23 rfl w2.heap.size 42 i0 (.int .u32 0) 1 Tryd.underlying23 hi hz0 hz1 .i64 .i64 _ _ (p.length + q.length) rfl rfl (by omega) (by omega) (by rw [hz2]; omega) (by unfold maxLen; omega) (Nat.le_refl _) ?_; intro w3 hown hgrow)
    have hrow := Row.made hown
    have hb3 : Below w2.heap.size w2 w3 := (Below.refl _ _).grown hgrow (Nat.le_refl _) (fun k e => by cases e)
    have hp3 := Seg.below (hb3.mono hsz) hp
    have hq3 := Seg.below (hb3.mono hsz) hq
    have hbl3 : Below w.heap.size w w3 := hbl.trans (hb3.mono hsz)
    clear hown hgrow hp hq
    go_loopw [26] (fun i wr => ∃ (k : Nat) (zs : List Int), k ≤ p.length ∧ i = .int .i64 k ∧ Row .u32 42 wr w2.heap.size zs ∧ Below w2.heap.size w3 wr ∧ MulInv p q zs k) (fun i _ => p.length - (intOf i).toNat)
    case atStart => exact ⟨0, _, Nat.zero_le _, rfl, hrow, Below.refl _ _, MulInv.start p q⟩
    case round =>
      obtain ⟨k, zs, hk, rfl, hr, hnx, hinv⟩ := hrel
      have HZ : Hid (zs.length = p.length + q.length) := hinv.len
      have hz3 : p.length + q.length ≤ zs.length := by have := HZ.out; omega
      by_cases hlt : k < p.length
      · have hpr := Seg.below (hnx.mono hsz) hp3
        have hqr := Seg.below (hnx.mono hsz) hq3
        obtain ⟨b1, o1, c1, e1, hb1, hl1, hc1⟩ := hpr.pos (by omega)
        simp only [Value.slice.injEq] at e1
        obtain ⟨rfl, _, rfl⟩ := e1
        have hcp := hc1 k hlt
        have hgp := dp.get k
        have hqd := hqr.drew
        have hrd := hr.drew
        go_wp2
        refine wp_np ?_
        go_region_with (go_at_call 44; refine (addTimes_any hqd hrd hsz dq hinv.dig (by omega) (by have := HZ.out; omega) (by have := HZ.out; omega) hgp).mono ?_; rintro e w4 ⟨cv, zs', rfl, hr4, hadd, hb4⟩; have hcl := hr4.cell (j := k + q.length) (by rw [hadd.len]; have := HZ.out; omega); have hfz := hr4.frozen (k + q.length))
        all_goals
          dsimp only [NP]
          go_wp2
          go_roundw
          case rel => exact ⟨k + 1, _, by omega, by go_num, hr4.set _ _, (hnx.drew.trans hb4).setCell (p := ⟨w2.heap.size, k + q.length, none⟩) (Nat.le_refl _) _, hinv.step (by have := HZ.out; omega) hadd⟩
          case measure => simp [intOf]; omega
      · obtain rfl : k = p.length := by omega
        have hseg := hr.seg
        rw [HZ.out] at hseg
        have hblw := hbl3.trans (hnx.mono hsz)
        go_wp2_with fail
        refine (trim_at hseg (by have := HZ.out; omega) (Nat.le_refl _)).mono ?_
        rintro e w4 ⟨sv, rfl, hs, hb4⟩
        rw [hinv.fin, HV.out] at hs
        go_wp2
        go_ret
        exact ⟨_, rfl, hs.up hb4.size, hblw.trans (hb4.mono hblw.size)⟩

end Go.Proofs.YtkalknmindgljaaDoor
