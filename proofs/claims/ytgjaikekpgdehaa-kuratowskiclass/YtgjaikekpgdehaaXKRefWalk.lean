/-
  The reference's walk, turned, Below.
-/
import Derived.Test.YtgjaikekpgdehaaXKSrc
namespace Go.Proofs.Ytgjaikekpgdehaa
open Go Go.Proofs Go.RowKit

def lenV : Value → Nat
  | .slice _ n _ => n
  | _ => 0
theorem own2K (W : World) (x y : Int) : (W.alloc (.cells #[.int .i64 x, .int .i64 y] 3)).ownsRow W.heap.size 3 1 (.slice (some ⟨W.heap.size, 0, none⟩) 2 2) 2 ([x, y].map (Value.int .i64)) := ⟨rfl, .inr ⟨W.heap.size, 2, #[.int .i64 x, .int .i64 y], rfl, Nat.le_refl _, heap_alloc_new W _, Nat.le_refl _, by decide, rfl, rfl⟩⟩

set_option maxRecDepth 100000 in
set_option maxHeartbeats 4000000 in
theorem refWalk_any (N : Nat) (l : List Ed) (hR : RightG (N : Int) l) (v u : Int) (hu : u ∈ nb l v) (hv : (nb l v).length ≠ 2) (nv : Value) (w : World) (hN : Lsts w.heap.size w nv (nearL N l)) :
    Calls Try.prog 24 #[nv, .int .i64 v, .int .i64 u] w fun r w' => ∃ s, r = .returned s ∧ w'.ownsRow w.heap.size 3 1 s (wayL l N v u).length ((wayL l N v u).map (Value.int .i64)) ∧ Below w.heap.size w w' := by
  obtain ⟨k, hk, hLive, hend, hway, -⟩ := way_facts hR hu hv
  have HWay : Hid (wayL l N v u = wayP l v u k) := hway
  have HLive : Hid _ := hLive
  have HEnd : Hid _ := hend
  have hn1 := hR.n1
  clear hway hLive hend
  obtain ⟨pn, cn, rfl⟩ := hN.len
  obtain ⟨i0, hi, hz0, hz1, hz2⟩ := info_parts infoI
  rw [nearL_len] at hN
  have hP : (w.alloc (.cells #[.int .i64 v, .int .i64 u] 3)).ownsRow w.heap.size 3 1 (.slice (some ⟨w.heap.size, 0, none⟩) 2 2) (0 + 2) ((wayP l v u 0).map (Value.int .i64)) := own2K w v u
  have hb1 : Below w.heap.size w (w.alloc (.cells #[.int .i64 v, .int .i64 u] 3)) := ((Grew.refl w).alloc _).below
  rw [nearL_len]
  go_enter Try.func24, Try.ntmps24
  go_wp2
  generalize w.alloc (.cells #[.int .i64 v, .int .i64 u] 3) = w1 at hP hb1 ⊢
  go_loopw [1, 2, 7] (fun f t s wr => ∃ j : Nat, j ≤ k ∧ f = .int .i64 (xs l v u j) ∧ t = .int .i64 (xs l v u (j + 1)) ∧ wr.ownsRow w.heap.size 3 1 s (j + 2) ((wayP l v u j).map (Value.int .i64)) ∧ Below w.heap.size w wr) (fun _ _ s _ => k + 2 - lenV s)
  case atStart => exact ⟨0, Nat.zero_le _, rfl, rfl, hP, hb1⟩
  case round =>
    clear hP hb1
    obtain ⟨j, hj, rfl, rfl, hown, hb⟩ := hrel
    have hxb := xs_in hR hu HLive.out j hj
    obtain ⟨x, hx⟩ : ∃ x : Nat, xs l v u (j + 1) = (x : Int) := ⟨(xs l v u (j + 1)).toNat, by omega⟩
    rw [hx] at hxb
    have hxN : x < N := by omega
    have hxI : (x : Int) < (N : Int) := by omega
    have hNr : Lsts w.heap.size wr (.slice pn (nearL N l).length cn) (nearL N l) := by rw [nearL_len]; exact hN.below hb
    obtain ⟨bq, offq, rfl, hbq, hcapq, px, cx, hIx, hcx⟩ := hNr.cellAt (j := x) (by rw [nearL_len]; exact hxN)
    have ex : (nearL N l)[x]'(by rw [nearL_len]; exact hxN) = nb l (x : Int) := by simp [nearL]
    rw [ex] at hIx hcx
    rw [nearL_len] at hcapq
    have HO : Hid (othr (nb l (x : Int)) (xs l v u j) = xs l v u (j + 2)) := by unfold Hid; rw [← hx]; rfl
    obtain ⟨pp, cc, rfl⟩ := owns_form hown
    rw [hx]
    have HX : Hid (xs l v u (j + 1) = (x : Int)) := hx
    clear hx hNr ex
    by_cases hjk : j < k
    · have hd : (nb l (x : Int)).length = 2 := by rw [← HX.out]; exact HLive.out j hjk
      rw [hd] at hcx hIx
      have hIx' : Ints w.heap.size wr (.slice px (nb l (x : Int)).length cx) (nb l (x : Int)) := by rw [hd]; exact hIx
      obtain ⟨bx, ox, rfl, hbx, hcapx, hcI⟩ := hIx'.open (j := 0) (by omega)
      obtain ⟨A, B, hAB⟩ := two_of hd
      have n0 : wr.cell? ⟨bx, ox, none⟩ = some (.int .i64 A) := by have := hcI wr (Below.refl _ _) 0 (by omega); simpa [hAB] using this
      have n1 : wr.cell? ⟨bx, ox + 1, none⟩ = some (.int .i64 B) := by have := hcI wr (Below.refl _ _) 1 (by omega); simpa [hAB] using this
      have hcx2 : 2 ≤ cx := by rw [hd] at hcapx; exact hcapx
      have HO2 : Hid ((if A = xs l v u j then B else A) = xs l v u (j + 2)) := by have := HO.out; rw [hAB] at this; exact this
      have HS : Hid _ := wayP_succ l v u j
      have hwN : IntKind.i64.wrap ((N : Int) + 1) = (N : Int) + 1 := wrap_i _ (by omega) (by omega)
      have hle : decide ((j : Int) + 2 ≤ (N : Int) + 1) = true := decide_eq_true (by omega)
      have hle' : decide (j + 2 ≤ N + 1) = true := decide_eq_true (by omega)
      have HJ : Hid (j < k ∧ k < N ∧ N ≤ 1048576) := ⟨hjk, hk, by omega⟩
      clear hd hIx hIx' hcI hAB hjk hj hcapx HO
      have HZ : Hid (Below w.heap.size w wr) := hb
      obtain ⟨y, hy⟩ : ∃ y, xs l v u (j + 2) = y := ⟨_, rfl⟩
      have HY : Hid (xs l v u (j + 2) = y) := hy
      rw [hy] at HO2
      obtain ⟨z, hz⟩ : ∃ z, xs l v u j = z := ⟨_, rfl⟩
      rw [hz] at HO2 ⊢
      have hown9 := hown.alloc (.cells #[.int .i64 y] 3)
      have hnw := one_cellK wr (.int .i64 y) 3
      have hone : ∀ q ∈ [Value.int .i64 y], q.oneCell' = true := fun q hq => by rw [List.mem_singleton.1 hq]; rfl
      have hmx : j + 2 + 1 ≤ maxLen := by have := HJ.out; unfold maxLen; omega
      have hby : (j + 2 + 1) * 8 ≤ 140737488355328 := by have := HJ.out; omega
      have hsA : w.heap.size ≤ (wr.alloc (.cells #[.int .i64 y] 3)).heap.size := by have := HZ.out.size; simp; omega
      have hlow : ∀ q, (Value.slice pp (j + 2) cc).ownBlock = some q → w.heap.size ≤ q := fun q h => (hown.lt q h).1
      have HBA : Hid (Below w.heap.size w (wr.alloc (.cells #[.int .i64 y] 3))) := hb.alloc hb.size _
      clear hy hz hb
      by_cases hc : A = z
      · have hc' : (A == z) = true := by simpa using hc
        have hBy : B = y := by have := HO2.out; rw [if_pos hc] at this; exact this
        subst hBy
        clear hc
        go_wp2_with (at_builtin; refine wpList_append_own_at _ rfl _ _ 25 rfl w.heap.size 3 i0 (.int .i64 0) 1 8 Try.underlying25 hi hz0 hz1 hz2 rfl (by decide) (.slice pp (j + 2) cc) _ _ rfl hown9 ⟨wr.heap.size, 0, none⟩ 1 1 [.int .i64 B] rfl rfl hnw hone hmx hby hsA ?_; intro v8 w8 hown8 hg8 hnil8 hat8; obtain ⟨p8, c8, rfl⟩ := owns_form hown8)
        refine ⟨⟨j + 1, by have := HJ.out; omega, by rw [HX.out], by rw [← HY.out], ?_, HBA.out.grown hg8 hsA hlow⟩, by have := HJ.out; simp [lenV]; omega⟩
        rw [HS.out, List.map_append, HY.out]
        exact hown8
      · have hc' : (A == z) = false := by simpa using hc
        have hBy : A = y := by have := HO2.out; rw [if_neg hc] at this; exact this
        subst hBy
        clear hc
        go_wp2_with (at_builtin; refine wpList_append_own_at _ rfl _ _ 25 rfl w.heap.size 3 i0 (.int .i64 0) 1 8 Try.underlying25 hi hz0 hz1 hz2 rfl (by decide) (.slice pp (j + 2) cc) _ _ rfl hown9 ⟨wr.heap.size, 0, none⟩ 1 1 [.int .i64 A] rfl rfl hnw hone hmx hby hsA ?_; intro v8 w8 hown8 hg8 hnil8 hat8; obtain ⟨p8, c8, rfl⟩ := owns_form hown8)
        refine ⟨⟨j + 1, by have := HJ.out; omega, by rw [HX.out], by rw [← HY.out], ?_, HBA.out.grown hg8 hsA hlow⟩, by have := HJ.out; simp [lenV]; omega⟩
        rw [HS.out, List.map_append, HY.out]
        exact hown8
    · obtain rfl : j = k := by omega
      have h2 : (nb l (xs l v u (j + 1))).length ≠ 2 := HEnd.out
      rw [HX.out] at h2
      have hd : ((nb l (x : Int)).length : Int) ≠ 2 := by omega
      have hd' : (((nb l (x : Int)).length : Int) == 2) = false := by simpa using hd
      have hd2 : ((nb l (x : Int)).length == 2) = false := by simpa using h2
      clear hd h2
      generalize (nb l (x : Int)).length = m at *
      go_wp2
      go_ret
      refine ⟨_, rfl, ?_, hb⟩
      rw [HWay.out, wayP_len]
      exact hown
end Go.Proofs.Ytgjaikekpgdehaa
