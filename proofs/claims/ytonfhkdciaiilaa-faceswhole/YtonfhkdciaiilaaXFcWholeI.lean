/-
  What is joined is one component, in the plane. No program in this text.
-/
import Derived.Test.YtonfhkdciaiilaaXFcWholeM
namespace Go.Proofs.Ytonfhkdciaiilaa
open Go Go.Proofs Go.RowKit

section
variable {N : Nat} {l : List Ed}
theorem roots_zero (hR : RightG (N : Int) l) (hN : 0 < N) : (rootsN (labAt N l N) N)[0]? = some 0 := by
  have hL := lab_Least (right_ends hR)
  obtain ⟨x, h1, h2, h3⟩ := hL 0 (by rw [labAt_len]; exact hN)
  have hx0 : x = 0 := by omega
  subst hx0
  unfold rootsN
  obtain ⟨m, rfl⟩ : ∃ m, N = m + 1 := ⟨N - 1, by omega⟩
  rw [List.range_succ_eq_map, List.filter_cons_of_pos (by simpa using h1)]
  rfl
theorem kc_zero (hR : RightG (N : Int) l) (hN : 0 < N) : 0 < (compC N l).length ∧ ∀ v, v ∈ KC N l 0 ↔ v < N ∧ Conn l v 0 := by
  have hp := (comps_ok hR).pos hN
  obtain ⟨q, h1, _, _, h4⟩ := kc_root hR hp
  rw [roots_zero hR hN] at h1
  have := Option.some.inj h1
  subst this
  exact ⟨hp, h4⟩
theorem atC_zero (hR : RightG (N : Int) l) (hN : 0 < N) : atC (compC N l) 0 = 0 := by
  obtain ⟨hp, _⟩ := kc_zero hR hN
  obtain ⟨q, h1, _, h3, _⟩ := kc_root hR hp
  rw [roots_zero hR hN] at h1
  have := Option.some.inj h1
  subst this
  have hL := lab_Least (right_ends hR)
  obtain ⟨x, g1, g2, g3⟩ := hL 0 (by rw [labAt_len]; exact hN)
  have hx0 : x = 0 := by omega
  subst hx0
  unfold atC
  rw [h3]
  unfold memAt
  obtain ⟨m, hm⟩ : ∃ m, N = m + 1 := ⟨N - 1, by omega⟩
  have hr : List.range N = 0 :: (List.range m).map Nat.succ := by rw [hm, List.range_succ_eq_map]
  rw [hr, List.filter_cons_of_pos (by simpa using g1)]
  rfl
theorem kc_conn (hR : RightG (N : Int) l) {i x y : Nat} (hi : i < (compC N l).length) (hx : x < N) (hy : y ∈ KC N l i) (h : Conn l x y) : x ∈ KC N l i := by
  obtain ⟨q, _, _, _, hm⟩ := kc_root hR hi
  exact (hm x).2 ⟨hx, h.trans ((hm y).1 hy).2⟩
theorem kc_both (hR : RightG (N : Int) l) {i x y : Nat} (hi : i < (compC N l).length) (hx : x ∈ KC N l i) (hy : y ∈ KC N l i) : Conn l x y := by
  obtain ⟨q, _, _, _, hm⟩ := kc_root hR hi
  exact ((hm x).1 hx).2.trans ((hm y).1 hy).2.symm
theorem atC_kc (hR : RightG (N : Int) l) {i : Nat} (hi : i < (compC N l).length) : ∃ b : Nat, atC (compC N l) i = (b : Int) ∧ b < N ∧ b ∈ KC N l i := by
  obtain ⟨b, hb, hbN, hbl, hb0⟩ := atC_ok (comps_ok hR) hi
  refine ⟨b, hb, hbN, ?_⟩
  unfold KC
  have e : (compC N l).getD i [] = (compC N l)[i] := by rw [List.getD_eq_getElem?_getD, List.getElem?_eq_getElem hi]; rfl
  rw [e]
  exact List.mem_map.2 ⟨(b : Int), List.mem_of_getElem? hb0, by omega⟩
theorem conn_lt (hR : RightG (N : Int) l) {x y : Nat} (h : Conn l x y) : x < N → y < N := by
  induction h using Conn.ind with
  | refl v => exact fun h => h
  | step h1 h2 ih =>
    intro _
    apply ih
    obtain ⟨e, he, hh⟩ := h1
    have := (hR.each e he).1
    unfold okE at this
    omega
theorem comp_one (hR : RightG (N : Int) l) (hN : 0 < N) (h : ∀ x, x < N → Conn l x 0) : (compC N l).length = 1 := by
  have hp := (comps_ok hR).pos hN
  rcases Nat.lt_or_ge 1 (compC N l).length with h1 | h1
  · obtain ⟨b, _, hbN, hbK⟩ := atC_kc hR h1
    have h0 : b ∈ KC N l 0 := ((kc_zero hR hN).2 b).2 ⟨hbN, h b hbN⟩
    have := kc_one hR hp h1 h0 hbK
    omega
  · omega
end

/-- In one of the first i components. -/
def UC (N : Nat) (l : List Ed) (i v : Nat) : Prop := ∃ j, j < i ∧ v ∈ KC N l j
theorem norm_right {n : Int} {l : List Ed} (hR : RightG n l) : l.map norm = l := by
  have : l.map norm = l.map id := List.map_congr_left fun e he => norm_id (hR.each e he).2
  rw [this, List.map_id]

theorem whole_at {N : Nat} {l : List Ed} {r : List (List Int)} (hR : RightG (N : Int) l) (hS : SysR N l r) (hP : planeK (numsL N l r) = 0) (hN : 0 < N) (hsm : l.length + N ≤ 4194304) : ∀ i, i ≤ (compC N l).length → ∃ L, RightG (N : Int) L ∧ ((jE l (compC N l) i).map norm).Perm L ∧ (∀ e ∈ jE l (compC N l) i, okE (N : Int) e) ∧ SysR N L (jR r (compC N l) i) ∧ phi N L (jR r (compC N l) i) = 2 * ((compC N l).length : Int) - 2 * ((i - 1 : Nat) : Int) ∧
    (∀ x y, x < N → Conn L x y → Conn l x y ∨ (UC N l i x ∧ UC N l i y)) ∧ (∀ x, UC N l i x → Conn L x 0) ∧ L.length = l.length + (i - 1) ∧ ∀ e ∈ l, e ∈ L
  | 0, _ => ⟨l, hR, by rw [show jE l (compC N l) 0 = l from rfl, norm_right hR], fun e he => (hR.each e he).1, hS, by rw [show jR r (compC N l) 0 = r from rfl, phi_plane hR hS hP]; omega, fun x y _ h => .inl h, fun x ⟨j, hj, _⟩ => by omega, rfl, fun e he => he⟩
  | i + 1, hi => by
    obtain ⟨L, hRL, hp, hok, hSL, hphi, hcon, hto, hlen, hsub⟩ := whole_at hR hS hP hN hsm i (by omega)
    have hC := comps_ok hR
    obtain ⟨hp0, hk0⟩ := kc_zero hR hN
    by_cases hz : i = 0
    · subst hz
      have e1 : jE l (compC N l) 1 = jE l (compC N l) 0 := if_pos rfl
      have e2 : jR r (compC N l) 1 = jR r (compC N l) 0 := if_pos rfl
      rw [e1, e2]
      refine ⟨L, hRL, hp, hok, hSL, hphi, fun x y hx h => ?_, fun x ⟨j, hj, hx⟩ => ?_, hlen, hsub⟩
      · rcases hcon x y hx h with h1 | ⟨⟨j, hj, _⟩, _⟩
        · exact .inl h1
        · omega
      · have hj0 : j = 0 := by omega
        subst hj0
        exact conn_sub hsub ((hk0 x).1 hx).2
    · have hiC : i < (compC N l).length := by omega
      obtain ⟨b, hb, hbN, hbK⟩ := atC_kc hR hiC
      have ha := atC_zero hR hN
      have hnot : ¬ Conn L 0 b := fun h => by
        rcases hcon 0 b hN h with h1 | ⟨_, ⟨j, hj, h2⟩⟩
        · have h3 := (hk0 b).2 ⟨hbN, h1.symm⟩
          exact hz (kc_one hR hp0 hiC h3 hbK)
        · have := kc_one hR (by omega) hiC h2 hbK
          omega
      have hb0 : b ≠ 0 := fun e => hnot (by rw [e]; exact Conn.refl 0)
      have e1 : jE l (compC N l) (i + 1) = jE l (compC N l) i ++ [((0 : Int), (b : Int), 0)] := by
        show (if i = 0 then _ else _) = _
        rw [if_neg hz, ha, hb]
      have e2 : jR r (compC N l) (i + 1) = pushR (pushR (jR r (compC N l) i) 0 (b : Int)) b ((0 : Nat) : Int) := by
        show (if i = 0 then _ else _) = _
        rw [if_neg hz, ha, hb]
        rfl
      have hoe : okE (N : Int) ((0 : Int), (b : Int), 0) := by
        unfold okE
        simp only
        omega
      have hfew := hC.few
      obtain ⟨l1, l2, hL, hR'⟩ := ins_right hRL hoe (by simp only; omega) (fun x hx hh => hnot (.one ⟨x, hx, .inl ⟨by rw [hh.1]; rfl, by rw [hh.2]; simp⟩⟩)) (by omega)
      subst hL
      obtain ⟨hS', hph⟩ := phi_join (a := 0) (b := b) hR' hRL hSL rfl rfl hN hbN (fun e => hb0 e.symm) hnot
      rw [e1, e2]
      have hU : ∀ x, x < N → (Conn (l1 ++ l2) x 0 ∨ Conn (l1 ++ l2) x b) → UC N l (i + 1) x := fun x hx h => by
        rcases h with h | h
        · rcases hcon x 0 hx h with h1 | ⟨⟨j, hj, h2⟩, _⟩
          · exact ⟨0, by omega, (hk0 x).2 ⟨hx, h1⟩⟩
          · exact ⟨j, by omega, h2⟩
        · rcases hcon x b hx h with h1 | ⟨⟨j, hj, h2⟩, _⟩
          · exact ⟨i, by omega, kc_conn hR hiC hx hbK h1⟩
          · exact ⟨j, by omega, h2⟩
      refine ⟨l1 ++ ((0 : Int), (b : Int), 0) :: l2, hR', ?_, fun z hz' => ?_, hS', by rw [hph, hphi]; omega, fun x y hx h => ?_, fun x hx => ?_, ?_, fun z hz' => ?_⟩
      · rw [List.map_append, List.map_singleton, norm_id (by simp only; omega)]
        exact (hp.append_right _).trans ((List.perm_append_singleton _ _).trans (List.perm_middle.symm))
      · rcases List.mem_append.1 hz' with h | h
        · exact hok z h
        · rw [List.mem_singleton.1 h]; exact hoe
      · have hy := conn_lt hR' h hx
        rcases conn_less (a := 0) (b := b) rfl rfl h with h1 | h1
        · rcases hcon x y hx h1 with h2 | ⟨⟨j, hj, h2⟩, ⟨k, hk, h3⟩⟩
          · exact .inl h2
          · exact .inr ⟨⟨j, by omega, h2⟩, ⟨k, by omega, h3⟩⟩
        · rcases conn_less (a := 0) (b := b) rfl rfl h.symm with h2 | h2
          · rcases hcon x y hx h2.symm with h3 | ⟨⟨j, hj, h3⟩, ⟨k, hk, h4⟩⟩
            · exact .inl h3
            · exact .inr ⟨⟨j, by omega, h3⟩, ⟨k, by omega, h4⟩⟩
          · exact .inr ⟨hU x hx h1, hU y hy h2⟩
      · obtain ⟨j, hj, hxj⟩ := hx
        by_cases hji : j = i
        · subst hji
          have h1 : Conn (l1 ++ l2) x b := conn_sub hsub (kc_both hR hiC hxj hbK)
          exact (conn_more h1).trans (conn_edge (a := 0) (b := b) rfl rfl).symm
        · exact conn_more (hto x ⟨j, by omega, hxj⟩)
      · rw [List.length_append, List.length_cons]
        rw [List.length_append] at hlen
        omega
      · have := hsub z hz'
        rcases List.mem_append.1 this with h | h
        · exact List.mem_append_left _ h
        · exact List.mem_append_right _ (List.mem_cons_of_mem _ h)

theorem whole {N : Nat} {l : List Ed} {r : List (List Int)} (hR : RightG (N : Int) l) (hS : SysR N l r) (hP : planeK (numsL N l r) = 0) (hsm : l.length + N ≤ 4194304) : makeK (N : Int) (jE l (compC N l) (compC N l).length) = 0 ∧ RightG (N : Int) (srt ((jE l (compC N l) (compC N l).length).map norm)) ∧ SysR N (srt ((jE l (compC N l) (compC N l).length).map norm)) (jR r (compC N l) (compC N l).length) ∧ planeK (numsL N (srt ((jE l (compC N l) (compC N l).length).map norm)) (jR r (compC N l) (compC N l).length)) = 0 ∧
    (0 < N → (compC N (srt ((jE l (compC N l) (compC N l).length).map norm))).length = 1 ∧ (srt ((jE l (compC N l) (compC N l).length).map norm)).length + 1 = l.length + (compC N l).length) ∧ ∀ e ∈ l, e ∈ srt ((jE l (compC N l) (compC N l).length).map norm) := by
  by_cases hN : 0 < N
  · obtain ⟨L, hRL, hp, hok, hSL, hphi, hcon, hto, hlen, hsub⟩ := whole_at hR hS hP hN hsm _ (Nat.le_refl _)
    obtain ⟨hk, he⟩ := make_again hRL hp hok
    have hpos := (comps_ok hR).pos hN
    rw [he]
    have h1 : (compC N L).length = 1 := comp_one hRL hN fun x hx => by
      obtain ⟨i, hi, hm⟩ := kc_of hR hx
      exact hto x ⟨i, hi, hm⟩
    exact ⟨hk, hRL, hSL, plane_phi hRL hSL h1 (by rw [hphi]; omega), fun _ => ⟨h1, by omega⟩, hsub⟩
  · have h0 : (compC N l).length = 0 := by have := (comps_ok hR).few; omega
    rw [h0]
    have e1 : jE l (compC N l) 0 = l := rfl
    have e2 : jR r (compC N l) 0 = r := rfl
    rw [e1, e2]
    obtain ⟨hk, he⟩ := make_again hR (by rw [norm_right hR]) (fun e he => (hR.each e he).1)
    rw [he]
    exact ⟨hk, hR, hS, hP, fun h => absurd h hN, fun e he => he⟩
end Go.Proofs.Ytonfhkdciaiilaa
