/-
  Euler's formula, gone down edge by edge. No program in this text.
-/
import Derived.Test.YtonfhkdciaiilaaXRGenus
namespace Go.Proofs.Ytonfhkdciaiilaa
open Go Go.Proofs

theorem conn_sub {A B : List Ed} (sub : ∀ x ∈ A, x ∈ B) {u v : Nat} (h : Conn A u v) : Conn B u v := by
  induction h using Conn.ind with
  | refl => exact .refl _
  | step h1 _ ih =>
    obtain ⟨g, hg, h2⟩ := h1
    exact .step ⟨g, sub g hg, h2⟩ ih
theorem nodup_len : ∀ {A B : List Nat}, A.Nodup → (∀ x ∈ A, x ∈ B) → A.length ≤ B.length
  | [], _, _, _ => by simp
  | a :: A, B, hn, hs => by
    rw [List.nodup_cons] at hn
    have ha := hs a (by simp)
    have := nodup_len (A := A) (B := B.erase a) hn.2 (fun x hx => (List.mem_erase_of_ne (fun e => hn.1 (by rw [← e]; exact hx))).2 (hs x (by simp [hx])))
    rw [List.length_erase_of_mem ha] at this
    have := List.length_pos_of_mem ha
    rw [List.length_cons]
    omega
section
variable {N : Nat} {l1 l2 : List Ed} {e : Ed} {a b : Nat}
theorem adj_less (ha : e.1 = (a : Int)) (hb : e.2.1 = (b : Int)) {x z : Nat} (h : Adj (l1 ++ e :: l2) x z) : Adj (l1 ++ l2) x z ∨ (x = a ∧ z = b) ∨ (x = b ∧ z = a) := by
  obtain ⟨f, hf, h⟩ := h
  by_cases he : f = e
  · subst he
    right
    rcases h with ⟨h1, h2⟩ | ⟨h1, h2⟩
    · exact .inl ⟨by omega, by omega⟩
    · exact .inr ⟨by omega, by omega⟩
  · left
    refine ⟨f, ?_, h⟩
    rcases List.mem_append.1 hf with h1 | h1
    · simp [h1]
    · rcases List.mem_cons.1 h1 with h1 | h1
      · exact absurd h1 he
      · simp [h1]
theorem adj_more {x z : Nat} (h : Adj (l1 ++ l2) x z) : Adj (l1 ++ e :: l2) x z := by
  obtain ⟨f, hf, h⟩ := h
  refine ⟨f, ?_, h⟩
  rcases List.mem_append.1 hf with h1 | h1 <;> simp [h1]
theorem conn_more {x z : Nat} (h : Conn (l1 ++ l2) x z) : Conn (l1 ++ e :: l2) x z := by
  induction h using Conn.ind with
  | refl => exact .refl _
  | step h1 _ ih => exact .step (adj_more h1) ih
theorem conn_less (ha : e.1 = (a : Int)) (hb : e.2.1 = (b : Int)) {x y : Nat} (h : Conn (l1 ++ e :: l2) x y) : Conn (l1 ++ l2) x y ∨ Conn (l1 ++ l2) x a ∨ Conn (l1 ++ l2) x b := by
  induction h using Conn.ind with
  | refl => exact .inl (.refl _)
  | step h1 _ ih =>
    rcases adj_less ha hb h1 with h2 | ⟨h2, _⟩ | ⟨h2, _⟩
    · rcases ih with h3 | h3 | h3
      · exact .inl (.step h2 h3)
      · exact .inr (.inl (.step h2 h3))
      · exact .inr (.inr (.step h2 h3))
    · subst h2; exact .inr (.inl (.refl _))
    · subst h2; exact .inr (.inr (.refl _))
theorem conn_keep (ha : e.1 = (a : Int)) (hb : e.2.1 = (b : Int)) (hc : Conn (l1 ++ l2) a b) {x y : Nat} (h : Conn (l1 ++ e :: l2) x y) : Conn (l1 ++ l2) x y := by
  induction h using Conn.ind with
  | refl => exact .refl _
  | step h1 _ ih =>
    rcases adj_less ha hb h1 with h2 | ⟨h2, h3⟩ | ⟨h2, h3⟩
    · exact .step h2 ih
    · subst h2; subst h3; exact hc.trans ih
    · subst h2; subst h3; exact hc.symm.trans ih
theorem conn_edge (ha : e.1 = (a : Int)) (hb : e.2.1 = (b : Int)) : Conn (l1 ++ e :: l2) a b := .one ⟨e, by simp, .inl ⟨by omega, by omega⟩⟩
end
/-- Vertices less edges, and faces; a vertex of no edge has one. -/
def chi (l : List Ed) (K : List Nat) (C : List (List Dt)) : Int := (K.length : Int) - (eK l K : Int) + (C.length : Int) + (isoK l K : Int)
theorem chi_none {N : Nat} {l : List Ed} {r : List (List Int)} {K : List Nat} {C : List (List Dt)} (hR : RightG (N : Int) l) (hsh : ShutK l K) (hD : Dec (nxD r) (PK l K) C) (h0 : eK l K = 0) : chi l K C = 2 * (K.length : Int) ∧ ∀ u ∈ K, ∀ v, Conn l u v → u = v := by
  have hno : ∀ e ∈ l, e.1.toNat ∉ K := fun e he hm => by
    unfold eK at h0
    rw [List.countP_eq_zero] at h0
    exact h0 e he (by simpa using hm)
  have hnb : ∀ u ∈ K, nb l (u : Int) = [] := fun u hu => by
    rw [List.eq_nil_iff_forall_not_mem]
    intro y hy
    obtain ⟨_, h1, _, _⟩ := nb_mutual hR hy
    obtain ⟨e, he, h⟩ := mem_nb.1 hy
    rcases h with ⟨h2, _⟩ | ⟨_, _, h2⟩
    · exact hno e he (by rw [h2]; simpa using hu)
    · refine hno e he ?_
      have : (y.toNat : Int) ∈ nb l (u : Int) := by rw [show (y.toNat : Int) = y by omega]; exact hy
      have := hsh u hu _ this
      rw [h2]
      exact this
  have hC : C = [] := by
    match C, hD with
    | [], _ => rfl
    | [] :: C, hD => exact absurd rfl (hD.rnd [] (by simp)).1
    | (x :: f) :: C, hD =>
      obtain ⟨u, hu, _, h2⟩ := (hD.mem x).1 (by simp)
      rw [hnb u hu] at h2
      simp at h2
  have hiso : isoK l K = K.length := by
    unfold isoK
    rw [List.countP_eq_length]
    intro v hv
    rw [hnb v hv]
    rfl
  refine ⟨?_, fun u hu v h => ?_⟩
  · unfold chi
    rw [h0, hC, hiso]
    simp
    omega
  · obtain ⟨ls, hl⟩ := h
    match ls, hl with
    | [], hl => exact hl
    | w :: ls, hl =>
      have := (adj_nb hR).1 hl.1
      rw [hnb u hu] at this
      simp at this
theorem edge_split {N : Nat} {l : List Ed} {K : List Nat} (hR : RightG (N : Int) l) {n : Nat} (h : eK l K = n + 1) : ∃ (l1 l2 : List Ed) (e : Ed) (a b : Nat), l = l1 ++ e :: l2 ∧ e.1 = (a : Int) ∧ e.2.1 = (b : Int) ∧ a ∈ K := by
  have : 0 < l.countP (fun e => decide (e.1.toNat ∈ K)) := by unfold eK at h; omega
  obtain ⟨e, he, hm⟩ := List.countP_pos_iff.1 this
  obtain ⟨l1, l2, e2⟩ := List.append_of_mem he
  have hok := (hR.each e he).1
  have h0 := hok.1
  have h1 := hok.2.2.1
  exact ⟨l1, l2, e, e.1.toNat, e.2.1.toNat, e2, by omega, by omega, by simpa using hm⟩
/-- The number is even; it is at most twice as many as the vertices that all hang together with. -/
theorem euler_le {N : Nat} {K : List Nat} (hK : K.Nodup) (hKN : ∀ v ∈ K, v < N) : ∀ (n : Nat) {l : List Ed} {r : List (List Int)} {C : List (List Dt)}, RightG (N : Int) l → SysR N l r → ShutK l K → Dec (nxD r) (PK l K) C → eK l K = n → (∃ z : Int, chi l K C = 2 * z) ∧ ∀ R : List Nat, (∀ v ∈ K, ∃ q ∈ R, Conn l v q) → chi l K C ≤ 2 * (R.length : Int)
  | 0, l, r, C, hR, hS, hsh, hD, hn => by
    obtain ⟨h1, h2⟩ := chi_none hR hsh hD hn
    refine ⟨⟨_, h1⟩, fun R hc => ?_⟩
    have := nodup_len hK (fun v hv => by
      obtain ⟨q, hq, h3⟩ := hc v hv
      rw [h2 v hv q h3]
      exact hq)
    omega
  | n + 1, l, r, C, hR, hS, hsh, hD, hn => by
    obtain ⟨l1, l2, e, a, b, rfl, ha, hb, haK⟩ := edge_split hR hn
    obtain ⟨hR', hS', hsh', he, hbK, C', hD', hcase⟩ := del_step hR hS hK hKN hsh hD ha hb haK
    obtain ⟨⟨z, hz⟩, hle⟩ := euler_le hK hKN n hR' hS' hsh' hD' (by omega)
    rcases hcase with ⟨h1, h2, _⟩ | ⟨h1, _⟩
    · have e2 : chi (l1 ++ e :: l2) K C = chi (l1 ++ l2) K C' := by unfold chi; omega
      rw [e2]
      refine ⟨⟨z, hz⟩, fun R hc => hle R fun v hv => ?_⟩
      obtain ⟨q, hq, h3⟩ := hc v hv
      exact ⟨q, hq, conn_keep ha hb h2 h3⟩
    · have e2 : chi (l1 ++ e :: l2) K C + 2 = chi (l1 ++ l2) K C' := by unfold chi; omega
      refine ⟨⟨z - 1, by omega⟩, fun R hc => ?_⟩
      obtain ⟨q0, hq0, hc0⟩ := hc a haK
      have key : ∃ x, ∀ v ∈ K, ∃ q ∈ x :: R, Conn (l1 ++ l2) v q := by
        have h3 : Conn (l1 ++ l2) q0 a ∨ Conn (l1 ++ l2) q0 b := by
          rcases conn_less ha hb hc0.symm with h | h | h
          · exact .inl h
          · exact .inl h
          · exact .inr h
        rcases h3 with h3 | h3
        · refine ⟨b, fun v hv => ?_⟩
          obtain ⟨q, hq, h4⟩ := hc v hv
          rcases conn_less ha hb h4 with h | h | h
          · exact ⟨q, by simp [hq], h⟩
          · exact ⟨q0, by simp [hq0], h.trans h3.symm⟩
          · exact ⟨b, by simp, h⟩
        · refine ⟨a, fun v hv => ?_⟩
          obtain ⟨q, hq, h4⟩ := hc v hv
          rcases conn_less ha hb h4 with h | h | h
          · exact ⟨q, by simp [hq], h⟩
          · exact ⟨a, by simp, h⟩
          · exact ⟨q0, by simp [hq0], h.trans h3.symm⟩
      obtain ⟨x, hx⟩ := key
      have := hle _ hx
      rw [List.length_cons] at this
      omega
/-- An edge whose two darts are in one round, and that is no bridge, leaves room for two. -/
theorem euler_room {N : Nat} {K : List Nat} (hK : K.Nodup) (hKN : ∀ v ∈ K, v < N) {l1 l2 : List Ed} {e : Ed} {r : List (List Int)} {C : List (List Dt)} (hR : RightG (N : Int) (l1 ++ e :: l2)) (hS : SysR N (l1 ++ e :: l2) r) (hsh : ShutK (l1 ++ e :: l2) K) (hD : Dec (nxD r) (PK (l1 ++ e :: l2) K) C) {a b : Nat} (ha : e.1 = (a : Int)) (hb : e.2.1 = (b : Int)) (haK : a ∈ K) (hc : Conn (l1 ++ l2) a b) {f : List Dt} (hf : f ∈ C) (h1 : ((a : Int), (b : Int)) ∈ f) (h2 : ((b : Int), (a : Int)) ∈ f) {R : List Nat} (hco : ∀ v ∈ K, ∃ q ∈ R, Conn (l1 ++ e :: l2) v q) : chi (l1 ++ e :: l2) K C + 2 ≤ 2 * (R.length : Int) := by
  obtain ⟨hR', hS', hsh', he, hbK, C', hD', hcase⟩ := del_step hR hS hK hKN hsh hD ha hb haK
  obtain ⟨_, hle⟩ := euler_le hK hKN _ hR' hS' hsh' hD' rfl
  rcases hcase with ⟨_, _, g, hg, h3, h4⟩ | ⟨h3, _⟩
  · have := ((hD.rnd f hf).same (hD.rnd g hg) h1 h3 ((b : Int), (a : Int))).1 h2
    exact absurd this h4
  · have e2 : chi (l1 ++ e :: l2) K C + 2 = chi (l1 ++ l2) K C' := by unfold chi; omega
    rw [e2]
    refine hle R fun v hv => ?_
    obtain ⟨q, hq, h5⟩ := hco v hv
    exact ⟨q, hq, conn_keep ha hb hc h5⟩
/-- A bridge's two darts are in one round. -/
theorem bridge_round {N : Nat} {K : List Nat} (hK : K.Nodup) (hKN : ∀ v ∈ K, v < N) {l1 l2 : List Ed} {e : Ed} {r : List (List Int)} {C : List (List Dt)} (hR : RightG (N : Int) (l1 ++ e :: l2)) (hS : SysR N (l1 ++ e :: l2) r) (hsh : ShutK (l1 ++ e :: l2) K) (hD : Dec (nxD r) (PK (l1 ++ e :: l2) K) C) {a b : Nat} (ha : e.1 = (a : Int)) (hb : e.2.1 = (b : Int)) (haK : a ∈ K) (hc : ¬ Conn (l1 ++ l2) a b) : ∃ f ∈ C, ((a : Int), (b : Int)) ∈ f ∧ ((b : Int), (a : Int)) ∈ f := by
  obtain ⟨_, _, _, _, _, C', _, hcase⟩ := del_step hR hS hK hKN hsh hD ha hb haK
  rcases hcase with ⟨_, h, _⟩ | ⟨_, h⟩
  · exact absurd h hc
  · exact h
/-- Where each edge is a bridge, the number is at least twice as many as vertices of which no two hang together. -/
theorem euler_ge {N : Nat} {K : List Nat} (hK : K.Nodup) (hKN : ∀ v ∈ K, v < N) : ∀ (n : Nat) {l : List Ed} {r : List (List Int)} {C : List (List Dt)}, RightG (N : Int) l → SysR N l r → ShutK l K → Dec (nxD r) (PK l K) C → eK l K = n → (∀ e ∈ l, e.1.toNat ∈ K → ¬ Conn (l.erase e) e.1.toNat e.2.1.toNat) → ∀ R : List Nat, R.Nodup → (∀ q ∈ R, q ∈ K) → (∀ q ∈ R, ∀ s ∈ R, Conn l q s → q = s) → 2 * (R.length : Int) ≤ chi l K C
  | 0, l, r, C, hR, hS, hsh, hD, hn, _, R, hRn, hRK, _ => by
    obtain ⟨h1, _⟩ := chi_none hR hsh hD hn
    have := nodup_len hRn hRK
    omega
  | n + 1, l, r, C, hR, hS, hsh, hD, hn, hbr, R, hRn, hRK, hap => by
    obtain ⟨l1, l2, e, a, b, rfl, ha, hb, haK⟩ := edge_split hR hn
    obtain ⟨hR', hS', hsh', he, hbK, C', hD', hcase⟩ := del_step hR hS hK hKN hsh hD ha hb haK
    have hel : e ∉ l1 := fun hm => by
      have := (List.pairwise_append.1 hR.rise).2.2 e hm e (by simp)
      rw [lo_irrefl] at this
      cases this
    have ee : (l1 ++ e :: l2).erase e = l1 ++ l2 := by rw [List.erase_append_right _ hel, List.erase_cons_head]
    have hnc : ¬ Conn (l1 ++ l2) a b := by
      have := hbr e (by simp) (by rw [ha]; simpa using haK)
      rw [ee, ha, hb] at this
      simpa using this
    have hbr' : ∀ f ∈ l1 ++ l2, f.1.toNat ∈ K → ¬ Conn ((l1 ++ l2).erase f) f.1.toNat f.2.1.toNat := fun f hf hfK hcf => by
      refine hbr f (by rcases List.mem_append.1 hf with h | h <;> simp [h]) hfK ?_
      rw [← ee, List.erase_comm] at hcf
      have sub : ∀ x ∈ ((l1 ++ e :: l2).erase f).erase e, x ∈ (l1 ++ e :: l2).erase f := fun x hx => List.mem_of_mem_erase hx
      exact conn_sub sub hcf
    rcases hcase with ⟨_, h2, _⟩ | ⟨h1, _⟩
    · exact absurd h2 hnc
    · have e2 : chi (l1 ++ e :: l2) K C + 2 = chi (l1 ++ l2) K C' := by unfold chi; omega
      have key : ∃ x, x ∈ K ∧ x ∉ R ∧ ∀ q ∈ R, ¬ Conn (l1 ++ l2) q x := by
        have hab := conn_edge (l1 := l1) (l2 := l2) ha hb
        by_cases hex : ∃ q ∈ R, Conn (l1 ++ e :: l2) q a
        · obtain ⟨q, hq, hqa⟩ := hex
          have h3 : Conn (l1 ++ l2) q a ∨ Conn (l1 ++ l2) q b := by
            rcases conn_less ha hb hqa with h | h | h
            · exact .inl h
            · exact .inl h
            · exact .inr h
          rcases h3 with h3 | h3
          · have no : ∀ s ∈ R, ¬ Conn (l1 ++ l2) s b := fun s hs h4 => by
              have := hap s hs q hq ((conn_more h4).trans (hab.symm.trans hqa.symm))
              subst this
              exact hnc (h3.symm.trans h4)
            exact ⟨b, hbK, fun hm => no b hm (.refl _), no⟩
          · have no : ∀ s ∈ R, ¬ Conn (l1 ++ l2) s a := fun s hs h4 => by
              have := hap s hs q hq ((conn_more h4).trans hqa.symm)
              subst this
              exact hnc (h4.symm.trans h3)
            exact ⟨a, haK, fun hm => no a hm (.refl _), no⟩
        · exact ⟨a, haK, fun hm => hex ⟨a, hm, .refl _⟩, fun q hq h => hex ⟨q, hq, conn_more h⟩⟩
      obtain ⟨x, hxK, hxR, hno⟩ := key
      have := euler_ge hK hKN n hR' hS' hsh' hD' (by omega) hbr' (x :: R) (List.nodup_cons.2 ⟨hxR, hRn⟩) (fun q hq => by
        rcases List.mem_cons.1 hq with rfl | hq
        · exact hxK
        · exact hRK q hq) (fun q hq s hs h => by
        rcases List.mem_cons.1 hq with e1 | hq
        · rcases List.mem_cons.1 hs with e3 | hs
          · rw [e1, e3]
          · rw [e1] at h; exact absurd h.symm (hno s hs)
        · rcases List.mem_cons.1 hs with e3 | hs
          · rw [e3] at h; exact absurd h (hno q hq)
          · exact hap q hq s hs (conn_more h))
      rw [List.length_cons] at this
      omega
end Go.Proofs.Ytonfhkdciaiilaa
