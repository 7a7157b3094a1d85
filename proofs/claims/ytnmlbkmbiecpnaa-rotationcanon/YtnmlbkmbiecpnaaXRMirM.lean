/-
  A system from behind has the same numbers. No program in this text.
-/
import Derived.Test.YtnmlbkmbiecpnaaXRNumAt
namespace Go.Proofs.Ytnmlbkmbiecpnaa
open Go Go.Proofs Go.RowKit

def swD (d : Dt) : Dt := (d.2, d.1)
theorem swD_swD (d : Dt) : swD (swD d) = d := rfl
theorem getD_zero_append {A B : List Int} (h : A ≠ []) : (A ++ B).getD 0 0 = A.getD 0 0 := by
  match A, h with
  | a :: A, _ => simp
/-- What stands behind what stands ahead. -/
theorem aft_rev {L : List Int} (hn : L.Nodup) {u : Int} (hu : u ∈ L) : aft L.reverse (L.reverse.idxOf u) ∈ L ∧ aft L (L.idxOf (aft L.reverse (L.reverse.idxOf u))) = u := by
  obtain ⟨P, Q, rfl⟩ := List.append_of_mem hu
  have huP : u ∉ P := fun h => (List.nodup_append.1 hn).2.2 u h u (by simp) rfl
  have huQ : u ∉ Q := (List.nodup_cons.1 (List.nodup_append.1 hn).2.1).1
  have er : (P ++ u :: Q).reverse = Q.reverse ++ u :: P.reverse := by simp
  rw [er, aft_split (P := Q.reverse) (Q := P.reverse) (by simpa using huQ)]
  rcases List.eq_nil_or_concat P with rfl | ⟨P', t, rfl⟩
  · rcases List.eq_nil_or_concat Q with rfl | ⟨Q', t, rfl⟩
    · refine ⟨by simp, ?_⟩
      have := aft_split (P := []) (Q := []) (x := u) (by simp)
      simpa using this
    · have e : (([] : List Int).reverse ++ ((Q' ++ [t]).reverse ++ [u])).getD 0 0 = t := by simp
      rw [List.concat_eq_append] at huQ hn ⊢
      rw [e]
      refine ⟨by simp, ?_⟩
      have ht : t ∉ u :: Q' := fun h => by
        have h1 : (u :: Q' ++ [t]).Nodup := by simpa using hn
        exact (List.nodup_append.1 h1).2.2 t h t (by simp) rfl
      have := aft_split (P := u :: Q') (Q := []) (x := t) ht
      have e2 : [] ++ u :: (Q' ++ [t]) = (u :: Q') ++ t :: [] := by simp
      rw [e2, this]
      simp
  · rw [List.concat_eq_append] at huP hn ⊢
    have e : ((P' ++ [t]).reverse ++ (Q.reverse ++ [u])).getD 0 0 = t := by simp
    rw [e]
    refine ⟨by simp, ?_⟩
    have ht : t ∉ P' := fun h => by
      have h1 := (List.nodup_append.1 hn).1
      exact (List.nodup_append.1 h1).2.2 t h t (by simp) rfl
    have := aft_split (P := P') (Q := u :: Q) (x := t) ht
    have e2 : P' ++ [t] ++ u :: Q = P' ++ t :: (u :: Q) := by simp
    rw [e2, this]
    simp
section
variable {N : Nat} {l : List Ed} {r : List (List Int)}
def mirL (r : List (List Int)) : List (List Int) := r.map List.reverse
theorem mirL_at (r : List (List Int)) (v : Nat) : (mirL r).getD v [] = (r.getD v []).reverse := by
  unfold mirL
  rw [List.getD_eq_getElem?_getD, List.getD_eq_getElem?_getD, List.getElem?_map]
  cases r[v]? <;> rfl
theorem mir_sys (hS : SysR N l r) : SysR N l (mirL r) := by
  refine ⟨by unfold mirL; rw [List.length_map]; exact hS.len, fun v hv => ?_⟩
  rw [mirL_at]
  exact (List.reverse_perm _).trans (hS.perm v hv)
theorem sw_dart (hR : RightG (N : Int) l) {d : Dt} (h : d ∈ dartsL N l) : swD d ∈ dartsL N l := by
  obtain ⟨u, v, rfl, hu, hv, h1, h2⟩ := dart_ends hR h
  exact dartsL_mem.2 ⟨v, hv, rfl, h1⟩
theorem mir_nx (hR : RightG (N : Int) l) (hS : SysR N l r) {x : Dt} (hx : x ∈ dartsL N l) : nxD r (swD (nxD (mirL r) x)) = swD x := by
  obtain ⟨u, v, rfl, hu, hv, h1, h2⟩ := dart_ends hR hx
  have hm : (u : Int) ∈ r.getD v [] := (hS.perm v hv).mem_iff.2 h1
  have h3 := (aft_rev (hS.nodup hR hv) hm).2
  unfold swD nxD
  simp only [Int.toNat_natCast]
  rw [mirL_at]
  rw [h3]
theorem mir_step (hR : RightG (N : Int) l) (hS : SysR N l r) {d e : Dt} (hd : d ∈ dartsL N l) (he : e ∈ dartsL N l) (h : nxD r d = e) : nxD (mirL r) (swD e) = swD d := by
  have hm := sw_dart hR he
  have h1 := mir_nx hR hS hm
  rw [swD_swD] at h1
  have h2 := sw_dart hR (nx_mem hR (mir_sys hS) hm)
  have h3 := nx_inj hR hS h2 hd (h1.trans h.symm)
  rw [← h3, swD_swD]
theorem way_of {nx : Dt → Dt} : ∀ (L : List Dt) (hne : L ≠ []) (e : Dt), (∀ (j : Nat) (h : j + 1 < L.length), nx L[j] = L[j + 1]) → nx (L.getLast hne) = e → Way nx e (L.head hne) L
  | [], h, _, _, _ => absurd rfl h
  | [x], _, e, _, h => ⟨rfl, h⟩
  | x :: y :: L, _, e, hc, h => by
    refine ⟨rfl, ?_⟩
    have h0 : nx x = y := hc 0 (by simp)
    show Way nx e (nx x) (y :: L)
    rw [h0]
    exact way_of (y :: L) (by simp) e (fun j hj => by
      have := hc (j + 1) (by simpa using hj)
      simpa using this) (by simpa using h)
def mirF (f : List Dt) : List Dt := (f.map swD).reverse
theorem mirF_len (f : List Dt) : (mirF f).length = f.length := by simp [mirF]
theorem mirF_at {f : List Dt} {j : Nat} (h : j < (mirF f).length) : (mirF f)[j] = swD (f[f.length - 1 - j]'(by rw [mirF_len] at h; omega)) := by
  simp [mirF]
theorem mir_rnd (hR : RightG (N : Int) l) (hS : SysR N l r) {f : List Dt} (hf : Rnd (nxD r) f) (hin : ∀ x ∈ f, x ∈ dartsL N l) : Rnd (nxD (mirL r)) (mirF f) := by
  have hlen := mirF_len f
  have hp := List.length_pos_iff.2 hf.1
  have hne : mirF f ≠ [] := fun e => by rw [e] at hlen; simp at hlen; omega
  have step : ∀ (i k : Nat) (hi : i < f.length) (hk : k < f.length), nxD r f[i] = f[k] → nxD (mirL r) (swD f[k]) = swD f[i] := fun i k hi hk h => mir_step hR hS (hin _ (List.getElem_mem hi)) (hin _ (List.getElem_mem hk)) h
  refine ⟨hne, (mirF f).head hne, way_of _ hne _ (fun j hj => ?_) ?_⟩
  · rw [mirF_at, mirF_at]
    have h1 := hf.at (f.length - 1 - (j + 1)) (by omega)
    have h2 : (f.length - 1 - (j + 1) + 1) % f.length = f.length - 1 - j := by
      rw [Nat.mod_eq_of_lt (by omega)]
      omega
    simp only [h2] at h1
    exact step _ _ (by omega) (by omega) h1
  · rw [List.getLast_eq_getElem, List.head_eq_getElem, mirF_at, mirF_at]
    have h1 := hf.at (f.length - 1) (by omega)
    have h2 : (f.length - 1 + 1) % f.length = 0 := by
      rw [Nat.sub_add_cancel hp, Nat.mod_self]
    simp only [h2] at h1
    have e1 : f.length - 1 - ((mirF f).length - 1) = 0 := by omega
    simp only [e1, Nat.sub_zero]
    exact step _ _ (by omega) (by omega) h1
theorem mir_mem (C : List (List Dt)) (x : Dt) : x ∈ (C.map mirF).flatten ↔ swD x ∈ C.flatten := by
  constructor
  · intro h
    obtain ⟨g, hg, hx⟩ := List.mem_flatten.1 h
    obtain ⟨f, hf, rfl⟩ := List.mem_map.1 hg
    unfold mirF at hx
    rw [List.mem_reverse] at hx
    obtain ⟨y, hy, rfl⟩ := List.mem_map.1 hx
    exact List.mem_flatten.2 ⟨f, hf, hy⟩
  · intro h
    obtain ⟨f, hf, hx⟩ := List.mem_flatten.1 h
    refine List.mem_flatten.2 ⟨mirF f, List.mem_map.2 ⟨f, hf, rfl⟩, ?_⟩
    unfold mirF
    rw [List.mem_reverse]
    exact List.mem_map.2 ⟨swD x, hx, swD_swD x⟩
theorem mir_nodup : ∀ (C : List (List Dt)), C.flatten.Nodup → (C.map mirF).flatten.Nodup
  | [], _ => by simp
  | f :: C, h => by
    rw [List.flatten_cons] at h
    rw [List.map_cons, List.flatten_cons]
    refine List.nodup_append.2 ⟨?_, mir_nodup C (List.nodup_append.1 h).2.1, fun x hx y hy e => ?_⟩
    · unfold mirF
      refine (List.reverse_perm _).nodup_iff.2 ?_
      refine List.Pairwise.map _ (fun a b hab e => hab ?_) (List.nodup_append.1 h).1
      rw [← swD_swD a, e, swD_swD]
    · subst e
      have h2 := (mir_mem C x).1 hy
      have h1 : swD x ∈ f := by
        unfold mirF at hx
        rw [List.mem_reverse] at hx
        obtain ⟨z, hz, rfl⟩ := List.mem_map.1 hx
        exact hz
      exact (List.nodup_append.1 h).2.2 _ h1 _ h2 rfl
theorem mir_dec (hR : RightG (N : Int) l) (hS : SysR N l r) {K : List Nat} (hKN : ∀ v ∈ K, v < N) (hsh : ShutK l K) {C : List (List Dt)} (hD : Dec (nxD r) (PK l K) C) : Dec (nxD (mirL r)) (PK l K) (C.map mirF) := by
  have hpd : ∀ x, PK l K x → x ∈ dartsL N l := fun x ⟨u, hu, h1, h2⟩ => dartsL_mem.2 ⟨u, hKN u hu, h1, h2⟩
  have hsw : ∀ x, PK l K x → PK l K (swD x) := fun x hx => by
    obtain ⟨u, hu, h1, h2⟩ := hx
    obtain ⟨h3, h4, h5, _⟩ := nb_mutual hR h2
    have e : x.2 = ((x.2.toNat : Nat) : Int) := by omega
    refine ⟨x.2.toNat, hsh u hu _ (by rw [← e]; exact h2), e, ?_⟩
    show x.1 ∈ nb l (x.2.toNat : Int)
    rw [← e, h1]
    exact h3
  refine ⟨fun g hg => ?_, mir_nodup C hD.nodup, fun x => (mir_mem C x).trans ⟨fun h => ?_, fun h => (hD.mem _).2 (hsw x h)⟩⟩
  · obtain ⟨f, hf, rfl⟩ := List.mem_map.1 hg
    exact mir_rnd hR hS (hD.rnd f hf) (fun x hx => hpd x ((hD.mem x).1 (List.mem_flatten.2 ⟨f, hf, hx⟩)))
  · have := hsw _ ((hD.mem _).1 h)
    rwa [swD_swD] at this
/-- The numbers are the same. -/
theorem mir_nums (hR : RightG (N : Int) l) (hS : SysR N l r) : numsL N l (mirL r) = numsL N l r := by
  have hM := mir_sys hS
  apply List.ext_getElem
  · rw [numsL_len, numsL_len]
  · intro i h1 h2
    have hi : i < (compC N l).length := by rw [numsL_len] at h1; exact h1
    have e1 := nums_chi hR hM hi
    have e2 := nums_chi hR hS hi
    have hD := facesK_dec hR (kc_lt hR hi) (kc_shut hR hi) (faces_dec hR hS)
    have hD' := facesK_dec hR (kc_lt hR hi) (kc_shut hR hi) (faces_dec hR hM)
    have hlen := hD'.len (mir_dec hR hS (kc_lt hR hi) (kc_shut hR hi) hD)
    rw [List.length_map] at hlen
    rw [List.getD_eq_getElem?_getD, List.getElem?_eq_getElem h1] at e1
    rw [List.getD_eq_getElem?_getD, List.getElem?_eq_getElem h2] at e2
    simp only [Option.getD_some] at e1 e2
    rw [e1, e2]
    unfold chi
    rw [hlen]
end
end Go.Proofs.Ytnmlbkmbiecpnaa
