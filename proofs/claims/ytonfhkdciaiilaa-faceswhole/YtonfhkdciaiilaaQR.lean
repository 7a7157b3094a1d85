/-
  Darts gathered by where they begin; lists that were just made. No program in this text but memory's.
-/
import Derived.Test.YtonfhkdciaiilaaXRNumAt
import Derived.Test.YtonfhkdciaiilaaXRSame
import Derived.Test.YtonfhkdciaiilaaXPHas
import Derived.Test.YtonfhkdciaiilaaQK
import Derived.Laws.Append
namespace Go.Proofs.Ytonfhkdciaiilaa
open Go Go.Proofs Go.RowKit

theorem Grp.made {h0 g N : Nat} {W : World} (h : W.ownsRow h0 32 1 (.slice (some ⟨g, 0, none⟩) N N) N (madeCells (Value.slice none 0 0).cells (N * 1)).toList) : Grp h0 (.slice (some ⟨g, 0, none⟩) N N) (List.replicate N (.slice none 0 0)) (List.replicate N []) W := by
  rw [slices_madeK] at h
  have hnil : ∀ {k : Nat} {sv : Value}, (List.replicate N (Value.slice none 0 0))[k]? = some sv → sv = .slice none 0 0 := fun {k sv} hk => by
    have := List.mem_of_getElem? hk
    exact (List.mem_replicate.1 this).2
  refine ⟨by simp, by rw [List.length_replicate]; exact h, fun k sv xs h1 h2 => ?_, fun k j sv sv' h1 h2 _ => .inl (by rw [hnil h1]; rfl), fun k sv h1 => .inl (by rw [hnil h1]; rfl)⟩
  have e1 := hnil h1
  have e2 : xs = [] := (List.mem_replicate.1 (List.mem_of_getElem? h2)).2
  subst e1; subst e2
  exact World.ownsRow_nil _ _ _ _
/-- The darts by where they begin. -/
def atL (N : Nat) (P : List Dt) : List (List Int) := (List.range N).map fun (u : Nat) => (P.filter fun d => decide (d.1 = (u : Int))).map fun d => d.2
theorem atL_nil (N : Nat) : atL N [] = List.replicate N [] := by
  unfold atL
  rw [List.eq_replicate_iff]
  simp
theorem atL_len (N : Nat) (P : List Dt) : (atL N P).length = N := by simp [atL]
theorem atL_at {N u : Nat} (P : List Dt) (hu : u < N) : (atL N P)[u]? = some ((P.filter fun d => decide (d.1 = (u : Int))).map fun d => d.2) := by
  unfold atL
  rw [List.getElem?_map, List.getElem?_range hu]
  rfl
theorem atL_push {N u : Nat} {P : List Dt} {d : Dt} (hd : d.1 = (u : Int)) : atL N (P ++ [d]) = (atL N P).set u ((P.filter fun d => decide (d.1 = (u : Int))).map (fun d => d.2) ++ [d.2]) := by
  apply List.ext_getElem?
  intro k
  by_cases hk : k < N
  · rw [atL_at _ hk, List.getElem?_set, atL_len]
    by_cases e : u = k
    · subst e
      rw [if_pos rfl, if_pos hk, List.filter_append, List.map_append]
      simp [hd]
    · rw [if_neg e, atL_at _ hk, List.filter_append, List.map_append]
      have : ¬ d.1 = (k : Int) := by omega
      simp [this]
  · rw [List.getElem?_eq_none (by rw [atL_len]; omega), List.getElem?_eq_none (by rw [List.length_set, atL_len]; omega)]
theorem atL_new {u : Nat} {P : List Dt} {d : Dt} (hd : d.1 = (u : Int)) (h : d ∉ P) : d.2 ∉ (P.filter fun d => decide (d.1 = (u : Int))).map fun d => d.2 := by
  intro hm
  obtain ⟨x, hx, e⟩ := List.mem_map.1 hm
  obtain ⟨h1, h2⟩ := List.mem_filter.1 hx
  have h3 : x.1 = (u : Int) := by simpa using h2
  have : x = d := by
    obtain ⟨x1, x2⟩ := x
    obtain ⟨d1, d2⟩ := d
    simp only at hd e h3
    rw [h3, e, hd]
  rw [this] at h1
  exact h h1
theorem atL_short (N : Nat) (P : List Dt) : ∀ x ∈ atL N P, x.length ≤ P.length := by
  intro x hx
  unfold atL at hx
  obtain ⟨u, _, rfl⟩ := List.mem_map.1 hx
  rw [List.length_map]
  exact List.length_filter_le _ _
/-- The darts ahead of a place of a face. -/
def preF (fs : List (List Dt)) (i j : Nat) : List Dt := (fs.take i).flatten ++ (fs.getD i []).take j
theorem preF_start (fs : List (List Dt)) : preF fs 0 0 = [] := by simp [preF]
theorem preF_zero (fs : List (List Dt)) (i : Nat) : preF fs i 0 = (fs.take i).flatten := by simp [preF]
theorem preF_full {fs : List (List Dt)} {i : Nat} (h : i < fs.length) {j : Nat} (hj : fs[i].length ≤ j) : preF fs i j = preF fs (i + 1) 0 := by
  unfold preF
  have e : fs.getD i [] = fs[i] := by rw [List.getD_eq_getElem?_getD, List.getElem?_eq_getElem h]; rfl
  rw [e, List.take_of_length_le hj, take_snoc h, List.flatten_append]
  simp
theorem preF_step {fs : List (List Dt)} {i : Nat} (h : i < fs.length) {j : Nat} (hj : j < fs[i].length) : preF fs i (j + 1) = preF fs i j ++ [fs[i][j]] := by
  unfold preF
  have e : fs.getD i [] = fs[i] := by rw [List.getD_eq_getElem?_getD, List.getElem?_eq_getElem h]; rfl
  rw [e, take_snoc hj, List.append_assoc]
theorem preF_new {fs : List (List Dt)} (hn : fs.flatten.Nodup) {i : Nat} (h : i < fs.length) {j : Nat} (hj : j < fs[i].length) : fs[i][j] ∉ preF fs i j := by
  have e : fs = fs.take i ++ (fs[i] :: fs.drop (i + 1)) := by
    rw [List.getElem_cons_drop, List.take_append_drop]
  have e2 : fs[i] = fs[i].take j ++ (fs[i][j] :: fs[i].drop (j + 1)) := by
    rw [List.getElem_cons_drop, List.take_append_drop]
  have e3 : fs.flatten = preF fs i j ++ (fs[i][j] :: (fs[i].drop (j + 1) ++ (fs.drop (i + 1)).flatten)) := by
    unfold preF
    have e4 : fs.getD i [] = fs[i] := by rw [List.getD_eq_getElem?_getD, List.getElem?_eq_getElem h]; rfl
    rw [e4]
    conv => lhs; rw [e]
    rw [List.flatten_append, List.flatten_cons, List.append_assoc]
    congr 1
    exact (congrArg (fun L => L ++ (fs.drop (i + 1)).flatten) e2).trans (List.append_assoc _ _ _)
  rw [e3] at hn
  exact fun hm => (List.nodup_append.1 hn).2.2 _ hm _ (by simp) rfl
theorem preF_step2 {fs : List (List Dt)} {i : Nat} {f : List Dt} (h : fs[i]? = some f) {j : Nat} (hj : j < f.length) : preF fs i (j + 1) = preF fs i j ++ [f[j]] := by
  obtain ⟨hi, e⟩ := List.getElem?_eq_some_iff.1 h
  subst e
  exact preF_step hi hj
theorem preF_new2 {fs : List (List Dt)} (hn : fs.flatten.Nodup) {i : Nat} {f : List Dt} (h : fs[i]? = some f) {j : Nat} (hj : j < f.length) : f[j] ∉ preF fs i j := by
  obtain ⟨hi, e⟩ := List.getElem?_eq_some_iff.1 h
  subst e
  exact preF_new hn hi hj
theorem preF_full2 {fs : List (List Dt)} {i : Nat} {f : List Dt} (h : fs[i]? = some f) {j : Nat} (hj : f.length ≤ j) : preF fs i j = preF fs (i + 1) 0 := by
  obtain ⟨hi, e⟩ := List.getElem?_eq_some_iff.1 h
  subst e
  exact preF_full hi hj
theorem preF_le (fs : List (List Dt)) (i j : Nat) : (preF fs i j).length ≤ fs.flatten.length := by
  unfold preF
  by_cases h : i < fs.length
  · have e4 : fs.getD i [] = fs[i] := by rw [List.getD_eq_getElem?_getD, List.getElem?_eq_getElem h]; rfl
    have e : fs = fs.take i ++ (fs[i] :: fs.drop (i + 1)) := by
      rw [List.getElem_cons_drop, List.take_append_drop]
    have e5 := congrArg (fun L => L.flatten.length) e
    simp only [List.flatten_append, List.flatten_cons, List.length_append] at e5
    rw [e4, List.length_append, List.length_take]
    omega
  · have e4 : fs.getD i [] = [] := by rw [List.getD_eq_getElem?_getD, List.getElem?_eq_none (by omega)]; rfl
    rw [e4, List.take_of_length_le (by omega)]
    simp
theorem preF_all (fs : List (List Dt)) : preF fs fs.length 0 = fs.flatten := by simp [preF]
theorem faces_all {N : Nat} {l : List Ed} {r : List (List Int)} (hR : RightG (N : Int) l) (hS : SysR N l r) : (facesL N l r).flatten.length = 2 * l.length := by
  have hD := faces_dec hR hS
  have h1 : (facesL N l r).flatten.length ≤ (dartsL N l).length := List.Nodup.length_le_of_subset hD.nodup (fun x hx => (hD.mem x).1 hx)
  have h2 : (dartsL N l).length ≤ (facesL N l r).flatten.length := List.Nodup.length_le_of_subset (dartsL_nodup hR) (fun x hx => (hD.mem x).2 hx)
  rw [dartsL_two hR] at h1 h2
  omega
end Go.Proofs.Ytonfhkdciaiilaa

namespace Go.Proofs.Ytonfhkdciaiilaa
open Go Go.Proofs Go.RowKit

def swD (d : Dt) : Dt := (d.2, d.1)
theorem swD_swD (d : Dt) : swD (swD d) = d := rfl
theorem getD_zero_append {A B : List Int} (h : A ≠ []) : (A ++ B).getD 0 0 = A.getD 0 0 := by
  match A, h with
  | a :: A, _ => simp
/-- What stands behind what stands ahead. -/
theorem aft_rev {L : List Int} (hn : L.Nodup) {u : Int} (hu : u ∈ L) : aft L.reverse (L.reverse.idxOf u) ∈ L ∧ aft L (L.idxOf (aft L.reverse (L.reverse.idxOf u))) = u := by
  obtain ⟨P, Q, rfl⟩ := List.append_of_mem hu
  have huP : u ∉ P := fun h => (List.nodup_append.1 hn).2.2 u h u (by simp) rfl
  have huQ : u ∉ Q := (List.nodup_cons.1 (List.nodup_append.1 hn).2.1).1
  have er : (P ++ u :: Q).reverse = Q.reverse ++ u :: P.reverse := by simp
  rw [er, aft_split (P := Q.reverse) (Q := P.reverse) (by simpa using huQ)]
  rcases List.eq_nil_or_concat P with rfl | ⟨P', t, rfl⟩
  · rcases List.eq_nil_or_concat Q with rfl | ⟨Q', t, rfl⟩
    · refine ⟨by simp, ?_⟩
      have := aft_split (P := []) (Q := []) (x := u) (by simp)
      simpa using this
    · have e : (([] : List Int).reverse ++ ((Q' ++ [t]).reverse ++ [u])).getD 0 0 = t := by simp
      rw [List.concat_eq_append] at huQ hn ⊢
      rw [e]
      refine ⟨by simp, ?_⟩
      have ht : t ∉ u :: Q' := fun h => by
        have h1 : (u :: Q' ++ [t]).Nodup := by simpa using hn
        exact (List.nodup_append.1 h1).2.2 t h t (by simp) rfl
      have := aft_split (P := u :: Q') (Q := []) (x := t) ht
      have e2 : [] ++ u :: (Q' ++ [t]) = (u :: Q') ++ t :: [] := by simp
      rw [e2, this]
      simp
  · rw [List.concat_eq_append] at huP hn ⊢
    have e : ((P' ++ [t]).reverse ++ (Q.reverse ++ [u])).getD 0 0 = t := by simp
    rw [e]
    refine ⟨by simp, ?_⟩
    have ht : t ∉ P' := fun h => by
      have h1 := (List.nodup_append.1 hn).1
      exact (List.nodup_append.1 h1).2.2 t h t (by simp) rfl
    have := aft_split (P := P') (Q := u :: Q) (x := t) ht
    have e2 : P' ++ [t] ++ u :: Q = P' ++ t :: (u :: Q) := by simp
    rw [e2, this]
    simp
section
variable {N : Nat} {l : List Ed} {r : List (List Int)}
def mirL (r : List (List Int)) : List (List Int) := r.map List.reverse
theorem mirL_at (r : List (List Int)) (v : Nat) : (mirL r).getD v [] = (r.getD v []).reverse := by
  unfold mirL
  rw [List.getD_eq_getElem?_getD, List.getD_eq_getElem?_getD, List.getElem?_map]
  cases r[v]? <;> rfl
theorem mir_sys (hS : SysR N l r) : SysR N l (mirL r) := by
  refine ⟨by unfold mirL; rw [List.length_map]; exact hS.len, fun v hv => ?_⟩
  rw [mirL_at]
  exact (List.reverse_perm _).trans (hS.perm v hv)
theorem sw_dart (hR : RightG (N : Int) l) {d : Dt} (h : d ∈ dartsL N l) : swD d ∈ dartsL N l := by
  obtain ⟨u, v, rfl, hu, hv, h1, h2⟩ := dart_ends hR h
  exact dartsL_mem.2 ⟨v, hv, rfl, h1⟩
theorem mir_nx (hR : RightG (N : Int) l) (hS : SysR N l r) {x : Dt} (hx : x ∈ dartsL N l) : nxD r (swD (nxD (mirL r) x)) = swD x := by
  obtain ⟨u, v, rfl, hu, hv, h1, h2⟩ := dart_ends hR hx
  have hm : (u : Int) ∈ r.getD v [] := (hS.perm v hv).mem_iff.2 h1
  have h3 := (aft_rev (hS.nodup hR hv) hm).2
  unfold swD nxD
  simp only [Int.toNat_natCast]
  rw [mirL_at]
  rw [h3]
theorem mir_step (hR : RightG (N : Int) l) (hS : SysR N l r) {d e : Dt} (hd : d ∈ dartsL N l) (he : e ∈ dartsL N l) (h : nxD r d = e) : nxD (mirL r) (swD e) = swD d := by
  have hm := sw_dart hR he
  have h1 := mir_nx hR hS hm
  rw [swD_swD] at h1
  have h2 := sw_dart hR (nx_mem hR (mir_sys hS) hm)
  have h3 := nx_inj hR hS h2 hd (h1.trans h.symm)
  rw [← h3, swD_swD]
theorem way_of {nx : Dt → Dt} : ∀ (L : List Dt) (hne : L ≠ []) (e : Dt), (∀ (j : Nat) (h : j + 1 < L.length), nx L[j] = L[j + 1]) → nx (L.getLast hne) = e → Way nx e (L.head hne) L
  | [], h, _, _, _ => absurd rfl h
  | [x], _, e, _, h => ⟨rfl, h⟩
  | x :: y :: L, _, e, hc, h => by
    refine ⟨rfl, ?_⟩
    have h0 : nx x = y := hc 0 (by simp)
    show Way nx e (nx x) (y :: L)
    rw [h0]
    exact way_of (y :: L) (by simp) e (fun j hj => by
      have := hc (j + 1) (by simpa using hj)
      simpa using this) (by simpa using h)
def mirF (f : List Dt) : List Dt := (f.map swD).reverse
theorem mirF_len (f : List Dt) : (mirF f).length = f.length := by simp [mirF]
theorem mirF_at {f : List Dt} {j : Nat} (h : j < (mirF f).length) : (mirF f)[j] = swD (f[f.length - 1 - j]'(by rw [mirF_len] at h; omega)) := by
  simp [mirF]
theorem mir_rnd (hR : RightG (N : Int) l) (hS : SysR N l r) {f : List Dt} (hf : Rnd (nxD r) f) (hin : ∀ x ∈ f, x ∈ dartsL N l) : Rnd (nxD (mirL r)) (mirF f) := by
  have hlen := mirF_len f
  have hp := List.length_pos_iff.2 hf.1
  have hne : mirF f ≠ [] := fun e => by rw [e] at hlen; simp at hlen; omega
  have step : ∀ (i k : Nat) (hi : i < f.length) (hk : k < f.length), nxD r f[i] = f[k] → nxD (mirL r) (swD f[k]) = swD f[i] := fun i k hi hk h => mir_step hR hS (hin _ (List.getElem_mem hi)) (hin _ (List.getElem_mem hk)) h
  refine ⟨hne, (mirF f).head hne, way_of _ hne _ (fun j hj => ?_) ?_⟩
  · rw [mirF_at, mirF_at]
    have h1 := hf.at (f.length - 1 - (j + 1)) (by omega)
    have h2 : (f.length - 1 - (j + 1) + 1) % f.length = f.length - 1 - j := by
      rw [Nat.mod_eq_of_lt (by omega)]
      omega
    simp only [h2] at h1
    exact step _ _ (by omega) (by omega) h1
  · rw [List.getLast_eq_getElem, List.head_eq_getElem, mirF_at, mirF_at]
    have h1 := hf.at (f.length - 1) (by omega)
    have h2 : (f.length - 1 + 1) % f.length = 0 := by
      rw [Nat.sub_add_cancel hp, Nat.mod_self]
    simp only [h2] at h1
    have e1 : f.length - 1 - ((mirF f).length - 1) = 0 := by omega
    simp only [e1, Nat.sub_zero]
    exact step _ _ (by omega) (by omega) h1
theorem mir_mem (C : List (List Dt)) (x : Dt) : x ∈ (C.map mirF).flatten ↔ swD x ∈ C.flatten := by
  constructor
  · intro h
    obtain ⟨g, hg, hx⟩ := List.mem_flatten.1 h
    obtain ⟨f, hf, rfl⟩ := List.mem_map.1 hg
    unfold mirF at hx
    rw [List.mem_reverse] at hx
    obtain ⟨y, hy, rfl⟩ := List.mem_map.1 hx
    exact List.mem_flatten.2 ⟨f, hf, hy⟩
  · intro h
    obtain ⟨f, hf, hx⟩ := List.mem_flatten.1 h
    refine List.mem_flatten.2 ⟨mirF f, List.mem_map.2 ⟨f, hf, rfl⟩, ?_⟩
    unfold mirF
    rw [List.mem_reverse]
    exact List.mem_map.2 ⟨swD x, hx, swD_swD x⟩
theorem mir_nodup : ∀ (C : List (List Dt)), C.flatten.Nodup → (C.map mirF).flatten.Nodup
  | [], _ => by simp
  | f :: C, h => by
    rw [List.flatten_cons] at h
    rw [List.map_cons, List.flatten_cons]
    refine List.nodup_append.2 ⟨?_, mir_nodup C (List.nodup_append.1 h).2.1, fun x hx y hy e => ?_⟩
    · unfold mirF
      refine (List.reverse_perm _).nodup_iff.2 ?_
      refine List.Pairwise.map _ (fun a b hab e => hab ?_) (List.nodup_append.1 h).1
      rw [← swD_swD a, e, swD_swD]
    · subst e
      have h2 := (mir_mem C x).1 hy
      have h1 : swD x ∈ f := by
        unfold mirF at hx
        rw [List.mem_reverse] at hx
        obtain ⟨z, hz, rfl⟩ := List.mem_map.1 hx
        exact hz
      exact (List.nodup_append.1 h).2.2 _ h1 _ h2 rfl
theorem mir_dec (hR : RightG (N : Int) l) (hS : SysR N l r) {K : List Nat} (hKN : ∀ v ∈ K, v < N) (hsh : ShutK l K) {C : List (List Dt)} (hD : Dec (nxD r) (PK l K) C) : Dec (nxD (mirL r)) (PK l K) (C.map mirF) := by
  have hpd : ∀ x, PK l K x → x ∈ dartsL N l := fun x ⟨u, hu, h1, h2⟩ => dartsL_mem.2 ⟨u, hKN u hu, h1, h2⟩
  have hsw : ∀ x, PK l K x → PK l K (swD x) := fun x hx => by
    obtain ⟨u, hu, h1, h2⟩ := hx
    obtain ⟨h3, h4, h5, _⟩ := nb_mutual hR h2
    have e : x.2 = ((x.2.toNat : Nat) : Int) := by omega
    refine ⟨x.2.toNat, hsh u hu _ (by rw [← e]; exact h2), e, ?_⟩
    show x.1 ∈ nb l (x.2.toNat : Int)
    rw [← e, h1]
    exact h3
  refine ⟨fun g hg => ?_, mir_nodup C hD.nodup, fun x => (mir_mem C x).trans ⟨fun h => ?_, fun h => (hD.mem _).2 (hsw x h)⟩⟩
  · obtain ⟨f, hf, rfl⟩ := List.mem_map.1 hg
    exact mir_rnd hR hS (hD.rnd f hf) (fun x hx => hpd x ((hD.mem x).1 (List.mem_flatten.2 ⟨f, hf, hx⟩)))
  · have := hsw _ ((hD.mem _).1 h)
    rwa [swD_swD] at this
/-- The numbers are the same. -/
theorem mir_nums (hR : RightG (N : Int) l) (hS : SysR N l r) : numsL N l (mirL r) = numsL N l r := by
  have hM := mir_sys hS
  apply List.ext_getElem
  · rw [numsL_len, numsL_len]
  · intro i h1 h2
    have hi : i < (compC N l).length := by rw [numsL_len] at h1; exact h1
    have e1 := nums_chi hR hM hi
    have e2 := nums_chi hR hS hi
    have hD := facesK_dec hR (kc_lt hR hi) (kc_shut hR hi) (faces_dec hR hS)
    have hD' := facesK_dec hR (kc_lt hR hi) (kc_shut hR hi) (faces_dec hR hM)
    have hlen := hD'.len (mir_dec hR hS (kc_lt hR hi) (kc_shut hR hi) hD)
    rw [List.length_map] at hlen
    rw [List.getD_eq_getElem?_getD, List.getElem?_eq_getElem h1] at e1
    rw [List.getD_eq_getElem?_getD, List.getElem?_eq_getElem h2] at e2
    simp only [Option.getD_some] at e1 e2
    rw [e1, e2]
    unfold chi
    rw [hlen]
end
end Go.Proofs.Ytonfhkdciaiilaa

namespace Go.Proofs.Ytonfhkdciaiilaa
open Go Go.Proofs Go.RowKit

/-- A list that was made behind all is laid at place k. -/
theorem Grp.put {h0 g cap k : Nat} {svs : List Value} {pre : List (List Int)} {W B : World} {sv' : Value} {xs : List Int} (h : Grp h0 (.slice (some ⟨g, 0, none⟩) svs.length cap) svs pre W) (hk : k < svs.length) (hh : h0 ≤ W.heap.size) (hb : Below W.heap.size W B)
    (hB : B.ownsRow W.heap.size 3 1 sv' xs.length (xs.map (Value.int .i64))) : Grp h0 (.slice (some ⟨g, 0, none⟩) svs.length cap) (svs.set k sv') (pre.set k xs) (B.setCell ⟨g, k, none⟩ sv') := by
  have hlen := h.len
  have hgl : g < W.heap.size := (h.own.lt g rfl).2
  have hlvB := owns_below h.own hb
  obtain ⟨hst, hsg⟩ := hlvB.stored k sv'
  have hsvg : sv'.ownBlock = none ∨ sv'.ownBlock ≠ some g := by
    cases hv : sv'.ownBlock with
    | none => exact .inl rfl
    | some b =>
      refine .inr fun e => ?_
      have := (hB.lt b hv).1
      simp at e
      omega
  have split : ∀ {j : Nat} {x : Value}, (svs.set k sv')[j]? = some x → (j ≠ k ∧ svs[j]? = some x) ∨ (j = k ∧ x = sv') := fun {j x} hx => by
    rw [List.getElem?_set] at hx
    by_cases hj : k = j
    · subst hj
      rw [if_pos rfl, if_pos hk] at hx
      exact .inr ⟨rfl, (Option.some.inj hx).symm⟩
    · rw [if_neg hj] at hx
      exact .inl ⟨Ne.symm hj, hx⟩
  have far : ∀ {j : Nat} {x : Value}, svs[j]? = some x → ∀ b, x.ownBlock = some b → b < W.heap.size := fun {j x} hx b hv => by
    have hj := (List.getElem?_eq_some_iff.1 hx).1
    exact ((h.inn j x _ hx (List.getElem?_eq_getElem (by omega))).lt b hv).2
  refine ⟨by simp [hlen], by rw [List.length_set]; exact hst, ?_, ?_, ?_⟩
  · intro j x zs hx hz
    rcases split hx with ⟨hj, hx⟩ | ⟨rfl, rfl⟩
    · rw [List.getElem?_set_ne (Ne.symm hj)] at hz
      exact owns_keep (owns_below (h.inn j x zs hx hz) hb) hsg (h.outer j x hx)
    · rw [List.getElem?_set_self (by omega)] at hz
      cases hz
      exact owns_keep (owns_base hB hh) hsg hsvg
  · intro i j x x' hx hx' hij
    rcases split hx with ⟨hi, hy⟩ | ⟨rfl, rfl⟩
    · rcases split hx' with ⟨hj, hy'⟩ | ⟨rfl, rfl⟩
      · exact h.apart i j x x' hy hy' hij
      · cases hv : x.ownBlock with
        | none => exact .inl rfl
        | some b =>
          refine .inr fun e => ?_
          have h1 := far hy b hv
          have h2 := (hB.lt b e.symm).1
          omega
    · rcases split hx' with ⟨hj, hy'⟩ | ⟨rfl, rfl⟩
      · cases hv : x.ownBlock with
        | none => exact .inl rfl
        | some b =>
          refine .inr fun e => ?_
          have h1 := far hy' b e.symm
          have h2 := (hB.lt b hv).1
          omega
      · exact absurd rfl hij
  · intro j x hx
    rcases split hx with ⟨hj, hy⟩ | ⟨rfl, rfl⟩
    · exact h.outer j x hy
    · exact hsvg

/-- What an append upon the list number k leaves. -/
theorem Grp.pushed {h0 g N k c : Nat} {p : Option Addr} {svs : List Value} {pre : List (List Int)} {W B : World} {o : Obj} {sv' : Value} {xs : List Int} {y : Int} (h : Grp h0 (.slice (some ⟨g, 0, none⟩) N N) svs pre W) (hN : svs.length = N) (hk : svs[k]? = some (.slice p xs.length c)) (hp : pre[k]? = some xs)
    (hB : B.ownsRow h0 3 1 sv' (xs.length + 1) (xs.map (Value.int .i64) ++ [.int .i64 y])) (hg : (W.alloc o).grownBy B (Value.slice p xs.length c).ownBlock) (hat : sv'.ownBlock = (Value.slice p xs.length c).ownBlock ∨ sv'.ownBlock = some (W.alloc o).heap.size) :
    B.cell? ⟨g, k, none⟩ = some (.slice p xs.length c) ∧ B.frozen? ⟨g, k, none⟩ = false ∧ Grp h0 (.slice (some ⟨g, 0, none⟩) N N) (svs.set k sv') (pre.set k (xs ++ [y])) (B.setCell ⟨g, k, none⟩ sv') := by
  subst hN
  have hne : (Value.slice (some ⟨g, 0, none⟩) svs.length svs.length).ownBlock = none ∨ (Value.slice (some ⟨g, 0, none⟩) svs.length svs.length).ownBlock ≠ (Value.slice p xs.length c).ownBlock := by
    refine .inr fun e => ?_
    rcases h.outer k _ hk with h1 | h1
    · rw [h1] at e; cases e
    · exact h1 e.symm
  have h2 := owns_keep (World.ownsRow.alloc h.own o) hg hne
  refine ⟨?_, h2.frozenAt k, h.push hk hp hB hg hat⟩
  have h3 := h2.cells (g := g) rfl k _ hk
  rwa [Go.WideShapes.add_plain, Nat.zero_add] at h3

theorem grow_nil (W : World) : Go.Sort.grow W #[] = W := by cases W; simp [Go.Sort.grow]

/-- Each list's, where it has one. -/
def eachF (F : List Int → List Int) (L : List Int) : List Int := if L = [] then [] else F L
def eachL (F : List Int → List Int) (r : List (List Int)) (j : Nat) : List (List Int) := (r.take j).map (eachF F) ++ List.replicate (r.length - j) []
theorem eachL_zero (F : List Int → List Int) (r : List (List Int)) : eachL F r 0 = List.replicate r.length [] := by simp [eachL]
theorem eachL_full (F : List Int → List Int) (r : List (List Int)) : eachL F r r.length = r.map (eachF F) := by simp [eachL]
theorem eachL_set {F : List Int → List Int} {r : List (List Int)} {j : Nat} (h : j < r.length) : (eachL F r j).set j (eachF F r[j]) = eachL F r (j + 1) := by
  unfold eachL
  obtain ⟨m, hm⟩ : ∃ m, r.length - j = m + 1 := ⟨r.length - j - 1, by omega⟩
  have e1 : ((r.take j).map (eachF F)).length = j := by rw [List.length_map, List.length_take]; omega
  rw [List.set_append_right _ _ (by omega), e1, Nat.sub_self, hm, List.replicate_succ, List.set_cons_zero, take_snoc h, List.map_append, List.append_assoc]
  have : r.length - (j + 1) = m := by omega
  rw [this]
  rfl
theorem eachL_none {F : List Int → List Int} {r : List (List Int)} {j : Nat} (h : j < r.length) (he : r[j] = []) : eachL F r j = eachL F r (j + 1) := by
  rw [← eachL_set h, he]
  unfold eachL eachF
  obtain ⟨m, hm⟩ : ∃ m, r.length - j = m + 1 := ⟨r.length - j - 1, by omega⟩
  have e1 : ((r.take j).map fun L => if L = [] then ([] : List Int) else F L).length = j := by rw [List.length_map, List.length_take]; omega
  rw [List.set_append_right _ _ (by omega), e1, Nat.sub_self, hm, List.replicate_succ, List.set_cons_zero, if_pos rfl]

theorem mirror_map (r : List (List Int)) : r.map (eachF List.reverse) = mirL r := by
  unfold mirL
  refine List.map_congr_left fun L _ => ?_
  unfold eachF
  split
  · rename_i h; rw [h]; rfl
  · rfl
end Go.Proofs.Ytonfhkdciaiilaa

namespace Go.Proofs.Ytonfhkdciaiilaa
open Go Go.Proofs Go.RowKit

theorem run_append_zeros {P : Program} (w : World) (t u ty e : TypeId) (i : TypeInfo) (z : Value) (ht : P.underlying t = some (.slice e)) (hu : P.underlying u = some (.int .i64)) (hi : P.info? e = some i) (hz : i.zero = some z)
    (n : Nat) (hsz : 0 < i.size) (h0 : 0 < n) (h63 : (n : Int) ≤ 9223372036854775807) (h48 : n * i.bytes ≤ 281474976710656) :
    (Builtin.append_ #[t, u] ty #[.slice none 0 0, .int .i64 (n : Int)]).run P w =
      .ok (.slice (some ⟨w.heap.size, 0, none⟩) n (grownCap w n 0 e)) (w.drew.alloc (.cells (Builtin.zeroCells z.cells n ++ Builtin.zeroCells z.cells (grownCap w n 0 e - n)) e)) := by
  have hn : n ≠ 0 := by omega
  have h63' : ¬ (9223372036854775807 < (n : Int)) := by omega
  have h48' : ¬ (281474976710656 < Builtin.nextslicecap n 0 * i.bytes) := by rw [nextslicecap_zero h0]; omega
  have hw : IntKind.i64.wrap (n : Int) = (n : Int) := wrap_i _ (by omega) (by omega)
  have h48i : ¬ (281474976710656 < (n : Int) * (i.bytes : Int)) := by
    have : ((n * i.bytes : Nat) : Int) ≤ 281474976710656 := by omega
    rw [Int.natCast_mul] at this
    omega
  have hs0 : ¬ n * i.size = 0 := by
    rw [Nat.mul_eq_zero]
    omega
  simp [Builtin.append_, run_underlying ht, run_underlying hu, sizeOf, typeInfo, zeroValue, hi, hz, Builtin.lenOf, hn, h63', h48', Question.forced, run_firstCells_none, newRow, grownCap, asInt, asIntOf, hw, h48i, hs0]
  intro h
  omega
theorem wpList_append_zeros {P : Program} (w : World) {ops : Array Oper} {rest : List Oper} {o : Oper} {a : Act} {Q : Exit → Act → World → Prop} (hgd : o.guard = none) (s x : Operand) (t u : TypeId)
    (ho : o.op = .call { callee := .builtin .append, args := #[s, x], argTypes := #[t, u] })
    (base : Nat) (e : TypeId) (i : TypeInfo) (z : Value) (ht : P.underlying t = some (.slice e)) (hu : P.underlying u = some (.int .i64)) (hi : P.info? e = some i) (hz : i.zero = some z)
    (hsize : i.size = 1) (hby : i.bytes = 8) (hzs : z.cells.size = 1)
    (n : Nat) (hs : a.eval s = .slice none 0 0) (hx : a.eval x = .int .i64 (n : Int)) (h0 : 0 < n) (hn : n ≤ 4194304) (hbase : base ≤ w.heap.size)
    (h : ∀ cap w', n ≤ cap → w'.ownsRow base e 1 (.slice (some ⟨w.heap.size, 0, none⟩) 0 cap) 0 [] → w.grownBy w' none → wpList P ops Q rest (a.put o.dst (.slice (some ⟨w.heap.size, 0, none⟩) n cap)) w') :
    wpList P ops Q (o :: rest) a w := by
  refine wpList_plain hgd fun K hK => ?_
  have hr := run_append_zeros (P := P) w t u o.type e i z ht hu hi hz n (by omega) h0 (by omega) (by rw [hby]; omega)
  unfold Oper.wp execOp
  simp only [ho, resolve, invoke, builtin, Sem.run_bind, Sem.run_pure, Result.andThen_ok, List.map_toArray, List.map_cons, List.map_nil, hs, hx, hr]
  have hge := grownCap_ge w n 0 e
  have hcm : grownCap w n 0 e ≤ maxLen := grownCap_le_maxLen w n 0 e (by unfold maxLen; omega)
  refine hK _ _ (h _ _ hge ⟨rfl, .inr ⟨w.heap.size, _, _, rfl, hbase, heap_alloc_new w.drew _, Nat.zero_le _, hcm, ?_, rfl⟩⟩ ⟨rfl, rfl, rfl, by simp, fun k hk _ => heap_alloc_old w.drew _ k hk⟩)
  simp only [Array.size_append, size_zeroCells, hzs]
  omega
/-- append of a list that came from anywhere, in a region that does not draw. -/
theorem wpList_append_src {P : Program} (w : World) {ops : Array Oper} {rest : List Oper} {o : Oper} {a : Act} {Q : Exit → Act → World → Prop} (hgd : o.guard = none) (s x : Operand) (t : TypeId)
    (ho : o.op = .call { callee := .builtin .append, args := #[s, x], argTypes := #[t, t] })
    (base : Nat) (e : TypeId) (i : TypeInfo) (z : Value) (size bytes : Nat) (ht : P.underlying t = some (.slice e)) (hi : P.info? e = some i) (hz : i.zero = some z)
    (hsize : i.size = size) (hby : i.bytes = bytes) (hzs : z.cells.size = size) (hsz : 0 < size)
    (v : Value) (n : Nat) (xs : List Value) (hs : a.eval s = v) (hown : w.ownsRow base e size v n xs)
    (xv : Value) (m : Nat) (news : List Value) (hx : a.eval x = xv) (hsrc : Src w xv m size news)
    (h63 : n + m ≤ maxLen) (hbytes : (n + m) * bytes ≤ 140737488355328) (hbase : base ≤ w.heap.size)
    (h : ∀ v' w', w'.ownsRow base e size v' (n + m) (xs ++ news) → w.grownBy w' v.ownBlock → wpList P ops Q rest (a.put o.dst v') w') :
    wpList P ops Q (o :: rest) a w := by
  refine wpList_plain hgd fun K hK => ?_
  obtain ⟨v', w', hr, h2, h3, _⟩ := run_append_src (P := P) w base t o.type e i z size bytes ht hi hz hsize hby hzs hsz v n xs hown xv m news hsrc h63 hbytes hbase
  unfold Oper.wp execOp
  simp only [ho, resolve, invoke, builtin, Sem.run_bind, Sem.run_pure, Result.andThen_ok, List.map_toArray, List.map_cons, List.map_nil, hs, hx, hr]
  exact hK _ _ (h v' w' h2 h3)
theorem Src.ints {n : Nat} {W : World} {p : Option Addr} {c : Nat} {L : List Int} (h : Ints n W (.slice p L.length c) L) : Src W (.slice p L.length c) L.length 1 (L.map (Value.int .i64)) := by
  by_cases hL : L.length = 0
  · have e : L = [] := List.eq_nil_of_length_eq_zero hL
    subst e
    cases p with
    | none => exact .inl ⟨⟨c, rfl⟩, rfl, rfl⟩
    | some ad => exact .inr ⟨ad, c, rfl, by simp, fun j u hu => by simp at hu, fun u hu => by simp at hu⟩
  · obtain ⟨b, off, rfl, hbb, hcap, hc⟩ := h.open (show 0 < L.length by omega)
    refine .inr ⟨⟨b, off, none⟩, c, rfl, by simp, fun j u hu => ?_, fun u hu => ?_⟩
    · have hj : j < L.length := by simpa using (List.getElem?_eq_some_iff.1 hu).1
      rw [List.getElem?_map, List.getElem?_eq_getElem hj] at hu
      rw [Go.WideShapes.add_plain, hc W (Below.refl _ _) j hj]
      exact hu
    · obtain ⟨x, _, rfl⟩ := List.mem_map.1 hu
      rfl

end Go.Proofs.Ytonfhkdciaiilaa
