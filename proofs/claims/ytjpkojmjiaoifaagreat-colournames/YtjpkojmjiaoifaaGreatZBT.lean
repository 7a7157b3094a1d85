import Derived.Test.YtjpkojmjiaoifaaGreatZBS
namespace Go.Proofs.YtjpkojmjiaoifaaGreat
open Go Go.Proofs Go.RowKit
theorem liE_at (O : List Int) {i : Nat} : ∀ (es : List Ed) (L : List Int), i < L.length → (liE O L es).getD i 0 = L.getD i 0 - ((es.countP fun e => decide ((O.getD e.1.toNat 0).toNat = i) : Nat) : Int)
 | [], L, _ => by simp [liE]
 | e :: es, L, h => by
  have ih := liE_at O es (bumpL L (O.getD e.1.toNat 0).toNat (-1)) (by rw [bumpL_len]; exact h)
  have e1 : liE O L (e :: es) = liE O (bumpL L (O.getD e.1.toNat 0).toNat (-1)) es := rfl
  rw [e1, ih, bumpL_at, List.countP_cons]
  by_cases hk : (O.getD e.1.toNat 0).toNat = i
  ·rw [if_pos ⟨hk, by omega⟩, if_pos (by simpa using hk), hk]
   omega
  ·rw [if_neg (fun h => hk h.1), if_neg (by simpa using hk)]
   omega
theorem liF_at (O : List Int) {i : Nat} : ∀ (fs : List (List Dt)) (L : List Int), i < L.length → (liF O L fs).getD i 0 = L.getD i 0 + ((fs.countP fun f => decide ((O.getD (f.getD 0 (0, 0)).1.toNat 0).toNat = i) : Nat) : Int)
 | [], L, _ => by simp [liF]
 | f :: fs, L, h => by
  have ih := liF_at O fs (bumpL L (O.getD (f.getD 0 (0, 0)).1.toNat 0).toNat 1) (by rw [bumpL_len]; exact h)
  have e1 : liF O L (f :: fs) = liF O (bumpL L (O.getD (f.getD 0 (0, 0)).1.toNat 0).toNat 1) fs := rfl
  rw [e1, ih, bumpL_at, List.countP_cons]
  by_cases hk : (O.getD (f.getD 0 (0, 0)).1.toNat 0).toNat = i
  ·rw [if_pos ⟨hk, by omega⟩, if_pos (by simpa using hk), hk]
   omega
  ·rw [if_neg (fun h => hk h.1), if_neg (by simpa using hk)]
   omega
theorem ofRow_at (i : Int) : ∀ (xs O : List Int) {v : Nat}, v < O.length → (ofRow O xs i).getD v 0 = if v ∈ xs.map Int.toNat then i else O.getD v 0
 | [], O, v, _ => by simp [ofRow]
 | x :: xs, O, v, h => by
  have ih := ofRow_at i xs (O.set x.toNat i) (v := v) (by simpa using h)
  have e1 : ofRow O (x :: xs) i = ofRow (O.set x.toNat i) xs i := rfl
  rw [e1, ih, set_getD, List.map_cons]
  by_cases h1 : v ∈ xs.map Int.toNat
  ·rw [if_pos h1, if_pos (List.mem_cons.2 (.inr h1))]
  ·rw [if_neg h1]
   by_cases h2 : x.toNat = v
   ·rw [if_pos ⟨h2, by omega⟩, if_pos (List.mem_cons.2 (.inl h2.symm))]
   ·rw [if_neg (fun h => h2 h.1), if_neg (fun hc => (List.mem_cons.1 hc).elim (fun h3 => h2 h3.symm) h1)]
theorem ofC_at (N : Nat) (C : List (List Int)) {i v : Nat} (hv : v < N) (hm : v ∈ (C.getD i []).map Int.toNat) : ∀ (n : Nat), i < n → (∀ j, j < n → v ∈ (C.getD j []).map Int.toNat → j = i) → (ofC N C n).getD v 0 = (i : Int)
 | n + 1, hi, hu => by
  rw [ofC, ofRow_at _ _ _ (by rw [ofC_len]; exact hv)]
  by_cases h1 : v ∈ (C.getD n []).map Int.toNat
  ·rw [if_pos h1, hu n (by omega) h1]
  ·rw [if_neg h1]
   have : i ≠ n := fun e => h1 (by rw [← e]; exact hm)
   exact ofC_at N C hv hm n (by omega) (fun j hj => hu j (by omega))
def KC (N : Nat) (l : List Ed) (i : Nat) : List Nat := ((compC N l).getD i []).map Int.toNat
section
variable {N : Nat} {l : List Ed} {r : List (List Int)}
theorem kc_root (hR : RightG (N : Int) l) {i : Nat} (hi : i < (compC N l).length) : ∃ q : Nat, (rootsN (labAt N l N) N)[i]? = some q ∧ q < N ∧ (compC N l).getD i [] = memAt (labAt N l N) q N ∧ ∀ v, v ∈ KC N l i ↔ v < N ∧ Conn l v q := by
 have e : compC N l = (rootsN (labAt N l N) N).map fun r => memAt (labAt N l N) r N := rc_roots _ _ _
 have hi' : i < (rootsN (labAt N l N) N).length := by rw [e, List.length_map] at hi; exact hi
 have hg : (rootsN (labAt N l N) N)[i]? = some (rootsN (labAt N l N) N)[i] := List.getElem?_eq_getElem hi'
 have hm : (rootsN (labAt N l N) N)[i] ∈ rootsN (labAt N l N) N := List.getElem_mem hi'
 generalize (rootsN (labAt N l N) N)[i] = q at hg hm
 obtain ⟨h1, h2⟩ := rootsN_mem.1 hm
 have e2 : (compC N l).getD i [] = memAt (labAt N l N) q N := by
  rw [e, List.getD_eq_getElem?_getD, List.getElem?_map, hg]
  rfl
 refine ⟨q, hg, h1, e2, fun v => ?_⟩
 unfold KC
 rw [e2]
 unfold memAt
 rw [List.map_map]
 have e3 : (Int.toNat ∘ fun (x : Nat) => (x : Int)) = id := by funext x; simp
 rw [e3, List.map_id, List.mem_filter, List.mem_range]
 simp only [Bool.and_eq_true, decide_eq_true_eq]
 constructor
 ·rintro ⟨hv, _, h4⟩
  exact ⟨hv, (lab_same (right_ends hR) hv h1).1 (by rw [h4, h2])⟩
 ·rintro ⟨hv, hc⟩
  have h4 := (lab_same (right_ends hR) hv h1).2 hc
  refine ⟨hv, ?_, by rw [h4, h2]⟩
  obtain ⟨x, hx, _, hxc, hxl⟩ := lab_least (right_ends hR) h1
  have := hxl v hv hc.symm
  omega
theorem kc_nodup (N : Nat) (l : List Ed) (hR : RightG (N : Int) l) {i : Nat} (hi : i < (compC N l).length) : (KC N l i).Nodup := by
 obtain ⟨q, _, _, e2, _⟩ := kc_root hR hi
 unfold KC
 rw [e2]
 unfold memAt
 rw [List.map_map]
 have e3 : (Int.toNat ∘ fun (x : Nat) => (x : Int)) = id := by funext x; simp
 rw [e3, List.map_id]
 exact List.Pairwise.filter _ List.nodup_range
theorem kc_one (hR : RightG (N : Int) l) {i j v : Nat} (hi : i < (compC N l).length) (hj : j < (compC N l).length) (h1 : v ∈ KC N l i) (h2 : v ∈ KC N l j) : j = i := by
 obtain ⟨q, hq, hqN, _, hm⟩ := kc_root hR hi
 obtain ⟨s, hs, hsN, _, hm'⟩ := kc_root hR hj
 obtain ⟨hv, c1⟩ := (hm v).1 h1
 obtain ⟨_, c2⟩ := (hm' v).1 h2
 have hq' := rootsN_mem.1 (List.mem_of_getElem? hq)
 have hs' := rootsN_mem.1 (List.mem_of_getElem? hs)
 have := (lab_same (right_ends hR) hqN hsN).2 (c1.symm.trans c2)
 have e : q = s := by omega
 subst e
 have hn : (rootsN (labAt N l N) N).Nodup := List.Pairwise.filter _ List.nodup_range
 obtain ⟨a1, b1⟩ := List.getElem?_eq_some_iff.1 hq
 obtain ⟨a2, b2⟩ := List.getElem?_eq_some_iff.1 hs
 exact (List.getElem_inj hn).1 (b2.trans b1.symm)
theorem kc_of (hR : RightG (N : Int) l) {v : Nat} (hv : v < N) : ∃ i, i < (compC N l).length ∧ v ∈ KC N l i := by
 obtain ⟨x, hx, hxN, hxc, hxl⟩ := lab_least (right_ends hR) hv
 obtain ⟨y, hy, hyN, hyc, hyl⟩ := lab_least (right_ends hR) hxN
 have e : y = x := by
  have h1 := hyl x hxN (.refl _)
  have h2 := hxl y hyN (hxc.trans hyc)
  omega
 subst e
 have hm : y ∈ rootsN (labAt N l N) N := rootsN_mem.2 ⟨hxN, hy⟩
 obtain ⟨i, hi⟩ := List.getElem?_of_mem hm
 have hlen : i < (compC N l).length := by
  have e : compC N l = (rootsN (labAt N l N) N).map fun r => memAt (labAt N l N) r N := rc_roots _ _ _
  rw [e, List.length_map]
  exact (List.getElem?_eq_some_iff.1 hi).1
 obtain ⟨q, hq, _, _, hmem⟩ := kc_root hR hlen
 rw [hi] at hq
 obtain rfl := Option.some.inj hq
 exact ⟨i, hlen, (hmem v).2 ⟨hv, hxc⟩⟩
theorem kc_shut (hR : RightG (N : Int) l) {i : Nat} (hi : i < (compC N l).length) : ShutK l (KC N l i) := by
 obtain ⟨q, _, _, _, hm⟩ := kc_root hR hi
 intro u hu v hv
 obtain ⟨h1, h2⟩ := (hm u).1 hu
 have h3 := (nb_mutual hR hv).2.2.1
 exact (hm v).2 ⟨by omega, .step ((adj_nb hR).2 hv).symm h2⟩
theorem kc_lt (hR : RightG (N : Int) l) {i : Nat} (hi : i < (compC N l).length) : ∀ v ∈ KC N l i, v < N := by
 obtain ⟨q, _, _, _, hm⟩ := kc_root hR hi
 exact fun v hv => ((hm v).1 hv).1
theorem faces_dec (hR : RightG (N : Int) l) (hS : SysR N l r) : Dec (nxD r) (fun x => x ∈ dartsL N l) (facesL N l r) := by
 have hP := sys_perm hS hR
 have hn := keysR_nodup hS hR
 have hlen : (keysR r N).length ≤ 2 * l.length + 1 := by
  rw [keysR_len hS (Nat.le_refl _), degS_all (fun e he => (hR.each e he).1)]
  omega
 obtain ⟨⟨left, hG⟩, hr⟩ := going_all (starts := dartsL N l) hP hn hlen (fun d hd => (keys_darts hS hR).2 hd) (Nat.le_refl _)
 refine ⟨hr, ?_, fun x => ?_⟩
 ·unfold facesL
  rw [rounds_flat]
  exact (List.nodup_append.1 hG.nodup).2.1
 ·unfold facesL
  rw [rounds_flat]
  constructor
  ·intro hx
   exact (keys_darts hS hR).1 ((hG.all x).2 (.inr (.inr hx)))
  ·intro hx
   obtain ⟨j, hj, e⟩ := List.getElem_of_mem hx
   have := rounds_starts (nx := nxD r) (starts := dartsL N l) (fuel := 2 * l.length + 1) (by omega) (dartsL N l).length j hj
   rw [List.getD_eq_getElem?_getD, List.getElem?_eq_getElem hj, e] at this
   exact this
theorem rnd_all {nx : Dt → Dt} {f : List Dt} (h : Rnd nx f) {Q : Dt → Prop} (hQ : ∀ x ∈ f, Q x → Q (nx x)) {z : Dt} (hz : z ∈ f) (hq : Q z) : ∀ y ∈ f, Q y := by
 obtain ⟨A, hw, hp⟩ := h.turn hz
 have key : ∀ {L : List Dt} {x : Dt}, Q x → (∀ y ∈ L, y ∈ f) → Way nx z x L → ∀ y ∈ L, Q y := by
  intro L
  induction L with
  | nil => intro x _ _ _ y hy; simp at hy
  | cons a L ih =>
   intro x hx hL hw y hy
   obtain ⟨rfl, h2⟩ := hw
   rcases List.mem_cons.1 hy with rfl | hy
   ·exact hx
   ·exact ih (hQ x (hL x (by simp)) hx) (fun y hy => hL y (by simp [hy])) h2 y hy
 exact fun y hy => key hq (fun y hy => hp.mem_iff.1 hy) hw y (hp.mem_iff.2 hy)
theorem filter_flat (p : List Dt → Bool) : ∀ fs : List (List Dt), (fs.filter p).flatten.Sublist fs.flatten
 | [] => by simp
 | f :: fs => by
  rw [List.filter_cons]
  split
  ·rw [List.flatten_cons, List.flatten_cons]
   exact List.Sublist.append (List.Sublist.refl _) (filter_flat p fs)
  ·rw [List.flatten_cons]
   exact (filter_flat p fs).trans (List.sublist_append_right _ _)
def facesK (fs : List (List Dt)) (K : List Nat) : List (List Dt) := fs.filter fun f => decide ((f.getD 0 (0, 0)).1.toNat ∈ K)
theorem pk_nx (hR : RightG (N : Int) l) (r : List (List Int)) {K : List Nat} (hsh : ShutK l K) {x : Dt} (hx : x ∈ dartsL N l) (h : x.1.toNat ∈ K) : (nxD r x).1.toNat ∈ K := by
 obtain ⟨u, v, rfl, hu, hv, huv, hvu⟩ := dart_ends hR hx
 unfold nxD
 simp only [Int.toNat_natCast] at h ⊢
 exact hsh u h v hvu
theorem facesK_dec (hR : RightG (N : Int) l) {K : List Nat} (hKN : ∀ v ∈ K, v < N) (hsh : ShutK l K) {fs : List (List Dt)} (hD : Dec (nxD r) (fun x => x ∈ dartsL N l) fs) : Dec (nxD r) (PK l K) (facesK fs K) := by
 have hpk : ∀ x, PK l K x ↔ x ∈ dartsL N l ∧ x.1.toNat ∈ K := fun x => by
  constructor
  ·rintro ⟨u, hu, h1, h2⟩
   exact ⟨dartsL_mem.2 ⟨u, hKN u hu, h1, h2⟩, by rw [h1]; simpa using hu⟩
  ·rintro ⟨h1, h2⟩
   obtain ⟨u, hu, h3, h4⟩ := dartsL_mem.1 h1
   exact ⟨u, by rw [h3] at h2; simpa using h2, h3, h4⟩
 have hin : ∀ f ∈ fs, ∀ y ∈ f, y ∈ dartsL N l := fun f hf y hy => (hD.mem y).1 (List.mem_flatten.2 ⟨f, hf, hy⟩)
 have hall : ∀ f ∈ fs, ∀ z ∈ f, z.1.toNat ∈ K → ∀ y ∈ f, y.1.toNat ∈ K := fun f hf z hz hzK => rnd_all (hD.rnd f hf) (Q := fun y => y.1.toNat ∈ K) (fun x hx h => pk_nx hR r hsh (hin f hf x hx) h) hz hzK
 have hhd : ∀ f ∈ fs, f.getD 0 (0, 0) ∈ f := fun f hf => by
  match f, (hD.rnd f hf).1 with
  | y :: f, _ => simp
 refine ⟨fun f hf => hD.rnd f (List.mem_filter.1 hf).1, ?_, fun x => ?_⟩
 ·exact hD.nodup.sublist (filter_flat _ fs)
 ·rw [hpk, List.mem_flatten]
  constructor
  ·rintro ⟨f, hf, hx⟩
   obtain ⟨h1, h2⟩ := List.mem_filter.1 hf
   exact ⟨hin f h1 x hx, hall f h1 _ (hhd f h1) (by simpa using h2) x hx⟩
  ·rintro ⟨h1, h2⟩
   obtain ⟨f, hf, hx⟩ := List.mem_flatten.1 ((hD.mem x).2 h1)
   exact ⟨f, List.mem_filter.2 ⟨hf, by simpa using hall f hf x hx h2 _ (hhd f hf)⟩, hx⟩
theorem kc_head (hR : RightG (N : Int) l) (hS : SysR N l r) {i : Nat} (hi : i < (compC N l).length) : ∃ h : Nat, h ∈ KC N l i ∧ (((compC N l).getD i []).getD 0 0).toNat = h ∧ (((r.getD h []).length = 0 ∧ KC N l i = [h] ∧ nb l (h : Int) = []) ∨ ((r.getD h []).length ≠ 0 ∧ ∀ v ∈ KC N l i, nb l (v : Int) ≠ [])) := by
 have hne := (comps_ok hR).ne ((compC N l).getD i []) (by rw [List.getD_eq_getElem?_getD, List.getElem?_eq_getElem hi]; exact List.getElem_mem hi)
 obtain ⟨q, _, _, e2, hm⟩ := kc_root hR hi
 have hh : (((compC N l).getD i []).getD 0 0).toNat ∈ KC N l i := by
  unfold KC
  match hx : (compC N l).getD i [], hne with
  | y :: xs, _ => simp
 generalize (((compC N l).getD i []).getD 0 0).toNat = h at hh
 have hhN := ((hm h).1 hh).1
 have hlen := (hS.perm h hhN).length_eq
 have conn : ∀ v ∈ KC N l i, Conn l v h := fun v hv => ((hm v).1 hv).2.trans ((hm h).1 hh).2.symm
 have alone : ∀ {u v : Nat}, nb l (u : Int) = [] → Conn l u v → u = v := fun {u v} hu hc => by
  obtain ⟨ls, hl⟩ := hc
  match ls, hl with
  | [], hl => exact hl
  | x :: ls, hl =>
   have := (adj_nb hR).1 hl.1
   rw [hu] at this
   simp at this
 refine ⟨h, hh, rfl, ?_⟩
 by_cases h0 : (r.getD h []).length = 0
 ·left
  have hnb : nb l (h : Int) = [] := List.eq_nil_of_length_eq_zero (by omega)
  refine ⟨h0, ?_, hnb⟩
  have hall : ∀ v ∈ KC N l i, v = h := fun v hv => (alone hnb (conn v hv).symm).symm
  have hnd := kc_nodup N l hR hi
  match hK : KC N l i, hh, hall, hnd with
  | [], hh, _, _ => simp at hh
  | [x], hh, hall, _ => rw [hall x (by simp)]
  | x :: y :: L, _, hall, hnd =>
   have e1 := hall x (by simp)
   have e2 := hall y (by simp)
   rw [List.nodup_cons] at hnd
   exact absurd (by rw [e1, ← e2]; simp) hnd.1
 ·right
  refine ⟨h0, fun v hv hnb => ?_⟩
  have := alone hnb (conn v hv)
  subst this
  rw [hnb] at hlen
  simp at hlen
  exact h0 (by simpa using hlen)
theorem kc_iso (hR : RightG (N : Int) l) (hS : SysR N l r) {i : Nat} (hi : i < (compC N l).length) : hd0 r ((compC N l).getD i []) = (isoK l (KC N l i) : Int) ∧ hd0 r ((compC N l).getD i []) = if eK l (KC N l i) = 0 then 1 else 0 := by
 obtain ⟨h, hh, he, hc⟩ := kc_head hR hS hi
 unfold hd0
 rw [he]
 have hsh := kc_shut hR hi
 rcases hc with ⟨h0, hK, hnb⟩ | ⟨h0, hnb⟩
 ·rw [if_pos h0, hK]
  refine ⟨?_, ?_⟩
  ·unfold isoK
   simp [hnb]
  ·rw [if_pos]
   unfold eK
   rw [List.countP_eq_zero]
   intro e he2 h1
   have h2 : e.1.toNat = h := by simpa using h1
   have hok := (hR.each e he2).1
   have h3 := hok.1
   have : e.2.1 ∈ nb l (h : Int) := mem_nb.2 ⟨e, he2, .inl ⟨by omega, rfl⟩⟩
   rw [hnb] at this
   simp at this
 ·rw [if_neg h0]
  refine ⟨?_, ?_⟩
  ·unfold isoK
   have : (KC N l i).countP (fun (v : Nat) => (nb l (v : Int)).isEmpty) = 0 := by
    rw [List.countP_eq_zero]
    intro v hv
    have := hnb v hv
    simpa using this
   rw [this]
   rfl
  ·rw [if_neg]
   intro h1
   unfold eK at h1
   rw [List.countP_eq_zero] at h1
   obtain ⟨y, hy⟩ := List.exists_mem_of_ne_nil _ (hnb h hh)
   obtain ⟨e, he2, h2⟩ := mem_nb.1 hy
   have hy0 := (nb_mutual hR hy).2.1
   rcases h2 with ⟨h3, _⟩ | ⟨_, _, h3⟩
   ·exact h1 e he2 (by rw [h3]; simpa using hh)
   ·have : (y.toNat : Int) ∈ nb l (h : Int) := by rw [show (y.toNat : Int) = y by omega]; exact hy
    exact h1 e he2 (by rw [h3]; simpa using hsh h hh _ this)
theorem of_iff (hR : RightG (N : Int) l) {i v : Nat} (hi : i < (compC N l).length) (hv : v < N) : ((ofC N (compC N l) (compC N l).length).getD v 0).toNat = i ↔ v ∈ KC N l i := by
 obtain ⟨j, hj, hm⟩ := kc_of hR hv
 have := ofC_at N (compC N l) hv (i := j) hm (compC N l).length hj (fun k hk h => kc_one hR hj hk hm h)
 rw [this]
 simp only [Int.toNat_natCast]
 constructor
 ·intro e; rw [← e]; exact hm
 ·intro h; exact (kc_one hR hi hj h hm)
theorem nums_at (hR : RightG (N : Int) l) (hS : SysR N l r) {i : Nat} (hi : i < (compC N l).length) : (numsL N l r).getD i 0 = (((compC N l).getD i []).length : Int) - (eK l (KC N l i) : Int) + ((facesK (facesL N l r) (KC N l i)).length : Int) + hd0 r ((compC N l).getD i []) := by
 have hD := faces_dec hR hS
 unfold numsL numsM
 rw [liF_at _ _ _ (by rw [liE_len, liC_len]; exact hi), liE_at _ _ _ (by rw [liC_len]; exact hi), liC_at hi, if_pos hi]
 have h1 : l.countP (fun e => decide (((ofC N (compC N l) (compC N l).length).getD e.1.toNat 0).toNat = i)) = eK l (KC N l i) := by
  unfold eK
  refine List.countP_congr fun e he => ?_
  have hok := (hR.each e he).1
  have ha := hok.1
  have hb := hok.2.1
  simp only [decide_eq_true_eq]
  exact of_iff hR hi (by omega)
 have h2 : (facesL N l r).countP (fun f => decide (((ofC N (compC N l) (compC N l).length).getD (f.getD 0 (0, 0)).1.toNat 0).toNat = i)) = (facesK (facesL N l r) (KC N l i)).length := by
  unfold facesK
  rw [← List.countP_eq_length_filter]
  refine List.countP_congr fun f hf => ?_
  have hx : f.getD 0 (0, 0) ∈ dartsL N l := by
   refine (hD.mem _).1 (List.mem_flatten.2 ⟨f, hf, ?_⟩)
   match f, (hD.rnd f hf).1 with
   | y :: f, _ => simp
  obtain ⟨u, v, e, hu, _⟩ := dart_ends hR hx
  simp only [decide_eq_true_eq]
  rw [e]
  simp only [Int.toNat_natCast]
  exact of_iff hR hi hu
 rw [h1, h2]
 omega
theorem nums_chi (hR : RightG (N : Int) l) (hS : SysR N l r) {i : Nat} (hi : i < (compC N l).length) : (numsL N l r).getD i 0 = chi l (KC N l i) (facesK (facesL N l r) (KC N l i)) := by
 rw [nums_at hR hS hi, (kc_iso hR hS hi).1]
 unfold chi
 have : (KC N l i).length = ((compC N l).getD i []).length := by unfold KC; rw [List.length_map]
 rw [this]
theorem nums_le (hR : RightG (N : Int) l) (hS : SysR N l r) {i : Nat} (hi : i < (compC N l).length) : (∃ z : Int, (numsL N l r).getD i 0 = 2 * z) ∧ (numsL N l r).getD i 0 ≤ 2 := by
 rw [nums_chi hR hS hi]
 obtain ⟨h1, h2⟩ := euler_le (kc_nodup N l hR hi) (kc_lt hR hi) _ hR hS (kc_shut hR hi) (facesK_dec hR (kc_lt hR hi) (kc_shut hR hi) (faces_dec hR hS)) rfl
 refine ⟨h1, ?_⟩
 obtain ⟨q, _, _, _, hm⟩ := kc_root hR hi
 have := h2 [q] (fun v hv => ⟨q, by simp, ((hm v).1 hv).2⟩)
 simpa using this
end
end Go.Proofs.YtjpkojmjiaoifaaGreat

namespace Go.Proofs.YtjpkojmjiaoifaaGreat
open Go Go.Proofs Go.RowKit
theorem plane_two {N : Nat} {l : List Ed} {r : List (List Int)} (h : planeK (numsL N l r) = 0) {i : Nat} (hi : i < (compC N l).length) : (numsL N l r).getD i 0 = 2 := by
 unfold planeK at h
 split at h
 ·cases h
 ·rename_i hn
  rw [List.any_eq_true] at hn
  have hl : i < (numsL N l r).length := by rw [numsL_len]; exact hi
  rw [List.getD_eq_getElem?_getD, List.getElem?_eq_getElem hl]
  simp only [Option.getD_some]
  by_cases e : (numsL N l r)[i] = 2
  ·exact e
  ·exact absurd ⟨_, List.getElem_mem hl, by simpa using e⟩ hn
section
variable {N : Nat} {r : List (List Int)}
end
def sumK (n : Nat) (g : Nat → Nat) : Nat := ((List.range n).map g).sum
theorem sumK_succ (n : Nat) (g : Nat → Nat) : sumK (n + 1) g = sumK n g + g n := by
 unfold sumK
 rw [List.range_succ, List.map_append, List.sum_append]
 simp
theorem sumK_add (g k : Nat → Nat) : ∀ n, sumK n (fun i => g i + k i) = sumK n g + sumK n k
 | 0 => rfl
 | n + 1 => by
  rw [sumK_succ, sumK_succ, sumK_succ, sumK_add g k n]
  omega
theorem sumK_zero : ∀ n, sumK n (fun _ => 0) = 0
 | 0 => rfl
 | n + 1 => by rw [sumK_succ, sumK_zero n]
theorem sumK_congr {g k : Nat → Nat} : ∀ {n : Nat}, (∀ i, i < n → g i = k i) → sumK n g = sumK n k
 | 0, _ => rfl
 | n + 1, h => by rw [sumK_succ, sumK_succ, sumK_congr (fun i hi => h i (by omega)), h n (by omega)]
theorem sumK_one {m : Nat} : ∀ {n : Nat}, m < n → sumK n (fun i => if m = i then 1 else 0) = 1
 | n + 1, h => by
  rw [sumK_succ]
  by_cases e : m = n
  ·subst e
   have : sumK m (fun i => if m = i then 1 else 0) = sumK m fun _ => 0 := sumK_congr fun i hi => by rw [if_neg (by omega)]
   rw [this, sumK_zero]
   simp
  ·rw [sumK_one (by omega : m < n), if_neg e]
theorem sum_count {α : Type} (f : α → Nat) {n : Nat} : ∀ (L : List α), (∀ x ∈ L, f x < n) → sumK n (fun i => L.countP fun x => decide (f x = i)) = L.length
 | [], _ => by
  have : sumK n (fun i => ([] : List α).countP fun x => decide (f x = i)) = sumK n fun _ => 0 := sumK_congr fun i _ => by simp
  rw [this, sumK_zero]
  rfl
 | x :: L, h => by
  have ih := sum_count f L (fun y hy => h y (by simp [hy]))
  have hx := h x (by simp)
  have e : sumK n (fun i => (x :: L).countP fun y => decide (f y = i)) = sumK n fun i => (L.countP fun y => decide (f y = i)) + (if f x = i then 1 else 0) := sumK_congr fun i _ => by
   rw [List.countP_cons]
   simp
  rw [e, sumK_add, ih, sumK_one hx, List.length_cons]
section
variable {N : Nat} {l : List Ed} {r : List (List Int)}
def idxC (N : Nat) (l : List Ed) (v : Nat) : Nat := ((ofC N (compC N l) (compC N l).length).getD v 0).toNat
theorem idxC_lt (hR : RightG (N : Int) l) {v : Nat} (hv : v < N) : idxC N l v < (compC N l).length := by
 obtain ⟨k, hk, hlt⟩ := ofC_ok (comps_ok hR) (compC N l).length (Nat.le_refl _) v hv
 unfold idxC
 rw [hk]
 simpa using hlt
theorem sum_verts (hR : RightG (N : Int) l) : sumK (compC N l).length (fun i => ((compC N l).getD i []).length) = N := by
 have h := sum_count (idxC N l) (n := (compC N l).length) (List.range N) (fun v hv => idxC_lt hR (List.mem_range.1 hv))
 rw [List.length_range] at h
 refine Eq.trans (sumK_congr fun i hi => ?_) h
 have h1 : ((compC N l).getD i []).length = (KC N l i).length := by unfold KC; rw [List.length_map]
 rw [h1, List.countP_eq_length_filter]
 refine List.Perm.length_eq ((List.perm_ext_iff_of_nodup (kc_nodup N l hR hi) (List.Pairwise.filter _ List.nodup_range)).2 fun v => ?_)
 rw [List.mem_filter, List.mem_range]
 constructor
 ·intro hv
  have := kc_lt hR hi v hv
  exact ⟨this, by simpa [idxC] using (of_iff hR hi this).2 hv⟩
 ·rintro ⟨h2, h3⟩
  exact (of_iff hR hi h2).1 (by simpa [idxC] using h3)
theorem sum_edges (hR : RightG (N : Int) l) : sumK (compC N l).length (fun i => eK l (KC N l i)) = l.length := by
 have h := sum_count (fun e : Ed => idxC N l e.1.toNat) (n := (compC N l).length) l (fun e he => idxC_lt hR (by have := (hR.each e he).1.2.1; have := (hR.each e he).1.1; omega))
 rw [← h]
 refine sumK_congr fun i hi => ?_
 unfold eK
 refine List.countP_congr fun e he => ?_
 have h0 := (hR.each e he).1.1
 have h1 := (hR.each e he).1.2.1
 simp only [decide_eq_true_eq]
 exact (of_iff hR hi (by omega)).symm
theorem sum_faces (hR : RightG (N : Int) l) (hS : SysR N l r) : sumK (compC N l).length (fun i => (facesK (facesL N l r) (KC N l i)).length) = (facesL N l r).length := by
 have hD := faces_dec hR hS
 have hx : ∀ f ∈ facesL N l r, (f.getD 0 (0, 0)).1.toNat < N := fun f hf => by
  have hm : f.getD 0 (0, 0) ∈ dartsL N l := by
   refine (hD.mem _).1 (List.mem_flatten.2 ⟨f, hf, ?_⟩)
   match f, (hD.rnd f hf).1 with
   | y :: f, _ => simp
  obtain ⟨u, v, e, hu, _⟩ := dart_ends hR hm
  rw [e]
  simpa using hu
 have h := sum_count (fun f : List Dt => idxC N l (f.getD 0 (0, 0)).1.toNat) (n := (compC N l).length) (facesL N l r) (fun f hf => idxC_lt hR (hx f hf))
 rw [← h]
 refine sumK_congr fun i hi => ?_
 unfold facesK
 rw [← List.countP_eq_length_filter]
 refine List.countP_congr fun f hf => ?_
 simp only [decide_eq_true_eq]
 exact (of_iff hR hi (hx f hf)).symm
def isoN (N : Nat) (l : List Ed) : Nat := (List.range N).countP fun (v : Nat) => (nb l (v : Int)).isEmpty
theorem sum_iso (hR : RightG (N : Int) l) : sumK (compC N l).length (fun i => isoK l (KC N l i)) = isoN N l := by
 have h := sum_count (idxC N l) (n := (compC N l).length) ((List.range N).filter fun (v : Nat) => (nb l (v : Int)).isEmpty) (fun v hv => idxC_lt hR (List.mem_range.1 (List.mem_filter.1 hv).1))
 unfold isoN
 rw [List.countP_eq_length_filter, ← h]
 refine sumK_congr fun i hi => ?_
 unfold isoK
 rw [List.countP_eq_length_filter, List.countP_eq_length_filter, List.filter_filter]
 refine List.Perm.length_eq ((List.perm_ext_iff_of_nodup (List.Pairwise.filter _ (kc_nodup N l hR hi)) (List.Pairwise.filter _ List.nodup_range)).2 fun v => ?_)
 rw [List.mem_filter, List.mem_filter, List.mem_range]
 constructor
 ·rintro ⟨hv, h2⟩
  have := kc_lt hR hi v hv
  exact ⟨this, by rw [Bool.and_eq_true]; exact ⟨by simpa [idxC] using (of_iff hR hi this).2 hv, h2⟩⟩
 ·rintro ⟨h2, h3⟩
  rw [Bool.and_eq_true] at h3
  exact ⟨(of_iff hR hi h2).1 (by simpa [idxC] using h3.1), h3.2⟩
end
end Go.Proofs.YtjpkojmjiaoifaaGreat
