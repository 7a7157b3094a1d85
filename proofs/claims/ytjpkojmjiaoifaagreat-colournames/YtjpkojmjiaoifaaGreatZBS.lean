import Derived.Test.YtjpkojmjiaoifaaGreatZBP
import Derived.Test.YtjpkojmjiaoifaaGreatXRNum3
import Derived.Test.YtjpkojmjiaoifaaGreatZAU
import Derived.Test.YtjpkojmjiaoifaaGreatZAQ
import Derived.Test.YtjpkojmjiaoifaaGreatXRGenus
namespace Go.Proofs.YtjpkojmjiaoifaaGreat
open Go Go.Proofs Go.RowKit
def compC (N : Nat) (l : List Ed) : List (List Int) := rcAt (labAt N l N) N N
theorem root_labelsR {N : Nat} {l : List Ed} (hR : RightG (N : Int) l) : Labels (walkW N l).root := by
 rw [walk_root hR]
 intro x hx
 obtain ⟨v, hv, rfl⟩ := List.getElem_of_mem hx
 have hvN : v < N := by rw [labAt_len] at hv; exact hv
 obtain ⟨y, hy, hyN, _⟩ := lab_least (right_ends hR) hvN
 have e : (labAt N l N).getD v 0 = (labAt N l N)[v] := by rw [List.getD_eq_getElem?_getD, List.getElem?_eq_getElem hv]; rfl
 rw [← e, hy, labAt_len]
 omega
theorem comps_ok {N : Nat} {l : List Ed} (hR : RightG (N : Int) l) : CompsOK N (compC N l) := by
 have hL := lab_Least (right_ends hR)
 have hmm : ∀ {r : Nat} {v : Int}, v ∈ memAt (labAt N l N) r N → ∃ u : Nat, v = (u : Int) ∧ u < N := fun {r v} h => by
  unfold memAt at h
  obtain ⟨u, hu, rfl⟩ := List.mem_map.1 h
  exact ⟨u, rfl, List.mem_range.1 (List.mem_filter.1 hu).1⟩
 refine ⟨rcAt_len _ _ _, fun hp => ?_, fun x hx => ?_, fun x hx => ?_, fun x hx v hv => ?_⟩
 ·obtain ⟨x, h1, h2, h3⟩ := hL 0 (by rw [labAt_len]; exact hp)
  have hx0 : x = 0 := by omega
  subst hx0
  have hm : 0 ∈ rootsN (labAt N l N) N := rootsN_mem.2 ⟨hp, h1⟩
  unfold compC
  rw [rc_roots, List.length_map]
  exact List.length_pos_of_mem hm
 all_goals
  unfold compC at hx
  rw [rc_roots] at hx
  obtain ⟨r, hr, rfl⟩ := List.mem_map.1 hx
  obtain ⟨h1, h2⟩ := rootsN_mem.1 hr
 ·have : (r : Int) ∈ memAt (labAt N l N) r N := by
   unfold memAt
   refine List.mem_map.2 ⟨r, List.mem_filter.2 ⟨List.mem_range.2 h1, ?_⟩, rfl⟩
   simp only [Bool.and_eq_true, decide_eq_true_eq]
   exact ⟨Nat.le_refl _, h2⟩
  intro e
  rw [e] at this
  simp at this
 ·unfold memAt
  rw [List.length_map]
  refine Nat.le_trans (List.length_filter_le _ _) ?_
  simp
 ·exact hmm hv
theorem comps_any (N : Nat) (l : List Ed) (hR : RightG (N : Int) l) (sv : Value) (W : World) (hl : Edges W.heap.size W sv l) :
  Calls Tryz.prog 59 #[.agg #[.int .i64 (N : Int), sv]] W fun e w' => ∃ lv, e = .returned lv ∧ Lsts w'.heap.size w' lv (compC N l) ∧ Below W.heap.size W w' := by
 refine (components_any N l hR (root_labelsR hR) (walkW_ok hR).lenR sv W hl).mono ?_
 rintro e w' ⟨lv, svs, h0, rfl, hG, hb⟩
 rw [walk_components hR] at hG
 exact ⟨lv, rfl, hG.lsts, hb⟩
def numsL (N : Nat) (l : List Ed) (r : List (List Int)) : List Int := numsM N l r (compC N l) (facesL N l r)
theorem numsL_len (N : Nat) (l : List Ed) (r : List (List Int)) : (numsL N l r).length = (compC N l).length := by
 unfold numsL numsM
 rw [liF_len, liE_len, liC_len]
theorem nums_any (N : Nat) (l : List Ed) (hR : RightG (N : Int) l) (r : List (List Int)) (hS : SysR N l r) (sv rv : Value) (w : World) (hl : Edges w.heap.size w sv l) (hr : Lsts w.heap.size w rv r) :
  Calls Tryz.prog 38 #[.agg #[.int .i64 (N : Int), sv], rv] w fun e w' => ∃ lv, e = .returned lv ∧ Ints w'.heap.size w' lv (numsL N l r) ∧ Below w.heap.size w w' :=
 numbers_any N l hR r hS (compC N l) (comps_ok hR) sv rv w hl hr (fun W h => comps_any N l hR sv W h)
set_option maxRecDepth 100000 in
set_option maxHeartbeats 2000000 in
theorem index2_any (L : List Int) (hL : L.length ≤ 4194304) (sv : Value) (w : World) (h : Ints w.heap.size w sv L) :
  Calls Tryz.prog 54 #[sv, .func (.func 39) #[] #[]] w fun e w' => w' = w ∧ ∃ k : Int, e = .returned (.int .i64 k) ∧ (0 ≤ k ↔ ∃ x ∈ L, x ≠ 2) := by
 have hent : ∀ (args : Array Value) (W : World), (callFunc 39 args).run Tryz.prog W = .ok (.enter 39 args) W := fun args W => by kernel_rfl
 have hp1 : ∀ (x : Int) (W : World), Calls Tryz.prog 39 #[.int .i64 x] W fun e w' => e = .returned (.bool (x != 2)) ∧ w' = W := fun x W => by
  go_enter Tryz.func39, Tryz.ntmps39
  go_wp2
  go_ret
  exact ⟨rfl, rfl⟩
 obtain ⟨p, c, rfl⟩ := h.len
 have HI : Hid (Ints w.heap.size w (.slice p L.length c) L) := h
 clear h
 go_enter Tryz.func54, Tryz.ntmps54
 go_wp2
 go_loopw [8] (fun iv wr => ∃ j : Nat, j ≤ L.length ∧ iv = .int .i64 j ∧ Hid (∀ (i : Nat) (h1 : i < L.length), i < j → L[i] = 2) ∧ wr = w) (fun i _ => L.length - (intOf i).toNat)
 case atStart => exact ⟨0, Nat.zero_le _, rfl, fun i _ h => by omega, rfl⟩
 case round =>
  obtain ⟨j, hj, rfl, HS, rfl⟩ := hrel
  by_cases hlt : j < L.length
  ·have hjl : (j : Int) < (L.length : Int) := by omega
   obtain ⟨b, off, rfl, hbb, hcap, hc⟩ := HI.out.open hlt
   have c0 := hc wr (Below.refl _ _) j hlt
   by_cases he : L[j] = 2
   ·have HS2 : Hid (∀ (i : Nat) (h1 : i < L.length), i < j + 1 → L[i] = 2) := fun i h1 h => by
     by_cases e : i = j
     ·subst e; exact he
     ·exact HS.out i h1 (by omega)
    rw [he] at c0
    have HLT : Hid (j < L.length) := hlt
    have hcl := hp1 2 wr
    rw [show ((2 : Int) != 2) = false from rfl] at hcl
    clear he HS hlt hc hp1
    go_wp2_with fail
    refine hcl.mono ?_
    clear hcl
    rintro e w2 ⟨rfl, rfl⟩
    go_wp2
    exact ⟨⟨j + 1, HLT.out, by go_num, HS2.out, trivial⟩, by have := HLT.out; simp [intOf]; omega⟩
   ·have HE : Hid (∃ x ∈ L, x ≠ 2) := ⟨L[j], List.getElem_mem hlt, he⟩
    have hcl := hp1 L[j] wr
    rw [show (L[j] != 2) = true from bne_iff_ne.2 he] at hcl
    generalize L[j] = x at c0 hcl
    clear he HS hlt hc hp1
    go_wp2_with fail
    refine hcl.mono ?_
    clear hcl
    rintro e w2 ⟨rfl, rfl⟩
    go_wp2
    go_ret
    exact ⟨rfl, (j : Int), rfl, fun _ => HE.out, fun _ => by omega⟩
  ·obtain rfl : j = L.length := by omega
   have HE : Hid (¬ ∃ x ∈ L, x ≠ 2) := fun ⟨x, hx, hn⟩ => by
    obtain ⟨i, hi, rfl⟩ := List.getElem_of_mem hx
    exact hn (HS.out i hi hi)
   clear HS
   go_wp2
   go_ret
   exact ⟨rfl, -1, rfl, fun h => by omega, fun h => absurd h HE.out⟩
set_option maxRecDepth 100000 in
set_option maxHeartbeats 2000000 in
theorem contains2_any (L : List Int) (hL : L.length ≤ 4194304) (sv : Value) (w : World) (h : Ints w.heap.size w sv L) :
  Calls Tryz.prog 34 #[sv, .func (.func 39) #[] #[]] w fun e w' => e = .returned (.bool (L.any fun x => decide (x ≠ 2))) ∧ w' = w := by
 have hi := index2_any L hL sv w h
 obtain ⟨p, c, rfl⟩ := h.len
 clear h
 have HA : Hid ((L.any fun x => decide (x ≠ 2)) = true ↔ ∃ x ∈ L, x ≠ 2) := by unfold Hid; rw [List.any_eq_true]; simp
 go_enter Tryz.func34, Tryz.ntmps34
 go_wp2_with fail
 refine hi.mono ?_
 clear hi
 rintro e w2 ⟨rfl, k, rfl, hk⟩
 have HK : Hid (decide (0 ≤ k) = (L.any fun x => decide (x ≠ 2))) := by
  unfold Hid
  by_cases h : 0 ≤ k
  ·rw [decide_eq_true h, HA.out.2 (hk.1 h)]
  ·rw [decide_eq_false h]
   cases hc : (L.any fun x => decide (x ≠ 2)) with
   | false => rfl
   | true => exact absurd (hk.2 (HA.out.1 hc)) h
 clear hk
 go_wp2
 go_ret
 exact ⟨by rw [← HK.out]; rfl, rfl⟩
def planeK (L : List Int) : Int := if (L.any fun x => decide (x ≠ 2)) then 12 else 0
set_option maxRecDepth 100000 in
set_option maxHeartbeats 2000000 in
theorem plane_any (N : Nat) (l : List Ed) (hR : RightG (N : Int) l) (r : List (List Int)) (hS : SysR N l r) (sv rv : Value) (w : World) (hl : Edges w.heap.size w sv l) (hr : Lsts w.heap.size w rv r) :
  Calls Tryz.prog 17 #[.agg #[.int .i64 (N : Int), sv], rv] w fun e w' => e = .returned (.int .i64 (planeK (numsL N l r))) ∧ Below w.heap.size w w' := by
 have hbA : Below w.heap.size w (w.alloc (.cells #[.int .i64 (N : Int), sv] 24)) := (Below.refl _ _).alloc (Nat.le_refl _) _
 have hX : Blk 24 (w.alloc (.cells #[.int .i64 (N : Int), sv] 24)) w.heap.size [.int .i64 (N : Int), sv] := heap_alloc_new w _
 have q0 := hX.cell (j := 0) rfl
 have q1 := hX.cell (j := 1) rfl
 have hrc := sysRight_any (N : Int) l r sv rv _ (hl.go hbA) (hr.go hbA)
 rw [sysK_ok hR hS] at hrc
 have hnl : (numsL N l r).length ≤ 4194304 := by
  rw [numsL_len]
  have h1 := (comps_ok hR).few
  have h2 := hR.n1
  omega
 have HX : Hid (Blk 24 (w.alloc (.cells #[.int .i64 (N : Int), sv] 24)) w.heap.size [.int .i64 (N : Int), sv]) := hX
 have HN : Hid (∀ W, Below w.heap.size w W → Calls Tryz.prog 38 #[.agg #[.int .i64 (N : Int), sv], rv] W fun e w' => ∃ lv, e = .returned lv ∧ Ints w'.heap.size w' lv (numsL N l r) ∧ Below W.heap.size W w') := fun W h => nums_any N l hR r hS sv rv W (hl.go h) (hr.go h)
 have HBA : Hid _ := hbA
 clear hX hl hr hbA hR hS
 go_enter Tryz.func17, Tryz.ntmps17
 go_wp2_with fail
 generalize w.alloc (.cells #[.int .i64 (N : Int), sv] 24) = w1 at *
 refine hrc.mono ?_
 clear hrc
 rintro e w2 ⟨rfl, hb2⟩
 have hX2 := HX.out.go hb2
 have hB2 : Below w.heap.size w w2 := HBA.out.trans (hb2.mono HBA.out.size)
 have y0 := hX2.cell (j := 0) rfl
 have y1 := hX2.cell (j := 1) rfl
 have hn := HN.out w2 hB2
 clear hX2 HX HN q0 q1 hb2
 go_wp2_with fail
 refine hn.mono ?_
 clear hn
 rintro e w3 ⟨lv, rfl, hI, hb3⟩
 have hcf := contains2_any (numsL N l r) hnl lv w3 hI
 obtain ⟨pl, cl, rfl⟩ := hI.len
 clear hI
 have HB3 : Hid (Below w.heap.size w w3) := hB2.trans (hb3.mono hB2.size)
 clear hb3 y0 y1 hB2
 generalize hL : numsL N l r = L at *
 cases hb : (L.any fun x => decide (x ≠ 2)) with
 | false =>
  have HE : Hid (planeK L = 0) := by unfold Hid planeK; rw [hb]; rfl
  rw [hb] at hcf
  clear hb
  go_wp2_with fail
  refine hcf.mono ?_
  clear hcf
  rintro e w4 ⟨rfl, rfl⟩
  go_wp2
  go_ret
  exact ⟨by rw [hL, HE.out]; rfl, HB3.out⟩
 | true =>
  have HE : Hid (planeK L = 12) := by unfold Hid planeK; rw [hb]; rfl
  rw [hb] at hcf
  clear hb
  go_wp2_with fail
  refine hcf.mono ?_
  clear hcf
  rintro e w4 ⟨rfl, rfl⟩
  go_wp2
  go_ret
  exact ⟨by rw [hL, HE.out]; rfl, HB3.out⟩
end Go.Proofs.YtjpkojmjiaoifaaGreat

namespace Go.Proofs.YtjpkojmjiaoifaaGreat
open Go Go.Proofs
theorem nodup_len : ∀ {A B : List Nat}, A.Nodup → (∀ x ∈ A, x ∈ B) → A.length ≤ B.length
 | [], _, _, _ => by simp
 | a :: A, B, hn, hs => by
  rw [List.nodup_cons] at hn
  have ha := hs a (by simp)
  have := nodup_len (A := A) (B := B.erase a) hn.2 (fun x hx => (List.mem_erase_of_ne (fun e => hn.1 (by rw [← e]; exact hx))).2 (hs x (by simp [hx])))
  rw [List.length_erase_of_mem ha] at this
  have := List.length_pos_of_mem ha
  rw [List.length_cons]
  omega
section
variable {N : Nat} {l1 l2 : List Ed} {e : Ed} {a b : Nat}
theorem adj_less (ha : e.1 = (a : Int)) (hb : e.2.1 = (b : Int)) {x z : Nat} (h : Adj (l1 ++ e :: l2) x z) : Adj (l1 ++ l2) x z ∨ (x = a ∧ z = b) ∨ (x = b ∧ z = a) := by
 obtain ⟨f, hf, h⟩ := h
 by_cases he : f = e
 ·subst he
  right
  rcases h with ⟨h1, h2⟩ | ⟨h1, h2⟩
  ·exact .inl ⟨by omega, by omega⟩
  ·exact .inr ⟨by omega, by omega⟩
 ·left
  refine ⟨f, ?_, h⟩
  rcases List.mem_append.1 hf with h1 | h1
  ·simp [h1]
  ·rcases List.mem_cons.1 h1 with h1 | h1
   ·exact absurd h1 he
   ·simp [h1]
theorem conn_less (ha : e.1 = (a : Int)) (hb : e.2.1 = (b : Int)) {x y : Nat} (h : Conn (l1 ++ e :: l2) x y) : Conn (l1 ++ l2) x y ∨ Conn (l1 ++ l2) x a ∨ Conn (l1 ++ l2) x b := by
 induction h using Conn.ind with
 | refl => exact .inl (.refl _)
 | step h1 _ ih =>
  rcases adj_less ha hb h1 with h2 | ⟨h2, _⟩ | ⟨h2, _⟩
  ·rcases ih with h3 | h3 | h3
   ·exact .inl (.step h2 h3)
   ·exact .inr (.inl (.step h2 h3))
   ·exact .inr (.inr (.step h2 h3))
  ·subst h2; exact .inr (.inl (.refl _))
  ·subst h2; exact .inr (.inr (.refl _))
theorem conn_keep (ha : e.1 = (a : Int)) (hb : e.2.1 = (b : Int)) (hc : Conn (l1 ++ l2) a b) {x y : Nat} (h : Conn (l1 ++ e :: l2) x y) : Conn (l1 ++ l2) x y := by
 induction h using Conn.ind with
 | refl => exact .refl _
 | step h1 _ ih =>
  rcases adj_less ha hb h1 with h2 | ⟨h2, h3⟩ | ⟨h2, h3⟩
  ·exact .step h2 ih
  ·subst h2; subst h3; exact hc.trans ih
  ·subst h2; subst h3; exact hc.symm.trans ih
end
def chi (l : List Ed) (K : List Nat) (C : List (List Dt)) : Int := (K.length : Int) - (eK l K : Int) + (C.length : Int) + (isoK l K : Int)
theorem chi_none {N : Nat} {l : List Ed} {r : List (List Int)} {K : List Nat} {C : List (List Dt)} (hR : RightG (N : Int) l) (hsh : ShutK l K) (hD : Dec (nxD r) (PK l K) C) (h0 : eK l K = 0) : chi l K C = 2 * (K.length : Int) ∧ ∀ u ∈ K, ∀ v, Conn l u v → u = v := by
 have hno : ∀ e ∈ l, e.1.toNat ∉ K := fun e he hm => by
  unfold eK at h0
  rw [List.countP_eq_zero] at h0
  exact h0 e he (by simpa using hm)
 have hnb : ∀ u ∈ K, nb l (u : Int) = [] := fun u hu => by
  rw [List.eq_nil_iff_forall_not_mem]
  intro y hy
  obtain ⟨_, h1, _, _⟩ := nb_mutual hR hy
  obtain ⟨e, he, h⟩ := mem_nb.1 hy
  rcases h with ⟨h2, _⟩ | ⟨_, _, h2⟩
  ·exact hno e he (by rw [h2]; simpa using hu)
  ·refine hno e he ?_
   have : (y.toNat : Int) ∈ nb l (u : Int) := by rw [show (y.toNat : Int) = y by omega]; exact hy
   have := hsh u hu _ this
   rw [h2]
   exact this
 have hC : C = [] := by
  match C, hD with
  | [], _ => rfl
  | [] :: C, hD => exact absurd rfl (hD.rnd [] (by simp)).1
  | (x :: f) :: C, hD =>
   obtain ⟨u, hu, _, h2⟩ := (hD.mem x).1 (by simp)
   rw [hnb u hu] at h2
   simp at h2
 have hiso : isoK l K = K.length := by
  unfold isoK
  rw [List.countP_eq_length]
  intro v hv
  rw [hnb v hv]
  rfl
 refine ⟨?_, fun u hu v h => ?_⟩
 ·unfold chi
  rw [h0, hC, hiso]
  simp
  omega
 ·obtain ⟨ls, hl⟩ := h
  match ls, hl with
  | [], hl => exact hl
  | w :: ls, hl =>
   have := (adj_nb hR).1 hl.1
   rw [hnb u hu] at this
   simp at this
theorem edge_split {N : Nat} {l : List Ed} {K : List Nat} (hR : RightG (N : Int) l) {n : Nat} (h : eK l K = n + 1) : ∃ (l1 l2 : List Ed) (e : Ed) (a b : Nat), l = l1 ++ e :: l2 ∧ e.1 = (a : Int) ∧ e.2.1 = (b : Int) ∧ a ∈ K := by
 have : 0 < l.countP (fun e => decide (e.1.toNat ∈ K)) := by unfold eK at h; omega
 obtain ⟨e, he, hm⟩ := List.countP_pos_iff.1 this
 obtain ⟨l1, l2, e2⟩ := List.append_of_mem he
 have hok := (hR.each e he).1
 have h0 := hok.1
 have h1 := hok.2.2.1
 exact ⟨l1, l2, e, e.1.toNat, e.2.1.toNat, e2, by omega, by omega, by simpa using hm⟩
theorem euler_le {N : Nat} {K : List Nat} (hK : K.Nodup) (hKN : ∀ v ∈ K, v < N) : ∀ (n : Nat) {l : List Ed} {r : List (List Int)} {C : List (List Dt)}, RightG (N : Int) l → SysR N l r → ShutK l K → Dec (nxD r) (PK l K) C → eK l K = n → (∃ z : Int, chi l K C = 2 * z) ∧ ∀ R : List Nat, (∀ v ∈ K, ∃ q ∈ R, Conn l v q) → chi l K C ≤ 2 * (R.length : Int)
 | 0, l, r, C, hR, hS, hsh, hD, hn => by
  obtain ⟨h1, h2⟩ := chi_none hR hsh hD hn
  refine ⟨⟨_, h1⟩, fun R hc => ?_⟩
  have := nodup_len hK (fun v hv => by
   obtain ⟨q, hq, h3⟩ := hc v hv
   rw [h2 v hv q h3]
   exact hq)
  omega
 | n + 1, l, r, C, hR, hS, hsh, hD, hn => by
  obtain ⟨l1, l2, e, a, b, rfl, ha, hb, haK⟩ := edge_split hR hn
  obtain ⟨hR', hS', hsh', he, hbK, C', hD', hcase⟩ := del_step hR hS hK hKN hsh hD ha hb haK
  obtain ⟨⟨z, hz⟩, hle⟩ := euler_le hK hKN n hR' hS' hsh' hD' (by omega)
  rcases hcase with ⟨h1, h2, _⟩ | ⟨h1, _⟩
  ·have e2 : chi (l1 ++ e :: l2) K C = chi (l1 ++ l2) K C' := by unfold chi; omega
   rw [e2]
   refine ⟨⟨z, hz⟩, fun R hc => hle R fun v hv => ?_⟩
   obtain ⟨q, hq, h3⟩ := hc v hv
   exact ⟨q, hq, conn_keep ha hb h2 h3⟩
  ·have e2 : chi (l1 ++ e :: l2) K C + 2 = chi (l1 ++ l2) K C' := by unfold chi; omega
   refine ⟨⟨z - 1, by omega⟩, fun R hc => ?_⟩
   obtain ⟨q0, hq0, hc0⟩ := hc a haK
   have key : ∃ x, ∀ v ∈ K, ∃ q ∈ x :: R, Conn (l1 ++ l2) v q := by
    have h3 : Conn (l1 ++ l2) q0 a ∨ Conn (l1 ++ l2) q0 b := by
     rcases conn_less ha hb hc0.symm with h | h | h
     ·exact .inl h
     ·exact .inl h
     ·exact .inr h
    rcases h3 with h3 | h3
    ·refine ⟨b, fun v hv => ?_⟩
     obtain ⟨q, hq, h4⟩ := hc v hv
     rcases conn_less ha hb h4 with h | h | h
     ·exact ⟨q, by simp [hq], h⟩
     ·exact ⟨q0, by simp [hq0], h.trans h3.symm⟩
     ·exact ⟨b, by simp, h⟩
    ·refine ⟨a, fun v hv => ?_⟩
     obtain ⟨q, hq, h4⟩ := hc v hv
     rcases conn_less ha hb h4 with h | h | h
     ·exact ⟨q, by simp [hq], h⟩
     ·exact ⟨a, by simp, h⟩
     ·exact ⟨q0, by simp [hq0], h.trans h3.symm⟩
   obtain ⟨x, hx⟩ := key
   have := hle _ hx
   rw [List.length_cons] at this
   omega
end Go.Proofs.YtjpkojmjiaoifaaGreat
