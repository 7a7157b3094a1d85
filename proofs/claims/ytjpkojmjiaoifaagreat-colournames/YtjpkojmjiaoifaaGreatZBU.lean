import Derived.Test.YtjpkojmjiaoifaaGreatXCPlE
import Derived.Test.YtjpkojmjiaoifaaGreatZBT
import Derived.WalkMore
import Derived.Test.YtjpkojmjiaoifaaGreatZAC
import Derived.Test.YtjpkojmjiaoifaaGreatZAG
import Derived.Laws.EntriesVeiled
import Derived.Test.YtjpkojmjiaoifaaGreatXPLinked
import Derived.Test.YtjpkojmjiaoifaaGreatZBM
import Derived.Test.YtjpkojmjiaoifaaGreatXCNew
import Derived.Test.YtjpkojmjiaoifaaGreatZBS
namespace Go.Proofs.YtjpkojmjiaoifaaGreat
open Go Go.Proofs
theorem sumZ_deg (l : List Ed) {r : List (List Int)} : ∀ {n : Nat}, (∀ v : Nat, v < n → (r.getD v []).length = (nb l (v : Int)).length) → (sumZ n fun u => ((r.getD u []).length : Int)) = ((degS l n : Nat) : Int)
 | 0, _ => rfl
 | n + 1, h => by
  show sumZ n _ + ((r.getD n []).length : Int) = _
  rw [sumZ_deg l (n := n) (fun v hv => h v (by omega)), h n (by omega)]
  simp [degS]
theorem sumK_twoP : ∀ n, sumK n (fun _ => 2) = 2 * n
 | 0 => rfl
 | n + 1 => by rw [sumK_succ, sumK_twoP n]; omega
theorem sy_of {n : Nat} {l : List Ed} {r : List (List Int)} (hR : RightG (n : Int) l) (hS : SysR n l r) : Sy n r := by
 have hmem : ∀ (u : Nat) (y : Int), u < n → (y ∈ r.getD u [] ↔ y ∈ nb l (u : Int)) := fun u y hu => (hS.perm u hu).mem_iff
 refine ⟨hS.len, fun u hu => hS.nodup hR hu, fun u hu y hy => ?_⟩
 obtain ⟨h1, h2, h3, h4⟩ := nb_mutual hR ((hmem u y hu).1 hy)
 refine ⟨y.toNat, by omega, by omega, fun e => h4 (by omega), (hmem _ _ (by omega)).2 ?_⟩
 rw [show ((y.toNat : Nat) : Int) = y by omega]
 exact h1
theorem plan_of {n : Nat} {l : List Ed} {r : List (List Int)} (hR : RightG (n : Int) l) (hS : SysR n l r) (hP : planeK (numsL n l r) = 0) : PlR n r := by
 have hmem : ∀ (u : Nat) (y : Int), u < n → (y ∈ r.getD u [] ↔ y ∈ nb l (u : Int)) := fun u y hu => (hS.perm u hu).mem_iff
 have hSy : Sy n r := sy_of hR hS
 have hconn : ∀ {u v : Nat}, Conn l u v → CnR r u v := by
  intro u v h
  induction h using Conn.ind with
  | refl => exact .refl _
  | step h1 _ ih =>
   have h2 := (adj_nb hR).1 h1
   have h3 := (nb_mutual hR h2).1
   have h4 := (nb_mutual hR h3).2
   exact .step ((hmem _ _ (by omega)).2 h2) ih
 have hq : ∀ i, i < (compC n l).length → ∃ q : Nat, ∀ v, v ∈ KC n l i → Conn l v q := fun i hi => by
  obtain ⟨q, _, _, _, h⟩ := kc_root hR hi
  exact ⟨q, fun v hv => ((h v).1 hv).2⟩
 have hRl : ∃ R : List Nat, R.length = (compC n l).length ∧ ∀ i, i < (compC n l).length → ∀ v, v ∈ KC n l i → ∃ q ∈ R, Conn l v q := by
  have key : ∀ m, m ≤ (compC n l).length → ∃ R : List Nat, R.length = m ∧ ∀ i, i < m → ∀ v, v ∈ KC n l i → ∃ q ∈ R, Conn l v q := by
   intro m
   induction m with
   | zero => exact fun _ => ⟨[], rfl, fun i hi => absurd hi (Nat.not_lt_zero _)⟩
   | succ m ih =>
    intro hm
    obtain ⟨R, h1, h2⟩ := ih (by omega)
    obtain ⟨q, h3⟩ := hq m (by omega)
    refine ⟨q :: R, by rw [List.length_cons, h1], fun i hi v hv => ?_⟩
    by_cases e : i = m
    ·subst e
     exact ⟨q, by simp, h3 v hv⟩
    ·obtain ⟨p, hp, hc⟩ := h2 i (by omega) v hv
     exact ⟨p, by simp [hp], hc⟩
  exact key _ (Nat.le_refl _)
 obtain ⟨R, hRn, hRc⟩ := hRl
 have hD := faces_dec hR hS
 refine ⟨hSy, facesL n l r, R, ⟨hD.rnd, hD.nodup, fun x => (hD.mem x).trans ?_⟩, fun v hv => ?_, ?_⟩
 ·rw [dartsL_mem]
  constructor
  ·rintro ⟨u, hu, h1, h2⟩
   have h3 := (nb_mutual hR h2).2
   refine ⟨u, x.2.toNat, ?_, hu, by omega, (hmem _ _ hu).2 ?_⟩
   ·rw [show ((x.2.toNat : Nat) : Int) = x.2 by omega, ← h1]
   ·rw [show ((x.2.toNat : Nat) : Int) = x.2 by omega]
    exact h2
  ·rintro ⟨u, w, rfl, hu, hw, h⟩
   exact ⟨u, hu, rfl, (hmem _ _ hu).1 h⟩
 ·have hi := idxC_lt hR hv
  obtain ⟨q, hq', hc⟩ := hRc _ hi v ((of_iff hR hi hv).1 (by unfold idxC; simp))
  exact ⟨q, hq', hconn hc⟩
 ·have hall : n + (facesL n l r).length + isoN n l = l.length + 2 * (compC n l).length := by
   have e1 := sum_verts hR
   have e2 := sum_edges hR
   have e3 := sum_faces hR hS
   have e4 := sum_iso hR
   have key : sumK (compC n l).length (fun i => (((compC n l).getD i []).length + (facesK (facesL n l r) (KC n l i)).length) + isoK l (KC n l i)) = sumK (compC n l).length (fun i => eK l (KC n l i) + 2) := sumK_congr fun i hi => by
    have h1 := plane_two hP hi
    rw [nums_at hR hS hi, (kc_iso hR hS hi).1] at h1
    omega
   rw [sumK_add, sumK_add, sumK_add, sumK_twoP] at key
   omega
  have hdeg := sumZ_deg l (r := r) (n := n) (fun v hv => (hS.perm v hv).length_eq)
  rw [degS_all (fun e he => (hR.each e he).1)] at hdeg
  have hiso : ((List.range n).filter fun u => (r.getD u []).isEmpty).length = isoN n l := by
   unfold isoN
   rw [List.countP_eq_length_filter]
   congr 1
   refine List.filter_congr fun v hv => ?_
   have h := hS.perm v (List.mem_range.1 hv)
   rw [Bool.eq_iff_iff, List.isEmpty_iff, List.isEmpty_iff]
   constructor
   ·intro e
    rw [e] at h
    exact List.nil_perm.1 h
   ·intro e
    rw [e] at h
    exact List.perm_nil.1 h
  rw [sumH_iso, hdeg, hiso, hRn]
  omega
theorem plan_start {n : Nat} {l : List Ed} {r : List (List Int)} (hR : RightG (n : Int) l) (hS : SysR n l r) (hP : planeK (numsL n l r) = 0) {adj : Nat → Nat → Prop} (ha : ∀ u w : Nat, adj u w ↔ u < n ∧ (w : Int) ∈ nb l (u : Int)) : Plan n adj := by
 refine ⟨r, plan_of hR hS hP, fun u w => (ha u w).trans ?_⟩
 constructor
 ·rintro ⟨hu, h⟩
  exact (hS.perm u hu).mem_iff.2 h
 ·intro h
  have hu := ((plan_of hR hS hP).1.lt h).1
  exact ⟨hu, (hS.perm u hu).mem_iff.1 h⟩
end Go.Proofs.YtjpkojmjiaoifaaGreat

namespace Go.Proofs.YtjpkojmjiaoifaaGreat
open Go Go.Proofs Go.RowKit
def idxE (p : Ed → Bool) (L : List Ed) : Int := match L.findIdx? p with
 | some i => i
 | none => -1
theorem idxE_at {p : Ed → Bool} {L : List Ed} {j : Nat} (hj : j < L.length) (h : p L[j] = true) (hno : ∀ (i : Nat) (h1 : i < L.length), i < j → p L[i] = false) : idxE p L = j := by
 unfold idxE
 have : L.findIdx? p = some j := by
  rw [List.findIdx?_eq_some_iff_getElem]
  exact ⟨hj, h, fun i hi => by rw [hno i (by omega) hi]; simp⟩
 rw [this]
theorem idxE_no {p : Ed → Bool} {L : List Ed} (hno : ∀ (i : Nat) (h1 : i < L.length), p L[i] = false) : idxE p L = -1 := by
 unfold idxE
 have : L.findIdx? p = none := by
  rw [List.findIdx?_eq_none_iff]
  intro x hx
  obtain ⟨i, hi, rfl⟩ := List.getElem_of_mem hx
  exact hno i hi
 rw [this]
theorem idxE_any (p : Ed → Bool) (L : List Ed) : decide (0 ≤ idxE p L) = L.any p := by
 unfold idxE
 cases h : L.findIdx? p with
 | none =>
  rw [List.findIdx?_eq_none_iff] at h
  have : L.any p = false := by rw [List.any_eq_false]; intro x hx; rw [h x hx]; simp
  rw [this]
  rfl
 | some i =>
  have h1 := h
  rw [List.findIdx?_eq_some_iff_getElem] at h1
  obtain ⟨hi, hp, _⟩ := h1
  have : L.any p = true := by rw [List.any_eq_true]; exact ⟨L[i], List.getElem_mem hi, hp⟩
  rw [this]
  simp
set_option maxRecDepth 100000 in
set_option maxHeartbeats 2000000 in
theorem indexE_any (f : Nat) (caps : Array Value) (p : Ed → Bool) (hent : ∀ (args : Array Value) (W : World), (callFunc f args).run Tryz.prog W = .ok (.enter f args) W) (L : List Ed) (hL : L.length ≤ 8388608) (sv : Value) (w : World) (h : Edges w.heap.size w sv L)
  (hp : ∀ x ∈ L, ∀ W, Grew w W → Calls Tryz.prog f (#[edV x] ++ caps) W fun e w' => e = .returned (.bool (p x)) ∧ Grew W w') :
  Calls Tryz.prog 56 #[sv, .func (.func f) #[] caps] w fun e w' => e = .returned (.int .i64 (idxE p L)) ∧ Grew w w' := by
 obtain ⟨pp, c, rfl⟩ := h.len
 have HI : Hid (Edges w.heap.size w (.slice pp L.length c) L) := h
 have HP : Hid (∀ x ∈ L, ∀ W, Grew w W → Calls Tryz.prog f (#[edV x] ++ caps) W fun e w' => e = .returned (.bool (p x)) ∧ Grew W w') := hp
 clear h hp
 go_enter Tryz.func56, Tryz.ntmps56
 go_wp2
 go_loopw [8] (fun iv wr => ∃ j : Nat, j ≤ L.length ∧ iv = .int .i64 j ∧ Hid (∀ (i : Nat) (h1 : i < L.length), i < j → p L[i] = false) ∧ Grew w wr) (fun i _ => L.length - (intOf i).toNat)
 case atStart => exact ⟨0, Nat.zero_le _, rfl, fun i _ h => by omega, Grew.refl _⟩
 case round =>
  obtain ⟨j, hj, rfl, HS, hg⟩ := hrel
  by_cases hlt : j < L.length
  ·have hjl : (j : Int) < (L.length : Int) := by omega
   obtain ⟨b, off, rfl, hbb, hcap, hc, -⟩ := HI.out.open hlt
   obtain ⟨c0, c1, c2⟩ := hc wr hg.below j hlt
   have hcl := HP.out L[j] (List.getElem_mem hlt) wr hg
   have HG : Hid (Grew w wr) := hg
   cases hv : p L[j] with
   | false =>
    have HS2 : Hid (∀ (i : Nat) (h1 : i < L.length), i < j + 1 → p L[i] = false) := fun i h1 h => by
     by_cases e : i = j
     ·subst e; exact hv
     ·exact HS.out i h1 (by omega)
    have HLT : Hid (j < L.length) := hlt
    rw [hv] at hcl
    unfold edV at hcl
    clear HS hc hv hg
    generalize L[j].1 = x at c0 hcl
    generalize L[j].2.1 = y at c1 hcl
    generalize L[j].2.2 = z at c2 hcl
    clear hlt
    go_wp2_with fail
    refine hcl.mono ?_
    clear hcl
    rintro e w2 ⟨rfl, hg2⟩
    have HG2 : Hid (Grew w w2) := HG.out.trans hg2
    clear hg2 HG c0 c1 c2
    go_wp2
    exact ⟨⟨j + 1, HLT.out, by go_num, HS2.out, HG2.out⟩, by have := HLT.out; simp [intOf]; omega⟩
   | true =>
    have HE : Hid (idxE p L = j) := idxE_at hlt hv HS.out
    rw [hv] at hcl
    unfold edV at hcl
    clear HS hc hv hg
    generalize L[j].1 = x at c0 hcl
    generalize L[j].2.1 = y at c1 hcl
    generalize L[j].2.2 = z at c2 hcl
    clear hlt
    go_wp2_with fail
    refine hcl.mono ?_
    clear hcl
    rintro e w2 ⟨rfl, hg2⟩
    have HG2 : Hid (Grew w w2) := HG.out.trans hg2
    clear hg2 HG c0 c1 c2
    go_wp2
    go_ret
    exact ⟨by rw [HE.out]; rfl, HG2.out⟩
  ·obtain rfl : j = L.length := by omega
   have HE : Hid (idxE p L = -1) := idxE_no fun i hi => HS.out i hi hi
   have HG : Hid (Grew w wr) := hg
   clear HS hg
   go_wp2
   go_ret
   exact ⟨by rw [HE.out]; rfl, HG.out⟩
set_option maxRecDepth 100000 in
set_option maxHeartbeats 2000000 in
theorem containsE_any (f : Nat) (caps : Array Value) (p : Ed → Bool) (hent : ∀ (args : Array Value) (W : World), (callFunc f args).run Tryz.prog W = .ok (.enter f args) W) (L : List Ed) (hL : L.length ≤ 8388608) (sv : Value) (w : World) (h : Edges w.heap.size w sv L)
  (hp : ∀ x ∈ L, ∀ W, Grew w W → Calls Tryz.prog f (#[edV x] ++ caps) W fun e w' => e = .returned (.bool (p x)) ∧ Grew W w') :
  Calls Tryz.prog 35 #[sv, .func (.func f) #[] caps] w fun e w' => e = .returned (.bool (L.any p)) ∧ Grew w w' := by
 have hi := indexE_any f caps p hent L hL sv w h hp
 obtain ⟨pp, c, rfl⟩ := h.len
 have HA : Hid (decide (0 ≤ idxE p L) = L.any p) := idxE_any p L
 clear h hp
 generalize idxE p L = k at *
 go_enter Tryz.func35, Tryz.ntmps35
 go_wp2_with fail
 refine hi.mono ?_
 clear hi
 rintro e w2 ⟨rfl, hg2⟩
 have HG2 : Hid (Grew w w2) := hg2
 clear hg2
 go_wp2
 go_ret
 exact ⟨by rw [← HA.out]; rfl, HG2.out⟩
end Go.Proofs.YtjpkojmjiaoifaaGreat

namespace Go.Proofs.YtjpkojmjiaoifaaGreat
open Go Go.Proofs Go.RowKit
def offB (most : Int) (x : Int) : Bool := decide (x < 0) || decide (most ≤ x)
def oneB (c : List Int) (e : Ed) : Bool := decide (c.getD e.1.toNat 0 = c.getD e.2.1.toNat 0)
def chkK (n : Int) (l : List Ed) (c : List Int) (most : Int) : Int := if rightK n l = 0 then (if (c.length : Int) = n then (if c.any (offB most) then 13 else if l.any (oneB c) then 13 else 0) else 13) else 1
set_option maxRecDepth 100000 in
theorem check1_any (x most : Int) (mb : Nat) (w : World) (hm : w.cell? ⟨mb, 0, none⟩ = some (.int .i64 most)) :
  Calls Tryz.prog 33 #[.int .i64 x, .pointer (some ⟨mb, 0, none⟩)] w fun e w' => e = .returned (.bool (offB most x)) ∧ w' = w := by
 by_cases hx : x < 0
 ·have HE : Hid (offB most x = true) := by simp [Hid, offB, hx]
  go_enter Tryz.func33, Tryz.ntmps33
  go_wp2
  go_ret
  exact ⟨by rw [HE.out]; rfl, rfl⟩
 ·have HE : Hid (offB most x = decide (most ≤ x)) := by simp [Hid, offB, hx]
  go_enter Tryz.func33, Tryz.ntmps33
  go_wp2
  go_ret
  exact ⟨by rw [HE.out]; rfl, rfl⟩
set_option maxRecDepth 100000 in
set_option maxHeartbeats 2000000 in
theorem check2_any (e : Ed) (c : List Int) (h1 : 0 ≤ e.1) (h2 : e.1 < c.length) (h3 : 0 ≤ e.2.1) (h4 : e.2.1 < c.length) (p : Option Addr) (k cb n : Nat) (w : World) (hc : w.cell? ⟨cb, 0, none⟩ = some (.slice p c.length k)) (hI : Ints n w (.slice p c.length k) c) (hn : n ≤ w.heap.size) :
  Calls Tryz.prog 36 #[edV e, .pointer (some ⟨cb, 0, none⟩)] w fun r w' => r = .returned (.bool (oneB c e)) ∧ Grew w w' := by
 obtain ⟨x, y, z⟩ := e
 simp only at h1 h2 h3 h4
 obtain ⟨u, rfl⟩ : ∃ u : Nat, x = (u : Int) := ⟨x.toNat, by omega⟩
 obtain ⟨v, rfl⟩ : ∃ v : Nat, y = (v : Int) := ⟨y.toNat, by omega⟩
 have hu : u < c.length := by omega
 have hv : v < c.length := by omega
 obtain ⟨b, off, rfl, hbb, hcap, hcl⟩ := hI.open hu
 have hbA : Below w.heap.size w (w.alloc (.cells #[.int .i64 (u : Int), .int .i64 (v : Int), .int .i64 z] 37)) := (Below.refl _ _).alloc (Nat.le_refl _) _
 have c0 := hcl _ (hbA.mono hn) u hu
 have c1 := hcl _ (hbA.mono hn) v hv
 have q0 := cell_keepK hbA hc
 have HE : Hid (oneB c ((u : Int), (v : Int), z) = decide (c[u] = c[v])) := by
  unfold Hid oneB
  simp only [Int.toNat_natCast, List.getD_eq_getElem?_getD, List.getElem?_eq_getElem hu, List.getElem?_eq_getElem hv, Option.getD_some]
 have hg : Grew w (w.alloc (.cells #[.int .i64 (u : Int), .int .i64 (v : Int), .int .i64 z] 37)) := (Grew.refl w).alloc _
 have HG : Hid _ := hg
 clear hcl hI hbA hg
 generalize c[u] = x at *
 generalize c[v] = y at *
 have huI : (u : Int) < (c.length : Int) := by omega
 have hvI : (v : Int) < (c.length : Int) := by omega
 unfold edV
 simp only
 go_enter Tryz.func36, Tryz.ntmps36
 go_wp2
 go_quiet (fail)
 go_wp2
 go_ret
 exact ⟨by rw [HE.out]; rfl, Grew.drewN HG.out nq⟩
set_option maxRecDepth 100000 in
set_option maxHeartbeats 4000000 in
theorem check_any (n : Int) (l : List Ed) (c : List Int) (hcl : c.length ≤ 9223372036854775807) (most : Int) (sv cv : Value) (w : World) (hl : Edges w.heap.size w sv l) (hc : Ints w.heap.size w cv c) :
  Calls Tryz.prog 16 #[.agg #[.int .i64 n, sv], cv, .int .i64 most] w fun e w' => e = .returned (.int .i64 (chkK n l c most)) ∧ Grew w w' := by
 obtain ⟨p, k, rfl⟩ := hl.len
 obtain ⟨q, d, rfl⟩ := hc.len
 have hg3 : Grew w (((w.alloc (.cells #[.int .i64 n, .slice p l.length k] 24)).alloc (.cells #[.slice q c.length d] 28)).alloc (.cells #[.int .i64 most] 3)) := (((Grew.refl w).alloc _).alloc _).alloc _
 have hX : Blk 24 (((w.alloc (.cells #[.int .i64 n, .slice p l.length k] 24)).alloc (.cells #[.slice q c.length d] 28)).alloc (.cells #[.int .i64 most] 3)) w.heap.size [.int .i64 n, .slice p l.length k] := by
  have h1 : Blk 24 (w.alloc (.cells #[.int .i64 n, .slice p l.length k] 24)) w.heap.size [.int .i64 n, .slice p l.length k] := heap_alloc_new w _
  exact h1.go ((((Grew.refl _).alloc _).alloc _).below)
 have hC : Blk 28 (((w.alloc (.cells #[.int .i64 n, .slice p l.length k] 24)).alloc (.cells #[.slice q c.length d] 28)).alloc (.cells #[.int .i64 most] 3)) (w.heap.size + 1) [.slice q c.length d] := by
  have h1 : Blk 28 ((w.alloc (.cells #[.int .i64 n, .slice p l.length k] 24)).alloc (.cells #[.slice q c.length d] 28)) (w.heap.size + 1) [.slice q c.length d] := by
   have := heap_alloc_new (w.alloc (.cells #[.int .i64 n, .slice p l.length k] 24)) (.cells #[.slice q c.length d] 28)
   simpa [Blk] using this
  exact h1.go (((Grew.refl _).alloc _).below)
 have hM : Blk 3 (((w.alloc (.cells #[.int .i64 n, .slice p l.length k] 24)).alloc (.cells #[.slice q c.length d] 28)).alloc (.cells #[.int .i64 most] 3)) (w.heap.size + 1 + 1) [.int .i64 most] := by
  have := heap_alloc_new ((w.alloc (.cells #[.int .i64 n, .slice p l.length k] 24)).alloc (.cells #[.slice q c.length d] 28)) (.cells #[.int .i64 most] 3)
  simpa [Blk] using this
 have q0 := hX.cell (j := 0) rfl
 have q1 := hX.cell (j := 1) rfl
 have hrc := right_any n l (.slice p l.length k) _ (hl.go hg3.below)
 have hent1 : ∀ (args : Array Value) (W : World), (callFunc 33 args).run Tryz.prog W = .ok (.enter 33 args) W := fun args W => by kernel_rfl
 have hent2 : ∀ (args : Array Value) (W : World), (callFunc 36 args).run Tryz.prog W = .ok (.enter 36 args) W := fun args W => by kernel_rfl
 have HL : Hid (Edges w.heap.size w (.slice p l.length k) l) := hl
 have HI : Hid (Ints w.heap.size w (.slice q c.length d) c) := hc
 have HX : Hid _ := hX
 have HC : Hid _ := hC
 have HM : Hid _ := hM
 have HG3 : Hid _ := hg3
 clear hl hc hX hC hM hg3
 go_enter Tryz.func16, Tryz.ntmps16
 go_wp2_with fail
 generalize ((w.alloc (.cells #[.int .i64 n, .slice p l.length k] 24)).alloc (.cells #[.slice q c.length d] 28)).alloc (.cells #[.int .i64 most] 3) = w3 at *
 refine hrc.mono ?_
 rintro e w4 ⟨rfl, hg4⟩
 have hb4 := hg4.below
 have HX4 : Hid (Blk 24 w4 w.heap.size [.int .i64 n, .slice p l.length k]) := Blk.go HX.out hb4
 have HC4 : Hid (Blk 28 w4 (w.heap.size + 1) [.slice q c.length d]) := Blk.go HC.out hb4
 have HM4 : Hid (Blk 3 w4 (w.heap.size + 1 + 1) [.int .i64 most]) := Blk.go HM.out hb4
 have HG4 : Hid (Grew w w4) := Grew.trans HG3.out hg4
 clear hrc hg4 hb4 HX HC HM HG3 q0 q1
 by_cases hr : rightK n l = 0
 ·have hR := right_iff.1 hr
  have hn1 := hR.n1
  have hm1 := hR.m1
  rw [hr]
  have q0 := HX4.out.cell (j := 0) rfl
  have q1 := HX4.out.cell (j := 1) rfl
  have c0 := HC4.out.cell (j := 0) rfl
  have m0 := HM4.out.cell (j := 0) rfl
  by_cases hlen : (c.length : Int) = n
  ·have hc8 : c.length ≤ 8388608 := by omega
   have hI4 : Ints w.heap.size w4 (.slice q c.length d) c := Vals.below HI.out (Grew.below HG4.out)
   have hcf := containsF_any 33 #[.pointer (some ⟨w.heap.size + 1 + 1, 0, none⟩)] (offB most) hent1 c hc8 (.slice q c.length d) w.heap.size w4 hI4 (fun x _ => check1_any x most _ w4 m0)
   cases ha : c.any (offB most) with
   | true =>
    have HE : Hid (chkK n l c most = 13) := by unfold Hid chkK; rw [if_pos hr, if_pos hlen, ha]; rfl
    rw [ha] at hcf
    clear hI4 ha hr hR
    go_wp2_with fail
    refine hcf.mono ?_
    clear hcf
    rintro e w5 ⟨rfl, rfl⟩
    go_wp2
    go_ret
    exact ⟨by rw [HE.out]; rfl, HG4.out⟩
   | false =>
    rw [ha] at hcf
    have hce := containsE_any 36 #[.pointer (some ⟨w.heap.size + 1, 0, none⟩)] (oneB c) hent2 l (by omega) (.slice p l.length k) w4 (Edges.go HL.out (Grew.below HG4.out)) (fun x hx W hW => by
     have hok := (hR.each x hx).1
     unfold okE at hok
     exact check2_any x c hok.1 (by omega) hok.2.2.1 (by omega) q d _ w.heap.size W (cell_keepK hW.below c0) (hI4.below (hW.below.mono (Grew.below HG4.out).size)) (Nat.le_trans (Grew.below HG4.out).size hW.below.size))
    have HE : Hid (chkK n l c most = if l.any (oneB c) = true then 13 else 0) := by unfold Hid chkK; rw [if_pos hr, if_pos hlen, ha]; rfl
    clear hI4 ha hr hR
    cases hb : l.any (oneB c) with
    | true =>
     rw [hb] at hce HE
     clear hb
     go_wp2_with fail
     refine hcf.mono ?_
     clear hcf
     rintro e w5 ⟨rfl, rfl⟩
     go_wp2_with fail
     refine hce.mono ?_
     clear hce
     rintro e w6 ⟨rfl, hg6⟩
     have HG6 : Hid (Grew w w6) := Grew.trans HG4.out hg6
     clear hg6
     go_wp2
     go_ret
     exact ⟨by rw [HE.out]; rfl, HG6.out⟩
    | false =>
     rw [hb] at hce HE
     clear hb
     go_wp2_with fail
     refine hcf.mono ?_
     clear hcf
     rintro e w5 ⟨rfl, rfl⟩
     go_wp2_with fail
     refine hce.mono ?_
     clear hce
     rintro e w6 ⟨rfl, hg6⟩
     have HG6 : Hid (Grew w w6) := Grew.trans HG4.out hg6
     clear hg6
     go_wp2
     go_ret
     exact ⟨by rw [HE.out]; rfl, HG6.out⟩
  ·have hlen' : ((c.length : Int) == n) = false := by simpa using hlen
   have HE : Hid (chkK n l c most = 13) := by unfold Hid chkK; rw [if_pos hr, if_neg hlen]
   clear hr hR
   go_wp2
   go_ret
   exact ⟨by rw [HE.out]; rfl, HG4.out⟩
 ·have HE : Hid (chkK n l c most = 1) := by unfold Hid chkK; rw [if_neg hr]
  have hr' : (rightK n l == 0) = false := by simpa using hr
  generalize rightK n l = kk at *
  clear hr
  go_wp2
  go_ret
  exact ⟨by rw [HE.out]; rfl, HG4.out⟩
end Go.Proofs.YtjpkojmjiaoifaaGreat

namespace Go.Proofs.YtjpkojmjiaoifaaGreat
open Go Go.Proofs Go.RowKit Go.Maps
theorem newF_len (l : List Ed) : ∀ i, (newF l i).length = 6
 | 0 => rfl
 | i + 1 => by rw [newF, file_len]; exact newF_len l i
theorem newF_has {l : List Ed} : ∀ {i v : Nat}, v < i → (nb l (v : Int)).length ≤ 5 → (v : Int) ∈ (newF l i).getD (nb l (v : Int)).length []
 | 0, _, h, _ => absurd h (Nat.not_lt_zero _)
 | i + 1, v, h, h5 => by
  rw [newF]
  by_cases e : v = i
  ·subst e
   exact file_has (newF_len l v) h5
  ·exact file_grows (newF_has (i := i) (by omega) h5)
theorem newN_some {n : Nat} {l : List Ed} {v : Nat} {S : List Int} (h : (newN n l n)[v]? = some (some S)) : v < n ∧ S = nb l (v : Int) := by
 have hv : v < n := by have := (List.getElem?_eq_some_iff.1 h).1; rwa [newN_len] at this
 rw [newN_all hv] at h
 simp only [Option.some.injEq] at h
 exact ⟨hv, h.symm⟩
theorem adj_new {n : Nat} {l : List Ed} (u w : Nat) : adjN (newN n l n) u w ↔ u < n ∧ (w : Int) ∈ nb l (u : Int) := by
 constructor
 ·rintro ⟨S, hS, hw⟩
  obtain ⟨h1, rfl⟩ := newN_some hS
  exact ⟨h1, hw⟩
 ·rintro ⟨h1, h2⟩
  exact ⟨_, newN_all h1, h2⟩
theorem FvI.start {n : Nat} {l : List Ed} {r : List (List Int)} (hR : RightG (n : Int) l) (hS : SysR n l r) (hP : planeK (numsL n l r) = 0) : FvI n (adjN (newN n l n)) (newN n l n) (newF l n) [] := by
 have hleft : leftL (newN n l n) = List.range n := by
  unfold leftL
  rw [newN_len, List.filter_eq_self]
  intro v hv
  rw [List.getD_eq_getElem?_getD, newN_all (List.mem_range.1 hv)]
  rfl
 refine ⟨⟨newN_len _ _ _, fun v S hS => ?_, fun v S hS h5 _ => ?_, ?_, ?_, fun s hs => (by cases hs), List.nodup_nil⟩, fun rest hr => ?_, plan_start hR hS hP adj_new⟩
 ·obtain ⟨hv, rfl⟩ := newN_some hS
  refine ⟨(nb_rise hR (v : Int)).imp (fun h => Int.ne_of_lt h), fun u hu => ?_⟩
  obtain ⟨h1, h2, h3, h4'⟩ := nb_mutual hR hu
  obtain ⟨j, rfl⟩ : ∃ j : Nat, u = (j : Int) := ⟨u.toNat, by omega⟩
  exact ⟨j, rfl, fun e => h4' (by rw [e]), _, newN_all (by omega), h1⟩
 ·obtain ⟨hv, rfl⟩ := newN_some hS
  exact newF_has hv h5
 ·exact newF_fv (Nat.le_refl n)
 ·rw [hleft]; simp
 ·rw [hleft] at hr
  exact hr
theorem chk_of {n : Nat} {l : List Ed} (hR : RightG (n : Int) l) {C : List Int} (hC : C.length = n) (h : ∀ u, u < n → (0 ≤ C.getD u (-1) ∧ C.getD u (-1) < 5) ∧ ∀ w, w < n → adjN (newN n l n) u w → C.getD u (-1) ≠ C.getD w (-1)) : chkK (n : Int) l C 5 = 0 := by
 unfold chkK
 rw [if_pos (right_iff.2 hR), if_pos (by omega)]
 have hgd : ∀ u, u < n → C.getD u (-1) = C.getD u 0 := fun u hu => by
  rw [List.getD_eq_getElem?_getD, List.getD_eq_getElem?_getD, List.getElem?_eq_getElem (by omega)]
  rfl
 have h1 : C.any (offB 5) = false := by
  rw [List.any_eq_false]
  intro x hx
  obtain ⟨i, hi, rfl⟩ := List.mem_iff_getElem.1 hx
  have := (h i (by omega)).1
  rw [List.getD_eq_getElem?_getD, List.getElem?_eq_getElem hi] at this
  simp only [Option.getD_some] at this
  simp [offB]
  omega
 have h2 : l.any (oneB C) = false := by
  rw [List.any_eq_false]
  intro e he
  obtain ⟨hok, huv⟩ := hR.each e he
  obtain ⟨g1, g2, g3, g4, g5, _⟩ := hok
  have ha : adjN (newN n l n) e.1.toNat e.2.1.toNat := ⟨_, newN_all (by omega), by
   rw [mem_nb]
   exact ⟨e, he, .inl ⟨by omega, by omega⟩⟩⟩
  have := (h e.1.toNat (by omega)).2 e.2.1.toNat (by omega) ha
  rw [hgd _ (by omega), hgd _ (by omega)] at this
  simpa [oneB] using this
 rw [h1, h2]
 rfl
set_option maxRecDepth 100000 in
set_option maxHeartbeats 8000000 in
theorem five_any (n : Nat) (hn : n ≤ 10000) (l : List Ed) (hR : RightG (n : Int) l) (r : List (List Int)) (hS : SysR n l r) (hP : planeK (numsL n l r) = 0) (sv rv : Value) (w : World) (hl : Edges w.heap.size w sv l) (hr : Lsts w.heap.size w rv r) :
  Calls Tryz.prog 7 #[.agg #[.int .i64 (n : Int), sv], rv] w fun e w' => ∃ g C, e = .returned (.tuple #[.slice (some ⟨g, 0, none⟩) n n, .int .i64 0]) ∧ Blk 3 w' g (C.map (Value.int .i64)) ∧ C.length = n ∧ chkK (n : Int) l C 5 = 0 ∧ Below w.heap.size w w' := by
 obtain ⟨pe, ce, rfl⟩ := hl.len
 obtain ⟨pr, cr, rfl⟩ := hr.len
 have hbA : Below w.heap.size w (w.alloc (.cells #[.int .i64 (n : Int), .slice pe l.length ce] 24)) := (Below.refl _ _).alloc (Nat.le_refl _) _
 have hXA : Blk 24 (w.alloc (.cells #[.int .i64 (n : Int), .slice pe l.length ce] 24)) w.heap.size [.int .i64 (n : Int), .slice pe l.length ce] := heap_alloc_new w _
 have hpl := plane_any n l hR r hS (.slice pe l.length ce) (.slice pr r.length cr) _ (hl.go hbA) (hr.go hbA)
 rw [hP] at hpl
 have g0 := hXA.cell (j := 0) rfl
 have g1 := hXA.cell (j := 1) rfl
 have HL : Hid (Edges w.heap.size w (.slice pe l.length ce) l) := hl
 have HXA : Hid (Blk 24 (w.alloc (.cells #[.int .i64 (n : Int), .slice pe l.length ce] 24)) w.heap.size [.int .i64 (n : Int), .slice pe l.length ce]) := hXA
 have HBA : Hid (Below w.heap.size w (w.alloc (.cells #[.int .i64 (n : Int), .slice pe l.length ce] 24))) := hbA
 have HR : Hid (RightG (n : Int) l) := hR
 have HST : Hid (FvI n (adjN (newN n l n)) (newN n l n) (newF l n) []) := FvI.start hR hS hP
 clear hXA hbA hl hr hS hP hR
 go_enter Tryz.func7, Tryz.ntmps7
 go_wp2_with fail
 generalize w.alloc (.cells #[.int .i64 (n : Int), .slice pe l.length ce] 24) = w1 at *
 refine hpl.mono ?_
 clear hpl
 rintro e w2 ⟨rfl, hb2⟩
 have HB2 : Hid (Below w.heap.size w w2) := HBA.out.trans (hb2.mono HBA.out.size)
 have hX2 := HXA.out.go hb2
 clear g0 g1
 have g0 := hX2.cell (j := 0) rfl
 have g1 := hX2.cell (j := 1) rfl
 have hnw := new_any n (by omega) l HR.out (.slice pe l.length ce) w2 (HL.out.go HB2.out)
 clear hX2 hb2 HXA HBA
 go_wp2_with fail
 refine hnw.mono ?_
 clear hnw
 rintro e w3 ⟨sb, rfl, hX3, hb3⟩
 have HB3 : Hid (Below w.heap.size w w3) := HB2.out.trans (hb3.mono HB2.out.size)
 have HH : Hid (w.heap.size ≤ w2.heap.size) := HB2.out.size
 have hnx := next_any w2.heap.size sb (n + (n + 6) * 0) (by omega) _ _ [] w3 hX3 (by rw [newN_len]; exact HST.out.h.fv) HST.out.h.bk
 clear hX3 hb3 HB2 g0 g1
 go_wp2_with fail
 refine hnx.mono ?_
 clear hnx
 rintro e w4 ⟨r4, F4, rfl, hX4, hN4, hb4⟩
 rw [newN_len] at hN4
 have HB4 : Hid (Below w.heap.size w w4 ∧ w2.heap.size ≤ w4.heap.size) := ⟨HB3.out.trans (hb4.mono HH.out), by
  have h1 := hX4.lsb
  omega⟩
 have HST4 : Hid (∃ (N : List (Option (List Int))) (F0 F1 : List (List Int)) (ss : List StpM), (leftL N).length < n + 1 ∧ FvI n (adjN (newN n l n)) N F0 ss ∧ SX w2.heap.size sb N F1 ss w4 ∧ NextP n (n + (n + 6) * ss.length) N r4 F1) := ⟨_, _, F4, [], by have := HST.out.h.cnt; omega, HST.out, hX4, hN4⟩
 clear hX4 hN4 hb4 HB3 HST
 go_wp2
 go_loopg [8] (n + 1) (fun k vv wr => ∃ rr : Int, vv = .int .i64 rr ∧ (∃ (N : List (Option (List Int))) (F0 F1 : List (List Int)) (ss : List StpM), (leftL N).length < k ∧ FvI n (adjN (newN n l n)) N F0 ss ∧ SX w2.heap.size sb N F1 ss wr ∧ NextP n (n + (n + 6) * ss.length) N rr F1) ∧ Below w.heap.size w wr ∧ w2.heap.size ≤ wr.heap.size)
 case atStart => exact ⟨r4, rfl, HST4.out, HB4.out.1, HB4.out.2⟩
 case round =>
  clear HST4 HB4
  obtain ⟨rr, rfl, ⟨N, F0, F1, ss, hk, hI, hX, hNx⟩, hb, hsz⟩ := hrel
  obtain ⟨hFV, hBk, hcase⟩ := hNx
  rcases hcase with ⟨rfl, hend⟩ | ⟨k, S, rfl, hS, h5⟩
  ·have hcol := hI.done (fun a b hab => by
    obtain ⟨S, hS, hbS⟩ := hab
    obtain ⟨ha, rfl⟩ := newN_some hS
    obtain ⟨g1, g2, g3, _⟩ := nb_mutual HR.out hbS
    exact ⟨_, newN_all (by omega), g1⟩) (fun a haa => by
    obtain ⟨S, hS, hbS⟩ := haa
    obtain ⟨ha, rfl⟩ := newN_some hS
    exact (nb_mutual HR.out hbS).2.2.2 rfl) hend
   have hun := undone_any w2.heap.size sb n (by omega) N F1 ss wr hX hI.h.len (by have := hI.h.cnt; omega) (fun s hs => (hI.h.stp s hs).1)
   have HC : Hid (chkK (n : Int) l (undS n (revS ss)).1 5 = 0) := chk_of HR.out (undS_len n _) hcol
   have HL5 : Hid ((undS n (revS ss)).1.length = n) := undS_len n _
   have HB : Hid (Below w.heap.size w wr) := hb
   clear hI hX hFV hBk hend hcol hb
   go_wp2_with fail
   refine hun.mono ?_
   clear hun
   rintro e w6 ⟨g, rfl, hg, hB6, hb6⟩
   have HB6 : Hid (Below w.heap.size w w6) := HB.out.trans (hb6.mono HB.out.size)
   have HG6 : Hid (Blk 3 w6 g ((undS n (revS ss)).1.map (Value.int .i64))) := hB6
   clear hB6 hb6
   go_wp2
   go_ret2
   exact ⟨g, _, rfl, HG6.out, HL5.out, HC.out, HB6.out⟩
  ·have hdr := drop_any w2.heap.size sb n k hn (adjN (newN n l n)) N F0 F1 ss hI hFV hBk S hS h5 wr hX hsz
   have HB : Hid (Below w.heap.size w wr ∧ w2.heap.size ≤ wr.heap.size) := ⟨hb, hsz⟩
   have HK : Hid ((leftL N).length < _) := hk
   have HC : Hid ((leftL N).length + ss.length = n) := hI.h.cnt
   have hk0 : (0 : Int) ≤ (k : Int) := by omega
   clear hI hFV hBk hS hX hb hsz hk
   go_wp2_with fail
   refine hdr.mono ?_
   clear hdr
   rintro e w5 ⟨rfl, hb5, N5, F5, ss5, hX5, hI5, hlt5⟩
   have hcn := hI5.h.cnt
   have hmu : (n + 6) * ss5.length ≤ 10006 * 10000 := Nat.mul_le_mul (by omega) (by omega)
   have hnx := next_any w2.heap.size sb (n + (n + 6) * ss5.length) (by omega) N5 F5 ss5 w5 hX5 (by rw [hI5.h.len]; exact hI5.h.fv) hI5.h.bk
   rw [hI5.h.len] at hnx
   have HB5 : Hid (Below w.heap.size w w5 ∧ w2.heap.size ≤ w5.heap.size) := ⟨HB.out.1.trans (hb5.mono HH.out), by have := hX5.lsb; omega⟩
   have HI5 : Hid (FvI n (adjN (newN n l n)) N5 F5 ss5) := hI5
   have HL5 : Hid ((leftL N5).length + 1 ≤ (leftL N).length) := by have := HC.out; unfold Hid; omega
   clear hI5 hX5 hb5 hcn hmu hlt5
   go_wp2_with fail
   refine hnx.mono ?_
   clear hnx
   rintro e w6 ⟨r6, F6, rfl, hX6, hN6, hb6⟩
   have HB6 : Hid (Below w.heap.size w w6 ∧ w2.heap.size ≤ w6.heap.size) := ⟨HB5.out.1.trans (hb6.mono HH.out), by have := hX6.lsb; omega⟩
   have HX6 : Hid (SX w2.heap.size sb N5 F6 ss5 w6 ∧ NextP n (n + (n + 6) * ss5.length) N5 r6 F6) := ⟨hX6, hN6⟩
   clear hX6 hN6 hb6
   go_wp2
   go_roundg ((leftL N).length)
   case measure => exact HK.out
   case rel => exact ⟨r6, rfl, ⟨N5, F5, F6, ss5, by have := HL5.out; omega, HI5.out, HX6.out.1, HX6.out.2⟩, HB6.out.1, HB6.out.2⟩
end Go.Proofs.YtjpkojmjiaoifaaGreat
