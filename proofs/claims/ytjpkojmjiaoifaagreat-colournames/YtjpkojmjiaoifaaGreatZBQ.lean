import Derived.Test.YtjpkojmjiaoifaaGreatZBP
namespace Go.Proofs.YtjpkojmjiaoifaaGreat
open Go Go.Proofs Go.RowKit
def bumpL (L : List Int) (k : Nat) (x : Int) : List Int := L.set k (L.getD k 0 + x)
theorem bumpL_len (L : List Int) (k : Nat) (x : Int) : (bumpL L k x).length = L.length := by simp [bumpL]
theorem bumpL_at (L : List Int) (k : Nat) (x : Int) (i : Nat) : (bumpL L k x).getD i 0 = if k = i ∧ k < L.length then L.getD k 0 + x else L.getD i 0 := by unfold bumpL; rw [set_getD]
def ofRow (O : List Int) (xs : List Int) (i : Int) : List Int := xs.foldl (fun O v => O.set v.toNat i) O
def ofC (N : Nat) (C : List (List Int)) : Nat → List Int
 | 0 => List.replicate N 0
 | j + 1 => ofRow (ofC N C j) (C.getD j []) (j : Int)
theorem ofRow_len (i : Int) : ∀ (xs : List Int) (O : List Int), (ofRow O xs i).length = O.length
 | [], _ => rfl
 | x :: xs, O => by
  have := ofRow_len i xs (O.set x.toNat i)
  unfold ofRow at *
  rw [List.foldl_cons, this]
  simp
theorem ofC_len (N : Nat) (C : List (List Int)) : ∀ j, (ofC N C j).length = N
 | 0 => by simp [ofC]
 | j + 1 => by rw [ofC, ofRow_len]; exact ofC_len N C j
def hd0 (r : List (List Int)) (xs : List Int) : Int := if (r.getD (xs.getD 0 0).toNat []).length = 0 then 1 else 0
def liC (C r : List (List Int)) (j : Nat) : List Int := (List.range C.length).map fun i => if i < j then ((C.getD i []).length : Int) + hd0 r (C.getD i []) else 0
def liE (O L : List Int) (es : List Ed) : List Int := es.foldl (fun L e => bumpL L (O.getD e.1.toNat 0).toNat (-1)) L
def liF (O L : List Int) (fs : List (List Dt)) : List Int := fs.foldl (fun L f => bumpL L (O.getD (f.getD 0 (0, 0)).1.toNat 0).toNat 1) L
def numsM (N : Nat) (l : List Ed) (r C : List (List Int)) (fs : List (List Dt)) : List Int := liF (ofC N C C.length) (liE (ofC N C C.length) (liC C r C.length) l) fs
theorem liE_len (O : List Int) : ∀ (es : List Ed) (L : List Int), (liE O L es).length = L.length
 | [], _ => rfl
 | e :: es, L => by
  have := liE_len O es (bumpL L (O.getD e.1.toNat 0).toNat (-1))
  unfold liE at *
  rw [List.foldl_cons, this, bumpL_len]
theorem liF_len (O : List Int) : ∀ (fs : List (List Dt)) (L : List Int), (liF O L fs).length = L.length
 | [], _ => rfl
 | f :: fs, L => by
  have := liF_len O fs (bumpL L (O.getD (f.getD 0 (0, 0)).1.toNat 0).toNat 1)
  unfold liF at *
  rw [List.foldl_cons, this, bumpL_len]
theorem liF_snoc (O L : List Int) (fs : List (List Dt)) (f : List Dt) : liF O L (fs ++ [f]) = bumpL (liF O L fs) (O.getD (f.getD 0 (0, 0)).1.toNat 0).toNat 1 := by
 unfold liF
 rw [List.foldl_append]
 rfl
def Betw (a b : Int) (L : List Int) : Prop := ∀ i, a ≤ L.getD i 0 ∧ L.getD i 0 ≤ b
theorem Betw.bump {a b : Int} {L : List Int} (h : Betw a b L) (k : Nat) {x : Int} (hx : -1 ≤ x ∧ x ≤ 1) : Betw (a - 1) (b + 1) (bumpL L k x) := by
 intro i
 have h1 := h i
 have h2 := h k
 rw [bumpL_at]
 split <;> omega
structure IN (w0 : World) (h0 lb : Nat) (O L : List Int) (fs : List (List Dt)) (bs : List Nat) (W : World) : Prop where
 none : bs = []
 lst : Blk 3 W lb ((liF O L fs).map (Value.int .i64))
 os : W.os = w0.os
 tape : W.tape = w0.tape
 output : W.output = w0.output
 size : h0 ≤ W.heap.size
 low : ∀ q, q < h0 → q ≠ lb → W.heap[q]? = w0.heap[q]?
 btw : Betw (-8388608) (8388608 + ((fs.map List.length).sum : Nat)) (liF O L fs)
theorem IN.still {w0 : World} {h0 lb : Nat} {O L : List Int} (hlb : lb < h0) {fs : List (List Dt)} {bs : List Nat} {A B : World} (h : IN w0 h0 lb O L fs bs A) (hS : StillR h0 bs A B) : IN w0 h0 lb O L fs bs B :=
 ⟨h.none, (hS.block lb h.lst.lt (.inl hlb)).trans h.lst, hS.os.trans h.os, hS.tape.trans h.tape, hS.output.trans h.output, Nat.le_trans h.size hS.size, fun q hq hne => (hS.block q (Nat.lt_of_lt_of_le hq h.size) (.inl hq)).trans (h.low q hq hne), h.btw⟩
set_option maxRecDepth 100000 in
set_option maxHeartbeats 4000000 in
theorem numbers1_tells (w0 : World) (h0 lb ob lvb ovb n N : Nat) (O L : List Int) (hL : L.length = n) (hOl : O.length = N) (hO : ∀ v, v < N → ∃ k : Nat, O.getD v 0 = (k : Int) ∧ k < n) (hlb : lb < h0) (hob : ob < h0) (hlv : lvb < h0) (hov : ovb < h0) (hn1 : ob ≠ lb) (hn2 : lvb ≠ lb) (hn3 : ovb ≠ lb)
  (v1 : Blk 28 w0 lvb [.slice (some ⟨lb, 0, none⟩) n n]) (v2 : Blk 28 w0 ovb [.slice (some ⟨ob, 0, none⟩) N N]) (v3 : Blk 3 w0 ob (O.map (Value.int .i64))) (S : List Dt) (hS : ∀ d ∈ S, ∃ u : Nat, d.1 = (u : Int) ∧ u < N) :
  Tells h0 61 #[.pointer (some ⟨lvb, 0, none⟩), .pointer (some ⟨ovb, 0, none⟩)] S (IN w0 h0 lb O L) := by
 intro fs bs face fv W hI hbs hsz hne hfS hsum hfo hap
 have hfp := List.length_pos_iff.2 hne
 obtain ⟨u, hu, huN⟩ := hS face[0] (hfS _ (List.getElem_mem hfp))
 obtain ⟨k, hk, hkn⟩ := hO u huN
 have hg0 : face.getD 0 (0, 0) = face[0] := by rw [List.getD_eq_getElem?_getD, List.getElem?_eq_getElem hfp]; rfl
 have hLn : (liF O L fs).length = n := by rw [liF_len, hL]
 obtain ⟨pf, cf, rfl⟩ := owns_formP hfo
 obtain ⟨b, off, rfl, hbb, hcap, a0, a1⟩ := (Drts.of_owns hfo).cellAt hfp
 rw [hu, Nat.zero_mul, Nat.add_zero] at a0
 have V1 : Blk 28 W lvb [.slice (some ⟨lb, 0, none⟩) n n] := (hI.low lvb hlv hn2).trans v1
 have V2 : Blk 28 W ovb [.slice (some ⟨ob, 0, none⟩) N N] := (hI.low ovb hov hn3).trans v2
 have V3 : Blk 3 W ob (O.map (Value.int .i64)) := (hI.low ob hob hn1).trans v3
 have c1 := V1.cell (j := 0) rfl
 have c2 := V2.cell (j := 0) rfl
 have c3 : W.cell? ⟨ob, u, none⟩ = some (.int .i64 (k : Int)) := V3.cell (by
  rw [List.getElem?_map, List.getElem?_eq_getElem (by omega)]
  rw [List.getD_eq_getElem?_getD, List.getElem?_eq_getElem (by omega)] at hk
  simpa using hk)
 have c4 : W.cell? ⟨lb, k, none⟩ = some (.int .i64 ((liF O L fs).getD k 0)) := hI.lst.cell (by
  rw [List.getElem?_map, List.getElem?_eq_getElem (by omega), List.getD_eq_getElem?_getD, List.getElem?_eq_getElem (by omega)]
  rfl)
 have f4 := hI.lst.frozen k
 have hbt := hI.btw k
 have hB5 := hI.lst.set k (.int .i64 ((liF O L fs).getD k 0 + 1))
 have e5 : (bumpL (liF O L fs) k 1).map (Value.int .i64) = ((liF O L fs).map (Value.int .i64)).set k (.int .i64 ((liF O L fs).getD k 0 + 1)) := by unfold bumpL; rw [List.map_set]
 have HFIN : Hid (∀ q, IN w0 h0 lb O L (fs ++ [face]) [] ((W.drewN q).setCell ⟨lb, k, none⟩ (.int .i64 ((liF O L fs).getD k 0 + 1))) ∧ ToldR h0 bs [] W ((W.drewN q).setCell ⟨lb, k, none⟩ (.int .i64 ((liF O L fs).getD k 0 + 1)))) := fun q => by
  have hset : ∀ p, p ≠ lb → ((W.drewN q).setCell ⟨lb, k, none⟩ (.int .i64 ((liF O L fs).getD k 0 + 1))).heap[p]? = W.heap[p]? := fun p hp => Below.heap_setCell _ _ _ _ (by simpa using hp)
  refine ⟨⟨rfl, ?_, hI.os, hI.tape, hI.output, by simp; exact hI.size, fun p hp hne => (hset p hne).trans (hI.low p hp hne), ?_⟩, by simp, fun p h1 h2 h3 => hset p (by omega), fun p hp => by simp at hp, fun p hp => by simp at hp⟩
  ·rw [liF_snoc, hg0, hu, Int.toNat_natCast, hk, Int.toNat_natCast, e5]
   exact hB5
  ·rw [liF_snoc]
   intro i
   have := (hI.btw.bump (O.getD (face.getD 0 (0, 0)).1.toNat 0).toNat (x := 1) (by omega)) i
   have h2 := hI.btw
   rw [List.map_append, List.sum_append]
   simp only [List.map_cons, List.map_nil, List.sum_cons, List.sum_nil, Nat.add_zero]
   have h3 := hI.btw i
   rw [bumpL_at] at *
   split
   ·have := hI.btw (O.getD (face.getD 0 (0, 0)).1.toNat 0).toNat
    omega
   ·omega
 have huN' : (u : Int) < (N : Int) := by omega
 have hkn' : (k : Int) < (n : Int) := by omega
 have hfp' : (0 : Int) < (face.length : Int) := by omega
 have hlo : -9000000 ≤ (liF O L fs).getD k 0 := by omega
 have hhi : (liF O L fs).getD k 0 ≤ 20000000 := by omega
 generalize (liF O L fs).getD k 0 = y at *
 show Calls Tryz.prog 61 #[.slice (some ⟨b, off, none⟩) face.length cf, .pointer (some ⟨lvb, 0, none⟩), .pointer (some ⟨ovb, 0, none⟩)] W _
 clear hI hbs hfo hap hfS hbt hB5 e5 v1 v2 v3 V1 V2 V3 hS hO hu hk hg0 hLn hL hOl hsum
 go_enter Tryz.func61, Tryz.ntmps61
 go_wp2
 refine wp_region_last (S := (fun w' : World => w'.cell? ⟨lvb, 0, none⟩ = some (.slice (some ⟨lb, 0, none⟩) n n) ∧ w'.cell? ⟨ovb, 0, none⟩ = some (.slice (some ⟨ob, 0, none⟩) N N) ∧ w'.cell? ⟨b, off, none⟩ = some (.int .i64 (u : Int)) ∧ w'.cell? ⟨ob, u, none⟩ = some (.int .i64 (k : Int)) ∧ w'.cell? ⟨lb, k, none⟩ = some (.int .i64 y))) (by kernel_rfl) ?_ (fun hHeld => ?_)
 ·(try dsimp only); go_keep
 refine wpAnyL_take (i := 0) (v := ?_) rfl (by kernel_rfl) (by kernel_rfl) (by kernel_rfl) (by kernel_rfl) (fun _ _ _ h => h) (Or.inl ⟨by rfl, ?_⟩) (by assumption) ?_
 rotate_left
 ·intro w hSw; (try dsimp only at hSw); go_simp; (try with_reducible rfl)
 try simp only [Act.put, List.setIfInBounds_toArray]
 refine wpAnyL_take (i := 1) (v := ?_) rfl (by kernel_rfl) (by kernel_rfl) (by kernel_rfl) (by kernel_rfl) (fun _ _ _ h => h) (Or.inl ⟨by rfl, ?_⟩) (by assumption) ?_
 rotate_left
 ·intro w hSw; (try dsimp only at hSw); go_simp; (try with_reducible rfl)
 try simp only [Act.put]
 refine wpAnyL_take (i := 2) (v := ?_) rfl (by kernel_rfl) (by kernel_rfl) (by kernel_rfl) (by kernel_rfl) (fun _ _ _ h => h) (Or.inl ⟨by rfl, ?_⟩) (by assumption) ?_
 rotate_left
 ·intro w hSw; (try dsimp only at hSw); go_simp; (try with_reducible rfl)
 try simp only [Act.put]
 refine wpAnyL_take (i := 3) (v := ?_) rfl (by kernel_rfl) (by kernel_rfl) (by kernel_rfl) (by kernel_rfl) (fun _ _ _ h => h) (Or.inl ⟨by rfl, ?_⟩) (by assumption) ?_
 rotate_left
 ·intro w hSw; (try dsimp only at hSw); go_simp; (try with_reducible rfl)
 try simp only [Act.put]
 refine wpAnyL_take (i := 4) (v := ?_) rfl (by kernel_rfl) (by kernel_rfl) (by kernel_rfl) (by kernel_rfl) (fun _ _ _ h => h) (Or.inl ⟨by rfl, ?_⟩) (by assumption) ?_
 rotate_left
 ·intro w hSw; (try dsimp only at hSw); go_simp; (try with_reducible rfl)
 try simp only [Act.put]
 refine wpAnyL_take (i := 5) (v := ?_) rfl (by kernel_rfl) (by kernel_rfl) (by kernel_rfl) (by kernel_rfl) (fun _ _ _ h => h) (Or.inl ⟨by rfl, ?_⟩) (by assumption) ?_
 rotate_left
 ·intro w hSw; (try dsimp only at hSw); go_simp; (try with_reducible rfl)
 try simp only [Act.put]
 refine wpAnyL_take (i := 6) (v := ?_) rfl (by kernel_rfl) (by kernel_rfl) (by kernel_rfl) (by kernel_rfl) (fun _ _ _ h => h) (Or.inl ⟨by rfl, ?_⟩) (by assumption) ?_
 rotate_left
 ·intro w hSw; (try dsimp only at hSw); go_simp; (try with_reducible rfl)
 try simp only [Act.put]
 refine wpAnyL_take (i := 7) (v := ?_) rfl (by kernel_rfl) (by kernel_rfl) (by kernel_rfl) (by kernel_rfl) (fun _ _ _ h => h) (Or.inl ⟨by rfl, ?_⟩) (by assumption) ?_
 rotate_left
 ·intro w hSw; (try dsimp only at hSw); go_simp; (try with_reducible rfl)
 try simp only [Act.put]
 refine wpAnyL_take (i := 8) (v := ?_) rfl (by kernel_rfl) (by kernel_rfl) (by kernel_rfl) (by kernel_rfl) (fun _ _ _ h => h) (Or.inl ⟨by rfl, ?_⟩) (by assumption) ?_
 rotate_left
 ·intro w hSw; (try dsimp only at hSw); go_simp; (try with_reducible rfl)
 try simp only [Act.put]
 refine wpAnyL_take (i := 9) (v := ?_) rfl (by kernel_rfl) (by kernel_rfl) (by kernel_rfl) (by kernel_rfl) (fun _ _ _ h => h) (Or.inl ⟨by rfl, ?_⟩) (by assumption) ?_
 rotate_left
 ·intro w hSw; (try dsimp only at hSw); go_simp; (try with_reducible rfl)
 try simp only [Act.put]
 refine wpAnyL_take (i := 10) (v := ?_) rfl (by kernel_rfl) (by kernel_rfl) (by kernel_rfl) (by kernel_rfl) (fun _ _ _ h => h) (Or.inl ⟨by rfl, ?_⟩) (by assumption) ?_
 rotate_left
 ·intro w hSw; (try dsimp only at hSw); go_simp; (try with_reducible rfl)
 try simp only [Act.put]
 refine wpAnyL_take (i := 11) (v := ?_) rfl (by kernel_rfl) (by kernel_rfl) (by kernel_rfl) (by kernel_rfl) (fun _ _ _ h => h) (Or.inl ⟨by rfl, ?_⟩) (by assumption) ?_
 rotate_left
 ·intro w hSw; (try dsimp only at hSw); go_simp; (try with_reducible rfl)
 try simp only [Act.put]
 refine wpAnyL_ready (rs := [12]) (by kernel_rfl) (by simp) ?_
 refine AllReadyL.last rfl (by kernel_rfl) (fun K hK => ?_)
 go_simp
 refine hK.out _ _ ?_
 clear hK K
 try simp only [Act.put, List.setIfInBounds_toArray, List.set_cons_zero, List.set_cons_succ]
 refine wpAnyL_done (by kernel_rfl) ?_ _
 go_wp2
 refine bodyPost_end (results_none rfl _ _ _) rfl ?_
 rw [show IntKind.i64.wrap (y + 1) = y + 1 from wrap_i _ (by omega) (by omega)]
 exact ⟨rfl, [], HFIN.out 1⟩
end Go.Proofs.YtjpkojmjiaoifaaGreat

namespace Go.Proofs.YtjpkojmjiaoifaaGreat
open Go Go.Proofs Go.RowKit
structure CompsOK (N : Nat) (C : List (List Int)) : Prop where
 few : C.length ≤ N
 pos : 0 < N → 0 < C.length
 ne : ∀ x ∈ C, x ≠ []
 len : ∀ x ∈ C, x.length ≤ N
 mem : ∀ x ∈ C, ∀ v ∈ x, ∃ u : Nat, v = (u : Int) ∧ u < N
structure NW (w2 : World) (lb lvb ob ovb n N : Nat) (O L : List Int) (W : World) : Prop where
 lst : Blk 3 W lb (L.map (Value.int .i64))
 lv : Blk 28 W lvb [.slice (some ⟨lb, 0, none⟩) n n]
 ofs : Blk 3 W ob (O.map (Value.int .i64))
 ov : Blk 28 W ovb [.slice (some ⟨ob, 0, none⟩) N N]
 below : Below lb w2 W
 len : L.length = n
 olen : O.length = N
 o1 : lb < lvb
 o2 : lvb < ob
 o3 : ob < ovb
section
variable {w2 : World} {lb lvb ob ovb n N : Nat} {O L : List Int} {W : World}
theorem NW.setL (h : NW w2 lb lvb ob ovb n N O L W) (k : Nat) (x : Int) : NW w2 lb lvb ob ovb n N O (L.set k x) (W.setCell ⟨lb, k, none⟩ (.int .i64 x)) := by
 have h1 := h.o1
 have h2 := h.o2
 have h3 := h.o3
 exact ⟨by rw [List.map_set]; exact h.lst.set k _, h.lv.other (by simp; omega) _, h.ofs.other (by simp; omega) _, h.ov.other (by simp; omega) _, h.below.setCell (p := ⟨lb, k, none⟩) (Nat.le_refl _) _, by simpa using h.len, h.olen, h1, h2, h3⟩
theorem NW.setO (h : NW w2 lb lvb ob ovb n N O L W) (k : Nat) (x : Int) : NW w2 lb lvb ob ovb n N (O.set k x) L (W.setCell ⟨ob, k, none⟩ (.int .i64 x)) := by
 have h1 := h.o1
 have h2 := h.o2
 have h3 := h.o3
 exact ⟨h.lst.other (by simp; omega) _, h.lv.other (by simp; omega) _, by rw [List.map_set]; exact h.ofs.set k _, h.ov.other (by simp; omega) _, h.below.setCell (p := ⟨ob, k, none⟩) (by simp; omega) _, h.len, by simpa using h.olen, h1, h2, h3⟩
theorem NW.go {B : World} (h : NW w2 lb lvb ob ovb n N O L W) (hb : Below W.heap.size W B) : NW w2 lb lvb ob ovb n N O L B :=
 ⟨h.lst.go hb, h.lv.go hb, h.ofs.go hb, h.ov.go hb, h.below.trans (hb.mono (by have := h.lst.lt; omega)), h.len, h.olen, h.o1, h.o2, h.o3⟩
theorem NW.cellL (h : NW w2 lb lvb ob ovb n N O L W) {k : Nat} (hk : k < n) : W.cell? ⟨lb, k, none⟩ = some (.int .i64 (L.getD k 0)) := h.lst.cell (by
 have := h.len
 rw [List.getElem?_map, List.getElem?_eq_getElem (by omega), List.getD_eq_getElem?_getD, List.getElem?_eq_getElem (by omega)]
 rfl)
theorem NW.cellO (h : NW w2 lb lvb ob ovb n N O L W) {k : Nat} (hk : k < N) : W.cell? ⟨ob, k, none⟩ = some (.int .i64 (O.getD k 0)) := h.ofs.cell (by
 have := h.olen
 rw [List.getElem?_map, List.getElem?_eq_getElem (by omega), List.getD_eq_getElem?_getD, List.getElem?_eq_getElem (by omega)]
 rfl)
end
theorem liC_len (C r : List (List Int)) (j : Nat) : (liC C r j).length = C.length := by simp [liC]
theorem liC_at {C r : List (List Int)} {j i : Nat} (hi : i < C.length) : (liC C r j).getD i 0 = if i < j then ((C.getD i []).length : Int) + hd0 r (C.getD i []) else 0 := by
 unfold liC
 rw [List.getD_eq_getElem?_getD, List.getElem?_map, List.getElem?_eq_getElem (by simpa using hi)]
 simp
theorem liC_zero (C r : List (List Int)) : liC C r 0 = List.replicate C.length 0 := by
 unfold liC
 refine List.ext_getElem (by simp) fun i h1 h2 => ?_
 simp
theorem liC_step {C r : List (List Int)} {j : Nat} : liC C r (j + 1) = (liC C r j).set j (((C.getD j []).length : Int) + hd0 r (C.getD j [])) := by
 unfold liC
 refine List.ext_getElem (by simp) fun i h1 h2 => ?_
 rw [List.getElem_set]
 simp only [List.getElem_map, List.getElem_range]
 by_cases h : j = i
 ·subst h
  simp
 ·rw [if_neg h]
  by_cases h3 : i < j
  ·rw [if_pos h3, if_pos (by omega)]
  ·rw [if_neg h3, if_neg (by omega)]
theorem liC_betw {N : Nat} {C r : List (List Int)} (hC : CompsOK N C) (j : Nat) : Betw 0 (N + 1) (liC C r j) := by
 intro i
 by_cases hi : i < C.length
 ·rw [liC_at hi]
  split
  ·have h1 : C.getD i [] ∈ C := by rw [List.getD_eq_getElem?_getD, List.getElem?_eq_getElem hi]; exact List.getElem_mem hi
   have h2 := hC.len _ h1
   unfold hd0
   split <;> omega
  ·omega
 ·rw [List.getD_eq_getElem?_getD, List.getElem?_eq_none (by rw [liC_len]; omega)]
  simp
  omega
theorem ofRow_take {O xs : List Int} {i : Int} {k : Nat} (hk : k < xs.length) : ofRow O (xs.take (k + 1)) i = (ofRow O (xs.take k) i).set (xs[k]).toNat i := by
 unfold ofRow
 rw [List.take_add_one, List.foldl_append, List.getElem?_eq_getElem hk]
 rfl
theorem ofRow_ok {n N : Nat} {i : Nat} (hi : i < n) : ∀ (xs : List Int) (O : List Int), (∀ v, v < N → ∃ k : Nat, O.getD v 0 = (k : Int) ∧ k < n) → ∀ v, v < N → ∃ k : Nat, (ofRow O xs (i : Int)).getD v 0 = (k : Int) ∧ k < n
 | [], _, h => h
 | x :: xs, O, h => by
  have := ofRow_ok (N := N) hi xs (O.set x.toNat (i : Int)) (fun v hv => by
   rw [set_getD]
   split
   ·exact ⟨i, rfl, hi⟩
   ·exact h v hv)
  unfold ofRow at *
  rw [List.foldl_cons]
  exact this
theorem ofC_ok {N : Nat} {C : List (List Int)} (hC : CompsOK N C) : ∀ j, j ≤ C.length → ∀ v, v < N → ∃ k : Nat, (ofC N C j).getD v 0 = (k : Int) ∧ k < C.length
 | 0, _ => fun v hv => ⟨0, by simp [ofC, List.getD_eq_getElem?_getD, hv], hC.pos (by omega)⟩
 | j + 1, hj => ofRow_ok (by omega) _ _ (ofC_ok hC j (by omega))
theorem liE_take {O L : List Int} {es : List Ed} {k : Nat} (hk : k < es.length) : liE O L (es.take (k + 1)) = bumpL (liE O L (es.take k)) (O.getD (es[k]).1.toNat 0).toNat (-1) := by
 unfold liE
 rw [List.take_add_one, List.foldl_append, List.getElem?_eq_getElem hk]
 rfl
theorem liE_betw {O L : List Int} {a b : Int} (h : Betw a b L) : ∀ es : List Ed, Betw (a - es.length) b (liE O L es) := by
 intro es
 induction es generalizing L a with
 | nil => simpa [liE] using h
 | cons e es ih =>
  have h1 : Betw (a - 1) b (bumpL L (O.getD e.1.toNat 0).toNat (-1)) := fun i => by
   have h1 := h i
   have h2 := h (O.getD e.1.toNat 0).toNat
   rw [bumpL_at]
   split <;> omega
  have h2 := ih h1
  intro i
  have h3 := h2 i
  have e1 : liE O L (e :: es) = liE O (bumpL L (O.getD e.1.toNat 0).toNat (-1)) es := rfl
  rw [e1]
  simp only [List.length_cons]
  omega
end Go.Proofs.YtjpkojmjiaoifaaGreat
