import Derived.Laws.EntriesVeiled
import Derived.Test.YtjpkojmjiaoifaaGreatZAG
import Derived.Test.YtjpkojmjiaoifaaGreatZAH
import Derived.Test.YtjpkojmjiaoifaaGreatXPLinked
import Derived.Test.YtjpkojmjiaoifaaGreatZAA
namespace Go.Proofs.YtjpkojmjiaoifaaGreat
open Go Go.Proofs Go.RowKit
structure PT (pb gc gt n m : Nat) (C T : List Int) (W : World) : Prop where
 var : Blk 61 W pb [.slice (some ⟨gc, 0, none⟩) n n, .slice (some ⟨gt, 0, none⟩) m m]
 col : Blk 3 W gc (C.map (Value.int .i64))
 tak : Blk 3 W gt (T.map (Value.int .i64))
 lenC : C.length = n
 lenT : T.length = m
 apart : pb ≠ gc ∧ pb ≠ gt ∧ gc ≠ gt
theorem PT.go {pb gc gt n m : Nat} {C T : List Int} {A B : World} (h : PT pb gc gt n m C T A) (hb : Below A.heap.size A B) : PT pb gc gt n m C T B :=
 ⟨h.var.go hb, h.col.go hb, h.tak.go hb, h.lenC, h.lenT, h.apart⟩
theorem PT.setC {pb gc gt n m : Nat} {C T : List Int} {W : World} (h : PT pb gc gt n m C T W) (k : Nat) (x : Int) : PT pb gc gt n m (C.set k x) T (W.setCell ⟨gc, k, none⟩ (.int .i64 x)) := by
 obtain ⟨a1, a2, a3⟩ := h.apart
 have hs : ∀ q, q ≠ gc → (W.setCell ⟨gc, k, none⟩ (.int .i64 x)).heap[q]? = W.heap[q]? := fun q hq => Below.heap_setCell _ _ _ _ (by simpa using hq)
 refine ⟨(hs pb a1).trans h.var, ?_, (hs gt (fun e => a3 e.symm)).trans h.tak, by rw [List.length_set]; exact h.lenC, h.lenT, h.apart⟩
 have := h.col.set k (.int .i64 x)
 rwa [← List.map_set] at this
theorem PT.setT {pb gc gt n m : Nat} {C T : List Int} {W : World} (h : PT pb gc gt n m C T W) (k : Nat) (x : Int) : PT pb gc gt n m C (T.set k x) (W.setCell ⟨gt, k, none⟩ (.int .i64 x)) := by
 obtain ⟨a1, a2, a3⟩ := h.apart
 have hs : ∀ q, q ≠ gt → (W.setCell ⟨gt, k, none⟩ (.int .i64 x)).heap[q]? = W.heap[q]? := fun q hq => Below.heap_setCell _ _ _ _ (by simpa using hq)
 refine ⟨(hs pb a2).trans h.var, (hs gc a3).trans h.col, ?_, h.lenC, by rw [List.length_set]; exact h.lenT, h.apart⟩
 have := h.tak.set k (.int .i64 x)
 rwa [← List.map_set] at this
theorem PT.atC {pb gc gt n m : Nat} {C T : List Int} {W : World} (h : PT pb gc gt n m C T W) {k : Nat} (hk : k < n) : W.cell? ⟨gc, k, none⟩ = some (.int .i64 (C.getD k 0)) ∧ W.frozen? ⟨gc, k, none⟩ = false := by
 refine ⟨h.col.cell ?_, h.col.frozen k⟩
 have hk' : k < C.length := by rw [h.lenC]; exact hk
 rw [List.getElem?_map, List.getD_eq_getElem?_getD, List.getElem?_eq_getElem hk']
 rfl
theorem PT.atT {pb gc gt n m : Nat} {C T : List Int} {W : World} (h : PT pb gc gt n m C T W) {k : Nat} (hk : k < m) : W.cell? ⟨gt, k, none⟩ = some (.int .i64 (T.getD k 0)) ∧ W.frozen? ⟨gt, k, none⟩ = false := by
 refine ⟨h.tak.cell ?_, h.tak.frozen k⟩
 have hk' : k < T.length := by rw [h.lenT]; exact hk
 rw [List.getElem?_map, List.getD_eq_getElem?_getD, List.getElem?_eq_getElem hk']
 rfl
set_option maxRecDepth 100000 in
set_option maxHeartbeats 4000000 in
theorem newPainter_any (n m : Nat) (hn : n ≤ 8388608) (hm : m ≤ 8388608) (w : World) :
  Calls Tryz.prog 31 #[.int .i64 (n : Int), .int .i64 (m : Int)] w fun e w' => ∃ pb gc gt, e = .returned (.pointer (some ⟨pb, 0, none⟩)) ∧ w.heap.size ≤ pb ∧ w.heap.size ≤ gc ∧ w.heap.size ≤ gt ∧ PT pb gc gt n m (List.replicate n (-1)) (List.replicate m (-1)) w' ∧ Below w.heap.size w w' := by
 have hbA : Below w.heap.size w (w.alloc (.cells #[.int .i64 (-1)] 3)) := (Below.refl _ _).alloc (Nat.le_refl _) _
 have hXA : Blk 3 (w.alloc (.cells #[.int .i64 (-1)] 3)) w.heap.size [.int .i64 (-1)] := heap_alloc_new w _
 have hr1 := repeat_any (-1) n hn w.heap.size _ (hXA.cell (j := 0) rfl)
 have HBA : Hid _ := hbA
 clear hXA hbA
 go_enter Tryz.func31, Tryz.ntmps31
 go_wp2_with fail
 generalize w.alloc (.cells #[.int .i64 (-1)] 3) = w1 at *
 refine hr1.mono ?_
 clear hr1
 rintro e w2 ⟨gc, rfl, hgc, hB2, hb2⟩
 have hbB : Below w2.heap.size w2 (w2.alloc (.cells #[.int .i64 (-1)] 3)) := (Below.refl _ _).alloc (Nat.le_refl _) _
 have hXB : Blk 3 (w2.alloc (.cells #[.int .i64 (-1)] 3)) w2.heap.size [.int .i64 (-1)] := heap_alloc_new w2 _
 have hr2 := repeat_any (-1) m hm w2.heap.size _ (hXB.cell (j := 0) rfl)
 have HB2 : Hid (Below w.heap.size w w2) := Below.trans HBA.out (hb2.mono (Below.size HBA.out))
 have HC2 : Hid (Blk 3 (w2.alloc (.cells #[.int .i64 (-1)] 3)) gc (List.replicate n (.int .i64 (-1)))) := hB2.go hbB
 have HB3 : Hid (Below w.heap.size w (w2.alloc (.cells #[.int .i64 (-1)] 3))) := HB2.out.trans (hbB.mono HB2.out.size)
 have hgl := hB2.lt
 have hgw : w.heap.size ≤ gc := Nat.le_trans (Below.size HBA.out) hgc
 have hss : (w2.alloc (.cells #[.int .i64 (-1)] 3)).heap.size = w2.heap.size + 1 := by simp
 clear hB2 hb2 hXB hbB HBA
 go_wp2_with fail
 generalize w2.alloc (.cells #[.int .i64 (-1)] 3) = w3 at *
 refine hr2.mono ?_
 clear hr2
 rintro e w4 ⟨gt, rfl, hgt, hB4, hb4⟩
 have HC4 : Hid (Blk 3 w4 gc (List.replicate n (.int .i64 (-1)))) := HC2.out.go hb4
 have HT4 : Hid (Blk 3 w4 gt (List.replicate m (.int .i64 (-1)))) := hB4
 have HB4 : Hid (Below w.heap.size w w4) := HB3.out.trans (hb4.mono HB3.out.size)
 have hgt4 := hB4.lt
 have hbP : Below w4.heap.size w4 (w4.alloc (.cells #[.slice (some ⟨gc, 0, none⟩) n n, .slice (some ⟨gt, 0, none⟩) m m] 61)) := (Below.refl _ _).alloc (Nat.le_refl _) _
 have hXP : Blk 61 (w4.alloc (.cells #[.slice (some ⟨gc, 0, none⟩) n n, .slice (some ⟨gt, 0, none⟩) m m] 61)) w4.heap.size [.slice (some ⟨gc, 0, none⟩) n n, .slice (some ⟨gt, 0, none⟩) m m] := heap_alloc_new w4 _
 have h34 := hb4.size
 have HPT : Hid (PT w4.heap.size gc gt n m (List.replicate n (-1)) (List.replicate m (-1)) (w4.alloc (.cells #[.slice (some ⟨gc, 0, none⟩) n n, .slice (some ⟨gt, 0, none⟩) m m] 61))) :=
  ⟨hXP, by rw [List.map_replicate]; exact HC4.out.go hbP, by rw [List.map_replicate]; exact HT4.out.go hbP, List.length_replicate .., List.length_replicate .., by omega⟩
 have HBP : Hid (Below w.heap.size w (w4.alloc (.cells #[.slice (some ⟨gc, 0, none⟩) n n, .slice (some ⟨gt, 0, none⟩) m m] 61))) := HB4.out.trans (hbP.mono HB4.out.size)
 have HSZ : Hid (w.heap.size ≤ w4.heap.size ∧ w.heap.size ≤ gc ∧ w.heap.size ≤ gt) := ⟨HB4.out.size, hgw, Nat.le_trans HB3.out.size hgt⟩
 clear hB4 hb4 hXP hbP hgt hgl hgw hss hgt4 h34 HC2 HC4 HT4 HB2 HB3 HB4 hgc
 go_wp2
 go_ret
 exact ⟨w4.heap.size, gc, gt, rfl, HSZ.out.1, HSZ.out.2.1, HSZ.out.2.2, HPT.out, HBP.out⟩
end Go.Proofs.YtjpkojmjiaoifaaGreat

namespace Go.Proofs.YtjpkojmjiaoifaaGreat
open Go Go.Proofs Go.RowKit
def mark1 (C : List Int) (v : Int) (T : List Int) (u : Int) : List Int := if 0 ≤ C.getD u.toNat 0 then T.set (C.getD u.toNat 0).toNat v else T
def markT (C : List Int) (v : Int) (T : List Int) (near : List Int) : List Int := near.foldl (mark1 C v) T
theorem mark1_len (C : List Int) (v : Int) (T : List Int) (u : Int) : (mark1 C v T u).length = T.length := by unfold mark1; split <;> simp
theorem markT_len (C : List Int) (v : Int) : ∀ (near T : List Int), (markT C v T near).length = T.length
 | [], _ => rfl
 | u :: near, T => by
  show (markT C v (mark1 C v T u) near).length = T.length
  rw [markT_len C v near, mark1_len]
theorem markT_take (C : List Int) (v : Int) (T near : List Int) {j : Nat} (h : j < near.length) : markT C v T (near.take (j + 1)) = mark1 C v (markT C v T (near.take j)) near[j] := by
 unfold markT
 rw [List.take_add_one, List.getElem?_eq_getElem h, List.foldl_append]
 rfl
def hueL (C : List Int) (v : Nat) (T near : List Int) : Int := idxF (fun t => t != (v : Int)) (markT C (v : Int) T near)
set_option maxRecDepth 100000 in
theorem paint1_any (x v : Int) (vb : Nat) (w : World) (hv : w.cell? ⟨vb, 0, none⟩ = some (.int .i64 v)) :
  Calls Tryz.prog 55 #[.int .i64 x, .pointer (some ⟨vb, 0, none⟩)] w fun e w' => e = .returned (.bool (x != v)) ∧ w' = w := by
 go_enter Tryz.func55, Tryz.ntmps55
 go_wp2
 go_ret
 exact ⟨rfl, rfl⟩
set_option maxRecDepth 100000 in
set_option maxHeartbeats 8000000 in
theorem paint_any (pb gc gt n m : Nat) (hm4 : m ≤ 8388608) (C T near : List Int) (v : Nat) (hv : v < n) (hnl : near.length ≤ 8388608) (hin : ∀ u ∈ near, ∃ k : Nat, u = (k : Int) ∧ k < n ∧ C.getD k 0 < m) (nv : Value) (lim : Nat) (w : World) (hP : PT pb gc gt n m C T w) (hN : Ints lim w nv near) (hlim : ∀ q, q < lim → q ≠ gc ∧ q ≠ gt) (hll : lim ≤ w.heap.size) :
  Calls Tryz.prog 32 #[.pointer (some ⟨pb, 0, none⟩), .int .i64 (v : Int), nv] w fun e w' => e = .returned (.tuple #[]) ∧ PT pb gc gt n m (C.set v (hueL C v T near)) (markT C (v : Int) T near) w' ∧ (∀ q, q < w.heap.size → q ≠ gc → q ≠ gt → w'.heap[q]? = w.heap[q]?) ∧ w'.os = w.os ∧ w'.tape = w.tape ∧ w'.output = w.output ∧ w.heap.size ≤ w'.heap.size := by
 obtain ⟨p, c, rfl⟩ := hN.len
 have hbA : Below w.heap.size w (w.alloc (.cells #[.int .i64 (v : Int)] 3)) := (Below.refl _ _).alloc (Nat.le_refl _) _
 have hVB : Blk 3 (w.alloc (.cells #[.int .i64 (v : Int)] 3)) w.heap.size [.int .i64 (v : Int)] := heap_alloc_new w _
 have hP1 := hP.go hbA
 have hpl := hP.var.lt
 have hcl := hP.col.lt
 have htl := hP.tak.lt
 have hap := hP.apart
 have HIN : Hid _ := hin
 have HLM : Hid _ := hlim
 have HN : Hid (Ints lim w (.slice p near.length c) near) := hN
 have HP1 : Hid (PT pb gc gt n m C T (w.alloc (.cells #[.int .i64 (v : Int)] 3))) := hP1
 have HVB : Hid (Blk 3 (w.alloc (.cells #[.int .i64 (v : Int)] 3)) w.heap.size [.int .i64 (v : Int)]) := hVB
 have HBA : Hid (Below w.heap.size w (w.alloc (.cells #[.int .i64 (v : Int)] 3))) := hbA
 have hent : ∀ (args : Array Value) (W : World), (callFunc 55 args).run Tryz.prog W = .ok (.enter 55 args) W := fun args W => by kernel_rfl
 clear hin hlim hN hP hP1 hVB hbA
 go_enter Tryz.func32, Tryz.ntmps32
 go_wp2
 generalize w.alloc (.cells #[.int .i64 (v : Int)] 3) = w1 at *
 go_loopw [11] (fun iv wr => ∃ j : Nat, j ≤ near.length ∧ iv = .int .i64 j ∧ PT pb gc gt n m C (markT C (v : Int) T (near.take j)) wr ∧ (∀ q, q < w1.heap.size → q ≠ gt → wr.heap[q]? = w1.heap[q]?) ∧ wr.os = w1.os ∧ wr.tape = w1.tape ∧ wr.output = w1.output ∧ w1.heap.size ≤ wr.heap.size) (fun iv _ => near.length - (intOf iv).toNat)
 case atStart => exact ⟨0, Nat.zero_le _, rfl, by simpa [markT] using HP1.out, fun _ _ _ => rfl, rfl, rfl, rfl, Nat.le_refl _⟩
 case round =>
  obtain ⟨j, hj, rfl, hPj, hk, ho, ht, hou, hsz⟩ := hrel
  have hw1 := HBA.out.size
  by_cases hlt : j < near.length
  ·have hjl : (j : Int) < (near.length : Int) := by omega
   obtain ⟨u, hu, hun, hum⟩ := HIN.out near[j] (List.getElem_mem hlt)
   obtain ⟨b, off, rfl, hbb, hcap, hcc⟩ := HN.out.open hlt
   have c0 : wr.cell? ⟨b, off + j, none⟩ = some (.int .i64 (u : Int)) := by
    have h1 := hcc w1 (HBA.out.mono hll) j hlt
    rw [hu] at h1
    rw [World.cell?_of_block (a := ⟨b, off + j, none⟩) (hk b (by omega) (HLM.out b hbb).2)]
    exact h1
   have p0 := hPj.var.cell (j := 0) rfl
   have p1 := hPj.var.cell (j := 1) rfl
   obtain ⟨d0, _⟩ := hPj.atC hun
   have v0 : wr.cell? ⟨w.heap.size, 0, none⟩ = some (.int .i64 (v : Int)) := by
    rw [World.cell?_of_block (a := ⟨w.heap.size, 0, none⟩) (hk w.heap.size HVB.out.lt (by omega))]
    exact HVB.out.cell (j := 0) rfl
   have HST : Hid (markT C (v : Int) T (near.take (j + 1)) = mark1 C (v : Int) (markT C (v : Int) T (near.take j)) (u : Int)) := by
    unfold Hid
    rw [markT_take C (v : Int) T near hlt, hu]
   have huI : (u : Int) < (n : Int) := by omega
   have HK : Hid (∀ q, q < w1.heap.size → q ≠ gt → wr.heap[q]? = w1.heap[q]?) := hk
   have HOT : Hid (wr.os = w1.os ∧ wr.tape = w1.tape ∧ wr.output = w1.output ∧ w1.heap.size ≤ wr.heap.size) := ⟨ho, ht, hou, hsz⟩
   have HMK : Hid (mark1 C (v : Int) (markT C (v : Int) T (near.take j)) (u : Int) = if 0 ≤ C.getD u 0 then (markT C (v : Int) T (near.take j)).set (C.getD u 0).toNat (v : Int) else markT C (v : Int) T (near.take j)) := rfl
   have HPJ : Hid (PT pb gc gt n m C (markT C (v : Int) T (near.take j)) wr) := hPj
   clear hcc hu hk ho ht hou hsz hPj
   generalize markT C (v : Int) T (near.take j) = T1 at *
   generalize C.getD u 0 = x at *
   by_cases hx : 0 ≤ x
   ·obtain ⟨k, rfl⟩ : ∃ k : Nat, x = (k : Int) := ⟨x.toNat, by omega⟩
    have hkm : k < m := by omega
    have hkI : (k : Int) < (m : Int) := by omega
    obtain ⟨t0, tf⟩ := HPJ.out.atT hkm
    have HPN : Hid (PT pb gc gt n m C (T1.set k (v : Int)) (wr.drew.setCell ⟨gt, k, none⟩ (.int .i64 (v : Int)))) := (HPJ.out.go (below_drewN (Below.refl _ _) 1)).setT k (v : Int)
    have HMK2 : Hid (mark1 C (v : Int) T1 (u : Int) = T1.set k (v : Int)) := by
     rw [HMK.out, if_pos hx]
     rfl
    generalize T1.getD k 0 = tk at *
    clear HMK hx hum
    go_wp2_with fail
    refine wp_region_last (S := (fun w' : World => w'.cell? ⟨pb, 1, none⟩ = some (.slice (some ⟨gt, 0, none⟩) m m) ∧ w'.cell? ⟨w.heap.size, 0, none⟩ = some (.int .i64 (v : Int)))) (by kernel_rfl) ⟨p1, v0⟩ (fun hHeld => ?_)
    refine wpAnyL_take (i := 0) (v := ?_) rfl (by kernel_rfl) (by kernel_rfl) (by kernel_rfl) (by kernel_rfl) (fun _ _ _ h => h) (Or.inl ⟨by rfl, ?_⟩) (by assumption) ?_
    rotate_left
    ·intro w hSw; (try dsimp only at hSw); go_simp; (try with_reducible rfl)
    try simp only [Act.put, List.setIfInBounds_toArray]
    refine wpAnyL_take (i := 1) (v := ?_) rfl (by kernel_rfl) (by kernel_rfl) (by kernel_rfl) (by kernel_rfl) (fun _ _ _ h => h) (Or.inl ⟨by rfl, ?_⟩) (by assumption) ?_
    rotate_left
    ·intro w hSw; (try dsimp only at hSw); go_simp; (try with_reducible rfl)
    try simp only [Act.put]
    refine wpAnyL_take (i := 2) (v := ?_) rfl (by kernel_rfl) (by kernel_rfl) (by kernel_rfl) (by kernel_rfl) (fun _ _ _ h => h) (Or.inl ⟨by rfl, ?_⟩) (by assumption) ?_
    rotate_left
    ·intro w hSw; (try dsimp only at hSw); go_simp; (try with_reducible rfl)
    try simp only [Act.put]
    refine wpAnyL_take (i := 3) (v := ?_) rfl (by kernel_rfl) (by kernel_rfl) (by kernel_rfl) (by kernel_rfl) (fun _ _ _ h => h) (Or.inl ⟨by rfl, ?_⟩) (by assumption) ?_
    rotate_left
    ·intro w hSw; (try dsimp only at hSw); go_simp; (try with_reducible rfl)
    try simp only [Act.put]
    refine wpAnyL_take (i := 4) (v := ?_) rfl (by kernel_rfl) (by kernel_rfl) (by kernel_rfl) (by kernel_rfl) (fun _ _ _ h => h) (Or.inl ⟨by rfl, ?_⟩) (by assumption) ?_
    rotate_left
    ·intro w hSw; (try dsimp only at hSw); go_simp; (try with_reducible rfl)
    try simp only [Act.put]
    refine wpAnyL_take (i := 5) (v := ?_) rfl (by kernel_rfl) (by kernel_rfl) (by kernel_rfl) (by kernel_rfl) (fun _ _ _ h => h) (Or.inl ⟨by rfl, ?_⟩) (by assumption) ?_
    rotate_left
    ·intro w hSw; (try dsimp only at hSw); go_simp; (try with_reducible rfl)
    try simp only [Act.put]
    refine wpAnyL_take (i := 6) (v := ?_) rfl (by kernel_rfl) (by kernel_rfl) (by kernel_rfl) (by kernel_rfl) (fun _ _ _ h => h) (Or.inl ⟨by rfl, ?_⟩) (by assumption) ?_
    rotate_left
    ·intro w hSw; (try dsimp only at hSw); go_simp; (try with_reducible rfl)
    try simp only [Act.put]
    clear c0 p0 p1 d0 v0
    refine wpAnyL_ready (rs := [7]) (by kernel_rfl) (by simp) ?_
    refine AllReadyL.last rfl (by kernel_rfl) (fun K hK => ?_)
    go_simp
    refine hK.out _ _ ?_
    clear hK K
    try simp only [Act.put, List.setIfInBounds_toArray, List.set_cons_zero, List.set_cons_succ]
    refine wpAnyL_done (by kernel_rfl) ?_ _
    clear hHeld t0 tf
    have HF : Hid (PT pb gc gt n m C (markT C (v : Int) T (near.take (j + 1))) (wr.setCell ⟨gt, k, none⟩ (.int .i64 (v : Int))).drew ∧ (∀ q, q < w1.heap.size → q ≠ gt → (wr.setCell ⟨gt, k, none⟩ (.int .i64 (v : Int))).drew.heap[q]? = w1.heap[q]?) ∧ (wr.setCell ⟨gt, k, none⟩ (.int .i64 (v : Int))).drew.os = w1.os ∧ (wr.setCell ⟨gt, k, none⟩ (.int .i64 (v : Int))).drew.tape = w1.tape ∧ (wr.setCell ⟨gt, k, none⟩ (.int .i64 (v : Int))).drew.output = w1.output ∧ w1.heap.size ≤ (wr.setCell ⟨gt, k, none⟩ (.int .i64 (v : Int))).drew.heap.size) := by
     refine ⟨by rw [HST.out, HMK2.out]; exact HPN.out, fun q h1 h2 => (Below.heap_setCell wr ⟨gt, k, none⟩ _ q (by simpa using h2)).trans (HK.out q h1 h2), HOT.out.1, HOT.out.2.1, HOT.out.2.2.1, ?_⟩
     have h1 : (wr.setCell ⟨gt, k, none⟩ (.int .i64 (v : Int))).heap.size = wr.heap.size := by simp
     exact Nat.le_trans HOT.out.2.2.2 (Nat.le_of_eq h1.symm)
    generalize (wr.setCell ⟨gt, k, none⟩ (.int .i64 (v : Int))).drew = w5 at *
    go_wp2
    exact ⟨⟨j + 1, by omega, by go_num, HF.out⟩, by simp [intOf]; omega⟩
   ·have HF : Hid (PT pb gc gt n m C (markT C (v : Int) T (near.take (j + 1))) wr) := by
     rw [HST.out, HMK.out, if_neg hx]
     exact HPJ.out
    clear HST HMK
    go_wp2
    exact ⟨⟨j + 1, by omega, by go_num, HF.out, HK.out, HOT.out⟩, by simp [intOf]; omega⟩
  ·obtain rfl : j = near.length := by omega
   have hjl : ¬ (near.length : Int) < (near.length : Int) := by omega
   rw [List.take_length] at hPj
   have p0 := hPj.var.cell (j := 0) rfl
   have p1 := hPj.var.cell (j := 1) rfl
   have v0 : wr.cell? ⟨w.heap.size, 0, none⟩ = some (.int .i64 (v : Int)) := by
    rw [World.cell?_of_block (a := ⟨w.heap.size, 0, none⟩) (hk w.heap.size HVB.out.lt (by omega))]
    exact HVB.out.cell (j := 0) rfl
   have hvI : (v : Int) < (n : Int) := by omega
   have hI : Ints wr.drew.heap.size wr.drew (.slice (some ⟨gt, 0, none⟩) m m) (markT C (v : Int) T near) := by
    have h1 := (hPj.go (below_drewN (Below.refl _ _) 1 : Below wr.heap.size wr wr.drew)).tak.ints
    rw [hPj.lenT] at h1
    exact h1
   have hix := indexF_any 55 #[.pointer (some ⟨w.heap.size, 0, none⟩)] (fun t => t != (v : Int)) hent (markT C (v : Int) T near) (by rw [hPj.lenT]; omega) (.slice (some ⟨gt, 0, none⟩) m m) wr.drew.heap.size wr.drew hI (fun x _ => paint1_any x (v : Int) w.heap.size wr.drew v0)
   have HUE : Hid (hueL C v T near = idxF (fun t => t != (v : Int)) (markT C (v : Int) T near)) := rfl
   have HPF : Hid (∀ x : Int, PT pb gc gt n m (C.set v x) (markT C (v : Int) T near) (wr.drew.setCell ⟨gc, v, none⟩ (.int .i64 x))) := fun x => (hPj.go (below_drewN (Below.refl _ _) 1)).setC v x
   obtain ⟨e0, ef⟩ := hPj.atC hv
   have HKK : Hid (∀ q, q < w.heap.size → q ≠ gc → q ≠ gt → wr.heap[q]? = w.heap[q]?) := fun q h1 _ h3 => (hk q (by omega) h3).trans (HBA.out.block q h1)
   have HOO : Hid (wr.os = w.os ∧ wr.tape = w.tape ∧ wr.output = w.output ∧ w.heap.size ≤ wr.heap.size) := ⟨ho.trans HBA.out.os, ht.trans HBA.out.tape, hou.trans HBA.out.output, by omega⟩
   clear hPj hk ho ht hou hsz hI
   generalize idxF (fun t => t != (v : Int)) (markT C (v : Int) T near) = hue at *
   generalize C.getD v 0 = old at *
   go_wp2_with fail
   refine wp_region_last (S := (fun w' : World => w'.cell? ⟨pb, 0, none⟩ = some (.slice (some ⟨gc, 0, none⟩) n n) ∧ w'.cell? ⟨pb, 1, none⟩ = some (.slice (some ⟨gt, 0, none⟩) m m) ∧ w'.cell? ⟨w.heap.size, 0, none⟩ = some (.int .i64 (v : Int)))) (by kernel_rfl) ⟨p0, p1, v0⟩ (fun hHeld => ?_)
   refine wpAnyL_take (i := 0) (v := ?_) rfl (by kernel_rfl) (by kernel_rfl) (by kernel_rfl) (by kernel_rfl) (fun _ _ _ h => h) (Or.inl ⟨by rfl, ?_⟩) (by assumption) ?_
   rotate_left
   ·intro w hSw; (try dsimp only at hSw); go_simp; (try with_reducible rfl)
   try simp only [Act.put, List.setIfInBounds_toArray]
   refine wpAnyL_take (i := 1) (v := ?_) rfl (by kernel_rfl) (by kernel_rfl) (by kernel_rfl) (by kernel_rfl) (fun _ _ _ h => h) (Or.inl ⟨by rfl, ?_⟩) (by assumption) ?_
   rotate_left
   ·intro w hSw; (try dsimp only at hSw); go_simp; (try with_reducible rfl)
   try simp only [Act.put]
   refine wpAnyL_take (i := 2) (v := ?_) rfl (by kernel_rfl) (by kernel_rfl) (by kernel_rfl) (by kernel_rfl) (fun _ _ _ h => h) (Or.inl ⟨by rfl, ?_⟩) (by assumption) ?_
   rotate_left
   ·intro w hSw; (try dsimp only at hSw); go_simp; (try with_reducible rfl)
   try simp only [Act.put]
   refine wpAnyL_take (i := 3) (v := ?_) rfl (by kernel_rfl) (by kernel_rfl) (by kernel_rfl) (by kernel_rfl) (fun _ _ _ h => h) (Or.inl ⟨by rfl, ?_⟩) (by assumption) ?_
   rotate_left
   ·intro w hSw; (try dsimp only at hSw); go_simp; (try with_reducible rfl)
   try simp only [Act.put]
   refine wpAnyL_take (i := 4) (v := ?_) rfl (by kernel_rfl) (by kernel_rfl) (by kernel_rfl) (by kernel_rfl) (fun _ _ _ h => h) (Or.inl ⟨by rfl, ?_⟩) (by assumption) ?_
   rotate_left
   ·intro w hSw; (try dsimp only at hSw); go_simp; (try with_reducible rfl)
   try simp only [Act.put]
   try simp only [List.getElem_toArray, List.getElem_cons_zero, List.getElem_cons_succ, List.setIfInBounds_toArray, List.set_cons_zero, List.set_cons_succ]
   refine wpAnyL_take (i := 5) (v := ?_) rfl (by kernel_rfl) (by kernel_rfl) (by kernel_rfl) (by kernel_rfl) (fun _ _ _ h => h) (Or.inl ⟨by rfl, ?_⟩) (by assumption) ?_
   rotate_left
   ·intro w hSw; (try dsimp only at hSw); go_simp; (try with_reducible rfl)
   try simp only [Act.put]
   refine wpAnyL_take (i := 6) (v := ?_) rfl (by kernel_rfl) (by kernel_rfl) (by kernel_rfl) (by kernel_rfl) (fun _ _ _ h => h) (Or.inl ⟨by rfl, ?_⟩) (by assumption) ?_
   rotate_left
   ·intro w hSw; (try dsimp only at hSw); go_simp; (try with_reducible rfl)
   try simp only [Act.put]
   refine wpAnyL_take (i := 7) (v := ?_) rfl (by kernel_rfl) (by kernel_rfl) (by kernel_rfl) (by kernel_rfl) (fun _ _ _ h => h) (Or.inl ⟨by rfl, ?_⟩) (by assumption) ?_
   rotate_left
   ·intro w hSw; (try dsimp only at hSw); go_simp; (try with_reducible rfl)
   try simp only [Act.put]
   refine wpAnyL_take (i := 8) (v := ?_) rfl (by kernel_rfl) (by kernel_rfl) (by kernel_rfl) (by kernel_rfl) (fun _ _ _ h => h) (Or.inl ⟨by rfl, ?_⟩) (by assumption) ?_
   rotate_left
   ·intro w hSw; (try dsimp only at hSw); go_simp; (try with_reducible rfl)
   try simp only [Act.put]
   refine wpAnyL_take (i := 9) (v := ?_) rfl (by kernel_rfl) (by kernel_rfl) (by kernel_rfl) (by kernel_rfl) (fun _ _ _ h => h) (Or.inl ⟨by rfl, ?_⟩) (by assumption) ?_
   rotate_left
   ·intro w hSw; (try dsimp only at hSw); go_simp; (try with_reducible rfl)
   try simp only [Act.put]
   try simp only [List.getElem_toArray, List.getElem_cons_zero, List.getElem_cons_succ, List.setIfInBounds_toArray, List.set_cons_zero, List.set_cons_succ]
   refine wpAnyL_ready (rs := [10]) (by kernel_rfl) (by simp) ?_
   refine AllReadyL.cons rfl (fun K hK => ?_) AllReadyL.nil
   go_simp
   refine hix.mono ?_
   rintro e w6 ⟨rfl, rfl⟩
   refine hK.out _ _ hHeld (fun hHeld6 => ?_)
   clear hK K hix
   try simp only [Act.put, List.setIfInBounds_toArray, List.set_cons_zero, List.set_cons_succ]
   refine wpAnyL_take (i := 11) (v := ?_) rfl (by kernel_rfl) (by kernel_rfl) (by kernel_rfl) (by kernel_rfl) (fun _ _ _ h => h) (Or.inl ⟨by rfl, ?_⟩) (by assumption) ?_
   rotate_left
   ·intro w hSw; (try dsimp only at hSw); go_simp; (try with_reducible rfl)
   try simp only [Act.put]
   refine wpAnyL_ready (rs := [12]) (by kernel_rfl) (by simp) ?_
   refine AllReadyL.last rfl (by kernel_rfl) (fun K hK => ?_)
   go_simp
   refine hK.out _ _ ?_
   clear hK K
   try simp only [Act.put, List.setIfInBounds_toArray, List.set_cons_zero, List.set_cons_succ]
   refine wpAnyL_done (by kernel_rfl) ?_ _
   go_wp2
   refine bodyPost_end (results_none rfl _ _ _) rfl ?_
   refine ⟨rfl, ?_, fun q h1 h2 h3 => (Below.heap_setCell wr ⟨gc, v, none⟩ (.int .i64 hue) q (by simpa using h2)).trans (HKK.out q h1 h2 h3), HOO.out.1, HOO.out.2.1, HOO.out.2.2.1, ?_⟩
   ·rw [HUE.out]
    exact HPF.out hue
   ·have h1 : (wr.setCell ⟨gc, v, none⟩ (.int .i64 hue)).heap.size = wr.heap.size := by simp
    exact Nat.le_trans HOO.out.2.2.2 (Nat.le_of_eq h1.symm)
end Go.Proofs.YtjpkojmjiaoifaaGreat

namespace Go.Proofs.YtjpkojmjiaoifaaGreat
open Go Go.Proofs Go.RowKit
def Ord (L : List Int) (n : Int) : Prop := (L.length : Int) = n ∧ (∀ x ∈ L, 0 ≤ x ∧ x < n) ∧ L.Nodup
def ordB (L : List Int) (n : Int) : Bool := decide ((L.length : Int) = n) && ((L.all fun x => decide (0 ≤ x) && decide (x < n)) && decide L.Nodup)
theorem ordB_iff (L : List Int) (n : Int) : ordB L n = true ↔ Ord L n := by
 unfold ordB Ord
 rw [Bool.and_eq_true, Bool.and_eq_true, decide_eq_true_iff, decide_eq_true_iff, List.all_eq_true]
 simp
theorem ordB_no {L : List Int} {n : Int} (h : ¬ Ord L n) : ordB L n = false := by
 cases hb : ordB L n with
 | false => rfl
 | true => exact absurd ((ordB_iff L n).1 hb) h
def seenL (n : Nat) (P : List Int) : List Bool := (List.range n).map fun (i : Nat) => decide ((i : Int) ∈ P)
theorem seenL_nil (n : Nat) : seenL n [] = List.replicate n false := by
 apply List.ext_getElem
 ·simp [seenL]
 ·intro i h1 h2
  simp [seenL]
theorem seenL_at {n i : Nat} (P : List Int) (h : i < n) : (seenL n P)[i]? = some (decide ((i : Int) ∈ P)) := by
 unfold seenL
 rw [List.getElem?_map, List.getElem?_range h]
 rfl
theorem seenL_set {n i : Nat} (P : List Int) : (seenL n P).set i true = seenL n (P ++ [(i : Int)]) := by
 apply List.ext_getElem
 ·simp [seenL]
 ·intro k h1 h2
  have hk : k < n := by simpa [seenL] using h2
  rw [List.getElem_set]
  unfold seenL
  simp only [List.getElem_map, List.getElem_range, List.mem_append, List.mem_singleton]
  by_cases e : i = k
  ·subst e; simp
  ·have : ¬ (k : Int) = (i : Int) := by omega
   simp [e, this]
theorem infoBo : (Tryz.prog.info? 4).map (fun i => (i.zero, i.size, i.bytes)) = some (some (.bool false), 1, 1) := by kernel_rfl
theorem bools_madeK (n : Nat) : (madeCells (Value.bool false).cells (n * 1)).toList = (List.replicate n false).map Value.bool := by
 apply List.ext_getElem
 ·simp [madeCells]
 ·intro i h1 h2
  have hm : i % 1 = 0 := Nat.mod_one i
  simp [madeCells, Value.cells, hm]
set_option maxRecDepth 100000 in
set_option maxHeartbeats 4000000 in
theorem isOrderC_any (L : List Int) (n : Nat) (hn : n ≤ 1048576) (sv : Value) (w : World) (h : Ints w.heap.size w sv L) :
  Calls Tryz.prog 29 #[sv, .int .i64 (n : Int)] w fun e w' => e = .returned (.bool (ordB L (n : Int))) ∧ Below w.heap.size w w' := by
 obtain ⟨p, c, rfl⟩ := h.len
 obtain ⟨i0, hi, hz0, hz1, hz2⟩ := info_parts infoBo
 have HI : Hid (Ints w.heap.size w (.slice p L.length c) L) := h
 clear h
 by_cases hl : (L.length : Int) = (n : Int)
 ·have hln : L.length = n := by omega
  have hl' : ((L.length : Int) != (n : Int)) = false := by simpa using hl
  have hLb : L.length ≤ 1048576 := by omega
  have HL : Hid (L.length = n) := hln
  clear hln hl
  go_enter Tryz.func29, Tryz.ntmps29
  go_wp2_with (at_make; refine wpList_make_full _ rfl _ _ 87 rfl w.heap.size 4 i0 (.bool false) 1 Tryz.underlying87 hi hz0 hz1 .i64 .i64 _ _ n rfl rfl rfl rfl (by rw [hz2]; omega) (by unfold maxLen; omega) (Nat.le_refl _) ?_; intro w2 hown hgrow; have hb2 : Below w.heap.size w w2 := (Below.refl _ _).grown hgrow (Nat.le_refl _) (fun k e => by cases e))
  have hrow := Blk.made hown
  rw [bools_madeK, ← seenL_nil n] at hrow
  clear hown hgrow hi hz0 hz1 hz2
  go_wp2
  go_loopw [16] (fun iv wr => ∃ j : Nat, j ≤ L.length ∧ iv = .int .i64 j ∧ Hid ((∀ x ∈ L.take j, 0 ≤ x ∧ x < (n : Int)) ∧ (L.take j).Nodup) ∧ Blk 4 wr w.heap.size ((seenL n (L.take j)).map Value.bool) ∧ Below w.heap.size w wr) (fun iv _ => L.length - (intOf iv).toNat)
  case atStart => exact ⟨0, Nat.zero_le _, rfl, ⟨by simp, by simp⟩, hrow, hb2⟩
  case round =>
   clear hrow hb2
   obtain ⟨j, hj, rfl, HQ, hB, hb⟩ := hrel
   by_cases hlt : j < L.length
   ·have hjl : (j : Int) < (L.length : Int) := by omega
    obtain ⟨b, off, rfl, hbb, hcap, hcc⟩ := HI.out.open hlt
    have c0 := hcc wr hb j hlt
    have HTK : Hid (L.take (j + 1) = L.take j ++ [L[j]]) := by
     unfold Hid
     rw [List.take_add_one, List.getElem?_eq_getElem hlt]
     rfl
    have HIN : Hid (L[j] ∈ L) := List.getElem_mem hlt
    have HNO : Hid (L[j] ∈ L.take j → ¬ L.Nodup) := fun hm hnd => by
     have h1 : (L.take j ++ L.drop j).Nodup := by rw [List.take_append_drop]; exact hnd
     have h2 : L[j] ∈ L.drop j := List.mem_of_getElem? (i := 0) (by rw [List.getElem?_drop, Nat.add_zero, List.getElem?_eq_getElem hlt])
     exact (List.nodup_append.1 h1).2.2 _ hm _ h2 rfl
    have HB : Hid (Blk 4 wr w.heap.size ((seenL n (L.take j)).map Value.bool)) := hB
    have HBW : Hid (Below w.heap.size w wr) := hb
    clear hcc hB hb
    generalize L[j] = x at *
    by_cases h1 : x < 0
    ·have HF : Hid (ordB L (n : Int) = false) := ordB_no fun ho => by have := (ho.2.1 x HIN.out).1; omega
     clear HTK HNO HQ
     go_wp2
     go_ret
     exact ⟨by rw [HF.out]; rfl, HBW.out⟩
    ·by_cases h2 : (n : Int) ≤ x
     ·have HF : Hid (ordB L (n : Int) = false) := ordB_no fun ho => by have := (ho.2.1 x HIN.out).2; omega
      clear HTK HNO HQ
      go_wp2
      go_ret
      exact ⟨by rw [HF.out]; rfl, HBW.out⟩
     ·obtain ⟨k, rfl⟩ : ∃ k : Nat, x = (k : Int) := ⟨x.toNat, by omega⟩
      have hkn : k < n := by omega
      have hkI : (k : Int) < (n : Int) := by omega
      have s0 : wr.cell? ⟨w.heap.size, k, none⟩ = some (.bool (decide ((k : Int) ∈ L.take j))) := HB.out.cell (by rw [List.getElem?_map, seenL_at _ hkn]; rfl)
      have sf := HB.out.frozen k
      by_cases h3 : (k : Int) ∈ L.take j
      ·rw [decide_eq_true h3] at s0
       have HF : Hid (ordB L (n : Int) = false) := ordB_no fun ho => HNO.out h3 ho.2.2
       clear HTK HNO HQ h3 HB
       go_wp2
       go_ret
       exact ⟨by rw [HF.out]; rfl, HBW.out⟩
      ·rw [decide_eq_false h3] at s0
       have hBn := HB.out.set k (.bool true)
       rw [← List.map_set, seenL_set _, ← HTK.out] at hBn
       have HBn : Hid (Blk 4 (wr.setCell ⟨w.heap.size, k, none⟩ (.bool true)) w.heap.size ((seenL n (L.take (j + 1))).map Value.bool)) := hBn
       have HQ2 : Hid ((∀ y ∈ L.take (j + 1), 0 ≤ y ∧ y < (n : Int)) ∧ (L.take (j + 1)).Nodup) := by
        unfold Hid
        rw [HTK.out]
        refine ⟨fun y hy => ?_, ?_⟩
        ·rcases List.mem_append.1 hy with h | h
         ·exact HQ.out.1 y h
         ·rw [List.mem_singleton.1 h]; omega
        ·rw [List.nodup_append]
         refine ⟨HQ.out.2, by simp, fun y hy z hz e => h3 ?_⟩
         rw [← List.mem_singleton.1 hz, ← e]
         exact hy
       clear HTK HNO HQ h3 HB hBn
       go_wp2
       exact ⟨⟨j + 1, by omega, by go_num, HQ2, HBn.out, HBW.out.setCell (p := ⟨w.heap.size, k, none⟩) (Nat.le_refl _) _⟩, by simp [intOf]; omega⟩
   ·have hjn : j = L.length := by omega
    have hjl : ¬ (j : Int) < (L.length : Int) := by omega
    have HF : Hid (ordB L (n : Int) = true) := by
     have h1 := HQ.out
     rw [hjn, List.take_length] at h1
     exact (ordB_iff L (n : Int)).2 ⟨by have := HL.out; omega, h1.1, h1.2⟩
    have HBW : Hid (Below w.heap.size w wr) := hb
    clear hB hb HQ hjn
    go_wp2
    go_ret
    exact ⟨by rw [HF.out]; rfl, HBW.out⟩
 ·have hl' : ((L.length : Int) == (n : Int)) = false := by simpa using hl
  have HF : Hid (ordB L (n : Int) = false) := ordB_no fun ho => hl ho.1
  clear hl
  go_enter Tryz.func29, Tryz.ntmps29
  go_wp2
  go_ret
  exact ⟨by rw [HF.out]; rfl, Below.refl _ _⟩
end Go.Proofs.YtjpkojmjiaoifaaGreat
