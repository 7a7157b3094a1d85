/-
  The contracts of graph.Only and of the reference's Only and Less.
-/
import Derived.Laws.EntriesVeiled
import Derived.Test.YtkniphmjiepkaaaGLess
namespace Go.Proofs.Ytkniphmjiepkaaa
open Go Go.Proofs Go.RowKit

def keptB (kp : List Bool) (v : Int) : Bool := decide (v < (kp.length : Int)) && kp[v.toNat]?.getD false
def onlyP (l : List Ed) (kp : List Bool) (i : Nat) : Bool := keptB kp (l[i]?.getD (0, 0, 0)).1 && keptB kp (l[i]?.getD (0, 0, 0)).2.1
theorem onlyP_at {l : List Ed} {kp : List Bool} {i : Nat} (h : i < l.length) : onlyP l kp i = (keptB kp l[i].1 && keptB kp l[i].2.1) := by simp [onlyP, h]

set_option maxRecDepth 100000 in
theorem only1_any (kp : List Bool) (v : Int) (hv : 0 ≤ v) (k : Nat) (sk : Value) (m : Nat) (W : World) (hK : Bools m W sk kp) (hk : W.cell? ⟨k, 0, none⟩ = some sk) :
    Calls Try.prog 41 #[.int .i64 v, .pointer (some ⟨k, 0, none⟩)] W fun e w' => e = .returned (.bool (keptB kp v)) ∧ w' = W := by
  obtain ⟨p, c, rfl⟩ := hK.len
  by_cases hlt : v < (kp.length : Int)
  · obtain ⟨x, rfl⟩ : ∃ x : Nat, v = (x : Int) := ⟨v.toNat, by omega⟩
    have hx : x < kp.length := by omega
    obtain ⟨b, off, rfl, hbb, hcap, hc⟩ := hK.open hx
    have c0 := hc W (Below.refl _ _) x hx
    have HE : Hid (keptB kp (x : Int) = kp[x]) := by simp [Hid, keptB, hx]
    clear hc
    go_enter Try.func41, Try.ntmps41
    go_wp2
    go_ret
    exact ⟨by rw [HE.out]; rfl, rfl⟩
  · have hd : decide (v < (kp.length : Int)) = false := by simpa using hlt
    have HE : Hid (keptB kp v = false) := by unfold Hid keptB; rw [hd]; rfl
    go_enter Try.func41, Try.ntmps41
    go_wp2
    go_ret
    exact ⟨by rw [HE.out]; rfl, rfl⟩

set_option maxRecDepth 100000 in
set_option maxHeartbeats 1000000 in
theorem only2_any (n : Int) (l : List Ed) (hR : RightG n l) (kp : List Bool) (i : Nat) (hi : i < l.length) (k5 k3 k2 : Nat) (sk sv : Value) (W : World) (hl : Edges W.heap.size W sv l) (hK : Bools W.heap.size W sk kp)
    (h5 : W.cell? ⟨k5, 0, none⟩ = some (.func (.func 41) #[] #[.pointer (some ⟨k3, 0, none⟩)])) (h3 : W.cell? ⟨k3, 0, none⟩ = some sk) (h2 : W.cell? ⟨k2, 1, none⟩ = some sv) :
    Calls Try.prog 43 #[.int .i64 (i : Int), .pointer (some ⟨k5, 0, none⟩), .pointer (some ⟨k2, 0, none⟩)] W fun e w' => e = .returned (.bool (onlyP l kp i)) ∧ Below W.heap.size W w' := by
  have eg : ∀ args w, (callFunc 41 args).run Try.prog w = .ok (.enter 41 args) w := enters_of Try.func41 (by kernel_rfl) rfl
  have hmix := mixed
  obtain ⟨p, c, rfl⟩ := hl.len
  obtain ⟨b, off, rfl, hbb, hcap, hc, -⟩ := hl.open hi
  obtain ⟨c0, c1, c2⟩ := hc W (Below.refl _ _) i hi
  have hil : (i : Int) < (l.length : Int) := by omega
  have hi0 : (0 : Int) ≤ (i : Int) := by omega
  have hok := (hR.each l[i] (List.getElem_mem hi)).1
  have hu : 0 ≤ l[i].1 := hok.1
  have hv : 0 ≤ l[i].2.1 := hok.2.2.1
  have e41 : ∀ (x : Int), 0 ≤ x → ∀ W', W'.heap = W.heap → Calls Try.prog 41 #[.int .i64 x, .pointer (some ⟨k3, 0, none⟩)] W' fun e w' => e = .returned (.bool (keptB kp x)) ∧ w' = W' := fun x hx W' hW => by
    have hb : Below W.heap.size W W' ∨ True := .inr trivial
    refine only1_any kp x hx k3 sk W.heap.size W' ?_ ?_
    · rcases hK with h | ⟨b', off', cap', g1, g2, g3, g4⟩
      · exact .inl h
      · exact .inr ⟨b', off', cap', g1, g2, g3, fun j y hy => by rw [← g4 j y hy]; simp only [World.cell?, hW]⟩
    · rw [← h3]; simp only [World.cell?, hW]
  have HE : Hid _ := onlyP_at (kp := kp) hi
  have eU := e41 l[i].1 hu
  have eV := e41 l[i].2.1 hv
  rw [HE.out]
  generalize keptB kp l[i].2.1 = kv at eV
  clear HE e41 hc
  cases hku : keptB kp l[i].1 with
  | true =>
    rw [hku] at eU
    go_enter Try.func43, Try.ntmps43
    go_wp2
    go_region_held3 (fun w' => w'.cell? ⟨k5, 0, none⟩ = some (.func (.func 41) #[] #[.pointer (some ⟨k3, 0, none⟩)]) ∧ w'.cell? ⟨k2, 1, none⟩ = some (.slice (some ⟨b, off, none⟩) l.length c) ∧ w'.cell? ⟨b, off + i * 3, none⟩ = some (.int .i64 l[i].1) ∧ w'.cell? ⟨b, off + i * 3 + 1, none⟩ = some (.int .i64 l[i].2.1) ∧ w'.heap = W.heap) (((try go_split_ands); refine ⟨?_, ?_, ?_, ?_, ?_⟩ <;> first | assumption | (simp only [World.cell?_drew]; assumption) | rfl)) (first | (go_at_call 41; first | (with_reducible (refine (eU _ (by first | rfl | (go_split_ands; assumption))).mono ?_); rintro e w2 ⟨rfl, rfl⟩) | (with_reducible (refine (eV _ (by first | rfl | (go_split_ands; assumption))).mono ?_); rintro e w2 ⟨rfl, rfl⟩)))
    go_split_ands
    go_wp2
    go_ret
    exact ⟨by simp, below_drewN (Below.refl _ _) 1⟩
  | false =>
    rw [hku] at eU
    go_enter Try.func43, Try.ntmps43
    go_wp2
    go_quiet ((go_at_call 41; exact Calls.quiet_of_same (eU _ rfl)))
    go_wp2
    go_ret
    exact ⟨by simp, below_drewN (Below.refl _ _) nq⟩

set_option maxRecDepth 100000 in
set_option maxHeartbeats 2000000 in
theorem only_any (n : Int) (l : List Ed) (kp : List Bool) (sv sk : Value) (w : World) (hl : Edges w.heap.size w sv l) (hK : Bools w.heap.size w sk kp) :
    Calls Try.prog 23 #[.agg #[.int .i64 n, sv], sk] w fun r w' => ∃ gv, r = .returned (.agg #[.int .i64 (stayN n l), gv]) ∧ Edges w'.heap.size w' gv (stayL n l (onlyP l kp)) ∧ Below w.heap.size w w' := by
  have eg : ∀ args w, (callFunc 43 args).run Try.prog w = .ok (.enter 43 args) w := enters_of Try.func43 (by kernel_rfl) rfl
  obtain ⟨p, c, rfl⟩ := hl.len
  obtain ⟨pk, ck, rfl⟩ := hK.len
  have hg1 : Grew w ((((w.alloc (.cells #[.int .i64 n, .slice p l.length c] 24)).alloc (.cells #[.slice pk kp.length ck] 41)).alloc (.cells #[.int .i64 0, .slice none 0 0] 24)).alloc (.cells #[.func (.func 41) #[] #[.pointer (some ⟨w.heap.size + 1, 0, none⟩)]] 61)) := ((((Grew.refl w).alloc _).alloc _).alloc _).alloc _
  have hB0 : Blk 24 ((((w.alloc (.cells #[.int .i64 n, .slice p l.length c] 24)).alloc (.cells #[.slice pk kp.length ck] 41)).alloc (.cells #[.int .i64 0, .slice none 0 0] 24)).alloc (.cells #[.func (.func 41) #[] #[.pointer (some ⟨w.heap.size + 1, 0, none⟩)]] 61)) w.heap.size [.int .i64 n, .slice p l.length c] := by
    have h1 : Blk 24 (w.alloc (.cells #[.int .i64 n, .slice p l.length c] 24)) w.heap.size [.int .i64 n, .slice p l.length c] := heap_alloc_new w _
    exact h1.go (((((Grew.refl _).alloc _).alloc _).alloc _).below)
  have hB1 : Blk 41 ((((w.alloc (.cells #[.int .i64 n, .slice p l.length c] 24)).alloc (.cells #[.slice pk kp.length ck] 41)).alloc (.cells #[.int .i64 0, .slice none 0 0] 24)).alloc (.cells #[.func (.func 41) #[] #[.pointer (some ⟨w.heap.size + 1, 0, none⟩)]] 61)) (w.heap.size + 1) [.slice pk kp.length ck] := by
    have h1 : Blk 41 ((w.alloc (.cells #[.int .i64 n, .slice p l.length c] 24)).alloc (.cells #[.slice pk kp.length ck] 41)) (w.heap.size + 1) [.slice pk kp.length ck] := by
      have := heap_alloc_new (w.alloc (.cells #[.int .i64 n, .slice p l.length c] 24)) (.cells #[.slice pk kp.length ck] 41)
      simpa [Blk] using this
    exact h1.go ((((Grew.refl _).alloc _).alloc _).below)
  have hB2 : Blk 24 ((((w.alloc (.cells #[.int .i64 n, .slice p l.length c] 24)).alloc (.cells #[.slice pk kp.length ck] 41)).alloc (.cells #[.int .i64 0, .slice none 0 0] 24)).alloc (.cells #[.func (.func 41) #[] #[.pointer (some ⟨w.heap.size + 1, 0, none⟩)]] 61)) (w.heap.size + 1 + 1) [.int .i64 0, .slice none 0 0] := by
    have h1 : Blk 24 (((w.alloc (.cells #[.int .i64 n, .slice p l.length c] 24)).alloc (.cells #[.slice pk kp.length ck] 41)).alloc (.cells #[.int .i64 0, .slice none 0 0] 24)) (w.heap.size + 1 + 1) [.int .i64 0, .slice none 0 0] := by
      have := heap_alloc_new ((w.alloc (.cells #[.int .i64 n, .slice p l.length c] 24)).alloc (.cells #[.slice pk kp.length ck] 41)) (.cells #[.int .i64 0, .slice none 0 0] 24)
      simpa [Blk] using this
    exact h1.go (((Grew.refl _).alloc _).below)
  have hB3 : Blk 61 ((((w.alloc (.cells #[.int .i64 n, .slice p l.length c] 24)).alloc (.cells #[.slice pk kp.length ck] 41)).alloc (.cells #[.int .i64 0, .slice none 0 0] 24)).alloc (.cells #[.func (.func 41) #[] #[.pointer (some ⟨w.heap.size + 1, 0, none⟩)]] 61)) (w.heap.size + 1 + 1 + 1) [.func (.func 41) #[] #[.pointer (some ⟨w.heap.size + 1, 0, none⟩)]] := by
    have := heap_alloc_new (((w.alloc (.cells #[.int .i64 n, .slice p l.length c] 24)).alloc (.cells #[.slice pk kp.length ck] 41)).alloc (.cells #[.int .i64 0, .slice none 0 0] 24)) (.cells #[.func (.func 41) #[] #[.pointer (some ⟨w.heap.size + 1, 0, none⟩)]] 61)
    simpa [Blk] using this
  have hl1 := hl.go hg1.below
  have hK1 := hK.go hg1.below
  have hst := staying_any n l (onlyP l kp) 43 #[.pointer (some ⟨w.heap.size + 1 + 1 + 1, 0, none⟩), .pointer (some ⟨w.heap.size, 0, none⟩)] _ _ hl1 eg (fun hr W' hW i hi =>
    only2_any n l (right_iff.1 hr) kp i hi (w.heap.size + 1 + 1 + 1) (w.heap.size + 1) w.heap.size _ _ W' (hl1.go hW) (hK1.go hW) ((hB3.go hW).cell (j := 0) rfl) ((hB1.go hW).cell (j := 0) rfl) ((hB0.go hW).cell (j := 1) rfl))
  go_enter Try.func23, Try.ntmps23
  go_wp2_with fail
  refine hst.mono ?_
  rintro e w9 ⟨gv, rfl, hgE, hgA, hb9⟩
  have hF1 := hB2.go hb9
  have f0 := hF1.frozen 0
  have f1 := hF1.frozen 1
  have x0 := hF1.cell (j := 0) rfl
  have x1 := hF1.cell (j := 1) rfl
  have hbf' := below_keep hb9 hg1.below (Nat.le_refl _)
  have hsz := hB2.lt
  obtain ⟨pp, cc, rfl⟩ := hgE.len
  clear hst
  go_wp2
  have hbf := (hF1.set 0 (.int .i64 (stayN n l))).set 1 (.slice pp (stayL n l (onlyP l kp)).length cc)
  (try simp only [Exit.inBlock, Exit.then])
  refine bodyPost_ret (ret_graph1 rfl (by rfl) (hbf.cell (j := 0) rfl) (hbf.cell (j := 1) rfl)) rfl ?_
  refine ⟨.slice pp (stayL n l (onlyP l kp)).length cc, rfl, ?_, (hbf'.setCell (p := ⟨w.heap.size + 1 + 1, 0, none⟩) (by simp; omega) _).setCell (p := ⟨w.heap.size + 1 + 1, 1, none⟩) (by simp; omega) _⟩
  exact (hgE.setLow hgA hsz _).setLow hgA hsz _

end Go.Proofs.Ytkniphmjiepkaaa
