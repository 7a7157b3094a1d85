/-
  The contracts of rotation.Canon and of the reference's Mirror.
-/
import Derived.Test.YtnmlbkmbiecpnaaXRLeast
import Derived.Test.YtnmlbkmbiecpnaaQK
import Derived.BigQuiet
namespace Go.Proofs.Ytnmlbkmbiecpnaa
open Go Go.Proofs Go.RowKit

def canL (r : List (List Int)) : List (List Int) := r.map (eachF leastL)
set_option maxRecDepth 100000 in
set_option maxHeartbeats 2000000 in
theorem canon_any (N : Nat) (l : List Ed) (hR : RightG (N : Int) l) (r : List (List Int)) (hS : SysR N l r) (sv rv : Value) (w : World) (hl : Edges w.heap.size w sv l) (hr : Lsts w.heap.size w rv r) :
    Calls Try.prog 23 #[.agg #[.int .i64 (N : Int), sv], rv] w fun e w' => ∃ lv svs, e = .returned (.tuple #[lv, .int .i64 0]) ∧ Grp w.heap.size lv svs (canL r) w' ∧ Below w.heap.size w w' := by
  have hbA : Below w.heap.size w (w.alloc (.cells #[.int .i64 (N : Int), sv] 24)) := (Below.refl _ _).alloc (Nat.le_refl _) _
  have hX : Blk 24 (w.alloc (.cells #[.int .i64 (N : Int), sv] 24)) w.heap.size [.int .i64 (N : Int), sv] := heap_alloc_new w _
  have q0 := hX.cell (j := 0) rfl
  have q1 := hX.cell (j := 1) rfl
  have hrc := sysRight_any (N : Int) l r sv rv _ (hl.go hbA) (hr.go hbA)
  rw [sysK_ok hR hS] at hrc
  have hrr : ∀ x ∈ r, x.length ≤ 4194304 := fun x hx => by
    obtain ⟨v, hv, rfl⟩ := List.getElem_of_mem hx
    have h0 := hS.len
    have h1 := (hS.perm v (by omega)).length_eq
    rw [List.getD_eq_getElem?_getD, List.getElem?_eq_getElem hv] at h1
    have := nb_len (v : Int) l
    have := hR.m1
    simp only [Option.getD_some] at h1
    omega
  have hrl : r.length ≤ 1048576 := by have := hS.len; have := hR.n1; omega
  have HEA : Hid (∀ W, Lsts W.heap.size W rv r → Calls Try.prog 46 #[rv, .func (.func 47) #[] #[]] W fun e w' => ∃ lv svs, e = .returned lv ∧ Grp W.heap.size lv svs (canL r) w' ∧ Below W.heap.size W w') := fun W h => each_any 47 leastL (fun args W => by kernel_rfl) r hrl (fun L sv W hm hne h => fromLeast_any L hne (hrr L hm) sv W h) rv W h
  have HR0 : Hid (Lsts w.heap.size w rv r) := hr
  have HBA : Hid (Below w.heap.size w (w.alloc (.cells #[.int .i64 (N : Int), sv] 24))) := hbA
  clear hX hl hr hbA hR hS hrr hrl
  go_enter Try.func23, Try.ntmps23
  go_wp2_with fail
  generalize w.alloc (.cells #[.int .i64 (N : Int), sv] 24) = w1 at *
  refine hrc.mono ?_
  clear hrc
  rintro e w2 ⟨rfl, hb2⟩
  have HB2 : Hid (Below w.heap.size w w2) := HBA.out.trans (hb2.mono HBA.out.size)
  have hea := HEA.out w2 (HR0.out.go HB2.out)
  clear hb2 q0 q1
  go_wp2_with fail
  refine hea.mono ?_
  clear hea
  rintro e w3 ⟨lv, svs, rfl, hG, hb3⟩
  obtain ⟨pl, cl, rfl⟩ := owns_formP hG.own
  have HF : Hid (Grp w.heap.size (.slice pl svs.length cl) svs (canL r) w3 ∧ Below w.heap.size w w3) := by
    refine ⟨⟨hG.len, owns_base hG.own HB2.out.size, fun k sv xs h1 h2 => owns_base (hG.inn k sv xs h1 h2) HB2.out.size, hG.apart, hG.outer⟩, HB2.out.trans (hb3.mono HB2.out.size)⟩
  clear hG hb3
  go_wp2
  refine bodyPost_ret (results_tmp2 rfl _ _ _) rfl ?_
  exact ⟨.slice pl svs.length cl, svs, rfl, HF.out.1, HF.out.2⟩

set_option maxRecDepth 100000 in
set_option maxHeartbeats 2000000 in
theorem canon_bad (n : Int) (l : List Ed) (r : List (List Int)) (hk : sysK n l r ≠ 0) (sv rv : Value) (w : World) (hl : Edges w.heap.size w sv l) (hr : Lsts w.heap.size w rv r) :
    Calls Try.prog 23 #[.agg #[.int .i64 n, sv], rv] w fun e w' => e = .returned (.tuple #[.slice none 0 0, .int .i64 (sysK n l r)]) ∧ Below w.heap.size w w' := by
  have hbA : Below w.heap.size w (w.alloc (.cells #[.int .i64 n, sv] 24)) := (Below.refl _ _).alloc (Nat.le_refl _) _
  have hX : Blk 24 (w.alloc (.cells #[.int .i64 n, sv] 24)) w.heap.size [.int .i64 n, sv] := heap_alloc_new w _
  have q0 := hX.cell (j := 0) rfl
  have q1 := hX.cell (j := 1) rfl
  have hrc := sysRight_any n l r sv rv _ (hl.go hbA) (hr.go hbA)
  have HBA : Hid (Below w.heap.size w (w.alloc (.cells #[.int .i64 n, sv] 24))) := hbA
  clear hX hl hr hbA
  generalize sysK n l r = k at *
  go_enter Try.func23, Try.ntmps23
  go_wp2_with fail
  generalize w.alloc (.cells #[.int .i64 n, sv] 24) = w1 at *
  refine hrc.mono ?_
  clear hrc
  rintro e w2 ⟨rfl, hb2⟩
  have HB2 : Hid (Below w.heap.size w w2) := HBA.out.trans (hb2.mono HBA.out.size)
  clear hb2 q0 q1
  go_wp2
  refine bodyPost_ret (results_tmp2 rfl _ _ _) rfl ?_
  exact ⟨rfl, HB2.out⟩
/-- What an append upon the list number k leaves. -/
theorem Grp.pushed {h0 g N k c : Nat} {p : Option Addr} {svs : List Value} {pre : List (List Int)} {W B : World} {o : Obj} {sv' : Value} {xs : List Int} {y : Int} (h : Grp h0 (.slice (some ⟨g, 0, none⟩) N N) svs pre W) (hN : svs.length = N) (hk : svs[k]? = some (.slice p xs.length c)) (hp : pre[k]? = some xs)
    (hB : B.ownsRow h0 3 1 sv' (xs.length + 1) (xs.map (Value.int .i64) ++ [.int .i64 y])) (hg : (W.alloc o).grownBy B (Value.slice p xs.length c).ownBlock) (hat : sv'.ownBlock = (Value.slice p xs.length c).ownBlock ∨ sv'.ownBlock = some (W.alloc o).heap.size) :
    B.cell? ⟨g, k, none⟩ = some (.slice p xs.length c) ∧ B.frozen? ⟨g, k, none⟩ = false ∧ Grp h0 (.slice (some ⟨g, 0, none⟩) N N) (svs.set k sv') (pre.set k (xs ++ [y])) (B.setCell ⟨g, k, none⟩ sv') := by
  subst hN
  have hne : (Value.slice (some ⟨g, 0, none⟩) svs.length svs.length).ownBlock = none ∨ (Value.slice (some ⟨g, 0, none⟩) svs.length svs.length).ownBlock ≠ (Value.slice p xs.length c).ownBlock := by
    refine .inr fun e => ?_
    rcases h.outer k _ hk with h1 | h1
    · rw [h1] at e; cases e
    · exact h1 e.symm
  have h2 := owns_keep (World.ownsRow.alloc h.own o) hg hne
  refine ⟨?_, h2.frozenAt k, h.push hk hp hB hg hat⟩
  have h3 := h2.cells (g := g) rfl k _ hk
  rwa [Go.WideShapes.add_plain, Nat.zero_add] at h3
theorem eachL_at {F : List Int → List Int} {r : List (List Int)} {j : Nat} (h : j < r.length) : (eachL F r j)[j]? = some [] := by
  unfold eachL
  have e1 : ((r.take j).map (eachF F)).length = j := by rw [List.length_map, List.length_take]; omega
  rw [List.getElem?_append_right (by omega), e1, Nat.sub_self]
  obtain ⟨m, hm⟩ : ∃ m, r.length - j = m + 1 := ⟨r.length - j - 1, by omega⟩
  rw [hm]
  rfl
theorem eachL_len (F : List Int → List Int) (r : List (List Int)) {j : Nat} (h : j ≤ r.length) : (eachL F r j).length = r.length := by
  unfold eachL
  rw [List.length_append, List.length_map, List.length_take, List.length_replicate]
  omega
end Go.Proofs.Ytnmlbkmbiecpnaa
