/-
  What is left of the darts, as entries of a map. No program in this text.
-/
import Derived.Test.YtnmlbkmbiecpnaaRDarts
namespace Go.Proofs.Ytnmlbkmbiecpnaa
open Go Go.Proofs

def leftE (nx : Dt → Dt) (L : List Dt) : List (Dt × Dt) := L.map fun x => (x, nx x)
theorem lk_left {nx : Dt → Dt} {d : Dt} : ∀ (L : List Dt), lkD (leftE nx L) d = if d ∈ L then some (nx d) else none
  | [] => by simp [lkD, leftE]
  | x :: L => by
    have ih := lk_left (nx := nx) (d := d) L
    unfold lkD leftE at *
    rw [List.map_cons, List.find?_cons]
    by_cases h : d = x
    · subst h
      simp
    · rw [show decide (d = (x, nx x).1) = false from decide_eq_false h]
      simp only [ih, List.mem_cons, h, false_or]
theorem er_left {nx : Dt → Dt} {d : Dt} : ∀ (L : List Dt), (leftE nx L).eraseP (fun p => decide (d = p.1)) = leftE nx (L.erase d)
  | [] => by simp [leftE]
  | x :: L => by
    have ih := er_left (nx := nx) (d := d) L
    unfold leftE at *
    rw [List.map_cons, List.eraseP_cons, List.erase_cons]
    by_cases h : d = x
    · subst h
      simp
    · have h' : ¬ (x == d) = true := by rw [beq_iff_eq]; exact fun e => h e.symm
      rw [show decide (d = (x, nx x).1) = false from decide_eq_false h, if_neg h', List.map_cons, ← ih]
      rfl
/-- All darts, by what they lead to. -/
def keysR (r : List (List Int)) (N : Nat) : List Dt := (List.range N).flatMap fun (v : Nat) => (r.getD v []).map fun u => (u, (v : Int))
theorem keysR_succ (r : List (List Int)) (j : Nat) : keysR r (j + 1) = keysR r j ++ (r.getD j []).map fun u => (u, (j : Int)) := by
  unfold keysR
  rw [List.range_succ, List.flatMap_append]
  simp
section
variable {N : Nat} {l : List Ed} {r : List (List Int)}
theorem row_left {L : List Int} (hn : L.Nodup) {v : Nat} (hL : r.getD v [] = L) : rowE L (v : Int) L.length = leftE (nxD r) (L.map fun u => (u, (v : Int))) := by
  unfold rowE leftE
  rw [List.map_map]
  apply List.ext_getElem
  · simp
  · intro i h1 h2
    have hi : i < L.length := by simpa using h1
    simp only [List.getElem_map, List.getElem_range, Function.comp]
    unfold nxD
    simp only [Int.toNat_natCast, hL]
    have e1 : L.getD i 0 = L[i] := by rw [List.getD_eq_getElem?_getD, List.getElem?_eq_getElem hi]; rfl
    rw [e1, hn.idxOf_getElem i hi]
theorem beh_left (hS : SysR N l r) (hR : RightG (N : Int) l) : ∀ {j : Nat}, j ≤ N → behL r j = leftE (nxD r) (keysR r j)
  | 0, _ => rfl
  | j + 1, h => by
    rw [behL_succ, keysR_succ, beh_left hS hR (by omega), row_left (r := r) (v := j) (hS.nodup hR (by omega)) rfl]
    unfold leftE
    rw [List.map_append]
theorem keysR_mem (hS : SysR N l r) {d : Dt} : d ∈ keysR r N ↔ ∃ v : Nat, v < N ∧ d.2 = (v : Int) ∧ d.1 ∈ nb l (v : Int) := by
  unfold keysR
  rw [List.mem_flatMap]
  constructor
  · rintro ⟨v, hv, h⟩
    obtain ⟨u, hu, rfl⟩ := List.mem_map.1 h
    have hv' := List.mem_range.1 hv
    exact ⟨v, hv', rfl, (hS.perm v hv').mem_iff.1 hu⟩
  · rintro ⟨v, hv, h1, h2⟩
    exact ⟨v, List.mem_range.2 hv, List.mem_map.2 ⟨d.1, (hS.perm v hv).mem_iff.2 h2, by rw [← h1]⟩⟩
theorem keys_darts (hS : SysR N l r) (hR : RightG (N : Int) l) {d : Dt} : d ∈ keysR r N ↔ d ∈ dartsL N l := by
  rw [keysR_mem hS, dartsL_mem]
  constructor
  · rintro ⟨v, hv, h1, h2⟩
    obtain ⟨h3, h4, h5, _⟩ := nb_mutual hR h2
    have e : ((d.1.toNat : Nat) : Int) = d.1 := by omega
    refine ⟨d.1.toNat, by omega, by omega, ?_⟩
    rw [h1, e]
    exact h3
  · rintro ⟨u, hu, h1, h2⟩
    obtain ⟨h3, h4, h5, _⟩ := nb_mutual hR h2
    have e : ((d.2.toNat : Nat) : Int) = d.2 := by omega
    refine ⟨d.2.toNat, by omega, by omega, ?_⟩
    rw [h1, e]
    exact h3
theorem keysR_nodup (hS : SysR N l r) (hR : RightG (N : Int) l) : (keysR r N).Nodup := by
  unfold keysR List.Nodup
  rw [List.pairwise_flatMap]
  refine ⟨fun v hv => ?_, ?_⟩
  · refine List.Pairwise.map _ (fun a b h => ?_) (hS.nodup hR (List.mem_range.1 hv))
    intro e
    exact h (congrArg Prod.fst e)
  · refine List.nodup_range.imp fun {a b} hab => ?_
    intro x hx y hy e
    obtain ⟨u, _, rfl⟩ := List.mem_map.1 hx
    obtain ⟨u', _, rfl⟩ := List.mem_map.1 hy
    have := congrArg Prod.snd e
    simp only at this
    omega
theorem keysR_len (hS : SysR N l r) : ∀ {j : Nat}, j ≤ N → (keysR r j).length = degS l j
  | 0, _ => rfl
  | j + 1, h => by
    rw [keysR_succ, List.length_append, List.length_map, keysR_len hS (by omega), (hS.perm j (by omega)).length_eq]
    rfl
theorem sys_perm (hS : SysR N l r) (hR : RightG (N : Int) l) : PermS (nxD r) (keysR r N) :=
  ⟨fun _ h => (keys_darts hS hR).2 (nx_mem hR hS ((keys_darts hS hR).1 h)), fun _ h _ h' => nx_inj hR hS ((keys_darts hS hR).1 h) ((keys_darts hS hR).1 h')⟩
theorem dart_zero (hR : RightG (N : Int) l) : ((0 : Int), (0 : Int)) ∉ dartsL N l := fun h => by
  obtain ⟨u, _, h1, h2⟩ := dartsL_mem.1 h
  have := (nb_mutual hR h2).2.2.2
  exact this h1
end
end Go.Proofs.Ytnmlbkmbiecpnaa
