/-
  The contract of slices.SortFunc at edges.
-/
import Derived.Test.YtonfhkdciaiilaaQA
import Derived.Test.YtonfhkdciaiilaaShelf
namespace Go.Proofs.Ytonfhkdciaiilaa
open Go Go.Proofs Go.RowKit

theorem encE_len (x : Ed) : (encE x).length = 3 := rfl
theorem Blk.holds {W : World} {g : Nat} {l : List Ed} {t : TypeId} (h : Blk t W g (flat l)) : Go.Sort.HoldsK encE 3 W g 0 l.toArray := by
  intro j hj
  rw [Go.Sort.size_flatK] at hj
  rw [Go.Sort.get_flatK _ _ _ _ hj]
  refine ⟨?_, by rw [Nat.zero_add]; exact h.frozen j⟩
  have hq : j / 3 < l.length := by simp at hj; omega
  have hm : j % 3 < 3 := Nat.mod_lt _ (by omega)
  have hat := flat_at (List.getElem?_eq_getElem hq)
  have he : l.toArray[j / 3]! = l[j / 3] := by simp [hq]
  rw [Nat.zero_add, he]
  refine h.cell ?_
  have hj3 : j = j / 3 * 3 + j % 3 := by omega
  generalize j / 3 = a at *
  generalize j % 3 = b at *
  subst hj3
  match b, hm with
  | 0, _ => exact hat.1
  | 1, _ => exact hat.2.1
  | 2, _ => exact hat.2.2

theorem swoE : Go.Sort.SWO (ltOf cfE) where
  irrefl x := by unfold ltOf; rw [cfE_lt]; exact lo_irrefl x
  trans x y z h1 h2 := by unfold ltOf at *; rw [cfE_lt] at *; exact lo_trans h1 h2
  ntrans x y z h1 h2 := by unfold ltOf at *; rw [cfE_lt] at *; rw [lo_not] at *; omega

theorem perm_of {d d' : Array Ed} (h : Go.Sort.PermIn 0 d.size d d') : d'.toList.Perm d.toList := by
  obtain ⟨h1, _, h3⟩ := h
  have e : List.take d'.size d.toList = d.toList := List.take_of_length_le (by simp [h1])
  simpa [← h1, e] using h3
theorem weak_of {d : Array Ed} {n : Nat} (hn : n = d.size) (h : Go.Sort.SortedIn (ltOf cfE) 0 n d) : Weak d.toList := by
  subst hn
  refine List.pairwise_iff_getElem.2 fun i j hi hj hij => ?_
  have := h i j (Nat.zero_le _) hij (by simpa using hj)
  unfold ltOf at this
  rw [cfE_lt] at this
  simp at hi hj
  simpa [hi, hj] using this

theorem sortWorld_below {α : Type} [Inhabited α] (enc : α → List Value) (k : Nat) (W : World) (g off m : Nat) (d : Array α) (os : Array Obj) {n : Nat} (hn : n ≤ g) (hs : n ≤ W.heap.size) : Below n W (sortWorldK enc k W g off m d os) := by
  refine ⟨rfl, rfl, rfl, ?_, fun j hj => ?_⟩
  · exact size_sortWorldK_c enc k W g off m d os
  · have h1 : j < W.heap.size := by omega
    have h2 : g ≠ j := by omega
    unfold sortWorldK Go.Sort.grow Go.Sort.putRowK Go.Sort.putRow Go.Sort.mapBlock Go.Sort.ahead
    simp [Array.getElem?_append, Array.getElem_modify, h1, h2]

set_option maxRecDepth 100000 in
theorem sort_any (W : World) (g cap : Nat) (l : List Ed) (t : TypeId) (hB : Blk t W g (flat l)) (hl : l.length ≤ 4194304) :
    Calls Try.prog 50 #[.slice (some ⟨g, 0, none⟩) l.length cap, .func (.func 51) #[] #[]] W fun e w' => e = .returned (.tuple #[]) ∧
      ∃ s, s.Perm l ∧ Weak s ∧ s.length = l.length ∧ Edges w'.heap.size w' (.slice (some ⟨g, 0, none⟩) l.length l.length) s ∧ ∀ n, n ≤ g → Below n W w' := by
  have eg : ∀ args w, (callFunc 51 args).run Try.prog w = .ok (.enter 51 args) w := enters_of Try.func51 (by kernel_rfl) rfl
  have hcmp : CmpLays Try.prog 51 #[] encE 3 cfE g 0 l.toArray.size W := fun m os dk _ x y => byEnds_any x y _
  have hcon := AnyQ.slices_SortFunc Try.sortE 3 Try.isAgg44 Try.sizeOf44 encE encE_len (fun x v hv => by simp [encE] at hv; rcases hv with rfl | rfl | rfl <;> rfl) cfE swoE 51 #[] g 0 cap l.toArray W eg hcmp hB.holds hB.lt (by simp; omega)
  have hcon' : Calls Try.prog 50 #[.slice (some ⟨g, 0, none⟩) l.length cap, .func (.func 51) #[] #[]] W _ := hcon
  refine hcon'.mono ?_
  rintro e w' ⟨rfl, d', m, os, hp, hs, rfl⟩
  have hsz : d'.size = l.toArray.size := hp.1
  have hp' := perm_of hp
  have hh := holdsK_sortWorldK encE 3 W g 0 m l.toArray d' os hB.lt hB.holds hsz
  have hlen : d'.toList.length = l.length := by simpa using hsz
  refine ⟨rfl, d'.toList, by simpa using hp', weak_of hsz.symm hs, hlen, ?_, fun n hn => sortWorld_below _ _ _ _ _ _ _ _ hn (Nat.le_trans hn (Nat.le_of_lt hB.lt))⟩
  refine .inr ⟨g, 0, l.length, by rw [hlen], lt_sortWorldK encE 3 W g 0 m d' os hB.lt, by omega, fun j x hx => ?_⟩
  have hj : j < d'.size := by simpa using (List.getElem?_eq_some_iff.1 hx).1
  have he : d'[j]! = x := by simpa [hj] using hx
  have k0 := (hh.cell (i := j) (c := 0) hj (by omega)).1
  have k1 := (hh.cell (i := j) (c := 1) hj (by omega)).1
  have k2 := (hh.cell (i := j) (c := 2) hj (by omega)).1
  rw [he] at k0 k1 k2
  exact ⟨k0, k1, k2⟩


end Go.Proofs.Ytonfhkdciaiilaa
