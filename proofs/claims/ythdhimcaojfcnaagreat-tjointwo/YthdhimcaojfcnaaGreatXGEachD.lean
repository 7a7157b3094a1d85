/-
  A region that draws its order, some of whose operations come up in any order that keeps what waits for what: one step for each of them, whatever has come up before it. The orders are looked through by what has come up, not by how.
-/
import Derived.Test.YthdhimcaojfcnaaGreatXGEach
namespace Go.Proofs.YthdhimcaojfcnaaGreat
open Go Go.Proofs

section
variable {P : Program} {ops : Array Oper} {Q : Exit → Act → World → Prop} {md : Region.Mode} {S : World → Prop}

/-- What may come next: it has not come, and what it waits for has. -/
def nextD (dep : Nat → List Nat) (ps d : List Nat) : List Nat := ps.filter fun i => !d.contains i && (dep i).all fun j => d.contains j
def closedD (dep : Nat → List Nat) (d : List Nat) : Bool := d.all fun i => (dep i).all fun j => d.contains j
def listedD (base : Array Bool) (d : List Nat) : Array Bool := d.foldr (fun i l => l.setIfInBounds i true) base
def subsD : List Nat → List (List Nat)
  | [] => [[]]
  | i :: l => subsD l ++ (subsD l).map (i :: ·)
/-- In each state that may come about just those are ready that may come next. -/
def okD (md : Region.Mode) (ops : Array Oper) (dep : Nat → List Nat) (ps : List Nat) (base : Array Bool) : Bool :=
  (subsD ps).all fun d => !closedD dep d || d.length == ps.length || (Region.ready md ops (listedD base d) == nextD dep ps d && !(nextD dep ps d).isEmpty)

theorem listedD_size (base : Array Bool) : ∀ d : List Nat, (listedD base d).size = base.size
  | [] => rfl
  | i :: d => by show (Array.setIfInBounds _ i true).size = _; rw [Array.size_setIfInBounds]; exact listedD_size base d
theorem listedD_at (base : Array Bool) {k : Nat} (hk : k < base.size) : ∀ d : List Nat, (listedD base d)[k]? = if k ∈ d then some true else base[k]?
  | [] => by simp [listedD]
  | i :: d => by
    show (Array.setIfInBounds (listedD base d) i true)[k]? = _
    rw [Array.getElem?_setIfInBounds, listedD_size, listedD_at base hk d]
    by_cases e : i = k
    · subst e; simp [hk]
    · rw [if_neg e]
      have : k ∈ i :: d ↔ k ∈ d := by simp [Ne.symm e]
      simp only [this]
theorem listedD_same (base : Array Bool) {d d' : List Nat} (h : ∀ i, i ∈ d ↔ i ∈ d') : listedD base d = listedD base d' := by
  apply Array.ext_getElem?
  intro k
  by_cases hk : k < base.size
  · rw [listedD_at base hk, listedD_at base hk]; simp only [h k]
  · rw [Array.getElem?_eq_none (by rw [listedD_size]; omega), Array.getElem?_eq_none (by rw [listedD_size]; omega)]
theorem filter_subsD (p : Nat → Bool) : ∀ ps : List Nat, ps.filter p ∈ subsD ps
  | [] => by simp [subsD]
  | i :: ps => by
    unfold subsD
    rw [List.mem_append]
    by_cases h : p i = true
    · rw [List.filter_cons_of_pos h]
      exact .inr (List.mem_map.2 ⟨_, filter_subsD p ps, rfl⟩)
    · rw [List.filter_cons_of_neg h]
      exact .inl (filter_subsD p ps)
theorem okD_at {dep : Nat → List Nat} {ps : List Nat} {base : Array Bool} (hok : okD md ops dep ps base = true) {d : List Nat} (hsub : ∀ i ∈ d, i ∈ ps) (hcl : ∀ i ∈ d, ∀ j ∈ dep i, j ∈ d) (hne : ∃ i ∈ ps, i ∉ d) : Region.ready md ops (listedD base d) = nextD dep ps d ∧ nextD dep ps d ≠ [] := by
  have h := List.all_eq_true.1 hok _ (filter_subsD (fun i => d.contains i) ps)
  have hmem : ∀ i, i ∈ ps.filter (fun i => d.contains i) ↔ i ∈ d := fun i => by
    rw [List.mem_filter]
    constructor
    · intro h; simpa using h.2
    · intro h; exact ⟨hsub i h, by simpa using h⟩
  have hc : ∀ j, (ps.filter fun i => d.contains i).contains j = d.contains j := fun j => by
    rw [Bool.eq_iff_iff, List.contains_iff_mem, List.contains_iff_mem]; exact hmem j
  have e1 : closedD dep (ps.filter fun i => d.contains i) = true := by
    unfold closedD
    rw [List.all_eq_true]
    intro i hi
    rw [List.all_eq_true]
    intro j hj
    rw [hc, List.contains_iff_mem]
    exact hcl i ((hmem i).1 hi) j hj
  have e2 : ((ps.filter fun i => d.contains i).length == ps.length) = false := by
    rw [beq_eq_false_iff_ne]
    intro e
    rw [List.length_filter_eq_length_iff] at e
    obtain ⟨i, hi, hn⟩ := hne
    exact hn (by simpa using e i hi)
  have e3 : nextD dep ps (ps.filter fun i => d.contains i) = nextD dep ps d := by
    unfold nextD
    simp only [hc]
  rw [e1, e2, e3, listedD_same base hmem] at h
  simp only [Bool.not_true, Bool.false_or, Bool.and_eq_true] at h
  exact ⟨by simpa using h.1, fun e => by rw [e] at h; simp at h⟩

theorem wpAnyH_eachD (dep : Nat → List Nat) (ps : List Nat) (hn : ps.Nodup) (base : Array Bool) (J : List Nat → Act → World → Prop) (fe : Nat) (hok : okD md ops dep ps base = true)
    (hstep : ∀ i ∈ ps, ∀ d a w, i ∉ d → (∀ j ∈ dep i, j ∈ d) → J d a w → wpOp P ops Q i (fun a' w' => S w' ∧ J (i :: d) a' w') a w)
    (hend : ∀ d a w, (∀ i ∈ ps, i ∈ d) → J d a w → wpAnyH P md ops Q S fe (listedD base ps) a w) :
    ∀ (n : Nat) (d : List Nat) (a : Act) (w : World), (ps.filter fun i => !d.contains i).length = n → (∀ i ∈ d, i ∈ ps) → (∀ i ∈ d, ∀ j ∈ dep i, j ∈ d) → J d a w → wpAnyH P md ops Q S (fe + n) (listedD base d) a w
  | 0, d, a, w, hl, hsub, _, hJ => by
    have hall : ∀ i ∈ ps, i ∈ d := fun i hi => by
      have h0 := List.eq_nil_of_length_eq_zero hl
      have : i ∉ ps.filter fun i => !d.contains i := by rw [h0]; simp
      rw [List.mem_filter] at this
      by_cases hd : i ∈ d
      · exact hd
      · exact absurd ⟨hi, by simp [hd]⟩ this
    rw [listedD_same base (fun i => ⟨hsub i, hall i⟩)]
    exact hend d a w hall hJ
  | n + 1, d, a, w, hl, hsub, hcl, hJ => by
    have hne : ∃ i ∈ ps, i ∉ d := by
      have h0 : 0 < (ps.filter fun i => !d.contains i).length := by omega
      obtain ⟨i, hi⟩ := List.exists_mem_of_length_pos h0
      rw [List.mem_filter] at hi
      exact ⟨i, hi.1, by simpa using hi.2⟩
    obtain ⟨h1, h2⟩ := okD_at hok hsub hcl hne
    refine wpAnyH_ready h1 h2 (fun i hi => ?_)
    have hi2 := hi
    unfold nextD at hi2
    obtain ⟨hip, hid⟩ := List.mem_filter.1 hi2
    rw [Bool.and_eq_true] at hid
    have hid' : i ∉ d := by simpa using hid.1
    have hdep : ∀ j ∈ dep i, j ∈ d := by simpa using hid.2
    refine wpOp_mono (fun a' w' h' => ⟨h'.1, ?_⟩) (hstep i hip d a w hid' hdep hJ)
    have hl' := filter_less hn d (i := i) (List.mem_filter.2 ⟨hip, hid.1⟩)
    refine wpAnyH_eachD dep ps hn base J fe hok hstep hend n (i :: d) a' w' (by omega) (fun j hj => ?_) (fun j hj k hk => ?_) h'.2
    · rcases List.mem_cons.1 hj with rfl | hj
      · exact hip
      · exact hsub j hj
    · rcases List.mem_cons.1 hj with rfl | hj
      · exact List.mem_cons.2 (.inr (hdep k hk))
      · exact List.mem_cons.2 (.inr (hcl j hj k hk))
end
end Go.Proofs.YthdhimcaojfcnaaGreat
