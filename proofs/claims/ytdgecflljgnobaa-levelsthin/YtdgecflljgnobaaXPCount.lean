/-
  The contract of parts.counted: how often each label is there.
-/
import Derived.Test.YtdgecflljgnobaaXGDeg
namespace Go.Proofs.Ytdgecflljgnobaa
open Go Go.Proofs Go.RowKit

/-- How often each number below N is among the first j. -/
def cntL (N : Nat) (l : List Int) (j : Nat) : List Int := (List.range N).map fun (v : Nat) => (((l.take j).count (v : Int) : Nat) : Int)
theorem cntL_len (N : Nat) (l : List Int) (j : Nat) : (cntL N l j).length = N := by simp [cntL]
theorem cntL_at {N : Nat} {l : List Int} {j v : Nat} (h : v < N) : (cntL N l j)[v]? = some (((l.take j).count (v : Int) : Nat) : Int) := by simp [cntL, h]
theorem cntL_zero (N : Nat) (l : List Int) : cntL N l 0 = List.replicate N 0 := by
  apply List.ext_getElem <;> simp [cntL]
theorem count_next {l : List Int} {j : Nat} (h : j < l.length) (x : Int) : (l.take (j + 1)).count x = (l.take j).count x + (if l[j] = x then 1 else 0) := by
  rw [List.take_add_one, List.getElem?_eq_getElem h, List.count_append]
  congr 1
  show List.count x [l[j]] = _
  rw [List.count_singleton]
  by_cases hx : l[j] = x
  · rw [if_pos hx, if_pos (by simpa using hx)]
  · rw [if_neg hx, if_neg (by simpa using hx)]
theorem cntL_step {N : Nat} {l : List Int} {j u : Nat} (h : j < l.length) (hu : l[j] = (u : Int)) (huN : u < N) :
    (cntL N l j).set u (((l.take j).count (u : Int) : Nat) + 1) = cntL N l (j + 1) := by
  apply List.ext_getElem?
  intro i
  by_cases hi : i < N
  · rw [cntL_at hi, List.getElem?_set, cntL_at hi, count_next h, cntL_len, hu]
    by_cases h1 : u = i
    · subst h1
      rw [if_pos rfl, if_pos huN, if_pos rfl]
      simp
    · rw [if_neg h1, if_neg (by omega)]
      simp
  · rw [List.getElem?_eq_none (by simp [cntL_len]; omega), List.getElem?_eq_none (by rw [cntL_len]; omega)]
/-- Labels: each one below the list's length. -/
def Labels (l : List Int) : Prop := ∀ x ∈ l, 0 ≤ x ∧ x < (l.length : Int)

set_option maxRecDepth 100000 in
set_option maxHeartbeats 2000000 in
theorem counted_any (l : List Int) (hL : Labels l) (hl : l.length ≤ 4194304) (sv : Value) (w : World) (hA : Ints w.heap.size w sv l) :
    Calls Try.prog 44 #[sv] w fun r w' => ∃ g, r = .returned (.slice (some ⟨g, 0, none⟩) l.length l.length) ∧ Blk 3 w' g ((cntL l.length l l.length).map (Value.int .i64)) ∧ w.heap.size ≤ g ∧ Below w.heap.size w w' := by
  obtain ⟨p, c, rfl⟩ := hA.len
  obtain ⟨i0, hi, hz0, hz1, hz2⟩ := info_parts infoI
  go_enter Try.func44, Try.ntmps44
  go_wp2_with (at_make; refine wpList_make_full _ rfl _ _ 27 rfl w.heap.size 3 i0 (.int .i64 0) 1 Try.underlying27 hi hz0 hz1 .i64 .i64 _ _ l.length rfl rfl rfl rfl (by rw [hz2]; omega) (by unfold maxLen; omega) (Nat.le_refl _) ?_; intro w3 hown hgrow; have hb3 : Below w.heap.size w w3 := (Below.refl _ _).grown hgrow (Nat.le_refl _) (fun k e => by cases e))
  have hrow := Blk.made hown
  rw [ints_made, ← cntL_zero l.length l] at hrow
  clear hown hgrow hi hz0 hz1 hz2
  have hwg : w.heap.size ≤ w.heap.size := Nat.le_refl _
  obtain ⟨g, hg⟩ : ∃ g, g = w.heap.size := ⟨_, rfl⟩
  rw [← hg] at hrow ⊢
  go_loopw [11] (fun i wr => ∃ j : Nat, j ≤ l.length ∧ i = .int .i64 j ∧ Blk 3 wr g ((cntL l.length l j).map (Value.int .i64)) ∧ Below g w3 wr) (fun i _ => l.length - (intOf i).toNat)
  case atStart => exact ⟨0, Nat.zero_le _, rfl, hrow, Below.refl _ _⟩
  case round =>
    obtain ⟨j, hj, rfl, hB, hb⟩ := hrel
    have hbwr : Below w.heap.size w wr := hb3.trans (hb.mono (by omega))
    have hgl := hB.lt
    by_cases hlt : j < l.length
    · obtain ⟨b, off, rfl, hbb, hcap, hc⟩ := hA.open hlt
      have c0 := hc wr hbwr j hlt
      have hjl : (j : Int) < (l.length : Int) := by omega
      have hok := hL l[j] (List.getElem_mem hlt)
      obtain ⟨u, hu⟩ : ∃ u : Nat, l[j] = (u : Int) := ⟨l[j].toNat, by omega⟩
      have huN : u < l.length := by omega
      have HS : Hid _ := cntL_step (N := l.length) hlt hu huN
      rw [hu] at c0
      have hul : (l.take j).count (u : Int) ≤ l.length := Nat.le_trans List.count_le_length (by rw [List.length_take]; omega)
      have huN' : (u : Int) < (l.length : Int) := by omega
      have t0 : wr.cell? ⟨g, u, none⟩ = some (.int .i64 (((l.take j).count (u : Int) : Nat) : Int)) := hB.cell (by rw [List.getElem?_map, cntL_at huN]; rfl)
      have f0 := hB.frozen u
      have hBn := hB.set u (.int .i64 (((l.take j).count (u : Int) : Nat) + 1))
      rw [← List.map_set, HS.out] at hBn
      generalize (l.take j).count (u : Int) = du at *
      have hbg : b ≠ g := by omega
      clear hc hok hu hg
      go_wp2
      exact ⟨⟨j + 1, by omega, by go_num, hBn, hb.setCell (p := ⟨g, u, none⟩) (Nat.le_refl _) _⟩, by simp [intOf]; omega⟩
    · obtain rfl : j = l.length := by omega
      go_wp2
      go_ret
      exact ⟨g, rfl, hB, by omega, hbwr⟩
end Go.Proofs.Ytdgecflljgnobaa
