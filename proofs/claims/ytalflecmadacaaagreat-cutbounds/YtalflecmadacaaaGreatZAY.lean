import Derived.Test.YtalflecmadacaaaGreatZAX
import Derived.Test.YtalflecmadacaaaGreatZAC
import Derived.Test.YtalflecmadacaaaGreatZAU
import Derived.BigQuiet
import Derived.Test.YtalflecmadacaaaGreatZAA
import Derived.Test.YtalflecmadacaaaGreatZAK
import Derived.Deep.LoopGhost
import Derived.Test.YtalflecmadacaaaGreatZAL
set_option maxRecDepth 100000
set_option maxHeartbeats 8000000
namespace Go.Proofs.YtalflecmadacaaaGreat
open Go Go.Proofs
section
variable {N:Nat} {l1 l2:List Ed} {e:Ed} {r:List (List Int)}
variable {a b:Nat}
end
section
variable {N:Nat} {l1 l2:List Ed} {e:Ed} {a b:Nat}
end
open Go Go.Proofs Go.RowKit
def nm (R : Nat → Nat) (r v : Nat) : Nat := ((List.range v).filter fun w => R w == r).length
theorem Qey (R : Nat → Nat) (r v : Nat) : nm R r (v + 1) = nm R r v + if R v = r then 1 else 0 := by
  unfold nm
  rw [List.range_succ, List.filter_append, YI]
  by_cases h : R v = r
  · simp [h]
  · simp [h]
theorem QlN (R : Nat → Nat) (r : Nat) {u : Nat} : ∀ {v : Nat}, u ≤ v → nm R r u ≤ nm R r v
  | 0, h => by obtain rfl : u = 0 := by omega
               exact YA
  | v + 1, h => by
    by_cases e : u = v + 1
    · subst e; exact YA
    · have := QlN R r (u := u) (v := v) (by omega)
      rw [Qey]; omega
theorem Qez {R : Nat → Nat} {r u v : Nat} (hu : R u = r) (h : u < v) : nm R r u < nm R r v := by
  have := QlN R r (u := u + 1) (v := v) (by omega)
  rw [Qey, if_pos hu] at this
  omega
theorem QeA {R : Nat → Nat} {r u v : Nat} (hu : R u = r) (hv : R v = r) (h : nm R r u = nm R r v) : u = v := by
  rcases Nat.lt_trichotomy u v with k | k | k
  · have := Qez hu k; omega
  · exact k
  · have := Qez hv k; omega
theorem QlO (R : Nat → Nat) (r : Nat) : ∀ v : Nat, nm R r v ≤ v
  | 0 => YA
  | v + 1 => by have := QlO R r v; rw [Qey]; split <;> omega
def ren (R : Nat → Nat) (r : Nat) (e : Eg) : Eg := (nm R r e.1, nm R r e.2.1, e.2.2)
def subZ (R : Nat → Nat) (r : Nat) (l : List Eg) : List (Nat × Eg) := (l.zipIdx.filter fun x => R x.1.1 == r).map fun x => (x.2, ren R r x.1)
def subE (R : Nat → Nat) (r : Nat) (l : List Eg) : List Eg := (subZ R r l).map (·.2)
def subP (R : Nat → Nat) (r : Nat) (l : List Eg) : List Nat := (subZ R r l).map (·.1)
theorem subZ_mem {R : Nat → Nat} {r : Nat} {l : List Eg} {i : Nat} {e' : Eg} : (i, e') ∈ subZ R r l ↔ ∃ e, l[i]? = some e ∧ R e.1 = r ∧ e' = ren R r e := by
  unfold subZ
  rw [List.mem_map]
  constructor
  · rintro ⟨⟨e, j⟩, h, he⟩
    rw [List.mem_filter, List.mem_zipIdx_iff_getElem?] at h
    simp only [Prod.mk.injEq] at he
    obtain ⟨rfl, rfl⟩ := he
    exact ⟨e, h.1, by simpa using h.2, rfl⟩
  · rintro ⟨e, h, hr, rfl⟩
    exact ⟨(e, i), by rw [List.mem_filter, List.mem_zipIdx_iff_getElem?]; exact ⟨h, by simpa using hr⟩, rfl⟩
theorem QgD {R : Nat → Nat} {r : Nat} {l : List Eg} {k : Nat} (h : k < l.length) : subZ R r (l.take (k + 1)) = subZ R r (l.take k) ++ if R l[k].1 = r then [(k, ren R r l[k])] else [] := by
  unfold subZ
  rw [List.take_succ_eq_append_getElem h, List.zipIdx_append, List.filter_append, List.map_append]
  congr 1
  rw [List.length_take, Nat.min_eq_left (by omega), Nat.zero_add]
  by_cases e : R l[k].1 = r
  · simp [e]
  · simp [e]
theorem Qk0 {R : Nat → Nat} {r : Nat} {l : List Eg} {k : Nat} (h : k < l.length) : subE R r (l.take (k + 1)) = subE R r (l.take k) ++ if R l[k].1 = r then [ren R r l[k]] else [] := by
  unfold subE
  rw [QgD h, List.map_append]
  split <;> simp
theorem QkZ {R : Nat → Nat} {r : Nat} {l : List Eg} {k : Nat} (h : k < l.length) : subP R r (l.take (k + 1)) = subP R r (l.take k) ++ if R l[k].1 = r then [k] else [] := by
  unfold subP
  rw [QgD h, List.map_append]
  split <;> simp
theorem Qeh (R : Nat → Nat) (r : Nat) (l : List Eg) : (subE R r l).length = (subP R r l).length ∧ (subE R r l).length ≤ l.length := by
  unfold subE subP subZ
  refine ⟨by simp, ?_⟩
  rw [List.length_map, List.length_map]
  have := List.length_filter_le (fun x : Eg × Nat => R x.1.1 == r) l.zipIdx
  simpa using this
theorem QoD {R : Nat → Nat} {r : Nat} {l : List Eg} {j i : Nat} (h : (subP R r l)[j]? = some i) : ∃ e, l[i]? = some e ∧ R e.1 = r ∧ (subE R r l)[j]? = some (ren R r e) := by
  unfold subP at h
  rw [YH, Option.map_eq_some_iff] at h
  obtain ⟨⟨i', e'⟩, h1, rfl⟩ := h
  obtain ⟨e, h2, h3, rfl⟩ := subZ_mem.1 (YK h1)
  exact ⟨e, h2, h3, by unfold subE; rw [YH, h1]; rfl⟩
theorem subE_mem {R : Nat → Nat} {r : Nat} {l : List Eg} {e' : Eg} : e' ∈ subE R r l ↔ ∃ e ∈ l, R e.1 = r ∧ e' = ren R r e := by
  unfold subE
  rw [List.mem_map]
  constructor
  · rintro ⟨⟨i, e''⟩, h, rfl⟩
    obtain ⟨e, h1, h2, h3⟩ := subZ_mem.1 h
    exact ⟨e, YK h1, h2, h3⟩
  · rintro ⟨e, h1, h2, rfl⟩
    obtain ⟨i, hi, rfl⟩ := List.getElem_of_mem h1
    exact ⟨(i, ren R r l[i]), subZ_mem.2 ⟨_, YB hi, h2, rfl⟩, rfl⟩
theorem Qgn {α : Type} : ∀ (l : List α) (n : Nat), ((l.zipIdx n).map (·.2)).Pairwise (· < ·)
  | [], n => by simp
  | x :: l, n => by
    rw [List.zipIdx_cons, List.map_cons, List.pairwise_cons]
    refine ⟨fun y hy => ?_, Qgn l (n + 1)⟩
    rw [List.mem_map] at hy
    obtain ⟨⟨a, j⟩, h, rfl⟩ := hy
    have := List.le_snd_of_mem_zipIdx h
    show n < j
    simp only at this
    omega
theorem QgE (R : Nat → Nat) (r : Nat) (l : List Eg) : (subP R r l).Pairwise (· < ·) := by
  unfold subP subZ
  rw [List.map_map]
  have h := Qgn l 0
  have h2 : ((l.zipIdx.filter fun x => R x.1.1 == r).map (·.2)).Sublist (l.zipIdx.map (·.2)) := List.Sublist.map _ (List.filter_sublist)
  exact h.sublist h2
theorem Qo2 {R : Nat → Nat} {r : Nat} {l : List Eg} {i : Nat} (h : i ∈ subP R r l) : i < l.length := by
  obtain ⟨j, hj, rfl⟩ := List.getElem_of_mem h
  obtain ⟨e, h1, _⟩ := QoD (YB hj)
  exact (YE h1).1
theorem QdT {R : Nat → Nat} {r N : Nat} {l : List Eg} (hl : ∀ e ∈ l, e.1 < N ∧ e.2.1 < N) (hR : ∀ e ∈ l, R e.1 = R e.2.1) : ∀ e ∈ subE R r l, e.1 < nm R r N ∧ e.2.1 < nm R r N := fun e' he' => by
  obtain ⟨e, h1, h2, rfl⟩ := subE_mem.1 he'
  exact ⟨Qez h2 (hl e h1).1, Qez ((hR e h1).symm.trans h2) (hl e h1).2⟩
theorem QfJ {R : Nat → Nat} {r : Nat} {l : List Eg} (hR : ∀ e ∈ l, R e.1 = R e.2.1) {s : Nat} (hs : R s = r) : ∀ {L : List Nat} {v c : Nat}, SW l s (v :: L) c → R v = r ∧ SW (subE R r l) (nm R r s) ((v :: L).map (nm R r)) c
  | [], v, c, h => by
    obtain ⟨rfl, rfl⟩ := h
    exact ⟨hs, rfl, rfl⟩
  | x :: t, v, c, h => by
    obtain ⟨e, he, hj, c1, rfl, h1⟩ := h
    obtain ⟨hx, h2⟩ := QfJ hR hs h1
    have he12 := hR e he
    have hv : R v = r := by
      rcases hj with ⟨a, b⟩ | ⟨a, b⟩
      · rw [← b, ← he12, a]; exact hx
      · rw [← a, he12, b]; exact hx
    have he1 : R e.1 = r := by rcases hj with ⟨a, _⟩ | ⟨a, _⟩ <;> rw [a] <;> assumption
    refine ⟨hv, ren R r e, subE_mem.2 ⟨e, he, he1, rfl⟩, ?_, c1, rfl, h2⟩
    rcases hj with ⟨a, b⟩ | ⟨a, b⟩
    · exact .inl ⟨by show nm R r e.1 = _; rw [a], by show nm R r e.2.1 = _; rw [b]⟩
    · exact .inr ⟨by show nm R r e.1 = _; rw [a], by show nm R r e.2.1 = _; rw [b]⟩
theorem QhH {R : Nat → Nat} {r : Nat} {l : List Eg} (hR : ∀ e ∈ l, R e.1 = R e.2.1) {s : Nat} (hs : R s = r) : ∀ {L' : List Nat} {v' c : Nat}, SW (subE R r l) (nm R r s) (v' :: L') c → ∃ v L, v' = nm R r v ∧ R v = r ∧ L' = L.map (nm R r) ∧ SW l s (v :: L) c
  | [], v', c, h => by
    obtain ⟨rfl, rfl⟩ := h
    exact ⟨s, [], rfl, hs, rfl, rfl, rfl⟩
  | x' :: t', v', c, h => by
    obtain ⟨e', he', hj, c1, rfl, h1⟩ := h
    obtain ⟨x, t, rfl, hx, rfl, h2⟩ := QhH hR hs h1
    obtain ⟨e, he, he1, rfl⟩ := subE_mem.1 he'
    have he2 : R e.2.1 = r := (hR e he).symm.trans he1
    rcases hj with ⟨a, b⟩ | ⟨a, b⟩
    · exact ⟨e.2.1, x :: t, b.symm, he2, rfl, e, he, .inl ⟨QeA he1 hx a, rfl⟩, c1, rfl, h2⟩
    · exact ⟨e.1, x :: t, a.symm, he1, rfl, e, he, .inr ⟨rfl, QeA he2 hx b⟩, c1, rfl, h2⟩
theorem Qnq {R : Nat → Nat} {r N : Nat} {l : List Eg} (hR : ∀ e ∈ l, R e.1 = R e.2.1) {s v : Nat} (hs : R s = r) (hv : R v = r) (hvN : v < N) {D D' : List Int} (hD : IsD l s N D) (hD' : IsD (subE R r l) (nm R r s) (nm R r N) D') : at' D' (nm R r v) = at' D v := by
  have hlt := Qez hv hvN
  rcases hD.2 v hvN with ⟨a, b⟩ | ⟨c, a, ⟨L, b⟩, k⟩ <;> rcases hD'.2 _ hlt with ⟨a', b'⟩ | ⟨c', a', ⟨L', b'⟩, k'⟩
  · omega
  · obtain ⟨v1, L1, e1, h1, rfl, h2⟩ := QhH hR hs b'
    have := QeA hv h1 e1
    subst this
    exact absurd h2 (b _ _)
  · exact absurd (QfJ hR hs b).2 (b' _ _)
  · obtain ⟨v1, L1, e1, h1, rfl, h2⟩ := QhH hR hs b'
    have := QeA hv h1 e1
    subst this
    have := k _ _ h2
    have := k' _ _ (QfJ hR hs b).2
    omega
def Qe3 (L:List Eg)(N:Nat)(V:List Int):Prop:=∀ v,v<N→at' V v = -1∨∃ (i:Nat) (e:Eg),at' V v=i∧L[i]? = some e∧(e.1=v∨e.2.1=v)
theorem QiX {L:List Eg}{V:List Int}{v i:Nat}{e:Eg}(h:at' V v=i)(he:L[i]? = some e):par L V v=oth e v:=by
 unfold par
 rw [if_neg (by omega),h,YM]
 have:L.getD i (0,0,0)=e:=by simp [List.getD,he]
 rw [this]
theorem QfR {L:List Eg}{N:Nat}{V:List Int}(hE:∀ e∈L,e.1<N∧e.2.1<N)(hV:Qe3 L N V){v:Nat}(hv:v<N):par L V v<N:=by
 rcases hV v hv with h | ⟨i,e,h1,h2,h3⟩
 ·rw [QcS h];exact hv
 ·rw [QiX h1 h2]
  have:=hE e (YK h2)
  rcases Qfh h3 with ⟨a,b⟩ | ⟨a,b⟩ <;> omega
end Go.Proofs.YtalflecmadacaaaGreat
