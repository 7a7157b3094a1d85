/-
  The contracts of fault.Place.
-/
import Derived.Deep.QuietTactic
import Derived.BigQuiet
import Derived.Test.YteleldeeakklpaaDoorFTrail
namespace Go.Proofs.YteleldeeakklpaaDoor
open Go Go.Proofs Go.RowKit

theorem enters41 (args : Array Value) (W : World) : (callFunc 41 args).run Tryd.prog W = .ok (.enter 41 args) W := by kernel_rfl

/-- Is there a place of that name, and the first one's number. -/
def plF (q : ByteArray) : List (ByteArray × Int) → Bool
  | [] => false
  | x :: L => x.1.toList == q.toList || plF q L
def plN (q : ByteArray) : List (ByteArray × Int) → Int
  | [] => -1
  | x :: L => if x.1.toList == q.toList then x.2 else plN q L
theorem plF_app (q : ByteArray) (x : ByteArray × Int) : ∀ A, plF q (A ++ [x]) = (plF q A || x.1.toList == q.toList)
  | [] => by simp [plF]
  | y :: A => by simp [plF, plF_app q x A, Bool.or_assoc]
theorem plN_app (q : ByteArray) (x : ByteArray × Int) : ∀ A, plN q (A ++ [x]) = if plF q A then plN q A else if x.1.toList == q.toList then x.2 else -1
  | [] => by simp [plN, plF]
  | y :: A => by
    simp only [List.cons_append, plN, plF, plN_app q x A]
    by_cases h : y.1.toList == q.toList <;> simp [h]

theorem plN_no {q : ByteArray} : ∀ {A : List (ByteArray × Int)}, plF q A = false → plN q A = -1
  | [], _ => rfl
  | y :: A, h => by
    simp only [plF, Bool.or_eq_false_iff] at h
    simp only [plN, h.1]
    exact plN_no h.2

theorem plN_hit {q : ByteArray} {x : ByteArray × Int} {B : List (ByteArray × Int)} (hx : (x.1.toList == q.toList) = true) : ∀ {A : List (ByteArray × Int)}, plF q A = false → plN q (A ++ ([x] ++ B)) = x.2
  | [], _ => by simp only [List.nil_append, List.singleton_append, plN, hx, if_true]
  | y :: A, h => by
    simp only [plF, Bool.or_eq_false_iff] at h
    simp only [List.cons_append, plN, h.1, Bool.false_eq_true, if_false]
    exact plN_hit hx h.2

/-- What Place's variables hold behind j links. -/
def PlI (cf cq cp : Nat) (q : ByteArray) (L : List (ByteArray × Int)) (j : Nat) (W : World) : Prop :=
  W.heap[cf]? = some (.cells #[.bool (plF q (L.take j))] 4 (0, 0)) ∧ W.heap[cq]? = some (.cells #[.string q] 9 (0, 0)) ∧ W.heap[cp]? = some (.cells #[.int .i64 (plN q (L.take j))] 3 (0, 0))
theorem cell0 {W : World} {b : Nat} {v : Value} {t : TypeId} (h : W.heap[b]? = some (.cells #[v] t (0, 0))) : W.cell? ⟨b, 0, none⟩ = some v := by simp [World.cell?, h]
theorem froz0 {W : World} {b : Nat} {v : Value} {t : TypeId} (h : W.heap[b]? = some (.cells #[v] t (0, 0))) : W.frozen? ⟨b, 0, none⟩ = false := by simp [World.frozen?, h]

set_option maxRecDepth 100000 in
set_option maxHeartbeats 2000000 in
theorem place1_visits {L : List (ByteArray × Int)} {q : ByteArray} {N cf cq cp M : Nat} (hNf : N ≤ cf) (hNp : N ≤ cp) (h1 : cf ≠ cq) (h2 : cf ≠ cp) (h3 : cq ≠ cp) : Visits 41 #[.pointer (some ⟨cf, 0, none⟩), .pointer (some ⟨cq, 0, none⟩), .pointer (some ⟨cp, 0, none⟩)] N M L (PlI cf cq cp q L) := by
  intro j b x v' W hx hb hF hM ⟨hf, hq, hp⟩
  have c0 := hF.c0
  have c1 := hF.c1
  have f0 := cell0 hf
  have q0 := cell0 hq
  have p0 := cell0 hp
  have ff := froz0 hf
  have fp := froz0 hp
  have ef : plF q (L.take (j + 1)) = (plF q (L.take j) || x.1.toList == q.toList) := by rw [List.take_add_one, hx]; exact plF_app q x _
  have en : plN q (L.take (j + 1)) = if plF q (L.take j) then plN q (L.take j) else if x.1.toList == q.toList then x.2 else -1 := by rw [List.take_add_one, hx]; exact plN_app q x _
  have Ef : Hid _ := ef
  have En : Hid _ := en
  clear ef en
  cases hfound : plF q (L.take j) with
  | true =>
    rw [hfound] at f0
    go_enter Tryd.func41, Tryd.ntmps41
    go_wp2
    go_quiet (fail)
    go_wp2
    go_end0
    refine ⟨rfl, ⟨?_, hq, ?_⟩, below_drewN (Below.refl _ _) _, rfl⟩
    · rw [Ef.out, hfound]; rw [hfound] at hf; exact hf
    · rw [En.out, hfound]; exact hp
  | false =>
    rw [hfound] at f0
    cases he : (x.1.toList == q.toList) with
    | true =>
      have hcM : M ≠ cf ∧ M ≠ cp := by
        obtain ⟨es, ck, hm⟩ := hM
        exact ⟨(by intro e; rw [← e, hm] at hf; cases hf), (by intro e; rw [← e, hm] at hp; cases hp)⟩
      go_enter Tryd.func41, Tryd.ntmps41
      go_wp2
      go_quiet (fail)
      go_wp2
      go_end0
      have hp' : (W.drewN nq).heap[cp]? = some (.cells #[.int .i64 (plN q (L.take j))] 3 (0, 0)) := hp
      have hf' : (W.drewN nq).heap[cf]? = some (.cells #[.bool (plF q (L.take j))] 4 (0, 0)) := hf
      have hq' : (W.drewN nq).heap[cq]? = some (.cells #[.string q] 9 (0, 0)) := hq
      refine ⟨rfl, ⟨?_, ?_, ?_⟩, ?_, ?_⟩
      · rw [Ef.out, hfound, heap_setCell_same (cs := #[.bool (plF q (L.take j))]) (t := 4) (fr := (0, 0)) (by rw [Below.heap_setCell _ _ _ _ h2]; exact hf'), he]
        rfl
      · rw [Below.heap_setCell _ _ _ _ h1.symm, Below.heap_setCell _ _ _ _ h3]; exact hq'
      · rw [Below.heap_setCell _ _ _ _ h2.symm, heap_setCell_same hp', En.out, hfound]
        simp [he]
      · exact ((below_drewN (Below.refl N W) nq).setCell (p := ⟨cp, 0, none⟩) hNp _).setCell (p := ⟨cf, 0, none⟩) hNf _
      · rw [Below.heap_setCell _ _ _ _ hcM.1, Below.heap_setCell _ _ _ _ hcM.2]; rfl
    | false =>
      go_enter Tryd.func41, Tryd.ntmps41
      go_wp2
      go_quiet (fail)
      go_wp2
      go_end0
      refine ⟨rfl, ⟨?_, hq, ?_⟩, below_drewN (Below.refl _ _) _, rfl⟩
      · rw [Ef.out, hfound, he]; rw [hfound] at hf; exact hf
      · rw [En.out, hfound, he]
        have : plN q (L.take j) = -1 := plN_no hfound
        rw [this] at hp
        exact hp

set_option maxRecDepth 100000 in
set_option maxHeartbeats 1000000 in
theorem place_any {L : List (ByteArray × Int)} {q : ByteArray} {ev v : Value} (hev : EndV ev) (w : World) (hC : Chain w ev w.heap.size L v) :
    Calls Tryd.prog 21 #[v, .string q] w fun e w' => e = .returned (.int .i64 (plN q L)) ∧ Below w.heap.size w w' := by
  have hm := hmf
  have hb1 : Below w.heap.size w (((w.alloc (.cells #[.string q] 9)).alloc (.cells #[.int .i64 (-1)] 3)).alloc (.cells #[.bool false] 4)) := (((Below.refl _ _).alloc (Nat.le_refl _) _).alloc (by simp) _).alloc (by simp; omega) _
  have hC1 := hC.below hb1
  have hz : (((w.alloc (.cells #[.string q] 9)).alloc (.cells #[.int .i64 (-1)] 3)).alloc (.cells #[.bool false] 4)).heap.size = w.heap.size + 1 + 1 + 1 := by simp
  have h0 : PlI (w.heap.size + 1 + 1) w.heap.size (w.heap.size + 1) q L 0 ((((w.alloc (.cells #[.string q] 9)).alloc (.cells #[.int .i64 (-1)] 3)).alloc (.cells #[.bool false] 4)).alloc (.map #[] 0)) := by
    refine ⟨?_, ?_, ?_⟩
    · rw [Below.heap_alloc _ _ _ (by simp)]
      have := (MapKept.heap_alloc ((w.alloc (.cells #[.string q] 9)).alloc (.cells #[.int .i64 (-1)] 3)) (.cells #[.bool false] 4)).1
      simpa [plF] using this
    · rw [Below.heap_alloc _ _ _ (by simp; omega), Below.heap_alloc _ _ _ (by simp; omega), Below.heap_alloc _ _ _ (by simp)]
      exact (MapKept.heap_alloc w (.cells #[.string q] 9)).1
    · rw [Below.heap_alloc _ _ _ (by simp), Below.heap_alloc _ _ _ (by simp)]
      have := (MapKept.heap_alloc (w.alloc (.cells #[.string q] 9)) (.cells #[.int .i64 (-1)] 3)).1
      simpa [plN] using this
  have hB : Bears (((w.alloc (.cells #[.string q] 9)).alloc (.cells #[.int .i64 (-1)] 3)).alloc (.cells #[.bool false] 4)).heap.size (PlI (w.heap.size + 1 + 1) w.heap.size (w.heap.size + 1) q L) :=
    fun j W W' hM hI hg => ⟨kept_map hM hg _ _ _ hI.1, kept_map hM hg _ _ _ hI.2.1, kept_map hM hg _ _ _ hI.2.2⟩
  have hW := walk_any 41 #[.pointer (some ⟨w.heap.size + 1 + 1, 0, none⟩), .pointer (some ⟨w.heap.size, 0, none⟩), .pointer (some ⟨w.heap.size + 1, 0, none⟩)] L (PlI (w.heap.size + 1 + 1) w.heap.size (w.heap.size + 1) q L) w.heap.size ev _ hev _ (by simp; omega) hC1 enters41
    (place1_visits (by omega) (by omega) (by omega) (by omega) (by omega)) hB h0
  go_enter Tryd.func21, Tryd.ntmps21
  go_wp2_with fail
  refine hW.mono ?_
  clear hW h0 hB
  rintro e w2 ⟨rfl, ⟨_, _, hp⟩, hb2⟩
  rw [List.take_length] at hp
  have cs := cell0 hp
  go_wp2
  go_ret
  exact ⟨rfl, hb1.trans hb2⟩

end Go.Proofs.YteleldeeakklpaaDoor
