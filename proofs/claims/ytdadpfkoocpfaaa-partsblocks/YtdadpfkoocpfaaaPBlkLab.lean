/-
  The walk's model: the labels of blocks are places of edges. No program in this text.
-/
import Derived.Test.YtdadpfkoocpfaaaPParts
namespace Go.Proofs.Ytdadpfkoocpfaaa
open Go Go.Proofs

structure OkB (M : Nat) (s : WS) : Prop where
  bl : ∀ x ∈ s.block, 0 ≤ x ∧ x < (M : Int)
  by_ : ∀ x ∈ (s.path.map Stp.by_).tail, 0 ≤ x ∧ x < (M : Int)
theorem tail_left {a b : List Int} {x : Int} (h : x ∈ a.tail) : x ∈ (a ++ b).tail := by
  cases a with
  | nil => simp at h
  | cons y a => exact List.mem_append_left _ h
theorem tail_last {a : List Int} {y : Int} (h : a ≠ []) : y ∈ (a ++ [y]).tail := by
  cases a with
  | nil => exact absurd rfl h
  | cons z a => exact List.mem_append_right _ (List.mem_singleton_self _)
theorem fold_mem {y x : Int} : ∀ (ps : List Int) (b : List Int), x ∈ ps.foldl (fun b p => b.set p.toNat y) b → x ∈ b ∨ x = y
  | [], b, h => .inl h
  | p :: ps, b, h => by
    rw [List.foldl_cons] at h
    rcases fold_mem ps _ h with h1 | h1
    · rcases List.mem_or_eq_of_mem_set h1 with h2 | h2
      · exact .inl h2
      · exact .inr h2
    · exact .inr h1
theorem OkB.leave {M : Nat} {s : WS} {init : List Stp} {last : Stp} (h : OkB M s) (hp : s.path = init ++ [last]) : OkB M (leaveW s init last) := by
  have hb := h.by_
  rw [hp, List.map_append] at hb
  cases hi : init.getLast? with
  | none =>
    have e : leaveW s init last = { s with path := [] } := by unfold leaveW; rw [hi]
    rw [e]
    exact ⟨h.bl, fun x hx => by simp at hx⟩
  | some top =>
    obtain ⟨pre, hpre⟩ := List.getLast?_eq_some_iff.1 hi
    by_cases hlow : last.low < at_ s.depth top.v
    · have e : leaveW s init last = { s with path := init.dropLast ++ [{ top with low := min top.low last.low }] } := by unfold leaveW; rw [hi]; simp only [if_pos hlow]
      rw [e]
      have ev : (init.dropLast ++ [{ top with low := min top.low last.low }]).map Stp.by_ = init.map Stp.by_ := by rw [hpre]; simp
      refine ⟨h.bl, fun x hx => hb x (tail_left ?_)⟩
      have hx' : x ∈ ((init.dropLast ++ [{ top with low := min top.low last.low }]).map Stp.by_).tail := hx
      rw [ev] at hx'
      exact hx'
    · have e : leaveW s init last = { s with path := init, block := (s.opn.drop last.opn).foldl (fun b p => b.set p.toNat last.by_) s.block, opn := s.opn.take last.opn } := by unfold leaveW; rw [hi]; simp only [if_neg hlow]
      rw [e]
      refine ⟨fun x hx => ?_, fun x hx => hb x (tail_left hx)⟩
      rcases fold_mem _ _ hx with h1 | h1
      · exact h.bl x h1
      · rw [h1]
        refine hb last.by_ (tail_last ?_)
        rw [hpre]
        simp
theorem OkB.look {N M : Nat} {lk : List (List (Int × Int))} {s : WS} {init : List Stp} {top : Stp} {x : Int × Int} (h : OkB M s) (hK : LinksIn N M lk) (hp : s.path = init ++ [top]) (hx : (lk.getD top.v.toNat [])[top.next]? = some x) : OkB M (lookW s init { top with next := top.next + 1 } x) := by
  obtain ⟨_, k, ek, hk⟩ := hK _ x (List.mem_of_getElem? hx)
  have e1 : (init ++ [{ top with next := top.next + 1 }]).map Stp.by_ = s.path.map Stp.by_ := by rw [hp]; simp
  unfold lookW
  simp only
  split
  · refine ⟨h.bl, fun y hy => ?_⟩
    have hy' : y ∈ (((init ++ [{ top with next := top.next + 1 }]) ++ [(⟨x.1, x.2, 0, at_ s.depth top.v, s.opn.length⟩ : Stp)]).map Stp.by_).tail := hy
    rw [List.map_append, e1] at hy'
    have hne : s.path.map Stp.by_ ≠ [] := by rw [hp]; simp
    rw [List.tail_append_of_ne_nil hne] at hy'
    rcases List.mem_append.1 hy' with h1 | h1
    · exact h.by_ y h1
    · have : y = x.2 := by simpa using h1
      omega
  · split
    · have e3 : (init ++ [{ top with next := top.next + 1, low := min top.low (at_ s.depth x.1) }]).map Stp.by_ = s.path.map Stp.by_ := by rw [hp]; simp
      refine ⟨h.bl, fun y hy => h.by_ y ?_⟩
      have hy' : y ∈ ((init ++ [{ top with next := top.next + 1, low := min top.low (at_ s.depth x.1) }]).map Stp.by_).tail := hy
      rw [e3] at hy'
      exact hy'
    · refine ⟨h.bl, fun y hy => h.by_ y ?_⟩
      have hy' : y ∈ ((init ++ [{ top with next := top.next + 1 }]).map Stp.by_).tail := hy
      rw [e1] at hy'
      exact hy'
theorem OkB.step {N M C : Nat} {lk : List (List (Int × Int))} {s : WS} (h : OkB M s) (hO : OkW N M C lk s) (hK : LinksIn N M lk) (hne : s.path ≠ []) : OkB M (stepW lk s) := by
  unfold stepW
  cases hl : s.path.getLast? with
  | none => exact absurd (List.getLast?_eq_none_iff.1 hl) hne
  | some top =>
    have hp := path_last hl
    simp only
    split
    · exact h.leave hp
    · rename_i hn
      have hle := hO.nxt top (by rw [hp]; simp)
      have hlt : top.next < degW lk top.v := by unfold degW at hle ⊢; omega
      have hx := List.getElem?_eq_getElem (l := lk.getD top.v.toNat []) hlt
      have e : (lk.getD top.v.toNat []).getD top.next (0, 0) = (lk.getD top.v.toNat [])[top.next] := by rw [List.getD_eq_getElem?_getD, hx]; rfl
      rw [e]
      exact h.look hK hp hx
theorem OkB.run {N M C : Nat} {lk : List (List (Int × Int))} (hK : LinksIn N M lk) : ∀ (k : Nat) {s : WS}, OkB M s → OkW N M C lk s → pot lk N s ≤ k → OkB M (runW lk k s)
  | 0, _, h, _, _ => h
  | k + 1, s, h, hO, hk => by
    rw [runW]
    by_cases hp : s.path = []
    · rw [step_stay hp, run_stay hp]
      exact h
    · obtain ⟨h1, h2⟩ := hO.step hK hp
      exact OkB.run hK k (h.step hO hK hp) h1 (by omega)
theorem OkB.start {N M C : Nat} {lk : List (List (Int × Int))} (hK : LinksIn N M lk) {s : WS} {r : Nat} (h : OkB M s) (hO : OkW N M C lk s) (hp : s.path = []) (hr : r < N) : OkB M (startW lk C s r) := by
  unfold startW
  split
  · exact h
  · refine OkB.run hK C (C := C) ⟨h.bl, fun x hx => ?_⟩ (hO.root hp hr (by omega)) ?_
    · simp only [hp] at hx
      simp at hx
    · have := pot_root hO hp hr (by omega)
      have := hO.bo
      omega
theorem walk_blk {N : Nat} {l : List Ed} (hR : RightG (N : Int) l) : ∀ k, k ≤ N → OkB l.length ((List.range k).foldl (startW (linksL N l) (4 * (N + l.length) + 4)) (freshW N l.length))
  | 0, _ => ⟨fun x hx => by
      have hx' : x ∈ List.replicate l.length (0 : Int) := hx
      obtain ⟨h1, h2⟩ := List.mem_replicate.1 hx'
      omega, fun x hx => by simp [freshW] at hx⟩
  | k + 1, hk => by
    obtain ⟨h1, h2⟩ := walk_ok hR k (by omega)
    rw [List.range_succ, List.foldl_append]
    exact (walk_blk hR k (by omega)).start (links_in hR) h1 h2 (by omega)
theorem block_labels {N : Nat} {l : List Ed} (hR : RightG (N : Int) l) : Labels (walkW N l).block := by
  intro x hx
  have := (walk_blk hR N (Nat.le_refl _)).bl x hx
  have hl : (walkW N l).block.length = l.length := (walkW_ok hR).lenK
  rw [hl]
  exact this
end Go.Proofs.Ytdadpfkoocpfaaa
