/-
  Ways in memory: a list more behind the others, what a walk leaves of them, slices.Clone at numbers.
-/
import Derived.Test.YtgjaikekpgdehaaXKWalk
namespace Go.Proofs.Ytgjaikekpgdehaa
open Go Go.Proofs Go.RowKit

theorem owns_slK {W : World} {base : Nat} {e : TypeId} {size : Nat} {v : Value} {n : Nat} {xs : List Value} (h : W.ownsRow base e size v n xs) : ∃ a m c, v = .slice a m c := by
  obtain ⟨p, c, rfl⟩ := owns_form h
  exact ⟨_, _, _, rfl⟩
theorem owns_sameK {A B : World} {base : Nat} {e : TypeId} {size : Nat} {v : Value} {n : Nat} {xs : List Value} (h : A.ownsRow base e size v n xs) (hs : ∀ q, v.ownBlock = some q → B.heap[q]? = A.heap[q]?) : B.ownsRow base e size v n xs := by
  obtain ⟨h1, h2⟩ := h
  refine ⟨h1, ?_⟩
  rcases h2 with h2 | ⟨g, cap, cur, hv, hb, hg, r⟩
  · exact .inl h2
  · exact .inr ⟨g, cap, cur, hv, hb, (hs g (by rw [hv]; rfl)).trans hg, r⟩
theorem owns_downK {A : World} {base base' : Nat} {e : TypeId} {size : Nat} {v : Value} {n : Nat} {xs : List Value} (h : A.ownsRow base e size v n xs) (hs : base' ≤ base) : A.ownsRow base' e size v n xs := by
  obtain ⟨h1, h2⟩ := h
  refine ⟨h1, ?_⟩
  rcases h2 with h2 | ⟨g, cap, cur, hv, hb, r⟩
  · exact .inl h2
  · exact .inr ⟨g, cap, cur, hv, by omega, r⟩
theorem Grp.lts {h0 : Nat} {lv : Value} {svs : List Value} {pre : List (List Int)} {W : World} (h : Grp h0 lv svs pre W) {sv : Value} (hs : sv ∈ svs) {q : Nat} (hq : sv.ownBlock = some q) : h0 ≤ q ∧ q < W.heap.size := by
  obtain ⟨k, hk⟩ := List.getElem?_of_mem hs
  have hl := (List.getElem?_eq_some_iff.1 hk).1
  exact (h.inn k sv _ hk (List.getElem?_eq_getElem (by rw [← h.len]; exact hl))).lt q hq
/-- The row r is none of the lists' own. -/
def Off (r : Option Nat) (lv : Value) (svs : List Value) : Prop := ∀ q, r = some q → lv.ownBlock ≠ some q ∧ ∀ sv ∈ svs, sv.ownBlock ≠ some q
theorem Grp.kp {h0 bw : Nat} {r : Option Nat} {lv : Value} {svs : List Value} {pre : List (List Int)} {A B : World} (h : Grp h0 lv svs pre A) (hk : Kp bw r A B) (hbw : bw < h0) (ho : Off r lv svs) : Grp h0 lv svs pre B := by
  have key : ∀ q, h0 ≤ q → q < A.heap.size → (∀ p, r = some p → p ≠ q) → B.heap[q]? = A.heap[q]? := fun q h1 h2 h3 => hk.block q h2 (by omega) (fun e => h3 q e.symm rfl)
  refine ⟨h.len, owns_sameK h.own fun q hq => ?_, fun k sv xs h1 h2 => owns_sameK (h.inn k sv xs h1 h2) fun q hq => ?_, h.apart, h.outer⟩
  · obtain ⟨h1, h2⟩ := h.own.lt q hq
    exact key q h1 h2 fun p hp e => (ho p hp).1 (by rw [e]; exact hq)
  · obtain ⟨h3, h4⟩ := h.lts (List.mem_of_getElem? h1) hq
    exact key q h3 h4 fun p hp e => (ho p hp).2 sv (List.mem_of_getElem? h1) (by rw [e]; exact hq)
/-- A list more behind the others. -/
theorem Grp.snoc {h0 : Nat} {lv lv' sv : Value} {svs : List Value} {pre : List (List Int)} {W A B : World} {o : Obj} {ys : List Int} (h : Grp h0 lv svs pre W) (hA : W.grownBy A none) (hs : A.ownsRow h0 3 1 sv ys.length (ys.map (Value.int .i64))) (hsb : ∀ q, sv.ownBlock = some q → W.heap.size ≤ q)
    (hB : B.ownsRow h0 25 1 lv' (svs.length + 1) (svs ++ [sv])) (hg : (A.alloc o).grownBy B lv.ownBlock) (hat : lv'.ownBlock = lv.ownBlock ∨ lv'.ownBlock = some (A.alloc o).heap.size) : Grp h0 lv' (svs ++ [sv]) (pre ++ [ys]) B := by
  have hkA : ∀ {e : TypeId} {size : Nat} {v : Value} {n : Nat} {xs : List Value}, W.ownsRow h0 e size v n xs → (A.alloc o).ownsRow h0 e size v n xs := fun {e size v n xs} ho => by
    refine World.ownsRow.alloc (owns_keep ho hA ?_) o
    cases v.ownBlock with
    | none => exact .inl rfl
    | some k => exact .inr (by simp)
  have hne : sv.ownBlock = none ∨ sv.ownBlock ≠ lv.ownBlock := by
    cases hq : sv.ownBlock with
    | none => exact .inl rfl
    | some q =>
      refine .inr fun e => ?_
      have h1 := hsb q hq
      have h2 := (h.own.lt q e.symm).2
      omega
  have hsA := (World.ownsRow.alloc hs o)
  have hlen := h.len
  have split : ∀ {k : Nat} {x : Value}, (svs ++ [sv])[k]? = some x → (k < svs.length ∧ svs[k]? = some x) ∨ (k = svs.length ∧ x = sv) := fun {k x} hx => by
    rw [List.getElem?_append] at hx
    by_cases hk : k < svs.length
    · rw [if_pos hk] at hx
      exact .inl ⟨hk, hx⟩
    · rw [if_neg hk] at hx
      have h1 := (List.getElem?_eq_some_iff.1 hx).1
      simp at h1
      have h2 : k = svs.length := by omega
      subst h2
      simp at hx
      exact .inr ⟨rfl, hx.symm⟩
  have far : ∀ {k : Nat} {x : Value}, svs[k]? = some x → x.ownBlock = none ∨ ∀ m, W.heap.size ≤ m → x.ownBlock ≠ some m := fun {k x} hx => by
    have hk := (List.getElem?_eq_some_iff.1 hx).1
    obtain ⟨xs, hxs⟩ : ∃ xs, pre[k]? = some xs := ⟨_, List.getElem?_eq_getElem (by omega)⟩
    cases hv : x.ownBlock with
    | none => exact .inl rfl
    | some b =>
      refine .inr fun m hm e => ?_
      have := ((h.inn k x xs hx hxs).lt b hv).2
      simp only [Option.some.injEq] at e
      omega
  refine ⟨by simp [hlen], by rw [List.length_append]; exact hB, ?_, ?_, ?_⟩
  · intro k x xs hx hp
    rcases split hx with ⟨hk, hx⟩ | ⟨rfl, rfl⟩
    · rw [List.getElem?_append_left (by omega)] at hp
      exact owns_keep (hkA (h.inn k x xs hx hp)) hg (h.outer k x hx)
    · rw [hlen, List.getElem?_append_right (Nat.le_refl _), Nat.sub_self] at hp
      simp at hp
      subst hp
      exact owns_keep hsA hg hne
  · intro k j x x' hx hx' hkj
    rcases split hx with ⟨hk, hy⟩ | ⟨rfl, rfl⟩
    · rcases split hx' with ⟨hj, hy'⟩ | ⟨rfl, rfl⟩
      · exact h.apart k j x x' hy hy' hkj
      · rcases far hy with h1 | h1
        · exact .inl h1
        · cases hq : x'.ownBlock with
          | none =>
            cases hq2 : x.ownBlock with
            | none => exact .inl rfl
            | some q2 => exact .inr (by simp)
          | some q => exact .inr (h1 _ (hsb q hq))
    · rcases split hx' with ⟨hj, hy'⟩ | ⟨rfl, rfl⟩
      · cases hq : x.ownBlock with
        | none => exact .inl rfl
        | some q =>
          refine .inr fun e => ?_
          rcases far hy' with h1 | h1
          · rw [h1] at e; cases e
          · exact h1 _ (hsb q hq) e.symm
      · exact absurd rfl hkj
  · intro k x hx
    rcases split hx with ⟨hk, hx⟩ | ⟨rfl, rfl⟩
    · rcases hat with e | e
      · rw [e]; exact h.outer k x hx
      · rw [e]
        rcases far hx with h1 | h1
        · exact .inl h1
        · exact .inr (h1 _ (by have := hA.size; simp; omega))
    · rcases hat with e | e
      · rw [e]; exact hne
      · rw [e]
        cases hq : x.ownBlock with
        | none => exact .inl rfl
        | some q =>
          refine .inr fun e2 => ?_
          have := (hs.lt q hq).2
          simp at e2
          omega
theorem wpList_append_src {P : Program} (w : World) {ops : Array Oper} {rest : List Oper} {o : Oper} {a : Act} {Q : Exit → Act → World → Prop} (hgd : o.guard = none) (s x : Operand) (t : TypeId)
    (ho : o.op = .call { callee := .builtin .append, args := #[s, x], argTypes := #[t, t] })
    (base : Nat) (e : TypeId) (i : TypeInfo) (z : Value) (size bytes : Nat) (ht : P.underlying t = some (.slice e)) (hi : P.info? e = some i) (hz : i.zero = some z)
    (hsize : i.size = size) (hby : i.bytes = bytes) (hzs : z.cells.size = size) (hsz : 0 < size)
    (v : Value) (n : Nat) (xs : List Value) (hs : a.eval s = v) (hown : w.ownsRow base e size v n xs)
    (xv : Value) (m : Nat) (news : List Value) (hx : a.eval x = xv) (hsrc : Src w xv m size news)
    (h63 : n + m ≤ maxLen) (hbytes : (n + m) * bytes ≤ 140737488355328) (hbase : base ≤ w.heap.size)
    (h : ∀ v' w', w'.ownsRow base e size v' (n + m) (xs ++ news) → w.grownBy w' v.ownBlock → wpList P ops Q rest (a.put o.dst v') w') :
    wpList P ops Q (o :: rest) a w := by
  refine wpList_plain hgd fun K hK => ?_
  obtain ⟨v', w', hr, h2, h3, _⟩ := run_append_src (P := P) w base t o.type e i z size bytes ht hi hz hsize hby hzs hsz v n xs hown xv m news hsrc h63 hbytes hbase
  unfold Oper.wp execOp
  simp only [ho, resolve, invoke, builtin, Sem.run_bind, Sem.run_pure, Result.andThen_ok, List.map_toArray, List.map_cons, List.map_nil, hs, hx, hr]
  exact hK _ _ (h v' w' h2 h3)
theorem Src.ints {n : Nat} {W : World} {p : Option Addr} {c : Nat} {L : List Int} (h : Ints n W (.slice p L.length c) L) : Src W (.slice p L.length c) L.length 1 (L.map (Value.int .i64)) := by
  by_cases hL : L.length = 0
  · have e : L = [] := List.eq_nil_of_length_eq_zero hL
    subst e
    cases p with
    | none => exact .inl ⟨⟨c, rfl⟩, rfl, rfl⟩
    | some ad => exact .inr ⟨ad, c, rfl, by simp, fun j u hu => by simp at hu, fun u hu => by simp at hu⟩
  · obtain ⟨b, off, rfl, hbb, hcap, hc⟩ := h.open (show 0 < L.length by omega)
    refine .inr ⟨⟨b, off, none⟩, c, rfl, by simp, fun j u hu => ?_, fun u hu => ?_⟩
    · have hj : j < L.length := by simpa using (List.getElem?_eq_some_iff.1 hu).1
      rw [List.getElem?_map, List.getElem?_eq_getElem hj] at hu
      rw [Go.WideShapes.add_plain, hc W (Below.refl _ _) j hj]
      exact hu
    · obtain ⟨x, _, rfl⟩ := List.mem_map.1 hu
      rfl
set_option maxRecDepth 100000 in
set_option maxHeartbeats 2000000 in
theorem cloneI_any (L : List Int) (hL : L.length ≤ 4194304) (sv : Value) (w : World) (h : Ints w.heap.size w sv L) :
    Calls Try.prog 58 #[sv] w fun e w' => ∃ v', e = .returned v' ∧ w'.ownsRow w.heap.size 3 1 v' L.length (L.map (Value.int .i64)) ∧ Below w.heap.size w w' := by
  obtain ⟨p, c, rfl⟩ := h.len
  cases p with
  | none =>
    have e : L = [] := by
      rcases h with ⟨_, e⟩ | ⟨b, off, cap, h1, _⟩
      · exact e
      · simp at h1
    subst e
    have heq : (binOp .eql 25 (.slice none 0 c) (.slice none 0 0)).run Try.prog w = .ok (.bool true) w := by rfl
    clear h
    go_enter Try.func58, Try.ntmps58
    go_wp2
    go_ret
    exact ⟨.slice none 0 0, rfl, World.ownsRow_nil _ _ _ _, Below.refl _ _⟩
  | some ad =>
    obtain ⟨i0, hi, hz0, hz1, hz2⟩ := info_parts infoI
    have hbA : Below w.heap.size w (w.alloc (.cells #[] 3)) := (Below.refl _ _).alloc (Nat.le_refl _) _
    have hB : Blk 3 (w.alloc (.cells #[] 3)) w.heap.size [] := heap_alloc_new w _
    have hown : (w.alloc (.cells #[] 3)).ownsRow w.heap.size 3 1 (.slice (some ⟨w.heap.size, 0, none⟩) 0 0) 0 [] := ⟨by simp, .inr ⟨w.heap.size, 0, #[], rfl, Nat.le_refl _, hB, Nat.le_refl _, by unfold maxLen; omega, rfl, rfl⟩⟩
    have heq : (binOp .eql 25 (.slice (some ad) L.length c) (.slice none 0 0)).run Try.prog w = .ok (.bool false) w := by rfl
    have hsrc := Src.ints (h.go hbA)
    have hmx : 0 + L.length ≤ maxLen := by unfold maxLen; omega
    have hby : (0 + L.length) * 8 ≤ 140737488355328 := by omega
    have hbs : w.heap.size ≤ (w.alloc (.cells #[] 3)).heap.size := by simp
    clear h
    go_enter Try.func58, Try.ntmps58
    go_wp2_with (at_builtin; refine wpList_append_src _ rfl _ _ 25 rfl w.heap.size 3 i0 (.int .i64 0) 1 8 Try.underlying25 hi hz0 hz1 hz2 rfl (by decide) (.slice (some ⟨w.heap.size, 0, none⟩) 0 0) _ _ rfl hown (.slice (some ad) L.length c) L.length (L.map (Value.int .i64)) rfl hsrc hmx hby hbs ?_)
    intro v7 w7 hown7 hg7
    obtain ⟨a7, m7, k7, rfl⟩ := owns_slK hown7
    have hb7 : Below w.heap.size w w7 := hbA.grown hg7 hbs (fun k e => (hown.lt k e).1)
    have HO : Hid (w7.ownsRow w.heap.size 3 1 (.slice a7 m7 k7) L.length (L.map (Value.int .i64))) := by
      unfold Hid
      simpa using hown7
    clear hown7 hg7 hown hsrc
    go_wp2
    go_ret
    exact ⟨.slice a7 m7 k7, rfl, HO.out, hb7⟩
end Go.Proofs.Ytgjaikekpgdehaa
