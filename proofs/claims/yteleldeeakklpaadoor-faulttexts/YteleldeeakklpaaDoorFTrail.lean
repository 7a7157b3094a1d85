/-
  The contracts of fault.Trail.
-/
import Derived.Deep.RegionLaw
import Derived.Maps.AppendAt
import Derived.Test.YteleldeeakklpaaDoorFErr
namespace Go.Proofs.YteleldeeakklpaaDoor
open Go Go.Proofs Go.RowKit

theorem info9 : (Tryd.prog.info? 9).map (fun i => (i.zero, i.size, i.bytes)) = some (some (.string ⟨#[]⟩), 1, 16) := by kernel_rfl
theorem enters40 (args : Array Value) (W : World) : (callFunc 40 args).run Tryd.prog W = .ok (.enter 40 args) W := by kernel_rfl

/-- append upon a row that the call owns, as one step of a region that draws its order. -/
theorem step_append_at {P : Program} {ops : Array Oper} {o : Oper} {a : Act} {w : World} {K : Act → World → Prop} {Q : Exit → Act → World → Prop} {E : Prop}
    (hgd : o.guard = none) (s x : Operand) (t : TypeId) (ho : o.op = .call { callee := .builtin .append, args := #[s, x], argTypes := #[t, t] })
    (base : Nat) (e : TypeId) (i : TypeInfo) (z : Value) (size bytes : Nat) (ht : P.underlying t = some (.slice e)) (hi : P.info? e = some i) (hz : i.zero = some z)
    (hsize : i.size = size) (hby : i.bytes = bytes) (hzs : z.cells.size = size) (hsz : 0 < size)
    (v : Value) (n : Nat) (xs : List Value) (hs : a.eval s = v) (hown : w.ownsRow base e size v n xs)
    (ad : Addr) (m c : Nat) (news : List Value) (hx : a.eval x = .slice (some ad) m c) (hl : news.length = m * size) (hnews : ∀ j u, news[j]? = some u → w.cell? (ad.add j) = some u) (h1 : ∀ u ∈ news, u.oneCell' = true)
    (h63 : n + m ≤ maxLen) (hbytes : (n + m) * bytes ≤ 140737488355328) (hbase : base ≤ w.heap.size)
    (h : ∀ v' w', w'.ownsRow base e size v' (n + m) (xs ++ news) → w.grownBy w' v.ownBlock → (v'.ownBlock = v.ownBlock ∨ v'.ownBlock = some w.heap.size) → K (a.put o.dst v') w') :
    if Region.wanted o (yielded ops a.tmps) = true then Oper.wp P o a w K Q else E := by
  have hw : Region.wanted o (yielded ops a.tmps) = true := by simp [Region.wanted, hgd]
  rw [if_pos hw]
  obtain ⟨v', w', hr, h2, h3, h4, h5⟩ := run_append_own_at (P := P) w base t o.type e i z size bytes ht hi hz hsize hby hzs hsz v n xs hown ad m c news hl hnews h1 h63 hbytes hbase
  unfold Oper.wp
  simp [execOp, ho, resolve, invoke, builtin, hs, hx, hr, Result.andThen]
  exact h v' w' h2 h3 h5

theorem heap_setCell_same {w : World} {b : Nat} {cs : Array Value} {t : TypeId} {fr : Nat × Nat} (h : w.heap[b]? = some (.cells cs t fr)) {o : Nat} (v : Value) : (w.setCell ⟨b, o, none⟩ v).heap[b]? = some (.cells (cs.setIfInBounds o v) t fr) := by
  simp [World.setCell, Array.getElem?_modify, h]
theorem World.grownBy_setCell (w : World) (b o : Nat) (v : Value) : w.grownBy (w.setCell ⟨b, o, none⟩ v) (some b) :=
  ⟨rfl, rfl, rfl, by simp, fun k _ hne => Below.heap_setCell _ _ _ _ (fun e => hne (by rw [e]))⟩

/-- Block M lies as it lay. -/
def SameM (M : Nat) (W W' : World) : Prop := W'.heap[M]? = W.heap[M]?
/-- What the trail's variable holds behind j links. -/
def TrI (c : Nat) (L : List (ByteArray × Int)) (j : Nat) (W : World) : Prop :=
  ∃ sv, W.heap[c]? = some (.cells #[sv] 45 (0, 0)) ∧ W.ownsRow (c + 1) 9 1 sv j ((L.take j).map fun x => Value.string x.1)
theorem row_kept {W W' : World} {base : Nat} {e : TypeId} {size : Nat} {v : Value} {n : Nat} {xs : List Value} (h : W.ownsRow base e size v n xs) (hk : ∀ (k : Nat) (c : Array Value) (t : TypeId), W.heap[k]? = some (Obj.cells c t (0, 0)) → W'.heap[k]? = some (Obj.cells c t (0, 0))) : W'.ownsRow base e size v n xs := by
  obtain ⟨h3, h4⟩ := h
  refine ⟨h3, ?_⟩
  rcases h4 with h4 | ⟨g, cap, cur, a1, a2, a3, a4⟩
  · exact .inl h4
  · exact .inr ⟨g, cap, cur, a1, a2, hk _ _ _ a3, a4⟩
theorem owns_slice {W : World} {base : Nat} {e : TypeId} {size : Nat} {v : Value} {n : Nat} {xs : List Value} (h : W.ownsRow base e size v n xs) : ∃ a m c, v = .slice a m c := by
  rcases h.2 with ⟨hv, _⟩ | ⟨g, cap, cur, hv, _⟩ <;> exact ⟨_, _, _, hv⟩
theorem TrI.kept {c : Nat} {L : List (ByteArray × Int)} {j : Nat} {W W' : World} (h : TrI c L j W) (hk : ∀ (k : Nat) (c : Array Value) (t : TypeId), W.heap[k]? = some (Obj.cells c t (0, 0)) → W'.heap[k]? = some (Obj.cells c t (0, 0))) : TrI c L j W' :=
  let ⟨sv, h1, h2⟩ := h; ⟨sv, hk _ _ _ h1, row_kept h2 hk⟩

set_option maxRecDepth 100000 in
set_option maxHeartbeats 2000000 in
theorem trail1_visits {L : List (ByteArray × Int)} (hL : L.length ≤ 1000) {N c M : Nat} (hNc : N ≤ c) : Visits 40 #[.pointer (some ⟨c, 0, none⟩)] N M L (TrI c L) := by
  intro j b x v' W hx hb hF hM ⟨sv, hc, hown⟩
  obtain ⟨i0, hi, hz0, hz1, hz2⟩ := info_parts info9
  have hj : j < L.length := (List.getElem?_eq_some_iff.1 hx).1
  have c0 := hF.c0
  have cs : W.cell? ⟨c, 0, none⟩ = some sv := by simp [World.cell?, hc]
  have fs : W.frozen? ⟨c, 0, none⟩ = false := by simp [World.frozen?, hc]
  have hcW : c < W.heap.size := (Array.getElem?_eq_some_iff.1 hc).1
  have hown1 : (W.alloc (.cells #[.string x.1] 9)).ownsRow (c + 1) 9 1 sv j ((L.take j).map fun x => Value.string x.1) := hown.alloc _
  have hnews : ∀ (i : Nat) (u : Value), [Value.string x.1][i]? = some u → (W.alloc (.cells #[.string x.1] 9)).cell? ((⟨W.heap.size, 0, none⟩ : Addr).add i) = some u := by
    intro i u hu
    cases i with
    | zero => simp at hu; subst hu; simp [Addr.add]
    | succ i => simp at hu
  have hone : ∀ u ∈ [Value.string x.1], u.oneCell' = true := by intro u hu; rw [List.mem_singleton.1 hu]; rfl
  have hcM : M ≠ c := by
    intro e
    obtain ⟨es, ck, hm⟩ := hM
    rw [← e, hm] at hc; cases hc
  have hrc : some c ≠ sv.ownBlock := by
    intro e
    have := (hown.lt c e.symm).1
    omega
  have hrM : some M ≠ sv.ownBlock := by
    intro e
    obtain ⟨es, ck, hm⟩ := hM
    rcases hown.2 with ⟨rfl, _⟩ | ⟨g, cap, cur, rfl, _, hg, _⟩
    · cases e
    · have : M = g := Option.some.inj e
      rw [this, hg] at hm; cases hm
  have hMW : M < W.heap.size := by obtain ⟨es, ck, hm⟩ := hM; exact (Array.getElem?_eq_some_iff.1 hm).1
  have hfin : ∀ v2 w2, w2.ownsRow (c + 1) 9 1 v2 (j + 1) (((L.take j).map fun x => Value.string x.1) ++ [.string x.1]) → (W.alloc (.cells #[.string x.1] 9)).grownBy w2 sv.ownBlock →
      w2.cell? ⟨c, 0, none⟩ = some sv ∧ w2.frozen? ⟨c, 0, none⟩ = false ∧ TrI c L (j + 1) (w2.setCell ⟨c, 0, none⟩ v2) ∧ Below N W (w2.setCell ⟨c, 0, none⟩ v2) ∧ SameM M W (w2.setCell ⟨c, 0, none⟩ v2) := by
    intro v2 w2 ho hg
    have hc2 : w2.heap[c]? = some (.cells #[sv] 45 (0, 0)) := by
      rw [hg.block c (by simp; omega) hrc, Below.heap_alloc _ _ _ hcW]; exact hc
    have d0 : w2.cell? ⟨c, 0, none⟩ = some sv := by simp [World.cell?, hc2]
    refine ⟨d0, by simp [World.frozen?, hc2], ⟨v2, ?_, ?_⟩, ?_, ?_⟩
    · rw [heap_setCell_same hc2]; rfl
    · rw [List.take_add_one, hx]
      simp only [List.map_append, Option.toList_some, List.map_cons, List.map_nil]
      exact ho.kept (World.grownBy_setCell w2 c 0 v2) (by
        rcases h : v2.ownBlock with _ | g
        · exact .inl rfl
        · right; intro e; have := (ho.lt g h).1; have := Option.some.inj e; omega)
    · refine Below.setCell (p := ⟨c, 0, none⟩) ?_ hNc _
      exact ((Below.refl N W).alloc (by omega) _).grown hg (by simp; omega) (fun k e => by have := (hown.lt k e).1; omega)
    · unfold SameM
      rw [Below.heap_setCell _ _ _ _ hcM, hg.block M (by simp; omega) hrM, Below.heap_alloc _ _ _ hMW]
  have hmx : j + 1 ≤ maxLen := by unfold maxLen; omega
  have hby : (j + 1) * 16 ≤ 140737488355328 := by omega
  have hbs : c + 1 ≤ (W.alloc (.cells #[.string x.1] 9)).heap.size := by simp; omega
  have Hfin : Hid _ := hfin
  clear hfin
  go_enter Tryd.func40, Tryd.ntmps40
  go_wp2
  refine wp_cutN (fun a' w' => a'.defers = [] ∧ TrI c L (j + 1) w' ∧ Below N W w' ∧ SameM M W w') ?_ ?_
  · go_region_law (refine step_append_at rfl _ _ 45 rfl (c + 1) 9 i0 (.string ⟨#[]⟩) 1 16 Tryd.underlying45 hi hz0 hz1 hz2 rfl (by decide) sv j _ rfl hown1 ⟨W.heap.size, 0, none⟩ 1 1 [.string x.1] rfl rfl hnews hone hmx hby hbs ?_; intro v2 w2 ho2 hg2 hat2; obtain ⟨d0, df, f1, f2, f3⟩ := Hfin.out v2 w2 ho2 ⟨hg2.os, hg2.tape, hg2.output, hg2.size, hg2.block⟩; obtain ⟨a2, n2, k2, rfl⟩ := owns_slice ho2)
    all_goals exact ⟨rfl, f1, f2, f3⟩
  · rintro ⟨tm, df⟩ w' ⟨rfl, h2, h3, h4⟩
    go_end0
    exact ⟨rfl, h2, h3, h4⟩

/-- The slice value sv holds the texts ss. -/
def Strs (n : Nat) (W : World) (sv : Value) (ss : List ByteArray) : Prop :=
  ((∃ p c, sv = .slice p 0 c) ∧ ss = []) ∨ ∃ b off cap, sv = .slice (some ⟨b, off, none⟩) ss.length cap ∧ b < n ∧ ss.length ≤ cap ∧ ∀ j s, ss[j]? = some s → W.cell? ⟨b, off + j, none⟩ = some (.string s)
theorem Strs.below {n : Nat} {W W' : World} {sv : Value} {ss : List ByteArray} (h : Strs n W sv ss) (hb : Below n W W') : Strs n W' sv ss := by
  rcases h with h | ⟨b, off, cap, h1, h2, h3, h4⟩
  · exact .inl h
  · exact .inr ⟨b, off, cap, h1, h2, h3, fun j x hx => (hb.cell (p := ⟨b, _, none⟩) h2).trans (h4 j x hx)⟩
theorem Strs.up {n m : Nat} {W : World} {sv : Value} {ss : List ByteArray} (h : Strs n W sv ss) (hm : n ≤ m) : Strs m W sv ss := by
  rcases h with h | ⟨b, off, cap, h1, h2, h3⟩
  · exact .inl h
  · exact .inr ⟨b, off, cap, h1, by omega, h3⟩
theorem Strs.go {W W' : World} {sv : Value} {ss : List ByteArray} (h : Strs W.heap.size W sv ss) (hb : Below W.heap.size W W') : Strs W'.heap.size W' sv ss := (h.below hb).up hb.size
theorem Strs.len {n : Nat} {W : World} {sv : Value} {ss : List ByteArray} (h : Strs n W sv ss) : ∃ p c, sv = .slice p ss.length c := by
  rcases h with ⟨⟨p, c, rfl⟩, rfl⟩ | ⟨b, off, cap, rfl, _⟩ <;> exact ⟨_, _, rfl⟩
theorem Strs.of_owns {W : World} {base : Nat} {v : Value} {ss : List ByteArray} (h : W.ownsRow base 9 1 v ss.length (ss.map Value.string)) : Strs W.heap.size W v ss := by
  rcases h.2 with ⟨rfl, h0⟩ | ⟨g, cap, cur, rfl, hb, hg, hn, hc⟩
  · exact .inl ⟨⟨_, _, rfl⟩, List.eq_nil_of_length_eq_zero h0⟩
  · refine .inr ⟨g, 0, cap, rfl, (Array.getElem?_eq_some_iff.1 hg).1, hn, fun j s hs => ?_⟩
    have := h.cells (g := g) rfl j (.string s) (by simp [hs])
    rwa [Lib.add_plain] at this

set_option maxRecDepth 100000 in
set_option maxHeartbeats 1000000 in
theorem trail_any {L : List (ByteArray × Int)} (hL : L.length ≤ 1000) {ev v : Value} (hev : EndV ev) (w : World) (hC : Chain w ev w.heap.size L v) :
    Calls Tryd.prog 19 #[v] w fun e w' => ∃ sv, e = .returned sv ∧ Strs w'.heap.size w' sv (L.map (·.1)) ∧ Below w.heap.size w w' := by
  have hm := hmf
  have hb1 : Below w.heap.size w (w.alloc (.cells #[.slice none 0 0] 45)) := (Below.refl _ _).alloc (Nat.le_refl _) _
  have hC1 := hC.below hb1
  have h0 : TrI w.heap.size L 0 ((w.alloc (.cells #[.slice none 0 0] 45)).alloc (.map #[] 0)) := by
    refine TrI.kept (W := w.alloc (.cells #[.slice none 0 0] 45)) ⟨.slice none 0 0, (MapKept.heap_alloc w _).1, World.ownsRow_nil _ _ _ _⟩ (kept_below ((Below.refl _ _).alloc (Nat.le_refl _) _))
  have hB : Bears (w.alloc (.cells #[.slice none 0 0] 45)).heap.size (TrI w.heap.size L) := fun j W W' hM hI hg => hI.kept (kept_map hM hg)
  have hW := walk_any 40 #[.pointer (some ⟨w.heap.size, 0, none⟩)] L (TrI w.heap.size L) w.heap.size ev _ hev (w.alloc (.cells #[.slice none 0 0] 45)) (by simp) hC1 enters40
    (trail1_visits hL (Nat.le_refl _)) hB h0
  go_enter Tryd.func19, Tryd.ntmps19
  go_wp2_with fail
  refine hW.mono ?_
  clear hW h0 hB
  rintro e w2 ⟨rfl, ⟨sv, hc, hown⟩, hb2⟩
  rw [List.take_length] at hown
  have cs : w2.cell? ⟨w.heap.size, 0, none⟩ = some sv := by simp [World.cell?, hc]
  go_wp2
  go_ret
  refine ⟨sv, rfl, ?_, hb1.trans hb2⟩
  refine Strs.of_owns (base := w.heap.size + 1) ?_
  simpa [Function.comp_def] using hown

end Go.Proofs.YteleldeeakklpaaDoor
