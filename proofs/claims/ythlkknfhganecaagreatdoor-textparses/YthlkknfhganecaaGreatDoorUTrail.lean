/-
  The contracts of fault.Trail and fault.Place.
-/
import Derived.Deep.RegionLaw
import Derived.Maps.AppendAt
import Derived.Deep.QuietTactic
import Derived.BigQuiet
import Derived.Test.YthlkknfhganecaaGreatDoorUFault
namespace Go.Proofs.YthlkknfhganecaaGreatDoor
open Go Go.Proofs Go.RowKit


theorem info9 : (Tryz.prog.info? 9).map (fun i => (i.zero, i.size, i.bytes)) = some (some (.string ⟨#[]⟩), 1, 16) := by kernel_rfl
theorem enters40 (args : Array Value) (W : World) : (callFunc 54 args).run Tryz.prog W = .ok (.enter 54 args) W := by kernel_rfl

/-- append upon a row that the call owns, as one step of a region that draws its order. -/
theorem step_append_at {P : Program} {ops : Array Oper} {o : Oper} {a : Act} {w : World} {K : Act → World → Prop} {Q : Exit → Act → World → Prop} {E : Prop}
    (hgd : o.guard = none) (s x : Operand) (t : TypeId) (ho : o.op = .call { callee := .builtin .append, args := #[s, x], argTypes := #[t, t] })
    (base : Nat) (e : TypeId) (i : TypeInfo) (z : Value) (size bytes : Nat) (ht : P.underlying t = some (.slice e)) (hi : P.info? e = some i) (hz : i.zero = some z)
    (hsize : i.size = size) (hby : i.bytes = bytes) (hzs : z.cells.size = size) (hsz : 0 < size)
    (v : Value) (n : Nat) (xs : List Value) (hs : a.eval s = v) (hown : w.ownsRow base e size v n xs)
    (ad : Addr) (m c : Nat) (news : List Value) (hx : a.eval x = .slice (some ad) m c) (hl : news.length = m * size) (hnews : ∀ j u, news[j]? = some u → w.cell? (ad.add j) = some u) (h1 : ∀ u ∈ news, u.oneCell' = true)
    (h63 : n + m ≤ maxLen) (hbytes : (n + m) * bytes ≤ 140737488355328) (hbase : base ≤ w.heap.size)
    (h : ∀ v' w', w'.ownsRow base e size v' (n + m) (xs ++ news) → w.grownBy w' v.ownBlock → (v'.ownBlock = v.ownBlock ∨ v'.ownBlock = some w.heap.size) → K (a.put o.dst v') w') :
    if Region.wanted o (yielded ops a.tmps) = true then Oper.wp P o a w K Q else E := by
  have hw : Region.wanted o (yielded ops a.tmps) = true := by simp [Region.wanted, hgd]
  rw [if_pos hw]
  obtain ⟨v', w', hr, h2, h3, h4, h5⟩ := run_append_own_at (P := P) w base t o.type e i z size bytes ht hi hz hsize hby hzs hsz v n xs hown ad m c news hl hnews h1 h63 hbytes hbase
  unfold Oper.wp
  simp [execOp, ho, resolve, invoke, builtin, hs, hx, hr, Result.andThen]
  exact h v' w' h2 h3 h5

theorem heap_setCell_same {w : World} {b : Nat} {cs : Array Value} {t : TypeId} {fr : Nat × Nat} (h : w.heap[b]? = some (.cells cs t fr)) {o : Nat} (v : Value) : (w.setCell ⟨b, o, none⟩ v).heap[b]? = some (.cells (cs.setIfInBounds o v) t fr) := by
  simp [World.setCell, Array.getElem?_modify, h]
theorem World.grownBy_setCell (w : World) (b o : Nat) (v : Value) : w.grownBy (w.setCell ⟨b, o, none⟩ v) (some b) :=
  ⟨rfl, rfl, rfl, by simp, fun k _ hne => Below.heap_setCell _ _ _ _ (fun e => hne (by rw [e]))⟩

/-- Block M lies as it lay. -/
def SameM (M : Nat) (W W' : World) : Prop := W'.heap[M]? = W.heap[M]?
/-- What the trail's variable holds behind j links. -/
def TrI (c : Nat) (L : List (ByteArray × Int)) (j : Nat) (W : World) : Prop :=
  ∃ sv, W.heap[c]? = some (.cells #[sv] 63 (0, 0)) ∧ W.ownsRow (c + 1) 9 1 sv j ((L.take j).map fun x => Value.string x.1)
theorem row_kept {W W' : World} {base : Nat} {e : TypeId} {size : Nat} {v : Value} {n : Nat} {xs : List Value} (h : W.ownsRow base e size v n xs) (hk : ∀ (k : Nat) (c : Array Value) (t : TypeId), W.heap[k]? = some (Obj.cells c t (0, 0)) → W'.heap[k]? = some (Obj.cells c t (0, 0))) : W'.ownsRow base e size v n xs := by
  obtain ⟨h3, h4⟩ := h
  refine ⟨h3, ?_⟩
  rcases h4 with h4 | ⟨g, cap, cur, a1, a2, a3, a4⟩
  · exact .inl h4
  · exact .inr ⟨g, cap, cur, a1, a2, hk _ _ _ a3, a4⟩
theorem owns_slice {W : World} {base : Nat} {e : TypeId} {size : Nat} {v : Value} {n : Nat} {xs : List Value} (h : W.ownsRow base e size v n xs) : ∃ a m c, v = .slice a m c := by
  rcases h.2 with ⟨hv, _⟩ | ⟨g, cap, cur, hv, _⟩ <;> exact ⟨_, _, _, hv⟩
theorem TrI.kept {c : Nat} {L : List (ByteArray × Int)} {j : Nat} {W W' : World} (h : TrI c L j W) (hk : ∀ (k : Nat) (c : Array Value) (t : TypeId), W.heap[k]? = some (Obj.cells c t (0, 0)) → W'.heap[k]? = some (Obj.cells c t (0, 0))) : TrI c L j W' :=
  let ⟨sv, h1, h2⟩ := h; ⟨sv, hk _ _ _ h1, row_kept h2 hk⟩

set_option maxRecDepth 100000 in
set_option maxHeartbeats 2000000 in
theorem trail1_visits {L : List (ByteArray × Int)} (hL : L.length ≤ 1000) {N c M : Nat} (hNc : N ≤ c) : Visits 54 #[.pointer (some ⟨c, 0, none⟩)] N M L (TrI c L) := by
  intro j b x v' W hx hb hF hM ⟨sv, hc, hown⟩
  obtain ⟨i0, hi, hz0, hz1, hz2⟩ := info_parts info9
  have hj : j < L.length := (List.getElem?_eq_some_iff.1 hx).1
  have c0 := hF.c0
  have cs : W.cell? ⟨c, 0, none⟩ = some sv := by simp [World.cell?, hc]
  have fs : W.frozen? ⟨c, 0, none⟩ = false := by simp [World.frozen?, hc]
  have hcW : c < W.heap.size := (Array.getElem?_eq_some_iff.1 hc).1
  have hown1 : (W.alloc (.cells #[.string x.1] 9)).ownsRow (c + 1) 9 1 sv j ((L.take j).map fun x => Value.string x.1) := hown.alloc _
  have hnews : ∀ (i : Nat) (u : Value), [Value.string x.1][i]? = some u → (W.alloc (.cells #[.string x.1] 9)).cell? ((⟨W.heap.size, 0, none⟩ : Addr).add i) = some u := by
    intro i u hu
    cases i with
    | zero => simp at hu; subst hu; simp [Addr.add]
    | succ i => simp at hu
  have hone : ∀ u ∈ [Value.string x.1], u.oneCell' = true := by intro u hu; rw [List.mem_singleton.1 hu]; rfl
  have hcM : M ≠ c := by
    intro e
    obtain ⟨es, ck, hm⟩ := hM
    rw [← e, hm] at hc; cases hc
  have hrc : some c ≠ sv.ownBlock := by
    intro e
    have := (hown.lt c e.symm).1
    omega
  have hrM : some M ≠ sv.ownBlock := by
    intro e
    obtain ⟨es, ck, hm⟩ := hM
    rcases hown.2 with ⟨rfl, _⟩ | ⟨g, cap, cur, rfl, _, hg, _⟩
    · cases e
    · have : M = g := Option.some.inj e
      rw [this, hg] at hm; cases hm
  have hMW : M < W.heap.size := by obtain ⟨es, ck, hm⟩ := hM; exact (Array.getElem?_eq_some_iff.1 hm).1
  have hfin : ∀ v2 w2, w2.ownsRow (c + 1) 9 1 v2 (j + 1) (((L.take j).map fun x => Value.string x.1) ++ [.string x.1]) → (W.alloc (.cells #[.string x.1] 9)).grownBy w2 sv.ownBlock →
      w2.cell? ⟨c, 0, none⟩ = some sv ∧ w2.frozen? ⟨c, 0, none⟩ = false ∧ TrI c L (j + 1) (w2.setCell ⟨c, 0, none⟩ v2) ∧ Below N W (w2.setCell ⟨c, 0, none⟩ v2) ∧ SameM M W (w2.setCell ⟨c, 0, none⟩ v2) := by
    intro v2 w2 ho hg
    have hc2 : w2.heap[c]? = some (.cells #[sv] 63 (0, 0)) := by
      rw [hg.block c (by simp; omega) hrc, Below.heap_alloc _ _ _ hcW]; exact hc
    have d0 : w2.cell? ⟨c, 0, none⟩ = some sv := by simp [World.cell?, hc2]
    refine ⟨d0, by simp [World.frozen?, hc2], ⟨v2, ?_, ?_⟩, ?_, ?_⟩
    · rw [heap_setCell_same hc2]; rfl
    · rw [List.take_add_one, hx]
      simp only [List.map_append, Option.toList_some, List.map_cons, List.map_nil]
      exact ho.kept (World.grownBy_setCell w2 c 0 v2) (by
        rcases h : v2.ownBlock with _ | g
        · exact .inl rfl
        · right; intro e; have := (ho.lt g h).1; have := Option.some.inj e; omega)
    · refine Below.setCell (p := ⟨c, 0, none⟩) ?_ hNc _
      exact ((Below.refl N W).alloc (by omega) _).grown hg (by simp; omega) (fun k e => by have := (hown.lt k e).1; omega)
    · unfold SameM
      rw [Below.heap_setCell _ _ _ _ hcM, hg.block M (by simp; omega) hrM, Below.heap_alloc _ _ _ hMW]
  have hmx : j + 1 ≤ maxLen := by unfold maxLen; omega
  have hby : (j + 1) * 16 ≤ 140737488355328 := by omega
  have hbs : c + 1 ≤ (W.alloc (.cells #[.string x.1] 9)).heap.size := by simp; omega
  have Hfin : Hid _ := hfin
  clear hfin
  go_enter Tryz.func54, Tryz.ntmps54
  go_wp2
  refine wp_cutN (fun a' w' => a'.defers = [] ∧ TrI c L (j + 1) w' ∧ Below N W w' ∧ SameM M W w') ?_ ?_
  · go_region_law (refine step_append_at rfl _ _ 63 rfl (c + 1) 9 i0 (.string ⟨#[]⟩) 1 16 Tryz.underlying63 hi hz0 hz1 hz2 rfl (by decide) sv j _ rfl hown1 ⟨W.heap.size, 0, none⟩ 1 1 [.string x.1] rfl rfl hnews hone hmx hby hbs ?_; intro v2 w2 ho2 hg2 hat2; obtain ⟨d0, df, f1, f2, f3⟩ := Hfin.out v2 w2 ho2 ⟨hg2.os, hg2.tape, hg2.output, hg2.size, hg2.block⟩; obtain ⟨a2, n2, k2, rfl⟩ := owns_slice ho2)
    all_goals exact ⟨rfl, f1, f2, f3⟩
  · rintro ⟨tm, df⟩ w' ⟨rfl, h2, h3, h4⟩
    go_end0
    exact ⟨rfl, h2, h3, h4⟩

/-- The slice value sv holds the texts ss. -/
def Strs (n : Nat) (W : World) (sv : Value) (ss : List ByteArray) : Prop :=
  ((∃ p c, sv = .slice p 0 c) ∧ ss = []) ∨ ∃ b off cap, sv = .slice (some ⟨b, off, none⟩) ss.length cap ∧ b < n ∧ ss.length ≤ cap ∧ ∀ j s, ss[j]? = some s → W.cell? ⟨b, off + j, none⟩ = some (.string s)
theorem Strs.below {n : Nat} {W W' : World} {sv : Value} {ss : List ByteArray} (h : Strs n W sv ss) (hb : Below n W W') : Strs n W' sv ss := by
  rcases h with h | ⟨b, off, cap, h1, h2, h3, h4⟩
  · exact .inl h
  · exact .inr ⟨b, off, cap, h1, h2, h3, fun j x hx => (hb.cell (p := ⟨b, _, none⟩) h2).trans (h4 j x hx)⟩
theorem Strs.up {n m : Nat} {W : World} {sv : Value} {ss : List ByteArray} (h : Strs n W sv ss) (hm : n ≤ m) : Strs m W sv ss := by
  rcases h with h | ⟨b, off, cap, h1, h2, h3⟩
  · exact .inl h
  · exact .inr ⟨b, off, cap, h1, by omega, h3⟩
theorem Strs.go {W W' : World} {sv : Value} {ss : List ByteArray} (h : Strs W.heap.size W sv ss) (hb : Below W.heap.size W W') : Strs W'.heap.size W' sv ss := (h.below hb).up hb.size
theorem Strs.len {n : Nat} {W : World} {sv : Value} {ss : List ByteArray} (h : Strs n W sv ss) : ∃ p c, sv = .slice p ss.length c := by
  rcases h with ⟨⟨p, c, rfl⟩, rfl⟩ | ⟨b, off, cap, rfl, _⟩ <;> exact ⟨_, _, rfl⟩
theorem Strs.of_owns {W : World} {base : Nat} {v : Value} {ss : List ByteArray} (h : W.ownsRow base 9 1 v ss.length (ss.map Value.string)) : Strs W.heap.size W v ss := by
  rcases h.2 with ⟨rfl, h0⟩ | ⟨g, cap, cur, rfl, hb, hg, hn, hc⟩
  · exact .inl ⟨⟨_, _, rfl⟩, List.eq_nil_of_length_eq_zero h0⟩
  · refine .inr ⟨g, 0, cap, rfl, (Array.getElem?_eq_some_iff.1 hg).1, hn, fun j s hs => ?_⟩
    have := h.cells (g := g) rfl j (.string s) (by simp [hs])
    rwa [Lib.add_plain] at this

set_option maxRecDepth 100000 in
set_option maxHeartbeats 1000000 in
theorem trail_any {L : List (ByteArray × Int)} (hL : L.length ≤ 1000) {ev v : Value} (hev : EndV ev) (w : World) (hC : Chain w ev w.heap.size L v) :
    Calls Tryz.prog 28 #[v] w fun e w' => ∃ sv, e = .returned sv ∧ Strs w'.heap.size w' sv (L.map (·.1)) ∧ Below w.heap.size w w' := by
  have hm := hmf
  have hb1 : Below w.heap.size w (w.alloc (.cells #[.slice none 0 0] 63)) := (Below.refl _ _).alloc (Nat.le_refl _) _
  have hC1 := hC.below hb1
  have h0 : TrI w.heap.size L 0 ((w.alloc (.cells #[.slice none 0 0] 63)).alloc (.map #[] 0)) := by
    refine TrI.kept (W := w.alloc (.cells #[.slice none 0 0] 63)) ⟨.slice none 0 0, (MapKept.heap_alloc w _).1, World.ownsRow_nil _ _ _ _⟩ (kept_below ((Below.refl _ _).alloc (Nat.le_refl _) _))
  have hB : Bears (w.alloc (.cells #[.slice none 0 0] 63)).heap.size (TrI w.heap.size L) := fun j W W' hM hI hg => hI.kept (kept_map hM hg)
  have hW := walk_any 54 #[.pointer (some ⟨w.heap.size, 0, none⟩)] L (TrI w.heap.size L) w.heap.size ev _ hev (w.alloc (.cells #[.slice none 0 0] 63)) (by simp) hC1 enters40
    (trail1_visits hL (Nat.le_refl _)) hB h0
  go_enter Tryz.func28, Tryz.ntmps28
  go_wp2_with fail
  refine hW.mono ?_
  clear hW h0 hB
  rintro e w2 ⟨rfl, ⟨sv, hc, hown⟩, hb2⟩
  rw [List.take_length] at hown
  have cs : w2.cell? ⟨w.heap.size, 0, none⟩ = some sv := by simp [World.cell?, hc]
  go_wp2
  go_ret
  refine ⟨sv, rfl, ?_, hb1.trans hb2⟩
  refine Strs.of_owns (base := w.heap.size + 1) ?_
  simpa [Function.comp_def] using hown



theorem enters41 (args : Array Value) (W : World) : (callFunc 43 args).run Tryz.prog W = .ok (.enter 43 args) W := by kernel_rfl

/-- Is there a place of that name, and the first one's number. -/
def plF (q : ByteArray) : List (ByteArray × Int) → Bool
  | [] => false
  | x :: L => x.1.toList == q.toList || plF q L
def plN (q : ByteArray) : List (ByteArray × Int) → Int
  | [] => -1
  | x :: L => if x.1.toList == q.toList then x.2 else plN q L
theorem plF_app (q : ByteArray) (x : ByteArray × Int) : ∀ A, plF q (A ++ [x]) = (plF q A || x.1.toList == q.toList)
  | [] => by simp [plF]
  | y :: A => by simp [plF, plF_app q x A, Bool.or_assoc]
theorem plN_app (q : ByteArray) (x : ByteArray × Int) : ∀ A, plN q (A ++ [x]) = if plF q A then plN q A else if x.1.toList == q.toList then x.2 else -1
  | [] => by simp [plN, plF]
  | y :: A => by
    simp only [List.cons_append, plN, plF, plN_app q x A]
    by_cases h : y.1.toList == q.toList <;> simp [h]

theorem plN_no {q : ByteArray} : ∀ {A : List (ByteArray × Int)}, plF q A = false → plN q A = -1
  | [], _ => rfl
  | y :: A, h => by
    simp only [plF, Bool.or_eq_false_iff] at h
    simp only [plN, h.1]
    exact plN_no h.2

theorem plN_hit {q : ByteArray} {x : ByteArray × Int} {B : List (ByteArray × Int)} (hx : (x.1.toList == q.toList) = true) : ∀ {A : List (ByteArray × Int)}, plF q A = false → plN q (A ++ ([x] ++ B)) = x.2
  | [], _ => by simp only [List.nil_append, List.singleton_append, plN, hx, if_true]
  | y :: A, h => by
    simp only [plF, Bool.or_eq_false_iff] at h
    simp only [List.cons_append, plN, h.1, Bool.false_eq_true, if_false]
    exact plN_hit hx h.2

/-- What Place's variables hold behind j links. -/
def PlI (cf cq cp : Nat) (q : ByteArray) (L : List (ByteArray × Int)) (j : Nat) (W : World) : Prop :=
  W.heap[cf]? = some (.cells #[.bool (plF q (L.take j))] 4 (0, 0)) ∧ W.heap[cq]? = some (.cells #[.string q] 9 (0, 0)) ∧ W.heap[cp]? = some (.cells #[.int .i64 (plN q (L.take j))] 3 (0, 0))
theorem cell0 {W : World} {b : Nat} {v : Value} {t : TypeId} (h : W.heap[b]? = some (.cells #[v] t (0, 0))) : W.cell? ⟨b, 0, none⟩ = some v := by simp [World.cell?, h]
theorem froz0 {W : World} {b : Nat} {v : Value} {t : TypeId} (h : W.heap[b]? = some (.cells #[v] t (0, 0))) : W.frozen? ⟨b, 0, none⟩ = false := by simp [World.frozen?, h]

set_option maxRecDepth 100000 in
set_option maxHeartbeats 2000000 in
theorem place1_visits {L : List (ByteArray × Int)} {q : ByteArray} {N cf cq cp M : Nat} (hNf : N ≤ cf) (hNp : N ≤ cp) (h1 : cf ≠ cq) (h2 : cf ≠ cp) (h3 : cq ≠ cp) : Visits 43 #[.pointer (some ⟨cf, 0, none⟩), .pointer (some ⟨cq, 0, none⟩), .pointer (some ⟨cp, 0, none⟩)] N M L (PlI cf cq cp q L) := by
  intro j b x v' W hx hb hF hM ⟨hf, hq, hp⟩
  have c0 := hF.c0
  have c1 := hF.c1
  have f0 := cell0 hf
  have q0 := cell0 hq
  have p0 := cell0 hp
  have ff := froz0 hf
  have fp := froz0 hp
  have ef : plF q (L.take (j + 1)) = (plF q (L.take j) || x.1.toList == q.toList) := by rw [List.take_add_one, hx]; exact plF_app q x _
  have en : plN q (L.take (j + 1)) = if plF q (L.take j) then plN q (L.take j) else if x.1.toList == q.toList then x.2 else -1 := by rw [List.take_add_one, hx]; exact plN_app q x _
  have Ef : Hid _ := ef
  have En : Hid _ := en
  clear ef en
  cases hfound : plF q (L.take j) with
  | true =>
    rw [hfound] at f0
    go_enter Tryz.func43, Tryz.ntmps43
    go_wp2
    go_quiet (fail)
    go_wp2
    go_end0
    refine ⟨rfl, ⟨?_, hq, ?_⟩, below_drewN (Below.refl _ _) _, rfl⟩
    · rw [Ef.out, hfound]; rw [hfound] at hf; exact hf
    · rw [En.out, hfound]; exact hp
  | false =>
    rw [hfound] at f0
    cases he : (x.1.toList == q.toList) with
    | true =>
      have hcM : M ≠ cf ∧ M ≠ cp := by
        obtain ⟨es, ck, hm⟩ := hM
        exact ⟨(by intro e; rw [← e, hm] at hf; cases hf), (by intro e; rw [← e, hm] at hp; cases hp)⟩
      go_enter Tryz.func43, Tryz.ntmps43
      go_wp2
      go_quiet (fail)
      go_wp2
      go_end0
      have hp' : (W.drewN nq).heap[cp]? = some (.cells #[.int .i64 (plN q (L.take j))] 3 (0, 0)) := hp
      have hf' : (W.drewN nq).heap[cf]? = some (.cells #[.bool (plF q (L.take j))] 4 (0, 0)) := hf
      have hq' : (W.drewN nq).heap[cq]? = some (.cells #[.string q] 9 (0, 0)) := hq
      refine ⟨rfl, ⟨?_, ?_, ?_⟩, ?_, ?_⟩
      · rw [Ef.out, hfound, heap_setCell_same (cs := #[.bool (plF q (L.take j))]) (t := 4) (fr := (0, 0)) (by rw [Below.heap_setCell _ _ _ _ h2]; exact hf'), he]
        rfl
      · rw [Below.heap_setCell _ _ _ _ h1.symm, Below.heap_setCell _ _ _ _ h3]; exact hq'
      · rw [Below.heap_setCell _ _ _ _ h2.symm, heap_setCell_same hp', En.out, hfound]
        simp [he]
      · exact ((below_drewN (Below.refl N W) nq).setCell (p := ⟨cp, 0, none⟩) hNp _).setCell (p := ⟨cf, 0, none⟩) hNf _
      · rw [Below.heap_setCell _ _ _ _ hcM.1, Below.heap_setCell _ _ _ _ hcM.2]; rfl
    | false =>
      go_enter Tryz.func43, Tryz.ntmps43
      go_wp2
      go_quiet (fail)
      go_wp2
      go_end0
      refine ⟨rfl, ⟨?_, hq, ?_⟩, below_drewN (Below.refl _ _) _, rfl⟩
      · rw [Ef.out, hfound, he]; rw [hfound] at hf; exact hf
      · rw [En.out, hfound, he]
        have : plN q (L.take j) = -1 := plN_no hfound
        rw [this] at hp
        exact hp

set_option maxRecDepth 100000 in
set_option maxHeartbeats 1000000 in
theorem place_any {L : List (ByteArray × Int)} {q : ByteArray} {ev v : Value} (hev : EndV ev) (w : World) (hC : Chain w ev w.heap.size L v) :
    Calls Tryz.prog 21 #[v, .string q] w fun e w' => e = .returned (.int .i64 (plN q L)) ∧ Below w.heap.size w w' := by
  have hm := hmf
  have hb1 : Below w.heap.size w (((w.alloc (.cells #[.string q] 9)).alloc (.cells #[.int .i64 (-1)] 3)).alloc (.cells #[.bool false] 4)) := (((Below.refl _ _).alloc (Nat.le_refl _) _).alloc (by simp) _).alloc (by simp; omega) _
  have hC1 := hC.below hb1
  have hz : (((w.alloc (.cells #[.string q] 9)).alloc (.cells #[.int .i64 (-1)] 3)).alloc (.cells #[.bool false] 4)).heap.size = w.heap.size + 1 + 1 + 1 := by simp
  have h0 : PlI (w.heap.size + 1 + 1) w.heap.size (w.heap.size + 1) q L 0 ((((w.alloc (.cells #[.string q] 9)).alloc (.cells #[.int .i64 (-1)] 3)).alloc (.cells #[.bool false] 4)).alloc (.map #[] 0)) := by
    refine ⟨?_, ?_, ?_⟩
    · rw [Below.heap_alloc _ _ _ (by simp)]
      have := (MapKept.heap_alloc ((w.alloc (.cells #[.string q] 9)).alloc (.cells #[.int .i64 (-1)] 3)) (.cells #[.bool false] 4)).1
      simpa [plF] using this
    · rw [Below.heap_alloc _ _ _ (by simp; omega), Below.heap_alloc _ _ _ (by simp; omega), Below.heap_alloc _ _ _ (by simp)]
      exact (MapKept.heap_alloc w (.cells #[.string q] 9)).1
    · rw [Below.heap_alloc _ _ _ (by simp), Below.heap_alloc _ _ _ (by simp)]
      have := (MapKept.heap_alloc (w.alloc (.cells #[.string q] 9)) (.cells #[.int .i64 (-1)] 3)).1
      simpa [plN] using this
  have hB : Bears (((w.alloc (.cells #[.string q] 9)).alloc (.cells #[.int .i64 (-1)] 3)).alloc (.cells #[.bool false] 4)).heap.size (PlI (w.heap.size + 1 + 1) w.heap.size (w.heap.size + 1) q L) :=
    fun j W W' hM hI hg => ⟨kept_map hM hg _ _ _ hI.1, kept_map hM hg _ _ _ hI.2.1, kept_map hM hg _ _ _ hI.2.2⟩
  have hW := walk_any 43 #[.pointer (some ⟨w.heap.size + 1 + 1, 0, none⟩), .pointer (some ⟨w.heap.size, 0, none⟩), .pointer (some ⟨w.heap.size + 1, 0, none⟩)] L (PlI (w.heap.size + 1 + 1) w.heap.size (w.heap.size + 1) q L) w.heap.size ev _ hev _ (by simp; omega) hC1 enters41
    (place1_visits (by omega) (by omega) (by omega) (by omega) (by omega)) hB h0
  go_enter Tryz.func21, Tryz.ntmps21
  go_wp2_with fail
  refine hW.mono ?_
  clear hW h0 hB
  rintro e w2 ⟨rfl, ⟨_, _, hp⟩, hb2⟩
  rw [List.take_length] at hp
  have cs := cell0 hp
  go_wp2
  go_ret
  exact ⟨rfl, hb1.trans hb2⟩

end Go.Proofs.YthlkknfhganecaaGreatDoor
