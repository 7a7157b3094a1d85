/-
  The contract of natural.Cmp.
-/
import Derived.RegionIn
import Derived.Test.YtkalknmindgljaaDoorSmall
namespace Go.Proofs.YtkalknmindgljaaDoor
open Go Go.Proofs Go.RowKit Go.Shelf

attribute [local go_sem] Oper.semAt_some

theorem trim_at {zs : List Int} {w : World} {n₀ : Nat} {sv : Value} (hI : U32s n₀ w sv zs) (hl : zs.length ≤ 1073741824) (hn₀ : n₀ ≤ w.heap.size) :
    Calls Tryd.prog 32 #[sv] w fun e W' => ∃ sv', e = .returned sv' ∧ U32s n₀ W' sv' (trimL zs) ∧ Below w.heap.size w W' := trim_any zs (by omega) w n₀ hn₀ sv hI

/-- How a body may be left that never panics. -/
def bodyPostN (F : Fence) (n : Nat) (P : Program) (fn : Func) (R : Ending → World → Prop) : Exit → Act → World → Prop
  | .normal, a, w | .ret, a, w => LeavesInM F n P fn a.tmps R a.defers .returning w
  | _, _, _ => False
theorem callsIn_of_wp_N {F : Fence} {n : Nat} {P : Program} {f : FuncId} {fn : Func} {c : Code} {args : Array Value} {w : World} {R : Ending → World → Prop}
    (hf : P.funcs[f]? = some fn) (hb : fn.body = some c) (hF : F.fn f)
    (h : c.wpIn F n P (bodyPostN F n P fn R) { tmps := args ++ Array.replicate (fn.ntmps - args.size) undef, defers := [] } w) (hro : F.round = none := by rfl) : CallsIn F n P f args w R :=
  callsIn_of_wp_marks hf hb hF (wpIn_mono h fun e a w hq => by cases e <;> first | exact hq | exact hq.elim) hro

set_option maxRecDepth 100000 in
set_option maxHeartbeats 2000000 in
theorem cmp_in (a b : List Int) (ha : a.length ≤ 1073741824) (hb : b.length ≤ 1073741824) (da : Dig a) (db : Dig b) (w : World) (pa pb : Option Addr) (la lb ca cb : Nat) (hA : U32 w (.slice pa la ca) a) (hB : U32 w (.slice pb lb cb) b) :
    Calls Tryd.prog 16 #[.slice pa la ca, .slice pb lb cb] w fun e w' => e = .returned (.int .i64 (cmpI (val a) (val b))) ∧ Below w.heap.size w w' := by
  refine (callsIn_wide (n := 4)).1 ?_
  refine callsIn_of_wp_N Tryd.func16 rfl trivial ?_ rfl
  simp only [Tryd.ntmps16, List.size_toArray, List.length_cons, List.length_nil, Nat.reduceAdd, Nat.reduceSub, Array.replicate_succ, Array.replicate_zero, List.push_toArray, List.append_toArray, List.nil_append, List.cons_append]
  obtain ⟨W0, hW0⟩ : ∃ W0, (w.alloc (.cells #[.slice pb lb cb] 23)).alloc (.cells #[.int .i64 0] 3) = W0 := ⟨_, rfl⟩
  have bB : Boxed W0 w.heap.size 23 (.slice pb lb cb) := by rw [← hW0]; exact (Boxed.new w 23 (.slice pb lb cb)).alloc _
  have bR : Boxed W0 (w.heap.size + 1) 3 (.int .i64 0) := by rw [← hW0]; have := Boxed.new (w.alloc (.cells #[.slice pb lb cb] 23)) 3 (.int .i64 0); rwa [World.size_alloc] at this
  have hB0 : Below w.heap.size w W0 := by rw [← hW0]; exact ((Below.refl _ w).alloc (Nat.le_refl _) _).alloc (by simp) _
  have hsz : W0.heap.size = w.heap.size + 1 + 1 := by rw [← hW0]; simp
  have hA' : ∀ W, Below w.heap.size w W → U32s w.heap.size W (.slice pa la ca) a := fun W h => Seg.below h hA
  have hB' : ∀ W, Below w.heap.size w W → U32s w.heap.size W (.slice pb lb cb) b := fun W h => Seg.below h hB
  have hmx : Tryd.prog.follows .mixedOrders = true := by kernel_rfl
  gi_wp2
  clear hW0
  have hcB := bB.cell
  have hfB := bB.frozen
  have hB1 : Below W0.heap.size W0 W0.drew := (Below.refl _ _).drew
  have hst : ∀ W, Below W0.heap.size W0 W → Below w.heap.size w W ∧ W.cell? ⟨w.heap.size, 0, none⟩ = some (.slice pb lb cb) ∧ W.frozen? ⟨w.heap.size, 0, none⟩ = false := fun W h =>
    ⟨hB0.trans (h.mono (by omega)), (h.cell (p := ⟨w.heap.size, 0, none⟩) (by simp; omega)).trans hcB, (h.frozen (p := ⟨w.heap.size, 0, none⟩) (by simp; omega)).trans hfB⟩
  have hb1 := (hst _ hB1).1
  refine wpIn_mono (Q := fun e a' W' => match e with
    | .normal => ∃ px cx py cy, a' = { tmps := #[.slice px (trimL a).length cx, .slice pb lb cb, undef, .pointer (some ⟨w.heap.size, 0, none⟩), .pointer (some ⟨w.heap.size + 1, 0, none⟩), undef, undef, .slice pa la ca, .slice px (trimL a).length cx, .slice pb lb cb, .slice py (trimL b).length cy, undef, undef, undef, undef, undef, undef, undef, undef, undef, undef, undef, undef, undef, undef, undef, undef, undef, undef, undef, undef, undef, undef, undef, undef, undef, undef], defers := [] } ∧
        U32s w.heap.size W' (.slice px (trimL a).length cx) (trimL a) ∧ U32s w.heap.size W' (.slice py (trimL b).length cy) (trimL b) ∧ Boxed W' w.heap.size 23 (.slice py (trimL b).length cy) ∧ Boxed W' (w.heap.size + 1) 3 (.int .i64 0) ∧ Below w.heap.size w W'
    | _ => False) ?reg ?rest
  case reg =>
    gi_region_with_o (refine ⟨trivial, ?_⟩; refine (callsIn_wide.2 (trim_at (n₀ := w.heap.size) (by first | exact hA' _ (by assumption) | exact hB' _ (by assumption)) (by assumption) (by exact Below.size (by assumption)))).mono ?_; rintro e w1 ⟨sv, rfl, hs, hbw⟩; obtain ⟨px, cx, rfl⟩ := hs.len; have hX : Below W0.heap.size W0 w1 := Below.trans (by assumption) (hbw.mono (by first | exact Nat.le_refl _ | exact Below.size (by assumption))); obtain ⟨hx1, hx2, hx3⟩ := hst _ hX)
    all_goals
      rename_i w0 hbw0 px0 cx0 hs0 hX0 hx10 hx20 hx30
      have hset : Below w.heap.size w1 (w1.setCell ⟨w.heap.size, 0, none⟩ (.slice px (trimL b).length cx)) := (Below.refl _ _).setCell (p := ⟨w.heap.size, 0, none⟩) (Nat.le_refl _) _
      exact ⟨_, _, _, _, rfl, Seg.below hset (Seg.below (hbw.mono hx10.size) hs0), Seg.below hset hs, Boxed.set _ ((hX.block _ (by omega)).trans bB), (Below.heap_setCell _ _ _ _ (by simp)).trans ((hX.block _ (by omega)).trans bR), hx1.setCell (p := ⟨w.heap.size, 0, none⟩) (Nat.le_refl _) _⟩
  case rest =>
    rintro e a' W' h
    cases e with
    | normal =>
      obtain ⟨px, cx, py, cy, rfl, hx, hy, bB', bR', hbl⟩ := h
      clear hcB hfB bB bR hst hb1 hB1 hmx hB0 hsz hA' hB'
      have hc1 := bB'.cell
      have hc2 := bR'.cell
      have hf2 := bR'.frozen
      have hla := trimL_length a
      have hlb := trimL_length b
      have hva : Hid (val (trimL a) = val a) := val_trimL a
      have hvb : Hid (val (trimL b) = val b) := val_trimL b
      have dx := da.trimL
      have dy := db.trimL
      have hcl := cmp_len da db
      generalize trimL a = x at *
      generalize trimL b = y at *
      by_cases hl : x.length = y.length
      · have hnl : ((x.length : Int) != (y.length : Int)) = false := by rw [bne_eq_false_iff_eq]; omega
        have HL : Hid (x.length = y.length) := hl
        clear hl hcl
        gi_wp2_with (refine ⟨trivial, ?_⟩; gi_at_call 34; refine (back_in Fence.wide _ trivial rfl _ _ _ _).mono ?_; rintro e w' ⟨rfl, rfl⟩)
        have bN := Boxed.new W' 23 (.slice px x.length cx)
        have hB0 : Below W'.heap.size W' (W'.alloc (.cells #[.slice px x.length cx] 23)) := (Below.refl _ _).alloc (Nat.le_refl _) _
        have hsW := hbl.size
        have hxl : x.length * 4 ≤ 140737488351232 := by omega
        have hblk := hx.block
        refine wpIn_rangeFunc_ownG rfl (by omega) (gf := 58) (lb := #[.pointer (some ⟨W'.heap.size, 0, none⟩)]) rfl trivial (enters_of Tryd.func58 (by kernel_rfl) rfl)
          (back_stops Fence.wide _ trivial rfl (by omega) W'.heap.size w.heap.size _ x hxl _ (by simp) (by simp; omega) bN.cell (Seg.below (hB0.mono hsW) hx)) keepS_t (keepS_b (fun a' m k e => by have := hblk a' m k e; simp; omega) (by simp)) (Below.refl _ _) (fun _ => rfl)
          (fun pre W => ((∀ p ∈ pre, nth x p.1 = nth y p.1) ∧ W.cell? ⟨w.heap.size, 0, none⟩ = some (.slice py y.length cy) ∧ W.cell? ⟨w.heap.size + 1, 0, none⟩ = some (.int .i64 0) ∧ W.frozen? ⟨w.heap.size + 1, 0, none⟩ = false) ∧ Below w.heap.size W' W)
          (fun c pre W => (c = .ret ∧ ∃ ini last, pre = ini ++ [last] ∧ (∀ p ∈ ini, nth x p.1 = nth y p.1) ∧ nth x last.1 ≠ nth y last.1 ∧ W.cell? ⟨w.heap.size + 1, 0, none⟩ = some (.int .i64 (cmpI (nth x last.1) (nth y last.1)))) ∧ Below w.heap.size W' W)
          (OwnFrom.and (Own.from (fun s A B row hs hg hr => ⟨hs.1, cell_kept hs.2.1 hg hr, cell_kept hs.2.2.1 hg hr, (frozen_kept hs.2.2.1 hg hr).trans hs.2.2.2⟩) _) (ownFrom_below hsW (by simp; omega)))
          (fun c => OwnFrom.and (Own.from (fun s A B row hs hg hr => by obtain ⟨hc, ini, last, e1, e2, e3, e5⟩ := hs; exact ⟨hc, ini, last, e1, e2, e3, cell_kept e5 hg hr⟩) _) (ownFrom_below hsW (by simp; omega)))
          ⟨⟨by simp, (bB'.alloc _).cell, (bR'.alloc _).cell, (bR'.alloc _).frozen⟩, hB0.mono hsW⟩
          (fun z => { tmps := #[.slice px x.length cx, .slice pb lb cb, undef, .pointer (some ⟨w.heap.size, 0, none⟩), .pointer (some ⟨w.heap.size + 1, 0, none⟩), .int .i64 (z.1 : Int), .int .u32 (nth x z.1), .slice pa la ca, .slice px x.length cx, .slice pb lb cb, .slice py y.length cy, .slice px x.length cx, .int .i64 x.length, .slice py y.length cy, .int .i64 y.length, .bool false, undef, undef, undef, undef, undef, .slice px x.length cx, .func (.func 58) #[] #[.pointer (some ⟨W'.heap.size, 0, none⟩)], .int .i64 (z.1 : Int), .int .u32 (nth x z.1), undef, undef, undef, undef, undef, undef, undef, undef, undef, undef, undef, undef], defers := [] }) ?assign ?body ?done ?stop
        case assign =>
          intro l z W K hK
          gi_wp2
          exact hK
        case body =>
          rintro l pre z W ⟨⟨hp, hcb, hcr, hfr⟩, hB2⟩ _
          obtain ⟨z, hz⟩ := z
          dsimp only at *
          obtain ⟨b2, o2, c2, e2, hb2, hl2, hcs⟩ := hy.pos (by have := HL.out; omega)
          simp only [Value.slice.injEq] at e2
          obtain ⟨rfl, _, rfl⟩ := e2
          have hzy : z < y.length := by have := HL.out; omega
          have hcy := (hB2.cell (p := ⟨b2, o2 + z, none⟩) hb2).trans (hcs z hzy)
          by_cases he : nth x z = nth y z
          · have he' : (nth x z != nth y z) = false := by rw [bne_eq_false_iff_eq]; exact he
            have HE : Hid (nth x z = nth y z) := he
            clear he
            gi_wp2
            refine ⟨KeepsFrom.refl _ _, KeepS.refl _ _ _, ⟨fun p hp' => ?_, hcb, hcr, hfr⟩, hB2⟩
            rcases List.mem_append.1 hp' with hp' | hp'
            · exact hp p hp'
            · simp at hp'; subst hp'; exact HE.out
          · have he' : (nth x z != nth y z) = true := by rw [bne_iff_ne]; exact he
            gi_wp2_with (refine ⟨trivial, ?_⟩; gi_at_call 35; refine (CallsIn.inRound l (callsIn_wide.2 (compareU32_any _ _ _))).mono ?_; rintro e w' ⟨rfl, rfl⟩)
            exact ⟨(KeepsOthers.setCell _ _ _).from _, ⟨rfl, pre, ⟨z, hz⟩, rfl, hp, he, World.cell?_setCell_same' _ _ _ (by rw [hcr]; rfl)⟩, hB2.setCell (p := ⟨w.heap.size + 1, 0, none⟩) (by simp) _⟩
        case done =>
          rintro D ys W hD rfl ⟨⟨hne, hcb, hcr, hfr⟩, hB2⟩ hK
          gi_wp2
          have hK' := (KeepsOthers.setCell W ⟨w.heap.size + 1, 0, none⟩ (.int .i64 0)).same D _ hK rfl
          refine ⟨by simp, .inl ⟨_, _, rfl, run_takeDeferred hK', ?_⟩⟩
          have hc5 := cell_kept (World.cell?_setCell_same' W ⟨w.heap.size + 1, 0, none⟩ (.int .i64 0) (by rw [hcr]; rfl)) (grownBy_putObj' _ D (.deferred none)) (fun r e => by cases e; exact ⟨_, hK', rfl⟩)
          have hxy : x = y := ext_nth HL.out (fun j hj => hne ⟨j, hj⟩ (by simp [downs]))
          have hv : cmpI (val a) (val b) = 0 := cmpI_eq (by rw [← hva.out, ← hvb.out, hxy])
          refine ⟨.int .i64 0, ?_, by rw [hv], hbl.trans ((hB2.setCell (p := ⟨w.heap.size + 1, 0, none⟩) (by simp) _).trans (belowK_b (w := w) (Nat.le_refl _) _ D _ _ (by simp at hD; omega) hK' rfl rfl))⟩
          simp [results, Tryd.f16, go_sem, hc5]
        case stop =>
          rintro D c pre W hD hpre ⟨⟨rfl, ini, last, e1, e2, e3, hcr⟩, hB2⟩ hK
          subst e1
          gi_wp2
          refine ⟨by simp, .inl ⟨_, _, rfl, run_takeDeferred hK, ?_⟩⟩
          have hc5 := cell_kept hcr (grownBy_putObj' _ D (.deferred none)) (fun r e => by cases e; exact ⟨_, hK, rfl⟩)
          obtain ⟨hx1, hx2, hx3⟩ := downs_prefix hpre
          have hv := cmp_top dx dy HL.out last.1 last.2 e3 (fun j h1 h2 => e2 ⟨j, h2⟩ (hx3 ⟨j, h2⟩ h1))
          rw [hva.out, hvb.out] at hv
          refine ⟨.int .i64 (cmpI (nth x last.1) (nth y last.1)), ?_, by rw [hv], hbl.trans (hB2.trans (belowK_b (w := w) (Nat.le_refl _) W D _ (.deferred none) (by simp at hD; omega) hK rfl rfl))⟩
          simp [results, Tryd.f16, go_sem, hc5]
      · have hnl : ((x.length : Int) != (y.length : Int)) = true := by rw [bne_iff_ne]; omega
        have HC : Hid (cmpI (x.length : Int) (y.length : Int) = cmpI (val a) (val b)) := hcl hl
        clear hcl
        gi_wp2_with (refine ⟨trivial, ?_⟩; gi_at_call 33; refine (callsIn_wide.2 (compareInt_any _ _ _)).mono ?_; rintro e w' ⟨rfl, rfl⟩)
        have hc5 := World.cell?_setCell_same' w' ⟨w.heap.size + 1, 0, none⟩ (.int .i64 (cmpI (x.length : Int) (y.length : Int))) (by rw [hc2]; rfl)
        refine ⟨.int .i64 (cmpI (x.length : Int) (y.length : Int)), ?_, by rw [HC.out], hbl.setCell (p := ⟨w.heap.size + 1, 0, none⟩) (by simp) _⟩
        simp [results, Tryd.f16, go_sem, hc5]
    | _ => exact h.elim

theorem cmp_any {a b : List Int} {w : World} {sa sb : Value} (hA : U32 w sa a) (hB : U32 w sb b) (da : Dig a) (db : Dig b) (ha : a.length ≤ 1073741824) (hb : b.length ≤ 1073741824) :
    Calls Tryd.prog 16 #[sa, sb] w fun e w' => e = .returned (.int .i64 (cmpI (val a) (val b))) ∧ Below w.heap.size w w' := by
  obtain ⟨pa, ca, rfl⟩ := hA.len
  obtain ⟨pb, cb, rfl⟩ := hB.len
  exact cmp_in a b ha hb da db w pa pb _ _ ca cb hA hB

end Go.Proofs.YtkalknmindgljaaDoor
