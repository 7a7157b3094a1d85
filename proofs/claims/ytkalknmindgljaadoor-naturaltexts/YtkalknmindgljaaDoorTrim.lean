/-
  Contracts of package natural's small functions: trim.
-/
import Derived.Test.YtkalknmindgljaaDoorBack
import Derived.Test.YtkalknmindgljaaDoorNums
namespace Go.Proofs.YtkalknmindgljaaDoor
open Go Go.Proofs Go.RowKit Go.Shelf

attribute [local go_sem] Oper.semAt_some

theorem downs_get (len i : Nat) (h : i < (downs len).length) : ((downs len)[i]).1 = len - 1 - i := by simp [downs]
theorem downs_prefix {len : Nat} {ini : List (Fin len)} {x : Fin len} (h : ini ++ [x] <+: downs len) : x.1 = len - 1 - ini.length ∧ ini.length < len ∧ ∀ j : Fin len, x.1 < j.1 → j ∈ ini := by
  obtain ⟨t, ht⟩ := h
  have hl : (downs len).length = len := by simp [downs]
  have hlen : ini.length < len := by have := congrArg List.length ht; rw [hl] at this; simp at this; omega
  have hx : x.1 = len - 1 - ini.length := by
    rw [← downs_get len ini.length (by omega)]
    congr 1
    simp [← ht]
  refine ⟨hx, hlen, fun j hj => ?_⟩
  have hj2 := j.2
  have : (downs len)[len - 1 - j.1]'(by omega) = ini[len - 1 - j.1]'(by omega) := by
    simp only [← ht, List.append_assoc]
    rw [List.getElem_append_left]
  have e : (downs len)[len - 1 - j.1]'(by omega) = j := by
    apply Fin.ext; rw [downs_get]; omega
  rw [← e, this]
  exact List.getElem_mem _

set_option maxRecDepth 100000 in
set_option maxHeartbeats 2000000 in
theorem trim_in (F : Fence) (n : Nat) (h3 : F.fn 32) (h4 : F.fn 34) (h5 : F.fn 58) (hro : F.round = none) (hn : 3 ≤ n) (a : Option Addr) (len cap : Nat) (zs : List Int) (hreach : zs.length * 4 ≤ 140737488351232) (w : World) (n₀ : Nat) (hn₀ : n₀ ≤ w.heap.size) (hI : U32s n₀ w (.slice a len cap) zs) :
    CallsIn F n Tryd.prog 32 #[.slice a len cap] w fun e W' => ∃ sv', e = .returned sv' ∧ U32s n₀ W' sv' (trimL zs) ∧ Below w.heap.size w W' := by
  have h1 : 1 ≤ n := by omega
  refine callsIn_of_wp_marks Tryd.func32 rfl h3 ?_ hro
  simp only [Tryd.ntmps32, List.size_toArray, List.length_cons, List.length_nil, Nat.reduceAdd, Nat.reduceSub, Array.replicate_succ, Array.replicate_zero, List.push_toArray, List.append_toArray, List.nil_append, List.cons_append]
  gi_wp2_with (gi_at_call 34; refine (back_in F (n - 1) h4 hro _ _ _ _).mono ?_; rintro e w' ⟨rfl, rfl⟩)
  have bA := Boxed.new w 23 (.slice a len cap)
  have bR := Boxed.new (w.alloc (.cells #[.slice a len cap] 23)) 23 (.slice none 0 0)
  have bN := Boxed.new ((w.alloc (.cells #[.slice a len cap] 23)).alloc (.cells #[.slice none 0 0] 23)) 23 (.slice a len cap)
  simp only [World.size_alloc] at bR bN
  have hB0 : Below w.heap.size w (((w.alloc (.cells #[.slice a len cap] 23)).alloc (.cells #[.slice none 0 0] 23)).alloc (.cells #[.slice a len cap] 23)) := (((Below.refl _ w).alloc (Nat.le_refl _) _).alloc (by simp) _).alloc (by simp; omega) _
  have hblk := hI.block
  refine wpIn_rangeFunc_ownG hro h1 (gf := 58) (lb := #[.pointer (some ⟨w.heap.size + 1 + 1, 0, none⟩)]) rfl h5 (enters_of Tryd.func58 (by kernel_rfl) rfl)
    (back_stops F (n - 1) h5 hro (by omega) (w.heap.size + 1 + 1) n₀ _ zs hreach _ (by simp) (by simp; omega) bN.cell (Seg.below (hB0.mono hn₀) hI)) keepS_t (keepS_b (fun a' m k e => by have := hblk a' m k e; simp; omega) (by simp)) (Below.refl _ _) (fun _ => rfl)
    (fun pre W => ((∀ p ∈ pre, nth zs p.1 = 0) ∧ W.cell? ⟨w.heap.size, 0, none⟩ = some (.slice a len cap) ∧ W.cell? ⟨w.heap.size + 1, 0, none⟩ = some (.slice none 0 0) ∧ W.frozen? ⟨w.heap.size + 1, 0, none⟩ = false) ∧ Below w.heap.size w W)
    (fun c pre W => (c = .ret ∧ ∃ ini last, pre = ini ++ [last] ∧ (∀ p ∈ ini, nth zs p.1 = 0) ∧ nth zs last.1 ≠ 0 ∧ ∃ b off, a = some ⟨b, off, none⟩ ∧ W.cell? ⟨w.heap.size + 1, 0, none⟩ = some (.slice (some ⟨b, off, none⟩) (last.1 + 1) cap)) ∧ Below w.heap.size w W)
    (OwnFrom.and (Own.from (fun s A B row hs hg hr => ⟨hs.1, cell_kept hs.2.1 hg hr, cell_kept hs.2.2.1 hg hr, (frozen_kept hs.2.2.1 hg hr).trans hs.2.2.2⟩) _) (ownFrom_below (Nat.le_refl _) (by simp; omega)))
    (fun c => OwnFrom.and (Own.from (fun s A B row hs hg hr => by obtain ⟨hc, ini, last, e1, e2, e3, b, off, e4, e5⟩ := hs; exact ⟨hc, ini, last, e1, e2, e3, b, off, e4, cell_kept e5 hg hr⟩) _) (ownFrom_below (Nat.le_refl _) (by simp; omega)))
    ⟨⟨by simp, ((bA.alloc _).alloc _).cell, (bR.alloc _).cell, (bR.alloc _).frozen⟩, hB0⟩
    (fun x => { tmps := #[.slice a len cap, .pointer (some ⟨w.heap.size, 0, none⟩), .pointer (some ⟨w.heap.size + 1, 0, none⟩), .int .i64 (x.1 : Int), .int .u32 (nth zs x.1), .slice a len cap, .func (.func 58) #[] #[.pointer (some ⟨w.heap.size + 1 + 1, 0, none⟩)], .int .i64 (x.1 : Int), .int .u32 (nth zs x.1), undef, undef, undef, undef, undef, undef], defers := [] }) ?assign ?body ?done ?stop
  case assign =>
    intro l x W K hK
    gi_wp2
    exact hK
  case body =>
    rintro l pre x W ⟨⟨hp, hca, hcr, hfr⟩, hB⟩ _
    rcases hI with ⟨_, rfl⟩ | ⟨b, off, cap', hsv, hb, hlc, hcs⟩
    · exact absurd x.2 (by simp)
    · simp only [Value.slice.injEq] at hsv
      obtain ⟨rfl, rfl, rfl⟩ := hsv
      obtain ⟨x, hx⟩ := x
      dsimp only at *
      by_cases hz : nth zs x = 0
      · have hz' : (nth zs x != 0) = false := by simp [hz]
        gi_wp2
        refine ⟨KeepsFrom.refl _ _, KeepS.refl _ _ _, ⟨fun p hp' => ?_, hca, hcr, hfr⟩, hB⟩
        rcases List.mem_append.1 hp' with hp' | hp'
        · exact hp p hp'
        · simp at hp'; subst hp'; exact hz
      · have hz' : (nth zs x != 0) = true := by simp [hz]
        gi_wp2
        exact ⟨(KeepsOthers.setCell _ _ _).from _, ⟨rfl, pre, ⟨x, hx⟩, rfl, hp, hz, b, off, rfl, World.cell?_setCell_same' _ _ _ (by rw [hcr]; rfl)⟩, hB.setCell (p := ⟨w.heap.size + 1, 0, none⟩) (by simp) _⟩
  case done =>
    rintro D ys W hD rfl ⟨⟨hne, hca, hcr, hfr⟩, hB⟩ hK
    gi_wp2
    have hK' := (KeepsOthers.setCell W ⟨w.heap.size + 1, 0, none⟩ (.slice none 0 0)).same D _ hK rfl
    refine ⟨by simp, .inl ⟨_, _, rfl, run_takeDeferred hK', ?_⟩⟩
    have hc5 := cell_kept (World.cell?_setCell_same' W ⟨w.heap.size + 1, 0, none⟩ (.slice none 0 0) (by rw [hcr]; rfl)) (grownBy_putObj' _ D (.deferred none)) (fun r e => by cases e; exact ⟨_, hK', rfl⟩)
    refine ⟨.slice none 0 0, ?_, _, rfl, .inl ⟨⟨_, _, rfl⟩, trimL_nil zs fun j hj => hne ⟨j, hj⟩ (by simp [downs])⟩, (hB.setCell (p := ⟨w.heap.size + 1, 0, none⟩) (by simp) _).trans (belowK_b (w := w) (Nat.le_refl _) _ D _ _ (by simp at hD; omega) hK' rfl rfl)⟩
    simp [results, Tryd.f32, go_sem, hc5]
  case stop =>
    rintro D c pre W hD hpre ⟨⟨rfl, ini, last, e1, e2, e3, b, off, rfl, hcr⟩, hB⟩ hK
    subst e1
    gi_wp2
    refine ⟨by simp, .inl ⟨_, _, rfl, run_takeDeferred hK, ?_⟩⟩
    have hc5 := cell_kept hcr (grownBy_putObj' _ D (.deferred none)) (fun r e => by cases e; exact ⟨_, hK, rfl⟩)
    obtain ⟨hx1, hx2, hx3⟩ := downs_prefix hpre
    have ht : trimL zs = zs.take (last.1 + 1) := trimL_take zs last.1 last.2 e3 (fun j h1 h2 => e2 ⟨j, h2⟩ (hx3 ⟨j, h2⟩ h1))
    have hBB := hB.trans (belowK_b (w := w) (Nat.le_refl _) W D _ (.deferred none) (by simp at hD; omega) hK rfl rfl)
    refine ⟨.slice (some ⟨b, off, none⟩) (last.1 + 1) cap, ?_, _, rfl, ?_, hBB⟩
    · simp [results, Tryd.f32, go_sem, hc5]
    · rcases hI with ⟨_, rfl⟩ | ⟨b', off', cap', hsv, hb, hlc, hcs⟩
      · exact absurd last.2 (by simp)
      · simp only [Value.slice.injEq, Option.some.injEq, Addr.mk.injEq] at hsv
        obtain ⟨⟨rfl, rfl, _⟩, rfl, rfl⟩ := hsv
        have hl := last.2
        refine .inr ⟨b, off, cap, ?_, hb, ?_, fun j hj => ?_⟩
        · rw [ht]; congr 1; simp; omega
        · rw [ht]; simp; omega
        · rw [ht] at hj ⊢
          simp at hj
          rw [nth_take (by omega)]
          exact (hBB.cell (p := ⟨b, off + j, none⟩) (by simp; omega)).trans (hcs j (by omega))

theorem trim_any (zs : List Int) (hreach : zs.length * 4 ≤ 140737488351232) (w : World) (n₀ : Nat) (hn₀ : n₀ ≤ w.heap.size) (sv : Value) (hI : U32s n₀ w sv zs) :
    Calls Tryd.prog 32 #[sv] w fun e W' => ∃ sv', e = .returned sv' ∧ U32s n₀ W' sv' (trimL zs) ∧ Below w.heap.size w W' := by
  have h : ∃ a len cap, sv = .slice a len cap := by
    rcases hI with ⟨⟨p, c, rfl⟩, _⟩ | ⟨b, off, cap, rfl, _⟩
    · exact ⟨_, _, _, rfl⟩
    · exact ⟨_, _, _, rfl⟩
  obtain ⟨a, len, cap, rfl⟩ := h
  exact (callsIn_wide (n := 3)).1 (trim_in Fence.wide 3 trivial trivial trivial rfl (by omega) a len cap zs hreach w n₀ hn₀ hI)

end Go.Proofs.YtkalknmindgljaaDoor
