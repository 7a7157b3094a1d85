/-
  Contracts of small functions under the laws of package natural: limbAt, Compare, at, Same.
-/
import Derived.BigQuiet
import Derived.Deep.QuietTactic
import Derived.Outline
import Derived.WalkLawsBesides
import Derived.WalkSpells
import Derived.Laws.CopyOwn
import Derived.Laws.BitsAllLaws
import Derived.Test.YtkalknmindgljaaDoorTrim
namespace Go.Proofs.YtkalknmindgljaaDoor
open Go Go.Proofs Go.RowKit Go.Shelf

theorem ret_int {k : IntKind} {a b : Int} (h : a = b) : Ending.returned (.int k a) = .returned (.int k b) := by rw [h]

set_option maxHeartbeats 400000 in
theorem limbAt_any (zs : List Int) (k : Nat) (_hk : k ≤ 9223372036854775807) (hreach : zs.length * 4 ≤ 140737488351232) (w : World) (n₀ : Nat) (sv : Value) (hI : U32s n₀ w sv zs) :
    Calls Tryd.prog 39 #[sv, .int .i64 k] w fun e w' => e = .returned (.int .u32 (nth zs k)) ∧ w' = w := by
  rcases hI with ⟨⟨p, c, rfl⟩, rfl⟩ | ⟨b, off, cap, rfl, hb, hl, hc⟩
  · go_enter Tryd.func39, Tryd.ntmps39
    go_wp2
    go_ret
    exact ⟨ret_int (by simp [nth]), rfl⟩
  · by_cases h : k < zs.length
    · have hcx := hc k h
      go_enter Tryd.func39, Tryd.ntmps39
      go_wp2
      go_ret
      exact ⟨rfl, rfl⟩
    · go_enter Tryd.func39, Tryd.ntmps39
      go_wp2
      go_ret
      exact ⟨ret_int (nth_ge (by omega)).symm, rfl⟩

set_option maxHeartbeats 400000 in
theorem isNaNInt_any (a : Int) (w : World) : Calls Tryd.prog 57 #[.int .i64 a] w fun e w' => e = .returned (.bool false) ∧ w' = w := by
  go_enter Tryd.func57, Tryd.ntmps57
  go_wp2
  go_ret
  exact ⟨by simp, rfl⟩

set_option maxHeartbeats 400000 in
theorem isNaNU32_any (a : Int) (w : World) : Calls Tryd.prog 59 #[.int .u32 a] w fun e w' => e = .returned (.bool false) ∧ w' = w := by
  go_enter Tryd.func59, Tryd.ntmps59
  go_wp2
  go_ret
  exact ⟨by simp, rfl⟩

set_option maxHeartbeats 400000 in
theorem compareInt_any (a b : Int) (w : World) : Calls Tryd.prog 33 #[.int .i64 a, .int .i64 b] w fun e w' => e = .returned (.int .i64 (cmpI a b)) ∧ w' = w := by
  go_enter Tryd.func33, Tryd.ntmps33
  go_wp2_with (go_at_call 57; refine (isNaNInt_any _ _).mono ?_; rintro e w' ⟨rfl, rfl⟩)
  all_goals go_ret
  all_goals exact ⟨ret_int (by unfold cmpI; repeat (first | rw [if_pos (by omega)] | rw [if_neg (by omega)])), rfl⟩

set_option maxHeartbeats 400000 in
theorem compareU32_any (a b : Int) (w : World) : Calls Tryd.prog 35 #[.int .u32 a, .int .u32 b] w fun e w' => e = .returned (.int .i64 (cmpI a b)) ∧ w' = w := by
  go_enter Tryd.func35, Tryd.ntmps35
  go_wp2_with (go_at_call 59; refine (isNaNU32_any _ _).mono ?_; rintro e w' ⟨rfl, rfl⟩)
  all_goals go_ret
  all_goals exact ⟨ret_int (by unfold cmpI; repeat (first | rw [if_pos (by omega)] | rw [if_neg (by omega)])), rfl⟩

set_option maxHeartbeats 400000 in
theorem add32_any (a b c : Int) (ha : 0 ≤ a ∧ a < 4294967296) (hb : 0 ≤ b ∧ b < 4294967296) (hc : 0 ≤ c ∧ c ≤ 1) (w : World) :
    Calls Tryd.prog 42 #[.int .u32 a, .int .u32 b, .int .u32 c] w fun e w' => e = .returned (.tuple #[.int .u32 ((a + b + c) % 4294967296), .int .u32 ((a + b + c) / 4294967296)]) ∧ w' = w := by
  go_enter Tryd.func42, Tryd.ntmps42
  go_wp2
  go_ret2
  exact ⟨rfl, rfl⟩

theorem Seg.len {q : IntKind} {n₀ : Nat} {W : World} {sv : Value} {zs : List Int} (h : Seg q n₀ W sv zs) : ∃ p c, sv = .slice p zs.length c := by
  rcases h with ⟨⟨p, c, rfl⟩, rfl⟩ | ⟨b, off, cap, rfl, _⟩
  · exact ⟨p, c, rfl⟩
  · exact ⟨_, _, rfl⟩
theorem Seg.pos {q : IntKind} {n₀ : Nat} {W : World} {sv : Value} {zs : List Int} (h : Seg q n₀ W sv zs) (hz : 0 < zs.length) : ∃ b off cap, sv = .slice (some ⟨b, off, none⟩) zs.length cap ∧ b < n₀ ∧ zs.length ≤ cap ∧ ∀ j, j < zs.length → W.cell? ⟨b, off + j, none⟩ = some (.int q (nth zs j)) := by
  rcases h with ⟨_, rfl⟩ | h
  · simp at hz
  · exact h
theorem Seg.up {q : IntKind} {n₀ n₁ : Nat} {W : World} {sv : Value} {zs : List Int} (h : Seg q n₀ W sv zs) (hn : n₀ ≤ n₁) : Seg q n₁ W sv zs := by
  rcases h with h | ⟨b, off, cap, rfl, hb, h⟩
  · exact .inl h
  · exact .inr ⟨b, off, cap, rfl, by omega, h⟩
/-- The list's cells, wherever it lies. -/
abbrev U32 (W : World) (sv : Value) (zs : List Int) : Prop := Seg .u32 W.heap.size W sv zs
abbrev U8 (W : World) (sv : Value) (zs : List Int) : Prop := Seg .u8 W.heap.size W sv zs
theorem Seg.go {q : IntKind} {A B : World} {sv : Value} {zs : List Int} (h : Seg q A.heap.size A sv zs) (hb : Below A.heap.size A B) : Seg q B.heap.size B sv zs := (Seg.below hb h).up hb.size

/-- Block g is a row of the numbers zs of kind q (its elements' type t), all of it, free to be written. -/
def Row (q : IntKind) (t : TypeId) (W : World) (g : Nat) (zs : List Int) : Prop := W.heap[g]? = some (.cells (zs.map (Value.int q)).toArray t (0, 0))
theorem Row.lt {q : IntKind} {t : TypeId} {W : World} {g : Nat} {zs : List Int} (h : Row q t W g zs) : g < W.heap.size := (Array.getElem?_eq_some_iff.1 h).1
theorem Row.cell {q : IntKind} {t : TypeId} {W : World} {g : Nat} {zs : List Int} (h : Row q t W g zs) {j : Nat} (hj : j < zs.length) : W.cell? ⟨g, j, none⟩ = some (.int q (nth zs j)) := by
  unfold Row at h
  simp only [World.cell?, h]
  simp [hj, nth]
theorem Row.frozen {q : IntKind} {t : TypeId} {W : World} {g : Nat} {zs : List Int} (h : Row q t W g zs) (j : Nat) : W.frozen? ⟨g, j, none⟩ = false := by
  unfold Row at h
  simp [World.frozen?, h]
theorem Row.below {q : IntKind} {t : TypeId} {A B : World} {g n : Nat} {zs : List Int} (h : Row q t A g zs) (hb : Below n A B) (hg : g < n) : Row q t B g zs := (hb.block g hg).trans h
theorem Row.go {q : IntKind} {t : TypeId} {A B : World} {g : Nat} {zs : List Int} (h : Row q t A g zs) (hb : Below A.heap.size A B) : Row q t B g zs := h.below hb h.lt
theorem Row.seg {q : IntKind} {t : TypeId} {W : World} {g : Nat} {zs : List Int} (h : Row q t W g zs) : Seg q W.heap.size W (.slice (some ⟨g, 0, none⟩) zs.length zs.length) zs :=
  .inr ⟨g, 0, zs.length, rfl, h.lt, Nat.le_refl _, fun j hj => by rw [Nat.zero_add]; exact h.cell hj⟩
theorem Row.set {q : IntKind} {t : TypeId} {W : World} {g : Nat} {zs : List Int} (h : Row q t W g zs) (j : Nat) (x : Int) : Row q t (W.setCell ⟨g, j, none⟩ (.int q x)) g (zs.set j x) := by
  obtain ⟨hlt, hk⟩ := Array.getElem?_eq_some_iff.1 h
  show (W.heap.modify g _)[g]? = _
  rw [Array.getElem?_eq_getElem (by rw [Array.size_modify]; exact hlt), Array.getElem_modify_self, hk]
  simp [List.map_set]
theorem Row.other {q : IntKind} {t : TypeId} {W : World} {g : Nat} {zs : List Int} (h : Row q t W g zs) {p : Addr} (hp : g ≠ p.block) (v : Value) : Row q t (W.setCell p v) g zs := (Below.heap_setCell _ _ _ _ hp).trans h
/-- What 'make' leaves. -/
theorem Row.made {q : IntKind} {t : TypeId} {W : World} {g n base : Nat} (h : W.ownsRow base t 1 (.slice (some ⟨g, 0, none⟩) n n) n (madeCells (Value.int q 0).cells (n * 1)).toList) : Row q t W g (List.replicate n 0) := by
  obtain ⟨h1, h2⟩ := h
  rcases h2 with ⟨h2, _⟩ | ⟨g', cap, cur, e, _, hb, _, _, hsz, ht⟩
  · cases h2
  · simp only [Value.slice.injEq, Option.some.injEq, Addr.mk.injEq] at e
    obtain ⟨⟨rfl, _, _⟩, _, rfl⟩ := e
    unfold Row
    rw [hb]
    congr 2
    apply Array.toList_inj.1
    rw [List.take_of_length_le (by simp [hsz])] at ht
    rw [ht]
    apply List.ext_getElem
    · simp [madeCells]
    · intro i h1 h2
      simp [madeCells, Value.cells, Nat.mod_one]

set_option maxHeartbeats 1000000 in
theorem same_any (a b : List Int) (ha : a.length * 4 ≤ 140737488351232) (hb : b.length * 4 ≤ 140737488351232) (w : World) (sa sb : Value) (hA : U32 w sa a) (hB : U32 w sb b) :
    Calls Tryd.prog 11 #[sa, sb] w fun e w' => e = .returned (.bool (decide (a = b))) ∧ Below w.heap.size w w' := by
  by_cases hl : a.length = b.length
  · by_cases hz : 0 < a.length
    · obtain ⟨b1, o1, c1, rfl, hb1, hl1, hc1⟩ := hA.pos hz
      obtain ⟨b2, o2, c2, rfl, hb2, hl2, hc2⟩ := hB.pos (by omega)
      have hnl : ((a.length : Int) != (b.length : Int)) = false := by rw [bne_eq_false_iff_eq]; omega
      have HL : Hid (a.length = b.length) := hl
      have hle : b.length ≤ a.length := by omega
      have hge : a.length ≤ b.length := by omega
      clear hl
      go_enter Tryd.func11, Tryd.ntmps11
      go_wp2
      go_loopw [5] (fun i wr => ∃ k : Nat, k ≤ a.length ∧ i = .int .i64 k ∧ (∀ j, j < k → nth a j = nth b j) ∧ Below w.heap.size w wr) (fun i _ => a.length - (intOf i).toNat)
      case atStart => exact ⟨0, Nat.zero_le _, rfl, by intro j hj; omega, Below.refl _ _⟩
      case round =>
        obtain ⟨k, hk, rfl, hj, hB'⟩ := hrel
        by_cases hlt : k < a.length
        · have e1 := (hB'.cell (p := ⟨b1, o1 + k, none⟩) hb1).trans (hc1 k hlt)
          have e2 := (hB'.cell (p := ⟨b2, o2 + k, none⟩) hb2).trans (hc2 k (by omega))
          have hlt2 : k < b.length := by omega
          by_cases he : nth a k = nth b k
          · have he' : (nth a k != nth b k) = false := by rw [bne_eq_false_iff_eq]; exact he
            have HE : Hid (∀ j, j < k + 1 → nth a j = nth b j) := fun j hj' => by
              rcases Nat.lt_or_ge j k with h | h
              · exact hj j h
              · obtain rfl : j = k := by omega
                exact he
            clear he
            go_wp2
            go_quiet (fail)
            go_wp2
            go_roundw
            case rel => exact ⟨k + 1, by omega, by go_num, HE.out, below_drewN hB' _⟩
            case measure => simp [intOf]; omega
          · have he' : (nth a k != nth b k) = true := by rw [bne_iff_ne]; exact he
            go_wp2
            go_quiet (fail)
            go_wp2
            go_ret
            exact ⟨by simp; intro e; exact he (by rw [e]), below_drewN hB' _⟩
        · obtain rfl : k = a.length := by omega
          have hab : a = b := ext_nth HL.out hj
          go_wp2
          go_ret
          exact ⟨by simp [hab], hB'⟩
    · have h1 : a = [] := List.eq_nil_of_length_eq_zero (by omega)
      have h2 : b = [] := List.eq_nil_of_length_eq_zero (by omega)
      subst h1 h2
      obtain ⟨pa, ca, rfl⟩ := hA.len
      obtain ⟨pb, cb, rfl⟩ := hB.len
      go_enter Tryd.func11, Tryd.ntmps11
      go_wp2
      refine wp_loop_rounds 1 ?_; rw [rounds_succ]
      go_wp2
      go_ret
      exact ⟨by simp, Below.refl _ _⟩
  · have hne : a ≠ b := fun e => hl (by rw [e])
    have hnl : ((a.length : Int) != (b.length : Int)) = true := by rw [bne_iff_ne]; omega
    obtain ⟨pa, ca, rfl⟩ := hA.len
    obtain ⟨pb, cb, rfl⟩ := hB.len
    go_enter Tryd.func11, Tryd.ntmps11
    go_wp2
    go_ret
    exact ⟨by simp [hne], Below.refl _ _⟩

/-- A slice that the call owns, as a list. -/
theorem Seg.of_owns {q : IntKind} {t : TypeId} {base : Nat} {W : World} {v : Value} {zs : List Int} (h : W.ownsRow base t 1 v zs.length (zs.map (Value.int q))) : Seg q W.heap.size W v zs := by
  obtain ⟨_, h2⟩ := h
  rcases h2 with ⟨rfl, h0⟩ | ⟨g, cap, cur, rfl, _, hb, hle, _, hsz, ht⟩
  · exact .inl ⟨⟨_, _, rfl⟩, List.eq_nil_of_length_eq_zero h0⟩
  · refine .inr ⟨g, 0, cap, rfl, (Array.getElem?_eq_some_iff.1 hb).1, hle, fun j hj => ?_⟩
    simp only [World.cell?, hb, Nat.zero_add]
    have : (cur.toList.take (zs.length * 1))[j]? = some (.int q (nth zs j)) := by rw [ht]; simp [hj, nth]
    rw [List.getElem?_take_of_lt (by omega)] at this
    simpa using this
theorem news_cells {q : IntKind} {W : World} {b off : Nat} {zs : List Int} (hc : ∀ j, j < zs.length → W.cell? ⟨b, off + j, none⟩ = some (.int q (nth zs j))) :
    ∀ j u, (zs.map (Value.int q))[j]? = some u → W.cell? ((⟨b, off, none⟩ : Addr).add j) = some u := by
  intro j u h
  have hj : j < zs.length := by have := (List.getElem?_eq_some_iff.1 h).1; simpa using this
  have := hc j hj
  simp [hj] at h
  rw [← h, ← nth_lt hj]
  by_cases h0 : j = 0
  · subst h0; simpa [Addr.add] using this
  · simpa [Addr.add, h0] using this
theorem news_one (q : IntKind) (zs : List Int) : ∀ u ∈ zs.map (Value.int q), u.oneCell' = true := by
  intro u hu
  obtain ⟨z, _, rfl⟩ := List.mem_map.1 hu
  rfl

theorem cell_new (w : World) (vs : Array Value) (t : TypeId) (j : Nat) : (w.alloc (.cells vs t)).cell? ⟨w.heap.size, j, none⟩ = vs[j]? := World.cell?_alloc_new w vs t j
theorem Seg.new {q : IntKind} (w : World) (vs : Array Value) (t : TypeId) (zs : List Int) (cap : Nat) (hc : zs.length ≤ cap) (h : ∀ j, j < zs.length → vs[j]? = some (.int q (nth zs j))) :
    Seg q (w.heap.size + 1) (w.alloc (.cells vs t)) (.slice (some ⟨w.heap.size, 0, none⟩) zs.length cap) zs :=
  .inr ⟨w.heap.size, 0, cap, rfl, by simp, hc, fun j hj => by rw [Nat.zero_add, cell_new]; exact h j hj⟩
theorem vs2 (x y : Int) : ∀ j, j < [x, y].length → (#[Value.int .u32 x, .int .u32 y])[j]? = some (.int .u32 (nth [x, y] j)) := by
  intro j hj
  match j, hj with
  | 0, _ => rfl
  | 1, _ => rfl
theorem vs1 (x : Int) : ∀ j, j < [x].length → (#[Value.int .u32 x])[j]? = some (.int .u32 (nth [x] j)) := by
  intro j hj
  match j, hj with
  | 0, _ => rfl
theorem vs3 (x y z : Int) : ∀ j, j < [x, y, z].length → (#[Value.int .u32 x, .int .u32 y, .int .u32 z])[j]? = some (.int .u32 (nth [x, y, z] j)) := by
  intro j hj
  match j, hj with
  | 0, _ => rfl
  | 1, _ => rfl
  | 2, _ => rfl

set_option maxHeartbeats 400000 in
theorem of_any (n : Int) (hn : 0 ≤ n ∧ n < 18446744073709551616) (w : World) :
    Calls Tryd.prog 12 #[.int .u64 n] w fun e w' => ∃ sv, e = .returned sv ∧ U32 w' sv (trimL [n % 4294967296, n / 4294967296]) ∧ Below w.heap.size w w' := by
  have hz := Seg.new w #[.int .u32 (n % 4294967296), .int .u32 (n / 4294967296)] 42 [n % 4294967296, n / 4294967296] 2 (by simp) (vs2 _ _)
  go_enter Tryd.func12, Tryd.ntmps12
  go_wp2_with fail
  refine (trim_any _ (by simp) _ _ (by simp) _ hz).mono ?_
  rintro e w1 ⟨sv, rfl, hs, hb⟩
  go_wp2
  go_ret
  exact ⟨_, rfl, hs.up (by have := hb.size; simpa using this), ((Below.refl _ _).alloc (Nat.le_refl _) _).trans (hb.mono (by simp))⟩

theorem info42 : (Tryd.prog.info? 42).map (fun i => (i.zero, i.size, i.bytes)) = some (some (.int .u32 0), 1, 4) := by kernel_rfl

set_option maxRecDepth 100000 in
set_option maxHeartbeats 1000000 in
theorem refNorm_any (zs : List Int) (hreach : zs.length * 4 ≤ 140737488351232) (w : World) (sv : Value) (hI : U32 w sv zs) :
    Calls Tryd.prog 15 #[sv] w fun e w' => ∃ sv', e = .returned sv' ∧ U32 w' sv' (trimL zs) ∧ Below w.heap.size w w' := by
  obtain ⟨i0, hi, hz0, hz1, hz2⟩ := info_parts info42
  by_cases hz : 0 < zs.length
  · obtain ⟨b, off, cap, rfl, hb, hl, hc⟩ := hI.pos hz
    go_enter Tryd.func15, Tryd.ntmps15
    go_wp2
    go_loop [3] (fun i => ∃ k : Nat, k ≤ zs.length ∧ i = .int .i64 k ∧ (∀ j, k ≤ j → j < zs.length → nth zs j = 0)) (fun i => (intOf i).toNat)
    case atStart => exact ⟨zs.length, Nat.le_refl _, rfl, by intro j h1 h2; omega⟩
    case round =>
      obtain ⟨k, hk, rfl, hj⟩ := hrel
      by_cases hlt : 0 < k
      · obtain ⟨m, rfl⟩ : ∃ m, k = m + 1 := ⟨k - 1, by omega⟩
        have hcx := hc m (by omega)
        by_cases he : nth zs m = 0
        · have he' : (nth zs m == 0) = true := by simpa using he
          have HE : Hid (∀ j, m ≤ j → j < zs.length → nth zs j = 0) := fun j h1 h2 => by
            rcases Nat.eq_or_lt_of_le h1 with h | h
            · rw [← h]; exact he
            · exact hj j h h2
          clear he
          go_wp2
          go_round
          case rel => exact ⟨m, by omega, by go_num, HE.out⟩
          case measure => simp [intOf]
        · have he' : (nth zs m == 0) = false := by simpa using he
          have HE : Hid (trimL zs = zs.take (m + 1)) := trimL_take zs m (by omega) he (fun j h1 h2 => hj j h1 h2)
          have hcs : ∀ j, j < (zs.take (m + 1)).length → (w.alloc (.cells #[] 42)).cell? ⟨b, off + j, none⟩ = some (.int .u32 (nth (zs.take (m + 1)) j)) := fun j hj' => by
            simp at hj'
            rw [nth_take (by omega), World.cell?_alloc_past (hn := hb)]
            exact hc j (by omega)
          have hown : (w.alloc (.cells #[] 42)).ownsRow w.heap.size 42 1 (.slice (some ⟨w.heap.size, 0, none⟩) 0 0) 0 [] := ⟨rfl, .inr ⟨w.heap.size, 0, #[], rfl, Nat.le_refl _, World.alloc_heap_new w _, Nat.le_refl _, Nat.zero_le _, rfl, rfl⟩⟩
          go_wp2_with (at_builtin; refine wpList_append_own _ rfl _ _ 23 rfl w.heap.size 42 i0 (.int .u32 0) 1 4 Tryd.underlying23 hi hz0 hz1 hz2 rfl (by decide) _ _ _ rfl hown ⟨b, off, none⟩ (m + 1) cap ((zs.take (m + 1)).map (Value.int .u32)) rfl (by simp; omega) (news_cells hcs) (news_one _ _) (by unfold maxLen; omega) (by omega) (by simp) ?_; intro v' w1 hown' hgrow _)
          go_ret
          rw [Nat.zero_add, List.nil_append] at hown'
          refine ⟨_, rfl, ?_, ?_⟩
          · rw [HE.out]
            exact Seg.of_owns (t := 42) (base := w.heap.size) (by rw [List.length_take, Nat.min_eq_left (by omega)]; exact hown')
          · exact ((Below.refl _ _).alloc (Nat.le_refl _) _).grown hgrow (by simp) (fun k e => by cases e; exact Nat.le_refl _)
      · obtain rfl : k = 0 := by omega
        have HE : Hid (trimL zs = []) := trimL_nil zs (fun j h2 => hj j (Nat.zero_le _) h2)
        go_wp2
        go_ret
        rw [HE.out]
        exact ⟨_, rfl, (Seg.new (q := .u32) w #[] 42 [] 0 (by simp) (by intro j hj; simp at hj)).up (by simp), (Below.refl _ _).alloc (Nat.le_refl _) _⟩
  · obtain rfl : zs = [] := List.eq_nil_of_length_eq_zero (by omega)
    obtain ⟨p, c, rfl⟩ := hI.len
    rcases p with _ | x
    all_goals
      go_enter Tryd.func15, Tryd.ntmps15
      go_wp2
      refine wp_loop_rounds 1 ?_; rw [rounds_succ]
      go_wp2
      go_ret
      exact ⟨_, rfl, (Seg.new (q := .u32) w #[] 42 [] 0 (by simp) (by intro j hj; simp at hj)).up (by simp), (Below.refl _ _).alloc (Nat.le_refl _) _⟩

theorem mask32 (n : Int) (h0 : 0 ≤ n) (h1 : n < 18446744073709551616) : bits BinOp.and IntKind.u64 n 4294967295 = n % 4294967296 := by
  rw [u64_and n 4294967295 h0 h1 (by omega) (by omega)]
  have : n.toNat &&& (4294967295 : Int).toNat = n.toNat % 4294967296 := Nat.and_two_pow_sub_one_eq_mod n.toNat 32
  rw [this]
  omega

set_option maxHeartbeats 400000 in
theorem refOf_any (n : Int) (hn : 0 ≤ n ∧ n < 18446744073709551616) (w : World) :
    Calls Tryd.prog 13 #[.int .u64 n] w fun e w' => ∃ sv, e = .returned sv ∧ U32 w' sv (trimL [n % 4294967296, n / 4294967296]) ∧ Below w.heap.size w w' := by
  have hz := Seg.new w #[.int .u32 (n % 4294967296), .int .u32 (n / 4294967296)] 42 [n % 4294967296, n / 4294967296] 2 (by simp) (vs2 _ _)
  have hm := mask32 n hn.1 hn.2
  have hmm : n % 4294967296 % 4294967296 = n % 4294967296 := by omega
  go_enter Tryd.func13, Tryd.ntmps13
  go_wp2_with fail
  refine (refNorm_any _ (by simp) _ _ (hz.up (by simp))).mono ?_
  rintro e w1 ⟨sv, rfl, hs, hb⟩
  go_wp2
  go_ret
  exact ⟨_, rfl, hs, ((Below.refl _ _).alloc (Nat.le_refl _) _).trans (hb.mono (by simp))⟩

set_option maxHeartbeats 400000 in
theorem norm_any (zs : List Int) (hreach : zs.length * 4 ≤ 140737488351232) (w : World) (sv : Value) (hI : U32 w sv zs) :
    Calls Tryd.prog 14 #[sv] w fun e w' => ∃ sv', e = .returned sv' ∧ U32 w' sv' (trimL zs) ∧ Below w.heap.size w w' := by
  obtain ⟨i0, hi, hz0, hz1, hz2⟩ := info_parts info42
  have hl := trimL_length zs
  go_enter Tryd.func14, Tryd.ntmps14
  go_wp2_with fail
  refine (trim_any _ hreach _ _ (Nat.le_refl _) _ hI).mono ?_
  rintro e w1 ⟨sv, rfl, hs, hb⟩
  obtain ⟨p, c, rfl⟩ := hs.len
  have hs1 := hs.up hb.size
  have hsz : (Tryd.prog.info? 42).map (·.size) = some 1 := by rw [hi]; simp [hz1]
  go_wp2_with (at_make; refine wpList_make_full _ rfl _ _ 23 rfl w1.heap.size 42 i0 (.int .u32 0) 1 Tryd.underlying23 hi hz0 hz1 .i64 .i64 _ _ (trimL zs).length rfl rfl rfl rfl (by rw [hz2]; omega) (by unfold maxLen; omega) (Nat.le_refl _) ?_; intro w2 hown hgrow)
  have hrow := Row.made hown
  have hb2 : Below w1.heap.size w1 w2 := (Below.refl _ _).grown hgrow (Nat.le_refl _) (fun k e => by cases e)
  have hs2 := hs1.go hb2
  by_cases h0 : (trimL zs).length = 0
  · rw [run_copy_none (P := Tryd.prog) w2 23 23 3 42 _ _ _ _ _ _ Tryd.underlying23 hsz (by simp [h0])]
    go_wp2
    go_ret
    have hnil : trimL zs = [] := List.eq_nil_of_length_eq_zero h0
    have hsg := hrow.seg
    rw [hnil] at hsg ⊢
    exact ⟨.slice (some ⟨w1.heap.size, 0, none⟩) 0 0, rfl, hsg, hb.trans (hb2.mono hb.size)⟩
  · obtain ⟨b, off, cap, e, hbl, hlc, hcs⟩ := hs2.pos (by omega)
    simp only [Value.slice.injEq] at e
    obtain ⟨rfl, _, rfl⟩ := e
    rw [run_copy_row (P := Tryd.prog) w2 23 23 3 42 w1.heap.size 0 _ _ ⟨b, off, none⟩ _ _ _ _ ((trimL zs).map (Value.int .u32)) Tryd.underlying23 hsz hrow (by simp) (news_cells hcs) (by simp) (news_one _ _)]
    go_wp2
    go_ret
    have hrow2 : Row .u32 42 (w2.setRow w1.heap.size ((trimL zs).map (Value.int .u32)).toArray) w1.heap.size (trimL zs) := setRow_heap w2 _ _ _ _ _ hrow
    exact ⟨_, rfl, hrow2.seg, below_setRow (hb.trans (hb2.mono hb.size)) hb.size _⟩

end Go.Proofs.YtkalknmindgljaaDoor
