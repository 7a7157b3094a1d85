/-
  The contract of natural.Text: the numeral of the number.
-/
import Derived.BigRegion
import Derived.Test.YtkalknmindgljaaDoorRangeLib
import Derived.Test.YtkalknmindgljaaDoorBld
import Derived.Test.YtkalknmindgljaaDoorPcs
namespace Go.Proofs.YtkalknmindgljaaDoor
open Go Go.Proofs Go.RowKit Go.Shelf

attribute [local go_sem] Oper.semAt_some

/-- What has been written when the indexes of pre are done. -/
def txt (ps : List Int) (pre : List (Fin ps.length)) : List UInt8 := pre.foldl (fun acc x => acc ++ txtAt ps x.1) []
theorem txt_snoc (ps : List Int) (pre : List (Fin ps.length)) (x : Fin ps.length) : txt ps (pre ++ [x]) = txt ps pre ++ txtAt ps x.1 := by simp [txt]
theorem txt_take (n k : Nat) (hk : k < (pcsN n).length) : txt (pcsN n) ((downs (pcsN n).length).take (k + 1)) = Lib.decDigits (n / 1000000000 ^ ((pcsN n).length - 1 - k)) := by
  induction k with
  | zero =>
    rw [downs_take_succ hk, txt_snoc]
    show txt (pcsN n) [] ++ txtAt (pcsN n) ((pcsN n).length - 1 - 0) = _
    rw [txt_top (by omega)]
    rfl
  | succ k ih =>
    rw [downs_take_succ hk, txt_snoc, ih (by omega)]
    show _ ++ txtAt (pcsN n) ((pcsN n).length - 1 - (k + 1)) = _
    have := txt_step (n := n) (x := (pcsN n).length - 1 - (k + 1)) (by omega)
    rw [show (pcsN n).length - 1 - (k + 1) + 1 = (pcsN n).length - 1 - k by omega] at this
    exact this
theorem txt_all (n : Nat) (h : 0 < (pcsN n).length) : txt (pcsN n) (downs (pcsN n).length) = Lib.decDigits n := by
  have := txt_take n ((pcsN n).length - 1) (by omega)
  rw [Nat.sub_add_cancel h, downs_all, Nat.sub_self, Nat.pow_zero, Nat.div_one] at this
  exact this
theorem txt_len {n : Nat} (pre : List (Fin (pcsN n).length)) : (txt (pcsN n) pre).length ≤ 9 * pre.length := by
  have key : ∀ x, (txtAt (pcsN n) x).length ≤ 9 := fun x => by
    have h : (nth (pcsN n) x).toNat < 10 ^ 9 := by rw [pcs_nth]; omega
    have := dec_len (k := 9) (by omega) h
    unfold txtAt
    split <;> simp <;> omega
  unfold txt
  have : ∀ (acc : List UInt8), (pre.foldl (fun acc x => acc ++ txtAt (pcsN n) x.1) acc).length ≤ acc.length + 9 * pre.length := by
    induction pre with
    | nil => intro acc; simp
    | cons x r ih =>
      intro acc
      have := ih (acc ++ txtAt (pcsN n) x.1)
      have := key x.1
      simp only [List.foldl_cons, List.length_cons, List.length_append] at *
      omega
  simpa using this []
theorem tab_below {A B : World} (h : Tab A) (hb : Below A.heap.size A B) : Tab B := by
  unfold Tab Lib.TabIs World.var? at *
  cases hg : Tryd.prog.globalNamed "internal/strconv.uint64pow10" with
  | none => simp [hg] at h
  | some g =>
    simp only [hg, Option.bind_some] at h ⊢
    have hlt : g < A.heap.size := by
      rcases Nat.lt_or_ge g A.heap.size with h' | h'
      · exact h'
      · rw [Array.getElem?_eq_none h'] at h; simp at h
    rw [hb.block g hlt]
    exact h
theorem builder_kept {A B : World} {row : Option Nat} {base b : Nat} {bs : List Value} (h : Lib.IsBuilder TB TY base b bs A) (hg : A.grownBy B row) (hr : ∀ r, row = some r → ∃ o : Obj, A.heap[r]? = some o ∧ o.isCells = false) : Lib.IsBuilder TB TY base b bs B := by
  have key : ∀ p, Lib.BuilderAt TB TY base b p bs A → Lib.BuilderAt TB TY base b p bs B := by
    rintro p ⟨h1, v, h2, h3, h4⟩
    refine ⟨h1, v, block_kept h2 hg hr, ⟨h3.1, ?_⟩, h4⟩
    rcases h3.2 with h3 | ⟨g, cap, cur, hv, hg', hk, rest⟩
    · exact .inl h3
    · exact .inr ⟨g, cap, cur, hv, hg', block_kept hk hg hr, rest⟩
  exact h.elim (fun x => .inl (key _ x)) (fun x => .inr (key _ x))
theorem builder_below {A B : World} {base b : Nat} {bs : List Value} (h : Lib.IsBuilder TB TY base b bs A) (hb : Below A.heap.size A B) : Lib.IsBuilder TB TY base b bs B :=
  builder_kept h (row := none) ⟨hb.os, hb.tape, hb.output, hb.size, fun k hk _ => hb.block k hk⟩ (fun r e => by cases e)

theorem noughts {k : Nat} (h : k ≤ 9) : (⟨#[48, 48, 48, 48, 48, 48, 48, 48, 48]⟩ : ByteArray).extract k 9 = ⟨(List.replicate (9 - k) (48 : UInt8)).toArray⟩ := by
  match k, h with
  | 0, _ | 1, _ | 2, _ | 3, _ | 4, _ | 5, _ | 6, _ | 7, _ | 8, _ | 9, _ => decide
theorem cells_join (x y : List UInt8) : Lib.byteCells x ++ Lib.strCells ⟨y.toArray⟩ = Lib.byteCells (x ++ y) := by simp [Lib.byteCells, Lib.strCells]
theorem others_kept {b : Nat} {A B : World} (h : Kept8 b A B) (hb : ∃ c t fr, A.heap[b]? = some (.cells c t fr)) : KeepsOthers A B :=
  ⟨h.1, fun k o hk ho => h.2 k o hk (fun e => by obtain ⟨c, t, fr, hc⟩ := hb; subst e; rw [hc] at hk; cases hk; cases ho) (fun c fr e => by rw [e] at ho; cases ho)⟩
theorem builder_cells {base b : Nat} {bs : List Value} {W : World} (h : Lib.IsBuilder TB TY base b bs W) : ∃ c t fr, W.heap[b]? = some (.cells c t fr) := by
  rcases h with ⟨_, v, h, _⟩ | ⟨_, v, h, _⟩ <;> exact ⟨_, _, _, h⟩

set_option maxRecDepth 100000 in
set_option maxHeartbeats 4000000 in
theorem text_any {a : List Int} {w : World} {sa : Value} (hA : U32 w sa a) (da : Dig a) (ha : a.length ≤ 1000) (htab : Tab w) :
    Calls Tryd.prog 30 #[sa] w fun e w' => e = .returned (.string ⟨(Lib.decDigits (val a).toNat).toArray⟩) ∧ Below w.heap.size w w' := by
  obtain ⟨pa, ca, rfl⟩ := hA.len
  obtain ⟨n, hn⟩ : ∃ n, (val a).toNat = n := ⟨_, rfl⟩
  rw [hn]
  have hcb : (pcsN n).length ≤ 1104 := by rw [← hn]; exact pcs_count da ha
  refine (callsIn_wide (n := 4)).1 ?_
  refine callsIn_of_wp_N Tryd.func30 rfl trivial ?_ rfl
  simp only [Tryd.ntmps30, List.size_toArray, List.length_cons, List.length_nil, Nat.reduceAdd, Nat.reduceSub, Array.replicate_succ, Array.replicate_zero, List.push_toArray, List.append_toArray, List.nil_append, List.cons_append]
  gi_wp2_with fail
  refine ⟨trivial, ?_⟩
  refine (callsIn_wide.2 (decimalPieces_any hA da ha)).mono ?_
  rintro e w1 ⟨sp, rfl, hp, hpn, hb1⟩
  rw [hn] at hp
  obtain ⟨pp, cp, rfl⟩ := hp.len
  by_cases h0 : (pcsN n).length = 0
  · have hn0 : n = 0 := by
      by_cases h : n = 0
      · exact h
      · rw [pcsN_pos h] at h0; simp at h0
    rw [h0]
    gi_wp2
    refine ⟨.string ⟨(Lib.decDigits n).toArray⟩, ?_, rfl, hb1.alloc hb1.size _⟩
    have hd : (Lib.decDigits n).toArray = #[48] := by rw [hn0, dec_small (by omega)]; rfl
    rw [hd]
    simp [results, Tryd.f30, go_sem]
  · have htab1 := tab_below htab hb1
    have hcnt : (pcsN n).length ≤ 1104 := hcb
    gi_wp2_with (refine ⟨trivial, ?_⟩; gi_at_call 34; refine (back_in Fence.wide _ trivial rfl _ _ _ _).mono ?_; rintro e w' ⟨rfl, rfl⟩)
    have bP := Boxed.new w1 23 (.slice pp (pcsN n).length cp)
    obtain ⟨w2, hw2⟩ : ∃ w2, w1.alloc (.cells #[.slice pp (pcsN n).length cp] 23) = w2 := ⟨_, rfl⟩
    have hb2 : Below w1.heap.size w1 w2 := by rw [← hw2]; exact (Below.refl _ _).alloc (Nat.le_refl _) _
    have hs2 : w2.heap.size = w1.heap.size + 1 := by rw [← hw2]; simp
    have htab2 := tab_below htab1 hb2
    have hp2 := hp.go hb2
    have hbl2 : Below w.heap.size w w2 := hb1.trans (hb2.mono hb1.size)
    rw [hw2] at bP ⊢
    clear hw2
    obtain ⟨P, hP⟩ : ∃ P, w1.heap.size = P := ⟨_, rfl⟩
    rw [hP] at bP hs2 ⊢
    have hPw : w.heap.size ≤ P := by rw [← hP]; exact hb1.size
    obtain ⟨W0, hW0⟩ : ∃ W0, (w2.alloc (.cells #[.pointer none, .slice none 0 0] 69)).alloc (.cells #[.slice pp (pcsN n).length cp] 23) = W0 := ⟨_, rfl⟩
    have hsW : W0.heap.size = P + 1 + 1 + 1 := by rw [← hW0]; simp [hs2]
    have bN : Boxed W0 (P + 1 + 1) 23 (.slice pp (pcsN n).length cp) := by
      have := Boxed.new (w2.alloc (.cells #[.pointer none, .slice none 0 0] 69)) 23 (.slice pp (pcsN n).length cp)
      rw [World.size_alloc, hs2] at this
      rw [← hW0]; exact this
    have hB0 : Below w2.heap.size w2 W0 := by rw [← hW0]; exact ((Below.refl _ _).alloc (Nat.le_refl _) _).alloc (by simp) _
    have isB : Lib.IsBuilder TB TY (P + 1) (P + 1) (Lib.byteCells []) W0 := by
      refine .inl ⟨Nat.le_refl _, .slice none 0 0, ?_, ⟨rfl, .inl ⟨rfl, rfl⟩⟩, by simp [Value.ownBlock]⟩
      have := World.alloc_heap_new w2 (.cells #[.pointer none, .slice none 0 0] 69)
      rw [hs2] at this
      rw [← hW0]
      exact (Below.heap_alloc _ _ _ (by simp [hs2])).trans this
    rw [hs2] at hB0 hp2
    have hI0 : U32s (P + 1) W0 (.slice pp (pcsN n).length cp) (pcsN n) := Seg.below hB0 hp2
    rw [hW0]
    have hblk := hp2.block
    have HS2 : Hid (w2.heap.size = P + 1) := hs2
    have hPn : 0 < (pcsN n).length := by omega
    have HC : Hid ((pcsN n).length ≤ 1104) := hcnt
    clear hW0 hP hp hpn hb1 hb2 hcb hA htab1 htab hs2
    have hmx : Tryd.prog.follows .mixedOrders = true := by kernel_rfl
    refine wpIn_rangeFunc_ownG rfl (by omega) (gf := 58) (lb := #[.pointer (some ⟨P + 1 + 1, 0, none⟩)]) rfl trivial (enters_of Tryd.func58 (by kernel_rfl) rfl)
      (back_stops Fence.wide _ trivial rfl (by omega) (P + 1 + 1) (P + 1) _ (pcsN n) (by omega) _ (by omega) (by omega) bN.cell hI0) keepS_t (keepS_b (fun a' m k e => by have := hblk a' m k e; omega) (by omega)) (Below.refl _ _) (fun _ => rfl)
      (fun pre W => Lib.IsBuilder TB TY (P + 1) (P + 1) (Lib.byteCells (txt (pcsN n) pre)) W ∧ Below (P + 1) w2 W ∧ Boxed W (P + 1 + 1) 23 (.slice pp (pcsN n).length cp))
      (fun _ _ _ => False)
      (OwnFrom.and (Own.from (fun s A B row hs hg hr => by exact builder_kept hs hg hr) _) (OwnFrom.and (ownFrom_below (by rw [HS2.out]; exact Nat.le_refl _) (by omega)) (Own.from (fun s A B row hs hg hr => by exact block_kept hs hg hr) _)))
      (fun _ _ _ _ _ hs _ _ => hs)
      ⟨isB, hB0, bN⟩
      (fun z => { tmps := #[.slice pa a.length ca, undef, .string ⟨#[]⟩, .pointer (some ⟨P, 0, none⟩), .pointer (some ⟨P + 1, 0, none⟩), .int .i64 (z.1 : Int), .int .u32 (nth (pcsN n) z.1), undef, .slice pa a.length ca, .slice pp (pcsN n).length cp, .slice pp (pcsN n).length cp, .int .i64 ((pcsN n).length : Int), .bool false, .slice pp (pcsN n).length cp, .func (.func 58) #[] #[.pointer (some ⟨P + 1 + 1, 0, none⟩)], .int .i64 (z.1 : Int), .int .u32 (nth (pcsN n) z.1), undef, undef, undef, undef, undef, undef, undef, undef, undef, undef, undef, undef, undef, undef, undef], defers := [] }) ?assign ?body ?done ?stop
    case assign =>
      intro l z W K hK
      gi_wp2
      exact hK
    case body =>
      rintro l pre z W ⟨h1, hB2, h3⟩ hpre
      obtain ⟨z, hz⟩ := z
      dsimp only at *
      obtain ⟨u, hu, hu9⟩ : ∃ u : Nat, nth (pcsN n) z = u ∧ u < 1000000000 := ⟨_, pcs_nth n z, Nat.mod_lt _ (by omega)⟩
      have htabW := tab_below htab2 (by rw [HS2.out]; exact hB2)
      have c3 := (hB2.cell (p := ⟨P, 0, none⟩) (by simp)).trans bP.cell
      have hsn := txt_snoc (pcsN n) pre ⟨z, hz⟩
      have htl := txt_len pre
      have hd9 := dec_len (u := u) (k := 9) (by omega) (by omega)
      have HSN : Hid _ := hsn
      rw [hu]
      have HU : Hid (nth (pcsN n) z = u) := hu
      clear hsn hu
      gi_wp2_with fail
      refine ⟨trivial, ?_⟩
      refine (CallsIn.inRound l (callsIn_wide.2 (fmtUint_any u (by omega) W htabW))).mono ?_
      rintro e w3 ⟨rfl, hb3⟩
      have c33 := (hb3.cell (p := ⟨P, 0, none⟩) (by have := hB2.size; have := HS2.out; simp; omega)).trans c3
      have h13 := builder_below h1 hb3
      have h33 := (hb3.block (P + 1 + 1) h3.lt).trans h3
      have hB3 : Below (P + 1) w2 w3 := hB2.trans (hb3.mono (by have := hB2.size; have := HS2.out; omega))
      have hbc := builder_cells h1
      have hk3 : Kept8 (P + 1) W w3 := Kept8.below hb3
      have hBW3 : Below (P + 1) W w3 := hb3.mono (by have := hB2.size; have := HS2.out; omega)
      have hs3 : P + 1 ≤ w3.heap.size := by have := hB3.size; have := HS2.out; omega
      have hne : ∀ c fr, (Obj.cells #[Value.slice pp (pcsN n).length cp] 23) ≠ .cells c TY fr := fun c fr e => by cases e
      have hfin : ∀ w5 L, Lib.BuilderAt TB TY (P + 1) (P + 1) (.pointer (some ⟨P + 1, 0, none⟩)) (Lib.byteCells L) w5 → Below (P + 1) W w5 → Kept8 (P + 1) W w5 → L = txt (pcsN n) pre ++ txtAt (pcsN n) z →
          KeepsFrom W0.heap.size W w5 ∧ KeepS (.slice pp (pcsN n).length cp) (P + 1 + 1) W w5 ∧ (Lib.IsBuilder TB TY (P + 1) (P + 1) (Lib.byteCells (txt (pcsN n) (pre ++ [⟨z, hz⟩]))) w5 ∧ Below (P + 1) w2 w5 ∧ Boxed w5 (P + 1 + 1) 23 (.slice pp (pcsN n).length cp)) := fun w5 L hb hB hk e => by
        have hbox := hk.2 _ _ h3 (by omega) hne
        refine ⟨(others_kept hk hbc).from _, ⟨fun a' m k e' => hB.block _ (hblk a' m k e'), hbox.trans (show W.heap[P + 1 + 1]? = _ from h3).symm⟩, .inr ?_, hB2.trans hB, hbox⟩
        rw [HSN.out, ← e]
        exact hb
      have Hfin : Hid _ := hfin
      clear c3 h1 htabW hfin
      have htl2 : (txt (pcsN n) pre).length ≤ 10000 := by have := HC.out; omega
      have hbl0 : (Lib.byteCells (txt (pcsN n) pre)).length = (txt (pcsN n) pre).length := by simp [Lib.byteCells]
      by_cases hz1 : z < (pcsN n).length - 1
      · have hz2 : (z : Int) < ((pcsN n).length : Int) - 1 := by omega
        have hex := noughts hd9
        gi_wp2_with fail
        rw [show Array.replicate (9 - (Lib.decDigits u).length) (48 : UInt8) = (List.replicate (9 - (Lib.decDigits u).length) (48 : UInt8)).toArray by simp]
        refine ⟨trivial, ?_⟩
        refine (CallsIn.inRound l (callsIn_wide.2 (writeString_any (P + 1) (P + 1) _ ⟨(List.replicate (9 - (Lib.decDigits u).length) (48 : UInt8)).toArray⟩ w3 h13 (by rw [hbl0]; simp [ByteArray.size]; omega) hs3))).mono ?_
        rintro e w4 ⟨rfl, hb4, hB4, hk4⟩
        rw [cells_join] at hb4
        have hs4 : P + 1 ≤ w4.heap.size := by have := hB4.size; omega
        have hbl4 : (Lib.byteCells (txt (pcsN n) pre ++ List.replicate (9 - (Lib.decDigits u).length) 48)).length ≤ 10009 := by simp [Lib.byteCells]; omega
        have hBW4 : Below (P + 1) W w4 := hBW3.trans hB4
        have hkW4 := hk3.trans hk4
        clear hex hB4 hk4 h13 c33 h33 hB3 hb3
        gi_wp2_with fail
        refine ⟨trivial, ?_⟩
        refine (CallsIn.inRound l (callsIn_wide.2 (writeString_any (P + 1) (P + 1) _ ⟨(Lib.decDigits u).toArray⟩ w4 (.inr hb4) (by simp [ByteArray.size]; omega) hs4))).mono ?_
        rintro e w5 ⟨rfl, hb5, hB5, hk5⟩
        rw [cells_join] at hb5
        gi_wp2
        refine Hfin.out w5 _ hb5 (hBW4.trans hB5) (hkW4.trans hk5) ?_
        unfold txtAt
        rw [if_pos hz1, HU.out, Int.toNat_natCast, List.append_assoc]
      · have hz2 : ¬ (z : Int) < ((pcsN n).length : Int) - 1 := by omega
        gi_wp2_with fail
        refine ⟨trivial, ?_⟩
        refine (CallsIn.inRound l (callsIn_wide.2 (writeString_any (P + 1) (P + 1) _ ⟨(Lib.decDigits u).toArray⟩ w3 h13 (by rw [hbl0]; simp [ByteArray.size]; omega) hs3))).mono ?_
        rintro e w5 ⟨rfl, hb5, hB5, hk5⟩
        rw [cells_join] at hb5
        gi_wp2
        refine Hfin.out w5 _ hb5 (hBW3.trans hB5) (hk3.trans hk5) ?_
        unfold txtAt
        rw [if_neg hz1, HU.out, Int.toNat_natCast, List.nil_append]
    case done =>
      rintro D ys W hD rfl ⟨h1, hB2, h3⟩ hK
      have htx := txt_all n hPn
      rw [htx] at h1
      have hBw : P + 1 ≤ W.heap.size := by have := hB2.size; have := HS2.out; omega
      have hDW : D < W.heap.size := (Array.getElem?_eq_some_iff.1 hK).1
      have hstr := Tryd.Builder_String_any_k (P + 1) (P + 1) (Lib.decDigits n) W (Lib.IsBuilderF.of h1) hBw
      gi_wp2_with fail
      refine ⟨trivial, ?_⟩
      refine (callsIn_wide.2 hstr).mono ?_
      rintro e w5 ⟨rfl, _, hB5, hk5⟩
      have hK5 : w5.heap[D]? = some (.deferred (some [])) := hk5 D _ hK (fun e => by have := Option.some.inj e; omega) (fun c fz e => by cases e)
      gi_wp2
      refine ⟨by simp, .inl ⟨_, _, rfl, run_takeDeferred hK5, ?_⟩⟩
      have hb5 : Below w.heap.size w w5 := hbl2.trans ((hB2.trans hB5).mono (by omega))
      refine ⟨.string ⟨(Lib.decDigits n).toArray⟩, by simp [results, Tryd.f30, go_sem], rfl, hb5.trans (belowK_b (w := w) (Nat.le_refl _) w5 D _ (.deferred none) (by omega) hK5 rfl rfl)⟩
    case stop =>
      rintro D c pre W _ _ h _
      exact h.elim

end Go.Proofs.YtkalknmindgljaaDoor
