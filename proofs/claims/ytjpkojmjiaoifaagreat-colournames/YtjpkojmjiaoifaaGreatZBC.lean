import Derived.Test.YtjpkojmjiaoifaaGreatZBB
import Derived.Test.YtjpkojmjiaoifaaGreatZAK
namespace Go.Proofs.YtjpkojmjiaoifaaGreat
open Go Go.Proofs Go.RowKit Go.Maps Go.Shelf
attribute [local go_sem] Oper.semAt_some
def und1 (q : List Int × List Int) (s : Int × List Int × Int) : List Int × List Int := if 0 ≤ s.2.2 then (q.1.set s.1.toNat (q.1.getD s.2.2.toNat 0), q.2) else (q.1.set s.1.toNat (hueL q.1 s.1.toNat q.2 s.2.1), markT q.1 s.1 q.2 s.2.1)
def undS (n : Nat) (R : List (Int × List Int × Int)) : List Int × List Int := R.foldl und1 (List.replicate n (-1), List.replicate 5 (-1))
theorem undS_take (n : Nat) {R : List (Int × List Int × Int)} {k : Nat} (h : k < R.length) : undS n (R.take (k + 1)) = und1 (undS n (R.take k)) R[k] := by
  unfold undS
  rw [List.take_add_one, List.getElem?_eq_getElem h, List.foldl_append]
  rfl
def StepOK (n : Nat) (s : StpM) : Prop := (∃ v : Nat, s.1 = (v : Int) ∧ v < n) ∧ (s.2.2.2 = -1 ∨ ∃ y : Nat, s.2.2.2 = (y : Int) ∧ y < n) ∧ s.2.2.1.length ≤ 8388608 ∧ ∀ u ∈ s.2.2.1, ∃ j : Nat, u = (j : Int) ∧ j < n
def revS (ss : List StpM) : List (Int × List Int × Int) := (ss.map fun s => (s.1, s.2.2)).reverse
theorem revS_at {ss : List StpM} {k : Nat} (h : k < ss.length) : (revS ss)[k]? = some ((ss.getD (ss.length - 1 - k) (0, .slice none 0 0, [], -1)).1, (ss.getD (ss.length - 1 - k) (0, .slice none 0 0, [], -1)).2.2) := by
  unfold revS
  rw [List.getElem?_reverse (by rw [List.length_map]; exact h), List.length_map, List.getElem?_map, List.getD_eq_getElem?_getD, List.getElem?_eq_getElem (by omega)]
  rfl
theorem hue_lt (C : List Int) (v : Nat) (T near : List Int) (h : 0 < T.length) : hueL C v T near < (T.length : Int) := by
  unfold hueL idxF
  cases hf : (markT C (v : Int) T near).findIdx? (fun t => t != (v : Int)) with
  | none => show (-1 : Int) < _; omega
  | some k =>
    rw [List.findIdx?_eq_some_iff_getElem] at hf
    obtain ⟨hk, _⟩ := hf
    rw [markT_len] at hk
    show (k : Int) < _
    omega
theorem getD_set_lt {C : List Int} (h : ∀ i, C.getD i 0 < 5) (v : Nat) {x : Int} (hx : x < 5) : ∀ i, (C.set v x).getD i 0 < 5 := by
  intro i
  rw [List.getD_eq_getElem?_getD, List.getElem?_set]
  by_cases e : v = i
  · rw [if_pos e]
    split
    · exact hx
    · show (0 : Int) < 5
      omega
  · rw [if_neg e, ← List.getD_eq_getElem?_getD]
    exact h i
theorem getD_or {α : Type} (l : List α) (x : Nat) (d : α) : l.getD x d ∈ l ∨ l.getD x d = d := by
  rw [List.getD_eq_getElem?_getD]
  cases h : l[x]? with
  | none => exact .inr rfl
  | some a => exact .inl (List.mem_of_getElem? h)
def UndI (w : World) (pb gc gt n Bp lo : Nat) (ss : List StpM) (pre : List Nat) (W : World) : Prop :=
  ∃ C T, PT pb gc gt n 5 C T W ∧ (∀ i, C.getD i 0 < 5) ∧ (pre = downS ss.length pre.length → (C, T) = undS n ((revS ss).take pre.length)) ∧ Boxed W Bp 57 (.pointer (some ⟨pb, 0, none⟩)) ∧ Below w.heap.size w W ∧ lo ≤ W.heap.size
theorem blk_own {t : TypeId} {W W' : World} {g : Nat} {vs : List Value} {row : Option Nat} (h : Blk t W g vs) (hg : W.grownBy W' row) (hr : ∀ r, row = some r → ∃ o : Obj, W.heap[r]? = some o ∧ o.isCells = false) : Blk t W' g vs := by
  refine (hg.block g h.lt (fun e => ?_)).trans h
  obtain ⟨o, ho, hc⟩ := hr g e.symm
  rw [show W.heap[g]? = _ from h] at ho
  cases ho
  cases hc
theorem PT.own {pb gc gt n m : Nat} {C T : List Int} {W W' : World} {row : Option Nat} (h : PT pb gc gt n m C T W) (hg : W.grownBy W' row) (hr : ∀ r, row = some r → ∃ o : Obj, W.heap[r]? = some o ∧ o.isCells = false) : PT pb gc gt n m C T W' :=
  ⟨blk_own h.var hg hr, blk_own h.col hg hr, blk_own h.tak hg hr, h.lenC, h.lenT, h.apart⟩
theorem undI_own {w : World} {pb gc gt n Bp lo B : Nat} {ss : List StpM} (hB : w.heap.size ≤ B) : OwnFrom B (UndI w pb gc gt n Bp lo ss) := by
  rintro pre W W' row ⟨C, T, h1, h2, h3, h4, h5, h6⟩ hg hr
  have hr' : ∀ r, row = some r → ∃ o : Obj, W.heap[r]? = some o ∧ o.isCells = false := fun r e => (hr r e).2
  exact ⟨C, T, h1.own hg hr', h2, h3, blk_own (vs := [.pointer (some ⟨pb, 0, none⟩)]) h4 hg hr', h5.grown hg h5.size (fun k e => Nat.le_trans hB (hr k e).1), Nat.le_trans h6 hg.size⟩
theorem downS_next {len : Nat} {pre : List Nat} {x : Nat} (h : pre ++ [x] = downS len (pre ++ [x]).length) : pre = downS len pre.length ∧ x = len - 1 - pre.length := by
  rw [List.length_append, List.length_singleton, downS_succ] at h
  have h1 := List.append_inj' h rfl
  exact ⟨h1.1, by simpa using h1.2⟩
theorem owns_intsU {W : World} {h0 : Nat} {sv : Value} {L : List Int} (h : W.ownsRow h0 3 1 sv L.length (L.map (Value.int .i64))) : Ints W.heap.size W sv L := owns_intsP h
set_option maxRecDepth 100000 in
set_option maxHeartbeats 8000000 in
theorem undone_any (h0 sb n : Nat) (hn : n ≤ 1048576) (N : List (Option (List Int))) (F : List (List Int)) (ss : List StpM) (w : World) (hX : SX h0 sb N F ss w) (hNl : N.length = n) (hss : ss.length ≤ 1048576) (hU : ∀ s ∈ ss, StepOK n s) :
    Calls Tryz.prog 21 #[.pointer (some ⟨sb, 0, none⟩)] w fun e w' => ∃ g, e = .returned (.slice (some ⟨g, 0, none⟩) n n) ∧ w.heap.size ≤ g ∧ Blk 3 w' g ((undS n (revS ss)).1.map (Value.int .i64)) ∧ Below w.heap.size w w' := by
  subst hNl
  obtain ⟨gb, bs, fs, tv, tag, _, hM⟩ := hX
  have c0 := hM.row
  have c7 := hM.steps
  have hsbl := hM.var.lt
  obtain ⟨pt, mt, ct, rfl⟩ := owns_slice hM.stp
  have hmt : mt = ss.length := by
    rcases hM.stp.2 with ⟨h, h'⟩ | ⟨_, _, _, h, _⟩ <;> simp at h <;> omega
  subst hmt
  have HSTP : Hid (w.ownsRow h0 74 3 (.slice pt ss.length ct) ss.length (stpC ss)) := hM.stp
  have HINN : Hid (∀ s ∈ ss, w.ownsRow h0 3 1 s.2.1 s.2.2.1.length (s.2.2.1.map (Value.int .i64))) := hM.inn
  have HU : Hid (∀ s ∈ ss, StepOK N.length s) := hU
  clear hM hU
  refine (callsIn_wide (n := 6)).1 ?_
  refine callsIn_of_wp_N Tryz.func21 rfl trivial ?_ rfl
  simp only [Tryz.ntmps21, List.size_toArray, List.length_cons, List.length_nil, Nat.reduceAdd, Nat.reduceSub, Array.replicate_succ, Array.replicate_zero, List.push_toArray, List.append_toArray, List.nil_append, List.cons_append]
  have hpn := newPainter_any N.length 5 (by omega) (by omega) w
  gi_wp2_with (first
    | (refine ⟨trivial, ?_⟩; gi_at_call 31; refine (callsIn_wide.2 hpn).mono ?_; rintro e w1 ⟨pb, gc, gt, rfl, hpb, hgc, hgt, hPT, hb1⟩
       have c71 : (w1.alloc (.cells #[.pointer (some ⟨pb, 0, none⟩)] 57)).cell? ⟨sb, 7, none⟩ = some (.slice pt ss.length ct) := cell_keepK (hb1.alloc hb1.size _) c7)
    | (refine ⟨trivial, ?_⟩; gi_at_call 44; refine (callsIn_wide.2 (backs_any pt ss.length ct _)).mono ?_; rintro e w2 ⟨rfl, rfl⟩))
  generalize hw4 : (w1.alloc (.cells #[.pointer (some ⟨pb, 0, none⟩)] 57)).alloc (.cells #[.slice pt ss.length ct] 67) = w4
  have hs4 : w4.heap.size = w1.heap.size + 1 + 1 := by rw [← hw4]; simp
  have hb14 : Below w1.heap.size w1 w4 := by rw [← hw4]; exact ((Below.refl _ _).alloc (Nat.le_refl _) _).alloc (by simp) _
  have hbp : Boxed w4 w1.heap.size 57 (.pointer (some ⟨pb, 0, none⟩)) := by rw [← hw4]; exact (Boxed.new w1 _ _).alloc _
  have hbs : Boxed w4 (w1.heap.size + 1) 67 (.slice pt ss.length ct) := by rw [← hw4]; have h1 := Boxed.new (w1.alloc (.cells #[.pointer (some ⟨pb, 0, none⟩)] 57)) 67 (.slice pt ss.length ct); rwa [World.size_alloc] at h1
  have hb4 : Below w.heap.size w w4 := hb1.trans (hb14.mono hb1.size)
  have hsw := hb1.size
  have hstp4 : w4.ownsRow h0 74 3 (.slice pt ss.length ct) ss.length (stpC ss) := owns_agree HSTP.out (fun b hb => hb4.block b (World.ownsRow.lt HSTP.out b hb).2)
  have htb : ∀ b, (Value.slice pt ss.length ct).ownBlock = some b → b < w.heap.size := fun b hb => (World.ownsRow.lt HSTP.out b hb).2
  have hk2 : (Value.slice pt ss.length ct).ownBlock.getD (w1.heap.size + 1) < w4.heap.size := by
    cases h : (Value.slice pt ss.length ct).ownBlock with
    | none => show w1.heap.size + 1 < _; omega
    | some b => have := htb b h; show b < _; omega
  have hPT4 := hPT.go hb14
  have HSL : Hid (∀ x : Nat, ∃ p m c, (ss.getD x (0, .slice none 0 0, [], -1)).2.1 = .slice p m c) := fun x => by
    rcases getD_or ss x (0, .slice none 0 0, [], -1) with h | h
    · exact owns_slice (HINN.out _ h)
    · rw [h]; exact ⟨_, _, _, rfl⟩
  have HGS : Hid (0 < ss.length → ∀ x : Nat, StepOK N.length (ss.getD x (0, .slice none 0 0, [], -1)) ∧ Ints w.heap.size w (ss.getD x (0, .slice none 0 0, [], -1)).2.1 (ss.getD x (0, .slice none 0 0, [], -1)).2.2.1) := fun hp x => by
    rcases getD_or ss x (0, .slice none 0 0, [], -1) with h | h
    · exact ⟨HU.out _ h, owns_intsU (HINN.out _ h)⟩
    · rw [h]
      obtain ⟨⟨v, _, hv⟩, _⟩ := HU.out ss[0] (List.getElem_mem hp)
      exact ⟨⟨⟨0, rfl, by omega⟩, .inl rfl, Nat.zero_le _, fun u hu => by cases hu⟩, .inl ⟨⟨_, _, rfl⟩, rfl⟩⟩
  clear hw4 c71 hpn
  refine wpIn_rangeFunc_ownH rfl (by omega) (gf := 65) (lb := #[.pointer (some ⟨w1.heap.size + 1, 0, none⟩)]) rfl trivial (enters_of Tryz.func65 (by kernel_rfl) rfl)
    (backs_stops Fence.wide _ trivial rfl (by omega) (w1.heap.size + 1) h0 (.slice pt ss.length ct) ss hss w4 (by omega) hbs.cell hstp4) (fun h k => Keep2.trans h k)
    (fun W l o o' hl ho h1 h2 => ⟨(belowK_b (n₀ := w4.heap.size) (Nat.le_refl _) W l o o' hl ho h1 h2).block _ hk2, (belowK_b (n₀ := w4.heap.size) (Nat.le_refl _) W l o o' hl ho h1 h2).block _ (by omega)⟩)
    (Below.refl _ _) (fun _ => rfl)
    (UndI w pb gc gt N.length w1.heap.size w4.heap.size ss) (fun _ _ _ => False) (undI_own (by omega)) (fun c s A B row h _ _ => h.elim)
    ⟨_, _, hPT4, fun i => ?_, fun _ => rfl, hbp, hb4, Nat.le_refl _⟩
    (fun x a' W => ∃ B5, w4.heap.size ≤ B5 ∧ Blk 74 W B5 [.int .i64 (ss.getD x (0, .slice none 0 0, [], -1)).1, (ss.getD x (0, .slice none 0 0, [], -1)).2.1, .int .i64 (ss.getD x (0, .slice none 0 0, [], -1)).2.2.2] ∧ a' = { tmps := #[.pointer (some ⟨sb, 0, none⟩), undef, .slice none 0 0, .pointer (some ⟨w1.heap.size, 0, none⟩), undef, .pointer (some ⟨B5, 0, none⟩), .pointer (some ⟨sb, 0, none⟩), .pointer (some ⟨sb, 0, none⟩), .pointer (some ⟨sb, 0, none⟩), .slice (some ⟨gb, 0, none⟩) N.length N.length, .int .i64 (N.length : Int), .pointer (some ⟨pb, 0, none⟩), .pointer (some ⟨sb, 0, none⟩), .pointer (some ⟨sb, 0, none⟩), .pointer (some ⟨sb, 7, none⟩), .slice pt ss.length ct, .func (.func 65) #[] #[.pointer (some ⟨w1.heap.size + 1, 0, none⟩)], .int .i64 (x : Int), .agg #[.int .i64 (ss.getD x (0, .slice none 0 0, [], -1)).1, (ss.getD x (0, .slice none 0 0, [], -1)).2.1, .int .i64 (ss.getD x (0, .slice none 0 0, [], -1)).2.2.2], undef, undef, undef, undef, undef, undef, undef, undef, undef, undef, undef, undef, undef, undef, undef, undef, undef, undef, undef, undef, undef, undef, undef, undef, undef, undef, undef, undef], defers := [] })
    (fun x a' s A B row h hg hr => ?_) ?assign ?body ?done ?stop
  · rw [List.getD_eq_getElem?_getD, List.getElem?_replicate]
    split <;> simp
  · obtain ⟨B5, h1, h2, h3⟩ := h
    exact ⟨B5, h1, blk_own h2 hg (fun r e => (hr r e).2), h3⟩
  case assign =>
    intro l pre x W K hI hK
    unfold encStp
    obtain ⟨p, m, c, hsx⟩ := HSL.out x
    generalize ss.getD x (0, .slice none 0 0, [], -1) = s at hK hsx ⊢
    obtain ⟨v, sv, L, y⟩ := s
    dsimp only at hsx hK ⊢
    subst hsx
    have HI : Hid _ := hI
    have HK : Hid _ := hK
    clear hI hK
    gi_wp2
    have hI' := undI_own (w := w) (pb := pb) (gc := gc) (gt := gt) (n := N.length) (Bp := w1.heap.size) (lo := w4.heap.size) (ss := ss) (Nat.le_refl w.heap.size) pre W _ none HI.out (World.grownBy_alloc W (.cells #[.int .i64 v, .slice p m c, .int .i64 y] 74) none) (fun r e => by cases e)
    have hlo : w4.heap.size ≤ W.heap.size := by obtain ⟨_, _, _, _, _, _, _, h⟩ := HI.out; exact h
    exact HK.out _ _ ((KeepsOthers.alloc W _).from _) ⟨Below.heap_alloc _ _ _ (by omega), Below.heap_alloc _ _ _ (by omega)⟩ hI' ⟨W.heap.size, hlo, heap_alloc_new W _, rfl⟩
  case body =>
    rintro l pre x a' W hl hrec ⟨C, T, hPTW, h5, hdn, hbx, hbl, hlo⟩ ⟨B5, hB5, hBlk, rfl⟩ hpl
    obtain ⟨hOK, hInt⟩ := HGS.out (by omega) x
    have HNX : Hid (∀ q : List Int × List Int, q = und1 (C, T) ((ss.getD x (0, .slice none 0 0, [], -1)).1, (ss.getD x (0, .slice none 0 0, [], -1)).2.2) → pre ++ [x] = downS ss.length (pre ++ [x]).length → q = undS N.length ((revS ss).take (pre ++ [x]).length)) := by
      rintro q rfl hpx
      obtain ⟨h1, h2⟩ := downS_next hpx
      have hlt : pre.length < (revS ss).length := by unfold revS; rw [List.length_reverse, List.length_map]; exact hpl
      rw [List.length_append, List.length_singleton, undS_take N.length hlt, ← hdn h1]
      congr 1
      have h3 := revS_at hpl
      rw [List.getElem?_eq_getElem hlt, ← h2] at h3
      simp only [Option.some.injEq] at h3
      exact h3.symm
    have hmx : Tryz.prog.follows .mixedOrders = true := by kernel_rfl
    generalize ss.getD x (0, .slice none 0 0, [], -1) = s at *
    obtain ⟨v, sv, L, y⟩ := s
    dsimp only at hOK hInt hBlk HNX ⊢
    obtain ⟨⟨k, rfl, hkn⟩, hy, hLl, hLu⟩ := hOK
    dsimp only at hkn hy hLl hLu
    have b0 := hBlk.cell (j := 0) rfl
    have b1 := hBlk.cell (j := 1) rfl
    have b2 := hBlk.cell (j := 2) rfl
    have cp := hbx.cell
    have p0 := hPTW.var.cell (j := 0) rfl
    have hkI : (k : Int) < (N.length : Int) := by omega
    obtain ⟨d0, f0⟩ := hPTW.atC hkn
    have hpl4 := hPT4.var.lt
    have hgl4 := hPT4.col.lt
    have htl4 := hPT4.tak.lt
    have hcl : gc < W.heap.size := hPTW.col.lt
    have htl : gt < W.heap.size := hPTW.tak.lt
    have hbpl := hbx.lt
    have HW : Hid (∀ (C' T' : List Int) (W' : World), (C', T') = und1 (C, T) ((k : Int), L, y) → (∀ i, C'.getD i 0 < 5) → PT pb gc gt N.length 5 C' T' W' → (∀ q, q < W.heap.size → q ≠ gc → q ≠ gt → W'.heap[q]? = W.heap[q]?) → W'.os = W.os → W'.tape = W.tape → W'.output = W.output → W.heap.size ≤ W'.heap.size → KeepsFrom w4.heap.size W W' ∧ Keep2 ((Value.slice pt ss.length ct).ownBlock.getD (w1.heap.size + 1)) (w1.heap.size + 1) W W' ∧ UndI w pb gc gt N.length w1.heap.size w4.heap.size ss (pre ++ [x]) W') := by
      intro C' T' W' hq1 h5' hP' hq ho ht hou hsz
      have hc1 := hPT.col.lt
      have ht1 := hPT.tak.lt
      refine ⟨⟨hsz, fun q o hB hq' ho' => ?_⟩, ⟨hq _ (by omega) ?_ ?_, hq _ (by omega) (by omega) (by omega)⟩, _, _, hP', h5', HNX.out _ hq1, (hq _ hbpl (by omega) (by omega)).trans hbx, ?_, Nat.le_trans hlo hsz⟩
      · have h1 : q < W.heap.size := (Array.getElem?_eq_some_iff.1 hq').1
        exact (hq q h1 (by omega) (by omega)).trans hq'
      · cases h : (Value.slice pt ss.length ct).ownBlock with
        | none => show w1.heap.size + 1 ≠ gc; omega
        | some b => have := htb b h; show b ≠ gc; omega
      · cases h : (Value.slice pt ss.length ct).ownBlock with
        | none => show w1.heap.size + 1 ≠ gt; omega
        | some b => have := htb b h; show b ≠ gt; omega
      · exact hbl.trans ⟨ho, ht, hou, hsz, fun q hq' => hq q (Nat.lt_of_lt_of_le hq' hbl.size) (by omega) (by omega)⟩
    obtain ⟨ps, cs, rfl⟩ := hInt.len
    rcases hy with rfl | ⟨m, rfl, hmn⟩
    · have hpt := paint_any pb gc gt N.length 5 (by omega) C T L k hkn hLl (fun u hu => by obtain ⟨j, h1, h2⟩ := hLu u hu; exact ⟨j, h1, h2, h5 j⟩) (.slice ps L.length cs) w.heap.size W hPTW (hInt.below hbl) (fun q hq => ⟨by omega, by omega⟩) hbl.size
      have HH5 : Hid (∀ i, (C.set k (hueL C k T L)).getD i 0 < 5) := getD_set_lt h5 k (by
        have h1 := hue_lt C k T L (by rw [hPTW.lenT]; omega)
        rw [hPTW.lenT] at h1
        exact h1)
      have HPT : Hid _ := hpt
      clear HNX hPTW h5 hdn hbx hbl hInt hBlk hPT4 hb1 hb14 hbp hbs hb4 hstp4 htb hk2 HSL HGS HSTP HINN HU c0 c7 hPT hLu hrec hpt d0 f0 p0
      gi_wp2_with (refine ⟨trivial, ?_⟩; gi_at_call 32; refine (CallsIn.inRound l (callsIn_wide.2 HPT.out)).mono ?_; rintro e W' ⟨rfl, hP', hq, ho, ht, hou, hsz⟩)
      exact HW.out _ _ W' (by unfold und1; simp) HH5.out hP' hq ho ht hou hsz
    · have hmI : (m : Int) < (N.length : Int) := by omega
      have hm0 : (0 : Int) ≤ (m : Int) := by omega
      obtain ⟨e0, _⟩ := hPTW.atC hmn
      have hbd : Below W.heap.size W W.drew := below_drewN (Below.refl _ _) 1
      have HP' : Hid (PT pb gc gt N.length 5 (C.set k (C.getD m 0)) T (W.drew.setCell ⟨gc, k, none⟩ (.int .i64 (C.getD m 0)))) := (hPTW.go hbd).setC k _
      have HH5 : Hid (∀ i, (C.set k (C.getD m 0)).getD i 0 < 5) := getD_set_lt h5 k (h5 m)
      have fd := (hPTW.go hbd).col.frozen k
      have dd := ((hPTW.go hbd).atC hkn).1
      clear HNX hPTW h5 hdn hbx hbl hInt hBlk hPT4 hb1 hb14 hbp hbs hb4 hstp4 htb hk2 HSL HGS HSTP HINN HU c0 c7 hPT hLu hrec
      gi_wp2_with fail
      refine wpIn_region_R (S := fun W' : World => W'.cell? ⟨w1.heap.size, 0, none⟩ = some (.pointer (some ⟨pb, 0, none⟩)) ∧ W'.cell? ⟨pb, 0, none⟩ = some (.slice (some ⟨gc, 0, none⟩) N.length N.length) ∧ W'.cell? ⟨B5, 0, none⟩ = some (.int .i64 (k : Int)) ∧ W'.cell? ⟨B5, 2, none⟩ = some (.int .i64 (m : Int)) ∧ W'.cell? ⟨gc, m, none⟩ = some (.int .i64 (C.getD m 0))) hmx ⟨cp, p0, b0, b2, e0⟩ (fun hHeld => ?_)
      refine wpAnyR_take (i := 0) (v := ?_) rfl (by kernel_rfl) rfl (.inl ⟨by rfl, ?_⟩) (fun _ => rfl) (by assumption) ?_
      rotate_left
      · intro w hSw; (try dsimp only at hSw); go_simp; (try with_reducible rfl)
      try simp only [Act.put, List.setIfInBounds_toArray]
      refine wpAnyR_take (i := 1) (v := ?_) rfl (by kernel_rfl) rfl (.inl ⟨by rfl, ?_⟩) (fun _ => rfl) (by assumption) ?_
      rotate_left
      · intro w hSw; (try dsimp only at hSw); go_simp; (try with_reducible rfl)
      try simp only [Act.put]
      refine wpAnyR_take (i := 2) (v := ?_) rfl (by kernel_rfl) rfl (.inl ⟨by rfl, ?_⟩) (fun _ => rfl) (by assumption) ?_
      rotate_left
      · intro w hSw; (try dsimp only at hSw); go_simp; (try with_reducible rfl)
      try simp only [Act.put]
      refine wpAnyR_take (i := 3) (v := ?_) rfl (by kernel_rfl) rfl (.inl ⟨by rfl, ?_⟩) (fun _ => rfl) (by assumption) ?_
      rotate_left
      · intro w hSw; (try dsimp only at hSw); go_simp; (try with_reducible rfl)
      try simp only [Act.put]
      refine wpAnyR_take (i := 4) (v := ?_) rfl (by kernel_rfl) rfl (.inl ⟨by rfl, ?_⟩) (fun _ => rfl) (by assumption) ?_
      rotate_left
      · intro w hSw; (try dsimp only at hSw); go_simp; (try with_reducible rfl)
      try simp only [Act.put]
      refine wpAnyR_take (i := 5) (v := ?_) rfl (by kernel_rfl) rfl (.inl ⟨by rfl, ?_⟩) (fun _ => rfl) (by assumption) ?_
      rotate_left
      · intro w hSw; (try dsimp only at hSw); go_simp; (try with_reducible rfl)
      try simp only [Act.put]
      refine wpAnyR_take (i := 6) (v := ?_) rfl (by kernel_rfl) rfl (.inl ⟨by rfl, ?_⟩) (fun _ => rfl) (by assumption) ?_
      rotate_left
      · intro w hSw; (try dsimp only at hSw); go_simp; (try with_reducible rfl)
      try simp only [Act.put]
      refine wpAnyR_take (i := 7) (v := ?_) rfl (by kernel_rfl) rfl (.inl ⟨by rfl, ?_⟩) (fun _ => rfl) (by assumption) ?_
      rotate_left
      · intro w hSw; (try dsimp only at hSw); go_simp; (try with_reducible rfl)
      try simp only [Act.put]
      refine wpAnyR_take (i := 8) (v := ?_) rfl (by kernel_rfl) rfl (.inl ⟨by rfl, ?_⟩) (fun _ => rfl) (by assumption) ?_
      rotate_left
      · intro w hSw; (try dsimp only at hSw); go_simp; (try with_reducible rfl)
      try simp only [Act.put]
      refine wpAnyR_take (i := 9) (v := ?_) rfl (by kernel_rfl) rfl (.inl ⟨by rfl, ?_⟩) (fun _ => rfl) (by assumption) ?_
      rotate_left
      · intro w hSw; (try dsimp only at hSw); go_simp; (try with_reducible rfl)
      try simp only [Act.put]
      refine wpAnyR_take (i := 10) (v := ?_) rfl (by kernel_rfl) rfl (.inl ⟨by rfl, ?_⟩) (fun _ => rfl) (by assumption) ?_
      rotate_left
      · intro w hSw; (try dsimp only at hSw); go_simp; (try with_reducible rfl)
      try simp only [Act.put]
      refine wpAnyR_take (i := 11) (v := ?_) rfl (by kernel_rfl) rfl (.inl ⟨by rfl, ?_⟩) (fun _ => rfl) (by assumption) ?_
      rotate_left
      · intro w hSw; (try dsimp only at hSw); go_simp; (try with_reducible rfl)
      try simp only [Act.put]
      refine wpAnyR_take (i := 12) (v := ?_) rfl (by kernel_rfl) rfl (.inl ⟨by rfl, ?_⟩) (fun _ => rfl) (by assumption) ?_
      rotate_left
      · intro w hSw; (try dsimp only at hSw); go_simp; (try with_reducible rfl)
      try simp only [Act.put]
      refine wpAnyR_take (i := 13) (v := ?_) rfl (by kernel_rfl) rfl (.inl ⟨by rfl, ?_⟩) (fun _ => rfl) (by assumption) ?_
      rotate_left
      · intro w hSw; (try dsimp only at hSw); go_simp; (try with_reducible rfl)
      try simp only [Act.put]
      refine wpAnyR_take (i := 14) (v := ?_) rfl (by kernel_rfl) rfl (.inl ⟨by rfl, ?_⟩) (fun _ => rfl) (by assumption) ?_
      rotate_left
      · intro w hSw; (try dsimp only at hSw); go_simp; (try with_reducible rfl)
      try simp only [Act.put]
      refine wpAnyR_last (i := 15) (by kernel_rfl) rfl rfl (by kernel_rfl) (by kernel_rfl) ?_
      refine ⟨fun f hf => (by cases hf), ?_⟩
      go_simp
      gi_wp2
      exact HW.out _ _ _ (by unfold und1; simp) HH5.out HP'.out (fun q _ h1 _ => Below.heap_setCell _ _ _ _ h1) rfl rfl rfl (by simp)
  case done =>
    rintro D xs W hD rfl ⟨C, T, hPTW, h5, hdn, hbx, hbl, hlo⟩ hK
    have hfin := hdn (by rw [downS_length])
    rw [downS_length, List.take_of_length_le (by unfold revS; rw [List.length_reverse, List.length_map]; omega)] at hfin
    have cp := hbx.cell
    have p0 := hPTW.var.cell (j := 0) rfl
    have HF : Hid ((C, T) = undS N.length (revS ss)) := hfin
    have HC : Hid (Blk 3 W gc (C.map (Value.int .i64))) := hPTW.col
    clear hfin hPTW
    gi_wp2
    refine ⟨by simp, .inl ⟨_, _, rfl, run_takeDeferred hK, ?_⟩⟩
    refine ⟨.slice (some ⟨gc, 0, none⟩) N.length N.length, by simp [results, Tryz.results21, go_sem], gc, rfl, hgc, ?_, hbl.grown (grownBy_putObj' W D (.deferred none)) hbl.size (fun k e => by cases e; omega)⟩
    rw [← HF.out]
    exact blk_own HC.out (grownBy_putObj' W D (.deferred none)) (fun r e => by cases e; exact ⟨_, hK, rfl⟩)
  case stop =>
    rintro D c pre W hD hpre h hK
    exact h.elim
end Go.Proofs.YtjpkojmjiaoifaaGreat

namespace Go.Proofs.YtjpkojmjiaoifaaGreat
abbrev Stp5 := Nat × List Nat × Option Nat
def updC (g : Nat → Int) (v : Nat) (x : Int) : Nat → Int := fun u => if u = v then x else g u
theorem updC_same (g : Nat → Int) (v : Nat) (x : Int) : updC g v x v = x := if_pos rfl
theorem updC_other (g : Nat → Int) {v u : Nat} (x : Int) (h : u ≠ v) : updC g v x u = g u := if_neg h
def LeastG (g : Nat → Int) (near : List Nat) (k : Nat) : Prop := (∀ u ∈ near, g u ≠ (k : Int)) ∧ ∀ i, i < k → ∃ u ∈ near, g u = (i : Int)
def ColR : List Stp5 → (Nat → Int) → Prop
 | [], f => ∀ u, f u = -1
 | (v, near, none) :: rest, f => ∃ g k, ColR rest g ∧ LeastG g near k ∧ f = updC g v (k : Int)
 | (v, _, some y) :: rest, f => ∃ g, ColR rest g ∧ f = updC g v (g y)
def mrg (adj : Nat → Nat → Prop) (x y : Nat) (a b : Nat) : Prop := a ≠ x ∧ b ≠ x ∧ (adj a b ∨ (a = y ∧ adj x b) ∨ (b = y ∧ adj a x))
def less1 (adj : Nat → Nat → Prop) (v : Nat) (a b : Nat) : Prop := adj a b ∧ a ≠ v ∧ b ≠ v
def Shr : List Stp5 → (Nat → Nat → Prop) → List Nat → Prop
 | [], _, S => S = []
 | (v, near, none) :: rest, adj, S => v ∈ S ∧ near.Nodup ∧ (∀ u, u ∈ near ↔ u ∈ S ∧ adj v u) ∧ (near.length ≤ 4 ∨ (near.length ≤ 5 ∧ ∃ x y l rest', rest = (x, l, some y) :: rest' ∧ x ∈ near ∧ y ∈ near ∧ x ≠ y)) ∧ Shr rest (less1 adj v) (S.erase v)
 | (x, _, some y) :: rest, adj, S => x ∈ S ∧ y ∈ S ∧ x ≠ y ∧ ¬ adj x y ∧ Shr rest (mrg adj x y) (S.erase x)
theorem nodup_len5 : ∀ {A B : List Int}, A.Nodup → (∀ x ∈ A, x ∈ B) → A.length ≤ B.length
 | [], _, _, _ => Nat.zero_le _
 | a :: A, B, hn, h => by
  have hn' := List.nodup_cons.1 hn
  have ha := h a List.mem_cons_self
  have := nodup_len5 (A := A) (B := B.erase a) hn'.2 (fun x hx => (List.mem_erase_of_ne (fun e : x = a => hn'.1 (by rw [← e]; exact hx))).2 (h x (List.mem_cons_of_mem _ hx)))
  rw [List.length_erase_of_mem ha] at this
  have hp := List.length_pos_of_mem ha
  simp only [List.length_cons]
  omega
theorem least_few {g : Nat → Int} {near : List Nat} {k : Nat} (h : LeastG g near k) (B : List Nat) (hB : ∀ u ∈ near, ∃ w ∈ B, g w = g u) (hl : B.length ≤ 4) : k < 5 := by
 by_cases hk : k < 5
 ·exact hk
 ·exfalso
  have hA : ([0, 1, 2, 3, 4] : List Int).Nodup := by decide
  have hin : ∀ x ∈ ([0, 1, 2, 3, 4] : List Int), x ∈ B.map g := by
   intro x hx
   obtain ⟨i, hi, rfl⟩ : ∃ i : Nat, i < 5 ∧ x = (i : Int) := by
    simp only [List.mem_cons, List.not_mem_nil, or_false] at hx
    rcases hx with rfl | rfl | rfl | rfl | rfl
    ·exact ⟨0, by omega, rfl⟩
    ·exact ⟨1, by omega, rfl⟩
    ·exact ⟨2, by omega, rfl⟩
    ·exact ⟨3, by omega, rfl⟩
    ·exact ⟨4, by omega, rfl⟩
   obtain ⟨u, hu, e⟩ := h.2 i (by omega)
   obtain ⟨w, hw, e'⟩ := hB u hu
   exact List.mem_map.2 ⟨w, hw, e'.trans e⟩
  have := nodup_len5 hA hin
  simp at this
  omega
theorem col_five : ∀ (st : List Stp5) (adj : Nat → Nat → Prop) (S : List Nat) (f : Nat → Int), (∀ a b, adj a b → adj b a) → (∀ a, ¬ adj a a) → S.Nodup → Shr st adj S → ColR st f → ∀ u ∈ S, (0 ≤ f u ∧ f u < 5) ∧ ∀ w ∈ S, adj u w → f u ≠ f w
 | [], _, S, _, _, _, _, hS, _ => by
  have : S = [] := hS
  subst this
  intro u hu
  simp at hu
 | (v, near, none) :: rest, adj, S, f, hsym, hirr, hn, hS, hC => by
  obtain ⟨hv, hnn, hnear, hfew, hS'⟩ := hS
  obtain ⟨g, k, hg, hk, rfl⟩ := hC
  have ih := col_five rest (less1 adj v) (S.erase v) g (fun a b h => ⟨hsym a b h.1, h.2.2, h.2.1⟩) (fun a h => hirr a h.1) (hn.sublist List.erase_sublist) hS' hg
  have hmem : ∀ u, u ∈ S → u ≠ v → u ∈ S.erase v := fun u hu hne => (List.mem_erase_of_ne hne).2 hu
  have hk5 : k < 5 := by
   rcases hfew with h4 | ⟨h5, x, y, l, rest', rfl, hx, hy, hxy⟩
   ·exact least_few hk near (fun u hu => ⟨u, hu, rfl⟩) h4
   ·obtain ⟨g', hg', rfl⟩ := hg
    refine least_few hk (near.erase x) (fun u hu => ?_) (by rw [List.length_erase_of_mem hx]; omega)
    by_cases e : u = x
    ·subst e
     exact ⟨y, (List.mem_erase_of_ne (Ne.symm hxy)).2 hy, by rw [updC_same, updC_other _ _ (Ne.symm hxy)]⟩
    ·exact ⟨u, (List.mem_erase_of_ne e).2 hu, rfl⟩
  intro u hu
  by_cases eu : u = v
  ·subst eu
   refine ⟨by rw [updC_same]; omega, fun w hw ha => ?_⟩
   have hne : w ≠ u := fun e => hirr u (e ▸ ha)
   rw [updC_same, updC_other _ _ hne]
   exact Ne.symm (hk.1 w ((hnear w).2 ⟨hw, ha⟩))
  ·have h1 := ih u (hmem u hu eu)
   refine ⟨by rw [updC_other _ _ eu]; exact h1.1, fun w hw ha => ?_⟩
   rw [updC_other _ _ eu]
   by_cases ew : w = v
   ·subst ew
    rw [updC_same]
    exact hk.1 u ((hnear u).2 ⟨hu, hsym u w ha⟩)
   ·rw [updC_other _ _ ew]
    exact h1.2 w (hmem w hw ew) ⟨ha, eu, ew⟩
 | (x, _, some y) :: rest, adj, S, f, hsym, hirr, hn, hS, hC => by
  obtain ⟨hx, hy, hxy, hna, hS'⟩ := hS
  obtain ⟨g, hg, rfl⟩ := hC
  have hmsym : ∀ a b, mrg adj x y a b → mrg adj x y b a := fun a b h => ⟨h.2.1, h.1, by
   rcases h.2.2 with h1 | ⟨h1, h2⟩ | ⟨h1, h2⟩
   ·exact .inl (hsym a b h1)
   ·exact .inr (.inr ⟨h1, hsym x b h2⟩)
   ·exact .inr (.inl ⟨h1, hsym a x h2⟩)⟩
  have hmirr : ∀ a, ¬ mrg adj x y a a := fun a h => by
   rcases h.2.2 with h1 | ⟨h1, h2⟩ | ⟨h1, h2⟩
   ·exact hirr a h1
   ·subst h1; exact hna h2
   ·subst h1; exact hna (hsym a x h2)
  have ih := col_five rest (mrg adj x y) (S.erase x) g hmsym hmirr (hn.sublist List.erase_sublist) hS' hg
  have hmem : ∀ u, u ∈ S → u ≠ x → u ∈ S.erase x := fun u hu hne => (List.mem_erase_of_ne hne).2 hu
  have hgy := ih y (hmem y hy (Ne.symm hxy))
  intro u hu
  by_cases eu : u = x
  ·subst eu
   refine ⟨by rw [updC_same]; exact hgy.1, fun w hw ha => ?_⟩
   have hne : w ≠ u := fun e => hirr u (e ▸ ha)
   rw [updC_same, updC_other _ _ hne]
   exact hgy.2 w (hmem w hw hne) ⟨Ne.symm hxy, hne, .inr (.inl ⟨rfl, ha⟩)⟩
  ·have h1 := ih u (hmem u hu eu)
   refine ⟨by rw [updC_other _ _ eu]; exact h1.1, fun w hw ha => ?_⟩
   rw [updC_other _ _ eu]
   by_cases ew : w = x
   ·subst ew
    rw [updC_same]
    exact h1.2 y (hmem y hy (Ne.symm hxy)) ⟨eu, Ne.symm hxy, .inr (.inr ⟨rfl, ha⟩)⟩
   ·rw [updC_other _ _ ew]
    exact h1.2 w (hmem w hw ew) ⟨eu, ew, .inl ha⟩
end Go.Proofs.YtjpkojmjiaoifaaGreat
