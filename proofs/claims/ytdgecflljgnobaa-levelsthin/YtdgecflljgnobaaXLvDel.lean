/-
  The contracts of slices.IndexFunc and slices.DeleteFunc at lists of numbers, of any predicate that leaves what there was as it was.
-/
import Derived.Lib.SliceRun
import Derived.Lib.LazyBuf
import Derived.OwnWalk
import Derived.Test.YtdgecflljgnobaaXPLsts
import Derived.Test.YtdgecflljgnobaaZBN
namespace Go.Proofs.Ytdgecflljgnobaa
open Go Go.Proofs Go.RowKit

/-- The first place of which p holds, or -1. -/
def idxQ {α : Type} (p : α → Bool) (L : List α) : Int := match L.findIdx? p with
  | some i => i
  | none => -1
theorem idxQ_at {α : Type} {p : α → Bool} {L : List α} {j : Nat} (hj : j < L.length) (h : p L[j] = true) (hno : ∀ (i : Nat) (h1 : i < L.length), i < j → p L[i] = false) : idxQ p L = j := by
  unfold idxQ
  have : L.findIdx? p = some j := by
    rw [List.findIdx?_eq_some_iff_getElem]
    exact ⟨hj, h, fun i hi => by rw [hno i (by omega) hi]; simp⟩
  rw [this]
theorem idxQ_no {α : Type} {p : α → Bool} {L : List α} (hno : ∀ (i : Nat) (h1 : i < L.length), p L[i] = false) : idxQ p L = -1 := by
  unfold idxQ
  have : L.findIdx? p = none := by
    rw [List.findIdx?_eq_none_iff]
    intro x hx
    obtain ⟨i, hi, rfl⟩ := List.getElem_of_mem hx
    exact hno i hi
  rw [this]
theorem idxQ_cases {α : Type} (p : α → Bool) (L : List α) : ((∀ x ∈ L, p x = false) ∧ idxQ p L = -1) ∨ ∃ (j : Nat) (hj : j < L.length), p L[j] = true ∧ (∀ (i : Nat) (h1 : i < L.length), i < j → p L[i] = false) ∧ idxQ p L = (j : Int) := by
  cases h : L.findIdx? p with
  | none =>
    refine .inl ⟨by rwa [List.findIdx?_eq_none_iff] at h, ?_⟩
    unfold idxQ
    rw [h]
  | some j =>
    have h0 := h
    rw [List.findIdx?_eq_some_iff_getElem] at h
    obtain ⟨hj, hp, hn⟩ := h
    refine .inr ⟨j, hj, hp, fun i h1 h2 => ?_, ?_⟩
    · have := hn i h2
      simpa using this
    · unfold idxQ
      rw [h0]

set_option maxRecDepth 100000 in
set_option maxHeartbeats 2000000 in
theorem indexH_any (f : Nat) (caps : Array Value) (p : List Int → Bool) (hent : ∀ (args : Array Value) (W : World), (callFunc f args).run Try.prog W = .ok (.enter f args) W) (L : List (List Int)) (hL : L.length ≤ 2000000000000) (sv : Value) (w : World) (h : Lsts w.heap.size w sv L)
    (hp : ∀ x ∈ L, ∀ sx W, Below w.heap.size w W → Ints w.heap.size W sx x → Calls Try.prog f (#[sx] ++ caps) W fun e w' => e = .returned (.bool (p x)) ∧ Below W.heap.size W w') :
    Calls Try.prog 36 #[sv, .func (.func f) #[] caps] w fun e w' => e = .returned (.int .i64 (idxQ p L)) ∧ Below w.heap.size w w' := by
  obtain ⟨pp, c, rfl⟩ := h.len
  have HI : Hid (Lsts w.heap.size w (.slice pp L.length c) L) := h
  have HP : Hid (∀ x ∈ L, ∀ sx W, Below w.heap.size w W → Ints w.heap.size W sx x → Calls Try.prog f (#[sx] ++ caps) W fun e w' => e = .returned (.bool (p x)) ∧ Below W.heap.size W w') := hp
  clear h hp
  go_enter Try.func36, Try.ntmps36
  go_wp2
  go_loopw [8] (fun iv wr => ∃ j : Nat, j ≤ L.length ∧ iv = .int .i64 j ∧ Hid (∀ (i : Nat) (h1 : i < L.length), i < j → p L[i] = false) ∧ Below w.heap.size w wr) (fun i _ => L.length - (intOf i).toNat)
  case atStart => exact ⟨0, Nat.zero_le _, rfl, fun i _ h => by omega, Below.refl _ _⟩
  case round =>
    obtain ⟨j, hj, rfl, HS, hb⟩ := hrel
    by_cases hlt : j < L.length
    · have hjl : (j : Int) < (L.length : Int) := by omega
      obtain ⟨b, off, rfl, hbb, hcap, px, cx, hIx, c0⟩ := Lsts.cellAt HI.out hlt
      replace c0 := (hb.cell (p := ⟨b, off + j, none⟩) hbb).trans c0
      have hcl := HP.out L[j] (List.getElem_mem hlt) _ wr hb (hIx.below hb)
      clear hIx
      cases hv : p L[j] with
      | false =>
        have HS2 : Hid (∀ (i : Nat) (h1 : i < L.length), i < j + 1 → p L[i] = false) := fun i h1 h => by
          by_cases e : i = j
          · subst e; exact hv
          · exact HS.out i h1 (by omega)
        have HLT : Hid (j < L.length) := hlt
        rw [hv] at hcl
        generalize L[j] = x at c0 hcl
        clear HS hlt hv
        go_wp2_with fail
        refine hcl.mono ?_
        clear hcl
        rintro e w2 ⟨rfl, hb2⟩
        have HB2 : Hid (Below w.heap.size w w2) := hb.trans (hb2.mono hb.size)
        clear hb hb2
        go_wp2
        exact ⟨⟨j + 1, HLT.out, by go_num, HS2.out, HB2.out⟩, by have := HLT.out; simp [intOf]; omega⟩
      | true =>
        have HE : Hid (idxQ p L = j) := idxQ_at hlt hv HS.out
        rw [hv] at hcl
        generalize L[j] = x at c0 hcl
        clear HS hlt hv
        go_wp2_with fail
        refine hcl.mono ?_
        clear hcl
        rintro e w2 ⟨rfl, hb2⟩
        have HB2 : Hid (Below w.heap.size w w2) := hb.trans (hb2.mono hb.size)
        clear hb hb2
        go_wp2
        go_ret
        exact ⟨by rw [HE.out]; rfl, HB2.out⟩
    · obtain rfl : j = L.length := by omega
      have HE : Hid (idxQ p L = -1) := idxQ_no fun i hi => HS.out i hi hi
      clear HS
      go_wp2
      go_ret
      exact ⟨by rw [HE.out]; rfl, hb⟩

/-- An owned row, as a block. -/
theorem owns_blkL {w : World} {base : Nat} {e : TypeId} {b n c : Nat} {xs : List Value} (h : w.ownsRow base e 1 (.slice (some ⟨b, 0, none⟩) n c) n xs) : ∃ rest, Blk e w b (xs ++ rest) ∧ xs.length = n ∧ n + rest.length = c ∧ base ≤ b := by
  obtain ⟨h1, h2⟩ := h
  rcases h2 with ⟨h2, _⟩ | ⟨g, cap, cur, hv, hb, hg, hn, hc, hsz, ht⟩
  · cases h2
  · simp only [Value.slice.injEq, Option.some.injEq, Addr.mk.injEq] at hv
    obtain ⟨⟨rfl, _, _⟩, _, rfl⟩ := hv
    have h1' : xs.length = n := by simpa using h1
    refine ⟨cur.toList.drop (n * 1), ?_, h1', ?_, hb⟩
    · unfold Blk
      rw [hg, ← ht, List.take_append_drop]
    · rw [List.length_drop, Array.length_toList]
      omega
theorem grown_set {A B : World} {g : Nat} (h : A.grownBy B (some g)) (k : Nat) (v : Value) : A.grownBy (B.setCell ⟨g, k, none⟩ v) (some g) := by
  have hs := (Below.refl 0 B).setCell (p := ⟨g, k, none⟩) (Nat.zero_le _) v
  refine ⟨hs.os.trans h.os, hs.tape.trans h.tape, hs.output.trans h.output, Nat.le_trans h.size hs.size, fun q hq hne => ?_⟩
  rw [Below.heap_setCell _ _ _ _ (fun e => hne (by rw [e]))]
  exact h.block q hq hne
theorem grown_sets {A : World} {g : Nat} : ∀ (vs : List Value) (o : Nat) (B : World), A.grownBy B (some g) → A.grownBy (B.setCells g o vs) (some g)
  | [], _, _, h => h
  | v :: r, o, _, h => grown_sets r (o + 1) _ (grown_set h o v)
theorem grown_low {A B : World} {g h0 : Nat} (h : A.grownBy B (some g)) (hg : h0 ≤ g) (hs : h0 ≤ A.heap.size) : Below h0 A B :=
  ⟨h.os, h.tape, h.output, h.size, fun k hk => h.block k (by omega) (fun e => by cases e; omega)⟩

theorem zero_rowL (u : World) : (zeroValue 27).run Try.prog u = .ok (.slice none 0 0) u := by
  obtain ⟨i, h, hz, _, _⟩ := info_parts infoSl
  simp [zeroValue, typeInfo, h, hz]
theorem map_snd_filterL {q : List Int → Bool} : ∀ Z : List (Value × List Int), (Z.filter fun x => q x.2).map Prod.snd = (Z.map Prod.snd).filter q
  | [] => rfl
  | z :: Z => by
    rw [List.filter_cons, List.map_cons, List.filter_cons]
    cases h : q z.2 <;> simp [map_snd_filterL Z]
/-- Of the first j the ones that stay. -/
def leftZ (p : List Int → Bool) (Z : List (Value × List Int)) (j : Nat) : List (Value × List Int) := (Z.take j).filter fun x => !p x.2
theorem leftZ_in {p : List Int → Bool} {Z : List (Value × List Int)} {j : Nat} (h : j < Z.length) (hp : p Z[j].2 = false) : leftZ p Z (j + 1) = leftZ p Z j ++ [Z[j]] := by
  unfold leftZ
  rw [List.take_add_one, List.getElem?_eq_getElem h, List.filter_append]
  simp [hp]
theorem leftZ_out {p : List Int → Bool} {Z : List (Value × List Int)} {j : Nat} (h : j < Z.length) (hp : p Z[j].2 = true) : leftZ p Z (j + 1) = leftZ p Z j := by
  unfold leftZ
  rw [List.take_add_one, List.getElem?_eq_getElem h, List.filter_append]
  simp [hp]
theorem leftZ_len (p : List Int → Bool) (Z : List (Value × List Int)) (j : Nat) : (leftZ p Z j).length ≤ j := by
  unfold leftZ
  exact Nat.le_trans (List.length_filter_le _ _) (by rw [List.length_take]; omega)
/-- The row of headers under way. -/
structure DelS (p : List Int → Bool) (Z : List (Value × List Int)) (all cur : List Value) (i j : Nat) : Prop where
  il : i = (leftZ p Z j).length
  cl : cur.length = all.length
  zl : Z.length ≤ all.length
  lo : ∀ k, k < i → cur[k]? = (leftZ p Z j)[k]?.map Prod.fst
  hi : ∀ k, j ≤ k → cur[k]? = all[k]?
theorem DelS.drop {p : List Int → Bool} {Z : List (Value × List Int)} {all cur : List Value} {i j : Nat} (h : DelS p Z all cur i j) (hj : j < Z.length) (hp : p Z[j].2 = true) : DelS p Z all cur i (j + 1) := by
  refine ⟨by rw [leftZ_out hj hp]; exact h.il, h.cl, h.zl, fun k hk => by rw [leftZ_out hj hp]; exact h.lo k hk, fun k hk => h.hi k (by omega)⟩
theorem DelS.keep {p : List Int → Bool} {Z : List (Value × List Int)} {all cur : List Value} {i j : Nat} (h : DelS p Z all cur i j) (hj : j < Z.length) (hp : p Z[j].2 = false) : DelS p Z all (cur.set i Z[j].1) (i + 1) (j + 1) := by
  have hi := h.il
  have hlen := leftZ_len p Z j
  have hcl := h.cl
  have hzl := h.zl
  refine ⟨by rw [leftZ_in hj hp, List.length_append, ← hi]; rfl, by rw [List.length_set]; exact h.cl, h.zl, fun k hk => ?_, fun k hk => ?_⟩
  · rw [leftZ_in hj hp]
    by_cases e : k = i
    · subst e
      rw [List.getElem?_set_self (by omega), List.getElem?_append_right (by omega), ← hi, Nat.sub_self]
      rfl
    · rw [List.getElem?_set_ne (by omega), List.getElem?_append_left (by omega)]
      exact h.lo k (by omega)
  · rw [List.getElem?_set_ne (by omega)]
    exact h.hi k (by omega)
theorem DelS.start {p : List Int → Bool} {Z : List (Value × List Int)} {all : List Value} {j : Nat} (hj : j < Z.length) (hz : ∀ k (h : k < Z.length), all[k]? = some Z[k].1) (hzl : Z.length ≤ all.length) (hp : p Z[j].2 = true) (hno : ∀ (i : Nat) (h1 : i < Z.length), i < j → p Z[i].2 = false) : DelS p Z all all j (j + 1) := by
  have h0 : leftZ p Z j = Z.take j := by
    unfold leftZ
    rw [List.filter_eq_self]
    intro x hx
    obtain ⟨i, hi, rfl⟩ := List.getElem_of_mem hx
    rw [List.length_take] at hi
    rw [List.getElem_take]
    rw [hno i (by omega) (by omega)]
    rfl
  refine ⟨?_, rfl, hzl, fun k hk => ?_, fun k _ => rfl⟩
  · rw [leftZ_out hj hp, h0, List.length_take]; omega
  · rw [leftZ_out hj hp, h0, List.getElem?_take_of_lt hk, hz k (by omega), List.getElem?_eq_getElem (by omega)]
    rfl

set_option maxRecDepth 100000 in
set_option maxHeartbeats 4000000 in
theorem deleteH_any (f : Nat) (caps : Array Value) (p : List Int → Bool) (hent : ∀ (args : Array Value) (W : World), (callFunc f args).run Try.prog W = .ok (.enter f args) W) (h0 : Nat) (lv : Value) (svs : List Value) (pre : List (List Int)) (hL : pre.length ≤ 4194304) (w : World) (h : Grp h0 lv svs pre w) (hw : h0 ≤ w.heap.size)
    (hp : ∀ x ∈ pre, ∀ sx W, Below h0 w W → Ints W.heap.size W sx x → Calls Try.prog f (#[sx] ++ caps) W fun e w' => e = .returned (.bool (p x)) ∧ Below W.heap.size W w') :
    Calls Try.prog 27 #[lv, .func (.func f) #[] caps] w fun e w' => ∃ rv, e = .returned rv ∧ Lsts w'.heap.size w' rv (pre.filter fun x => !p x) ∧ Below h0 w w' := by
  have hlen := h.len
  have hlst := h.lsts
  have hidx := indexH_any f caps p hent pre (by omega) lv w hlst (fun x hx sx W hb hI => hp x hx sx W (hb.mono hw) (hI.mono hb.size))
  have HG : Hid (Grp h0 lv svs pre w) := h
  have HP : Hid (∀ x ∈ pre, ∀ sx W, Below h0 w W → Ints W.heap.size W sx x → Calls Try.prog f (#[sx] ++ caps) W fun e w' => e = .returned (.bool (p x)) ∧ Below W.heap.size W w') := hp
  have HLS : Hid (Lsts w.heap.size w lv pre) := hlst
  clear hp hlst
  rcases idxQ_cases p pre with ⟨hno, hi⟩ | ⟨j0, hj0, hp0, hno, hi⟩
  · rw [hi] at hidx
    have HF : Hid (pre.filter (fun x => !p x) = pre) := by
      show _ = _
      rw [List.filter_eq_self]
      intro x hx
      rw [hno x hx]
      rfl
    obtain ⟨al, cl, rfl⟩ := owns_formP h.own
    rw [hlen] at hidx HLS ⊢
    clear h hi hno hlen HG HP
    go_enter Try.func27, Try.ntmps27
    go_wp2_with fail
    refine hidx.mono ?_
    clear hidx
    rintro e w2 ⟨rfl, hb2⟩
    go_wp2
    go_ret
    exact ⟨_, rfl, by rw [HF.out]; exact HLS.out.go hb2, hb2.mono hw⟩
  · rw [hi] at hidx
    have hown := h.own
    obtain ⟨g, cap, rfl⟩ := owns_pos h.own (by omega)
    obtain ⟨rest, hB, -, hcap, hg⟩ := owns_blkL hown
    have hgl := hB.lt
    obtain ⟨n, hn⟩ : ∃ n, svs.length = n := ⟨_, rfl⟩
    have hzl : (svs.zip pre).length = n := by rw [List.length_zip]; omega
    have hz1 : ∀ k (h : k < (svs.zip pre).length), (svs ++ rest)[k]? = some (svs.zip pre)[k].1 := fun k h => by
      rw [hzl] at h
      rw [List.getElem?_append_left (by omega), List.getElem_zip, List.getElem?_eq_getElem (by omega)]
    have hz2 : ∀ k (h : k < (svs.zip pre).length), (svs.zip pre)[k].2 = pre[k]'(by rw [hzl] at h; omega) := fun k h => by rw [List.getElem_zip]
    have HS0 : Hid (DelS p (svs.zip pre) (svs ++ rest) (svs ++ rest) j0 (j0 + 1)) := DelS.start (by omega) hz1 (by rw [hzl, List.length_append]; omega) (by rw [hz2]; exact hp0) (fun i h1 h2 => by rw [hz2]; exact hno i (by omega) h2)
    have hm : ((j0 : Int) == -1) = false := by simp
    have hj0n : j0 < n := by omega
    have hn4 : n ≤ 4194304 := by omega
    have hwj : IntKind.i64.wrap ((j0 : Int) + 1) = ((j0 + 1 : Nat) : Int) := by rw [wrap_i _ (by omega) (by omega)]; simp
    rw [hn] at hcap hidx hown
    have HZ : Hid ((∀ k (h : k < (svs.zip pre).length), (svs ++ rest)[k]? = some (svs.zip pre)[k].1) ∧ ∀ k (h : k < (svs.zip pre).length) (h' : k < pre.length), (svs.zip pre)[k].2 = pre[k]) := ⟨hz1, fun k h _ => hz2 k h⟩
    have HB0 : Hid (Blk 27 w g (svs ++ rest)) := hB
    have HN : Hid (svs.length = n ∧ pre.length = n ∧ (svs.zip pre).length = n) := ⟨hn, by omega, hzl⟩
    clear h hi hno hp0 hB hown hz1 hz2
    rw [hn]
    clear hn hlen hzl hj0 hL
    go_enter Try.func27, Try.ntmps27
    go_wp2_with fail
    refine hidx.mono ?_
    clear hidx
    rintro e w2 ⟨rfl, hb2⟩
    have HB2 : Hid (Blk 27 w2 g (svs ++ rest)) := HB0.out.go hb2
    have HGR : Hid (w.grownBy w2 (some g)) := grown_below' hb2 _
    clear HB0 hb2
    go_wp2
    go_loopw [5, 6] (fun iv jv wr => ∃ (i j : Nat) (cur : List Value), iv = .int .i64 (i : Int) ∧ jv = .int .i64 (j : Int) ∧ i < j ∧ j ≤ n ∧ Hid (DelS p (svs.zip pre) (svs ++ rest) cur i j) ∧ Hid (Blk 27 wr g cur) ∧ Hid (w.grownBy wr (some g))) (fun _ jv _ => n - (intOf jv).toNat)
    case atStart => exact ⟨j0, j0 + 1, svs ++ rest, rfl, by go_num, by omega, by omega, HS0, HB2, HGR⟩
    case round =>
      clear HS0 HB2 HGR hm hwj
      obtain ⟨i, j, cur, rfl, rfl, hij, hjn, HS, HB, HGR⟩ := hrel
      obtain ⟨hn, hpl, hzl⟩ := HN.out
      have hal : (svs ++ rest).length = cap := by rw [List.length_append]; omega
      have hcur : cur.length = cap := by rw [HS.out.cl, hal]
      by_cases hlt : j < n
      · have hjl : (j : Int) < (n : Int) := by omega
        have hjz : j < (svs.zip pre).length := by omega
        have hjp : j < pre.length := by omega
        have hsx : (svs.zip pre)[j].1 = svs[j] := by rw [List.getElem_zip]
        have hxx := HZ.out.2 j hjz hjp
        have c0 : wr.cell? ⟨g, j, none⟩ = some svs[j] := HB.out.cell (by rw [HS.out.hi j (Nat.le_refl _), HZ.out.1 j hjz, hsx])
        have hin := HG.out.inn j svs[j] pre[j] (List.getElem?_eq_getElem (by omega)) (List.getElem?_eq_getElem hjp)
        have hou := HG.out.outer j svs[j] (List.getElem?_eq_getElem (by omega))
        have hI : Ints wr.heap.size wr svs[j] pre[j] := owns_intsP (owns_keep hin HGR.out hou)
        have hlow : Below h0 w wr := grown_low HGR.out hg hw
        have hcl := HP.out pre[j] (List.getElem_mem hjp) svs[j] wr hlow hI
        obtain ⟨px, cx, hpx⟩ := hI.len
        have HSX : Hid ((svs.zip pre)[j].1 = .slice px pre[j].length cx) := by show _ = _; rw [hsx, hpx]
        rw [hpx] at c0 hcl
        clear hin hou hI hlow hsx
        have HLT : Hid (j < n) := hlt
        have hj4 : j < 4194304 := by omega
        have hi4 : i < 4194304 := by omega
        cases hv : p pre[j] with
        | true =>
          have HS2 : Hid (DelS p (svs.zip pre) (svs ++ rest) cur i (j + 1)) := HS.out.drop hjz (by rw [hxx]; exact hv)
          rw [hv] at hcl
          generalize pre[j].length = m at *
          clear HS hlt hv hxx hpx HSX
          go_wp2_with fail
          refine hcl.mono ?_
          clear hcl
          rintro e w3 ⟨rfl, hb3⟩
          have HB3 : Hid (Blk 27 w3 g cur) := HB.out.go hb3
          have HGR3 : Hid (w.grownBy w3 (some g)) := HGR.out.trans (grown_below' hb3 _)
          clear hb3 HB HGR c0
          go_wp2
          exact ⟨⟨i, j + 1, cur, rfl, by go_num, by omega, HLT.out, HS2, HB3, HGR3⟩, by have := HLT.out; simp [intOf]; omega⟩
        | false =>
          have HS2 : Hid (DelS p (svs.zip pre) (svs ++ rest) (cur.set i (.slice px pre[j].length cx)) (i + 1) (j + 1)) := by
            have h1 := HS.out.keep hjz (by rw [hxx]; exact hv)
            rw [HSX.out] at h1
            exact h1
          rw [hv] at hcl
          generalize pre[j].length = m at *
          clear HS hlt hv hxx hpx HSX
          go_wp2_with fail
          refine hcl.mono ?_
          clear hcl
          rintro e w3 ⟨rfl, hb3⟩
          have hB3 : Blk 27 w3 g cur := HB.out.go hb3
          have HGR3 : Hid (w.grownBy w3 (some g)) := HGR.out.trans (grown_below' hb3 _)
          obtain ⟨y, d0⟩ : ∃ y, w3.cell? ⟨g, i, none⟩ = some y := ⟨_, hB3.cell (List.getElem?_eq_getElem (by omega))⟩
          have f0 := hB3.frozen i
          have HB4 : Hid (Blk 27 (w3.setCell ⟨g, i, none⟩ (.slice px m cx)) g (cur.set i (.slice px m cx))) := hB3.set i _
          have HGR4 : Hid (w.grownBy (w3.setCell ⟨g, i, none⟩ (.slice px m cx)) (some g)) := grown_set HGR3.out i _
          have hil : (i : Int) < (n : Int) := by omega
          clear hb3 HB HGR c0 hB3 HGR3
          go_wp2
          exact ⟨⟨i + 1, j + 1, _, by go_num, by go_num, by omega, HLT.out, HS2, HB4, HGR4⟩, by have := HLT.out; simp [intOf]; omega⟩
      · obtain rfl : j = n := by omega
        have hil : (i : Int) ≤ (j : Int) := by omega
        have hij2 : i ≤ j := by omega
        have hcl : ∀ ty, (Builtin.clear_ #[38] ty #[.slice (some ⟨g, i, none⟩) (j - i) (cap - i)]).run Try.prog wr = .ok (.tuple #[]) (wr.setCells g i (List.replicate (j - i) (.slice none 0 0))) := fun ty =>
          Lib.run_clear_slice wr _ 27 ty (.slice none 0 0) rfl zero_rowL rfl rfl g i _ _ (by omega) (fun k hk => by
            rw [HB.out.cell (List.getElem?_eq_getElem (by omega : i + k < cur.length))]; rfl) (fun k _ => HB.out.frozen _)
        have HLS2 : Hid (Lsts (wr.setCells g i (List.replicate (j - i) (.slice none 0 0))).heap.size (wr.setCells g i (List.replicate (j - i) (.slice none 0 0))) (.slice (some ⟨g, 0, none⟩) i cap) (pre.filter fun x => !p x)) := by
          have hfl : pre.filter (fun x => !p x) = (leftZ p (svs.zip pre) j).map Prod.snd := by
            unfold leftZ
            rw [List.take_of_length_le (by omega), map_snd_filterL (q := fun x => !p x) (svs.zip pre), List.map_snd_zip (by omega)]
          have hgr := grown_sets (List.replicate (j - i) (Value.slice none 0 0)) i wr HGR.out
          have hil2 := HS.out.il
          rw [hfl]
          refine .inr ⟨g, 0, cap, by rw [List.length_map, ← hil2], ?_, by rw [List.length_map, ← hil2]; omega, fun k x hx => ?_⟩
          · exact Nat.lt_of_lt_of_le hgl hgr.size
          · rw [List.getElem?_map] at hx
            cases hk : (leftZ p (svs.zip pre) j)[k]? with
            | none => rw [hk] at hx; cases hx
            | some y =>
              rw [hk] at hx
              obtain rfl : y.2 = x := Option.some.inj hx
              have hki := (List.getElem?_eq_some_iff.1 hk).1
              have hmem : y ∈ svs.zip pre := by
                have := List.mem_of_getElem? hk
                unfold leftZ at this
                exact List.mem_of_mem_take (List.mem_filter.1 this).1
              obtain ⟨q, hq, hqe⟩ := List.getElem_of_mem hmem
              have hq1 : svs[q]? = some y.1 := by rw [← hqe, List.getElem_zip, List.getElem?_eq_getElem (by omega)]
              have hq2 : pre[q]? = some y.2 := by rw [← hqe, List.getElem_zip, List.getElem?_eq_getElem (by omega)]
              refine ⟨y.1, ?_, owns_intsP (owns_keep (HG.out.inn q y.1 y.2 hq1 hq2) hgr (HG.out.outer q y.1 hq1))⟩
              rw [World.cell?_setCells_out g _ _ _ _ (fun _ _ => .inl (by simp only; omega)), Nat.zero_add]
              exact HB.out.cell (by rw [HS.out.lo k (by omega), hk]; rfl)
        have HLO : Hid (Below h0 w (wr.setCells g i (List.replicate (j - i) (.slice none 0 0)))) := grown_low (grown_sets _ i wr HGR.out) hg hw
        clear HS HB HGR HG HP HLS HZ hn hpl hzl hal hcur
        go_wp2
        go_ret
        exact ⟨_, rfl, HLS2.out, HLO.out⟩
end Go.Proofs.Ytdgecflljgnobaa
