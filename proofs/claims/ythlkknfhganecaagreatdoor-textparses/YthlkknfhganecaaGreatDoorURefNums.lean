/-
  The reference's numbers (filigreeref05): the numbers of a line behind its first word.
-/
import Derived.Test.YthlkknfhganecaaGreatDoorURefWords
namespace Go.Proofs.YthlkknfhganecaaGreatDoor
open Go Go.Proofs Go.RowKit

/-- What numbers ends with. -/
def RNumsP (s first : ByteArray) (c : Nat) (w : World) (e : Ending) (w' : World) : Prop :=
  Below w.heap.size w w' ∧ match numsL s.data.toList first.data.toList c with
    | some l => ∃ lv, e = .returned (.tuple #[lv, .bool true]) ∧ Ints w'.heap.size w' lv l ∧ l.length = c
    | none => e = .returned (.tuple #[.slice none 0 0, .bool false])
def valR (y : List UInt8) : Int := (refO y).getD 0
theorem mapM_good : ∀ {L : List (List UInt8)}, (∀ y ∈ L, (refO y).isSome) → L.mapM refO = some (L.map valR)
  | [], _ => rfl
  | y :: L, h => by
    have h1 := mapM_good (L := L) (fun z hz => h z (List.mem_cons_of_mem _ hz))
    have h2 := h y (List.mem_cons_self ..)
    obtain ⟨v, hv⟩ := Option.isSome_iff_exists.1 h2
    rw [List.mapM_cons, h1, hv, List.map_cons, valR, hv]
    rfl
theorem ints_of_owns {W : World} {base : Nat} {e : TypeId} {v : Value} {l : List Int} (h : W.ownsRow base e 1 v l.length (l.map (Value.int .i64))) : Ints W.heap.size W v l := by
  rcases h.2 with ⟨rfl, h0⟩ | ⟨g, cap, cur, rfl, hb, hg, hn, hc⟩
  · have : l = [] := List.eq_nil_of_length_eq_zero h0
    subst this
    exact .inl ⟨⟨_, _, rfl⟩, rfl⟩
  · refine .inr ⟨g, 0, cap, rfl, (Array.getElem?_eq_some_iff.1 hg).1, hn, fun j x hx => ?_⟩
    have := h.cells (g := g) rfl j (.int .i64 x) (by rw [List.getElem?_map, hx]; rfl)
    rwa [Lib.add_plain] at this
theorem Strs.at {n : Nat} {W : World} {sv : Value} {ss : List ByteArray} (h : Strs n W sv ss) {j : Nat} (hj : j < ss.length) : ∃ b off cap, sv = .slice (some ⟨b, off, none⟩) ss.length cap ∧ b < n ∧ ss.length ≤ cap ∧ ∀ W', Below n W W' → ∀ i x, ss[i]? = some x → W'.cell? ⟨b, off + i, none⟩ = some (.string x) := by
  rcases h with ⟨_, rfl⟩ | ⟨b, off, cap, h1, h2, h3, h4⟩
  · simp at hj
  · exact ⟨b, off, cap, h1, h2, h3, fun W' hb i x hx => (hb.cell (p := ⟨b, off + i, none⟩) h2).trans (h4 i x hx)⟩

set_option maxRecDepth 100000 in
set_option maxHeartbeats 4000000 in
theorem refNumbers_any (s first : ByteArray) (hs : s.size ≤ 20000) (c : Nat) (hc1 : 1 ≤ c) (hc3 : c ≤ 3) (w : World) :
    Calls Tryz.prog 26 #[.string s, .string first, .int .i64 (c : Int)] w (RNumsP s first c w) := by
  have hwd := refWords_any s hs w
  have HP : Hid (∀ e W, Below w.heap.size w W → (match numsL s.data.toList first.data.toList c with | some l => ∃ lv, e = .returned (.tuple #[lv, .bool true]) ∧ Ints W.heap.size W lv l ∧ l.length = c | none => e = .returned (.tuple #[.slice none 0 0, .bool false])) → RNumsP s first c w e W) := fun e W h1 h2 => ⟨h1, h2⟩
  have HNM : Hid (numsL s.data.toList first.data.toList c = if (wordsL s.data.toList).length = c + 1 ∧ (wordsL s.data.toList)[0]? = some first.data.toList then ((wordsL s.data.toList).drop 1).mapM refO else none) := rfl
  have hGs := wordsL_free s.data.toList
  have hsz : s.data.toList.length = s.size := Array.length_toList
  rw [hsz] at hGs
  have hG1 : 1 ≤ (wordsL s.data.toList).length := List.length_pos_iff.2 (wordsL_ne _)
  have hG2 := wordsL_len s.data.toList
  rw [hsz] at hG2
  generalize wordsL s.data.toList = G at *
  generalize numsL s.data.toList first.data.toList c = NM at *
  go_enter Tryz.func26, Tryz.ntmps26
  go_wp2_with fail
  refine hwd.mono ?_
  clear hwd
  rintro e w2 ⟨lv, rfl, hS2, hb2⟩
  obtain ⟨b, off, cap, rfl, hbb, hcap, hcell⟩ := hS2.at (j := 0) (by rw [List.length_map]; omega)
  rw [List.length_map] at hcap ⊢
  have hcl : ∀ W', Below w2.heap.size w2 W' → ∀ i y, G[i]? = some y → W'.cell? ⟨b, off + i, none⟩ = some (.string (ofL y)) := fun W' h i y hy => hcell W' h i (ofL y) (by rw [List.getElem?_map, hy]; rfl)
  obtain ⟨y0, hy0⟩ : ∃ y, G[0]? = some y := ⟨_, List.getElem?_eq_getElem (by omega)⟩
  have c0 := hcl w2 (Below.refl _ _) 0 y0 hy0
  rw [Nat.add_zero] at c0
  clear hcell hS2
  have hgl0 : (0 : Int) < (G.length : Int) := by omega
  by_cases hFl : G.length = c + 1
  · have hne : ((G.length : Int) != (c : Int) + 1) = false := by simp; omega
    by_cases hwd : y0 = first.data.toList
    · have hwe : ((ofL y0).toList == first.toList) = true := by rw [ByteArray.toList_eq, ByteArray.toList_eq, ofL_data, hwd]; simp
      have HT : Hid (NM = (G.drop 1).mapM refO) := by
        rw [Hid, HNM.out, if_pos ⟨hFl, by rw [hy0, hwd]⟩]
      obtain ⟨i0, hi, hz0, hz1, hz2⟩ := info_parts info64
      have HFL : Hid (G.length = c + 1) := hFl
      have hcc : (G.length : Int) = (c : Int) + 1 := by omega
      clear HNM hwd hFl hne
      rw [HFL.out]
      go_wp2
      go_loopw [9, 10] (fun nv iv wr => ∃ j : Nat, j ≤ c ∧ iv = .int .i64 ((j : Int) + 1) ∧ Hid (∀ q y, q < j → G[q + 1]? = some y → (refO y).isSome) ∧ wr.ownsRow w2.heap.size 2 1 nv ((G.drop 1).take j).length ((((G.drop 1).take j).map valR).map (Value.int .i64)) ∧ Below w2.heap.size w2 wr) (fun _ iv _ => c + 1 - (intOf iv).toNat)
      case atStart => exact ⟨0, Nat.zero_le _, rfl, fun q y h => by omega, World.ownsRow_nil _ _ _ _, Below.refl _ _⟩
      case round =>
        obtain ⟨j, hj, rfl, hok, hown, hb⟩ := hrel
        have hbw := hb2.trans (hb.mono hb2.size)
        by_cases hlt : j < c
        · obtain ⟨y, hy⟩ : ∃ y, G[j + 1]? = some y := ⟨_, List.getElem?_eq_getElem (by have := HFL.out; omega)⟩
          have e0 := hcl wr hb (j + 1) y hy
          have hys := (hGs y (List.mem_of_getElem? hy)).2
          have hrn := refNumber_any (ofL y) (by rw [ofL_size]; omega) wr
          have hrv : refV (ofL y) = valR y := rfl
          have hrk : refK (ofL y) = if (refO y).isSome then 0 else 2 := rfl
          rw [hrv, hrk] at hrn
          have hjl : (j : Int) + 1 < (c : Int) + 1 := by omega
          have hjn : ((j : Int) + 1).toNat = j + 1 := by omega
          have HX : Hid (G[j + 1]? = some y) := hy
          have HTK : Hid ((G.drop 1).take (j + 1) = (G.drop 1).take j ++ [y]) := by
            rw [Hid, List.take_add_one, List.getElem?_drop, Nat.add_comm 1 j, hy]
            rfl
          have hlen : ((G.drop 1).take j).length ≤ 3 := by
            have := List.length_take_le j (G.drop 1)
            omega
          cases ho : (refO y).isSome with
          | true =>
            rw [ho, if_pos rfl] at hrn
            have HO : Hid (∀ q z, q < j + 1 → G[q + 1]? = some z → (refO z).isSome) := fun q z hq hz => by
              by_cases he : q = j
              · subst he; rw [HX.out] at hz; cases hz; exact ho
              · exact hok.out q z (by omega) hz
            clear hy ho hrv hrk hok
            generalize (G.drop 1).take j = A at *
            obtain ⟨v, hvy⟩ : ∃ v, valR y = v := ⟨_, rfl⟩
            rw [hvy] at hrn
            have HVY : Hid (valR y = v) := hvy
            clear hvy
            obtain ⟨al, ml, kl, rfl⟩ := owns_slice hown
            have hnews : ∀ (i : Nat) (u : Value), [Value.int .i64 v][i]? = some u → (wr.alloc (.cells #[.int .i64 v] 2)).cell? ((⟨wr.heap.size, 0, none⟩ : Addr).add i) = some u := by
              intro i u hu
              cases i with
              | zero => simp at hu; subst hu; simp [Addr.add]
              | succ i => simp at hu
            have hone : ∀ u ∈ [Value.int .i64 v], u.oneCell' = true := by intro u hu; rw [List.mem_singleton.1 hu]; rfl
            have hmx : A.length + 1 ≤ maxLen := by unfold maxLen; omega
            have hby : (A.length + 1) * 8 ≤ 140737488355328 := by omega
            have hbs : w2.heap.size ≤ (wr.alloc (.cells #[.int .i64 v] 2)).heap.size := by have := hb.size; simp; omega
            have hlow : ∀ k, (Value.slice al ml kl).ownBlock = some k → w2.heap.size ≤ k := fun k hk => by
              rcases hown.2 with ⟨h0, _⟩ | ⟨g, cap, cur, h0, h1, _⟩
              · rw [h0] at hk; simp [Value.ownBlock] at hk
              · rw [h0] at hk; simp [Value.ownBlock] at hk; omega
            have hownA := hown.alloc (.cells #[.int .i64 v] 2)
            go_wp2_with fail
            refine hrn.mono ?_
            clear hrn
            rintro e w4 ⟨rfl, rfl⟩
            go_wp2_with (at_builtin; refine wpList_append_own_at _ rfl _ _ 66 rfl w2.heap.size 2 i0 (.int .i64 0) 1 8 Tryz.underlying66 hi hz0 hz1 hz2 rfl (by decide) (.slice al ml kl) _ _ rfl hownA ⟨w4.heap.size, 0, none⟩ 1 1 [.int .i64 v] rfl rfl hnews hone hmx hby hbs ?_)
            intro v6 w6 hown6 hg6 hnil6 hat6
            obtain ⟨a6, m6, k6, rfl⟩ := owns_slice hown6
            have hb6 : Below w2.heap.size w2 w6 := (hb.alloc hb.size _).trans ⟨hg6.os, hg6.tape, hg6.output, hg6.size, fun k hk => hg6.block k (by omega) (fun e => by have := hlow k e.symm; omega)⟩
            have hown6' : w6.ownsRow w2.heap.size 2 1 (.slice a6 m6 k6) (A ++ [y]).length (((A ++ [y]).map valR).map (Value.int .i64)) := by
              rw [List.length_append, List.map_append, List.map_append, List.map_map]
              show w6.ownsRow w2.heap.size 2 1 (.slice a6 m6 k6) (A.length + 1) (List.map (Value.int IntKind.i64 ∘ valR) A ++ [Value.int IntKind.i64 (valR y)])
              rw [HVY.out]
              exact hown6
            clear hown6 hg6 hnil6 hat6 hownA hnews hone
            go_wp2
            exact ⟨⟨j + 1, by omega, by go_num, HO, by rw [HTK.out]; exact hown6', hb6⟩, by simp [intOf]; omega⟩
          | false =>
            rw [ho, if_neg (by simp)] at hrn
            have HT2 : Hid (NM = none) := by
              rw [Hid, HT.out]
              refine mapM_bad (j := j) (x := y) (by rw [List.getElem?_drop, Nat.add_comm 1 j]; exact hy) ?_
              cases hn : refO y with
              | none => rfl
              | some v => rw [hn] at ho; cases ho
            clear hy ho hrv hrk hok
            generalize valR y = v at *
            go_wp2_with fail
            refine hrn.mono ?_
            clear hrn
            rintro e w4 ⟨rfl, rfl⟩
            go_wp2
            go_ret2
            exact HP.out _ _ hbw (by rw [HT2.out]; rfl)
        · obtain rfl : j = c := by omega
          have HT2 : Hid (NM = some ((G.drop 1).map valR)) := by
            rw [Hid, HT.out]
            refine mapM_good fun x hx => ?_
            obtain ⟨q, hq⟩ := List.getElem?_of_mem hx
            rw [List.getElem?_drop, Nat.add_comm 1 q] at hq
            refine hok.out q x ?_ hq
            have := (List.getElem?_eq_some_iff.1 hq).1
            have := HFL.out
            omega
          have HTK : Hid ((G.drop 1).take j = G.drop 1) := List.take_of_length_le (by rw [List.length_drop]; have := HFL.out; omega)
          rw [HTK.out] at hown
          have hI : Ints wr.heap.size wr _ ((G.drop 1).map valR) := ints_of_owns (base := w2.heap.size) (e := 2) (by rw [List.length_map]; exact hown)
          have hlt' : ¬ (j : Int) + 1 < (j : Int) + 1 := by omega
          go_wp2
          go_ret2
          exact HP.out _ _ hbw (by rw [HT2.out]; exact ⟨_, rfl, hI, by have := HFL.out; simp; omega⟩)
    · have hwe : ((ofL y0).toList == first.toList) = false := by
        rw [ByteArray.toList_eq, ByteArray.toList_eq, ofL_data]
        simpa using hwd
      have HT : Hid (NM = none) := by
        rw [Hid, HNM.out, if_neg]
        intro h
        rw [hy0] at h
        exact hwd (Option.some.inj h.2)
      clear HNM hwd
      rw [hFl]
      go_wp2
      go_ret2
      exact HP.out _ _ hb2 (by rw [HT.out]; rfl)
  · have hne : ((G.length : Int) != (c : Int) + 1) = true := by simp; omega
    have HT : Hid (NM = none) := by
      rw [Hid, HNM.out, if_neg (fun h => hFl h.1)]
    clear HNM hFl
    go_wp2
    go_ret2
    exact HP.out _ _ hb2 (by rw [HT.out]; rfl)
end Go.Proofs.YthlkknfhganecaaGreatDoor
