/-
  The contract of parts.gathered: the places of each label.
-/
import Derived.Test.YtdgecflljgnobaaXPGrp
namespace Go.Proofs.Ytdgecflljgnobaa
open Go Go.Proofs Go.RowKit

/-- The labels among the first i, in the order in which they come, and the places of each. -/
def gath (l : List Int) : Nat → List Int × List (List Int)
  | 0 => ([], [])
  | i + 1 => if (gath l i).1.contains (l.getD i 0) then ((gath l i).1, (gath l i).2.set ((gath l i).1.idxOf (l.getD i 0)) ((gath l i).2.getD ((gath l i).1.idxOf (l.getD i 0)) [] ++ [(i : Int)])) else ((gath l i).1 ++ [l.getD i 0], (gath l i).2 ++ [[(i : Int)]])
theorem gath_old {l : List Int} {i : Nat} (h : l.getD i 0 ∈ (gath l i).1) : gath l (i + 1) = ((gath l i).1, (gath l i).2.set ((gath l i).1.idxOf (l.getD i 0)) ((gath l i).2.getD ((gath l i).1.idxOf (l.getD i 0)) [] ++ [(i : Int)])) := by
  rw [gath, if_pos (List.contains_iff_mem.2 h)]
theorem gath_new {l : List Int} {i : Nat} (h : l.getD i 0 ∉ (gath l i).1) : gath l (i + 1) = ((gath l i).1 ++ [l.getD i 0], (gath l i).2 ++ [[(i : Int)]]) := by
  rw [gath, if_neg (fun e => h (List.contains_iff_mem.1 e))]
theorem gath_len (l : List Int) : ∀ i, (gath l i).1.length = (gath l i).2.length
  | 0 => rfl
  | i + 1 => by
    have := gath_len l i
    by_cases h : l.getD i 0 ∈ (gath l i).1
    · rw [gath_old h]; simpa using this
    · rw [gath_new h]; simpa using this
theorem gath_mem {l : List Int} : ∀ {i : Nat}, i ≤ l.length → ∀ u, u ∈ (gath l i).1 ↔ u ∈ l.take i
  | 0, _, u => by simp [gath]
  | i + 1, h, u => by
    have ih := gath_mem (l := l) (i := i) (by omega)
    have hi : i < l.length := by omega
    have hg : l.getD i 0 = l[i] := by simp [hi]
    rw [List.take_add_one, List.getElem?_eq_getElem hi]
    by_cases hm : l.getD i 0 ∈ (gath l i).1
    · rw [gath_old hm]
      show u ∈ (gath l i).1 ↔ _
      rw [ih u, List.mem_append]
      constructor
      · exact .inl
      · rintro (h1 | h1)
        · exact h1
        · have : u = l[i] := by simpa using h1
          subst this
          rw [← hg]
          exact (ih _).1 hm
    · rw [gath_new hm]
      show u ∈ (gath l i).1 ++ [l.getD i 0] ↔ _
      rw [List.mem_append, List.mem_append, ih u, hg]
      simp
theorem gath_few (l : List Int) : ∀ i, (gath l i).1.length ≤ i
  | 0 => by simp [gath]
  | i + 1 => by
    have := gath_few l i
    by_cases h : l.getD i 0 ∈ (gath l i).1
    · rw [gath_old h]
      show (gath l i).1.length ≤ i + 1
      omega
    · rw [gath_new h]
      simp
      omega
theorem gath_short (l : List Int) : ∀ i, ∀ xs ∈ (gath l i).2, xs.length ≤ i
  | 0, xs, h => by simp [gath] at h
  | i + 1, xs, h => by
    have ih := gath_short l i
    by_cases hm : l.getD i 0 ∈ (gath l i).1
    · rw [gath_old hm] at h
      rcases List.mem_or_eq_of_mem_set h with h1 | h1
      · have := ih xs h1; omega
      · rw [h1, List.length_append]
        have hk : (gath l i).1.idxOf (l.getD i 0) < (gath l i).2.length := by rw [← gath_len]; exact List.idxOf_lt_length_iff.2 hm
        have h2 : (gath l i).2.getD ((gath l i).1.idxOf (l.getD i 0)) [] ∈ (gath l i).2 := by
          have e : (gath l i).2.getD ((gath l i).1.idxOf (l.getD i 0)) [] = (gath l i).2[(gath l i).1.idxOf (l.getD i 0)] := by rw [List.getD_eq_getElem?_getD, List.getElem?_eq_getElem hk]; rfl
          rw [e]
          exact List.getElem_mem hk
        have := ih _ h2
        rw [List.length_singleton]
        omega
    · rw [gath_new hm] at h
      rcases List.mem_append.1 h with h1 | h1
      · have := ih xs h1; omega
      · rw [List.mem_singleton.1 h1]
        simp
/-- How many of each label are still to come as a new one. -/
def szL (l : List Int) (i : Nat) : List Int := (List.range l.length).map fun (v : Nat) => if (v : Int) ∈ l.take i then 0 else ((l.count (v : Int) : Nat) : Int)
theorem szL_len (l : List Int) (i : Nat) : (szL l i).length = l.length := by simp [szL]
theorem szL_at {l : List Int} {i v : Nat} (h : v < l.length) : (szL l i)[v]? = some (if (v : Int) ∈ l.take i then 0 else ((l.count (v : Int) : Nat) : Int)) := by simp [szL, h]
theorem szL_zero (l : List Int) : szL l 0 = cntL l.length l l.length := by
  simp [szL, cntL]
theorem mem_next {l : List Int} {i : Nat} (h : i < l.length) (x : Int) : x ∈ l.take (i + 1) ↔ x ∈ l.take i ∨ x = l[i] := by
  rw [List.take_add_one, List.getElem?_eq_getElem h, List.mem_append]
  simp
theorem szL_old {l : List Int} {i u : Nat} (h : i < l.length) (hu : l[i] = (u : Int)) (hm : (u : Int) ∈ l.take i) : szL l (i + 1) = szL l i := by
  unfold szL
  refine List.map_congr_left fun v _ => ?_
  have : (v : Int) ∈ l.take (i + 1) ↔ (v : Int) ∈ l.take i := by
    rw [mem_next h, hu]
    constructor
    · rintro (h1 | h1)
      · exact h1
      · rw [h1]; exact hm
    · exact .inl
  simp only [this]
theorem szL_new {l : List Int} {i u : Nat} (h : i < l.length) (hu : l[i] = (u : Int)) (huN : u < l.length) : (szL l i).set u 0 = szL l (i + 1) := by
  apply List.ext_getElem?
  intro v
  by_cases hv : v < l.length
  · rw [szL_at hv, List.getElem?_set, szL_len, szL_at hv]
    by_cases h1 : u = v
    · subst h1
      rw [if_pos rfl, if_pos huN, if_pos ((mem_next h _).2 (.inr hu.symm))]
    · rw [if_neg h1]
      have : (v : Int) ∈ l.take (i + 1) ↔ (v : Int) ∈ l.take i := by
        rw [mem_next h, hu]
        constructor
        · rintro (h2 | h2)
          · exact h2
          · omega
        · exact .inl
      simp only [this]
  · rw [List.getElem?_eq_none (by rw [List.length_set, szL_len]; omega), List.getElem?_eq_none (by rw [szL_len]; omega)]
theorem idx_left {o : List Int} {x y : Int} (h : x ∈ o) : (o ++ [y]).idxOf x = o.idxOf x := by rw [List.idxOf_append, if_pos h]
/-- The groups' row: of each label that has come, which list it is. -/
def GrpRow (o : List Int) (grow : List Int) : Prop := ∀ v : Nat, (v : Int) ∈ o → grow[v]? = some ((o.idxOf (v : Int) : Nat) : Int)
theorem GrpRow.new {o grow : List Int} {u : Nat} (h : GrpRow o grow) (hu : (u : Int) ∉ o) (hl : u < grow.length) : GrpRow (o ++ [(u : Int)]) (grow.set u ((o.length : Nat) : Int)) := by
  intro v hv
  rw [List.getElem?_set]
  by_cases he : u = v
  · subst he
    rw [if_pos rfl, if_pos hl, List.idxOf_append, if_neg hu]
    simp
  · rw [if_neg he]
    rcases List.mem_append.1 hv with h1 | h1
    · rw [idx_left h1]; exact h v h1
    · simp at h1; omega
theorem owns_slice {W : World} {base : Nat} {e : TypeId} {size : Nat} {v : Value} {n : Nat} {xs : List Value} (h : W.ownsRow base e size v n xs) : ∃ a m c, v = .slice a m c := by
  rcases h.2 with ⟨hv, _⟩ | ⟨g, cap, cur, hv, _⟩ <;> exact ⟨_, _, _, hv⟩
theorem owns_formP {W : World} {base : Nat} {e : TypeId} {size : Nat} {v : Value} {n : Nat} {xs : List Value} (h : W.ownsRow base e size v n xs) : ∃ p c, v = .slice p n c := by
  rcases h.2 with ⟨rfl, rfl⟩ | ⟨g, cap, cur, rfl, _⟩ <;> exact ⟨_, _, rfl⟩
theorem or_none (v : Value) : v.ownBlock = none ∨ v.ownBlock ≠ none := by
  cases v.ownBlock with
  | none => exact .inl rfl
  | some k => exact .inr (by simp)
theorem one_cell (W : World) (v : Value) (t : TypeId) : ∀ (q : Nat) (u : Value), [v][q]? = some u → (W.alloc (.cells #[v] t)).cell? ((⟨W.heap.size, 0, none⟩ : Addr).add q) = some u := by
  intro q u hu
  cases q with
  | zero => simp at hu; subst hu; simp [Addr.add]
  | succ q => simp at hu
theorem owns_pos {w : World} {base size n : Nat} {e : TypeId} {v : Value} {xs : List Value} (h : w.ownsRow base e size v n xs) (hn : 0 < n) : ∃ g cap, v = .slice (some ⟨g, 0, none⟩) n cap := by
  rcases h.2 with ⟨_, h0⟩ | ⟨g, cap, cur, hv, _⟩
  · omega
  · exact ⟨g, cap, hv⟩

set_option maxRecDepth 100000 in
set_option maxHeartbeats 4000000 in
theorem gathered_at (l : List Int) (hL : Labels l) (hl : l.length ≤ 4194304) (sv : Value) (w : World) (hA : Ints w.heap.size w sv l) :
    Calls Try.prog 37 #[sv] w fun r w' => ∃ lv svs h0, r = .returned lv ∧ Grp h0 lv svs (gath l l.length).2 w' ∧ Below w.heap.size w w' ∧ w.heap.size ≤ h0 := by
  obtain ⟨p, c, rfl⟩ := hA.len
  obtain ⟨i0, hi, hz0, hz1, hz2⟩ := info_parts infoI
  obtain ⟨j0, kj, kz0, kz1, kz2⟩ := info_parts infoSl
  have hct := counted_any l hL hl _ w hA
  go_enter Try.func37, Try.ntmps37
  go_wp2_with fail
  refine hct.mono ?_
  clear hct
  rintro e w2 ⟨gs, rfl, hS2, hgs, hb2⟩
  have hgl2 := hS2.lt
  go_wp2_with (at_make; refine wpList_make_full _ rfl _ _ 27 rfl w2.heap.size 3 i0 (.int .i64 0) 1 Try.underlying27 hi hz0 hz1 .i64 .i64 _ _ l.length rfl rfl rfl rfl (by rw [hz2]; omega) (by unfold maxLen; omega) (Nat.le_refl _) ?_; intro w3 hown hgrow; have hb3 : Below w2.heap.size w2 w3 := (Below.refl _ _).grown hgrow (Nat.le_refl _) (fun k e => by cases e))
  have hG3 := Blk.made hown
  rw [ints_made] at hG3
  have hS3 := hS2.go hb3
  rw [← szL_zero] at hS3
  have hbw3 := hb2.trans (hb3.mono hb2.size)
  have HW3 : Hid (w.heap.size ≤ w3.heap.size) := hbw3.size
  have hgg3 : w2.heap.size < w3.heap.size := hG3.lt
  have hgg0 : w.heap.size ≤ w2.heap.size := hb2.size
  clear hown hgrow hb3 hS2 hb2
  generalize w2.heap.size = gg at hG3 hgg3 hgl2 hgg0
  go_loopw [5, 16] (fun lv iv wr => ∃ (i : Nat) (svs : List Value) (grow : List Int), i ≤ l.length ∧ iv = .int .i64 i ∧ Grp w3.heap.size lv svs (gath l i).2 wr ∧ Blk 3 wr gs ((szL l i).map (Value.int .i64)) ∧ Blk 3 wr gg (grow.map (Value.int .i64)) ∧ grow.length = l.length ∧ Hid (GrpRow (gath l i).1 grow) ∧ Below w.heap.size w wr ∧ w3.heap.size ≤ wr.heap.size) (fun _ iv _ => l.length - (intOf iv).toNat)
  case atStart => exact ⟨0, [], List.replicate l.length 0, Nat.zero_le _, rfl, Grp.start _ _, hS3, hG3, by simp, fun v hv => by simp [gath] at hv, hbw3, Nat.le_refl _⟩
  case round =>
    obtain ⟨i, svs, grow, hil, rfl, hGr, hS, hG, hgl, hrow, hb, hsz⟩ := hrel
    by_cases hlt : i < l.length
    · obtain ⟨b, off, rfl, hbb, hcap, hc⟩ := hA.open hlt
      have c0 := hc wr hb i hlt
      have hjl : (i : Int) < (l.length : Int) := by omega
      have hok := hL l[i] (List.getElem_mem hlt)
      obtain ⟨u, hu⟩ : ∃ u : Nat, l[i] = (u : Int) := ⟨l[i].toNat, by omega⟩
      have huN : u < l.length := by omega
      have huN' : (u : Int) < (l.length : Int) := by omega
      have hgd : l.getD i 0 = (u : Int) := by simp [hlt, hu]
      rw [hu] at c0
      have f0 := hS.frozen u
      have f1 := hG.frozen u
      have hmem := gath_mem (l := l) (i := i) (by omega) (u : Int)
      have hfew := gath_few l i
      have hlen := gath_len l i
      have hsl := hGr.len
      by_cases hm : (u : Int) ∈ l.take i
      · have hmo : (u : Int) ∈ (gath l i).1 := hmem.2 hm
        have HG : Hid (gath l (i + 1) = ((gath l i).1, (gath l i).2.set ((gath l i).1.idxOf (u : Int)) ((gath l i).2.getD ((gath l i).1.idxOf (u : Int)) [] ++ [(i : Int)]))) := by
          rw [Hid, gath_old (by rw [hgd]; exact hmo), hgd]
        have HSZ : Hid (szL l (i + 1) = szL l i) := szL_old hlt hu hm
        have t0 : wr.cell? ⟨gs, u, none⟩ = some (.int .i64 0) := hS.cell (by rw [List.getElem?_map, szL_at huN, if_pos hm]; rfl)
        have hk2 : (gath l i).1.idxOf (u : Int) < (gath l i).2.length := by rw [← hlen]; exact List.idxOf_lt_length_iff.2 hmo
        have t1 : wr.cell? ⟨gg, u, none⟩ = some (.int .i64 (((gath l i).1.idxOf (u : Int) : Nat) : Int)) := hG.cell (by rw [List.getElem?_map, hrow.out u hmo]; rfl)
        obtain ⟨k, hk⟩ : ∃ k, (gath l i).1.idxOf (u : Int) = k := ⟨_, rfl⟩
        rw [hk] at HG hk2 t1
        obtain ⟨xs, hxs⟩ : ∃ xs, (gath l i).2[k]? = some xs := ⟨_, List.getElem?_eq_getElem hk2⟩
        have hxl := gath_short l i xs (List.mem_of_getElem? hxs)
        have HG2 : Hid (gath l (i + 1) = ((gath l i).1, (gath l i).2.set k (xs ++ [(i : Int)]))) := by
          rw [Hid, HG.out, List.getD_eq_getElem?_getD, hxs]
          rfl
        obtain ⟨sk, hsk⟩ : ∃ sk, svs[k]? = some sk := ⟨_, List.getElem?_eq_getElem (by omega)⟩
        obtain ⟨g, cap2, rfl⟩ := owns_pos hGr.own (by omega)
        have hin := hGr.inn k sk xs hsk hxs
        obtain ⟨ak, mk, ck, rfl⟩ := owns_slice hin
        have hcell : wr.cell? ⟨g, k, none⟩ = some (.slice ak mk ck) := (hGr.own.cellAt k (by omega)).trans hsk
        have hkl : (k : Int) < (svs.length : Int) := by omega
        have hownA := hin.alloc (.cells #[.int .i64 (i : Int)] 3)
        have hnews : ∀ (q : Nat) (u : Value), [Value.int .i64 (i : Int)][q]? = some u → (wr.alloc (.cells #[.int .i64 (i : Int)] 3)).cell? ((⟨wr.heap.size, 0, none⟩ : Addr).add q) = some u := by
          intro q u hu
          cases q with
          | zero => simp at hu; subst hu; simp [Addr.add]
          | succ q => simp at hu
        have hone : ∀ u ∈ [Value.int .i64 (i : Int)], u.oneCell' = true := by intro u hu; rw [List.mem_singleton.1 hu]; rfl
        have hmx : xs.length + 1 ≤ maxLen := by unfold maxLen; omega
        have hby : (xs.length + 1) * 8 ≤ 140737488355328 := by omega
        have hbs : w3.heap.size ≤ (wr.alloc (.cells #[.int .i64 (i : Int)] 3)).heap.size := by simp; omega
        have hlow : ∀ q, (Value.slice ak mk ck).ownBlock = some q → w3.heap.size ≤ q := fun q hq => (hin.lt q hq).1
        have hog := (hGr.own.lt g rfl)
        clear hc hok hmem HG hm hmo hk hgd
        go_wp2_with (at_builtin; refine wpList_append_own_at _ rfl _ _ 27 rfl w3.heap.size 3 i0 (.int .i64 0) 1 8 Try.underlying27 hi hz0 hz1 hz2 rfl (by decide) (.slice ak mk ck) _ _ rfl hownA ⟨wr.heap.size, 0, none⟩ 1 1 [.int .i64 (i : Int)] rfl rfl hnews hone hmx hby hbs ?_)
        intro v6 w6 hown6 hg6 hnil6 hat6
        obtain ⟨a6, m6, k6, rfl⟩ := owns_slice hown6
        have hP := hGr.push hsk hxs hown6 hg6 (by rw [World.size_alloc]; exact hat6)
        have hout : (Value.slice (some ⟨g, 0, none⟩) svs.length cap2).ownBlock = none ∨ (Value.slice (some ⟨g, 0, none⟩) svs.length cap2).ownBlock ≠ (Value.slice ak mk ck).ownBlock := by
          refine .inr fun e => ?_
          rcases hGr.outer k _ hsk with h1 | h1
          · rw [h1] at e; cases e
          · exact h1 e.symm
        have hown7 := owns_keep (World.ownsRow.alloc hGr.own (.cells #[.int .i64 (i : Int)] 3)) hg6 hout
        have y0 : w6.cell? ⟨g, k, none⟩ = some (.slice ak mk ck) := (hown7.cellAt k (by omega)).trans hsk
        have y1 := hown7.frozenAt k
        have hb6 : Below w.heap.size w w6 := (hb.alloc hb.size _).grown hg6 (by simp; omega) (fun q hq => by have := hlow q hq; omega)
        have hlo6 : Below w3.heap.size wr w6 := ((Below.refl _ _).alloc hsz _).grown hg6 hbs (fun q hq => hlow q hq)
        have hS6 := hS.below hlo6 (by omega)
        have hG6 := hG.below hlo6 (by omega)
        have hgw : w3.heap.size ≤ g := hog.1
        have hsz6 := hlo6.size
        clear hown6 hg6 hnil6 hat6 hownA hnews hone c0 t0 t1 hcell hGr
        go_wp2
        refine ⟨⟨i + 1, svs.set k (.slice a6 m6 k6), grow, by omega, by go_num, ?_, ?_, hG6.other (by simp only; omega) _, hgl, ?_, hb6.setCell (p := ⟨g, k, none⟩) (by simp only; omega) _, by simp; omega⟩, by simp [intOf]; omega⟩
        · rw [HG2.out, ← hsl]
          exact hP
        · rw [HSZ.out]
          exact hS6.other (by simp only; omega) _
        · rw [HG2.out]
          exact hrow
      · have hmo : (u : Int) ∉ (gath l i).1 := fun h => hm (hmem.1 h)
        have HG2 : Hid (gath l (i + 1) = ((gath l i).1 ++ [(u : Int)], (gath l i).2 ++ [[(i : Int)]])) := by
          rw [Hid, gath_new (by rw [hgd]; exact hmo), hgd]
        have HSZ : Hid ((szL l i).set u 0 = szL l (i + 1)) := szL_new hlt hu huN
        have HRW : Hid (GrpRow ((gath l i).1 ++ [(u : Int)]) (grow.set u (((gath l i).1.length : Nat) : Int))) := GrpRow.new hrow.out hmo (by omega)
        have hcp : 0 < l.count (u : Int) := List.count_pos_iff.2 (by rw [← hu]; exact List.getElem_mem hlt)
        have hcl : l.count (u : Int) ≤ l.length := List.count_le_length
        obtain ⟨q, hq⟩ : ∃ q, l.count (u : Int) = q := ⟨_, rfl⟩
        have t0 : wr.cell? ⟨gs, u, none⟩ = some (.int .i64 (q : Int)) := hS.cell (by rw [List.getElem?_map, szL_at huN, if_neg hm, hq]; rfl)
        rw [hq] at hcp hcl
        obtain ⟨gv, hgv⟩ : ∃ gv, grow[u]? = some gv := ⟨_, List.getElem?_eq_getElem (by omega)⟩
        have t1 : wr.cell? ⟨gg, u, none⟩ = some (.int .i64 gv) := hG.cell (by rw [List.getElem?_map, hgv]; rfl)
        obtain ⟨al, cl, rfl⟩ := owns_formP hGr.own
        have hK : (gath l i).1.length = svs.length := by omega
        rw [hK] at HRW
        have hsl2 : svs.length ≤ i := by omega
        have hq0 : (0 : Int) < (q : Int) := by omega
        have HSL : Hid (svs.length = (gath l i).2.length) := hsl
        clear hc hok hmem hm hmo hgd hq hgv hsl hlen hfew hrow
        have hGr1 := hGr.low (p := ⟨gg, u, none⟩) (by simp only; omega) (.int .i64 (svs.length : Int))
        have hS1 := hS.other (p := ⟨gg, u, none⟩) (by simp only; omega) (.int .i64 (svs.length : Int))
        have hG1 := hG.set u (.int .i64 (svs.length : Int))
        rw [← List.map_set] at hG1
        have hb1 := hb.setCell (p := ⟨gg, u, none⟩) (by simp only; omega) (.int .i64 (svs.length : Int))
        have tq : (wr.setCell ⟨gg, u, none⟩ (.int .i64 (svs.length : Int))).cell? ⟨gs, u, none⟩ = some (.int .i64 (q : Int)) := (World.cell?_setCell_other _ _ _ _ (fun e => by have h1 := congrArg Addr.block e; simp only at h1; omega)).trans t0
        have hsz1 : w3.heap.size ≤ (wr.setCell ⟨gg, u, none⟩ (.int .i64 (svs.length : Int))).heap.size := by simpa using hsz
        have hne : gs ≠ gg := by omega
        have hsW : (wr.setCell ⟨gg, u, none⟩ (.int .i64 (svs.length : Int))).heap.size = wr.heap.size := by simp
        have hmx : svs.length + 1 ≤ maxLen := by unfold maxLen; omega
        have hby : (svs.length + 1) * 24 ≤ 140737488355328 := by omega
        have hone : ∀ u ∈ [Value.slice (some ⟨wr.heap.size, 0, none⟩) 0 q], u.oneCell' = true := by intro u hu; rw [List.mem_singleton.1 hu]; rfl
        go_wp2_with (first | (at_make; refine wpList_make_own _ rfl _ _ 27 rfl w3.heap.size 3 i0 (.int .i64 0) 1 Try.underlying27 hi hz0 hz1 .i64 .i64 _ q rfl rfl rfl (by rw [hz2]; omega) (by unfold maxLen; omega) hsz1 ?_; intro wA hownA hgA; rw [hsW] at hownA; have hLA := World.ownsRow.alloc (owns_keep hGr1.own hgA (or_none _)) (.cells #[.slice (some ⟨wr.heap.size, 0, none⟩) 0 q] 27); have hnews := one_cell wA (.slice (some ⟨wr.heap.size, 0, none⟩) 0 q) 27; have hbs : w3.heap.size ≤ (wA.alloc (.cells #[.slice (some ⟨wr.heap.size, 0, none⟩) 0 q] 27)).heap.size := Nat.le_trans (Nat.le_trans hsz1 hgA.size) (by simp)) | (at_builtin; refine wpList_append_own_at _ rfl _ _ 38 rfl w3.heap.size 27 j0 (.slice none 0 0) 1 24 Try.underlying38 kj kz0 kz1 kz2 rfl (by decide) (.slice al svs.length cl) _ _ rfl hLA ⟨wA.heap.size, 0, none⟩ 1 1 [.slice (some ⟨wr.heap.size, 0, none⟩) 0 q] rfl rfl hnews hone hmx hby hbs ?_))
        intro v6 w6 hown6 hg6 hnil6 hat6
        obtain ⟨g, cap2, rfl⟩ := owns_pos hown6 (by omega)
        have hWA : wr.heap.size < wA.heap.size := (hownA.lt wr.heap.size rfl).2
        have hGr6 := hGr1.new hgA hownA (by simp [Value.ownBlock]) (by rw [hsW]; exact hWA) hown6 hg6 (by rw [World.size_alloc]; exact hat6)
        have hlowL : ∀ k, (Value.slice al svs.length cl).ownBlock = some k → w3.heap.size ≤ k := fun k e => (hGr1.own.lt k e).1
        have hlo6 : Below w3.heap.size (wr.setCell ⟨gg, u, none⟩ (.int .i64 (svs.length : Int))) w6 := (((Below.refl _ _).grown hgA hsz1 (fun k e => by cases e)).alloc (Nat.le_trans hsz1 hgA.size) _).grown hg6 hbs hlowL
        have hS6 := hS1.below hlo6 (by omega)
        have hG6 := hG1.below hlo6 (by omega)
        have hb6 : Below w.heap.size w w6 := hb1.trans (hlo6.mono (by omega))
        have hsz6 : w3.heap.size ≤ w6.heap.size := Nat.le_trans hsz1 hlo6.size
        have s0 : w6.cell? ⟨gs, u, none⟩ = some (.int .i64 (q : Int)) := (hlo6.cell (p := ⟨gs, u, none⟩) (by simp only; omega)).trans tq
        have s1 := hS6.frozen u
        have hS7 := hS6.set u (.int .i64 0)
        rw [← List.map_set, HSZ.out] at hS7
        have hG7 := hG6.other (p := ⟨gs, u, none⟩) (by simp only; omega) (.int .i64 0)
        have hGr7 := hGr6.low (p := ⟨gs, u, none⟩) (by simp only; omega) (.int .i64 0)
        have hb7 := hb6.setCell (p := ⟨gs, u, none⟩) (by simp only; omega) (.int .i64 0)
        have hsz7 : w3.heap.size ≤ (w6.setCell ⟨gs, u, none⟩ (.int .i64 0)).heap.size := by simpa using hsz6
        have t7 : (w6.setCell ⟨gs, u, none⟩ (.int .i64 0)).cell? ⟨gg, u, none⟩ = some (.int .i64 (svs.length : Int)) := hG7.cell (by rw [List.getElem?_map, List.getElem?_set_self (by omega)]; rfl)
        clear hown6 hg6 hnil6 hat6 hLA hnews hone hbs hgA hownA hGr6 hGr1 hS1 hG1 tq t0 t1 hlo6 hS6 hG6 hlowL hmx hby
        generalize hC : w6.setCell ⟨gs, u, none⟩ (.int .i64 0) = w7 at hS7 hG7 hGr7 hb7 hsz7 t7
        have hsk : (svs ++ [Value.slice (some ⟨wr.heap.size, 0, none⟩) 0 q])[svs.length]? = some (.slice (some ⟨wr.heap.size, 0, none⟩) 0 q) := by simp
        have hxs : ((gath l i).2 ++ [([] : List Int)])[svs.length]? = some [] := by rw [HSL.out]; simp
        have hin := hGr7.inn svs.length _ _ hsk hxs
        have hll : (svs ++ [Value.slice (some ⟨wr.heap.size, 0, none⟩) 0 q]).length = svs.length + 1 := by simp
        have hown7 := hGr7.own
        rw [hll] at hown7
        have hcell : w7.cell? ⟨g, svs.length, none⟩ = some (.slice (some ⟨wr.heap.size, 0, none⟩) 0 q) := (hown7.cellAt svs.length (by omega)).trans hsk
        have hkl : (svs.length : Int) < (svs.length : Int) + 1 := by omega
        have hownI := hin.alloc (.cells #[.int .i64 (i : Int)] 3)
        have hnews := one_cell w7 (.int .i64 (i : Int)) 3
        have hone : ∀ u ∈ [Value.int .i64 (i : Int)], u.oneCell' = true := by intro u hu; rw [List.mem_singleton.1 hu]; rfl
        have hbs : w3.heap.size ≤ (w7.alloc (.cells #[.int .i64 (i : Int)] 3)).heap.size := by simp; omega
        have hlow : ∀ k, (Value.slice (some ⟨wr.heap.size, 0, none⟩) 0 q).ownBlock = some k → w3.heap.size ≤ k := fun k hk => (hin.lt k hk).1
        have hmx : ([] : List Int).length + 1 ≤ maxLen := by unfold maxLen; simp
        have hby : (([] : List Int).length + 1) * 8 ≤ 140737488355328 := by simp
        have hog := hown7.lt g rfl
        go_wp2_with (at_builtin; refine wpList_append_own_at _ rfl _ _ 27 rfl w3.heap.size 3 i0 (.int .i64 0) 1 8 Try.underlying27 hi hz0 hz1 hz2 rfl (by decide) (.slice (some ⟨wr.heap.size, 0, none⟩) 0 q) _ _ rfl hownI ⟨w7.heap.size, 0, none⟩ 1 1 [.int .i64 (i : Int)] rfl rfl hnews hone hmx hby hbs ?_)
        intro v8 w8 hown8 hg8 hnil8 hat8
        obtain ⟨a8, m8, k8, rfl⟩ := owns_slice hown8
        have hGr7' := hGr7
        rw [← hll] at hGr7'
        have hP := hGr7'.push (y := (i : Int)) hsk hxs hown8 hg8 (by rw [World.size_alloc]; exact hat8)
        have hout : (Value.slice (some ⟨g, 0, none⟩) (svs.length + 1) cap2).ownBlock = none ∨ (Value.slice (some ⟨g, 0, none⟩) (svs.length + 1) cap2).ownBlock ≠ (Value.slice (some ⟨wr.heap.size, 0, none⟩) 0 q).ownBlock := by
          refine .inr fun e => ?_
          rcases hGr7.outer svs.length _ hsk with h1 | h1
          · rw [h1] at e; cases e
          · exact h1 e.symm
        have hown9 := owns_keep (World.ownsRow.alloc hown7 (.cells #[.int .i64 (i : Int)] 3)) hg8 hout
        have y0 : w8.cell? ⟨g, svs.length, none⟩ = some (.slice (some ⟨wr.heap.size, 0, none⟩) 0 q) := (hown9.cellAt svs.length (by omega)).trans hsk
        have y1 := hown9.frozenAt svs.length
        have hlo8 : Below w3.heap.size w7 w8 := ((Below.refl _ _).alloc hsz7 _).grown hg8 hbs hlow
        have hb8 : Below w.heap.size w w8 := hb7.trans (hlo8.mono (by omega))
        have hS8 := hS7.below hlo8 (by omega)
        have hG8 := hG7.below hlo8 (by omega)
        have hgw : w3.heap.size ≤ g := hog.1
        have hsz8 : w3.heap.size ≤ w8.heap.size := Nat.le_trans hsz7 hlo8.size
        have HPre : Hid (((gath l i).2 ++ [([] : List Int)]).set svs.length ([] ++ [(i : Int)]) = (gath l i).2 ++ [[(i : Int)]]) := by
          rw [Hid, HSL.out, List.set_append_right _ _ (Nat.le_refl _), Nat.sub_self]
          rfl
        rw [HPre.out, hll] at hP
        clear hown8 hg8 hnil8 hat8 hownI hnews hone c0 t7 hcell hGr7 hGr7' hown9 hown7 hC
        go_wp2
        refine ⟨⟨i + 1, (svs ++ [Value.slice (some ⟨wr.heap.size, 0, none⟩) 0 q]).set svs.length (.slice a8 m8 k8), grow.set u (svs.length : Int), by omega, by go_num, ?_, hS8.other (by simp only; omega) _, hG8.other (by simp only; omega) _, by rw [List.length_set]; exact hgl, ?_, hb8.setCell (p := ⟨g, svs.length, none⟩) (by simp only; omega) _, by simp; omega⟩, by simp [intOf]; omega⟩
        · rw [HG2.out]
          exact hP
        · rw [HG2.out]
          exact HRW
    · obtain rfl : i = l.length := by omega
      go_wp2
      go_ret
      exact ⟨_, svs, _, rfl, hGr, hb, HW3.out⟩
theorem gathered_any (l : List Int) (hL : Labels l) (hl : l.length ≤ 4194304) (sv : Value) (w : World) (hA : Ints w.heap.size w sv l) :
    Calls Try.prog 37 #[sv] w fun r w' => ∃ lv svs h0, r = .returned lv ∧ Grp h0 lv svs (gath l l.length).2 w' ∧ Below w.heap.size w w' :=
  (gathered_at l hL hl sv w hA).mono fun _ _ ⟨a, b, c, h1, h2, h3, _⟩ => ⟨a, b, c, h1, h2, h3⟩
end Go.Proofs.Ytdgecflljgnobaa
