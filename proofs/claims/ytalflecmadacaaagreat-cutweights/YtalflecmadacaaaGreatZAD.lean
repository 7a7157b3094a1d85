import Derived.Test.YtalflecmadacaaaGreatZAC
import Derived.ProofKit
import Derived.Deep.QuietTactic
import Derived.BigQuiet
set_option maxRecDepth 100000
set_option maxHeartbeats 8000000
namespace Go.Proofs.YtalflecmadacaaaGreat
open Go Go.Proofs Go.RowKit
def gath (l : List Int) : Nat → List Int × List (List Int)
 | 0 => ([], [])
 | i + 1 => if (gath l i).1.contains (l.getD i 0) then ((gath l i).1, (gath l i).2.set ((gath l i).1.idxOf (l.getD i 0)) ((gath l i).2.getD ((gath l i).1.idxOf (l.getD i 0)) [] ++ [(i : Int)])) else ((gath l i).1 ++ [l.getD i 0], (gath l i).2 ++ [[(i : Int)]])
theorem gath_old {l : List Int} {i : Nat} (h : l.getD i 0 ∈ (gath l i).1) : gath l (i + 1) = ((gath l i).1, (gath l i).2.set ((gath l i).1.idxOf (l.getD i 0)) ((gath l i).2.getD ((gath l i).1.idxOf (l.getD i 0)) [] ++ [(i : Int)])) := by
 rw [gath, if_pos (List.contains_iff_mem.2 h)]
theorem gath_new {l : List Int} {i : Nat} (h : l.getD i 0 ∉ (gath l i).1) : gath l (i + 1) = ((gath l i).1 ++ [l.getD i 0], (gath l i).2 ++ [[(i : Int)]]) := by
 rw [gath, if_neg (fun e => h (List.contains_iff_mem.1 e))]
theorem gath_len (l : List Int) : ∀ i, (gath l i).1.length = (gath l i).2.length
 | 0 => rfl
 | i + 1 => by
  have := gath_len l i
  by_cases h : l.getD i 0 ∈ (gath l i).1
  ·rw [gath_old h]; simpa using this
  ·rw [gath_new h]; simpa using this
theorem gath_mem {l : List Int} : ∀ {i : Nat}, i ≤ l.length → ∀ u, u ∈ (gath l i).1 ↔ u ∈ l.take i
 | 0, _, u => by simp [gath]
 | i + 1, h, u => by
  have ih := gath_mem (l := l) (i := i) (by omega)
  have hi : i < l.length := by omega
  have hg : l.getD i 0 = l[i] := by simp [hi]
  rw [List.take_add_one, List.getElem?_eq_getElem hi]
  by_cases hm : l.getD i 0 ∈ (gath l i).1
  ·rw [gath_old hm]
   show u ∈ (gath l i).1 ↔ _
   rw [ih u, List.mem_append]
   constructor
   ·exact .inl
   ·rintro (h1 | h1)
    ·exact h1
    ·have : u = l[i] := by simpa using h1
     subst this
     rw [← hg]
     exact (ih _).1 hm
  ·rw [gath_new hm]
   show u ∈ (gath l i).1 ++ [l.getD i 0] ↔ _
   rw [List.mem_append, List.mem_append, ih u, hg]
   simp
theorem gath_few (l : List Int) : ∀ i, (gath l i).1.length ≤ i
 | 0 => by simp [gath]
 | i + 1 => by
  have := gath_few l i
  by_cases h : l.getD i 0 ∈ (gath l i).1
  ·rw [gath_old h]
   show (gath l i).1.length ≤ i + 1
   omega
  ·rw [gath_new h]
   simp
   omega
theorem gath_short (l : List Int) : ∀ i, ∀ xs ∈ (gath l i).2, xs.length ≤ i
 | 0, xs, h => by simp [gath] at h
 | i + 1, xs, h => by
  have ih := gath_short l i
  by_cases hm : l.getD i 0 ∈ (gath l i).1
  ·rw [gath_old hm] at h
   rcases List.mem_or_eq_of_mem_set h with h1 | h1
   ·have := ih xs h1; omega
   ·rw [h1, List.length_append]
    have hk : (gath l i).1.idxOf (l.getD i 0) < (gath l i).2.length := by rw [← gath_len]; exact List.idxOf_lt_length_iff.2 hm
    have h2 : (gath l i).2.getD ((gath l i).1.idxOf (l.getD i 0)) [] ∈ (gath l i).2 := by
     have e : (gath l i).2.getD ((gath l i).1.idxOf (l.getD i 0)) [] = (gath l i).2[(gath l i).1.idxOf (l.getD i 0)] := by rw [List.getD_eq_getElem?_getD, List.getElem?_eq_getElem hk]; rfl
     rw [e]
     exact List.getElem_mem hk
    have := ih _ h2
    rw [List.length_singleton]
    omega
  ·rw [gath_new hm] at h
   rcases List.mem_append.1 h with h1 | h1
   ·have := ih xs h1; omega
   ·rw [List.mem_singleton.1 h1]
    simp
def szL (l : List Int) (i : Nat) : List Int := (List.range l.length).map fun (v : Nat) => if (v : Int) ∈ l.take i then 0 else ((l.count (v : Int) : Nat) : Int)
theorem szL_len (l : List Int) (i : Nat) : (szL l i).length = l.length := by simp [szL]
theorem szL_at {l : List Int} {i v : Nat} (h : v < l.length) : (szL l i)[v]? = some (if (v : Int) ∈ l.take i then 0 else ((l.count (v : Int) : Nat) : Int)) := by simp [szL, h]
theorem szL_zero (l : List Int) : szL l 0 = cntL l.length l l.length := by
 simp [szL, cntL]
theorem mem_next {l : List Int} {i : Nat} (h : i < l.length) (x : Int) : x ∈ l.take (i + 1) ↔ x ∈ l.take i ∨ x = l[i] := by
 rw [List.take_add_one, List.getElem?_eq_getElem h, List.mem_append]
 simp
theorem szL_old {l : List Int} {i u : Nat} (h : i < l.length) (hu : l[i] = (u : Int)) (hm : (u : Int) ∈ l.take i) : szL l (i + 1) = szL l i := by
 unfold szL
 refine List.map_congr_left fun v _ => ?_
 have : (v : Int) ∈ l.take (i + 1) ↔ (v : Int) ∈ l.take i := by
  rw [mem_next h, hu]
  constructor
  ·rintro (h1 | h1)
   ·exact h1
   ·rw [h1]; exact hm
  ·exact .inl
 simp only [this]
theorem szL_new {l : List Int} {i u : Nat} (h : i < l.length) (hu : l[i] = (u : Int)) (huN : u < l.length) : (szL l i).set u 0 = szL l (i + 1) := by
 apply List.ext_getElem?
 intro v
 by_cases hv : v < l.length
 ·rw [szL_at hv, List.getElem?_set, szL_len, szL_at hv]
  by_cases h1 : u = v
  ·subst h1
   rw [if_pos rfl, if_pos huN, if_pos ((mem_next h _).2 (.inr hu.symm))]
  ·rw [if_neg h1]
   have : (v : Int) ∈ l.take (i + 1) ↔ (v : Int) ∈ l.take i := by
    rw [mem_next h, hu]
    constructor
    ·rintro (h2 | h2)
     ·exact h2
     ·omega
    ·exact .inl
   simp only [this]
 ·rw [List.getElem?_eq_none (by rw [List.length_set, szL_len]; omega), List.getElem?_eq_none (by rw [szL_len]; omega)]
theorem idx_left {o : List Int} {x y : Int} (h : x ∈ o) : (o ++ [y]).idxOf x = o.idxOf x := by rw [List.idxOf_append, if_pos h]
def GrpRow (o : List Int) (grow : List Int) : Prop := ∀ v : Nat, (v : Int) ∈ o → grow[v]? = some ((o.idxOf (v : Int) : Nat) : Int)
theorem GrpRow.new {o grow : List Int} {u : Nat} (h : GrpRow o grow) (hu : (u : Int) ∉ o) (hl : u < grow.length) : GrpRow (o ++ [(u : Int)]) (grow.set u ((o.length : Nat) : Int)) := by
 intro v hv
 rw [List.getElem?_set]
 by_cases he : u = v
 ·subst he
  rw [if_pos rfl, if_pos hl, List.idxOf_append, if_neg hu]
  simp
 ·rw [if_neg he]
  rcases List.mem_append.1 hv with h1 | h1
  ·rw [idx_left h1]; exact h v h1
  ·simp at h1; omega
theorem owns_slice {W : World} {base : Nat} {e : TypeId} {size : Nat} {v : Value} {n : Nat} {xs : List Value} (h : W.ownsRow base e size v n xs) : ∃ a m c, v = .slice a m c := by
 rcases h.2 with ⟨hv, _⟩ | ⟨g, cap, cur, hv, _⟩ <;> exact ⟨_, _, _, hv⟩
theorem owns_formP {W : World} {base : Nat} {e : TypeId} {size : Nat} {v : Value} {n : Nat} {xs : List Value} (h : W.ownsRow base e size v n xs) : ∃ p c, v = .slice p n c := by
 rcases h.2 with ⟨rfl, rfl⟩ | ⟨g, cap, cur, rfl, _⟩ <;> exact ⟨_, _, rfl⟩
theorem or_none (v : Value) : v.ownBlock = none ∨ v.ownBlock ≠ none := by
 cases v.ownBlock with
 | none => exact .inl rfl
 | some k => exact .inr (by simp)
theorem one_cell (W : World) (v : Value) (t : TypeId) : ∀ (q : Nat) (u : Value), [v][q]? = some u → (W.alloc (.cells #[v] t)).cell? ((⟨W.heap.size, 0, none⟩ : Addr).add q) = some u := by
 intro q u hu
 cases q with
 | zero => simp at hu; subst hu; simp [Addr.add]
 | succ q => simp at hu
theorem owns_pos {w : World} {base size n : Nat} {e : TypeId} {v : Value} {xs : List Value} (h : w.ownsRow base e size v n xs) (hn : 0 < n) : ∃ g cap, v = .slice (some ⟨g, 0, none⟩) n cap := by
 rcases h.2 with ⟨_, h0⟩ | ⟨g, cap, cur, hv, _⟩
 ·omega
 ·exact ⟨g, cap, hv⟩
theorem gathered_any (l : List Int) (hL : Labels l) (hl : l.length ≤ 4194304) (sv : Value) (w : World) (hA : Ints w.heap.size w sv l) :
  Calls Tryz.prog 72 #[sv] w fun r w' => ∃ lv svs h0, r = .returned lv ∧ Grp h0 lv svs (gath l l.length).2 w' ∧ Below w.heap.size w w' := by
 obtain ⟨p, c, rfl⟩ := hA.len
 obtain ⟨i0, hi, hz0, hz1, hz2⟩ := info_parts infoI
 obtain ⟨j0, kj, kz0, kz1, kz2⟩ := info_parts infoSl
 have hct := counted_any l hL hl _ w hA
 go_enter Tryz.func72, Tryz.ntmps72
 go_wp2_with fail
 refine hct.mono ?_
 clear hct
 rintro e w2 ⟨gs, rfl, hS2, hgs, hb2⟩
 have hgl2 := hS2.lt
 go_wp2_with (at_make; refine wpList_make_full _ rfl _ _ 27 rfl w2.heap.size 3 i0 (.int .i64 0) 1 Tryz.underlying27 hi hz0 hz1 .i64 .i64 _ _ l.length rfl rfl rfl rfl (by rw [hz2]; omega) (by unfold maxLen; omega) (Nat.le_refl _) ?_; intro w3 hown hgrow; have hb3 : Below w2.heap.size w2 w3 := (Below.refl _ _).grown hgrow (Nat.le_refl _) (fun k e => by cases e))
 have hG3 := Blk.made hown
 rw [ints_made] at hG3
 have hS3 := hS2.go hb3
 rw [← szL_zero] at hS3
 have hbw3 := hb2.trans (hb3.mono hb2.size)
 have hgg3 : w2.heap.size < w3.heap.size := hG3.lt
 have hgg0 : w.heap.size ≤ w2.heap.size := hb2.size
 clear hown hgrow hb3 hS2 hb2
 generalize w2.heap.size = gg at hG3 hgg3 hgl2 hgg0
 go_loopw [5, 16] (fun lv iv wr => ∃ (i : Nat) (svs : List Value) (grow : List Int), i ≤ l.length ∧ iv = .int .i64 i ∧ Grp w3.heap.size lv svs (gath l i).2 wr ∧ Blk 3 wr gs ((szL l i).map (Value.int .i64)) ∧ Blk 3 wr gg (grow.map (Value.int .i64)) ∧ grow.length = l.length ∧ Hid (GrpRow (gath l i).1 grow) ∧ Below w.heap.size w wr ∧ w3.heap.size ≤ wr.heap.size) (fun _ iv _ => l.length - (intOf iv).toNat)
 case atStart => exact ⟨0, [], List.replicate l.length 0, Nat.zero_le _, rfl, Grp.start _ _, hS3, hG3, by simp, fun v hv => by simp [gath] at hv, hbw3, Nat.le_refl _⟩
 case round =>
  obtain ⟨i, svs, grow, hil, rfl, hGr, hS, hG, hgl, hrow, hb, hsz⟩ := hrel
  by_cases hlt : i < l.length
  ·obtain ⟨b, off, rfl, hbb, hcap, hc⟩ := hA.open hlt
   have c0 := hc wr hb i hlt
   have hjl : (i : Int) < (l.length : Int) := by omega
   have hok := hL l[i] (List.getElem_mem hlt)
   obtain ⟨u, hu⟩ : ∃ u : Nat, l[i] = (u : Int) := ⟨l[i].toNat, by omega⟩
   have huN : u < l.length := by omega
   have huN' : (u : Int) < (l.length : Int) := by omega
   have hgd : l.getD i 0 = (u : Int) := by simp [hlt, hu]
   rw [hu] at c0
   have f0 := hS.frozen u
   have f1 := hG.frozen u
   have hmem := gath_mem (l := l) (i := i) (by omega) (u : Int)
   have hfew := gath_few l i
   have hlen := gath_len l i
   have hsl := hGr.len
   by_cases hm : (u : Int) ∈ l.take i
   ·have hmo : (u : Int) ∈ (gath l i).1 := hmem.2 hm
    have HG : Hid (gath l (i + 1) = ((gath l i).1, (gath l i).2.set ((gath l i).1.idxOf (u : Int)) ((gath l i).2.getD ((gath l i).1.idxOf (u : Int)) [] ++ [(i : Int)]))) := by
     rw [Hid, gath_old (by rw [hgd]; exact hmo), hgd]
    have HSZ : Hid (szL l (i + 1) = szL l i) := szL_old hlt hu hm
    have t0 : wr.cell? ⟨gs, u, none⟩ = some (.int .i64 0) := hS.cell (by rw [List.getElem?_map, szL_at huN, if_pos hm]; rfl)
    have hk2 : (gath l i).1.idxOf (u : Int) < (gath l i).2.length := by rw [← hlen]; exact List.idxOf_lt_length_iff.2 hmo
    have t1 : wr.cell? ⟨gg, u, none⟩ = some (.int .i64 (((gath l i).1.idxOf (u : Int) : Nat) : Int)) := hG.cell (by rw [List.getElem?_map, hrow.out u hmo]; rfl)
    obtain ⟨k, hk⟩ : ∃ k, (gath l i).1.idxOf (u : Int) = k := ⟨_, rfl⟩
    rw [hk] at HG hk2 t1
    obtain ⟨xs, hxs⟩ : ∃ xs, (gath l i).2[k]? = some xs := ⟨_, List.getElem?_eq_getElem hk2⟩
    have hxl := gath_short l i xs (List.mem_of_getElem? hxs)
    have HG2 : Hid (gath l (i + 1) = ((gath l i).1, (gath l i).2.set k (xs ++ [(i : Int)]))) := by
     rw [Hid, HG.out, List.getD_eq_getElem?_getD, hxs]
     rfl
    obtain ⟨sk, hsk⟩ : ∃ sk, svs[k]? = some sk := ⟨_, List.getElem?_eq_getElem (by omega)⟩
    obtain ⟨g, cap2, rfl⟩ := owns_pos hGr.own (by omega)
    have hin := hGr.inn k sk xs hsk hxs
    obtain ⟨ak, mk, ck, rfl⟩ := owns_slice hin
    have hcell : wr.cell? ⟨g, k, none⟩ = some (.slice ak mk ck) := (hGr.own.cellAt k (by omega)).trans hsk
    have hkl : (k : Int) < (svs.length : Int) := by omega
    have hownA := hin.alloc (.cells #[.int .i64 (i : Int)] 3)
    have hnews : ∀ (q : Nat) (u : Value), [Value.int .i64 (i : Int)][q]? = some u → (wr.alloc (.cells #[.int .i64 (i : Int)] 3)).cell? ((⟨wr.heap.size, 0, none⟩ : Addr).add q) = some u := by
     intro q u hu
     cases q with
     | zero => simp at hu; subst hu; simp [Addr.add]
     | succ q => simp at hu
    have hone : ∀ u ∈ [Value.int .i64 (i : Int)], u.oneCell' = true := by intro u hu; rw [List.mem_singleton.1 hu]; rfl
    have hmx : xs.length + 1 ≤ maxLen := by unfold maxLen; omega
    have hby : (xs.length + 1) * 8 ≤ 140737488355328 := by omega
    have hbs : w3.heap.size ≤ (wr.alloc (.cells #[.int .i64 (i : Int)] 3)).heap.size := by simp; omega
    have hlow : ∀ q, (Value.slice ak mk ck).ownBlock = some q → w3.heap.size ≤ q := fun q hq => (hin.lt q hq).1
    have hog := (hGr.own.lt g rfl)
    clear hc hok hmem HG hm hmo hk hgd
    go_wp2_with (at_builtin; refine wpList_append_own_at _ rfl _ _ 27 rfl w3.heap.size 3 i0 (.int .i64 0) 1 8 Tryz.underlying27 hi hz0 hz1 hz2 rfl (by decide) (.slice ak mk ck) _ _ rfl hownA ⟨wr.heap.size, 0, none⟩ 1 1 [.int .i64 (i : Int)] rfl rfl hnews hone hmx hby hbs ?_)
    intro v6 w6 hown6 hg6 hnil6 hat6
    obtain ⟨a6, m6, k6, rfl⟩ := owns_slice hown6
    have hP := hGr.push hsk hxs hown6 hg6 (by rw [World.size_alloc]; exact hat6)
    have hout : (Value.slice (some ⟨g, 0, none⟩) svs.length cap2).ownBlock = none ∨ (Value.slice (some ⟨g, 0, none⟩) svs.length cap2).ownBlock ≠ (Value.slice ak mk ck).ownBlock := by
     refine .inr fun e => ?_
     rcases hGr.outer k _ hsk with h1 | h1
     ·rw [h1] at e; cases e
     ·exact h1 e.symm
    have hown7 := owns_keep (World.ownsRow.alloc hGr.own (.cells #[.int .i64 (i : Int)] 3)) hg6 hout
    have y0 : w6.cell? ⟨g, k, none⟩ = some (.slice ak mk ck) := (hown7.cellAt k (by omega)).trans hsk
    have y1 := hown7.frozenAt k
    have hb6 : Below w.heap.size w w6 := (hb.alloc hb.size _).grown hg6 (by simp; omega) (fun q hq => by have := hlow q hq; omega)
    have hlo6 : Below w3.heap.size wr w6 := ((Below.refl _ _).alloc hsz _).grown hg6 hbs (fun q hq => hlow q hq)
    have hS6 := hS.below hlo6 (by omega)
    have hG6 := hG.below hlo6 (by omega)
    have hgw : w3.heap.size ≤ g := hog.1
    have hsz6 := hlo6.size
    clear hown6 hg6 hnil6 hat6 hownA hnews hone c0 t0 t1 hcell hGr
    go_wp2
    refine ⟨⟨i + 1, svs.set k (.slice a6 m6 k6), grow, by omega, by go_num, ?_, ?_, hG6.other (by simp only; omega) _, hgl, ?_, hb6.setCell (p := ⟨g, k, none⟩) (by simp only; omega) _, by simp; omega⟩, by simp [intOf]; omega⟩
    ·rw [HG2.out, ← hsl]
     exact hP
    ·rw [HSZ.out]
     exact hS6.other (by simp only; omega) _
    ·rw [HG2.out]
     exact hrow
   ·have hmo : (u : Int) ∉ (gath l i).1 := fun h => hm (hmem.1 h)
    have HG2 : Hid (gath l (i + 1) = ((gath l i).1 ++ [(u : Int)], (gath l i).2 ++ [[(i : Int)]])) := by
     rw [Hid, gath_new (by rw [hgd]; exact hmo), hgd]
    have HSZ : Hid ((szL l i).set u 0 = szL l (i + 1)) := szL_new hlt hu huN
    have HRW : Hid (GrpRow ((gath l i).1 ++ [(u : Int)]) (grow.set u (((gath l i).1.length : Nat) : Int))) := GrpRow.new hrow.out hmo (by omega)
    have hcp : 0 < l.count (u : Int) := List.count_pos_iff.2 (by rw [← hu]; exact List.getElem_mem hlt)
    have hcl : l.count (u : Int) ≤ l.length := List.count_le_length
    obtain ⟨q, hq⟩ : ∃ q, l.count (u : Int) = q := ⟨_, rfl⟩
    have t0 : wr.cell? ⟨gs, u, none⟩ = some (.int .i64 (q : Int)) := hS.cell (by rw [List.getElem?_map, szL_at huN, if_neg hm, hq]; rfl)
    rw [hq] at hcp hcl
    obtain ⟨gv, hgv⟩ : ∃ gv, grow[u]? = some gv := ⟨_, List.getElem?_eq_getElem (by omega)⟩
    have t1 : wr.cell? ⟨gg, u, none⟩ = some (.int .i64 gv) := hG.cell (by rw [List.getElem?_map, hgv]; rfl)
    obtain ⟨al, cl, rfl⟩ := owns_formP hGr.own
    have hK : (gath l i).1.length = svs.length := by omega
    rw [hK] at HRW
    have hsl2 : svs.length ≤ i := by omega
    have hq0 : (0 : Int) < (q : Int) := by omega
    have HSL : Hid (svs.length = (gath l i).2.length) := hsl
    clear hc hok hmem hm hmo hgd hq hgv hsl hlen hfew hrow
    have hGr1 := hGr.low (p := ⟨gg, u, none⟩) (by simp only; omega) (.int .i64 (svs.length : Int))
    have hS1 := hS.other (p := ⟨gg, u, none⟩) (by simp only; omega) (.int .i64 (svs.length : Int))
    have hG1 := hG.set u (.int .i64 (svs.length : Int))
    rw [← List.map_set] at hG1
    have hb1 := hb.setCell (p := ⟨gg, u, none⟩) (by simp only; omega) (.int .i64 (svs.length : Int))
    have tq : (wr.setCell ⟨gg, u, none⟩ (.int .i64 (svs.length : Int))).cell? ⟨gs, u, none⟩ = some (.int .i64 (q : Int)) := (World.cell?_setCell_other _ _ _ _ (fun e => by have h1 := congrArg Addr.block e; simp only at h1; omega)).trans t0
    have hsz1 : w3.heap.size ≤ (wr.setCell ⟨gg, u, none⟩ (.int .i64 (svs.length : Int))).heap.size := by simpa using hsz
    have hne : gs ≠ gg := by omega
    have hsW : (wr.setCell ⟨gg, u, none⟩ (.int .i64 (svs.length : Int))).heap.size = wr.heap.size := by simp
    have hmx : svs.length + 1 ≤ maxLen := by unfold maxLen; omega
    have hby : (svs.length + 1) * 24 ≤ 140737488355328 := by omega
    have hone : ∀ u ∈ [Value.slice (some ⟨wr.heap.size, 0, none⟩) 0 q], u.oneCell' = true := by intro u hu; rw [List.mem_singleton.1 hu]; rfl
    go_wp2_with (first | (at_make; refine wpList_make_own _ rfl _ _ 27 rfl w3.heap.size 3 i0 (.int .i64 0) 1 Tryz.underlying27 hi hz0 hz1 .i64 .i64 _ q rfl rfl rfl (by rw [hz2]; omega) (by unfold maxLen; omega) hsz1 ?_; intro wA hownA hgA; rw [hsW] at hownA; have hLA := World.ownsRow.alloc (owns_keep hGr1.own hgA (or_none _)) (.cells #[.slice (some ⟨wr.heap.size, 0, none⟩) 0 q] 27); have hnews := one_cell wA (.slice (some ⟨wr.heap.size, 0, none⟩) 0 q) 27; have hbs : w3.heap.size ≤ (wA.alloc (.cells #[.slice (some ⟨wr.heap.size, 0, none⟩) 0 q] 27)).heap.size := Nat.le_trans (Nat.le_trans hsz1 hgA.size) (by simp)) | (at_builtin; refine wpList_append_own_at _ rfl _ _ 35 rfl w3.heap.size 27 j0 (.slice none 0 0) 1 24 Tryz.underlying35 kj kz0 kz1 kz2 rfl (by decide) (.slice al svs.length cl) _ _ rfl hLA ⟨wA.heap.size, 0, none⟩ 1 1 [.slice (some ⟨wr.heap.size, 0, none⟩) 0 q] rfl rfl hnews hone hmx hby hbs ?_))
    intro v6 w6 hown6 hg6 hnil6 hat6
    obtain ⟨g, cap2, rfl⟩ := owns_pos hown6 (by omega)
    have hWA : wr.heap.size < wA.heap.size := (hownA.lt wr.heap.size rfl).2
    have hGr6 := hGr1.new hgA hownA (by simp [Value.ownBlock]) (by rw [hsW]; exact hWA) hown6 hg6 (by rw [World.size_alloc]; exact hat6)
    have hlowL : ∀ k, (Value.slice al svs.length cl).ownBlock = some k → w3.heap.size ≤ k := fun k e => (hGr1.own.lt k e).1
    have hlo6 : Below w3.heap.size (wr.setCell ⟨gg, u, none⟩ (.int .i64 (svs.length : Int))) w6 := (((Below.refl _ _).grown hgA hsz1 (fun k e => by cases e)).alloc (Nat.le_trans hsz1 hgA.size) _).grown hg6 hbs hlowL
    have hS6 := hS1.below hlo6 (by omega)
    have hG6 := hG1.below hlo6 (by omega)
    have hb6 : Below w.heap.size w w6 := hb1.trans (hlo6.mono (by omega))
    have hsz6 : w3.heap.size ≤ w6.heap.size := Nat.le_trans hsz1 hlo6.size
    have s0 : w6.cell? ⟨gs, u, none⟩ = some (.int .i64 (q : Int)) := (hlo6.cell (p := ⟨gs, u, none⟩) (by simp only; omega)).trans tq
    have s1 := hS6.frozen u
    have hS7 := hS6.set u (.int .i64 0)
    rw [← List.map_set, HSZ.out] at hS7
    have hG7 := hG6.other (p := ⟨gs, u, none⟩) (by simp only; omega) (.int .i64 0)
    have hGr7 := hGr6.low (p := ⟨gs, u, none⟩) (by simp only; omega) (.int .i64 0)
    have hb7 := hb6.setCell (p := ⟨gs, u, none⟩) (by simp only; omega) (.int .i64 0)
    have hsz7 : w3.heap.size ≤ (w6.setCell ⟨gs, u, none⟩ (.int .i64 0)).heap.size := by simpa using hsz6
    have t7 : (w6.setCell ⟨gs, u, none⟩ (.int .i64 0)).cell? ⟨gg, u, none⟩ = some (.int .i64 (svs.length : Int)) := hG7.cell (by rw [List.getElem?_map, List.getElem?_set_self (by omega)]; rfl)
    clear hown6 hg6 hnil6 hat6 hLA hnews hone hbs hgA hownA hGr6 hGr1 hS1 hG1 tq t0 t1 hlo6 hS6 hG6 hlowL hmx hby
    generalize hC : w6.setCell ⟨gs, u, none⟩ (.int .i64 0) = w7 at hS7 hG7 hGr7 hb7 hsz7 t7
    have hsk : (svs ++ [Value.slice (some ⟨wr.heap.size, 0, none⟩) 0 q])[svs.length]? = some (.slice (some ⟨wr.heap.size, 0, none⟩) 0 q) := by simp
    have hxs : ((gath l i).2 ++ [([] : List Int)])[svs.length]? = some [] := by rw [HSL.out]; simp
    have hin := hGr7.inn svs.length _ _ hsk hxs
    have hll : (svs ++ [Value.slice (some ⟨wr.heap.size, 0, none⟩) 0 q]).length = svs.length + 1 := by simp
    have hown7 := hGr7.own
    rw [hll] at hown7
    have hcell : w7.cell? ⟨g, svs.length, none⟩ = some (.slice (some ⟨wr.heap.size, 0, none⟩) 0 q) := (hown7.cellAt svs.length (by omega)).trans hsk
    have hkl : (svs.length : Int) < (svs.length : Int) + 1 := by omega
    have hownI := hin.alloc (.cells #[.int .i64 (i : Int)] 3)
    have hnews := one_cell w7 (.int .i64 (i : Int)) 3
    have hone : ∀ u ∈ [Value.int .i64 (i : Int)], u.oneCell' = true := by intro u hu; rw [List.mem_singleton.1 hu]; rfl
    have hbs : w3.heap.size ≤ (w7.alloc (.cells #[.int .i64 (i : Int)] 3)).heap.size := by simp; omega
    have hlow : ∀ k, (Value.slice (some ⟨wr.heap.size, 0, none⟩) 0 q).ownBlock = some k → w3.heap.size ≤ k := fun k hk => (hin.lt k hk).1
    have hmx : ([] : List Int).length + 1 ≤ maxLen := by unfold maxLen; simp
    have hby : (([] : List Int).length + 1) * 8 ≤ 140737488355328 := by simp
    have hog := hown7.lt g rfl
    go_wp2_with (at_builtin; refine wpList_append_own_at _ rfl _ _ 27 rfl w3.heap.size 3 i0 (.int .i64 0) 1 8 Tryz.underlying27 hi hz0 hz1 hz2 rfl (by decide) (.slice (some ⟨wr.heap.size, 0, none⟩) 0 q) _ _ rfl hownI ⟨w7.heap.size, 0, none⟩ 1 1 [.int .i64 (i : Int)] rfl rfl hnews hone hmx hby hbs ?_)
    intro v8 w8 hown8 hg8 hnil8 hat8
    obtain ⟨a8, m8, k8, rfl⟩ := owns_slice hown8
    have hGr7' := hGr7
    rw [← hll] at hGr7'
    have hP := hGr7'.push (y := (i : Int)) hsk hxs hown8 hg8 (by rw [World.size_alloc]; exact hat8)
    have hout : (Value.slice (some ⟨g, 0, none⟩) (svs.length + 1) cap2).ownBlock = none ∨ (Value.slice (some ⟨g, 0, none⟩) (svs.length + 1) cap2).ownBlock ≠ (Value.slice (some ⟨wr.heap.size, 0, none⟩) 0 q).ownBlock := by
     refine .inr fun e => ?_
     rcases hGr7.outer svs.length _ hsk with h1 | h1
     ·rw [h1] at e; cases e
     ·exact h1 e.symm
    have hown9 := owns_keep (World.ownsRow.alloc hown7 (.cells #[.int .i64 (i : Int)] 3)) hg8 hout
    have y0 : w8.cell? ⟨g, svs.length, none⟩ = some (.slice (some ⟨wr.heap.size, 0, none⟩) 0 q) := (hown9.cellAt svs.length (by omega)).trans hsk
    have y1 := hown9.frozenAt svs.length
    have hlo8 : Below w3.heap.size w7 w8 := ((Below.refl _ _).alloc hsz7 _).grown hg8 hbs hlow
    have hb8 : Below w.heap.size w w8 := hb7.trans (hlo8.mono (by omega))
    have hS8 := hS7.below hlo8 (by omega)
    have hG8 := hG7.below hlo8 (by omega)
    have hgw : w3.heap.size ≤ g := hog.1
    have hsz8 : w3.heap.size ≤ w8.heap.size := Nat.le_trans hsz7 hlo8.size
    have HPre : Hid (((gath l i).2 ++ [([] : List Int)]).set svs.length ([] ++ [(i : Int)]) = (gath l i).2 ++ [[(i : Int)]]) := by
     rw [Hid, HSL.out, List.set_append_right _ _ (Nat.le_refl _), Nat.sub_self]
     rfl
    rw [HPre.out, hll] at hP
    clear hown8 hg8 hnil8 hat8 hownI hnews hone c0 t7 hcell hGr7 hGr7' hown9 hown7 hC
    go_wp2
    refine ⟨⟨i + 1, (svs ++ [Value.slice (some ⟨wr.heap.size, 0, none⟩) 0 q]).set svs.length (.slice a8 m8 k8), grow.set u (svs.length : Int), by omega, by go_num, ?_, hS8.other (by simp only; omega) _, hG8.other (by simp only; omega) _, by rw [List.length_set]; exact hgl, ?_, hb8.setCell (p := ⟨g, svs.length, none⟩) (by simp only; omega) _, by simp; omega⟩, by simp [intOf]; omega⟩
    ·rw [HG2.out]
     exact hP
    ·rw [HG2.out]
     exact HRW
  ·obtain rfl : i = l.length := by omega
   go_wp2
   go_ret
   exact ⟨_, svs, _, rfl, hGr, hb⟩
def linkOf (v : Int) : Nat → List Ed → List (Int × Int)
 | _, [] => []
 | p, e :: l => (if e.1 = v then [(e.2.1, (p : Int))] else if e.2.1 = v then [(e.1, (p : Int))] else []) ++ linkOf v (p + 1) l
def linksL (N : Nat) (l : List Ed) : List (List (Int × Int)) := (List.range N).map fun (v : Nat) => linkOf (v : Int) 0 l
structure Stp where
 v : Int
 by_ : Int
 next : Nat
 low : Int
 opn : Nat
structure WS where
 root : List Int
 from_ : List Int
 depth : List Int
 block : List Int
 path : List Stp
 opn : List Int
def at_ (l : List Int) (v : Int) : Int := l.getD v.toNat 0
def lookW (s : WS) (init : List Stp) (top : Stp) (lk : Int × Int) : WS :=
 if at_ s.depth lk.1 < 0 then { s with root := s.root.set lk.1.toNat (at_ s.root top.v), from_ := s.from_.set lk.1.toNat top.v, depth := s.depth.set lk.1.toNat (at_ s.depth top.v + 1), path := init ++ [top] ++ [⟨lk.1, lk.2, 0, at_ s.depth top.v, s.opn.length⟩] }
 else if at_ s.depth lk.1 < at_ s.depth top.v then { s with path := init ++ [{ top with low := min top.low (at_ s.depth lk.1) }], opn := s.opn ++ [lk.2] }
 else { s with path := init ++ [top] }
def leaveW (s : WS) (init : List Stp) (last : Stp) : WS :=
 match init.getLast? with
 | none => { s with path := [] }
 | some top => if last.low < at_ s.depth top.v then { s with path := init.dropLast ++ [{ top with low := min top.low last.low }] }
  else { s with path := init, block := (s.opn.drop last.opn).foldl (fun b p => b.set p.toNat last.by_) s.block, opn := s.opn.take last.opn }
def stepW (lk : List (List (Int × Int))) (s : WS) : WS :=
 match s.path.getLast? with
 | none => s
 | some top => if top.next = (lk.getD top.v.toNat []).length then leaveW s s.path.dropLast top else lookW s s.path.dropLast { top with next := top.next + 1 } ((lk.getD top.v.toNat []).getD top.next (0, 0))
def runW (lk : List (List (Int × Int))) : Nat → WS → WS
 | 0, s => s
 | k + 1, s => runW lk k (stepW lk s)
def startW (lk : List (List (Int × Int))) (fuel : Nat) (s : WS) (r : Nat) : WS :=
 if 0 ≤ s.depth.getD r 0 then s else runW lk fuel { s with root := s.root.set r (r : Int), from_ := s.from_.set r (-1), depth := s.depth.set r 0, path := s.path ++ [⟨(r : Int), -1, 0, 0, 0⟩] }
def freshW (N M : Nat) : WS := ⟨List.replicate N 0, List.replicate N 0, List.replicate N (-1), List.replicate M 0, [], []⟩
def walkW (N : Nat) (l : List Ed) : WS := (List.range N).foldl (startW (linksL N l) (4 * (N + l.length) + 4)) (freshW N l.length)
def encS (t : Stp) : List Value := [.int .i64 t.v, .int .i64 t.by_, .int .i64 (t.next : Int), .int .i64 t.low, .int .i64 (t.opn : Int)]
def flatP (P : List Stp) : List Value := P.flatMap encS
theorem flatP_len : ∀ P : List Stp, (flatP P).length = P.length * 5
 | [] => rfl
 | t :: P => by
  have := flatP_len P
  simp only [flatP, List.flatMap_cons, List.length_append, List.length_cons] at this ⊢
  have h : (encS t).length = 5 := rfl
  omega
theorem flatP_app (P Q : List Stp) : flatP (P ++ Q) = flatP P ++ flatP Q := by simp [flatP]
structure Lay where
 N : Nat
 M : Nat
 wb : Nat
 rb : Nat
 fb : Nat
 db : Nat
 kb : Nat
 h0 : Nat
structure LayOK (a : Lay) : Prop where
 w0 : a.wb < a.h0
 r0 : a.rb < a.h0
 f0 : a.fb < a.h0
 d0 : a.db < a.h0
 k0 : a.kb < a.h0
 wr : a.wb ≠ a.rb
 wf : a.wb ≠ a.fb
 wd : a.wb ≠ a.db
 wk : a.wb ≠ a.kb
 rf : a.rb ≠ a.fb
 rd : a.rb ≠ a.db
 rk : a.rb ≠ a.kb
 fd : a.fb ≠ a.db
 fk : a.fb ≠ a.kb
 dk : a.db ≠ a.kb
def cellsW (a : Lay) (lv pv ov : Value) : List Value := [lv, .slice (some ⟨a.rb, 0, none⟩) a.N a.N, .slice (some ⟨a.fb, 0, none⟩) a.N a.N, .slice (some ⟨a.db, 0, none⟩) a.N a.N, .slice (some ⟨a.kb, 0, none⟩) a.M a.M, pv, ov]
structure WB (a : Lay) (lv pv ov : Value) (s : WS) (W : World) : Prop where
 blk : Blk 97 W a.wb (cellsW a lv pv ov)
 root : Blk 3 W a.rb (s.root.map (Value.int .i64))
 frm : Blk 3 W a.fb (s.from_.map (Value.int .i64))
 dep : Blk 3 W a.db (s.depth.map (Value.int .i64))
 bls : Blk 3 W a.kb (s.block.map (Value.int .i64))
 way : W.ownsRow a.h0 144 5 pv s.path.length (flatP s.path)
 opn : W.ownsRow a.h0 3 1 ov s.opn.length (s.opn.map (Value.int .i64))
theorem WB.go {a : Lay} {lv pv ov : Value} {s : WS} {A B : World} (h : WB a lv pv ov s A) (hb : Below A.heap.size A B) : WB a lv pv ov s B := by
 have hk : ∀ {e : TypeId} {size : Nat} {v : Value} {n : Nat} {xs : List Value}, A.ownsRow a.h0 e size v n xs → B.ownsRow a.h0 e size v n xs := fun {e size v n xs} ho => by
  refine owns_keep ho (grown_below' hb none) ?_
  cases v.ownBlock with
  | none => exact .inl rfl
  | some k => exact .inr (by simp)
 exact ⟨h.blk.go hb, h.root.go hb, h.frm.go hb, h.dep.go hb, h.bls.go hb, hk h.way, hk h.opn⟩
theorem WB.setRoot {a : Lay} {lv pv ov : Value} {s : WS} {W : World} (h : WB a lv pv ov s W) (hL : LayOK a) (i : Nat) (x : Int) : WB a lv pv ov { s with root := s.root.set i x } (W.setCell ⟨a.rb, i, none⟩ (.int .i64 x)) := by
 have hr := h.root.set i (.int .i64 x)
 rw [← List.map_set] at hr
 exact ⟨h.blk.other hL.wr _, hr, h.frm.other (Ne.symm hL.rf) _, h.dep.other (Ne.symm hL.rd) _, h.bls.other (Ne.symm hL.rk) _, owns_lowset h.way hL.r0 _, owns_lowset h.opn hL.r0 _⟩
theorem WB.setFrom {a : Lay} {lv pv ov : Value} {s : WS} {W : World} (h : WB a lv pv ov s W) (hL : LayOK a) (i : Nat) (x : Int) : WB a lv pv ov { s with from_ := s.from_.set i x } (W.setCell ⟨a.fb, i, none⟩ (.int .i64 x)) := by
 have hr := h.frm.set i (.int .i64 x)
 rw [← List.map_set] at hr
 exact ⟨h.blk.other hL.wf _, h.root.other hL.rf _, hr, h.dep.other (Ne.symm hL.fd) _, h.bls.other (Ne.symm hL.fk) _, owns_lowset h.way hL.f0 _, owns_lowset h.opn hL.f0 _⟩
theorem WB.setDepth {a : Lay} {lv pv ov : Value} {s : WS} {W : World} (h : WB a lv pv ov s W) (hL : LayOK a) (i : Nat) (x : Int) : WB a lv pv ov { s with depth := s.depth.set i x } (W.setCell ⟨a.db, i, none⟩ (.int .i64 x)) := by
 have hr := h.dep.set i (.int .i64 x)
 rw [← List.map_set] at hr
 exact ⟨h.blk.other hL.wd _, h.root.other hL.rd _, h.frm.other hL.fd _, hr, h.bls.other (Ne.symm hL.dk) _, owns_lowset h.way hL.d0 _, owns_lowset h.opn hL.d0 _⟩
theorem WB.setBlock {a : Lay} {lv pv ov : Value} {s : WS} {W : World} (h : WB a lv pv ov s W) (hL : LayOK a) (i : Nat) (x : Int) : WB a lv pv ov { s with block := s.block.set i x } (W.setCell ⟨a.kb, i, none⟩ (.int .i64 x)) := by
 have hr := h.bls.set i (.int .i64 x)
 rw [← List.map_set] at hr
 exact ⟨h.blk.other hL.wk _, h.root.other hL.rk _, h.frm.other hL.fk _, h.dep.other hL.dk _, hr, owns_lowset h.way hL.k0 _, owns_lowset h.opn hL.k0 _⟩
theorem WB.top {a : Lay} {lv ov : Value} {s : WS} {W : World} {pb cap : Nat} {init : List Stp} {top : Stp} (h : WB a lv (.slice (some ⟨pb, 0, none⟩) s.path.length cap) ov s W) (hp : s.path = init ++ [top]) :
  W.cell? ⟨pb, init.length * 5, none⟩ = some (.int .i64 top.v) ∧ W.cell? ⟨pb, init.length * 5 + 1, none⟩ = some (.int .i64 top.by_) ∧ W.cell? ⟨pb, init.length * 5 + 2, none⟩ = some (.int .i64 (top.next : Int)) ∧ W.cell? ⟨pb, init.length * 5 + 3, none⟩ = some (.int .i64 top.low) ∧ W.cell? ⟨pb, init.length * 5 + 4, none⟩ = some (.int .i64 (top.opn : Int)) := by
 have hl : s.path.length = init.length + 1 := by rw [hp]; simp
 have hx : flatP s.path = flatP init ++ encS top := by rw [hp, flatP_app]; simp [flatP]
 have hfl := flatP_len init
 have at5 : ∀ (j : Nat) (u : Value), (encS top)[j]? = some u → W.cell? ⟨pb, init.length * 5 + j, none⟩ = some u := fun j u hu => by
  have hj := (List.getElem?_eq_some_iff.1 hu).1
  have h5 : (encS top).length = 5 := rfl
  have := h.way.cellAt (init.length * 5 + j) (by omega)
  rw [this, hx, List.getElem?_append_right (by omega), hfl, Nat.add_sub_cancel_left]
  exact hu
 exact ⟨at5 0 _ rfl, at5 1 _ rfl, at5 2 _ rfl, at5 3 _ rfl, at5 4 _ rfl⟩
theorem look_idle (a : Lay) (lv ov : Value) (s : WS) (init : List Stp) (top : Stp) (pb cap v u : Nat) (pl : Int) (hp : s.path = init ++ [top]) (hv : top.v = (v : Int)) (hvN : v < a.N) (huN : u < a.N) (hN : a.N ≤ 1048576) (hD : s.depth.length = a.N) (h1 : 0 ≤ s.depth.getD u 0) (h2 : s.depth.getD v 0 ≤ s.depth.getD u 0) (w : World) (h : WB a lv (.slice (some ⟨pb, 0, none⟩) s.path.length cap) ov s w) :
  Calls Tryz.prog 118 #[.pointer (some ⟨a.wb, 0, none⟩), .pointer (some ⟨pb, init.length * 5, none⟩), .agg #[.int .i64 (u : Int), .int .i64 pl]] w fun e w' => e = .returned (.tuple #[]) ∧ Below w.heap.size w w' := by
 have hmix := mixed
 have hb1 : Below w.heap.size w (w.alloc (.cells #[.int .i64 (u : Int), .int .i64 pl] 142)) := (Below.refl _ _).alloc (Nat.le_refl _) _
 have hX : Blk 142 (w.alloc (.cells #[.int .i64 (u : Int), .int .i64 pl] 142)) w.heap.size [.int .i64 (u : Int), .int .i64 pl] := heap_alloc_new w _
 have h' := h.go hb1
 have b3 := h'.blk.cell (j := 3) rfl
 obtain ⟨p0, -, -, -, -⟩ := h'.top hp
 rw [hv] at p0
 have x0 := hX.cell (j := 0) rfl
 have hvN' : (v : Int) < (a.N : Int) := by omega
 have huN' : (u : Int) < (a.N : Int) := by omega
 have t0 : (w.alloc (.cells #[.int .i64 (u : Int), .int .i64 pl] 142)).cell? ⟨a.db, v, none⟩ = some (.int .i64 (s.depth.getD v 0)) := h'.dep.cell (by rw [List.getElem?_map, List.getElem?_eq_getElem (by omega)]; simp [show v < s.depth.length by omega])
 have t1 : (w.alloc (.cells #[.int .i64 (u : Int), .int .i64 pl] 142)).cell? ⟨a.db, u, none⟩ = some (.int .i64 (s.depth.getD u 0)) := h'.dep.cell (by rw [List.getElem?_map, List.getElem?_eq_getElem (by omega)]; simp [show u < s.depth.length by omega])
 obtain ⟨N, M, wb, rb, fb, db, kb, h0⟩ := a
 simp only at *
 generalize s.depth.getD u 0 = du at *
 generalize s.depth.getD v 0 = dv at *
 have h1' : ¬ du < 0 := by omega
 have h2' : ¬ du < dv := by omega
 generalize init.length * 5 = off at *
 clear h h' hD hX hp hv
 go_enter Tryz.func118, Tryz.ntmps118
 go_wp2
 go_quiet (fail)
 have hbq : Below w.heap.size w ((w.alloc (.cells #[.int .i64 (u : Int), .int .i64 pl] 142)).drewN nq) := below_drewN hb1 nq
 generalize (w.alloc (.cells #[.int .i64 (u : Int), .int .i64 pl] 142)).drewN nq = w5 at hbq ⊢
 go_wp2
 refine bodyPost_end (results_none rfl _ _ _) rfl ?_
 exact ⟨rfl, hbq⟩
theorem flatP_low (init : List Stp) (top : Stp) (x : Int) : (flatP (init ++ [top])).set (init.length * 5 + 3) (.int .i64 x) = flatP (init ++ [{ top with low := x }]) := by
 rw [flatP_app, flatP_app, List.set_append_right _ _ (by rw [flatP_len]; omega), flatP_len, Nat.add_sub_cancel_left]
 rfl
theorem flatP_next (init : List Stp) (top : Stp) (x : Nat) : (flatP (init ++ [top])).set (init.length * 5 + 2) (.int .i64 (x : Int)) = flatP (init ++ [{ top with next := x }]) := by
 rw [flatP_app, flatP_app, List.set_append_right _ _ (by rw [flatP_len]; omega), flatP_len, Nat.add_sub_cancel_left]
 rfl
def Apart2 (pv ov : Value) : Prop := (pv.ownBlock = none ∨ pv.ownBlock ≠ ov.ownBlock) ∧ (ov.ownBlock = none ∨ ov.ownBlock ≠ pv.ownBlock)
theorem WB.setWay {a : Lay} {lv ov : Value} {s : WS} {W : World} {pb cap : Nat} (h : WB a lv (.slice (some ⟨pb, 0, none⟩) s.path.length cap) ov s W) (hL : LayOK a) (hA : Apart2 (.slice (some ⟨pb, 0, none⟩) s.path.length cap) ov) {j : Nat} {u : Value} {P : List Stp} (hP : (flatP s.path).set j u = flatP P) (hl : P.length = s.path.length) : WB a lv (.slice (some ⟨pb, 0, none⟩) P.length cap) ov { s with path := P } (W.setCell ⟨pb, j, none⟩ u) := by
 obtain ⟨h1, h2⟩ := h.way.stored j u
 have hb := h.way.lt pb rfl
 rw [hP] at h1
 have hlo : ∀ {t : TypeId} {b : Nat} {vs : List Value}, Blk t W b vs → b < a.h0 → Blk t (W.setCell ⟨pb, j, none⟩ u) b vs := fun hB hlt => hB.other (by simp only; omega) _
 refine ⟨hlo h.blk hL.w0 |> fun x => ?_, hlo h.root hL.r0, hlo h.frm hL.f0, hlo h.dep hL.d0, hlo h.bls hL.k0, by rw [hl]; exact h1, owns_keep h.opn h2 hA.2⟩
 rw [hl]
 exact x
theorem WB.setOpn {a : Lay} {lv pv ov ov' : Value} {s : WS} {A B : World} {P : List Int} (h : WB a lv pv ov s A) (hL : LayOK a) (hA : Apart2 pv ov) (hg : A.grownBy B ov.ownBlock) (hlow : ∀ k, ov.ownBlock = some k → a.h0 ≤ k) (hB : B.ownsRow a.h0 3 1 ov' P.length (P.map (Value.int .i64))) : WB a lv pv ov' { s with opn := P } (B.setCell ⟨a.wb, 6, none⟩ ov') := by
 have hb : ∀ {t : TypeId} {b : Nat} {vs : List Value}, Blk t A b vs → b < a.h0 → Blk t B b vs := fun {t b vs} hB hlt => (hg.block b hB.lt (fun e => by have := hlow b e.symm; omega)).trans hB
 have hbl := (hb h.blk hL.w0).set 6 ov'
 exact ⟨hbl, (hb h.root hL.r0).other (Ne.symm hL.wr) _, (hb h.frm hL.f0).other (Ne.symm hL.wf) _, (hb h.dep hL.d0).other (Ne.symm hL.wd) _, (hb h.bls hL.k0).other (Ne.symm hL.wk) _, owns_lowset (owns_keep h.way hg hA.1) hL.w0 _, owns_lowset hB hL.w0 _⟩
def Lay.five (a : Lay) (k : Nat) : Prop := k = a.wb ∨ k = a.rb ∨ k = a.fb ∨ k = a.db ∨ k = a.kb
structure Wk (a : Lay) (A B : World) : Prop where
 os : B.os = A.os
 tape : B.tape = A.tape
 output : B.output = A.output
 size : A.heap.size ≤ B.heap.size
 block : ∀ k, k < a.h0 → ¬ a.five k → B.heap[k]? = A.heap[k]?
theorem Wk.refl (a : Lay) (A : World) : Wk a A A := ⟨rfl, rfl, rfl, Nat.le_refl _, fun _ _ _ => rfl⟩
theorem Wk.trans {a : Lay} {A B C : World} (h : Wk a A B) (k : Wk a B C) : Wk a A C :=
 ⟨k.os.trans h.os, k.tape.trans h.tape, k.output.trans h.output, Nat.le_trans h.size k.size, fun i hi hn => (k.block i hi hn).trans (h.block i hi hn)⟩
theorem Wk.of_below {a : Lay} {n : Nat} {A B : World} (h : Below n A B) (hn : a.h0 ≤ n) : Wk a A B := ⟨h.os, h.tape, h.output, h.size, fun k hk _ => h.block k (by omega)⟩
theorem Wk.grown {a : Lay} {A B : World} {row : Option Nat} (h : A.grownBy B row) (hs : a.h0 ≤ A.heap.size) (hr : ∀ k, row = some k → a.h0 ≤ k) : Wk a A B :=
 ⟨h.os, h.tape, h.output, h.size, fun k hk _ => h.block k (by omega) (fun e => by have := hr k e.symm; omega)⟩
theorem Wk.set {a : Lay} {A B : World} (h : Wk a A B) {p : Addr} (hp : a.five p.block ∨ a.h0 ≤ p.block) (u : Value) : Wk a A (B.setCell p u) :=
 h.trans ⟨rfl, rfl, rfl, by simp, fun k hk hn => Below.heap_setCell _ _ _ _ (fun e => by
  rcases hp with h1 | h1
  ·exact hn (e ▸ h1)
  ·omega)⟩
theorem Wk.below {a : Lay} {n : Nat} {A B : World} (h : Wk a A B) (hn : n ≤ a.h0) (h5 : ∀ k, k < n → ¬ a.five k) : Below n A B := ⟨h.os, h.tape, h.output, h.size, fun k hk => h.block k (by omega) (h5 k hk)⟩
theorem Wk.blk {a : Lay} {A B : World} {t : TypeId} {g : Nat} {vs : List Value} (h : Wk a A B) (hB : Blk t A g vs) (hg : g < a.h0) (hn : ¬ a.five g) : Blk t B g vs := (h.block g hg hn).trans hB
structure LK (a : Lay) (lv : Value) (lk : List (List (Int × Int))) (W : World) : Prop where
 ex : ∃ (lb sb : Nat) (svs cs : List Value), lv = .slice (some ⟨lb, 0, none⟩) a.N a.N ∧ lb < a.h0 ∧ ¬ a.five lb ∧ sb < a.h0 ∧ ¬ a.five sb ∧ lk.length = a.N ∧ Blk 140 W lb svs ∧ Blk 142 W sb cs ∧
  ∀ (v : Nat) (xs : List (Int × Int)), lk[v]? = some xs → ∃ off c, svs[v]? = some (.slice (some ⟨sb, off, none⟩) xs.length c) ∧ ∀ (j : Nat) (x : Int × Int), xs[j]? = some x → cs[off + j * 2]? = some (.int .i64 x.1) ∧ cs[off + j * 2 + 1]? = some (.int .i64 x.2)
theorem LK.go {a : Lay} {lv : Value} {lk : List (List (Int × Int))} {A B : World} (h : LK a lv lk A) (k : Wk a A B) : LK a lv lk B := by
 obtain ⟨lb, sb, svs, cs, h1, h2, h3, h4, h5, h6, h7, h8, h9⟩ := h.ex
 exact ⟨lb, sb, svs, cs, h1, h2, h3, h4, h5, h6, k.blk h7 h2 h3, k.blk h8 h4 h5, h9⟩
end Go.Proofs.YtalflecmadacaaaGreat
