import Derived.Test.YtjpkojmjiaoifaaGreatXCMerge
import Derived.Test.YtjpkojmjiaoifaaGreatXCFvC
import Derived.Test.YtjpkojmjiaoifaaGreatZAL
import Derived.Test.YtjpkojmjiaoifaaGreatZAY
namespace Go.Proofs.YtjpkojmjiaoifaaGreat
open Go Go.Proofs Go.RowKit Go.Maps
theorem nbN_at {N : List (Option (List Int))} {j : Nat} {T : List Int} (h : N[j]? = some (some T)) : nbN N (j : Int) = T := by
 unfold nbN
 rw [Int.toNat_natCast, List.getD_eq_getElem?_getD, h]
 rfl
theorem FvH.pick {n : Nat} {N : List (Option (List Int))} {F : List (List Int)} {ss : List StpM} (h : FvH n N F ss) {x y : Nat} {Sx Sy : List Int} (hx : N[x]? = some (some Sx)) (hy : N[y]? = some (some Sy)) (hxy : x ≠ y) (hno : (y : Int) ∉ Sx) :
  ∃ (a b : Nat) (Sa Sb : List Int), N[a]? = some (some Sa) ∧ N[b]? = some (some Sb) ∧ a ≠ b ∧ (b : Int) ∉ Sa ∧ ((a = x ∧ b = y ∧ ¬ (Sb.length : Int) < (Sa.length : Int)) ∨ (b = x ∧ a = y ∧ (Sa.length : Int) < (Sb.length : Int))) := by
 have hno' : (x : Int) ∉ Sy := fun hm => by
  obtain ⟨j, e, _, T, hT, hj⟩ := (h.sub y Sy hy).2 _ hm
  have : x = j := by omega
  subst this
  rw [hx] at hT
  simp only [Option.some.injEq] at hT
  subst hT
  exact hno hj
 by_cases hl : (Sy.length : Int) < (Sx.length : Int)
 ·exact ⟨y, x, Sy, Sx, hy, hx, Ne.symm hxy, hno', .inr ⟨rfl, rfl, hl⟩⟩
 ·exact ⟨x, y, Sx, Sy, hx, hy, hxy, hno, .inl ⟨rfl, rfl, hl⟩⟩
set_option maxRecDepth 100000 in
set_option maxHeartbeats 8000000 in
theorem drop_any (h0 sb n k : Nat) (hn : n ≤ 10000) (adj0 : Nat → Nat → Prop) (N : List (Option (List Int))) (F0 F : List (List Int)) (st : List StpM) (hI : FvI n adj0 N F0 st) (hF : FV n (n + (n + 6) * st.length) F) (hB : Bk N F (k : Int)) (S : List Int) (hS : N[k]? = some (some S)) (h5 : S.length ≤ 5) (w : World) (hX : SX h0 sb N F st w) (hh : h0 ≤ w.heap.size) :
  Calls Tryz.prog 20 #[.pointer (some ⟨sb, 0, none⟩), .int .i64 (k : Int)] w fun e w' => e = .returned (.tuple #[]) ∧ Below h0 w w' ∧ ∃ (N' : List (Option (List Int))) (F' : List (List Int)) (st' : List StpM), SX h0 sb N' F' st' w' ∧ FvI n adj0 N' F' st' ∧ st.length < st'.length := by
 have hNn := hI.h.len
 have hNl : N.length ≤ 1048576 := by omega
 have hst : st.length ≤ n := by have := hI.h.cnt; omega
 have hmu : (n + 6) * st.length ≤ 10006 * 10000 := Nat.mul_le_mul (by omega) (by omega)
 have hnb : ∀ u ∈ S, ∃ j : Nat, u = (j : Int) ∧ j ≠ k ∧ ∃ T, N[j]? = some (some T) := fun u hu => by
  obtain ⟨j, h1, h2, T, h3, _⟩ := (hI.h.sub k S hS).2 u hu
  exact ⟨j, h1, h2, T, h3⟩
 have HI : Hid (FvI n adj0 N F0 st) := hI
 have HFB : Hid (Bk N F (k : Int) ∧ N[k]? = some (some S)) := ⟨hB, hS⟩
 obtain ⟨m, hm⟩ : ∃ m, n + (n + 6) * st.length = m := ⟨_, rfl⟩
 rw [hm, ← hNn] at hF
 have HM0 : Hid (n + (n + 6) * st.length = m) := hm
 have hmb : m ≤ 200000000 := by omega
 clear hI hB hm hmu
 have hnr := nbrs_any h0 sb k N F st S hS (by omega) w hX
 obtain ⟨g, bs, fs, tv, tag, rfl, hM0⟩ := hX
 have hM := hM0.retag 10
 have hkN : k < N.length := (List.getElem?_eq_some_iff.1 hS).1
 have hkI : (k : Int) < (N.length : Int) := by omega
 have hkw : (Lit.int .i64 (k : Int)).wf = true := wf_nat (by omega)
 obtain ⟨i0, hi, hz0, hz1, hz2⟩ := info_parts infoStp
 have HM : Hid (SM h0 sb g bs N fs tv st (fun k => if k < w.heap.size then tag k else 10) w) := hM
 have HF : Hid (FV N.length m (fs.map Prod.snd)) := hF
 have HNB : Hid (∀ u ∈ S, ∃ j : Nat, u = (j : Int) ∧ j ≠ k ∧ ∃ T, N[j]? = some (some T)) := hnb
 clear hM0 hM hF hnb
 go_enter Tryz.func20, Tryz.ntmps20
 go_wp2_with fail
 refine hnr.mono ?_
 clear hnr
 rintro e w1 ⟨sv, L, rfl, hp, ho1, hb1⟩
 have hM1 := HM.out.go hb1
 have c0 := hM1.row
 have hcg : w1.cell? ⟨g, k, none⟩ ≠ none := by
  obtain ⟨bk, _, _, hc, _⟩ := hM1.nm.cell hS
  rw [hc]; simp
 obtain ⟨zc, hzc⟩ : ∃ z, w1.cell? ⟨g, k, none⟩ = some z := by
  cases h : w1.cell? ⟨g, k, none⟩ with
  | none => exact absurd h hcg
  | some z => exact ⟨z, rfl⟩
 have fg := hM1.nm.row.frozen k
 have hM2 := hM1.leave k
 have hgb : Below h0 w (w1.setCell ⟨g, k, none⟩ (.map none)) := (hb1.mono hh).setCell (p := ⟨g, k, none⟩) hM1.lg _
 have hsv2 : (w1.setCell ⟨g, k, none⟩ (.map none)).ownsRow h0 3 1 sv L.length (L.map (Value.int .i64)) := by
  refine owns_agree (owns_mono ho1 hh) (fun b hb => Below.heap_setCell _ _ _ _ (fun e => ?_))
  have h1 := (ho1.lt b hb).1
  have h2 := HM.out.nm.row.lt
  have e' : b = g := e
  omega
 have htg : ∀ b, sv.ownBlock = some b → (if b < w.heap.size then tag b else 10) = 10 := fun b hb => if_neg (by have := (ho1.lt b hb).1; omega)
 have hw2s : (w1.setCell ⟨g, k, none⟩ (.map none)).heap.size = w1.heap.size := by simp
 have HP : Hid (L.Perm S) := hp
 have HB2 : Hid (Below h0 w (w1.setCell ⟨g, k, none⟩ (.map none))) := hgb
 have HM2 : Hid (SM h0 sb g (bs.set k none) (N.set k none) fs tv st (fun k => if k < w.heap.size then tag k else 10) (w1.setCell ⟨g, k, none⟩ (.map none))) := hM2
 have HSV : Hid ((w1.setCell ⟨g, k, none⟩ (.map none)).ownsRow h0 3 1 sv L.length (L.map (Value.int .i64))) := hsv2
 have HTG : Hid (∀ b, sv.ownBlock = some b → (if b < w.heap.size then tag b else 10) = 10) := htg
 obtain ⟨ps, ms, cs, rfl⟩ := owns_slice ho1
 have hms : ms = L.length := by
  rcases ho1.2 with ⟨h, h'⟩ | ⟨_, _, _, h, _⟩ <;> simp at h <;> omega
 subst hms
 have c7 : (w1.setCell ⟨g, k, none⟩ (.map none)).cell? ⟨sb, 7, none⟩ = some tv := hM2.steps
 have f7 : (w1.setCell ⟨g, k, none⟩ (.map none)).frozen? ⟨sb, 7, none⟩ = false := hM2.var.frozen 7
 obtain ⟨pt, mt, ct, rfl⟩ := owns_slice hM2.stp
 have hmt : mt = st.length := by
  rcases hM2.stp.2 with ⟨h, h'⟩ | ⟨_, _, _, h, _⟩ <;> simp at h <;> omega
 subst hmt
 have hownA := World.ownsRow.alloc hM2.stp (.cells #[.int .i64 (k : Int), .slice ps L.length cs, .int .i64 (-1)] 74)
 have hmx : st.length + 1 ≤ maxLen := by unfold maxLen; omega
 have hby : (st.length + 1) * 40 ≤ 140737488355328 := by omega
 have hbs : h0 ≤ ((w1.setCell ⟨g, k, none⟩ (.map none)).alloc (.cells #[.int .i64 (k : Int), .slice ps L.length cs, .int .i64 (-1)] 74)).heap.size := by have := hb1.size; simp; omega
 have HBK : Hid (Blk 74 ((w1.setCell ⟨g, k, none⟩ (.map none)).alloc (.cells #[.int .i64 (k : Int), .slice ps L.length cs, .int .i64 (-1)] 74)) (w1.setCell ⟨g, k, none⟩ (.map none)).heap.size [.int .i64 (k : Int), .slice ps L.length cs, .int .i64 (-1)]) := heap_alloc_new _ _
 rw [hw2s] at HBK
 have HNEW : Hid (∀ j u, [Value.int .i64 (k : Int), .slice ps L.length cs, .int .i64 (-1)][j]? = some u → ((w1.setCell ⟨g, k, none⟩ (.map none)).alloc (.cells #[.int .i64 (k : Int), .slice ps L.length cs, .int .i64 (-1)] 74)).cell? ((⟨w1.heap.size, 0, none⟩ : Addr).add j) = some u) := cells_three HBK.out
 have HONE : Hid (∀ u ∈ [Value.int .i64 (k : Int), .slice ps L.length cs, .int .i64 (-1)], u.oneCell' = true) := by intro u hu; simp at hu; rcases hu with rfl | rfl | rfl <;> rfl
 have HOA : Hid _ := hownA
 have HSB : Hid (h0 ≤ sb) := hM2.lsb
 have HNE : Hid (∀ b, (Value.slice pt st.length ct).ownBlock = some b → b ≠ sb) := fun b hb e => by have h1 := hM2.tt b hb; have h2 := hM2.tsb; rw [e] at h1; omega
 clear hp hgb hM2 hsv2 htg ho1 hM1 hcg HM hb1 hownA HBK
 go_wp2_with (at_builtin; refine wpList_append_own_at _ rfl _ _ 67 rfl h0 74 i0 (.agg #[.int .i64 0, .slice none 0 0, .int .i64 0]) 3 40 Tryz.underlying67 hi hz0 hz1 hz2 (by simp [Value.cells]) (by decide) (.slice pt st.length ct) _ _ rfl HOA.out ⟨w1.heap.size, 0, none⟩ 1 1 [.int .i64 (k : Int), .slice ps L.length cs, .int .i64 (-1)] rfl rfl HNEW.out HONE.out hmx hby hbs ?_)
 intro v6 w6 ho6 hg6 hnil6 hat6
 obtain ⟨a6, m6, c6, rfl⟩ := owns_slice ho6
 generalize hw2 : w1.setCell ⟨g, k, none⟩ (.map none) = w2 at *
 have hbA : Below w2.heap.size w2 (w2.alloc (.cells #[.int .i64 (k : Int), .slice ps L.length cs, .int .i64 (-1)] 74)) := (Below.refl _ _).alloc (Nat.le_refl _) _
 obtain ⟨tag6, hM6, _⟩ := HM2.out.push (s := ((k : Int), .slice ps L.length cs, L, -1)) hbA ho6 hg6 (by rw [World.size_alloc, hw2s]; exact hat6) HSV.out HTG.out
 have c67 : w6.cell? ⟨sb, 7, none⟩ = some (.slice pt st.length ct) := hg6.cell (cell_keepK hbA c7) (fun e => HNE.out sb e.symm rfl)
 have f67 : w6.frozen? ⟨sb, 7, none⟩ = false := ((HM2.out.var.go hbA).grown hg6 (fun e => HNE.out sb e.symm rfl)).frozen 7
 have HB7 : Hid (Below h0 w (w6.setCell ⟨sb, 7, none⟩ (.slice a6 m6 c6))) := ((HB2.out.trans (hbA.mono (Nat.le_trans hh HB2.out.size))).grown hg6 hbs (fun q hq => (World.ownsRow.lt HOA.out q hq).1)).setCell (p := ⟨sb, 7, none⟩) HSB.out _
 have HX7 : Hid (SX h0 sb (N.set k none) (fs.map Prod.snd) (st ++ [((k : Int), .slice ps L.length cs, L, -1)]) (w6.setCell ⟨sb, 7, none⟩ (.slice a6 m6 c6))) := ⟨g, _, fs, _, tag6, rfl, hM6⟩
 have hLl : L.length ≤ 5 := by rw [HP.out.length_eq]; exact h5
 clear hw2 hbA ho6 hg6 hnil6 hat6 hM6 HM2 HSV HTG HNEW HONE HOA HNE hbs hmx hby c7 f7 c0 hzc fg hw2s
 go_wp2_with fail
 generalize w6.setCell ⟨sb, 7, none⟩ (.slice a6 m6 c6) = w7 at *
 clear c67 f67
 go_loopw [30] (fun iv wr => ∃ i : Nat, i ≤ L.length ∧ iv = .int .i64 i ∧ SX h0 sb ((L.take i).foldl (drop1 (k : Int)) (N.set k none, fs.map Prod.snd)).1 ((L.take i).foldl (drop1 (k : Int)) (N.set k none, fs.map Prod.snd)).2 (st ++ [((k : Int), .slice ps L.length cs, L, -1)]) wr ∧ Below h0 w wr) (fun iv _ => L.length - (intOf iv).toNat)
 case atStart => exact ⟨0, Nat.zero_le _, rfl, HX7.out, HB7.out⟩
 case round =>
  clear HX7 HB7
  obtain ⟨i, hi', rfl, hXr, hbr⟩ := hrel
  by_cases hlt : i < L.length
  ·have hil : (i : Int) < (L.length : Int) := by omega
   obtain ⟨j, hj, hjk, T0, hT0⟩ := HNB.out L[i] (HP.out.mem_iff.1 (List.getElem_mem hlt))
   have hjN : j < N.length := (List.getElem?_eq_some_iff.1 hT0).1
   obtain ⟨T, hT⟩ := dropF_some (k : Int) (L.take i) (N.set k none, fs.map Prod.snd) (j := j) (T := T0) (by rw [List.getElem?_set_ne (Ne.symm hjk)]; exact hT0)
   have hFr := dropF_fv (k : Int) (n := N.length) (L.take i) (N.set k none, fs.map Prod.snd) (fun u hu => by
    obtain ⟨j', e, _, T', hT'⟩ := HNB.out u (HP.out.mem_iff.1 (List.mem_of_mem_take hu))
    exact ⟨j', e, (List.getElem?_eq_some_iff.1 hT').1⟩) HF.out
   have hlen := dropF_len (k : Int) (L.take i) (N.set k none, fs.map Prod.snd)
   have HQ : Hid ((L.take (i + 1)).foldl (drop1 (k : Int)) (N.set k none, fs.map Prod.snd) = drop1 (k : Int) ((L.take i).foldl (drop1 (k : Int)) (N.set k none, fs.map Prod.snd)) (j : Int)) := by unfold Hid; rw [dropF_take _ _ _ hlt, hj]
   have hsv := hXr.inn _ (List.mem_append_right _ (List.mem_singleton.2 rfl))
   dsimp only at hsv hlen hFr
   rw [List.length_set] at hlen
   generalize (L.take i).foldl (drop1 (k : Int)) (N.set k none, fs.map Prod.snd) = q at *
   obtain ⟨b, rfl⟩ : ∃ b, ps = some ⟨b, 0, none⟩ := by
    rcases hsv.2 with ⟨_, h⟩ | ⟨b, _, _, h, _⟩
    ·omega
    ·simp at h; exact ⟨b, h.1⟩
   have cu : wr.cell? ⟨b, i, none⟩ = some (.int .i64 (j : Int)) := by
    rw [hsv.cellAt i (by omega), List.getElem?_map, List.getElem?_eq_getElem hlt, hj]
    rfl
   obtain ⟨gr, bsr, fsr, tvr, tagr, hfr, hMr⟩ := hXr
   obtain ⟨bj, hbj, hMj, hcj, hjl⟩ := hMr.nm.cell hT
   have c0 := hMr.row
   have hjI : (j : Int) < (q.1.length : Int) := by omega
   obtain ⟨w8, hrd, hM8, ht8⟩ := hMj.drop hkw 0
   have hSM8 := hMr.turn hbj ht8 hM8
   have hX8 : SX h0 sb (q.1.set j (some (T.erase (k : Int)))) q.2 (st ++ [((k : Int), .slice (some ⟨b, 0, none⟩) L.length cs, L, -1)]) w8 := ⟨gr, bsr, fsr, tvr, tagr, hfr, hSM8⟩
   have hb8 : Below h0 w w8 := turned_below hbr ht8 (hMr.lm j bj hbj)
   have hfl := file_any h0 sb j (q.1.set j (some (T.erase (k : Int)))) q.2 _ (T.erase (k : Int)) (List.getElem?_set_self hjl) w8 hX8 (Nat.le_trans hh hb8.size) (fun L' hL' => by have := (hFr.2 L' hL').1; rw [List.length_take] at this; omega)
   have HD : Hid (drop1 (k : Int) q (j : Int) = (q.1.set j (some (T.erase (k : Int))), fileF q.2 (T.erase (k : Int)).length (j : Int))) := by
    unfold Hid drop1 nbN
    simp [hT]
   have HB8 : Hid (Below h0 w w8) := hb8
   clear hsv hMr hMj hM8 ht8 hSM8 hX8 hb8 hbr hfr hlen hFr hT hT0 hj
   go_wp2_with fail
   refine hfl.mono ?_
   clear hfl hrd
   rintro e w9 ⟨rfl, hX9, hb9⟩
   have HX9 : Hid (SX h0 sb ((L.take (i + 1)).foldl (drop1 (k : Int)) (N.set k none, fs.map Prod.snd)).1 ((L.take (i + 1)).foldl (drop1 (k : Int)) (N.set k none, fs.map Prod.snd)).2 (st ++ [((k : Int), .slice (some ⟨b, 0, none⟩) L.length cs, L, -1)]) w9) := by
    unfold Hid
    rw [HQ.out, HD.out]
    exact hX9
   have HB9 : Hid (Below h0 w w9) := HB8.out.trans hb9
   clear hX9 hb9 c0 cu hcj
   go_wp2
   exact ⟨⟨i + 1, hlt, by go_num, HX9.out, HB9.out⟩, by simp [intOf]; omega⟩
  ·have hil : ¬ (i : Int) < (L.length : Int) := by omega
   have hi2 : i = L.length := by omega
   rw [hi2, List.take_length] at hXr
   by_cases hL5 : L.length = 5
   ·have hb5 : ((L.length : Int) == 5) = true := by rw [beq_iff_eq]; omega
    have HL5 : Hid (L.length = 5) := hL5
    clear hL5
    obtain ⟨g1, bs1, fs1, tv1, tag1, hfs1, hM1⟩ := hXr
    have hsv := hM1.inn _ (List.mem_append_right _ (List.mem_singleton.2 rfl))
    have hF1 : FV n (n + (n + 6) * st.length) (fs.map Prod.snd) := by rw [HM0.out, ← hNn]; exact HF.out
    obtain ⟨hH1, _, _, hLn, hLm⟩ := HI.out.h.step HFB.out.2 h5 hF1 HFB.out.1 HP.out (.slice ps L.length cs)
    have hat : ∀ u ∈ L, ∃ (j : Nat) (T : List Int), u = (j : Int) ∧ (dropQ (k : Int) L N (fs.map Prod.snd)).1[j]? = some (some T) := fun u hu => by
     obtain ⟨j, e, hjk, T0, hT0⟩ := HNB.out u (HP.out.mem_iff.1 hu)
     obtain ⟨T, hT⟩ := dropF_some (k : Int) L (N.set k none, fs.map Prod.snd) (j := j) (T := T0) (by rw [List.getElem?_set_ne (Ne.symm hjk)]; exact hT0)
     exact ⟨j, T, e, by unfold dropQ; rw [Int.toNat_natCast]; exact hT⟩
    have hqlen := hH1.len
    have hap := apart_any sb g1 bs1 (dropQ (k : Int) L N (fs.map Prod.snd)).1 L (.slice ps L.length cs) wr hM1.row hM1.nm (owns_intsP hsv) (fun u hu => by
     obtain ⟨j, T, rfl, hT⟩ := hat u hu
     have hj := (List.getElem?_eq_some_iff.1 hT).1
     exact ⟨by omega, wf_nat (by omega), T, by rw [Int.toNat_natCast]; exact hT⟩) (by omega) hM1.var.lt
    have HX : Hid (SX h0 sb (dropQ (k : Int) L N (fs.map Prod.snd)).1 (dropQ (k : Int) L N (fs.map Prod.snd)).2 (st ++ [((k : Int), .slice ps L.length cs, L, -1)]) wr) := ⟨g1, bs1, fs1, tv1, tag1, hfs1, hM1⟩
    have HB : Hid (Below h0 w wr) := hbr
    have HH : Hid (h0 ≤ wr.heap.size) := by have h1 := hM1.lsb; have h2 := hM1.var.lt; unfold Hid; omega
    have HF1 : Hid (FV n (n + (n + 6) * st.length) (fs.map Prod.snd)) := hF1
    have HH1 : Hid (FvH n (dropQ (k : Int) L N (fs.map Prod.snd)).1 (dropQ (k : Int) L N (fs.map Prod.snd)).2 (st ++ [((k : Int), .slice ps L.length cs, L, -1)])) := hH1
    have HAT : Hid (∀ u ∈ L, ∃ (j : Nat) (T : List Int), u = (j : Int) ∧ (dropQ (k : Int) L N (fs.map Prod.snd)).1[j]? = some (some T)) := hat
    clear hbr hi2 hM1 hfs1 hsv hF1 hH1 hat hLn hLm hqlen
    go_wp2_with fail
    refine hap.mono ?_
    clear hap
    rintro e w9 ⟨xI, yI, rfl, hcase, hb9⟩
    have hpick : ∃ (x y : Nat) (a b : Nat) (Sa Sb : List Int), xI = (x : Int) ∧ yI = (y : Int) ∧ (a : Int) ∈ L ∧ (b : Int) ∈ L ∧ (dropQ (k : Int) L N (fs.map Prod.snd)).1[a]? = some (some Sa) ∧ (dropQ (k : Int) L N (fs.map Prod.snd)).1[b]? = some (some Sb) ∧ a ≠ b ∧ (b : Int) ∉ Sa ∧ ((a = x ∧ b = y ∧ ¬ (Sb.length : Int) < (Sa.length : Int)) ∨ (b = x ∧ a = y ∧ (Sa.length : Int) < (Sb.length : Int))) := by
     rcases hcase with ⟨i1, i2, hi12, e1, e2, hno⟩ | hall
     ·have m1 := List.mem_of_getElem? e1
      have m2 := List.mem_of_getElem? e2
      obtain ⟨x, Tx, rfl, hTx⟩ := HAT.out _ m1
      obtain ⟨y, Ty, rfl, hTy⟩ := HAT.out _ m2
      rw [nbN_at hTx] at hno
      have hxy : x ≠ y := fun e => by
       subst e
       have hLnd : L.Nodup := HP.out.nodup_iff.2 (HI.out.h.sub k S HFB.out.2).1
       obtain ⟨l1, q1⟩ := List.getElem?_eq_some_iff.1 e1
       obtain ⟨l2, q2⟩ := List.getElem?_eq_some_iff.1 e2
       have := (List.getElem_inj hLnd).1 (q1.trans q2.symm)
       omega
      obtain ⟨a, b, Sa, Sb, h1, h2, h3, h4, h6⟩ := HH1.out.pick hTx hTy hxy hno
      refine ⟨x, y, a, b, Sa, Sb, rfl, rfl, ?_, ?_, h1, h2, h3, h4, h6⟩
      ·rcases h6 with ⟨rfl, rfl, _⟩ | ⟨rfl, rfl, _⟩
       ·exact m1
       ·exact m2
      ·rcases h6 with ⟨rfl, rfl, _⟩ | ⟨rfl, rfl, _⟩
       ·exact m2
       ·exact m1
     ·exfalso
      refine HI.out.apart HFB.out.2 (by rw [← HP.out.length_eq]; exact HL5.out) HF1.out HFB.out.1 HP.out fun x y hx hy hxy => ?_
      obtain ⟨i1, l1, q1⟩ := List.mem_iff_getElem.1 hx
      obtain ⟨i2, l2, q2⟩ := List.mem_iff_getElem.1 hy
      rcases Nat.lt_trichotomy i1 i2 with h | h | h
      ·exact .inl (hall i1 i2 _ _ h (by rw [List.getElem?_eq_getElem l1, q1]) (by rw [List.getElem?_eq_getElem l2, q2]))
      ·subst h
       rw [q1] at q2
       exact absurd (by omega) hxy
      ·exact .inr (hall i2 i1 _ _ h (by rw [List.getElem?_eq_getElem l2, q2]) (by rw [List.getElem?_eq_getElem l1, q1]))
    obtain ⟨x, y, a, b, Sa, Sb, rfl, rfl, haL, hbL, hSa, hSb, hab, hno, hxy⟩ := hpick
    have hst1 : (st ++ [((k : Int), Value.slice ps L.length cs, L, (-1 : Int))]).length ≤ n := by have := HH1.out.cnt; omega
    have hmu1 : (n + 6) * (st ++ [((k : Int), Value.slice ps L.length cs, L, (-1 : Int))]).length ≤ 10006 * 10000 := Nat.mul_le_mul (by omega) (by omega)
    have hmg := merge_ab h0 sb a b x y (n + (n + 6) * (st ++ [((k : Int), Value.slice ps L.length cs, L, (-1 : Int))]).length) _ (by rw [HH1.out.len]; omega) (by rw [HH1.out.len]; omega) _ _ Sa Sb hSa hSb hab hxy (HH1.out.sub a Sa hSa).1 hno (fun u hu => by
     obtain ⟨j, h1, h2, T, h3, _⟩ := (HH1.out.sub a Sa hSa).2 u hu
     exact ⟨j, h1, h2, T, h3⟩) (fun j T hT => by rw [HH1.out.len]; exact HH1.out.few hT) (by omega) w9 (HX.out.go hb9) (Nat.le_trans HH.out hb9.size) (by rw [HH1.out.len]; exact HH1.out.fv)
    have HFN : Hid (∀ La : List Int, La.Perm Sa → FvI n adj0 (mrgQ (a : Int) (b : Int) La (dropQ (k : Int) L N (fs.map Prod.snd)).1 (dropQ (k : Int) L N (fs.map Prod.snd)).2).1 (mrgQ (a : Int) (b : Int) La (dropQ (k : Int) L N (fs.map Prod.snd)).1 (dropQ (k : Int) L N (fs.map Prod.snd)).2).2 ((st ++ [((k : Int), .slice ps L.length cs, L, -1)]) ++ [((a : Int), .slice none 0 0, [], (b : Int))])) := fun La hLa => HI.out.five HFB.out.2 h5 HF1.out HFB.out.1 HP.out _ haL hbL hab hSa hSb hno hLa _
    have HB9 : Hid (Below h0 w w9) := HB.out.trans (hb9.mono HH.out)
    clear hcase hb9 haL hbL hSa hSb hab hno hxy hst1 hmu1 HX HB HI HFB HF1 HH1 HAT HF HNB HP HM0
    go_wp2_with fail
    refine hmg.mono ?_
    clear hmg
    rintro e w10 ⟨rfl, La, hLa, hX10, hb10⟩
    have HF10 : Hid (FvI n adj0 _ _ _) := HFN.out La hLa
    have HX10 : Hid (SX h0 sb _ _ _ w10) := hX10
    have HB10 : Hid (Below h0 w w10) := HB9.out.trans hb10
    clear hX10 hb10 hLa HFN
    go_wp2
    refine bodyPost_end (results_none rfl _ _ _) rfl ?_
    exact ⟨rfl, HB10.out, _, _, _, HX10.out, HF10.out, by simp⟩
   ·have h5b : ((L.length : Int) == 5) = false := by rw [beq_eq_false_iff_ne]; omega
    have HX : Hid (SX h0 sb (dropQ (k : Int) L N (fs.map Prod.snd)).1 (dropQ (k : Int) L N (fs.map Prod.snd)).2 (st ++ [((k : Int), .slice ps L.length cs, L, -1)]) wr) := hXr
    have HB : Hid (Below h0 w wr) := hbr
    have HF9 : Hid (FvI n adj0 (dropQ (k : Int) L N (fs.map Prod.snd)).1 (dropQ (k : Int) L N (fs.map Prod.snd)).2 (st ++ [((k : Int), .slice ps L.length cs, L, -1)])) := HI.out.step HFB.out.2 (by rw [← HP.out.length_eq]; omega) (by rw [HM0.out, ← hNn]; exact HF.out) HFB.out.1 HP.out _
    clear hXr hbr hi2
    go_wp2
    refine bodyPost_end (results_none rfl _ _ _) rfl ?_
    exact ⟨rfl, HB.out, _, _, _, HX.out, HF9.out, by simp⟩
end Go.Proofs.YtjpkojmjiaoifaaGreat

namespace Go.Proofs.YtjpkojmjiaoifaaGreat
open Go Go.Proofs Go.RowKit
theorem sort_ne {r K : List (List Int)} {j : Nat} (h1 : j < r.length) (h2 : j < K.length) (h : sortL r[j] ≠ K[j]) : decide (r.map sortL = K) = false := decide_eq_false fun e => h (by
 have := congrArg (fun L => L[j]?) e
 simp only [List.getElem?_map, List.getElem?_eq_getElem h1, List.getElem?_eq_getElem h2, Option.map_some, Option.some.injEq] at this
 exact this)
theorem sort_eq {r K : List (List Int)} (hl : r.length = K.length) (h : ∀ (i : Nat) (h1 : i < r.length) (h2 : i < K.length), sortL r[i] = K[i]) : decide (r.map sortL = K) = true := decide_eq_true (by
 refine List.ext_getElem (by simpa using hl) fun i h1 h2 => ?_
 rw [List.getElem_map]
 exact h i (by simpa using h1) h2)
set_option maxRecDepth 100000 in
set_option maxHeartbeats 2000000 in
theorem eqf_any (r K : List (List Int)) (hK : ∀ x ∈ K, x.length ≤ 4194304) (hKl : K.length ≤ 4194304) (sr sk : Value) (w : World) (hr : Lsts w.heap.size w sr r) (hk : Lsts w.heap.size w sk K) :
  Calls Tryz.prog 57 #[sr, sk, .func (.func 58) #[] #[]] w fun e w' => e = .returned (.bool (decide (r.map sortL = K))) ∧ Below w.heap.size w w' := by
 have hent : ∀ (args : Array Value) (W : World), (callFunc 58 args).run Tryz.prog W = .ok (.enter 58 args) W := fun args W => by kernel_rfl
 obtain ⟨p, c, rfl⟩ := hr.len
 obtain ⟨pk, ck, rfl⟩ := hk.len
 by_cases hlen : r.length = K.length
 ·have hlen' : ((r.length : Int) != (K.length : Int)) = false := by rw [hlen]; simp
  have HLEN : Hid _ := hlen
  have HR0 : Hid (Lsts w.heap.size w (.slice p r.length c) r) := hr
  have HK0 : Hid (Lsts w.heap.size w (.slice pk K.length ck) K) := hk
  have HK : Hid _ := hK
  have hrl : r.length ≤ 4194304 := by omega
  clear hlen hr hk hK
  go_enter Tryz.func57, Tryz.ntmps57
  go_wp2
  go_loopw [17] (fun iv wr => ∃ j : Nat, j ≤ r.length ∧ iv = .int .i64 j ∧ Hid (∀ (i : Nat) (h1 : i < r.length) (h2 : i < K.length), i < j → sortL r[i] = K[i]) ∧ Below w.heap.size w wr) (fun i _ => r.length - (intOf i).toNat)
  case atStart => exact ⟨0, Nat.zero_le _, rfl, fun i _ _ h => by omega, Below.refl _ _⟩
  case round =>
   obtain ⟨j, hj, rfl, HS, hb⟩ := hrel
   by_cases hlt : j < r.length
   ·have hjl : (j : Int) < (r.length : Int) := by omega
    have hlk : j < K.length := by have := HLEN.out; omega
    have hjk : (j : Int) < (K.length : Int) := by omega
    obtain ⟨b, off, rfl, hbb, hcap, px, cx, hIx, c0⟩ := (HR0.out.below hb).cellAt hlt
    obtain ⟨bk, offk, rfl, hbk, hcapk, pk', ck', hIk, k0⟩ := (HK0.out.below hb).cellAt hlk
    have hc := isOrder_any r[j] K[j] (HK.out _ (List.getElem_mem hlk)) _ _ wr (hIx.mono hb.size) (hIk.mono hb.size)
    by_cases he : sortL r[j] = K[j]
    ·rw [decide_eq_true he] at hc
     have HS2 : Hid (∀ (i : Nat) (h1 : i < r.length) (h2 : i < K.length), i < j + 1 → sortL r[i] = K[i]) := fun i h1 h2 h => by
      by_cases e : i = j
      ·subst e; exact he
      ·exact HS.out i h1 h2 (by omega)
     have HLT : Hid (j < r.length) := hlt
     clear he HS hIx hIk
     generalize r[j] = X at c0 hc
     generalize K[j] = Y at k0 hc
     clear hlt hlk
     go_wp2_with fail
     refine hc.mono ?_
     clear hc
     rintro e w2 ⟨rfl, hb2⟩
     have HB2 : Hid _ := hb.trans (hb2.mono hb.size)
     clear hb2
     go_wp2
     exact ⟨⟨j + 1, HLT.out, by go_num, HS2.out, HB2.out⟩, by have := HLT.out; simp [intOf]; omega⟩
    ·rw [decide_eq_false he] at hc
     have HE : Hid _ := sort_ne hlt hlk he
     have HLT : Hid (j < r.length) := hlt
     clear he HS hIx hIk
     generalize r[j] = X at c0 hc
     generalize K[j] = Y at k0 hc
     clear hlt hlk
     go_wp2_with fail
     refine hc.mono ?_
     clear hc
     rintro e w2 ⟨rfl, hb2⟩
     have HB2 : Hid _ := hb.trans (hb2.mono hb.size)
     clear hb2
     go_wp2
     go_ret
     exact ⟨by rw [HE.out]; rfl, HB2.out⟩
   ·obtain rfl : j = r.length := by omega
    have HE : Hid _ := sort_eq HLEN.out fun i h1 h2 => HS.out i h1 h2 h1
    clear HS
    go_wp2
    go_ret
    exact ⟨by rw [HE.out]; rfl, hb⟩
 ·have hlen' : ((r.length : Int) != (K.length : Int)) = true := by
   rw [bne_iff_ne]; omega
  have hE : decide (r.map sortL = K) = false := decide_eq_false fun e => hlen (by rw [← e]; simp)
  rw [hE]
  clear hE hlen
  go_enter Tryz.func57, Tryz.ntmps57
  go_wp2
  go_ret
  exact ⟨rfl, Below.refl _ _⟩
theorem sys_iff {N : Nat} {l : List Ed} {r : List (List Int)} (hR : RightG (N : Int) l) : r.map sortL = nearL N l ↔ SysR N l r := by
 constructor
 ·intro h
  have hl : r.length = N := by have := congrArg List.length h; rw [nearL_len] at this; simpa using this
  refine ⟨hl, fun v hv => ?_⟩
  have h1 := congrArg (fun L => L[v]?) h
  simp only [List.getElem?_map, nearL_at hv, List.getElem?_eq_getElem (show v < r.length by omega), Option.map_some, Option.some.injEq] at h1
  rw [List.getD_eq_getElem?_getD, List.getElem?_eq_getElem (show v < r.length by omega)]
  exact (sortL_iff (nb_rise hR _)).1 h1
 ·intro h
  refine List.ext_getElem (by rw [nearL_len]; simpa using h.len) fun i h1 h2 => ?_
  rw [nearL_len] at h2
  have h3 := h.perm i h2
  have h4 : i < r.length := by rw [h.len]; exact h2
  rw [List.getD_eq_getElem?_getD, List.getElem?_eq_getElem h4] at h3
  have h5 := nearL_at (l := l) h2
  rw [List.getElem?_eq_getElem (by rw [nearL_len]; exact h2), Option.some.injEq] at h5
  rw [List.getElem_map, h5]
  exact (sortL_iff (nb_rise hR _)).2 h3
def sysK (n : Int) (l : List Ed) (r : List (List Int)) : Int := if rightK n l = 0 then (if r.map sortL = nearL n.toNat l then 0 else 12) else 1
theorem sysK_ok {N : Nat} {l : List Ed} {r : List (List Int)} (hR : RightG (N : Int) l) (hS : SysR N l r) : sysK (N : Int) l r = 0 := by
 unfold sysK
 rw [if_pos (right_iff.2 hR)]
 exact if_pos ((sys_iff hR).2 hS)
theorem sysK_not {N : Nat} {l : List Ed} {r : List (List Int)} (hR : RightG (N : Int) l) (hS : ¬ SysR N l r) : sysK (N : Int) l r = 12 := by
 unfold sysK
 rw [if_pos (right_iff.2 hR)]
 exact if_neg fun h => hS ((sys_iff hR).1 h)
set_option maxRecDepth 100000 in
set_option maxHeartbeats 2000000 in
theorem sysRight_any (n : Int) (l : List Ed) (r : List (List Int)) (sv rv : Value) (w : World) (hl : Edges w.heap.size w sv l) (hr : Lsts w.heap.size w rv r) :
  Calls Tryz.prog 37 #[.agg #[.int .i64 n, sv], rv] w fun e w' => e = .returned (.int .i64 (sysK n l r)) ∧ Below w.heap.size w w' := by
 have hgA : Grew w (w.alloc (.cells #[.int .i64 n, sv] 24)) := (Grew.refl w).alloc _
 have hX : Blk 24 (w.alloc (.cells #[.int .i64 n, sv] 24)) w.heap.size [.int .i64 n, sv] := heap_alloc_new w _
 have q0 := hX.cell (j := 0) rfl
 have q1 := hX.cell (j := 1) rfl
 have hrc := right_any n l sv _ (hl.go hgA.below)
 have HX : Hid (Blk 24 (w.alloc (.cells #[.int .i64 n, sv] 24)) w.heap.size [.int .i64 n, sv]) := hX
 have HL : Hid (Edges w.heap.size w sv l) := hl
 have HR0 : Hid (Lsts w.heap.size w rv r) := hr
 have HBA : Hid _ := hgA.below
 clear hX hl hr hgA
 go_enter Tryz.func37, Tryz.ntmps37
 go_wp2_with fail
 generalize w.alloc (.cells #[.int .i64 n, sv] 24) = w1 at *
 refine hrc.mono ?_
 clear hrc
 rintro e w2 ⟨rfl, hg2⟩
 have hX2 := HX.out.go hg2.below
 have y0 := hX2.cell (j := 0) rfl
 have y1 := hX2.cell (j := 1) rfl
 have HB2 : Hid (Below w.heap.size w w2) := HBA.out.trans (hg2.below.mono HBA.out.size)
 by_cases hk : rightK n l = 0
 ·have hR := right_iff.1 hk
  obtain ⟨N, rfl⟩ : ∃ N : Nat, n = (N : Int) := ⟨n.toNat, by have := hR.n0; omega⟩
  have hne := near_any N l hR sv w2 (HL.out.go HB2.out)
  have hn1 := hR.n1
  have hm1 := hR.m1
  rw [hk]
  have HR : Hid _ := hR
  clear hk hX2 hR q0 q1
  go_wp2_with fail
  refine hne.mono ?_
  clear hne
  rintro e w3 ⟨nv, rfl, hN3, hb3⟩
  have HB3 : Hid (Below w.heap.size w w3) := HB2.out.trans (hb3.mono HB2.out.size)
  have heq := eqf_any r (nearL N l) (fun x hx => by
   obtain ⟨v, hv, rfl⟩ := List.mem_map.1 hx
   exact Nat.le_trans (nb_len _ _) hm1) (by rw [nearL_len]; omega) rv nv w3 (HR0.out.go HB3.out) hN3
  clear y0 y1 hb3 hN3
  by_cases hS : SysR N l r
  ·rw [decide_eq_true ((sys_iff HR.out).2 hS)] at heq
   have HE : Hid _ := sysK_ok HR.out hS
   clear hS
   go_wp2_with fail
   refine heq.mono ?_
   clear heq
   rintro e w4 ⟨rfl, hb4⟩
   go_wp2
   go_ret
   exact ⟨by rw [HE.out]; rfl, HB3.out.trans (hb4.mono HB3.out.size)⟩
  ·rw [decide_eq_false fun e => hS ((sys_iff HR.out).1 e)] at heq
   have HE : Hid (sysK (N : Int) l r = 12) := sysK_not HR.out hS
   clear hS
   go_wp2_with fail
   refine heq.mono ?_
   clear heq
   rintro e w4 ⟨rfl, hb4⟩
   go_wp2
   go_ret
   exact ⟨by rw [HE.out]; rfl, HB3.out.trans (hb4.mono HB3.out.size)⟩
 ·have HE : Hid (sysK n l r = 1) := if_neg hk
  generalize rightK n l = k at *
  go_wp2
  go_ret
  exact ⟨by rw [HE.out]; rfl, HB2.out⟩
end Go.Proofs.YtjpkojmjiaoifaaGreat
