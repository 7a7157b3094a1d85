import Derived.Test.YtjpkojmjiaoifaaGreatZAZ
import Derived.Test.YtjpkojmjiaoifaaGreatXCFvG
namespace Go.Proofs.YtjpkojmjiaoifaaGreat
open Go Go.Proofs Go.RowKit Go.Maps
theorem insF_len : ∀ (L S : List Int), (L.foldl insS S).length ≤ S.length + L.length
 | [], S => Nat.le_refl _
 | u :: L, S => by
  have h := insF_len L (insS S u)
  have h1 : (insS S u).length ≤ S.length + 1 := by
   unfold insS
   split
   ·omega
   ·rw [List.length_append, List.length_singleton]; exact Nat.le_refl _
  rw [List.foldl_cons, List.length_cons]
  omega
def SvK (sv : Value) (tag : Nat → Nat) (A W : World) : Prop := ∀ b, sv.ownBlock = some b → b < W.heap.size ∧ tag b = 11 ∧ W.heap[b]? = A.heap[b]?
set_option maxRecDepth 100000 in
set_option maxHeartbeats 8000000 in
theorem merge_ab (h0 sb a b x y m : Nat) (N : List (Option (List Int))) (hm : m + N.length + 10 ≤ 1000000000) (hNl : N.length ≤ 1048576) (F : List (List Int)) (st : List StpM) (Sa Sb : List Int) (hSa : N[a]? = some (some Sa)) (hSb : N[b]? = some (some Sb)) (hab : a ≠ b)
  (hxy : (a = x ∧ b = y ∧ ¬ (Sb.length : Int) < (Sa.length : Int)) ∨ (b = x ∧ a = y ∧ (Sa.length : Int) < (Sb.length : Int)))
  (hSn : Sa.Nodup) (hbS : (b : Int) ∉ Sa) (hnb : ∀ u ∈ Sa, ∃ j : Nat, u = (j : Int) ∧ j ≠ a ∧ ∃ T, N[j]? = some (some T)) (hlen : ∀ (j : Nat) (T : List Int), N[j]? = some (some T) → T.length ≤ N.length) (hst : st.length ≤ 1048576) (w : World) (hX : SX h0 sb N F st w) (hh : h0 ≤ w.heap.size) (hF : FV N.length m F) :
  Calls Tryz.prog 42 #[.pointer (some ⟨sb, 0, none⟩), .int .i64 (x : Int), .int .i64 (y : Int)] w fun e w' => e = .returned (.tuple #[]) ∧ ∃ L : List Int, L.Perm Sa ∧ SX h0 sb (mrgQ (a : Int) (b : Int) L N F).1 (mrgQ (a : Int) (b : Int) L N F).2 (st ++ [((a : Int), .slice none 0 0, [], (b : Int))]) w' ∧ Below h0 w w' := by
 have hnr := fun q : Nat => nbrs_any h0 sb a N F st Sa hSa (by have := hlen a Sa hSa; omega) (World.drewN w q) (hX.go (below_drewN (Below.refl _ _) q))
 obtain ⟨g, bs, fs, tv, tag, rfl, hM0⟩ := hX
 have hM := hM0.retag 11
 have haN : a < N.length := (List.getElem?_eq_some_iff.1 hSa).1
 have hbN : b < N.length := (List.getElem?_eq_some_iff.1 hSb).1
 have haI : (a : Int) < (N.length : Int) := by omega
 have hbI : (b : Int) < (N.length : Int) := by omega
 have haw : (Lit.int .i64 (a : Int)).wf = true := wf_nat (by omega)
 have hbw : (Lit.int .i64 (b : Int)).wf = true := wf_nat (by omega)
 obtain ⟨i0, hi, hz0, hz1, hz2⟩ := info_parts infoStp
 obtain ⟨ba, hba, hMa, hca, _⟩ := hM0.nm.cell hSa
 obtain ⟨bb, hbb, hMb, hcb, _⟩ := hM0.nm.cell hSb
 have hra := fun q : Nat => (hMa.still (W' := World.drewN w q) rfl).len 3
 have hrb := fun q : Nat => (hMb.still (W' := World.drewN w q) rfl).len 3
 have c0 := hM.row
 have HM : Hid (SM h0 sb g bs N fs tv st (fun k => if k < w.heap.size then tag k else 11) w) := hM
 have HF : Hid (FV N.length m (fs.map Prod.snd)) := hF
 have HNB : Hid (∀ u ∈ Sa, ∃ j : Nat, u = (j : Int) ∧ j ≠ a ∧ ∃ T, N[j]? = some (some T)) := hnb
 have HSN : Hid (Sa.Nodup ∧ (b : Int) ∉ Sa) := ⟨hSn, hbS⟩
 have HLN : Hid (∀ (j : Nat) (T : List Int), N[j]? = some (some T) → T.length ≤ N.length) := hlen
 have HSA : Hid (N[a]? = some (some Sa)) := hSa
 have HSB' : Hid (N[b]? = some (some Sb)) := hSb
 clear hM0 hM hF hnb hSn hbS hlen hSa hSb hMa hMb hba hbb
 rcases hxy with ⟨rfl, rfl, hle⟩ | ⟨rfl, rfl, hle⟩
 all_goals
  go_enter Tryz.func42, Tryz.ntmps42
  go_wp2_with (go_quiet (fail))
  refine (hnr nq).mono ?_
  clear hnr hra hrb c0 hca hcb
  rintro e w1 ⟨sv, L, rfl, hp, ho1, hb1⟩
  have hbq : Below w.heap.size w w1 := (below_drewN (Below.refl w.heap.size w) nq).trans hb1
  have hM1 := HM.out.go hbq
  have c0 := hM1.row
  have hcg : w1.cell? ⟨g, a, none⟩ ≠ none := by
   obtain ⟨bk, _, _, hc, _⟩ := hM1.nm.cell HSA.out
   rw [hc]; simp
  obtain ⟨zc, hzc⟩ : ∃ z, w1.cell? ⟨g, a, none⟩ = some z := by
   cases h : w1.cell? ⟨g, a, none⟩ with
   | none => exact absurd h hcg
   | some z => exact ⟨z, rfl⟩
  have fg := hM1.nm.row.frozen a
  have hM2 := hM1.leave a
  have hgb : Below h0 w (w1.setCell ⟨g, a, none⟩ (.map none)) := (hbq.mono hh).setCell (p := ⟨g, a, none⟩) hM1.lg _
  have hs1 : w.heap.size ≤ w1.heap.size := hbq.size
  have hK1 : SvK sv (fun k => if k < w.heap.size then tag k else 11) w1 (w1.setCell ⟨g, a, none⟩ (.map none)) := fun b hb => by
   have h1 := ho1.lt b hb
   have hd : (World.drewN w nq).heap.size = w.heap.size := rfl
   rw [hd] at h1
   refine ⟨by simpa using h1.2, if_neg (by omega), Below.heap_setCell _ _ _ _ (fun e => ?_)⟩
   have h2 := HM.out.nm.row.lt
   have e' : b = g := e
   omega
  have hw2s : (w1.setCell ⟨g, a, none⟩ (.map none)).heap.size = w1.heap.size := by simp
  have HP : Hid (L.Perm Sa) := hp
  have HB2 : Hid (Below h0 w (w1.setCell ⟨g, a, none⟩ (.map none))) := hgb
  have HM2 : Hid (SM h0 sb g (bs.set a none) (N.set a none) fs tv st (fun k => if k < w.heap.size then tag k else 11) (w1.setCell ⟨g, a, none⟩ (.map none))) := hM2
  have HK1 : Hid (SvK sv (fun k => if k < w.heap.size then tag k else 11) w1 (w1.setCell ⟨g, a, none⟩ (.map none))) := hK1
  obtain ⟨ps, ms, cs, rfl⟩ := owns_slice ho1
  have hms : ms = L.length := by
   rcases ho1.2 with ⟨h, h'⟩ | ⟨_, _, _, h, _⟩ <;> simp at h <;> omega
  subst hms
  have HO1 : Hid (w1.ownsRow (World.drewN w nq).heap.size 3 1 (.slice ps L.length cs) L.length (L.map (Value.int .i64))) := ho1
  have c7 : (w1.setCell ⟨g, a, none⟩ (.map none)).cell? ⟨sb, 7, none⟩ = some tv := hM2.steps
  have f7 : (w1.setCell ⟨g, a, none⟩ (.map none)).frozen? ⟨sb, 7, none⟩ = false := hM2.var.frozen 7
  obtain ⟨pt, mt, ct, rfl⟩ := owns_slice hM2.stp
  have hmt : mt = st.length := by
   rcases hM2.stp.2 with ⟨h, h'⟩ | ⟨_, _, _, h, _⟩ <;> simp at h <;> omega
  subst hmt
  have hownA := World.ownsRow.alloc hM2.stp (.cells #[.int .i64 (a : Int), .slice none 0 0, .int .i64 (b : Int)] 74)
  have hmx : st.length + 1 ≤ maxLen := by unfold maxLen; omega
  have hby : (st.length + 1) * 40 ≤ 140737488355328 := by omega
  have hbs : h0 ≤ ((w1.setCell ⟨g, a, none⟩ (.map none)).alloc (.cells #[.int .i64 (a : Int), .slice none 0 0, .int .i64 (b : Int)] 74)).heap.size := by simp; omega
  have HBK : Hid (Blk 74 ((w1.setCell ⟨g, a, none⟩ (.map none)).alloc (.cells #[.int .i64 (a : Int), .slice none 0 0, .int .i64 (b : Int)] 74)) (w1.setCell ⟨g, a, none⟩ (.map none)).heap.size [.int .i64 (a : Int), .slice none 0 0, .int .i64 (b : Int)]) := heap_alloc_new _ _
  rw [hw2s] at HBK
  have HNEW : Hid (∀ j u, [Value.int .i64 (a : Int), .slice none 0 0, .int .i64 (b : Int)][j]? = some u → ((w1.setCell ⟨g, a, none⟩ (.map none)).alloc (.cells #[.int .i64 (a : Int), .slice none 0 0, .int .i64 (b : Int)] 74)).cell? ((⟨w1.heap.size, 0, none⟩ : Addr).add j) = some u) := cells_three HBK.out
  have HONE : Hid (∀ u ∈ [Value.int .i64 (a : Int), .slice none 0 0, .int .i64 (b : Int)], u.oneCell' = true) := by intro u hu; simp at hu; rcases hu with rfl | rfl | rfl <;> rfl
  have HOA : Hid _ := hownA
  have HSB : Hid (h0 ≤ sb) := hM2.lsb
  have HNE : Hid (∀ b, (Value.slice pt st.length ct).ownBlock = some b → b ≠ sb) := fun b hb e => by have h1 := hM2.tt b hb; have h2 := hM2.tsb; rw [e] at h1; omega
  clear hp hgb hM2 hK1 ho1 hM1 hcg HM hbq hownA HBK hb1
  go_wp2_with (at_builtin; refine wpList_append_own_at _ rfl _ _ 67 rfl h0 74 i0 (.agg #[.int .i64 0, .slice none 0 0, .int .i64 0]) 3 40 Tryz.underlying67 hi hz0 hz1 hz2 (by simp [Value.cells]) (by decide) (.slice pt st.length ct) _ _ rfl HOA.out ⟨w1.heap.size, 0, none⟩ 1 1 [.int .i64 (a : Int), .slice none 0 0, .int .i64 (b : Int)] rfl rfl HNEW.out HONE.out hmx hby hbs ?_)
  intro v6 w6 ho6 hg6 hnil6 hat6
  obtain ⟨a6, m6, c6, rfl⟩ := owns_slice ho6
  generalize hw2 : w1.setCell ⟨g, a, none⟩ (.map none) = w2 at *
  have hbA : Below w2.heap.size w2 (w2.alloc (.cells #[.int .i64 (a : Int), .slice none 0 0, .int .i64 (b : Int)] 74)) := (Below.refl _ _).alloc (Nat.le_refl _) _
  obtain ⟨tag6, hM6, hk6⟩ := HM2.out.push (s := ((a : Int), .slice none 0 0, [], (b : Int))) hbA ho6 hg6 (by rw [World.size_alloc, hw2s]; exact hat6) ⟨rfl, .inl ⟨rfl, rfl⟩⟩ (fun b hb => by cases hb)
  have c67 : w6.cell? ⟨sb, 7, none⟩ = some (.slice pt st.length ct) := hg6.cell (cell_keepK hbA c7) (fun e => HNE.out sb e.symm rfl)
  have f67 : w6.frozen? ⟨sb, 7, none⟩ = false := ((HM2.out.var.go hbA).grown hg6 (fun e => HNE.out sb e.symm rfl)).frozen 7
  have HB7 : Hid (Below h0 w (w6.setCell ⟨sb, 7, none⟩ (.slice a6 m6 c6))) := ((HB2.out.trans (hbA.mono (Nat.le_trans hh HB2.out.size))).grown hg6 hbs (fun q hq => (World.ownsRow.lt HOA.out q hq).1)).setCell (p := ⟨sb, 7, none⟩) HSB.out _
  have HX7 : Hid (SM h0 sb g (bs.set a none) (N.set a none) fs (.slice a6 m6 c6) (st ++ [((a : Int), .slice none 0 0, [], (b : Int))]) tag6 (w6.setCell ⟨sb, 7, none⟩ (.slice a6 m6 c6))) := hM6
  have HK7 : Hid (SvK (.slice ps L.length cs) tag6 w1 (w6.setCell ⟨sb, 7, none⟩ (.slice a6 m6 c6))) := fun b hb => by
   obtain ⟨h1, h2, h3⟩ := HK1.out b hb
   obtain ⟨h4, h5⟩ := hk6 b h1 h2
   have h6 := HB7.out.size
   have h7 := hg6.size
   have h8 := hbA.size
   refine ⟨?_, h4, h5.trans h3⟩
   rw [World.size_setCell]
   omega
  clear hw2 hbA ho6 hg6 hnil6 hat6 hM6 HM2 HK1 HNEW HONE HOA HNE hbs hmx hby c7 f7 c0 hzc fg hw2s hk6
  go_wp2_with fail
  generalize w6.setCell ⟨sb, 7, none⟩ (.slice a6 m6 c6) = w7 at *
  clear c67 f67
  have hLN : L.length ≤ N.length := by have h1 := HLN.out a Sa HSA.out; have h2 := HP.out.length_eq; omega
  have HLD : Hid (L.Nodup ∧ (b : Int) ∉ L) := ⟨HP.out.nodup_iff.2 HSN.out.1, fun h => HSN.out.2 (HP.out.mem_iff.1 h)⟩
  have HLU : Hid (∀ u ∈ L, ∃ j : Nat, u = (j : Int) ∧ j ≠ a ∧ ∃ T, N[j]? = some (some T)) := fun u hu => HNB.out u (HP.out.mem_iff.1 hu)
  have HNS : Hid (∀ j : Nat, j ≠ a → (N.set a none)[j]? = N[j]?) := fun j h => List.getElem?_set_ne (Ne.symm h)
  clear HNB HSN
  go_loopw [51] (fun iv wr => ∃ i : Nat, i ≤ L.length ∧ iv = .int .i64 i ∧ (∃ (bsr : List (Option Nat)) (fsr : List (Value × List Int)) (tvr : Value) (tagr : Nat → Nat), fsr.map Prod.snd = ((L.take i).foldl (mrg1 (a : Int) (b : Int)) (N.set a none, fs.map Prod.snd)).2 ∧ SM h0 sb g bsr ((L.take i).foldl (mrg1 (a : Int) (b : Int)) (N.set a none, fs.map Prod.snd)).1 fsr tvr (st ++ [((a : Int), .slice none 0 0, [], (b : Int))]) tagr wr ∧ SvK (.slice ps L.length cs) tagr w1 wr) ∧ Below h0 w wr) (fun iv _ => L.length - (intOf iv).toNat)
  case atStart => exact ⟨0, Nat.zero_le _, rfl, ⟨_, fs, _, _, rfl, HX7.out, HK7.out⟩, HB7.out⟩
  case round =>
   clear HX7 HK7 HB7
   obtain ⟨i, hi', rfl, ⟨bsr, fsr, tvr, tagr, hfr, hMr, hKr⟩, hbr⟩ := hrel
   have hbt : (b : Int) ∉ L.take i := fun h => HLD.out.2 (List.mem_of_mem_take h)
   obtain ⟨hall, _, _⟩ := mrgF_all (a : Int) b (L.take i) (N.set a none, fs.map Prod.snd) (HLD.out.1.sublist (List.take_sublist i L)) HF.out.1 hbt (fun u hu => by
    obtain ⟨j, h1, h2, T, h3⟩ := HLU.out u (List.mem_of_mem_take hu)
    exact ⟨j, T, h1, (HNS.out j h2).trans h3⟩) ⟨Sb, (HNS.out b (Ne.symm hab)).trans HSB'.out⟩
   have hqb : ((L.take i).foldl (mrg1 (a : Int) (b : Int)) (N.set a none, fs.map Prod.snd)).1[b]? = some (some ((L.take i).foldl insS Sb)) := by
    rw [hall b, if_neg hbt, if_pos rfl]
    show ((N.set a none)[b]?).map _ = _
    rw [HNS.out b (Ne.symm hab), HSB'.out]
    rfl
   have hTBl : ((L.take i).foldl insS Sb).length ≤ N.length + N.length := by
    have h1 := insF_len (L.take i) Sb
    have h2 := HLN.out b Sb HSB'.out
    rw [List.length_take] at h1
    omega
   have hFr := mrgF_fv (a : Int) (b : Int) (n := N.length) (L.take i) (N.set a none, fs.map Prod.snd) (fun u hu => by
    obtain ⟨j', e, _, T', hT'⟩ := HLU.out u (List.mem_of_mem_take hu)
    exact ⟨j', e, (List.getElem?_eq_some_iff.1 hT').1⟩) HF.out
   have hqlen := mrgF_len (a : Int) (b : Int) (L.take i) (N.set a none, fs.map Prod.snd)
   dsimp only at hqlen hFr
   rw [List.length_set] at hqlen
   by_cases hlt : i < L.length
   ·have hil : (i : Int) < (L.length : Int) := by omega
    obtain ⟨j, hj, hja, T, hT⟩ := HLU.out L[i] (List.getElem_mem hlt)
    have hjN : j < N.length := (List.getElem?_eq_some_iff.1 hT).1
    have hjb : j ≠ b := fun e => HLD.out.2 (by rw [← e, ← hj]; exact List.getElem_mem hlt)
    have hjt : (j : Int) ∉ L.take i := fun h => by
     obtain ⟨k, hk, e⟩ := List.mem_iff_getElem.1 h
     rw [List.length_take] at hk
     rw [List.getElem_take, ← hj] at e
     have := (List.getElem_inj HLD.out.1).1 e
     omega
    have hqj : ((L.take i).foldl (mrg1 (a : Int) (b : Int)) (N.set a none, fs.map Prod.snd)).1[j]? = some (some T) := by
     rw [hall j, if_neg hjt, if_neg hjb]
     exact (HNS.out j hja).trans hT
    have hTl := HLN.out j T hT
    have HQ : Hid ((L.take (i + 1)).foldl (mrg1 (a : Int) (b : Int)) (N.set a none, fs.map Prod.snd) = mrg1 (a : Int) (b : Int) ((L.take i).foldl (mrg1 (a : Int) (b : Int)) (N.set a none, fs.map Prod.snd)) (j : Int)) := by unfold Hid; rw [mrgF_take _ _ _ _ hlt, hj]
    clear hall hbt hjt
    generalize (L.take i).foldl (mrg1 (a : Int) (b : Int)) (N.set a none, fs.map Prod.snd) = q at *
    generalize (L.take i).foldl insS Sb = TB at *
    obtain ⟨blk, rfl⟩ : ∃ blk, ps = some ⟨blk, 0, none⟩ := by
     rcases HO1.out.2 with ⟨_, h⟩ | ⟨blk, _, _, h, _⟩
     ·omega
     ·simp at h; exact ⟨blk, h.1⟩
    have cu : wr.cell? ⟨blk, i, none⟩ = some (.int .i64 (j : Int)) := by
     rw [World.cell?_of_block (a := ⟨blk, i, none⟩) (hKr blk rfl).2.2, World.ownsRow.cellAt HO1.out i (by omega), List.getElem?_map, List.getElem?_eq_getElem hlt, hj]
     rfl
    have hjw : (Lit.int .i64 (j : Int)).wf = true := wf_nat (by omega)
    have hjI : (j : Int) < (N.length : Int) := by omega
    obtain ⟨bj, hbj, hMj, hcj, hjl⟩ := hMr.nm.cell hqj
    have c0 := hMr.row
    rw [hqlen] at c0
    obtain ⟨w8, hrd, hM8, ht8⟩ := hMj.drop haw 0
    have hSM8 := hMr.turn hbj ht8 hM8
    have c08 := hSM8.row
    rw [List.length_set, hqlen] at c08
    obtain ⟨bj', hbj', hMj8, hcj8, _⟩ := hSM8.nm.cell (k := j) (List.getElem?_set_self hjl)
    rw [hbj] at hbj'
    simp only [Option.some.injEq] at hbj'
    subst hbj'
    have hTe : (T.erase (a : Int)).length ≤ T.length := List.length_erase_le
    obtain ⟨w9, hrs9, hM9, ht9⟩ := hMj8.store (by unfold maxLen; omega) hbw
    have hSM9 : SM h0 sb g bsr (q.1.set j (some (insS (T.erase (a : Int)) (b : Int)))) fsr tvr (st ++ [((a : Int), .slice none 0 0, [], (b : Int))]) tagr w9 := by
     have h1 := hSM8.turn hbj ht9 hM9
     rw [List.set_set] at h1
     exact h1
    have c09 := hSM9.row
    rw [List.length_set, hqlen] at c09
    have hq9 : (q.1.set j (some (insS (T.erase (a : Int)) (b : Int))))[b]? = some (some TB) := by rw [List.getElem?_set_ne hjb]; exact hqb
    obtain ⟨bbk, hbbk, hMb9, hcb9, hbl9⟩ := hSM9.nm.cell hq9
    obtain ⟨w10, hrs10, hM10, ht10⟩ := hMb9.store (by unfold maxLen; omega) hjw
    have hSM10 : SM h0 sb g bsr ((q.1.set j (some (insS (T.erase (a : Int)) (b : Int)))).set b (some (insS TB (j : Int)))) fsr tvr (st ++ [((a : Int), .slice none 0 0, [], (b : Int))]) tagr w10 := hSM9.turn hbbk ht10 hM10
    have hK10 : SvK (.slice (some ⟨blk, 0, none⟩) L.length cs) tagr w1 w10 := fun k hk => by
     obtain ⟨h1, h2, h3⟩ := hKr k hk
     have g1 := hMr.tm j bj hbj
     have g2 := hSM9.tm b bbk hbbk
     refine ⟨by rw [turned_size ht10, turned_size ht9, turned_size ht8]; exact h1, h2, ?_⟩
     rw [turned_other ht10 (fun e => by rw [e, g2] at h2; omega), turned_other ht9 (fun e => by rw [e, g1] at h2; omega), turned_other ht8 (fun e => by rw [e, g1] at h2; omega)]
     exact h3
    have hb10 : Below h0 w w10 := turned_below (turned_below (turned_below hbr ht8 (hMr.lm j bj hbj)) ht9 (hMr.lm j bj hbj)) ht10 (hSM9.lm b bbk hbbk)
    have hfl := file_sm h0 sb j g bsr _ fsr tvr _ tagr (insS (T.erase (a : Int)) (b : Int)) (by rw [List.getElem?_set_ne (Ne.symm hjb), List.getElem?_set_self hjl]) w10 hSM10 (Nat.le_trans hh hb10.size) (fun L' hL' => by rw [hfr] at hL'; have := (hFr.2 L' hL').1; rw [List.length_take] at this; omega)
    have HD : Hid (mrg1 (a : Int) (b : Int) q (j : Int) = ((q.1.set j (some (insS (T.erase (a : Int)) (b : Int)))).set b (some (insS TB (j : Int))), fileF q.2 (insS (T.erase (a : Int)) (b : Int)).length (j : Int))) := by
     unfold Hid mrg1 nbN
     simp [hqj, hqb]
    have HB10 : Hid (Below h0 w w10) := hb10
    have HK10 : Hid (SvK (.slice (some ⟨blk, 0, none⟩) L.length cs) tagr w1 w10) := hK10
    have HFR : Hid (fsr.map Prod.snd = q.2) := hfr
    clear hMr hMj hM8 ht8 hSM8 hMj8 hM9 ht9 hSM9 hMb9 hM10 ht10 hSM10 hK10 hb10 hbr hfr hqlen hFr hqj hqb hq9 hT hj hKr hTe hTl hTBl hbl9 hjl hbj hbbk
    go_wp2_with fail
    refine hfl.mono ?_
    clear hfl hrd hrs9 hrs10
    rintro e w11 ⟨rfl, ⟨fs', tag', hfs', hM11, hk11⟩, hb11⟩
    have HX11 : Hid (∃ (bsr : List (Option Nat)) (fsr : List (Value × List Int)) (tvr : Value) (tagr : Nat → Nat), fsr.map Prod.snd = ((L.take (i + 1)).foldl (mrg1 (a : Int) (b : Int)) (N.set a none, fs.map Prod.snd)).2 ∧ SM h0 sb g bsr ((L.take (i + 1)).foldl (mrg1 (a : Int) (b : Int)) (N.set a none, fs.map Prod.snd)).1 fsr tvr (st ++ [((a : Int), .slice none 0 0, [], (b : Int))]) tagr w11 ∧ SvK (.slice (some ⟨blk, 0, none⟩) L.length cs) tagr w1 w11) := by
     unfold Hid
     rw [HQ.out, HD.out]
     refine ⟨_, fs', _, tag', by rw [hfs', HFR.out], hM11, fun k hk => ?_⟩
     obtain ⟨h1, h2, h3⟩ := HK10.out k hk
     obtain ⟨h4, h5⟩ := hk11 k h1 h2
     refine ⟨?_, h4, h5.trans h3⟩
     have h6 : w11.heap[k]? = w10.heap[k]? := h5
     rw [Array.getElem?_eq_getElem h1] at h6
     exact (Array.getElem?_eq_some_iff.1 h6).1
    have HB11 : Hid (Below h0 w w11) := HB10.out.trans hb11
    clear hfs' hM11 hk11 hb11 c0 c08 c09 cu hcj hcj8 hcb9
    go_wp2
    exact ⟨⟨i + 1, hlt, by go_num, HX11.out, HB11.out⟩, by simp [intOf]; omega⟩
   ·have hil : ¬ (i : Int) < (L.length : Int) := by omega
    have hi2 : i = L.length := by omega
    subst hi2
    rw [List.take_length] at *
    have HQ : Hid (mrgF (a : Int) (b : Int) L N (fs.map Prod.snd) = L.foldl (mrg1 (a : Int) (b : Int)) (N.set a none, fs.map Prod.snd)) := by unfold Hid mrgF; rw [Int.toNat_natCast]
    have HNY : Hid (nbN (L.foldl (mrg1 (a : Int) (b : Int)) (N.set a none, fs.map Prod.snd)).1 (b : Int) = L.foldl insS Sb) := by
     unfold Hid nbN
     rw [Int.toNat_natCast, List.getD_eq_getElem?_getD, hqb]
     rfl
    have hX : SX h0 sb (L.foldl (mrg1 (a : Int) (b : Int)) (N.set a none, fs.map Prod.snd)).1 (L.foldl (mrg1 (a : Int) (b : Int)) (N.set a none, fs.map Prod.snd)).2 (st ++ [((a : Int), .slice none 0 0, [], (b : Int))]) wr := ⟨g, bsr, fsr, tvr, tagr, hfr, hMr⟩
    have hfl := file_any h0 sb b _ _ _ _ hqb wr hX (Nat.le_trans hh hbr.size) (fun L' hL' => by have := (hFr.2 L' hL').1; omega)
    have HB : Hid (Below h0 w wr) := hbr
    clear hMr hKr hbr hfr hqlen hFr hqb hTBl hall hbt hX
    go_wp2_with fail
    refine hfl.mono ?_
    clear hfl
    rintro e w9 ⟨rfl, hX9, hb9⟩
    have HX9 : Hid (SX h0 sb (mrgQ (a : Int) (b : Int) L N (fs.map Prod.snd)).1 (mrgQ (a : Int) (b : Int) L N (fs.map Prod.snd)).2 (st ++ [((a : Int), .slice none 0 0, [], (b : Int))]) w9) := by
     unfold Hid mrgQ
     rw [HQ.out, HNY.out]
     exact hX9
    have HB9 : Hid (Below h0 w w9) := HB.out.trans hb9
    clear hX9 hb9
    go_wp2
    refine bodyPost_end (results_none rfl _ _ _) rfl ?_
    exact ⟨rfl, L, HP.out, HX9.out, HB9.out⟩
end Go.Proofs.YtjpkojmjiaoifaaGreat
