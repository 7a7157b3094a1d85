/-
  The contracts of levels.Pieces, and of the reference's Asked, Kept and Pieces.
-/
import Derived.Test.YtdgecflljgnobaaXLvOf
import Derived.Test.YtdgecflljgnobaaXLvDel
import Derived.Test.YtdgecflljgnobaaZBV
import Derived.Test.YtdgecflljgnobaaXLvOnly
import Derived.Test.YtdgecflljgnobaaXPRefOnly
import Derived.Test.YtdgecflljgnobaaXPRefComp
namespace Go.Proofs.Ytdgecflljgnobaa
open Go Go.Proofs Go.RowKit

theorem root_labelsL {N : Nat} {l : List Ed} (hR : RightG (N : Int) l) : Labels (walkW N l).root := by
  rw [walk_root hR]
  intro x hx
  obtain ⟨v, hv, rfl⟩ := List.getElem_of_mem hx
  have hvN : v < N := by rw [labAt_len] at hv; exact hv
  obtain ⟨y, hy, hyN, _⟩ := lab_least (right_ends hR) hvN
  have e : (labAt N l N).getD v 0 = (labAt N l N)[v] := by rw [List.getD_eq_getElem?_getD, List.getElem?_eq_getElem hv]; rfl
  rw [← e, hy, labAt_len]
  omega
/-- The first vertex of a component. -/
theorem rc_head {L : List Int} {N : Nat} : ∀ {j : Nat}, j ≤ N → ∀ x ∈ rcAt L N j, ∃ (h : 0 < x.length) (v : Nat), x[0] = (v : Int) ∧ v < N ∧ x = memAt L v N ∧ L.getD v 0 = (v : Int)
  | 0, _, x, hx => by simp [rcAt] at hx
  | j + 1, hj, x, hx => by
    unfold rcAt at hx
    split at hx
    · rename_i he
      rcases List.mem_append.1 hx with h | h
      · exact rc_head (by omega) x h
      · rw [List.mem_singleton.1 h]
        have hm : (j : Int) ∈ memAt L j N := by
          unfold memAt
          refine List.mem_map.2 ⟨j, List.mem_filter.2 ⟨List.mem_range.2 (by omega), ?_⟩, rfl⟩
          rw [he]; simp
        have hpos : 0 < (memAt L j N).length := List.length_pos_of_mem hm
        refine ⟨hpos, j, ?_, by omega, rfl, he⟩
        have hsp : (List.range N).filter (fun x => decide (j ≤ x) && decide (L.getD x 0 = (j : Int))) = j :: ((List.range' (j + 1) (N - (j + 1))).filter fun x => decide (j ≤ x) && decide (L.getD x 0 = (j : Int))) := by
          have h1 : List.range N = List.range j ++ (j :: List.range' (j + 1) (N - (j + 1))) := by
            rw [List.range_eq_range', List.range_eq_range', ← List.range'_succ, show N - (j + 1) + 1 = N - j by omega]
            have := List.range'_append_1 (s := 0) (m := j) (n := N - j)
            rw [Nat.zero_add] at this
            rw [this, show j + (N - j) = N by omega]
          rw [h1, List.filter_append, List.filter_cons]
          have h2 : (List.range j).filter (fun x => decide (j ≤ x) && decide (L.getD x 0 = (j : Int))) = [] := by
            rw [List.filter_eq_nil_iff]
            intro y hy
            have := List.mem_range.1 hy
            simp; omega
          rw [h2, if_pos (by rw [he]; simp)]
          rfl
        unfold memAt
        simp only [hsp, List.map_cons, List.getElem_cons_zero]
    · exact rc_head (by omega) x hx
theorem headD_of {x : List Int} {v : Nat} (h : 0 < x.length) (hv : x[0] = (v : Int)) : x.headD 0 = (v : Int) := by
  cases x with
  | nil => simp at h
  | cons a x => simpa using hv
theorem Grp.base {a h0 : Nat} {lv : Value} {svs : List Value} {pre : List (List Int)} {W : World} (h : Grp h0 lv svs pre W) (ha : a ≤ h0) : Grp a lv svs pre W :=
  ⟨h.len, owns_base h.own ha, fun k sv xs h1 h2 => owns_base (h.inn k sv xs h1 h2) ha, h.apart, h.outer⟩
/-- The components of what is kept, without those of a vertex that goes. -/
def piecesL (N : Nat) (l : List Ed) (kp : List Bool) : List (List Int) := (rcAt (labAt N (keepL l (onlyP l kp) l.length) N) N N).filter fun x => kp.getD (x.headD 0).toNat false

set_option maxRecDepth 100000 in
set_option maxHeartbeats 2000000 in
theorem pieces1_any (kp : List Bool) (x : List Int) (v : Nat) (h0 : 0 < x.length) (hx : x[0] = (v : Int)) (hv : v < kp.length) (kb : Nat) (sk sx : Value) (m n : Nat) (W : World) (hk : W.cell? ⟨kb, 0, none⟩ = some sk) (hK : Bools m W sk kp) (hI : Ints n W sx x) :
    Calls Try.prog 26 #[sx, .pointer (some ⟨kb, 0, none⟩)] W fun e w' => e = .returned (.bool (!kp.getD (x.headD 0).toNat false)) ∧ Below W.heap.size W w' := by
  have hmix := mixed
  have HE : Hid (kp.getD (x.headD 0).toNat false = kp[v]) := by
    show _ = _
    rw [headD_of h0 hx, Int.toNat_natCast]; simp [hv]
  obtain ⟨pk, ck, rfl⟩ := hK.len
  obtain ⟨px, cx, rfl⟩ := hI.len
  obtain ⟨b1, o1, rfl, -, hc1, hq1⟩ := hK.open hv
  obtain ⟨b2, o2, rfl, -, hc2, hq2⟩ := hI.open h0
  have c1 := hq1 W (Below.refl _ _) v hv
  have c2 := hq2 W (Below.refl _ _) 0 h0
  rw [hx, Nat.add_zero] at c2
  rw [HE.out]
  generalize kp[v] = b at *
  have hvl : (v : Int) < (kp.length : Int) := by omega
  have hxl : (0 : Int) < (x.length : Int) := by omega
  clear hq1 hq2 hK hI hx
  generalize x.length = xl at *
  generalize kp.length = kl at *
  go_enter Try.func26, Try.ntmps26
  go_wp2
  go_quiet (fail)
  go_wp2
  go_ret
  exact ⟨rfl, below_drewN (Below.refl _ _) nq⟩

set_option maxRecDepth 100000 in
set_option maxHeartbeats 4000000 in
theorem pieces_any (N : Nat) (l : List Ed) (hR : RightG (N : Int) l) (k s : Int) (hk1 : 1 ≤ k) (hk8 : k ≤ 8) (hs0 : 0 ≤ s) (hsk : s ≤ k) (sv : Value) (w : World) (hl : Edges w.heap.size w sv l) :
    Calls Try.prog 14 #[.agg #[.int .i64 (N : Int), sv], .int .i64 k, .int .i64 s] w fun r w' => ∃ (rv : Value) (D : List Int), r = .returned (.tuple #[rv, .int .i64 0]) ∧ Lsts w'.heap.size w' rv (piecesL N l (staysL D k s)) ∧ Lev N l D ∧ Below w.heap.size w w' := by
  obtain ⟨p, c, rfl⟩ := hl.len
  have hn1 := hR.n1
  obtain ⟨w1, hw1⟩ : ∃ W, (w.alloc (.cells #[.int .i64 (N : Int), .slice p l.length c] 24)) = W := ⟨_, rfl⟩
  have hb1 : Below w.heap.size w w1 := by rw [← hw1]; exact (Below.refl _ _).alloc (Nat.le_refl _) _
  have hX1 : Blk 24 w1 w.heap.size [.int .i64 (N : Int), .slice p l.length c] := by rw [← hw1]; exact heap_alloc_new w _
  have x0 := hX1.cell (j := 0) rfl
  have x1 := hX1.cell (j := 1) rfl
  have hkp := kept_any N l hR k s hk1 hk8 hs0 hsk _ w1 (hl.go hb1)
  have eg : ∀ args w, (callFunc 26 args).run Try.prog w = .ok (.enter 26 args) w := enters_of Try.func26 (by kernel_rfl) rfl
  go_enter Try.func14, Try.ntmps14
  go_wp2_with fail
  refine hkp.mono ?_
  clear hkp x0 x1
  rintro e w2 ⟨gk, D, rfl, hgk, hB2, hD, hb2⟩
  have hX2 := hX1.go hb2
  have hlk := hB2.lt
  have hdl : (staysL D k s).length = N := by rw [staysL_len, hD.len]
  obtain ⟨w3, hw3⟩ : ∃ W, (w2.alloc (.cells #[.slice none 0 0] 35)).setCell ⟨w2.heap.size, 0, none⟩ (.slice (some ⟨gk, 0, none⟩) N N) = W := ⟨_, rfl⟩
  have hb3 : Below w2.heap.size w2 w3 := by rw [← hw3]; exact ((Below.refl _ _).alloc (Nat.le_refl _) _).setCell (p := ⟨w2.heap.size, 0, none⟩) (Nat.le_refl _) _
  have hK3 : Blk 35 w3 w2.heap.size [.slice (some ⟨gk, 0, none⟩) N N] := by rw [← hw3]; exact Blk.set (heap_alloc_new w2 (.cells #[.slice none 0 0] 35)) 0 _
  have f3 : (w2.alloc (.cells #[.slice none 0 0] 35)).frozen? ⟨w2.heap.size, 0, none⟩ = false := Blk.frozen (t := 35) (vs := [.slice none 0 0]) (heap_alloc_new w2 (.cells #[.slice none 0 0] 35)) 0
  have hX3 := hX2.go hb3
  have hB3 := hB2.go hb3
  have hbw3 : Below w.heap.size w w3 := hb1.trans ((hb2.trans (hb3.mono hb2.size)).mono hb1.size)
  have x0 := hX3.cell (j := 0) rfl
  have x1 := hX3.cell (j := 1) rfl
  have k0 := hK3.cell (j := 0) rfl
  have hK : Bools w3.heap.size w3 (.slice (some ⟨gk, 0, none⟩) N N) (staysL D k s) := by
    have := hB3.bools
    rwa [hdl] at this
  have hon := only_any (N : Int) l (staysL D k s) (.slice p l.length c) (.slice (some ⟨gk, 0, none⟩) N N) w3 (hl.go hbw3) hK
  have hsz3 : w2.heap.size < w3.heap.size := hK3.lt
  have HX : Hid (Blk 35 w3 w2.heap.size [.slice (some ⟨gk, 0, none⟩) N N]) := hK3
  have HK : Hid (Bools w3.heap.size w3 (.slice (some ⟨gk, 0, none⟩) N N) (staysL D k s)) := hK
  have HBW : Hid (Below w.heap.size w w3) := hbw3
  clear hb1 hX1 hb2 hX2 hB2 hX3 hB3 hK3 hK hbw3 hb3 hw1
  go_wp2_with fail
  refine hon.mono ?_
  clear hon x0 x1 k0 f3
  rintro e w4 ⟨gv, rfl, hE4, hb4⟩
  have hsl : stayL (N : Int) l (onlyP l (staysL D k s)) = keepL l (onlyP l (staysL D k s)) l.length := if_pos (right_iff.2 hR)
  have hsn : stayN (N : Int) l = (N : Int) := if_pos (right_iff.2 hR)
  rw [hsl] at hE4
  rw [hsn]
  have hR' := keep_rightL hR (onlyP l (staysL D k s))
  have hco := components_at N _ hR' (root_labelsL hR') (by rw [walk_root hR', labAt_len]) gv w4 hE4
  rw [walk_components hR'] at hco
  clear hsl hsn
  go_wp2_with fail
  refine hco.mono ?_
  clear hco
  rintro e w5 ⟨lv, svs, h0, rfl, hG0, hb5, hh0⟩
  have hG := hG0.base hh0
  obtain ⟨al, ml, cl, rfl⟩ := owns_slice hG.own
  have hlen5 : (rcAt (labAt N (keepL l (onlyP l (staysL D k s)) l.length) N) N N).length ≤ 4194304 := by
    have := rcAt_len (labAt N (keepL l (onlyP l (staysL D k s)) l.length) N) N N
    omega
  have hsvl := hG.len
  have hdel := deleteH_any 26 #[.pointer (some ⟨w2.heap.size, 0, none⟩)] (fun x => !(staysL D k s).getD (x.headD 0).toNat false) eg w4.heap.size (.slice al ml cl) svs _ hlen5 w5 hG hb5.size (fun x hx sx W hb hI => by
    obtain ⟨h1, v, h2, h3, -, -⟩ := rc_head (Nat.le_refl _) x hx
    have hb3W : Below w3.heap.size w3 W := (hb4.trans (hb5.mono hb4.size)).trans (hb.mono hb4.size)
    exact pieces1_any (staysL D k s) x v h1 h2 (by omega) w2.heap.size _ sx w3.heap.size W.heap.size W ((HX.out.go hb3W).cell (j := 0) rfl) (HK.out.below hb3W) hI)
  clear hG hG0 hE4
  go_wp2_with fail
  refine hdel.mono ?_
  clear hdel
  rintro e w6 ⟨rv, rfl, hL6, hb6⟩
  obtain ⟨pr, cr, rfl⟩ := hL6.len
  have HL : Hid (Lsts w6.heap.size w6 (.slice pr _ cr) _) := hL6
  have HB6 : Hid (Below w.heap.size w w6) := HBW.out.trans (((hb4.trans (hb5.mono hb4.size)).mono HBW.out.size).trans (hb6.mono (by have := HBW.out.size; have := hb4.size; omega)))
  clear hL6 hb6
  go_wp2
  go_ret2
  refine ⟨_, D, rfl, ?_, hD, HB6.out⟩
  have h := HL.out
  unfold piecesL
  simpa using h
end Go.Proofs.Ytdgecflljgnobaa
