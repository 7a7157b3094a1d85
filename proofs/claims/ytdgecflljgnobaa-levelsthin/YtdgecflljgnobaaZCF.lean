/-
  PROVED: filigreelaw18.LevelsThin returns true for any arguments, and each argument reads afterwards as it read before. No condition.
-/
import Derived.Test.YtdgecflljgnobaaXLvAlive
import Derived.Test.YtdgecflljgnobaaXLvPcs
import Derived.Test.YtdgecflljgnobaaXPGathMath
import Derived.Test.YtdgecflljgnobaaZAE
namespace Go.Proofs.Ytdgecflljgnobaa
open Go Go.Proofs Go.RowKit

theorem cell_keepL {A B : World} (hb : Below A.heap.size A B) {a : Addr} {v : Value} (h : A.cell? a = some v) : B.cell? a = some v := (hb.cell (World.block_lt_of_cell? A a h)).trans h

set_option maxRecDepth 100000 in
set_option maxHeartbeats 4000000 in
theorem of_law (n : Int) (l : List Ed) (sv : Value) (w : World) (hl : Edges w.heap.size w sv l) :
    Calls Try.prog 3 #[.agg #[.int .i64 n, sv]] w fun e w' => e = .returned (.bool true) ∧ Below w.heap.size w w' := by
  have hg1 : Grew w (w.alloc (.cells #[.int .i64 n, sv] 24)) := (Grew.refl w).alloc _
  have hl1 := hl.go hg1.below
  obtain ⟨p, c, rfl⟩ := hl.len
  have hlt := light_any n l 40 (by decide) (by decide) (.slice p l.length c) _ hl1
  go_enter Try.func3, Try.ntmps3
  go_wp2_with fail
  refine hlt.mono ?_
  rintro e w2 ⟨rfl, hg2⟩
  obtain ⟨q0, q1⟩ := box2 _ hg2
  have hbw2 := (hg1.trans hg2).below
  have hl2 := hl.go hbw2
  clear hlt hl1 hg1 hg2
  cases hL : lightB n l 40 with
  | false =>
    go_wp2_with fail
    refine (alive_any w2).mono ?_
    rintro e w3 ⟨rfl, hb3⟩
    have HB : Hid _ := hbw2.trans (hb3.mono hbw2.size)
    clear hb3 hbw2 hl2
    go_wp2
    go_ret
    exact ⟨rfl, HB.out⟩
  | true =>
    have hlb := lightB_true hL
    clear hL
    by_cases hk : rightK n l = 0
    · have hR := right_iff.1 hk
      obtain ⟨N, rfl⟩ : ∃ N : Nat, n = (N : Int) := ⟨n.toNat, by have := hR.n0; omega⟩
      have hof := of_any N l hR (.slice p l.length c) w2 hl2
      go_wp2_with fail
      refine hof.mono ?_
      rintro e w3 ⟨g, L, rfl, hg, hBL, hLev, hb3⟩
      have r0 := cell_keepL hb3 q0
      have r1 := cell_keepL hb3 q1
      have hbw3 := hbw2.trans (hb3.mono hbw2.size)
      have hl3 := hl.go hbw3
      clear hof hb3 q0 q1 hbw2 hl2
      have hrr := refRight_any (N : Int) l (.slice p l.length c) w3 hl3
      rw [hk] at hrr
      clear hk
      go_wp2_with fail
      refine hrr.mono ?_
      rintro e w4 ⟨rfl, hg4⟩
      have s0 := cell_keepL hg4.below r0
      have s1 := cell_keepL hg4.below r1
      have hbw4 := hbw3.trans (hg4.below.mono hbw3.size)
      have hl4 := hl.go hbw4
      have hBL4 := hBL.go hg4.below
      clear hrr hg4 r0 r1 hbw3 hl3 hBL
      have hro := refOf_any N l hR L hLev (.slice p l.length c) w4 hl4
      go_wp2_with fail
      refine hro.mono ?_
      rintro e w5 ⟨g2, rfl, hB2, hg2, hb5⟩
      have hLl := hLev.len
      have hI1 : Ints w5.heap.size w5 (.slice (some ⟨g, 0, none⟩) N N) L := by
        have := (hBL4.go hb5).ints
        rwa [hLl] at this
      have hI2 : Ints w5.heap.size w5 (.slice (some ⟨g2, 0, none⟩) N N) L := by
        have := hB2.ints
        rwa [hLl] at this
      have hbw5 := hbw4.trans (hb5.mono hbw4.size)
      have hri := refInts_any L L (by omega) _ _ w5 hI1 hI2
      clear hro hb5 s0 s1 hbw4 hl4 hBL4 hB2 hI1 hI2
      go_wp2_with fail
      refine hri.mono ?_
      rintro e w6 ⟨rfl, hg6⟩
      have hbw6 := hbw5.trans (hg6.below.mono hbw5.size)
      clear hri hg6 hbw5
      simp only [decide_true]
      go_wp2_with fail
      refine (alive_any w6).mono ?_
      rintro e w7 ⟨rfl, hb7⟩
      have HB : Hid _ := hbw6.trans (hb7.mono hbw6.size)
      clear hb7 hbw6
      go_wp2
      go_ret
      exact ⟨rfl, HB.out⟩
    · have hof := of_bad n l hk (.slice p l.length c) w2 hl2
      go_wp2_with fail
      refine hof.mono ?_
      rintro e w3 ⟨rfl, hb3⟩
      have r0 := cell_keepL hb3 q0
      have r1 := cell_keepL hb3 q1
      have hbw3 := hbw2.trans (hb3.mono hbw2.size)
      have hl3 := hl.go hbw3
      clear hof hb3 q0 q1 hbw2 hl2
      have hrr := refRight_any n l (.slice p l.length c) w3 hl3
      have hk' : (rightK n l != 0) = true := by simpa using hk
      generalize rightK n l = q at *
      go_wp2_with fail
      refine hrr.mono ?_
      rintro e w4 ⟨rfl, hg4⟩
      have hbw4 := hbw3.trans (hg4.below.mono hbw3.size)
      clear hrr hg4 r0 r1 hbw3 hl3
      go_wp2_with fail
      refine (alive_any w4).mono ?_
      rintro e w5 ⟨rfl, hb5⟩
      have HB : Hid _ := hbw4.trans (hb5.mono hbw4.size)
      clear hb5 hbw4
      go_wp2
      go_ret
      exact ⟨rfl, HB.out⟩
end Go.Proofs.Ytdgecflljgnobaa

namespace Go.Proofs.Ytdgecflljgnobaa
open Go Go.Proofs Go.RowKit

theorem mem_memL {L : List Int} {r N : Nat} {m : Int} : m ∈ memAt L r N ↔ ∃ v : Nat, m = (v : Int) ∧ v < N ∧ r ≤ v ∧ L.getD v 0 = (r : Int) := by
  unfold memAt
  rw [List.mem_map]
  constructor
  · rintro ⟨v, hv, rfl⟩
    obtain ⟨h1, h2⟩ := List.mem_filter.1 hv
    rw [Bool.and_eq_true, decide_eq_true_iff, decide_eq_true_iff] at h2
    exact ⟨v, rfl, List.mem_range.1 h1, h2.1, h2.2⟩
  · rintro ⟨v, rfl, h1, h2, h3⟩
    exact ⟨v, List.mem_filter.2 ⟨List.mem_range.2 h1, by rw [decide_eq_true h2, decide_eq_true h3]; rfl⟩, rfl⟩
theorem memL_nodup (L : List Int) (r N : Nat) : (memAt L r N).Nodup := by
  unfold memAt
  refine List.Pairwise.map _ (fun a b h => ?_) (List.Pairwise.filter _ List.nodup_range)
  exact fun e => h (by exact_mod_cast e)
theorem rc_apart (L : List Int) (N : Nat) : (rcAt L N N).Pairwise fun a b => ∀ m, m ∈ a → m ∉ b := by
  rw [rc_roots]
  refine List.Pairwise.map _ (fun r q h m h1 h2 => ?_) (rootsN_nodup L N)
  obtain ⟨v, rfl, _, _, h3⟩ := mem_memL.1 h1
  obtain ⟨u, h4, _, _, h5⟩ := mem_memL.1 h2
  have : u = v := by omega
  subst this
  rw [h3] at h5
  exact h (by omega)
/-- Pieces, of whatever made them. -/
structure PcI (N : Nat) (l : List Ed) (D : List Int) (k : Int) (P : List (List Int)) : Prop where
  mem : ∀ (i : Nat) (h : i < P.length) (m : Int), m ∈ P[i] → ∃ v : Nat, m = (v : Int) ∧ v < N
  band : ∀ (i : Nat) (h : i < P.length), ∃ A : Int, ∀ v : Nat, (v : Int) ∈ P[i] → A < D.getD v 0 ∧ D.getD v 0 ≤ A + k
  nod : ∀ (i : Nat) (h : i < P.length), P[i].Nodup
  apart : ∀ (i j : Nat) (hi : i < P.length) (hj : j < P.length) (m : Int), m ∈ P[i] → m ∈ P[j] → i = j
  edge : ∀ (i j : Nat) (hi : i < P.length) (hj : j < P.length) (u v : Nat), Adj l u v → (u : Int) ∈ P[i] → (v : Int) ∈ P[j] → i = j
theorem stays_not {D : List Int} {k s : Int} {v : Nat} (hv : v < D.length) (h : (staysL D k s).getD v false = true) : ¬ (k + 1) ∣ (D.getD v 0 - s) := by
  intro hd
  unfold staysL at h
  rw [List.getD_eq_getElem?_getD, List.getElem?_map, List.getElem?_eq_getElem hv] at h
  have h2 : D.getD v 0 = D[v] := by simp [hv]
  rw [← h2] at h
  simp only [Option.map_some, Option.getD_some] at h
  have h3 : Int.tmod (D.getD v 0 - s) (k + 1) = 0 := Int.tmod_eq_zero_of_dvd hd
  rw [h3] at h
  simp at h
theorem pieces_pc {N : Nat} {l : List Ed} (hR : RightG (N : Int) l) {D : List Int} (hD : Lev N l D) {k s : Int} (hk : 1 ≤ k) : PcI N l D k (piecesL N l (staysL D k s)) := by
  have hdl := hD.len
  have hkl : (staysL D k s).length = N := by rw [staysL_len, hdl]
  have hR' := keep_rightL hR (onlyP l (staysL D k s))
  have hE' := right_ends hR'
  have hadj := fun (x y : Nat) => keep_adjL (x := x) (y := y) hR hkl
  obtain ⟨l', hl'⟩ : ∃ l', keepL l (onlyP l (staysL D k s)) l.length = l' := ⟨_, rfl⟩
  have hP : piecesL N l (staysL D k s) = (rcAt (labAt N l' N) N N).filter fun x => (staysL D k s).getD (x.headD 0).toNat false := by rw [← hl']; rfl
  rw [hl'] at hE' hadj
  rw [hP]
  -- what a piece is
  have hpc : ∀ x ∈ (rcAt (labAt N l' N) N N).filter (fun x => (staysL D k s).getD (x.headD 0).toNat false), ∃ r : Nat, r < N ∧ x = memAt (labAt N l' N) r N ∧ (labAt N l' N).getD r 0 = (r : Int) ∧ (staysL D k s).getD r false = true := fun x hx => by
    obtain ⟨h1, h2⟩ := List.mem_filter.1 hx
    obtain ⟨h3, r, h4, h5, h6, h7⟩ := rc_head (Nat.le_refl _) x h1
    rw [headD_of h3 h4, Int.toNat_natCast] at h2
    exact ⟨r, h5, h6, h7, h2⟩
  have hconn : ∀ (r v : Nat), r < N → (labAt N l' N).getD r 0 = (r : Int) → (v : Int) ∈ memAt (labAt N l' N) r N → v < N ∧ Conn l' r v := fun r v hr hrr hv => by
    obtain ⟨u, h1, h2, _, h4⟩ := mem_memL.1 hv
    have : u = v := by omega
    subst this
    exact ⟨h2, (lab_same hE' hr h2).1 (by rw [hrr, h4])⟩
  have hstay : ∀ (r v : Nat), r < N → (staysL D k s).getD r false = true → Conn l' r v → (staysL D k s).getD v false = true := fun r v hr hkr hc =>
    closed_conn (S := fun v => (staysL D k s).getD v false = true) (fun u v ha _ => ((hadj u v).1 ha).2.2) hc hkr
  have hap := (rc_apart (labAt N l' N) N).filter (fun x => (staysL D k s).getD (x.headD 0).toNat false)
  have hapart : ∀ (i j : Nat) (hi : i < ((rcAt (labAt N l' N) N N).filter fun x => (staysL D k s).getD (x.headD 0).toNat false).length) (hj : j < ((rcAt (labAt N l' N) N N).filter fun x => (staysL D k s).getD (x.headD 0).toNat false).length) (m : Int), m ∈ ((rcAt (labAt N l' N) N N).filter fun x => (staysL D k s).getD (x.headD 0).toNat false)[i] → m ∈ ((rcAt (labAt N l' N) N N).filter fun x => (staysL D k s).getD (x.headD 0).toNat false)[j] → i = j := fun i j hi hj m h1 h2 => by
    rcases Nat.lt_trichotomy i j with h | h | h
    · exact absurd h2 (List.pairwise_iff_getElem.1 hap i j hi hj h m h1)
    · exact h
    · exact absurd h1 (List.pairwise_iff_getElem.1 hap j i hj hi h m h2)
  refine ⟨fun i h m hm => ?_, fun i h => ?_, fun i h => ?_, hapart, fun i j hi hj u v ha hu hv => ?_⟩
  · obtain ⟨r, _, h2, _, _⟩ := hpc _ (List.getElem_mem h)
    rw [h2] at hm
    obtain ⟨v, h5, h6, _⟩ := mem_memL.1 hm
    exact ⟨v, h5, h6⟩
  · obtain ⟨r, hr, h2, hrr, hkr⟩ := hpc _ (List.getElem_mem h)
    have hkp : (0 : Int) < k + 1 := by omega
    have e1 := Int.mul_ediv_add_emod (D.getD r 0 - s) (k + 1)
    have e2 := Int.emod_nonneg (D.getD r 0 - s) (show k + 1 ≠ 0 by omega)
    have e3 := Int.emod_lt_of_pos (D.getD r 0 - s) hkp
    obtain ⟨q, hq⟩ : ∃ q, (D.getD r 0 - s) / (k + 1) = q := ⟨_, rfl⟩
    obtain ⟨A, hA⟩ : ∃ A, s + (k + 1) * q = A := ⟨_, rfl⟩
    rw [hq] at e1
    have hne : ∀ v : Nat, v < N → (staysL D k s).getD v false = true → D.getD v 0 ≠ A ∧ D.getD v 0 ≠ A + (k + 1) := fun v hv hk1 => by
      have h3 := stays_not (by omega) hk1
      refine ⟨fun e => h3 ⟨q, by omega⟩, fun e => h3 ⟨q + 1, ?_⟩⟩
      rw [Int.mul_add, Int.mul_one]
      omega
    have hr0 := hne r hr hkr
    have hSr : (staysL D k s).getD r false = true ∧ A < D.getD r 0 ∧ D.getD r 0 ≤ A + k := ⟨hkr, by omega, by omega⟩
    refine ⟨A, fun v hv => ?_⟩
    rw [h2] at hv
    obtain ⟨hvN, hc⟩ := hconn r v hr hrr hv
    have h4 := closed_conn (S := fun v => (staysL D k s).getD v false = true ∧ A < D.getD v 0 ∧ D.getD v 0 ≤ A + k) (fun u v ha hu => by
      obtain ⟨h5, h6, h7⟩ := (hadj u v).1 ha
      have h8 := hD.edge u v h5
      have h9 := hD.edge v u h5.symm
      have h10 := hne v (adj_lt hR h5).2 h7
      exact ⟨h7, by omega, by omega⟩) hc hSr
    exact h4.2
  · obtain ⟨r, _, h2, _, _⟩ := hpc _ (List.getElem_mem h)
    rw [h2]
    exact memL_nodup _ _ _
  · obtain ⟨r, hr, h2, hrr, hkr⟩ := hpc _ (List.getElem_mem hi)
    obtain ⟨q, hq, h3, hqq, hkq⟩ := hpc _ (List.getElem_mem hj)
    have hu' := hu
    have hv' := hv
    rw [h2] at hu'
    rw [h3] at hv'
    obtain ⟨huN, hcu⟩ := hconn r u hr hrr hu'
    obtain ⟨hvN, hcv⟩ := hconn q v hq hqq hv'
    have hku := hstay r u hr hkr hcu
    have hkv := hstay q v hq hkq hcv
    have ha' : Adj l' u v := (hadj u v).2 ⟨ha, hku, hkv⟩
    obtain ⟨x1, e1, _, _, e4⟩ := mem_memL.1 hu'
    obtain ⟨x2, f1, _, _, f4⟩ := mem_memL.1 hv'
    have hx1 : x1 = u := by omega
    have hx2 : x2 = v := by omega
    subst hx1
    subst hx2
    have hs := (lab_same hE' huN hvN).2 (.one ha')
    have hrq : r = q := by rw [e4, f4] at hs; omega
    subst hrq
    refine hapart i j hi hj x2 ?_ hv
    rw [h2]
    exact hv'

/-- The numbers that vertices have got, y vertices of the piece x gone through. -/
def OI (N : Nat) (P : List (List Int)) (x y : Nat) (O : List Int) : Prop := O.length = N ∧ ∀ v, v < N → O.getD v 0 = 0 ∨ ∃ (i : Nat) (h : i < P.length), O.getD v 0 = (i : Int) + 1 ∧ (v : Int) ∈ P[i] ∧ (i < x ∨ (i = x ∧ (v : Int) ∈ P[i].take y))
theorem OI.start (N : Nat) (P : List (List Int)) : OI N P 0 0 (List.replicate N 0) := ⟨by simp, fun v hv => .inl (by simp [hv])⟩
theorem OI.next {N : Nat} {P : List (List Int)} {x y : Nat} {O : List Int} (h : OI N P x y O) : OI N P (x + 1) 0 O := ⟨h.1, fun v hv => by
  rcases h.2 v hv with h1 | ⟨i, h1, h2, h3, h4⟩
  · exact .inl h1
  · exact .inr ⟨i, h1, h2, h3, .inl (by rcases h4 with h4 | ⟨h4, _⟩ <;> omega)⟩⟩
theorem OI.fresh {N : Nat} {l : List Ed} {D : List Int} {k : Int} {P : List (List Int)} (hP : PcI N l D k P) {x y : Nat} {O : List Int} (h : OI N P x y O) (hx : x < P.length) (hy : y < P[x].length) {v : Nat} (hv : P[x][y] = (v : Int)) (hvN : v < N) : O.getD v 0 = 0 := by
  have hm : (v : Int) ∈ P[x] := by rw [← hv]; exact List.getElem_mem hy
  rcases h.2 v hvN with h1 | ⟨i, h1, h2, h3, h4⟩
  · exact h1
  · exfalso
    have hix := hP.apart i x h1 hx v h3 hm
    subst hix
    rcases h4 with h4 | ⟨_, h4⟩
    · omega
    · obtain ⟨z, hz, hze⟩ := List.getElem_of_mem h4
      rw [List.length_take] at hz
      rw [List.getElem_take, ← hv] at hze
      have := (List.getElem_inj (hP.nod i h1)).1 hze
      omega
theorem OI.push {N : Nat} {P : List (List Int)} {x y : Nat} {O : List Int} (h : OI N P x y O) (hx : x < P.length) (hy : y < P[x].length) {v : Nat} (hv : P[x][y] = (v : Int)) (hvN : v < N) : OI N P x (y + 1) (O.set v ((x : Int) + 1)) := by
  have hl := h.1
  refine ⟨by rw [List.length_set]; exact hl, fun u hu => ?_⟩
  by_cases e : v = u
  · subst e
    refine .inr ⟨x, hx, ?_, by rw [← hv]; exact List.getElem_mem hy, .inr ⟨rfl, ?_⟩⟩
    · rw [List.getD_eq_getElem?_getD, List.getElem?_set_self (by omega)]; rfl
    · rw [List.take_add_one, List.getElem?_eq_getElem hy, hv]; simp
  · have e2 : (O.set v ((x : Int) + 1)).getD u 0 = O.getD u 0 := by
      simp only [List.getD_eq_getElem?_getD]
      rw [List.getElem?_set_ne e]
    rw [e2]
    rcases h.2 u hu with h1 | ⟨i, h1, h2, h3, h4⟩
    · exact .inl h1
    · refine .inr ⟨i, h1, h2, h3, ?_⟩
      rcases h4 with h4 | ⟨h4, h5⟩
      · exact .inl h4
      · exact .inr ⟨h4, (List.take_subset_take_left _ (Nat.le_succ y)) h5⟩
theorem OI.same {N : Nat} {l : List Ed} {D : List Int} {k : Int} {P : List (List Int)} (hP : PcI N l D k P) {x y : Nat} {O : List Int} (h : OI N P x y O) {u v : Nat} (hu : u < N) (hv : v < N) (ha : Adj l u v) (h1 : O.getD u 0 ≠ 0) (h2 : O.getD v 0 ≠ 0) : O.getD u 0 = O.getD v 0 := by
  rcases h.2 u hu with e | ⟨i, hi, e1, e2, _⟩
  · exact absurd e h1
  · rcases h.2 v hv with e | ⟨j, hj, f1, f2, _⟩
    · exact absurd e h2
    · rw [e1, f1, hP.edge i j hi hj u v ha e2 f2]
/-- The least and the greatest level so far. -/
def LH (N : Nat) (A k : Int) (y : Nat) (lo hi : Int) : Prop := 0 ≤ lo ∧ lo ≤ N ∧ 0 ≤ hi ∧ hi ≤ N ∧ (y = 0 → lo = N ∧ hi = 0) ∧ (0 < y → A < lo ∧ hi ≤ A + k)
theorem LH.start (N : Nat) (A k : Int) : LH N A k 0 N 0 := ⟨by omega, by omega, by omega, by omega, fun _ => ⟨rfl, rfl⟩, fun h => by omega⟩
theorem LH.step {N : Nat} {A k : Int} {y : Nat} {lo hi d : Int} (h : LH N A k y lo hi) (h1 : A < d) (h2 : d ≤ A + k) (h3 : 0 ≤ d) (h4 : d < N) : LH N A k (y + 1) (min lo d) (max hi d) := by
  obtain ⟨a, b, c, e, f, g⟩ := h
  refine ⟨by omega, by omega, by omega, by omega, fun h => by omega, fun _ => ?_⟩
  by_cases hy : y = 0
  · have := f hy
    omega
  · have := g (by omega)
    omega
end Go.Proofs.Ytdgecflljgnobaa

namespace Go.Proofs.Ytdgecflljgnobaa
open Go Go.Proofs Go.RowKit

theorem rcT_short {L : List Int} {N : Nat} : ∀ x ∈ rcAt L N N, x.length ≤ N := fun x hx => by
  obtain ⟨_, v, _, _, h, _⟩ := rc_head (Nat.le_refl _) x hx
  rw [h]
  exact memAt_len L v N
theorem piecesT_few (N : Nat) (l : List Ed) (kp : List Bool) : (piecesL N l kp).length ≤ N ∧ ∀ x ∈ piecesL N l kp, x.length ≤ N := by
  unfold piecesL
  exact ⟨Nat.le_trans (List.length_filter_le _ _) (rcAt_len _ _ _), fun x hx => rcT_short x (List.mem_filter.1 hx).1⟩

set_option maxRecDepth 100000 in
set_option maxHeartbeats 8000000 in
theorem thin_law (n : Int) (l : List Ed) (k s : Int) (sv : Value) (w : World) (hl : Edges w.heap.size w sv l) :
    Calls Try.prog 6 #[.agg #[.int .i64 n, sv], .int .i64 k, .int .i64 s] w fun e w' => e = .returned (.bool true) ∧ Below w.heap.size w w' := by
  have hmix := mixed
  have hg1 : Grew w (w.alloc (.cells #[.int .i64 n, sv] 24)) := (Grew.refl w).alloc _
  have hl1 := hl.go hg1.below
  obtain ⟨p, c, rfl⟩ := hl.len
  have hlt := light_any n l 60 (by decide) (by decide) (.slice p l.length c) _ hl1
  go_enter Try.func6, Try.ntmps6
  go_wp2_with fail
  refine hlt.mono ?_
  rintro e w2 ⟨rfl, hg2⟩
  obtain ⟨q0, q1⟩ := box2 _ hg2
  have hbox := box2_lt hg2
  have hbw2 := (hg1.trans hg2).below
  have hl2 := hl.go hbw2
  clear hlt hl1 hg1 hg2
  cases hL : lightB n l 60 with
  | false =>
    go_wp2_with fail
    refine (alive_any w2).mono ?_
    rintro e w3 ⟨rfl, hb3⟩
    have HB : Hid _ := hbw2.trans (hb3.mono hbw2.size)
    clear hb3 hbw2 hl2
    go_wp2
    go_ret
    exact ⟨rfl, HB.out⟩
  | true =>
    have hlb := lightB_true hL
    clear hL
    have hak := askedL_any n l k s (.slice p l.length c) w2 hl2
    go_wp2_with fail
    refine hak.mono ?_
    rintro e w3 ⟨rfl, hb3⟩
    have r0 := cell_keepL hb3 q0
    have r1 := cell_keepL hb3 q1
    have hbw3 := hbw2.trans (hb3.mono hbw2.size)
    have hl3 := hl.go hbw3
    have hbox3 : w.heap.size < w3.heap.size := Nat.lt_of_lt_of_le hbox hb3.size
    clear hak hb3 q0 q1 hbw2 hl2 hbox
    by_cases hk : fitL n l k s = 0
    · obtain ⟨hR, hk1, hk8, hs0, hsk⟩ := fitL_ok.1 hk
      obtain ⟨N, rfl⟩ : ∃ N : Nat, n = (N : Int) := ⟨n.toNat, by have := hR.n0; omega⟩
      have hn1 := hR.n1
      rw [hk]
      clear hk
      have hof := of_any N l hR (.slice p l.length c) w3 hl3
      go_wp2_with fail
      refine hof.mono ?_
      rintro e w4 ⟨g, D, rfl, hg, hBL, hLev, hb4⟩
      have s0 := cell_keepL hb4 r0
      have s1 := cell_keepL hb4 r1
      have hbw4 := hbw3.trans (hb4.mono hbw3.size)
      have hl4 := hl.go hbw4
      have hbox4 : w.heap.size < w4.heap.size := Nat.lt_of_lt_of_le hbox3 hb4.size
      clear hof hb4 r0 r1 hbw3 hl3 hbox3
      have hpc := pieces_any N l hR k s hk1 hk8 hs0 hsk (.slice p l.length c) w4 hl4
      go_wp2_with fail
      refine hpc.mono ?_
      rintro e w5 ⟨rv, D2, rfl, hLp, hLev2, hb5⟩
      have t0 := cell_keepL hb5 s0
      have t1 := cell_keepL hb5 s1
      have hDl := hLev.len
      have HPC : Hid (PcI N l D k (piecesL N l (staysL D2 k s))) := by
        rw [hLev2.uniq hR hLev]; exact pieces_pc hR hLev hk1
      have hfew := piecesT_few N l (staysL D2 k s)
      have HR : Hid (RightG (N : Int) l) := hR
      have HLEV : Hid (Lev N l D) := hLev
      have HW5 : Hid (Below w.heap.size w w5) := hbw4.trans (hb5.mono hbw4.size)
      have hBL5 := hBL.go hb5
      have hgl5 := hBL5.lt
      have hbox5 : w.heap.size < w5.heap.size := Nat.lt_of_lt_of_le hbox4 hb5.size
      generalize piecesL N l (staysL D2 k s) = P at *
      obtain ⟨pr, cr, rfl⟩ := hLp.len
      have HLP : Hid (Lsts w5.heap.size w5 (.slice pr P.length cr) P) := hLp
      have hPN := hfew.1
      have HPS : Hid (∀ x ∈ P, x.length ≤ N) := hfew.2
      have hlen : (l.length : Int) ≤ 240 := by omega
      clear hpc hb5 s0 s1 hbw4 hl4 hbox4 hLev2 hLp hfew hR hLev hBL hlb
      generalize hxb : w.heap.size = xb at t0 t1
      have HXB : Hid (w.heap.size = xb) := hxb
      have HX5 : Hid (∀ W, Below w5.heap.size w5 W → W.cell? ⟨xb, 0, none⟩ = some (.int .i64 (N : Int)) ∧ W.cell? ⟨xb, 1, none⟩ = some (.slice p l.length c)) := fun W hb => ⟨cell_keepL hb t0, cell_keepL hb t1⟩
      clear hxb
      obtain ⟨i0, hi, hz0, hz1, hz2⟩ := info_parts infoI
      go_wp2_with (at_make; refine wpList_make_full _ rfl _ _ 27 rfl w5.heap.size 3 i0 (.int .i64 0) 1 Try.underlying27 hi hz0 hz1 .i64 .i64 _ _ N rfl rfl rfl rfl (by rw [hz2]; omega) (by unfold maxLen; omega) (Nat.le_refl _) ?_; intro w6 hown hgrow; have hb6 : Below w5.heap.size w5 w6 := (Below.refl _ _).grown hgrow (Nat.le_refl _) (fun k e => by cases e))
      have hrow := Blk.made hown
      rw [ints_made] at hrow
      clear hown hgrow hi hz0 hz1 hz2 t0 t1
      obtain ⟨go, hgo⟩ : ∃ n, w5.heap.size = n := ⟨_, rfl⟩
      rw [hgo] at hrow hgl5 hbox5 HX5 hb6 HLP ⊢
      have HG5 : Hid (w.heap.size ≤ go) := by show _ ≤ _; omega
      have HBL : Hid (∀ W, Below go w5 W → Blk 3 W g (D.map (Value.int .i64))) := fun W hb => hBL5.below hb hgl5
      have hgg : g ≠ go := by omega
      clear hgo hBL5 hgl5
      go_loopw [12] (fun i wr => ∃ (x : Nat) (O : List Int), x ≤ P.length ∧ i = .int .i64 (x : Int) ∧ Hid (Blk 3 wr go (O.map (Value.int .i64))) ∧ Hid (OI N P x 0 O) ∧ Hid (Below go w5 wr)) (fun i _ => P.length - (intOf i).toNat)
      case atStart => exact ⟨0, List.replicate N 0, Nat.zero_le _, rfl, hrow, OI.start N P, hb6⟩
      case round =>
        clear hrow hb6
        obtain ⟨x, O, hx, rfl, HO, HI, HB⟩ := hrel
        obtain ⟨x0, x1⟩ := HX5.out wr HB.out
        by_cases hlt : x < P.length
        · have hxl : (x : Int) < (P.length : Int) := by omega
          obtain ⟨b, off, rfl, hbb, hcap, px, cx, hIx, c0⟩ := (HLP.out.below HB.out).cellAt hlt
          obtain ⟨A, hA⟩ := HPC.out.band x hlt
          have HA : Hid (∀ v : Nat, (v : Int) ∈ P[x] → A < D.getD v 0 ∧ D.getD v 0 ≤ A + k) := hA
          have HX : Hid (x < P.length) := hlt
          have hpl := HPS.out P[x] (List.getElem_mem hlt)
          have HC : Hid (∀ W, Below go w5 W → W.cell? ⟨b, off + x, none⟩ = some (.slice px P[x].length cx) ∧ Ints go W (.slice px P[x].length cx) P[x]) := fun W hb => by
            obtain ⟨b', off', hbe, _, _, px', cx', h1, h2⟩ := (HLP.out.below hb).cellAt hlt
            cases hbe
            have h3 : wr.cell? ⟨b, off + x, none⟩ = w5.cell? ⟨b, off + x, none⟩ := HB.out.cell (p := ⟨b, _, none⟩) hbb
            have h4 : W.cell? ⟨b, off + x, none⟩ = w5.cell? ⟨b, off + x, none⟩ := hb.cell (p := ⟨b, _, none⟩) hbb
            have h5 := h4.trans (h3.symm.trans c0)
            have h6 := Option.some.inj (h2.symm.trans h5)
            rw [h6] at h1
            exact ⟨h5, h1⟩
          clear hA c0 hIx
          go_wp2
          go_loopw [13, 14, 15] (fun lov hiv yv wq => ∃ (lo hi : Int) (y : Nat) (O : List Int), lov = .int .i64 lo ∧ hiv = .int .i64 hi ∧ yv = .int .i64 (y : Int) ∧ y ≤ P[x].length ∧ Hid (LH N A k y lo hi) ∧ Hid (Blk 3 wq go (O.map (Value.int .i64))) ∧ Hid (OI N P x y O) ∧ Hid (Below go w5 wq)) (fun _ _ yv _ => P[x].length - (intOf yv).toNat)
          case atStart => exact ⟨(N : Int), 0, 0, O, rfl, rfl, rfl, Nat.zero_le _, LH.start N A k, HO, HI, HB⟩
          case round =>
            clear HO HI HB x0 x1
            obtain ⟨lo, hi, y, O, rfl, rfl, rfl, hy, HLH, HO, HI, HB⟩ := hrel
            obtain ⟨x0, x1⟩ := HX5.out wr HB.out
            obtain ⟨c0, hIx⟩ := HC.out wr HB.out
            obtain ⟨hl0, hlN, hh0, hhN, -, -⟩ := HLH.out
            have hxl : (x : Int) < (P.length : Int) := by have := HX.out; omega
            by_cases hlt : y < P[x].length
            · have hyl : (y : Int) < (P[x].length : Int) := by omega
              obtain ⟨v, hv, hvN⟩ := HPC.out.mem x HX.out P[x][y] (List.getElem_mem hlt)
              obtain ⟨bx, ox, rfl, hbx, hcx, hqx⟩ := hIx.open hlt
              have c1 := hqx wr (Below.refl _ _) y hlt
              rw [hv] at c1
              have hz := HI.out.fresh HPC.out HX.out hlt hv hvN
              have HI2 : Hid (OI N P x (y + 1) (O.set v ((x : Int) + 1))) := HI.out.push HX.out hlt hv hvN
              have hOl := HI.out.1
              have hband := HA.out v (by rw [← hv]; exact List.getElem_mem hlt)
              have hdr := HLEV.out.ran v hvN
              have o0 := HO.out.cell (getD_cell (show v < O.length by omega))
              rw [hz] at o0
              have of0 := HO.out.frozen v
              have hn := HO.out.set v (.int .i64 ((x : Int) + 1))
              rw [← List.map_set] at hn
              have HO2 : Hid (Blk 3 (wr.setCell ⟨go, v, none⟩ (.int .i64 ((x : Int) + 1))) go ((O.set v ((x : Int) + 1)).map (Value.int .i64))) := hn
              have HB2 : Hid (Below go w5 (wr.setCell ⟨go, v, none⟩ (.int .i64 ((x : Int) + 1)))) := HB.out.setCell (p := ⟨go, v, none⟩) (Nat.le_refl _) _
              have HLH2 : Hid (LH N A k (y + 1) (min lo (D.getD v 0)) (max hi (D.getD v 0))) := HLH.out.step hband.1 hband.2 hdr.1 hdr.2
              have d0 := (HBL.out _ HB2.out).cell (getD_cell (show v < D.length by omega))
              have hvl : (v : Int) < (N : Int) := by omega
              have hv0 : ¬ ((v : Int) < 0) := by omega
              have hvg : ¬ ((N : Int) ≤ (v : Int)) := by omega
              have HY : Hid (y < P[x].length) := hlt
              have hx4 : x < 4194304 := by omega
              clear hn hz hqx hband hIx hv HI HO HLH hlt
              generalize D.getD v 0 = d at *
              obtain ⟨W, hW⟩ : ∃ W, wr.setCell ⟨go, v, none⟩ (.int .i64 ((x : Int) + 1)) = W := ⟨_, rfl⟩
              have HWE : Hid (wr.setCell ⟨go, v, none⟩ (.int .i64 ((x : Int) + 1)) = W) := hW
              rw [hW] at HO2 HB2 d0
              clear hW
              go_wp2
              try rw [HWE.out]
              go_quiet (fail)
              rw [show (if d < lo then d else lo) = min lo d by split <;> omega, show (if hi < d then d else hi) = max hi d by split <;> omega]
              have HO3 : Hid (Blk 3 (W.drewN nq) go ((O.set v ((x : Int) + 1)).map (Value.int .i64))) := HO2
              have HB3 : Hid (Below go w5 (W.drewN nq)) := below_drewN HB2.out nq
              clear HO2 HB2 d0 c0 c1 o0 of0 x0 x1
              generalize W.drewN nq = W9 at *
              go_wp2
              exact ⟨⟨_, _, y + 1, _, rfl, rfl, by go_num, HY.out, HLH2, HO3, HI2, HB3⟩, by have := HY.out; simp [intOf]; omega⟩
            · obtain rfl : y = P[x].length := by omega
              have hyl : ¬ (P[x].length : Int) < (P[x].length : Int) := by omega
              have hdiff : ¬ (k ≤ hi - lo) := by
                obtain ⟨a, b, c, d, e, f⟩ := HLH.out
                by_cases h0 : P[x].length = 0
                · have := e h0; omega
                · have := f (by omega); omega
              have hwr : IntKind.i64.wrap (hi - lo) = hi - lo := wrap_i _ (by omega) (by omega)
              have HI2 : Hid (OI N P (x + 1) 0 O) := HI.out.next
              clear HI HLH hIx
              go_wp2
              exact ⟨⟨x + 1, O, HX.out, by go_num, HO, HI2, HB⟩, by have := HX.out; simp [intOf]; omega⟩
        · obtain rfl : x = P.length := by omega
          have hxl : ¬ (P.length : Int) < (P.length : Int) := by omega
          have hOl := HI.out.1
          have HWR : Hid (Below w.heap.size w wr) := HW5.out.trans (HB.out.mono HG5.out)
          clear HB HBL HLP HX5
          obtain ⟨wv, hwv⟩ : ∃ W, wr = W := ⟨_, rfl⟩
          rw [hwv] at HO HWR x0 x1 ⊢
          clear hwv
          go_wp2
          go_loopw [17] (fun i wz => ∃ j m : Nat, j ≤ l.length ∧ i = .int .i64 (j : Int) ∧ wz = wv.drewN m) (fun i _ => l.length - (intOf i).toNat)
          case atStart => exact ⟨0, 0, Nat.zero_le _, rfl, rfl⟩
          case round =>
            obtain ⟨j, m, hj, rfl, hwz⟩ := hrel
            have hbr : Below wv.heap.size wv wr := by rw [hwz]; exact below_drewN (Below.refl _ _) m
            have t0 := cell_keepL hbr x0
            have t1 := cell_keepL hbr x1
            have hOr := HO.out.go hbr
            by_cases hlt : j < l.length
            · obtain ⟨b, off, rfl, hbb, hcap, hc, -⟩ := hl.open hlt
              obtain ⟨c0, c1, c2⟩ := hc wr (HWR.out.trans (hbr.mono HWR.out.size)) j hlt
              have hjl : (j : Int) < (l.length : Int) := by omega
              have hok := (HR.out.each l[j] (List.getElem_mem hlt)).1
              unfold okE at hok
              obtain ⟨u, hu⟩ : ∃ u : Nat, l[j].1 = (u : Int) := ⟨l[j].1.toNat, by omega⟩
              obtain ⟨v, hv⟩ : ∃ v : Nat, l[j].2.1 = (v : Int) := ⟨l[j].2.1.toNat, by omega⟩
              have hadj : Adj l u v := ⟨l[j], List.getElem_mem hlt, by omega⟩
              have huN : u < N := by omega
              have hvN : v < N := by omega
              have hsame := HI.out.same HPC.out huN hvN hadj
              rw [hu] at c0
              rw [hv] at c1
              have a0 := hOr.cell (getD_cell (show u < O.length by omega))
              have a1 := hOr.cell (getD_cell (show v < O.length by omega))
              have hul : (u : Int) < (N : Int) := by omega
              have hvl : (v : Int) < (N : Int) := by omega
              generalize O.getD u 0 = a at *
              generalize O.getD v 0 = d at *
              have HWE : Hid (wr = wv.drewN m) := hwz
              have HJ : Hid (j < l.length) := hlt
              clear hc hok hu hv hadj hwz hbr hOr hlt c2
              by_cases ha : a = 0
              · have ha' : (a != 0) = false := by simpa using ha
                clear hsame ha
                go_wp2
                go_quiet (fail)
                go_wp2
                refine ⟨⟨j + 1, m + nq, HJ.out, by go_num, ?_⟩, by have := HJ.out; simp [intOf]; omega⟩
                rw [HWE.out]
                exact World.drewN_drewN _ _ _
              · have ha' : (a != 0) = true := by simpa using ha
                by_cases hd : d = 0
                · have hd' : (d != 0) = false := by simpa using hd
                  clear hsame ha hd
                  go_wp2
                  go_quiet (fail)
                  go_wp2
                  refine ⟨⟨j + 1, m + nq, HJ.out, by go_num, ?_⟩, by have := HJ.out; simp [intOf]; omega⟩
                  rw [HWE.out]
                  exact World.drewN_drewN _ _ _
                · obtain rfl := hsame ha hd
                  have hd' : (a != a) = false := by simp
                  clear hsame ha hd
                  go_wp2
                  go_quiet (fail)
                  go_wp2
                  refine ⟨⟨j + 1, m + nq, HJ.out, by go_num, ?_⟩, by have := HJ.out; simp [intOf]; omega⟩
                  rw [HWE.out]
                  exact World.drewN_drewN _ _ _
            · obtain rfl : j = l.length := by omega
              have hjl : ¬ (l.length : Int) < (l.length : Int) := by omega
              have HW9 : Hid (Below w.heap.size w wr) := HWR.out.trans (hbr.mono HWR.out.size)
              clear hwz hbr hOr
              go_wp2_with fail
              refine (alive_any _).mono ?_
              rintro e w9 ⟨rfl, hb9⟩
              have HB : Hid _ := HW9.out.trans (hb9.mono HW9.out.size)
              clear hb9 HW9
              go_wp2
              go_ret
              exact ⟨rfl, HB.out⟩
    · have hk' : (fitL n l k s != 0) = true := by simpa using hk
      generalize fitL n l k s = q at *
      go_wp2_with fail
      refine (alive_any w3).mono ?_
      rintro e w4 ⟨rfl, hb4⟩
      have HB : Hid _ := hbw3.trans (hb4.mono hbw3.size)
      clear hb4 hbw3 hl3
      go_wp2
      go_ret
      exact ⟨rfl, HB.out⟩
end Go.Proofs.Ytdgecflljgnobaa

namespace Go.Proofs.Ytdgecflljgnobaa.levelsThin
open Go Go.ChangeShapes Go.WideShapes Go.ChangeAt Go.RowKit

set_option maxRecDepth 100000 in
set_option maxHeartbeats 1000000 in
theorem lifted (os : Os) (started : os.Started) (H : Type) (enc : TypeId × Value → H) :
    ReturnsInHanded {} Try.checked os 6 .any (Rows.levelsThinSpec.pre6 enc Try.prog Try.f6 Rows.levelsThinRow.domain false) (Rows.levelsThinSpec.post enc Try.prog Try.f6 false true false false) := by
  refine returnsInHanded_of_change (C := Try.checked) own started (by kernel_rfl) Try.func6
    (ChangeSpec.witness6 (enc := enc) (C := Try.checked) false ⟨#[], #[.agg #[.int .i64 0, .slice none 0 0], .int .i64 0, .int .i64 0], []⟩ 8 (by kernel_rfl) (by kernel_rfl) (by kernel_rfl) (by kernel_rfl)) ?_
  intro W base args ds gs before hval0 hW hcnd _
  have hval : ∀ (j : Nat) t v, Try.f6.params[j]? = some t → args[j]? = some v → Value.okWide Try.prog W .any base t v := hval0
  have hW' := hW
  obtain ⟨p, q, hA0, hV, rfl, hfz, hnd⟩ := hW
  have hA : DataW.TrodAll enc Try.prog W 0 (fun _ => true) true Try.f6.params.toList args.toList ds p := hA0
  rw [Try.params6] at hA hval
  obtain ⟨v0, vs0, d0, ds0, p0, q0, hargs, rfl, rfl, h0, r0⟩ := trodAll_cons hA
  obtain ⟨v1, vs1, d1, ds1, p1, q1, rfl, rfl, rfl, h1, r1⟩ := trodAll_cons r0
  obtain ⟨v2, vs2, d2, ds2, p2, q2, rfl, rfl, rfl, h2, r2⟩ := trodAll_cons r1
  obtain ⟨rfl, rfl, rfl⟩ := trodAll_nil r2
  obtain rfl : args = #[v0, v1, v2] := by cases args; simp_all
  obtain ⟨rfl, rfl⟩ := trodVars_none hV
  have k0 := h0
  have lt0 : ∀ x ∈ p0, x.block < W.heap.size := by obtain ⟨m, hm⟩ := k0; exact DataW.trod_lt m _ _ _ hm
  have k1 := h1
  have lt1 : ∀ x ∈ p1, x.block < W.heap.size := by obtain ⟨m, hm⟩ := k1; exact DataW.trod_lt m _ _ _ hm
  have k2 := h2
  have lt2 : ∀ x ∈ p2, x.block < W.heap.size := by obtain ⟨m, hm⟩ := k2; exact DataW.trod_lt m _ _ _ hm
  obtain ⟨n0, s0, l0, rfl, e0⟩ := graph_in (hval 0 24 v0 rfl rfl) h0
  obtain ⟨n1, hn1, _, _, wf1⟩ := open_int Try.underlying3 (hval 1 3 v1 rfl rfl) h1
  subst hn1
  obtain ⟨n2, hn2, _, _, wf2⟩ := open_int Try.underlying3 (hval 2 3 v2 rfl rfl) h2
  subst hn2
  clear hA0 hval0
  refine (thin_law n0 l0 n1 n2 _ W e0).mono fun e W' ⟨he, bel⟩ => ?_
  subst he
  exact ⟨_, rfl, _, _, _, [], _, [], hW', trodAll_mk1 (shut_bool Try.underlying4 _), (trodAll_cons_mk (Below.trod laidOut (by kernel_rfl) (of_decide_eq_true (by kernel_rfl)) k0 bel lt0) (trodAll_cons_mk (Below.trod laidOut (by kernel_rfl) (of_decide_eq_true (by kernel_rfl)) k1 bel lt1) (trodAll_cons_mk (Below.trod laidOut (by kernel_rfl) (of_decide_eq_true (by kernel_rfl)) k2 bel lt2) trodAll_mk0))), rfl, bel.frame _, fun h => by cases h⟩

end Go.Proofs.Ytdgecflljgnobaa.levelsThin

namespace Go.Proofs.Ytdgecflljgnobaa
open Go

theorem levelsThin_holds : Rows.LevelsThinSaid :=
  OpenClaim.holds_of_wide 6 Try.f6 rfl rfl rfl rfl rfl rfl rfl ⟨rfl, rfl, rfl, rfl, rfl⟩ rfl rfl rfl rfl rfl (by kernel_rfl) Try.func6 (by kernel_rfl)
    (of_decide_eq_true (by kernel_rfl)) (by unfold Func.isWrapper; first | (rw [if_pos (by decide +kernel)]; kernel_rfl) | (rw [if_neg (by decide +kernel)]; exact ⟨rfl, rfl⟩))
    (fun os started H enc _ => levelsThin.lifted os started H enc)

#print axioms levelsThin_holds
end Go.Proofs.Ytdgecflljgnobaa
