import Derived.Test.YtalflecmadacaaaGreatZAB
import Derived.Test.YtalflecmadacaaaGreatZAG
import Derived.Deep.QuietTactic
import Derived.BigQuiet
import Derived.Deep.RegionHeld3
import Derived.Test.YtalflecmadacaaaGreatZAA
set_option maxRecDepth 100000
set_option maxHeartbeats 8000000
namespace Go.Proofs.YtalflecmadacaaaGreat
open Go Go.Proofs Go.RowKit
def vtxB (n v : Int) : Bool := decide (0 ≤ v ∧ v < n)
theorem vtx_iff {n v : Int} : vtxB n v = true ↔ 0 ≤ v ∧ v < n := by simp [vtxB]
def fitW (n : Int) (e : Ed) : Int := if vtxB n e.1 = false ∨ vtxB n e.2.1 = false then 5 else if e.2.2 < 0 then 10 else if 2147483648 ≤ e.2.2 then 8 else 0
def lstW (n : Int) : List Ed → Int
 | [] => 0
 | e :: l => if fitW n e = 0 then lstW n l else fitW n e
def rgtW (n : Int) (l : List Ed) : Int := if n < 0 then 1 else if 1048576 < n ∨ 4194304 < (l.length : Int) then 4 else lstW n l
theorem lstW_step {n : Int} {l : List Ed} {j : Nat} (h : j < l.length) : lstW n (l.drop j) = if fitW n l[j] = 0 then lstW n (l.drop (j + 1)) else fitW n l[j] := by
 rw [List.drop_eq_getElem_cons h]; rfl
theorem lstW_end (n : Int) (l : List Ed) : lstW n (l.drop l.length) = 0 := by simp [lstW]
theorem isVertex_any (n v : Int) (sv : Value) (w : World) (hs : ∃ p k c, sv = .slice p k c) : Calls Tryz.prog 126 #[.agg #[.int .i64 n, sv], .int .i64 v] w fun r w' => r = .returned (.bool (vtxB n v)) ∧ Grew w w' := by
 obtain ⟨p, k, c, rfl⟩ := hs
 unfold vtxB
 go_enter Tryz.func126, Tryz.ntmps126
 go_wp2
 all_goals go_ret
 all_goals refine ⟨?_, (Grew.refl w).alloc _⟩
 all_goals simp
 all_goals omega
theorem fitsW_any (n : Int) (sv : Value) (e : Ed) (w : World) (hs : ∃ p k c, sv = .slice p k c) : Calls Tryz.prog 108 #[.agg #[.int .i64 n, sv], edV e] w fun r w' => r = .returned (.int .i64 (fitW n e)) ∧ Grew w w' := by
 have hv := fun v W => isVertex_any n v sv W hs
 obtain ⟨p, k, c, rfl⟩ := hs
 unfold edV
 obtain ⟨x, y, z⟩ := e
 simp only
 have hbox : ∀ W', Grew ((w.alloc (.cells #[.int .i64 n, .slice p k c] 24)).alloc (.cells #[.int .i64 x, .int .i64 y, .int .i64 z] 50)) W' → W'.cell? ⟨w.heap.size, 0, none⟩ = some (.int .i64 n) ∧ W'.cell? ⟨w.heap.size, 1, none⟩ = some (.slice p k c) ∧ W'.cell? ⟨w.heap.size + 1, 0, none⟩ = some (.int .i64 x) ∧ W'.cell? ⟨w.heap.size + 1, 1, none⟩ = some (.int .i64 y) ∧ W'.cell? ⟨w.heap.size + 1, 2, none⟩ = some (.int .i64 z) := fun W' h =>
  ⟨(h.below.cell (p := ⟨w.heap.size, 0, none⟩) (by simp; omega)).trans (by simp), (h.below.cell (p := ⟨w.heap.size, 1, none⟩) (by simp; omega)).trans (by simp), (h.below.cell (p := ⟨w.heap.size + 1, 0, none⟩) (by simp)).trans (by simp), (h.below.cell (p := ⟨w.heap.size + 1, 1, none⟩) (by simp)).trans (by simp), (h.below.cell (p := ⟨w.heap.size + 1, 2, none⟩) (by simp)).trans (by simp)⟩
 have hg0 : Grew w ((w.alloc (.cells #[.int .i64 n, .slice p k c] 24)).alloc (.cells #[.int .i64 x, .int .i64 y, .int .i64 z] 50)) := ((Grew.refl w).alloc _).alloc _
 by_cases h1 : vtxB n x = true
 ·by_cases h2 : vtxB n y = true
  ·have hE : (z < 0 ∧ fitW n (x, y, z) = 10) ∨ (¬ z < 0 ∧ 2147483648 ≤ z ∧ fitW n (x, y, z) = 8) ∨ (¬ z < 0 ∧ ¬ 2147483648 ≤ z ∧ fitW n (x, y, z) = 0) := by
    unfold fitW
    simp only [h1, h2]
    by_cases z0 : z < 0
    ·exact .inl ⟨z0, by simp [z0]⟩
    ·by_cases z1 : 2147483648 ≤ z
     ·exact .inr (.inl ⟨z0, z1, by simp [z0, z1]⟩)
     ·exact .inr (.inr ⟨z0, z1, by simp [z0, z1]⟩)
   generalize fitW n (x, y, z) = r at hE
   have H1 : Hid _ := h1
   have H2 : Hid _ := h2
   clear h1 h2
   rcases hE with ⟨z0, rfl⟩ | ⟨z0, z1, rfl⟩ | ⟨z0, z1, rfl⟩
   all_goals
    go_enter Tryz.func108, Tryz.ntmps108
    go_wp2_with fail
    refine (hv _ _).mono ?_
    rintro e w1 ⟨rfl, hg1⟩
    obtain ⟨c0, c1, c2, c3, c4⟩ := hbox _ hg1
    rw [H1.out]
    go_wp2_with fail
    refine (hv _ _).mono ?_
    rintro e w2 ⟨rfl, hg2⟩
    clear c0 c1 c2 c3 c4
    obtain ⟨c0, c1, c2, c3, c4⟩ := hbox _ (hg1.trans hg2)
    rw [H2.out]
    go_wp2
    go_ret
    exact ⟨rfl, hg0.trans (hg1.trans hg2)⟩
  ·have hE : fitW n (x, y, z) = 5 := if_pos (.inr (by simpa using h2))
   rw [hE]
   have H1 : Hid _ := h1
   have H2 : Hid (vtxB n y = false) := by unfold Hid; simpa using h2
   clear h1 h2 hE
   go_enter Tryz.func108, Tryz.ntmps108
   go_wp2_with fail
   refine (hv _ _).mono ?_
   rintro e w1 ⟨rfl, hg1⟩
   obtain ⟨c0, c1, c2, c3, c4⟩ := hbox _ hg1
   rw [H1.out]
   go_wp2_with fail
   refine (hv _ _).mono ?_
   rintro e w2 ⟨rfl, hg2⟩
   rw [H2.out]
   go_wp2
   go_ret
   exact ⟨rfl, hg0.trans (hg1.trans hg2)⟩
 ·have hE : fitW n (x, y, z) = 5 := if_pos (.inl (by simpa using h1))
  rw [hE]
  have H1 : Hid (vtxB n x = false) := by unfold Hid; simpa using h1
  clear h1 hE
  go_enter Tryz.func108, Tryz.ntmps108
  go_wp2_with fail
  refine (hv _ _).mono ?_
  rintro e w1 ⟨rfl, hg1⟩
  rw [H1.out]
  go_wp2
  go_ret
  exact ⟨rfl, hg0.trans hg1⟩
theorem rightW_any (n : Int) (l : List Ed) (sv : Value) (w : World) (hl : Edges w.heap.size w sv l) :
  Calls Tryz.prog 82 #[.agg #[.int .i64 n, sv]] w fun r w' => r = .returned (.int .i64 (rgtW n l)) ∧ Grew w w' := by
 obtain ⟨p, c, rfl⟩ := hl.len
 have hmix := mixed
 have hg1 : Grew w (w.alloc (.cells #[.int .i64 n, .slice p l.length c] 24)) := (Grew.refl w).alloc _
 have hf := fun e W => fitsW_any n (.slice p l.length c) e W ⟨_, _, _, rfl⟩
 by_cases h0 : n < 0
 ·have hE : rgtW n l = 1 := if_pos h0
  rw [hE]
  go_enter Tryz.func82, Tryz.ntmps82
  go_wp2
  go_ret
  exact ⟨rfl, hg1⟩
 ·by_cases h1 : 1048576 < n
  ·have hE : rgtW n l = 4 := by unfold rgtW; rw [if_neg h0, if_pos (.inl h1)]
   rw [hE]
   go_enter Tryz.func82, Tryz.ntmps82
   go_wp2
   go_ret
   exact ⟨rfl, hg1⟩
  ·by_cases h2 : 4194304 < (l.length : Int)
   ·have hE : rgtW n l = 4 := by unfold rgtW; rw [if_neg h0, if_pos (.inr h2)]
    rw [hE]
    go_enter Tryz.func82, Tryz.ntmps82
    go_wp2
    go_ret
    exact ⟨rfl, hg1⟩
   ·have hR : Hid (rgtW n l = lstW n l) := by unfold Hid rgtW; rw [if_neg h0, if_neg (by omega)]
    go_enter Tryz.func82, Tryz.ntmps82
    go_wp2
    go_loopw [21] (fun i wr => ∃ j : Nat, j ≤ l.length ∧ i = .int .i64 j ∧ Hid (lstW n (l.drop j) = lstW n l) ∧ Grew (w.alloc (.cells #[.int .i64 n, .slice p l.length c] 24)) wr) (fun i _ => l.length - (intOf i).toNat)
    case atStart => exact ⟨0, Nat.zero_le _, rfl, rfl, Grew.refl _⟩
    case round =>
     obtain ⟨j, hj, rfl, hr, hg⟩ := hrel
     have q0 := (box2 _ hg).1
     have q1 := (box2 _ hg).2
     have hsz := box2_lt hg
     by_cases hlt : j < l.length
     ·obtain ⟨b, off, rfl, hbb, hcap, hc⟩ := hl.at hlt
      have hb0 := (hg1.trans hg).below
      obtain ⟨c0, c1, c2⟩ := hc j _ (List.getElem?_eq_getElem hlt)
      replace c0 := (hb0.cell (p := ⟨b, off + j * 3, none⟩) hbb).trans c0
      replace c1 := (hb0.cell (p := ⟨b, off + j * 3 + 1, none⟩) hbb).trans c1
      replace c2 := (hb0.cell (p := ⟨b, off + j * 3 + 2, none⟩) hbb).trans c2
      have hjl : (j : Int) < (l.length : Int) := by omega
      have HST : Hid _ := (lstW_step (n := n) hlt).symm.trans hr
      clear hc hr
      have hbr : b < wr.heap.size := by omega
      go_wp2_with fail
      refine (hf l[j] _).mono ?_
      rintro e w7 ⟨rfl, hg7⟩
      have hg8 : Grew (w.alloc (.cells #[.int .i64 n, .slice (some ⟨b, off, none⟩) l.length c] 24)) w7 := hg.trans (((Grew.refl wr).alloc _).trans hg7)
      clear q0 q1 c0 c1 c2 hb0 hg hg7
      by_cases hk : fitW n l[j] = 0
      ·rw [hk]
       have HS : Hid (lstW n (l.drop (j + 1)) = lstW n l) := by
        have h2 := HST.out
        rwa [if_pos hk] at h2
       clear HST hk
       go_wp2
       exact ⟨⟨j + 1, by omega, by go_num, HS, hg8⟩, by simp [intOf]; omega⟩
      ·have HE : Hid (rgtW n l = fitW n l[j]) := by
        have h2 := HST.out
        rw [if_neg hk] at h2
        unfold Hid; rw [hR.out, ← h2]
       generalize fitW n l[j] = k at HE hk
       have hk' : (k == 0) = false := by simpa using hk
       clear HST hk
       go_wp2
       go_ret
       exact ⟨by rw [HE.out]; rfl, hg1.trans hg8⟩
     ·obtain rfl : j = l.length := by omega
      have HE : Hid (rgtW n l = 0) := by
       unfold Hid; rw [hR.out, ← hr.out, lstW_end]
      clear hr
      go_wp2
      go_ret
      exact ⟨by rw [HE.out]; rfl, hg1.trans hg⟩
end Go.Proofs.YtalflecmadacaaaGreat
namespace Go.Proofs.YtalflecmadacaaaGreat
theorem par_lt {l : List Eg} {d via : List Int} {v n : Nat} (hl : ∀ e ∈ l, e.1 < n ∧ e.2.1 < n) (h : Last l d via v) : par l via v < n := by
  obtain ⟨i, hi, e, he, hm, hj, hp, _⟩ := h.par
  have := hl e hm
  rcases hj with ⟨a, b⟩ | ⟨a, b⟩ <;> omega
def CH (l : List Eg) (via : List Int) (s : Nat) : List Nat → Prop
  | [] => False
  | [v] => v = s
  | v :: u :: t => u = par l via v ∧ CH l via s (u :: t)
theorem ch_up {l : List Eg} {via : List Int} {s : Nat} : ∀ {L : List Nat} {v : Nat}, CH l via s (v :: L) → up l via L.length v = s
  | [], v, h => h
  | u :: t, v, h => by
    show up l via t.length (par l via v) = s
    rw [← h.1]; exact ch_up h.2
theorem ch_cut {l : List Eg} {via : List Int} {s : Nat} : ∀ {L : List Nat} {v : Nat}, CH l via s L → v ∈ L → ∃ t, CH l via s (v :: t) ∧ (v :: t).Sublist L
  | [], _, h, _ => h.elim
  | [x], v, h, hv => by
    have : v = x := by simpa using hv
    subst this
    exact ⟨[], h, List.Sublist.refl _⟩
  | x :: u :: t, v, h, hv => by
    by_cases e : v = x
    · subst e; exact ⟨u :: t, h, List.Sublist.refl _⟩
    · obtain ⟨t', h1, h2⟩ := ch_cut h.2 ((List.mem_cons.1 hv).resolve_left e)
      exact ⟨t', h1, h2.cons _⟩
theorem ch_of {l : List Eg} {via : List Int} {s : Nat} : ∀ (k v : Nat), up l via k v = s → ∃ t, CH l via s (v :: t) ∧ (v :: t).Nodup
  | 0, v, h => ⟨[], h, by simp⟩
  | k + 1, v, h => by
    obtain ⟨t, h1, h2⟩ := ch_of k (par l via v) h
    by_cases hv : v ∈ par l via v :: t
    · obtain ⟨t', h3, h4⟩ := ch_cut h1 hv
      exact ⟨t', h3, h2.sublist h4⟩
    · exact ⟨par l via v :: t, ⟨rfl, h1⟩, List.nodup_cons.2 ⟨hv, h2⟩⟩
theorem OKc.short {l : List Eg} {s n : Nat} {d via : List Int} (h : OKc l s n d via) (hl : ∀ e ∈ l, e.1 < n ∧ e.2.1 < n) (hs : s < n) {v : Nat} (hv : v < n) (h0 : 0 ≤ at' d v) : ∃ t, CH l via s (v :: t) ∧ t.length < n := by
  obtain ⟨k, hk⟩ := h.come v hv h0
  obtain ⟨t, h1, h2⟩ := ch_of k v hk
  have hall : ∀ (t : List Nat) (v : Nat), v < n → CH l via s (v :: t) → ∀ x ∈ v :: t, x < n := by
    intro t
    induction t with
    | nil => intro v hv _ x hx; have : x = v := by simpa using hx
             omega
    | cons u t ih =>
      intro v hv hc x hx
      rcases List.mem_cons.1 hx with h1 | h1
      · omega
      · refine ih u ?_ hc.2 x h1
        rw [hc.1]
        by_cases e : v = s
        · subst e; rw [par_none h.zero]; exact hv
        · rcases h.last v hv e with h2 | ⟨_, h2⟩
          · rw [par_none h2.2]; exact hv
          · exact par_lt hl h2
  have := nodup_le n _ h2 (hall t v hv h1)
  exact ⟨t, h1, by simp at this; omega⟩
theorem sw_first {l : List Eg} {s s' : Nat} {e : Eg} (he : e ∈ l) (hj : Jn e s' s) : ∀ {L : List Nat} {v c : Nat}, SW l s (v :: L) c → ∃ L', SW l s' (v :: L') (c + e.2.2)
  | [], v, c, h => by
    obtain ⟨rfl, rfl⟩ := h
    exact ⟨[s'], (SW.one l s').cons he hj⟩
  | u :: t, v, c, h => by
    obtain ⟨e', he', hj', c', hc, h'⟩ := h
    obtain ⟨L', h1⟩ := sw_first he hj h'
    refine ⟨u :: L', ?_⟩
    have := h1.cons he' hj'
    rwa [show c' + e.2.2 + e'.2.2 = c + e.2.2 by omega] at this
theorem sw_back {l : List Eg} {s : Nat} : ∀ {L : List Nat} {v c : Nat}, SW l s (v :: L) c → ∃ L', SW l v (s :: L') c
  | [], v, c, h => by
    obtain ⟨rfl, rfl⟩ := h
    exact ⟨[], SW.one l v⟩
  | u :: t, v, c, h => by
    obtain ⟨e', he', hj', c', hc, h'⟩ := h
    obtain ⟨L', h1⟩ := sw_back h'
    obtain ⟨L'', h2⟩ := sw_first he' hj'.symm h1
    exact ⟨L'', hc ▸ h2⟩
def rel1 (d : List Int) (a b w : Nat) : List Int := if 0 ≤ at' d a ∧ (at' d b < 0 ∨ at' d a + w < at' d b) then d.set b (at' d a + w) else d
def relE (d : List Int) (e : Eg) : List Int := rel1 (rel1 d e.1 e.2.1 e.2.2) e.2.1 e.1 e.2.2
def relL (d : List Int) (l : List Eg) : List Int := l.foldl relE d
def relN (l : List Eg) (d : List Int) : Nat → List Int
  | 0 => d
  | i + 1 => relL (relN l d i) l
theorem rel1_len (d : List Int) (a b w : Nat) : (rel1 d a b w).length = d.length := by unfold rel1; split <;> simp
theorem relE_len (d : List Int) (e : Eg) : (relE d e).length = d.length := by unfold relE; rw [rel1_len, rel1_len]
theorem relL_len : ∀ (l : List Eg) (d : List Int), (relL d l).length = d.length
  | [], _ => rfl
  | e :: l, d => (relL_len l (relE d e)).trans (relE_len d e)
theorem relN_len (l : List Eg) (d : List Int) : ∀ i, (relN l d i).length = d.length
  | 0 => rfl
  | i + 1 => (relL_len l _).trans (relN_len l d i)
theorem relL_step {d : List Int} {l : List Eg} {k : Nat} (h : k < l.length) : relL d (l.take (k + 1)) = relE (relL d (l.take k)) l[k] := by
  unfold relL
  rw [List.take_succ_eq_append_getElem h, List.foldl_append]
  rfl
structure BF (l : List Eg) (s n : Nat) (b : Nat) (d : List Int) : Prop where
  len : d.length = n
  zero : at' d s = 0
  reach : ∀ v, v < n → at' d v = -1 ∨ ∃ L, ∃ c : Nat, at' d v = c ∧ SW l s (v :: L) c
  few : ∀ v, at' d v ≤ b
theorem BF.mono {l : List Eg} {s n b b' : Nat} {d : List Int} (h : BF l s n b d) (hb : b ≤ b') : BF l s n b' d := ⟨h.len, h.zero, h.reach, fun v => by have := h.few v; omega⟩
theorem BF.rel1 {l : List Eg} {s n b : Nat} {d : List Int} (h : BF l s n b d) {e : Eg} (he : e ∈ l) {x y : Nat} (hj : Jn e x y) (hx : x < n) (hy : y < n) : BF l s n (b + e.2.2) (rel1 d x y e.2.2) := by
  unfold Go.Proofs.YtalflecmadacaaaGreat.rel1
  split
  · rename_i hc
    have hlt : y < d.length := by rw [h.len]; exact hy
    refine ⟨by simp [h.len], ?_, fun v hv => ?_, fun v => ?_⟩
    · rw [at_set _ hlt]
      split
      · rename_i e'; subst e'; have := h.zero; omega
      · exact h.zero
    · rw [at_set _ hlt]
      split
      · rename_i e'; subst e'
        rcases h.reach x hx with h1 | ⟨L, c, h1, h2⟩
        · omega
        · exact .inr ⟨_, c + e.2.2, by omega, h2.cons he hj⟩
      · exact h.reach v hv
    · rw [at_set _ hlt]
      have := h.few v
      have := h.few x
      split <;> omega
  · exact h.mono (by omega)
theorem BF.relE {l : List Eg} {s n b : Nat} {d : List Int} (h : BF l s n b d) {e : Eg} (he : e ∈ l) (hl : ∀ e ∈ l, e.1 < n ∧ e.2.1 < n) : BF l s n (b + 2 * e.2.2) (relE d e) := by
  have h1 := h.rel1 he (.inl ⟨rfl, rfl⟩) (hl e he).1 (hl e he).2
  have h2 := h1.rel1 he (.inr ⟨rfl, rfl⟩) (hl e he).2 (hl e he).1
  exact h2.mono (by omega)
theorem BF.relL {l : List Eg} {s n b M : Nat} {d : List Int} (h : BF l s n b d) (hl : ∀ e ∈ l, e.1 < n ∧ e.2.1 < n) (hM : ∀ e ∈ l, e.2.2 ≤ M) : ∀ k, k ≤ l.length → BF l s n (b + k * (2 * M)) (relL d (l.take k))
  | 0, _ => by simpa [Go.Proofs.YtalflecmadacaaaGreat.relL] using h
  | k + 1, hk => by
    have h1 := BF.relL h hl hM k (by omega)
    have hm := List.getElem_mem (l := l) (n := k) (by omega)
    rw [relL_step (by omega)]
    refine (h1.relE hm hl).mono ?_
    have := hM _ hm
    have e1 : (k + 1) * (2 * M) = k * (2 * M) + 2 * M := Nat.succ_mul _ _
    omega
theorem BF.relN {l : List Eg} {s n b M : Nat} {d : List Int} (h : BF l s n b d) (hl : ∀ e ∈ l, e.1 < n ∧ e.2.1 < n) (hM : ∀ e ∈ l, e.2.2 ≤ M) : ∀ i, BF l s n (b + i * (l.length * (2 * M))) (relN l d i)
  | 0 => by simpa [Go.Proofs.YtalflecmadacaaaGreat.relN] using h
  | i + 1 => by
    have h1 := (BF.relN h hl hM i).relL hl hM l.length (Nat.le_refl _)
    rw [List.take_length] at h1
    refine BF.mono h1 ?_
    have e1 : (i + 1) * (l.length * (2 * M)) = i * (l.length * (2 * M)) + l.length * (2 * M) := Nat.succ_mul _ _
    omega
def Mn (d d' : List Int) : Prop := ∀ v, 0 ≤ at' d v → 0 ≤ at' d' v ∧ at' d' v ≤ at' d v
theorem Mn.refl (d : List Int) : Mn d d := fun _ h => ⟨h, Int.le_refl _⟩
theorem Mn.trans {a b c : List Int} (h : Mn a b) (h' : Mn b c) : Mn a c := fun v hv => by
  have := h v hv
  have := h' v this.1
  omega
theorem rel1_mn (d : List Int) {a b w : Nat} (hb : b < d.length) : Mn d (rel1 d a b w) ∧ (0 ≤ at' d a → 0 ≤ at' (rel1 d a b w) b ∧ at' (rel1 d a b w) b ≤ at' d a + w) := by
  unfold rel1
  split
  · rename_i hc
    refine ⟨fun v hv => ?_, fun h => ?_⟩
    · rw [at_set _ hb]
      split
      · rename_i e; subst e; omega
      · omega
    · rw [at_set _ hb, if_pos rfl]; omega
  · exact ⟨Mn.refl d, fun h => by omega⟩
theorem relE_mn (d : List Int) (e : Eg) (h1 : e.1 < d.length) (h2 : e.2.1 < d.length) : Mn d (relE d e) ∧ ∀ a b, Jn e a b → 0 ≤ at' d a → 0 ≤ at' (relE d e) b ∧ at' (relE d e) b ≤ at' d a + e.2.2 := by
  unfold relE
  obtain ⟨m1, k1⟩ := rel1_mn d (a := e.1) (w := e.2.2) h2
  obtain ⟨m2, k2⟩ := rel1_mn (rel1 d e.1 e.2.1 e.2.2) (a := e.2.1) (w := e.2.2) (b := e.1) (by rw [rel1_len]; exact h1)
  refine ⟨m1.trans m2, fun a b hj ha => ?_⟩
  rcases hj with ⟨rfl, rfl⟩ | ⟨rfl, rfl⟩
  · have x := k1 ha
    have := m2 _ x.1
    omega
  · have x := m1 _ ha
    have := k2 x.1
    omega
theorem relL_mn : ∀ (l : List Eg) (d : List Int), (∀ e ∈ l, e.1 < d.length ∧ e.2.1 < d.length) → Mn d (relL d l) ∧ ∀ e ∈ l, ∀ a b, Jn e a b → 0 ≤ at' d a → 0 ≤ at' (relL d l) b ∧ at' (relL d l) b ≤ at' d a + e.2.2
  | [], d, _ => ⟨Mn.refl d, fun e he => by simp at he⟩
  | e :: l, d, h => by
    obtain ⟨m1, k1⟩ := relE_mn d e (h e (by simp)).1 (h e (by simp)).2
    obtain ⟨m2, k2⟩ := relL_mn l (relE d e) (fun x hx => by rw [relE_len]; exact h x (by simp [hx]))
    refine ⟨m1.trans m2, fun x hx a b hj ha => ?_⟩
    rcases List.mem_cons.1 hx with rfl | hx
    · have y := k1 a b hj ha
      have := m2 _ y.1
      show 0 ≤ at' (relL (relE d x) l) b ∧ at' (relL (relE d x) l) b ≤ _
      omega
    · have y := m1 _ ha
      have := k2 x hx a b hj y.1
      show 0 ≤ at' (relL (relE d e) l) b ∧ at' (relL (relE d e) l) b ≤ _
      omega
theorem relN_walk {l : List Eg} {s n : Nat} {d : List Int} {b M : Nat} (h : BF l s n b d) (hl : ∀ e ∈ l, e.1 < n ∧ e.2.1 < n) (hM : ∀ e ∈ l, e.2.2 ≤ M) : ∀ (i : Nat) (L : List Nat) (v c : Nat), L.length ≤ i → SW l s (v :: L) c → 0 ≤ at' (relN l d i) v ∧ at' (relN l d i) v ≤ c := by
  intro i
  induction i with
  | zero =>
    intro L v c hL hw
    obtain rfl := List.eq_nil_of_length_eq_zero (Nat.le_zero.1 hL)
    obtain ⟨rfl, rfl⟩ := hw
    have : at' (relN l d 0) v = 0 := h.zero
    omega
  | succ i ih =>
    intro L v c hL hw
    have hB := h.relN hl hM (i + 1)
    match L, hw with
    | [], hw =>
      obtain ⟨rfl, rfl⟩ := hw
      have := hB.zero
      omega
    | u :: t, hw =>
      obtain ⟨e, he, hj, c', hc, h'⟩ := hw
      have h1 := ih t u c' (by simp at hL; omega) h'
      have h2 := (relL_mn l (relN l d i) (fun x hx => by rw [relN_len, h.len]; exact hl x hx)).2 e he u v hj h1.1
      show 0 ≤ at' (relL (relN l d i) l) v ∧ at' (relL (relN l d i) l) v ≤ c
      omega
theorem relN_isD {l : List Eg} {s n : Nat} {d : List Int} {b M : Nat} (hs : s < n) (h : BF l s n b d) (hl : ∀ e ∈ l, e.1 < n ∧ e.2.1 < n) (hM : ∀ e ∈ l, e.2.2 ≤ M) : IsD l s n (relN l d n) := by
  have hB := h.relN hl hM n
  have hle : ∀ L v c, SW l s (v :: L) c → 0 ≤ at' (relN l d n) v ∧ at' (relN l d n) v ≤ c := by
    intro L v c hw
    obtain ⟨t, c', h1, h2, h3⟩ := sw_simple hw
    have h4 := nodup_le n _ h3 (sw_lt hl hs h1)
    have := relN_walk h hl hM n t v c' (by simp at h4; omega) h1
    omega
  refine ⟨hB.len, fun v hv => ?_⟩
  rcases hB.reach v hv with h1 | ⟨L, c, h1, h2⟩
  · exact .inl ⟨h1, fun L c hw => by have := hle L v c hw; omega⟩
  · exact .inr ⟨c, h1, ⟨L, h2⟩, fun L' c' hw => by have := hle L' v c' hw; omega⟩
def negs (n : Nat) : List Int := List.replicate n (-1)
theorem at_negs (n v : Nat) : at' (negs n) v = -1 := by
  unfold at' negs
  by_cases h : v < n
  · simp [h]
  · simp [List.getD, h]
def dist0 (n s : Nat) : List Int := (negs n).set s 0
theorem dist0_bf (l : List Eg) {s n : Nat} (hs : s < n) : BF l s n 0 (dist0 n s) := by
  have hlen : s < (negs n).length := by simpa [negs] using hs
  refine ⟨by simp [dist0, negs], ?_, fun v hv => ?_, fun v => ?_⟩
  · unfold dist0; rw [at_set _ hlen, if_pos rfl]
  · unfold dist0; rw [at_set _ hlen]
    split
    · rename_i e; subst e; exact .inr ⟨[], 0, rfl, SW.one l v⟩
    · exact .inl (at_negs n v)
  · unfold dist0; rw [at_set _ hlen, at_negs]; split <;> omega
end Go.Proofs.YtalflecmadacaaaGreat
namespace Go.Proofs.YtalflecmadacaaaGreat
theorem sw_app {l : List Eg} {u v : Nat} {L' : List Nat} {c' : Nat} (h' : SW l u (v :: L') c') : ∀ {L : List Nat} {w c : Nat}, SW l v (w :: L) c → ∃ L'', SW l u (w :: L'') (c' + c)
 | [], w, c, h => by
  obtain ⟨rfl, rfl⟩ := h
  exact ⟨L', h'⟩
 | x :: t, w, c, h => by
  obtain ⟨e, he, hj, c1, rfl, h1⟩ := h
  obtain ⟨L2, h2⟩ := sw_app h' h1
  exact ⟨x :: L2, by rw [← Nat.add_assoc]; exact h2.cons he hj⟩
def ConnT (l : List Eg) (u v : Nat) : Prop := ∃ L c, SW l u (v :: L) c
theorem ConnT.refl (l : List Eg) (u : Nat) : ConnT l u u := ⟨[], 0, SW.one l u⟩
theorem ConnT.symm {l : List Eg} {u v : Nat} (h : ConnT l u v) : ConnT l v u := by
 obtain ⟨L, c, h⟩ := h
 obtain ⟨L', h'⟩ := sw_back h
 exact ⟨L', c, h'⟩
theorem ConnT.trans {l : List Eg} {u v w : Nat} (h : ConnT l u v) (h' : ConnT l v w) : ConnT l u w := by
 obtain ⟨L, c, h⟩ := h
 obtain ⟨L', c', h'⟩ := h'
 obtain ⟨L2, h2⟩ := sw_app h h'
 exact ⟨L2, _, h2⟩
theorem ConnT.edge {l : List Eg} {e : Eg} (he : e ∈ l) : ConnT l e.1 e.2.1 := ⟨[e.1], _, (SW.one l e.1).cons he (.inl ⟨rfl, rfl⟩)⟩
theorem conn_keepT {l : List Eg} {R : Nat → Nat} (hR : ∀ e ∈ l, R e.1 = R e.2.1) {u : Nat} : ∀ {L : List Nat} {v c : Nat}, SW l u (v :: L) c → R v = R u
 | [], v, c, h => by rw [h.1]
 | x :: t, v, c, h => by
  obtain ⟨e, he, hj, c1, _, h1⟩ := h
  rw [← conn_keepT hR h1]
  have := hR e he
  rcases hj with ⟨a, b⟩ | ⟨a, b⟩
  ·rw [← a, ← b]; exact this.symm
  ·rw [← a, ← b]; exact this
def pf (P : List Nat) (v : Nat) : Nat := P.getD v 0
theorem pf_set {P : List Nat} {v x u : Nat} (h : v < P.length) : pf (P.set v x) u = if u = v then x else pf P u := by
 unfold pf
 by_cases e : u = v
 ·subst e; simp [List.getD, h]
 ·rw [if_neg e]; simp [List.getD, List.getElem?_set_ne (Ne.symm e)]
theorem pf_get? {P : List Nat} {v : Nat} (h : v < P.length) : P[v]? = some (pf P v) := by simp [pf, h]
structure UF (l : List Eg) (N k : Nat) (P : List Nat) (R : Nat → Nat) : Prop where
 len : P.length = N
 le : ∀ v, v < N → pf P v ≤ v
 par : ∀ v, v < N → R (pf P v) = R v
 root : ∀ v, v < N → pf P v = v → R v = v
 low : ∀ v, v < N → R v ≤ v
 conn : ∀ v, v < N → ConnT l v (R v)
 done : ∀ i, i < k → ∀ e, l[i]? = some e → R e.1 = R e.2.1
theorem UF.start (l : List Eg) (N : Nat) : UF l N 0 (List.range N) id :=
 ⟨by simp, fun v hv => by simp [pf, hv], fun v hv => by simp [pf, hv], fun _ _ _ => rfl, fun _ _ => Nat.le_refl _, fun v _ => ConnT.refl l v, fun i hi => absurd hi (by omega)⟩
theorem UF.half {l : List Eg} {N k : Nat} {P : List Nat} {R : Nat → Nat} (h : UF l N k P R) {v : Nat} (hv : v < N) : UF l N k (P.set v (pf P (pf P v))) R := by
 have hl : v < P.length := by rw [h.len]; exact hv
 have h1 := h.le v hv
 have h2 := h.le (pf P v) (by omega)
 refine ⟨by rw [List.length_set]; exact h.len, fun u hu => ?_, fun u hu => ?_, fun u hu he => ?_, h.low, h.conn, h.done⟩
 ·rw [pf_set hl]; split
  ·omega
  ·exact h.le u hu
 ·rw [pf_set hl]; split
  ·next e => subst e; rw [h.par _ (by omega), h.par _ hv]
  ·exact h.par u hu
 ·rw [pf_set hl] at he
  split at he
  ·next e => subst e; exact h.root u hv (by omega)
  ·exact h.root u hu he
theorem UF.rooted {l : List Eg} {N k : Nat} {P : List Nat} {R : Nat → Nat} (h : UF l N k P R) {a : Nat} (ha : a < N) (hr : R a = a) : pf P a = a := by
 have h1 := h.le a ha
 have h2 := h.par a ha
 have h3 := h.low (pf P a) (by omega)
 omega
theorem UF.stays {l : List Eg} {N k : Nat} {P : List Nat} {R : Nat → Nat} (h : UF l N k P R) {v : Nat} (hv : v < N) {i : Nat} (hi : i < N) (he : pf P i = R i) : pf (P.set v (pf P (pf P v))) i = R i := by
 have hl : v < P.length := by rw [h.len]; exact hv
 rw [pf_set hl]
 split
 ·next e =>
  subst e
  have h1 := h.par i hi
  have h2 := h.le i hi
  rw [he] at h1 ⊢
  exact h.rooted (by omega) h1
 ·exact he
theorem UF.join {l : List Eg} {N k : Nat} {P : List Nat} {R : Nat → Nat} (h : UF l N k P R) {a b : Nat} (ha : a < N) (hb : b < N) (pa : pf P a = a) (pb : pf P b = b) {e : Eg} (he : l[k]? = some e) (ea : R e.1 = a) (eb : R e.2.1 = b) (h1 : e.1 < N) (h2 : e.2.1 < N) :
  UF l N (k + 1) (P.set (max a b) (min a b)) (fun w => if R w = max a b then min a b else R w) := by
 have hl : max a b < P.length := by rw [h.len]; omega
 have ra := h.root a ha pa
 have rb := h.root b hb pb
 have rmn : R (min a b) = min a b := by
  rcases Nat.le_total a b with k | k
  ·rw [Nat.min_eq_left k]; exact ra
  ·rw [Nat.min_eq_right k]; exact rb
 have rmx : R (max a b) = max a b := by
  rcases Nat.le_total a b with k | k
  ·rw [Nat.max_eq_right k]; exact rb
  ·rw [Nat.max_eq_left k]; exact ra
 have hmm : min a b ≤ max a b := by omega
 have cab : ConnT l a b := by
  have c0 := ConnT.edge (List.mem_of_getElem? he)
  have c1 := h.conn e.1 h1
  have c2 := h.conn e.2.1 h2
  rw [ea] at c1
  rw [eb] at c2
  exact c1.symm.trans (c0.trans c2)
 have cmm : ConnT l (max a b) (min a b) := by
  rcases Nat.le_total a b with k | k
  ·rw [Nat.max_eq_right k, Nat.min_eq_left k]; exact cab.symm
  ·rw [Nat.max_eq_left k, Nat.min_eq_right k]; exact cab
 refine ⟨by rw [List.length_set]; exact h.len, fun u hu => ?_, fun u hu => ?_, fun u hu he' => ?_, fun u hu => ?_, fun u hu => ?_, fun i hi e' he' => ?_⟩
 ·rw [pf_set hl]; split
  ·omega
  ·exact h.le u hu
 ·rw [pf_set hl]
  show (if R (if u = max a b then min a b else pf P u) = max a b then min a b else R (if u = max a b then min a b else pf P u)) = if R u = max a b then min a b else R u
  by_cases eu : u = max a b
  ·rw [if_pos eu, rmn, eu, rmx, if_pos rfl]
   by_cases k : min a b = max a b
   ·rw [if_pos k]
   ·rw [if_neg k]
  ·rw [if_neg eu, h.par u hu]
 ·show (if R u = max a b then min a b else R u) = u
  rw [pf_set hl] at he'
  by_cases eu : u = max a b
  ·rw [if_pos eu] at he'
   rw [eu, rmx, if_pos rfl, he', eu]
  ·rw [if_neg eu] at he'
   have := h.root u hu he'
   rw [this, if_neg eu]
 ·show (if R u = max a b then min a b else R u) ≤ u
  have := h.low u hu
  split <;> omega
 ·show ConnT l u (if R u = max a b then min a b else R u)
  split
  ·next k => have := h.conn u hu; rw [k] at this; exact this.trans cmm
  ·exact h.conn u hu
 ·show (if R e'.1 = max a b then min a b else R e'.1) = if R e'.2.1 = max a b then min a b else R e'.2.1
  by_cases ik : i = k
  ·subst ik
   rw [he] at he'
   cases he'
   rw [ea, eb]
   rcases Nat.le_total a b with k | k
   ·rw [Nat.max_eq_right k, Nat.min_eq_left k, if_pos rfl]; split <;> omega
   ·rw [Nat.max_eq_left k, Nat.min_eq_right k, if_pos rfl]; split <;> omega
  ·rw [h.done i (by omega) e' he']
theorem UF.all {l : List Eg} {N : Nat} {P : List Nat} {R : Nat → Nat} (h : UF l N l.length P R) : ∀ e ∈ l, R e.1 = R e.2.1 := fun e he => by
 obtain ⟨i, hi, rfl⟩ := List.getElem_of_mem he
 exact h.done i hi _ (List.getElem?_eq_getElem hi)
theorem UF.iff {l : List Eg} {N : Nat} {P : List Nat} {R : Nat → Nat} (h : UF l N l.length P R) {u v : Nat} (hu : u < N) (hv : v < N) : R u = R v ↔ ConnT l u v := by
 constructor
 ·intro e
  have h1 := h.conn u hu
  rw [e] at h1
  exact h1.trans (h.conn v hv).symm
 ·rintro ⟨L, c, h'⟩
  exact (conn_keepT h.all h').symm
theorem UF.twice {l : List Eg} {N : Nat} {P : List Nat} {R : Nat → Nat} (h : UF l N l.length P R) {v : Nat} (hv : v < N) : R (R v) = R v := by
 obtain ⟨L, c, h'⟩ := h.conn v hv
 exact conn_keepT h.all h'
theorem UF.flat {l : List Eg} {N : Nat} {P : List Nat} {R : Nat → Nat} (h : UF l N l.length P R) {v : Nat} (hv : v < N) : UF l N l.length (P.set v (R v)) R := by
 have hl : v < P.length := by rw [h.len]; exact hv
 refine ⟨by rw [List.length_set]; exact h.len, fun u hu => ?_, fun u hu => ?_, fun u hu he => ?_, h.low, h.conn, h.done⟩
 ·rw [pf_set hl]; split
  ·next e => subst e; exact h.low u hv
  ·exact h.le u hu
 ·rw [pf_set hl]; split
  ·next e => subst e; exact h.twice hv
  ·exact h.par u hu
 ·rw [pf_set hl] at he
  split at he
  ·next e => subst e; exact he
  ·exact h.root u hu he
structure LeadP (l : List Eg) (N : Nat) (R : Nat → Nat) : Prop where
 low : ∀ v, v < N → R v ≤ v
 all : ∀ e ∈ l, R e.1 = R e.2.1
 iff : ∀ u v, u < N → v < N → (R u = R v ↔ ConnT l u v)
theorem UF.lead {l : List Eg} {N : Nat} {P : List Nat} {R : Nat → Nat} (h : UF l N l.length P R) : LeadP l N R := ⟨h.low, h.all, fun _ _ hu hv => h.iff hu hv⟩
end Go.Proofs.YtalflecmadacaaaGreat
namespace Go.Proofs.YtalflecmadacaaaGreat
open Go Go.Proofs Go.RowKit
structure Tch (g : Nat) (A B : World) : Prop where
 os : B.os = A.os
 tape : B.tape = A.tape
 output : B.output = A.output
 size : A.heap.size ≤ B.heap.size
 block : ∀ k, k < A.heap.size → k ≠ g → B.heap[k]? = A.heap[k]?
theorem Tch.refl (g : Nat) (A : World) : Tch g A A := ⟨rfl, rfl, rfl, Nat.le_refl _, fun _ _ _ => rfl⟩
theorem Tch.trans {g : Nat} {A B C : World} (h : Tch g A B) (h' : Tch g B C) : Tch g A C :=
 ⟨h'.os.trans h.os, h'.tape.trans h.tape, h'.output.trans h.output, Nat.le_trans h.size h'.size, fun k hk hg => (h'.block k (Nat.lt_of_lt_of_le hk h.size) hg).trans (h.block k hk hg)⟩
theorem Tch.drew {g : Nat} {A B : World} (h : Tch g A B) : Tch g A B.drew := ⟨h.os, h.tape, h.output, h.size, h.block⟩
theorem Tch.set {g : Nat} {A B : World} (h : Tch g A B) (j : Nat) (v : Value) : Tch g A (B.setCell ⟨g, j, none⟩ v) :=
 ⟨h.os, h.tape, h.output, by simpa using h.size, fun k hk hg => (heap_setCell_other _ ⟨g, j, none⟩ k _ hg).trans (h.block k hk hg)⟩
theorem Tch.below {g n : Nat} {w A B : World} (hb : Below n w A) (h : Tch g A B) (hg : n ≤ g) (hn : n ≤ A.heap.size) : Below n w B :=
 ⟨h.os.trans hb.os, h.tape.trans hb.tape, h.output.trans hb.output, Nat.le_trans hb.size h.size, fun k hk => (h.block k (by omega) (by omega)).trans (hb.block k hk)⟩
theorem Tch.of_below {g : Nat} {A B : World} (h : Below A.heap.size A B) : Tch g A B := ⟨h.os, h.tape, h.output, h.size, fun k hk _ => h.block k hk⟩
theorem Tch.cell {g : Nat} {A B : World} (h : Tch g A B) {b o : Nat} {v : Value} (hv : A.cell? ⟨b, o, none⟩ = some v) (hb : b ≠ g) : B.cell? ⟨b, o, none⟩ = some v :=
 (World.cell?_of_block (a := ⟨b, o, none⟩) (h.block b (World.block_lt_of_cell? A _ hv) hb)).trans hv
def natsV (P : List Nat) : List Value := P.map fun x : Nat => Value.int .i64 (x : Int)
theorem natsV_set (P : List Nat) (v x : Nat) : natsV (P.set v x) = (natsV P).set v (.int .i64 (x : Int)) := by simp [natsV, List.map_set]
theorem natsV_at {P : List Nat} {v : Nat} (h : v < P.length) : (natsV P)[v]? = some (.int .i64 (pf P v : Int)) := by
 unfold natsV
 rw [List.getElem?_map, pf_get? h]; rfl
theorem find_any (l : List Eg) (N k : Nat) (P : List Nat) (R : Nat → Nat) (hU : UF l N k P R) (v : Nat) (hv : v < N) (lb g : Nat) (hne : lb ≠ g) (w : World) (hlb : w.cell? ⟨lb, 0, none⟩ = some (.slice (some ⟨g, 0, none⟩) N N)) (hB : Blk 3 w g (natsV P)) :
  Calls Tryz.prog 84 #[.int .i64 (v : Int), .pointer (some ⟨lb, 0, none⟩)] w fun e w' => e = .returned (.int .i64 (R v : Int)) ∧ ∃ P', UF l N k P' R ∧ pf P' (R v) = R v ∧ (∀ i, i < N → pf P i = R i → pf P' i = R i) ∧ Blk 3 w' g (natsV P') ∧ Tch g w w' := by
 have hmix := mixed
 have HU : Hid _ := hU
 have HBk : Hid _ := hB
 clear hU hB
 go_enter Tryz.func84, Tryz.ntmps84
 go_wp2
 go_loopw [0] (fun t wr => ∃ (x : Nat) (P' : List Nat), t = .int .i64 (x : Int) ∧ x < N ∧ Hid (R x = R v) ∧ Hid (UF l N k P' R) ∧ Hid (∀ i, i < N → pf P i = R i → pf P' i = R i) ∧ Hid (Blk 3 wr g (natsV P')) ∧ Hid (Tch g w wr)) (fun t _ => (intOf t).toNat)
 case atStart => exact ⟨v, P, rfl, hv, rfl, HU, fun _ _ h => h, HBk, Tch.refl _ _⟩
 case round =>
  obtain ⟨x, P', rfl, hx, HR, HU', HS', HB', HT⟩ := hrel
  have hl : P'.length = N := HU'.out.len
  have hxP : x < P'.length := by omega
  have hy := HU'.out.le x hx
  have c0 := HT.out.cell hlb hne
  have c1 : wr.cell? ⟨g, x, none⟩ = some (.int .i64 (pf P' x : Int)) := HB'.out.cell (natsV_at hxP)
  have c2 : wr.cell? ⟨g, pf P' x, none⟩ = some (.int .i64 (pf P' (pf P' x) : Int)) := HB'.out.cell (natsV_at (by omega))
  have f1 := HB'.out.frozen x
  have hxi : (x : Int) < (N : Int) := by omega
  have hyi : (pf P' x : Int) < (N : Int) := by omega
  have Hl : Hid _ := hl
  have HPx : Hid _ := hxP
  clear hl hxP
  by_cases he : pf P' x = x
  ·have heb : ((pf P' x : Int) == (x : Int)) = true := by rw [he]; simp
   have HE : Hid _ := he
   clear he c2
   go_wp2
   go_ret
   have hrx := HU'.out.root x hx HE.out
   have e1 : R v = x := HR.out.symm.trans hrx
   exact ⟨by rw [e1]; rfl, P', HU'.out, by rw [e1]; exact HE.out, HS'.out, HB'.out, HT.out⟩
  ·have heb : ((pf P' x : Int) == (x : Int)) = false := by rw [beq_eq_false_iff_ne]; omega
   have hlt : pf P' x < x := by omega
   have hz := HU'.out.le (pf P' x) (by omega)
   have HU2 : Hid _ := HU'.out.half hx
   have HS2 : Hid (∀ i, i < N → pf P i = R i → pf (P'.set x (pf P' (pf P' x))) i = R i) := fun i hi h => HU'.out.stays hx hi (HS'.out i hi h)
   have HB2 : Hid (Blk 3 (wr.setCell ⟨g, x, none⟩ (.int .i64 (pf P' (pf P' x) : Int))) g (natsV (P'.set x (pf P' (pf P' x))))) := by
    have := HB'.out.set x (.int .i64 (pf P' (pf P' x) : Int))
    rw [← natsV_set] at this
    exact this
   have HT2 : Hid _ := HT.out.set x (.int .i64 (pf P' (pf P' x) : Int))
   have HRz : Hid (R (pf P' (pf P' x)) = R v) := by
    show R (pf P' (pf P' x)) = R v
    rw [HU'.out.par _ (by omega), HU'.out.par _ hx]; exact HR.out
   have Hset : Hid (pf (P'.set x (pf P' (pf P' x))) x = pf P' (pf P' x)) := by
    show pf (P'.set x (pf P' (pf P' x))) x = pf P' (pf P' x)
    rw [pf_set HPx.out, if_pos rfl]
   generalize hy1 : pf P' x = y at *
   generalize hz1 : pf P' y = z at *
   clear he hy1 hz1
   go_wp2
   go_big_region_o
   go_wp2
   go_roundw
   case rel => exact ⟨z, _, rfl, by omega, HRz, HU2, HS2, HB2, HT2.out.drew⟩
   case measure => simp [intOf]; omega
end Go.Proofs.YtalflecmadacaaaGreat
