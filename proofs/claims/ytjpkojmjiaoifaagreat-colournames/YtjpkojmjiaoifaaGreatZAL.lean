import Derived.BigQuiet
import Derived.Test.YtjpkojmjiaoifaaGreatZAG
import Derived.Test.YtjpkojmjiaoifaaGreatZAK
import Derived.Test.YtjpkojmjiaoifaaGreatXPGrp
namespace Go.Proofs.YtjpkojmjiaoifaaGreat
open Go Go.Proofs Go.RowKit Go.Maps
def nbN (N : List (Option (List Int))) (x : Int) : List Int := (N.getD x.toNat none).getD []
theorem NM.cell {g : Nat} {bs : List (Option Nat)} {N : List (Option (List Int))} {W : World} (h : NM g bs N W) {k : Nat} {S : List Int} (hk : N[k]? = some (some S)) : ∃ b, bs[k]? = some (some b) ∧ SetM W b S ∧ W.cell? ⟨g, k, none⟩ = some (.map (some b)) ∧ k < N.length := by
 obtain ⟨b, h1, h2⟩ := h.at' k S hk
 exact ⟨b, h1, h2, h.row.cell (by rw [List.getElem?_map, h1]; rfl), (List.getElem?_eq_some_iff.1 hk).1⟩
set_option maxRecDepth 100000 in
set_option maxHeartbeats 4000000 in
theorem apart_any (sb g : Nat) (bs : List (Option Nat)) (N : List (Option (List Int))) (L : List Int) (sv : Value) (w : World) (hV : w.cell? ⟨sb, 0, none⟩ = some (.slice (some ⟨g, 0, none⟩) N.length N.length)) (hN : NM g bs N w) (hL : Ints w.heap.size w sv L)
  (hin : ∀ x ∈ L, 0 ≤ x ∧ (Lit.int .i64 x).wf = true ∧ ∃ S, N[x.toNat]? = some (some S)) (hLb : L.length ≤ 1048576) (hsb : sb < w.heap.size) :
  Calls Tryz.prog 43 #[.pointer (some ⟨sb, 0, none⟩), sv] w fun e w' => ∃ x y : Int, e = .returned (.tuple #[.int .i64 x, .int .i64 y]) ∧ ((∃ a b : Nat, a < b ∧ L[a]? = some x ∧ L[b]? = some y ∧ y ∉ nbN N x) ∨ ∀ (a b : Nat) (p q : Int), a < b → L[a]? = some p → L[b]? = some q → q ∈ nbN N p) ∧ Below w.heap.size w w' := by
 obtain ⟨p, c, rfl⟩ := hL.len
 have HI : Hid (Ints w.heap.size w (.slice p L.length c) L) := hL
 have HN : Hid (NM g bs N w) := hN
 have HIN : Hid (∀ x ∈ L, 0 ≤ x ∧ (Lit.int .i64 x).wf = true ∧ ∃ S, N[x.toNat]? = some (some S)) := hin
 have HV : Hid (w.cell? ⟨sb, 0, none⟩ = some (.slice (some ⟨g, 0, none⟩) N.length N.length)) := hV
 clear hL hN hin hV
 go_enter Tryz.func43, Tryz.ntmps43
 go_wp2
 go_loopw [4, 5, 12] (fun xv yv iv wr => ∃ (x y : Int) (i : Nat), i ≤ L.length ∧ xv = .int .i64 x ∧ yv = .int .i64 y ∧ iv = .int .i64 i ∧ Hid (∀ (a b : Nat) (p q : Int), b < i → a < b → L[a]? = some p → L[b]? = some q → q ∈ nbN N p) ∧ Below w.heap.size w wr) (fun _ _ iv _ => L.length - (intOf iv).toNat)
 case atStart => exact ⟨0, 0, 0, Nat.zero_le _, rfl, rfl, rfl, fun a b p q h => absurd h (Nat.not_lt_zero _), Below.refl _ _⟩
 case round =>
  obtain ⟨x0, y0, i, hi, rfl, rfl, rfl, HQ, hb⟩ := hrel
  by_cases hlt : i < L.length
  ·have hil : (i : Int) < (L.length : Int) := by omega
   have HB0 : Hid (Below w.heap.size w wr) := hb
   clear hb
   go_wp2
   go_loopw [4, 5, 16] (fun xv yv jv ws => ∃ (x y : Int) (j : Nat), j ≤ i ∧ xv = .int .i64 x ∧ yv = .int .i64 y ∧ jv = .int .i64 j ∧ Hid (∀ (a : Nat) (p q : Int), a < j → L[a]? = some p → L[i]? = some q → q ∈ nbN N p) ∧ Below w.heap.size w ws) (fun _ _ jv _ => i - (intOf jv).toNat)
   case atStart => exact ⟨x0, y0, 0, Nat.zero_le _, rfl, rfl, rfl, fun a p q h => absurd h (Nat.not_lt_zero _), HB0.out⟩
   case round =>
    clear HB0
    obtain ⟨x1, y1, j, hj, rfl, rfl, rfl, HR, hb⟩ := hrel
    by_cases hjt : j < i
    ·have hjl : (j : Int) < (i : Int) := by omega
     have hjL : j < L.length := by omega
     have hjL' : (j : Int) < (L.length : Int) := by omega
     obtain ⟨b, off, rfl, hbb, hcap, hcc⟩ := HI.out.open hlt
     have c0 := hcc _ hb i hlt
     have c1 := hcc _ hb j hjL
     obtain ⟨_, hwy, _⟩ := HIN.out _ (List.getElem_mem hlt)
     obtain ⟨hx0, _, S, hS⟩ := HIN.out _ (List.getElem_mem hjL)
     have HX : Hid (L[j]? = some L[j]) := List.getElem?_eq_getElem hjL
     have HY : Hid (L[i]? = some L[i]) := List.getElem?_eq_getElem hlt
     generalize L[i] = y at *
     generalize L[j] = x at *
     obtain ⟨k, rfl⟩ : ∃ k : Nat, x = (k : Int) := ⟨x.toNat, by omega⟩
     rw [Int.toNat_natCast] at hS
     obtain ⟨bk, _, hM, hc, hkN⟩ := HN.out.cell hS
     have hkI : (k : Int) < (N.length : Int) := by omega
     have HS : Hid (nbN N (k : Int) = S) := by unfold Hid nbN; simp [hS]
     have hcell := (hb.cell hsb).trans HV.out
     have hcm := (hb.cell (p := ⟨g, k, none⟩) HN.out.row.lt).trans hc
     have hrun := fun q : Nat => ((hM.still (hb.block _ hM.lt)).still (W' := World.drewN _ q) (by rfl)).look hwy
     have HB : Hid (Below w.heap.size w _) := hb
     have hsz : Hid (w.heap.size ≤ _) := hb.size
     clear hb hcc hc hM hS hwy
     by_cases hm : y ∈ S
     ·simp only [decide_eq_true hm] at hrun
      have HM : Hid (y ∈ S) := hm
      clear hm
      go_wp2_with (go_quiet (fail))
      refine ⟨⟨(k : Int), y, j + 1, by omega, rfl, rfl, by go_num, ?_, (below_drewN HB.out nq).alloc hsz.out _⟩, by simp [intOf]; omega⟩
      intro a p q haj ha hq
      by_cases e : a = j
      ·subst e
       rw [HX.out] at ha
       rw [HY.out] at hq
       simp only [Option.some.injEq] at ha hq
       subst ha hq
       rw [HS.out]
       exact HM.out
      ·exact HR.out a p q (by omega) ha hq
     ·simp only [decide_eq_false hm] at hrun
      have HM : Hid (y ∉ S) := hm
      clear hm
      go_wp2_with (go_quiet (fail))
      go_ret2
      exact ⟨(k : Int), y, rfl, .inl ⟨j, i, hjt, HX.out, HY.out, by rw [HS.out]; exact HM.out⟩, (below_drewN HB.out nq).alloc hsz.out _⟩
    ·have hjl : ¬ (j : Int) < (i : Int) := by omega
     have HE : Hid (j = i) := by unfold Hid; omega
     have HB : Hid (Below w.heap.size w _) := hb
     clear hb
     go_wp2
     refine ⟨⟨x1, y1, i + 1, by omega, rfl, rfl, by go_num, ?_, HB.out⟩, by simp [intOf]; omega⟩
     intro a b p q hbi hab ha hq
     by_cases e : b = i
     ·subst e; exact HR.out a p q (by rw [HE.out]; exact hab) ha hq
     ·exact HQ.out a b p q (by omega) hab ha hq
  ·have hil : ¬ (i : Int) < (L.length : Int) := by omega
   have HE : Hid (i = L.length) := by unfold Hid; omega
   have HB : Hid (Below w.heap.size w wr) := hb
   clear hb
   go_wp2
   go_ret2
   exact ⟨x0, y0, rfl, .inr fun a b p q hab ha hq => HQ.out a b p q (by rw [HE.out]; exact (List.getElem?_eq_some_iff.1 hq).1) hab ha hq, HB.out⟩
end Go.Proofs.YtjpkojmjiaoifaaGreat

namespace Go.Proofs.YtjpkojmjiaoifaaGreat
open Go Go.Proofs Go.RowKit Go.Maps
set_option maxRecDepth 100000 in
set_option maxHeartbeats 2000000 in
theorem file_big (sb g : Nat) (bs : List (Option Nat)) (N : List (Option (List Int))) (k : Nat) (S : List Int) (hS : N[k]? = some (some S)) (h5 : 5 < S.length) (w : World) (hV : w.cell? ⟨sb, 0, none⟩ = some (.slice (some ⟨g, 0, none⟩) N.length N.length)) (hN : NM g bs N w) :
  Calls Tryz.prog 40 #[.pointer (some ⟨sb, 0, none⟩), .int .i64 (k : Int)] w fun e w' => e = .returned (.tuple #[]) ∧ w' = w := by
 obtain ⟨bk, _, hM, hc, hkN⟩ := hN.cell hS
 have hkI : (k : Int) < (N.length : Int) := by omega
 have hrun := hM.len 3
 have hle : ¬ (S.length : Int) ≤ 5 := by omega
 clear hN hM hS
 go_enter Tryz.func40, Tryz.ntmps40
 go_wp2
 refine bodyPost_end (results_none rfl _ _ _) rfl ?_
 exact ⟨rfl, rfl⟩
end Go.Proofs.YtjpkojmjiaoifaaGreat

namespace Go.Proofs.YtjpkojmjiaoifaaGreat
open Go Go.Proofs Go.RowKit Go.Maps
theorem owns_agree {A B : World} {base : Nat} {e : TypeId} {size : Nat} {v : Value} {n : Nat} {xs : List Value} (h : A.ownsRow base e size v n xs) (hb : ∀ b, v.ownBlock = some b → B.heap[b]? = A.heap[b]?) : B.ownsRow base e size v n xs := by
 obtain ⟨h1, h2⟩ := h
 refine ⟨h1, ?_⟩
 rcases h2 with h2 | ⟨g, cap, cur, rfl, hbb, hg, r⟩
 ·exact .inl h2
 ·exact .inr ⟨g, cap, cur, rfl, hbb, (hb g rfl).trans hg, r⟩
abbrev StpM := Int × Value × List Int × Int
def stpC (ss : List StpM) : List Value := ss.flatMap fun s => [.int .i64 s.1, s.2.1, .int .i64 s.2.2.2]
theorem stpC_snoc (ss : List StpM) (s : StpM) : stpC (ss ++ [s]) = stpC ss ++ [.int .i64 s.1, s.2.1, .int .i64 s.2.2.2] := by simp [stpC]
structure SM (h0 sb g : Nat) (bs : List (Option Nat)) (N : List (Option (List Int))) (fs : List (Value × List Int)) (tv : Value) (ss : List StpM) (tag : Nat → Nat) (W : World) : Prop where
 var : Blk 70 W sb (.slice (some ⟨g, 0, none⟩) N.length N.length :: (fs.map Prod.fst ++ [tv]))
 nm : NM g bs N W
 f6 : fs.length = 6
 few : ∀ x ∈ fs, W.ownsRow h0 3 1 x.1 x.2.length (x.2.map (Value.int .i64))
 stp : W.ownsRow h0 74 3 tv ss.length (stpC ss)
 inn : ∀ s ∈ ss, W.ownsRow h0 3 1 s.2.1 s.2.2.1.length (s.2.2.1.map (Value.int .i64))
 tsb : tag sb = 0
 tg : tag g = 1
 tm : ∀ (v b : Nat), bs[v]? = some (some b) → tag b = 2
 tf : ∀ (i : Nat) (x : Value × List Int), fs[i]? = some x → ∀ b, x.1.ownBlock = some b → tag b = 3 + i
 tt : ∀ b, tv.ownBlock = some b → tag b = 9
 tl : ∀ s ∈ ss, ∀ b, s.2.1.ownBlock = some b → tag b = 10
 lsb : h0 ≤ sb
 lg : h0 ≤ g
 lm : ∀ (v b : Nat), bs[v]? = some (some b) → h0 ≤ b
section
variable {h0 sb g : Nat} {bs : List (Option Nat)} {N : List (Option (List Int))} {fs : List (Value × List Int)} {tv : Value} {ss : List StpM} {tag : Nat → Nat} {W W' : World}
theorem SM.mlt (h : SM h0 sb g bs N fs tv ss tag W) {v b : Nat} (hv : bs[v]? = some (some b)) : b < W.heap.size := let ⟨_, _, hs⟩ := h.nm.holds hv; hs.lt
theorem SM.still (h : SM h0 sb g bs N fs tv ss tag W) (hk : ∀ k, k < W.heap.size → W'.heap[k]? = W.heap[k]?) : SM h0 sb g bs N fs tv ss tag W' :=
 ⟨(hk sb h.var.lt).trans h.var, h.nm.still (hk g h.nm.row.lt) (fun _ b hv => hk b (h.mlt hv)), h.f6, fun x hx => owns_agree (h.few x hx) (fun b hb => hk b ((h.few x hx).lt b hb).2), owns_agree h.stp (fun b hb => hk b (h.stp.lt b hb).2), fun s hs => owns_agree (h.inn s hs) (fun b hb => hk b ((h.inn s hs).lt b hb).2), h.tsb, h.tg, h.tm, h.tf, h.tt, h.tl, h.lsb, h.lg, h.lm⟩
theorem SM.go (h : SM h0 sb g bs N fs tv ss tag W) (hb : Below W.heap.size W W') : SM h0 sb g bs N fs tv ss tag W' := h.still fun k hk => hb.block k hk
theorem SM.turn (h : SM h0 sb g bs N fs tv ss tag W) {v b : Nat} {T : List Int} (hv : bs[v]? = some (some b)) (ht : W.mapTurned W' b) (hT : SetM W' b T) : SM h0 sb g bs (N.set v (some T)) fs tv ss tag W' := by
 have hb := h.tm v b hv
 have hk : ∀ k, tag k ≠ 2 → W'.heap[k]? = W.heap[k]? := fun k hk => turned_other ht (fun e => hk (by rw [e]; exact hb))
 refine ⟨?_, h.nm.turn hv ht hT, h.f6, fun x hx => ?_, owns_agree h.stp (fun b hb => hk b (by rw [h.tt b hb]; omega)), fun s hs => owns_agree (h.inn s hs) (fun b hb => hk b (by rw [h.tl s hs b hb]; omega)), h.tsb, h.tg, h.tm, h.tf, h.tt, h.tl, h.lsb, h.lg, h.lm⟩
 ·rw [List.length_set]
  exact (hk sb (by rw [h.tsb]; omega)).trans h.var
 ·obtain ⟨i, hi, e⟩ := List.mem_iff_getElem.1 hx
  exact owns_agree (h.few x hx) (fun b hb => hk b (by rw [h.tf i x (by rw [List.getElem?_eq_getElem hi, e]) b hb]; omega))
theorem SM.leave (h : SM h0 sb g bs N fs tv ss tag W) (v : Nat) : SM h0 sb g (bs.set v none) (N.set v none) fs tv ss tag (W.setCell ⟨g, v, none⟩ (.map none)) := by
 have hk : ∀ k, tag k ≠ 1 → (W.setCell ⟨g, v, none⟩ (.map none)).heap[k]? = W.heap[k]? := fun k hk => Below.heap_setCell _ _ _ _ (fun e => hk (by rw [show k = g from e]; exact h.tg))
 have hold : ∀ {u b : Nat}, (bs.set v none)[u]? = some (some b) → bs[u]? = some (some b) := by
  intro u b hu
  by_cases e : v = u
  ·subst e
   rw [List.getElem?_set] at hu
   simp at hu
  ·rwa [List.getElem?_set_ne e] at hu
 refine ⟨?_, h.nm.leave v, h.f6, fun x hx => ?_, owns_agree h.stp (fun b hb => hk b (by rw [h.tt b hb]; omega)), fun s hs => owns_agree (h.inn s hs) (fun b hb => hk b (by rw [h.tl s hs b hb]; omega)), h.tsb, h.tg, fun u b hu => h.tm u b (hold hu), h.tf, h.tt, h.tl, h.lsb, h.lg, fun u b hu => h.lm u b (hold hu)⟩
 ·rw [List.length_set]
  exact (hk sb (by rw [h.tsb]; omega)).trans h.var
 ·obtain ⟨i, hi, e⟩ := List.mem_iff_getElem.1 hx
  exact owns_agree (h.few x hx) (fun b hb => hk b (by rw [h.tf i x (by rw [List.getElem?_eq_getElem hi, e]) b hb]; omega))
theorem NM.enter {W : World} (h : NM g bs N W) {v : Nat} (hv : v < N.length) : NM g (bs.set v (some W.heap.size)) (N.set v (some [])) ((W.alloc (.map #[] 0)).setCell ⟨g, v, none⟩ (.map (some W.heap.size))) := by
 have hgl := h.row.lt
 have hold : ∀ q, q < W.heap.size → q ≠ g → ((W.alloc (.map #[] 0)).setCell ⟨g, v, none⟩ (.map (some W.heap.size))).heap[q]? = W.heap[q]? := fun q hq hne => (Below.heap_setCell _ _ _ _ (by simpa using hne)).trans (Below.heap_alloc _ _ q hq)
 have hvb : v < bs.length := by rw [h.len]; exact hv
 have split : ∀ {u b : Nat}, (bs.set v (some W.heap.size))[u]? = some (some b) → (u = v ∧ b = W.heap.size) ∨ (u ≠ v ∧ bs[u]? = some (some b) ∧ b < W.heap.size) := by
  intro u b hu
  by_cases e : v = u
  ·subst e
   rw [List.getElem?_set_self hvb] at hu
   simp only [Option.some.injEq] at hu
   exact .inl ⟨rfl, hu.symm⟩
  ·rw [List.getElem?_set_ne e] at hu
   obtain ⟨S, _, hs⟩ := h.holds hu
   exact .inr ⟨Ne.symm e, hu, hs.lt⟩
 refine ⟨?_, by rw [List.length_set, List.length_set]; exact h.len, fun u S hu => ?_, fun u hu => ?_, fun u u' b hu hu' => ?_, fun u b hu => ?_⟩
 ·have h1 : Blk 71 (W.alloc (.map #[] 0)) g (bs.map Value.map) := (Below.heap_alloc _ _ g hgl).trans h.row
  have h2 := h1.set v (.map (some W.heap.size))
  rwa [← List.map_set] at h2
 ·by_cases e : v = u
  ·subst e
   rw [List.getElem?_set_self hv] at hu
   simp only [Option.some.injEq] at hu
   subst hu
   refine ⟨W.heap.size, List.getElem?_set_self hvb, (SetM.made W).still (Below.heap_setCell _ _ _ _ ?_)⟩
   show W.heap.size ≠ g
   omega
  ·rw [List.getElem?_set_ne e] at hu
   obtain ⟨b, h1, h2⟩ := h.at' u S hu
   exact ⟨b, by rw [List.getElem?_set_ne e]; exact h1, h2.still (hold b h2.lt (h.apart u b h1))⟩
 ·by_cases e : v = u
  ·subst e
   rw [List.getElem?_set_self hv] at hu
   simp at hu
  ·rw [List.getElem?_set_ne e] at hu ⊢
   exact h.gone u hu
 ·rcases split hu with ⟨rfl, rfl⟩ | ⟨h1, h2, h3⟩
  ·rcases split hu' with ⟨rfl, _⟩ | ⟨_, _, h3'⟩
   ·rfl
   ·omega
  ·rcases split hu' with ⟨_, rfl⟩ | ⟨_, h2', _⟩
   ·omega
   ·exact h.inj u u' b h2 h2'
 ·rcases split hu with ⟨_, rfl⟩ | ⟨_, h2, _⟩
  ·omega
  ·exact h.apart u b h2
theorem SM.enter (h : SM h0 sb g bs N fs tv ss tag W) (hh : h0 ≤ W.heap.size) {v : Nat} (hv : v < N.length) : ∃ tag', SM h0 sb g (bs.set v (some W.heap.size)) (N.set v (some [])) fs tv ss tag' ((W.alloc (.map #[] 0)).setCell ⟨g, v, none⟩ (.map (some W.heap.size))) ∧ ∀ k, k < W.heap.size → tag k = 11 → tag' k = 11 ∧ ((W.alloc (.map #[] 0)).setCell ⟨g, v, none⟩ (.map (some W.heap.size))).heap[k]? = W.heap[k]? := by
 have hk : ∀ k, k < W.heap.size → tag k ≠ 1 → ((W.alloc (.map #[] 0)).setCell ⟨g, v, none⟩ (.map (some W.heap.size))).heap[k]? = W.heap[k]? := fun k hk ht => (Below.heap_setCell _ _ _ _ (fun e => ht (by rw [show k = g from e]; exact h.tg))).trans (Below.heap_alloc _ _ k hk)
 have ht : ∀ k, k < W.heap.size → (if k = W.heap.size then 2 else tag k) = tag k := fun k hk => if_neg (by omega)
 have hvb : v < bs.length := by rw [h.nm.len]; exact hv
 have split : ∀ {u b : Nat}, (bs.set v (some W.heap.size))[u]? = some (some b) → b = W.heap.size ∨ bs[u]? = some (some b) := by
  intro u b hu
  by_cases e : v = u
  ·subst e
   rw [List.getElem?_set_self hvb] at hu
   simp only [Option.some.injEq] at hu
   exact .inl hu.symm
  ·rw [List.getElem?_set_ne e] at hu
   exact .inr hu
 refine ⟨fun k => if k = W.heap.size then 2 else tag k, ⟨?_, h.nm.enter hv, h.f6, fun x hx => ?_, owns_agree h.stp (fun b hb => hk b (h.stp.lt b hb).2 (by rw [h.tt b hb]; omega)), fun s hs => owns_agree (h.inn s hs) (fun b hb => hk b ((h.inn s hs).lt b hb).2 (by rw [h.tl s hs b hb]; omega)), (ht sb h.var.lt).trans h.tsb, (ht g h.nm.row.lt).trans h.tg, fun u b hu => ?_, fun i x hx b hb => (ht b ((h.few x (List.mem_of_getElem? hx)).lt b hb).2).trans (h.tf i x hx b hb), fun b hb => (ht b (h.stp.lt b hb).2).trans (h.tt b hb), fun s hs b hb => (ht b ((h.inn s hs).lt b hb).2).trans (h.tl s hs b hb), h.lsb, h.lg, fun u b hu => ?_⟩, fun k hk' h11 => ⟨(ht k hk').trans h11, hk k hk' (by omega)⟩⟩
 ·rw [List.length_set]
  exact (hk sb h.var.lt (by rw [h.tsb]; omega)).trans h.var
 ·obtain ⟨i, hi, e⟩ := List.mem_iff_getElem.1 hx
  exact owns_agree (h.few x hx) (fun b hb => hk b ((h.few x hx).lt b hb).2 (by rw [h.tf i x (by rw [List.getElem?_eq_getElem hi, e]) b hb]; omega))
 ·rcases split hu with rfl | h1
  ·exact if_pos rfl
  ·exact (ht b (h.mlt h1)).trans (h.tm u b h1)
 ·rcases split hu with rfl | h1
  ·exact hh
  ·exact h.lm u b h1
theorem SM.bucket (h : SM h0 sb g bs N fs tv ss tag W) {i : Nat} {x : Value × List Int} (hi : fs[i]? = some x) : W.cell? ⟨sb, 1 + i, none⟩ = some x.1 := by
 refine h.var.cell ?_
 rw [Nat.add_comm, List.getElem?_cons_succ, List.getElem?_append_left (by rw [List.length_map]; exact (List.getElem?_eq_some_iff.1 hi).1), List.getElem?_map, hi]
 rfl
theorem SM.row (h : SM h0 sb g bs N fs tv ss tag W) : W.cell? ⟨sb, 0, none⟩ = some (.slice (some ⟨g, 0, none⟩) N.length N.length) := h.var.cell (j := 0) rfl
theorem SM.steps (h : SM h0 sb g bs N fs tv ss tag W) : W.cell? ⟨sb, 7, none⟩ = some tv := by
 refine h.var.cell ?_
 rw [show (7 : Nat) = 6 + 1 from rfl, List.getElem?_cons_succ, List.getElem?_append_right (by rw [List.length_map, h.f6]; omega), List.length_map, h.f6]
 rfl
theorem SM.put (h : SM h0 sb g bs N fs tv ss tag W) {i : Nat} {x : Value × List Int} (hi : fs[i]? = some x) {W1 B : World} (hW1 : Below W.heap.size W W1) {v' : Value} {L : List Int} (hB : B.ownsRow h0 3 1 v' L.length (L.map (Value.int .i64))) (hg : W1.grownBy B x.1.ownBlock) (hat : v'.ownBlock = x.1.ownBlock ∨ v'.ownBlock = some W1.heap.size) :
  ∃ tag', SM h0 sb g bs N (fs.set i (v', L)) tv ss tag' (B.setCell ⟨sb, 1 + i, none⟩ v') ∧ ∀ k, k < W.heap.size → tag k = 11 → tag' k = 11 ∧ (B.setCell ⟨sb, 1 + i, none⟩ v').heap[k]? = W.heap[k]? := by
 have hil := (List.getElem?_eq_some_iff.1 hi).1
 have hi6 : i < 6 := by rw [← h.f6]; exact hil
 have hx : x ∈ fs := List.mem_of_getElem? hi
 have htag : ∀ k, k < W.heap.size → (if v'.ownBlock = some k then 3 + i else tag k) = tag k := by
  intro k hk
  split
  ·rename_i e
   rcases hat with e' | e'
   ·rw [e'] at e
    exact (h.tf i x hi k e).symm
   ·rw [e'] at e
    have := hW1.size
    simp only [Option.some.injEq] at e
    omega
  ·rfl
 have hag : ∀ k, k < W.heap.size → tag k ≠ 3 + i → B.heap[k]? = W.heap[k]? := by
  intro k hk ht
  refine (hg.block k (Nat.lt_of_lt_of_le hk hW1.size) (fun e => ht (h.tf i x hi k e.symm))).trans (hW1.block k hk)
 have hak : ∀ k, k < W.heap.size → tag k ≠ 3 + i → tag k ≠ 0 → (B.setCell ⟨sb, 1 + i, none⟩ v').heap[k]? = W.heap[k]? := fun k hk h1 h2 => (Below.heap_setCell _ _ _ _ (fun e => h2 (by rw [show k = sb from e]; exact h.tsb))).trans (hag k hk h1)
 refine ⟨fun k => if v'.ownBlock = some k then 3 + i else tag k, ⟨?_, ?_, by rw [List.length_set]; exact h.f6, ?_, ?_, ?_, ?_, ?_, ?_, ?_, ?_, ?_, h.lsb, h.lg, h.lm⟩, fun k hk h11 => ⟨(htag k hk).trans h11, hak k hk (by omega) (by omega)⟩⟩
 ·have h1 : Blk 70 B sb (.slice (some ⟨g, 0, none⟩) N.length N.length :: (fs.map Prod.fst ++ [tv])) := (hag sb h.var.lt (by rw [h.tsb]; omega)).trans h.var
  have h2 := h1.set (1 + i) v'
  rwa [Nat.add_comm 1 i, List.set_cons_succ, List.set_append_left _ _ (by rw [List.length_map]; exact hil), show (fs.map Prod.fst).set i v' = (fs.set i (v', L)).map Prod.fst by rw [List.map_set], Nat.add_comm i 1] at h2
 ·exact h.nm.still (hak g h.nm.row.lt (by rw [h.tg]; omega) (by rw [h.tg]; omega)) (fun v b hv => hak b (h.mlt hv) (by rw [h.tm v b hv]; omega) (by rw [h.tm v b hv]; omega))
 ·intro y hy
  obtain ⟨j, hj, e⟩ := List.mem_iff_getElem.1 hy
  rw [List.length_set] at hj
  rw [List.getElem_set] at e
  by_cases hij : i = j
  ·rw [if_pos hij] at e
   subst e
   refine owns_agree hB (fun b hb => Below.heap_setCell _ _ _ _ (fun e => ?_))
   have e' : b = sb := e
   subst e'
   have hlt := h.var.lt
   have h1 := htag b hlt
   rw [if_pos hb, h.tsb] at h1
   omega
  ·rw [if_neg hij] at e
   have hy' : y ∈ fs := by rw [← e]; exact List.getElem_mem hj
   have hj' : fs[j]? = some y := by rw [List.getElem?_eq_getElem hj, e]
   exact owns_agree (h.few y hy') (fun b hb => hak b ((h.few y hy').lt b hb).2 (by rw [h.tf j y hj' b hb]; omega) (by rw [h.tf j y hj' b hb]; omega))
 ·exact owns_agree h.stp (fun b hb => hak b (h.stp.lt b hb).2 (by rw [h.tt b hb]; omega) (by rw [h.tt b hb]; omega))
 ·exact fun s hs => owns_agree (h.inn s hs) (fun b hb => hak b ((h.inn s hs).lt b hb).2 (by rw [h.tl s hs b hb]; omega) (by rw [h.tl s hs b hb]; omega))
 ·show (if v'.ownBlock = some sb then 3 + i else tag sb) = 0
  rw [htag sb h.var.lt, h.tsb]
 ·show (if v'.ownBlock = some g then 3 + i else tag g) = 1
  rw [htag g h.nm.row.lt, h.tg]
 ·intro v b hv
  show (if v'.ownBlock = some b then 3 + i else tag b) = 2
  rw [htag b (h.mlt hv), h.tm v b hv]
 ·intro j y hj b hb
  show (if v'.ownBlock = some b then 3 + i else tag b) = 3 + j
  by_cases hij : i = j
  ·subst hij
   rw [List.getElem?_set_self hil] at hj
   simp only [Option.some.injEq] at hj
   subst hj
   rw [if_pos hb]
  ·rw [List.getElem?_set_ne hij] at hj
   rw [htag b ((h.few y (List.mem_of_getElem? hj)).lt b hb).2, h.tf j y hj b hb]
 ·intro b hb
  show (if v'.ownBlock = some b then 3 + i else tag b) = 9
  rw [htag b (h.stp.lt b hb).2, h.tt b hb]
 ·intro s hs b hb
  show (if v'.ownBlock = some b then 3 + i else tag b) = 10
  rw [htag b ((h.inn s hs).lt b hb).2, h.tl s hs b hb]
theorem SM.retag (h : SM h0 sb g bs N fs tv ss tag W) (z : Nat) : SM h0 sb g bs N fs tv ss (fun k => if k < W.heap.size then tag k else z) W := by
 have ht : ∀ k, k < W.heap.size → (if k < W.heap.size then tag k else z) = tag k := fun k hk => if_pos hk
 exact ⟨h.var, h.nm, h.f6, h.few, h.stp, h.inn, (ht sb h.var.lt).trans h.tsb, (ht g h.nm.row.lt).trans h.tg, fun v b hv => (ht b (h.mlt hv)).trans (h.tm v b hv), fun i x hx b hb => (ht b ((h.few x (List.mem_of_getElem? hx)).lt b hb).2).trans (h.tf i x hx b hb), fun b hb => (ht b (h.stp.lt b hb).2).trans (h.tt b hb), fun s hs b hb => (ht b ((h.inn s hs).lt b hb).2).trans (h.tl s hs b hb), h.lsb, h.lg, h.lm⟩
theorem SM.push (h : SM h0 sb g bs N fs tv ss tag W) {W2 B : World} (hW2 : Below W.heap.size W W2) {tv' : Value} {s : StpM} (hB : B.ownsRow h0 74 3 tv' (ss.length + 1) (stpC ss ++ [.int .i64 s.1, s.2.1, .int .i64 s.2.2.2])) (hg : W2.grownBy B tv.ownBlock) (hat : tv'.ownBlock = tv.ownBlock ∨ tv'.ownBlock = some W2.heap.size)
  (hs : W.ownsRow h0 3 1 s.2.1 s.2.2.1.length (s.2.2.1.map (Value.int .i64))) (hst : ∀ b, s.2.1.ownBlock = some b → tag b = 10) :
  ∃ tag', SM h0 sb g bs N fs tv' (ss ++ [s]) tag' (B.setCell ⟨sb, 7, none⟩ tv') ∧ ∀ k, k < W.heap.size → tag k = 11 → tag' k = 11 ∧ (B.setCell ⟨sb, 7, none⟩ tv').heap[k]? = W.heap[k]? := by
 have htag : ∀ k, k < W.heap.size → (if tv'.ownBlock = some k then 9 else tag k) = tag k := by
  intro k hk
  split
  ·rename_i e
   rcases hat with e' | e'
   ·rw [e'] at e
    exact (h.tt k e).symm
   ·rw [e'] at e
    have := hW2.size
    simp only [Option.some.injEq] at e
    omega
  ·rfl
 have hag : ∀ k, k < W.heap.size → tag k ≠ 9 → B.heap[k]? = W.heap[k]? := fun k hk ht => (hg.block k (Nat.lt_of_lt_of_le hk hW2.size) (fun e => ht (h.tt k e.symm))).trans (hW2.block k hk)
 have hak : ∀ k, k < W.heap.size → tag k ≠ 9 → tag k ≠ 0 → (B.setCell ⟨sb, 7, none⟩ tv').heap[k]? = W.heap[k]? := fun k hk h1 h2 => (Below.heap_setCell _ _ _ _ (fun e => h2 (by rw [show k = sb from e]; exact h.tsb))).trans (hag k hk h1)
 have hmem : ∀ {z : StpM}, z ∈ ss ++ [s] → z ∈ ss ∨ z = s := fun hz => by simpa using hz
 have hin : ∀ z, z ∈ ss ++ [s] → W.ownsRow h0 3 1 z.2.1 z.2.2.1.length (z.2.2.1.map (Value.int .i64)) ∧ ∀ b, z.2.1.ownBlock = some b → tag b = 10 := fun z hz => by
  rcases hmem hz with hz | rfl
  ·exact ⟨h.inn z hz, h.tl z hz⟩
  ·exact ⟨hs, hst⟩
 refine ⟨fun k => if tv'.ownBlock = some k then 9 else tag k, ⟨?_, ?_, h.f6, ?_, ?_, ?_, ?_, ?_, ?_, ?_, ?_, ?_, h.lsb, h.lg, h.lm⟩, fun k hk h11 => ⟨(htag k hk).trans h11, hak k hk (by omega) (by omega)⟩⟩
 ·have h1 : Blk 70 B sb (.slice (some ⟨g, 0, none⟩) N.length N.length :: (fs.map Prod.fst ++ [tv])) := (hag sb h.var.lt (by rw [h.tsb]; omega)).trans h.var
  have h2 := h1.set (6 + 1) tv'
  rwa [List.set_cons_succ, List.set_append_right _ _ (by rw [List.length_map, h.f6]; omega), List.length_map, h.f6] at h2
 ·exact h.nm.still (hak g h.nm.row.lt (by rw [h.tg]; omega) (by rw [h.tg]; omega)) (fun v b hv => hak b (h.mlt hv) (by rw [h.tm v b hv]; omega) (by rw [h.tm v b hv]; omega))
 ·intro y hy
  obtain ⟨j, hj, e⟩ := List.mem_iff_getElem.1 hy
  have hj' : fs[j]? = some y := by rw [List.getElem?_eq_getElem hj, e]
  have h6 := h.f6
  exact owns_agree (h.few y hy) (fun b hb => hak b ((h.few y hy).lt b hb).2 (by rw [h.tf j y hj' b hb]; omega) (by rw [h.tf j y hj' b hb]; omega))
 ·rw [List.length_append, stpC_snoc]
  refine owns_agree hB (fun b hb => Below.heap_setCell _ _ _ _ (fun e => ?_))
  have e' : b = sb := e
  subst e'
  have h1 := htag b h.var.lt
  rw [if_pos hb, h.tsb] at h1
  omega
 ·exact fun z hz => owns_agree (hin z hz).1 (fun b hb => hak b ((hin z hz).1.lt b hb).2 (by rw [(hin z hz).2 b hb]; omega) (by rw [(hin z hz).2 b hb]; omega))
 ·show (if tv'.ownBlock = some sb then 9 else tag sb) = 0
  rw [htag sb h.var.lt, h.tsb]
 ·show (if tv'.ownBlock = some g then 9 else tag g) = 1
  rw [htag g h.nm.row.lt, h.tg]
 ·intro v b hv
  show (if tv'.ownBlock = some b then 9 else tag b) = 2
  rw [htag b (h.mlt hv), h.tm v b hv]
 ·intro j y hj b hb
  show (if tv'.ownBlock = some b then 9 else tag b) = 3 + j
  rw [htag b ((h.few y (List.mem_of_getElem? hj)).lt b hb).2, h.tf j y hj b hb]
 ·intro b hb
  show (if tv'.ownBlock = some b then 9 else tag b) = 9
  rw [if_pos hb]
 ·intro z hz b hb
  show (if tv'.ownBlock = some b then 9 else tag b) = 10
  rw [htag b ((hin z hz).1.lt b hb).2, (hin z hz).2 b hb]
end
def SX (h0 sb : Nat) (N : List (Option (List Int))) (F : List (List Int)) (ss : List StpM) (W : World) : Prop :=
 ∃ g bs fs tv tag, fs.map Prod.snd = F ∧ SM h0 sb g bs N fs tv ss tag W
theorem SX.go {h0 sb : Nat} {N : List (Option (List Int))} {F : List (List Int)} {ss : List StpM} {W W' : World} (h : SX h0 sb N F ss W) (hb : Below W.heap.size W W') : SX h0 sb N F ss W' := by
 obtain ⟨g, bs, fs, tv, tag, h1, h3⟩ := h
 exact ⟨g, bs, fs, tv, tag, h1, h3.go hb⟩
theorem SX.lsb {h0 sb : Nat} {N : List (Option (List Int))} {F : List (List Int)} {ss : List StpM} {W : World} (h : SX h0 sb N F ss W) : h0 ≤ sb ∧ sb < W.heap.size := by
 obtain ⟨g, bs, fs, tv, tag, h1, h3⟩ := h
 exact ⟨h3.lsb, h3.var.lt⟩
theorem SX.inn {h0 sb : Nat} {N : List (Option (List Int))} {F : List (List Int)} {ss : List StpM} {W : World} (h : SX h0 sb N F ss W) : ∀ s ∈ ss, W.ownsRow h0 3 1 s.2.1 s.2.2.1.length (s.2.2.1.map (Value.int .i64)) := by
 obtain ⟨g, bs, fs, tv, tag, h1, h3⟩ := h
 exact h3.inn
end Go.Proofs.YtjpkojmjiaoifaaGreat
