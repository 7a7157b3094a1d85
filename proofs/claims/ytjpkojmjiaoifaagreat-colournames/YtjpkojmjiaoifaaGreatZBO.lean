import Derived.Test.YtjpkojmjiaoifaaGreatZBN
namespace Go.Proofs.YtjpkojmjiaoifaaGreat
open Go Go.Proofs
def leftE (nx : Dt → Dt) (L : List Dt) : List (Dt × Dt) := L.map fun x => (x, nx x)
theorem lk_left {nx : Dt → Dt} {d : Dt} : ∀ (L : List Dt), lkD (leftE nx L) d = if d ∈ L then some (nx d) else none
 | [] => by simp [lkD, leftE]
 | x :: L => by
  have ih := lk_left (nx := nx) (d := d) L
  unfold lkD leftE at *
  rw [List.map_cons, List.find?_cons]
  by_cases h : d = x
  ·subst h
   simp
  ·rw [show decide (d = (x, nx x).1) = false from decide_eq_false h]
   simp only [ih, List.mem_cons, h, false_or]
theorem er_left {nx : Dt → Dt} {d : Dt} : ∀ (L : List Dt), (leftE nx L).eraseP (fun p => decide (d = p.1)) = leftE nx (L.erase d)
 | [] => by simp [leftE]
 | x :: L => by
  have ih := er_left (nx := nx) (d := d) L
  unfold leftE at *
  rw [List.map_cons, List.eraseP_cons, List.erase_cons]
  by_cases h : d = x
  ·subst h
   simp
  ·have h' : ¬ (x == d) = true := by rw [beq_iff_eq]; exact fun e => h e.symm
   rw [show decide (d = (x, nx x).1) = false from decide_eq_false h, if_neg h', List.map_cons, ← ih]
   rfl
def keysR (r : List (List Int)) (N : Nat) : List Dt := (List.range N).flatMap fun (v : Nat) => (r.getD v []).map fun u => (u, (v : Int))
theorem keysR_succ (r : List (List Int)) (j : Nat) : keysR r (j + 1) = keysR r j ++ (r.getD j []).map fun u => (u, (j : Int)) := by
 unfold keysR
 rw [List.range_succ, List.flatMap_append]
 simp
section
variable {N : Nat} {l : List Ed} {r : List (List Int)}
theorem row_left {L : List Int} (hn : L.Nodup) {v : Nat} (hL : r.getD v [] = L) : rowE L (v : Int) L.length = leftE (nxD r) (L.map fun u => (u, (v : Int))) := by
 unfold rowE leftE
 rw [List.map_map]
 apply List.ext_getElem
 ·simp
 ·intro i h1 h2
  have hi : i < L.length := by simpa using h1
  simp only [List.getElem_map, List.getElem_range, Function.comp]
  unfold nxD
  simp only [Int.toNat_natCast, hL]
  have e1 : L.getD i 0 = L[i] := by rw [List.getD_eq_getElem?_getD, List.getElem?_eq_getElem hi]; rfl
  rw [e1, hn.idxOf_getElem i hi]
theorem beh_left (hS : SysR N l r) (hR : RightG (N : Int) l) : ∀ {j : Nat}, j ≤ N → behL r j = leftE (nxD r) (keysR r j)
 | 0, _ => rfl
 | j + 1, h => by
  rw [behL_succ, keysR_succ, beh_left hS hR (by omega), row_left (r := r) (v := j) (hS.nodup hR (by omega)) rfl]
  unfold leftE
  rw [List.map_append]
theorem keysR_mem (hS : SysR N l r) {d : Dt} : d ∈ keysR r N ↔ ∃ v : Nat, v < N ∧ d.2 = (v : Int) ∧ d.1 ∈ nb l (v : Int) := by
 unfold keysR
 rw [List.mem_flatMap]
 constructor
 ·rintro ⟨v, hv, h⟩
  obtain ⟨u, hu, rfl⟩ := List.mem_map.1 h
  have hv' := List.mem_range.1 hv
  exact ⟨v, hv', rfl, (hS.perm v hv').mem_iff.1 hu⟩
 ·rintro ⟨v, hv, h1, h2⟩
  exact ⟨v, List.mem_range.2 hv, List.mem_map.2 ⟨d.1, (hS.perm v hv).mem_iff.2 h2, by rw [← h1]⟩⟩
theorem keys_darts (hS : SysR N l r) (hR : RightG (N : Int) l) {d : Dt} : d ∈ keysR r N ↔ d ∈ dartsL N l := by
 rw [keysR_mem hS, dartsL_mem]
 constructor
 ·rintro ⟨v, hv, h1, h2⟩
  obtain ⟨h3, h4, h5, _⟩ := nb_mutual hR h2
  have e : ((d.1.toNat : Nat) : Int) = d.1 := by omega
  refine ⟨d.1.toNat, by omega, by omega, ?_⟩
  rw [h1, e]
  exact h3
 ·rintro ⟨u, hu, h1, h2⟩
  obtain ⟨h3, h4, h5, _⟩ := nb_mutual hR h2
  have e : ((d.2.toNat : Nat) : Int) = d.2 := by omega
  refine ⟨d.2.toNat, by omega, by omega, ?_⟩
  rw [h1, e]
  exact h3
theorem keysR_nodup (hS : SysR N l r) (hR : RightG (N : Int) l) : (keysR r N).Nodup := by
 unfold keysR List.Nodup
 rw [List.pairwise_flatMap]
 refine ⟨fun v hv => ?_, ?_⟩
 ·refine List.Pairwise.map _ (fun a b h => ?_) (hS.nodup hR (List.mem_range.1 hv))
  intro e
  exact h (congrArg Prod.fst e)
 ·refine List.nodup_range.imp fun {a b} hab => ?_
  intro x hx y hy e
  obtain ⟨u, _, rfl⟩ := List.mem_map.1 hx
  obtain ⟨u', _, rfl⟩ := List.mem_map.1 hy
  have := congrArg Prod.snd e
  simp only at this
  omega
theorem keysR_len (hS : SysR N l r) : ∀ {j : Nat}, j ≤ N → (keysR r j).length = degS l j
 | 0, _ => rfl
 | j + 1, h => by
  rw [keysR_succ, List.length_append, List.length_map, keysR_len hS (by omega), (hS.perm j (by omega)).length_eq]
  rfl
theorem sys_perm (hS : SysR N l r) (hR : RightG (N : Int) l) : PermS (nxD r) (keysR r N) :=
 ⟨fun _ h => (keys_darts hS hR).2 (nx_mem hR hS ((keys_darts hS hR).1 h)), fun _ h _ h' => nx_inj hR hS ((keys_darts hS hR).1 h) ((keys_darts hS hR).1 h')⟩
theorem dart_zero (hR : RightG (N : Int) l) : ((0 : Int), (0 : Int)) ∉ dartsL N l := fun h => by
 obtain ⟨u, _, h1, h2⟩ := dartsL_mem.1 h
 have := (nb_mutual hR h2).2.2.2
 exact this h1
end
end Go.Proofs.YtjpkojmjiaoifaaGreat

namespace Go.Proofs.YtjpkojmjiaoifaaGreat
open Go Go.Proofs Go.RowKit
structure Chg (X : Nat → Prop) (A B : World) : Prop where
 os : B.os = A.os
 tape : B.tape = A.tape
 output : B.output = A.output
 size : A.heap.size ≤ B.heap.size
 block : ∀ q, q < A.heap.size → ¬ X q → B.heap[q]? = A.heap[q]?
theorem Chg.trans {X : Nat → Prop} {A B C : World} (h : Chg X A B) (k : Chg X B C) : Chg X A C :=
 ⟨k.os.trans h.os, k.tape.trans h.tape, k.output.trans h.output, Nat.le_trans h.size k.size, fun q hq hx => (k.block q (Nat.lt_of_lt_of_le hq h.size) hx).trans (h.block q hq hx)⟩
theorem Chg.of_below {X : Nat → Prop} {A B : World} (h : Below A.heap.size A B) : Chg X A B := ⟨h.os, h.tape, h.output, h.size, fun q hq _ => h.block q hq⟩
theorem Chg.of_grown {X : Nat → Prop} {A B : World} {r : Option Nat} (h : A.grownBy B r) (hr : ∀ q, r = some q → X q) : Chg X A B := ⟨h.os, h.tape, h.output, h.size, fun q hq hx => h.block q hq (fun e => hx (hr q e.symm))⟩
theorem Chg.of_set {X : Nat → Prop} {A : World} {p : Addr} (hp : X p.block) (v : Value) : Chg X A (A.setCell p v) := ⟨rfl, rfl, rfl, by simp, fun q _ hx => Below.heap_setCell _ _ _ _ (fun e => hx (by rw [e]; exact hp))⟩
theorem owns_same {A B : World} {base : Nat} {e : TypeId} {size : Nat} {v : Value} {n : Nat} {xs : List Value} (h : A.ownsRow base e size v n xs) (hb : ∀ q, v.ownBlock = some q → B.heap[q]? = A.heap[q]?) : B.ownsRow base e size v n xs := by
 obtain ⟨h1, h2⟩ := h
 refine ⟨h1, ?_⟩
 rcases h2 with h2 | ⟨g, cap, cur, hv, hb2, hg, r⟩
 ·exact .inl h2
 ·exact .inr ⟨g, cap, cur, hv, hb2, (hb g (by rw [hv]; rfl)).trans hg, r⟩
theorem owns_zero {A : World} {base : Nat} {e : TypeId} {size n c : Nat} {p : Option Addr} {xs : List Value} (h : A.ownsRow base e size (.slice p n c) n xs) : A.ownsRow base e size (.slice p 0 c) 0 [] := by
 obtain ⟨h1, h2⟩ := h
 refine ⟨by simp, ?_⟩
 rcases h2 with ⟨h2, _⟩ | ⟨g, cap, cur, hv, hb2, hg, h3, h4, h5, h6⟩
 ·simp only [Value.slice.injEq] at h2
  obtain ⟨rfl, _, rfl⟩ := h2
  exact .inl ⟨rfl, rfl⟩
 ·simp only [Value.slice.injEq] at hv
  obtain ⟨rfl, _, rfl⟩ := hv
  exact .inr ⟨g, c, cur, rfl, hb2, hg, Nat.zero_le _, h4, h5, by simp⟩
theorem owns_blk {A : World} {base : Nat} {e : TypeId} {size : Nat} {v : Value} {n : Nat} {xs : List Value} (h : A.ownsRow base e size v n xs) {q : Nat} (hq : v.ownBlock = some q) : base ≤ q ∧ q < A.heap.size := h.lt q hq
structure StillR (h0 : Nat) (bs : List Nat) (A B : World) : Prop where
 os : B.os = A.os
 tape : B.tape = A.tape
 output : B.output = A.output
 size : A.heap.size ≤ B.heap.size
 block : ∀ q, q < A.heap.size → (q < h0 ∨ q ∈ bs) → B.heap[q]? = A.heap[q]?
structure ToldR (h0 : Nat) (bs bs' : List Nat) (A B : World) : Prop where
 size : A.heap.size ≤ B.heap.size
 block : ∀ q, h0 ≤ q → q < A.heap.size → q ∉ bs → B.heap[q]? = A.heap[q]?
 new : ∀ q ∈ bs', q ∈ bs ∨ A.heap.size ≤ q
 lt : ∀ q ∈ bs', q < B.heap.size
theorem rounds_sum (nx : Dt → Dt) (F : Nat) (starts : List Dt) : ∀ j, ((roundsAt nx F starts j).1.map List.length).sum = (roundsAt nx F starts j).2.length
 | 0 => rfl
 | j + 1 => by
  rw [roundsAt]
  split
  ·exact rounds_sum nx F starts j
  ·rw [List.map_append, List.sum_append, rounds_sum nx F starts j, List.length_append]
   simp
def Tells (h0 f : Nat) (cb : Array Value) (S : List Dt) (I : List (List Dt) → List Nat → World → Prop) : Prop :=
 ∀ (fs : List (List Dt)) (bs : List Nat) (face : List Dt) (fv : Value) (W : World), I fs bs W → (∀ q ∈ bs, h0 ≤ q ∧ q < W.heap.size) → h0 ≤ W.heap.size → face ≠ [] → (∀ d ∈ face, d ∈ S) → (fs.map List.length).sum + face.length ≤ 8388608 →
  W.ownsRow h0 84 2 fv face.length (flatD face) → (∀ q, fv.ownBlock = some q → q ∉ bs) →
  Calls Tryz.prog f (#[fv] ++ cb) W fun e W' => e = .returned (.tuple #[]) ∧ ∃ bs', I (fs ++ [face]) bs' W' ∧ ToldR h0 bs bs' W W'
structure LayR (h0 h2 m bd : Nat) (stv : Value) : Prop where
 m0 : h0 ≤ m
 m2 : m < h2
 b0 : h0 ≤ bd
 b2 : bd < h2
 ne : m ≠ bd
 st : ∀ q, stv.ownBlock = some q → q < h2 ∧ q ≠ m ∧ q ≠ bd
structure RI (nx : Dt → Dt) (S starts : List Dt) (F h0 h2 m bd : Nat) (stv : Value) (I : List (List Dt) → List Nat → World → Prop) (fv : Value) (begun : Nat) (W : World) (left face : List Dt) (d : Dt) (j : Nat) (bs : List Nat) : Prop where
 go : Going nx S starts F left face d j
 ph : (begun = 0 ∧ j = 0 ∧ face = [] ∧ d = (0, 0)) ∨ (begun = j + 1 ∧ j < starts.length ∧ d ∈ S ∧ (face = [] → d = starts.getD j (0, 0)))
 map : MapD W m (leftE nx left)
 dc : Blk 84 W bd [.int .i64 d.1, .int .i64 d.2]
 st : W.ownsRow h0 84 2 stv starts.length (flatD starts)
 fc : W.ownsRow h2 84 2 fv face.length (flatD face)
 ap : ∀ q, fv.ownBlock = some q → q ∉ bs
 bsr : ∀ q ∈ bs, h2 ≤ q ∧ q < W.heap.size
 inv : I (roundsAt nx F starts j).1 bs W
 sz : h2 ≤ W.heap.size
section
variable {nx : Dt → Dt} {S starts : List Dt} {F h0 h2 m bd : Nat} {stv : Value} {I : List (List Dt) → List Nat → World → Prop}
def XR (m bd : Nat) (fv : Value) (q : Nat) : Prop := q = m ∨ q = bd ∨ fv.ownBlock = some q
theorem RI.still {fv : Value} {begun : Nat} {W B : World} {left face : List Dt} {d : Dt} {j : Nat} {bs : List Nat} (h : RI nx S starts F h0 h2 m bd stv I fv begun W left face d j bs) (L : LayR h0 h2 m bd stv) (hC : Chg (XR m bd fv) W B) : StillR h0 bs W B := by
 refine ⟨hC.os, hC.tape, hC.output, hC.size, fun q hq hx => hC.block q hq ?_⟩
 have a := L.m0
 have b := L.m2
 have c := L.b0
 have e := L.b2
 rintro (h1 | h1 | h1)
 ·rcases hx with hx | hx
  ·omega
  ·have := (h.bsr q hx).1; omega
 ·rcases hx with hx | hx
  ·omega
  ·have := (h.bsr q hx).1; omega
 ·rcases hx with hx | hx
  ·have := (owns_blk h.fc h1).1
   omega
  ·exact h.ap q h1 hx
theorem RI.turn (hI : ∀ fs bs A B, I fs bs A → StillR h0 bs A B → I fs bs B) {fv fv' : Value} {begun begun' : Nat} {W B : World} {left left' face face' : List Dt} {d d' : Dt} {j : Nat} {bs : List Nat} (h : RI nx S starts F h0 h2 m bd stv I fv begun W left face d j bs) (L : LayR h0 h2 m bd stv) (hC : Chg (XR m bd fv) W B)
  (hg : Going nx S starts F left' face' d' j) (hp : (begun' = 0 ∧ j = 0 ∧ face' = [] ∧ d' = (0, 0)) ∨ (begun' = j + 1 ∧ j < starts.length ∧ d' ∈ S ∧ (face' = [] → d' = starts.getD j (0, 0))))
  (hm : MapD B m (leftE nx left')) (hd : Blk 84 B bd [.int .i64 d'.1, .int .i64 d'.2]) (hf : B.ownsRow h2 84 2 fv' face'.length (flatD face')) (hfv : fv'.ownBlock = fv.ownBlock ∨ ∃ q, fv'.ownBlock = some q ∧ W.heap.size ≤ q) : RI nx S starts F h0 h2 m bd stv I fv' begun' B left' face' d' j bs := by
 refine ⟨hg, hp, hm, hd, owns_same h.st fun q hq => hC.block q (owns_blk h.st hq).2 ?_, hf, fun q hq => ?_, fun q hq => ⟨(h.bsr q hq).1, Nat.lt_of_lt_of_le (h.bsr q hq).2 hC.size⟩, hI _ _ _ _ h.inv (h.still L hC), Nat.le_trans h.sz hC.size⟩
 ·obtain ⟨s1, s2, s3⟩ := L.st q hq
  rintro (h1 | h1 | h1)
  ·exact s2 h1
  ·exact s3 h1
  ·have := (owns_blk h.fc h1).1
   omega
 ·rcases hfv with h1 | ⟨q', h1, h2⟩
  ·exact h.ap q (by rw [← h1]; exact hq)
  ·rw [h1] at hq
   have := Option.some.inj hq
   intro hb
   have := (h.bsr q hb).2
   omega
theorem RI.told {fv : Value} {begun : Nat} {W B : World} {left face : List Dt} {d : Dt} {j : Nat} {bs bs' : List Nat} (h : RI nx S starts F h0 h2 m bd stv I fv begun W left face d j bs) (L : LayR h0 h2 m bd stv) (hh : h0 ≤ h2) (hT : ToldR h0 bs bs' W B) (he : (roundsAt nx F starts (j + 1)).1 = (roundsAt nx F starts j).1 ++ [face]) (hi : I ((roundsAt nx F starts j).1 ++ [face]) bs' B) :
  MapD B m (leftE nx left) ∧ Blk 84 B bd [.int .i64 d.1, .int .i64 d.2] ∧ B.ownsRow h0 84 2 stv starts.length (flatD starts) ∧ B.ownsRow h2 84 2 fv face.length (flatD face) ∧ (∀ q, fv.ownBlock = some q → q ∉ bs') ∧ (∀ q ∈ bs', h2 ≤ q ∧ q < B.heap.size) ∧ I (roundsAt nx F starts (j + 1)).1 bs' B ∧ h2 ≤ B.heap.size := by
 have a := L.m0
 have b := L.m2
 have c := L.b0
 have e := L.b2
 have hsz := h.sz
 have nob : ∀ q, q < h2 → q ∉ bs := fun q hq hq' => by have := (h.bsr q hq').1; omega
 refine ⟨h.map.keep (hT.block m a h.map.lt (nob m b)), (hT.block bd c h.dc.lt (nob bd e)).trans h.dc, owns_same h.st fun q hq => ?_, owns_same h.fc fun q hq => ?_, fun q hq hq' => ?_, fun q hq => ⟨?_, hT.lt q hq⟩, by rw [he]; exact hi, Nat.le_trans hsz hT.size⟩
 ·exact hT.block q (owns_blk h.st hq).1 (owns_blk h.st hq).2 (nob q (L.st q hq).1)
 ·exact hT.block q (Nat.le_trans hh (owns_blk h.fc hq).1) (owns_blk h.fc hq).2 (h.ap q hq)
 ·rcases hT.new q hq' with h1 | h1
  ·exact h.ap q hq h1
  ·have := (owns_blk h.fc hq).2
   omega
 ·rcases hT.new q hq with h1 | h1
  ·exact (h.bsr q h1).1
  ·omega
structure DNI (nx : Dt → Dt) (S starts : List Dt) (F h0 h2 m bd : Nat) (stv : Value) (I : List (List Dt) → List Nat → World → Prop) (fv : Value) (begun : Nat) (W : World) (left : List Dt) (d : Dt) (bs : List Nat) : Prop where
 go : ∀ d', Going nx S starts F left [] d' begun
 map : MapD W m (leftE nx left)
 dc : Blk 84 W bd [.int .i64 d.1, .int .i64 d.2]
 st : W.ownsRow h0 84 2 stv starts.length (flatD starts)
 fc : W.ownsRow h2 84 2 fv 0 []
 ap : ∀ q, fv.ownBlock = some q → q ∉ bs
 bsr : ∀ q ∈ bs, h2 ≤ q ∧ q < W.heap.size
 inv : I (roundsAt nx F starts begun).1 bs W
 sz : h2 ≤ W.heap.size
theorem Going.any {left : List Dt} {d : Dt} {j : Nat} (h : Going nx S starts F left [] d j) (d' : Dt) : Going nx S starts F left [] d' j := ⟨h.shut, h.nodup, h.all, h.len, fun e => absurd rfl e⟩
theorem RI.none (hI : ∀ fs bs A B, I fs bs A → StillR h0 bs A B → I fs bs B) {fv : Value} {begun : Nat} {W B : World} {left : List Dt} {d : Dt} {j : Nat} {bs : List Nat} (h : RI nx S starts F h0 h2 m bd stv I fv begun W left [] d j bs) (L : LayR h0 h2 m bd stv) (hd : d ∉ left) (hb : Below W.heap.size W B) : DNI nx S starts F h0 h2 m bd stv I fv begun B left d bs := by
 have key : ∀ jn, (∀ d', Going nx S starts F left [] d' jn) → (roundsAt nx F starts jn).1 = (roundsAt nx F starts j).1 → jn = begun → DNI nx S starts F h0 h2 m bd stv I fv begun B left d bs := by
  intro jn h1 h2' e
  subst e
  refine ⟨h1, h.map.keep (hb.block _ h.map.lt), h.dc.go hb, owns_below h.st hb, owns_below h.fc hb, h.ap, fun q hq => ⟨(h.bsr q hq).1, Nat.lt_of_lt_of_le (h.bsr q hq).2 hb.size⟩, ?_, Nat.le_trans h.sz hb.size⟩
  rw [h2']
  exact hI _ _ _ _ h.inv (h.still L (Chg.of_below hb))
 rcases h.ph with ⟨e1, e2, _, e3⟩ | ⟨e1, e2, e3, e4⟩
 ·subst e2
  exact key 0 (fun d' => h.go.any d') rfl e1.symm
 ·exact key (j + 1) (fun d' => (h.go.skip hd e3 (e4 rfl) d').2) (by rw [(h.go.skip hd e3 (e4 rfl) (0, 0)).1]) e1.symm
theorem RI.toldD (hP : PermS nx S) (hF : S.length ≤ F) {p : Option Addr} {c : Nat} {begun : Nat} {W B : World} {left face : List Dt} {d : Dt} {j : Nat} {bs bs' : List Nat} (h : RI nx S starts F h0 h2 m bd stv I (.slice p face.length c) begun W left face d j bs) (L : LayR h0 h2 m bd stv) (hh : h0 ≤ h2) (hf : face ≠ []) (hd : d ∉ left) (hT : ToldR h0 bs bs' W B) (hi : I ((roundsAt nx F starts j).1 ++ [face]) bs' B) : DNI nx S starts F h0 h2 m bd stv I (.slice p 0 c) begun B left d bs' := by
 have hph : begun = j + 1 ∧ d ∈ S := by
  rcases h.ph with ⟨_, _, e, _⟩ | ⟨e1, _, e2, _⟩
  ·exact absurd e hf
  ·exact ⟨e1, e2⟩
 obtain ⟨e1, hdS⟩ := hph
 subst e1
 have hdn := fun d' => h.go.done hP hf hd hdS hF d'
 obtain ⟨g1, g2, g3, g4, g5, g6, g7, g8⟩ := h.told L hh hT (by rw [(hdn (0, 0)).1]) hi
 exact ⟨fun d' => (hdn d').2, g1, g2, g3, owns_zero g4, fun q hq => g5 q (by rw [← hq]; cases p <;> rfl), g6, g7, g8⟩
theorem DNI.next (hI : ∀ fs bs A B, I fs bs A → StillR h0 bs A B → I fs bs B) {fv : Value} {begun : Nat} {W : World} {left : List Dt} {d d' : Dt} {bs : List Nat} (h : DNI nx S starts F h0 h2 m bd stv I fv begun W left d bs) (L : LayR h0 h2 m bd stv) (hb : begun < starts.length) (hd : d' = starts.getD begun (0, 0)) (hdS : d' ∈ S) : RI nx S starts F h0 h2 m bd stv I fv (begun + 1) ((W.setCell ⟨bd, 0, none⟩ (.int .i64 d'.1)).setCell ⟨bd, 1, none⟩ (.int .i64 d'.2)) left [] d' begun bs := by
 have b := L.b2
 have c := L.b0
 have nb : ∀ (q : Nat), q ≠ bd → ((W.setCell ⟨bd, 0, none⟩ (.int .i64 d'.1)).setCell ⟨bd, 1, none⟩ (.int .i64 d'.2)).heap[q]? = W.heap[q]? := fun q hq => (Below.heap_setCell _ _ _ _ (by simp; omega)).trans (Below.heap_setCell _ _ _ _ (by simp; omega))
 refine ⟨h.go d', .inr ⟨rfl, hb, hdS, fun _ => hd⟩, h.map.keep (nb m L.ne), (h.dc.set 0 _).set 1 _, owns_same h.st fun q hq => nb q (L.st q hq).2.2, owns_same h.fc fun q hq => nb q (by have := (owns_blk h.fc hq).1; omega), h.ap, fun q hq => ⟨(h.bsr q hq).1, by simp; exact (h.bsr q hq).2⟩, hI _ _ _ _ h.inv ⟨rfl, rfl, rfl, by simp, fun q _ hx => nb q ?_⟩, by simp; exact h.sz⟩
 rcases hx with hx | hx
 ·omega
 ·have := (h.bsr q hx).1
  omega
end
theorem wpList_delD (w : World) {ops : Array Oper} {rest : List Oper} {o : Oper} {a : Act} {Q : Exit → Act → World → Prop}
  (hg : o.guard = none) (m x : Operand) (hop : o.op = Op.call { callee := Callee.builtin Builtin.delete, args := #[m, x], argTypes := #[118, 84] }) (M : Nat) (L : List (Dt × Dt)) (d : Dt)
  (hm : a.eval m = .map (some M)) (h : MapD w M L) (hx : a.eval x = encD d)
  (hK : ∀ w', MapD w' M (L.eraseP fun p => decide (d = p.1)) → w.grownBy w' (some M) → wpList Tryz.prog ops Q rest (a.put o.dst (.tuple #[])) w') :
  wpList Tryz.prog ops Q (o :: rest) a w := by
 refine wpList_plain hg fun K' hK' => ?_
 obtain ⟨w', hrun, r1, r2⟩ := h.delete d o.type
 unfold Oper.wp
 simp [execOp, hop, resolve, invoke, builtin, hm, hx, hrun, Result.andThen]
 exact hK' _ _ (hK w' r1 r2)
end Go.Proofs.YtjpkojmjiaoifaaGreat
