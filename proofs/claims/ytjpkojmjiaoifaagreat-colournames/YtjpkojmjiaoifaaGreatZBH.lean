import Derived.Test.YtjpkojmjiaoifaaGreatZBG
namespace Go.Proofs.YtjpkojmjiaoifaaGreat
open Go Go.Proofs
section
variable {N : Nat} {r : List (List Int)} {v x y : Nat} {X Y : List Int}
def nx4 (r : List (List Int)) (v x y : Nat) : Dt → Dt := cut1 (cut1 (cut1 (cut1 (nxD r) ((x : Int), (v : Int))) ((v : Int), (y : Int))) ((y : Int), (v : Int))) ((v : Int), (x : Int))
theorem nxD_at (r : List (List Int)) (a : Int) (u : Nat) : nxD r (a, (u : Int)) = ((u : Int), nxt (r.getD u []) a) := by
 unfold nxD nxt
 simp only [Int.toNat_natCast]
theorem two_next {L : List Int} {a b : Int} (h : L.Perm [a, b]) (hab : a ≠ b) : nxt L a = b ∧ nxt L b = a := by
 have e : L = [a, b] ∨ L = [b, a] := by
  have hl := h.length_eq
  match L, hl, h with
  | [c, d], _, h =>
   have hc := h.mem_iff (a := c)
   have hd := h.mem_iff (a := d)
   have ha := h.mem_iff (a := a)
   have hb := h.mem_iff (a := b)
   simp only [List.mem_cons, List.not_mem_nil, or_false, true_or, or_true, true_iff, iff_true] at hc hd ha hb
   rcases ha with rfl | rfl
   ·rcases hb with e | rfl
    ·exact absurd e.symm hab
    ·exact .inl rfl
   ·rcases hb with rfl | e
    ·exact .inr rfl
    ·exact absurd e.symm hab
 rcases e with rfl | rfl
 ·constructor
  ·have := nxt_at (P := []) (Q := [b]) (a := a) (by simp)
   simpa using this
  ·have := nxt_at (P := [a]) (Q := []) (a := b) (by simpa using fun e => hab e.symm)
   simpa using this
 ·constructor
  ·have := nxt_at (P := [b]) (Q := []) (a := a) (by simpa using hab)
   simpa using this
  ·have := nxt_at (P := []) (Q := [a]) (a := b) (by simp)
   simpa using this
theorem Con.nv (h : Con N r v x y X Y) : nxt (r.getD v []) (x : Int) = (y : Int) ∧ nxt (r.getD v []) (y : Int) = (x : Int) := two_next h.two (by have := h.xy; omega)
theorem Con.hx (h : Con N r v x y X Y) : nxt (r.getD x []) (v : Int) = (X ++ [(v : Int)]).getD 0 0 := by
 rw [h.aroundx.2.2.2 _ (h.v_iff.2 (.inl rfl))]
 have := nxt_at (P := []) (Q := X) (a := (v : Int)) (by simp)
 simpa using this
theorem Con.hy (h : Con N r v x y X Y) : nxt (r.getD y []) (v : Int) = (Y ++ [(v : Int)]).getD 0 0 := by
 rw [h.aroundy.2.2.2 _ (h.v_iff.2 (.inr rfl))]
 have := nxt_at (P := []) (Q := Y) (a := (v : Int)) (by simp)
 simpa using this
theorem pair_ne {a b c d : Int} (h : a ≠ c) : ((a, b) : Dt) ≠ (c, d) := fun e => h (congrArg Prod.fst e)
theorem Con.nx4_at (h : Con N r v x y X Y) (d : Dt) (hd2 : nxD r d ≠ ((v : Int), (y : Int))) (hd4 : nxD r d ≠ ((v : Int), (x : Int))) :
  nx4 r v x y d = if nxD r d = ((x : Int), (v : Int)) then (if Y = [] then (if X = [] then ((v : Int), (x : Int)) else ((x : Int), (X ++ [(v : Int)]).getD 0 0)) else ((y : Int), (Y ++ [(v : Int)]).getD 0 0))
   else if nxD r d = ((y : Int), (v : Int)) then (if X = [] then (if Y = [] then ((v : Int), (x : Int)) else ((y : Int), (Y ++ [(v : Int)]).getD 0 0)) else ((x : Int), (X ++ [(v : Int)]).getD 0 0))
   else nxD r d := by
 obtain ⟨hvN, hxN, hyN, hxv, hyv⟩ := h.lts
 have hxy := h.xy
 have ivx : (v : Int) ≠ (x : Int) := by omega
 have ivy : (v : Int) ≠ (y : Int) := by omega
 have ixy : (x : Int) ≠ (y : Int) := by omega
 have n1 : nxD r ((x : Int), (v : Int)) = ((v : Int), (y : Int)) := by rw [nxD_at, h.nv.1]
 have n3 : nxD r ((y : Int), (v : Int)) = ((v : Int), (x : Int)) := by rw [nxD_at, h.nv.2]
 have n2 : nxD r ((v : Int), (y : Int)) = ((y : Int), (Y ++ [(v : Int)]).getD 0 0) := by rw [nxD_at, h.hy]
 have n4 : nxD r ((v : Int), (x : Int)) = ((x : Int), (X ++ [(v : Int)]).getD 0 0) := by rw [nxD_at, h.hx]
 have eX : (X ++ [(v : Int)]).getD 0 0 = (v : Int) ↔ X = [] := by
  have hn := h.aroundx.1
  cases X with
  | nil => simp
  | cons a X => simp at hn ⊢; exact fun e => hn.1.1 e.symm
 have eY : (Y ++ [(v : Int)]).getD 0 0 = (v : Int) ↔ Y = [] := by
  have hn := h.aroundy.1
  cases Y with
  | nil => simp
  | cons a Y => simp at hn ⊢; exact fun e => hn.1.1 e.symm
 generalize (X ++ [(v : Int)]).getD 0 0 = fX at n4 eX ⊢
 generalize (Y ++ [(v : Int)]).getD 0 0 = fY at n2 eY ⊢
 have p1 : (((x : Int), fX) : Dt) = ((x : Int), (v : Int)) ↔ X = [] := by simp [eX]
 have p2 : (((y : Int), fY) : Dt) = ((y : Int), (v : Int)) ↔ Y = [] := by simp [eY]
 unfold nx4
 have c1 : ∀ w, cut1 (nxD r) ((x : Int), (v : Int)) w = if nxD r w = ((x : Int), (v : Int)) then ((v : Int), (y : Int)) else nxD r w := fun w => by rw [cut1_eq, n1]
 generalize cut1 (nxD r) ((x : Int), (v : Int)) = k1 at c1 ⊢
 have k12 : k1 ((v : Int), (y : Int)) = ((y : Int), fY) := by rw [c1, n2, if_neg (pair_ne ixy.symm)]
 have k13 : k1 ((y : Int), (v : Int)) = ((v : Int), (x : Int)) := by rw [c1, n3, if_neg (pair_ne ivx)]
 have k14 : k1 ((v : Int), (x : Int)) = if X = [] then ((v : Int), (y : Int)) else ((x : Int), fX) := by
  rw [c1, n4]
  by_cases hX : X = []
  ·rw [if_pos (p1.2 hX), if_pos hX]
  ·rw [if_neg (fun e => hX (p1.1 e)), if_neg hX]
 have c2 : ∀ w, cut1 k1 ((v : Int), (y : Int)) w = if k1 w = ((v : Int), (y : Int)) then ((y : Int), fY) else k1 w := fun w => by rw [cut1_eq, k12]
 generalize cut1 k1 ((v : Int), (y : Int)) = k2 at c2 ⊢
 have k23 : k2 ((y : Int), (v : Int)) = ((v : Int), (x : Int)) := by rw [c2, k13, if_neg (fun e => ixy (congrArg Prod.snd e))]
 have k24 : k2 ((v : Int), (x : Int)) = if X = [] then ((y : Int), fY) else ((x : Int), fX) := by
  rw [c2, k14]
  by_cases hX : X = []
  ·rw [if_pos hX, if_pos rfl, if_pos hX]
  ·rw [if_neg hX, if_neg (pair_ne ivx.symm), if_neg hX]
 have c3 : ∀ w, cut1 k2 ((y : Int), (v : Int)) w = if k2 w = ((y : Int), (v : Int)) then ((v : Int), (x : Int)) else k2 w := fun w => by rw [cut1_eq, k23]
 generalize cut1 k2 ((y : Int), (v : Int)) = k3 at c3 ⊢
 have k34 : k3 ((v : Int), (x : Int)) = if X = [] then (if Y = [] then ((v : Int), (x : Int)) else ((y : Int), fY)) else ((x : Int), fX) := by
  rw [c3, k24]
  by_cases hX : X = []
  ·rw [if_pos hX, if_pos hX]
   by_cases hY : Y = []
   ·rw [if_pos (p2.2 hY), if_pos hY]
   ·rw [if_neg (fun e => hY (p2.1 e)), if_neg hY]
  ·rw [if_neg hX, if_neg (pair_ne ixy), if_neg hX]
 have c4 : ∀ w, cut1 k3 ((v : Int), (x : Int)) w = if k3 w = ((v : Int), (x : Int)) then (if X = [] then (if Y = [] then ((v : Int), (x : Int)) else ((y : Int), fY)) else ((x : Int), fX)) else k3 w := fun w => by rw [cut1_eq, k34]
 rw [c4, c3, c2, c1]
 by_cases g1 : nxD r d = ((x : Int), (v : Int))
 ·rw [if_pos g1, if_pos g1, if_pos rfl]
  by_cases hY : Y = []
  ·rw [if_pos (p2.2 hY), if_pos rfl]
   by_cases hX : X = []
   ·simp only [if_pos hX, if_pos hY]
   ·simp only [if_neg hX, if_pos hY]
  ·rw [if_neg (fun e => hY (p2.1 e)), if_neg (pair_ne ivy.symm), if_neg hY]
 ·rw [if_neg g1, if_neg g1, if_neg hd2]
  by_cases g2 : nxD r d = ((y : Int), (v : Int))
  ·rw [if_pos g2, if_pos g2, if_pos rfl]
  ·rw [if_neg g2, if_neg g2, if_neg hd4]
theorem Con.ren_nx (h : Con N r v x y X Y) {d : Dt} (hd : DD N r d) (h1 : d.1 ≠ (v : Int)) (h2 : d.2 ≠ (v : Int)) : nxD (conR N r v x y X Y) (ren x y d) = ren x y (nx4 r v x y d) := by
 obtain ⟨hvN, hxN, hyN, hxv, hyv⟩ := h.lts
 have hxy := h.xy
 obtain ⟨a, b, rfl, ha, hb, hab⟩ := hd
 simp only at h1 h2
 have hba := (h.sy.lt hab).2.2.2
 have hbv : b ≠ v := fun e => h2 (by rw [e])
 have hnx : nxD r ((a : Int), (b : Int)) = ((b : Int), nxt (r.getD b []) (a : Int)) := nxD_at r _ b
 rw [h.nx4_at _ (by rw [hnx]; exact pair_ne h2) (by rw [hnx]; exact pair_ne h2), hnx]
 unfold ren
 by_cases hbx : b = x
 ·subst hbx
  have haX : (a : Int) ∈ X := (h.aroundx.2.1 _).2 ⟨hba, h1⟩
  obtain ⟨a', e', _, _, hav, hax, hay, _⟩ := h.inX haX
  have : a = a' := by omega
  subst this
  rw [rn_other (show (a : Int) ≠ (b : Int) by omega), rn_same, nxD_at, conR_at hyN, if_neg (by omega), if_pos rfl, h.aroundx.2.2.2 _ hba]
  obtain ⟨P, Q, e⟩ := List.append_of_mem haX
  have hX := fun z (hz : z ∈ X) => h.inX hz
  have hYi := fun z (hz : z ∈ Y) => h.inY hz
  have hn := h.aroundx.1
  have hne : X ≠ [] := fun e2 => by rw [e2] at e; simp at e
  simp only [if_neg hne]
  clear h
  subst e
  have haP : (a : Int) ∉ P := fun hm => (List.nodup_append.1 (List.nodup_cons.1 hn).2).2.2 _ hm _ (by simp) rfl
  have e1 : (v : Int) :: (P ++ (a : Int) :: Q) = ((v : Int) :: P) ++ (a : Int) :: Q := by simp
  have e2 : P ++ (a : Int) :: Q ++ Y = P ++ (a : Int) :: (Q ++ Y) := by simp
  have n1 := nxt_at (P := (v : Int) :: P) (Q := Q) (a := (a : Int)) (by simp; exact ⟨by omega, haP⟩)
  have n2 := nxt_at (P := P) (Q := Q ++ Y) (a := (a : Int)) haP
  rw [e1, e2, n1, n2]
  clear n1 n2 e1 e2
  match Q, hX with
  | q :: Q, hX =>
   obtain ⟨q', rfl, _, _, hqv, hqx, _⟩ := hX q (by simp)
   have g1 : ((((b : Int), ((q' : Int) :: Q ++ ((v : Int) :: P ++ [(a : Int)])).getD 0 0)) : Dt) ≠ ((b : Int), (v : Int)) := fun e => hqv (by have := congrArg Prod.snd e; simp at this; omega)
   rw [if_neg g1, if_neg (pair_ne (by omega))]
   simp only [rn_same, List.cons_append, List.getD_cons_zero]
   rw [rn_other (by omega)]
  | [], hX =>
   rw [if_pos (by simp)]
   match Y, hYi with
   | q :: Y, hYi =>
    obtain ⟨q', rfl, _, _, hqv, hqx, _⟩ := hYi q (by simp)
    rw [if_neg (by simp)]
    simp only [List.nil_append, List.cons_append, List.getD_cons_zero]
    rw [rn_other (by omega), rn_other (by omega)]
   | [], _ =>
    rw [if_pos rfl]
    have hz : (P ++ [(a : Int)]) ≠ [] := by simp
    obtain ⟨z, Z, eZ⟩ := List.exists_cons_of_ne_nil hz
    obtain ⟨z', rfl, _, _, _, hzx, _⟩ := hX z (by rw [eZ]; simp)
    simp only [List.nil_append, List.append_assoc]
    rw [← List.append_assoc, eZ]
    simp only [List.cons_append, List.getD_cons_zero, rn_same]
    rw [rn_other (by omega)]
 ·by_cases hby : b = y
  ·subst hby
   have haY : (a : Int) ∈ Y := (h.aroundy.2.1 _).2 ⟨hba, h1⟩
   obtain ⟨a', e', _, _, hav, hax, hay, _⟩ := h.inY haY
   have : a = a' := by omega
   subst this
   rw [rn_other (show (a : Int) ≠ (x : Int) by omega), rn_other (show (b : Int) ≠ (x : Int) by omega), nxD_at, conR_at hb, if_neg (by omega), if_pos rfl, h.aroundy.2.2.2 _ hba]
   obtain ⟨P, Q, e⟩ := List.append_of_mem haY
   have hX := fun z (hz : z ∈ X) => h.inX hz
   have hYi := fun z (hz : z ∈ Y) => h.inY hz
   have hn := h.aroundy.1
   have haX : (a : Int) ∉ X := fun hm => h.dis _ hm haY
   have hne : Y ≠ [] := fun e2 => by rw [e2] at e; simp at e
   simp only [if_neg hne]
   clear h
   subst e
   have haP : (a : Int) ∉ P := fun hm => (List.nodup_append.1 (List.nodup_cons.1 hn).2).2.2 _ hm _ (by simp) rfl
   have e1 : (v : Int) :: (P ++ (a : Int) :: Q) = ((v : Int) :: P) ++ (a : Int) :: Q := by simp
   have e2 : X ++ (P ++ (a : Int) :: Q) = (X ++ P) ++ (a : Int) :: Q := by simp
   have n1 := nxt_at (P := (v : Int) :: P) (Q := Q) (a := (a : Int)) (by simp; exact ⟨by omega, haP⟩)
   have n2 := nxt_at (P := X ++ P) (Q := Q) (a := (a : Int)) (by simp; exact ⟨haX, haP⟩)
   rw [e1, e2, n1, n2, if_neg (pair_ne (by omega))]
   clear n1 n2 e1 e2
   match Q, hYi with
   | q :: Q, hYi =>
    obtain ⟨q', rfl, _, _, hqv, hqx, _⟩ := hYi q (by simp)
    have g1 : ((((b : Int), ((q' : Int) :: Q ++ ((v : Int) :: P ++ [(a : Int)])).getD 0 0)) : Dt) ≠ ((b : Int), (v : Int)) := fun e => hqv (by have := congrArg Prod.snd e; simp at this; omega)
    rw [if_neg g1]
    simp only [List.cons_append, List.getD_cons_zero]
    rw [rn_other (by omega), rn_other (by omega)]
   | [], hYi =>
    rw [if_pos (by simp)]
    match X, hX with
    | q :: X, hX =>
     obtain ⟨q', rfl, _, _, hqv, hqx, _⟩ := hX q (by simp)
     rw [if_neg (by simp)]
     simp only [List.nil_append, List.cons_append, List.getD_cons_zero, rn_same]
     rw [rn_other (by omega)]
    | [], _ =>
     rw [if_pos rfl]
     have hz : (P ++ [(a : Int)]) ≠ [] := by simp
     obtain ⟨z, Z, eZ⟩ := List.exists_cons_of_ne_nil hz
     obtain ⟨z', rfl, _, _, _, hzx, _⟩ := hYi z (by rw [eZ]; simp)
     simp only [List.nil_append]
     rw [eZ]
     simp only [List.cons_append, List.getD_cons_zero]
     rw [rn_other (by omega), rn_other (by omega)]
  ·have hbv0 : (v : Int) ∉ r.getD b [] := fun hm => by
    rcases h.v_iff.1 hm with e | e
    ·exact hbx e
    ·exact hby e
   rw [if_neg (pair_ne (by omega)), if_neg (pair_ne (by omega))]
   simp only
   rw [rn_other (show (b : Int) ≠ (x : Int) by omega), nxD_at, conR_at hb, if_neg (by omega), if_neg hby, nxt_map (h.rn_inj hbv) hba (h.sy.nod b hb)]
end
end Go.Proofs.YtjpkojmjiaoifaaGreat

namespace Go.Proofs.YtjpkojmjiaoifaaGreat
open Go Go.Proofs
section
variable {N : Nat} {r : List (List Int)} {v x y : Nat} {X Y : List Int}
theorem Con.cuts (h : Con N r v x y X Y) : nxD r ((x : Int), (v : Int)) ≠ ((x : Int), (v : Int)) ∧ cut1 (nxD r) ((x : Int), (v : Int)) ((v : Int), (y : Int)) ≠ ((v : Int), (y : Int)) ∧ cut1 (cut1 (nxD r) ((x : Int), (v : Int))) ((v : Int), (y : Int)) ((y : Int), (v : Int)) ≠ ((y : Int), (v : Int)) ∧
  (cut1 (cut1 (cut1 (nxD r) ((x : Int), (v : Int))) ((v : Int), (y : Int))) ((y : Int), (v : Int)) ((v : Int), (x : Int)) = ((v : Int), (x : Int)) ↔ X = [] ∧ Y = []) := by
 obtain ⟨hvN, hxN, hyN, hxv, hyv⟩ := h.lts
 have hxy := h.xy
 have ivx : (v : Int) ≠ (x : Int) := by omega
 have ivy : (v : Int) ≠ (y : Int) := by omega
 have ixy : (x : Int) ≠ (y : Int) := by omega
 have n1 : nxD r ((x : Int), (v : Int)) = ((v : Int), (y : Int)) := by rw [nxD_at, h.nv.1]
 have n3 : nxD r ((y : Int), (v : Int)) = ((v : Int), (x : Int)) := by rw [nxD_at, h.nv.2]
 have n2 : nxD r ((v : Int), (y : Int)) = ((y : Int), (Y ++ [(v : Int)]).getD 0 0) := by rw [nxD_at, h.hy]
 have n4 : nxD r ((v : Int), (x : Int)) = ((x : Int), (X ++ [(v : Int)]).getD 0 0) := by rw [nxD_at, h.hx]
 have eX : (X ++ [(v : Int)]).getD 0 0 = (v : Int) ↔ X = [] := by
  have hn := h.aroundx.1
  cases X with
  | nil => simp
  | cons a X => simp at hn ⊢; exact fun e => hn.1.1 e.symm
 have eY : (Y ++ [(v : Int)]).getD 0 0 = (v : Int) ↔ Y = [] := by
  have hn := h.aroundy.1
  cases Y with
  | nil => simp
  | cons a Y => simp at hn ⊢; exact fun e => hn.1.1 e.symm
 generalize (X ++ [(v : Int)]).getD 0 0 = fX at n4 eX ⊢
 generalize (Y ++ [(v : Int)]).getD 0 0 = fY at n2 eY ⊢
 have p1 : (((x : Int), fX) : Dt) = ((x : Int), (v : Int)) ↔ X = [] := by simp [eX]
 have p2 : (((y : Int), fY) : Dt) = ((y : Int), (v : Int)) ↔ Y = [] := by simp [eY]
 refine ⟨by rw [n1]; exact pair_ne ivx, ?_⟩
 have c1 : ∀ w, cut1 (nxD r) ((x : Int), (v : Int)) w = if nxD r w = ((x : Int), (v : Int)) then ((v : Int), (y : Int)) else nxD r w := fun w => by rw [cut1_eq, n1]
 generalize cut1 (nxD r) ((x : Int), (v : Int)) = k1 at c1 ⊢
 have k12 : k1 ((v : Int), (y : Int)) = ((y : Int), fY) := by rw [c1, n2, if_neg (pair_ne ixy.symm)]
 have k13 : k1 ((y : Int), (v : Int)) = ((v : Int), (x : Int)) := by rw [c1, n3, if_neg (pair_ne ivx)]
 have k14 : k1 ((v : Int), (x : Int)) = if X = [] then ((v : Int), (y : Int)) else ((x : Int), fX) := by
  rw [c1, n4]
  by_cases hX : X = []
  ·rw [if_pos (p1.2 hX), if_pos hX]
  ·rw [if_neg (fun e => hX (p1.1 e)), if_neg hX]
 refine ⟨by rw [k12]; exact pair_ne ivy.symm, ?_⟩
 have c2 : ∀ w, cut1 k1 ((v : Int), (y : Int)) w = if k1 w = ((v : Int), (y : Int)) then ((y : Int), fY) else k1 w := fun w => by rw [cut1_eq, k12]
 generalize cut1 k1 ((v : Int), (y : Int)) = k2 at c2 ⊢
 have k23 : k2 ((y : Int), (v : Int)) = ((v : Int), (x : Int)) := by rw [c2, k13, if_neg (fun e => ixy (congrArg Prod.snd e))]
 have k24 : k2 ((v : Int), (x : Int)) = if X = [] then ((y : Int), fY) else ((x : Int), fX) := by
  rw [c2, k14]
  by_cases hX : X = []
  ·rw [if_pos hX, if_pos rfl, if_pos hX]
  ·rw [if_neg hX, if_neg (pair_ne ivx.symm), if_neg hX]
 refine ⟨by rw [k23]; exact pair_ne ivy, ?_⟩
 rw [cut1_eq, k24, k23]
 by_cases hX : X = []
 ·rw [if_pos hX]
  by_cases hY : Y = []
  ·rw [if_pos (p2.2 hY)]
   exact ⟨fun _ => ⟨hX, hY⟩, fun _ => rfl⟩
  ·rw [if_neg (fun e => hY (p2.1 e))]
   exact ⟨fun e => absurd e (pair_ne ivy.symm), fun e => absurd e.2 hY⟩
 ·rw [if_neg hX, if_neg (pair_ne ixy)]
  exact ⟨fun e => absurd e (pair_ne ivx.symm), fun e => absurd e.1 hX⟩
theorem Con.ren_inj (h : Con N r v x y X Y) {d e : Dt} (hd : DD N r d) (he : DD N r e) (h1 : d.1 ≠ (v : Int)) (h2 : d.2 ≠ (v : Int)) (h3 : e.1 ≠ (v : Int)) (h4 : e.2 ≠ (v : Int)) (hre : ren x y d = ren x y e) : d = e := by
 have hxy := h.xy
 obtain ⟨a, b, rfl, ha, hb, hab⟩ := hd
 obtain ⟨a', b', rfl, ha', hb', hab'⟩ := he
 simp only at h1 h2 h3 h4
 have e1 : rn x y (a : Int) = rn x y (a' : Int) := congrArg Prod.fst hre
 have e2 : rn x y (b : Int) = rn x y (b' : Int) := congrArg Prod.snd hre
 have key : ∀ c c' : Nat, (c : Int) ∈ r.getD x [] → (c' : Int) ∈ r.getD y [] → (c : Int) ≠ (v : Int) → rn x y (c : Int) = rn x y (c' : Int) → False := fun c c' hc hc' hcv ee => by
  have g1 := (h.sy.lt hc).2.2.1
  have g2 : c' ≠ x := fun e => by
   subst e
   exact h.no (h.sy.lt hc').2.2.2
  rw [rn_other (by omega), rn_other (by omega)] at ee
  have : c = c' := by omega
  subst this
  exact hcv (by rw [h.com c hc hc'])
 by_cases haa : a = a'
 ·subst haa
  have := h.rn_inj (u := a) (by omega) _ hab _ hab' e2
  rw [this]
 ·exfalso
  unfold rn at e1
  by_cases g1 : (a : Int) = (x : Int)
  ·by_cases g2 : (a' : Int) = (x : Int)
   ·omega
   ·rw [if_pos g1, if_neg g2] at e1
    have q1 : a = x := by omega
    have q2 : a' = y := by omega
    rw [q1] at hab
    rw [q2] at hab'
    exact key b b' hab hab' h2 e2
  ·by_cases g2 : (a' : Int) = (x : Int)
   ·rw [if_neg g1, if_pos g2] at e1
    have q1 : a' = x := by omega
    have q2 : a = y := by omega
    rw [q2] at hab
    rw [q1] at hab'
    exact key b' b hab' hab h4 e2.symm
   ·rw [if_neg g1, if_neg g2] at e1
    exact haa (by omega)
theorem Con.darts (h : Con N r v x y X Y) (z : Dt) : DD N (conR N r v x y X Y) z ↔ ∃ d, (DD N r d ∧ d.1 ≠ (v : Int) ∧ d.2 ≠ (v : Int)) ∧ ren x y d = z := by
 have hxy := h.xy
 obtain ⟨hvN, hxN, hyN, hxv, hyv⟩ := h.lts
 constructor
 ·rintro ⟨u, w, rfl, hu, hw, hm⟩
  obtain ⟨h1, h2, h3, h4, h5⟩ := (h.mem hu _).1 hm
  rcases h5 with h5 | ⟨h5, h6⟩ | ⟨h5, h6⟩
  ·refine ⟨((u : Int), (w : Int)), ⟨⟨u, w, rfl, hu, hw, h5⟩, by simp only; omega, h3⟩, ?_⟩
   unfold ren
   rw [rn_other (by simp only; omega), rn_other (by simp only; omega)]
  ·refine ⟨((x : Int), (w : Int)), ⟨⟨x, w, rfl, hxN, hw, h6⟩, by simp only; omega, h3⟩, ?_⟩
   unfold ren
   simp only
   rw [rn_same, rn_other (by omega), h5]
  ·refine ⟨((u : Int), (x : Int)), ⟨⟨u, x, rfl, hu, hxN, h6⟩, by simp only; omega, by simp only; omega⟩, ?_⟩
   unfold ren
   simp only
   rw [rn_same, rn_other (by omega), h5]
 ·rintro ⟨d, ⟨⟨a, b, rfl, ha, hb, hab⟩, h1, h2⟩, rfl⟩
  simp only at h1 h2
  have hne := (h.sy.lt hab).2.2.1
  have hba := (h.sy.lt hab).2.2.2
  unfold ren
  simp only
  by_cases hax : a = x
  ·subst hax
   have hby : b ≠ y := fun e => h.no (by rw [← e]; exact hab)
   rw [rn_same, rn_other (by omega)]
   exact ⟨y, b, rfl, hyN, hb, (h.mem hyN _).2 ⟨hyv, by omega, by omega, by omega, .inr (.inl ⟨rfl, hab⟩)⟩⟩
  ·by_cases hbx : b = x
   ·subst hbx
    rw [rn_same, rn_other (by omega)]
    exact ⟨a, y, rfl, ha, hyN, (h.mem ha _).2 ⟨by omega, by omega, by omega, by omega, .inr (.inr ⟨rfl, hab⟩)⟩⟩
   ·rw [rn_other (by omega), rn_other (by omega)]
    exact ⟨a, b, rfl, ha, hb, (h.mem ha _).2 ⟨by omega, by omega, by omega, by omega, .inl hab⟩⟩
theorem Con.sum (h : Con N r v x y X Y) : sumH N (conR N r v x y X Y) = sumH N r + 8 + (if X = [] ∧ Y = [] then 2 else 0) := by
 have hxy := h.xy
 obtain ⟨hvN, hxN, hyN, hxv, hyv⟩ := h.lts
 have lx := h.aroundx.2.2.1
 have ly := h.aroundy.2.2.1
 have lv := h.two.length_eq
 simp only [List.length_cons, List.length_nil] at lv
 have nx : r.getD x [] ≠ [] := fun e => by rw [e] at lx; simp at lx
 have ny : r.getD y [] ≠ [] := fun e => by rw [e] at ly; simp at ly
 have nv : r.getD v [] ≠ [] := fun e => by rw [e] at lv; simp at lv
 have key : sumH N (conR N r v x y X Y) = sumH N r + 4 + (3 + (X.length : Int)) + (1 - (X.length : Int) + (if X = [] ∧ Y = [] then 2 else 0)) := by
  refine sumZ_at3 hvN hxN hyN _ _ _ fun u hu => ?_
  rw [conR_at hu]
  by_cases h1 : u = v
  ·subst h1
   rw [if_pos (.inl rfl), if_pos rfl, if_neg (show ¬ u = x by omega), if_neg (show ¬ u = y by omega)]
   unfold hL
   rw [if_pos rfl, if_neg nv, List.length_nil]
   omega
  ·by_cases h2 : u = x
   ·subst h2
    rw [if_pos (.inr rfl), if_neg h1, if_pos rfl, if_neg (show ¬ u = y by omega)]
    unfold hL
    rw [if_pos rfl, if_neg nx, List.length_nil]
    omega
   ·rw [if_neg (show ¬ (u = v ∨ u = x) by omega), if_neg h1, if_neg h2]
    by_cases h3 : u = y
    ·subst h3
     rw [if_pos rfl, if_pos rfl]
     unfold hL
     rw [if_neg ny, List.length_append]
     by_cases h4 : X = [] ∧ Y = []
     ·rw [if_pos h4, if_pos (by rw [h4.1, h4.2]; rfl)]
      omega
     ·rw [if_neg h4, if_neg (fun e => h4 (List.append_eq_nil_iff.1 e))]
      omega
    ·rw [if_neg h3, if_neg h3]
     unfold hL
     rw [List.length_map]
     by_cases h4 : r.getD u [] = []
     ·rw [h4, List.map_nil, if_pos rfl]
      omega
     ·rw [if_neg h4, if_neg (fun e => h4 (List.map_eq_nil_iff.1 e))]
      omega
 rw [key]
 omega
def sg (v x y u : Nat) : Nat := if u = v ∨ u = x then y else u
theorem Con.cn (h : Con N r v x y X Y) {u w : Nat} (hc : CnR r u w) : CnR (conR N r v x y X Y) (sg v x y u) (sg v x y w) := by
 have hxy := h.xy
 obtain ⟨hvN, hxN, hyN, hxv, hyv⟩ := h.lts
 induction hc using CnR.ind with
 | refl => exact .refl _
 | @step a b c hab _ ih =>
  obtain ⟨ha, hb, hne, hba⟩ := h.sy.lt hab
  have one : sg v x y a = sg v x y b ∨ ((sg v x y b : Nat) : Int) ∈ (conR N r v x y X Y).getD (sg v x y a) [] := by
   unfold sg
   by_cases h1 : a = v
   ·subst h1
    left
    have := h.two.mem_iff.1 hab
    simp at this
    rw [if_pos (.inl rfl)]
    by_cases h2 : b = x
    ·rw [if_pos (.inr h2)]
    ·rw [if_neg (by omega)]
     omega
   ·by_cases h2 : b = v
    ·subst h2
     left
     rw [if_pos (show b = b ∨ b = x from .inl rfl)]
     rcases h.v_iff.1 hab with e | e
     ·rw [if_pos (.inr e)]
     ·rw [if_neg (by omega)]
      exact e
    ·right
     by_cases h3 : a = x
     ·subst h3
      rw [if_pos (show a = v ∨ a = a from .inr rfl), if_neg (by omega)]
      exact (h.mem hyN _).2 ⟨hyv, by omega, by omega, by omega, .inr (.inl ⟨rfl, hab⟩)⟩
     ·rw [if_neg (show ¬ (a = v ∨ a = x) by omega)]
      by_cases h4 : b = x
      ·subst h4
       rw [if_pos (.inr rfl)]
       exact (h.mem ha _).2 ⟨h1, h3, by omega, by omega, .inr (.inr ⟨rfl, hab⟩)⟩
      ·rw [if_neg (by omega)]
       exact (h.mem ha _).2 ⟨h1, h3, by omega, by omega, .inl hab⟩
  rcases one with e | e
  ·rw [e]; exact ih
  ·exact .step e ih
theorem PlR.con (h : PlR N r) (hc : Con N r v x y X Y) : PlR N (conR N r v x y X Y) := by
 obtain ⟨hS, C, R, hD, hco, hle⟩ := h
 have hxy := hc.xy
 obtain ⟨hvN, hxN, hyN, hxv, hyv⟩ := hc.lts
 obtain ⟨q1, q2, q3, q4⟩ := hc.cuts
 have ivx : (v : Int) ≠ (x : Int) := by omega
 have ivy : (v : Int) ≠ (y : Int) := by omega
 have ixy : (x : Int) ≠ (y : Int) := by omega
 have hvx := hc.vx
 have hvy := hc.vy
 have d1 : DD N r ((x : Int), (v : Int)) := ⟨x, v, rfl, hxN, hvN, (hS.lt hvx).2.2.2⟩
 have d2 : DD N r ((v : Int), (y : Int)) := ⟨v, y, rfl, hvN, hyN, hvy⟩
 have d3 : DD N r ((y : Int), (v : Int)) := ⟨y, v, rfl, hyN, hvN, (hS.lt hvy).2.2.2⟩
 have d4 : DD N r ((v : Int), (x : Int)) := ⟨v, x, rfl, hvN, hxN, hvx⟩
 obtain ⟨C1, D1, l1⟩ := hD.out d1
 obtain ⟨C2, D2, l2⟩ := D1.out (d := ((v : Int), (y : Int))) ⟨d2, pair_ne ivx⟩
 obtain ⟨C3, D3, l3⟩ := D2.out (d := ((y : Int), (v : Int))) ⟨⟨d3, pair_ne ixy.symm⟩, pair_ne ivy.symm⟩
 obtain ⟨C4, D4, l4⟩ := D3.out (d := ((v : Int), (x : Int))) ⟨⟨⟨d4, pair_ne ivx⟩, fun e => ixy (congrArg Prod.snd e)⟩, pair_ne ivy⟩
 rw [if_neg q1] at l1
 rw [if_neg q2] at l2
 rw [if_neg q3] at l3
 have D5 : Dec (nx4 r v x y) (fun d => DD N r d ∧ d.1 ≠ (v : Int) ∧ d.2 ≠ (v : Int)) C4 := by
  refine ⟨D4.rnd, D4.nodup, fun d => (D4.mem d).trans ?_⟩
  constructor
  ·rintro ⟨⟨⟨⟨g0, g1⟩, g2⟩, g3⟩, g4⟩
   refine ⟨g0, fun e => ?_, fun e => ?_⟩
   ·obtain ⟨a, b, rfl, ha, hb, hab⟩ := g0
    simp only at e
    have : a = v := by omega
    subst this
    have := hc.two.mem_iff.1 hab
    simp at this
    rcases this with h1 | h1
    ·exact g4 (by rw [h1])
    ·exact g2 (by rw [h1])
   ·obtain ⟨a, b, rfl, ha, hb, hab⟩ := g0
    simp only at e
    have : b = v := by omega
    subst this
    rcases hc.v_iff.1 hab with h1 | h1
    ·exact g1 (by rw [h1])
    ·exact g3 (by rw [h1])
  ·rintro ⟨g0, g1, g2⟩
   exact ⟨⟨⟨⟨g0, fun e => g2 (by rw [e])⟩, fun e => g1 (by rw [e])⟩, fun e => g2 (by rw [e])⟩, fun e => g1 (by rw [e])⟩
 have D6 := D5.map (nx' := nxD (conR N r v x y X Y)) (P' := DD N (conR N r v x y X Y)) (g := ren x y) (fun d e h1 h2 h3 => hc.ren_inj h1.1 h2.1 h1.2.1 h1.2.2 h2.2.1 h2.2.2 h3) (fun d h1 => hc.ren_nx h1.1 h1.2.1 h1.2.2) hc.darts
 refine ⟨hc.sys, _, v :: x :: R.map (sg v x y), D6, fun u hu => ?_, ?_⟩
 ·by_cases h1 : u = v
  ·exact ⟨v, by simp, by rw [h1]; exact .refl _⟩
  ·by_cases h2 : u = x
   ·exact ⟨x, by simp, by rw [h2]; exact .refl _⟩
   ·obtain ⟨q, hq, h3⟩ := hco u hu
    have := hc.cn h3
    have e : sg v x y u = u := if_neg (by omega)
    rw [e] at this
    exact ⟨sg v x y q, by simp; exact .inr (.inr ⟨q, hq, rfl⟩), this⟩
 ·rw [hc.sum, List.length_cons, List.length_cons, List.length_map, List.length_map]
  by_cases h1 : X = [] ∧ Y = []
  ·rw [if_pos (q4.2 h1)] at l4
   rw [if_pos h1]
   omega
  ·rw [if_neg (fun e => h1 (q4.1 e))] at l4
   rw [if_neg h1]
   omega
end
end Go.Proofs.YtjpkojmjiaoifaaGreat
