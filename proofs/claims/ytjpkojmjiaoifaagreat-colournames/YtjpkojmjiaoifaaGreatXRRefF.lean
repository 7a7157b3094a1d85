import Derived.Test.YtjpkojmjiaoifaaGreatZBP
import Derived.Test.YtjpkojmjiaoifaaGreatZBW
import Derived.Test.YtjpkojmjiaoifaaGreatZBD
import Derived.Test.YtjpkojmjiaoifaaGreatZBX
namespace Go.Proofs.YtjpkojmjiaoifaaGreat
open Go Go.Proofs Go.RowKit
theorem GrpD.add2 {h0 s0 : Nat} {lv lv' sv : Value} {svs : List Value} {pre : List (List Dt)} {A B : World} {o : Obj} {xs : List Dt} (h : GrpD h0 lv svs pre A) (hh : h0 ≤ s0) (hlv : ∀ q, lv.ownBlock = some q → q < s0) (hsv : ∀ x ∈ svs, ∀ q, x.ownBlock = some q → q < s0) (hs : A.ownsRow s0 84 2 sv xs.length (flatD xs))
  (hB : B.ownsRow h0 85 1 lv' (svs.length + 1) (svs ++ [sv])) (hg : (A.alloc o).grownBy B lv.ownBlock) (hat : lv'.ownBlock = lv.ownBlock ∨ lv'.ownBlock = some (A.alloc o).heap.size) : GrpD h0 lv' (svs ++ [sv]) (pre ++ [xs]) B := by
 have hkA : ∀ {e : TypeId} {size : Nat} {v : Value} {n : Nat} {zs : List Value}, A.ownsRow h0 e size v n zs → (v.ownBlock = none ∨ v.ownBlock ≠ lv.ownBlock) → B.ownsRow h0 e size v n zs := fun {e size v n zs} ho hne => owns_keep (World.ownsRow.alloc ho o) hg hne
 have hlen := h.len
 have far : ∀ {x : Value}, (∀ q, x.ownBlock = some q → q < s0) → sv.ownBlock = none ∨ sv.ownBlock ≠ x.ownBlock := fun {x} ho => by
  cases hv : sv.ownBlock with
  | none => exact .inl rfl
  | some b =>
   refine .inr fun e => ?_
   have h1 := (hs.lt b hv).1
   have h2 := ho b e.symm
   omega
 have far' : ∀ {x : Value}, (∀ q, x.ownBlock = some q → q < s0) → x.ownBlock = none ∨ x.ownBlock ≠ sv.ownBlock := fun {x} ho => by
  cases hv : x.ownBlock with
  | none => exact .inl rfl
  | some b =>
   refine .inr fun e => ?_
   have h1 := (hs.lt b e.symm).1
   have h2 := ho b hv
   omega
 have split : ∀ {k : Nat} {x : Value}, (svs ++ [sv])[k]? = some x → (k < svs.length ∧ svs[k]? = some x) ∨ (k = svs.length ∧ x = sv) := fun {k x} hx => by
  rw [List.getElem?_append] at hx
  by_cases hk : k < svs.length
  ·rw [if_pos hk] at hx
   exact .inl ⟨hk, hx⟩
  ·rw [if_neg hk] at hx
   have h1 := (List.getElem?_eq_some_iff.1 hx).1
   simp at h1
   have h2 : k = svs.length := by omega
   subst h2
   simp at hx
   exact .inr ⟨rfl, hx.symm⟩
 have new : ∀ {e : TypeId} {size : Nat} {x : Value} {n : Nat} {zs : List Value}, A.ownsRow h0 e size x n zs → x.ownBlock = none ∨ x.ownBlock ≠ some (A.alloc o).heap.size := fun {e size x n zs} ho => ownB_lt ho (by simp)
 refine ⟨by simp [hlen], by rw [List.length_append]; exact hB, ?_, ?_, ?_⟩
 ·intro k x zs hx hp
  rcases split hx with ⟨hk, hy⟩ | ⟨rfl, rfl⟩
  ·rw [List.getElem?_append_left (by omega)] at hp
   exact hkA (h.inn k x zs hy hp) (h.outer k x hy)
  ·rw [hlen, List.getElem?_append_right (Nat.le_refl _), Nat.sub_self] at hp
   simp at hp
   subst hp
   exact hkA (owns_base hs hh) (far hlv)
 ·intro k j x x' hx hx' hkj
  rcases split hx with ⟨hk, hy⟩ | ⟨rfl, rfl⟩
  ·rcases split hx' with ⟨hj, hy'⟩ | ⟨rfl, rfl⟩
   ·exact h.apart k j x x' hy hy' hkj
   ·exact far' (hsv x (List.mem_of_getElem? hy))
  ·rcases split hx' with ⟨hj, hy'⟩ | ⟨rfl, rfl⟩
   ·exact far (hsv x' (List.mem_of_getElem? hy'))
   ·exact absurd rfl hkj
 ·intro k x hx
  rcases split hx with ⟨hk, hy⟩ | ⟨rfl, rfl⟩
  ·rcases hat with e | e
   ·rw [e]; exact h.outer k x hy
   ·rw [e]
    exact new (h.inn k x _ hy (List.getElem?_eq_getElem (by omega)))
  ·rcases hat with e | e
   ·rw [e]; exact far hlv
   ·rw [e]
    exact new (owns_base hs hh)
structure FI (h0 : Nat) (lv mv : Value) (svs : List Value) (st : List (List Dt) × List Dt) (W : World) : Prop where
 grp : GrpD h0 lv svs st.1 W
 met : W.ownsRow h0 84 2 mv st.2.length (flatD st.2)
 ap1 : mv.ownBlock = none ∨ mv.ownBlock ≠ lv.ownBlock
 ap2 : ∀ sv ∈ svs, sv.ownBlock = none ∨ sv.ownBlock ≠ mv.ownBlock
theorem FI.start (h0 : Nat) (W : World) : FI h0 (.slice none 0 0) (.slice none 0 0) [] ([], []) W := ⟨GrpD.start _ _, World.ownsRow_nil _ _ _ _, .inl rfl, fun sv h => by simp at h⟩
theorem FI.go {h0 : Nat} {lv mv : Value} {svs : List Value} {st : List (List Dt) × List Dt} {A B : World} (h : FI h0 lv mv svs st A) (hb : Below A.heap.size A B) : FI h0 lv mv svs st B := ⟨h.grp.go hb, owns_below h.met hb, h.ap1, h.ap2⟩
theorem FI.add {h0 s0 : Nat} {lv mv mv' lv' fv : Value} {svs : List Value} {st : List (List Dt) × List Dt} {A B D : World} {o : Obj} {F : List Dt} (h : FI h0 lv mv svs st A) (hs0 : h0 ≤ s0) (hsA : s0 ≤ A.heap.size) (hlv : ∀ q, lv.ownBlock = some q → q < s0) (hmv : ∀ q, mv.ownBlock = some q → q < s0) (hsv : ∀ x ∈ svs, ∀ q, x.ownBlock = some q → q < s0)
  (hf : A.ownsRow s0 84 2 fv F.length (flatD F)) (hm : B.ownsRow h0 84 2 mv' (st.2.length + F.length) (flatD st.2 ++ flatD F)) (hg : A.grownBy B mv.ownBlock) (hat : mv'.ownBlock = mv.ownBlock ∨ mv'.ownBlock = some A.heap.size)
  (hB : D.ownsRow h0 85 1 lv' (svs.length + 1) (svs ++ [fv])) (hg2 : (B.alloc o).grownBy D lv.ownBlock) (hat2 : lv'.ownBlock = lv.ownBlock ∨ lv'.ownBlock = some (B.alloc o).heap.size) : FI h0 lv' mv' (svs ++ [fv]) (st.1 ++ [F], st.2 ++ F) D := by
 have hfm : fv.ownBlock = none ∨ fv.ownBlock ≠ mv.ownBlock := by
  cases hv : fv.ownBlock with
  | none => exact .inl rfl
  | some b =>
   refine .inr fun e => ?_
   have h1 := (hf.lt b hv).1
   have h2 := hmv b e.symm
   omega
 have hgB : GrpD h0 lv svs st.1 B := by
  refine ⟨h.grp.len, owns_keep h.grp.own hg ?_, fun k sv xs h1 h2 => owns_keep (h.grp.inn k sv xs h1 h2) hg (h.ap2 sv (List.mem_of_getElem? h1)), h.grp.apart, h.grp.outer⟩
  cases hv : lv.ownBlock with
  | none => exact .inl rfl
  | some b =>
   refine .inr fun e => ?_
   rcases h.ap1 with h1 | h1
   ·rw [h1] at e; cases e
   ·exact h1 (by rw [hv]; exact e.symm)
 have hfB : B.ownsRow s0 84 2 fv F.length (flatD F) := owns_keep hf hg hfm
 have hG := hgB.add2 hs0 hlv hsv hfB hB hg2 hat2
 have hml : mv'.ownBlock = none ∨ mv'.ownBlock ≠ lv.ownBlock := by
  rcases hat with e | e
  ·rw [e]; exact h.ap1
  ·rw [e]
   refine .inr fun e2 => ?_
   have := hlv _ e2.symm
   omega
 refine ⟨hG, ?_, ?_, ?_⟩
 ·rw [List.length_append]
  have : flatD (st.2 ++ F) = flatD st.2 ++ flatD F := by simp [flatD]
  rw [this]
  exact owns_keep (World.ownsRow.alloc hm o) hg2 hml
 ·rcases hat2 with e | e
  ·rw [e]; exact hml
  ·rw [e]
   exact ownB_lt hm (by simp)
 ·intro x hx
  rcases List.mem_append.1 hx with hx | hx
  ·rcases hat with e | e
   ·rw [e]; exact h.ap2 x hx
   ·rw [e]
    cases hv : x.ownBlock with
    | none => exact .inl rfl
    | some b =>
     refine .inr fun e2 => ?_
     have := hsv x hx b hv
     simp at e2
     omega
  ·rw [List.mem_singleton.1 hx]
   rcases hat with e | e
   ·rw [e]; exact hfm
   ·rw [e]
    exact ownB_lt hf (Nat.le_refl _)
theorem orb_few {nx : Dt → Dt} {S : List Dt} (hP : PermS nx S) (hn : S.Nodup) {fuel : Nat} (hfu : S.length ≤ fuel) {d : Dt} (hd : d ∈ S) : (orb nx d fuel d).length ≤ S.length := by
 obtain ⟨⟨left, hG⟩, _⟩ := going_all (starts := [d]) hP hn hfu (fun x hx => by rw [List.mem_singleton.1 hx]; exact hd) (j := 1) (by simp)
 have h1 := hG.len
 have e : (roundsAt nx fuel [d] 1).2 = orb nx d fuel d := by
  rw [roundsAt]
  simp [roundsAt]
 rw [e] at h1
 omega
def lenOf : Value → Nat
 | .slice _ n _ => n
 | _ => 0
def OrbI (nx : Dt → Dt) (d : Dt) (k : Nat) (F : List Dt) (x : Dt) (O : List Dt) : Prop := F ++ orb nx d (k - F.length) x = O
theorem OrbI.len {nx : Dt → Dt} {d x : Dt} {k : Nat} {F O : List Dt} (h : OrbI nx d k F x O) (hO : O.length < k) : F.length < O.length := by
 unfold OrbI at h
 have h1 := congrArg List.length h
 rw [List.length_append] at h1
 obtain ⟨j, hj⟩ : ∃ j, k - F.length = j + 1 := ⟨k - F.length - 1, by omega⟩
 rw [hj, orb, List.length_cons] at h1
 omega
theorem OrbI.done {nx : Dt → Dt} {d x : Dt} {k : Nat} {F O : List Dt} (h : OrbI nx d k F x O) (hO : O.length < k) (he : nx x = d) : F ++ [x] = O := by
 have hl := h.len hO
 unfold OrbI at h
 obtain ⟨j, hj⟩ : ∃ j, k - F.length = j + 1 := ⟨k - F.length - 1, by omega⟩
 rw [hj, orb, if_pos he] at h
 exact h
theorem OrbI.next {nx : Dt → Dt} {d x : Dt} {k : Nat} {F O : List Dt} (h : OrbI nx d k F x O) (hO : O.length < k) (he : nx x ≠ d) : OrbI nx d k (F ++ [x]) (nx x) O := by
 have hl := h.len hO
 unfold OrbI at h ⊢
 obtain ⟨j, hj⟩ : ∃ j, k - F.length = j + 1 := ⟨k - F.length - 1, by omega⟩
 rw [hj, orb, if_neg he] at h
 rw [List.length_append, List.length_singleton, show k - (F.length + 1) = j by omega, List.append_assoc]
 exact h
theorem facesL_st {N : Nat} {l : List Ed} (hR : RightG (N : Int) l) (r : List (List Int)) : (stF l r N 0).1 = facesL N l r := by
 unfold stF facesL
 rw [stsAt_zero hR, rounds_fold _ _ _ (Nat.le_refl _), List.take_length]
theorem nxR_dart {N : Nat} {l : List Ed} {r : List (List Int)} (hR : RightG (N : Int) l) (hS : SysR N l r) {d : Dt} (hd : d ∈ dartsL N l) : nxR r d = (nxD r d, true) := by
 obtain ⟨u, v, rfl, hu, hv, huv, _⟩ := dart_ends hR hd
 unfold nxR
 rw [if_pos ⟨by simp only; omega, by simp only; rw [hS.len]; omega⟩]
 simp only [Int.toNat_natCast]
 rw [if_pos ((hS.perm v hv).mem_iff.2 huv)]
end Go.Proofs.YtjpkojmjiaoifaaGreat
