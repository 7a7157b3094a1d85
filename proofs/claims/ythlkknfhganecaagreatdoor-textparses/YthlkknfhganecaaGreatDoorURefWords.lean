/-
  The reference's words (filigreeref05): all words of a line.
-/
import Derived.Laws.OwnMore
import Derived.Lib.SmallJoins
import Derived.Test.YthlkknfhganecaaGreatDoorURefLines
import Derived.Test.YthlkknfhganecaaGreatDoorUBackMath
import Derived.Test.YthlkknfhganecaaGreatDoorURefNum
namespace Go.Proofs.YthlkknfhganecaaGreatDoor
open Go Go.Proofs Go.RowKit

/-- One byte more. -/
def wstep (F : List (List UInt8)) (b : UInt8) : List (List UInt8) := if b = 32 then F ++ [[]] else F.dropLast ++ [F.getLast?.getD [] ++ [b]]
def wAt (T : List UInt8) (i : Nat) : List (List UInt8) := (T.take i).foldl wstep [[]]
theorem wstep_last (P : List (List UInt8)) (a : List UInt8) (b : UInt8) : wstep (P ++ [a]) b = if b = 32 then P ++ [a] ++ [[]] else P ++ [a ++ [b]] := by
  unfold wstep
  split
  · rfl
  · simp
theorem fold_words : ∀ (l : List UInt8) (P : List (List UInt8)) (a : List UInt8), l.foldl wstep (P ++ [a]) = P ++ (match wordsL l with | [] => [a] | x :: xs => (a ++ x) :: xs)
  | [], P, a => by simp [wordsL]
  | b :: l, P, a => by
    rw [List.foldl_cons, wstep_last]
    by_cases hb : b = 32
    · rw [if_pos hb, fold_words l (P ++ [a]) [], wordsL, if_pos hb]
      cases h : wordsL l with
      | nil => exact absurd h (wordsL_ne l)
      | cons x xs => simp
    · rw [if_neg hb, fold_words l P (a ++ [b]), wordsL, if_neg hb]
      cases h : wordsL l with
      | nil => exact absurd h (wordsL_ne l)
      | cons x xs => simp
theorem wAt_full (T : List UInt8) : wAt T T.length = wordsL T := by
  unfold wAt
  rw [List.take_length]
  have := fold_words T [] []
  rw [List.nil_append] at this
  rw [this]
  cases h : wordsL T with
  | nil => exact absurd h (wordsL_ne T)
  | cons x xs => simp
theorem wAt_zero (T : List UInt8) : wAt T 0 = [[]] := rfl
theorem wAt_step {T : List UInt8} {i : Nat} {b : UInt8} (h : T[i]? = some b) : wAt T (i + 1) = wstep (wAt T i) b := by
  unfold wAt
  rw [List.take_add_one, h]
  simp
theorem wstep_len (F : List (List UInt8)) (b : UInt8) (h : 1 ≤ F.length) : F.length ≤ (wstep F b).length ∧ (wstep F b).length ≤ F.length + 1 := by
  unfold wstep
  split
  · simp
  · simp
    omega
theorem wAt_len (T : List UInt8) : ∀ i, 1 ≤ (wAt T i).length ∧ (wAt T i).length ≤ i + 1
  | 0 => by simp [wAt_zero]
  | i + 1 => by
    have ih := wAt_len T i
    cases h : T[i]? with
    | none =>
      have e : wAt T (i + 1) = wAt T i := by
        unfold wAt
        rw [List.take_add_one, h]
        simp
      rw [e]
      omega
    | some b =>
      rw [wAt_step h]
      have := wstep_len (wAt T i) b ih.1
      omega
theorem wAt_small (T : List UInt8) : ∀ i, ∀ y ∈ wAt T i, y.length ≤ i
  | 0, y, hy => by
    rw [wAt_zero] at hy
    rw [List.mem_singleton.1 hy]
    simp
  | i + 1, y, hy => by
    have ih := wAt_small T i
    cases h : T[i]? with
    | none =>
      have e : wAt T (i + 1) = wAt T i := by
        unfold wAt
        rw [List.take_add_one, h]
        simp
      rw [e] at hy
      have := ih y hy
      omega
    | some b =>
      rw [wAt_step h] at hy
      unfold wstep at hy
      split at hy
      · rcases List.mem_append.1 hy with hy | hy
        · have := ih y hy
          omega
        · rw [List.mem_singleton.1 hy]
          simp
      · rcases List.mem_append.1 hy with hy | hy
        · have := ih y ((List.dropLast_sublist _).subset hy)
          omega
        · rw [List.mem_singleton.1 hy, List.length_append]
          cases hl : (wAt T i).getLast? with
          | none => simp
          | some z =>
            have := ih z (List.mem_of_getLast? hl)
            simp
            omega
theorem ofL_push (x : List UInt8) (b : UInt8) (s : ByteArray) (i : Nat) (h : i < s.size) (hb : s[i]'h = b) : ofL x ++ s.extract i (i + 1) = ofL (x ++ [b]) := by
  have h1 : (ofL x ++ s.extract i (i + 1)).data.toList = (ofL (x ++ [b])).data.toList := by
    rw [ByteArray.data_append, Array.toList_append, ofL_data, ofL_data]
    congr 1
    rw [Lib.extract_data]
    have hl : i < s.data.toList.length := by rw [Array.length_toList]; exact h
    have e : (s.data.toList.drop i).take (i + 1 - i) = [s.data.toList[i]] := by
      rw [show i + 1 - i = 1 by omega, List.drop_eq_getElem_cons hl]
      rfl
    rw [show ((s.data.toList.drop i).take (i + 1 - i)) = [s.data.toList[i]] from e]
    subst hb
    simp
    rfl
  have h2 := of_data (ofL x ++ s.extract i (i + 1))
  rw [h1, of_data] at h2
  exact h2.symm

theorem last_set {F : List (List UInt8)} {x : List UInt8} {b : UInt8} (hx : F[F.length - 1]? = some x) (h : 1 ≤ F.length) : F.dropLast ++ [F.getLast?.getD [] ++ [b]] = F.set (F.length - 1) (x ++ [b]) := by
  have hne : F ≠ [] := fun e => by rw [e] at h; simp at h
  have e1 : F = F.dropLast ++ [x] := by
    have := List.dropLast_concat_getLast hne
    rw [List.getLast_eq_getElem] at this
    rw [List.getElem?_eq_getElem (by omega)] at hx
    rw [Option.some.inj hx] at this
    exact this.symm
  have e2 : F.getLast? = some x := by
    rw [List.getLast?_eq_getElem?]
    exact hx
  rw [e2]
  have e3 : F.dropLast.length = F.length - 1 := List.length_dropLast
  rw [← e3]
  conv => rhs; rw [e1]
  simp
theorem ownsRow_formU {w : World} {base size n : Nat} {e : TypeId} {v : Value} {xs : List Value} (h : w.ownsRow base e size v n xs) (hn : 0 < n) : ∃ g cap, v = .slice (some ⟨g, 0, none⟩) n cap := by
  rcases h.2 with ⟨_, h0⟩ | ⟨g, cap, cur, hv, _⟩
  · omega
  · exact ⟨g, cap, hv⟩
theorem words_strs {W : World} {base : Nat} {v : Value} {F : List (List UInt8)} (h : W.ownsRow base 9 1 v F.length (F.map fun x => Value.string (ofL x))) : Strs W.heap.size W v (F.map ofL) := by
  refine Strs.of_owns (base := base) ?_
  rw [List.length_map, List.map_map]
  exact h

set_option maxRecDepth 100000 in
set_option maxHeartbeats 2000000 in
theorem refWords_any (s : ByteArray) (hs : s.size ≤ 20000) (w : World) :
    Calls Tryz.prog 53 #[.string s] w fun e w' => ∃ lv, e = .returned lv ∧ Strs w'.heap.size w' lv ((wordsL s.data.toList).map ofL) ∧ Below w.heap.size w w' := by
  have hmix := mixed
  obtain ⟨i0, hi, hz0, hz1, hz2⟩ := info_parts info9
  generalize hT : s.data.toList = T
  have hTs : T.length = s.size := by rw [← hT]; exact Array.length_toList
  go_enter Tryz.func53, Tryz.ntmps53
  go_wp2
  go_loopw [3, 4] (fun lv iv wr => ∃ i : Nat, i ≤ T.length ∧ iv = .int .i64 i ∧ wr.ownsRow w.heap.size 9 1 lv (wAt T i).length ((wAt T i).map fun x => Value.string (ofL x)) ∧ Below w.heap.size w wr) (fun _ iv _ => T.length - (intOf iv).toNat)
  case atStart => exact ⟨0, Nat.zero_le _, rfl, World.ownsRow_lit w #[.string ⟨#[]⟩] 1 (Nat.le_refl _) (by decide) rfl, (Below.refl _ _).alloc (Nat.le_refl _) _⟩
  case round =>
    obtain ⟨i, hil, rfl, hown, hb⟩ := hrel
    obtain ⟨hw1, hw2⟩ := wAt_len T i
    by_cases hlt : i < T.length
    · have hil : (i : Int) < (s.size : Int) := by omega
      obtain ⟨b, hbT⟩ : ∃ b, T[i]? = some b := ⟨_, List.getElem?_eq_getElem hlt⟩
      obtain ⟨hj, hg⟩ := byte_get hT hbT
      have HN : Hid (wAt T (i + 1) = wstep (wAt T i) b) := wAt_step hbT
      have hb256 : b.toNat < 256 := b.toNat_lt
      have hsm := wAt_small T i
      generalize wAt T i = F at *
      by_cases he : b = 32
      · have HN2 : Hid (wAt T (i + 1) = F ++ [[]]) := by rw [Hid, HN.out, wstep, if_pos he]
        have he' : ((b.toNat : Int) == 32) = true := by subst he; rfl
        obtain ⟨al, ml, kl, rfl⟩ := owns_slice hown
        have hnews : ∀ (i : Nat) (u : Value), [Value.string ⟨#[]⟩][i]? = some u → (wr.alloc (.cells #[.string ⟨#[]⟩] 9)).cell? ((⟨wr.heap.size, 0, none⟩ : Addr).add i) = some u := by
          intro i u hu
          cases i with
          | zero => simp at hu; subst hu; simp [Addr.add]
          | succ i => simp at hu
        have hone : ∀ u ∈ [Value.string ⟨#[]⟩], u.oneCell' = true := by intro u hu; rw [List.mem_singleton.1 hu]; rfl
        have hmx : F.length + 1 ≤ maxLen := by unfold maxLen; omega
        have hby : (F.length + 1) * 16 ≤ 140737488355328 := by omega
        have hbs : w.heap.size ≤ (wr.alloc (.cells #[.string ⟨#[]⟩] 9)).heap.size := by have := hb.size; simp; omega
        have hlow : ∀ k, (Value.slice al ml kl).ownBlock = some k → w.heap.size ≤ k := fun k hk => by
          rcases hown.2 with ⟨h0, _⟩ | ⟨g, cap, cur, h0, h1, _⟩
          · rw [h0] at hk; simp [Value.ownBlock] at hk
          · rw [h0] at hk; simp [Value.ownBlock] at hk; omega
        have hownA := hown.alloc (.cells #[.string ⟨#[]⟩] 9)
        clear HN he
        go_wp2_with (at_builtin; refine wpList_append_own_at _ rfl _ _ 63 rfl w.heap.size 9 i0 (.string ⟨#[]⟩) 1 16 Tryz.underlying63 hi hz0 hz1 hz2 rfl (by decide) (.slice al ml kl) _ _ rfl hownA ⟨wr.heap.size, 0, none⟩ 1 1 [.string ⟨#[]⟩] rfl rfl hnews hone hmx hby hbs ?_)
        intro v6 w6 hown6 hg6 hnil6 hat6
        obtain ⟨a6, m6, k6, rfl⟩ := owns_slice hown6
        have hb6 : Below w.heap.size w w6 := (hb.alloc hb.size _).trans ⟨hg6.os, hg6.tape, hg6.output, hg6.size, fun k hk => hg6.block k (by omega) (fun e => by have := hlow k e.symm; omega)⟩
        have hown6' : w6.ownsRow w.heap.size 9 1 (.slice a6 m6 k6) (F ++ [[]]).length ((F ++ [[]]).map fun x => Value.string (ofL x)) := by
          rw [List.length_append, List.map_append]; exact hown6
        clear hown6 hg6 hnil6 hat6 hownA hnews hone
        go_wp2
        exact ⟨⟨i + 1, by omega, by go_num, by rw [HN2.out]; exact hown6', hb6⟩, by simp [intOf]; omega⟩
      · have he' : ((b.toNat : Int) == 32) = false := by
          rw [beq_eq_false_iff_ne]
          intro h
          exact he (UInt8.toNat_inj.1 (by simpa using (by omega : b.toNat = 32)))
        obtain ⟨x, hx⟩ : ∃ x, F[F.length - 1]? = some x := ⟨_, List.getElem?_eq_getElem (by omega)⟩
        have HN2 : Hid (wAt T (i + 1) = F.set (F.length - 1) (x ++ [b])) := by
          rw [Hid, HN.out, wstep, if_neg he]
          exact last_set hx hw1
        obtain ⟨q, cap, rfl⟩ := ownsRow_formU hown (by omega)
        obtain ⟨m, hm⟩ : ∃ m, F.length = m + 1 := ⟨F.length - 1, by omega⟩
        rw [hm] at hown hx
        have hc0 : wr.drew.cell? ⟨q, m, none⟩ = some (.string (ofL x)) := by
          have h := hown.cellAt m (by omega)
          rw [List.getElem?_map] at h
          rw [show F[m]? = some x from hx] at h
          exact h
        have hf0 : wr.drew.frozen? ⟨q, m, none⟩ = false := hown.frozenAt m
        obtain ⟨hown2, hgr2⟩ := (World.ownsRow.drew hown).stored m (.string (ofL (x ++ [b])))
        have hbq := (hown.lt q rfl).1
        have hpush := ofL_push x b s i hj hg
        have hwm : IntKind.i64.wrap (m : Int) = (m : Int) := wrap_i _ (by omega) (by omega)
        have hwi : IntKind.i64.wrap ((i : Int) + 1) = (i : Int) + 1 := wrap_i _ (by omega) (by omega)
        have hml : (m : Int) < (m : Int) + 1 := by omega
        have hxs : ¬ 9223372036854775807 < (ofL x).size + (min (i + 1) s.size - i) := by
          have := hsm x (List.mem_of_getElem? hx)
          rw [ofL_size]
          omega
        have hm0 : (0 : Int) ≤ (m : Int) := by omega
        have hi0 : (0 : Int) ≤ (i : Int) := by omega
        have his : (i : Int) + 1 ≤ (s.size : Int) := by omega
        have hii : (i : Int) ≤ (i : Int) + 1 := by omega
        have hin : ((i : Int) + 1).toNat = i + 1 := by omega
        clear HN he hsm
        rw [hm]
        go_wp2
        refine wp_region_last (S := fun w' => w'.cell? ⟨q, m, none⟩ = some (.string (ofL x)) ∧ w'.frozen? ⟨q, m, none⟩ = false) hmix ⟨hc0, hf0⟩ (fun hHeld => ?_)
        refine wpAnyL_take (i := 0) (v := ?_) rfl (by kernel_rfl) (by kernel_rfl) (by kernel_rfl) (by kernel_rfl) (fun _ _ _ h => h) (Or.inl ⟨by rfl, ?_⟩) (by assumption) ?_
        rotate_left
        · intro w hSw; (try dsimp only at hSw); go_simp; (try simp only [hxs, hwm, hwi, hm0, hml, hi0, his, hii, hin, hpush, and_self, if_true, if_false, Int.toNat_natCast]); (try go_simp); (try with_reducible rfl)
        refine wpAnyL_take (i := 1) (v := ?_) rfl (by kernel_rfl) (by kernel_rfl) (by kernel_rfl) (by kernel_rfl) (fun _ _ _ h => h) (Or.inl ⟨by rfl, ?_⟩) (by assumption) ?_
        rotate_left
        · intro w hSw; (try dsimp only at hSw); go_simp; (try simp only [hxs, hwm, hwi, hm0, hml, hi0, his, hii, hin, hpush, and_self, if_true, if_false, Int.toNat_natCast]); (try go_simp); (try with_reducible rfl)
        refine wpAnyL_take (i := 2) (v := ?_) rfl (by kernel_rfl) (by kernel_rfl) (by kernel_rfl) (by kernel_rfl) (fun _ _ _ h => h) (Or.inl ⟨by rfl, ?_⟩) (by assumption) ?_
        rotate_left
        · intro w hSw; (try dsimp only at hSw); go_simp; (try simp only [hxs, hwm, hwi, hm0, hml, hi0, his, hii, hin, hpush, and_self, if_true, if_false, Int.toNat_natCast]); (try go_simp); (try with_reducible rfl)
        refine wpAnyL_take (i := 3) (v := ?_) rfl (by kernel_rfl) (by kernel_rfl) (by kernel_rfl) (by kernel_rfl) (fun _ _ _ h => h) (Or.inl ⟨by rfl, ?_⟩) (by assumption) ?_
        rotate_left
        · intro w hSw; (try dsimp only at hSw); go_simp; (try simp only [hxs, hwm, hwi, hm0, hml, hi0, his, hii, hin, hpush, and_self, if_true, if_false, Int.toNat_natCast]); (try go_simp); (try with_reducible rfl)
        refine wpAnyL_take (i := 4) (v := ?_) rfl (by kernel_rfl) (by kernel_rfl) (by kernel_rfl) (by kernel_rfl) (fun _ _ _ h => h) (Or.inl ⟨by rfl, ?_⟩) (by assumption) ?_
        rotate_left
        · intro w hSw; (try dsimp only at hSw); go_simp; (try simp only [hxs, hwm, hwi, hm0, hml, hi0, his, hii, hin, hpush, and_self, if_true, if_false, Int.toNat_natCast]); (try go_simp); (try with_reducible rfl)
        refine wpAnyL_take (i := 5) (v := ?_) rfl (by kernel_rfl) (by kernel_rfl) (by kernel_rfl) (by kernel_rfl) (fun _ _ _ h => h) (Or.inl ⟨by rfl, ?_⟩) (by assumption) ?_
        rotate_left
        · intro w hSw; (try dsimp only at hSw); go_simp; (try simp only [hxs, hwm, hwi, hm0, hml, hi0, his, hii, hin, hpush, and_self, if_true, if_false, Int.toNat_natCast]); (try go_simp); (try with_reducible rfl)
        refine wpAnyL_take (i := 6) (v := ?_) rfl (by kernel_rfl) (by kernel_rfl) (by kernel_rfl) (by kernel_rfl) (fun _ _ _ h => h) (Or.inl ⟨by rfl, ?_⟩) (by assumption) ?_
        rotate_left
        · intro w hSw; (try dsimp only at hSw); go_simp; (try simp only [hxs, hwm, hwi, hm0, hml, hi0, his, hii, hin, hpush, and_self, if_true, if_false, Int.toNat_natCast]); (try go_simp); (try with_reducible rfl)
        refine wpAnyL_take (i := 7) (v := ?_) rfl (by kernel_rfl) (by kernel_rfl) (by kernel_rfl) (by kernel_rfl) (fun _ _ _ h => h) (Or.inl ⟨by rfl, ?_⟩) (by assumption) ?_
        rotate_left
        · intro w hSw; (try dsimp only at hSw); go_simp; (try simp only [hxs, hwm, hwi, hm0, hml, hi0, his, hii, hin, hpush, and_self, if_true, if_false, Int.toNat_natCast]); (try go_simp); (try with_reducible rfl)
        refine wpAnyL_take (i := 8) (v := ?_) rfl (by kernel_rfl) (by kernel_rfl) (by kernel_rfl) (by kernel_rfl) (fun _ _ _ h => h) (Or.inl ⟨by rfl, ?_⟩) (by assumption) ?_
        rotate_left
        · intro w hSw; (try dsimp only at hSw); go_simp; (try simp only [hxs, hwm, hwi, hm0, hml, hi0, his, hii, hin, hpush, and_self, if_true, if_false, Int.toNat_natCast]); (try go_simp); (try with_reducible rfl)
        refine wpAnyL_take (i := 9) (v := ?_) rfl (by kernel_rfl) (by kernel_rfl) (by kernel_rfl) (by kernel_rfl) (fun _ _ _ h => h) (Or.inl ⟨by rfl, ?_⟩) (by assumption) ?_
        rotate_left
        · intro w hSw; (try dsimp only at hSw); go_simp; (try simp only [hxs, hwm, hwi, hm0, hml, hi0, his, hii, hin, hpush, and_self, if_true, if_false, Int.toNat_natCast]); (try go_simp); (try with_reducible rfl)
        refine wpAnyL_take (i := 10) (v := ?_) rfl (by kernel_rfl) (by kernel_rfl) (by kernel_rfl) (by kernel_rfl) (fun _ _ _ h => h) (Or.inl ⟨by rfl, ?_⟩) (by assumption) ?_
        rotate_left
        · intro w hSw; (try dsimp only at hSw); go_simp; (try simp only [hxs, hwm, hwi, hm0, hml, hi0, his, hii, hin, hpush, and_self, if_true, if_false, Int.toNat_natCast]); (try go_simp); (try with_reducible rfl)
        refine wpAnyL_take (i := 11) (v := ?_) rfl (by kernel_rfl) (by kernel_rfl) (by kernel_rfl) (by kernel_rfl) (fun _ _ _ h => h) (Or.inl ⟨by rfl, ?_⟩) (by assumption) ?_
        rotate_left
        · intro w hSw; (try dsimp only at hSw); go_simp; (try simp only [hxs, hwm, hwi, hm0, hml, hi0, his, hii, hin, hpush, and_self, if_true, if_false, Int.toNat_natCast]); (try go_simp); (try with_reducible rfl)
        refine wpAnyL_take (i := 12) (v := ?_) rfl (by kernel_rfl) (by kernel_rfl) (by kernel_rfl) (by kernel_rfl) (fun _ _ _ h => h) (Or.inl ⟨by rfl, ?_⟩) (by assumption) ?_
        rotate_left
        · intro w hSw; (try dsimp only at hSw); go_simp; (try simp only [hxs, hwm, hwi, hm0, hml, hi0, his, hii, hin, hpush, and_self, if_true, if_false, Int.toNat_natCast]); (try go_simp); (try with_reducible rfl)
        refine wpAnyL_take (i := 13) (v := ?_) rfl (by kernel_rfl) (by kernel_rfl) (by kernel_rfl) (by kernel_rfl) (fun _ _ _ h => h) (Or.inl ⟨by rfl, ?_⟩) (by assumption) ?_
        rotate_left
        · intro w hSw; (try dsimp only at hSw); go_simp; (try simp only [hxs, hwm, hwi, hm0, hml, hi0, his, hii, hin, hpush, and_self, if_true, if_false, Int.toNat_natCast]); (try go_simp); (try with_reducible rfl)
        refine wpAnyL_take (i := 14) (v := ?_) rfl (by kernel_rfl) (by kernel_rfl) (by kernel_rfl) (by kernel_rfl) (fun _ _ _ h => h) (Or.inl ⟨by rfl, ?_⟩) (by assumption) ?_
        rotate_left
        · intro w hSw; (try dsimp only at hSw); go_simp; (try simp only [hxs, hwm, hwi, hm0, hml, hi0, his, hii, hin, hpush, and_self, if_true, if_false, Int.toNat_natCast]); (try go_simp); (try with_reducible rfl)
        refine wpAnyL_take (i := 15) (v := ?_) rfl (by kernel_rfl) (by kernel_rfl) (by kernel_rfl) (by kernel_rfl) (fun _ _ _ h => h) (Or.inl ⟨by rfl, ?_⟩) (by assumption) ?_
        rotate_left
        · intro w hSw; (try dsimp only at hSw); go_simp; (try simp only [hxs, hwm, hwi, hm0, hml, hi0, his, hii, hin, hpush, and_self, if_true, if_false, Int.toNat_natCast]); (try go_simp); (try with_reducible rfl)
        refine wpAnyL_take (i := 16) (v := ?_) rfl (by kernel_rfl) (by kernel_rfl) (by kernel_rfl) (by kernel_rfl) (fun _ _ _ h => h) (Or.inl ⟨by rfl, ?_⟩) (by assumption) ?_
        rotate_left
        · intro w hSw; (try dsimp only at hSw); go_simp; (try simp only [hxs, hwm, hwi, hm0, hml, hi0, his, hii, hin, hpush, and_self, if_true, if_false, Int.toNat_natCast]); (try go_simp); (try with_reducible rfl)
        refine wpAnyL_ready (rs := [17]) (by kernel_rfl) (by simp) ?_
        refine AllReadyL.last rfl (by kernel_rfl) (fun K hK => ?_)
        go_simp
        refine hK.out _ _ ?_
        clear hK K
        refine wpAnyL_done (by kernel_rfl) ?_ _
        go_wp2
        have eN : wAt T (i + 1) = F.set m (x ++ [b]) := by
          rw [HN2.out, hm]
          rfl
        refine ⟨⟨i + 1, by omega, by go_num, ?_, below_drew1 (hb.setCell (p := ⟨q, m, none⟩) hbq _)⟩, by simp [intOf]; omega⟩
        rw [eN, List.length_set, hm, List.map_set]
        exact hown2
    · obtain rfl : i = T.length := by omega
      have hlt' : ¬ (T.length : Int) < (s.size : Int) := by omega
      rw [wAt_full] at hown
      go_wp2
      go_ret
      exact ⟨_, rfl, words_strs hown, hb⟩
end Go.Proofs.YthlkknfhganecaaGreatDoor
