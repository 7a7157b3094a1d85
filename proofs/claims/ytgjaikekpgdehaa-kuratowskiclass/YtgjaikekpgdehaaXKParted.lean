/-
  kuratowski.parted: the corners that a way from the first of them ends at, and the others.
-/
import Derived.Test.YtgjaikekpgdehaaXKJoins
namespace Go.Proofs.Ytgjaikekpgdehaa
open Go Go.Proofs Go.RowKit

theorem eqP_bin (a b : Int × Int) (w : World) : (binOp .eql 83 (encP a) (encP b)).run Try.prog w = .ok (.bool (decide (a = b))) w := by
  have := eqP_run a b w
  unfold encP at *
  simp [binOp, this]
set_option maxRecDepth 100000 in
set_option maxHeartbeats 2000000 in
theorem parted1_any (x : List Int) (h1 : 1 ≤ x.length) (h2 : x.length ≤ 4194304) (sx : Value) (n0 : Nat) (w : World) (hn : n0 ≤ w.heap.size) (hx : Ints n0 w sx x) (cb : Nat) (d : Int × Int) (hc0 : w.cell? ⟨cb, 0, none⟩ = some (.int .i64 d.1)) (hc1 : w.cell? ⟨cb, 1, none⟩ = some (.int .i64 d.2)) :
    Calls Try.prog 64 (#[sx] ++ #[.pointer (some ⟨cb, 0, none⟩)]) w fun e w' => e = .returned (.bool (decide (endP x = d))) ∧ Below w.heap.size w w' := by
  obtain ⟨d0, d1⟩ := d
  have hbd : Below w.heap.size w w.drew := below_drewN (Below.refl _ _) 1
  have hen := endsOf_any x h1 h2 sx n0 w.drew hn (hx.below (hbd.mono hn))
  obtain ⟨e0, e1, hd⟩ : ∃ e0 e1, endP x = (e0, e1) := ⟨_, _, rfl⟩
  rw [hd] at hen ⊢
  have heq := eqP_bin (e0, e1) (d0, d1)
  obtain ⟨p, c, rfl⟩ := hx.len
  generalize decide ((e0, e1) = (d0, d1)) = q at *
  unfold encP at *
  show Calls Try.prog 64 #[.slice p x.length c, .pointer (some ⟨cb, 0, none⟩)] w _
  have HC0 : Hid _ := hc0
  have HC1 : Hid _ := hc1
  clear hx hd h1 h2 hn hc0 hc1
  go_enter Try.func64, Try.ntmps64
  go_wp2_with fail
  refine wp_region_held_drew (S := (fun w' : World => w'.cell? ⟨cb, 0, none⟩ = some (.int .i64 d0) ∧ w'.cell? ⟨cb, 1, none⟩ = some (.int .i64 d1))) (by kernel_rfl) ⟨HC0.out, HC1.out⟩ (fun hHeld => ?_)
  refine wpAnyH_take (i := 0) (v := ?_) rfl (by kernel_rfl) (by kernel_rfl) (by kernel_rfl) (fun _ _ _ h => h) (Or.inl ⟨by rfl, ?_⟩) (by assumption) ?_
  rotate_left
  · intro w hSw; (try dsimp only at hSw); go_simp; (try with_reducible rfl)
  try simp only [Act.put, List.setIfInBounds_toArray]
  refine wpAnyH_take (i := 2) (v := ?_) rfl (by kernel_rfl) (by kernel_rfl) (by kernel_rfl) (fun _ _ _ h => h) (Or.inl ⟨by rfl, ?_⟩) (by assumption) ?_
  rotate_left
  · intro w hSw; (try dsimp only at hSw); go_simp; (try with_reducible rfl)
  try simp only [Act.put]
  clear hHeld
  refine wpAnyH_ready (rs := [1]) (by kernel_rfl) (by simp) ?_
  refine AllReadyH.cons rfl (fun K hK => ?_) AllReadyH.nil
  go_simp
  refine hen.mono ?_
  clear hen
  rintro e w2 ⟨rfl, hb2⟩
  refine hK.out _ _ ⟨cell_keepW hb2 HC0.out, cell_keepW hb2 HC1.out⟩ (fun hHeld => ?_)
  clear hK K
  try simp only [Act.put, List.setIfInBounds_toArray, List.set_cons_zero, List.set_cons_succ]
  refine wpAnyH_take (i := 3) (v := ?_) rfl (by kernel_rfl) (by kernel_rfl) (by kernel_rfl) (fun _ _ _ h => h) (Or.inl ⟨by rfl, ?_⟩) (by assumption) ?_
  rotate_left
  · intro w hSw; (try dsimp only at hSw); go_simp; (try with_reducible rfl)
  try simp only [Act.put, List.setIfInBounds_toArray]
  try simp only [List.getElem_toArray, List.getElem_cons_zero, List.getElem_cons_succ, List.set_cons_zero, List.set_cons_succ]
  refine wpAnyH_take (i := 4) (v := ?_) rfl (by kernel_rfl) (by kernel_rfl) (by kernel_rfl) (fun _ _ _ h => h) (Or.inl ⟨by rfl, ?_⟩) (by assumption) ?_
  rotate_left
  · intro w hSw; (try dsimp only at hSw); go_simp; (try with_reducible rfl)
  try simp only [Act.put, List.setIfInBounds_toArray]
  try simp only [List.getElem_toArray, List.getElem_cons_zero, List.getElem_cons_succ, List.set_cons_zero, List.set_cons_succ]
  refine wpAnyH_done (by kernel_rfl) ?_ _
  go_wp2
  go_ret
  exact ⟨rfl, hbd.trans hb2⟩

def ApartK (s t : Value) : Prop := ∀ k, s.ownBlock = some k → t.ownBlock ≠ some k
theorem ApartK.symm {s t : Value} (h : ApartK s t) : ApartK t s := fun k h1 h2 => h k h2 h1
theorem ApartK.step {W : World} {base : Nat} {e : TypeId} {size n : Nat} {xs : List Value} {s s' t : Value} (h : ApartK s t) (ht : W.ownsRow base e size t n xs) (hat : s'.ownBlock = s.ownBlock ∨ s'.ownBlock = some W.heap.size) : ApartK s' t := by
  intro k hk e
  rcases hat with h1 | h1
  · exact h k (h1 ▸ hk) e
  · rw [h1] at hk
    have := (ht.lt k e).2
    cases hk
    omega
theorem ApartK.kept {W W' : World} {base : Nat} {e : TypeId} {size n : Nat} {xs : List Value} {s t : Value} (h : ApartK s t) (ht : W.ownsRow base e size t n xs) (hg : W.grownBy W' s.ownBlock) : W'.ownsRow base e size t n xs := by
  refine ht.kept (row := s.ownBlock) hg ?_
  cases h1 : t.ownBlock with
  | none => exact .inl rfl
  | some k => exact .inr fun e => h k e.symm h1

/-- A way joins these two. -/
def farB (ws : List (List Int)) (c0 c : Int) : Bool := ws.any fun x => decide (endP x = (c0, c))
def preN (C : List Int) (ws : List (List Int)) (j : Nat) : List Int := (C.take j).filter fun c => !farB ws (C.getD 0 0) c
def preF (C : List Int) (ws : List (List Int)) (j : Nat) : List Int := (C.take j).filter fun c => farB ws (C.getD 0 0) c
theorem preN_len (C : List Int) (ws : List (List Int)) (j : Nat) : (preN C ws j).length ≤ C.length := Nat.le_trans (List.length_filter_le _ _) (by simp; omega)
theorem preF_len (C : List Int) (ws : List (List Int)) (j : Nat) : (preF C ws j).length ≤ C.length := Nat.le_trans (List.length_filter_le _ _) (by simp; omega)
theorem pre_far {C : List Int} {ws : List (List Int)} {j : Nat} (h : j < C.length) (hf : farB ws (C.getD 0 0) C[j] = true) : preN C ws (j + 1) = preN C ws j ∧ preF C ws (j + 1) = preF C ws j ++ [C[j]] := by
  unfold preN preF
  rw [take_snoc h, List.filter_append, List.filter_append]
  generalize C.getD 0 0 = x at *
  simp [hf]
theorem pre_near {C : List Int} {ws : List (List Int)} {j : Nat} (h : j < C.length) (hf : farB ws (C.getD 0 0) C[j] = false) : preN C ws (j + 1) = preN C ws j ++ [C[j]] ∧ preF C ws (j + 1) = preF C ws j := by
  unfold preN preF
  rw [take_snoc h, List.filter_append, List.filter_append]
  generalize C.getD 0 0 = x at *
  simp [hf]

set_option maxRecDepth 100000 in
set_option maxHeartbeats 4000000 in
theorem parted_any (C : List Int) (hC : C.length ≤ 4194304) (ws : List (List Int)) (hm : ws.length ≤ 4194304) (hw : ∀ x ∈ ws, 1 ≤ x.length ∧ x.length ≤ 4194304) (sv lv : Value) (w : World) (hc : Ints w.heap.size w sv C) (hl : Lsts w.heap.size w lv ws) :
    Calls Try.prog 45 #[sv, lv] w fun r w' => ∃ nv fv, r = .returned (.tuple #[nv, fv]) ∧ Ints w'.heap.size w' nv (preN C ws C.length) ∧ Ints w'.heap.size w' fv (preF C ws C.length) ∧ Below w.heap.size w w' := by
  obtain ⟨p, c, rfl⟩ := hc.len
  obtain ⟨pl, cl, rfl⟩ := hl.len
  obtain ⟨k0, hk, hy0, hy1, hy2⟩ := info_parts infoI
  have HW : Hid (∀ x ∈ ws, 1 ≤ x.length ∧ x.length ≤ 4194304) := hw
  have HL : Hid (Lsts w.heap.size w (.slice pl ws.length cl) ws) := hl
  clear hw hl
  go_enter Try.func45, Try.ntmps45
  go_wp2
  go_loopw [4, 5, 11] (fun nv fv i wr => ∃ j : Nat, j ≤ C.length ∧ i = .int .i64 j ∧ wr.ownsRow w.heap.size 3 1 nv (preN C ws j).length ((preN C ws j).map (Value.int .i64)) ∧ wr.ownsRow w.heap.size 3 1 fv (preF C ws j).length ((preF C ws j).map (Value.int .i64)) ∧ ApartK nv fv ∧ Below w.heap.size w wr) (fun _ _ i _ => C.length - (intOf i).toNat)
  case atStart => exact ⟨0, Nat.zero_le _, rfl, World.ownsRow_nil _ _ _ _, World.ownsRow_nil _ _ _ _, fun k h => by simp [Value.ownBlock] at h, Below.refl _ _⟩
  case round =>
    obtain ⟨j, hj, rfl, hO, hF, hap, hb⟩ := hrel
    obtain ⟨pn, cn, rfl⟩ := owns_form hO
    obtain ⟨pf, cf, rfl⟩ := owns_form hF
    by_cases hlt : j < C.length
    · have hjl : (j : Int) < (C.length : Int) := by omega
      have h0l : (0 : Int) < (C.length : Int) := by omega
      obtain ⟨b, off, rfl, hbb, hcap, hcx⟩ := Vals.open hc hlt
      have c0 := hcx wr hb j hlt
      have c1 := hcx wr hb 0 (by omega)
      simp only [Nat.add_zero] at c1
      have hgd : C.getD 0 0 = C[0] := by simp [show 0 < C.length by omega]
      have HPF : Hid (farB ws (C.getD 0 0) C[j] = true → preN C ws (j + 1) = preN C ws j ∧ preF C ws (j + 1) = preF C ws j ++ [C[j]]) := pre_far hlt
      have HPN : Hid (farB ws (C.getD 0 0) C[j] = false → preN C ws (j + 1) = preN C ws j ++ [C[j]] ∧ preF C ws (j + 1) = preF C ws j) := pre_near hlt
      rw [hgd] at HPF HPN
      have hnl := preN_len C ws j
      have hfl := preF_len C ws j
      generalize C[0] = x0 at *
      generalize C[j] = x1 at *
      generalize preN C ws j = A at *
      generalize preF C ws j = B at *
      have hbA : Below wr.heap.size wr (wr.alloc (.cells #[.int .i64 x0, .int .i64 x1] 83)) := ((Grew.refl wr).alloc _).below
      have hbwA := hb.trans (hbA.mono hb.size)
      have hcon := containsH_any 64 #[.pointer (some ⟨wr.heap.size, 0, none⟩)] (fun x => decide (endP x = (x0, x1))) (fun args W => by kernel_rfl) ws (by omega) (.slice pl ws.length cl) (wr.alloc (.cells #[.int .i64 x0, .int .i64 x1] 83)) ((HL.out.below hbwA).mono hbwA.size) (fun x hx sx W hW hI => parted1_any x (HW.out x hx).1 (HW.out x hx).2 sx _ W hW.size hI wr.heap.size (x0, x1) (cell_keepW hW (by go_simp)) (cell_keepW hW (by go_simp)))
      have HQ : Hid (farB ws x0 x1 = ws.any fun x => decide (endP x = (x0, x1))) := rfl
      rw [← HQ.out] at hcon
      have HO : Hid (wr.ownsRow w.heap.size 3 1 (.slice pn A.length cn) A.length (A.map (Value.int .i64))) := hO
      have HF : Hid (wr.ownsRow w.heap.size 3 1 (.slice pf B.length cf) B.length (B.map (Value.int .i64))) := hF
      have HB : Hid _ := hb
      have HBA : Hid _ := hbA
      have HAP : Hid _ := hap
      clear hO hF hb hap hbwA hcx hc hgd HQ
      go_wp2_with fail
      refine hcon.mono ?_
      clear hcon
      rintro e w5 ⟨rfl, hb5⟩
      have hb15 : Below wr.heap.size wr w5 := HBA.out.trans (hb5.mono HBA.out.size)
      have hO5 := owns_below HO.out hb15
      have hF5 := owns_below HF.out hb15
      have hbw5 : Below w.heap.size w w5 := HB.out.trans (hb15.mono HB.out.size)
      have hownN := hO5.alloc (.cells #[.int .i64 x1] 3)
      have hownF := hF5.alloc (.cells #[.int .i64 x1] 3)
      have hnews := one_cellK w5 (.int .i64 x1) 3
      have hone1 : ∀ u ∈ [Value.int .i64 x1], u.oneCell' = true := by intro u hu; simp at hu; subst hu; rfl
      have hbs : w.heap.size ≤ (w5.alloc (.cells #[.int .i64 x1] 3)).heap.size := by have := hbw5.size; simp; omega
      have HBX : Hid (Below w.heap.size w (w5.alloc (.cells #[.int .i64 x1] 3))) := hbw5.alloc hbw5.size _
      have hlowN : ∀ k, (Value.slice pn A.length cn).ownBlock = some k → w.heap.size ≤ k := fun k e => (HO.out.lt k e).1
      have hlowF : ∀ k, (Value.slice pf B.length cf).ownBlock = some k → w.heap.size ≤ k := fun k e => (HF.out.lt k e).1
      clear hO5 hF5 hb15 hbw5 hb5 HO HF HBA HB hbA
      cases hv : farB ws x0 x1 with
      | true =>
        have HE : Hid _ := HPF.out hv
        have hmx : B.length + 1 ≤ maxLen := by unfold maxLen; omega
        have hby : (B.length + 1) * 8 ≤ 140737488355328 := by omega
        clear hv HPF HPN
        go_wp2_with (at_builtin; refine wpList_append_own_at _ rfl _ _ 25 rfl w.heap.size 3 k0 (.int .i64 0) 1 8 Try.underlying25 hk hy0 hy1 hy2 rfl (by decide) (.slice pf B.length cf) _ _ rfl hownF ⟨w5.heap.size, 0, none⟩ 1 1 [.int .i64 x1] rfl rfl hnews hone1 hmx hby hbs ?_)
        intro v6 w6 hown6 hg6 hnil6 hat6
        have HN6 : Hid _ := ApartK.kept (ApartK.symm HAP.out) hownN hg6
        have HA6 : Hid (ApartK (.slice pn A.length cn) v6) := ApartK.symm (ApartK.step (ApartK.symm HAP.out) hownN (hat6.imp id fun h => h.trans (by simp)))
        obtain ⟨a6, c6, rfl⟩ := owns_form hown6
        have HO6 : Hid _ := hown6
        have HB6 : Hid (Below w.heap.size w w6) := Below.grown HBX.out hg6 hbs hlowF
        clear hown6 hg6 hnil6 hat6 hownN hownF hnews hone1 hmx hby hbs hlowN hlowF
        go_wp2
        refine ⟨⟨j + 1, by omega, by go_num, ?_, ?_, HA6.out, HB6.out⟩, by simp [intOf]; omega⟩
        · rw [HE.out.1]; exact HN6.out
        · rw [HE.out.2, List.length_append, List.map_append]; exact HO6.out
      | false =>
        have HE : Hid _ := HPN.out hv
        have hmx : A.length + 1 ≤ maxLen := by unfold maxLen; omega
        have hby : (A.length + 1) * 8 ≤ 140737488355328 := by omega
        clear hv HPF HPN
        go_wp2_with (at_builtin; refine wpList_append_own_at _ rfl _ _ 25 rfl w.heap.size 3 k0 (.int .i64 0) 1 8 Try.underlying25 hk hy0 hy1 hy2 rfl (by decide) (.slice pn A.length cn) _ _ rfl hownN ⟨w5.heap.size, 0, none⟩ 1 1 [.int .i64 x1] rfl rfl hnews hone1 hmx hby hbs ?_)
        intro v6 w6 hown6 hg6 hnil6 hat6
        have HN6 : Hid _ := ApartK.kept HAP.out hownF hg6
        have HA6 : Hid (ApartK v6 (.slice pf B.length cf)) := ApartK.step HAP.out hownF (hat6.imp id fun h => h.trans (by simp))
        obtain ⟨a6, c6, rfl⟩ := owns_form hown6
        have HO6 : Hid _ := hown6
        have HB6 : Hid (Below w.heap.size w w6) := Below.grown HBX.out hg6 hbs hlowN
        clear hown6 hg6 hnil6 hat6 hownN hownF hnews hone1 hmx hby hbs hlowN hlowF
        go_wp2
        refine ⟨⟨j + 1, by omega, by go_num, ?_, ?_, HA6.out, HB6.out⟩, by simp [intOf]; omega⟩
        · rw [HE.out.1, List.length_append, List.map_append]; exact HO6.out
        · rw [HE.out.2]; exact HN6.out
    · obtain rfl : j = C.length := by omega
      have HN : Hid (Ints wr.heap.size wr _ _) := owns_intsK hO
      have HF : Hid (Ints wr.heap.size wr _ _) := owns_intsK hF
      obtain ⟨A, HA⟩ : ∃ A, Hid (preN C ws C.length = A) := ⟨_, rfl⟩
      obtain ⟨B, HBB⟩ : ∃ B, Hid (preF C ws C.length = B) := ⟨_, rfl⟩
      rw [HA.out] at HN ⊢
      rw [HBB.out] at HF ⊢
      clear hO hF hap
      go_wp2
      go_ret2
      exact ⟨_, _, rfl, by rw [HA.out]; exact HN.out, by rw [HBB.out]; exact HF.out, hb⟩
end Go.Proofs.Ytgjaikekpgdehaa
