/-
  What parts.walked makes, in whatever order: the links, four rows. And: start, whether its vertex has been seen or not.
-/
import Derived.Test.YtdgecflljgnobaaXPStart2
import Derived.Test.YtdgecflljgnobaaXPOkM
import Derived.Test.YtdgecflljgnobaaZBJ
namespace Go.Proofs.Ytdgecflljgnobaa
open Go Go.Proofs Go.RowKit

def lenR (N M : Nat) (i : Nat) : Nat := if i = 14 then M else N
def updV {α : Type} (X : Nat → α) (i : Nat) (v : α) : Nat → α := fun j => if j = i then v else X j
theorem updV_same {α : Type} (X : Nat → α) (i : Nat) (v : α) : updV X i v i = v := by simp [updV]
theorem updV_other {α : Type} (X : Nat → α) {i j : Nat} (v : α) (h : j ≠ i) : updV X i v j = X j := by simp [updV, h]
def rowZ (n : Nat) : List Value := (List.replicate n (0 : Int)).map (Value.int .i64)
/-- What has been made: d: which ones have; X: what they are; B: where they lie. -/
structure JW (N : Nat) (l : List Ed) (n1 : Nat) (d : List Nat) (X : Nat → Value) (B : Nat → Nat) (W : World) : Prop where
  ge : ∀ i, i ∈ d → n1 ≤ B i ∧ B i < W.heap.size
  sb : 1 ∈ d → n1 ≤ B 18 ∧ B 18 < W.heap.size ∧ B 1 ≠ B 18
  ne : ∀ i j, i ∈ d → j ∈ d → i ≠ j → B i ≠ B j
  ns : ∀ i, i ∈ d → i ≠ 1 → 1 ∈ d → B i ≠ B 18
  row : ∀ i, i ∈ d → i ≠ 1 → X i = .slice (some ⟨B i, 0, none⟩) (lenR N l.length i) (lenR N l.length i) ∧ Blk 3 W (B i) (rowZ (lenR N l.length i))
  lnk : 1 ∈ d → X 1 = .slice (some ⟨B 1, 0, none⟩) N N ∧ LnkI N (B 1) (B 18) (2 * l.length) (offR l (2 * l.length)) (fun v => (nb l (v : Int)).length) (fun v => linkOf (v : Int) 0 l) W
theorem JW.nil (N : Nat) (l : List Ed) (n1 : Nat) (X : Nat → Value) (B : Nat → Nat) (W : World) : JW N l n1 [] X B W :=
  ⟨fun i h => by simp at h, fun h => by simp at h, fun i j h => by simp at h, fun i h => by simp at h, fun i h => by simp at h, fun h => by simp at h⟩
theorem JW.addRow {N : Nat} {l : List Ed} {n1 : Nat} {d : List Nat} {X : Nat → Value} {B : Nat → Nat} {W : World} (h : JW N l n1 d X B W) {i : Nat} (hi : i ∉ d) (h1 : i ≠ 1) (h18 : i ≠ 18) (hn : n1 ≤ W.heap.size) {W' : World} (hB : Blk 3 W' W.heap.size (rowZ (lenR N l.length i))) (hb : Below W.heap.size W W') :
    JW N l n1 (i :: d) (updV X i (.slice (some ⟨W.heap.size, 0, none⟩) (lenR N l.length i) (lenR N l.length i))) (updV B i W.heap.size) W' := by
  have hlt : W.heap.size < W'.heap.size := hB.lt
  have hB18 : ∀ v, updV B i v 18 = B 18 := fun v => updV_other B v (Ne.symm h18)
  have hB1 : ∀ v, updV B i v 1 = B 1 := fun v => updV_other B v (Ne.symm h1)
  have hold : ∀ j, j ∈ d → j ≠ i := fun j hj e => hi (e ▸ hj)
  have o1 : 1 ∈ i :: d → 1 ∈ d := fun h => by rcases List.mem_cons.1 h with e | e; · exact absurd e.symm h1
                                              · exact e
  refine ⟨fun j hj => ?_, fun hj => ?_, fun j k hj hk hne => ?_, fun j hj hj1 h1d => ?_, fun j hj hj1 => ?_, fun hj => ?_⟩
  · rcases List.mem_cons.1 hj with rfl | hj
    · rw [updV_same]; exact ⟨hn, hlt⟩
    · rw [updV_other B _ (hold j hj)]; have := h.ge j hj; omega
  · rw [hB18, hB1]; have := h.sb (o1 hj); omega
  · rcases List.mem_cons.1 hj with ej | hj'
    · rcases List.mem_cons.1 hk with ek | hk'
      · exact absurd (ej.trans ek.symm) hne
      · rw [ej, updV_same, updV_other B _ (hold k hk')]; have := h.ge k hk'; omega
    · rcases List.mem_cons.1 hk with ek | hk'
      · rw [ek, updV_same, updV_other B _ (hold j hj')]; have := h.ge j hj'; omega
      · rw [updV_other B _ (hold j hj'), updV_other B _ (hold k hk')]; exact h.ne j k hj' hk' hne
  · rw [hB18]
    have hs := h.sb (o1 h1d)
    rcases List.mem_cons.1 hj with rfl | hj
    · rw [updV_same]; omega
    · rw [updV_other B _ (hold j hj)]; exact h.ns j hj hj1 (o1 h1d)
  · rcases List.mem_cons.1 hj with rfl | hj
    · rw [updV_same, updV_same]; exact ⟨rfl, hB⟩
    · rw [updV_other B _ (hold j hj), updV_other X _ (hold j hj)]
      obtain ⟨g1, g2⟩ := h.row j hj hj1
      exact ⟨g1, g2.go hb⟩
  · rw [hB18, hB1, updV_other X _ (Ne.symm h1)]
    obtain ⟨g1, g2⟩ := h.lnk (o1 hj)
    exact ⟨g1, g2.go hb⟩
theorem JW.addLnk {N : Nat} {l : List Ed} {n1 : Nat} {d : List Nat} {X : Nat → Value} {B : Nat → Nat} {W : World} (h : JW N l n1 d X B W) (hi : 1 ∉ d) (h18 : 18 ∉ d) (hn : n1 ≤ W.heap.size) {W' : World} {lb sb : Nat} (hlb : W.heap.size < lb) (hsb : W.heap.size < sb) (hne : lb ≠ sb) (hI : LnkI N lb sb (2 * l.length) (offR l (2 * l.length)) (fun v => (nb l (v : Int)).length) (fun v => linkOf (v : Int) 0 l) W') (hb : Below W.heap.size W W') :
    JW N l n1 (1 :: d) (updV X 1 (.slice (some ⟨lb, 0, none⟩) N N)) (updV (updV B 1 lb) 18 sb) W' := by
  have e18 : updV (updV B 1 lb) 18 sb 18 = sb := updV_same _ _ _
  have e1 : updV (updV B 1 lb) 18 sb 1 = lb := by rw [updV_other _ _ (by omega), updV_same]
  have eo : ∀ j, j ∈ d → updV (updV B 1 lb) 18 sb j = B j := fun j hj => by
    rw [updV_other _ _ (fun e => h18 (by rw [← e]; exact hj)), updV_other _ _ (fun e => hi (by rw [← e]; exact hj))]
  have hl1 := hI.row.lt
  have hl2 : sb < W'.heap.size := by obtain ⟨cs, hc, _⟩ := hI.cur; exact hc.lt
  refine ⟨fun j hj => ?_, fun _ => ?_, fun j k hj hk hjk => ?_, fun j hj hj1 _ => ?_, fun j hj hj1 => ?_, fun _ => ?_⟩
  · rcases List.mem_cons.1 hj with rfl | hj
    · rw [e1]; omega
    · rw [eo j hj]; have := h.ge j hj; have := hb.size; omega
  · rw [e18, e1]; omega
  · rcases List.mem_cons.1 hj with rfl | hj
    · rcases List.mem_cons.1 hk with rfl | hk
      · exact absurd rfl hjk
      · rw [e1, eo k hk]; have := h.ge k hk; omega
    · rcases List.mem_cons.1 hk with rfl | hk
      · rw [e1, eo j hj]; have := h.ge j hj; omega
      · rw [eo j hj, eo k hk]; exact h.ne j k hj hk hjk
  · rcases List.mem_cons.1 hj with rfl | hj
    · exact absurd rfl hj1
    · rw [e18, eo j hj]; have := h.ge j hj; omega
  · rcases List.mem_cons.1 hj with rfl | hj
    · exact absurd rfl hj1
    · rw [eo j hj, updV_other X _ (fun e => hi (by rw [← e]; exact hj))]
      obtain ⟨g1, g2⟩ := h.row j hj hj1
      exact ⟨g1, g2.go hb⟩
  · rw [e18, e1, updV_same]; exact ⟨rfl, hI⟩
theorem rowZ_made (n : Nat) : (madeCells #[Value.int .i64 0] n).toList = rowZ n := by
  have := ints_made n
  rw [Nat.mul_one] at this
  exact this

theorem lnk_lk {a : Lay} {lb sb M2 : Nat} {off deg : Nat → Nat} {l : List Ed} {W : World} (hI : LnkI a.N lb sb M2 off deg (fun v => linkOf (v : Int) 0 l) W) (h1 : lb < a.h0) (h2 : sb < a.h0) (h3 : ¬ a.five lb) (h4 : ¬ a.five sb) : LK a (.slice (some ⟨lb, 0, none⟩) a.N a.N) (linksL a.N l) W := by
  obtain ⟨cs, hc, hcl, hcs⟩ := hI.cur
  refine ⟨lb, sb, _, cs, rfl, h1, h3, h2, h4, by simp [linksL], hI.row, hc, fun v xs hxs => ?_⟩
  have hv : v < a.N := by
    have := (List.getElem?_eq_some_iff.1 hxs).1
    simpa [linksL] using this
  have he : xs = linkOf (v : Int) 0 l := by
    have := hxs
    simp [linksL, hv] at this
    exact this.symm
  subst he
  refine ⟨off v * 2, deg v, rowsK_at hv, fun j x hx => ?_⟩
  have := hcs v j x hv hx
  rw [Nat.add_mul] at this
  exact this
theorem links_short {N : Nat} {l : List Ed} (hR : RightG (N : Int) l) (v : Nat) : ((linksL N l).getD v []).length ≤ 4194304 := by
  by_cases hv : v < N
  · rw [linksL_get hv, linkOf_len]
    have := nb_len (v : Int) l
    have := hR.m1
    omega
  · rw [linksL_out hv]; simp
theorem rep_set (N j : Nat) (hj : j < N) : (List.replicate j (-1 : Int) ++ List.replicate (N - j) 0).set j (-1) = List.replicate (j + 1) (-1) ++ List.replicate (N - (j + 1)) 0 := by
  rw [List.set_append_right _ _ (by simp), List.length_replicate, Nat.sub_self]
  obtain ⟨m, hm⟩ : ∃ m, N - j = m + 1 := ⟨N - j - 1, by omega⟩
  rw [hm, List.replicate_succ, List.set_cons_zero, show N - (j + 1) = m from by omega, List.replicate_succ', List.append_assoc]
  rfl
theorem start_any (a : Lay) (hL : LayOK a) (lv pv ov : Value) (lk : List (List (Int × Int))) (C : Nat) (s : WS) (r : Nat) (hr : r < a.N) (hN : a.N ≤ 1048576) (hC : C ≤ 1073741823) (hK : LinksIn a.N a.M lk) (hdeg : ∀ v, (lk.getD v []).length ≤ 4194304) (hOk : OkW a.N a.M C lk s) (hp : s.path = []) (w : World) (h : WB a lv pv ov s w) (hA : Apart2 pv ov) (hlk : LK a lv lk w) (hh : a.h0 ≤ w.heap.size) :
    Calls Try.prog 47 #[.pointer (some ⟨a.wb, 0, none⟩), .int .i64 (r : Int)] w fun e w' => e = .returned (.tuple #[]) ∧ ∃ pv' ov', WB a lv pv' ov' (startW lk C s r) w' ∧ Apart2 pv' ov' ∧ Wk a w w' ∧ OkW a.N a.M C lk (startW lk C s r) ∧ (startW lk C s r).path = [] := by
  by_cases hs : s.depth.getD r 0 < 0
  · exact start_new a hL lv pv ov lk C s r hr hN hC hK hdeg hOk hp hs C (by have := hOk.bo; omega) w h hA hlk hh
  · refine (start_seen a lv pv ov s r hr hN hOk.lenD (by omega) w h).mono ?_
    rintro e w' ⟨rfl, rfl⟩
    have e : startW lk C s r = s := by unfold startW; rw [if_pos (by omega)]
    rw [e]
    exact ⟨rfl, pv, ov, h, hA, Wk.refl _ _, hOk, hp⟩
end Go.Proofs.Ytdgecflljgnobaa
