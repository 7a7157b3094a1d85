/-
  The contracts of fault.end, (*fault.Fault).Error, Unwrap, Wrap.
-/
import Derived.Test.YteleldeeakklpaaDoorFEnv
namespace Go.Proofs.YteleldeeakklpaaDoor
open Go Go.Proofs Go.RowKit

theorem enters47 (args : Array Value) (W : World) : (callFunc 47 args).run Tryd.prog W = .ok (.enter 47 args) W := by kernel_rfl
theorem enters31 (args : Array Value) (W : World) : (callFunc 31 args).run Tryd.prog W = .ok (.enter 31 args) W := by kernel_rfl

theorem end1_any (x : Value) (w : World) : Calls Tryd.prog 47 #[x] w fun e w' => e = .returned (.tuple #[]) ∧ w' = w := by
  go_enter Tryd.func47, Tryd.ntmps47
  go_wp2
  go_end0
  exact ⟨rfl, rfl⟩

set_option maxRecDepth 100000 in
set_option maxHeartbeats 1000000 in
theorem end_any {L : List (ByteArray × Int)} {N : Nat} {ev v : Value} (hev : EndV ev) (w : World) (hN : N ≤ w.heap.size) (hC : Chain w ev N L v) :
    Calls Tryd.prog 36 #[v] w fun e w' => e = .returned ev ∧ Below N w w' := by
  have hV : Visits 47 #[] N w.heap.size L (fun _ _ => True) := fun j b x v' W _ _ _ _ _ => (end1_any _ W).mono (by rintro e W' ⟨rfl, rfl⟩; exact ⟨rfl, trivial, Below.refl _ _, rfl⟩)
  have hB : Bears w.heap.size (fun _ _ => True) := fun _ _ _ _ _ _ => trivial
  go_enter Tryd.func36, Tryd.ntmps36
  go_wp2_with fail
  refine (walk_any 47 #[] L (fun _ _ => True) N ev v hev w hN hC enters47 hV hB trivial).mono ?_
  rintro e w' ⟨rfl, _, hb⟩
  go_wp2
  go_ret
  exact ⟨rfl, hb⟩

/-- The bytes that a chain's places tell. -/
def accL : List (ByteArray × Int) → List UInt8
  | [] => []
  | x :: L => (linkB x.1 x.2).data.toList ++ accL L
theorem accL_app : ∀ (A B : List (ByteArray × Int)), accL (A ++ B) = accL A ++ accL B
  | [], _ => rfl
  | x :: A, B => by simp [accL, accL_app A B]
theorem linkB_size (s : ByteArray) (a : Int) (h0 : -9223372036854775808 ≤ a) (h1 : a ≤ 9223372036854775807) : (linkB s a).size ≤ s.size + 24 := by
  have := Lib.itoa_length_le a h0 h1
  unfold linkB
  simp only [ByteArray.size_append]
  show s.size + 1 + (Lib.itoa a).length + 2 ≤ _
  omega
/-- Places of a bounded length. -/
def Okay (L : List (ByteArray × Int)) : Prop := L.length ≤ 100 ∧ ∀ x ∈ L, x.1.size ≤ 100000 ∧ -9223372036854775808 ≤ x.2 ∧ x.2 ≤ 9223372036854775807
theorem accL_len : ∀ (L : List (ByteArray × Int)), (∀ x ∈ L, x.1.size ≤ 100000 ∧ -9223372036854775808 ≤ x.2 ∧ x.2 ≤ 9223372036854775807) → (accL L).length ≤ L.length * 100024
  | [], _ => by simp [accL]
  | x :: L, h => by
    have h1 := accL_len L (fun y hy => h y (by simp [hy]))
    obtain ⟨h2, h3, h4⟩ := h x (by simp)
    have h5 := linkB_size x.1 x.2 h3 h4
    have e : (linkB x.1 x.2).data.toList.length = (linkB x.1 x.2).size := by simp
    simp only [accL, List.length_append, List.length_cons]
    omega

/-- What the text's builder holds behind j links. -/
def ErrI (c : Nat) (L : List (ByteArray × Int)) (j : Nat) (W : World) : Prop := Lib.IsBuilder TB TY c c (Lib.byteCells (accL (L.take j))) W ∧ Env W

set_option maxRecDepth 100000 in
set_option maxHeartbeats 1000000 in
theorem err1_visits {L : List (ByteArray × Int)} (hL : Okay L) {N c M : Nat} (hNc : N ≤ c) (h2 : 2 ≤ N) : Visits 31 #[.pointer (some ⟨c, 0, none⟩)] N M L (ErrI c L) := by
  intro j b x v' W hx hb hF hM ⟨hI, hE⟩
  have hxm : x ∈ L := List.mem_of_getElem? hx
  obtain ⟨hs, ha0, ha1⟩ := hL.2 x hxm
  have hj : j < L.length := (List.getElem?_eq_some_iff.1 hx).1
  have hlen : (accL (L.take j)).length ≤ 100 * 100024 := by
    have := accL_len (L.take j) (fun y hy => hL.2 y (List.mem_of_mem_take hy))
    have h1 : (L.take j).length ≤ 100 := Nat.le_trans (List.length_take_le' _ _) hL.1
    exact Nat.le_trans this (Nat.mul_le_mul_right _ h1)
  have hll := linkB_size x.1 x.2 ha0 ha1
  have hcW : c < W.heap.size := by
    rcases hI with h | h <;> exact h.lt
  have hcM : M ≠ c := by
    intro e
    obtain ⟨es, ck, hm⟩ := hM
    rcases hI with ⟨_, v, h, _⟩ | ⟨_, v, h, _⟩ <;> (rw [← e, hm] at h; cases h)
  go_enter Tryd.func31, Tryd.ntmps31
  go_wp2_with fail
  refine (text_fault b x.1 x.2 v' W hF hs ha0 ha1 hE.tab).mono ?_
  rintro e w1 ⟨rfl, hb1⟩
  have hI1 := builder_kept hI (kept_below hb1)
  have hM1 := hM.of (map_below hM hb1)
  go_wp2_with fail
  refine (writeString_any c c _ (linkB x.1 x.2) w1 hI1 (by simp [Lib.byteCells]; omega) (by have := hb1.size; omega)).mono ?_
  rintro e w2 ⟨rfl, hI2, hb2, hk2⟩
  go_wp2
  go_end0
  refine ⟨rfl, ⟨.inr ?_, ?_⟩, ?_, ?_⟩
  · rw [show Lib.byteCells (accL (L.take (j + 1))) = Lib.byteCells (accL (L.take j)) ++ Lib.strCells (linkB x.1 x.2) by
      rw [List.take_add_one, hx, accL_app]; simp [Lib.byteCells, Lib.strCells, accL]]
    exact hI2
  · exact (hE.go hb1).below (Nat.le_trans h2 hNc) hb2
  · exact (hb1.mono (by omega)).trans (hb2.mono hNc)
  · exact (map_kept8 hM1 hcM hk2).trans (map_below hM hb1)

theorem err1_bears {L : List (ByteArray × Int)} {c M : Nat} (hM2 : 2 ≤ M) : Bears M (ErrI c L) := by
  intro j W W' hM ⟨hI, hE⟩ hg
  refine ⟨builder_kept hI (kept_map hM hg), hE.below (n := 2) (Nat.le_refl _) ⟨hg.os, hg.tape, hg.output, hg.size, fun k hk => ?_⟩⟩
  have := hE.two
  exact hg.block k (by omega) (fun e => by have := Option.some.inj e; omega)

set_option maxRecDepth 100000 in
set_option maxHeartbeats 2000000 in
theorem error_any {L : List (ByteArray × Int)} (hL : Okay L) {ev : Value} {p : Addr} (hev : EndV ev) (tx : ByteArray) (htx : tx.size ≤ 100)
    (hT : ∀ W, Calls Tryd.prog 33 #[ev] W fun e w' => e = .returned (.string tx) ∧ Below W.heap.size W w') (w : World) (hE : Env w) (hC : Chain w ev w.heap.size L (.iface 29 (.pointer (some p)))) :
    Calls Tryd.prog 12 #[.pointer (some p)] w fun e w' => e = .returned (.string ⟨(accL L ++ tx.data.toList).toArray⟩) ∧ Below w.heap.size w w' := by
  have hm := hmf
  have hT : Hid _ := hT
  have hb1 : Below w.heap.size w (w.alloc (.cells #[.pointer none, .slice none 0 0] 71)) := (Below.refl _ _).alloc (Nat.le_refl _) _
  have hC1 := hC.below hb1
  have hE1 := hE.go hb1
  have hz : (w.alloc (.cells #[.pointer none, .slice none 0 0] 71)).heap.size = w.heap.size + 1 := by simp
  have h0 : ErrI w.heap.size L 0 ((w.alloc (.cells #[.pointer none, .slice none 0 0] 71)).alloc (.map #[] 0)) := by
    refine ⟨builder_kept (Lib.fresh_isBuilder TB TY w) (kept_below ((Below.refl _ _).alloc (Nat.le_refl _) _)), hE1.go ((Below.refl _ _).alloc (Nat.le_refl _) _)⟩
  have hlen : (accL L).length ≤ 100 * 100024 := Nat.le_trans (accL_len L hL.2) (Nat.mul_le_mul_right _ hL.1)
  have h2 := hE.two
  have hW := walk_any 31 #[.pointer (some ⟨w.heap.size, 0, none⟩)] L (ErrI w.heap.size L) w.heap.size ev _ hev (w.alloc (.cells #[.pointer none, .slice none 0 0] 71)) (by simp) hC1 enters31
    (err1_visits hL (Nat.le_refl _) h2) (err1_bears (by omega)) h0
  go_enter Tryd.func12, Tryd.ntmps12
  go_wp2_with fail
  refine hW.mono ?_
  clear hW h0
  rintro e w2 ⟨rfl, ⟨hI2, hE2⟩, hb2⟩
  rw [List.take_length] at hI2
  have hc2 : w.heap.size < w2.heap.size := by rcases hI2 with h | h <;> exact h.lt
  go_wp2_with fail
  refine (hT.out w2).mono ?_
  rintro e w3 ⟨rfl, hb3⟩
  have hI3 := builder_kept hI2 (kept_below hb3)
  go_wp2_with fail
  refine (writeString_any w.heap.size w.heap.size _ tx w3 hI3 (by simp [Lib.byteCells]; omega) (by have := hb3.size; omega)).mono ?_
  rintro e w4 ⟨rfl, hI4, hb4, _⟩
  have hI4' : Lib.IsBuilder TB TY w.heap.size w.heap.size (Lib.byteCells (accL L ++ tx.data.toList)) w4 := .inr (by
    have e : Lib.byteCells (accL L ++ tx.data.toList) = Lib.byteCells (accL L) ++ Lib.strCells tx := by simp [Lib.byteCells, Lib.strCells]
    rw [e]; exact hI4)
  go_wp2_with fail
  refine (Tryd.Builder_String_any w.heap.size w.heap.size _ w4 hI4' (by have := hb3.size; have := hb4.size; omega)).mono ?_
  rintro e w5 ⟨rfl, hb5⟩
  go_wp2
  go_ret
  exact ⟨rfl, (((hb1.trans hb2).trans (hb3.mono (by omega))).trans hb4).trans hb5⟩

set_option maxRecDepth 100000 in
set_option maxHeartbeats 2000000 in
/-- The text of a *Fault that is nil. -/
theorem error_nil (w : World) :
    Calls Tryd.prog 12 #[.pointer none] w fun e w' => e = .returned (.string ⟨#[]⟩) ∧ Below w.heap.size w w' := by
  have hm := hmf
  have hb1 : Below w.heap.size w (((w.alloc (.cells #[.pointer none, .slice none 0 0] 71)).alloc (.map #[] 0)).alloc (.cells #[] 98)) := (((Below.refl _ _).alloc (Nat.le_refl _) _).alloc (by simp) _).alloc (by simp; omega) _
  have hI : Lib.IsBuilder TB TY w.heap.size w.heap.size (Lib.byteCells []) (((w.alloc (.cells #[.pointer none, .slice none 0 0] 71)).alloc (.map #[] 0)).alloc (.cells #[] 98)) :=
    builder_kept (Lib.fresh_isBuilder TB TY w) (kept_below (((Below.refl _ _).alloc (Nat.le_refl _) _).alloc (by simp) _))
  go_enter Tryd.func12, Tryd.ntmps12
  go_wp2_with fail
  refine (walk_nilF _ _).mono ?_
  rintro e w2 ⟨rfl, hw2⟩
  rw [← hw2] at hb1 hI
  clear hw2
  have hc2 : w.heap.size < w2.heap.size := by rcases hI with h | h <;> exact h.lt
  go_wp2_with fail
  refine (text_nil w2).mono ?_
  rintro e w3 ⟨rfl, hb3⟩
  have hI3 := builder_kept hI (kept_below hb3)
  go_wp2_with fail
  refine (writeString_any w.heap.size w.heap.size _ ⟨#[]⟩ w3 hI3 (by show 0 + 0 ≤ _; omega) (by have := hb3.size; omega)).mono ?_
  rintro e w4 ⟨rfl, hI4, hb4, _⟩
  go_wp2_with fail
  refine (Tryd.Builder_String_any w.heap.size w.heap.size [] w4 (.inr hI4) (by have := hb3.size; have := hb4.size; omega)).mono ?_
  rintro e w5 ⟨rfl, hb5⟩
  go_wp2
  go_ret
  exact ⟨rfl, ((hb1.trans (hb3.mono (by omega))).trans hb4).trans hb5⟩

set_option maxRecDepth 100000 in
theorem unwrap_some (b : Nat) (s : ByteArray) (a : Int) (v' : Value) (w : World) (hF : FB w b s a v') :
    Calls Tryd.prog 14 #[.pointer (some ⟨b, 0, none⟩)] w fun e w' => e = .returned v' ∧ w' = w := by
  have c2 := hF.c2
  go_enter Tryd.func14, Tryd.ntmps14
  go_wp2
  go_ret
  exact ⟨rfl, rfl⟩
theorem unwrap_nil (w : World) :
    Calls Tryd.prog 14 #[.pointer none] w fun e w' => e = .returned .nilIface ∧ w' = w := by
  go_enter Tryd.func14, Tryd.ntmps14
  go_wp2
  go_ret
  exact ⟨rfl, rfl⟩

end Go.Proofs.YteleldeeakklpaaDoor
