/-
  The closure of text.Print that tells a line: a word, and numbers behind blanks.
-/
import Derived.Lib.AppendStr
import Derived.Test.YthlkknfhganecaaGreatDoorURefPrint
namespace Go.Proofs.YthlkknfhganecaaGreatDoor
open Go Go.Proofs Go.RowKit

/-- A line's bytes. -/
def lineL (word : ByteArray) (ns : List Int) : List UInt8 := word.data.toList ++ ns.flatMap (fun n => 32 :: Lib.itoa n) ++ [10]
/-- The cell c holds the bytes told so far, in a row of its own above c. -/
def PrI (c : Nat) (xs : List UInt8) (W : World) : Prop := ∃ tv, W.heap[c]? = some (.cells #[tv] 27 (0, 0)) ∧ W.ownsRow (c + 1) 5 1 tv xs.length (Lib.byteCells xs)
/-- The block nb holds the numbers. -/
def NB (W : World) (nb : Nat) (ns : List Int) : Prop := W.heap[nb]? = some (.cells (ns.map (Value.int .i64)).toArray 2 (0, 0))
theorem info5 : (Tryz.prog.info? 5).map (fun i => (i.zero, i.size, i.bytes)) = some (some (.int .u8 0), 1, 1) := by kernel_rfl
theorem own_ne {W : World} {base : Nat} {tv : Value} {n : Nat} {xs : List Value} (h : W.ownsRow base 5 1 tv n xs) {k : Nat} (hk : k < base) : tv.ownBlock ≠ some k := by
  rcases h.2 with ⟨rfl, _⟩ | ⟨g, cap, cur, rfl, h1, _⟩
  · simp [Value.ownBlock]
  · simp [Value.ownBlock]; omega
theorem own_nb {W : World} {base : Nat} {tv : Value} {n : Nat} {xs : List Value} (h : W.ownsRow base 5 1 tv n xs) {nb : Nat} {ns : List Int} (hN : NB W nb ns) : tv.ownBlock ≠ some nb := by
  rcases h.2 with ⟨rfl, _⟩ | ⟨g, cap, cur, rfl, h1, h2, _⟩
  · simp [Value.ownBlock]
  · simp only [Value.ownBlock, ne_eq, Option.some.injEq]
    rintro rfl
    rw [show W.heap[g]? = _ from hN] at h2
    simp at h2
/-- What stays through an append onto the row. -/
theorem grow_keep {W w1 : World} {tv : Value} {n : Nat} {xs : List Value} {c : Nat} (hc : c + 1 ≤ W.heap.size) (h : W.ownsRow (c + 1) 5 1 tv n xs) (hg : W.grownBy w1 tv.ownBlock) : Below (c + 1) W w1 :=
  ⟨hg.os, hg.tape, hg.output, hg.size, fun k hk => hg.block k (by omega) (fun e => own_ne h hk e.symm)⟩
theorem grow_nb {W w1 : World} {tv : Value} {n : Nat} {xs : List Value} {base : Nat} (h : W.ownsRow base 5 1 tv n xs) (hg : W.grownBy w1 tv.ownBlock) {nb : Nat} {ns : List Int} (hN : NB W nb ns) : NB w1 nb ns :=
  (hg.block nb (Array.getElem?_eq_some_iff.1 (show W.heap[nb]? = _ from hN)).1 (fun e => own_nb h hN e.symm)).trans hN
/-- The row's new slice value stored into the cell. -/
theorem pr_put {w1 : World} {c : Nat} {tv v : Value} {xs : List UInt8} (hc : w1.heap[c]? = some (.cells #[tv] 27 (0, 0))) (h : w1.ownsRow (c + 1) 5 1 v xs.length (Lib.byteCells xs)) : PrI c xs (w1.setCell ⟨c, 0, none⟩ v) :=
  ⟨v, heap_setCell_same hc v, h.kept (World.grownBy_setCell w1 c 0 v) (.inr (own_ne h (by omega)))⟩
theorem put_keep (w1 : World) (c : Nat) (v : Value) : Below c w1 (w1.setCell ⟨c, 0, none⟩ v) := Below.setCell (p := ⟨c, 0, none⟩) (Below.refl c w1) (Nat.le_refl _) v
theorem put_nb {w1 : World} {c : Nat} {v : Value} {tv : Value} (hc : w1.heap[c]? = some (.cells #[tv] 27 (0, 0))) {nb : Nat} {ns : List Int} (hN : NB w1 nb ns) : NB (w1.setCell ⟨c, 0, none⟩ v) nb ns := by
  have hne : nb ≠ c := by
    rintro rfl
    rw [show w1.heap[nb]? = _ from hN] at hc
    simp at hc
  exact ((World.grownBy_setCell w1 c 0 v).block nb (Array.getElem?_eq_some_iff.1 (show w1.heap[nb]? = _ from hN)).1 (by simpa using hne)).trans hN
theorem NB.cell {W : World} {nb : Nat} {ns : List Int} (h : NB W nb ns) {j : Nat} (hj : j < ns.length) : W.cell? ⟨nb, j, none⟩ = some (.int .i64 ns[j]) := by
  simp [World.cell?, show W.heap[nb]? = _ from h, hj]

theorem fm_len : ∀ (L : List Int), (∀ x ∈ L, In64 x) → (L.flatMap (fun n => 32 :: Lib.itoa n)).length ≤ 22 * L.length
  | [], _ => by simp
  | x :: L, h => by
    have h1 := fm_len L (fun y hy => h y (by simp [hy]))
    have hx := h x (by simp)
    have h2 := Lib.itoa_length_le x hx.1 hx.2
    simp only [List.flatMap_cons, List.length_append, List.length_cons]
    omega
theorem byte_news (wr : World) (b : Int) : ∀ (i : Nat) (u : Value), [Value.int .u8 b][i]? = some u → (wr.alloc (.cells #[.int .u8 b] 5)).cell? ((⟨wr.heap.size, 0, none⟩ : Addr).add i) = some u := by
  intro i u hu
  cases i with
  | zero => simp at hu; subst hu; simp [Addr.add]
  | succ i => simp at hu
theorem byte_one (b : Int) : ∀ u ∈ [Value.int .u8 b], u.oneCell' = true := by intro u hu; rw [List.mem_singleton.1 hu]; rfl
theorem cells_app (A B : List UInt8) : Lib.byteCells (A ++ B) = Lib.byteCells A ++ Lib.byteCells B := by simp [Lib.byteCells]
theorem NB.alloc {W : World} {nb : Nat} {ns : List Int} (h : NB W nb ns) (o : Obj) : NB (W.alloc o) nb ns := by
  have hlt := (Array.getElem?_eq_some_iff.1 (show W.heap[nb]? = _ from h)).1
  exact (Below.heap_alloc _ _ _ hlt).trans h
theorem NB.others {W W' : World} {nb : Nat} {ns : List Int} (h : NB W nb ns) (hk : Lib.OthersKept 5 none W W') : NB W' nb ns :=
  hk nb _ h (by simp) (fun c fz e => by simp at e)

set_option maxRecDepth 100000 in
set_option maxHeartbeats 2000000 in
theorem line1_any (c nb cap : Nat) (word : ByteArray) (hw : word.size ≤ 10) (ns : List Int) (hns : ns.length ≤ 3) (hin : ∀ x ∈ ns, In64 x) (xs : List UInt8) (hx : xs.length ≤ 1000000000) (W : World) (hG : 9 ≤ c) (hE : Env W) (hP : PrI c xs W) (hN : NB W nb ns) :
    Calls Tryz.prog 30 #[.string word, .slice (some ⟨nb, 0, none⟩) ns.length cap, .pointer (some ⟨c, 0, none⟩)] W fun e w' => e = .returned (.tuple #[]) ∧ PrI c (xs ++ lineL word ns) w' ∧ Below c W w' := by
  obtain ⟨i0, hi, hz0, hz1, hz2⟩ := info_parts info5
  obtain ⟨tv, hc, hown⟩ := hP
  have hcs : c + 1 ≤ W.heap.size := (Array.getElem?_eq_some_iff.1 hc).1
  have x0 := cell0 hc
  have hlen0 : ∀ L : List UInt8, (xs ++ L).length = xs.length + L.length := fun L => List.length_append
  have e1 : word.data.toList.length = word.size := Array.length_toList
  go_enter Tryz.func30, Tryz.ntmps30
  go_wp2_with (at_builtin; refine Lib.wpList_append_own_string _ rfl _ _ 27 9 rfl (c + 1) 5 i0 Tryz.underlying27 Tryz.underlying9 hi hz0 hz1 hz2 tv xs.length _ rfl hown word rfl ?c3 ?c4 hcs ?_)
  case c3 => simp only [maxLen]; omega
  case c4 => omega
  intro v1 w1 hown1 hg1 _
  obtain ⟨a1, m1, k1, rfl⟩ := owns_slice hown1
  have hb1 := grow_keep hcs hown hg1
  have hN1 := grow_nb hown hg1 hN
  have hc1 : w1.heap[c]? = some (.cells #[tv] 27 (0, 0)) := (hb1.block c (by omega)).trans hc
  have hown1' : w1.ownsRow (c + 1) 5 1 (.slice a1 m1 k1) (xs ++ word.data.toList).length (Lib.byteCells (xs ++ word.data.toList)) := by
    have e2 : Lib.byteCells (xs ++ word.data.toList) = Lib.byteCells xs ++ Lib.strCells word := by simp [Lib.byteCells, Lib.strCells]
    rw [hlen0, e1, e2]
    exact hown1
  have hP2 := pr_put hc1 hown1'
  have hN2 := put_nb (v := .slice a1 m1 k1) hc1 hN1
  have hb2 : Below c W (w1.setCell ⟨c, 0, none⟩ (.slice a1 m1 k1)) := (hb1.mono (by omega)).trans (put_keep _ _ _)
  have x1 := cell0 hc1
  have y1 := froz0 hc1
  clear hown1 hown1' hg1 hN1
  go_wp2
  go_loopw [12] (fun iv wr => ∃ j : Nat, j ≤ ns.length ∧ iv = .int .i64 j ∧ PrI c (xs ++ word.data.toList ++ (ns.take j).flatMap (fun n => 32 :: Lib.itoa n)) wr ∧ NB wr nb ns ∧ Below c W wr) (fun iv _ => ns.length - (intOf iv).toNat)
  case atStart => exact ⟨0, Nat.zero_le _, rfl, by simpa using hP2, hN2, hb2⟩
  case round =>
    obtain ⟨j, hj, rfl, ⟨tw, hcr, hownr⟩, hNr, hbr⟩ := hrel
    have hcsr : c + 1 ≤ wr.heap.size := (Array.getElem?_eq_some_iff.1 hcr).1
    have HL : ((ns.take j).flatMap (fun n => 32 :: Lib.itoa n)).length ≤ 66 := by
      have h1 := fm_len (ns.take j) (fun x hx => hin x (List.mem_of_mem_take hx))
      have h2 := List.length_take_le' j ns
      omega
    have hlen : (xs ++ word.data.toList ++ (ns.take j).flatMap (fun n => 32 :: Lib.itoa n)).length ≤ 1000000076 := by
      rw [List.length_append, hlen0, e1]; omega
    have HT : Hid (∀ x, ns[j]? = some x → xs ++ word.data.toList ++ (ns.take (j + 1)).flatMap (fun n => 32 :: Lib.itoa n) = (xs ++ word.data.toList ++ (ns.take j).flatMap (fun n => 32 :: Lib.itoa n)) ++ [32] ++ Lib.itoa x) := by
      intro x hx
      rw [List.take_add_one, hx]
      simp
    have HF : Hid (j = ns.length → xs ++ lineL word ns = (xs ++ word.data.toList ++ (ns.take j).flatMap (fun n => 32 :: Lib.itoa n)) ++ [10]) := by
      rintro rfl
      rw [List.take_length]
      simp [lineL]
    generalize xs ++ word.data.toList ++ (ns.take j).flatMap (fun n => 32 :: Lib.itoa n) = A at hownr hlen HT HF
    have z0 := cell0 hcr
    by_cases hlt : j < ns.length
    · have hlt' : (j : Int) < (ns.length : Int) := by omega
      have hnc := hNr.cell hlt
      have hjx : ns[j]? = some ns[j] := List.getElem?_eq_getElem hlt
      have hi64 := hin ns[j] (List.getElem_mem hlt)
      have HT2 : Hid (xs ++ word.data.toList ++ (ns.take (j + 1)).flatMap (fun n => 32 :: Lib.itoa n) = A ++ [32] ++ Lib.itoa ns[j]) := HT.out _ hjx
      clear HT HF
      generalize ns[j] = x at hnc hi64 HT2
      have hba : Below c W (wr.alloc (.cells #[.int .u8 32] 5)) := hbr.trans (((Below.refl _ _).alloc (Nat.le_refl _) _).mono (by omega))
      have hca : (wr.alloc (.cells #[.int .u8 32] 5)).heap[c]? = some (.cells #[tw] 27 (0, 0)) := (Below.heap_alloc _ _ _ (by omega)).trans hcr
      have hcsa : c + 1 ≤ (wr.alloc (.cells #[.int .u8 32] 5)).heap.size := by rw [World.size_alloc]; omega
      have hNa := hNr.alloc (.cells #[.int .u8 32] 5)
      have hnews := byte_news wr 32
      have hmx : A.length + 1 ≤ maxLen := by simp only [maxLen]; omega
      have hby : (A.length + 1) * 1 ≤ 140737488355328 := by omega
      go_wp2_with (at_builtin; refine wpList_append_own_at _ rfl _ _ 27 rfl (c + 1) 5 i0 (.int .u8 0) 1 1 Tryz.underlying27 hi hz0 hz1 hz2 rfl (by decide) tw _ _ rfl (hownr.alloc _) ⟨wr.heap.size, 0, none⟩ 1 1 [.int .u8 32] rfl rfl hnews (byte_one 32) hmx hby hcsa ?_)
      intro v6 w6 hown6 hg6 hnil6 hat6
      obtain ⟨a6, m6, k6, rfl⟩ := owns_slice hown6
      have hb6 := grow_keep hcsa (hownr.alloc _) hg6
      have hN6 := grow_nb (hownr.alloc _) hg6 hNa
      have hc6 : w6.heap[c]? = some (.cells #[tw] 27 (0, 0)) := (hb6.block c (by omega)).trans hca
      have x6 := cell0 hc6
      have y6 := froz0 hc6
      have hown6' : w6.ownsRow (c + 1) 5 1 (.slice a6 m6 k6) (A ++ [32]).length (Lib.byteCells (A ++ [32])) := by
        rw [List.length_append, cells_app]; exact hown6
      have hc7 := heap_setCell_same hc6 (o := 0) (.slice a6 m6 k6)
      have hown7 := hown6'.kept (World.grownBy_setCell w6 c 0 (.slice a6 m6 k6)) (.inr (own_ne hown6' (by omega)))
      have hN7 := put_nb (v := .slice a6 m6 k6) hc6 hN6
      have hb7 : Below c W (w6.setCell ⟨c, 0, none⟩ (.slice a6 m6 k6)) := (hba.trans (hb6.mono (by omega))).trans (put_keep _ _ _)
      have hcs7 : c + 1 ≤ (w6.setCell ⟨c, 0, none⟩ (.slice a6 m6 k6)).heap.size := (Array.getElem?_eq_some_iff.1 hc7).1
      clear hown6 hown6' hg6 hnil6 hat6 hN6 hb6 hca hba hNa hnews hcsa
      go_wp2_with fail
      have hE7 := hE.below hG hb7
      generalize w6.setCell ⟨c, 0, none⟩ (.slice a6 m6 k6) = w7 at hc7 hown7 hN7 hb7 hcs7 hE7 ⊢
      have hl7 : (A ++ [32]).length + 21 ≤ 140737488355328 := by rw [List.length_append]; simp only [List.length_cons, List.length_nil]; omega
      refine (Tryz.strconv_AppendInt_10 (c + 1) (A ++ [32]).length x hi64.1 hi64.2 (.slice a6 m6 k6) _ w7 hown7 hcs7 hl7 (fun w' h' => tab_below hE7.tab (by omega) h')).mono ?_
      rintro e w8 ⟨v8, rfl, hown8, hb8, hk8⟩
      obtain ⟨a8, m8, k8, rfl⟩ := owns_slice hown8
      have hc8 : w8.heap[c]? = some (.cells #[.slice a6 m6 k6] 27 (0, 0)) := (hb8.block c (by omega)).trans hc7
      have x8 := cell0 hc8
      have y8 := froz0 hc8
      have hown8' : w8.ownsRow (c + 1) 5 1 (.slice a8 m8 k8) (A ++ [32] ++ Lib.itoa x).length (Lib.byteCells (A ++ [32] ++ Lib.itoa x)) := by
        have e9 : (A ++ [32] ++ Lib.itoa x).length = (A ++ [32]).length + (Lib.itoa x).length := by simp only [List.length_append]
        rw [e9, cells_app (A ++ [32])]; exact hown8
      have hP9 := pr_put hc8 hown8'
      have hN9 := put_nb (v := .slice a8 m8 k8) hc8 (hN7.others hk8)
      have hb9 : Below c W (w8.setCell ⟨c, 0, none⟩ (.slice a8 m8 k8)) := (hb7.trans (hb8.mono (by omega))).trans (put_keep _ _ _)
      clear hown8 hown8' hown7 hk8
      go_wp2
      exact ⟨⟨j + 1, by omega, by go_num, by rw [HT2.out]; exact hP9, hN9, hb9⟩, by simp [intOf]; omega⟩
    · obtain rfl : j = ns.length := by omega
      have hlt' : ¬ (ns.length : Int) < (ns.length : Int) := by omega
      have HF2 : Hid (xs ++ lineL word ns = A ++ [10]) := HF.out rfl
      clear HT HF
      have hba : Below c W (wr.alloc (.cells #[.int .u8 10] 5)) := hbr.trans (((Below.refl _ _).alloc (Nat.le_refl _) _).mono (by omega))
      have hca : (wr.alloc (.cells #[.int .u8 10] 5)).heap[c]? = some (.cells #[tw] 27 (0, 0)) := (Below.heap_alloc _ _ _ (by omega)).trans hcr
      have hcsa : c + 1 ≤ (wr.alloc (.cells #[.int .u8 10] 5)).heap.size := by rw [World.size_alloc]; omega
      have hnews := byte_news wr 10
      have hmx : A.length + 1 ≤ maxLen := by simp only [maxLen]; omega
      have hby : (A.length + 1) * 1 ≤ 140737488355328 := by omega
      go_wp2_with (at_builtin; refine wpList_append_own_at _ rfl _ _ 27 rfl (c + 1) 5 i0 (.int .u8 0) 1 1 Tryz.underlying27 hi hz0 hz1 hz2 rfl (by decide) tw _ _ rfl (hownr.alloc _) ⟨wr.heap.size, 0, none⟩ 1 1 [.int .u8 10] rfl rfl hnews (byte_one 10) hmx hby hcsa ?_)
      intro v6 w6 hown6 hg6 hnil6 hat6
      obtain ⟨a6, m6, k6, rfl⟩ := owns_slice hown6
      have hb6 := grow_keep hcsa (hownr.alloc _) hg6
      have hc6 : w6.heap[c]? = some (.cells #[tw] 27 (0, 0)) := (hb6.block c (by omega)).trans hca
      have x6 := cell0 hc6
      have y6 := froz0 hc6
      have hown6' : w6.ownsRow (c + 1) 5 1 (.slice a6 m6 k6) (A ++ [10]).length (Lib.byteCells (A ++ [10])) := by
        rw [List.length_append, cells_app]; exact hown6
      have hP7 := pr_put hc6 hown6'
      have hb7 : Below c W (w6.setCell ⟨c, 0, none⟩ (.slice a6 m6 k6)) := (hba.trans (hb6.mono (by omega))).trans (put_keep _ _ _)
      clear hown6 hown6' hg6 hnil6 hat6
      go_wp2
      go_end0
      exact ⟨rfl, by rw [HF2.out]; exact hP7, hb7⟩
end Go.Proofs.YthlkknfhganecaaGreatDoor
