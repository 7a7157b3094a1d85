/-
  The reference's Print (filigreeref05): the canonical text of a graph.
-/
import Derived.Deep.DeepCutAuto
import Derived.Deep.CutBlock
import Derived.Test.YthlkknfhganecaaGreatDoorUDig
namespace Go.Proofs.YthlkknfhganecaaGreatDoor
open Go Go.Proofs Go.RowKit

def iB (n : Int) : ByteArray := ⟨(Lib.itoa n).toArray⟩
theorem iB_size (n : Int) : (iB n).size = (Lib.itoa n).length := by simp [iB, ByteArray.size]
/-- The first line. -/
def headP (n k : Int) : ByteArray := ⟨#[103, 114, 97, 112, 104, 32]⟩ ++ iB n ++ ⟨#[32]⟩ ++ iB k ++ ⟨#[10]⟩
/-- A text with an edge's line behind it. -/
def edgeP (s : ByteArray) (e : Ed) : ByteArray := s ++ ⟨#[101, 100, 103, 101, 32]⟩ ++ iB e.1 ++ ⟨#[32]⟩ ++ iB e.2.1 ++ ⟨#[32]⟩ ++ iB e.2.2 ++ ⟨#[10]⟩
def printB (n : Int) (l : List Ed) : ByteArray := l.foldl edgeP (headP n (l.length : Int))
/-- Numbers that an int64 holds. -/
def In64 (x : Int) : Prop := -9223372036854775808 ≤ x ∧ x ≤ 9223372036854775807
theorem iB_le {x : Int} (h : In64 x) : (iB x).size ≤ 21 := by rw [iB_size]; exact Lib.itoa_length_le x h.1 h.2
theorem headP_size {n k : Int} (hn : In64 n) (hk : In64 k) : (headP n k).size ≤ 60 := by
  have := iB_le hn; have := iB_le hk
  simp only [headP, ByteArray.size_append]
  have e1 : (⟨#[103, 114, 97, 112, 104, 32]⟩ : ByteArray).size = 6 := rfl
  have e2 : (⟨#[32]⟩ : ByteArray).size = 1 := rfl
  have e3 : (⟨#[10]⟩ : ByteArray).size = 1 := rfl
  omega
theorem edgeP_size {s : ByteArray} {e : Ed} (h0 : In64 e.1) (h1 : In64 e.2.1) (h2 : In64 e.2.2) : (edgeP s e).size ≤ s.size + 80 := by
  have := iB_le h0; have := iB_le h1; have := iB_le h2
  simp only [edgeP, ByteArray.size_append]
  have e1 : (⟨#[101, 100, 103, 101, 32]⟩ : ByteArray).size = 5 := rfl
  have e2 : (⟨#[32]⟩ : ByteArray).size = 1 := rfl
  have e3 : (⟨#[10]⟩ : ByteArray).size = 1 := rfl
  omega
theorem fold_size : ∀ (l : List Ed) (s : ByteArray), (∀ e ∈ l, In64 e.1 ∧ In64 e.2.1 ∧ In64 e.2.2) → (l.foldl edgeP s).size ≤ s.size + 80 * l.length
  | [], s, _ => by simp
  | e :: l, s, h => by
    have h1 := fold_size l (edgeP s e) (fun x hx => h x (by simp [hx]))
    obtain ⟨a, b, c⟩ := h e (by simp)
    have h2 := edgeP_size (s := s) a b c
    simp only [List.foldl_cons, List.length_cons]
    omega

theorem bytes_conv (W : World) (B : ByteArray) (c : Nat) (hc : B.size ≤ c) (fr : Nat × Nat) : Bytes (W.alloc (.cells (bytesRow B c) 5 fr)).heap.size (W.alloc (.cells (bytesRow B c) 5 fr)) (.slice (some ⟨W.heap.size, 0, none⟩) B.size c) (B.data.toList.map fun b => (b.toNat : Int)) := by
  have hl : (B.data.toList.map fun b => (b.toNat : Int)).length = B.size := by rw [List.length_map, Array.length_toList]; rfl
  refine .inr ⟨W.heap.size, 0, c, by rw [hl], by rw [World.size_alloc]; omega, by rw [hl]; exact hc, fun j x hx => ?_⟩
  have hj : j < B.data.size := by
    have := (List.getElem?_eq_some_iff.1 hx).1
    rw [hl] at this
    exact this
  have hx2 : x = (B.data[j].toNat : Int) := by
    have h2 : (B.data.toList.map fun b => (b.toNat : Int))[j]? = some (B.data[j].toNat : Int) := by rw [List.getElem?_map, Array.getElem?_toList, Array.getElem?_eq_getElem hj]; rfl
    rw [h2] at hx
    exact (Option.some.inj hx).symm
  have hblk : (W.alloc (.cells (bytesRow B c) 5 fr)).heap[W.heap.size]? = some (.cells (bytesRow B c) 5 fr) := heap_alloc_new W _
  have hat := bytesRow_at B c j hj
  rw [hx2, Nat.zero_add]
  simp only [World.cell?, hblk]
  exact hat

theorem bytes_drew {n : Nat} {W : World} {sv : Value} {xs : List Int} (h : Bytes n W sv xs) : Bytes n W.drew sv xs := h

set_option maxRecDepth 100000 in
set_option maxHeartbeats 2000000 in
theorem refPrint_any (n : Int) (hn : In64 n) (l : List Ed) (hl : l.length ≤ 4194304) (hI : ∀ e ∈ l, In64 e.1 ∧ In64 e.2.1 ∧ In64 e.2.2) (sv : Value) (w : World) (hE : Edges w.heap.size w sv l) :
    Calls Tryz.prog 17 #[.agg #[.int .i64 n, sv]] w fun e w' => ∃ bv, e = .returned bv ∧ Bytes w'.heap.size w' bv ((printB n l).data.toList.map fun b => (b.toNat : Int)) ∧ Below w.heap.size w w' := by
  have hmix := mixed
  obtain ⟨p, q, rfl⟩ := hE.len
  have hk : In64 (l.length : Int) := by unfold In64; omega
  have hb1 : Below w.heap.size w (w.alloc (.cells #[.int .i64 n, .slice p l.length q] 30)) := (Below.refl _ _).alloc (Nat.le_refl _) _
  have hX1 : Blk 30 (w.alloc (.cells #[.int .i64 n, .slice p l.length q] 30)) w.heap.size [.int .i64 n, .slice p l.length q] := heap_alloc_new w _
  have hE1 := hE.go hb1
  have i0 := iB_le hn
  have i1 := iB_le hk
  rw [iB_size] at i0 i1
  have hd : ∀ (x : Int), In64 x → ∀ W, Calls Tryz.prog 35 #[.int .i64 x] W fun e w' => e = .returned (.string (iB x)) ∧ Below W.heap.size W w' := fun x hx W => digits_any x hx.1 hx.2 W
  have q0 := hX1.cell (j := 0) rfl
  have q1 := hX1.cell (j := 1) rfl
  have hlt1 : w.heap.size < (w.alloc (.cells #[.int .i64 n, .slice p l.length q] 30)).heap.size := by simp
  go_enter Tryz.func17, Tryz.ntmps17
  go_wp2_with fail
  generalize w.alloc (.cells #[.int .i64 n, .slice p l.length q] 30) = w1 at *
  have hB1 : Below w1.heap.size w1 w1 := Below.refl _ _
  go_cut [3] (fun s wx => s = .string (headP n (l.length : Int)) ∧ Below w1.heap.size w1 wx)
  case first =>
    have hs0 : (iB n).size ≤ 21 := iB_le hn
    have hs1 : (iB (l.length : Int)).size ≤ 21 := iB_le hk
    have n1 : ¬ 9223372036854775807 < 6 + (iB n).size := by omega
    have n2 : ¬ 9223372036854775807 < 6 + (iB n).size + 1 := by omega
    have n3 : ¬ 9223372036854775807 < 6 + (iB n).size + 1 + (iB (l.length : Int)).size := by omega
    have n4 : ¬ 9223372036854775807 < 6 + (iB n).size + 1 + (iB (l.length : Int)).size + 1 := by omega
    go_region_held3 (fun w' => w'.cell? ⟨w.heap.size, 0, none⟩ = some (.int .i64 n) ∧ w'.cell? ⟨w.heap.size, 1, none⟩ = some (.slice p l.length q) ∧ Below w1.heap.size w1 w') (((try go_split_ands); refine ⟨?_, ?_, ?_⟩ <;> first | assumption | (simp only [World.cell?_drew]; assumption) | exact below_drew1 (by assumption) | exact cell_keep hbA (by assumption) | exact below_keep hbA (by assumption) (Nat.le_refl _) | exact cell_keep hbB (by assumption) | exact below_keep hbB (by assumption) (Nat.le_refl _))) (first | (go_at_call 35; with_reducible (refine (hd n hn _).mono ?_); rintro e wA ⟨rfl, hbA⟩) | (go_at_call 35; with_reducible (refine (hd (l.length : Int) hk _).mono ?_); rintro e wB ⟨rfl, hbB⟩))
    all_goals (go_split_ands; go_wp2; go_meet; exact ⟨rfl, by assumption⟩)
  case rest =>
    obtain ⟨rfl, hbc⟩ := hcut
    go_wp2_with fail
    go_loopw [3, 4] (fun s i wr => ∃ j : Nat, j ≤ l.length ∧ i = .int .i64 j ∧ s = .string ((l.take j).foldl edgeP (headP n (l.length : Int))) ∧ Below w1.heap.size w1 wr) (fun _ i _ => l.length - (intOf i).toNat)
    case atStart => exact ⟨0, Nat.zero_le _, rfl, rfl, hbc⟩
    case round =>
      obtain ⟨j, hj, rfl, rfl, hb⟩ := hrel
      have r0 := cell_keep (hb) q0
      have r1 := cell_keep (hb) q1
      by_cases hlt : j < l.length
      · have hlt' : (j : Int) < (l.length : Int) := by omega
        obtain ⟨b, off, rfl, hbb, hcap, hc, -⟩ := hE1.open hlt
        obtain ⟨c0, c1, c2⟩ := hc wr hb j hlt
        obtain ⟨g0, g1, g2⟩ := hI l[j] (List.getElem_mem hlt)
        have HS : Hid ((l.take (j + 1)).foldl edgeP (headP n (l.length : Int)) = edgeP ((l.take j).foldl edgeP (headP n (l.length : Int))) l[j]) := by rw [Hid, List.take_succ_eq_append_getElem hlt, List.foldl_append]; rfl
        have hsz : ((l.take j).foldl edgeP (headP n (l.length : Int))).size ≤ 60 + 80 * 4194304 := by
          have h1 := fold_size (l.take j) (headP n (l.length : Int)) (fun e he => hI e (List.mem_of_mem_take he))
          have h2 := headP_size hn hk
          have h3 := List.length_take_le' j l
          omega
        generalize (l.take j).foldl edgeP (headP n (l.length : Int)) = T at hsz HS ⊢
        have hbr : b < wr.heap.size := Nat.lt_of_lt_of_le hbb hb.size
        have hb5 : Below w1.heap.size w1 (wr.alloc (.cells #[.int .i64 l[j].1, .int .i64 l[j].2.1, .int .i64 l[j].2.2] 50)) := hb.trans (((Below.refl _ _).alloc (Nat.le_refl _) _).mono hb.size)
        have hX5 : Blk 50 (wr.alloc (.cells #[.int .i64 l[j].1, .int .i64 l[j].2.1, .int .i64 l[j].2.2] 50)) wr.heap.size [.int .i64 l[j].1, .int .i64 l[j].2.1, .int .i64 l[j].2.2] := heap_alloc_new wr _
        have e0 := hX5.cell (j := 0) rfl
        have e1 := hX5.cell (j := 1) rfl
        have e2 := hX5.cell (j := 2) rfl
        have s0 := iB_le g0
        have s1 := iB_le g1
        have s2 := iB_le g2
        clear hc hX5
        go_wp2_with fail
        generalize wr.alloc (.cells #[.int .i64 l[j].1, .int .i64 l[j].2.1, .int .i64 l[j].2.2] 50) = w5 at hb5 e0 e1 e2 ⊢
        have HS' : Hid ((l.take (j + 1)).foldl edgeP (headP n (l.length : Int)) = T ++ ⟨#[101, 100, 103, 101, 32]⟩ ++ iB l[j].1 ++ ⟨#[32]⟩ ++ iB l[j].2.1 ++ ⟨#[32]⟩ ++ iB l[j].2.2 ++ ⟨#[10]⟩) := HS
        clear HS hE hX1 hE1 c0 c1 c2 q0 q1 r0 r1 hI
        generalize l[j].1 = x0 at *
        generalize l[j].2.1 = x1 at *
        generalize l[j].2.2 = x2 at *
        have n1 : ¬ 9223372036854775807 < T.size + 5 := by omega
        have n2 : ¬ 9223372036854775807 < T.size + 5 + (iB x0).size := by omega
        have n3 : ¬ 9223372036854775807 < T.size + 5 + (iB x0).size + 1 := by omega
        have n4 : ¬ 9223372036854775807 < T.size + 5 + (iB x0).size + 1 + (iB x1).size := by omega
        have n5 : ¬ 9223372036854775807 < T.size + 5 + (iB x0).size + 1 + (iB x1).size + 1 := by omega
        have n6 : ¬ 9223372036854775807 < T.size + 5 + (iB x0).size + 1 + (iB x1).size + 1 + (iB x2).size := by omega
        have n7 : ¬ 9223372036854775807 < T.size + 5 + (iB x0).size + 1 + (iB x1).size + 1 + (iB x2).size + 1 := by omega
        go_region_held3 (fun w' => w'.cell? ⟨wr.heap.size, 0, none⟩ = some (.int .i64 x0) ∧ w'.cell? ⟨wr.heap.size, 1, none⟩ = some (.int .i64 x1) ∧ w'.cell? ⟨wr.heap.size, 2, none⟩ = some (.int .i64 x2) ∧ Below w1.heap.size w1 w') (((try go_split_ands); refine ⟨?_, ?_, ?_, ?_⟩ <;> first | assumption | (simp only [World.cell?_drew]; assumption) | exact below_drew1 (by assumption) | exact cell_keep hbA (by assumption) | exact below_keep hbA (by assumption) (Nat.le_refl _) | exact cell_keep hbB (by assumption) | exact below_keep hbB (by assumption) (Nat.le_refl _) | exact cell_keep hbC (by assumption) | exact below_keep hbC (by assumption) (Nat.le_refl _))) (first | (go_at_call 35; with_reducible (refine (hd x0 g0 _).mono ?_); rintro e wA ⟨rfl, hbA⟩) | (go_at_call 35; with_reducible (refine (hd x1 g1 _).mono ?_); rintro e wB ⟨rfl, hbB⟩) | (go_at_call 35; with_reducible (refine (hd x2 g2 _).mono ?_); rintro e wC ⟨rfl, hbC⟩))
        all_goals (go_split_ands; go_wp2; exact ⟨⟨j + 1, by omega, by go_num, by rw [HS'.out], by assumption⟩, by simp [intOf]; omega⟩)
      · obtain rfl : j = l.length := by omega
        have hlt' : ¬ (l.length : Int) < (l.length : Int) := by omega
        rw [List.take_length]
        have HP : Hid (l.foldl edgeP (headP n (l.length : Int)) = printB n l) := rfl
        rw [HP.out]
        clear HP
        generalize hB : printB n l = B
        have HB : Hid (printB n l = B) := hB
        clear hB
        have hcv := fun W => run_bytes_of_string (P := Tryz.prog) W 9 27 5 B Tryz.underlying9 Tryz.underlying27 Tryz.underlying5
        go_wp2
        go_ret
        exact ⟨_, rfl, by rw [HB.out]; exact bytes_drew (bytes_conv wr B _ (grownCap_ge wr B.size 0 5) _), (hb1.trans (hb.mono (Nat.le_of_lt hlt1))).trans ((below_drew1 ((Below.refl _ _).alloc (Nat.le_refl _) _)).mono (Nat.le_trans (Nat.le_trans hb1.size hb.size) (Nat.le_refl _)))⟩
end Go.Proofs.YthlkknfhganecaaGreatDoor
