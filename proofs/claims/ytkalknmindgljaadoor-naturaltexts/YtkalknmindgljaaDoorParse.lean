/-
  The contract of natural.Parse: which texts are numerals, and of which number.
-/
import Derived.BigRegion
import Derived.Deep.RegionHeld3
import Derived.Test.YtkalknmindgljaaDoorParse1
import Derived.Test.YtkalknmindgljaaDoorParse2
import Derived.Test.YtkalknmindgljaaDoorPow
namespace Go.Proofs.YtkalknmindgljaaDoor
open Go Go.Proofs Go.RowKit Go.Shelf

/-- The value of digits. -/
def dvL (l : List UInt8) : Int := l.foldl (fun a b => a * 10 + ((b.toNat : Int) - 48)) 0
def digL (l : List UInt8) : Prop := ∀ b ∈ l, 48 ≤ b.toNat ∧ b.toNat ≤ 57
theorem dvL_snoc (l : List UInt8) (b : UInt8) : dvL (l ++ [b]) = dvL l * 10 + ((b.toNat : Int) - 48) := by simp [dvL]
theorem dvL_append (x y : List UInt8) : dvL (x ++ y) = dvL x * 10 ^ y.length + dvL y := by
  have key : ∀ (y : List UInt8) (c : Int), y.foldl (fun a b => a * 10 + ((b.toNat : Int) - 48)) c = c * 10 ^ y.length + dvL y := by
    intro y
    induction y with
    | nil => intro c; simp [dvL]
    | cons b r ih =>
      intro c
      simp only [List.foldl_cons, List.length_cons, dvL]
      rw [ih, ih (0 * 10 + _), Int.pow_succ]
      grind
  unfold dvL
  rw [List.foldl_append, key]
  rfl
theorem dv_take (s : ByteArray) (k : Nat) (hk : k ≤ s.size) : dv s k = dvL (s.data.toList.take k) := by
  have hl := bytes_len s
  induction k with
  | zero => rfl
  | succ k ih =>
    have hlt : k < s.data.toList.length := by omega
    rw [dv, ih (by omega), List.take_succ_eq_append_getElem hlt, dvL_snoc]
    congr 2
    unfold byteAt
    rw [List.getElem?_eq_getElem hlt]
    rfl
theorem dv_all (s : ByteArray) : dv s s.size = dvL s.data.toList := by
  rw [dv_take s s.size (Nat.le_refl _), List.take_of_length_le (by rw [bytes_len]; exact Nat.le_refl _)]
theorem digs_iff (s : ByteArray) : Digs s ↔ digL s.data.toList := by
  have hl := bytes_len s
  constructor
  · intro h b hb
    obtain ⟨j, hj, rfl⟩ := List.getElem_of_mem hb
    have := h j (by omega)
    unfold byteAt at this
    rw [List.getElem?_eq_getElem hj] at this
    simp only [Option.getD_some] at this
    omega
  · intro h j hj
    have hj' : j < s.data.toList.length := by omega
    have := h _ (List.getElem_mem hj')
    unfold byteAt
    rw [List.getElem?_eq_getElem hj']
    simp only [Option.getD_some]
    omega
theorem dvL_nonneg {l : List UInt8} (h : digL l) : 0 ≤ dvL l ∧ dvL l < 10 ^ l.length := by
  have key : ∀ n, n ≤ l.length → 0 ≤ dvL (l.take n) ∧ dvL (l.take n) < 10 ^ n := by
    intro n
    induction n with
    | zero => intro _; simp [dvL]
    | succ n ih =>
      intro hn
      have h1 := ih (by omega)
      rw [List.take_succ_eq_append_getElem (by omega), dvL_snoc, Int.pow_succ]
      have := h _ (List.getElem_mem (show n < l.length by omega))
      omega
  have := key l.length (Nat.le_refl _)
  rwa [List.take_of_length_le (Nat.le_refl _)] at this
theorem extract_lo (s : ByteArray) (n : Nat) : (s.extract 0 n).data.toList = s.data.toList.take n := by
  rw [ByteArray.data_extract, Array.toList_extract]
  simp [List.extract]
theorem extract_hi (s : ByteArray) (n : Nat) : (s.extract n s.size).data.toList = s.data.toList.drop n := by
  rw [ByteArray.data_extract, Array.toList_extract]
  have hl := bytes_len s
  simp only [List.extract]
  rw [List.take_of_length_le (by rw [List.length_drop]; omega)]
theorem ten_cell {W : World} {T m : Nat} (h : W.heap[T]? = some (.cells #[.int .u32 1, .int .u32 10, .int .u32 100, .int .u32 1000, .int .u32 10000, .int .u32 100000, .int .u32 1000000, .int .u32 10000000, .int .u32 100000000, .int .u32 1000000000] 63 (0, 0))) (hm : m ≤ 9) : W.cell? ⟨T, m, none⟩ = some (.int .u32 (10 ^ m)) := by
  simp only [World.cell?, h]
  match m, hm with
  | 0, _ | 1, _ | 2, _ | 3, _ | 4, _ | 5, _ | 6, _ | 7, _ | 8, _ | 9, _ => rfl

/-- What Parse answers. -/
def Parsed (s : ByteArray) (e : Ending) (w : World) : Prop := (DecOK s → ∃ sv, e = .returned (.tuple #[sv, .int .i64 0]) ∧ U32 w sv (num (dvL s.data.toList))) ∧ (¬ DecOK s → e = .returned (.tuple #[.slice none 0 0, .int .i64 2]))
def strLen : Value → Nat
  | .string s => s.size
  | _ => 0
theorem ten_le (k : Nat) : (10 : Int) ^ k ≤ pB k := by
  induction k with
  | zero => simp [pB]
  | succ k ih => rw [Int.pow_succ, pB_succ]; have := pB_pos k; omega
theorem digL_take {l : List UInt8} (h : digL l) (k : Nat) : digL (l.take k) := fun b hb => h b (List.mem_of_mem_take hb)
theorem digL_drop {l : List UInt8} (h : digL l) (k : Nat) : digL (l.drop k) := fun b hb => h b (List.mem_of_mem_drop hb)
theorem dvL_len {l : List UInt8} (h : digL l) : (num (dvL l)).length ≤ l.length := num_len (by have := (dvL_nonneg h).2; have := ten_le l.length; omega)

set_option maxRecDepth 100000 in
set_option maxHeartbeats 4000000 in
theorem parse_any (s : ByteArray) (hs : s.size ≤ 100000) (w : World) :
    Calls Tryd.prog 28 #[.string s] w fun e w' => Parsed s e w' ∧ Below w.heap.size w w' := by
  have hl := bytes_len s
  go_enter Tryd.func28, Tryd.ntmps28
  go_wp2_with fail
  refine (isDecimal_any s (by omega) w).mono ?_
  rintro e w0 ⟨rfl, hw0⟩
  rw [hw0]
  clear hw0
  by_cases hD : DecOK s
  · rw [decB_true hD]
    have hdg := (digs_iff s).1 hD.2.2
    go_wp2_with fail
    refine (powersOfTen_any _).mono ?_
    rintro e w1 ⟨rfl, hb1⟩
    go_wp2
    have hT := World.alloc_heap_new w1 (.cells #[.int .u32 1, .int .u32 10, .int .u32 100, .int .u32 1000, .int .u32 10000, .int .u32 100000, .int .u32 1000000, .int .u32 10000000, .int .u32 100000000, .int .u32 1000000000] 63)
    have hb2 : Below w.heap.size w (w1.alloc (.cells #[.int .u32 1, .int .u32 10, .int .u32 100, .int .u32 1000, .int .u32 10000, .int .u32 100000, .int .u32 1000000, .int .u32 10000000, .int .u32 100000000, .int .u32 1000000000] 63)) := hb1.alloc hb1.size _
    obtain ⟨w2, hw2⟩ : ∃ w2, w1.alloc (.cells #[.int .u32 1, .int .u32 10, .int .u32 100, .int .u32 1000, .int .u32 10000, .int .u32 100000, .int .u32 1000000, .int .u32 10000000, .int .u32 100000000, .int .u32 1000000000] 63) = w2 := ⟨_, rfl⟩
    have hs2 : w1.heap.size < w2.heap.size := by rw [← hw2]; simp
    rw [hw2] at hT hb2 ⊢
    clear hw2 hb1
    generalize w1.heap.size = T at *
    go_loopw [0, 5] (fun sv nv wr => ∃ (k : Nat) (r : ByteArray), k ≤ s.size ∧ sv = .string r ∧ r.data.toList = s.data.toList.drop k ∧ wr.ownsRow w2.heap.size 42 1 nv (num (dvL (s.data.toList.take k))).length ((num (dvL (s.data.toList.take k))).map (Value.int .u32)) ∧ Below w2.heap.size w2 wr) (fun sv _ _ => strLen sv)
    case atStart => exact ⟨0, s, Nat.zero_le _, rfl, rfl, by simp only [List.take_zero]; exact ⟨rfl, .inl ⟨rfl, rfl⟩⟩, Below.refl _ _⟩
    case round =>
      obtain ⟨k, r, hk, rfl, hr, ho, hbl⟩ := hrel
      have hrl : r.size = s.size - k := by rw [← bytes_len r, hr, List.length_drop, hl]
      by_cases h0 : r.size = 0
      · have hks : k = s.size := by omega
        have hall : s.data.toList.take k = s.data.toList := List.take_of_length_le (by omega)
        rw [hall] at ho
        have hsg : U32 wr u5 (num (dvL s.data.toList)) := Seg.of_owns (t := 42) (base := w2.heap.size) ho
        have HS : Hid _ := hsg
        have hblw := hb2.trans (hbl.mono hb2.size)
        clear ho hsg hr
        go_wp2
        go_ret2
        exact ⟨⟨fun _ => ⟨_, rfl, HS.out⟩, fun h => absurd hD h⟩, hblw⟩
      · obtain ⟨m, hm⟩ : ∃ m, m = min r.size 9 := ⟨_, rfl⟩
        have hm9 : m ≤ 9 := by omega
        have hm1 : 1 ≤ m := by omega
        have hmr : m ≤ r.size := by omega
        have hmin : min (r.size : Int) 9 = (m : Int) := by omega
        have hpos : (0 : Int) < (r.size : Int) := by omega
        have hdr : digL r.data.toList := by rw [hr]; exact digL_drop hdg k
        have hpl : (r.extract 0 m).data.toList = r.data.toList.take m := extract_lo r m
        have hpz : (r.extract 0 m).size = m := by rw [← bytes_len, hpl, List.length_take, bytes_len]; omega
        have hpd : Digs (r.extract 0 m) := (digs_iff _).2 (by rw [hpl]; exact digL_take hdr m)
        have hpv : dv (r.extract 0 m) (r.extract 0 m).size = dvL (r.data.toList.take m) := by rw [dv_all, hpl]
        have hcT := ten_cell ((hbl.block T hs2).trans hT) hm9
        have hX0 := dvL_nonneg (digL_take hdg k)
        have hXl : (num (dvL (s.data.toList.take k))).length ≤ 100000 := by have := dvL_len (digL_take hdg k); have := List.length_take_le k s.data.toList; omega
        have hP0 := dvL_nonneg (digL_take hdr m)
        have hPl : (r.data.toList.take m).length = m := by rw [List.length_take, bytes_len]; omega
        rw [hPl] at hP0
        have hp9 := p10 hm9
        have ht0 : 1 ≤ (10 : Int) ^ m := by
          have : (0 : Int) < 10 ^ m := Int.pow_pos (by omega)
          omega
        have hjoin : dvL (s.data.toList.take k) * 10 ^ m + dvL (r.data.toList.take m) = dvL (s.data.toList.take (k + m)) := by
          rw [List.take_add, dvL_append, ← hr, hPl]
        have hsz := hbl.size
        have HJ : Hid _ := hjoin
        have HRL : Hid (r.size = s.size - k) := hrl
        have hKB : ∀ X, Below w2.heap.size wr X → X.cell? ⟨T, m, none⟩ = some (.int .u32 (10 ^ m)) := fun X h => (h.cell (p := ⟨T, m, none⟩) hs2).trans hcT
        have hX1 : Below w2.heap.size wr wr.drew := (Below.refl _ _).drew
        have hX2 := hKB _ hX1
        have hod : wr.drew.ownsRow w2.heap.size 42 1 u5 (num (dvL (s.data.toList.take k))).length ((num (dvL (s.data.toList.take k))).map (Value.int .u32)) := ho
        have hi1 : (0 : Int) ≤ (m : Int) := by omega
        have hi2 : (m : Int) < 10 := by omega
        have hi3 : (m : Int) ≤ (r.size : Int) := by omega
        have hdrop : (r.extract m r.size).data.toList = s.data.toList.drop (k + m) := by rw [extract_hi, hr, List.drop_drop]
        have hdz : (r.extract m r.size).size = r.size - m := by rw [← bytes_len, extract_hi, List.length_drop, bytes_len]
        have HDR : Hid _ := hdrop
        have HDZ : Hid _ := hdz
        have hkm : k + m ≤ s.size := by omega
        clear hjoin hrl hmin hdrop hdz hdr hpl hr
        have hsd : w2.heap.size ≤ wr.drew.heap.size := hsz
        by_cases hle : r.size ≤ 9
        · obtain rfl : m = r.size := by omega
          clear hm
          have hself : r.extract 0 r.size = r := ByteArray.ext (by rw [← Array.toList_inj, extract_lo, List.take_of_length_le (by rw [bytes_len]; exact Nat.le_refl _)])
          rw [hself] at hpz hpd hpv
          have HE : Hid (ByteArray.empty.data.toList = s.data.toList.drop (k + r.size)) := by show _ = _; rw [List.drop_of_length_le (by have := HRL.out; omega)]; rfl
          go_wp2_with fail
          go_region_held3 (fun w' => w'.cell? ⟨T, r.size, none⟩ = some (.int .u32 (10 ^ r.size))) (first | assumption | exact hKB _ (by assumption))
            (first
            | (go_at_call 52; refine (pieceValue_any r hm9 hpd _).mono ?_; rintro e w4 ⟨rfl, rfl⟩; rw [hpv])
            | (go_at_call 51; refine (timesPlus_any (X := dvL (s.data.toList.take k)) (t := 10 ^ r.size) (p := dvL (r.data.toList.take r.size)) (base := w2.heap.size) hod hX0.1 (by omega) ⟨ht0, by omega⟩ ⟨hP0.1, by omega⟩ hsd).mono ?_; rintro e w5 ⟨v5, rfl, ho5, hb5⟩; have hX5 : Below w2.heap.size wr w5 := hX1.trans hb5; have hX6 := hKB _ hX5))
          all_goals
            rw [HJ.out] at ho5
            have hblw : Below w2.heap.size w2 w5 := hbl.trans hX5
            clear hod ho hX6 hX2 hcT hKB
            go_wp2
            go_roundw
            case rel => exact ⟨k + r.size, ByteArray.empty, hkm, rfl, HE.out, ho5, hblw⟩
            case measure =>
              show 0 < r.size
              omega
        · obtain rfl : m = 9 := by omega
          clear hm
          have hi4 : (9 : Int) ≤ (r.size : Int) := by omega
          go_wp2_with fail
          go_region_held3 (fun w' => w'.cell? ⟨T, 9, none⟩ = some (.int .u32 (10 ^ 9))) (first | assumption | exact hKB _ (by assumption))
            (first
            | (go_at_call 52; refine (pieceValue_any (r.extract 0 9) (by rw [hpz]; exact hm9) hpd _).mono ?_; rintro e w4 ⟨rfl, rfl⟩; rw [hpv])
            | (go_at_call 51; refine (timesPlus_any (X := dvL (s.data.toList.take k)) (t := 10 ^ 9) (p := dvL (r.data.toList.take 9)) (base := w2.heap.size) hod hX0.1 (by omega) ⟨ht0, by omega⟩ ⟨hP0.1, by omega⟩ hsd).mono ?_; rintro e w5 ⟨v5, rfl, ho5, hb5⟩; have hX5 : Below w2.heap.size wr w5 := hX1.trans hb5; have hX6 := hKB _ hX5))
          all_goals
            rw [HJ.out] at ho5
            have hblw : Below w2.heap.size w2 w5 := hbl.trans hX5
            clear hod ho hX6 hX2 hcT hKB
            go_wp2
            go_roundw
            case rel => exact ⟨k + 9, _, hkm, rfl, HDR.out, ho5, hblw⟩
            case measure =>
              show (r.extract 9 r.size).size < r.size
              rw [HDZ.out]
              omega
  · rw [decB_false hD]
    go_wp2
    go_ret2
    exact ⟨⟨fun h => absurd h hD, fun _ => rfl⟩, Below.refl _ _⟩

end Go.Proofs.YtkalknmindgljaaDoor
