/-
  Contracts of natural.isDecimal and natural.pieceValue.
-/
import Derived.BigRegion
import Derived.Test.YtkalknmindgljabDoorSmall
import Derived.Test.YtkalknmindgljabDoorTextMath
namespace Go.Proofs.YtkalknmindgljabDoor
open Go Go.Proofs Go.RowKit Go.Shelf

theorem bytes_len (s : ByteArray) : s.data.toList.length = s.size := Array.length_toList
theorem loop_eq (s : ByteArray) (i : Nat) (acc : List UInt8) : ByteArray.toList.loop s i acc = acc.reverse ++ s.data.toList.drop i := by
  have hl := bytes_len s
  induction h : s.size - i generalizing i acc with
  | zero =>
    unfold ByteArray.toList.loop
    rw [if_neg (by omega), List.drop_of_length_le (by omega), List.append_nil]
  | succ k ih =>
    unfold ByteArray.toList.loop
    rw [if_pos (by omega), ih _ _ (by omega)]
    have hi : i < s.data.toList.length := by omega
    rw [List.drop_eq_getElem_cons hi, List.reverse_cons, List.append_assoc, List.singleton_append]
    congr 2
    exact getElem!_pos s.data i (by omega)
theorem toList_eq (s : ByteArray) : s.toList = s.data.toList := by
  unfold ByteArray.toList
  rw [loop_eq, List.reverse_nil, List.nil_append, List.drop_zero]
/-- The byte at a place, as a number. -/
def byteAt (s : ByteArray) (j : Nat) : Int := ((s.data.toList[j]?.getD 0).toNat : Int)
theorem byteAt_get (s : ByteArray) (j : Nat) (h : j < s.size) : ((s[j]'h).toNat : Int) = byteAt s j := by
  have h' : j < s.data.toList.length := h
  have e : s.data.toList[j]? = some (s[j]'h) := by rw [List.getElem?_eq_getElem h']; rfl
  rw [byteAt, e]; rfl
theorem p10 {k : Nat} (h : k ≤ 9) : (10 : Int) ^ k ≤ 1000000000 := by
  match k, h with
  | 0, _ | 1, _ | 2, _ | 3, _ | 4, _ | 5, _ | 6, _ | 7, _ | 8, _ | 9, _ => decide
/-- Is it a digit? -/
def Digs (s : ByteArray) : Prop := ∀ j, j < s.size → 48 ≤ byteAt s j ∧ byteAt s j ≤ 57
/-- The value of the first k digits. -/
def dv (s : ByteArray) : Nat → Int
  | 0 => 0
  | k + 1 => dv s k * 10 + (byteAt s k - 48)
theorem dv_bound {s : ByteArray} (h : Digs s) (k : Nat) (hk : k ≤ s.size) : 0 ≤ dv s k ∧ dv s k < 10 ^ k := by
  induction k with
  | zero => simp [dv]
  | succ k ih =>
    have h1 := ih (by omega)
    have h2 := h k (by omega)
    simp only [dv, Int.pow_succ]
    omega

set_option maxRecDepth 100000 in
set_option maxHeartbeats 1000000 in
theorem pieceValue_any (s : ByteArray) (hs : s.size ≤ 9) (hd : Digs s) (w : World) :
    Calls Tryd.prog 37 #[.string s] w fun e w' => e = .returned (.int .u32 (dv s s.size)) ∧ w' = w := by
  go_enter Tryd.func37, Tryd.ntmps37
  go_wp2
  go_loop [3, 7] (fun v i => ∃ k : Nat, k ≤ s.size ∧ i = .int .i64 k ∧ v = .int .u32 (dv s k)) (fun _ i => s.size - (intOf i).toNat)
  case atStart => exact ⟨0, Nat.zero_le _, rfl, rfl⟩
  case round =>
    obtain ⟨k, hk, rfl, rfl⟩ := hrel
    by_cases hlt : k < s.size
    · have hb := dv_bound hd k hk
      have hb3 := dv_bound hd (k + 1) (by omega)
      have hp := p10 (show k + 1 ≤ 9 by omega)
      have hb2 := hd k hlt
      have hg := byteAt_get s k hlt
      have HD : Hid (dv s (k + 1) = dv s k * 10 + (byteAt s k - 48)) := rfl
      go_wp2
      go_round
      case rel =>
        refine ⟨k + 1, by omega, by go_num, ?_⟩
        have hd1 := HD.out
        rw [hd1] at hb3 ⊢
      case measure => simp [intOf]; omega
    · obtain rfl : k = s.size := by omega
      go_wp2
      go_ret
      exact ⟨rfl, rfl⟩

/-- The numerals: digits alone, no nought ahead. -/
def DecOK (s : ByteArray) : Prop := 0 < s.size ∧ (byteAt s 0 = 48 → s.size = 1) ∧ Digs s

def decB (s : ByteArray) : Bool := decide (0 < s.size ∧ (byteAt s 0 = 48 → s.size = 1) ∧ ∀ j, j < s.size → 48 ≤ byteAt s j ∧ byteAt s j ≤ 57)
theorem decB_true {s : ByteArray} (h : DecOK s) : decB s = true := decide_eq_true h
theorem decB_false {s : ByteArray} (h : ¬ DecOK s) : decB s = false := decide_eq_false h
theorem decB_iff {s : ByteArray} : decB s = true ↔ DecOK s := by
  constructor
  · intro h
    rcases Classical.em (DecOK s) with c | c
    · exact c
    · rw [decB_false c] at h
      cases h
  · exact decB_true

set_option maxRecDepth 100000 in
set_option maxHeartbeats 1000000 in
theorem isDecimal_any (s : ByteArray) (hs : s.size ≤ 1000000) (w : World) :
    Calls Tryd.prog 34 #[.string s] w fun e w' => e = .returned (.bool (decB s)) ∧ w' = w := by
  go_enter Tryd.func34, Tryd.ntmps34
  have hl := bytes_len s
  have hte := toList_eq s
  by_cases h0 : s.size = 0
  · have he : s.toList = [] := by rw [hte]; exact List.eq_nil_of_length_eq_zero (by omega)
    clear hte
    have hB : Hid (decB s = false) := decB_false (fun h => by have := h.1; omega)
    go_wp2
    go_ret
    exact ⟨by rw [hB.out]; rfl, rfl⟩
  · have he : s.toList.isEmpty = false := by
      rw [hte]
      cases hc : s.data.toList with
      | nil => rw [hc] at hl; simp at hl; omega
      | cons => rfl
    have hne : ¬ s.toList = [] := by intro e; rw [e] at he; cases he
    have hp : 0 < s.size := by omega
    have hg := byteAt_get s 0 hp
    have h1 : byteAt s 0 = 48 → ((s.toList == [48]) = true ↔ s.size = 1) := fun hb => by
      rw [hte, beq_iff_eq]
      constructor
      · intro e; rw [e] at hl; simpa using hl.symm
      · intro e
        rw [e] at hl
        match hc : s.data.toList, hl with
        | [x], _ =>
          have : byteAt s 0 = (x.toNat : Int) := by unfold byteAt; rw [hc]; rfl
          rw [hb] at this
          have hx : x.toNat = 48 := by omega
          rw [show x = 48 from UInt8.toNat_inj.1 (by rw [hx]; rfl)]
    have HL : Hid _ := hl
    have HT : Hid _ := hte
    clear hl hte
    by_cases hbad : byteAt s 0 = 48 ∧ s.size ≠ 1
    · have hb := hbad.1
      have hs1 := hbad.2
      have hq : (s.toList == [48]) = false := by
        cases hc : (s.toList == [48]) with
        | false => rfl
        | true => exact absurd ((h1 hb).1 hc) hs1
      clear h1 hbad
      have hB : Hid (decB s = false) := decB_false (fun h => hs1 (h.2.1 hb))
      go_wp2
      go_ret
      exact ⟨by rw [hB.out]; rfl, rfl⟩
    · have HG : Hid (byteAt s 0 = 48 → s.size = 1) := fun h => by
        rcases Nat.decEq s.size 1 with h' | h'
        · exact absurd ⟨h, h'⟩ hbad
        · exact h'
      clear hbad
      by_cases hb : byteAt s 0 = 48
      case' pos => have hq : (s.toList == [48]) = true := (h1 hb).2 (HG.out hb)
      all_goals
        clear h1
        go_wp2
        go_loop [17] (fun i => ∃ k : Nat, k ≤ s.size ∧ i = .int .i64 k ∧ ∀ j, j < k → 48 ≤ byteAt s j ∧ byteAt s j ≤ 57) (fun i => s.size - (intOf i).toNat)
        case atStart => exact ⟨0, Nat.zero_le _, rfl, fun j hj => by omega⟩
        case round =>
          obtain ⟨k, hk, rfl, hj⟩ := hrel
          by_cases hlt : k < s.size
          · have hgk := byteAt_get s k hlt
            by_cases c1 : byteAt s k < 48
            · have hB : Hid (decB s = false) := decB_false (fun h => by have := h.2.2 k hlt; omega)
              go_wp2
              go_ret
              exact ⟨by rw [hB.out]; rfl, rfl⟩
            · by_cases c2 : 57 < byteAt s k
              · have hB : Hid (decB s = false) := decB_false (fun h => by have := h.2.2 k hlt; omega)
                go_wp2
                go_ret
                exact ⟨by rw [hB.out]; rfl, rfl⟩
              · have HJ : Hid (∀ j, j < k + 1 → 48 ≤ byteAt s j ∧ byteAt s j ≤ 57) := fun j h => by
                  rcases Nat.lt_or_ge j k with h' | h'
                  · exact hj j h'
                  · obtain rfl : j = k := by omega
                    omega
                clear hj
                go_wp2
                go_round
                case rel => exact ⟨k + 1, by omega, by go_num, HJ.out⟩
                case measure => simp [intOf]; omega
          · obtain rfl : k = s.size := by omega
            have hB : Hid (decB s = true) := decB_true ⟨hp, HG.out, hj⟩
            clear hj
            go_wp2
            go_ret
            exact ⟨by rw [hB.out]; rfl, rfl⟩

end Go.Proofs.YtkalknmindgljabDoor
