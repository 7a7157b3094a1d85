/-
  The contract of the reference's Number.
-/
import Derived.Deep.DeepCutAuto
import Derived.Deep.CutBlock
import Derived.Test.YthlkknfhganecaaGreatDoorUNumMath
namespace Go.Proofs.YthlkknfhganecaaGreatDoor
open Go Go.Proofs Go.RowKit

theorem byte_get {t : ByteArray} {T : List UInt8} (hT : t.data.toList = T) {j : Nat} {b : UInt8} (hb : T[j]? = some b) : ∃ h : j < t.size, t[j]'h = b := by
  subst hT
  obtain ⟨h1, h2⟩ := List.getElem?_eq_some_iff.1 hb
  have h3 : j < t.size := by rw [Array.length_toList] at h1; exact h1
  exact ⟨h3, by rw [← h2]; rfl⟩
theorem extract_tail (s : ByteArray) : (s.extract 1 s.size).data.toList = s.data.toList.drop 1 := by
  rw [ByteArray.data_extract, Array.toList_extract]
  show List.take (s.data.size - 1) (List.drop 1 s.data.toList) = _
  rw [List.take_of_length_le (by simp)]
theorem bytes_eta {t : ByteArray} {T : List UInt8} (h : t.data.toList = T) : t = ⟨T.toArray⟩ := by subst h; rfl
def refV (s : ByteArray) : Int := (refO s.data.toList).getD 0
def refK (s : ByteArray) : Int := if (refO s.data.toList).isSome then 0 else 2

set_option maxRecDepth 100000 in
set_option maxHeartbeats 4000000 in
theorem refNumber_any (s : ByteArray) (hs : s.size ≤ 140737488355328) (w : World) :
    Calls Tryz.prog 9 #[.string s] w fun e w' => e = .returned (.tuple #[.int .i64 (refV s), .int .i64 (refK s)]) ∧ w' = w := by
  have HV : Hid (refV s = (refO s.data.toList).getD 0) := rfl
  have HK : Hid (refK s = if (refO s.data.toList).isSome then 0 else 2) := rfl
  have hsl : s.data.toList.length = s.size := Array.length_toList
  have HR : Hid (refO s.data.toList = if shapeB (negB s.data.toList) (tailN s.data.toList) = true then none else if digB (tailN s.data.toList) = true then lastO (negB s.data.toList) (dvL (tailN s.data.toList)) else none) := rfl
  have HTN : Hid (tailN s.data.toList = if negB s.data.toList = true then s.data.toList.drop 1 else s.data.toList) := rfl
  have HNB : Hid (negB s.data.toList = (s.data.toList.head? == some 45)) := rfl
  go_enter Tryz.func9, Tryz.ntmps9
  go_upto_region 1 with fail
  go_cut [0, 4] (fun a b wx => a = .string s ∧ b = .bool (negB s.data.toList) ∧ wx = w)
  case first =>
    by_cases h0 : s.size = 0
    · have hL : s.data.toList = [] := List.eq_nil_of_length_eq_zero (by omega)
      have HN : Hid (negB s.data.toList = false) := by rw [Hid, HNB.out, hL]; rfl
      clear hL
      go_wp2
      go_meet
      exact ⟨rfl, by rw [HN.out], rfl⟩
    · obtain ⟨b, hb⟩ : ∃ b, s.data.toList[0]? = some b := ⟨_, List.getElem?_eq_getElem (by omega)⟩
      obtain ⟨hj, hg⟩ := byte_get (t := s) rfl hb
      have hpos : (0 : Int) < (s.size : Int) := by omega
      have HN : Hid (negB s.data.toList = decide (b.toNat = 45)) := by
        rw [Hid, HNB.out, List.head?_eq_getElem?, hb, ← Bool.beq_eq_decide_eq]
        by_cases he : b.toNat = 45
        · have e2 : b = 45 := UInt8.toNat_inj.1 (by rw [he]; rfl)
          subst e2; rfl
        · have e2 : b ≠ 45 := fun e => he (by rw [e]; rfl)
          have h1 : (some b == some (45 : UInt8)) = false := by simpa using e2
          rw [h1]
          symm
          simpa using he
      clear hb hsl
      by_cases he : b.toNat = 45
      · have he2 : ((b.toNat : Int) == 45) = true := by simp [he]
        go_wp2
        go_meet
        exact ⟨rfl, by rw [HN.out]; simp [he], rfl⟩
      · have he2 : ((b.toNat : Int) == 45) = false := by simp; omega
        go_wp2
        go_meet
        exact ⟨rfl, by rw [HN.out]; simp [he], rfl⟩
  case rest =>
    obtain ⟨rfl, rfl, rfl⟩ := hcut
    go_upto_if 15 with fail
    go_cut [0, 4] (fun a b wx => ∃ t : ByteArray, a = .string t ∧ t.data.toList = tailN s.data.toList ∧ b = .bool (negB s.data.toList) ∧ wx = wc)
    case first =>
      cases hn : negB s.data.toList with
      | true =>
        have h1 : 1 ≤ s.size := by
          have h2 := HNB.out
          rw [hn] at h2
          rcases Nat.eq_zero_or_pos s.size with e | e
          · rw [List.eq_nil_of_length_eq_zero (l := s.data.toList) (by omega)] at h2
            cases h2
          · exact e
        have h1' : (1 : Int) ≤ (s.size : Int) := by omega
        have HT : Hid ((s.extract 1 s.size).data.toList = tailN s.data.toList) := by rw [Hid, HTN.out, hn, if_pos rfl, extract_tail]
        have HN2 : Hid (negB s.data.toList = true) := hn
        clear hn
        go_wp2
        go_meet
        exact ⟨_, rfl, HT.out, by rw [HN2.out], rfl⟩
      | false =>
        have HT : Hid (s.data.toList = tailN s.data.toList) := by rw [Hid, HTN.out, hn, if_neg (by simp)]
        have HN2 : Hid (negB s.data.toList = false) := hn
        clear hn
        go_wp2
        go_meet
        exact ⟨_, rfl, HT.out, by rw [HN2.out], rfl⟩
    case rest =>
      obtain ⟨t, rfl, hT, rfl, rfl⟩ := hcut
      have hTl : t.size = (tailN s.data.toList).length := by rw [← hT, Array.length_toList]; rfl
      have hT48 : t.size ≤ 140737488355328 := by
        have h1 := HTN.out
        rw [hTl, h1]
        split
        · rw [List.length_drop]; omega
        · omega
      clear HTN HNB hsl
      generalize tailN s.data.toList = T at *
      generalize negB s.data.toList = neg at *
      have HSH : Hid (shapeB neg T = (decide (T = []) || decide (19 < T.length) || (decide (T.head? = some 48) && (decide (1 < T.length) || neg)))) := rfl
      go_upto_region 4 with fail
      go_cut [38] (fun c wx => c = .bool (shapeB neg T) ∧ wx = wc)
      case first =>
        by_cases hT0 : T.length = 0
        · have hz : t.size = 0 := by omega
          have HX : Hid (shapeB neg T = true) := by rw [Hid, HSH.out, List.eq_nil_of_length_eq_zero hT0]; simp
          clear HR HSH HV HK
          go_wp2
          go_meet
          exact ⟨by rw [HX.out], rfl⟩
        · obtain ⟨b, hb⟩ : ∃ b, T[0]? = some b := ⟨_, List.getElem?_eq_getElem (by omega)⟩
          obtain ⟨hj, hg⟩ := byte_get hT hb
          have hne : T ≠ [] := fun e => hT0 (by rw [e]; rfl)
          have hd0 : ((t.size : Int) == 0) = false := by rw [beq_eq_false_iff_ne]; omega
          have HH : Hid (decide (T.head? = some 48) = decide (b.toNat = 48)) := by
            rw [Hid, List.head?_eq_getElem?, hb]
            by_cases he : b.toNat = 48
            · have e2 : b = 48 := UInt8.toNat_inj.1 (by rw [he]; rfl)
              subst e2; rfl
            · have e2 : b ≠ 48 := fun e => he (by rw [e]; rfl)
              simp [he, e2]
          have HSX : Hid (shapeB neg T = (decide (19 < T.length) || (decide (b.toNat = 48) && (decide (1 < T.length) || neg)))) := by
            rw [Hid, HSH.out, HH.out]; simp [hne]
          have hTl' : t.size = T.length := hTl
          rw [← hTl] at HSX
          clear HR HSH HV HK HH hb hne hT0 hTl hTl' hT
          by_cases h19 : 19 < t.size
          · have h19' : (19 : Int) < (t.size : Int) := by omega
            go_wp2
            go_meet
            exact ⟨by rw [HSX.out]; simp [h19], rfl⟩
          · have h19' : decide ((19 : Int) < (t.size : Int)) = false := by simp; omega
            by_cases he : b.toNat = 48
            · have he2 : ((b.toNat : Int) == 48) = true := by simp [he]
              by_cases h1 : 1 < t.size
              · have h1' : (1 : Int) < (t.size : Int) := by omega
                go_wp2
                go_meet
                exact ⟨by rw [HSX.out]; simp [he, h1], rfl⟩
              · have h1' : decide ((1 : Int) < (t.size : Int)) = false := by simp; omega
                go_wp2
                go_meet
                exact ⟨by rw [HSX.out]; simp [he, h1, h19], rfl⟩
            · have he2 : ((b.toNat : Int) == 48) = false := by simp; omega
              go_wp2
              go_meet
              exact ⟨by rw [HSX.out]; simp [he, h19], rfl⟩
      case rest =>
        obtain ⟨rfl, rfl⟩ := hcut
        cases hsh : shapeB neg T with
        | true =>
          have HX : Hid (refO s.data.toList = none) := by rw [Hid, HR.out, hsh, if_pos rfl]
          clear HR HSH
          go_wp2
          go_ret2
          exact ⟨by rw [HV.out, HK.out, HX.out]; rfl, rfl⟩
        | false =>
          have HX : Hid (refO s.data.toList = if digB T = true then lastO neg (dvL T) else none) := by rw [Hid, HR.out, hsh, if_neg (by simp)]
          obtain ⟨hne, h19, hsp⟩ := shape_ok hsh
          have HSP : Hid (T = [48] ∧ neg = false ∨ T.head? ≠ some 48) := hsp
          have HNE : Hid (T ≠ []) := hne
          clear HR HSH hsh hsp hne
          go_wp2
          go_loopw [5, 6] (fun nv iv wr => ∃ i : Nat, i ≤ T.length ∧ iv = .int .i64 i ∧ nv = .int .u64 (dvL (T.take i)) ∧ Hid (digL (T.take i)) ∧ wr = wc) (fun _ iv _ => T.length - (intOf iv).toNat)
          case atStart => exact ⟨0, Nat.zero_le _, rfl, rfl, fun b hb => by simp at hb, rfl⟩
          case round =>
            obtain ⟨i, hi, rfl, rfl, hdg, rfl⟩ := hrel
            obtain ⟨hv0, hv1⟩ := dv19 hdg.out (by rw [List.length_take]; omega)
            by_cases hlt : i < T.length
            · have hil : (i : Int) < (t.size : Int) := by omega
              obtain ⟨b, hb⟩ : ∃ b, T[i]? = some b := ⟨_, List.getElem?_eq_getElem hlt⟩
              obtain ⟨hj, hg⟩ := byte_get hT hb
              have htk : T.take (i + 1) = T.take i ++ [b] := by rw [List.take_add_one, hb]; rfl
              have hbm : b ∈ T := List.mem_of_getElem? hb
              have hb256 : b.toNat < 256 := b.toNat_lt
              by_cases hbd : 48 ≤ b.toNat ∧ b.toNat ≤ 57
              · have HS : Hid (dvL (T.take (i + 1)) = dvL (T.take i) * 10 + ((b.toNat : Int) - 48)) := by rw [Hid, htk, dvL_snoc]
                have HD : Hid (digL (T.take (i + 1))) := by
                  rw [Hid, htk]
                  intro c hc
                  rcases List.mem_append.1 hc with hc | hc
                  · exact hdg.out c hc
                  · rw [List.mem_singleton.1 hc]; exact hbd
                have hb9 : dvL (T.take (i + 1)) < 10000000000000000000 := (dv19 HD.out (by rw [List.length_take]; omega)).2
                rw [HS.out] at hb9
                obtain ⟨hb0, hb1⟩ := hbd
                have hb0' : decide ((b.toNat : Int) < 48) = false := by simp; omega
                have hb1' : decide ((57 : Int) < (b.toNat : Int)) = false := by simp; omega
                clear htk hbm hb HX
                generalize dvL (T.take i) = dv at *
                go_wp2
                exact ⟨⟨i + 1, by omega, by go_num, by rw [HS.out], HD, by first | rfl | trivial⟩, by simp [intOf]; omega⟩
              · have HXN : Hid (refO s.data.toList = none) := by
                  rw [Hid, HX.out, if_neg]
                  intro h
                  exact hbd (digB_iff.1 h b hbm)
                clear htk hbm hb HX
                by_cases hb0 : b.toNat < 48
                · have hb0' : (b.toNat : Int) < 48 := by omega
                  go_wp2
                  go_ret2
                  exact ⟨by rw [HV.out, HK.out, HXN.out]; rfl, rfl⟩
                · have hb0' : decide ((b.toNat : Int) < 48) = false := by simp; omega
                  have hb1' : (57 : Int) < (b.toNat : Int) := by omega
                  go_wp2
                  go_ret2
                  exact ⟨by rw [HV.out, HK.out, HXN.out]; rfl, rfl⟩
            · obtain rfl : i = T.length := by omega
              rw [List.take_length] at hv0 hv1 hdg ⊢
              have HXL : Hid (refO s.data.toList = lastO neg (dvL T)) := by rw [Hid, HX.out, if_pos (digB_iff.2 hdg.out)]
              have HPS : Hid (neg = true → 1 ≤ dvL T) := fun hn => by
                rcases HSP.out with ⟨_, h⟩ | h
                · rw [hn] at h; cases h
                · exact (back_dec hdg.out (lead_of HNE.out h)).1
              clear HX
              generalize dvL T = v at *
              cases neg with
              | true =>
                have hp := HPS.out rfl
                by_cases hle : v ≤ 9223372036854775808
                · have HY : Hid (lastO true v = some (-v)) := by simp [Hid, lastO, hle]
                  go_wp2
                  go_ret2
                  exact ⟨by rw [HV.out, HK.out, HXL.out, HY.out, show -(v - 1) - 1 = -v by omega]; rfl, rfl⟩
                · have HY : Hid (lastO true v = none) := by simp [Hid, lastO, hle]
                  have hle' : decide (v ≤ 9223372036854775808) = false := by simpa using hle
                  go_wp2
                  go_ret2
                  exact ⟨by rw [HV.out, HK.out, HXL.out, HY.out]; rfl, rfl⟩
              | false =>
                by_cases hle : v ≤ 9223372036854775807
                · have HY : Hid (lastO false v = some v) := by simp [Hid, lastO, hle]
                  have hle' : decide ((9223372036854775807 : Int) < v) = false := by simp; omega
                  go_wp2
                  go_ret2
                  exact ⟨by rw [HV.out, HK.out, HXL.out, HY.out]; rfl, rfl⟩
                · have HY : Hid (lastO false v = none) := by simp [Hid, lastO, hle]
                  have hle' : (9223372036854775807 : Int) < v := by omega
                  go_wp2
                  go_ret2
                  exact ⟨by rw [HV.out, HK.out, HXL.out, HY.out]; rfl, rfl⟩

end Go.Proofs.YthlkknfhganecaaGreatDoor
