/-
  The walk of filigreelaw01.NaturalTexts: for any list and any text it returns true, and nothing that lay has turned.
-/
import Derived.Test.YtkalknmindgljaaDoorText
import Derived.Test.YtkalknmindgljaaDoorRefText
import Derived.Test.YtkalknmindgljaaDoorRefParse
import Derived.Test.YtkalknmindgljaaDoorMade
import Derived.Test.YtkalknmindgljaaDoorAlive
namespace Go.Proofs.YtkalknmindgljaaDoor
open Go Go.Proofs Go.RowKit Go.Shelf

/-- What both parsers answer for one text: one number, one code. -/
theorem parsed_same (s : ByteArray) (hs : s.size ≤ 100) : ∃ X c : Int, (c = 0 ∨ c = 2) ∧ Nrm X 100 (num X) ∧ ∀ e w, Parsed s e w → ∃ sv, e = .returned (.tuple #[sv, .int .i64 c]) ∧ U32 w sv (num X) := by
  by_cases hD : DecOK s
  · have hd := dvL_nonneg ((decOK_iff s).1 hD).1
    have h1 := ten_le s.data.toList.length
    have h2 := bytes_len s
    have h3 := pB_le (m := s.data.toList.length) (n := 100) (by omega)
    exact ⟨dvL s.data.toList, 0, .inl rfl, Nrm.of hd.1 (by omega), fun e w hP => hP.1 hD⟩
  · exact ⟨0, 2, .inr rfl, Nrm.of (Int.le_refl _) (pB_pos _), fun e w hP => ⟨_, hP.2 hD, .inl ⟨⟨_, _, rfl⟩, num_zero⟩⟩⟩

set_option maxRecDepth 100000 in
set_option maxHeartbeats 4000000 in
theorem texts_walk (a : List Int) (s : ByteArray) (ha : a.length ≤ 9223372036854775807) (hs : s.size ≤ 9223372036854775807) (da : Dig a) (w : World) (pa : Option Addr) (ca : Nat) (hA : U32 w (.slice pa a.length ca) a) (htab : Tab w) :
    Calls Tryd.prog 8 #[.slice pa a.length ca, .string s] w fun e w' => e = .returned (.bool true) ∧ Below w.heap.size w w' := by
  go_enter Tryd.func8, Tryd.ntmps8
  by_cases h1 : a.length ≤ 4
  · by_cases h2 : s.size ≤ 40
    · obtain ⟨X, c, hc, mX, HP⟩ := parsed_same s (by omega)
      have HP : Hid _ := HP
      rcases hc with rfl | rfl
      all_goals
        go_wp2_with fail
        refine (parse_any s (by omega) w).mono ?_
        rintro e w1 ⟨hP, hb1⟩
        obtain ⟨s1, rfl, hs1⟩ := HP.out _ _ hP
        have hA1 := hA.go hb1
        have htab1 := tab_below htab hb1
        clear hP
        go_wp2_with fail
        refine (refParse_any s (by omega) w1).mono ?_
        rintro e w2 ⟨hP, hb2⟩
        obtain ⟨s2, rfl, hs2⟩ := HP.out _ _ hP
        have hA2 := hA1.go hb2
        have htab2 := tab_below htab1 hb2
        have hbl2 := hb1.trans (hb2.mono hb1.size)
        have hs1' := hs1.go hb2
        clear hP hs1 hA1 htab1 hb1 hb2
        go_wp2_with fail
        refine (text_any hA2 da (by omega) htab2).mono ?_
        rintro e w3 ⟨rfl, hb3⟩
        go_wp2_with fail
        refine (refText_any (hA2.go hb3) da (by omega)).mono ?_
        rintro e w4 ⟨rfl, hb4⟩
        have hb24 := hb3.trans (hb4.mono hb3.size)
        have hs1'' := hs1'.go hb24
        have hs2'' := hs2.go hb24
        have hbl4 := hbl2.trans (hb24.mono hbl2.size)
        clear hs1' hs2 hb3 hb4 hb24 htab2 hbl2 hA2
        go_wp2_with fail
        refine (same_made mX mX (by omega) (by omega) hs1'' hs2'' rfl).mono ?_
        rintro e w5 ⟨rfl, hb5⟩
        have hbl5 := hbl4.trans (hb5.mono hbl4.size)
        clear hs1'' hs2'' hb5 hbl4
        go_wp2_with fail
        refine (alive_any _).mono ?_
        rintro e w7 ⟨rfl, hb7⟩
        go_wp2
        go_ret
        exact ⟨rfl, hbl5.trans (hb7.mono hbl5.size)⟩
    · go_wp2_with fail
      refine (alive_any _).mono ?_
      rintro e w2 ⟨rfl, hb2⟩
      go_wp2
      go_ret
      exact ⟨rfl, hb2⟩
  · go_wp2_with fail
    refine (alive_any _).mono ?_
    rintro e w2 ⟨rfl, hb2⟩
    go_wp2
    go_ret
    exact ⟨rfl, hb2⟩

end Go.Proofs.YtkalknmindgljaaDoor
