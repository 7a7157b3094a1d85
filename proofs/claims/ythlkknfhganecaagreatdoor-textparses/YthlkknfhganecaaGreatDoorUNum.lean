/-
  The contract of text.Number.
-/
import Derived.Lib.ParseIntBTie
import Derived.Lib.AtoiErrMem
import Derived.Test.YthlkknfhganecaaGreatDoorUFault
import Derived.Test.YthlkknfhganecaaGreatDoorShelfT
namespace Go.Proofs.YthlkknfhganecaaGreatDoor
open Go Go.Proofs Go.RowKit

/-- The number that s is the one text of. -/
def numO (s : ByteArray) : Option Int := match Lib.parseIntB 64 s.data.toList with
  | .ok v => if Lib.itoa v = s.data.toList then some v else none
  | _ => none
def numV (s : ByteArray) : Int := (numO s).getD 0
def numK (s : ByteArray) : Int := if (numO s).isSome then 0 else 2
theorem parse_range {v : Int} {l : List UInt8} (h : Lib.parseIntB 64 l = .ok v) : -9223372036854775808 ≤ v ∧ v ≤ 9223372036854775807 := by
  obtain ⟨h0, h1⟩ := Lib.parseIntB_bounds h
  have e : ((2 ^ (64 - 1) : Nat) : Int) = 9223372036854775808 := by decide
  rw [e] at h0 h1
  omega

set_option maxRecDepth 100000 in
set_option maxHeartbeats 2000000 in
theorem number_any (s : ByteArray) (hs : s.size ≤ 281474976710656) (w : World) (hE : Env w) :
    Calls Tryz.prog 8 #[.string s] w fun e w' => e = .returned (.tuple #[.int .i64 (numV s), .int .i64 (numK s)]) ∧ Below w.heap.size w w' := by
  cases hp : Lib.parseIntB 64 s.data.toList with
  | «syntax» =>
    obtain ⟨p, hv⟩ := hE.syn
    have hc := Tryz.strconv_ParseInt_10_at64_syntax_var s hs hp _ p w hv
    have HO : Hid (numO s = none) := by unfold Hid numO; rw [hp]
    clear hp
    go_enter Tryz.func8, Tryz.ntmps8
    go_wp2_with fail
    refine hc.mono ?_
    rintro e w2 ⟨N, rfl, _, _, hb2⟩
    go_wp2
    go_ret2
    exact ⟨by unfold numV numK; rw [HO.out]; rfl, hb2⟩
  | range =>
    obtain ⟨p, hv⟩ := hE.rng
    have hc := Tryz.strconv_ParseInt_10_at64_range_var s hs hp _ p w hv
    have HO : Hid (numO s = none) := by unfold Hid numO; rw [hp]
    clear hp
    go_enter Tryz.func8, Tryz.ntmps8
    go_wp2_with fail
    refine hc.mono ?_
    rintro e w2 ⟨N, rfl, _, _, hb2⟩
    go_wp2
    go_ret2
    exact ⟨by unfold numV numK; rw [HO.out]; rfl, hb2⟩
  | ok v =>
    have hc := (Tryz.strconv_ParseInt_10_at64_ok s (by omega) v hp w).mono (R' := fun e w' => e = .returned (.tuple #[.int .i64 v, .nilIface]) ∧ Below w.heap.size w w') (fun _ _ ⟨h1, h2⟩ => ⟨h1, by
      rcases h2 with rfl | ⟨t, rfl⟩
      · exact Below.refl _ _
      · exact Lib.bytesWorld_below _ _ _⟩)
    obtain ⟨r0, r1⟩ := parse_range hp
    have hf : ∀ W, Below w.heap.size w W → Calls Tryz.prog 19 #[.int .i64 v, .int .i64 10] W fun e w' => e = .returned (.string ⟨(Lib.itoa v).toArray⟩) ∧ Below W.heap.size W w' := fun W hW => (Tryz.strconv_FormatInt_10 v r0 r1 W (hE.go hW).tab).mono (fun _ _ ⟨h1, k, os, h2⟩ => ⟨h1, by
      rw [h2]; exact (below_drewN (Below.refl W.heap.size W) k).trans (show Below W.heap.size (W.drewN k) _ from grow_below (W.drewN k) os)⟩)
    by_cases hi : Lib.itoa v = s.data.toList
    · have HO : Hid (numO s = some v) := by unfold Hid numO; rw [hp]; simp [hi]
      have hq : (Lib.itoa v == s.toList) = true := by rw [ByteArray.toList_eq]; simpa using hi
      clear hp
      go_enter Tryz.func8, Tryz.ntmps8
      go_wp2_with fail
      refine hc.mono ?_
      rintro e w2 ⟨rfl, hb2⟩
      clear hc
      go_wp2_with fail
      refine (hf _ hb2).mono ?_
      rintro e w3 ⟨rfl, hb3⟩
      go_wp2
      go_ret2
      exact ⟨by unfold numV numK; rw [HO.out]; rfl, hb2.trans (hb3.mono hb2.size)⟩
    · have HO : Hid (numO s = none) := by unfold Hid numO; rw [hp]; simp [hi]
      have hq : (Lib.itoa v == s.toList) = false := by rw [ByteArray.toList_eq]; simpa using hi
      clear hp
      go_enter Tryz.func8, Tryz.ntmps8
      go_wp2_with fail
      refine hc.mono ?_
      rintro e w2 ⟨rfl, hb2⟩
      clear hc
      go_wp2_with fail
      refine (hf _ hb2).mono ?_
      rintro e w3 ⟨rfl, hb3⟩
      go_wp2
      go_ret2
      exact ⟨by unfold numV numK; rw [HO.out]; rfl, hb2.trans (hb3.mono hb2.size)⟩

end Go.Proofs.YthlkknfhganecaaGreatDoor
