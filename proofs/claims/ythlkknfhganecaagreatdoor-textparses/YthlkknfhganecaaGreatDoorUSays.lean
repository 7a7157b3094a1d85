/-
  filigreelaw05.Says: an error is just such a fault: none, or one wrap of a kind.
-/
import Derived.Deep.RegionHeld3
import Derived.Test.YthlkknfhganecaaGreatDoorUAlive
namespace Go.Proofs.YthlkknfhganecaaGreatDoor
open Go Go.Proofs Go.RowKit

set_option maxRecDepth 100000 in
set_option maxHeartbeats 2000000 in
theorem says_none (s : ByteArray) (a : Int) (w : World) :
    Calls Tryz.prog 14 #[.nilIface, .agg #[.string s, .int .i64 a, .int .i64 0]] w fun e w' => e = .returned (.bool true) ∧ Below w.heap.size w w' := by
  go_enter Tryz.func14, Tryz.ntmps14
  go_wp2
  go_ret
  exact ⟨rfl, (Below.refl _ _).alloc (Nat.le_refl _) _⟩

theorem cell_keep {A B : World} (hb : Below A.heap.size A B) {a : Addr} {v : Value} (h : A.cell? a = some v) : B.cell? a = some v := (hb.cell (World.block_lt_of_cell? A a h)).trans h
theorem below_drew1 {A w : World} {n : Nat} (h : Below n w A) : Below n w A.drew := below_drewN h 1
theorem below_keep {A B w : World} {n : Nat} (hb : Below A.heap.size A B) (h : Below n w A) (hn : n ≤ w.heap.size) : Below n w B := h.trans (hb.mono (Nat.le_trans hn h.size))
theorem plN_self (s : ByteArray) (a : Int) : plN s [(s, a)] = a := by simp [plN]

set_option maxRecDepth 100000 in
set_option maxHeartbeats 2000000 in
theorem says_some (s : ByteArray) (a k : Int) (hk : k ≠ 0) (b : Nat) (w : World) (hE : Env w) (hF : FB w b s a (.iface 22 (.int .i64 k))) :
    Calls Tryz.prog 14 #[.iface 81 (.pointer (some ⟨b, 0, none⟩)), .agg #[.string s, .int .i64 a, .int .i64 k]] w fun e w' => e = .returned (.bool true) ∧ Below w.heap.size w w' := by
  have hmix := mixed
  have hk' : (k == 0) = false := by simpa using hk
  have hb1 : Below w.heap.size w (w.alloc (.cells #[.string s, .int .i64 a, .int .i64 k] 36)) := (Below.refl _ _).alloc (Nat.le_refl _) _
  have hX1 : Blk 36 (w.alloc (.cells #[.string s, .int .i64 a, .int .i64 k] 36)) w.heap.size [.string s, .int .i64 a, .int .i64 k] := heap_alloc_new w _
  have hF1 : FB (w.alloc (.cells #[.string s, .int .i64 a, .int .i64 k] 36)) b s a (.iface 22 (.int .i64 k)) := (hb1.block b hF.lt).trans hF
  have hC1 : Chain (w.alloc (.cells #[.string s, .int .i64 a, .int .i64 k] 36)) (.iface 22 (.int .i64 k)) (w.alloc (.cells #[.string s, .int .i64 a, .int .i64 k] 36)).heap.size [(s, a)] (.iface 81 (.pointer (some ⟨b, 0, none⟩))) := ⟨b, _, hF1.lt, rfl, hF1, rfl⟩
  have htr := trail_any (by simp) (EndV.kind k) _ hC1
  go_enter Tryz.func14, Tryz.ntmps14
  go_wp2_with fail
  refine htr.mono ?_
  clear htr
  rintro e w2 ⟨sv, rfl, hS2, hb2⟩
  have hbw2 := hb1.trans (hb2.mono hb1.size)
  have hX2 := hX1.go hb2
  have hC2 := (hC1.below hb2).mono hb2.size
  have x0 := hX2.cell (j := 0) rfl
  have x1 := hX2.cell (j := 1) rfl
  have x2 := hX2.cell (j := 2) rfl
  have hof : ∀ W, Below w2.heap.size w2 W → Calls Tryz.prog 20 #[.iface 81 (.pointer (some ⟨b, 0, none⟩))] W fun e w' => e = .returned (.int .i64 k) ∧ Below W.heap.size W w' := fun W h => of_kind _ ((hE.go hbw2).go h) ((hC2.below h).mono h.size)
  have hpl : ∀ W, Below w2.heap.size w2 W → Calls Tryz.prog 21 #[.iface 81 (.pointer (some ⟨b, 0, none⟩)), .string s] W fun e w' => e = .returned (.int .i64 a) ∧ Below W.heap.size W w' := fun W h => by
    have := place_any (q := s) (EndV.kind k) W ((hC2.below h).mono h.size)
    rwa [plN_self] at this
  rcases hS2 with ⟨_, h⟩ | ⟨bt, ot, ct, rfl, hbt, hct, hcell⟩
  · cases h
  have c0 : w2.cell? ⟨bt, ot, none⟩ = some (.string s) := hcell 0 s rfl
  have hB2 : Below w2.heap.size w2 w2 := Below.refl _ _
  clear hcell hC2 hX2 hC1 hF1 hX1
  simp only [List.map_cons, List.map_nil, List.length_cons, List.length_nil, Nat.zero_add] at hct ⊢
  go_wp2
  go_region_held3 (fun w' => w'.cell? ⟨w.heap.size, 0, none⟩ = some (.string s) ∧ w'.cell? ⟨w.heap.size, 1, none⟩ = some (.int .i64 a) ∧ w'.cell? ⟨w.heap.size, 2, none⟩ = some (.int .i64 k) ∧ w'.cell? ⟨bt, ot, none⟩ = some (.string s) ∧ Below w2.heap.size w2 w') (((try go_split_ands); refine ⟨?_, ?_, ?_, ?_, ?_⟩ <;> first | assumption | (simp only [World.cell?_drew]; assumption) | exact below_drew1 (by assumption) | exact cell_keep hbO (by assumption) | exact below_keep hbO (by assumption) (Nat.le_refl _) | exact cell_keep hbP (by assumption) | exact below_keep hbP (by assumption) (Nat.le_refl _))) (first | (go_at_call 20; refine (hof _ (by go_split_ands; assumption)).mono ?_; rintro e wO ⟨rfl, hbO⟩) | (go_at_call 21; refine (hpl _ (by go_split_ands; assumption)).mono ?_; rintro e wP ⟨rfl, hbP⟩))
  go_split_ands
  go_wp2
  go_ret
  exact ⟨rfl, hbw2.trans (Below.mono (by assumption) hbw2.size)⟩
end Go.Proofs.YthlkknfhganecaaGreatDoor
