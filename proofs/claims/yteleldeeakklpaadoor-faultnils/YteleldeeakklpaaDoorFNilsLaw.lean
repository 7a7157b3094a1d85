/-
  The walk of filigreelaw03.FaultNils.
-/
import Derived.Test.YteleldeeakklpaaDoorFTrailsLaw
namespace Go.Proofs.YteleldeeakklpaaDoor
open Go Go.Proofs Go.RowKit

theorem new_any (s : ByteArray) (w : World) :
    Calls Tryd.prog 23 #[.string s] w fun e w' => e = .returned (.iface 81 (.pointer (some ⟨w.heap.size, 0, none⟩))) ∧ w' = w.alloc (.cells #[.string s] 83) := by
  go_enter Tryd.func23, Tryd.ntmps23
  go_wp2
  go_ret
  exact ⟨rfl, rfl⟩
theorem bare_text (q : ByteArray) (n : Int) : (⟨(accL [(q, n)] ++ (⟨#[]⟩ : ByteArray).data.toList).toArray⟩ : ByteArray) = q ++ ⟨#[32]⟩ ++ ⟨(Lib.itoa n).toArray⟩ ++ ⟨#[58, 32]⟩ := by
  apply ByteArray.ext
  simp [accL, linkB]

/-- What stands all along: two *Faults, one that wraps an error of no kind and one that wraps nothing. -/
structure NI (w : World) (b1 b2 : Nat) (q : ByteArray) (n : Int) (p : Addr) (W : World) : Prop where
  bel : Below w.heap.size w W
  env : Env W
  f1 : FB W b1 q n (.iface 81 (.pointer (some p)))
  f2 : FB W b2 q n .nilIface
theorem NI.go {w : World} {b1 b2 : Nat} {q : ByteArray} {n : Int} {p : Addr} {W W' : World} (h : NI w b1 b2 q n p W) (hb : Below W.heap.size W W') : NI w b1 b2 q n p W' :=
  ⟨h.bel.trans (hb.mono h.bel.size), h.env.go hb, (hb.block b1 h.f1.lt).trans h.f1, (hb.block b2 h.f2.lt).trans h.f2⟩
theorem NI.c1 {w : World} {b1 b2 : Nat} {q : ByteArray} {n : Int} {p : Addr} {W : World} (h : NI w b1 b2 q n p W) : Chain W (.iface 81 (.pointer (some p))) W.heap.size [(q, n)] (.iface 29 (.pointer (some ⟨b1, 0, none⟩))) :=
  ⟨b1, _, h.f1.lt, rfl, h.f1, rfl⟩
theorem NI.c2 {w : World} {b1 b2 : Nat} {q : ByteArray} {n : Int} {p : Addr} {W : World} (h : NI w b1 b2 q n p W) : Chain W .nilIface W.heap.size [(q, n)] (.iface 29 (.pointer (some ⟨b2, 0, none⟩))) :=
  ⟨b2, _, h.f2.lt, rfl, h.f2, rfl⟩

set_option maxRecDepth 100000 in
set_option maxHeartbeats 4000000 in
theorem nils_walk (tx : ByteArray) (htx : tx.size ≤ 9223372036854775807) (q : ByteArray) (hq : q.size ≤ 9223372036854775807) (n : Int) (hn : -9223372036854775808 ≤ n ∧ n ≤ 9223372036854775807) (w : World) (hE : Env w) :
    Calls Tryd.prog 6 #[.string tx, .string q, .int .i64 n] w fun e w' => e = .returned (.bool true) ∧ Below w.heap.size w w' := by
  by_cases h1 : 1000 < tx.size
  · have h1' : 1000 < (tx.size : Int) := by omega
    go_enter Tryd.func6, Tryd.ntmps6
    go_wp2_with fail
    refine (alive_any w hE).mono ?_
    rintro e w2 ⟨rfl, hb2⟩
    go_wp2
    go_ret
    exact ⟨rfl, hb2⟩
  · by_cases h2 : 1000 < q.size
    · have h1' : ¬ 1000 < (tx.size : Int) := by omega
      have h2' : 1000 < (q.size : Int) := by omega
      go_enter Tryd.func6, Tryd.ntmps6
      go_wp2_with fail
      refine (alive_any w hE).mono ?_
      rintro e w2 ⟨rfl, hb2⟩
      go_wp2
      go_ret
      exact ⟨rfl, hb2⟩
    · have h1' : ¬ 1000 < (tx.size : Int) := by omega
      have h2' : ¬ 1000 < (q.size : Int) := by omega
      have hil := Lib.itoa_length_le n hn.1 hn.2
      have hn1 : ¬ 9223372036854775807 < q.size + 1 := by omega
      have hn2 : ¬ 9223372036854775807 < q.size + 1 + (Lib.itoa n).length := by omega
      have hn3 : ¬ 9223372036854775807 < q.size + 1 + (Lib.itoa n).length + 2 := by omega
      have hOk : Okay [(q, n)] := ⟨by simp, fun x hx => by rw [List.mem_singleton.1 hx]; exact ⟨by show q.size ≤ _; omega, hn.1, hn.2⟩⟩
      go_enter Tryd.func6, Tryd.ntmps6
      go_wp2_with fail
      refine (new_any tx w).mono ?_
      rintro e w1 ⟨rfl, hw1⟩
      have hb1 : Below w.heap.size w w1 := by rw [hw1]; exact (Below.refl _ _).alloc (Nat.le_refl _) _
      have hz1 : w.heap.size < w1.heap.size := by rw [hw1]; simp
      clear hw1
      go_wp2_with fail
      refine (wrap_any q n _ (.err ⟨w.heap.size, 0, none⟩) w1).mono ?_
      rintro e w2 ⟨rfl, hw2⟩
      have hb2 : Below w1.heap.size w1 w2 := by rw [hw2]; exact (Below.refl _ _).alloc (Nat.le_refl _) _
      have hF2 : FB w2 w1.heap.size q n (.iface 81 (.pointer (some ⟨w.heap.size, 0, none⟩))) := by rw [hw2]; exact (MapKept.heap_alloc w1 _).1
      have hz2 : w1.heap.size < w2.heap.size := by rw [hw2]; simp
      clear hw2
      have hb3 : Below w2.heap.size w2 (w2.alloc (.cells #[.string q, .int .i64 n, .nilIface] 37)) := (Below.refl _ _).alloc (Nat.le_refl _) _
      have hB3 : FB (w2.alloc (.cells #[.string q, .int .i64 n, .nilIface] 37)) w2.heap.size q n .nilIface := (MapKept.heap_alloc w2 _).1
      have N3 : NI w w1.heap.size w2.heap.size q n ⟨w.heap.size, 0, none⟩ (w2.alloc (.cells #[.string q, .int .i64 n, .nilIface] 37)) := by
        have e1 : Below w.heap.size w w2 := hb1.trans (hb2.mono (by omega))
        exact ⟨e1.trans (hb3.mono (by omega)), ((hE.go hb1).go hb2).go hb3, (hb3.block _ hF2.lt).trans hF2, hB3⟩
      clear hb1 hb2 hb3 hF2 hB3
      go_wp2_with fail
      refine (error_nil _).mono ?_
      rintro e w4 ⟨rfl, hb⟩
      have N4 := N3.go hb
      clear N3 hb
      go_wp2_with fail
      refine (unwrap_nil w4).mono ?_
      rintro e w5 ⟨rfl, hw⟩
      rw [hw]
      go_wp2_with fail
      refine (of_nil w4).mono ?_
      rintro e w6 ⟨rfl, hb⟩
      have N6 := N4.go hb
      clear N4 hb hw
      go_wp2_with fail
      refine (fis_ok_nil w6).mono ?_
      rintro e w7 ⟨rfl, hb⟩
      have N7 := N6.go hb
      clear N6 hb
      go_wp2_with fail
      refine (fis_nil (o := 6) (by decide) w7).mono ?_
      rintro e w8 ⟨rfl, hb⟩
      have N8 := N7.go hb
      clear N7 hb
      go_wp2_with fail
      refine (trail_any (L := []) (by simp) EndV.none w8 rfl).mono ?_
      rintro e w9 ⟨s9, rfl, h9, hb⟩
      have N9 := N8.go hb
      obtain ⟨p9, c9, rfl⟩ := h9.len
      clear N8 hb h9
      go_wp2_with fail
      refine (place_any (L := []) (q := q) EndV.none w9 rfl).mono ?_
      rintro e w10 ⟨rfl, hb⟩
      have N10 := N9.go hb
      clear N9 hb
      rw [show plN q [] = -1 from rfl]
      go_wp2_with fail
      refine (of_err (L := []) w10 N10.env rfl).mono ?_
      rintro e w11 ⟨rfl, hb⟩
      have N11 := N10.go hb
      clear N10 hb
      go_wp2_with fail
      refine (of_err w11 N11.env N11.c1).mono ?_
      rintro e w12 ⟨rfl, hb⟩
      have N12 := N11.go hb
      clear N11 hb
      go_wp2_with fail
      refine (fis_ok_some _ _ w12).mono ?_
      rintro e w13 ⟨rfl, hb⟩
      have N13 := N12.go hb
      clear N12 hb
      go_wp2_with fail
      refine (isE_one w13 N13.f1).mono ?_
      rintro e w14 ⟨rfl, hw⟩
      rw [hw]
      go_wp2_with fail
      refine (place_any (q := q) (.err _) w13 N13.c1).mono ?_
      rintro e w15 ⟨rfl, hb⟩
      have N15 := N13.go hb
      clear N13 hb hw
      rw [show plN q [(q, n)] = n by simp [plN]]
      go_wp2_with fail
      refine (error_any hOk EndV.none ⟨#[]⟩ (by decide) (fun W => text_nil W) w15 N15.env N15.c2).mono ?_
      rintro e w16 ⟨rfl, hb⟩
      have N16 := N15.go hb
      clear N15 hb
      rw [bare_text]
      go_wp2_with fail
      refine (digits_any n hn.1 hn.2 w16).mono ?_
      rintro e w17 ⟨rfl, hb⟩
      have N17 := N16.go hb
      clear N16 hb
      go_wp2_with fail
      refine (unwrap_some _ _ _ _ w17 N17.f2).mono ?_
      rintro e w18 ⟨rfl, hw⟩
      rw [hw]
      go_wp2_with fail
      refine (alive_any w17 N17.env).mono ?_
      rintro e w19 ⟨rfl, hb⟩
      have N19 := N17.go hb
      go_wp2
      go_ret
      exact ⟨rfl, N19.bel⟩

end Go.Proofs.YteleldeeakklpaaDoor
