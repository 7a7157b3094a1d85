/-
  errors.Is by its contracts: at a chain that ends with a kind, asked for a kind; at one that ends with an error of errors.New's make, asked for it; and fault.Is.
-/
import Derived.Test.YteleldeeakklpaaDoorFOf
namespace Go.Proofs.YteleldeeakklpaaDoor
open Go Go.Proofs Go.RowKit Go.Extern.Stop Go.Stop Go.Extern

theorem typeOfK2 (v : Value) (w : World) : (ReflectliteType.typeOf #[.iface 23 v]).run Tryd.prog w = .ok (.iface 85 (.agg #[.pointer (some ⟨4, 23, none⟩)])) w := by kernel_rfl
/-- What the model's entry for (rtype).Comparable tells of the two types that are asked for. -/
theorem cmp_ex : ∃ e : Array Value → Sem Value, Extern.find Tryd.f88 = some e ∧ (∀ w : World, (e #[.agg #[.pointer (some ⟨4, 23, none⟩)]]).run Tryd.prog w = .ok (.bool true) w) ∧ (∀ w : World, (e #[.agg #[.pointer (some ⟨4, 81, none⟩)]]).run Tryd.prog w = .ok (.bool true) w) := by
  obtain ⟨e, he⟩ := Option.isSome_iff_exists.1 (show (Extern.find Tryd.f88).isSome = true by kernel_rfl)
  refine ⟨e, he, fun w => ?_, fun w => ?_⟩
  · have h : (Extern.find Tryd.f88).map (fun e => (e #[.agg #[.pointer (some ⟨4, 23, none⟩)]]).run Tryd.prog w) = some (.ok (.bool true) w) := by kernel_rfl
    rw [he] at h; exact Option.some.inj h
  · have h : (Extern.find Tryd.f88).map (fun e => (e #[.agg #[.pointer (some ⟨4, 81, none⟩)]]).run Tryd.prog w) = some (.ok (.bool true) w) := by kernel_rfl
    rw [he] at h; exact Option.some.inj h
theorem mComparable (v : Value) (w : World) : (Go.method 250 85 v "Comparable").run Tryd.prog w = .ok (88, v) w := by kernel_rfl
theorem noIsK (v : Value) (xT : TypeId) (w : World) : (Instr.typeAssert (.iface 23 v) xT 101 true).run Tryd.prog w = .ok (.tuple #[.nilIface, .bool false]) w := run_typeAssert_lacksB Tryd.underlying101 (by kernel_rfl) (by kernel_rfl) v xT w
theorem noUnwrapK (v : Value) (xT : TypeId) (w : World) : (Instr.typeAssert (.iface 23 v) xT 92 true).run Tryd.prog w = .ok (.tuple #[.nilIface, .bool false]) w := run_typeAssert_lacksB Tryd.underlying92 (by kernel_rfl) (by kernel_rfl) v xT w
theorem noUnwrapsK (v : Value) (xT : TypeId) (w : World) : (Instr.typeAssert (.iface 23 v) xT 93 true).run Tryd.prog w = .ok (.tuple #[.nilIface, .bool false]) w := run_typeAssert_lacksB Tryd.underlying93 (by kernel_rfl) (by kernel_rfl) v xT w
theorem noIsF (v : Value) (xT : TypeId) (w : World) : (Instr.typeAssert (.iface 29 v) xT 101 true).run Tryd.prog w = .ok (.tuple #[.nilIface, .bool false]) w := run_typeAssert_lacksB Tryd.underlying101 (by kernel_rfl) (by kernel_rfl) v xT w
theorem hasUnwrapF (v : Value) (xT : TypeId) (w : World) : (Instr.typeAssert (.iface 29 v) xT 92 true).run Tryd.prog w = .ok (.tuple #[.iface 29 v, .bool true]) w := run_typeAssert_hasB Tryd.underlying92 (by kernel_rfl) v xT w
theorem mUnwrapF (v : Value) (w : World) : (Go.method 250 29 v "Unwrap").run Tryd.prog w = .ok (14, v) w := by kernel_rfl
theorem nilEql (t : TypeId) (v : Value) (w : World) : (binOp .eql 27 .nilIface (.iface t v)).run Tryd.prog w = .ok (.bool false) w := run_eql_iface_nil_left (P := Tryd.prog) w t v Tryd.underlying27
theorem infoE : (Tryd.prog.info? 81).map (·.comparable) = some true := by kernel_rfl
theorem sizeE : (Tryd.prog.info? 83).map (·.size) = some 1 := by kernel_rfl
theorem eqlE (a : Addr) (w : World) : (binOp .eql 27 (.iface 81 (.pointer (some a))) (.iface 81 (.pointer (some a)))).run Tryd.prog w = .ok (.bool true) w := by
  obtain ⟨i, hi, hcmp⟩ := Option.map_eq_some_iff.1 infoE
  obtain ⟨j, hj, hjs⟩ := Option.map_eq_some_iff.1 sizeE
  exact run_eql_iface_ptr_same (P := Tryd.prog) w a Tryd.underlying27 Tryd.underlying81 hi hcmp hj
theorem eqlFE (v u : Value) (w : World) : (binOp .eql 27 (.iface 29 v) (.iface 81 u)).run Tryd.prog w = .ok (.bool false) w := run_eql_iface_types (P := Tryd.prog) 29 81 v u Tryd.underlying27 (by decide) w

set_option maxRecDepth 100000 in
set_option maxHeartbeats 1000000 in
/-- errors.is at a chain that ends with a kind. -/
theorem is_loopK {L : List (ByteArray × Int)} {k o : Int} {v : Value} {N : Nat} (w : World) (hC : Chain w (.iface 23 (.int .i64 k)) N L v) :
    Calls Tryd.prog 39 #[v, .iface 23 (.int .i64 o), .bool true] w fun e w' => e = .returned (.bool (k == o)) ∧ w' = w := by
  have e1 := eqlK
  have e2 := eqlFK
  have n1 := noIsK
  have n2 := noUnwrapK
  have n3 := noUnwrapsK
  have n4 := noIsF
  have n5 := hasUnwrapF
  have m1 := mUnwrapF
  go_enter Tryd.func39, Tryd.ntmps39
  go_wp2
  go_loop [0] (fun x => ∃ (j n : Nat), j ≤ L.length ∧ Chain w (.iface 23 (.int .i64 k)) n (L.drop j) x) (fun x => rank x)
  case atStart => exact ⟨0, N, Nat.zero_le _, hC⟩
  case round =>
    obtain ⟨j, n, hj, hc⟩ := hrel
    by_cases hlt : j < L.length
    · rw [List.drop_eq_getElem_cons hlt] at hc
      obtain ⟨b, v', hbn, rfl, hF, hc'⟩ := hc
      have hr := rank_lt (EndV.kind k) hc'
      have hnn : ∃ t x, v' = .iface t x := by
        cases hL : L.drop (j + 1) with
        | nil => rw [hL] at hc'; have hc' : v' = _ := hc'; exact ⟨_, _, hc'⟩
        | cons y L' => rw [hL] at hc'; obtain ⟨b', v'', _, rfl, _⟩ := hc'; exact ⟨_, _, rfl⟩
      obtain ⟨t, x, rfl⟩ := hnn
      go_wp2_with (go_at_call 14; refine (unwrap_some b _ _ _ _ hF).mono ?_; rintro e w2 ⟨rfl, rfl⟩)
      exact ⟨⟨j + 1, b, hlt, hc'⟩, hr⟩
    · obtain rfl : j = L.length := by omega
      rw [List.drop_length] at hc
      have hc : _ = _ := hc
      subst hc
      by_cases hko : k = o
      · subst hko
        go_wp2
        go_ret
        exact ⟨by simp, rfl⟩
      · have hko' : (k == o) = false := by simpa using hko
        go_wp2
        go_ret
        exact ⟨rfl, rfl⟩

set_option maxRecDepth 100000 in
set_option maxHeartbeats 1000000 in
theorem isK_any {L : List (ByteArray × Int)} {k o : Int} {v : Value} {N : Nat} (w : World) (hC : Chain w (.iface 23 (.int .i64 k)) N L v) :
    Calls Tryd.prog 17 #[v, .iface 23 (.int .i64 o)] w fun e w' => e = .returned (.bool (k == o)) ∧ w' = w := by
  have h8 := @run_callFunc_extern Tryd.prog 38 _ ReflectliteType.typeOf Tryd.func38 (by kernel_rfl) (by kernel_rfl) (by kernel_rfl) (by kernel_rfl)
  obtain ⟨ce, hce, cTK, cTE⟩ := cmp_ex
  have h32 := @run_callFunc_extern Tryd.prog 88 _ ce Tryd.func88 (by kernel_rfl) (by kernel_rfl) (by kernel_rfl) hce
  have mR := mComparable
  have tT := typeOfK2
  have hl := is_loopK (o := o) w hC
  obtain ⟨t, x, rfl⟩ : ∃ t x, v = .iface t x := by
    cases L with
    | nil => have hC : v = _ := hC; exact ⟨_, _, hC⟩
    | cons y L => obtain ⟨b, v', _, rfl, _⟩ := hC; exact ⟨_, _, rfl⟩
  go_enter Tryd.func17, Tryd.ntmps17
  go_wp2_with fail
  refine hl.mono ?_
  rintro e w2 ⟨rfl, rfl⟩
  go_wp2
  go_ret
  exact ⟨rfl, rfl⟩

set_option maxRecDepth 100000 in
set_option maxHeartbeats 1000000 in
theorem isNilK (o : Int) (w : World) :
    Calls Tryd.prog 17 #[.nilIface, .iface 23 (.int .i64 o)] w fun e w' => e = .returned (.bool false) ∧ w' = w := by
  have hn := nilEql
  go_enter Tryd.func17, Tryd.ntmps17
  go_wp2
  go_ret
  exact ⟨rfl, rfl⟩

set_option maxRecDepth 100000 in
set_option maxHeartbeats 1000000 in
/-- errors.Is at a *Fault that wraps an error of errors.New's make, asked for that error. -/
theorem isE_one {b : Nat} {s : ByteArray} {a : Int} {p : Addr} (w : World) (hF : FB w b s a (.iface 81 (.pointer (some p)))) :
    Calls Tryd.prog 17 #[.iface 29 (.pointer (some ⟨b, 0, none⟩)), .iface 81 (.pointer (some p))] w fun e w' => e = .returned (.bool true) ∧ w' = w := by
  have h8 := @run_callFunc_extern Tryd.prog 38 _ ReflectliteType.typeOf Tryd.func38 (by kernel_rfl) (by kernel_rfl) (by kernel_rfl) (by kernel_rfl)
  obtain ⟨ce, hce, cTK, cTE⟩ := cmp_ex
  have h32 := @run_callFunc_extern Tryd.prog 88 _ ce Tryd.func88 (by kernel_rfl) (by kernel_rfl) (by kernel_rfl) hce
  have mR := mComparable
  have tT := typeOfE
  have e1 := eqlE
  have e2 := eqlFE
  have n4 := noIsF
  have n5 := hasUnwrapF
  have m1 := mUnwrapF
  have c2 := hF.c2
  go_enter Tryd.func17, Tryd.ntmps17
  go_wp2
  refine wp_loop_rounds 2 ?_
  rw [rounds_succ]
  go_wp2
  rw [rounds_succ]
  go_wp2
  go_ret
  exact ⟨rfl, rfl⟩

set_option maxRecDepth 100000 in
set_option maxHeartbeats 1000000 in
theorem fis_ok_some (t : TypeId) (x : Value) (w : World) :
    Calls Tryd.prog 16 #[.iface t x, .int .i64 0] w fun e w' => e = .returned (.bool false) ∧ Below w.heap.size w w' := by
  go_enter_defers Tryd.func16, Tryd.ntmps16
  go_wp2
  simp [bodyPostD, Leaves, results, Tryd.results16, go_sem]
  exact (Below.refl _ _).alloc (Nat.le_refl _) _
set_option maxRecDepth 100000 in
set_option maxHeartbeats 1000000 in
theorem fis_ok_nil (w : World) :
    Calls Tryd.prog 16 #[.nilIface, .int .i64 0] w fun e w' => e = .returned (.bool true) ∧ Below w.heap.size w w' := by
  go_enter_defers Tryd.func16, Tryd.ntmps16
  go_wp2
  simp [bodyPostD, Leaves, results, Tryd.results16, go_sem]
  exact (Below.refl _ _).alloc (Nat.le_refl _) _

/-- What fault.Is tells of a chain: by the answer of errors.Is of its end. -/
theorem fis_of {L : List (ByteArray × Int)} {o : Int} {ev v : Value} {r : Bool} (hev : EndV ev) (ho : o ≠ 0) (hr : ∀ W, Calls Tryd.prog 17 #[ev, .iface 23 (.int .i64 o)] W fun e w' => e = .returned (.bool r) ∧ w' = W)
    (w : World) (hC : Chain w ev w.heap.size L v) :
    Calls Tryd.prog 16 #[v, .int .i64 o] w fun e w' => e = .returned (.bool r) ∧ Below w.heap.size w w' := by
  have hm := hmf
  have ho' : (o == 0) = false := by simpa using ho
  have hr : Hid _ := hr
  have hb1 : Below w.heap.size w (w.alloc (.cells #[.bool false] 4)) := (Below.refl _ _).alloc (Nat.le_refl _) _
  have hend := end_any hev (w.alloc (.cells #[.bool false] 4)) (Nat.le_refl _) ((hC.below hb1).mono (by simp))
  go_enter_defers Tryd.func16, Tryd.ntmps16
  go_wp2_with fail
  refine hend.mono ?_
  clear hend
  rintro e w2 ⟨rfl, hb3⟩
  have cr := (hb3.cell (p := ⟨w.heap.size, 0, none⟩) (by simp)).trans (show _ = some (.bool false) by simp)
  have fr := (hb3.frozen (p := ⟨w.heap.size, 0, none⟩) (by simp)).trans (show _ = false by simp)
  have hz := hb3.size
  simp only [World.size_alloc] at hz
  have hbw : Below w.heap.size w (w2.setCell ⟨w.heap.size, 0, none⟩ (.bool r)) := (hb1.trans (hb3.mono (by simp))).setCell (p := ⟨w.heap.size, 0, none⟩) (Nat.le_refl _) _
  go_wp2_with fail
  refine (hr.out w2).mono ?_
  rintro e w3 ⟨rfl, hw3⟩
  rw [hw3]
  go_wp2
  refine leaves_cons (f := 37) (args := #[.pointer (some ⟨w.heap.size, 0, none⟩)]) (by simp) (by simp [go_sem]) ?_
  refine (idle37 ⟨w.heap.size, 0, none⟩ _).mono ?_
  rintro e u' w'' ⟨rfl, rfl, rfl⟩
  simp [Leaves, settle, results, Tryd.results16, go_sem, cr]
  exact hbw
theorem fis_kind {L : List (ByteArray × Int)} {k o : Int} {v : Value} (ho : o ≠ 0) (w : World) (hC : Chain w (.iface 23 (.int .i64 k)) w.heap.size L v) :
    Calls Tryd.prog 16 #[v, .int .i64 o] w fun e w' => e = .returned (.bool (k == o)) ∧ Below w.heap.size w w' :=
  fis_of (EndV.kind k) ho (fun W => isK_any (L := []) (N := 0) W rfl) w hC
theorem fis_nil {o : Int} (ho : o ≠ 0) (w : World) :
    Calls Tryd.prog 16 #[.nilIface, .int .i64 o] w fun e w' => e = .returned (.bool false) ∧ Below w.heap.size w w' :=
  fis_of (L := []) EndV.none ho (fun W => isNilK o W) w rfl

end Go.Proofs.YteleldeeakklpaaDoor
