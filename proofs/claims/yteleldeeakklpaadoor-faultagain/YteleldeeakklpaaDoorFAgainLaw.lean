/-
  The walk of filigreelaw03.FaultAgain.
-/
import Derived.Test.YteleldeeakklpaaDoorFTrailsLaw
namespace Go.Proofs.YteleldeeakklpaaDoor
open Go Go.Proofs Go.RowKit

theorem run_append_strs {n₀ : Nat} {sx : Value} {ss : List ByteArray} (w : World) (base : Nat) (ty : TypeId) (i : TypeInfo) (hi : Tryd.prog.info? 9 = some i) (hz : i.zero = some (.string ⟨#[]⟩))
    (hsize : i.size = 1) (hby : i.bytes = 16)
    (v : Value) (n : Nat) (xs : List Value) (hown : w.ownsRow base 9 1 v n xs) (hx : Strs n₀ w sx ss)
    (h63 : n + ss.length ≤ maxLen) (hbytes : (n + ss.length) * 16 ≤ 140737488355328) (hbase : base ≤ w.heap.size) :
    ∃ v' w', (Builtin.append_ #[45, 45] ty #[v, sx]).run Tryd.prog w = .ok v' w' ∧ w'.ownsRow base 9 1 v' (n + ss.length) (xs ++ ss.map Value.string) ∧ w.grownBy w' v.ownBlock := by
  have ht := Tryd.underlying45
  rcases hx with ⟨⟨p, c, rfl⟩, rfl⟩ | ⟨b, off, cap, rfl, hb, hl, hc⟩
  · rcases p with _ | x
    · refine ⟨v, w, ?_, by simpa using hown, ⟨rfl, rfl, rfl, Nat.le_refl _, fun _ _ _ => rfl⟩⟩
      rcases hown.2 with ⟨rfl, rfl⟩ | ⟨g, cap, cur, rfl, _, _, hnc, _⟩
      · simp [Builtin.append_, run_underlying ht, sizeOf, typeInfo, hi, Builtin.lenOf, Builtin.firstCells]
      · simp [Builtin.append_, run_underlying ht, sizeOf, typeInfo, hi, Builtin.lenOf, Builtin.firstCells, hnc, storeCells]
    · obtain ⟨v', w', h1, h2, h3, _, h5⟩ := run_append_own_at (P := Tryd.prog) w base 45 ty 9 i (.string ⟨#[]⟩) 1 16 ht hi hz hsize hby rfl (by decide) v n xs hown x 0 c [] rfl (by intro j u hj; simp at hj) (by intro u hu; simp at hu) (by simpa using h63) (by simpa using hbytes) hbase
      exact ⟨v', w', h1, by simpa using h2, h3⟩
  · obtain ⟨v', w', h1, h2, h3, _, h5⟩ := run_append_own_at (P := Tryd.prog) w base 45 ty 9 i (.string ⟨#[]⟩) 1 16 ht hi hz hsize hby rfl (by decide) v n xs hown ⟨b, off, none⟩ ss.length cap (ss.map Value.string) (by simp)
      (fun j u hu => by
        rw [Lib.add_plain]
        rw [List.getElem?_map] at hu
        cases hs : ss[j]? with
        | none => simp [hs] at hu
        | some s => simp [hs] at hu; subst hu; exact hc j s hs)
      (fun u hu => by obtain ⟨s, _, rfl⟩ := List.mem_map.1 hu; rfl) h63 hbytes hbase
    exact ⟨v', w', h1, h2, h3⟩

/-- append of a list of texts upon a row that the call owns, at an operation that is carried out. -/
theorem wpList_append_strs {n₀ : Nat} {ss : List ByteArray} (w : World) {ops : Array Oper} {rest : List Oper} {o : Oper} {a : Act} {Q : Exit → Act → World → Prop} (hgd : Region.wanted o (yielded ops a.tmps) = true) (s x : Operand)
    (ho : o.op = .call { callee := .builtin .append, args := #[s, x], argTypes := #[45, 45] })
    (base : Nat) (i : TypeInfo) (hi : Tryd.prog.info? 9 = some i) (hz : i.zero = some (.string ⟨#[]⟩)) (hsize : i.size = 1) (hby : i.bytes = 16)
    (v sx : Value) (n : Nat) (xs : List Value) (hs : a.eval s = v) (hown : w.ownsRow base 9 1 v n xs) (he : a.eval x = sx) (hx : Strs n₀ w sx ss)
    (h63 : n + ss.length ≤ maxLen) (hbytes : (n + ss.length) * 16 ≤ 140737488355328) (hbase : base ≤ w.heap.size)
    (h : ∀ v' w', w'.ownsRow base 9 1 v' (n + ss.length) (xs ++ ss.map Value.string) → w.grownBy w' v.ownBlock → wpList Tryd.prog ops Q rest (a.put o.dst v') w') :
    wpList Tryd.prog ops Q (o :: rest) a w := by
  refine wpList_step fun K hK => ?_
  rw [if_pos hgd]
  obtain ⟨v', w', hr, h2, h3⟩ := run_append_strs w base o.type i hi hz hsize hby v n xs hown hx h63 hbytes hbase
  unfold Oper.wp execOp
  simp only [ho, resolve, invoke, builtin, Sem.run_bind, Sem.run_pure, Result.andThen_ok, List.map_toArray, List.map_cons, List.map_nil, hs, he, hr]
  exact hK _ _ (h v' w' h2 h3)

theorem plN_self (q : ByteArray) (a : Int) (L : List (ByteArray × Int)) : plN q ((q, a) :: L) = a := by simp [plN]

set_option maxRecDepth 100000 in
set_option maxHeartbeats 4000000 in
theorem again_walk (l : List (ByteArray × Int)) (hl : InOkay l) (k : Int) (_hk : -9223372036854775808 ≤ k ∧ k ≤ 9223372036854775807) (q : ByteArray) (hq : q.size ≤ 9223372036854775807) (n : Int) (_hn : -9223372036854775808 ≤ n ∧ n ≤ 9223372036854775807) (w : World) (sv : Value) (hS : Steps w.heap.size w sv l) (hE : Env w) :
    Calls Tryd.prog 7 #[sv, .int .i64 k, .string q, .int .i64 n] w fun e w' => e = .returned (.bool true) ∧ Below w.heap.size w w' := by
  obtain ⟨i0, hi, hz0, hz1, hz2⟩ := info_parts info9
  cases hlit : litB l with
  | false =>
    go_enter Tryd.func7, Tryd.ntmps7
    go_wp2_with fail
    refine (light_any l hl w sv hS).mono ?_
    rintro e w1 ⟨rfl, hw1⟩
    rw [hlit, hw1]
    go_wp2_with fail
    refine (alive_any w hE).mono ?_
    rintro e w2 ⟨rfl, hb2⟩
    go_wp2
    go_ret
    exact ⟨rfl, hb2⟩
  | true =>
    have hlt := litB_true hl hlit
    by_cases hk : k = 0
    · subst hk
      go_enter Tryd.func7, Tryd.ntmps7
      go_wp2_with fail
      refine (light_any l hl w sv hS).mono ?_
      rintro e w1 ⟨rfl, hw1⟩
      rw [hlit, hw1]
      go_wp2_with fail
      refine (alive_any w hE).mono ?_
      rintro e w2 ⟨rfl, hb2⟩
      go_wp2
      go_ret
      exact ⟨rfl, hb2⟩
    · have hk' : (k == 0) = false := by simpa using hk
      by_cases hq1 : 1000 < (q.size : Int)
      · go_enter Tryd.func7, Tryd.ntmps7
        go_wp2_with fail
        refine (light_any l hl w sv hS).mono ?_
        rintro e w1 ⟨rfl, hw1⟩
        rw [hlit, hw1]
        go_wp2_with fail
        refine (alive_any w hE).mono ?_
        rintro e w2 ⟨rfl, hb2⟩
        go_wp2
        go_ret
        exact ⟨rfl, hb2⟩
      · have hq2 : ¬ 1000 < q.size := by omega
        go_enter Tryd.func7, Tryd.ntmps7
        go_wp2_with fail
        refine (light_any l hl w sv hS).mono ?_
        rintro e w1 ⟨rfl, hw1⟩
        rw [hlit, hw1]
        go_wp2_with fail
        refine (wrapped_any l hl k hk w sv hS).mono ?_
        rintro e w2 ⟨v, rfl, hC2, hb2⟩
        have hE2 := hE.go hb2
        have hwr := chain_wraps hk hC2
        obtain ⟨vt, vx, rfl⟩ : ∃ t x, v = .iface t x := hwr.iface
        go_wp2_with fail
        refine (wrap_any q n _ hwr w2).mono ?_
        rintro e w3 ⟨rfl, hw3⟩
        have hb3 : Below w2.heap.size w2 w3 := by rw [hw3]; exact (Below.refl _ _).alloc (Nat.le_refl _) _
        have hCb : Chain w3 (.iface 23 (.int .i64 k)) w3.heap.size ((q, n) :: l.reverse) (.iface 29 (.pointer (some ⟨w2.heap.size, 0, none⟩))) := by
          rw [hw3]; exact (chain_new (Nat.le_refl _) hC2 (q, n)).mono (by simp)
        have hCa := hC2.go hb3
        have hE3 := hE2.go hb3
        have hbw3 := hb2.trans (hb3.mono hb2.size)
        clear hw3 hwr hC2 hb2 hb3 hE2
        go_wp2_with fail
        refine (of_kind w3 hE3 hCb).mono ?_
        rintro e w4 ⟨rfl, hb4⟩
        replace hCb := hCb.go hb4
        replace hCa := hCa.go hb4
        have hE4 := hE3.go hb4
        have hbw4 := hbw3.trans (hb4.mono hbw3.size)
        clear hb4 hbw3 hE3
        go_wp2_with fail
        refine (of_kind w4 hE4 hCa).mono ?_
        rintro e w5 ⟨rfl, hb5⟩
        replace hCb := hCb.go hb5
        replace hCa := hCa.go hb5
        have hE5 := hE4.go hb5
        have hbw5 := hbw4.trans (hb5.mono hbw4.size)
        clear hb5 hbw4 hE4
        go_wp2_with fail
        refine (of_kind w5 hE5 hCb).mono ?_
        rintro e w6 ⟨rfl, hb6⟩
        replace hCb := hCb.go hb6
        replace hCa := hCa.go hb6
        have hE6 := hE5.go hb6
        have hbw6 := hbw5.trans (hb6.mono hbw5.size)
        clear hb6 hbw5 hE5
        go_wp2_with fail
        refine (trail_any (by simp; omega) (.kind k) w6 hCb).mono ?_
        rintro e w7 ⟨s7, rfl, h7, hb7⟩
        replace hCb := hCb.go hb7
        replace hCa := hCa.go hb7
        have hE7 := hE6.go hb7
        have hbw7 := hbw6.trans (hb7.mono hbw6.size)
        clear hb7 hbw6 hE6
        have hb8 : Below w7.heap.size w7 (w7.alloc (.cells #[.string q] 9)) := (Below.refl _ _).alloc (Nat.le_refl _) _
        have hown8 : (w7.alloc (.cells #[.string q] 9)).ownsRow w7.heap.size 9 1 (.slice (some ⟨w7.heap.size, 0, none⟩) 1 1) 1 [.string q] :=
          ⟨rfl, .inr ⟨w7.heap.size, 1, #[.string q], rfl, Nat.le_refl _, (MapKept.heap_alloc w7 _).1, Nat.le_refl _, by unfold maxLen; omega, rfl, rfl⟩⟩
        have hCa8 := hCa.go hb8
        go_wp2_with fail
        refine (trail_any (by simp; omega) (.kind k) (w7.alloc (.cells #[.string q] 9)) hCa8).mono ?_
        rintro e w9 ⟨s9, rfl, h9, hb9⟩
        have hown9 : w9.ownsRow w7.heap.size 9 1 (.slice (some ⟨w7.heap.size, 0, none⟩) 1 1) 1 [.string q] := row_kept hown8 (kept_below hb9)
        have hb79 : Below w7.heap.size w7 w9 := hb8.trans (hb9.mono (by simp))
        have hmx : 1 + (l.reverse.map (·.1)).length ≤ maxLen := by unfold maxLen; simp; omega
        have hby : (1 + (l.reverse.map (·.1)).length) * 16 ≤ 140737488355328 := by simp; omega
        have hbs := hb79.size
        clear hb8 hb9 hown8 hCa8 hCa
        go_wp2_with (at_builtin; refine wpList_append_strs _ ?hw _ _ rfl w7.heap.size i0 hi hz0 hz1 hz2 (.slice (some ⟨w7.heap.size, 0, none⟩) 1 1) s9 1 _ rfl hown9 rfl h9 hmx hby hbs ?_)
        intro v10 w10 hown10 hg10
        have hb710 : Below w7.heap.size w7 w10 := hb79.grown hg10 hbs (fun k e => by cases e; exact Nat.le_refl _)
        have h7' : Strs w10.heap.size w10 s7 (q :: l.reverse.map (·.1)) := h7.go hb710
        have h10 : Strs w10.heap.size w10 v10 (q :: l.reverse.map (·.1)) := Strs.of_owns (base := w7.heap.size) (by simpa [Nat.add_comm, Function.comp_def] using hown10)
        have hC10 := hCb.go hb710
        have hE10 := hE7.go hb710
        have hbw10 := hbw7.trans (hb710.mono hbw7.size)
        clear hb710 hb79 h7 hCb hE7 hbw7 hown10 hg10 hown9 h9 hmx hby
        go_wp2_with fail
        refine (texts_same (q :: l.reverse.map (·.1)) (by simp; omega) w10 s7 v10 h7' h10).mono ?_
        rintro e w11 ⟨rfl, hb11⟩
        have hC11 := hC10.go hb11
        have hE11 := hE10.go hb11
        have hbw11 := hbw10.trans (hb11.mono hbw10.size)
        clear hb11 h7' h10 hC10 hE10 hbw10
        go_wp2_with fail
        refine (place_any (q := q) (.kind k) w11 hC11).mono ?_
        rintro e w12 ⟨rfl, hb12⟩
        have hC12 := hC11.go hb12
        have hE12 := hE11.go hb12
        have hbw12 := hbw11.trans (hb12.mono hbw11.size)
        rw [plN_self]
        clear hb12 hC11 hE11 hbw11
        go_wp2_with fail
        refine (isK_any (o := k) w12 hC12).mono ?_
        rintro e w13 ⟨rfl, hw13⟩
        rw [hw13, show (k == k) = true by simp]
        go_wp2_with fail
        refine (alive_any w12 hE12).mono ?_
        rintro e w14 ⟨rfl, hb14⟩
        go_wp2
        go_ret
        exact ⟨rfl, hbw12.trans (hb14.mono hbw12.size)⟩

end Go.Proofs.YteleldeeakklpaaDoor
