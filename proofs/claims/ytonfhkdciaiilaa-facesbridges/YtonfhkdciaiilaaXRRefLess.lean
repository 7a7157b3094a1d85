/-
  The contract of the reference's Less.
-/
import Derived.BigRegion
import Derived.Deep.RegionLaw
import Derived.Deep.DrawnRows
import Derived.Test.YtonfhkdciaiilaaQH
import Derived.Test.YtonfhkdciaiilaaXPKeep
namespace Go.Proofs.Ytonfhkdciaiilaa
open Go Go.Proofs Go.RowKit

attribute [local go_sem ↓] Go.wp_at_zero Go.wp_at_succ

/-- append upon a row that the call owns, as one step of a region that draws its order. -/
theorem step_append_at {P : Program} {ops : Array Oper} {o : Oper} {a : Act} {w : World} {K : Act → World → Prop} {Q : Exit → Act → World → Prop} {E : Prop}
    (hgd : o.guard = none) (s x : Operand) (t : TypeId) (ho : o.op = .call { callee := .builtin .append, args := #[s, x], argTypes := #[t, t] })
    (base : Nat) (e : TypeId) (i : TypeInfo) (z : Value) (size bytes : Nat) (ht : P.underlying t = some (.slice e)) (hi : P.info? e = some i) (hz : i.zero = some z)
    (hsize : i.size = size) (hby : i.bytes = bytes) (hzs : z.cells.size = size) (hsz : 0 < size)
    (v : Value) (n : Nat) (xs : List Value) (hs : a.eval s = v) (hown : w.ownsRow base e size v n xs)
    (ad : Addr) (m c : Nat) (news : List Value) (hx : a.eval x = .slice (some ad) m c) (hl : news.length = m * size) (hnews : ∀ j u, news[j]? = some u → w.cell? (ad.add j) = some u) (h1 : ∀ u ∈ news, u.oneCell' = true)
    (h63 : n + m ≤ maxLen) (hbytes : (n + m) * bytes ≤ 140737488355328) (hbase : base ≤ w.heap.size)
    (h : ∀ v' w', w'.ownsRow base e size v' (n + m) (xs ++ news) → w.grownBy w' v.ownBlock → (v'.ownBlock = v.ownBlock ∨ v'.ownBlock = some w.heap.size) → K (a.put o.dst v') w') :
    if Region.wanted o (yielded ops a.tmps) = true then Oper.wp P o a w K Q else E := by
  have hw : Region.wanted o (yielded ops a.tmps) = true := by simp [Region.wanted, hgd]
  rw [if_pos hw]
  obtain ⟨v', w', hr, h2, h3, h4, h5⟩ := run_append_own_at (P := P) w base t o.type e i z size bytes ht hi hz hsize hby hzs hsz v n xs hown ad m c news hl hnews h1 h63 hbytes hbase
  unfold Oper.wp
  simp [execOp, ho, resolve, invoke, builtin, hs, hx, hr, Result.andThen]
  exact h v' w' h2 h3 h5

set_option maxRecDepth 100000 in
set_option maxHeartbeats 4000000 in
theorem refLess_any (n : Int) (l : List Ed) (hR : RightG n l) (a : List Int) (ha : a.length ≤ 4194304) (sv sk : Value) (w : World) (hl : Edges w.heap.size w sv l) (hK : Ints w.heap.size w sk a) :
    Calls Try.prog 31 #[.agg #[.int .i64 n, sv], sk] w fun r w' => ∃ gv, r = .returned (.agg #[.int .i64 n, gv]) ∧ Edges w'.heap.size w' gv (keepL l (lessP a) l.length) ∧ Below w.heap.size w w' := by
  obtain ⟨p, c, rfl⟩ := hl.len
  obtain ⟨pk, ck, rfl⟩ := hK.len
  have hmix := mixed
  obtain ⟨i0, hi, hz0, hz1, hz2⟩ := info_parts infoE
  have hm1 := hR.m1
  have hg1 : Grew w (((w.alloc (.cells #[.int .i64 n, .slice p l.length c] 24)).alloc (.cells #[.int .i64 0, .slice none 0 0] 24)).alloc (.cells #[.int .i64 n, .slice none 0 0] 24)) := (((Grew.refl w).alloc _).alloc _).alloc _
  have hB0 : Blk 24 (((w.alloc (.cells #[.int .i64 n, .slice p l.length c] 24)).alloc (.cells #[.int .i64 0, .slice none 0 0] 24)).alloc (.cells #[.int .i64 n, .slice none 0 0] 24)) w.heap.size [.int .i64 n, .slice p l.length c] := by
    have h1 : Blk 24 (w.alloc (.cells #[.int .i64 n, .slice p l.length c] 24)) w.heap.size [.int .i64 n, .slice p l.length c] := heap_alloc_new w _
    exact h1.go ((((Grew.refl _).alloc _).alloc _).below)
  have hB1 : Blk 24 (((w.alloc (.cells #[.int .i64 n, .slice p l.length c] 24)).alloc (.cells #[.int .i64 0, .slice none 0 0] 24)).alloc (.cells #[.int .i64 n, .slice none 0 0] 24)) (w.heap.size + 1) [.int .i64 0, .slice none 0 0] := by
    have h1 : Blk 24 ((w.alloc (.cells #[.int .i64 n, .slice p l.length c] 24)).alloc (.cells #[.int .i64 0, .slice none 0 0] 24)) (w.heap.size + 1) [.int .i64 0, .slice none 0 0] := by
      have := heap_alloc_new (w.alloc (.cells #[.int .i64 n, .slice p l.length c] 24)) (.cells #[.int .i64 0, .slice none 0 0] 24)
      simpa [Blk] using this
    exact h1.go (((Grew.refl _).alloc _).below)
  have hB2 : Blk 24 (((w.alloc (.cells #[.int .i64 n, .slice p l.length c] 24)).alloc (.cells #[.int .i64 0, .slice none 0 0] 24)).alloc (.cells #[.int .i64 n, .slice none 0 0] 24)) (w.heap.size + 1 + 1) [.int .i64 n, .slice none 0 0] := by
    have := heap_alloc_new ((w.alloc (.cells #[.int .i64 n, .slice p l.length c] 24)).alloc (.cells #[.int .i64 0, .slice none 0 0] 24)) (.cells #[.int .i64 n, .slice none 0 0] 24)
    simpa [Blk] using this
  go_enter Try.func31, Try.ntmps31
  go_wp2
  have hsz := hB2.lt
  generalize ((w.alloc (.cells #[.int .i64 n, .slice p l.length c] 24)).alloc (.cells #[.int .i64 0, .slice none 0 0] 24)).alloc (.cells #[.int .i64 n, .slice none 0 0] 24) = w1 at hg1 hB0 hB1 hB2 hsz ⊢
  go_loopw [6] (fun i wr => ∃ (j : Nat) (s : Value), j ≤ l.length ∧ i = .int .i64 j ∧ Blk 24 wr (w.heap.size + 1 + 1) [.int .i64 n, s] ∧ wr.ownsRow (w.heap.size + 3) 44 3 s (keepL l (lessP a) j).length (flat (keepL l (lessP a) j)) ∧ Below (w.heap.size + 2) w1 wr) (fun i _ => l.length - (intOf i).toNat)
  case atStart => exact ⟨0, _, Nat.zero_le _, rfl, hB2, owns_none _ _ _, Below.refl _ _⟩
  case round =>
    obtain ⟨j, s, hj, rfl, hO, hown, hb⟩ := hrel
    have hbwr : Below w.heap.size w wr := hg1.below.trans (hb.mono (by omega))
    have hE0 := hB0.below hb (by omega)
    have hE1 := hB1.below hb (by omega)
    have hOl := hO.lt
    have d1 := hE0.cell (j := 1) rfl
    by_cases hlt : j < l.length
    · obtain ⟨b, off, rfl, hbb, hcap, hc, -⟩ := hl.open hlt
      obtain ⟨c0, c1, c2⟩ := hc wr hbwr j hlt
      have hjl : (j : Int) < (l.length : Int) := by omega
      have hhas := has_any a ha (j : Int) (.slice pk a.length ck) _ wr (hK.go hbwr)
      clear hc
      cases hin : inB a (j : Int) with
      | true =>
        rw [hin] at hhas
        have HK : Hid _ := keepL_out (l := l) (pred := lessP a) (j := j) (by unfold lessP; rw [hin]; rfl)
        clear hin
        go_wp2_with fail
        refine hhas.mono ?_
        rintro e w2 ⟨rfl, rfl⟩
        clear hhas
        go_wp2
        exact ⟨⟨j + 1, s, by omega, by go_num, hO, by rw [HK.out]; exact hown, hb⟩, by simp [intOf]; omega⟩
      | false =>
        rw [hin] at hhas
        have HK : Hid _ := keepL_in (l := l) (pred := lessP a) hlt (by unfold lessP; rw [hin]; rfl)
        clear hin
        obtain ⟨pp, cc, rfl⟩ := owns_form hown
        have k1 := hO.cell (j := 1) rfl
        have f1 := hO.frozen 1
        have hklen := keepL_len l (lessP a) j
        have hown9 : (wr.alloc (.cells #[.int .i64 l[j].1, .int .i64 l[j].2.1, .int .i64 l[j].2.2] 44)).drew.ownsRow (w.heap.size + 3) 44 3 (.slice pp (keepL l (lessP a) j).length cc) (keepL l (lessP a) j).length (flat (keepL l (lessP a) j)) := owns_below (hown.alloc _) (below_drewN (Below.refl _ _) 1)
        have hlow : ∀ k, (Value.slice pp (keepL l (lessP a) j).length cc).ownBlock = some k → w.heap.size + 3 ≤ k := fun k e => (hown.lt k e).1
        have hn3 : ∀ i u, (encE l[j])[i]? = some u → (wr.alloc (.cells #[.int .i64 l[j].1, .int .i64 l[j].2.1, .int .i64 l[j].2.2] 44)).drew.cell? ((⟨wr.heap.size, 0, none⟩ : Addr).add i) = some u := news3 (w := wr) l[j]
        have ho3 := one3 l[j]
        have hmx : (keepL l (lessP a) j).length + 1 ≤ maxLen := by unfold maxLen; omega
        have hby : ((keepL l (lessP a) j).length + 1) * 24 ≤ 140737488355328 := by omega
        have hbs : w.heap.size + 3 ≤ (wr.alloc (.cells #[.int .i64 l[j].1, .int .i64 l[j].2.1, .int .i64 l[j].2.2] 44)).drew.heap.size := by simp; omega
        have hzc : (Value.agg #[.int .i64 0, .int .i64 0, .int .i64 0]).cells.size = 3 := by simp [Value.cells]
        have hO9 : Blk 24 (wr.alloc (.cells #[.int .i64 l[j].1, .int .i64 l[j].2.1, .int .i64 l[j].2.2] 44)).drew (w.heap.size + 1 + 1) _ := hO.go (below_drewN ((Grew.refl wr).alloc _).below 1)
        have hne9 : some (w.heap.size + 1 + 1) ≠ (Value.slice pp (keepL l (lessP a) j).length cc).ownBlock := fun e => by have := hlow _ e.symm; omega
        have hb9 : Below (w.heap.size + 2) w1 (wr.alloc (.cells #[.int .i64 l[j].1, .int .i64 l[j].2.1, .int .i64 l[j].2.2] 44)).drew := below_drewN (hb.alloc (by omega) _) 1
        have hs9 : w.heap.size + 2 ≤ (wr.alloc (.cells #[.int .i64 l[j].1, .int .i64 l[j].2.1, .int .i64 l[j].2.2] 44)).drew.heap.size := by simp; omega
        have hlow2 : ∀ k, (Value.slice pp (keepL l (lessP a) j).length cc).ownBlock = some k → w.heap.size + 2 ≤ k := fun k e => by have := hlow k e; omega
        go_wp2_with fail
        refine hhas.mono ?_
        rintro e w2 ⟨rfl, h2⟩
        rw [h2]
        clear hhas h2
        go_wp2
        go_region_law (refine step_append_at rfl _ _ 22 rfl (w.heap.size + 3) 44 i0 (.agg #[.int .i64 0, .int .i64 0, .int .i64 0]) 3 24 Try.underlying22 hi hz0 hz1 hz2 hzc (by decide) (.slice pp (keepL l (lessP a) j).length cc) _ _ rfl hown9 ⟨wr.heap.size, 0, none⟩ 1 1 (encE l[j]) rfl rfl hn3 ho3 hmx hby hbs ?_; intro v6 w6 hown6 hgrow6 hat6; obtain ⟨p6, c6, rfl⟩ := owns_form hown6; have hO6 := hO9.grown hgrow6 hne9; have k6 := hO6.cell (j := 1) rfl; have f6 := hO6.frozen 1; have hb6 := hb9.grown hgrow6 hs9 hlow2)
        all_goals go_wp2
        all_goals refine ⟨⟨j + 1, _, by omega, by go_num, hO6.set 1 _, ?_, hb6.setCell (p := ⟨w.heap.size + 1 + 1, 1, none⟩) (by simp) _⟩, by simp [intOf]; omega⟩
        all_goals rw [HK.out, flat_snoc, List.length_append]
        all_goals exact owns_set hown6 (by simp) _
    · obtain rfl : j = l.length := by omega
      have hEd := Edges.of_owns hown
      have hAb := Above.of_owns hown
      obtain ⟨pp, cc, rfl⟩ := hEd.len
      have k0 := hO.cell (j := 0) rfl
      have k1 := hO.cell (j := 1) rfl
      have f0 := hE1.frozen 0
      have f1 := hE1.frozen 1
      have x0 := hE1.cell (j := 0) rfl
      have x1 := hE1.cell (j := 1) rfl
      go_wp2
      have hbf := (hE1.set 0 (.int .i64 n)).set 1 (.slice pp (keepL l (lessP a) l.length).length cc)
      (try simp only [Exit.inBlock, Exit.then])
      refine bodyPost_ret (ret_graph1 rfl (by rfl) (hbf.cell (j := 0) rfl) (hbf.cell (j := 1) rfl)) rfl ?_
      refine ⟨.slice pp (keepL l (lessP a) l.length).length cc, rfl, ?_, (hbwr.setCell (p := ⟨w.heap.size + 1, 0, none⟩) (by simp) _).setCell (p := ⟨w.heap.size + 1, 1, none⟩) (by simp) _⟩
      exact (hEd.setLow hAb (by simp) _).setLow hAb (by simp) _

end Go.Proofs.Ytonfhkdciaiilaa
