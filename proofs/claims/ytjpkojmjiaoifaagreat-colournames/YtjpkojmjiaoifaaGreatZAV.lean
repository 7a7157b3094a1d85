import Derived.Deep.AppendLies
import Derived.OwnWalk
import Derived.Maps.AppendAt
import Derived.Test.YtjpkojmjiaoifaaGreatZAU
import Derived.Test.YtjpkojmjiaoifaaGreatZAG
import Derived.Test.YtjpkojmjiaoifaaGreatZAL
import Derived.Test.YtjpkojmjiaoifaaGreatZAA
import Derived.Test.YtjpkojmjiaoifaaGreatZAM
import Derived.Test.YtjpkojmjiaoifaaGreatXPGather
import Derived.Test.YtjpkojmjiaoifaaGreatXPLinked
namespace Go.Proofs.YtjpkojmjiaoifaaGreat
open Go Go.Proofs Go.RowKit
theorem infoE : (Tryz.prog.info? 37).map (fun i => (i.zero, i.size, i.bytes)) = some (some (.agg #[.int .i64 0, .int .i64 0, .int .i64 0]), 3, 24) := by kernel_rfl
theorem owns_below {w w' : World} {base : Nat} {e : TypeId} {size : Nat} {v : Value} {n : Nat} {xs : List Value} (h : w.ownsRow base e size v n xs) (hb : Below w.heap.size w w') : w'.ownsRow base e size v n xs := by
 refine h.kept (row := none) (⟨hb.os, hb.tape, hb.output, hb.size, fun k hk _ => hb.block k hk⟩ : w.grownBy w' none) ?_
 cases v.ownBlock with
 | none => exact .inl rfl
 | some k => exact .inr (by simp)
theorem Edges.of_owns {W : World} {base : Nat} {e : TypeId} {v : Value} {l : List Ed} (h : W.ownsRow base e 3 v l.length (flat l)) : Edges W.heap.size W v l := by
 rcases h.2 with ⟨rfl, h0⟩ | ⟨g, cap, cur, rfl, hb, hg, hn, hc⟩
 ·exact .inl ⟨⟨_, _, rfl⟩, List.eq_nil_of_length_eq_zero h0⟩
 ·refine .inr ⟨g, 0, cap, rfl, (Array.getElem?_eq_some_iff.1 hg).1, hn, fun j x hx => ?_⟩
  obtain ⟨k0, k1, k2⟩ := flat_at hx
  have c0 := h.cells (g := g) rfl (j * 3) _ k0
  have c1 := h.cells (g := g) rfl (j * 3 + 1) _ k1
  have c2 := h.cells (g := g) rfl (j * 3 + 2) _ k2
  rw [Go.WideShapes.add_plain] at c0 c1 c2
  exact ⟨c0, c1, c2⟩
def Above (n : Nat) (sv : Value) : Prop := ∀ a len c, sv = .slice (some a) len c → 0 < len → n ≤ a.block
theorem Above.of_owns {W : World} {base : Nat} {e : TypeId} {size : Nat} {v : Value} {n : Nat} {xs : List Value} (h : W.ownsRow base e size v n xs) : Above base v := by
 intro a len c hv _
 rcases h.2 with ⟨h1, _⟩ | ⟨g, cap, cur, h1, hb, _⟩
 ·rw [h1] at hv; cases hv
 ·rw [h1] at hv
  simp only [Value.slice.injEq, Option.some.injEq] at hv
  rw [← hv.1]; exact hb
theorem Edges.setLow {W : World} {n : Nat} {sv : Value} {l : List Ed} (h : Edges W.heap.size W sv l) (ha : Above n sv) {p : Addr} (hp : p.block < n) (v : Value) : Edges (W.setCell p v).heap.size (W.setCell p v) sv l := by
 rcases h with h | ⟨b, off, cap, h1, h2, h3, h4⟩
 ·exact .inl h
 ·refine .inr ⟨b, off, cap, h1, by simpa using h2, h3, fun j x hx => ?_⟩
  have hj := (List.getElem?_eq_some_iff.1 hx).1
  have hb := ha _ _ _ h1 (by omega)
  simp only at hb
  obtain ⟨k0, k1, k2⟩ := h4 j x hx
  have hne : ∀ o, p ≠ ⟨b, o, none⟩ := fun o e => by rw [e] at hp; simp at hp; omega
  exact ⟨(World.cell?_setCell_other _ _ _ _ (hne _)).trans k0, (World.cell?_setCell_other _ _ _ _ (hne _)).trans k1, (World.cell?_setCell_other _ _ _ _ (hne _)).trans k2⟩
theorem news3 {w : World} {t : TypeId} (e : Ed) : ∀ (i : Nat) (u : Value), (encE e)[i]? = some u → (w.alloc (.cells #[.int .i64 e.1, .int .i64 e.2.1, .int .i64 e.2.2] t)).cell? ((⟨w.heap.size, 0, none⟩ : Addr).add i) = some u := by
 intro i u hu
 rw [Go.WideShapes.add_plain, Nat.zero_add]
 match i with
 | 0 => simp [encE] at hu; subst hu; simp
 | 1 => simp [encE] at hu; subst hu; simp
 | 2 => simp [encE] at hu; subst hu; simp
 | i + 3 => simp [encE] at hu
theorem one3 (e : Ed) : ∀ u ∈ encE e, u.oneCell' = true := by
 intro u hu
 simp [encE] at hu
 rcases hu with rfl | rfl | rfl <;> rfl
theorem flat_snoc (l : List Ed) (e : Ed) : flat (l ++ [e]) = flat l ++ encE e := by simp [flat]
theorem owns_none (w : World) (base : Nat) (e : TypeId) : w.ownsRow base e 3 (.slice none 0 0) 0 (flat []) := World.ownsRow_nil w base e 3
theorem owns_form {W : World} {base : Nat} {e : TypeId} {size : Nat} {v : Value} {n : Nat} {xs : List Value} (h : W.ownsRow base e size v n xs) : ∃ p c, v = .slice p n c := by
 rcases h.2 with ⟨rfl, rfl⟩ | ⟨g, cap, cur, rfl, _⟩ <;> exact ⟨_, _, rfl⟩
theorem Blk.grown {t : TypeId} {A B : World} {g : Nat} {vs : List Value} {row : Option Nat} (h : Blk t A g vs) (hg : A.grownBy B row) (hne : some g ≠ row) : Blk t B g vs := (hg.block g h.lt hne).trans h
theorem owns_set {W : World} {base : Nat} {e : TypeId} {size : Nat} {v : Value} {n : Nat} {xs : List Value} (h : W.ownsRow base e size v n xs) {p : Addr} (hp : p.block < base) (u : Value) : (W.setCell p u).ownsRow base e size v n xs := by
 obtain ⟨h1, h2⟩ := h
 refine ⟨h1, ?_⟩
 rcases h2 with h2 | ⟨g, cap, cur, hv, hb, hg, r⟩
 ·exact .inl h2
 ·exact .inr ⟨g, cap, cur, hv, hb, (Below.heap_setCell _ _ _ _ (by omega)).trans hg, r⟩
end Go.Proofs.YtjpkojmjiaoifaaGreat

namespace Go.Proofs.YtjpkojmjiaoifaaGreat
open Go Go.Proofs Go.RowKit Go.Maps
def fileF (F : List (List Int)) (d : Nat) (k : Int) : List (List Int) := if d ≤ 5 then F.set d (F.getD d [] ++ [k]) else F
theorem one_cellF (w : World) (v : Value) (e : TypeId) (j : Nat) (u : Value) (h : [v][j]? = some u) : (w.alloc (.cells #[v] e)).cell? ((⟨w.heap.size, 0, none⟩ : Addr).add j) = some u := by
 match j, h with
 | 0, h =>
  simp at h
  subst h
  have hb : Blk e (w.alloc (.cells #[v] e)) w.heap.size [v] := heap_alloc_new w _
  exact hb.cell (j := 0) (v := v) rfl
 | j + 1, h => simp at h
set_option maxRecDepth 100000 in
set_option maxHeartbeats 4000000 in
theorem file_few (h0 sb k g : Nat) (bs : List (Option Nat)) (N : List (Option (List Int))) (fs : List (Value × List Int)) (tv : Value) (st : List StpM) (tag : Nat → Nat) (S : List Int) (hS : N[k]? = some (some S)) (h5 : S.length ≤ 5) (w : World) (hM : SM h0 sb g bs N fs tv st tag w) (hh : h0 ≤ w.heap.size) (hF : ∀ L ∈ fs.map Prod.snd, L.length ≤ 1000000000) :
  Calls Tryz.prog 40 #[.pointer (some ⟨sb, 0, none⟩), .int .i64 (k : Int)] w fun e w' => e = .returned (.tuple #[]) ∧ (∃ (fs' : List (Value × List Int)) (tag' : Nat → Nat), fs'.map Prod.snd = (fs.map Prod.snd).set S.length ((fs.map Prod.snd).getD S.length [] ++ [(k : Int)]) ∧ SM h0 sb g bs N fs' tv st tag' w' ∧ ∀ j, j < w.heap.size → tag j = 11 → tag' j = 11 ∧ w'.heap[j]? = w.heap[j]?) ∧ Below h0 w w' := by
 have h6 := hM.f6
 obtain ⟨x, hx⟩ : ∃ x, fs[S.length]? = some x := ⟨_, List.getElem?_eq_getElem (by omega)⟩
 have HG : Hid ((fs.map Prod.snd).getD S.length [] = x.2) := by unfold Hid; rw [List.getD_eq_getElem?_getD, List.getElem?_map, hx]; rfl
 obtain ⟨bk, _, hMk, hc, hkN⟩ := hM.nm.cell hS
 have hkI : (k : Int) < (N.length : Int) := by omega
 have hrun := hMk.len 3
 have c0 := hM.row
 have c1 := hM.bucket hx
 have f1 := hM.var.frozen (1 + S.length)
 have hown := hM.few x (List.mem_of_getElem? hx)
 have hxl := hF x.2 (List.mem_map.2 ⟨x, List.mem_of_getElem? hx, rfl⟩)
 clear hS
 generalize hd : S.length = d at *
 have hd6 : d < 6 := by omega
 have hdI : (d : Int) < 6 := by omega
 have hdL : (d : Int) ≤ 5 := by omega
 have HM : Hid (SM h0 sb g bs N fs tv st tag w) := hM
 have HX : Hid (fs[d]? = some x) := hx
 have hsbl := hM.var.lt
 obtain ⟨xv, xl⟩ := x
 dsimp only at *
 obtain ⟨px, cx, nx, rfl⟩ := owns_slice hown
 have HO : Hid (w.ownsRow h0 3 1 (.slice px cx nx) xl.length (xl.map (Value.int .i64))) := hown
 obtain ⟨j0, hj, hy0, hy1, hy2⟩ := info_parts infoI
 have HL5 : Hid (h0 ≤ sb) := hM.lsb
 clear hM hMk hd hx hown h5 hkN h6 hF
 go_enter Tryz.func40, Tryz.ntmps40
 go_wp2_with fail
 refine wp_region_last (S := (fun w' : World => w'.cell? ⟨sb, 1 + d, none⟩ = some (.slice px cx nx))) (by kernel_rfl) c1 (fun hHeld => ?_)
 refine wpAnyL_take (i := 0) (v := ?_) rfl (by kernel_rfl) (by kernel_rfl) (by kernel_rfl) (by kernel_rfl) (fun _ _ _ h => h) (Or.inl ⟨by rfl, ?_⟩) (by assumption) ?_
 rotate_left
 ·intro w hSw; (try dsimp only at hSw); go_simp; (try with_reducible rfl)
 try simp only [Act.put, List.setIfInBounds_toArray]
 refine wpAnyL_take (i := 1) (v := ?_) rfl (by kernel_rfl) (by kernel_rfl) (by kernel_rfl) (by kernel_rfl) (fun _ _ _ h => h) (Or.inl ⟨by rfl, ?_⟩) (by assumption) ?_
 rotate_left
 ·intro w hSw; (try dsimp only at hSw); go_simp; (try with_reducible rfl)
 try simp only [Act.put]
 refine wpAnyL_take (i := 2) (v := ?_) rfl (by kernel_rfl) (by kernel_rfl) (by kernel_rfl) (by kernel_rfl) (fun _ _ _ h => h) (Or.inl ⟨by rfl, ?_⟩) (by assumption) ?_
 rotate_left
 ·intro w hSw; (try dsimp only at hSw); go_simp; (try with_reducible rfl)
 try simp only [Act.put]
 refine wpAnyL_take (i := 3) (v := ?_) rfl (by kernel_rfl) (by kernel_rfl) (by kernel_rfl) (by kernel_rfl) (fun _ _ _ h => h) (Or.inl ⟨by rfl, ?_⟩) (by assumption) ?_
 rotate_left
 ·intro w hSw; (try dsimp only at hSw); go_simp; (try with_reducible rfl)
 try simp only [Act.put]
 refine wpAnyL_take (i := 4) (v := ?_) rfl (by kernel_rfl) (by kernel_rfl) (by kernel_rfl) (by kernel_rfl) (fun _ _ _ h => h) (Or.inl ⟨by rfl, ?_⟩) (by assumption) ?_
 rotate_left
 ·intro w hSw; (try dsimp only at hSw); go_simp; (try with_reducible rfl)
 try simp only [Act.put]
 refine wpAnyL_take (i := 5) (v := ?_) rfl (by kernel_rfl) (by kernel_rfl) (by kernel_rfl) (by kernel_rfl) (fun _ _ _ h => h) (Or.inl ⟨by rfl, ?_⟩) (by assumption) ?_
 rotate_left
 ·intro w hSw; (try dsimp only at hSw); go_simp; (try with_reducible rfl)
 try simp only [Act.put]
 refine wpAnyL_take (i := 6) (v := ?_) rfl (by kernel_rfl) (by kernel_rfl) (by kernel_rfl) (by kernel_rfl) (fun _ _ _ h => h) (Or.inl ⟨by rfl, ?_⟩) (by assumption) ?_
 rotate_left
 ·intro w hSw; (try dsimp only at hSw); go_simp; (try with_reducible rfl)
 try simp only [Act.put]
 refine wpAnyL_take (i := 7) (v := ?_) rfl (by kernel_rfl) (by kernel_rfl) (by kernel_rfl) (by kernel_rfl) (fun _ _ _ h => h) (Or.inl ⟨by rfl, ?_⟩) (by assumption) ?_
 rotate_left
 ·intro w hSw; (try dsimp only at hSw); go_simp; (try with_reducible rfl)
 try simp only [Act.put]
 refine wpAnyL_take (i := 8) (v := ?_) rfl (by kernel_rfl) (by kernel_rfl) (by kernel_rfl) (by kernel_rfl) (fun _ _ _ h => h) (Or.inl ⟨by rfl, ?_⟩) (by assumption) ?_
 rotate_left
 ·intro w hSw; (try dsimp only at hSw); go_simp; (try with_reducible rfl)
 try simp only [Act.put]
 refine wpAnyL_take (i := 11) (v := ?_) rfl (by kernel_rfl) (by kernel_rfl) (by kernel_rfl) (by kernel_rfl) (fun _ _ _ h => h) (Or.inl ⟨by rfl, ?_⟩) (by assumption) ?_
 rotate_left
 ·intro w hSw; (try dsimp only at hSw); go_simp; (try with_reducible rfl)
 try simp only [Act.put]
 refine wpAnyL_take (i := 12) (v := ?_) rfl (by kernel_rfl) (by kernel_rfl) (by kernel_rfl) (by kernel_rfl) (fun _ _ _ h => h) (Or.inl ⟨by rfl, ?_⟩) (by assumption) ?_
 rotate_left
 ·intro w hSw; (try dsimp only at hSw); go_simp; (try with_reducible rfl)
 try simp only [Act.put]
 have hbd : Below w.heap.size w w.drew := below_drewN (Below.refl _ _) 1
 have hbA : Below w.heap.size w (w.drew.alloc (.cells #[.int .i64 (k : Int)] 3)) := hbd.alloc (Nat.le_refl _) _
 have hownA : (w.drew.alloc (.cells #[.int .i64 (k : Int)] 3)).ownsRow h0 3 1 (.slice px cx nx) xl.length (xl.map (Value.int .i64)) := World.ownsRow.alloc HO.out.drew _
 have hnw : Src (w.drew.alloc (.cells #[.int .i64 (k : Int)] 3)) (.slice (some ⟨w.heap.size, 0, none⟩) 1 1) 1 1 [.int .i64 (k : Int)] := .inr ⟨⟨w.heap.size, 0, none⟩, 1, rfl, rfl, one_cellF w.drew (.int .i64 (k : Int)) 3, fun z hz => by rw [List.mem_singleton.1 hz]; rfl⟩
 have hmx : xl.length + 1 ≤ maxLen := by unfold maxLen; omega
 have hby : (xl.length + 1) * 8 ≤ 140737488355328 := by omega
 have hsA : h0 ≤ (w.drew.alloc (.cells #[.int .i64 (k : Int)] 3)).heap.size := Nat.le_trans hh hbA.size
 refine wpAnyL_ready (rs := [9]) (by kernel_rfl) (by simp) ?_
 refine AllReadyL.cons rfl (fun K hK => ?_) AllReadyL.nil
 go_simp
 refine hK.out _ _ (cell_keepK hbA c1) (fun hHeld12 => ?_)
 clear hK K
 try simp only [Act.put, List.setIfInBounds_toArray, List.set_cons_zero, List.set_cons_succ]
 refine wpAnyL_ready (rs := [10]) (by kernel_rfl) (by simp) ?_
 refine AllReadyL.cons rfl (fun K hK => ?_) AllReadyL.nil
 refine step_append_src rfl _ _ 28 rfl h0 3 j0 (.int .i64 0) 1 8 Tryz.underlying28 hj hy0 hy1 hy2 rfl (by decide) (.slice px cx nx) xl.length (xl.map (Value.int .i64)) rfl hownA (.slice (some ⟨w.heap.size, 0, none⟩) 1 1) 1 [.int .i64 (k : Int)] rfl hnw hmx hby hsA ?_
 intro v8 w12 ho8 hg8 hat8
 obtain ⟨a8, m8, k8, rfl⟩ := owns_slice ho8
 have hne1 : some sb ≠ (Value.slice px cx nx).ownBlock := by
  intro e
  have h1 := HM.out.tf d _ HX.out sb e.symm
  have h2 := HM.out.tsb
  omega
 have hVA := (HM.out.var.go hbA).grown hg8 hne1
 have c12 : w12.cell? ⟨sb, 1 + d, none⟩ = some (.slice px cx nx) := by
  have h1 := (HM.out.go hbA).bucket HX.out
  exact (hg8.cell h1 hne1)
 have f12 : w12.frozen? ⟨sb, 1 + d, none⟩ = false := hVA.frozen _
 have hput := HM.out.put HX.out hbA (v' := .slice a8 m8 k8) (L := xl ++ [(k : Int)]) (by rw [List.length_append, List.map_append]; exact ho8) hg8 (by simpa using hat8)
 have HPUT : Hid (∃ tag', SM h0 sb g bs N (fs.set d (.slice a8 m8 k8, xl ++ [(k : Int)])) tv st tag' (w12.setCell ⟨sb, 1 + d, none⟩ (.slice a8 m8 k8)) ∧ ∀ j, j < w.heap.size → tag j = 11 → tag' j = 11 ∧ (w12.setCell ⟨sb, 1 + d, none⟩ (.slice a8 m8 k8)).heap[j]? = w.heap[j]?) := hput
 have HBF : Hid (Below h0 w (w12.setCell ⟨sb, 1 + d, none⟩ (.slice a8 m8 k8))) := ((hbA.mono hh).grown hg8 hsA (fun q hq => (hownA.lt q hq).1)).setCell (p := ⟨sb, 1 + d, none⟩) HL5.out _
 refine hK.out _ _ c12 (fun hHeld13 => ?_)
 clear hK K
 try simp only [Act.put, List.setIfInBounds_toArray]
 clear ho8 hg8 hat8 hput hownA hnw hbA hbd hHeld hHeld12 hVA
 refine wpAnyL_take (i := 13) (v := ?_) rfl (by kernel_rfl) (by kernel_rfl) (by kernel_rfl) (by kernel_rfl) (fun _ _ _ h => h) (Or.inl ⟨by rfl, ?_⟩) (by assumption) ?_
 rotate_left
 ·intro w hSw; (try dsimp only at hSw); go_simp; (try with_reducible rfl)
 try simp only [Act.put]
 refine wpAnyL_ready (rs := [14]) (by kernel_rfl) (by simp) ?_
 refine AllReadyL.last rfl (by kernel_rfl) (fun K hK => ?_)
 go_simp
 refine hK.out _ _ ?_
 clear hK K
 try simp only [Act.put, List.setIfInBounds_toArray, List.set_cons_zero, List.set_cons_succ]
 refine wpAnyL_done (by kernel_rfl) ?_ _
 clear hHeld13 c12 f12
 generalize w12.setCell ⟨sb, 1 + d, none⟩ (.slice a8 m8 k8) = w14 at *
 go_wp2
 refine bodyPost_end (results_none rfl _ _ _) rfl ?_
 refine ⟨rfl, ?_, HBF.out⟩
 obtain ⟨tag', hS', hk'⟩ := HPUT.out
 exact ⟨_, tag', by rw [List.map_set, HG.out], hS', hk'⟩
theorem file_sm (h0 sb k g : Nat) (bs : List (Option Nat)) (N : List (Option (List Int))) (fs : List (Value × List Int)) (tv : Value) (st : List StpM) (tag : Nat → Nat) (S : List Int) (hS : N[k]? = some (some S)) (w : World) (hM : SM h0 sb g bs N fs tv st tag w) (hh : h0 ≤ w.heap.size) (hF : ∀ L ∈ fs.map Prod.snd, L.length ≤ 1000000000) :
  Calls Tryz.prog 40 #[.pointer (some ⟨sb, 0, none⟩), .int .i64 (k : Int)] w fun e w' => e = .returned (.tuple #[]) ∧ (∃ (fs' : List (Value × List Int)) (tag' : Nat → Nat), fs'.map Prod.snd = fileF (fs.map Prod.snd) S.length (k : Int) ∧ SM h0 sb g bs N fs' tv st tag' w' ∧ ∀ j, j < w.heap.size → tag j = 11 → tag' j = 11 ∧ w'.heap[j]? = w.heap[j]?) ∧ Below h0 w w' := by
 by_cases h5 : S.length ≤ 5
 ·unfold fileF
  rw [if_pos h5]
  exact file_few h0 sb k g bs N fs tv st tag S hS h5 w hM hh hF
 ·unfold fileF
  rw [if_neg h5]
  refine (file_big sb g bs N k S hS (by omega) w hM.row hM.nm).mono ?_
  rintro e w' ⟨rfl, rfl⟩
  exact ⟨rfl, ⟨fs, tag, rfl, hM, fun j _ h => ⟨h, rfl⟩⟩, Below.refl _ _⟩
theorem file_any (h0 sb k : Nat) (N : List (Option (List Int))) (F : List (List Int)) (st : List StpM) (S : List Int) (hS : N[k]? = some (some S)) (w : World) (hX : SX h0 sb N F st w) (hh : h0 ≤ w.heap.size) (hF : ∀ L ∈ F, L.length ≤ 1000000000) :
  Calls Tryz.prog 40 #[.pointer (some ⟨sb, 0, none⟩), .int .i64 (k : Int)] w fun e w' => e = .returned (.tuple #[]) ∧ SX h0 sb N (fileF F S.length (k : Int)) st w' ∧ Below h0 w w' := by
 obtain ⟨g, bs, fs, tv, tag, rfl, hM⟩ := hX
 refine (file_sm h0 sb k g bs N fs tv st tag S hS w hM hh hF).mono ?_
 rintro e w' ⟨he, ⟨fs', tag', h1, h2, _⟩, h3⟩
 exact ⟨he, ⟨g, bs, fs', tv, tag', h1, h2⟩, h3⟩
end Go.Proofs.YtjpkojmjiaoifaaGreat
