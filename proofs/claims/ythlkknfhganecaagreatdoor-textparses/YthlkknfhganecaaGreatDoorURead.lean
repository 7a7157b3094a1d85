/-
  The contract of text.read.
-/
import Derived.Test.YthlkknfhganecaaGreatDoorUCatch
import Derived.Test.YthlkknfhganecaaGreatDoorGAppSrc
import Derived.Test.YthlkknfhganecaaGreatDoorGHeldL
namespace Go.Proofs.YthlkknfhganecaaGreatDoor
open Go Go.Proofs Go.RowKit

/-- The edges of m lines more; k lines have been taken. -/
def readEdges (n : Int) : Nat → ByteArray → Nat → List Ed → Except (Int × Nat) (List Ed × ByteArray × Nat)
  | 0, rest, k, acc => .ok (acc, rest, k)
  | m + 1, rest, k, acc => match edgeM n rest with
    | .error x => .error (x, k + 1)
    | .ok e => readEdges n m (lineR rest) (k + 1) (acc ++ [e])
def readTail (n : Int) : Except (Int × Nat) (List Ed × ByteArray × Nat) → Except (Int × Nat) (Int × List Ed)
  | .error p => .error p
  | .ok (es, rest, k) => if endM rest = true then .ok (n, es) else .error (3, k + 1)
def readM (text : ByteArray) : Except (Int × Nat) (Int × List Ed) := match headM text with
  | .error x => .error (x, 1)
  | .ok (n, m) => readTail n (readEdges n m.toNat (lineR text) 1 [])
theorem readEdges_err {n : Int} {m : Nat} {rest : ByteArray} {k : Nat} {acc : List Ed} {x : Int} (h : edgeM n rest = .error x) : readEdges n (m + 1) rest k acc = .error (x, k + 1) := by rw [readEdges, h]
theorem readEdges_ok {n : Int} {m : Nat} {rest : ByteArray} {k : Nat} {acc : List Ed} {e : Ed} (h : edgeM n rest = .ok e) : readEdges n (m + 1) rest k acc = readEdges n m (lineR rest) (k + 1) (acc ++ [e]) := by rw [readEdges, h]
/-- What read ends with. -/
def ReadP (r : Except (Int × Nat) (Int × List Ed)) (w : World) (e : Ending) (w' : World) : Prop :=
  Below w.heap.size w w' ∧ match r with
    | .ok (n, es) => ∃ sv, e = .returned (.tuple #[.int .i64 n, sv, .nilIface]) ∧ Edges w'.heap.size w' sv es
    | .error (x, k) => ∃ b, e = .returned (.tuple #[.int .i64 0, .slice none 0 0, .iface 81 (.pointer (some ⟨b, 0, none⟩))]) ∧ FB w' b lineB (k : Int) (.iface 22 (.int .i64 x))
theorem lineR_le (rest : ByteArray) : (lineR rest).size ≤ rest.size := by
  unfold lineR
  split
  · have h : (Lib.cut rest.data.toList [10]).2.1.length ≤ rest.data.toList.length := by
      unfold Lib.cut
      split
      · simp only [List.length_drop]; omega
      · simp
    rw [Array.length_toList] at h
    show (cutN rest).2.1.toArray.size ≤ rest.data.size
    rw [List.size_toArray]
    exact h
  · exact Nat.le_refl _
theorem head_ok {rest : ByteArray} {n m : Int} (h : headM rest = .ok (n, m)) : 0 ≤ n ∧ n ≤ 1048576 ∧ 0 ≤ m ∧ m ≤ 4194304 := by
  unfold headM at h
  split at h
  · cases h
  · unfold headL at h
    split at h
    · cases h
    · split at h
      · cases h
      · cases h
        omega
theorem head_err {rest : ByteArray} {x : Int} (h : headM rest = .error x) : x ≠ 0 := by
  unfold headM at h
  split at h
  · cases h; decide
  · unfold headL at h
    split at h
    · cases h; decide
    · split at h
      · cases h; decide
      · cases h
theorem edge_err {n : Int} {rest : ByteArray} {x : Int} (h : edgeM n rest = .error x) : x ≠ 0 := by
  unfold edgeM at h
  split at h
  · cases h; decide
  · unfold edgeL at h
    split at h
    · cases h
    · cases h; assumption
/-- What read has laid: its results, its reader, its reader's variable. -/
structure RdI (w : World) (n : Int) (sv : Value) (rest : ByteArray) (k : Nat) (W : World) : Prop where
  nb : Blk 3 W w.heap.size [.int .i64 n]
  eb : Blk 28 W (w.heap.size + 1) [sv]
  vb : Blk 32 W (w.heap.size + 2) [.nilIface]
  rb : RB W (w.heap.size + 3) rest k
  lb : Blk 85 W (w.heap.size + 4) [.pointer (some ⟨w.heap.size + 3, 0, none⟩)]
  bel : Below w.heap.size w W
theorem RdI.go {w : World} {n : Int} {sv : Value} {rest : ByteArray} {k : Nat} {A B : World} (h : RdI w n sv rest k A) (hb : Below A.heap.size A B) : RdI w n sv rest k B :=
  ⟨h.nb.go hb, h.eb.go hb, h.vb.go hb, Blk.go h.rb hb, h.lb.go hb, h.bel.trans (hb.mono h.bel.size)⟩
theorem RdI.meth {w : World} {n : Int} {sv : Value} {rest rest' : ByteArray} {k k' : Nat} {A B : World} (h : RdI w n sv rest k A) (hr : RB B (w.heap.size + 3) rest' k') (hg : A.grownBy B (some (w.heap.size + 3))) : RdI w n sv rest' k' B :=
  ⟨h.nb.grown2 hg (by simp), h.eb.grown2 hg (by simp), h.vb.grown2 hg (by simp), hr, h.lb.grown2 hg (by simp), ⟨hg.os.trans h.bel.os, hg.tape.trans h.bel.tape, hg.output.trans h.bel.output, Nat.le_trans h.bel.size hg.size, fun j hj => (hg.block j (Nat.lt_of_lt_of_le hj h.bel.size) (by simp only [ne_eq, Option.some.injEq]; omega)).trans (h.bel.block j hj)⟩⟩
theorem RdI.setN {w : World} {n : Int} {sv : Value} {rest : ByteArray} {k : Nat} {A : World} (h : RdI w n sv rest k A) (n' : Int) : RdI w n' sv rest k (A.setCell ⟨w.heap.size, 0, none⟩ (.int .i64 n')) :=
  ⟨h.nb.set 0 _, h.eb.other (by simp) _, h.vb.other (by simp) _, Blk.other h.rb (by simp) _, h.lb.other (by simp) _, h.bel.setCell (Nat.le_refl _) _⟩
theorem RdI.setV {w : World} {n : Int} {sv : Value} {rest : ByteArray} {k : Nat} {A : World} (h : RdI w n sv rest k A) (v : Value) (hv : v = .nilIface := by rfl) : RdI w n sv rest k (A.setCell ⟨w.heap.size + 2, 0, none⟩ v) := by
  subst hv
  exact ⟨h.nb.other (by simp) _, h.eb.other (by simp) _, h.vb.set 0 _, Blk.other h.rb (by simp) _, h.lb.other (by simp) _, h.bel.setCell (by simp) _⟩
theorem RdI.setE {w : World} {n : Int} {sv : Value} {rest : ByteArray} {k : Nat} {A : World} (h : RdI w n sv rest k A) (sv' : Value) : RdI w n sv' rest k (A.setCell ⟨w.heap.size + 1, 0, none⟩ sv') :=
  ⟨h.nb.other (by simp) _, h.eb.set 0 _, h.vb.other (by simp) _, Blk.other h.rb (by simp) _, h.lb.other (by simp) _, h.bel.setCell (by simp) _⟩

theorem owns_setN {W : World} {base : Nat} {e : TypeId} {size : Nat} {v : Value} {n : Nat} {xs : List Value} (h : W.ownsRow base e size v n xs) {p : Addr} (hp : p.block < base) (u : Value) : (W.setCell p u).ownsRow base e size v n xs := by
  obtain ⟨h1, h2⟩ := h
  refine ⟨h1, ?_⟩
  rcases h2 with h2 | ⟨g, cap, cur, hv, hb, hg, r⟩
  · exact .inl h2
  · exact .inr ⟨g, cap, cur, hv, hb, (Below.heap_setCell _ _ _ _ (by omega)).trans hg, r⟩
theorem RdI.grown {w : World} {n : Int} {sv : Value} {rest : ByteArray} {k : Nat} {A B : World} {r : Option Nat} (h : RdI w n sv rest k A) (hg : A.grownBy B r) (hr : ∀ j, r = some j → w.heap.size + 5 ≤ j) : RdI w n sv rest k B := by
  have hne : ∀ j, j < w.heap.size + 5 → some j ≠ r := fun j hj e => by have := hr j e.symm; omega
  exact ⟨h.nb.grown2 hg (hne _ (by omega)), h.eb.grown2 hg (hne _ (by omega)), h.vb.grown2 hg (hne _ (by omega)), Blk.grown2 h.rb hg (hne _ (by omega)), h.lb.grown2 hg (hne _ (by omega)), ⟨hg.os.trans h.bel.os, hg.tape.trans h.bel.tape, hg.output.trans h.bel.output, Nat.le_trans h.bel.size hg.size, fun j hj => (hg.block j (Nat.lt_of_lt_of_le hj h.bel.size) (hne _ (by omega))).trans (h.bel.block j hj)⟩⟩
theorem owns_go {w w' : World} {base : Nat} {e : TypeId} {size : Nat} {v : Value} {n : Nat} {xs : List Value} (h : w.ownsRow base e size v n xs) (hb : Below w.heap.size w w') : w'.ownsRow base e size v n xs := by
  refine h.kept (row := none) (⟨hb.os, hb.tape, hb.output, hb.size, fun k hk _ => hb.block k hk⟩ : w.grownBy w' none) ?_
  cases v.ownBlock with
  | none => exact .inl rfl
  | some k => exact .inr (by simp)
theorem one_news {W : World} (e : Ed) : Src (W.alloc (.cells #[.int .i64 e.1, .int .i64 e.2.1, .int .i64 e.2.2] 50)) (.slice (some ⟨W.heap.size, 0, none⟩) 1 1) 1 3 (flat [e]) := by
  have hB : Blk 50 (W.alloc (.cells #[.int .i64 e.1, .int .i64 e.2.1, .int .i64 e.2.2] 50)) W.heap.size [.int .i64 e.1, .int .i64 e.2.1, .int .i64 e.2.2] := heap_alloc_new W _
  refine .inr ⟨⟨W.heap.size, 0, none⟩, 1, rfl, flat_len _, fun j u hu => ?_, fun u hu => ?_⟩
  · rw [Go.WideShapes.add_plain, Nat.zero_add]
    exact hB.cell hu
  · simp [flat, encE] at hu
    rcases hu with rfl | rfl | rfl <;> rfl
theorem edges_of_owns {W : World} {base : Nat} {e : TypeId} {v : Value} {l : List Ed} (h : W.ownsRow base e 3 v l.length (flat l)) : Edges W.heap.size W v l := by
  rcases h.2 with ⟨rfl, h0⟩ | ⟨g, cap, cur, rfl, hb, hg, hn, hc⟩
  · exact .inl ⟨⟨_, _, rfl⟩, List.eq_nil_of_length_eq_zero h0⟩
  · refine .inr ⟨g, 0, cap, rfl, (Array.getElem?_eq_some_iff.1 hg).1, hn, fun j x hx => ?_⟩
    obtain ⟨k0, k1, k2⟩ := flat_at hx
    have c0 := h.cells (g := g) rfl (j * 3) _ k0
    have c1 := h.cells (g := g) rfl (j * 3 + 1) _ k1
    have c2 := h.cells (g := g) rfl (j * 3 + 2) _ k2
    rw [Go.WideShapes.add_plain] at c0 c1 c2
    exact ⟨c0, c1, c2⟩
theorem keepR_one {W : World} {a p : Addr} {x v : Value} (h : W.cell? a = some x) (h1 : v = x ∨ p.block ≠ a.block) : (W.setCell p v).cell? a = some x := by
  by_cases hp : p = a
  · subst hp
    rcases h1 with rfl | h1
    · exact World.cell?_setCell_same' W p v (by simp [h])
    · exact absurd rfl h1
  · exact (World.cell?_setCell_other _ _ _ _ hp).trans h
theorem keepR_set {W : World} {a b p : Addr} {x y v : Value} (h : W.cell? a = some x ∧ W.cell? b = some y) (h1 : v = x ∨ p.block ≠ a.block) (h2 : v = y ∨ p.block ≠ b.block) : (W.setCell p v).cell? a = some x ∧ (W.setCell p v).cell? b = some y := ⟨keepR_one h.1 h1, keepR_one h.2 h2⟩
theorem owns_form2 {W : World} {base : Nat} {e : TypeId} {size : Nat} {v : Value} {n : Nat} {xs : List Value} (h : W.ownsRow base e size v n xs) : ∃ p c, v = .slice p n c := by
  rcases h.2 with ⟨rfl, rfl⟩ | ⟨g, cap, cur, rfl, _⟩ <;> exact ⟨_, _, rfl⟩
theorem ret_read {fn : Func} (h : fn.results = #[.cell 2 3, .cell 3 28, .cell 4 32]) {tmps : Array Value} {W : World} {a b c : Nat} {x y z : Value} (h2 : tmps.getD 2 undef = .pointer (some ⟨a, 0, none⟩)) (h3 : tmps.getD 3 undef = .pointer (some ⟨b, 0, none⟩)) (h4 : tmps.getD 4 undef = .pointer (some ⟨c, 0, none⟩))
    (c2 : W.cell? ⟨a, 0, none⟩ = some x) (c3 : W.cell? ⟨b, 0, none⟩ = some y) (c4 : W.cell? ⟨c, 0, none⟩ = some z) : (results fn tmps).run Tryz.prog W = .ok (.tuple #[x, y, z]) W := by
  have a1 := Tryz.isAgg3
  have a2 := Tryz.isAgg28
  have a3 := Tryz.isAgg32
  rw [Array.getD_eq_getD_getElem?] at h2 h3 h4
  simp only [results, h]
  simp [Sem.run_bind, Result.andThen, h2, h3, h4]
  go_simp
def readD (w : World) : Deferred := { target := .fn (.func 44) #[.pointer (some ⟨w.heap.size + 4, 0, none⟩), .pointer (some ⟨w.heap.size, 0, none⟩), .pointer (some ⟨w.heap.size + 1, 0, none⟩), .pointer (some ⟨w.heap.size + 2, 0, none⟩)], args := #[] }
/-- A kind that goes through the door becomes an error. -/
theorem read_caught {w : World} {n : Int} {sv : Value} {rest : ByteArray} {k : Nat} {W : World} (hI : RdI w n sv rest k W) {x : Int} (hx : x ≠ 0) {r : Except (Int × Nat) (Int × List Ed)} (hr : r = .error (x, k)) {tmps : Array Value} (h2 : tmps.getD 2 undef = .pointer (some ⟨w.heap.size, 0, none⟩)) (h3 : tmps.getD 3 undef = .pointer (some ⟨w.heap.size + 1, 0, none⟩)) (h4 : tmps.getD 4 undef = .pointer (some ⟨w.heap.size + 2, 0, none⟩)) :
    Leaves Tryz.prog Tryz.f23 tmps (ReadP r w) [readD w] (.panicking [{ v := .iface 22 (.int .i64 x), recovered := false }]) W := by
  refine leaves_cons (f := 44) (args := #[.pointer (some ⟨w.heap.size + 4, 0, none⟩), .pointer (some ⟨w.heap.size, 0, none⟩), .pointer (some ⟨w.heap.size + 1, 0, none⟩), .pointer (some ⟨w.heap.size + 2, 0, none⟩)]) (by simp) (by simp [go_sem]) ?_
  refine (catch_kind x hx (w.heap.size + 4) w.heap.size (w.heap.size + 1) (w.heap.size + 3) (w.heap.size + 2) rest k n sv .nilIface W hI.lb hI.nb hI.eb hI.vb hI.rb (by omega)).mono ?_
  rintro e u' W' ⟨rfl, rfl, b, hF, hb, hn, he, hv, hkeep, hsz, ho1, ho2, ho3⟩
  show Leaves Tryz.prog Tryz.f23 tmps (ReadP r w) [] .returning W'
  refine ⟨_, ret_read rfl h2 h3 h4 (hn.cell (j := 0) rfl) (he.cell (j := 0) rfl) (hv.cell (j := 0) rfl), ⟨ho1.trans hI.bel.os, ho2.trans hI.bel.tape, ho3.trans hI.bel.output, Nat.le_trans hI.bel.size hsz, fun j hj => (hkeep j (Nat.lt_of_lt_of_le hj hI.bel.size) (by omega) (by omega) (by omega)).trans (hI.bel.block j hj)⟩, ?_⟩
  subst hr
  exact ⟨b, rfl, hF⟩
theorem read_start (w : World) (text : ByteArray) : RdI w 0 (.slice none 0 0) text 0 (((((w.alloc (.cells #[.int .i64 0] 3)).alloc (.cells #[.slice none 0 0] 28)).alloc (.cells #[.nilIface] 32)).alloc (.cells #[.string text, .int .i64 0] 87)).alloc (.cells #[.pointer (some ⟨w.heap.size + 3, 0, none⟩)] 85)) := by
  have hg : ∀ (A : World) (o : Obj), Below A.heap.size A (A.alloc o) := fun A o => (Below.refl _ _).alloc (Nat.le_refl _) o
  have b0 : Blk 3 (w.alloc (.cells #[.int .i64 0] 3)) w.heap.size [.int .i64 0] := heap_alloc_new w _
  have b1 := heap_alloc_new (w.alloc (.cells #[.int .i64 0] 3)) (.cells #[.slice none 0 0] 28)
  have b2 := heap_alloc_new ((w.alloc (.cells #[.int .i64 0] 3)).alloc (.cells #[.slice none 0 0] 28)) (.cells #[.nilIface] 32)
  have b3 := heap_alloc_new (((w.alloc (.cells #[.int .i64 0] 3)).alloc (.cells #[.slice none 0 0] 28)).alloc (.cells #[.nilIface] 32)) (.cells #[.string text, .int .i64 0] 87)
  have b4 := heap_alloc_new ((((w.alloc (.cells #[.int .i64 0] 3)).alloc (.cells #[.slice none 0 0] 28)).alloc (.cells #[.nilIface] 32)).alloc (.cells #[.string text, .int .i64 0] 87)) (.cells #[.pointer (some ⟨w.heap.size + 3, 0, none⟩)] 85)
  simp only [World.size_alloc] at b1 b2 b3 b4
  have c1 : Blk 28 _ (w.heap.size + 1) [.slice none 0 0] := b1
  have c2 : Blk 32 _ (w.heap.size + 2) [.nilIface] := b2
  have c3 : RB _ (w.heap.size + 3) text 0 := b3
  exact ⟨(((b0.go (hg _ _)).go (hg _ _)).go (hg _ _)).go (hg _ _), ((c1.go (hg _ _)).go (hg _ _)).go (hg _ _), (c2.go (hg _ _)).go (hg _ _), Blk.go c3 (hg _ _), b4, ((((Below.refl _ w).alloc (Nat.le_refl _) _).alloc (by simp) _).alloc (by simp; omega) _).alloc (by simp; omega) _ |>.alloc (by simp; omega) _⟩

set_option maxRecDepth 100000 in
set_option maxHeartbeats 4000000 in
theorem read_any (text : ByteArray) (hs : text.size ≤ 134217728) (w : World) (hE : Env w) :
    Calls Tryz.prog 23 #[.string text] w (ReadP (readM text) w) := by
  have hmf' := hmf
  have hmix := mixed
  have hI0 := read_start w text
  have hrb : 9 ≤ w.heap.size + 3 := by have := hE.all; omega
  have hE0 := hE.below hE.all hI0.bel
  have hhd := head_any (w.heap.size + 3) text 0 (by omega) (by omega) _ hE0 hrb hI0.rb
  have HM : Hid (readM text = match headM text with | .error x => .error (x, 1) | .ok (n, m) => readTail n (readEdges n m.toNat (lineR text) 1 [])) := rfl
  unfold MethP at hhd
  go_enter_defers Tryz.func23, Tryz.ntmps23
  go_wp2_with fail
  refine hhd.mono ?_
  rintro e w2 ⟨hR2, hg2, he2⟩
  have hI2 := hI0.meth hR2 hg2
  have hE2 := hE0.of_grown hrb hg2
  clear hhd hI0 hE0 hR2 hg2
  cases hh : headM text with
  | error x =>
    rw [hh] at he2
    have hx := head_err hh
    obtain rfl : e = kindP x := he2
    have HX : Hid (readM text = .error (x, 1)) := by rw [Hid, HM.out, hh]
    exact read_caught hI2 hx HX.out rfl rfl rfl
  | ok p =>
    obtain ⟨n, m⟩ := p
    rw [hh] at he2
    obtain rfl : e = .returned (.tuple #[.int .i64 n, .int .i64 m]) := he2
    obtain ⟨hn0, hn1, hm0, hm1⟩ := head_ok hh
    have HX : Hid (readM text = readTail n (readEdges n m.toNat (lineR text) 1 [])) := by rw [Hid, HM.out, hh]
    clear HM hh
    obtain ⟨M, rfl⟩ : ∃ M : Nat, m = (M : Int) := ⟨m.toNat, by omega⟩
    rw [Int.toNat_natCast] at HX
    have hI3 := hI2.setN n
    have hl0 := hI2.lb.cell (j := 0) rfl
    have hr0 := Blk.cell hI3.rb (j := 0) rfl
    have hl3 : (w2.setCell ⟨w.heap.size, 0, none⟩ (.int .i64 n)).cell? ⟨w.heap.size + 1 + 1 + 1 + 1, 0, none⟩ = some (.pointer (some ⟨w.heap.size + 1 + 1 + 1, 0, none⟩)) := hI3.lb.cell (j := 0) rfl
    have hr3 : (w2.setCell ⟨w.heap.size, 0, none⟩ (.int .i64 n)).cell? ⟨w.heap.size + 1 + 1 + 1, 0, none⟩ = some (.string (lineR text)) := hr0
    have hn2 := hI2.nb.cell (j := 0) rfl
    have fn2 := hI2.nb.frozen 0
    have hsz := lineR_le text
    obtain ⟨i0, hi, hz0, hz1, hz2⟩ := info_parts infoE
    clear hl0 hr0
    have hcm : min (M : Int) (((lineR text).size : Int) / 11) = ((min M ((lineR text).size / 11) : Nat) : Int) := by omega
    have hcap : min M ((lineR text).size / 11) ≤ 4194304 := by omega
    go_wp2_with (at_make; refine wpList_make_own _ rfl _ _ 28 rfl (w.heap.size + 5) 50 i0 (.agg #[.int .i64 0, .int .i64 0, .int .i64 0]) 3 Tryz.underlying28 hi hz0 hz1 .i64 .i64 _ (min M ((lineR text).size / 11)) rfl rfl (by first | rfl | exact hcm) (by rw [hz2]; omega) (by unfold maxLen; omega) (by have := Blk.lt hI3.lb; omega) ?_; intro w4 hown4 hgrow4; have hb4 : Below (w2.setCell ⟨w.heap.size, 0, none⟩ (.int .i64 n)).heap.size (w2.setCell ⟨w.heap.size, 0, none⟩ (.int .i64 n)) w4 := (Below.refl _ _).grown hgrow4 (Nat.le_refl _) (fun k e => by cases e); have hI4 := hI3.go hb4; have he4 := hI4.eb.cell (j := 0) rfl; have fe4 := hI4.eb.frozen 0)
    have hI5 := hI4.setE (.slice (some ⟨(w2.setCell ⟨w.heap.size, 0, none⟩ (.int .i64 n)).heap.size, 0, none⟩) 0 (min M ((lineR text).size / 11)))
    have ho5 := owns_setN hown4 (p := ⟨w.heap.size + 1, 0, none⟩) (by simp only; omega) (.slice (some ⟨(w2.setCell ⟨w.heap.size, 0, none⟩ (.int .i64 n)).heap.size, 0, none⟩) 0 (min M ((lineR text).size / 11)))
    simp only [World.size_setCell] at hI5 ho5
    have hE5 : Env _ := hE.below hE.all hI5.bel
    generalize hw5 : w4.setCell ⟨w.heap.size + 1, 0, none⟩ (.slice (some ⟨w2.heap.size, 0, none⟩) 0 (min M ((lineR text).size / 11))) = w5 at hI5 ho5 hE5 ⊢
    clear hw5 he4 fe4 hI4 hb4 hgrow4 hown4 hI3 hl3 hr3 hn2 fn2 hI2 hE2
    go_loopw [26] (fun iv wr => ∃ (i : Nat) (acc : List Ed) (sv : Value) (rest : ByteArray), i ≤ M ∧ iv = .int .i64 i ∧ RdI w n sv rest (1 + i) wr ∧ wr.ownsRow (w.heap.size + 5) 50 3 sv acc.length (flat acc) ∧ Hid (readEdges n (M - i) rest (1 + i) acc = readEdges n M (lineR text) 1 []) ∧ rest.size ≤ text.size ∧ acc.length = i) (fun iv _ => M - (intOf iv).toNat)
    case atStart => exact ⟨0, [], _, lineR text, Nat.zero_le _, rfl, hI5, ho5, rfl, hsz, rfl⟩
    case round =>
      obtain ⟨i, acc, sv, rest, hiM, rfl, hI, hown, HR, hrs, hal⟩ := hrel
      subst hal
      clear hI5 ho5 hE5
      have hEr : Env wr := hE.below hE.all hI.bel
      have l0 : wr.cell? ⟨w.heap.size + 1 + 1 + 1 + 1, 0, none⟩ = some (.pointer (some ⟨w.heap.size + 1 + 1 + 1, 0, none⟩)) := hI.lb.cell (j := 0) rfl
      have n0 := hI.nb.cell (j := 0) rfl
      have e0 := hI.eb.cell (j := 0) rfl
      by_cases hlt : acc.length < M
      · have hli : (acc.length : Int) < (M : Int) := by omega
        obtain ⟨R, hR⟩ : ∃ R, M - acc.length = R + 1 := ⟨M - acc.length - 1, by omega⟩
        have hec := edge_any n hn0 hn1 (w.heap.size + 3) rest (1 + acc.length) (by omega) (by omega) wr.drew (hEr.go (below_drewN (Below.refl _ wr) 1)) hrb hI.rb
        unfold MethP at hec
        obtain ⟨psv, csv, rfl⟩ := owns_form2 hown
        cases hed : edgeM n rest with
        | error x =>
          rw [hed] at hec
          have hx := edge_err hed
          have HXE : Hid (readM text = .error (x, 1 + acc.length + 1)) := by
            have h1 := HR.out
            rw [hR, readEdges_err hed] at h1
            rw [Hid, HX.out, ← h1]
            rfl
          clear HR hed hown
          have hId : RdI w n (.slice psv acc.length csv) rest (1 + acc.length) wr.drew := hI.go (below_drewN (Below.refl _ wr) 1)
          go_wp2
          refine wp_region_last (S := fun _ => True) hmix trivial (fun _ => ?_)
          refine wpAnyL_ready (rs := [0, 1, 2]) (by kernel_rfl) (by simp) ?_
          refine AllReadyL.cons rfl (fun K hK => ?_) (AllReadyL.cons rfl (fun K hK => ?_) (AllReadyL.cons rfl (fun K hK => ?_) AllReadyL.nil))
          · go_simp
            refine hK.out _ _ trivial (fun _ => ?_)
            clear hK K
            refine wpAnyL_ready (rs := [1, 2]) (by kernel_rfl) (by simp) ?_
            refine AllReadyL.cons rfl (fun K hK => ?_) (AllReadyL.cons rfl (fun K hK => ?_) AllReadyL.nil)
            · go_simp
              refine hK.out _ _ trivial (fun _ => ?_)
              clear hK K
              refine wpAnyL_ready (rs := [2]) (by kernel_rfl) (by simp) ?_
              refine AllReadyL.cons rfl (fun K hK => ?_) AllReadyL.nil
              · go_simp
                refine hK.out _ _ trivial (fun _ => ?_)
                clear hK K
                refine wpAnyL_ready (rs := [3]) (by kernel_rfl) (by simp) ?_
                refine AllReadyL.cons rfl (fun K hK => ?_) AllReadyL.nil
                · go_simp
                  refine hec.mono ?_
                  rintro e w7 ⟨hR7, hg7, he7⟩
                  obtain rfl : e = kindP x := he7
                  exact read_caught (hId.meth hR7 hg7) hx HXE.out rfl rfl rfl
            · go_simp
              refine hK.out _ _ trivial (fun _ => ?_)
              clear hK K
              refine wpAnyL_ready (rs := [1]) (by kernel_rfl) (by simp) ?_
              refine AllReadyL.cons rfl (fun K hK => ?_) AllReadyL.nil
              · go_simp
                refine hK.out _ _ trivial (fun _ => ?_)
                clear hK K
                refine wpAnyL_ready (rs := [3]) (by kernel_rfl) (by simp) ?_
                refine AllReadyL.cons rfl (fun K hK => ?_) AllReadyL.nil
                · go_simp
                  refine hec.mono ?_
                  rintro e w7 ⟨hR7, hg7, he7⟩
                  obtain rfl : e = kindP x := he7
                  exact read_caught (hId.meth hR7 hg7) hx HXE.out rfl rfl rfl
          · go_simp
            refine hK.out _ _ trivial (fun _ => ?_)
            clear hK K
            refine wpAnyL_ready (rs := [0, 2]) (by kernel_rfl) (by simp) ?_
            refine AllReadyL.cons rfl (fun K hK => ?_) (AllReadyL.cons rfl (fun K hK => ?_) AllReadyL.nil)
            · go_simp
              refine hK.out _ _ trivial (fun _ => ?_)
              clear hK K
              refine wpAnyL_ready (rs := [2]) (by kernel_rfl) (by simp) ?_
              refine AllReadyL.cons rfl (fun K hK => ?_) AllReadyL.nil
              · go_simp
                refine hK.out _ _ trivial (fun _ => ?_)
                clear hK K
                refine wpAnyL_ready (rs := [3]) (by kernel_rfl) (by simp) ?_
                refine AllReadyL.cons rfl (fun K hK => ?_) AllReadyL.nil
                · go_simp
                  refine hec.mono ?_
                  rintro e w7 ⟨hR7, hg7, he7⟩
                  obtain rfl : e = kindP x := he7
                  exact read_caught (hId.meth hR7 hg7) hx HXE.out rfl rfl rfl
            · go_simp
              refine hK.out _ _ trivial (fun _ => ?_)
              clear hK K
              refine wpAnyL_ready (rs := [0, 3]) (by kernel_rfl) (by simp) ?_
              refine AllReadyL.cons rfl (fun K hK => ?_) (AllReadyL.cons rfl (fun K hK => ?_) AllReadyL.nil)
              · go_simp
                refine hK.out _ _ trivial (fun _ => ?_)
                clear hK K
                refine wpAnyL_ready (rs := [3]) (by kernel_rfl) (by simp) ?_
                refine AllReadyL.cons rfl (fun K hK => ?_) AllReadyL.nil
                · go_simp
                  refine hec.mono ?_
                  rintro e w7 ⟨hR7, hg7, he7⟩
                  obtain rfl : e = kindP x := he7
                  exact read_caught (hId.meth hR7 hg7) hx HXE.out rfl rfl rfl
              · go_simp
                refine hec.mono ?_
                rintro e w7 ⟨hR7, hg7, he7⟩
                obtain rfl : e = kindP x := he7
                exact read_caught (hId.meth hR7 hg7) hx HXE.out rfl rfl rfl
          · go_simp
            refine hK.out _ _ trivial (fun _ => ?_)
            clear hK K
            refine wpAnyL_ready (rs := [0, 1]) (by kernel_rfl) (by simp) ?_
            refine AllReadyL.cons rfl (fun K hK => ?_) (AllReadyL.cons rfl (fun K hK => ?_) AllReadyL.nil)
            · go_simp
              refine hK.out _ _ trivial (fun _ => ?_)
              clear hK K
              refine wpAnyL_ready (rs := [1]) (by kernel_rfl) (by simp) ?_
              refine AllReadyL.cons rfl (fun K hK => ?_) AllReadyL.nil
              · go_simp
                refine hK.out _ _ trivial (fun _ => ?_)
                clear hK K
                refine wpAnyL_ready (rs := [3]) (by kernel_rfl) (by simp) ?_
                refine AllReadyL.cons rfl (fun K hK => ?_) AllReadyL.nil
                · go_simp
                  refine hec.mono ?_
                  rintro e w7 ⟨hR7, hg7, he7⟩
                  obtain rfl : e = kindP x := he7
                  exact read_caught (hId.meth hR7 hg7) hx HXE.out rfl rfl rfl
            · go_simp
              refine hK.out _ _ trivial (fun _ => ?_)
              clear hK K
              refine wpAnyL_ready (rs := [0, 3]) (by kernel_rfl) (by simp) ?_
              refine AllReadyL.cons rfl (fun K hK => ?_) (AllReadyL.cons rfl (fun K hK => ?_) AllReadyL.nil)
              · go_simp
                refine hK.out _ _ trivial (fun _ => ?_)
                clear hK K
                refine wpAnyL_ready (rs := [3]) (by kernel_rfl) (by simp) ?_
                refine AllReadyL.cons rfl (fun K hK => ?_) AllReadyL.nil
                · go_simp
                  refine hec.mono ?_
                  rintro e w7 ⟨hR7, hg7, he7⟩
                  obtain rfl : e = kindP x := he7
                  exact read_caught (hId.meth hR7 hg7) hx HXE.out rfl rfl rfl
              · go_simp
                refine hec.mono ?_
                rintro e w7 ⟨hR7, hg7, he7⟩
                obtain rfl : e = kindP x := he7
                exact read_caught (hId.meth hR7 hg7) hx HXE.out rfl rfl rfl
        | ok e =>
          rw [hed] at hec
          have HRN : Hid (readEdges n R (lineR rest) (1 + (acc.length + 1)) (acc ++ [e]) = readEdges n M (lineR text) 1 []) := by
            have h1 := HR.out
            rw [hR, readEdges_ok hed] at h1
            exact h1
          have hId : RdI w n (.slice psv acc.length csv) rest (1 + acc.length) wr.drew := hI.go (below_drewN (Below.refl _ wr) 1)
          have hod := owns_go hown (below_drewN (Below.refl _ wr) 1)
          have hlow : ∀ j, (Value.slice psv acc.length csv).ownBlock = some j → w.heap.size + 5 ≤ j := fun j hj => (hown.lt j hj).1
          have hls := lineR_le rest
          clear HR hed hown
          go_wp2
          refine wp_cutN _ ?_ (fun _ _ h => h)
          refine wp_region_last (S := fun w' => w'.cell? ⟨w.heap.size + 1, 0, none⟩ = some (.slice psv acc.length csv) ∧ w'.cell? ⟨w.heap.size + 1 + 1 + 1 + 1, 0, none⟩ = some (.pointer (some ⟨w.heap.size + 1 + 1 + 1, 0, none⟩)) ∧ w'.cell? ⟨w.heap.size, 0, none⟩ = some (.int .i64 n)) hmix ⟨e0, l0, n0⟩ (fun hHeld => ?_)
          refine wpAnyL_take (i := 0) (v := ?_) rfl (by kernel_rfl) (by kernel_rfl) (by kernel_rfl) (by kernel_rfl) (fun _ _ _ h => h) (Or.inl ⟨by rfl, ?_⟩) (by assumption) ?_
          rotate_left
          · intro w hSw; (try dsimp only at hSw); go_simp; (try with_reducible rfl)
          refine wpAnyL_take (i := 1) (v := ?_) rfl (by kernel_rfl) (by kernel_rfl) (by kernel_rfl) (by kernel_rfl) (fun _ _ _ h => h) (Or.inl ⟨by rfl, ?_⟩) (by assumption) ?_
          rotate_left
          · intro w hSw; (try dsimp only at hSw); go_simp; (try with_reducible rfl)
          refine wpAnyL_take (i := 2) (v := ?_) rfl (by kernel_rfl) (by kernel_rfl) (by kernel_rfl) (by kernel_rfl) (fun _ _ _ h => h) (Or.inl ⟨by rfl, ?_⟩) (by assumption) ?_
          rotate_left
          · intro w hSw; (try dsimp only at hSw); go_simp; (try with_reducible rfl)
          refine wpAnyL_ready (rs := [3]) (by kernel_rfl) (by simp) ?_
          refine AllReadyL.cons rfl (fun K hK => ?_) AllReadyL.nil
          go_simp
          refine hec.mono ?_
          rintro e' w7 ⟨hR7, hg7, he7⟩
          obtain rfl : e' = .returned (.agg #[.int .i64 e.1, .int .i64 e.2.1, .int .i64 e.2.2]) := he7
          have hI7 := hId.meth hR7 hg7
          have ho7 := hod.kept hg7 (by
            cases hk : (Value.slice psv acc.length csv).ownBlock with
            | none => exact .inl rfl
            | some j => exact .inr (by have := hlow j hk; simp only [ne_eq, Option.some.injEq]; omega))
          have hb8 : Below w7.heap.size w7 (w7.alloc (.cells #[.int .i64 e.1, .int .i64 e.2.1, .int .i64 e.2.2] 50)) := (Below.refl _ _).alloc (Nat.le_refl _) _
          have hI8 := hI7.go hb8
          have ho8 := owns_go ho7 hb8
          go_simp
          refine hK.out _ _ ?_ (fun hHeld => ?_)
          · exact ⟨hI7.eb.cell (j := 0) rfl, hI7.lb.cell (j := 0) rfl, hI7.nb.cell (j := 0) rfl⟩
          clear hK K
          refine wpAnyL_ready (rs := [4]) (by kernel_rfl) (by simp) ?_
          refine AllReadyL.cons rfl (fun K hK => ?_) AllReadyL.nil
          go_simp
          refine hK.out _ _ ?_ (fun hHeld => ?_)
          · exact ⟨hI8.eb.cell (j := 0) rfl, hI8.lb.cell (j := 0) rfl, hI8.nb.cell (j := 0) rfl⟩
          clear hK K
          refine wpAnyL_ready (rs := [5]) (by kernel_rfl) (by simp) ?_
          refine AllReadyL.cons rfl (fun K hK => ?_) AllReadyL.nil
          refine step_append_src rfl _ _ 28 rfl (w.heap.size + 5) 50 i0 (.agg #[.int .i64 0, .int .i64 0, .int .i64 0]) 3 24 Tryz.underlying28 hi hz0 hz1 hz2 (by simp [Value.cells]) (by decide) (.slice psv acc.length csv) acc.length (flat acc) rfl ho8 (.slice (some ⟨w7.heap.size, 0, none⟩) 1 1) 1 (flat [e]) rfl (one_news e) (by unfold maxLen; omega) (by omega) (by have := Blk.lt hI8.lb; omega) ?_
          intro v9 w9 ho9 hg9 hat9
          obtain ⟨p9, c9, rfl⟩ := owns_form2 ho9
          have hI9 := hI8.grown hg9 hlow
          have e9 := hI9.eb.cell (j := 0) rfl
          have f9 := hI9.eb.frozen 0
          have hI10 := hI9.setE (.slice p9 (acc.length + 1) c9)
          have ho10 := owns_setN ho9 (p := ⟨w.heap.size + 1, 0, none⟩) (by simp only; omega) (.slice p9 (acc.length + 1) c9)
          rw [← show flat (acc ++ [e]) = flat acc ++ flat [e] by simp [flat]] at ho10
          refine hK.out _ _ ?_ (fun hHeld => ?_)
          · exact ⟨e9, hI9.lb.cell (j := 0) rfl, hI9.nb.cell (j := 0) rfl⟩
          clear hK K
          refine wpAnyL_ready (rs := [6]) (by kernel_rfl) (by simp) ?_
          refine AllReadyL.last rfl (by kernel_rfl) (fun K hK => ?_)
          go_simp
          refine hK.out _ _ ?_
          clear hK K
          refine wpAnyL_done (by kernel_rfl) ?_ _
          simp only [onlyN]
          go_wp2
          exact ⟨⟨acc.length + 1, acc ++ [e], _, lineR rest, by omega, by go_num, hI10, by rw [List.length_append]; exact ho10, by rw [show M - (acc.length + 1) = R by omega]; exact HRN, by omega, by simp⟩, by simp [intOf]; omega⟩
      · have hMi : M = acc.length := by omega
        have hId : RdI w n sv rest (1 + acc.length) wr := hI
        have het := end_text (w.heap.size + 3) rest (1 + acc.length) (by omega) wr hI.rb
        have HRE : Hid (readM text = if endM rest = true then .ok (n, acc) else .error (3, 1 + acc.length + 1)) := by
          have h1 := HR.out
          rw [show M - acc.length = 0 by omega, readEdges] at h1
          rw [Hid, HX.out, ← h1]
          rfl
        obtain ⟨psv, csv, rfl⟩ := owns_form2 hown
        have hlow : ∀ j, (Value.slice psv acc.length csv).ownBlock = some j → w.heap.size + 5 ≤ j := fun j hj => (hown.lt j hj).1
        clear HR
        go_wp2_with fail
        refine het.mono ?_
        rintro e w7 ⟨hg7, he7⟩
        clear het
        cases hen : endM rest with
        | false =>
          rw [hen] at he7
          obtain ⟨rfl, hR7⟩ : e = kindP 3 ∧ RB w7 (w.heap.size + 3) rest (1 + acc.length + 1) := he7
          have HXE : Hid (readM text = .error (3, 1 + acc.length + 1)) := by rw [Hid, HRE.out, hen]; rfl
          exact read_caught (hId.meth hR7 hg7) (by decide) HXE.out rfl rfl rfl
        | true =>
          rw [hen] at he7
          obtain ⟨rfl, hR7⟩ : e = .returned (.tuple #[]) ∧ RB w7 (w.heap.size + 3) rest (1 + acc.length) := he7
          have HXE : Hid (readM text = .ok (n, acc)) := by rw [Hid, HRE.out, hen]; rfl
          have hI7 := hId.meth hR7 hg7
          have ho7 := hown.kept hg7 (by
            cases hk : (Value.slice psv acc.length csv).ownBlock with
            | none => exact .inl rfl
            | some j => exact .inr (by have := hlow j hk; simp only [ne_eq, Option.some.injEq]; omega))
          have n7 := hI7.nb.cell (j := 0) rfl
          have fn7 := hI7.nb.frozen 0
          have e7 := hI7.eb.cell (j := 0) rfl
          have fe7 := hI7.eb.frozen 0
          have v7 : w7.cell? ⟨w.heap.size + 1 + 1, 0, none⟩ = some .nilIface := hI7.vb.cell (j := 0) rfl
          have fv7 : w7.frozen? ⟨w.heap.size + 1 + 1, 0, none⟩ = false := hI7.vb.frozen 0
          have nl7 := hI7.lb.lt
          clear l0 n0 e0 hI hId hown
          go_wp2
          go_region_held3 (fun w' => w'.cell? ⟨w.heap.size, 0, none⟩ = some (.int .i64 n) ∧ w'.cell? ⟨w.heap.size + 1, 0, none⟩ = some (.slice psv acc.length csv)) ((repeat first | assumption | exact ⟨n7, e7⟩ | refine keepC_drew ?_ | refine keepR_set ?_ (by first | exact .inl rfl | exact .inr (by simp only; omega)) (by first | exact .inl rfl | exact .inr (by simp only; omega)))) (first | fail)
          have hIF := ((hI7.setN n).setE (.slice psv acc.length csv)).setV .nilIface
          have hoF := owns_setN (owns_setN (owns_setN ho7 (p := ⟨w.heap.size, 0, none⟩) (by simp only; omega) (.int .i64 n)) (p := ⟨w.heap.size + 1, 0, none⟩) (by simp only; omega) (.slice psv acc.length csv)) (p := ⟨w.heap.size + 2, 0, none⟩) (by simp only; omega) .nilIface
          have hoD := owns_go hoF (below_drewN (Below.refl _ _) 1)
          have hID := hIF.go (below_drewN (Below.refl _ _) 1)
          go_wp2
          refine leaves_cons (f := 44) (args := #[.pointer (some ⟨w.heap.size + 4, 0, none⟩), .pointer (some ⟨w.heap.size, 0, none⟩), .pointer (some ⟨w.heap.size + 1, 0, none⟩), .pointer (some ⟨w.heap.size + 2, 0, none⟩)]) (by simp) (by simp [go_sem]) ?_
          refine (catch_idle _ _ _ _ _).mono ?_
          rintro e u' W' ⟨rfl, rfl, rfl⟩
          show Leaves Tryz.prog Tryz.f23 _ (ReadP (readM text) w) [] .returning _
          refine ⟨_, ret_read rfl rfl rfl rfl (hID.nb.cell (j := 0) rfl) (hID.eb.cell (j := 0) rfl) (hID.vb.cell (j := 0) rfl), hID.bel, ?_⟩
          rw [HXE.out]
          exact ⟨_, rfl, edges_of_owns hoD⟩

end Go.Proofs.YthlkknfhganecaaGreatDoor
