import Derived.Test.YtalflecmadacaaaGreatZBD
import Derived.BigQuiet
import Derived.Test.YtalflecmadacaaaGreatZAX
import Derived.Test.YtalflecmadacaaaGreatZAZ
import Derived.Test.YtalflecmadacaaaGreatZBA
import Derived.Test.YtalflecmadacaaaGreatZBC
import Derived.Test.YtalflecmadacaaaGreatZAK
import Derived.Deep.LoopGhost
import Derived.Test.YtalflecmadacaaaGreatZAL
import Derived.Sort.OwnSortedInts
import Derived.Test.YtalflecmadacaaaGreatShelfS
import Derived.Test.YtalflecmadacaaaGreatZAH
set_option maxRecDepth 100000
set_option maxHeartbeats 8000000
namespace Go.Proofs.YtalflecmadacaaaGreat
open Go Go.Proofs Go.RowKit
theorem Qik (N:Nat)(l:List Ed)(r:List (List Int)):∀ f∈QaJ N l r,f.length≤2*l.length+1:=by
 have key:∀ j,∀ f∈(Qae (nxD r) (2*l.length+1) (Qal N l) j).1,f.length≤2*l.length+1:=by
  intro j
  induction j with
  | zero=>intro f hf;simp [Qae] at hf
  | succ j ih=>
   intro f hf
   rw [Qae] at hf
   split at hf
   ·exact ih f hf
   ·rcases YJ hf with h | h
    ·exact ih f h
    ·rw [YF h];exact QhY _ _ _ _
 exact key _
theorem Qku {N:Nat}{l:List Ed}(hR:RightG (N:Int) l)(r:List (List Int)):(QaJ N l r).length≤3*l.length:=by
 rw [← QmJ hR]
 exact (Qo3 hR r YA).1
theorem Qkw (N:Nat)(l:List Ed)(hR:RightG (N:Int) l)(r:List (List Int))(hS:SysR N l r)(hP:QdJ (numsL N l r)=0)(sv rv:Value)(w:World)(hl:Edges w.heap.size w sv l)(hr:Lsts w.heap.size w rv r):
  Calls Tryz.prog 30 #[.agg #[.int .i64 (N:Int),sv],rv] w fun e w'=>∃ gv,e = .returned (.tuple #[.agg #[.int .i64 ((QaJ N l r).length:Int),gv],.int .i64 0])∧Edges w'.heap.size w' gv (dualL (QaJ N l r) l)∧Below w.heap.size w w':=by
 have hm:=hR.m1
 have h1:=Qku hR r
 refine Qom (N:Int) l (by omega) (QaJ N l r) (by omega) (fun f hf=>?_) (QmH hR hS).nodup sv rv w hl (fun W h=>Qif N l hR r hS hP sv rv W (hl.go h) (hr.go h))
 have:=Qik N l r f hf
 omega
def nm (R : Nat → Nat) (r v : Nat) : Nat := ((List.range v).filter fun w => R w == r).length
theorem Qey (R : Nat → Nat) (r v : Nat) : nm R r (v + 1) = nm R r v + if R v = r then 1 else 0 := by
  unfold nm
  rw [List.range_succ, List.filter_append, YI]
  by_cases h : R v = r
  · simp [h]
  · simp [h]
theorem QlN (R : Nat → Nat) (r : Nat) {u : Nat} : ∀ {v : Nat}, u ≤ v → nm R r u ≤ nm R r v
  | 0, h => by obtain rfl : u = 0 := by omega
               exact YA
  | v + 1, h => by
    by_cases e : u = v + 1
    · subst e; exact YA
    · have := QlN R r (u := u) (v := v) (by omega)
      rw [Qey]; omega
theorem Qez {R : Nat → Nat} {r u v : Nat} (hu : R u = r) (h : u < v) : nm R r u < nm R r v := by
  have := QlN R r (u := u + 1) (v := v) (by omega)
  rw [Qey, if_pos hu] at this
  omega
theorem QeA {R : Nat → Nat} {r u v : Nat} (hu : R u = r) (hv : R v = r) (h : nm R r u = nm R r v) : u = v := by
  rcases Nat.lt_trichotomy u v with k | k | k
  · have := Qez hu k; omega
  · exact k
  · have := Qez hv k; omega
theorem QlO (R : Nat → Nat) (r : Nat) : ∀ v : Nat, nm R r v ≤ v
  | 0 => YA
  | v + 1 => by have := QlO R r v; rw [Qey]; split <;> omega
def ren (R : Nat → Nat) (r : Nat) (e : Eg) : Eg := (nm R r e.1, nm R r e.2.1, e.2.2)
def subZ (R : Nat → Nat) (r : Nat) (l : List Eg) : List (Nat × Eg) := (l.zipIdx.filter fun x => R x.1.1 == r).map fun x => (x.2, ren R r x.1)
def subE (R : Nat → Nat) (r : Nat) (l : List Eg) : List Eg := (subZ R r l).map (·.2)
def subP (R : Nat → Nat) (r : Nat) (l : List Eg) : List Nat := (subZ R r l).map (·.1)
theorem subZ_mem {R : Nat → Nat} {r : Nat} {l : List Eg} {i : Nat} {e' : Eg} : (i, e') ∈ subZ R r l ↔ ∃ e, l[i]? = some e ∧ R e.1 = r ∧ e' = ren R r e := by
  unfold subZ
  rw [List.mem_map]
  constructor
  · rintro ⟨⟨e, j⟩, h, he⟩
    rw [List.mem_filter, List.mem_zipIdx_iff_getElem?] at h
    simp only [Prod.mk.injEq] at he
    obtain ⟨rfl, rfl⟩ := he
    exact ⟨e, h.1, by simpa using h.2, rfl⟩
  · rintro ⟨e, h, hr, rfl⟩
    exact ⟨(e, i), by rw [List.mem_filter, List.mem_zipIdx_iff_getElem?]; exact ⟨h, by simpa using hr⟩, rfl⟩
theorem QgD {R : Nat → Nat} {r : Nat} {l : List Eg} {k : Nat} (h : k < l.length) : subZ R r (l.take (k + 1)) = subZ R r (l.take k) ++ if R l[k].1 = r then [(k, ren R r l[k])] else [] := by
  unfold subZ
  rw [List.take_succ_eq_append_getElem h, List.zipIdx_append, List.filter_append, List.map_append]
  congr 1
  rw [List.length_take, Nat.min_eq_left (by omega), Nat.zero_add]
  by_cases e : R l[k].1 = r
  · simp [e]
  · simp [e]
theorem Qk0 {R : Nat → Nat} {r : Nat} {l : List Eg} {k : Nat} (h : k < l.length) : subE R r (l.take (k + 1)) = subE R r (l.take k) ++ if R l[k].1 = r then [ren R r l[k]] else [] := by
  unfold subE
  rw [QgD h, List.map_append]
  split <;> simp
theorem QkZ {R : Nat → Nat} {r : Nat} {l : List Eg} {k : Nat} (h : k < l.length) : subP R r (l.take (k + 1)) = subP R r (l.take k) ++ if R l[k].1 = r then [k] else [] := by
  unfold subP
  rw [QgD h, List.map_append]
  split <;> simp
theorem Qeh (R : Nat → Nat) (r : Nat) (l : List Eg) : (subE R r l).length = (subP R r l).length ∧ (subE R r l).length ≤ l.length := by
  unfold subE subP subZ
  refine ⟨by simp, ?_⟩
  rw [List.length_map, List.length_map]
  have := List.length_filter_le (fun x : Eg × Nat => R x.1.1 == r) l.zipIdx
  simpa using this
theorem QoD {R : Nat → Nat} {r : Nat} {l : List Eg} {j i : Nat} (h : (subP R r l)[j]? = some i) : ∃ e, l[i]? = some e ∧ R e.1 = r ∧ (subE R r l)[j]? = some (ren R r e) := by
  unfold subP at h
  rw [YH, Option.map_eq_some_iff] at h
  obtain ⟨⟨i', e'⟩, h1, rfl⟩ := h
  obtain ⟨e, h2, h3, rfl⟩ := subZ_mem.1 (YK h1)
  exact ⟨e, h2, h3, by unfold subE; rw [YH, h1]; rfl⟩
theorem subE_mem {R : Nat → Nat} {r : Nat} {l : List Eg} {e' : Eg} : e' ∈ subE R r l ↔ ∃ e ∈ l, R e.1 = r ∧ e' = ren R r e := by
  unfold subE
  rw [List.mem_map]
  constructor
  · rintro ⟨⟨i, e''⟩, h, rfl⟩
    obtain ⟨e, h1, h2, h3⟩ := subZ_mem.1 h
    exact ⟨e, YK h1, h2, h3⟩
  · rintro ⟨e, h1, h2, rfl⟩
    obtain ⟨i, hi, rfl⟩ := List.getElem_of_mem h1
    exact ⟨(i, ren R r l[i]), subZ_mem.2 ⟨_, YB hi, h2, rfl⟩, rfl⟩
theorem Qgn {α : Type} : ∀ (l : List α) (n : Nat), ((l.zipIdx n).map (·.2)).Pairwise (· < ·)
  | [], n => by simp
  | x :: l, n => by
    rw [List.zipIdx_cons, List.map_cons, List.pairwise_cons]
    refine ⟨fun y hy => ?_, Qgn l (n + 1)⟩
    rw [List.mem_map] at hy
    obtain ⟨⟨a, j⟩, h, rfl⟩ := hy
    have := List.le_snd_of_mem_zipIdx h
    show n < j
    simp only at this
    omega
theorem QgE (R : Nat → Nat) (r : Nat) (l : List Eg) : (subP R r l).Pairwise (· < ·) := by
  unfold subP subZ
  rw [List.map_map]
  have h := Qgn l 0
  have h2 : ((l.zipIdx.filter fun x => R x.1.1 == r).map (·.2)).Sublist (l.zipIdx.map (·.2)) := List.Sublist.map _ (List.filter_sublist)
  exact h.sublist h2
theorem Qo2 {R : Nat → Nat} {r : Nat} {l : List Eg} {i : Nat} (h : i ∈ subP R r l) : i < l.length := by
  obtain ⟨j, hj, rfl⟩ := List.getElem_of_mem h
  obtain ⟨e, h1, _⟩ := QoD (YB hj)
  exact (YE h1).1
theorem QdT {R : Nat → Nat} {r N : Nat} {l : List Eg} (hl : ∀ e ∈ l, e.1 < N ∧ e.2.1 < N) (hR : ∀ e ∈ l, R e.1 = R e.2.1) : ∀ e ∈ subE R r l, e.1 < nm R r N ∧ e.2.1 < nm R r N := fun e' he' => by
  obtain ⟨e, h1, h2, rfl⟩ := subE_mem.1 he'
  exact ⟨Qez h2 (hl e h1).1, Qez ((hR e h1).symm.trans h2) (hl e h1).2⟩
theorem QfJ {R : Nat → Nat} {r : Nat} {l : List Eg} (hR : ∀ e ∈ l, R e.1 = R e.2.1) {s : Nat} (hs : R s = r) : ∀ {L : List Nat} {v c : Nat}, SW l s (v :: L) c → R v = r ∧ SW (subE R r l) (nm R r s) ((v :: L).map (nm R r)) c
  | [], v, c, h => by
    obtain ⟨rfl, rfl⟩ := h
    exact ⟨hs, rfl, rfl⟩
  | x :: t, v, c, h => by
    obtain ⟨e, he, hj, c1, rfl, h1⟩ := h
    obtain ⟨hx, h2⟩ := QfJ hR hs h1
    have he12 := hR e he
    have hv : R v = r := by
      rcases hj with ⟨a, b⟩ | ⟨a, b⟩
      · rw [← b, ← he12, a]; exact hx
      · rw [← a, he12, b]; exact hx
    have he1 : R e.1 = r := by rcases hj with ⟨a, _⟩ | ⟨a, _⟩ <;> rw [a] <;> assumption
    refine ⟨hv, ren R r e, subE_mem.2 ⟨e, he, he1, rfl⟩, ?_, c1, rfl, h2⟩
    rcases hj with ⟨a, b⟩ | ⟨a, b⟩
    · exact .inl ⟨by show nm R r e.1 = _; rw [a], by show nm R r e.2.1 = _; rw [b]⟩
    · exact .inr ⟨by show nm R r e.1 = _; rw [a], by show nm R r e.2.1 = _; rw [b]⟩
theorem QhH {R : Nat → Nat} {r : Nat} {l : List Eg} (hR : ∀ e ∈ l, R e.1 = R e.2.1) {s : Nat} (hs : R s = r) : ∀ {L' : List Nat} {v' c : Nat}, SW (subE R r l) (nm R r s) (v' :: L') c → ∃ v L, v' = nm R r v ∧ R v = r ∧ L' = L.map (nm R r) ∧ SW l s (v :: L) c
  | [], v', c, h => by
    obtain ⟨rfl, rfl⟩ := h
    exact ⟨s, [], rfl, hs, rfl, rfl, rfl⟩
  | x' :: t', v', c, h => by
    obtain ⟨e', he', hj, c1, rfl, h1⟩ := h
    obtain ⟨x, t, rfl, hx, rfl, h2⟩ := QhH hR hs h1
    obtain ⟨e, he, he1, rfl⟩ := subE_mem.1 he'
    have he2 : R e.2.1 = r := (hR e he).symm.trans he1
    rcases hj with ⟨a, b⟩ | ⟨a, b⟩
    · exact ⟨e.2.1, x :: t, b.symm, he2, rfl, e, he, .inl ⟨QeA he1 hx a, rfl⟩, c1, rfl, h2⟩
    · exact ⟨e.1, x :: t, a.symm, he1, rfl, e, he, .inr ⟨rfl, QeA he2 hx b⟩, c1, rfl, h2⟩
theorem Qnq {R : Nat → Nat} {r N : Nat} {l : List Eg} (hR : ∀ e ∈ l, R e.1 = R e.2.1) {s v : Nat} (hs : R s = r) (hv : R v = r) (hvN : v < N) {D D' : List Int} (hD : IsD l s N D) (hD' : IsD (subE R r l) (nm R r s) (nm R r N) D') : at' D' (nm R r v) = at' D v := by
  have hlt := Qez hv hvN
  rcases hD.2 v hvN with ⟨a, b⟩ | ⟨c, a, ⟨L, b⟩, k⟩ <;> rcases hD'.2 _ hlt with ⟨a', b'⟩ | ⟨c', a', ⟨L', b'⟩, k'⟩
  · omega
  · obtain ⟨v1, L1, e1, h1, rfl, h2⟩ := QhH hR hs b'
    have := QeA hv h1 e1
    subst this
    exact absurd h2 (b _ _)
  · exact absurd (QfJ hR hs b).2 (b' _ _)
  · obtain ⟨v1, L1, e1, h1, rfl, h2⟩ := QhH hR hs b'
    have := QeA hv h1 e1
    subst this
    have := k _ _ h2
    have := k' _ _ (QfJ hR hs b).2
    omega
def Qe3 (L:List Eg)(N:Nat)(V:List Int):Prop:=∀ v,v<N→at' V v = -1∨∃ (i:Nat) (e:Eg),at' V v=i∧L[i]? = some e∧(e.1=v∨e.2.1=v)
theorem QiX {L:List Eg}{V:List Int}{v i:Nat}{e:Eg}(h:at' V v=i)(he:L[i]? = some e):par L V v=oth e v:=by
 unfold par
 rw [if_neg (by omega),h,YM]
 have:L.getD i (0,0,0)=e:=by simp [List.getD,he]
 rw [this]
theorem QfR {L:List Eg}{N:Nat}{V:List Int}(hE:∀ e∈L,e.1<N∧e.2.1<N)(hV:Qe3 L N V){v:Nat}(hv:v<N):par L V v<N:=by
 rcases hV v hv with h | ⟨i,e,h1,h2,h3⟩
 ·rw [QcS h];exact hv
 ·rw [QiX h1 h2]
  have:=hE e (YK h2)
  rcases Qfh h3 with ⟨a,b⟩ | ⟨a,b⟩ <;> omega
def wayM (L:List Eg)(V:List Int):Nat→Nat→List Int
 | 0,_=>[]
 | k+1,v=>if at' V v = -1 then [] else at' V v :: wayM L V k (par L V v)
theorem Qbu {L:List Eg}{V:List Int}{v:Nat}(h:at' V v = -1):∀ k,wayM L V k v=[]
 | 0=>rfl
 | _+1=>if_pos h
theorem QcE {L:List Eg}{V:List Int}{v k:Nat}(h:at' V v≠-1):wayM L V (k+1) v=at' V v :: wayM L V k (par L V v):=if_neg h
theorem Qmv (W:World):Go.Sort.grow W #[]=W:=by cases W;simp [Go.Sort.grow]
theorem QoT (N:Nat)(L:List Eg)(hN:N≤40)(hE:∀ e∈L,e.1<N∧e.2.1<N)(V:List Int)(lV:V.length=N)(hV:Qe3 L N V)(v:Nat)(hv:v<N)(sv vv:Value)(w:World)(hl:Edges w.heap.size w sv (L.map edE))(hI:Ints w.heap.size w vv V):
  Calls Tryz.prog 116 #[.agg #[.int .i64 (N:Int),sv],vv,.int .i64 (v:Int)] w fun r w'=>∃ rv,r = .returned rv∧w'.ownsRow w.heap.size 3 1 rv (wayM L V N v).length ((wayM L V N v).reverse.map (Value.int .i64))∧Below w.heap.size w w':=by
 have hmix:=mixed
 obtain⟨p,c,rfl⟩:=hl.lenG
 obtain⟨pv,cv,rfl,hov⟩:=hI.openW
 obtain⟨bv,ov,rfl,hbv,hcv⟩:=hov (j:=v) (by omega)
 obtain⟨i0,hi,hz0,hz1,hz2⟩:=Qcx Qmo
 have hb1:Below w.heap.size w (w.alloc (.cells #[.int .i64 (N:Int),.slice p L.length c] 24)):=YD.alloc YA _
 have hX1:Blk 24 (w.alloc (.cells #[.int .i64 (N:Int),.slice p L.length c] 24)) w.heap.size [.int .i64 (N:Int),.slice p L.length c]:=heap_alloc_new w _
 have q0:=hX1.cell (j:=0) rfl
 have hN1:(N:Int)<1048576:=by omega
 have HCV:Hid (∀ W',Below w.heap.size w W'→∀ i,i<N→W'.cell? ⟨bv,ov+i,none⟩=some (.int .i64 (at' V i))):=by rw [lV] at hcv;exact hcv
 have HL:Hid _:=hl
 have HV:Hid _:=hV
 have HE:Hid _:=hE
 rw [lV]
 clear hcv hov hl hI hV hE lV
 have hs1:(w.alloc (.cells #[.int .i64 (N:Int),.slice p L.length c] 24)).heap.size=w.heap.size+1:=by simp
 have hiv:∀ (u:Nat) W,u<N→Calls Tryz.prog 126 #[.agg #[.int .i64 (N:Int),.slice p L.length c],.int .i64 (u:Int)] W fun r w'=>r = .returned (.bool true)∧Grew W w':=fun u W hu=>by
  have h:=Qb8 (N:Int) (u:Int) (.slice p L.length c) W ⟨_,_,_,rfl⟩
  rwa [vtx_iff.2 (by omega)] at h
 go_enter Tryz.func116,Tryz.ntmps116
 go_wp2
 generalize w.alloc (.cells #[.int .i64 (N:Int),.slice p L.length c] 24)=w1 at *
 have hmax:max (1048576:Int) (N:Int)=1048576:=by omega
 have hmin:min (N:Int) 1048576=(N:Int):=by omega
 rw [hmax,hmin]
 clear hmax hmin
 go_loopg [2,8] N (fun k vv wv wr=>∃ (u:Nat) (A:List Int),vv = .int .i64 u∧u<N∧A.length+k=N∧Hid (A++wayM L V k u=wayM L V N v)∧wr.ownsRow (w.heap.size+1) 3 1 wv A.length (A.map (Value.int .i64))∧Blk 24 wr w.heap.size [.int .i64 (N:Int),.slice p L.length c]∧Below w.heap.size w wr)
 case atStart=>exact⟨v,[],rfl,hv,by simp,(show Hid _ from by simp [Hid]),World.ownsRow_nil _ _ _ _,hX1,hb1⟩
 case round=>
  clear hX1 hb1 q0 hs1
  obtain⟨u,A,rfl,hu,hAk,HA,hO,hX,hb⟩:=hrel
  obtain⟨pa,ca,rfl⟩:=Qaq hO
  have q0:=hX.cell (j:=0) rfl
  have q1:=hX.cell (j:=1) rfl
  have hiu:=hiv u wr hu
  have hul:(u:Int)<(N:Int):=by omega
  go_wp2_with fail
  refine hiu.mono ?_
  rintro e w2 ⟨rfl,hg2⟩
  clear hiu q0 q1
  have hX2:=hX.go hg2.below
  have hb2:=hb.trans (hg2.below.mono hb.size)
  have hO2:=Qar hO hg2.below
  clear hX hb hO hg2
  have v0:=HCV.out w2 hb2 u hu
  by_cases hstop:gk=0∨at' V u = -1
  ·have hAE:A=wayM L V N v:=by
    rw [← HA.out]
    rcases hstop with h | h
    ·rw [h];simp [wayM]
    ·rw [Qbu h];simp
   have HAE:Hid _:=hAE
   have hrv:∃ Q:Ending→World→Prop,(Calls Tryz.prog 151 #[.slice pa A.length ca] w2 Q)∧∀ e w',Q e w'→e = .returned (.tuple #[])∧w'.ownsRow w.heap.size 3 1 (.slice pa A.length ca) A.length (A.reverse.map (Value.int .i64))∧Below w.heap.size w w':=by
    by_cases hA0:A.length=0
    ·rw [hA0]
     refine⟨_,Tryz.slices_Reverse_int_empty pa ca w2,?_⟩
     rintro e w' ⟨rfl,rfl⟩
     have:A=[]:=List.eq_nil_of_length_eq_zero hA0
     subst this
     exact⟨rfl,Qa2 hO2 (by omega),hb2⟩
    ·obtain⟨g,cap,e⟩:=QcT hO2 (by omega)
     simp only [Value.slice.injEq] at e
     obtain⟨rfl,_,rfl⟩:=e
     rcases hO2.2 with ⟨h0,_⟩ | ⟨g2,cap2,cur2,e2,hbase,hblk,h1,h2,h3,h4⟩
     ·cases h0
     ·simp only [Value.slice.injEq,Option.some.injEq,Addr.mk.injEq] at e2
      obtain⟨⟨rfl,_,_⟩,_,rfl⟩:=e2
      refine⟨_,Tryz.slices_Reverse_int g 0 ca A w2 (holds_of_blockI hblk (by simpa using h4)) (by omega),?_⟩
      rintro e w3 ⟨rfl,nn,hw3⟩
      have hw4:w3=Go.Sort.grow (Go.Sort.putRow (Value.int .i64) (Go.Sort.ahead w2 nn) g 0 A.reverse.toArray) #[]:=by
       rw [hw3,Qmv]
      refine⟨rfl,?_,?_⟩
      ·rw [hw4]
       exact ownsRow_sortedI (ss:=A) (ts:=A.reverse) (by simp) (by omega) hblk h1 h2 h3
      ·have hg3:w2.grownBy w3 (some g):=by
        rw [hw4]
        exact grownBy_sortedI _
       exact hb2.grown hg3 hb2.size (fun q e=>by cases e;omega)
   obtain⟨QQ,hrv,hQQ⟩:=hrv
   have HQ:Hid _:=hQQ
   have HS:Hid _:=hstop
   clear hQQ hAE hstop
   by_cases hk0:gk=0
   ·have hd:((A.length:Int)==(N:Int))=true:=by simp;omega
    clear hAk HA hk0 HS
    go_wp2_with fail
    refine hrv.mono ?_
    intro e w3 hq3
    obtain⟨rfl,hO3,hb3⟩:=HQ.out e w3 hq3
    clear hrv
    go_wp2
    go_ret
    exact⟨_,rfl,by rw [← HAE.out];exact hO3,hb3⟩
   ·have hd:((A.length:Int)==(N:Int))=false:=by simp;omega
    rw [HS.out.resolve_left hk0] at v0
    clear hAk HA hk0 HS
    go_wp2_with fail
    refine hrv.mono ?_
    intro e w3 hq3
    obtain⟨rfl,hO3,hb3⟩:=HQ.out e w3 hq3
    clear hrv
    go_wp2
    go_ret
    exact⟨_,rfl,by rw [← HAE.out];exact hO3,hb3⟩
  ·obtain⟨k,HGK⟩:∃ k,Hid (gk=k+1):=⟨gk-1,show gk=gk-1+1 by omega⟩
   have hne:at' V u≠-1:=fun h=>hstop (.inr h)
   rcases HV.out u hu with h2 | ⟨i,e,h2,he,hev⟩
   ·exact absurd h2 hne
   ·have hd:((A.length:Int)==(N:Int))=false:=by have:=HGK.out;simp;omega
    have hstep:=QcE (L:=L) (k:=k) hne
    rw [QiX h2 he,h2] at hstep
    have HST:Hid _:=hstep
    have hil:=(YE he).1
    have hie:=(YE he).2
    have hen:Qcq L (i:Int) u=true:=ends_iff.2 ⟨i,rfl,e,he,hev⟩
    have hun:oth e u<N:=by
     have:=HE.out e (YK he)
     rcases Qfh hev with ⟨a,b⟩ | ⟨a,b⟩ <;> omega
    have hot:=fun W=>QgR e u W
    rw [h2] at v0
    have hni:¬ (i:Int) = -1:=by omega
    obtain⟨bl,ol,rfl,hbl,hcl,hcel⟩:=Edges.eg HL.out hil
    have HCE:Hid (∀ W',Below w.heap.size w W'→W'.cell? ⟨bl,ol+i*3,none⟩=some (.int .i64 (e.1:Int))∧W'.cell? ⟨bl,ol+i*3+1,none⟩=some (.int .i64 (e.2.1:Int))∧W'.cell? ⟨bl,ol+i*3+2,none⟩=some (.int .i64 (e.2.2:Int))):=fun W' hW=>by
     have:=hcel W' hW i hil
     rwa [hie] at this
    have hea:∀ W,Below w.heap.size w W→Calls Tryz.prog 149 #[.agg #[.int .i64 (N:Int),.slice (some ⟨bl,ol,none⟩) L.length c],.int .i64 (i:Int),.int .i64 (u:Int)] W fun r w'=>r = .returned (.bool true)∧Grew W w':=fun W h=>by
     have:=Qkv (N:Int) L (i:Int) u _ W ((Edges.below HL.out h).mono h.size)
     rwa [hen] at this
    have hil':(i:Int)<(L.length:Int):=by omega
    have HVI:Hid _:=h2
    clear hcel he hie hev hne h2 hstop hstep
    generalize oth e u=u' at *
    have hAL:A.length≤40:=by omega
    rw [HGK.out] at HA
    have hNu:decide (N≤u)=false:=by simp;omega
    have hib:((i:Int) == -1)=false:=by simp
    have HAK:Hid _:=hAk
    clear hAk
    go_wp2
    have hxl:=hX2.lt
    have q0g:=cell_grown (a:=⟨w.heap.size,0,none⟩) hxl (hX2.cell (j:=0) rfl)
    have q1g:=cell_grown (a:=⟨w.heap.size,1,none⟩) hxl (hX2.cell (j:=1) rfl)
    have v0g:=cell_grown (a:=⟨bv,ov+u,none⟩) (by show bv<_;omega) v0
    have hea1:∀ n os,Calls Tryz.prog 149 #[.agg #[.int .i64 (N:Int),.slice (some ⟨bl,ol,none⟩) L.length c],.int .i64 (i:Int),.int .i64 (u:Int)] (Go.Sort.grow (w2.drewN n) os) fun r w'=>r = .returned (.bool true)∧Grew (Go.Sort.grow (w2.drewN n) os) w':=fun n os=>hea _ (hb2.trans ((Grew.below ⟨n,os,rfl⟩).mono hb2.size))
    go_quiet_grown (first | (go_at_call 149;refine Calls.grown_of (hea1 _ _)))
    have hgr:Grew w2 (Go.Sort.grow (w2.drewN nq) osq):=⟨nq,osq,rfl⟩
    generalize Go.Sort.grow (w2.drewN nq) osq=w3 at *
    have hX3:=hX2.go hgr.below
    have hb3:=hb2.trans (hgr.below.mono hb2.size)
    have hO3:=Qar hO2 hgr.below
    clear q0g q1g v0g hea1 hea hX2 hb2 hO2 hgr v0 hxl
    have v3:=HCV.out w3 hb3 u hu
    rw [HVI.out] at v3
    have hOA:=World.ownsRow.alloc hO3 (.cells #[.int .i64 (i:Int)] 3)
    have hnews:=Qbg w3 (.int .i64 (i:Int)) 3
    have hmx:A.length+1≤maxLen:=by unfold maxLen;omega
    have hby:(A.length+1)*8≤140737488355328:=by omega
    have hxl:=hX3.lt
    have hbs:w.heap.size+1≤(w3.alloc (.cells #[.int .i64 (i:Int)] 3)).heap.size:=by simp only [World.size_alloc];omega
    have hlow:∀ q,(Value.slice pa A.length ca).ownBlock=some q→w.heap.size+1≤q:=fun q hq=>(hO3.lt q hq).1
    have hone:∀ z∈[Value.int .i64 (i:Int)],z.oneCell'=true:=YO
    go_wp2_with (at_builtin;refine wpList_append_own_at _ rfl _ _ 27 rfl (w.heap.size+1) 3 i0 (.int .i64 0) 1 8 Tryz.underlying27 hi hz0 hz1 hz2 rfl (by decide) (.slice pa A.length ca) _ _ rfl hOA ⟨w3.heap.size,0,none⟩ 1 1 [.int .i64 (i:Int)] rfl rfl hnews hone hmx hby hbs ?_)
    intro v7 w7 hown7 hg7 hnil7 hat7
    obtain⟨a7,c7,rfl⟩:=Qaq hown7
    have hbA:Below w.heap.size w (w3.alloc (.cells #[.int .i64 (i:Int)] 3)):=hb3.trans (((Below.refl w3.heap.size w3).alloc YA _).mono hb3.size)
    have hb7:Below w.heap.size w w7:=hbA.grown hg7 hbA.size (fun q hq=>by have:=hlow q hq;omega)
    have hXA:Blk 24 (w3.alloc (.cells #[.int .i64 (i:Int)] 3)) w.heap.size [.int .i64 (N:Int),.slice (some ⟨bl,ol,none⟩) L.length c]:=hX3.go ((Below.refl w3.heap.size w3).alloc YA _)
    have hX7:Blk 24 w7 w.heap.size [.int .i64 (N:Int),.slice (some ⟨bl,ol,none⟩) L.length c]:=(hg7.block w.heap.size hXA.lt (fun e=>by have:=hlow _ e.symm;omega)).trans hXA
    clear hg7 hnil7 hat7 hOA hnews hone hbs hXA hbA hX3 hb3 hO3 v3 hxl hlow hmx hby
    go_wp2
    have hs7:=hb7.size
    have hxl:=hX7.lt
    obtain⟨g0,g1,g2⟩:=HCE.out w7 hb7
    have v7:=HCV.out w7 hb7 u hu
    rw [HVI.out] at v7
    have q1g:=cell_grown (a:=⟨w.heap.size,1,none⟩) hxl (hX7.cell (j:=1) rfl)
    replace v7:=cell_grown (a:=⟨bv,ov+u,none⟩) (by show bv<_;omega) v7
    replace g0:=cell_grown (a:=⟨bl,ol+i*3,none⟩) (by show bl<_;omega) g0
    replace g1:=cell_grown (a:=⟨bl,ol+i*3+1,none⟩) (by show bl<_;omega) g1
    replace g2:=cell_grown (a:=⟨bl,ol+i*3+2,none⟩) (by show bl<_;omega) g2
    go_quiet_grown (first | (go_at_call 150;refine Calls.grown_of (hot _)))
    have hgr:Grew w7 (Go.Sort.grow (w7.drewN nq) osq):=⟨nq,osq,rfl⟩
    generalize Go.Sort.grow (w7.drewN nq) osq=w8 at *
    go_wp2
    go_roundg k
    case measure=>have:=HGK.out;omega
    case rel=>
     refine⟨u',A++[(i:Int)],rfl,hun,by have:=HAK.out;have:=HGK.out;simp;omega,?_,?_,hX7.go hgr.below,hb7.trans (hgr.below.mono hs7)⟩
     ·unfold Hid
      have:=HA.out
      rw [HST.out] at this
      rw [← this];simp
     ·rw [YI,List.map_append]
      exact Qar hown7 hgr.below
def SWD (l:List Eg)(s:Nat)(d:List Int):List Nat→Nat→Prop
 | [],_=>False
 | [v],c=>v=s∧c=0∧at' d v=0
 | v :: u :: t,c=>(0≤at' d v∧at' d v≤c)∧∃ e,e∈l∧Jn e u v∧∃ c',c=c'+e.2.2∧SWD l s d (u :: t) c'
theorem SWD.sw {l:List Eg}{s:Nat}{d:List Int}:∀ {L:List Nat} {c:Nat},SWD l s d L c→SW l s L c
 | [],_,h=>h
 | [v],c,h=>⟨h.1,h.2.1⟩
 | v :: u :: t,c,h=>by
  obtain⟨_,e,he,hj,c',hc,h'⟩:=h
  exact⟨e,he,hj,c',hc,h'.sw⟩
theorem SWD.le {l:List Eg}{s:Nat}{d:List Int}:∀ {L:List Nat} {c:Nat} {v:Nat},SWD l s d L c→v∈L→0≤at' d v∧at' d v≤c
 | [],_,_,h,_=>h.elim
 | [x],c,v,h,hv=>by
  have:v=x:=by simpa using hv
  subst this
  have:=h.2.2
  have:=h.2.1
  omega
 | x :: u :: t,c,v,h,hv=>by
  obtain⟨h0,e,he,hj,c',hc,h'⟩:=h
  rcases List.mem_cons.1 hv with h1 | h1
  ·subst h1;exact h0
  ·have:=SWD.le h' h1
   omega
theorem SWD.less {l:List Eg}{s:Nat}{d d':List Int}(hs:at' d' s=0)(hm:Mn d d'):∀ {L:List Nat} {c:Nat},SWD l s d L c→SWD l s d' L c
 | [],_,h=>h
 | [v],c,h=>by
  obtain⟨rfl,h2,h3⟩:=h
  exact⟨rfl,h2,hs⟩
 | v :: u :: t,c,h=>by
  obtain⟨h0,e,he,hj,c',hc,h'⟩:=h
  exact⟨by have:=hm v h0.1;omega,e,he,hj,c',hc,h'.less hs hm⟩
theorem QhD {l:List Eg}{s M:Nat}(hM:∀ e∈l,e.2.2≤M):∀ {L:List Nat} {c:Nat},SW l s L c→c≤L.length*M
 | [],_,h=>h.elim
 | [v],c,h=>by rw [h.2];omega
 | v :: u :: t,c,h=>by
  obtain⟨e,he,hj,c',hc,h'⟩:=h
  have:=QhD hM h'
  have:=hM e he
  have e1:(v :: u :: t).length*M=(u :: t).length*M+M:=Nat.succ_mul _ _
  omega
structure FIT (l:List Eg)(s n:Nat)(D V:List Int)(Q:List (Nat × Nat)):Prop where
 lenD:D.length=n
 lenV:V.length=n
 zero:at' D s=0
 none:at' V s = -1
 reach:∀ v,v<n→(at' D v = -1∧at' V v = -1)∨∃ c:Nat,at' D v=c∧∃ L,SWD l s D (v :: L) c∧(v :: L).Nodup
 via:∀ v,v<n→v≠s→0≤at' D v→∃ i:Nat,at' V v=i∧∃ e,l[i]? = some e∧(e.1=v∨e.2.1=v)∧0≤at' D (oth e v)∧at' D (oth e v)+e.2.2≤at' D v
 chain:∀ v,v<n→0≤at' D v→∃ k,up l V k v=s
 queue:∀ x∈Q,x.2<n∧0≤at' D x.2∧at' D x.2≤x.1
def Opn (l:List Eg)(n:Nat)(D:List Int)(Q:List (Nat × Nat))(u:Nat)(pl:List Nat):Prop:=
 ∀ x,x<n→0≤at' D x→(∃ c:Nat,at' D x=c∧(c,x)∈Q)∨∀ (i:Nat) e,l[i]? = some e→(x=u→i∈pl∨e.1=e.2.1)→∀ b,Jn e x b→0≤at' D b∧at' D b≤at' D x+e.2.2
theorem FIT.perm {l:List Eg}{s n:Nat}{D V:List Int}{Q Q':List (Nat × Nat)}(h:FIT l s n D V Q)(hp:∀ x∈Q',x∈Q):FIT l s n D V Q':=⟨h.lenD,h.lenV,h.zero,h.none,h.reach,h.via,h.chain,fun x hx=>h.queue x (hp x hx)⟩
theorem FIT.ge {l:List Eg}{s n:Nat}{D V:List Int}{Q:List (Nat × Nat)}(h:FIT l s n D V Q){v:Nat}(hv:v<n): -1≤at' D v:=by
 rcases h.reach v hv with h1 | ⟨c,h1,_⟩ <;> omega
theorem FIT.few {l:List Eg}{s n M:Nat}{D V:List Int}{Q:List (Nat × Nat)}(h:FIT l s n D V Q)(hl:∀ e∈l,e.1<n∧e.2.1<n)(hs:s<n)(hM:∀ e∈l,e.2.2≤M){v:Nat}(hv:v<n):at' D v≤((n*M:Nat):Int):=by
 rcases h.reach v hv with h1 | ⟨c,h1,L,h2,h3⟩
 ·omega
 ·have h4:=QhD hM h2.sw
  have h5:=QcY n _ h3 (Qnm hl hs h2.sw)
  have:=Nat.mul_le_mul_right M h5
  omega
theorem FIT.start (l:List Eg){s n:Nat}(hs:s<n){Q:List (Nat × Nat)}(hQ:∀ x,x∈Q↔x=(0,s)):FIT l s n (dist0 n s) ((negs n).set s (-1)) Q∧Opn l n (dist0 n s) Q n []:=by
 have hlen:s<(negs n).length:=by simpa [negs] using hs
 have hV:∀ v,at' ((negs n).set s (-1)) v = -1:=fun v=>by rw [Qbb _ hlen,Qgl];simp
 have hD:∀ v,at' (dist0 n s) v=if v=s then 0 else -1:=fun v=>by unfold dist0;rw [Qbb _ hlen,Qgl]
 refine⟨⟨by simp [dist0,negs],by simp [negs],by rw [hD,if_pos rfl],hV s,fun v hv=>?_,fun v hv hne h0=>?_,fun v hv h0=>?_,fun x hx=>?_⟩,fun x hx h0=>?_⟩
 ·by_cases e:v=s
  ·subst e
   exact .inr ⟨0,by rw [hD,if_pos rfl];rfl,[],⟨rfl,rfl,by rw [hD,if_pos rfl]⟩,by simp⟩
  ·exact .inl ⟨by rw [hD,if_neg e],hV v⟩
 ·rw [hD,if_neg hne] at h0;omega
 ·by_cases e:v=s
  ·exact⟨0,e⟩
  ·rw [hD,if_neg e] at h0;omega
 ·rw [(hQ x).1 hx]
  exact⟨hs,by rw [hD,if_pos rfl];simp,by rw [hD,if_pos rfl];simp⟩
 ·by_cases e:x=s
  ·subst e
   exact .inl ⟨0,by rw [hD,if_pos rfl];rfl,(hQ _).2 rfl⟩
  ·rw [hD,if_neg e] at h0;omega
theorem FIT.par {l:List Eg}{s n:Nat}{D V:List Int}{Q:List (Nat × Nat)}(h:FIT l s n D V Q)(hl:∀ e∈l,e.1<n∧e.2.1<n){v:Nat}(hv:v<n)(h0:0≤at' D v):par l V v<n∧0≤at' D (par l V v)∧at' D (par l V v)≤at' D v:=by
 by_cases e:v=s
 ·subst e
  rw [QcS h.none]
  exact⟨hv,h0,Int.le_refl _⟩
 ·obtain⟨i,hi,e',he,hx,h1,h2⟩:=h.via v hv e h0
  have hp:Go.Proofs.YtalflecmadacaaaGreat.par l V v=oth e' v:=by
   unfold Go.Proofs.YtalflecmadacaaaGreat.par
   rw [if_neg (by omega),hi]
   have:l.getD i (0,0,0)=e':=by simp [List.getD,he]
   rw [YM,this]
  rw [hp]
  have hm:=hl e' (YK he)
  refine⟨?_,h1,by omega⟩
  rcases Qfh hx with ⟨a,b⟩ | ⟨a,b⟩ <;> omega
theorem FIT.up {l:List Eg}{s n:Nat}{D V:List Int}{Q:List (Nat × Nat)}(h:FIT l s n D V Q)(hl:∀ e∈l,e.1<n∧e.2.1<n):∀ (k v:Nat),v<n→0≤at' D v→up l V k v<n∧0≤at' D (up l V k v)∧at' D (up l V k v)≤at' D v
 | 0,v,hv,h0=>⟨hv,h0,Int.le_refl _⟩
 | k+1,v,hv,h0=>by
  obtain⟨h1,h2,h3⟩:=h.par hl hv h0
  obtain⟨h4,h5,h6⟩:=FIT.up h hl k (Go.Proofs.YtalflecmadacaaaGreat.par l V v) h1 h2
  exact⟨h4,h5,Int.le_trans h6 h3⟩
theorem Qlw {l:List Eg}{V:List Int}{b:Nat}(hb:b<V.length)(i:Int){x:Nat}(hx:x≠b):par l (V.set b i) x=par l V x:=by
 unfold par
 rw [Qbb _ hb,if_neg hx]
theorem Qoz {l:List Eg}{V:List Int}{b:Nat}(hb:b<V.length)(i:Int):∀ (k x:Nat),(∀ j,up l V j x≠b)→up l (V.set b i) k x=up l V k x
 | 0,x,_=>rfl
 | k+1,x,h=>by
  show up l (V.set b i) k (par l (V.set b i) x)=up l V k (par l V x)
  rw [Qlw (x:=x) hb i (h 0)]
  exact Qoz hb i k _ fun j=>h (j+1)
theorem FIT.come {l:List Eg}{s n:Nat}{D V:List Int}{Q:List (Nat × Nat)}(h:FIT l s n D V Q)(hl:∀ e∈l,e.1<n∧e.2.1<n){i u b c:Nat}{e:Eg}(he:l[i]? = some e)(hj:Jn e u b)(hu:u<n)(hb:b<n)(hc:at' D u=c)
  (hnew:at' D b = -1∨((c+e.2.2:Nat):Int)<at' D b) {Q':List (Nat × Nat)} (hQ:∀ x∈Q',x=(c+e.2.2,b)∨x∈Q):FIT l s n (D.set b ((c+e.2.2:Nat):Int)) (V.set b (i:Int)) Q':=by
 have hbD:b<D.length:=by rw [h.lenD];exact hb
 have hbV:b<V.length:=by rw [h.lenV];exact hb
 have hem:=YK he
 have hbs:b≠s:=by
  intro x
  subst x
  have:=h.zero
  omega
 have hD:∀ v,at' (D.set b ((c+e.2.2:Nat):Int)) v=if v=b then ((c+e.2.2:Nat):Int) else at' D v:=Qbb _ hbD
 have hV:∀ v,at' (V.set b (i:Int)) v=if v=b then (i:Int) else at' V v:=Qbb _ hbV
 have hub:u≠b:=by
  intro x
  subst x
  omega
 have hno:at' D b = -1∨at' D u<at' D b:=by omega
 have hzero':at' (D.set b ((c+e.2.2:Nat):Int)) s=0:=by rw [hD,if_neg (Ne.symm hbs)];exact h.zero
 have hbefore:∀ k x,x<n→0≤at' D x→at' D x≤at' D u→Go.Proofs.YtalflecmadacaaaGreat.up l V k x≠b:=by
  intro k x hx h0 hle e'
  have:=h.up hl k x hx h0
  rw [e'] at this
  omega
 have hsame:∀ k,Go.Proofs.YtalflecmadacaaaGreat.up l (V.set b (i:Int)) k u=Go.Proofs.YtalflecmadacaaaGreat.up l V k u:=fun k=>Qoz hbV _ k u fun j=>hbefore j u hu (by omega) (Int.le_refl _)
 have hpb:Go.Proofs.YtalflecmadacaaaGreat.par l (V.set b (i:Int)) b=u:=by
  unfold Go.Proofs.YtalflecmadacaaaGreat.par
  rw [hV,if_pos rfl,if_neg (by omega),YM]
  have:l.getD i (0,0,0)=e:=by simp [List.getD,he]
  rw [this]
  exact Qfg hj
 have hMn:Mn D (D.set b ((c+e.2.2:Nat):Int)):=fun v hv=>by
  rw [hD]
  split
  ·rename_i e';subst e';omega
  ·omega
 have hge:∀ v,v<n→-1≤at' D v:=fun v hv=>h.ge hv
 refine⟨by simp [h.lenD],by simp [h.lenV],hzero',by rw [hV,if_neg (Ne.symm hbs)];exact h.none,fun v hv=>?_,fun v hv hne h0=>?_,fun v hv h0=>?_,fun x hx=>?_⟩
 ·by_cases e':v=b
  ·subst e'
   refine .inr ⟨c+e.2.2,by rw [hD,if_pos rfl],?_⟩
   rcases h.reach u hu with h1 | ⟨c1,h1,L,h2,h3⟩
   ·omega
   ·obtain rfl:c1=c:=by omega
    refine⟨u :: L,⟨?_,e,hem,hj,c1,rfl,h2.less hzero' hMn⟩,List.nodup_cons.2 ⟨fun hm=>?_,h3⟩⟩
    ·rw [hD,if_pos rfl];omega
    ·have:=h2.le hm
     omega
  ·rcases h.reach v hv with h1 | ⟨c1,h1,L,h2,h3⟩
   ·exact .inl ⟨by rw [hD,if_neg e'];exact h1.1,by rw [hV,if_neg e'];exact h1.2⟩
   ·exact .inr ⟨c1,by rw [hD,if_neg e'];exact h1,L,h2.less hzero' hMn,h3⟩
 ·by_cases e':v=b
  ·subst e'
   refine⟨i,by rw [hV,if_pos rfl],e,he,?_,?_⟩
   ·rcases hj with ⟨x,y⟩ | ⟨x,y⟩
    ·exact .inr y
    ·exact .inl x
   ·rw [Qfg hj,hD,hD,if_pos rfl,if_neg hub];omega
  ·rw [hD,if_neg e'] at h0
   obtain⟨i1,k1,e1,k2,k3,k4,k5⟩:=h.via v hv hne h0
   have:=hMn _ k4
   exact⟨i1,by rw [hV,if_neg e'];exact k1,e1,k2,k3,this.1,by rw [hD v,if_neg e'];omega⟩
 ·have hu':∃ k,Go.Proofs.YtalflecmadacaaaGreat.up l (V.set b (i:Int)) k u=s:=by
   obtain⟨k,hk⟩:=h.chain u hu (by omega)
   exact⟨k,by rw [hsame];exact hk⟩
  have hb':∃ k,Go.Proofs.YtalflecmadacaaaGreat.up l (V.set b (i:Int)) k b=s:=by
   obtain⟨k,hk⟩:=hu'
   exact⟨k+1,by show Go.Proofs.YtalflecmadacaaaGreat.up l (V.set b (i:Int)) k (Go.Proofs.YtalflecmadacaaaGreat.par l (V.set b (i:Int)) b)=s;rw [hpb];exact hk⟩
  have hall:∀ k x,Go.Proofs.YtalflecmadacaaaGreat.up l V k x=s→∃ k',Go.Proofs.YtalflecmadacaaaGreat.up l (V.set b (i:Int)) k' x=s:=by
   intro k
   induction k with
   | zero=>intro x hx;exact⟨0,hx⟩
   | succ k ih=>
    intro x hx
    by_cases e':x=b
    ·subst e';exact hb'
    ·obtain⟨k',hk'⟩:=ih (Go.Proofs.YtalflecmadacaaaGreat.par l V x) hx
     exact⟨k'+1,by show Go.Proofs.YtalflecmadacaaaGreat.up l (V.set b (i:Int)) k' (Go.Proofs.YtalflecmadacaaaGreat.par l (V.set b (i:Int)) x)=s;rw [Qlw hbV _ e'];exact hk'⟩
  by_cases e':v=b
  ·subst e';exact hb'
  ·rw [hD,if_neg e'] at h0
   obtain⟨k,hk⟩:=h.chain v hv h0
   exact hall k v hk
 ·rcases hQ x hx with h1 | h1
  ·subst h1
   exact⟨hb,by rw [hD,if_pos rfl];omega,by rw [hD,if_pos rfl];exact Int.le_refl _⟩
  ·obtain⟨k1,k2,k3⟩:=h.queue x h1
   have:=hMn _ k2
   exact⟨k1,this.1,by omega⟩
theorem Opn.come {l:List Eg}{n:Nat}{D:List Int}{Q:List (Nat × Nat)}{i u b c:Nat}{pl:List Nat}{e:Eg}(h:Opn l n D Q u pl)(hlen:D.length=n)(he:l[i]? = some e)(hj:Jn e u b)(hne:u≠b)(hb:b<n)(hc:at' D u=c)
  (hnew:at' D b = -1∨((c+e.2.2:Nat):Int)<at' D b) {Q':List (Nat × Nat)} (hQ1:(c+e.2.2,b)∈Q') (hQ2:∀ x∈Q,x∈Q'):Opn l n (D.set b ((c+e.2.2:Nat):Int)) Q' u (i :: pl):=by
 have hbD:b<D.length:=by rw [hlen];exact hb
 have hD:∀ v,at' (D.set b ((c+e.2.2:Nat):Int)) v=if v=b then ((c+e.2.2:Nat):Int) else at' D v:=Qbb _ hbD
 have hMn:Mn D (D.set b ((c+e.2.2:Nat):Int)):=fun v hv=>by
  rw [hD]
  split
  ·rename_i e';subst e';omega
  ·omega
 intro x hx h0
 by_cases e':x=b
 ·subst e'
  exact .inl ⟨c+e.2.2,by rw [hD,if_pos rfl],hQ1⟩
 ·rw [hD,if_neg e'] at h0
  rcases h x hx h0 with ⟨c1,k1,k2⟩ | k
  ·exact .inl ⟨c1,by rw [hD,if_neg e'];exact k1,hQ2 _ k2⟩
  ·refine .inr fun i1 e1 h1 h2 b1 h3=>?_
   rw [hD x,if_neg e']
   by_cases ei:x=u∧i1=i
   ·obtain⟨rfl,rfl⟩:=ei
    rw [he] at h1
    obtain rfl:=Option.some.inj h1
    have hb1:b1=b:=by
     have:=Qfg h3.symm
     have:=Qfg hj.symm
     omega
    subst hb1
    rw [hD,if_pos rfl]
    omega
   ·have:=k i1 e1 h1 (fun hxu=>by
     rcases h2 hxu with h4 | h4
     ·rcases List.mem_cons.1 h4 with h5 | h5
      ·exact absurd ⟨hxu,h5⟩ ei
      ·exact .inl h5
     ·exact .inr h4) b1 h3
    have:=hMn _ this.1
    omega
theorem Opn.skip {l:List Eg}{n:Nat}{D:List Int}{Q:List (Nat × Nat)}{i u b c:Nat}{pl:List Nat}{e:Eg}(h:Opn l n D Q u pl)(he:l[i]? = some e)(hj:Jn e u b)(hc:at' D u=c)(hold:0≤at' D b∧at' D b≤((c+e.2.2:Nat):Int)):Opn l n D Q u (i :: pl):=by
 intro x hx h0
 rcases h x hx h0 with k | k
 ·exact .inl k
 ·refine .inr fun i1 e1 h1 h2 b1 h3=>?_
  by_cases ei:x=u∧i1=i
  ·obtain⟨rfl,rfl⟩:=ei
   rw [he] at h1
   obtain rfl:=Option.some.inj h1
   have hb1:b1=b:=by
    have:=Qfg h3.symm
    have:=Qfg hj.symm
    omega
   subst hb1
   omega
  ·exact k i1 e1 h1 (fun hxu=>by
    rcases h2 hxu with h4 | h4
    ·rcases List.mem_cons.1 h4 with h5 | h5
     ·exact absurd ⟨hxu,h5⟩ ei
     ·exact .inl h5
    ·exact .inr h4) b1 h3
theorem Opn.stale {l:List Eg}{n:Nat}{D:List Int}{Q Q':List (Nat × Nat)}{c v:Nat}(h:Opn l n D Q n [])(hst:at' D v≠(c:Int))(hQ:∀ x∈Q,x=(c,v)∨x∈Q'):Opn l n D Q' n []:=by
 intro x hx h0
 rcases h x hx h0 with ⟨c1,k1,k2⟩ | k
 ·refine .inl ⟨c1,k1,(hQ _ k2).resolve_left fun e=>?_⟩
  have e1:=congrArg Prod.fst e
  have e2:=congrArg Prod.snd e
  simp only at e1 e2
  subst e1 e2
  exact hst k1
 ·exact .inr k
theorem Opn.take {l:List Eg}{n:Nat}{D:List Int}{Q Q':List (Nat × Nat)}{c v:Nat}(h:Opn l n D Q n [])(hQ:∀ x∈Q,x=(c,v)∨x∈Q'):Opn l n D Q' v []:=by
 intro x hx h0
 by_cases e:x=v
 ·subst e
  refine .inr fun i e he h2 b hj=>?_
  rcases h2 rfl with h3 | h3
  ·simp at h3
  ·have:b=x:=by rcases hj with ⟨a,b⟩ | ⟨a,b⟩ <;> omega
   subst this
   omega
 ·rcases h x hx h0 with ⟨c1,k1,k2⟩ | k
  ·exact .inl ⟨c1,k1,(hQ _ k2).resolve_left fun e'=>e (congrArg Prod.snd e')⟩
  ·exact .inr fun i e1 h1 _ b hj=>k i e1 h1 (fun hxn=>absurd hxn (by omega)) b hj
theorem Opn.full {l:List Eg}{n:Nat}{D:List Int}{Q:List (Nat × Nat)}{v:Nat}{pl:List Nat}(h:Opn l n D Q v pl)(hpl:∀ (i:Nat) e,l[i]? = some e→(e.1=v∨e.2.1=v)→i∈pl∨e.1=e.2.1):Opn l n D Q n []:=by
 intro x hx h0
 rcases h x hx h0 with k | k
 ·exact .inl k
 ·refine .inr fun i e1 h1 _ b hj=>k i e1 h1 (fun hxv=>?_) b hj
  subst hxv
  exact hpl i e1 h1 (by rcases hj with ⟨a,b⟩ | ⟨a,b⟩;exact .inl a;exact .inr b)
theorem FIT.okc {l:List Eg}{s n:Nat}{D V:List Int}(h:FIT l s n D V [])(ho:Opn l n D [] n [])(hl:∀ e∈l,e.1<n∧e.2.1<n):OKc l s n D V:=by
 have hstep:∀ e∈l,∀ a b,Jn e a b→a<n→0≤at' D a→0≤at' D b∧at' D b≤at' D a+e.2.2:=by
  intro e he a b hj ha h0
  obtain⟨i,hi⟩:=List.getElem?_of_mem he
  rcases ho a ha h0 with ⟨c,_,hc⟩ | k
  ·simp at hc
  ·exact k i e hi (fun hx=>absurd hx (by omega)) b hj
 have hkept:∀ e∈l,Kept D e:=by
  intro e he
  obtain⟨h1,h2⟩:=hl e he
  have a:=hstep e he e.1 e.2.1 (.inl ⟨rfl,rfl⟩) h1
  have b:=hstep e he e.2.1 e.1 (.inr ⟨rfl,rfl⟩) h2
  have c:=h.ge h1
  have c':=h.ge h2
  by_cases k:0≤at' D e.1
  ·exact .inr (by have:=a k;have:=b this.1;omega)
  ·by_cases k':0≤at' D e.2.1
   ·have:=b k';omega
   ·exact .inl (by omega)
 refine⟨QpU h.lenD h.zero hkept fun v hv=>?_,h.lenV,h.none,fun v hv hne=>?_,h.chain⟩
 ·rcases h.reach v hv with h1 | ⟨c,h1,L,h2,_⟩
  ·exact .inl h1.1
  ·exact .inr ⟨L,c,h1,h2.sw⟩
 ·rcases h.reach v hv with h1 | ⟨c,h1,_⟩
  ·exact .inl ⟨by omega,h1.2⟩
  ·have h0:0≤at' D v:=by omega
   obtain⟨i,k1,e,k2,k3,k4,k5⟩:=h.via v hv hne h0
   have hm:=YK k2
   have:=Qib (hkept e hm) (Qfh k3) k4
   exact .inr ⟨h0,i,k1,e,k2,k3,by omega⟩
def potI (B:Nat)(x:Int):Nat:=if x<0 then B else x.toNat
def potT (B:Nat)(D:List Int):Nat:=(D.map (potI B)).sum
theorem QkU:∀ (L:List Nat)(i x:Nat)(h:i<L.length) ,(L.set i x).sum+L[i]=L.sum+x
 | [],i,x,h=>by simp at h
 | y :: L,0,x,h=>by simp;omega
 | y :: L,i+1,x,h=>by
  have:=QkU L i x (by simpa using h)
  simp at this ⊢
  omega
theorem QnD {B:Nat}{D:List Int}{b:Nat}(hb:b<D.length){x:Nat}(hx:x<B)(hnew:at' D b = -1∨(x:Int)<at' D b):potT B (D.set b (x:Int))<potT B D:=by
 unfold potT
 rw [List.map_set]
 have hl:b<(D.map (potI B)).length:=by simpa using hb
 have h1:=QkU (D.map (potI B)) b (potI B (x:Int)) hl
 have h2:(D.map (potI B))[b]=potI B (at' D b):=by rw [QbH hb];simp
 have h3:potI B (x:Int)=x:=by unfold potI;rw [if_neg (by omega)];simp
 have h4:x<potI B (at' D b):=by
  unfold potI
  split <;> omega
 omega
end Go.Proofs.YtalflecmadacaaaGreat
