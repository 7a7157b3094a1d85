import Derived.Test.YtalflecmadacaaaGreatZAP
import Derived.Deep.LoopGhost
import Derived.Test.YtalflecmadacaaaGreatZAR
set_option maxRecDepth 100000
set_option maxHeartbeats 8000000
namespace Go.Proofs.YtalflecmadacaaaGreat
def nm (R : Nat → Nat) (r v : Nat) : Nat := ((List.range v).filter fun w => R w == r).length
theorem Qeo (R : Nat → Nat) (r v : Nat) : nm R r (v + 1) = nm R r v + if R v = r then 1 else 0 := by
  unfold nm
  rw [List.range_succ, List.filter_append, YI]
  by_cases h : R v = r
  · simp [h]
  · simp [h]
theorem Qlg (R : Nat → Nat) (r : Nat) {u : Nat} : ∀ {v : Nat}, u ≤ v → nm R r u ≤ nm R r v
  | 0, h => by obtain rfl : u = 0 := by omega
               exact YA
  | v + 1, h => by
    by_cases e : u = v + 1
    · subst e; exact YA
    · have := Qlg R r (u := u) (v := v) (by omega)
      rw [Qeo]; omega
theorem Qep {R : Nat → Nat} {r u v : Nat} (hu : R u = r) (h : u < v) : nm R r u < nm R r v := by
  have := Qlg R r (u := u + 1) (v := v) (by omega)
  rw [Qeo, if_pos hu] at this
  omega
theorem Qeq {R : Nat → Nat} {r u v : Nat} (hu : R u = r) (hv : R v = r) (h : nm R r u = nm R r v) : u = v := by
  rcases Nat.lt_trichotomy u v with k | k | k
  · have := Qep hu k; omega
  · exact k
  · have := Qep hv k; omega
theorem Qlh (R : Nat → Nat) (r : Nat) : ∀ v : Nat, nm R r v ≤ v
  | 0 => YA
  | v + 1 => by have := Qlh R r v; rw [Qeo]; split <;> omega
def ren (R : Nat → Nat) (r : Nat) (e : Eg) : Eg := (nm R r e.1, nm R r e.2.1, e.2.2)
def subZ (R : Nat → Nat) (r : Nat) (l : List Eg) : List (Nat × Eg) := (l.zipIdx.filter fun x => R x.1.1 == r).map fun x => (x.2, ren R r x.1)
def subE (R : Nat → Nat) (r : Nat) (l : List Eg) : List Eg := (subZ R r l).map (·.2)
def subP (R : Nat → Nat) (r : Nat) (l : List Eg) : List Nat := (subZ R r l).map (·.1)
theorem subZ_mem {R : Nat → Nat} {r : Nat} {l : List Eg} {i : Nat} {e' : Eg} : (i, e') ∈ subZ R r l ↔ ∃ e, l[i]? = some e ∧ R e.1 = r ∧ e' = ren R r e := by
  unfold subZ
  rw [List.mem_map]
  constructor
  · rintro ⟨⟨e, j⟩, h, he⟩
    rw [List.mem_filter, List.mem_zipIdx_iff_getElem?] at h
    simp only [Prod.mk.injEq] at he
    obtain ⟨rfl, rfl⟩ := he
    exact ⟨e, h.1, by simpa using h.2, rfl⟩
  · rintro ⟨e, h, hr, rfl⟩
    exact ⟨(e, i), by rw [List.mem_filter, List.mem_zipIdx_iff_getElem?]; exact ⟨h, by simpa using hr⟩, rfl⟩
theorem Qgj {R : Nat → Nat} {r : Nat} {l : List Eg} {k : Nat} (h : k < l.length) : subZ R r (l.take (k + 1)) = subZ R r (l.take k) ++ if R l[k].1 = r then [(k, ren R r l[k])] else [] := by
  unfold subZ
  rw [List.take_succ_eq_append_getElem h, List.zipIdx_append, List.filter_append, List.map_append]
  congr 1
  rw [List.length_take, Nat.min_eq_left (by omega), Nat.zero_add]
  by_cases e : R l[k].1 = r
  · simp [e]
  · simp [e]
theorem Qkq {R : Nat → Nat} {r : Nat} {l : List Eg} {k : Nat} (h : k < l.length) : subE R r (l.take (k + 1)) = subE R r (l.take k) ++ if R l[k].1 = r then [ren R r l[k]] else [] := by
  unfold subE
  rw [Qgj h, List.map_append]
  split <;> simp
theorem Qkp {R : Nat → Nat} {r : Nat} {l : List Eg} {k : Nat} (h : k < l.length) : subP R r (l.take (k + 1)) = subP R r (l.take k) ++ if R l[k].1 = r then [k] else [] := by
  unfold subP
  rw [Qgj h, List.map_append]
  split <;> simp
theorem Qd7 (R : Nat → Nat) (r : Nat) (l : List Eg) : (subE R r l).length = (subP R r l).length ∧ (subE R r l).length ≤ l.length := by
  unfold subE subP subZ
  refine ⟨by simp, ?_⟩
  rw [List.length_map, List.length_map]
  have := List.length_filter_le (fun x : Eg × Nat => R x.1.1 == r) l.zipIdx
  simpa using this
theorem QnV {R : Nat → Nat} {r : Nat} {l : List Eg} {j i : Nat} (h : (subP R r l)[j]? = some i) : ∃ e, l[i]? = some e ∧ R e.1 = r ∧ (subE R r l)[j]? = some (ren R r e) := by
  unfold subP at h
  rw [YH, Option.map_eq_some_iff] at h
  obtain ⟨⟨i', e'⟩, h1, rfl⟩ := h
  obtain ⟨e, h2, h3, rfl⟩ := subZ_mem.1 (YK h1)
  exact ⟨e, h2, h3, by unfold subE; rw [YH, h1]; rfl⟩
theorem subE_mem {R : Nat → Nat} {r : Nat} {l : List Eg} {e' : Eg} : e' ∈ subE R r l ↔ ∃ e ∈ l, R e.1 = r ∧ e' = ren R r e := by
  unfold subE
  rw [List.mem_map]
  constructor
  · rintro ⟨⟨i, e''⟩, h, rfl⟩
    obtain ⟨e, h1, h2, h3⟩ := subZ_mem.1 h
    exact ⟨e, YK h1, h2, h3⟩
  · rintro ⟨e, h1, h2, rfl⟩
    obtain ⟨i, hi, rfl⟩ := List.getElem_of_mem h1
    exact ⟨(i, ren R r l[i]), subZ_mem.2 ⟨_, YB hi, h2, rfl⟩, rfl⟩
theorem Qf5 {α : Type} : ∀ (l : List α) (n : Nat), ((l.zipIdx n).map (·.2)).Pairwise (· < ·)
  | [], n => by simp
  | x :: l, n => by
    rw [List.zipIdx_cons, List.map_cons, List.pairwise_cons]
    refine ⟨fun y hy => ?_, Qf5 l (n + 1)⟩
    rw [List.mem_map] at hy
    obtain ⟨⟨a, j⟩, h, rfl⟩ := hy
    have := List.le_snd_of_mem_zipIdx h
    show n < j
    simp only at this
    omega
theorem Qgk (R : Nat → Nat) (r : Nat) (l : List Eg) : (subP R r l).Pairwise (· < ·) := by
  unfold subP subZ
  rw [List.map_map]
  have h := Qf5 l 0
  have h2 : ((l.zipIdx.filter fun x => R x.1.1 == r).map (·.2)).Sublist (l.zipIdx.map (·.2)) := List.Sublist.map _ (List.filter_sublist)
  exact h.sublist h2
theorem Qow {R : Nat → Nat} {r : Nat} {l : List Eg} {i : Nat} (h : i ∈ subP R r l) : i < l.length := by
  obtain ⟨j, hj, rfl⟩ := List.getElem_of_mem h
  obtain ⟨e, h1, _⟩ := QnV (YB hj)
  exact (YE h1).1
theorem QdO {R : Nat → Nat} {r N : Nat} {l : List Eg} (hl : ∀ e ∈ l, e.1 < N ∧ e.2.1 < N) (hR : ∀ e ∈ l, R e.1 = R e.2.1) : ∀ e ∈ subE R r l, e.1 < nm R r N ∧ e.2.1 < nm R r N := fun e' he' => by
  obtain ⟨e, h1, h2, rfl⟩ := subE_mem.1 he'
  exact ⟨Qep h2 (hl e h1).1, Qep ((hR e h1).symm.trans h2) (hl e h1).2⟩
theorem Qfw {R : Nat → Nat} {r : Nat} {l : List Eg} (hR : ∀ e ∈ l, R e.1 = R e.2.1) {s : Nat} (hs : R s = r) : ∀ {L : List Nat} {v c : Nat}, SW l s (v :: L) c → R v = r ∧ SW (subE R r l) (nm R r s) ((v :: L).map (nm R r)) c
  | [], v, c, h => by
    obtain ⟨rfl, rfl⟩ := h
    exact ⟨hs, rfl, rfl⟩
  | x :: t, v, c, h => by
    obtain ⟨e, he, hj, c1, rfl, h1⟩ := h
    obtain ⟨hx, h2⟩ := Qfw hR hs h1
    have he12 := hR e he
    have hv : R v = r := by
      rcases hj with ⟨a, b⟩ | ⟨a, b⟩
      · rw [← b, ← he12, a]; exact hx
      · rw [← a, he12, b]; exact hx
    have he1 : R e.1 = r := by rcases hj with ⟨a, _⟩ | ⟨a, _⟩ <;> rw [a] <;> assumption
    refine ⟨hv, ren R r e, subE_mem.2 ⟨e, he, he1, rfl⟩, ?_, c1, rfl, h2⟩
    rcases hj with ⟨a, b⟩ | ⟨a, b⟩
    · exact .inl ⟨by show nm R r e.1 = _; rw [a], by show nm R r e.2.1 = _; rw [b]⟩
    · exact .inr ⟨by show nm R r e.1 = _; rw [a], by show nm R r e.2.1 = _; rw [b]⟩
theorem Qho {R : Nat → Nat} {r : Nat} {l : List Eg} (hR : ∀ e ∈ l, R e.1 = R e.2.1) {s : Nat} (hs : R s = r) : ∀ {L' : List Nat} {v' c : Nat}, SW (subE R r l) (nm R r s) (v' :: L') c → ∃ v L, v' = nm R r v ∧ R v = r ∧ L' = L.map (nm R r) ∧ SW l s (v :: L) c
  | [], v', c, h => by
    obtain ⟨rfl, rfl⟩ := h
    exact ⟨s, [], rfl, hs, rfl, rfl, rfl⟩
  | x' :: t', v', c, h => by
    obtain ⟨e', he', hj, c1, rfl, h1⟩ := h
    obtain ⟨x, t, rfl, hx, rfl, h2⟩ := Qho hR hs h1
    obtain ⟨e, he, he1, rfl⟩ := subE_mem.1 he'
    have he2 : R e.2.1 = r := (hR e he).symm.trans he1
    rcases hj with ⟨a, b⟩ | ⟨a, b⟩
    · exact ⟨e.2.1, x :: t, b.symm, he2, rfl, e, he, .inl ⟨Qeq he1 hx a, rfl⟩, c1, rfl, h2⟩
    · exact ⟨e.1, x :: t, a.symm, he1, rfl, e, he, .inr ⟨rfl, Qeq he2 hx b⟩, c1, rfl, h2⟩
theorem Qmz {R : Nat → Nat} {r N : Nat} {l : List Eg} (hR : ∀ e ∈ l, R e.1 = R e.2.1) {s v : Nat} (hs : R s = r) (hv : R v = r) (hvN : v < N) {D D' : List Int} (hD : IsD l s N D) (hD' : IsD (subE R r l) (nm R r s) (nm R r N) D') : at' D' (nm R r v) = at' D v := by
  have hlt := Qep hv hvN
  rcases hD.2 v hvN with ⟨a, b⟩ | ⟨c, a, ⟨L, b⟩, k⟩ <;> rcases hD'.2 _ hlt with ⟨a', b'⟩ | ⟨c', a', ⟨L', b'⟩, k'⟩
  · omega
  · obtain ⟨v1, L1, e1, h1, rfl, h2⟩ := Qho hR hs b'
    have := Qeq hv h1 e1
    subst this
    exact absurd h2 (b _ _)
  · exact absurd (Qfw hR hs b).2 (b' _ _)
  · obtain ⟨v1, L1, e1, h1, rfl, h2⟩ := Qho hR hs b'
    have := Qeq hv h1 e1
    subst this
    have := k _ _ h2
    have := k' _ _ (Qfw hR hs b).2
    omega
open Go Go.Proofs Go.RowKit
def QeR (L:List Eg)(N:Nat)(V:List Int):Prop:=∀ v,v<N→at' V v = -1∨∃ (i:Nat) (e:Eg),at' V v=i∧L[i]? = some e∧(e.1=v∨e.2.1=v)
theorem Qiy {L:List Eg}{V:List Int}{v i:Nat}{e:Eg}(h:at' V v=i)(he:L[i]? = some e):par L V v=oth e v:=by
 unfold par
 rw [if_neg (by omega),h,YM]
 have:L.getD i (0,0,0)=e:=by simp [List.getD,he]
 rw [this]
theorem QfE {L:List Eg}{N:Nat}{V:List Int}(hE:∀ e∈L,e.1<N∧e.2.1<N)(hV:QeR L N V){v:Nat}(hv:v<N):par L V v<N:=by
 rcases hV v hv with h | ⟨i,e,h1,h2,h3⟩
 ·rw [QcO h];exact hv
 ·rw [Qiy h1 h2]
  have:=hE e (YK h2)
  rcases Qe5 h3 with ⟨a,b⟩ | ⟨a,b⟩ <;> omega
def SWD (l:List Eg)(s:Nat)(d:List Int):List Nat→Nat→Prop
 | [],_=>False
 | [v],c=>v=s∧c=0∧at' d v=0
 | v :: u :: t,c=>(0≤at' d v∧at' d v≤c)∧∃ e,e∈l∧Jn e u v∧∃ c',c=c'+e.2.2∧SWD l s d (u :: t) c'
theorem SWD.sw {l:List Eg}{s:Nat}{d:List Int}:∀ {L:List Nat} {c:Nat},SWD l s d L c→SW l s L c
 | [],_,h=>h
 | [v],c,h=>⟨h.1,h.2.1⟩
 | v :: u :: t,c,h=>by
  obtain⟨_,e,he,hj,c',hc,h'⟩:=h
  exact⟨e,he,hj,c',hc,h'.sw⟩
theorem SWD.le {l:List Eg}{s:Nat}{d:List Int}:∀ {L:List Nat} {c:Nat} {v:Nat},SWD l s d L c→v∈L→0≤at' d v∧at' d v≤c
 | [],_,_,h,_=>h.elim
 | [x],c,v,h,hv=>by
  have:v=x:=by simpa using hv
  subst this
  have:=h.2.2
  have:=h.2.1
  omega
 | x :: u :: t,c,v,h,hv=>by
  obtain⟨h0,e,he,hj,c',hc,h'⟩:=h
  rcases List.mem_cons.1 hv with h1 | h1
  ·subst h1;exact h0
  ·have:=SWD.le h' h1
   omega
theorem SWD.less {l:List Eg}{s:Nat}{d d':List Int}(hs:at' d' s=0)(hm:Mn d d'):∀ {L:List Nat} {c:Nat},SWD l s d L c→SWD l s d' L c
 | [],_,h=>h
 | [v],c,h=>by
  obtain⟨rfl,h2,h3⟩:=h
  exact⟨rfl,h2,hs⟩
 | v :: u :: t,c,h=>by
  obtain⟨h0,e,he,hj,c',hc,h'⟩:=h
  exact⟨by have:=hm v h0.1;omega,e,he,hj,c',hc,h'.less hs hm⟩
theorem Qhk {l:List Eg}{s M:Nat}(hM:∀ e∈l,e.2.2≤M):∀ {L:List Nat} {c:Nat},SW l s L c→c≤L.length*M
 | [],_,h=>h.elim
 | [v],c,h=>by rw [h.2];omega
 | v :: u :: t,c,h=>by
  obtain⟨e,he,hj,c',hc,h'⟩:=h
  have:=Qhk hM h'
  have:=hM e he
  have e1:(v :: u :: t).length*M=(u :: t).length*M+M:=Nat.succ_mul _ _
  omega
structure FIT (l:List Eg)(s n:Nat)(D V:List Int)(Q:List (Nat × Nat)):Prop where
 lenD:D.length=n
 lenV:V.length=n
 zero:at' D s=0
 none:at' V s = -1
 reach:∀ v,v<n→(at' D v = -1∧at' V v = -1)∨∃ c:Nat,at' D v=c∧∃ L,SWD l s D (v :: L) c∧(v :: L).Nodup
 via:∀ v,v<n→v≠s→0≤at' D v→∃ i:Nat,at' V v=i∧∃ e,l[i]? = some e∧(e.1=v∨e.2.1=v)∧0≤at' D (oth e v)∧at' D (oth e v)+e.2.2≤at' D v
 chain:∀ v,v<n→0≤at' D v→∃ k,up l V k v=s
 queue:∀ x∈Q,x.2<n∧0≤at' D x.2∧at' D x.2≤x.1
def Opn (l:List Eg)(n:Nat)(D:List Int)(Q:List (Nat × Nat))(u:Nat)(pl:List Nat):Prop:=
 ∀ x,x<n→0≤at' D x→(∃ c:Nat,at' D x=c∧(c,x)∈Q)∨∀ (i:Nat) e,l[i]? = some e→(x=u→i∈pl∨e.1=e.2.1)→∀ b,Jn e x b→0≤at' D b∧at' D b≤at' D x+e.2.2
theorem FIT.perm {l:List Eg}{s n:Nat}{D V:List Int}{Q Q':List (Nat × Nat)}(h:FIT l s n D V Q)(hp:∀ x∈Q',x∈Q):FIT l s n D V Q':=⟨h.lenD,h.lenV,h.zero,h.none,h.reach,h.via,h.chain,fun x hx=>h.queue x (hp x hx)⟩
theorem FIT.ge {l:List Eg}{s n:Nat}{D V:List Int}{Q:List (Nat × Nat)}(h:FIT l s n D V Q){v:Nat}(hv:v<n): -1≤at' D v:=by
 rcases h.reach v hv with h1 | ⟨c,h1,_⟩ <;> omega
theorem FIT.few {l:List Eg}{s n M:Nat}{D V:List Int}{Q:List (Nat × Nat)}(h:FIT l s n D V Q)(hl:∀ e∈l,e.1<n∧e.2.1<n)(hs:s<n)(hM:∀ e∈l,e.2.2≤M){v:Nat}(hv:v<n):at' D v≤((n*M:Nat):Int):=by
 rcases h.reach v hv with h1 | ⟨c,h1,L,h2,h3⟩
 ·omega
 ·have h4:=Qhk hM h2.sw
  have h5:=QcV n _ h3 (Qmy hl hs h2.sw)
  have:=Nat.mul_le_mul_right M h5
  omega
theorem FIT.start (l:List Eg){s n:Nat}(hs:s<n){Q:List (Nat × Nat)}(hQ:∀ x,x∈Q↔x=(0,s)):FIT l s n (dist0 n s) ((negs n).set s (-1)) Q∧Opn l n (dist0 n s) Q n []:=by
 have hlen:s<(negs n).length:=by simpa [negs] using hs
 have hV:∀ v,at' ((negs n).set s (-1)) v = -1:=fun v=>by rw [Qba _ hlen,Qf3];simp
 have hD:∀ v,at' (dist0 n s) v=if v=s then 0 else -1:=fun v=>by unfold dist0;rw [Qba _ hlen,Qf3]
 refine⟨⟨by simp [dist0,negs],by simp [negs],by rw [hD,if_pos rfl],hV s,fun v hv=>?_,fun v hv hne h0=>?_,fun v hv h0=>?_,fun x hx=>?_⟩,fun x hx h0=>?_⟩
 ·by_cases e:v=s
  ·subst e
   exact .inr ⟨0,by rw [hD,if_pos rfl];rfl,[],⟨rfl,rfl,by rw [hD,if_pos rfl]⟩,by simp⟩
  ·exact .inl ⟨by rw [hD,if_neg e],hV v⟩
 ·rw [hD,if_neg hne] at h0;omega
 ·by_cases e:v=s
  ·exact⟨0,e⟩
  ·rw [hD,if_neg e] at h0;omega
 ·rw [(hQ x).1 hx]
  exact⟨hs,by rw [hD,if_pos rfl];simp,by rw [hD,if_pos rfl];simp⟩
 ·by_cases e:x=s
  ·subst e
   exact .inl ⟨0,by rw [hD,if_pos rfl];rfl,(hQ _).2 rfl⟩
  ·rw [hD,if_neg e] at h0;omega
theorem FIT.par {l:List Eg}{s n:Nat}{D V:List Int}{Q:List (Nat × Nat)}(h:FIT l s n D V Q)(hl:∀ e∈l,e.1<n∧e.2.1<n){v:Nat}(hv:v<n)(h0:0≤at' D v):par l V v<n∧0≤at' D (par l V v)∧at' D (par l V v)≤at' D v:=by
 by_cases e:v=s
 ·subst e
  rw [QcO h.none]
  exact⟨hv,h0,Int.le_refl _⟩
 ·obtain⟨i,hi,e',he,hx,h1,h2⟩:=h.via v hv e h0
  have hp:Go.Proofs.YtalflecmadacaaaGreat.par l V v=oth e' v:=by
   unfold Go.Proofs.YtalflecmadacaaaGreat.par
   rw [if_neg (by omega),hi]
   have:l.getD i (0,0,0)=e':=by simp [List.getD,he]
   rw [YM,this]
  rw [hp]
  have hm:=hl e' (YK he)
  refine⟨?_,h1,by omega⟩
  rcases Qe5 hx with ⟨a,b⟩ | ⟨a,b⟩ <;> omega
theorem FIT.up {l:List Eg}{s n:Nat}{D V:List Int}{Q:List (Nat × Nat)}(h:FIT l s n D V Q)(hl:∀ e∈l,e.1<n∧e.2.1<n):∀ (k v:Nat),v<n→0≤at' D v→up l V k v<n∧0≤at' D (up l V k v)∧at' D (up l V k v)≤at' D v
 | 0,v,hv,h0=>⟨hv,h0,Int.le_refl _⟩
 | k+1,v,hv,h0=>by
  obtain⟨h1,h2,h3⟩:=h.par hl hv h0
  obtain⟨h4,h5,h6⟩:=FIT.up h hl k (Go.Proofs.YtalflecmadacaaaGreat.par l V v) h1 h2
  exact⟨h4,h5,Int.le_trans h6 h3⟩
theorem Qk0 {l:List Eg}{V:List Int}{b:Nat}(hb:b<V.length)(i:Int){x:Nat}(hx:x≠b):par l (V.set b i) x=par l V x:=by
 unfold par
 rw [Qba _ hb,if_neg hx]
theorem QnS {l:List Eg}{V:List Int}{b:Nat}(hb:b<V.length)(i:Int):∀ (k x:Nat),(∀ j,up l V j x≠b)→up l (V.set b i) k x=up l V k x
 | 0,x,_=>rfl
 | k+1,x,h=>by
  show up l (V.set b i) k (par l (V.set b i) x)=up l V k (par l V x)
  rw [Qk0 (x:=x) hb i (h 0)]
  exact QnS hb i k _ fun j=>h (j+1)
theorem FIT.come {l:List Eg}{s n:Nat}{D V:List Int}{Q:List (Nat × Nat)}(h:FIT l s n D V Q)(hl:∀ e∈l,e.1<n∧e.2.1<n){i u b c:Nat}{e:Eg}(he:l[i]? = some e)(hj:Jn e u b)(hu:u<n)(hb:b<n)(hc:at' D u=c)
  (hnew:at' D b = -1∨((c+e.2.2:Nat):Int)<at' D b) {Q':List (Nat × Nat)} (hQ:∀ x∈Q',x=(c+e.2.2,b)∨x∈Q):FIT l s n (D.set b ((c+e.2.2:Nat):Int)) (V.set b (i:Int)) Q':=by
 have hbD:b<D.length:=by rw [h.lenD];exact hb
 have hbV:b<V.length:=by rw [h.lenV];exact hb
 have hem:=YK he
 have hbs:b≠s:=by
  intro x
  subst x
  have:=h.zero
  omega
 have hD:∀ v,at' (D.set b ((c+e.2.2:Nat):Int)) v=if v=b then ((c+e.2.2:Nat):Int) else at' D v:=Qba _ hbD
 have hV:∀ v,at' (V.set b (i:Int)) v=if v=b then (i:Int) else at' V v:=Qba _ hbV
 have hub:u≠b:=by
  intro x
  subst x
  omega
 have hno:at' D b = -1∨at' D u<at' D b:=by omega
 have hzero':at' (D.set b ((c+e.2.2:Nat):Int)) s=0:=by rw [hD,if_neg (Ne.symm hbs)];exact h.zero
 have hbefore:∀ k x,x<n→0≤at' D x→at' D x≤at' D u→Go.Proofs.YtalflecmadacaaaGreat.up l V k x≠b:=by
  intro k x hx h0 hle e'
  have:=h.up hl k x hx h0
  rw [e'] at this
  omega
 have hsame:∀ k,Go.Proofs.YtalflecmadacaaaGreat.up l (V.set b (i:Int)) k u=Go.Proofs.YtalflecmadacaaaGreat.up l V k u:=fun k=>QnS hbV _ k u fun j=>hbefore j u hu (by omega) (Int.le_refl _)
 have hpb:Go.Proofs.YtalflecmadacaaaGreat.par l (V.set b (i:Int)) b=u:=by
  unfold Go.Proofs.YtalflecmadacaaaGreat.par
  rw [hV,if_pos rfl,if_neg (by omega),YM]
  have:l.getD i (0,0,0)=e:=by simp [List.getD,he]
  rw [this]
  exact Qe4 hj
 have hMn:Mn D (D.set b ((c+e.2.2:Nat):Int)):=fun v hv=>by
  rw [hD]
  split
  ·rename_i e';subst e';omega
  ·omega
 have hge:∀ v,v<n→-1≤at' D v:=fun v hv=>h.ge hv
 refine⟨by simp [h.lenD],by simp [h.lenV],hzero',by rw [hV,if_neg (Ne.symm hbs)];exact h.none,fun v hv=>?_,fun v hv hne h0=>?_,fun v hv h0=>?_,fun x hx=>?_⟩
 ·by_cases e':v=b
  ·subst e'
   refine .inr ⟨c+e.2.2,by rw [hD,if_pos rfl],?_⟩
   rcases h.reach u hu with h1 | ⟨c1,h1,L,h2,h3⟩
   ·omega
   ·obtain rfl:c1=c:=by omega
    refine⟨u :: L,⟨?_,e,hem,hj,c1,rfl,h2.less hzero' hMn⟩,List.nodup_cons.2 ⟨fun hm=>?_,h3⟩⟩
    ·rw [hD,if_pos rfl];omega
    ·have:=h2.le hm
     omega
  ·rcases h.reach v hv with h1 | ⟨c1,h1,L,h2,h3⟩
   ·exact .inl ⟨by rw [hD,if_neg e'];exact h1.1,by rw [hV,if_neg e'];exact h1.2⟩
   ·exact .inr ⟨c1,by rw [hD,if_neg e'];exact h1,L,h2.less hzero' hMn,h3⟩
 ·by_cases e':v=b
  ·subst e'
   refine⟨i,by rw [hV,if_pos rfl],e,he,?_,?_⟩
   ·rcases hj with ⟨x,y⟩ | ⟨x,y⟩
    ·exact .inr y
    ·exact .inl x
   ·rw [Qe4 hj,hD,hD,if_pos rfl,if_neg hub];omega
  ·rw [hD,if_neg e'] at h0
   obtain⟨i1,k1,e1,k2,k3,k4,k5⟩:=h.via v hv hne h0
   have:=hMn _ k4
   exact⟨i1,by rw [hV,if_neg e'];exact k1,e1,k2,k3,this.1,by rw [hD v,if_neg e'];omega⟩
 ·have hu':∃ k,Go.Proofs.YtalflecmadacaaaGreat.up l (V.set b (i:Int)) k u=s:=by
   obtain⟨k,hk⟩:=h.chain u hu (by omega)
   exact⟨k,by rw [hsame];exact hk⟩
  have hb':∃ k,Go.Proofs.YtalflecmadacaaaGreat.up l (V.set b (i:Int)) k b=s:=by
   obtain⟨k,hk⟩:=hu'
   exact⟨k+1,by show Go.Proofs.YtalflecmadacaaaGreat.up l (V.set b (i:Int)) k (Go.Proofs.YtalflecmadacaaaGreat.par l (V.set b (i:Int)) b)=s;rw [hpb];exact hk⟩
  have hall:∀ k x,Go.Proofs.YtalflecmadacaaaGreat.up l V k x=s→∃ k',Go.Proofs.YtalflecmadacaaaGreat.up l (V.set b (i:Int)) k' x=s:=by
   intro k
   induction k with
   | zero=>intro x hx;exact⟨0,hx⟩
   | succ k ih=>
    intro x hx
    by_cases e':x=b
    ·subst e';exact hb'
    ·obtain⟨k',hk'⟩:=ih (Go.Proofs.YtalflecmadacaaaGreat.par l V x) hx
     exact⟨k'+1,by show Go.Proofs.YtalflecmadacaaaGreat.up l (V.set b (i:Int)) k' (Go.Proofs.YtalflecmadacaaaGreat.par l (V.set b (i:Int)) x)=s;rw [Qk0 hbV _ e'];exact hk'⟩
  by_cases e':v=b
  ·subst e';exact hb'
  ·rw [hD,if_neg e'] at h0
   obtain⟨k,hk⟩:=h.chain v hv h0
   exact hall k v hk
 ·rcases hQ x hx with h1 | h1
  ·subst h1
   exact⟨hb,by rw [hD,if_pos rfl];omega,by rw [hD,if_pos rfl];exact Int.le_refl _⟩
  ·obtain⟨k1,k2,k3⟩:=h.queue x h1
   have:=hMn _ k2
   exact⟨k1,this.1,by omega⟩
theorem Opn.come {l:List Eg}{n:Nat}{D:List Int}{Q:List (Nat × Nat)}{i u b c:Nat}{pl:List Nat}{e:Eg}(h:Opn l n D Q u pl)(hlen:D.length=n)(he:l[i]? = some e)(hj:Jn e u b)(hne:u≠b)(hb:b<n)(hc:at' D u=c)
  (hnew:at' D b = -1∨((c+e.2.2:Nat):Int)<at' D b) {Q':List (Nat × Nat)} (hQ1:(c+e.2.2,b)∈Q') (hQ2:∀ x∈Q,x∈Q'):Opn l n (D.set b ((c+e.2.2:Nat):Int)) Q' u (i :: pl):=by
 have hbD:b<D.length:=by rw [hlen];exact hb
 have hD:∀ v,at' (D.set b ((c+e.2.2:Nat):Int)) v=if v=b then ((c+e.2.2:Nat):Int) else at' D v:=Qba _ hbD
 have hMn:Mn D (D.set b ((c+e.2.2:Nat):Int)):=fun v hv=>by
  rw [hD]
  split
  ·rename_i e';subst e';omega
  ·omega
 intro x hx h0
 by_cases e':x=b
 ·subst e'
  exact .inl ⟨c+e.2.2,by rw [hD,if_pos rfl],hQ1⟩
 ·rw [hD,if_neg e'] at h0
  rcases h x hx h0 with ⟨c1,k1,k2⟩ | k
  ·exact .inl ⟨c1,by rw [hD,if_neg e'];exact k1,hQ2 _ k2⟩
  ·refine .inr fun i1 e1 h1 h2 b1 h3=>?_
   rw [hD x,if_neg e']
   by_cases ei:x=u∧i1=i
   ·obtain⟨rfl,rfl⟩:=ei
    rw [he] at h1
    obtain rfl:=Option.some.inj h1
    have hb1:b1=b:=by
     have:=Qe4 h3.symm
     have:=Qe4 hj.symm
     omega
    subst hb1
    rw [hD,if_pos rfl]
    omega
   ·have:=k i1 e1 h1 (fun hxu=>by
     rcases h2 hxu with h4 | h4
     ·rcases List.mem_cons.1 h4 with h5 | h5
      ·exact absurd ⟨hxu,h5⟩ ei
      ·exact .inl h5
     ·exact .inr h4) b1 h3
    have:=hMn _ this.1
    omega
theorem Opn.skip {l:List Eg}{n:Nat}{D:List Int}{Q:List (Nat × Nat)}{i u b c:Nat}{pl:List Nat}{e:Eg}(h:Opn l n D Q u pl)(he:l[i]? = some e)(hj:Jn e u b)(hc:at' D u=c)(hold:0≤at' D b∧at' D b≤((c+e.2.2:Nat):Int)):Opn l n D Q u (i :: pl):=by
 intro x hx h0
 rcases h x hx h0 with k | k
 ·exact .inl k
 ·refine .inr fun i1 e1 h1 h2 b1 h3=>?_
  by_cases ei:x=u∧i1=i
  ·obtain⟨rfl,rfl⟩:=ei
   rw [he] at h1
   obtain rfl:=Option.some.inj h1
   have hb1:b1=b:=by
    have:=Qe4 h3.symm
    have:=Qe4 hj.symm
    omega
   subst hb1
   omega
  ·exact k i1 e1 h1 (fun hxu=>by
    rcases h2 hxu with h4 | h4
    ·rcases List.mem_cons.1 h4 with h5 | h5
     ·exact absurd ⟨hxu,h5⟩ ei
     ·exact .inl h5
    ·exact .inr h4) b1 h3
theorem Opn.stale {l:List Eg}{n:Nat}{D:List Int}{Q Q':List (Nat × Nat)}{c v:Nat}(h:Opn l n D Q n [])(hst:at' D v≠(c:Int))(hQ:∀ x∈Q,x=(c,v)∨x∈Q'):Opn l n D Q' n []:=by
 intro x hx h0
 rcases h x hx h0 with ⟨c1,k1,k2⟩ | k
 ·refine .inl ⟨c1,k1,(hQ _ k2).resolve_left fun e=>?_⟩
  have e1:=congrArg Prod.fst e
  have e2:=congrArg Prod.snd e
  simp only at e1 e2
  subst e1 e2
  exact hst k1
 ·exact .inr k
theorem Opn.take {l:List Eg}{n:Nat}{D:List Int}{Q Q':List (Nat × Nat)}{c v:Nat}(h:Opn l n D Q n [])(hQ:∀ x∈Q,x=(c,v)∨x∈Q'):Opn l n D Q' v []:=by
 intro x hx h0
 by_cases e:x=v
 ·subst e
  refine .inr fun i e he h2 b hj=>?_
  rcases h2 rfl with h3 | h3
  ·simp at h3
  ·have:b=x:=by rcases hj with ⟨a,b⟩ | ⟨a,b⟩ <;> omega
   subst this
   omega
 ·rcases h x hx h0 with ⟨c1,k1,k2⟩ | k
  ·exact .inl ⟨c1,k1,(hQ _ k2).resolve_left fun e'=>e (congrArg Prod.snd e')⟩
  ·exact .inr fun i e1 h1 _ b hj=>k i e1 h1 (fun hxn=>absurd hxn (by omega)) b hj
theorem Opn.full {l:List Eg}{n:Nat}{D:List Int}{Q:List (Nat × Nat)}{v:Nat}{pl:List Nat}(h:Opn l n D Q v pl)(hpl:∀ (i:Nat) e,l[i]? = some e→(e.1=v∨e.2.1=v)→i∈pl∨e.1=e.2.1):Opn l n D Q n []:=by
 intro x hx h0
 rcases h x hx h0 with k | k
 ·exact .inl k
 ·refine .inr fun i e1 h1 _ b hj=>k i e1 h1 (fun hxv=>?_) b hj
  subst hxv
  exact hpl i e1 h1 (by rcases hj with ⟨a,b⟩ | ⟨a,b⟩;exact .inl a;exact .inr b)
theorem FIT.okc {l:List Eg}{s n:Nat}{D V:List Int}(h:FIT l s n D V [])(ho:Opn l n D [] n [])(hl:∀ e∈l,e.1<n∧e.2.1<n):OKc l s n D V:=by
 have hstep:∀ e∈l,∀ a b,Jn e a b→a<n→0≤at' D a→0≤at' D b∧at' D b≤at' D a+e.2.2:=by
  intro e he a b hj ha h0
  obtain⟨i,hi⟩:=List.getElem?_of_mem he
  rcases ho a ha h0 with ⟨c,_,hc⟩ | k
  ·simp at hc
  ·exact k i e hi (fun hx=>absurd hx (by omega)) b hj
 have hkept:∀ e∈l,Kept D e:=by
  intro e he
  obtain⟨h1,h2⟩:=hl e he
  have a:=hstep e he e.1 e.2.1 (.inl ⟨rfl,rfl⟩) h1
  have b:=hstep e he e.2.1 e.1 (.inr ⟨rfl,rfl⟩) h2
  have c:=h.ge h1
  have c':=h.ge h2
  by_cases k:0≤at' D e.1
  ·exact .inr (by have:=a k;have:=b this.1;omega)
  ·by_cases k':0≤at' D e.2.1
   ·have:=b k';omega
   ·exact .inl (by omega)
 refine⟨QpA h.lenD h.zero hkept fun v hv=>?_,h.lenV,h.none,fun v hv hne=>?_,h.chain⟩
 ·rcases h.reach v hv with h1 | ⟨c,h1,L,h2,_⟩
  ·exact .inl h1.1
  ·exact .inr ⟨L,c,h1,h2.sw⟩
 ·rcases h.reach v hv with h1 | ⟨c,h1,_⟩
  ·exact .inl ⟨by omega,h1.2⟩
  ·have h0:0≤at' D v:=by omega
   obtain⟨i,k1,e,k2,k3,k4,k5⟩:=h.via v hv hne h0
   have hm:=YK k2
   have:=QhS (hkept e hm) (Qe5 k3) k4
   exact .inr ⟨h0,i,k1,e,k2,k3,by omega⟩
def potI (B:Nat)(x:Int):Nat:=if x<0 then B else x.toNat
def potT (B:Nat)(D:List Int):Nat:=(D.map (potI B)).sum
theorem Qkn:∀ (L:List Nat) (i x:Nat) (h:i<L.length),(L.set i x).sum+L[i]=L.sum+x
 | [],i,x,h=>by simp at h
 | y :: L,0,x,h=>by simp;omega
 | y :: L,i+1,x,h=>by
  have:=Qkn L i x (by simpa using h)
  simp at this ⊢
  omega
theorem QmO {B:Nat}{D:List Int}{b:Nat}(hb:b<D.length){x:Nat}(hx:x<B)(hnew:at' D b = -1∨(x:Int)<at' D b):potT B (D.set b (x:Int))<potT B D:=by
 unfold potT
 rw [List.map_set]
 have hl:b<(D.map (potI B)).length:=by simpa using hb
 have h1:=Qkn (D.map (potI B)) b (potI B (x:Int)) hl
 have h2:(D.map (potI B))[b]=potI B (at' D b):=by rw [QbJ hb];simp
 have h3:potI B (x:Int)=x:=by unfold potI;rw [if_neg (by omega)];simp
 have h4:x<potI B (at' D b):=by
  unfold potI
  split <;> omega
 omega
end Go.Proofs.YtalflecmadacaaaGreat
