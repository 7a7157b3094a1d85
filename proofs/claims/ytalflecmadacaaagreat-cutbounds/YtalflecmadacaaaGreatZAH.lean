import Derived.Test.YtalflecmadacaaaGreatZAA
import Derived.Test.YtalflecmadacaaaGreatZAG
import Derived.Test.YtalflecmadacaaaGreatZAE
set_option maxRecDepth 100000
set_option maxHeartbeats 8000000
namespace Go.Proofs.YtalflecmadacaaaGreat
abbrev Eg:=Nat × Nat × Nat
def Jn (e:Eg)(a b:Nat):Prop:=(e.1=a∧e.2.1=b)∨(e.1=b∧e.2.1=a)
theorem Jn.symm {e:Eg}{a b:Nat}(h:Jn e a b):Jn e b a:=h.elim .inr .inl
def SW (l:List Eg)(s:Nat):List Nat→Nat→Prop
 | [],_=>False
 | [v],c=>v=s∧c=0
 | v :: u :: t,c=>∃ e,e∈l∧Jn e u v∧∃ c',c=c'+e.2.2∧SW l s (u :: t) c'
theorem SW.cons {l:List Eg}{s u v:Nat}{t:List Nat}{c:Nat}{e:Eg}(he:e∈l)(hj:Jn e u v)(h:SW l s (u :: t) c):SW l s (v :: u :: t) (c+e.2.2):=⟨e,he,hj,c,rfl,h⟩
theorem SW.one (l:List Eg)(s:Nat):SW l s [s] 0:=⟨rfl,rfl⟩
theorem QoB {l:List Eg}{s:Nat}:∀ {L:List Nat} {c:Nat} {v:Nat},SW l s L c→v∈L→∃ t c',SW l s (v :: t) c'∧c'≤c∧(v :: t).Sublist L
 | [],_,_,h,_=>h.elim
 | [x],c,v,h,hv=>by
  have:v=x:=by simpa using hv
  subst this
  exact⟨[],c,h,YA,List.Sublist.refl _⟩
 | x :: u :: t,c,v,h,hv=>by
  by_cases e:v=x
  ·subst e
   exact⟨u :: t,c,h,YA,List.Sublist.refl _⟩
  ·have hv':v∈u :: t:=by
    rcases List.mem_cons.1 hv with h1 | h1
    ·exact absurd h1 e
    ·exact h1
   obtain⟨e',_,_,c',hc,h'⟩:=h
   obtain⟨t',c'',h1,h2,h3⟩:=QoB h' hv'
   exact⟨t',c'',h1,by omega,h3.cons _⟩
theorem Qee {l:List Eg}{s:Nat}:∀ {L:List Nat} {c:Nat} {v:Nat},SW l s (v :: L) c→∃ t c',SW l s (v :: t) c'∧c'≤c∧(v :: t).Nodup
 | [],c,v,h=>⟨[],c,h,YA,by simp⟩
 | u :: t,c,v,h=>by
  obtain⟨e,he,hj,c',hc,h'⟩:=h
  obtain⟨t1,c1,h1,h2,h3⟩:=Qee h'
  by_cases hv:v∈u :: t1
  ·obtain⟨t2,c2,k1,k2,k3⟩:=QoB h1 hv
   exact⟨t2,c2,k1,by omega,h3.sublist k3⟩
  ·exact⟨u :: t1,c1+e.2.2,h1.cons he hj,by omega,List.nodup_cons.2 ⟨hv,h3⟩⟩
theorem Qnm {l:List Eg}{n s:Nat}(hl:∀ e∈l,e.1<n∧e.2.1<n)(hs:s<n):∀ {L:List Nat} {c:Nat},SW l s L c→∀ v∈L,v<n
 | [],_,h=>h.elim
 | [x],c,h=>by
  intro v hv
  have:v=x:=by simpa using hv
  subst this
  rw [h.1];exact hs
 | x :: u :: t,c,h=>by
  obtain⟨e,he,hj,c',hc,h'⟩:=h
  intro v hv
  rcases List.mem_cons.1 hv with h1 | h1
  ·subst h1
   have:=hl e he
   rcases hj with ⟨a,b⟩ | ⟨a,b⟩ <;> omega
  ·exact Qnm hl hs h' v h1
theorem QcY:∀ (n:Nat)(L:List Nat) ,L.Nodup→(∀ v∈L,v<n)→L.length≤n
 | 0,[],_,_=>YA
 | 0,x :: L,_,h=>absurd (h x (by simp)) (by omega)
 | n+1,L,hn,h=>by
  have h1:(L.erase n).length≤n:=QcY n (L.erase n) (hn.sublist (List.erase_sublist)) fun v hv=>by
   have h2:=(hn.mem_erase_iff).1 hv
   have:=h v h2.2
   have:=h2.1
   omega
  have:=List.length_erase_le (a:=n) (l:=L)
  have h3:L.length-1≤(L.erase n).length:=by
   rw [List.length_erase]
   split <;> omega
  omega
def at' (d:List Int)(v:Nat):Int:=d.getD v (-1)
theorem QbH {d:List Int}{v:Nat}(h:v<d.length):at' d v=d[v]:=by simp [at',h]
theorem QbH? {d:List Int}{v:Nat}(h:v<d.length):d[v]? = some (at' d v):=by simp [at',h]
theorem Qbb {d:List Int}{v:Nat}(x:Int)(h:v<d.length)(u:Nat):at' (d.set v x) u=if u=v then x else at' d u:=by
 unfold at'
 by_cases e:u=v
 ·subst e;simp [List.getD,h]
 ·rw [if_neg e];simp [List.getD,List.getElem?_set_ne (Ne.symm e)]
def IsD (l:List Eg)(s n:Nat)(d:List Int):Prop:=
 d.length=n∧∀ v,v<n→(at' d v = -1∧∀ L c,¬ SW l s (v :: L) c)∨∃ c:Nat,at' d v=c∧(∃ L,SW l s (v :: L) c)∧∀ L c',SW l s (v :: L) c'→c≤c'
def Kept (d:List Int)(e:Eg):Prop:=(at' d e.1<0∧at' d e.2.1=at' d e.1)∨(0≤at' d e.1∧0≤at' d e.2.1∧at' d e.1-at' d e.2.1≤e.2.2∧at' d e.2.1-at' d e.1≤e.2.2)
theorem Qib {d:List Int}{e:Eg}(h:Kept d e){a b:Nat}(hj:Jn e a b)(ha:0≤at' d a):0≤at' d b∧at' d b≤at' d a+e.2.2:=by
 rcases hj with ⟨rfl,rfl⟩ | ⟨rfl,rfl⟩ <;> rcases h with h | h <;> omega
theorem Qo1 {l:List Eg}{s:Nat}{d:List Int}(hs:at' d s=0)(hk:∀ e∈l,Kept d e):∀ {L:List Nat} {v c:Nat},SW l s (v :: L) c→0≤at' d v∧at' d v≤c
 | [],v,c,h=>by rw [h.1,hs,h.2];simp
 | u :: t,v,c,h=>by
  obtain⟨e,he,hj,c',hc,h'⟩:=h
  have h1:=Qo1 hs hk h'
  have h2:=Qib (hk e he) hj h1.1
  omega
theorem QpU {l:List Eg}{s n:Nat}{d:List Int}(hn:d.length=n)(hs:at' d s=0)(hk:∀ e∈l,Kept d e)(hw:∀ v,v<n→at' d v = -1∨∃ L,∃ c:Nat,at' d v=c∧SW l s (v :: L) c):IsD l s n d:=by
 refine⟨hn,fun v hv=>?_⟩
 rcases hw v hv with h | ⟨L,c,h,h'⟩
 ·refine .inl ⟨h,fun L c h'=>?_⟩
  have:=Qo1 hs hk h'
  omega
 ·refine .inr ⟨c,h,⟨L,h'⟩,fun L' c' h''=>?_⟩
  have:=Qo1 hs hk h''
  omega
theorem IsD.zero {l:List Eg}{s n:Nat}{d:List Int}(h:IsD l s n d)(hs:s<n):at' d s=0:=by
 rcases h.2 s hs with ⟨_,b⟩ | ⟨c,a,_,k⟩
 ·exact absurd (SW.one l s) (b [] 0)
 ·have:=k [] 0 (SW.one l s)
  omega
theorem IsD.ge {l:List Eg}{s n:Nat}{d:List Int}(h:IsD l s n d){v:Nat}(hv:v<n): -1≤at' d v:=by
 rcases h.2 v hv with ⟨_,b⟩ | ⟨c,a,_,k⟩ <;> omega
theorem IsD.kept {l:List Eg}{s n:Nat}{d:List Int}(h:IsD l s n d)(hl:∀ e∈l,e.1<n∧e.2.1<n){e:Eg}(he:e∈l):Kept d e:=by
 have hstep:∀ a b,Jn e a b→a<n→b<n→0≤at' d a→0≤at' d b∧at' d b≤at' d a+e.2.2:=by
  intro a b hj ha hb h0
  rcases h.2 a ha with ⟨h1,_⟩ | ⟨c,h1,⟨L,h2⟩,_⟩
  ·omega
  ·have h3:=h2.cons he hj
   rcases h.2 b hb with ⟨_,k2⟩ | ⟨c',k1,_,k3⟩
   ·exact absurd h3 (k2 _ _)
   ·have:=k3 _ _ h3
    omega
 obtain⟨h1,h2⟩:=hl e he
 have a:=hstep e.1 e.2.1 (.inl ⟨rfl,rfl⟩) h1 h2
 have b:=hstep e.2.1 e.1 (.inr ⟨rfl,rfl⟩) h2 h1
 have c:=h.ge h1
 have c':=h.ge h2
 by_cases k:0≤at' d e.1
 ·exact .inr (by have:=a k;have:=b this.1;omega)
 ·by_cases k':0≤at' d e.2.1
  ·have:=b k';omega
  ·exact .inl (by omega)
def oth (e:Eg)(v:Nat):Nat:=if e.1=v then e.2.1 else e.1
theorem Qfh {e:Eg}{v:Nat}(h:e.1=v∨e.2.1=v):Jn e (oth e v) v:=by
 unfold oth Jn
 by_cases k:e.1=v
 ·rw [if_pos k];exact .inr ⟨k,rfl⟩
 ·rw [if_neg k];exact .inl ⟨rfl,h.resolve_left k⟩
theorem Qfg {e:Eg}{a b:Nat}(h:Jn e a b):oth e b=a:=by
 unfold oth
 rcases h with ⟨h1,h2⟩ | ⟨h1,h2⟩
 ·by_cases k:e.1=b
  ·rw [if_pos k];omega
  ·rw [if_neg k];omega
 ·rw [if_pos h1];exact h2
def par (l:List Eg)(via:List Int)(v:Nat):Nat:=if at' via v = -1 then v else oth (l.getD (at' via v).toNat (0,0,0)) v
def up (l:List Eg)(via:List Int):Nat→Nat→Nat
 | 0,v=>v
 | k+1,v=>up l via k (par l via v)
theorem QkI (l:List Eg)(via:List Int):∀ (j k v:Nat),up l via (j+k) v=up l via k (up l via j v)
 | 0,k,v=>by simp [up]
 | j+1,k,v=>by rw [Nat.succ_add];exact QkI l via j k _
theorem QkH (l:List Eg)(via:List Int)(k v:Nat):up l via (k+1) v=par l via (up l via k v):=QkI l via k 1 v
theorem QcS {l:List Eg}{via:List Int}{v:Nat}(h:at' via v = -1):par l via v=v:=if_pos h
def Last (l:List Eg)(d via:List Int)(v:Nat):Prop:=∃ i:Nat,at' via v=i∧∃ e,l[i]? = some e∧(e.1=v∨e.2.1=v)∧at' d (oth e v)=at' d v-e.2.2
theorem Last.par {l:List Eg}{d via:List Int}{v:Nat}(h:Last l d via v):∃ i:Nat,at' via v=i∧∃ e,l[i]? = some e∧e∈l∧Jn e (par l via v) v∧par l via v=oth e v∧at' d (par l via v)=at' d v-e.2.2:=by
 obtain⟨i,hi,e,he,hv,hd⟩:=h
 have hp:Go.Proofs.YtalflecmadacaaaGreat.par l via v=oth e v:=by
  unfold Go.Proofs.YtalflecmadacaaaGreat.par
  rw [if_neg (by omega),hi]
  have:l.getD i (0,0,0)=e:=by simp [List.getD,he]
  rw [YM,this]
 exact⟨i,hi,e,he,YK he,by rw [hp];exact Qfh hv,hp,by rw [hp];exact hd⟩
structure OKc (l:List Eg)(s n:Nat)(d via:List Int):Prop where
 dist:IsD l s n d
 len:via.length=n
 zero:at' via s = -1
 last:∀ v,v<n→v≠s→(at' d v<0∧at' via v = -1)∨(0≤at' d v∧Last l d via v)
 come:∀ v,v<n→0≤at' d v→∃ k,up l via k v=s
theorem QoG {l : List Eg} {d via : List Int} {v n : Nat} (hl : ∀ e ∈ l, e.1 < n ∧ e.2.1 < n) (h : Last l d via v) : par l via v < n := by
  obtain ⟨i, hi, e, he, hm, hj, hp, _⟩ := h.par
  have := hl e hm
  rcases hj with ⟨a, b⟩ | ⟨a, b⟩ <;> omega
def CH (l : List Eg) (via : List Int) (s : Nat) : List Nat → Prop
  | [] => False
  | [v] => v = s
  | v :: u :: t => u = par l via v ∧ CH l via s (u :: t)
theorem Qp4 {l : List Eg} {via : List Int} {s : Nat} : ∀ {L : List Nat} {v : Nat}, CH l via s (v :: L) → up l via L.length v = s
  | [], v, h => h
  | u :: t, v, h => by
    show up l via t.length (par l via v) = s
    rw [← h.1]; exact Qp4 h.2
theorem QoP {l : List Eg} {via : List Int} {s : Nat} : ∀ {L : List Nat} {v : Nat}, CH l via s L → v ∈ L → ∃ t, CH l via s (v :: t) ∧ (v :: t).Sublist L
  | [], _, h, _ => h.elim
  | [x], v, h, hv => by
    have : v = x := by simpa using hv
    subst this
    exact ⟨[], h, List.Sublist.refl _⟩
  | x :: u :: t, v, h, hv => by
    by_cases e : v = x
    · subst e; exact ⟨u :: t, h, List.Sublist.refl _⟩
    · obtain ⟨t', h1, h2⟩ := QoP h.2 ((List.mem_cons.1 hv).resolve_left e)
      exact ⟨t', h1, h2.cons _⟩
theorem Qp5 {l : List Eg} {via : List Int} {s : Nat} : ∀ (k v : Nat), up l via k v = s → ∃ t, CH l via s (v :: t) ∧ (v :: t).Nodup
  | 0, v, h => ⟨[], h, by simp⟩
  | k + 1, v, h => by
    obtain ⟨t, h1, h2⟩ := Qp5 k (par l via v) h
    by_cases hv : v ∈ par l via v :: t
    · obtain ⟨t', h3, h4⟩ := QoP h1 hv
      exact ⟨t', h3, h2.sublist h4⟩
    · exact ⟨par l via v :: t, ⟨rfl, h1⟩, List.nodup_cons.2 ⟨hv, h2⟩⟩
theorem OKc.short {l : List Eg} {s n : Nat} {d via : List Int} (h : OKc l s n d via) (hl : ∀ e ∈ l, e.1 < n ∧ e.2.1 < n) (hs : s < n) {v : Nat} (hv : v < n) (h0 : 0 ≤ at' d v) : ∃ t, CH l via s (v :: t) ∧ t.length < n := by
  obtain ⟨k, hk⟩ := h.come v hv h0
  obtain ⟨t, h1, h2⟩ := Qp5 k v hk
  have hall : ∀ (t : List Nat) (v : Nat), v < n → CH l via s (v :: t) → ∀ x ∈ v :: t, x < n := by
    intro t
    induction t with
    | nil => intro v hv _ x hx; have : x = v := by simpa using hx
             omega
    | cons u t ih =>
      intro v hv hc x hx
      rcases List.mem_cons.1 hx with h1 | h1
      · omega
      · refine ih u ?_ hc.2 x h1
        rw [hc.1]
        by_cases e : v = s
        · subst e; rw [QcS h.zero]; exact hv
        · rcases h.last v hv e with h2 | ⟨_, h2⟩
          · rw [QcS h2.2]; exact hv
          · exact QoG hl h2
  have := QcY n _ h2 (hall t v hv h1)
  exact ⟨t, h1, by simp at this; omega⟩
theorem QiI {l : List Eg} {s s' : Nat} {e : Eg} (he : e ∈ l) (hj : Jn e s' s) : ∀ {L : List Nat} {v c : Nat}, SW l s (v :: L) c → ∃ L', SW l s' (v :: L') (c + e.2.2)
  | [], v, c, h => by
    obtain ⟨rfl, rfl⟩ := h
    exact ⟨[s'], (SW.one l s').cons he hj⟩
  | u :: t, v, c, h => by
    obtain ⟨e', he', hj', c', hc, h'⟩ := h
    obtain ⟨L', h1⟩ := QiI he hj h'
    refine ⟨u :: L', ?_⟩
    have := h1.cons he' hj'
    rwa [show c' + e.2.2 + e'.2.2 = c + e.2.2 by omega] at this
theorem QkT {l : List Eg} {s : Nat} : ∀ {L : List Nat} {v c : Nat}, SW l s (v :: L) c → ∃ L', SW l v (s :: L') c
  | [], v, c, h => by
    obtain ⟨rfl, rfl⟩ := h
    exact ⟨[], SW.one l v⟩
  | u :: t, v, c, h => by
    obtain ⟨e', he', hj', c', hc, h'⟩ := h
    obtain ⟨L', h1⟩ := QkT h'
    obtain ⟨L'', h2⟩ := QiI he' hj'.symm h1
    exact ⟨L'', hc ▸ h2⟩
def rel1 (d : List Int) (a b w : Nat) : List Int := if 0 ≤ at' d a ∧ (at' d b < 0 ∨ at' d a + w < at' d b) then d.set b (at' d a + w) else d
def relE (d : List Int) (e : Eg) : List Int := rel1 (rel1 d e.1 e.2.1 e.2.2) e.2.1 e.1 e.2.2
def relL (d : List Int) (l : List Eg) : List Int := l.foldl relE d
def relN (l : List Eg) (d : List Int) : Nat → List Int
  | 0 => d
  | i + 1 => relL (relN l d i) l
theorem QfN (d : List Int) (a b w : Nat) : (rel1 d a b w).length = d.length := by unfold rel1; split <;> simp
theorem QiU (d : List Int) (e : Eg) : (relE d e).length = d.length := by unfold relE; rw [QfN, QfN]
theorem QiT : ∀ (l : List Eg) (d : List Int), (relL d l).length = d.length
  | [], _ => rfl
  | e :: l, d => (QiT l (relE d e)).trans (QiU d e)
theorem QiS (l : List Eg) (d : List Int) : ∀ i, (relN l d i).length = d.length
  | 0 => rfl
  | i + 1 => (QiT l _).trans (QiS l d i)
theorem Qli {d : List Int} {l : List Eg} {k : Nat} (h : k < l.length) : relL d (l.take (k + 1)) = relE (relL d (l.take k)) l[k] := by
  unfold relL
  rw [List.take_succ_eq_append_getElem h, List.foldl_append]
  rfl
structure BF (l : List Eg) (s n : Nat) (b : Nat) (d : List Int) : Prop where
  len : d.length = n
  zero : at' d s = 0
  reach : ∀ v, v < n → at' d v = -1 ∨ ∃ L, ∃ c : Nat, at' d v = c ∧ SW l s (v :: L) c
  few : ∀ v, at' d v ≤ b
theorem BF.mono {l : List Eg} {s n b b' : Nat} {d : List Int} (h : BF l s n b d) (hb : b ≤ b') : BF l s n b' d := ⟨h.len, h.zero, h.reach, fun v => by have := h.few v; omega⟩
theorem BF.rel1 {l : List Eg} {s n b : Nat} {d : List Int} (h : BF l s n b d) {e : Eg} (he : e ∈ l) {x y : Nat} (hj : Jn e x y) (hx : x < n) (hy : y < n) : BF l s n (b + e.2.2) (rel1 d x y e.2.2) := by
  unfold Go.Proofs.YtalflecmadacaaaGreat.rel1
  split
  · rename_i hc
    have hlt : y < d.length := by rw [h.len]; exact hy
    refine ⟨by simp [h.len], ?_, fun v hv => ?_, fun v => ?_⟩
    · rw [Qbb _ hlt]
      split
      · rename_i e'; subst e'; have := h.zero; omega
      · exact h.zero
    · rw [Qbb _ hlt]
      split
      · rename_i e'; subst e'
        rcases h.reach x hx with h1 | ⟨L, c, h1, h2⟩
        · omega
        · exact .inr ⟨_, c + e.2.2, by omega, h2.cons he hj⟩
      · exact h.reach v hv
    · rw [Qbb _ hlt]
      have := h.few v
      have := h.few x
      split <;> omega
  · exact h.mono (by omega)
theorem BF.relE {l : List Eg} {s n b : Nat} {d : List Int} (h : BF l s n b d) {e : Eg} (he : e ∈ l) (hl : ∀ e ∈ l, e.1 < n ∧ e.2.1 < n) : BF l s n (b + 2 * e.2.2) (relE d e) := by
  have h1 := h.rel1 he (.inl ⟨rfl, rfl⟩) (hl e he).1 (hl e he).2
  have h2 := h1.rel1 he (.inr ⟨rfl, rfl⟩) (hl e he).2 (hl e he).1
  exact h2.mono (by omega)
theorem BF.relL {l : List Eg} {s n b M : Nat} {d : List Int} (h : BF l s n b d) (hl : ∀ e ∈ l, e.1 < n ∧ e.2.1 < n) (hM : ∀ e ∈ l, e.2.2 ≤ M) : ∀ k, k ≤ l.length → BF l s n (b + k * (2 * M)) (relL d (l.take k))
  | 0, _ => by simpa [Go.Proofs.YtalflecmadacaaaGreat.relL] using h
  | k + 1, hk => by
    have h1 := BF.relL h hl hM k (by omega)
    have hm := YG (l := l) (n := k) (by omega)
    rw [Qli (by omega)]
    refine (h1.relE hm hl).mono ?_
    have := hM _ hm
    have e1 : (k + 1) * (2 * M) = k * (2 * M) + 2 * M := Nat.succ_mul _ _
    omega
theorem BF.relN {l : List Eg} {s n b M : Nat} {d : List Int} (h : BF l s n b d) (hl : ∀ e ∈ l, e.1 < n ∧ e.2.1 < n) (hM : ∀ e ∈ l, e.2.2 ≤ M) : ∀ i, BF l s n (b + i * (l.length * (2 * M))) (relN l d i)
  | 0 => by simpa [Go.Proofs.YtalflecmadacaaaGreat.relN] using h
  | i + 1 => by
    have h1 := (BF.relN h hl hM i).relL hl hM l.length YA
    rw [List.take_length] at h1
    refine BF.mono h1 ?_
    have e1 : (i + 1) * (l.length * (2 * M)) = i * (l.length * (2 * M)) + l.length * (2 * M) := Nat.succ_mul _ _
    omega
def Mn (d d' : List Int) : Prop := ∀ v, 0 ≤ at' d v → 0 ≤ at' d' v ∧ at' d' v ≤ at' d v
theorem Mn.refl (d : List Int) : Mn d d := fun _ h => ⟨h, Int.le_refl _⟩
theorem Mn.trans {a b c : List Int} (h : Mn a b) (h' : Mn b c) : Mn a c := fun v hv => by
  have := h v hv
  have := h' v this.1
  omega
theorem Qlk (d : List Int) {a b w : Nat} (hb : b < d.length) : Mn d (rel1 d a b w) ∧ (0 ≤ at' d a → 0 ≤ at' (rel1 d a b w) b ∧ at' (rel1 d a b w) b ≤ at' d a + w) := by
  unfold rel1
  split
  · rename_i hc
    refine ⟨fun v hv => ?_, fun h => ?_⟩
    · rw [Qbb _ hb]
      split
      · rename_i e; subst e; omega
      · omega
    · rw [Qbb _ hb, if_pos rfl]; omega
  · exact ⟨Mn.refl d, fun h => by omega⟩
theorem Qpb (d : List Int) (e : Eg) (h1 : e.1 < d.length) (h2 : e.2.1 < d.length) : Mn d (relE d e) ∧ ∀ a b, Jn e a b → 0 ≤ at' d a → 0 ≤ at' (relE d e) b ∧ at' (relE d e) b ≤ at' d a + e.2.2 := by
  unfold relE
  obtain ⟨m1, k1⟩ := Qlk d (a := e.1) (w := e.2.2) h2
  obtain ⟨m2, k2⟩ := Qlk (rel1 d e.1 e.2.1 e.2.2) (a := e.2.1) (w := e.2.2) (b := e.1) (by rw [QfN]; exact h1)
  refine ⟨m1.trans m2, fun a b hj ha => ?_⟩
  rcases hj with ⟨rfl, rfl⟩ | ⟨rfl, rfl⟩
  · have x := k1 ha
    have := m2 _ x.1
    omega
  · have x := m1 _ ha
    have := k2 x.1
    omega
theorem Qlj : ∀ (l : List Eg) (d : List Int), (∀ e ∈ l, e.1 < d.length ∧ e.2.1 < d.length) → Mn d (relL d l) ∧ ∀ e ∈ l, ∀ a b, Jn e a b → 0 ≤ at' d a → 0 ≤ at' (relL d l) b ∧ at' (relL d l) b ≤ at' d a + e.2.2
  | [], d, _ => ⟨Mn.refl d, fun e he => by simp at he⟩
  | e :: l, d, h => by
    obtain ⟨m1, k1⟩ := Qpb d e (h e (by simp)).1 (h e (by simp)).2
    obtain ⟨m2, k2⟩ := Qlj l (relE d e) (fun x hx => by rw [QiU]; exact h x (by simp [hx]))
    refine ⟨m1.trans m2, fun x hx a b hj ha => ?_⟩
    rcases List.mem_cons.1 hx with rfl | hx
    · have y := k1 a b hj ha
      have := m2 _ y.1
      show 0 ≤ at' (relL (relE d x) l) b ∧ at' (relL (relE d x) l) b ≤ _
      omega
    · have y := m1 _ ha
      have := k2 x hx a b hj y.1
      show 0 ≤ at' (relL (relE d e) l) b ∧ at' (relL (relE d e) l) b ≤ _
      omega
theorem Qlh {l : List Eg} {s n : Nat} {d : List Int} {b M : Nat} (h : BF l s n b d) (hl : ∀ e ∈ l, e.1 < n ∧ e.2.1 < n) (hM : ∀ e ∈ l, e.2.2 ≤ M) : ∀ (i : Nat) (L : List Nat) (v c : Nat), L.length ≤ i → SW l s (v :: L) c → 0 ≤ at' (relN l d i) v ∧ at' (relN l d i) v ≤ c := by
  intro i
  induction i with
  | zero =>
    intro L v c hL hw
    obtain rfl := List.eq_nil_of_length_eq_zero (Nat.le_zero.1 hL)
    obtain ⟨rfl, rfl⟩ := hw
    have : at' (relN l d 0) v = 0 := h.zero
    omega
  | succ i ih =>
    intro L v c hL hw
    have hB := h.relN hl hM (i + 1)
    match L, hw with
    | [], hw =>
      obtain ⟨rfl, rfl⟩ := hw
      have := hB.zero
      omega
    | u :: t, hw =>
      obtain ⟨e, he, hj, c', hc, h'⟩ := hw
      have h1 := ih t u c' (by simp at hL; omega) h'
      have h2 := (Qlj l (relN l d i) (fun x hx => by rw [QiS, h.len]; exact hl x hx)).2 e he u v hj h1.1
      show 0 ≤ at' (relL (relN l d i) l) v ∧ at' (relL (relN l d i) l) v ≤ c
      omega
theorem QnA {l : List Eg} {s n : Nat} {d : List Int} {b M : Nat} (hs : s < n) (h : BF l s n b d) (hl : ∀ e ∈ l, e.1 < n ∧ e.2.1 < n) (hM : ∀ e ∈ l, e.2.2 ≤ M) : IsD l s n (relN l d n) := by
  have hB := h.relN hl hM n
  have hle : ∀ L v c, SW l s (v :: L) c → 0 ≤ at' (relN l d n) v ∧ at' (relN l d n) v ≤ c := by
    intro L v c hw
    obtain ⟨t, c', h1, h2, h3⟩ := Qee hw
    have h4 := QcY n _ h3 (Qnm hl hs h1)
    have := Qlh h hl hM n t v c' (by simp at h4; omega) h1
    omega
  refine ⟨hB.len, fun v hv => ?_⟩
  rcases hB.reach v hv with h1 | ⟨L, c, h1, h2⟩
  · exact .inl ⟨h1, fun L c hw => by have := hle L v c hw; omega⟩
  · exact .inr ⟨c, h1, ⟨L, h2⟩, fun L' c' hw => by have := hle L' v c' hw; omega⟩
def negs (n : Nat) : List Int := List.replicate n (-1)
theorem Qgl (n v : Nat) : at' (negs n) v = -1 := by
  unfold at' negs
  by_cases h : v < n
  · simp [h]
  · simp [List.getD, h]
def dist0 (n s : Nat) : List Int := (negs n).set s 0
theorem Qoo (l : List Eg) {s n : Nat} (hs : s < n) : BF l s n 0 (dist0 n s) := by
  have hlen : s < (negs n).length := by simpa [negs] using hs
  refine ⟨by simp [dist0, negs], ?_, fun v hv => ?_, fun v => ?_⟩
  · unfold dist0; rw [Qbb _ hlen, if_pos rfl]
  · unfold dist0; rw [Qbb _ hlen]
    split
    · rename_i e; subst e; exact .inr ⟨[], 0, rfl, SW.one l v⟩
    · exact .inl (Qgl n v)
  · unfold dist0; rw [Qbb _ hlen, Qgl]; split <;> omega
def RiseP (l:List Int)(n:Int):Prop:=(∀ x∈l,0≤x∧x<n)∧l.Pairwise (· < ·)
def rsB (l:List Int)(n:Int):Bool:=(l.all fun x=>decide (0≤x∧x<n)) && decide (l.Pairwise (· < ·))
theorem rs_iff {l:List Int}{n:Int}:rsB l n=true↔RiseP l n:=by simp [rsB,RiseP]
theorem QoE {l:List Int}{n:Int}(h:¬ RiseP l n):rsB l n=false:=by rw [← Bool.not_eq_true,rs_iff];exact h
def RIT (l:List Int)(n:Int)(k:Nat)(least:Int):Prop:=RiseP (l.take k) n∧0≤least∧(∀ x∈l.take k,x<least)∧(least=0∨∃ j,j<k∧l[j]? = some (least-1))
theorem RIT.start (l:List Int)(n:Int):RIT l n 0 0:=⟨⟨by simp,by simp⟩,Int.le_refl _,by simp,.inl rfl⟩
theorem RIT.next {l:List Int}{n:Int}{k:Nat}{least:Int}(h:RIT l n k least)(hk:k<l.length)(h1:least≤l[k])(h2:l[k]<n):RIT l n (k+1) (l[k]+1):=by
 obtain⟨⟨a,b⟩,c,d,e⟩:=h
 refine⟨⟨?_,?_⟩,by omega,?_,.inr ⟨k,by omega,by rw [YB hk];congr 1;omega⟩⟩
 ·intro x hx
  rw [List.take_succ_eq_append_getElem hk,List.mem_append] at hx
  rcases hx with hx | hx
  ·exact a x hx
  ·rw [YF hx];omega
 ·rw [List.take_succ_eq_append_getElem hk,List.pairwise_append]
  refine⟨b,by simp,fun x hx y hy=>?_⟩
  rw [YF hy]
  have:=d x hx
  omega
 ·intro x hx
  rw [List.take_succ_eq_append_getElem hk,List.mem_append] at hx
  rcases hx with hx | hx
  ·have:=d x hx;omega
  ·rw [YF hx];omega
theorem RIT.low {l:List Int}{n:Int}{k:Nat}{least:Int}(h:RIT l n k least)(hk:k<l.length)(h1:l[k]<least):rsB l n=false:=by
 refine QoE fun ⟨a,b⟩=>?_
 obtain⟨_,c,d,e⟩:=h
 rcases e with e | ⟨j,hj,e⟩
 ·have:=(a l[k] (YG hk)).1;omega
 ·obtain⟨hj',e⟩:=YE e
  have:=List.pairwise_iff_getElem.1 b j k hj' hk hj
  omega
theorem RIT.high {l:List Int}{n:Int}{k:Nat}(hk:k<l.length)(h1:n≤l[k]):rsB l n=false:=
 QoE fun ⟨a,_⟩=>by have:=(a l[k] (YG hk)).2;omega
theorem RIT.done {l:List Int}{n:Int}{least:Int}(h:RIT l n l.length least):rsB l n=true:=by
 rw [rs_iff]
 have:=h.1
 rwa [List.take_length] at this
def Qcr (L:List Eg)(i:Int):Eg:=L.getD i.toNat (0,0,0)
theorem Qcb {L:List Eg}{i:Nat}{e:Eg}(h:L[i]? = some e):Qcr L (i:Int)=e:=by simp [Qcr,h]
def tog (e:Eg)(v:Nat):Bool:=(e.1==v) ^^ (e.2.1==v)
def oddA (L:List Eg)(B:List Int)(v:Nat):Bool:=B.foldr (fun i b=>tog (Qcr L i) v ^^ b) false
theorem QcX (L:List Eg)(v:Nat):oddA L [] v=false:=rfl
theorem QaI (L:List Eg)(i:Int)(B:List Int)(v:Nat):oddA L (i :: B) v=(tog (Qcr L i) v ^^ oddA L B v):=rfl
theorem Qh1 (L:List Eg)(A B:List Int)(v:Nat):oddA L (A++B) v=(oddA L A v ^^ oddA L B v):=by
 induction A with
 | nil=>simp [QcX]
 | cons i A ih=>rw [List.cons_append,QaI,QaI,ih,Bool.xor_assoc]
theorem QgU {L:List Eg}{A B:List Int}(h:A.Perm B)(v:Nat):oddA L A v=oddA L B v:=by
 induction h with
 | nil=>rfl
 | cons x _ ih=>rw [QaI,QaI,ih]
 | swap x y l=>rw [QaI,QaI,QaI,QaI,← Bool.xor_assoc,← Bool.xor_assoc,Bool.xor_comm (tog (Qcr L y) v)]
 | trans _ _ h1 h2=>exact h1.trans h2
theorem QgT (L:List Eg)(A:List Int)(v:Nat):oddA L A.reverse v=oddA L A v:=QgU (List.reverse_perm A) v
def oddT (N:Nat)(L:List Eg)(B:List Int):List Bool:=(List.range N).map (oddA L B)
theorem Qbd (N:Nat)(L:List Eg)(B:List Int):(oddT N L B).length=N:=by simp [oddT]
theorem Qph {N:Nat}{L:List Eg}{B:List Int}{v:Nat}(h:v<N):(oddT N L B)[v]? = some (oddA L B v):=by simp [oddT,h]
theorem QnI (N:Nat)(L:List Eg):oddT N L []=List.replicate N false:=by
 apply List.ext_getElem <;> simp [oddT,QcX]
def bAt (T:List Bool)(v:Nat):Bool:=T.getD v false
theorem bAt_get? {T:List Bool}{v:Nat}(h:v<T.length):T[v]? = some (bAt T v):=by simp [bAt,h]
theorem QpC {T:List Bool}{v:Nat}{x:Bool}(h:v<T.length)(u:Nat):bAt (T.set v x) u=if u=v then x else bAt T u:=by
 unfold bAt
 by_cases e:u=v
 ·subst e;simp [List.getD,h]
 ·rw [if_neg e];simp [List.getD,List.getElem?_set_ne (Ne.symm e)]
theorem QcW {N:Nat}{L:List Eg}{B:List Int}{v:Nat}(h:v<N):bAt (oddT N L B) v=oddA L B v:=by
 unfold bAt
 rw [YC,Qph h];rfl
theorem Qm6 {A B:List Bool}(hl:A.length=B.length)(h:∀ v,v<A.length→bAt A v=bAt B v):A=B:=by
 apply List.ext_getElem hl
 intro i h1 h2
 have:=h i h1
 simpa [bAt,h1,h2] using this
def flipB (T:List Bool)(v:Nat):List Bool:=T.set v (!bAt T v)
theorem QaN (T:List Bool)(v:Nat):(flipB T v).length=T.length:=by simp [flipB]
theorem Qdb {T:List Bool}{v:Nat}(h:v<T.length)(u:Nat):bAt (flipB T v) u=(bAt T u ^^ (v==u)):=by
 unfold flipB
 rw [QpC h]
 by_cases e:u=v
 ·subst e;simp
 ·rw [if_neg e]
  have:(v==u)=false:=by rw [beq_eq_false_iff_ne];omega
  rw [this,Bool.xor_false]
theorem QlH {N:Nat}{L:List Eg}{B:List Int}{i:Int}(h1:(Qcr L i).1<N)(h2:(Qcr L i).2.1<N):flipB (flipB (oddT N L B) (Qcr L i).1) (Qcr L i).2.1=oddT N L (B++[i]):=by
 refine Qm6 (by rw [QaN,QaN,Qbd,Qbd]) fun v hv=>?_
 rw [QaN,QaN,Qbd] at hv
 rw [Qdb (by rw [QaN,Qbd];exact h2),Qdb (by rw [Qbd];exact h1),QcW hv,QcW hv,Qh1,QaI,QcX,Bool.xor_false]
 unfold tog
 rw [Bool.xor_assoc]
def trueK (T:List Bool)(k:Nat):List Int:=((List.range k).filter fun i=>bAt T i).map fun i:Nat=>(i:Int)
def trueL (T:List Bool):List Int:=trueK T T.length
theorem Qfa (T:List Bool)(k:Nat):trueK T (k+1)=trueK T k++if bAt T k then [(k:Int)] else []:=by
 unfold trueK
 rw [List.range_succ,List.filter_append,List.map_append]
 by_cases h:bAt T k <;> simp [h]
theorem Qed (T:List Bool)(k:Nat):(trueK T k).length≤k:=by
 unfold trueK
 rw [List.length_map]
 have:=List.length_filter_le (fun i=>bAt T i) (List.range k)
 simpa using this
theorem trueK_mem {T:List Bool}{k:Nat}{x:Int}:x∈trueK T k↔∃ i:Nat,x=i∧i<k∧bAt T i=true:=by
 unfold trueK
 simp only [List.mem_map,List.mem_filter,List.mem_range]
 constructor
 ·rintro⟨i,⟨h1,h2⟩,rfl⟩;exact⟨i,rfl,h1,h2⟩
 ·rintro⟨i,rfl,h1,h2⟩;exact⟨i,⟨h1,h2⟩,rfl⟩
theorem Qcf (T:List Bool):∀ k:Nat,(trueK T k).Pairwise (· < ·)
 | 0=>by simp [trueK]
 | k+1=>by
  rw [Qfa,List.pairwise_append]
  refine⟨Qcf T k,by split <;> simp,fun x hx y hy=>?_⟩
  obtain⟨i,rfl,h1,_⟩:=trueK_mem.1 hx
  split at hy
  ·rw [YF hy];omega
  ·simp at hy
theorem trueL_mem {T:List Bool}{x:Int}:x∈trueL T↔∃ i:Nat,x=i∧i<T.length∧bAt T i=true:=trueK_mem
def plcB (m:Nat)(B:List Int):Bool:=B.all fun x=>decide (0≤x∧x<(m:Int))
theorem plc_iff {m:Nat}{B:List Int}:plcB m B=true↔∀ x∈B,0≤x∧x<(m:Int):=by simp [plcB]
def oddV (N:Nat)(L:List Eg)(B:List Int):List Int:=trueL (oddT N L B)
theorem QiP:∀ {A B:List Int} ,A.Pairwise (· < ·)→B.Pairwise (· < ·)→(∀ x,x∈A↔x∈B)→A=B
 | [],[],_,_,_=>rfl
 | [],b :: B,_,_,h=>absurd ((h b).2 (by simp)) (by simp)
 | a :: A,[],_,_,h=>absurd ((h a).1 (by simp)) (by simp)
 | a :: A,b :: B,ha,hb,h=>by
  rw [List.pairwise_cons] at ha hb
  have hab:a=b:=by
   have h1:=(h a).1 (by simp)
   have h2:=(h b).2 (by simp)
   rcases List.mem_cons.1 h1 with e | h1
   ·exact e
   ·rcases List.mem_cons.1 h2 with e | h2
    ·exact e.symm
    ·have:=ha.1 b h2
     have:=hb.1 a h1
     omega
  subst hab
  congr 1
  refine QiP ha.2 hb.2 fun x=>⟨fun hx=>?_,fun hx=>?_⟩
  ·have:=ha.1 x hx
   rcases List.mem_cons.1 ((h x).1 (by simp [hx])) with e | e
   ·omega
   ·exact e
  ·have:=hb.1 x hx
   rcases List.mem_cons.1 ((h x).2 (by simp [hx])) with e | e
   ·omega
   ·exact e
open Go Go.Proofs
def negB (e:Ed):Bool:=decide (e.2.2<0)
def sumC (l:List Ed)(k:Nat):Int:=((l.take k).map fun e=>e.2.2).sum
theorem QgC {l:List Ed}{k:Nat}(h:k<l.length):sumC l (k+1)=sumC l k+l[k].2.2:=by
 unfold sumC
 rw [List.take_succ_eq_append_getElem h,List.map_append,List.sum_append]
 simp
theorem QfI {l:List Ed}(h:∀ e∈l,-2147483648≤e.2.2∧e.2.2≤2147483648):∀ k:Nat,k≤l.length→-((k:Int)*2147483648)≤sumC l k∧sumC l k≤(k:Int)*2147483648:=by
 intro k
 induction k with
 | zero=>intro _;simp [sumC]
 | succ k ih=>
  intro hk
  have ih':=ih (by omega)
  have h1:=h l[k] (YG (by omega))
  rw [QgC (by omega)]
  generalize sumC l k=s at *
  generalize l[k].2.2=t at *
  omega
open Go Go.Proofs Go.RowKit
def wtI (l:List Ed)(x:Int):Int:=(l.getD x.toNat (0,0,0)).2.2
def lowF (l:List Ed)(a:Int)(b:List Int):Int:=b.foldl (fun s x=>min s (wtI l x)) a
theorem QeE (l:List Ed)(a x:Int)(b:List Int):lowF l a (x :: b)=lowF l (min a (wtI l x)) b:=rfl
theorem QgX (l:List Ed)(a x:Int)(b:List Int):lowF l a (b++[x])=min (lowF l a b) (wtI l x):=by
 unfold lowF
 rw [List.foldl_append]
 rfl
theorem Qi6 (l:List Ed){lo hi:Int}:∀ {b:List Int} {a:Int},lo≤a→a≤hi→(∀ x∈b,lo≤wtI l x)→lo≤lowF l a b∧lowF l a b≤hi
 | [],a,h1,h2,_=>⟨h1,h2⟩
 | x :: b,a,h1,h2,h3=>by
  rw [QeE]
  have:=h3 x (List.mem_cons_self ..)
  exact Qi6 l (by omega) (by omega) fun y hy=>h3 y (List.mem_cons_of_mem _ hy)
def lowW (l:List Ed)(b:List Int):Int:=lowF l (wtI l (b.headD 0)) b
theorem Qpl {l:List Ed}{m:Int}:∀ {b:List Int},b≠[]→(∀ x∈b,wtI l x≤m)→lowF l m b=lowW l b
 | [],h,_=>absurd rfl h
 | x :: b,_,h=>by
  unfold lowW
  rw [QeE,QeE]
  have:=h x (List.mem_cons_self ..)
  rw [Int.min_eq_right this]
  show _=lowF l (min (wtI l x) (wtI l x)) b
  rw [Int.min_self]
def offB (l:List Ed)(q:List Int→Bool)(G:List (List Int))(j:Nat):Int:=((G.take j).map fun b=>if q b then lowW l b else 0).sum
theorem Qev (l:List Ed)(q:List Int→Bool)(G:List (List Int)):offB l q G 0=0:=by simp [offB]
theorem Qew {l:List Ed}{q:List Int→Bool}{G:List (List Int)}{j:Nat}(h:j<G.length):offB l q G (j+1)=offB l q G j+(if q G[j] then lowW l G[j] else 0):=by
 unfold offB
 rw [List.take_succ_eq_append_getElem h,List.map_append,List.sum_append]
 simp
theorem Qi0 {l:List Ed}{q:List Int→Bool}{G:List (List Int)}(h:∀ b∈G,0≤lowW l b∧lowW l b≤2147483648):∀ j:Nat,j≤G.length→0≤offB l q G j∧offB l q G j≤(j:Int)*2147483648:=by
 intro j
 induction j with
 | zero=>intro _;rw [Qev];omega
 | succ j ih=>
  intro hj
  have ih':=ih (by omega)
  have h1:=h G[j] (YG (by omega))
  rw [Qew (by omega)]
  generalize offB l q G j=s at *
  split <;> omega
theorem QjW {l:List Ed}{q q':List Int→Bool}{G:List (List Int)}(h:∀ b∈G,q b=q' b)(j:Nat):offB l q G j=offB l q' G j:=by
 unfold offB
 rw [List.map_congr_left fun b hb=>by rw [h b (List.mem_of_mem_take hb)]]
def sumB (l:List Ed)(b:List Int)(k:Nat):Int:=((b.take k).map (wtI l)).sum
theorem QkY {l:List Ed}{b:List Int}{k:Nat}(h:k<b.length):sumB l b (k+1)=sumB l b k+wtI l b[k]:=by
 unfold sumB
 rw [List.take_succ_eq_append_getElem h,List.map_append,List.sum_append]
 simp
def sumG (l:List Ed)(G:List (List Int))(j:Nat):Int:=((G.take j).flatten.map (wtI l)).sum
theorem QkX {l:List Ed}{G:List (List Int)}{j:Nat}(h:j<G.length):sumG l G (j+1)=sumG l G j+sumB l G[j] G[j].length:=by
 unfold sumG sumB
 rw [List.take_succ_eq_append_getElem h,List.flatten_append,List.map_append,List.sum_append,List.take_length]
 simp
theorem QgA {f:Int→Int}{a b:List Int}(h:a.Perm b):(a.map f).sum=(b.map f).sum:=by
 induction h with
 | nil=>rfl
 | cons x _ ih=>simp only [List.map_cons,List.sum_cons,ih]
 | swap x y l=>simp only [List.map_cons,List.sum_cons];omega
 | trans _ _ ih1 ih2=>rw [ih1,ih2]
theorem Qnp (l:List Ed):sumC l l.length=(((List.range l.length).map fun (k:Nat)=>(k:Int)).map (wtI l)).sum:=by
 unfold sumC
 rw [List.take_length,List.map_map]
 congr 1
 apply List.ext_getElem
 ·simp
 ·intro i h1 h2
  have h3:i<l.length:=by simpa using h1
  simp [wtI,h3]
theorem Qno {l:List Ed}{L:List Int}(hL:L.length=l.length):sumG l (gOf L) (gOf L).length=sumC l l.length:=by
 rw [Qnp]
 unfold sumG
 rw [List.take_length]
 refine QgA ?_
 refine (List.perm_iff_count).2 fun x=>?_
 by_cases hx:∃ p:Nat,x=(p:Int)∧p<L.length
 ·obtain⟨p,rfl,hp⟩:=hx
  rw [Qfy hp]
  refine (QbS (List.Pairwise.map _ (fun a b h=>by omega) List.nodup_range) ?_).symm
  exact List.mem_map.2 ⟨p,List.mem_range.2 (by omega),rfl⟩
 ·rw [List.count_eq_zero.2 (fun h=>hx (Qds h)),List.count_eq_zero.2]
  intro h
  obtain⟨p,hp,rfl⟩:=List.mem_map.1 h
  exact hx ⟨p,rfl,by have:=List.mem_range.1 hp;omega⟩
def pick (l:List Ed)(b:List Int):List Ed:=b.map fun x=>l.getD x.toNat (0,0,0)
theorem Qet (l:List Ed)(L:List Int)(u:Int):pick l (memb L u l.length)=blkOf l L u:=by
 unfold pick memb blkOf
 rw [List.map_map]
 congr 1
def keptE (l:List Ed)(SD:List Bool)(x:Int):Bool:=bAt SD (l.getD x.toNat (0,0,0)).1.toNat==bAt SD (l.getD x.toNat (0,0,0)).2.1.toNat
theorem Qn4 {N:Nat}{l:List Ed}(hR:RightG (N:Int) l){SD:List Bool}(hSD:∀ u v,Adj l u v→Conn (l.filter fun e=>bAt SD e.1.toNat != bAt SD e.2.1.toNat) u v)(u:Int):
  (memb (walkW N l).block u l.length).any (keptE l SD)=true↔¬ ∃ col:Nat→Bool,∀ a b,Adj (pick l (memb (walkW N l).block u l.length)) a b→col a≠col b:=by
 rw [Qet]
 constructor
 ·intro h
  obtain⟨x,hx,h2⟩:=List.any_eq_true.1 h
  rintro⟨col,hc⟩
  obtain⟨p,rfl,hp,hu⟩:=memb_mem.1 hx
  obtain⟨⟨a1,a2,a3,a4,_,_⟩,_⟩:=hR.each l[p] (YG hp)
  have hj:Joins l p l[p].1.toNat l[p].2.1.toNat:=⟨l[p],YB hp,.inl ⟨by omega,by omega⟩⟩
  have h3:=Qm7 hR (Qdg hR) (Qdh hR) (es:=l.filter fun e=>bAt SD e.1.toNat != bAt SD e.2.1.toNat) (fun a b h=>by
   obtain⟨e,he,h4⟩:=h
   exact⟨e,(List.mem_filter.1 he).1,h4⟩) (sd:=bAt SD) (fun a b h=>by
   obtain⟨e,he,h4⟩:=h
   have h5:bAt SD e.1.toNat≠bAt SD e.2.1.toNat:=by simpa using (List.mem_filter.1 he).2
   rcases h4 with ⟨h6,h7⟩ | ⟨h6,h7⟩
   ·rw [h6,h7] at h5;exact h5
   ·rw [h6,h7] at h5;exact Ne.symm h5) hj (hSD _ _ (Qc4 hj)) (col:=col) (by rw [hu];exact hc)
  have h4:l.getD ((p:Int)).toNat (0,0,0)=l[p]:=by simp [hp]
  unfold keptE at h2
  rw [h4] at h2
  exact h3 (by simpa using h2)
 ·intro h
  cases e:(memb (walkW N l).block u l.length).any (keptE l SD) with
  | true=>rfl
  | false=>
   exfalso
   refine h ⟨bAt SD,fun a b hab=>?_⟩
   obtain⟨x,hx,h4⟩:=hab
   obtain⟨k,h1,h2⟩:=blkOf_mem.1 hx
   have hk:=(YE h1).1
   have h3:=List.any_eq_false.1 e (k:Int) (memb_mem.2 ⟨k,rfl,hk,h2⟩)
   unfold keptE at h3
   have h5:l.getD ((k:Int)).toNat (0,0,0)=x:=by rw [YM,YC,h1];rfl
   rw [h5] at h3
   have h6:bAt SD x.1.toNat≠bAt SD x.2.1.toNat:=by simpa using h3
   rcases h4 with ⟨h7,h8⟩ | ⟨h7,h8⟩
   ·rw [h7,h8] at h6;exact h6
   ·rw [h7,h8] at h6;exact Ne.symm h6
def tint1 (L:List Int)(u v:Nat):List Int:=if L.getD u 0≠0∧L.getD v 0=0 then L.set v (3-L.getD u 0) else L
def tint (L:List Int)(e:Ed):List Int:=tint1 (tint1 L e.1.toNat e.2.1.toNat) e.2.1.toNat e.1.toNat
theorem Qbv (L:List Int)(u v:Nat):(tint1 L u v).length=L.length:=by unfold tint1;split <;> simp
theorem QcJ (L:List Int)(e:Ed):(tint L e).length=L.length:=by unfold tint;rw [Qbv,Qbv]
theorem QbU:∀ (es:List Ed)(L:List Int) ,(es.foldl tint L).length=L.length
 | [],_=>rfl
 | e :: es,L=>by rw [List.foldl_cons,QbU es,QcJ]
def c0L (N:Nat)(es:List Ed):List Int:=(List.range N).map fun (v:Nat)=>if (labAt N es N).getD v 0=(v:Int) then 1 else 0
def cAt (N:Nat)(es:List Ed):Nat→List Int
 | 0=>c0L N es
 | i+1=>es.foldl tint (cAt N es i)
theorem Qbt (N:Nat)(es:List Ed):∀ i,(cAt N es i).length=N
 | 0=>by simp [cAt,c0L]
 | i+1=>by rw [cAt,QbU,Qbt N es i]
def Cols (L:List Int):Prop:=∀ y,L.getD y 0=0∨L.getD y 0=1∨L.getD y 0=2
theorem QcK {L:List Int}{u v:Nat}(hv:v<L.length)(y:Nat):(tint1 L u v).getD y 0=if L.getD u 0≠0∧L.getD v 0=0∧y=v then 3-L.getD u 0 else L.getD y 0:=by
 unfold tint1
 by_cases h:L.getD u 0≠0∧L.getD v 0=0
 ·rw [if_pos h,Qao]
  by_cases e:v=y
  ·rw [if_pos ⟨e,hv⟩,if_pos ⟨h.1,h.2,e.symm⟩]
  ·rw [if_neg (fun a=>e a.1),if_neg (fun a=>e a.2.2.symm)]
 ·rw [if_neg h,if_neg (fun a=>h ⟨a.1,a.2.1⟩)]
theorem Qdi {L:List Int}{u v:Nat}(hv:v<L.length)(h:Cols L):Cols (tint1 L u v):=by
 intro y
 rw [QcK hv]
 split
 ·rename_i hc
  rcases h u with h1 | h1 | h1 <;> omega
 ·exact h y
theorem Qbw {L:List Int}{u v:Nat}(hv:v<L.length){y:Nat}(hy:L.getD y 0≠0):(tint1 L u v).getD y 0=L.getD y 0:=by
 rw [QcK hv]
 split
 ·rename_i hc
  rw [hc.2.2] at hy
  exact absurd hc.2.1 hy
 ·rfl
theorem QiF {L:List Int}{u v:Nat}(hv:v<L.length)(h:Cols L)(hu:L.getD u 0≠0):(tint1 L u v).getD v 0≠0:=by
 rw [QcK hv]
 split
 ·rcases h u with h1 | h1 | h1 <;> omega
 ·rename_i hc
  exact fun e=>hc ⟨hu,e,rfl⟩
theorem Qgx {L:List Int}{e:Ed}{N:Nat}(hL:L.length=N)(he:e.1.toNat<N∧e.2.1.toNat<N)(h:Cols L):Cols (tint L e):=
 Qdi (by rw [Qbv];omega) (Qdi (by omega) h)
theorem Qgw {L:List Int}{e:Ed}{N:Nat}(hL:L.length=N)(he:e.1.toNat<N∧e.2.1.toNat<N){y:Nat}(hy:L.getD y 0≠0):(tint L e).getD y 0=L.getD y 0:=by
 have h1:=Qbw (u:=e.1.toNat) (v:=e.2.1.toNat) (L:=L) (by omega) hy
 have h2:=Qbw (u:=e.2.1.toNat) (v:=e.1.toNat) (L:=tint1 L e.1.toNat e.2.1.toNat) (by rw [Qbv];omega) (y:=y) (by rw [h1];exact hy)
 exact h2.trans h1
theorem QoY {L:List Int}{e:Ed}{N:Nat}(hL:L.length=N)(he:e.1.toNat<N∧e.2.1.toNat<N)(h:Cols L):(L.getD e.1.toNat 0≠0→(tint L e).getD e.2.1.toNat 0≠0)∧(L.getD e.2.1.toNat 0≠0→(tint L e).getD e.1.toNat 0≠0):=by
 have hl1:(tint1 L e.1.toNat e.2.1.toNat).length=N:=by rw [Qbv];exact hL
 constructor
 ·intro hu
  have h1:=QiF (v:=e.2.1.toNat) (by omega) h hu
  unfold tint
  rw [Qbw (by omega) h1]
  exact h1
 ·intro hv
  have h1:(tint1 L e.1.toNat e.2.1.toNat).getD e.2.1.toNat 0≠0:=by rw [Qbw (by omega) hv];exact hv
  exact QiF (by omega) (Qdi (by omega) h) h1
theorem QeQ {N:Nat}:∀ {es:List Ed} {L:List Int},Ends N es→L.length=N→Cols L→Cols (es.foldl tint L)
 | [],_,_,_,h=>h
 | e :: es,L,hE,hL,h=>by
  rw [List.foldl_cons]
  exact QeQ (fun x hx=>hE x (List.mem_cons_of_mem _ hx)) (by rw [QcJ];exact hL) (Qgx hL (hE e (List.mem_cons_self ..)) h)
theorem Qc9 {N:Nat}:∀ {es:List Ed} {L:List Int},Ends N es→L.length=N→∀ {y:Nat},L.getD y 0≠0→(es.foldl tint L).getD y 0=L.getD y 0
 | [],_,_,_,_,_=>rfl
 | e :: es,L,hE,hL,y,hy=>by
  have h1:=Qgw hL (hE e (List.mem_cons_self ..)) hy
  rw [List.foldl_cons,Qc9 (fun x hx=>hE x (List.mem_cons_of_mem _ hx)) (by rw [QcJ];exact hL) (by rw [h1];exact hy),h1]
theorem Qmy {N:Nat}{a b:Nat}:∀ {es:List Ed} {L:List Int},Ends N es→L.length=N→Cols L→Adj es a b→L.getD b 0≠0→(es.foldl tint L).getD a 0≠0
 | [],_,_,_,_,h,_=>by obtain⟨e,he,_⟩:=h;simp at he
 | e :: es,L,hE,hL,hC,h,hb=>by
  have hE':Ends N es:=fun x hx=>hE x (List.mem_cons_of_mem _ hx)
  have he:=hE e (List.mem_cons_self ..)
  have hl:=(QcJ L e).trans hL
  rw [List.foldl_cons]
  obtain⟨x,hx,hxe⟩:=h
  rcases List.mem_cons.1 hx with rfl | hx
  ·have hon:=QoY hL he hC
   have:(tint L x).getD a 0≠0:=by
    rcases hxe with ⟨h1,h2⟩ | ⟨h1,h2⟩
    ·rw [← h1];exact hon.2 (by rw [h2];exact hb)
    ·rw [← h2];exact hon.1 (by rw [h1];exact hb)
   rw [Qc9 hE' hl this]
   exact this
  ·exact Qmy hE' hl (Qgx hL he hC) ⟨x,hx,hxe⟩ (by rw [Qgw hL he hb];exact hb)
theorem Qd7 {N:Nat}{es:List Ed}(hE:Ends N es):∀ i,Cols (cAt N es i)
 | 0=>fun y=>by
  by_cases h:y<N
  ·have:(cAt N es 0).getD y 0=if (labAt N es N).getD y 0=(y:Int) then 1 else 0:=by simp [cAt,c0L,h]
   rw [this]
   split <;> simp
  ·have:(cAt N es 0).getD y 0=0:=by simp [cAt,c0L,h]
   exact .inl this
 | i+1=>QeQ hE (Qbt N es i) (Qd7 hE i)
theorem Qgf {N:Nat}{es:List Ed}(hE:Ends N es){r:Nat}(hr:r<N)(hlab:(labAt N es N).getD r 0=(r:Int)):∀ (i:Nat) {v:Nat},v<N→ball es i v r=true→(cAt N es i).getD v 0≠0
 | 0,v,hv,h=>by
  have:v=r:=by simpa [ball] using h
  subst this
  have:(cAt N es 0).getD v 0=if (labAt N es N).getD v 0=(v:Int) then 1 else 0:=by simp [cAt,c0L,hv]
  rw [this,if_pos hlab]
  decide
 | i+1,v,hv,h=>by
  show (es.foldl tint (cAt N es i)).getD v 0≠0
  rcases ball_next.1 h with h | ⟨w,ha,h⟩
  ·have:=Qgf hE hr hlab i hv h
   rw [Qc9 hE (Qbt N es i) this]
   exact this
  ·have hw:w<N:=(QaY hE ha).2
   exact Qmy hE (Qbt N es i) (Qd7 hE i) ha (Qgf hE hr hlab i hw h)
theorem Qm0 {N:Nat}{es:List Ed}(hE:Ends N es){v:Nat}(hv:v<N):(cAt N es N).getD v 0≠0:=by
 obtain⟨x,hx,hxN,hxc,hxl⟩:=QbE hE hv
 refine Qgf hE hxN ?_ N hv (Qhl hE hv hxN hxc)
 rw [← (Qd0 hE hv hxN).2 hxc]
 exact hx
def colD (D:List Int)(y:Nat):Int:=1+D.getD y 0 % 2
def Qjx (D:List Int)(es:List Ed):Prop:=∀ e∈es,D.getD e.1.toNat 0 % 2≠D.getD e.2.1.toNat 0 % 2
theorem QdC {L D:List Int}{u v:Nat}(hv:v<L.length)(hd:D.getD u 0 % 2≠D.getD v 0 % 2)(h:∀ y,L.getD y 0≠0→L.getD y 0=colD D y):∀ y,(tint1 L u v).getD y 0≠0→(tint1 L u v).getD y 0=colD D y:=by
 intro y
 rw [QcK hv]
 split
 ·rename_i hc
  intro _
  have:=h u hc.1
  rw [this,hc.2.2]
  unfold colD
  omega
 ·exact h y
theorem QeP {N:Nat}{D:List Int}:∀ {es:List Ed} {L:List Int},Ends N es→L.length=N→Qjx D es→(∀ y,L.getD y 0≠0→L.getD y 0=colD D y)→∀ y,(es.foldl tint L).getD y 0≠0→(es.foldl tint L).getD y 0=colD D y
 | [],_,_,_,_,h=>h
 | e :: es,L,hE,hL,hP,h=>by
  rw [List.foldl_cons]
  have he:=hE e (List.mem_cons_self ..)
  have hp:=hP e (List.mem_cons_self ..)
  refine QeP (fun x hx=>hE x (List.mem_cons_of_mem _ hx)) (by rw [QcJ];exact hL) (fun x hx=>hP x (List.mem_cons_of_mem _ hx)) ?_
  exact QdC (by rw [Qbv];omega) (Ne.symm hp) (QdC (by omega) hp h)
theorem QfD {N:Nat}{l:List Ed}(hR:RightG (N:Int) l)(hP:Qjx (walkW N l).depth l):∀ i y,(cAt N l i).getD y 0≠0→(cAt N l i).getD y 0=colD (walkW N l).depth y
 | 0,y,h=>by
  by_cases hy:y<N
  ·have e:(cAt N l 0).getD y 0=if (labAt N l N).getD y 0=(y:Int) then 1 else 0:=by simp [cAt,c0L,hy]
   rw [e] at h ⊢
   by_cases hr:(labAt N l N).getD y 0=(y:Int)
   ·rw [if_pos hr]
    rw [← QcG hR] at hr
    have:=(QiO hR hy).1 hr
    unfold colD
    rw [this]
    rfl
   ·rw [if_neg hr] at h
    exact absurd rfl h
  ·have:(cAt N l 0).getD y 0=0:=by simp [cAt,c0L,hy]
   exact absurd this h
 | i+1,y,h=>QeP (Qaw hR) (Qbt N l i) hP (QfD hR hP i) y h
theorem QkK {N:Nat}{l:List Ed}(hR:RightG (N:Int) l)(hP:Qjx (walkW N l).depth l){v:Nat}(hv:v<N):(cAt N l N).getD v 0=colD (walkW N l).depth v:=QfD hR hP N v (Qm0 (Qaw hR) hv)
theorem QiD {N:Nat}{l:List Ed}(hR:RightG (N:Int) l)(hc:∀ a b,a<N→Adj l a b→(cAt N l N).getD a 0≠(cAt N l N).getD b 0):∀ (k v:Nat),v<N→(walkW N l).depth.getD v 0=(k:Int)→(cAt N l N).getD v 0=colD (walkW N l).depth v
 | 0,v,hv,hd=>by
  have hr:=(QiO hR hv).2 hd
  rw [QcG hR] at hr
  have h0:∀ i,(cAt N l i).getD v 0=1:=fun i=>by
   induction i with
   | zero=>
    have e:(cAt N l 0).getD v 0=if (labAt N l N).getD v 0=(v:Int) then 1 else 0:=by simp [cAt,c0L,hv]
    rw [e,if_pos hr]
   | succ i ih=>exact (Qc9 (Qaw hR) (Qbt N l i) (by rw [ih];decide)).trans ih
  rw [h0]
  unfold colD
  rw [hd]
  rfl
 | k+1,v,hv,hd=>by
  obtain⟨_,h | ⟨u,a,b,c,d,e⟩⟩:=Qa4 hR hv
  ·omega
  ·have hu:=QiD hR hc k u a (by omega)
   have hne:=hc u v a c
   have h1:=Qd7 (Qaw hR) N v
   have h2:=Qm0 (Qaw hR) hv
   unfold colD at hu ⊢
   rw [d]
   omega
theorem QoV {N:Nat}{l:List Ed}(hR:RightG (N:Int) l):(∀ e∈l,(cAt N l N).getD e.1.toNat 0≠(cAt N l N).getD e.2.1.toNat 0)↔Qjx (walkW N l).depth l:=by
 have hE:=Qaw hR
 constructor
 ·intro h e he hpar
  have hc:∀ a b,a<N→Adj l a b→(cAt N l N).getD a 0≠(cAt N l N).getD b 0:=fun a b _ hab=>by
   obtain⟨x,hx,⟨rfl,rfl⟩ | ⟨rfl,rfl⟩⟩:=hab
   ·exact h x hx
   ·exact Ne.symm (h x hx)
  have g:∀ v,v<N→(cAt N l N).getD v 0=colD (walkW N l).depth v:=fun v hv=>QiD hR hc ((walkW N l).depth.getD v 0).toNat v hv (by have:=(Qa4 hR hv).1;omega)
  refine h e he ?_
  rw [g _ (hE e he).1,g _ (hE e he).2]
  unfold colD
  rw [hpar]
 ·intro hP e he heq
  rw [QkK hR hP (hE e he).1,QkK hR hP (hE e he).2] at heq
  unfold colD at heq
  exact hP e he (by omega)
theorem Qp2:(Tryz.prog.info? 4).map (fun i=>(i.zero,i.size,i.bytes))=some (some (.bool false),1,1):=by kernel_rfl
theorem Qiu (n:Nat):(madeCells (Value.bool false).cells (n*1)).toList=(List.replicate n false).map Value.bool:=by
 apply List.ext_getElem
 ·simp [madeCells]
 ·intro i h1 h2
  simp [madeCells,Value.cells,Nat.mod_one]
theorem Blk.bools {W:World}{g:Nat}{l:List Bool}{t:TypeId}(h:Blk t W g (l.map Value.bool)):Bools W.heap.size W (.slice (some ⟨g,0,none⟩) l.length l.length) l:=
 .inr ⟨g,0,l.length,rfl,h.lt,YA,fun j x hx=>by
  rw [Nat.zero_add]
  exact h.cell (by rw [YH,hx];rfl)⟩
end Go.Proofs.YtalflecmadacaaaGreat
