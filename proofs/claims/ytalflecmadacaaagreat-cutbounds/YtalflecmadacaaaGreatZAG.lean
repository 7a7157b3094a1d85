import Derived.Test.YtalflecmadacaaaGreatZAF
import Derived.Test.YtalflecmadacaaaGreatZAA
import Derived.Test.YtalflecmadacaaaGreatZAB
import Derived.Test.YtalflecmadacaaaGreatZAD
import Derived.Test.YtalflecmadacaaaGreatZAC
set_option maxRecDepth 100000
set_option maxHeartbeats 8000000
namespace Go.Proofs.YtalflecmadacaaaGreat
open Go Go.Proofs
def NoV (l:List Ed)(v:Nat)(H:List Ed):Prop:=∀ x y,Adj H x y↔Adj l x y∧x≠v∧y≠v
section
variable {N:Nat} {l:List Ed} {D F:List Int}
theorem Tr.child {c q:Nat}(T:Tr N l D F)(hc:c<N)(hq:F.getD c 0=(q:Int)):q<N∧D.getD c 0=D.getD q 0+1∧Adj l q c:=by
 rcases T.par c hc with ⟨_,h2⟩ | ⟨u,a,b,c,d⟩
 ·omega
 ·have:u=q:=by omega
  subst this
  exact⟨a,c,d⟩
theorem HeadOf.up {h w q:Nat}(hw:¬ Head l D F w)(hq:F.getD w 0=(q:Int))(hh:HeadOf l D F h q):HeadOf l D F h w:=by
 refine⟨.up hq hh.1,hh.2.1,fun y hy hhy hne=>?_⟩
 rcases hy.cases with rfl | ⟨x,hx,hyx⟩
 ·exact hw
 ·have:x=q:=by omega
  subst this
  exact hh.2.2 y hyx hhy hne
theorem HeadOf.self (T:Tr N l D F){w:Nat}(hw:w<N)(hh:Head l D F w):HeadOf l D F w w:=⟨Anc.refl _ _,hh,fun _ hy hwy hne=>absurd (T.anti hw hy hwy) hne⟩
theorem HeadOf.uniq {h h' w:Nat}(a:HeadOf l D F h w)(b:HeadOf l D F h' w):h=h':=by
 rcases a.1.comp b.1 with h1 | h1
 ·by_cases e:h'=h
  ·exact e.symm
  ·exact absurd b.2.1 (a.2.2 h' b.1 h1 e)
 ·by_cases e:h=h'
  ·exact e
  ·exact absurd a.2.1 (b.2.2 h a.1 h1 e)
theorem HeadOf.climb (T:Tr N l D F){h c a:Nat}(ha:a<N)(hca:Anc F c a){k u w:Nat}(hk:EdP l D k u w)(haw:Anc F a w)(hu:D.getD u 0<D.getD c 0)(hh:HeadOf l D F h c):HeadOf l D F h a:=by
 obtain⟨ls,hl⟩:=hca
 induction ls generalizing a with
 | nil=>
  have e:a=c:=hl
  subst e
  exact hh
 | cons z ls ih=>
  obtain⟨hz,hd,_⟩:=T.child ha hl.1
  have hcz:=T.le hz ⟨ls,hl.2⟩
  refine HeadOf.up ?_ hl.1 (ih hz (.trans (.up hl.1 (Anc.refl _ _)) haw) hl.2)
  rintro⟨q,e1,e2⟩
  have hz1:=hl.1
  have:q=z:=by omega
  subst this
  have:=e2 k u w hk haw
  omega
theorem Tr.toward (T:Tr N l D F){v a:Nat}(ha:a<N)(h:Anc F v a)(hne:a≠v):∃ c,c<N∧F.getD c 0=(v:Int)∧Anc F c a:=by
 obtain⟨ls,hl⟩:=h
 induction ls generalizing a with
 | nil=>exact absurd hl hne
 | cons z ls ih=>
  by_cases hz:z=v
  ·subst hz
   exact⟨a,ha,hl.1,Anc.refl _ _⟩
  ·obtain⟨hzN,_⟩:=T.child ha hl.1
   obtain⟨c,h1,h2,h3⟩:=ih hzN hz hl.2
   exact⟨c,h1,h2,.up hl.1 h3⟩
theorem NoV.way {v:Nat}{H:List Ed}(hH:NoV l v H)(T:Tr N l D F){x y:Nat}(hy:y<N)(h:Anc F x y)(hv:∀ z,Anc F z y→Anc F x z→z≠v):Conn H y x:=by
 obtain⟨ls,hl⟩:=h
 induction ls generalizing y with
 | nil=>
  have e:y=x:=hl
  subst e
  exact .refl _
 | cons z ls ih=>
  obtain⟨hz,_,hadj⟩:=T.child hy hl.1
  have hyz:Anc F z y:=.up hl.1 (Anc.refl _ _)
  refine .step ((hH y z).2 ⟨hadj.symm,hv y (Anc.refl _ _) ⟨z :: ls,hl⟩,hv z hyz ⟨ls,hl.2⟩⟩) (ih hz (fun z' h1 h2=>hv z' (h1.trans hyz) h2) hl.2)
theorem NoV.above {v:Nat}{H:List Ed}(hH:NoV l v H)(T:Tr N l D F)(hv:v<N){a b:Nat}(ha:Anc F a v)(hb:Anc F b v)(ha':a≠v)(hb':b≠v):Conn H a b:=by
 have key:∀ {a b:Nat},Anc F a b→Anc F b v→b≠v→Conn H b a:=fun {a b} h1 h2 h3=>by
  refine hH.way T (T.anc hv h2).1 h1 fun z hz _ e=>?_
  subst e
  exact h3 (T.anti hv h2 hz)
 rcases ha.comp hb with h1 | h1
 ·exact (key h1 hb hb').symm
 ·exact key h1 ha ha'
theorem NoV.under {v c:Nat}{H:List Ed}(hH:NoV l v H)(T:Tr N l D F)(hc:c<N)(hF:F.getD c 0=(v:Int)){a b:Nat}(ha:a<N)(hb:b<N)(hca:Anc F c a)(hcb:Anc F c b):Conn H a b:=by
 have key:∀ {a:Nat},a<N→Anc F c a→Conn H a c:=fun {a} ha h1=>by
  refine hH.way T ha h1 fun z _ h2 e=>?_
  subst e
  obtain⟨hz,hd,_⟩:=T.child hc hF
  have:=T.le hz h2
  omega
 exact (key ha hca).trans (key hb hcb).symm
theorem NoV.shut {v c:Nat}{H:List Ed}(hR:RightG (N:Int) l)(hH:NoV l v H)(T:Tr N l D F)(hc:c<N)(hF:F.getD c 0=(v:Int))(hh:Head l D F c){a b:Nat}(hab:Conn H a b)(ha:Anc F c a):Anc F c b:=by
 induction hab using Conn.ind with
 | refl=>exact ha
 | step h1 _ ih=>
  rename_i x y z _
  refine ih ?_
  obtain⟨h2,hx,hy⟩:=(hH x y).1 h1
  obtain⟨k,hk⟩:=QbI hR h2
  obtain⟨hxN,hyN⟩:=hk.below hR
  rcases T.edp hR hk with h3 | h3
  ·exact ha.trans (h3.anc hR T)
  ·rcases ha.comp (h3.anc hR T) with h4 | h4
   ·exact h4
   ·obtain⟨q,e1,e2⟩:=hh
    have e3:q=v:=by omega
    subst e3
    have h5:=e2 k y x h3 ha
    rcases h4.cases with rfl | ⟨p,hp,h6⟩
    ·exact Anc.refl _ _
    ·have e4:p=q:=by omega
     subst e4
     obtain⟨hpN,_⟩:=T.child hc hF
     rcases (T.anc hpN h6).2 with h7 | h7
     ·exact absurd h7 hy
     ·omega
theorem NoV.over {v c:Nat}{H:List Ed}(hR:RightG (N:Int) l)(hH:NoV l v H)(T:Tr N l D F)(hc:c<N)(hF:F.getD c 0=(v:Int))(hh:¬ Head l D F c):∃ u,u<N∧Anc F u v∧u≠v∧∀ a,a<N→Anc F c a→Conn H a u:=by
 obtain⟨hv,hd,_⟩:=T.child hc hF
 have:∃ k u w,EdP l D k u w∧Anc F c w∧D.getD u 0<D.getD v 0:=by
  apply Classical.byContradiction
  intro hn
  refine hh ⟨v,hF,fun k u w hk hw=>?_⟩
  apply Classical.byContradiction
  intro h1
  exact hn ⟨k,u,w,hk,hw,by omega⟩
 obtain⟨k,u,w,hk,hw,hu⟩:=this
 obtain⟨huN,hwN⟩:=hk.1.below hR
 have hne:u≠v:=fun e=>by subst e;omega
 have hwv:w≠v:=fun e=>by
  subst e
  have:=T.le hv hw
  omega
 have huv:Anc F u v:=by
  rcases (hk.anc hR T).comp ((Anc.up hF (Anc.refl _ _)).trans hw) with h1 | h1
  ·exact h1
  ·have:=T.le huN h1
   omega
 refine⟨u,huN,huv,hne,fun a ha hca=>?_⟩
 exact (hH.under T hc hF ha hwN hca hw).trans (.one ((hH w u).2 ⟨hk.1.adj.symm,hwv,hne⟩))
def LabOf (l:List Ed)(D F B:List Int):Prop:=∀ k u w,EdP l D k u w→∃ hd b q:Nat,HeadOf l D F hd w∧B.getD k 0=(b:Int)∧F.getD hd 0=(q:Int)∧EdP l D b q hd
theorem LabOf.same {B:List Int}(hR:RightG (N:Int) l)(hB:LabOf l D F B){k u w k' u' w':Nat}(h:EdP l D k u w)(h':EdP l D k' u' w'):B.getD k 0=B.getD k' 0↔∃ hd,HeadOf l D F hd w∧HeadOf l D F hd w':=by
 obtain⟨a,b,q,h1,h2,h3,h4⟩:=hB k u w h
 obtain⟨a',b',q',h1',h2',h3',h4'⟩:=hB k' u' w' h'
 constructor
 ·intro e
  have:b=b':=by omega
  subst this
  obtain⟨_,e2⟩:=h4.uniq h4'
  subst e2
  exact⟨a,h1,h1'⟩
 ·rintro⟨hd,g1,g2⟩
  have e1:=h1.uniq g1
  have e2:=h1'.uniq g2
  subst e1
  subst e2
  have:q=q':=by omega
  subst this
  rw [h2,h2',h4.1.same hR h4'.1]
theorem LabOf.side (hR:RightG (N:Int) l)(T:Tr N l D F){k v a:Nat}(h:Joins l k v a):(EdP l D k a v∧Anc F a v∧a≠v)∨∃ c,EdP l D k v a∧c<N∧F.getD c 0=(v:Int)∧Anc F c a:=by
 obtain⟨hv,ha⟩:=h.below hR
 rcases T.edp hR h with h1 | h1
 ·obtain⟨c,h2,h3,h4⟩:=T.toward ha (h1.anc hR T) (h.ne hR).symm
  exact .inr ⟨c,h1,h2,h3,h4⟩
 ·exact .inl ⟨h1,h1.anc hR T,(h.ne hR).symm⟩
theorem LabOf.down (hR:RightG (N:Int) l)(T:Tr N l D F){k v a c hd:Nat}(h:EdP l D k v a)(hc:c<N)(hF:F.getD c 0=(v:Int))(hca:Anc F c a)(hh:HeadOf l D F hd c):HeadOf l D F hd a:=by
 obtain⟨_,hd1,_⟩:=T.child hc hF
 exact HeadOf.climb T (h.1.below hR).2 hca h (Anc.refl _ _) (by omega) hh
theorem LabOf.head {B:List Int}(hR:RightG (N:Int) l)(T:Tr N l D F)(hB:LabOf l D F B){w:Nat}(hw:w<N)(hd:0<D.getD w 0):∃ h,HeadOf l D F h w:=by
 rcases T.par w hw with ⟨h1,_⟩ | ⟨u,a,b,c,d⟩
 ·omega
 ·obtain⟨k,hk⟩:=QbI hR d
  obtain⟨h,_,_,h1,_⟩:=hB k u w ⟨hk,by omega⟩
  exact⟨h,h1⟩
theorem LabOf.at {B:List Int}(hR:RightG (N:Int) l)(T:Tr N l D F)(hB:LabOf l D F B){v:Nat}{H:List Ed}(hH:NoV l v H){k a k' a':Nat}(h:Joins l k v a)(h':Joins l k' v a'):B.getD k 0=B.getD k' 0↔Conn H a a':=by
 obtain⟨hv,ha⟩:=h.below hR
 obtain⟨_,ha'⟩:=h'.below hR
 have updown:∀ {k a k' a' c:Nat},a'<N→EdP l D k a v→Anc F a v→a≠v→EdP l D k' v a'→c<N→F.getD c 0=(v:Int)→Anc F c a'→(B.getD k 0=B.getD k' 0↔Conn H a a'):=by
  intro k a k' a' c ha' hk h1 h2 hk' hc hF hca
  rw [hB.same hR hk hk']
  by_cases hh:Head l D F c
  ·constructor
   ·rintro⟨hd,g1,g2⟩
    have:=g2.uniq (LabOf.down hR T hk' hc hF hca (HeadOf.self T hc hh))
    subst this
    obtain⟨_,hd1,_⟩:=T.child hc hF
    have:=T.le hv g1.1
    omega
   ·intro hcn
    have:=hH.shut hR T hc hF hh hcn.symm hca
    obtain⟨_,hd1,_⟩:=T.child hc hF
    have h3:=T.le hv (this.trans h1)
    omega
  ·obtain⟨u,hu,huv,hune,hall⟩:=hH.over hR T hc hF hh
   constructor
   ·intro _
    exact (hH.above T hv h1 huv h2 hune).trans (hall a' ha' hca).symm
   ·intro _
    have:=T.pos a (hk.1.below hR).1
    have:=hk.2
    obtain⟨hd,g1⟩:=hB.head hR T hv (by omega)
    exact⟨hd,g1,LabOf.down hR T hk' hc hF hca (.up hh hF g1)⟩
 rcases LabOf.side hR T h with ⟨hk,h1,h2⟩ | ⟨c,hk,hc,hF,hca⟩
 ·rcases LabOf.side hR T h' with ⟨hk',h1',h2'⟩ | ⟨c',hk',hc',hF',hca'⟩
  ·constructor
   ·intro _
    exact hH.above T hv h1 h1' h2 h2'
   ·intro _
    have:=T.pos a ha
    have:=hk.2
    obtain⟨hd,g1⟩:=hB.head hR T hv (by omega)
    exact (hB.same hR hk hk').2 ⟨hd,g1,g1⟩
  ·exact updown ha' hk h1 h2 hk' hc' hF' hca'
 ·rcases LabOf.side hR T h' with ⟨hk',h1',h2'⟩ | ⟨c',hk',hc',hF',hca'⟩
  ·have:=updown ha hk' h1' h2' hk hc hF hca
   constructor
   ·intro e
    exact (this.1 e.symm).symm
   ·intro e
    exact (this.2 e.symm).symm
  ·by_cases hcc:c=c'
   ·subst hcc
    constructor
    ·intro _
     exact hH.under T hc hF ha ha' hca hca'
    ·intro _
     have:=T.pos v hv
     obtain⟨_,hd1,_⟩:=T.child hc hF
     obtain⟨hd,g1⟩:=hB.head hR T hc (by omega)
     exact (hB.same hR hk hk').2 ⟨hd,LabOf.down hR T hk hc hF hca g1,LabOf.down hR T hk' hc hF hca' g1⟩
   ·have apart:∀ {c c' a':Nat},a'<N→c<N→c'<N→F.getD c 0=(v:Int)→F.getD c' 0=(v:Int)→Anc F c' a'→Anc F c a'→c=c':=by
     intro c c' a' ha' hc hc' hF hF' h1 h2
     obtain⟨_,d1,_⟩:=T.child hc hF
     obtain⟨_,d2,_⟩:=T.child hc' hF'
     rcases h2.comp h1 with h3 | h3
     ·rcases (T.anc hc' h3).2 with h4 | h4
      ·exact h4
      ·omega
     ·rcases (T.anc hc h3).2 with h4 | h4
      ·exact h4.symm
      ·omega
    have oneHead:∀ {k a k' a' c c':Nat},a<N→a'<N→EdP l D k v a→c<N→F.getD c 0=(v:Int)→Anc F c a→EdP l D k' v a'→c'<N→F.getD c' 0=(v:Int)→Anc F c' a'→c≠c'→Head l D F c→(B.getD k 0=B.getD k' 0↔Conn H a a'):=by
     intro k a k' a' c c' ha ha' hk hc hF hca hk' hc' hF' hca' hne hh
     rw [hB.same hR hk hk']
     constructor
     ·rintro⟨hd,g1,g2⟩
      have:=g1.uniq (LabOf.down hR T hk hc hF hca (HeadOf.self T hc hh))
      subst this
      exact absurd (apart ha' hc hc' hF hF' hca' g2.1) hne
     ·intro hcn
      exact absurd (apart ha' hc hc' hF hF' hca' (hH.shut hR T hc hF hh hcn hca)) hne
    by_cases hh:Head l D F c
    ·exact oneHead ha ha' hk hc hF hca hk' hc' hF' hca' hcc hh
    ·by_cases hh':Head l D F c'
     ·have:=oneHead ha' ha hk' hc' hF' hca' hk hc hF hca (fun e=>hcc e.symm) hh'
      constructor
      ·intro e
       exact (this.1 e.symm).symm
      ·intro e
       exact (this.2 e.symm).symm
     ·obtain⟨u,hu,huv,hune,hall⟩:=hH.over hR T hc hF hh
      obtain⟨u',hu',huv',hune',hall'⟩:=hH.over hR T hc' hF' hh'
      constructor
      ·intro _
       exact (hall a ha hca).trans ((hH.above T hv huv huv' hune hune').trans (hall' a' ha' hca').symm)
      ·intro _
       have:=T.pos u hu
       have h5:D.getD u 0<D.getD v 0:=by
        rcases (T.anc hv huv).2 with h6 | h6
        ·exact absurd h6 hune
        ·exact h6
       obtain⟨hd,g1⟩:=hB.head hR T hv (by omega)
       exact (hB.same hR hk hk').2 ⟨hd,LabOf.down hR T hk hc hF hca (.up hh hF g1),LabOf.down hR T hk' hc' hF' hca' (.up hh' hF' g1)⟩
def Loc (l:List Ed)(HV:Nat→List Ed)(k k':Nat):Prop:=∃ v a b,Joins l k v a∧Joins l k' v b∧Conn (HV v) a b
theorem LabOf.chain {B:List Int}(hR:RightG (N:Int) l)(T:Tr N l D F)(hB:LabOf l D F B){HV:Nat→List Ed}(hH:∀ v,v<N→NoV l v (HV v)){G:Nat→Int}(hG:∀ k k',Loc l HV k k'→G k=G k'):∀ {w h q b k u:Nat},w<N→EdP l D k u w→HeadOf l D F h w→F.getD h 0=(q:Int)→EdP l D b q h→G k=G b:=by
 intro w h q b k u hw hk hh hq hb
 obtain⟨ls,hl⟩:=hh.1
 induction ls generalizing w k u with
 | nil=>
  have e:w=h:=hl
  subst e
  exact hG k b ⟨w,u,q,hk.1.symm,hb.1.symm,(hB.at hR T (hH w hw) hk.1.symm hb.1.symm).1 ((hB.same hR hk hb).2 ⟨w,hh,hh⟩)⟩
 | cons z ls ih=>
  obtain⟨hz,hd,hadj⟩:=T.child hw hl.1
  have hne:w≠h:=fun e=>by
   subst e
   have:=T.le hz ⟨ls,hl.2⟩
   omega
  obtain⟨t,ht⟩:=QbI hR hadj
  have hte:EdP l D t z w:=⟨ht,by omega⟩
  have e1:G k=G t:=hG k t ⟨w,u,z,hk.1.symm,ht.symm,(hB.at hR T (hH w hw) hk.1.symm ht.symm).1 ((hB.same hR hk hte).2 ⟨h,hh,hh⟩)⟩
  have hhz:HeadOf l D F h z:=⟨⟨ls,hl.2⟩,hh.2.1,fun y hy=>hh.2.2 y (hy.trans (.up hl.1 (Anc.refl _ _)))⟩
  have hqz:0<D.getD z 0:=by
   have hhN:=(T.anc hz hhz.1).1
   obtain⟨hqN,hdq,_⟩:=T.child hhN hq
   have:=T.pos q hqN
   have:=T.le hz hhz.1
   omega
  rcases T.par z hz with ⟨h1,_⟩ | ⟨p,hp,hFp,hdp,hap⟩
  ·omega
  ·obtain⟨t2,ht2⟩:=QbI hR hap
   have hte2:EdP l D t2 p z:=⟨ht2,by omega⟩
   have e2:G t=G t2:=hG t t2 ⟨z,w,p,ht,ht2.symm,(hB.at hR T (hH z hz) ht ht2.symm).1 ((hB.same hR hte hte2).2 ⟨h,hh,hhz⟩)⟩
   rw [e1,e2]
   exact ih hz hte2 hhz hl.2
theorem LabOf.parts {B:List Int}(hR:RightG (N:Int) l)(T:Tr N l D F)(hB:LabOf l D F B){HV:Nat→List Ed}(hH:∀ v,v<N→NoV l v (HV v)){G:Nat→Int}(hG:∀ k k',Loc l HV k k'→G k=G k'){k k':Nat}(hk:k<l.length)(hk':k'<l.length)(e:B.getD k 0=B.getD k' 0):G k=G k':=by
 have edge:∀ {k:Nat},k<l.length→∃ u w,EdP l D k u w:=fun {k} hk=>by
  have hm:=YG hk
  have:=(hR.each _ hm).1
  unfold okE at this
  have hJ:Joins l k l[k].1.toNat l[k].2.1.toNat:=⟨l[k],YB hk,.inl ⟨by omega,by omega⟩⟩
  rcases T.edp hR hJ with h1 | h1
  ·exact⟨_,_,h1⟩
  ·exact⟨_,_,h1⟩
 obtain⟨u,w,h⟩:=edge hk
 obtain⟨u',w',h'⟩:=edge hk'
 obtain⟨hd,b,q,h1,h2,h3,h4⟩:=hB k u w h
 obtain⟨hd',b',q',h1',h2',h3',h4'⟩:=hB k' u' w' h'
 have:b=b':=by omega
 subst this
 rw [hB.chain hR T hH hG (h.1.below hR).2 h h1 h3 h4,hB.chain hR T hH hG (h'.1.below hR).2 h' h1' h3' h4']
end
theorem Qdh {N:Nat}{l:List Ed}(hR:RightG (N:Int) l):LabOf l (walkW N l).depth (walkW N l).from_ (walkW N l).block:=fun _ _ _ h=>Qng hR h
open Go Go.Proofs Go.RowKit
theorem Qgy {α:Type}{a:List α}{j:Nat}(h:j<a.length):a.take (j+1)=a.take j++[a[j]]:=by rw [List.take_add_one,YB h];rfl
def keepL (l:List Ed)(pred:Nat→Bool):Nat→List Ed
 | 0=>[]
 | j+1=>keepL l pred j++(if pred j=true then l[j]?.toList else [])
theorem Qi9 {l:List Ed}{pred:Nat→Bool}{j:Nat}(h:j<l.length)(hp:pred j=true):keepL l pred (j+1)=keepL l pred j++[l[j]]:=by
 rw [keepL,if_pos hp,YB h];rfl
theorem Qb7 {l:List Ed}{pred:Nat→Bool}{j:Nat}(hp:pred j=false):keepL l pred (j+1)=keepL l pred j:=by
 rw [keepL,hp];simp
theorem Qg2 (l:List Ed)(pred:Nat→Bool):∀ j,(keepL l pred j).length≤j
 | 0=>YA
 | j+1=>by
  rw [keepL,YI]
  have:=Qg2 l pred j
  split
  ·cases l[j]? <;> simp <;> omega
  ·simp;omega
def keptB (kp:List Bool)(v:Int):Bool:=decide (v<(kp.length:Int)) && kp[v.toNat]?.getD false
def onlyP (l:List Ed)(kp:List Bool)(i:Nat):Bool:=keptB kp (l[i]?.getD (0,0,0)).1 && keptB kp (l[i]?.getD (0,0,0)).2.1
theorem QnH {l:List Ed}{kp:List Bool}{i:Nat}(h:i<l.length):onlyP l kp i=(keptB kp l[i].1 && keptB kp l[i].2.1):=by simp [onlyP,h]
theorem keepL_iff {l:List Ed}{pred:Nat→Bool}{e:Ed}:∀ {j:Nat},e∈keepL l pred j↔∃ k,k<j∧l[k]? = some e∧pred k=true
 | 0=>by simp [keepL]
 | j+1=>by
  rw [keepL,List.mem_append,keepL_iff (j:=j)]
  constructor
  ·rintro (⟨k,h1,h2,h3⟩ | h)
   ·exact⟨k,by omega,h2,h3⟩
   ·split at h
    ·rename_i hp
     exact⟨j,by omega,by simpa using h,hp⟩
    ·simp at h
  ·rintro⟨k,h1,h2,h3⟩
   by_cases hk:k=j
   ·subst hk
    right
    rw [if_pos h3]
    simpa using h2
   ·exact .inl ⟨k,by omega,h2,h3⟩
theorem Qdp {l:List Ed}{pred:Nat→Bool}:∀ {j:Nat},j≤l.length→(keepL l pred j).Sublist (l.take j)
 | 0,_=>by simp [keepL]
 | j+1,h=>by
  have hj:j<l.length:=by omega
  rw [Qgy hj]
  cases hp:pred j with
  | false=>
   rw [Qb7 hp]
   exact (Qdp (by omega)).trans (List.sublist_append_left _ _)
  | true=>
   rw [Qi9 hj hp]
   exact (Qdp (by omega)).append (List.Sublist.refl _)
theorem Qfr {n:Int}{l:List Ed}(hR:RightG n l)(pred:Nat→Bool):RightG n (keepL l pred l.length):=by
 have hs:=Qdp (l:=l) (pred:=pred) YA
 rw [List.take_length] at hs
 exact⟨hR.n0,hR.n1,Nat.le_trans hs.length_le hR.m1,fun e he=>hR.each e (hs.subset he),hR.rise.sublist hs⟩
theorem Qn7 {l:List Ed}{pred:Nat→Bool}{N:Nat}(hR:RightG (N:Int) l){x y:Nat}:Adj (keepL l pred l.length) x y↔∃ k,Joins l k x y∧pred k=true:=by
 constructor
 ·rintro⟨e,he,h⟩
  obtain⟨k,h1,h2,h3⟩:=keepL_iff.1 he
  have:=(hR.each e (YK h2)).1
  unfold okE at this
  refine⟨k,⟨e,h2,?_⟩,h3⟩
  omega
 ·rintro⟨k,h,h3⟩
  have hlt:=h.lt
  obtain⟨e,h2,h1⟩:=h
  refine⟨e,keepL_iff.2 ⟨k,hlt,h2,h3⟩,?_⟩
  omega
def butL (N:Nat)(v:Nat):List Bool:=(List.range N).map fun i=>decide (i≠v)
theorem Qgi (N v:Nat):(butL N v).length=N:=by simp [butL]
theorem Qbp {N v x:Nat}(hx:x<N):keptB (butL N v) (x:Int)=decide (x≠v):=by
 unfold keptB
 rw [Qgi,decide_eq_true (by omega:(x:Int)<(N:Int))]
 simp [butL,hx]
def cutG (N:Nat)(l:List Ed)(v:Nat):List Ed:=keepL l (onlyP l (butL N v)) l.length
theorem Qcp {N:Nat}{l:List Ed}(hR:RightG (N:Int) l)(v:Nat):NoV l v (cutG N l v):=by
 intro x y
 unfold cutG
 rw [Qn7 hR]
 constructor
 ·rintro⟨k,h,h3⟩
  have hb:=h.below hR
  obtain⟨e,h1,h2⟩:=h
  refine⟨Joins.adj ⟨e,h1,h2⟩,?_⟩
  unfold onlyP at h3
  rw [h1,Option.getD_some,Bool.and_eq_true] at h3
  rcases h2 with ⟨e1,e2⟩ | ⟨e1,e2⟩
  ·rw [e1,e2,Qbp hb.1,Qbp hb.2] at h3
   simpa using h3
  ·rw [e1,e2,Qbp hb.1,Qbp hb.2] at h3
   have:y≠v∧x≠v:=by simpa using h3
   exact⟨this.2,this.1⟩
 ·rintro⟨h,hx,hy⟩
  obtain⟨k,hk⟩:=QbI hR h
  have hb:=hk.below hR
  refine⟨k,hk,?_⟩
  obtain⟨e,h1,h2⟩:=hk
  unfold onlyP
  rw [h1,Option.getD_some,Bool.and_eq_true]
  rcases h2 with ⟨e1,e2⟩ | ⟨e1,e2⟩
  ·rw [e1,e2,Qbp hb.1,Qbp hb.2]
   simpa using ⟨hx,hy⟩
  ·rw [e1,e2,Qbp hb.1,Qbp hb.2]
   simpa using ⟨hy,hx⟩
section
variable {N:Nat} {l:List Ed}
theorem Qiz {es:List Ed}{a c:Nat}:∀ {L:List Nat} {b:Nat},WayN es b L c→a∈b :: L→(b :: L).Nodup→∃ L',WayN es a L' c∧(a :: L').Nodup
 | L,b,h,hm,hn=>by
  by_cases e:a=b
  ·subst e
   exact⟨L,h,hn⟩
  ·cases L with
   | nil=>
    rcases List.mem_cons.1 hm with h2 | h2
    ·exact absurd h2 e
    ·simp at h2
   | cons x L=>
    rcases List.mem_cons.1 hm with h2 | h2
    ·exact absurd h2 e
    ·exact Qiz h.2 h2 (List.nodup_cons.1 hn).2
theorem Qe8 {es:List Ed}{c:Nat}:∀ {L:List Nat} {a:Nat},WayN es a L c→∃ L',WayN es a L' c∧(a :: L').Nodup
 | [],a,h=>⟨[],h,by simp⟩
 | b :: L,a,h=>by
  obtain⟨L1,h1,h2⟩:=Qe8 h.2
  by_cases e:a∈b :: L1
  ·exact Qiz h1 e h2
  ·exact⟨b :: L1,⟨h.1,h1⟩,List.nodup_cons.2 ⟨e,h2⟩⟩
theorem Qhy {es:List Ed}{col:Nat→Bool}(hc:∀ a b,Adj es a b→col a≠col b){c:Nat}:∀ {L:List Nat} {a:Nat},WayN es a L c→col c=(col a ^^ decide (L.length % 2=1))
 | [],a,h=>by
  have e:a=c:=h
  subst e
  simp
 | b :: L,a,h=>by
  have h1:=hc a b h.1
  have h2:=Qhy hc h.2
  rw [h2,List.length_cons]
  have h3:col b = !col a:=by
   revert h1
   cases col a <;> cases col b <;> simp
  rw [h3]
  by_cases e:L.length % 2=1
  ·have e2:¬ (L.length+1) % 2=1:=by omega
   simp [e,e2]
  ·have e2:(L.length+1) % 2=1:=by omega
   simp [e,e2]
def blkOf (l:List Ed)(B:List Int)(β:Int):List Ed:=((List.range l.length).filter fun k=>B.getD k 0==β).map fun k=>l.getD k (0,0,0)
theorem blkOf_mem {B:List Int}{β:Int}{e:Ed}:e∈blkOf l B β↔∃ k:Nat,l[k]? = some e∧B.getD k 0=β:=by
 unfold blkOf
 rw [List.mem_map]
 constructor
 ·rintro⟨k,hk,rfl⟩
  obtain⟨h1,h2⟩:=List.mem_filter.1 hk
  have h3:=List.mem_range.1 h1
  refine⟨k,?_,by simpa using h2⟩
  rw [YC,YB h3]
  rfl
 ·rintro⟨k,h1,h2⟩
  have h3:=(YE h1).1
  refine⟨k,List.mem_filter.2 ⟨List.mem_range.2 h3,by simpa using h2⟩,?_⟩
  rw [YC,h1]
  rfl
theorem Qc4 {k a b:Nat}(h:Joins l k a b):Adj l a b:=by
 obtain⟨e,h1,h2⟩:=h
 refine⟨e,YK h1,?_⟩
 rcases h2 with ⟨h3,h4⟩ | ⟨h3,h4⟩
 ·exact .inl ⟨by omega,by omega⟩
 ·exact .inr ⟨by omega,by omega⟩
theorem Qdz (hR:RightG (N:Int) l){a b:Nat}(h:Adj l a b):∃ k,Joins l k a b:=by
 obtain⟨e,he,h2⟩:=h
 obtain⟨k,hk,rfl⟩:=List.getElem_of_mem he
 obtain⟨⟨a1,a2,a3,a4,_,_⟩,_⟩:=hR.each l[k] he
 refine⟨k,l[k],YB hk,?_⟩
 rcases h2 with ⟨h3,h4⟩ | ⟨h3,h4⟩
 ·exact .inl ⟨by omega,by omega⟩
 ·exact .inr ⟨by omega,by omega⟩
theorem Qfs {k a b:Nat}(h:Joins l k a b):Joins l k b a:=by
 obtain⟨e,h1,h2⟩:=h
 exact⟨e,h1,h2.symm⟩
theorem Qg3 {B:List Int}{β:Int}{k a b:Nat}(h:Joins l k a b)(hb:B.getD k 0=β):Adj (blkOf l B β) a b:=by
 obtain⟨e,h1,h2⟩:=h
 refine⟨e,blkOf_mem.2 ⟨k,h1,hb⟩,?_⟩
 rcases h2 with ⟨h3,h4⟩ | ⟨h3,h4⟩
 ·exact .inl ⟨by omega,by omega⟩
 ·exact .inr ⟨by omega,by omega⟩
theorem Qn8 (hR:RightG (N:Int) l){k a b:Nat}(h:Joins l k a b):a≠b:=by
 obtain⟨e,h1,h2⟩:=h
 obtain⟨⟨a1,a2,a3,a4,a5,_⟩,_⟩:=hR.each e (YK h1)
 intro h3
 subst h3
 rcases h2 with ⟨h3,h4⟩ | ⟨h3,h4⟩ <;> omega
theorem QkF {es H:List Ed}(hs:∀ a b,Adj es a b→Adj l a b){x:Nat}(hH:NoV l x H){c:Nat}:∀ {L:List Nat} {a:Nat},WayN es a L c→x∉a :: L→Conn H a c
 | [],a,h,_=>by
  have e:a=c:=h
  subst e
  exact Conn.refl _
 | b :: L,a,h,hx=>by
  have hx2:x∉b :: L:=fun hm=>hx (List.mem_cons_of_mem _ hm)
  refine .step ((hH a b).2 ⟨hs a b h.1,fun e=>hx (by rw [e];exact List.mem_cons_self ..),fun e=>hx2 (by rw [e];exact List.mem_cons_self ..)⟩) (QkF hs hH h.2 hx2)
theorem QiA {es:List Ed}{c:Nat}:∀ {L:List Nat} {a:Nat},WayN es a L c→c∈a :: L
 | [],a,h=>by
  have e:a=c:=h
  simp [e]
 | b :: L,a,h=>List.mem_cons_of_mem _ (QiA h.2)
theorem QmU (hR:RightG (N:Int) l){D F B:List Int}(T:Tr N l D F)(hB:LabOf l D F B){es:List Ed}(hs:∀ a b,Adj es a b→Adj l a b){v:Nat}:∀ {L:List Nat} {a k b:Nat},WayN es a L v→(a :: L).Nodup→Joins l k b a→Conn (cutG N l a) v b→(∀ x∈L,x≠v→Conn (cutG N l x) v a)→WayN (blkOf l B (B.getD k 0)) a L v
 | [],a,k,b,h,_,_,_,_=>h
 | x :: L,a,k,b,h,hn,hk,hc,ho=>by
  obtain⟨k2,h2⟩:=Qdz hR (hs a x h.1)
  have hn1:=(List.nodup_cons.1 hn).1
  have hn2:=(List.nodup_cons.1 hn).2
  have h3:Conn (cutG N l a) b x:=hc.symm.trans (QkF hs (Qcp hR a) h.2 hn1).symm
  have h4:B.getD k 0=B.getD k2 0:=(LabOf.at hR T hB (Qcp hR a) (Qfs hk) h2).2 h3
  refine⟨?_,?_⟩
  ·rw [h4]
   exact Qg3 h2 rfl
  ·rw [h4]
   cases L with
   | nil=>exact h.2
   | cons y L=>
    have hxv:x≠v:=fun e=>by
     have:=QiA h.2.2
     rw [← e] at this
     exact (List.nodup_cons.1 hn2).1 this
    refine QmU hR T hB hs h.2 hn2 h2 (ho x (List.mem_cons_self ..) hxv) fun z hz hzv=>?_
    have h5:=ho z (List.mem_cons_of_mem _ hz) hzv
    have haz:a≠z:=fun e=>hn1 (by rw [e];exact List.mem_cons_of_mem _ hz)
    have hxz:x≠z:=fun e=>(List.nodup_cons.1 hn2).1 (by rw [e];exact hz)
    exact h5.trans (.one ((Qcp hR z a x).2 ⟨Qc4 h2,haz,hxz⟩))
theorem Qm7 (hR:RightG (N:Int) l){D F B:List Int}(T:Tr N l D F)(hB:LabOf l D F B){es:List Ed}(hs:∀ a b,Adj es a b→Adj l a b){sd:Nat→Bool}(hsd:∀ a b,Adj es a b→sd a≠sd b){k u v:Nat}(hk:Joins l k u v)(hc:Conn es u v)
  {col:Nat→Bool} (h2:∀ a b,Adj (blkOf l B (B.getD k 0)) a b→col a≠col b):sd u≠sd v:=by
 obtain⟨L0,hL0⟩:=hc
 obtain⟨L,hL,hn⟩:=Qe8 hL0
 have hvu:u≠v:=Qn8 hR hk
 have hw:=QmU hR T hB hs hL hn (Qfs hk) (Conn.refl v) fun x hx hxv=>.one ((Qcp hR x v u).2 ⟨(Qc4 hk).symm,Ne.symm hxv,fun e=>(List.nodup_cons.1 hn).1 (by rw [e];exact hx)⟩)
 have p1:=Qhy hsd hL
 have p2:=Qhy h2 hw
 have p3:=h2 u v (Qg3 hk rfl)
 intro e
 rw [← e] at p1
 have p4:decide (L.length % 2=1)=false:=by
  revert p1
  cases sd u <;> cases decide (L.length % 2=1) <;> simp
 rw [p4,Bool.xor_false] at p2
 exact p3 p2.symm
end
def memb (L:List Int)(u:Int)(i:Nat):List Int:=((List.range i).filter fun p=>decide (L.getD p 0=u)).map fun (p:Nat)=>(p:Int)
theorem Qc1 (L:List Int)(u:Int)(i:Nat):memb L u (i+1)=if L.getD i 0=u then memb L u i++[(i:Int)] else memb L u i:=by
 unfold memb
 rw [List.range_succ,List.filter_append,List.map_append]
 by_cases h:L.getD i 0=u
 ·rw [if_pos h]
  congr 1
  rw [List.filter_cons,if_pos (by rw [h];simp)]
  rfl
 ·rw [if_neg h,List.filter_cons,if_neg (by simpa using h)]
  simp
theorem memb_mem {L:List Int}{u:Int}{i:Nat}{x:Int}:x∈memb L u i↔∃ p:Nat,x=(p:Int)∧p<i∧L.getD p 0=u:=by
 unfold memb
 rw [List.mem_map]
 constructor
 ·rintro⟨p,hp,rfl⟩
  rw [List.mem_filter,List.mem_range] at hp
  exact⟨p,rfl,hp.1,by simpa using hp.2⟩
 ·rintro⟨p,rfl,h1,h2⟩
  exact⟨p,List.mem_filter.2 ⟨List.mem_range.2 h1,by simpa using h2⟩,rfl⟩
theorem Qj0 (L:List Int)(u:Int)(i:Nat):(memb L u i).Nodup:=by
 unfold memb
 refine List.Pairwise.map _ (fun a b h=>?_) (List.Pairwise.filter _ List.nodup_range)
 intro e
 exact h (by omega)
theorem Qnu {o:List Int}(hn:o.Nodup){k:Nat}{u:Int}(hk:o[k]? = some u)(f f':Int→List Int)(h:∀ r,r≠u→f' r=f r):(o.map f).set k (f' u)=o.map f':=by
 apply List.ext_getElem?
 intro j
 rw [List.getElem?_set,List.length_map,YH,YH]
 have hkl:=(YE hk).1
 by_cases hj:k=j
 ·subst hj
  rw [if_pos rfl,if_pos hkl,hk]
  rfl
 ·rw [if_neg hj]
  cases hr:o[j]? with
  | none=>rfl
  | some r=>
   have hne:r≠u:=fun e=>by
    subst e
    obtain⟨a1,b1⟩:=YE hr
    obtain⟨a2,b2⟩:=YE hk
    exact hj ((List.getElem_inj hn).1 (b2.trans b1.symm))
   simp [h r hne]
theorem QeN (L:List Int):∀ i,i≤L.length→(gath L i).1.Nodup∧(gath L i).2=(gath L i).1.map fun u=>memb L u i
 | 0,_=>by simp [gath]
 | i+1,hi=>by
  obtain⟨h1,h2⟩:=QeN L i (by omega)
  have hmem:=Qd4 (l:=L) (i:=i) (by omega)
  by_cases hm:L.getD i 0∈(gath L i).1
  ·rw [Qa5 hm]
   refine⟨h1,?_⟩
   have hlt:=List.idxOf_lt_length_iff.2 hm
   have hk:(gath L i).1[(gath L i).1.idxOf (L.getD i 0)]? = some (L.getD i 0):=by rw [YB hlt,List.getElem_idxOf hlt]
   have hg:(gath L i).2.getD ((gath L i).1.idxOf (L.getD i 0)) []=memb L (L.getD i 0) i:=by
    rw [h2,YC,YH,hk]
    rfl
   show (gath L i).2.set _ _=(gath L i).1.map _
   rw [hg,h2]
   have hs:=Qnu h1 hk (fun u=>memb L u i) (fun u=>memb L u (i+1)) (fun r hr=>by
    show memb L r (i+1)=memb L r i
    rw [Qc1,if_neg (Ne.symm hr)])
   rw [← hs]
   congr 1
   rw [Qc1,if_pos rfl]
  ·rw [Qa6 hm]
   refine⟨?_,?_⟩
   ·show ((gath L i).1++[L.getD i 0]).Nodup
    exact List.nodup_append.2 ⟨h1,by simp,fun a ha b hb=>by
     rw [YF hb]
     exact fun e=>hm (e ▸ ha)⟩
   ·show (gath L i).2++[[(i:Int)]]=((gath L i).1++[L.getD i 0]).map _
    rw [List.map_append,h2]
    congr 1
    ·refine List.map_congr_left fun u hu=>?_
     rw [Qc1,if_neg (fun e=>hm (by rw [e];exact hu))]
    ·have hnil:memb L (L.getD i 0) i=[]:=by
      rw [List.eq_nil_iff_forall_not_mem]
      intro x hx
      obtain⟨p,_,hp,hl⟩:=memb_mem.1 hx
      refine hm ((hmem _).2 ?_)
      rw [← hl]
      have hpl:p<L.length:=by omega
      have:L.getD p 0=L[p]:=by simp [hpl]
      rw [this]
      exact List.mem_take_iff_getElem.2 ⟨p,by omega,rfl⟩
     rw [List.map_singleton,Qc1,if_pos rfl,hnil]
     rfl
def gOf (L:List Int):List (List Int):=(gath L L.length).2
def oOf (L:List Int):List Int:=(gath L L.length).1
theorem Qmx (L:List Int):gOf L=(oOf L).map fun u=>memb L u L.length:=(QeN L L.length YA).2
theorem QlK (L:List Int):(oOf L).Nodup:=(QeN L L.length YA).1
theorem Qpj {L:List Int}{p:Nat}(hp:p<L.length):L.getD p 0∈oOf L:=by
 have:=(Qd4 (l:=L) (i:=L.length) YA (L.getD p 0)).2
 refine this ?_
 rw [List.take_length]
 have e:L.getD p 0=L[p]:=by simp [hp]
 rw [e]
 exact YG hp
theorem QoN {L:List Int}{i:Nat}{g:List Int}(h:(gOf L)[i]? = some g):∃ u,(oOf L)[i]? = some u∧g=memb L u L.length:=by
 rw [Qmx,YH] at h
 cases ho:(oOf L)[i]? with
 | none=>rw [ho] at h;cases h
 | some u=>rw [ho] at h;exact⟨u,rfl,by simpa using h.symm⟩
theorem QbS {x:Int}:∀ {l:List Int},l.Nodup→x∈l→l.count x=1
 | a :: l,hn,hx=>by
  have hn':=List.nodup_cons.1 hn
  rcases List.mem_cons.1 hx with rfl | h
  ·rw [List.count_cons_self,List.count_eq_zero.2 hn'.1]
  ·rw [List.count_cons_of_ne (fun e=>hn'.1 (by rw [e];exact h)),QbS hn'.2 h]
theorem QkV {x:Int}:∀ {o:List Int},o.Nodup→x∈o→(o.map fun u=>if x=u then 1 else 0).sum=1
 | a :: o,hn,hx=>by
  rw [List.map_cons,List.sum_cons]
  have hn':=List.nodup_cons.1 hn
  rcases List.mem_cons.1 hx with rfl | h
  ·rw [if_pos rfl]
   have:(o.map fun u=>if x=u then 1 else 0).sum=0:=by
    have e:(o.map fun u=>if x=u then 1 else 0)=o.map fun _=>0:=List.map_congr_left fun u hu=>if_neg (fun e=>hn'.1 (by rw [e];exact hu))
    rw [e]
    clear e hn hx hn'
    induction o with
    | nil=>rfl
    | cons b o ih=>simpa using ih
   omega
  ·rw [if_neg (fun e=>hn'.1 (by rw [← e];exact h)),QkV hn'.2 h]
theorem Qfy {L:List Int}{p:Nat}(hp:p<L.length):(gOf L).flatten.count (p:Int)=1:=by
 rw [List.count_flatten,Qmx,List.map_map]
 have e:(oOf L).map (List.count (p:Int) ∘ fun u=>memb L u L.length)=(oOf L).map fun u=>if L.getD p 0=u then 1 else 0:=by
  refine List.map_congr_left fun u _=>?_
  show (memb L u L.length).count (p:Int)=_
  by_cases h:L.getD p 0=u
  ·rw [if_pos h]
   have hm:=memb_mem.2 ⟨p,rfl,hp,h⟩
   exact QbS (Qj0 L u L.length) hm
  ·rw [if_neg h]
   refine List.count_eq_zero.2 fun hm=>?_
   obtain⟨q,e1,_,e2⟩:=memb_mem.1 hm
   exact h (by rw [show p=q by omega];exact e2)
 rw [e]
 exact QkV (QlK L) (Qpj hp)
theorem Qds {L:List Int}{x:Int}(hx:x∈(gOf L).flatten):∃ p:Nat,x=(p:Int)∧p<L.length:=by
 obtain⟨g,hg,hxg⟩:=List.mem_flatten.1 hx
 obtain⟨i,hi,rfl⟩:=List.getElem_of_mem hg
 obtain⟨u,_,e⟩:=QoN (YB hi)
 rw [e] at hxg
 obtain⟨p,e1,e2,_⟩:=memb_mem.1 hxg
 exact⟨p,e1,e2⟩
end Go.Proofs.YtalflecmadacaaaGreat
