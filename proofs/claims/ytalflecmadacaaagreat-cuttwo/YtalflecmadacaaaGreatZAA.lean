import Derived.Lib.Small
import Derived.Deep.RegionHeld3
import Derived.WalkKit
import Derived.Deep.QuietTactic
import Derived.BigQuiet
import Derived.BigRegion
import Derived.Deep.RegionWith
import Derived.Shelf.SlSortCmp.QuietGrown
import Derived.Test.YtalflecmadacaaaGreatProg
import Derived.Test.YtalflecmadacaaaGreatXAl
set_option maxRecDepth 100000
set_option maxHeartbeats 8000000
namespace Go.Proofs.YtalflecmadacaaaGreat
open Go Go.Proofs
abbrev Ed:=Int × Int × Int
def lo (a b:Ed):Bool:=decide (a.1<b.1) || (decide (a.1=b.1) && decide (a.2.1<b.2.1))
theorem lo_iff {a b:Ed}:lo a b=true↔a.1<b.1∨(a.1=b.1∧a.2.1<b.2.1):=by simp [lo]
theorem lo_not {a b:Ed}:lo a b=false↔b.1<a.1∨(a.1=b.1∧b.2.1≤a.2.1):=by
 rw [← Bool.not_eq_true,lo_iff];omega
def cfE (a b:Ed):Int:=if Lib.compareInt a.1 b.1=0 then Lib.compareInt a.2.1 b.2.1 else Lib.compareInt a.1 b.1
theorem Qmg (a b:Ed):(cfE a b = -1∧lo a b=true)∨(cfE a b=0∧a.1=b.1∧a.2.1=b.2.1)∨(cfE a b=1∧lo b a=true):=by
 unfold cfE Lib.compareInt
 simp only [lo_iff]
 split <;> split <;> (try split) <;> (try split) <;> omega
theorem Qnf {a b c:Ed}(h:lo a b=true)(h':lo b c=true):lo a c=true:=by rw [lo_iff] at *;omega
def manyK (n m:Int):Int:=if n<0 then 1 else if 1048576<n∨4194304<m then 4 else 0
def edgeK (n:Int)(e:Ed):Int:=if e.1<0∨n≤e.1∨e.2.1<0∨n≤e.2.1 then 5 else if e.1=e.2.1 then 6 else if e.2.2≤-2147483648∨2147483648≤e.2.2 then 8 else 0
def riseK (a e:Ed):Int:=if lo a e=true then 0 else if lo e a=true then 1 else 7
def riseO:Option Ed→Ed→Int
 | none,_=>0
 | some a,e=>riseK a e
def oneK (n:Int)(p:Option Ed)(e:Ed):Int:=if edgeK n e=0 then (if e.2.1<e.1 then 1 else riseO p e) else edgeK n e
def listK (n:Int):Option Ed→List Ed→Int
 | _,[]=>0
 | p,e :: l=>if oneK n p e=0 then listK n (some e) l else oneK n p e
def rightK (n:Int)(l:List Ed):Int:=if manyK n l.length=0 then listK n none l else manyK n l.length
def prevA (l:List Ed):Nat→Option Ed
 | 0=>none
 | j+1=>l[j]?
theorem Qe8 {n:Int}{l:List Ed}{i:Nat}(h:i<l.length):listK n (prevA l i) (l.drop i)=if oneK n (prevA l i) l[i]=0 then listK n (prevA l (i+1)) (l.drop (i+1)) else oneK n (prevA l i) l[i]:=by
 rw [List.drop_eq_getElem_cons h,listK,show prevA l (i+1)=some l[i] from YB h]
theorem QgK {n:Int}{l:List Ed}:listK n (prevA l l.length) (l.drop l.length)=0:=by simp [listK]
theorem QhN {n m:Int}(h:manyK n m=0):0≤n∧n≤1048576∧m≤4194304:=by
 unfold manyK at h;split at h
 ·cases h
 ·split at h
  ·cases h
  ·omega
def okE (n:Int)(e:Ed):Prop:=0≤e.1∧e.1<n∧0≤e.2.1∧e.2.1<n∧e.1≠e.2.1∧-2147483648<e.2.2∧e.2.2<2147483648
theorem Qpa {n:Int}{e:Ed}(h:edgeK n e=0):okE n e:=by
 unfold edgeK at h;split at h
 ·cases h
 ·split at h
  ·cases h
  ·split at h
   ·cases h
   ·unfold okE;omega
theorem Qpb {n:Int}{e:Ed}(h:okE n e):edgeK n e=0:=by
 unfold okE at h;unfold edgeK;rw [if_neg (by omega),if_neg (by omega),if_neg (by omega)]
structure RightG (n:Int)(l:List Ed):Prop where
 n0:0≤n
 n1:n≤1048576
 m1:l.length≤4194304
 each:∀ e∈l,okE n e∧e.1<e.2.1
 rise:l.Pairwise fun a b=>lo a b=true
theorem Qlw {n:Int}:∀ {l:List Ed} {p:Option Ed},listK n p l=0→(∀ e∈l,okE n e∧e.1<e.2.1)∧(l.Pairwise fun a b=>lo a b=true)∧∀ a,p=some a→∀ e∈l,lo a e=true
 | [],_,_=>⟨by simp,.nil,by simp⟩
 | x :: l,p,h=>by
  rw [listK] at h
  split at h
  ·rename_i h0
   unfold oneK at h0
   split at h0
   ·rename_i hk
    split at h0
    ·cases h0
    ·rename_i huv
     obtain⟨h1,h2,h3⟩:=Qlw h
     have hx:=Qpa hk
     have hp:∀ a,p=some a→lo a x=true:=by
      intro a ha;subst ha
      simp only [riseO,riseK] at h0
      split at h0
      ·assumption
      ·split at h0 <;> cases h0
     refine⟨?_,List.Pairwise.cons (h3 x rfl) h2,?_⟩
     ·intro e he
      rcases List.mem_cons.1 he with rfl | he
      ·exact⟨hx,by unfold okE at hx;omega⟩
      ·exact h1 e he
     ·intro a ha e he
      rcases List.mem_cons.1 he with rfl | he
      ·exact hp a ha
      ·exact Qnf (hp a ha) (h3 x rfl e he)
   ·exact absurd h0 (by assumption)
  ·exact absurd h (by assumption)
theorem Qlx {n:Int}:∀ {l:List Ed} {p:Option Ed},(∀ e∈l,okE n e∧e.1<e.2.1)→(l.Pairwise fun a b=>lo a b=true)→(∀ a,p=some a→∀ e∈l,lo a e=true)→listK n p l=0
 | [],_,_,_,_=>rfl
 | x :: l,p,h1,h2,h3=>by
  have hx:=h1 x (List.mem_cons_self ..)
  have h0:oneK n p x=0:=by
   unfold oneK
   rw [if_pos (Qpb hx.1),if_neg (by omega)]
   cases p with
   | none=>rfl
   | some a=>simp only [riseO,riseK];rw [if_pos (h3 a rfl x (List.mem_cons_self ..))]
  rw [listK,if_pos h0]
  refine Qlx (fun e he=>h1 e (List.mem_cons_of_mem _ he)) (List.pairwise_cons.1 h2).2 fun a ha e he=>?_
  cases ha
  exact (List.pairwise_cons.1 h2).1 e he
theorem right_iff {n:Int}{l:List Ed}:rightK n l=0↔RightG n l:=by
 constructor
 ·intro h
  unfold rightK at h
  split at h
  ·rename_i h0
   obtain⟨a,b,c⟩:=QhN h0
   obtain⟨h1,h2,_⟩:=Qlw h
   exact⟨a,b,by omega,h1,h2⟩
  ·exact absurd h (by assumption)
 ·intro h
  have h0:manyK n l.length=0:=by
   have:=h.n0;have:=h.n1;have:=h.m1
   unfold manyK;rw [if_neg (by omega),if_neg (by omega)]
  unfold rightK
  rw [if_pos h0]
  exact Qlx h.each h.rise (by simp)
section
variable {P:Program} {ops:Array Oper} {Q:Exit→Act→World→Prop} {md:Region.Mode} {S:World→Prop}
def allB (ops:Array Oper)(listed:Array Bool):Bool:=(List.range ops.size).all fun k=>listed.getD k false
def Qib (md:Region.Mode)(ops:Array Oper)(listed:Array Bool):Bool:=(List.range ops.size).all fun k=>!(listed.getD k false) || ((ops[k]?).map fun o=>o.after.all fun e=>!Region.binds md e || listed.getD e.on false).getD true
def nextB (md:Region.Mode)(ops:Array Oper)(i:Nat):Bool:=(List.range ops.size).any fun k=>k != i && ((ops[k]?).map fun o=>o.after.any fun e=>Region.binds md e && e.on==i).getD false
def Closed (md:Region.Mode)(ops:Array Oper)(listed:Array Bool):Prop:=∀ (k:Nat) (o:Oper),ops[k]? = some o→listed.getD k false=true→∀ e∈o.after,Region.binds md e=true→listed.getD e.on false=true
theorem Qh9 {listed:Array Bool}(h:Qib md ops listed=true):Closed md ops listed:=by
 intro k o ho hk e he hb
 have hlt:k<ops.size:=(Array.getElem?_eq_some_iff.1 ho).1
 have h1:=List.all_eq_true.1 h k (List.mem_range.2 hlt)
 rw [hk,ho] at h1
 have h2:(o.after.all fun e=>!Region.binds md e || listed.getD e.on false)=true:=by simpa using h1
 rw [Array.all_eq_true_iff_forall_mem] at h2
 have h3:=h2 e he
 rw [hb] at h3
 simpa using h3
theorem Qli {i:Nat}(h:nextB md ops i=true):∃ (k:Nat) (o:Oper),ops[k]? = some o∧k≠i∧∃ e∈o.after,Region.binds md e=true∧e.on=i:=by
 obtain⟨k,hk,h1⟩:=List.any_eq_true.1 h
 simp only [Bool.and_eq_true,bne_iff_ne,ne_eq] at h1
 obtain⟨hne,h2⟩:=h1
 cases ho:ops[k]? with
 | none=>rw [ho] at h2;cases h2
 | some o=>
  rw [ho] at h2
  have h3:(o.after.any fun e=>Region.binds md e && e.on==i)=true:=h2
  rw [Array.any_eq_true] at h3
  obtain⟨j,hj,h4⟩:=h3
  simp only [Bool.and_eq_true,beq_iff_eq] at h4
  exact⟨k,o,ho,hne,_,Array.getElem_mem hj,h4.1,h4.2⟩
theorem QnP {listed:Array Bool}(h:allB ops listed=true){k:Nat}(hk:k<ops.size):listed.getD k false=true:=List.all_eq_true.1 h k (List.mem_range.2 hk)
theorem Closed.set {listed:Array Bool}{j:Nat}(hc:Closed md ops listed)(hj:j∈Region.ready md ops listed):Closed md ops (listed.setIfInBounds j true):=by
 intro k o ho hk e he hb
 by_cases hjk:j=k
 ·subst hjk
  obtain⟨_,o',ho',hall⟩:=mem_ready.1 hj
  rw [ho] at ho'
  cases ho'
  exact getD_set_true (hall e he hb)
 ·rw [getD_set_ne false hjk] at hk
  exact getD_set_true (hc k o ho hk e he hb)
def Qbo (P:Program)(md:Region.Mode)(ops:Array Oper)(Q:Exit→Act→World→Prop)(S:World→Prop):Nat→Array Bool→Act→World→Prop
 | 0,listed,a,w=>Region.ready md ops listed=[]∧Q .normal a w
 | fuel+1,listed,a,w=>
  (Region.ready md ops listed=[]→Q .normal a w) ∧
  ∀ i∈Region.ready md ops listed,wpOp P ops Q i (fun a' w'=>(allB ops (listed.setIfInBounds i true)=true∨S w')∧Qbo P md ops Q S fuel (listed.setIfInBounds i true) a' w') a w
theorem Qcx:∀ (fuel:Nat) (listed:Array Bool) (a:Act) (w:World),Qbo P md ops Q S fuel listed a w→wpAny P md ops Q fuel listed a w
 | 0,_,_,_,h=>h
 | fuel+1,_,_,_,h=>⟨h.1,fun i hi=>wpOp_mono (fun a' w' h'=>Qcx fuel _ a' w' h'.2) (h.2 i hi)⟩
theorem Qf7 {i:Nat}{oi:Oper}{v:Value}(hi:ops[i]? = some oi)(hsel:∀ (j:Nat) (o:Oper) cs b,ops[j]? = some o→o.op≠.select cs b)
  (hQ:∀ c a w,Q (.panic c) (a.put oi.dst v) w→Q (.panic c) a w) (hnx:nextB md ops i=true) :
  ∀ (fuel:Nat) (listed:Array Bool) (a:Act) (w:World),
   (∀ j oj,ops[j]? = some oj→j≠i→listed.getD j true=false→(∀ e∈oj.after,Region.binds md e=true→e.on≠i)→oi.apart ops oj=true)→Closed md ops listed →
   i∈Region.ready md ops listed→YieldsIf P ops S oi v a→S w →
   Qbo P md ops Q S fuel (listed.setIfInBounds i true) (a.put oi.dst v) w→Qbo P md ops Q S (fuel+1) listed a w:=by
 intro fuel
 induction fuel with
 | zero=>
  intro listed a w _ _ hr hy hS H
  refine⟨fun h=>(by rw [h] at hr;cases hr),fun j hj=>?_⟩
  by_cases hji:j=i
  ·subst hji;exact hy.wpOp hi hS ⟨.inr hS,H⟩
  ·have:=ready_mono hj hji
   rw [H.1] at this
   cases this
 | succ fuel ih=>
  intro listed a w hfree hcl hr hy hS H
  refine⟨fun h=>(by rw [h] at hr;cases hr),fun j hj=>?_⟩
  by_cases hji:j=i
  ·subst hji;exact hy.wpOp hi hS ⟨.inr hS,H⟩
  ·have h1:=H.2 j (ready_mono hj hji)
   obtain⟨hjun,oj,hoj,hall⟩:=mem_ready.1 hj
   have hun:¬ listed.getD i false=true:=fun h1=>by
    have h0:=(mem_ready.1 hr).1
    rcases Nat.lt_or_ge i listed.size with h' | h'
    ·simp [h'] at h0 h1;rw [h0] at h1;cases h1
    ·simp [Array.getElem?_eq_none h'] at h1
   have hnot:∀ e∈oj.after,Region.binds md e=true→e.on≠i:=fun e he hb heq=>hun (heq ▸ hall e he hb)
   have h2:=wpOp_putIf hoj (hfree j oj hoj hji hjun hnot) (fun cs b=>hsel i oi cs b hi) (fun cs b=>hsel j oj cs b hoj) hQ hy h1
   have hfree':∀ k ok,ops[k]? = some ok→k≠i→(listed.setIfInBounds j true).getD k true=false →
     (∀ e∈ok.after,Region.binds md e=true→e.on≠i)→oi.apart ops ok=true:=fun k ok hk hki hun hno=>by
    refine hfree k ok hk hki ?_ hno
    by_cases hjk:j=k
    ·subst hjk;exact hjun
    ·rw [getD_set_ne true hjk] at hun;exact hun
   refine wpOp_mono (fun a' w' h3=>?_) h2
   obtain⟨h4,h5,h6⟩:=h3
   rcases h5 with h5 | h5
   ·obtain⟨k,ok,hok,hki,e,he,hb,heq⟩:=Qli hnx
    have hk:=QnP h5 (Array.getElem?_eq_some_iff.1 hok).1
    by_cases hjk:j=k
    ·subst hjk
     rw [hoj] at hok
     cases hok
     exact absurd heq (hnot e he hb)
    ·rw [getD_set_ne false hjk,getD_set_ne false (Ne.symm hki)] at hk
     exact absurd (heq ▸ hcl k ok hok hk e he hb) hun
   ·refine⟨.inr h5,ih (listed.setIfInBounds j true) a' w' hfree' (hcl.set hj) (ready_mono hr (Ne.symm hji)) h4 h5 ?_⟩
    rw [Array.setIfInBounds_comm _ _ hji]
    exact h6
theorem Qhc {i:Nat}{oi:Oper}{v:Value}{fuel:Nat}{listed:Array Bool}{a:Act}{w:World}(hi:ops[i]? = some oi)
  (hs:Region.noSelect ops=true) (hf:Region.free md ops listed i=true) (hr:(Region.ready md ops listed).contains i=true) (hc:(nextB md ops i && Qib md ops listed)=true)
  (hQ:∀ c a w,Q (.panic c) (a.put oi.dst v) w→Q (.panic c) a w) (hy:YieldsIf P ops S oi v a) (hS:S w)
  (h:Qbo P md ops Q S fuel (listed.setIfInBounds i true) (a.put oi.dst v) w):Qbo P md ops Q S (fuel+1) listed a w:=by
 rw [Bool.and_eq_true] at hc
 exact Qf7 hi (Region.noSelect_spec hs) hQ hc.1 fuel listed a w (Region.free_spec hi hf) (Qh9 hc.2) (by simpa using hr) hy hS h
theorem Qak {listed:Array Bool}{a:Act}{w:World}(hr:Region.ready md ops listed=[])(h:Q .normal a w):∀ fuel,Qbo P md ops Q S fuel listed a w
 | 0=>⟨hr,h⟩
 | _+1=>⟨fun _=>h,by rw [hr];simp⟩
def AllReadyL (P:Program)(md:Region.Mode)(ops:Array Oper)(Q:Exit→Act→World→Prop)(S:World→Prop)(fuel:Nat)(listed:Array Bool)(a:Act)(w:World)(rs:List Nat):Prop:=
 ∀ i∈rs,wpOp P ops Q i (fun a' w'=>(allB ops (listed.setIfInBounds i true)=true∨S w')∧Qbo P md ops Q S fuel (listed.setIfInBounds i true) a' w') a w
theorem AllReadyL.nil {fuel:Nat}{listed:Array Bool}{a:Act}{w:World}:AllReadyL P md ops Q S fuel listed a w []:=fun _ h=>by cases h
theorem AllReadyL.cons {fuel:Nat}{listed:Array Bool}{a:Act}{w:World}{i:Nat}{o:Oper}{rs:List Nat}(ho:ops[i]? = some o)
  (h:∀ K':Act→World→Prop,Shut (∀ a w,S w→(S w→Qbo P md ops Q S fuel (listed.setIfInBounds i true) a w)→K' a w)→if Region.wanted o (yielded ops a.tmps)=true then Oper.wp P o a w K' Q else K' (a.put o.dst undef) w)
  (hs:AllReadyL P md ops Q S fuel listed a w rs):AllReadyL P md ops Q S fuel listed a w (i :: rs):=fun j hj=>by
 rcases List.mem_cons.1 hj with rfl | hj
 ·exact wpOp_step ho (fun K' hK=>h K' (fun a w hS hW=>hK a w ⟨.inr hS,hW hS⟩))
 ·exact hs j hj
theorem AllReadyL.last {fuel:Nat}{listed:Array Bool}{a:Act}{w:World}{i:Nat}{o:Oper}(ho:ops[i]? = some o)(ha:allB ops (listed.setIfInBounds i true)=true)
  (h:∀ K':Act→World→Prop,Shut (∀ a w,Qbo P md ops Q S fuel (listed.setIfInBounds i true) a w→K' a w)→if Region.wanted o (yielded ops a.tmps)=true then Oper.wp P o a w K' Q else K' (a.put o.dst undef) w):AllReadyL P md ops Q S fuel listed a w [i]:=fun j hj=>by
 obtain rfl:=List.mem_singleton.1 hj
 exact wpOp_step ho (fun K' hK=>h K' (fun a w hW=>hK a w ⟨.inl ha,hW⟩))
theorem Qac {rs:List Nat}{fuel:Nat}{listed:Array Bool}{a:Act}{w:World}(hr:Region.ready md ops listed=rs)(hne:rs≠[])
  (h:AllReadyL P md ops Q S fuel listed a w rs):Qbo P md ops Q S (fuel+1) listed a w:=⟨fun h0=>absurd (hr ▸ h0) hne,hr ▸ h⟩
theorem Qai {id:Nat}{a:Act}{w:World}(hm:P.follows .mixedOrders=true)(hS:S w.drew)
  (h:S w.drew→Qbo P .any ops Q S ops.size (Array.replicate ops.size false) a w.drew):(Code.region id ops true).wp P Q a w:=
 wp_region_any hm (Qcx _ _ _ _ (h hS))
end
theorem tH {P : Program} {ops : Array Oper} {Q : Exit → Act → World → Prop} {md : Region.Mode} {S : World → Prop} (i : Nat) {oi : Oper} {v : Value} {fuel k : Nat} {listed : Array Bool} {ts : Array Value} {ds : List Deferred} {w : World} (h : wpAnyH P md ops Q S fuel (listed.setIfInBounds i true) ⟨ts.setIfInBounds k v, ds⟩ w) (hi : ops[i]? = some oi := by rfl) (hd : oi.dst = some k := by rfl) (hb : (Region.noSelect ops && (Region.free md ops listed i && (Region.ready md ops listed).contains i)) = true := by kernel_rfl) (hQ : (fun c (a : Act) w => Q (.panic c) (a.put oi.dst v) w) = fun c a w => Q (.panic c) a w := by rfl) (hg : Region.wanted oi (yielded ops ts) = true := by rfl) (hy : ∀ w, S w → (execOp (Act.mk ts ds).eval oi).run P w = .ok (.value v) w := by intro w h; (try dsimp only at h); go_simp; (try rfl)) (hS : S w := by assumption) : wpAnyH P md ops Q S (fuel + 1) listed ⟨ts, ds⟩ w := by
  simp only [Bool.and_eq_true] at hb
  have hp : (Act.mk ts ds).put oi.dst v = ⟨ts.setIfInBounds k v, ds⟩ := by rw [hd]; rfl
  exact wpAnyH_take hi hb.1 hb.2.1 hb.2.2 (fun c a w h => by have := congrFun (congrFun (congrFun hQ c) a) w; exact this ▸ h) (.inl ⟨hg, hy⟩) hS (by rw [hp]; exact h)
theorem tL {P : Program} {ops : Array Oper} {Q : Exit → Act → World → Prop} {md : Region.Mode} {S : World → Prop} (i : Nat) {oi : Oper} {v : Value} {fuel k : Nat} {listed : Array Bool} {ts : Array Value} {ds : List Deferred} {w : World} (h : Qbo P md ops Q S fuel (listed.setIfInBounds i true) ⟨ts.setIfInBounds k v, ds⟩ w) (hi : ops[i]? = some oi := by rfl) (hd : oi.dst = some k := by rfl) (hb : (Region.noSelect ops && (Region.free md ops listed i && ((Region.ready md ops listed).contains i && (nextB md ops i && Qib md ops listed)))) = true := by kernel_rfl) (hQ : (fun c (a : Act) w => Q (.panic c) (a.put oi.dst v) w) = fun c a w => Q (.panic c) a w := by rfl) (hg : Region.wanted oi (yielded ops ts) = true := by rfl) (hy : ∀ w, S w → (execOp (Act.mk ts ds).eval oi).run P w = .ok (.value v) w := by intro w h; (try dsimp only at h); go_simp; (try rfl)) (hS : S w := by assumption) : Qbo P md ops Q S (fuel + 1) listed ⟨ts, ds⟩ w := by
  simp only [Bool.and_eq_true] at hb
  have hp : (Act.mk ts ds).put oi.dst v = ⟨ts.setIfInBounds k v, ds⟩ := by rw [hd]; rfl
  exact Qhc hi hb.1 hb.2.1 hb.2.2.1 (by simp only [Bool.and_eq_true]; exact hb.2.2.2) (fun c a w h => by have := congrFun (congrFun (congrFun hQ c) a) w; exact this ▸ h) (.inl ⟨hg, hy⟩) hS (by rw [hp]; exact h)
theorem YP {α : Type _} {xs : List α} {i : Nat} (h : i < xs.toArray.size) : xs.toArray[i] = xs[i]'(by simpa using h) := List.getElem_toArray h
theorem YQ {α : Type _} {a : α} {l : List α} {h : 0 < (a :: l).length} : (a :: l)[0] = a := List.getElem_cons_zero ..
theorem YR {α : Type _} {a : α} {l : List α} {i : Nat} {h : i + 1 < (a :: l).length} : (a :: l)[i + 1] = l[i]'(Nat.lt_of_succ_lt_succ h) := List.getElem_cons_succ ..
theorem YS {α : Type _} (l : List α) (i : Nat) (a : α) : l.toArray.setIfInBounds i a = (l.set i a).toArray := List.setIfInBounds_toArray ..
theorem YT {α : Type _} {x : α} {xs : List α} {a : α} : (x :: xs).set 0 a = a :: xs := List.set_cons_zero ..
theorem YU {α : Type _} {x : α} {xs : List α} {i : Nat} {a : α} : (x :: xs).set (i + 1) a = x :: xs.set i a := List.set_cons_succ ..
open Go Go.Proofs Go.RowKit
def Hid (p:Prop):Prop:=p
theorem Hid.out {p:Prop}(h:Hid p):p:=h
def Grew (w w':World):Prop:=∃ q os,w'=Go.Sort.grow (w.drewN q) os
theorem Grew.refl (w:World):Grew w w:=⟨0,#[],by rw [Go.Sort.grow_empty];rfl⟩
theorem Grew.trans {a b c:World}(h:Grew a b)(h':Grew b c):Grew a c:=by
 obtain⟨q,os,rfl⟩:=h
 obtain⟨q',os',rfl⟩:=h'
 exact⟨q+q',os++os',by show Go.Sort.grow (Go.Sort.grow ((a.drewN q).drewN q') os) os'=_;rw [Go.Sort.grow_grow,World.drewN_drewN]⟩
theorem Grew.alloc {a b:World}(h:Grew a b)(o:Obj):Grew a (b.alloc o):=h.trans ⟨0,#[o],by rw [Go.Sort.alloc_eq_grow];rfl⟩
theorem Grew.drewN {a b:World}(h:Grew a b)(k:Nat):Grew a (b.drewN k):=h.trans ⟨k,#[],by rw [Go.Sort.grow_empty]⟩
theorem Grew.below {w w':World}(h:Grew w w'):Below w.heap.size w w':=by
 obtain⟨q,os,rfl⟩:=h
 exact⟨rfl,rfl,rfl,by simp [Go.Sort.grow,World.drewN],fun k hk=>by simp [Go.Sort.grow,World.drewN,Array.getElem?_append_left hk]⟩
theorem Qaa {B:Nat}{a w:World}(h:Below B a w)(k:Nat):Below B a (w.drewN k):=⟨h.os,h.tape,h.output,h.size,h.block⟩
abbrev edV (e:Ed):Value:=.agg #[.int .i64 e.1,.int .i64 e.2.1,.int .i64 e.2.2]
def encE (e:Ed):List Value:=[.int .i64 e.1,.int .i64 e.2.1,.int .i64 e.2.2]
def Edges (n:Nat)(W:World)(sv:Value)(l:List Ed):Prop:=
 ((∃ p c,sv = .slice p 0 c)∧l=[])∨∃ b off cap,sv = .slice (some ⟨b,off,none⟩) l.length cap∧b<n∧l.length≤cap ∧
  ∀ j x,l[j]? = some x→W.cell? ⟨b,off+j*3,none⟩=some (.int .i64 x.1)∧W.cell? ⟨b,off+j*3+1,none⟩=some (.int .i64 x.2.1)∧W.cell? ⟨b,off+j*3+2,none⟩=some (.int .i64 x.2.2)
theorem Edges.below {n:Nat}{W W':World}{sv:Value}{l:List Ed}(h:Edges n W sv l)(hb:Below n W W'):Edges n W' sv l:=by
 rcases h with h | ⟨b,off,cap,h1,h2,h3,h4⟩
 ·exact .inl h
 ·exact .inr ⟨b,off,cap,h1,h2,h3,fun j x hx=>⟨(hb.cell (p:=⟨b,_,none⟩) h2).trans (h4 j x hx).1,(hb.cell (p:=⟨b,_,none⟩) h2).trans (h4 j x hx).2.1,(hb.cell (p:=⟨b,_,none⟩) h2).trans (h4 j x hx).2.2⟩⟩
theorem Edges.mono {n m:Nat}{W:World}{sv:Value}{l:List Ed}(h:Edges n W sv l)(hb:n≤m):Edges m W sv l:=by
 rcases h with h | ⟨b,off,cap,h1,h2,h3,h4⟩
 ·exact .inl h
 ·exact .inr ⟨b,off,cap,h1,Nat.lt_of_lt_of_le h2 hb,h3,h4⟩
theorem Edges.go {W W':World}{sv:Value}{l:List Ed}(h:Edges W.heap.size W sv l)(hb:Below W.heap.size W W'):Edges W'.heap.size W' sv l:=(h.below hb).mono hb.size
theorem Edges.len {n:Nat}{W:World}{sv:Value}{l:List Ed}(h:Edges n W sv l):∃ p c,sv = .slice p l.length c:=by
 rcases h with ⟨⟨p,c,rfl⟩,rfl⟩ | ⟨b,off,cap,rfl,_⟩ <;> exact⟨_,_,rfl⟩
theorem Edges.nil (n:Nat)(W:World)(p:Option Addr)(c:Nat):Edges n W (.slice p 0 c) []:=.inl ⟨⟨_,_,rfl⟩,rfl⟩
theorem Qam {w:World}{cs:Array Value}{t:TypeId}{k i:Nat}{v:Value}(hk:k=w.heap.size)(hv:cs[i]? = some v):(w.alloc (.cells cs t)).cell? ⟨k,i,none⟩=some v:=by
 rw [World.cell?_alloc_at _ _ _ _ hk,hv]
def cmpI (a b:Int):Int:=Lib.compareInt a b
theorem Qh7 (a b:Int)(w:World):Calls Tryz.prog 101 #[.int .i64 a,.int .i64 b] w fun e w'=>e = .returned (.int .i64 (cmpI a b))∧w'=w:=by
 unfold cmpI Lib.compareInt
 have h60:∀ (x:Int) W,Calls Tryz.prog 91 #[.int .i64 x] W fun e w'=>e = .returned (.bool false)∧w'=W:=by
  intro x W
  go_enter Tryz.func91,Tryz.ntmps91
  go_wp2
  go_ret
  exact⟨by simp,rfl⟩
 by_cases h1:a<b
 ·rw [if_pos h1]
  go_enter Tryz.func101,Tryz.ntmps101
  go_wp2_with (go_at_call 91;refine (h60 _ _).mono ?_;rintro e w' ⟨rfl,rfl⟩)
  go_ret
  exact⟨rfl,rfl⟩
 ·by_cases h2:b<a
  ·rw [if_neg h1,if_pos h2]
   go_enter Tryz.func101,Tryz.ntmps101
   go_wp2_with (go_at_call 91;refine (h60 _ _).mono ?_;rintro e w' ⟨rfl,rfl⟩)
   go_ret
   exact⟨rfl,rfl⟩
  ·rw [if_neg h1,if_neg h2]
   go_enter Tryz.func101,Tryz.ntmps101
   go_wp2_with (go_at_call 91;refine (h60 _ _).mono ?_;rintro e w' ⟨rfl,rfl⟩)
   go_ret
   exact⟨rfl,rfl⟩
def orI (x y:Int):Int:=if x=0 then y else x
theorem Qps (x y:Int)(b:Nat)(w:World)(h0:w.cell? ⟨b,0,none⟩=some (.int .i64 x))(h1:w.cell? ⟨b,1,none⟩=some (.int .i64 y)):
  Calls Tryz.prog 100 #[.slice (some ⟨b,0,none⟩) 2 2] w fun e w'=>e = .returned (.int .i64 (orI x y))∧w'=w:=by
 go_enter Tryz.func100,Tryz.ntmps100
 go_wp2
 go_loop [8] (fun i=>i = .int .i64 0∨(i = .int .i64 1∧x=0)∨(i = .int .i64 2∧x=0∧y=0)) (fun i=>2-(intOf i).toNat)
 case atStart=>exact .inl rfl
 case round=>
  rcases hrel with rfl | ⟨rfl,hx⟩ | ⟨rfl,hx,hy⟩
  ·by_cases hx:x=0
   ·have hd:decide (x=0)=true:=by simpa using hx
    go_wp2
    exact⟨.inr (.inl ⟨by go_num,hx⟩),by simp [intOf]⟩
   ·have HE:Hid (orI x y=x):=if_neg hx
    go_wp2
    go_ret
    exact⟨by rw [HE.out];rfl,rfl⟩
  ·have HX:Hid (x=0):=hx
   clear hx
   by_cases hy:y=0
   ·go_wp2
    exact⟨.inr (.inr ⟨by go_num,HX.out,hy⟩),by simp [intOf]⟩
   ·have HE:Hid (orI x y=y):=if_pos HX.out
    go_wp2
    go_ret
    exact⟨by rw [HE.out];rfl,rfl⟩
  ·have HE:Hid (orI x y=0):=by unfold Hid orI;rw [if_pos hx,hy]
   clear hx hy
   go_wp2
   go_ret
   exact⟨by rw [HE.out];rfl,rfl⟩
theorem QpL (a b:Ed):cfE a b=orI (cmpI a.1 b.1) (cmpI a.2.1 b.2.1):=rfl
theorem Qj5 (a b:Ed)(w:World):Calls Tryz.prog 78 #[edV a,edV b] w fun e w'=>e = .returned (.int .i64 (cfE a b))∧Grew w w':=by
 rw [QpL]
 unfold edV
 obtain⟨a0,a1,a2⟩:=a
 obtain⟨b0,b1,b2⟩:=b
 simp only
 go_enter Tryz.func78,Tryz.ntmps78
 go_wp2
 go_region_held3 (fun w'=>w'.cell? ⟨w.heap.size,0,none⟩=some (.int .i64 a0)∧w'.cell? ⟨w.heap.size,1,none⟩=some (.int .i64 a1)∧w'.cell? ⟨w.heap.size+1,0,none⟩=some (.int .i64 b0)∧w'.cell? ⟨w.heap.size+1,1,none⟩=some (.int .i64 b1)) (go_keep) (first | (go_at_call 101;refine (Qh7 _ _ _).mono ?_;rintro e w' ⟨rfl,rfl⟩) | (go_at_call 100;refine (Qps (cmpI a0 b0) (cmpI a1 b1) _ _ (by simp only [World.cell?_drew];exact Qam (by simp) rfl) (by simp only [World.cell?_drew];exact Qam (by simp) rfl)).mono ?_;rintro e w' ⟨rfl,rfl⟩))
 go_wp2
 go_ret
 exact⟨rfl,((((Grew.refl w).alloc _).alloc _).alloc _).drewN 1⟩
theorem Qgm (n m:Int)(w:World):Calls Tryz.prog 50 #[.int .i64 n,.int .i64 m] w fun e w'=>e = .returned (.int .i64 (manyK n m))∧w'=w:=by
 unfold manyK
 go_enter Tryz.func50,Tryz.ntmps50
 go_wp2
 all_goals go_ret
 all_goals refine⟨?_,rfl⟩
 all_goals simp
theorem Qnz (n:Int)(e:Ed)(w:World):Calls Tryz.prog 51 #[.int .i64 n,edV e] w fun r w'=>r = .returned (.int .i64 (edgeK n e))∧Grew w w':=by
 unfold edgeK edV
 go_enter Tryz.func51,Tryz.ntmps51
 go_wp2
 all_goals go_ret
 all_goals refine⟨?_,(Grew.refl w).alloc _⟩
 all_goals simp
 all_goals (simp_all <;> omega)
theorem QhC (n:Int)(e:Ed)(w:World):Calls Tryz.prog 38 #[.int .i64 n,edV e] w fun r w'=>r = .returned (.int .i64 (edgeK n e))∧Grew w w':=by
 unfold edgeK edV
 go_enter Tryz.func38,Tryz.ntmps38
 go_wp2
 all_goals go_ret
 all_goals refine⟨?_,(Grew.refl w).alloc _⟩
 all_goals simp
 all_goals (simp_all <;> omega)
theorem Qek (n m:Int)(w:World):Calls Tryz.prog 37 #[.int .i64 n,.int .i64 m] w fun e w'=>e = .returned (.int .i64 (manyK n m))∧w'=w:=by
 unfold manyK
 go_enter Tryz.func37,Tryz.ntmps37
 go_wp2
 all_goals go_ret
 all_goals refine⟨?_,rfl⟩
 all_goals simp
theorem QdF (a b:Ed)(w:World):Calls Tryz.prog 39 #[edV a,edV b] w fun r w'=>r = .returned (.bool (lo a b))∧Grew w w':=by
 unfold lo edV
 go_enter Tryz.func39,Tryz.ntmps39
 go_wp2
 all_goals go_ret
 all_goals refine⟨?_,((Grew.refl w).alloc _).alloc _⟩
 all_goals simp
 all_goals (simp_all <;> omega)
theorem QkE (a b:Ed)(w:World):Calls Tryz.prog 52 #[edV a,edV b] w fun r w'=>r = .returned (.int .i64 (riseK a b))∧Grew w w':=by
 have hE:(cfE a b = -1∧riseK a b=0)∨(cfE a b=0∧riseK a b=7)∨(cfE a b=1∧riseK a b=1):=by
  unfold riseK
  rcases Qmg a b with ⟨h,h'⟩ | ⟨h,h'⟩ | ⟨h,h'⟩
  ·exact .inl ⟨h,by simp [h']⟩
  ·have h1:lo a b=false:=lo_not.2 (by omega)
   have h2:lo b a=false:=lo_not.2 (by omega)
   exact .inr (.inl ⟨h,by simp [h1,h2]⟩)
  ·have h1:lo a b=false:=lo_not.2 (by have:=lo_iff.1 h';omega)
   exact .inr (.inr ⟨h,by simp [h1,h']⟩)
 have hc:=fun W=>Qj5 a b W
 generalize cfE a b=c at hc hE
 generalize riseK a b=r at hE ⊢
 have hB:∀ W,Calls Tryz.prog 78 #[.agg #[.int .i64 a.1,.int .i64 a.2.1,.int .i64 a.2.2],.agg #[.int .i64 b.1,.int .i64 b.2.1,.int .i64 b.2.2]] W fun e w'=>e = .returned (.int .i64 c)∧Grew W w':=hc
 clear hc
 unfold edV
 rcases hE with ⟨rfl,rfl⟩ | ⟨rfl,rfl⟩ | ⟨rfl,rfl⟩
 all_goals
  go_enter Tryz.func52,Tryz.ntmps52
  go_wp2_with (go_at_call 78;refine (hB _).mono ?_;rintro e w' ⟨rfl,hg⟩)
  go_ret
  exact⟨rfl,((((Grew.refl w).alloc _).alloc _)).trans hg⟩
theorem Edges.at {n:Nat}{W:World}{p:Option Addr}{c:Nat}{l:List Ed}(h:Edges n W (.slice p l.length c) l){j:Nat}(hj:j<l.length):
  ∃ b off,p=some ⟨b,off,none⟩∧b<n∧l.length≤c∧∀ i x,l[i]? = some x→W.cell? ⟨b,off+i*3,none⟩=some (.int .i64 x.1)∧W.cell? ⟨b,off+i*3+1,none⟩=some (.int .i64 x.2.1)∧W.cell? ⟨b,off+i*3+2,none⟩=some (.int .i64 x.2.2):=by
 rcases h with ⟨⟨p,c,h1⟩,rfl⟩ | ⟨b,off,cap,h1,h2,h3,h4⟩
 ·simp at hj
 ·simp only [Value.slice.injEq] at h1
  obtain⟨rfl,_,rfl⟩:=h1
  exact⟨b,off,rfl,h2,h3,h4⟩
theorem Edges.open {w:World}{p:Option Addr}{c:Nat}{l:List Ed}(h:Edges w.heap.size w (.slice p l.length c) l){j:Nat}(hj:j<l.length):
  ∃ b off,p=some ⟨b,off,none⟩∧b<w.heap.size∧l.length≤c ∧
   (∀ W',Below w.heap.size w W'→∀ i (hi:i<l.length),W'.cell? ⟨b,off+i*3,none⟩=some (.int .i64 l[i].1)∧W'.cell? ⟨b,off+i*3+1,none⟩=some (.int .i64 l[i].2.1)∧W'.cell? ⟨b,off+i*3+2,none⟩=some (.int .i64 l[i].2.2)) ∧
   (∀ W',Below w.heap.size w W'→∀ i (hi:i<l.length),(∀ n os,(Go.Sort.grow (W'.drewN n) os).cell? ⟨b,off+i*3,none⟩=some (.int .i64 l[i].1))∧(∀ n os,(Go.Sort.grow (W'.drewN n) os).cell? ⟨b,off+i*3+1,none⟩=some (.int .i64 l[i].2.1))∧(∀ n os,(Go.Sort.grow (W'.drewN n) os).cell? ⟨b,off+i*3+2,none⟩=some (.int .i64 l[i].2.2))):=by
 obtain⟨b,off,rfl,hb,hc,h4⟩:=h.at hj
 have hp:∀ W',Below w.heap.size w W'→∀ i (hi:i<l.length),W'.cell? ⟨b,off+i*3,none⟩=some (.int .i64 l[i].1)∧W'.cell? ⟨b,off+i*3+1,none⟩=some (.int .i64 l[i].2.1)∧W'.cell? ⟨b,off+i*3+2,none⟩=some (.int .i64 l[i].2.2):=by
  intro W' hW i hi
  obtain⟨c0,c1,c2⟩:=h4 i l[i] (YB hi)
  exact⟨(hW.cell (p:=⟨b,_,none⟩) hb).trans c0,(hW.cell (p:=⟨b,_,none⟩) hb).trans c1,(hW.cell (p:=⟨b,_,none⟩) hb).trans c2⟩
 refine⟨b,off,rfl,hb,hc,hp,?_⟩
 intro W' hW i hi
 obtain⟨c0,c1,c2⟩:=hp W' hW i hi
 have hbW:b<W'.heap.size:=Nat.lt_of_lt_of_le hb hW.size
 exact⟨cell_grown (a:=⟨b,_,none⟩) hbW c0,cell_grown (a:=⟨b,_,none⟩) hbW c1,cell_grown (a:=⟨b,_,none⟩) hbW c2⟩
theorem box2 {w:World}{x y:Value}{t:TypeId}:∀ W',Grew (w.alloc (.cells #[x,y] t)) W'→W'.cell? ⟨w.heap.size,0,none⟩=some x∧W'.cell? ⟨w.heap.size,1,none⟩=some y:=fun W' h=>
 ⟨(h.below.cell (p:=⟨w.heap.size,0,none⟩) (by simp)).trans (by simp),(h.below.cell (p:=⟨w.heap.size,1,none⟩) (by simp)).trans (by simp)⟩
theorem box2g {w:World}{x y:Value}{t:TypeId}:∀ W',Grew (w.alloc (.cells #[x,y] t)) W'→(∀ n os,(Go.Sort.grow (W'.drewN n) os).cell? ⟨w.heap.size,0,none⟩=some x)∧∀ n os,(Go.Sort.grow (W'.drewN n) os).cell? ⟨w.heap.size,1,none⟩=some y:=fun W' h=>
 have hlt:w.heap.size<W'.heap.size:=by have:=h.below.size;simp only [World.size_alloc] at this;omega
 ⟨cell_grown (a:=⟨w.heap.size,0,none⟩) hlt (box2 W' h).1,cell_grown (a:=⟨w.heap.size,1,none⟩) hlt (box2 W' h).2⟩
theorem QeP {w:World}{x y:Value}{t:TypeId}{W':World}(h:Grew (w.alloc (.cells #[x,y] t)) W'):w.heap.size<W'.heap.size:=by have:=h.below.size;simp only [World.size_alloc] at this;omega
theorem QaU (x:Int)(h0 : -9223372036854775808≤x)(h1:x≤9223372036854775807):IntKind.i64.wrap x=x:=by
 simp [IntKind.wrap,IntKind.bits,IntKind.signed];omega
theorem mixed:Tryz.prog.follows .mixedOrders=true:=by kernel_rfl
theorem Qbg (n:Int)(l:List Ed)(sv:Value)(w:World)(hl:Edges w.heap.size w sv l):
  Calls Tryz.prog 26 #[.agg #[.int .i64 n,sv]] w fun r w'=>r = .returned (.int .i64 (rightK n l))∧Grew w w':=by
 obtain⟨p,c,rfl⟩:=hl.len
 by_cases hm:manyK n l.length=0
 ·have hR:Hid (rightK n l=listK n none l):=if_pos hm
  obtain⟨hn0,hn1,hlen⟩:=QhN hm
  have hS:=fun W=>Qgm n l.length W
  rw [hm] at hS
  have hg1:Grew w (w.alloc (.cells #[.int .i64 n,.slice p l.length c] 24)):=(Grew.refl w).alloc _
  go_enter Tryz.func26,Tryz.ntmps26
  go_wp2_with fail
  refine (hS _).mono ?_
  rintro e w1 ⟨rfl,rfl⟩
  clear hS hm
  go_wp2
  go_loopw [20] (fun i wr=>∃ j:Nat,j≤l.length∧i = .int .i64 j∧Hid (listK n (prevA l j) (l.drop j)=listK n none l)∧Grew (w.alloc (.cells #[.int .i64 n,.slice p l.length c] 24)) wr) (fun i _=>l.length-(intOf i).toNat)
  case atStart=>exact⟨0,YN,rfl,rfl,Grew.refl _⟩
  case round=>
   obtain⟨j,hj,rfl,hr,hg⟩:=hrel
   by_cases hlt:j<l.length
   ·obtain⟨b,off,rfl,hbb,hcap,hc⟩:=hl.at hlt
    have hb0:=(hg1.trans hg).below
    have q0:=(hg.below.cell (p:=⟨w.heap.size,0,none⟩) (by simp)).trans (by simp:_=some (Value.int .i64 n))
    have q1:=(hg.below.cell (p:=⟨w.heap.size,1,none⟩) (by simp)).trans (by simp:_=some (Value.slice (some ⟨b,off,none⟩) l.length c))
    obtain⟨c0,c1,c2⟩:=hc j l[j] (YB hlt)
    replace c0:=(hb0.cell (p:=⟨b,off+j*3,none⟩) hbb).trans c0
    replace c1:=(hb0.cell (p:=⟨b,off+j*3+1,none⟩) hbb).trans c1
    replace c2:=(hb0.cell (p:=⟨b,off+j*3+2,none⟩) hbb).trans c2
    have hjl:(j:Int)<(l.length:Int):=by omega
    have hst:=hr
    unfold Hid at hst
    rw [Qe8 hlt] at hst
    have HC:Hid _:=hc
    have HST:Hid _:=hst
    clear hc hst
    have hsz:w.heap.size<wr.heap.size:=by have:=hg.below.size;simp at this;omega
    have hbr:b<wr.heap.size:=by omega
    go_wp2_with fail
    refine (Qnz n l[j] _).mono ?_
    rintro e w7 ⟨rfl,hg7⟩
    have hb7:=hg7.below
    simp only [World.size_alloc] at hb7
    have e0:w7.cell? ⟨wr.heap.size,0,none⟩=some (.int .i64 l[j].1):=(hb7.cell (p:=⟨wr.heap.size,0,none⟩) (by simp)).trans (by simp)
    have e1:w7.cell? ⟨wr.heap.size,1,none⟩=some (.int .i64 l[j].2.1):=(hb7.cell (p:=⟨wr.heap.size,1,none⟩) (by simp)).trans (by simp)
    have e2:w7.cell? ⟨wr.heap.size,2,none⟩=some (.int .i64 l[j].2.2):=(hb7.cell (p:=⟨wr.heap.size,2,none⟩) (by simp)).trans (by simp)
    have q1':w7.cell? ⟨w.heap.size,1,none⟩=some (Value.slice (some ⟨b,off,none⟩) l.length c):=(hb7.cell (p:=⟨w.heap.size,1,none⟩) (by show w.heap.size<_;omega)).trans ((World.cell?_alloc_past _ _ _ hsz).trans q1)
    have hg8:Grew w w7:=(hg1.trans hg).trans (((Grew.refl wr).alloc _).trans hg7)
    have hg9:Grew (w.alloc (.cells #[.int .i64 n,.slice (some ⟨b,off,none⟩) l.length c] 24)) w7:=hg.trans (((Grew.refl wr).alloc _).trans hg7)
    have hz7:wr.heap.size<w7.heap.size:=by have:=hb7.size;simp only [World.size_alloc] at this;omega
    clear q0 q1 c0 c1 c2 hb0 hg hg7 hb7 hg1
    by_cases hk:edgeK n l[j]=0
    ·rw [hk]
     by_cases huv:l[j].2.1<l[j].1
     ·have HE:Hid (rightK n l=1):=by
       have h1:oneK n (prevA l j) l[j]=1:=by unfold oneK;rw [if_pos hk,if_pos huv]
       have h2:=HST.out
       rw [h1] at h2
       unfold Hid;rw [hR.out,← h2];rfl
      clear hr HST HC hk
      go_wp2
      go_ret
      exact⟨by rw [HE.out];rfl,hg8⟩
     ·have h1:oneK n (prevA l j) l[j]=riseO (prevA l j) l[j]:=by unfold oneK;rw [if_pos hk,if_neg huv]
      cases j with
      | zero=>
       have HS:Hid (listK n (prevA l 1) (l.drop 1)=listK n none l):=by
        have h2:=HST.out
        rw [h1,show riseO (prevA l 0) l[0]=0 from rfl,if_pos rfl] at h2
        exact h2
       clear hr HST HC hk h1
       go_wp2
       exact⟨⟨1,by omega,by go_num,HS,hg9⟩,by simp [intOf];omega⟩
      | succ i=>
       have hil:i<l.length:=by omega
       have h2:riseO (prevA l (i+1)) l[i+1]=riseK l[i] l[i+1]:=by rw [show prevA l (i+1)=some l[i] from YB hil];rfl
       rw [h2] at h1
       obtain⟨c0,c1,c2⟩:=HC.out i l[i] (YB hil)
       replace c0:=cell_grown (a:=⟨b,off+i*3,none⟩) (by show b<_;omega) ((hg8.below.cell (p:=⟨b,off+i*3,none⟩) hbb).trans c0)
       replace c1:=cell_grown (a:=⟨b,off+i*3+1,none⟩) (by show b<_;omega) ((hg8.below.cell (p:=⟨b,off+i*3+1,none⟩) hbb).trans c1)
       replace c2:=cell_grown (a:=⟨b,off+i*3+2,none⟩) (by show b<_;omega) ((hg8.below.cell (p:=⟨b,off+i*3+2,none⟩) hbb).trans c2)
       replace q1':=cell_grown (a:=⟨w.heap.size,1,none⟩) (by show w.heap.size<_;omega) q1'
       have e0':=cell_grown (a:=⟨wr.heap.size,0,none⟩) hz7 e0
       have e1':=cell_grown (a:=⟨wr.heap.size,1,none⟩) hz7 e1
       have e2':=cell_grown (a:=⟨wr.heap.size,2,none⟩) hz7 e2
       have hii:(i:Int)<(l.length:Int):=by omega
       have HK:Hid _:=h1
       have HG8:Hid _:=hg8
       clear hr HC hk h1 h2 hg8
       go_wp2
       have hmix:=mixed
       have hwi:=QaU i (by omega) (by omega)
       go_quiet_grown (first | (go_at_call 52;refine Calls.grown_of (QkE l[i] l[i+1] _)))
       by_cases hz:riseK l[i] l[i+1]=0
       ·have HS:Hid (listK n (prevA l (i+1+1)) (l.drop (i+1+1))=listK n none l):=by
         have h2:=HST.out
         rw [HK.out,hz,if_pos rfl] at h2
         exact h2
        have hgf:=hg9.trans ⟨nq,osq,rfl⟩
        rw [hz]
        clear HST HK HG8 hz e0 e1 e2 c0 c1 c2 e0' e1' e2' q1'
        go_wp2
        exact⟨⟨i+1+1,by omega,by go_num,HS,hgf⟩,by simp [intOf];omega⟩
       ·have HE:Hid (rightK n l=riseK l[i] l[i+1]):=by
         have h2:=HST.out
         rw [HK.out,if_neg hz] at h2
         unfold Hid;rw [hR.out,← h2]
        have hgf:Grew w _:=(show Grew w w7 from HG8.out).trans ⟨nq,osq,rfl⟩
        generalize riseK l[i] l[i+1]=k at HE hz
        have hz':(k==0)=false:=by simpa using hz
        clear HST HK HG8 hz e0 e1 e2 c0 c1 c2 e0' e1' e2' q1'
        go_wp2
        go_ret
        exact⟨by rw [HE.out];rfl,hgf⟩
    ·have HE:Hid (rightK n l=edgeK n l[j]):=by
      have h1:oneK n (prevA l j) l[j]=edgeK n l[j]:=by unfold oneK;rw [if_neg hk]
      have h2:=HST.out
      rw [h1,if_neg hk] at h2
      unfold Hid;rw [hR.out,← h2]
     generalize edgeK n l[j]=k at HE hk
     have hk':(k==0)=false:=by simpa using hk
     clear hr HST HC hk
     go_wp2
     go_ret
     exact⟨by rw [HE.out];rfl,hg8⟩
   ·obtain rfl:j=l.length:=by omega
    have HE:Hid (rightK n l=0):=by
     unfold Hid;rw [hR.out,← hr.out,QgK]
    clear hr
    go_wp2
    go_ret
    exact⟨by rw [HE.out];rfl,hg1.trans hg⟩
 ·have HE:Hid (rightK n l=manyK n l.length):=if_neg hm
  have hS:=fun W=>Qgm n l.length W
  generalize manyK n l.length=k at hS HE hm
  have hk:(k==0)=false:=by simpa using hm
  clear hm
  go_enter Tryz.func26,Tryz.ntmps26
  go_wp2_with fail
  refine (hS _).mono ?_
  rintro e w1 ⟨rfl,rfl⟩
  clear hS
  go_wp2
  go_ret
  exact⟨by rw [HE.out];rfl,(Grew.refl w).alloc _⟩
theorem Qgs (n:Int)(l:List Ed)(sv:Value)(w:World)(hl:Edges w.heap.size w sv l):
  Calls Tryz.prog 17 #[.agg #[.int .i64 n,sv]] w fun r w'=>r = .returned (.int .i64 (rightK n l))∧Grew w w':=by
 obtain⟨p,c,rfl⟩:=hl.len
 have hmix:=mixed
 by_cases hm:manyK n l.length=0
 ·have hR:Hid (rightK n l=listK n none l):=if_pos hm
  obtain⟨hn0,hn1,hlen⟩:=QhN hm
  have hS:=fun W=>Qek n l.length W
  rw [hm] at hS
  have hg1:Grew w (w.alloc (.cells #[.int .i64 n,.slice p l.length c] 24)):=(Grew.refl w).alloc _
  go_enter Tryz.func17,Tryz.ntmps17
  go_wp2_with fail
  refine (hS _).mono ?_
  rintro e w1 ⟨rfl,rfl⟩
  clear hS hm
  go_wp2
  go_loopw [4] (fun i wr=>∃ j:Nat,j≤l.length∧i = .int .i64 j∧Hid (listK n (prevA l j) (l.drop j)=listK n none l)∧Grew (w.alloc (.cells #[.int .i64 n,.slice p l.length c] 24)) wr) (fun i _=>l.length-(intOf i).toNat)
  case atStart=>exact⟨0,YN,rfl,rfl,Grew.refl _⟩
  case round=>
   obtain⟨j,hj,rfl,hr,hg⟩:=hrel
   have q0:=(box2 _ hg).1
   have q1:=(box2 _ hg).2
   by_cases hlt:j<l.length
   ·obtain⟨b,off,rfl,hbb,hcap,hc,hcg⟩:=hl.open hlt
    have hst:=hr
    unfold Hid at hst
    rw [Qe8 hlt] at hst
    have HST:Hid _:=hst
    have HC:Hid _:=hc
    have HCG:Hid _:=hcg
    clear hc hcg hst
    have hjl:(j:Int)<(l.length:Int):=by omega
    have q0g:=(box2g _ hg).1
    have q1g:=(box2g _ hg).2
    obtain⟨c0,c1,c2⟩:=HCG.out wr (hg1.trans hg).below j hlt
    go_wp2
    go_quiet_grown (first | (go_at_call 38;refine Calls.grown_of (QhC n l[j] _)))
    have hg2:=hg.trans ⟨nq,osq,rfl⟩
    generalize Go.Sort.grow (wr.drewN nq) osq=w2 at hg2 ⊢
    clear q0 q1 q0g q1g c0 c1 c2 hg nq osq
    by_cases hk:edgeK n l[j]=0
    ·rw [hk]
     have q1:=(box2 _ hg2).2
     obtain⟨c0,c1,c2⟩:=HC.out w2 (hg1.trans hg2).below j hlt
     go_wp2
     go_quiet (fail)
     have hg3:=hg2.drewN nq
     generalize w2.drewN nq=w3 at hg3 ⊢
     clear q1 c0 c1 c2 hg2
     by_cases huv:l[j].2.1<l[j].1
     ·have HE:Hid (rightK n l=1):=by
       have h1:oneK n (prevA l j) l[j]=1:=by unfold oneK;rw [if_pos hk,if_pos huv]
       have h2:=HST.out
       rw [h1] at h2
       unfold Hid;rw [hR.out,← h2];rfl
      clear hr HST HC HCG hk
      go_wp2
      go_ret
      exact⟨by rw [HE.out];rfl,hg1.trans hg3⟩
     ·have h1:oneK n (prevA l j) l[j]=riseO (prevA l j) l[j]:=by unfold oneK;rw [if_pos hk,if_neg huv]
      by_cases hj0:j=0
      ·have HS:Hid (listK n (prevA l (j+1)) (l.drop (j+1))=listK n none l):=by
        have h2:=HST.out
        rw [h1] at h2
        subst hj0
        rw [show riseO (prevA l 0) l[0]=0 from rfl,if_pos rfl] at h2
        exact h2
       have hneg:decide (0<j)=false:=by simp;omega
       clear hr HST HC HCG hk h1 hj0
       go_wp2
       go_big_region_o
       have hg4:=hg3.drewN 1
       go_wp2
       exact⟨⟨j+1,by omega,by go_num,HS,hg4⟩,by simp [intOf];omega⟩
      ·obtain⟨i,rfl⟩:∃ i,j=i+1:=⟨j-1,by omega⟩
       have hil:i<l.length:=by omega
       have h2:riseO (prevA l (i+1)) l[i+1]=riseK l[i] l[i+1]:=by rw [show prevA l (i+1)=some l[i] from YB hil];rfl
       rw [h2] at h1
       have HK:Hid _:=h1
       clear h1 h2 hk
       have hwi:=QaU i (by omega) (by omega)
       have hii:(i:Int)<(l.length:Int):=by omega
       have q1g:=(box2g _ hg3).2
       obtain⟨c0,c1,c2⟩:=HCG.out w3 (hg1.trans hg3).below (i+1) hlt
       obtain⟨d0,d1,d2⟩:=HCG.out w3 (hg1.trans hg3).below i hil
       have hjl':(i:Int)+1<(l.length:Int):=by omega
       have hjl'':(0:Int)≤(i:Int)+1:=by omega
       have hpos:decide ((0:Int)<((i+1:Nat):Int))=true:=by simp
       go_wp2
       go_quiet_grown (first | (go_at_call 39;refine Calls.grown_of (QdF l[i] l[i+1] _)))
       have hg4:=hg3.trans ⟨nq,osq,rfl⟩
       generalize Go.Sort.grow (w3.drewN nq) osq=w4 at hg4 ⊢
       clear q1g c0 c1 c2 d0 d1 d2 hg3 nq osq
       cases hlo:lo l[i] l[i+1] with
       | true=>
        have HS:Hid (listK n (prevA l (i+1+1)) (l.drop (i+1+1))=listK n none l):=by
         have h2:=HST.out
         rw [HK.out,show riseK l[i] l[i+1]=0 by unfold riseK;rw [if_pos hlo],if_pos rfl] at h2
         exact h2
        clear hr HST HC HCG HK hlo
        go_wp2
        exact⟨⟨i+1+1,by omega,by go_num,HS,hg4⟩,by simp [intOf];omega⟩
       | false=>
        have q1g:=(box2g _ hg4).2
        obtain⟨c0,c1,c2⟩:=HCG.out w4 (hg1.trans hg4).below (i+1) hlt
        obtain⟨d0,d1,d2⟩:=HCG.out w4 (hg1.trans hg4).below i hil
        have HL:Hid _:=hlo
        clear hlo
        go_wp2
        go_quiet_grown (first | (go_at_call 39;refine Calls.grown_of (QdF l[i+1] l[i] _)))
        have hg5:=hg4.trans ⟨nq,osq,rfl⟩
        generalize Go.Sort.grow (w4.drewN nq) osq=w5 at hg5 ⊢
        clear q1g c0 c1 c2 d0 d1 d2 hg4 nq osq
        cases hlo2:lo l[i+1] l[i] with
        | true=>
         have HE:Hid (rightK n l=1):=by
          have h3:riseK l[i] l[i+1]=1:=by unfold riseK;rw [HL.out,hlo2];rfl
          have h2:=HST.out
          rw [HK.out,h3] at h2
          unfold Hid;rw [hR.out,← h2];rfl
         clear hr HST HC HCG HK hlo2 HL
         go_wp2
         go_ret
         exact⟨by rw [HE.out];rfl,hg1.trans hg5⟩
        | false=>
         have HE:Hid (rightK n l=7):=by
          have h3:riseK l[i] l[i+1]=7:=by unfold riseK;rw [HL.out,hlo2];rfl
          have h2:=HST.out
          rw [HK.out,h3] at h2
          unfold Hid;rw [hR.out,← h2];rfl
         clear hr HST HC HCG HK hlo2 HL
         go_wp2
         go_ret
         exact⟨by rw [HE.out];rfl,hg1.trans hg5⟩
    ·have HE:Hid (rightK n l=edgeK n l[j]):=by
      have h1:oneK n (prevA l j) l[j]=edgeK n l[j]:=by unfold oneK;rw [if_neg hk]
      have h2:=HST.out
      rw [h1,if_neg hk] at h2
      unfold Hid;rw [hR.out,← h2]
     generalize edgeK n l[j]=k at HE hk
     have hk':(k==0)=false:=by simpa using hk
     clear hr HST HC HCG hk
     go_wp2
     go_ret
     exact⟨by rw [HE.out];rfl,hg1.trans hg2⟩
   ·obtain rfl:j=l.length:=by omega
    have HE:Hid (rightK n l=0):=by
     unfold Hid;rw [hR.out,← hr.out,QgK]
    clear hr
    go_wp2
    go_ret
    exact⟨by rw [HE.out];rfl,hg1.trans hg⟩
 ·have HE:Hid (rightK n l=manyK n l.length):=if_neg hm
  have hS:=fun W=>Qek n l.length W
  generalize manyK n l.length=k at hS HE hm
  have hk:(k==0)=false:=by simpa using hm
  clear hm
  go_enter Tryz.func17,Tryz.ntmps17
  go_wp2_with fail
  refine (hS _).mono ?_
  rintro e w1 ⟨rfl,rfl⟩
  clear hS
  go_wp2
  go_ret
  exact⟨by rw [HE.out];rfl,(Grew.refl w).alloc _⟩
end Go.Proofs.YtalflecmadacaaaGreat
