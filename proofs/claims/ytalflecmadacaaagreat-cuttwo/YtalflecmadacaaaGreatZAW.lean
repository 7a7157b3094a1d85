import Derived.Test.YtalflecmadacaaaGreatZAV
import Derived.Test.YtalflecmadacaaaGreatZAI
import Derived.OwnWalk
import Derived.Test.YtalflecmadacaaaGreatZAQ
set_option maxRecDepth 100000
set_option maxHeartbeats 8000000
namespace Go.Proofs.YtalflecmadacaaaGreat
open Go Go.Proofs Go.RowKit
structure R2 (t tr:TypeId)(n rb b0 b1:Nat)(r0 r1:List Value)(W:World):Prop where
 rows:Blk tr W rb [.slice (some ⟨b0,0,none⟩) n n,.slice (some ⟨b1,0,none⟩) n n]
 r0:Blk t W b0 r0
 r1:Blk t W b1 r1
 lt0:rb<b0
 lt1:b0<b1
theorem R2.go {t tr:TypeId}{n rb b0 b1:Nat}{r0 r1:List Value}{W W':World}(h:R2 t tr n rb b0 b1 r0 r1 W)(hb:Below W.heap.size W W'):R2 t tr n rb b0 b1 r0 r1 W':=⟨h.rows.go hb,h.r0.go hb,h.r1.go hb,h.lt0,h.lt1⟩
theorem R2.of {t tr:TypeId}{row:List Value}{rb:Nat}{bs:Nat→Nat}{W:World}(h:SQ t tr 2 2 row rb bs W):R2 t tr 2 rb (bs 0) (bs 1) row row W:=
 ⟨by have:=h.rows;simpa [Qb3,List.range_succ] using this,h.row 0 (by omega),h.row 1 (by omega),h.gt 0 (by omega),h.rise 0 1 (by omega) (by omega)⟩
theorem Qm7:List.replicate 2 (Value.int .i64 (-1))=[.int .i64 (-1),.int .i64 (-1)]:=rfl
theorem Qg4 (c:Nat)(p:Option Addr)(q:Nat)(w:World)(hl:Edges w.heap.size w (.slice p 1 q) ((L2 c).map edE)):Calls Tryz.prog 136 #[.agg #[.int .i64 2,.slice p 1 q]] w fun r w'=>∃ rb b0 b1,r = .returned (.slice (some ⟨rb,0,none⟩) 2 2)∧R2 3 27 2 rb b0 b1 [.int .i64 (-1),.int .i64 0] [.int .i64 0,.int .i64 (-1)] w'∧Below w.heap.size w w'∧w.heap.size≤rb:=by
 have hmix:=mixed
 obtain⟨b,off,rfl,hb,hq,hcl⟩:=QnR hl
 have hx:Blk 24 (w.alloc (.cells #[.int .i64 2,.slice (some ⟨b,off,none⟩) 1 q] 24)) w.heap.size [.int .i64 2,.slice (some ⟨b,off,none⟩) 1 q]:=heap_alloc_new w _
 have hg1:Below w.heap.size w (w.alloc (.cells #[.int .i64 2,.slice (some ⟨b,off,none⟩) 1 q] 24)):=YD.alloc YA _
 have hsq:=Qhr (-1) 2 (by omega) (by omega) (w.alloc (.cells #[.int .i64 2,.slice (some ⟨b,off,none⟩) 1 q] 24))
 have HX:Hid (Blk 24 (w.alloc (.cells #[.int .i64 2,.slice (some ⟨b,off,none⟩) 1 q] 24)) w.heap.size [.int .i64 2,.slice (some ⟨b,off,none⟩) 1 q]):=hx
 have HG:Hid _:=hg1
 have HC:Hid _:=hcl
 clear hx hg1 hcl hl
 go_enter Tryz.func136,Tryz.ntmps136
 go_wp2_with fail
 refine hsq.mono ?_
 rintro e w2 ⟨rb,bs,rfl,hSQ,hb2,hrb⟩
 clear hsq
 have hX:=Blk.go HX.out hb2
 have x0:=hX.cell (j:=0) rfl
 have x1:=hX.cell (j:=1) rfl
 have HB2:Hid (Below w.heap.size w w2):=HG.out.trans (hb2.mono HG.out.size)
 have hR:=R2.of hSQ
 rw [Qm7] at hR
 have hxs:(w.alloc (.cells #[.int .i64 2,.slice (some ⟨b,off,none⟩) 1 q] 24)).heap.size=w.heap.size+1:=by simp
 rw [hxs] at hrb
 generalize bs 0=b0 at hR
 generalize bs 1=b1 at hR
 have HR:Hid (R2 3 27 2 rb b0 b1 [.int .i64 (-1),.int .i64 (-1)] [.int .i64 (-1),.int .i64 (-1)] w2):=hR
 have hbx:=hX.lt
 have HX2:Hid (Blk 24 w2 w.heap.size [.int .i64 2,.slice (some ⟨b,off,none⟩) 1 q]):=hX
 clear hSQ hb2 hR hX HX HG hxs
 obtain⟨x,hx⟩:∃ x,w.heap.size=x:=⟨_,rfl⟩
 have HCx:Hid (∀ W',Below x w W'→W'.cell? ⟨b,off,none⟩=some (.int .i64 1)∧W'.cell? ⟨b,off+1,none⟩=some (.int .i64 0)∧W'.cell? ⟨b,off+2,none⟩=some (.int .i64 (c:Int))):=by rw [← hx];exact HC.out
 rw [hx] at HX2 HB2 hrb hbx hb x0 x1 ⊢
 clear HC
 go_wp2
 have h1:=HR.out.lt0
 have h2:=HR.out.lt1
 go_loopw [13] (fun i wr=>(i = .int .i64 0∧wr=w2)∨(i = .int .i64 1∧R2 3 27 2 rb b0 b1 [.int .i64 (-1),.int .i64 0] [.int .i64 0,.int .i64 (-1)] wr∧Below x w wr∧wr.cell? ⟨x,1,none⟩=some (.slice (some ⟨b,off,none⟩) 1 q))) (fun i _=>1-(intOf i).toNat)
 case atStart=>exact .inl ⟨rfl,rfl⟩
 case round=>
  rcases hrel with ⟨rfl,rfl⟩ | ⟨rfl,hR,hbr,hx1⟩
  ·obtain⟨c0,c1,c2⟩:=HCx.out wr HB2.out
   have hsr:=HR.out.r1.lt
   have HE6:Hid (Blk 50 (wr.alloc (.cells #[.int .i64 1,.int .i64 0,.int .i64 (c:Int)] 50)) wr.heap.size [.int .i64 1,.int .i64 0,.int .i64 (c:Int)]):=heap_alloc_new wr _
   have HB6:Hid (Below wr.heap.size wr (wr.alloc (.cells #[.int .i64 1,.int .i64 0,.int .i64 (c:Int)] 50))):=YD.alloc YA _
   go_wp2
   obtain⟨w6,hw6⟩:∃ W,wr.alloc (.cells #[.int .i64 1,.int .i64 0,.int .i64 (c:Int)] 50)=W:=⟨_,rfl⟩
   rw [hw6] at HE6 HB6 ⊢
   clear hw6 c0 c1 c2 x0 x1
   have HR6:Hid (R2 3 27 2 rb b0 b1 [.int .i64 (-1),.int .i64 (-1)] [.int .i64 (-1),.int .i64 (-1)] w6):=HR.out.go HB6.out
   have HX6:Hid (Blk 24 w6 x [.int .i64 2,.slice (some ⟨b,off,none⟩) 1 q]):=HX2.out.go HB6.out
   have HBw6:Hid (Below x w w6):=HB2.out.trans (HB6.out.mono (by omega))
   obtain⟨eb,heb⟩:∃ n,wr.heap.size=n:=⟨_,rfl⟩
   rw [heb] at HE6 hsr hbx ⊢
   clear heb HB6 HR HX2 HB2
   have y0:=HE6.out.cell (j:=0) rfl
   have y1:=HE6.out.cell (j:=1) rfl
   have y2:=HE6.out.cell (j:=2) rfl
   have r0:=HR6.out.rows.cell (j:=0) rfl
   have r1:=HR6.out.rows.cell (j:=1) rfl
   have s0:=HR6.out.r0.cell (j:=1) rfl
   have s1:=HR6.out.r1.cell (j:=0) rfl
   have f0:=HR6.out.r0.frozen 1
   have f1:=HR6.out.r1.frozen 0
   go_quiet (fail)
   generalize nq=k1
   go_wp2
   go_quiet (fail)
   obtain⟨w7,hw7⟩:∃ W,(w6.drewN k1).drewN nq=W:=⟨_,rfl⟩
   have HR7:Hid (R2 3 27 2 rb b0 b1 [.int .i64 (-1),.int .i64 (-1)] [.int .i64 (-1),.int .i64 (-1)] w7):=by rw [← hw7];exact⟨HR6.out.rows,HR6.out.r0,HR6.out.r1,h1,h2⟩
   have HX7:Hid (Blk 24 w7 x [.int .i64 2,.slice (some ⟨b,off,none⟩) 1 q]):=by rw [← hw7];exact HX6.out
   have HE7:Hid (Blk 50 w7 eb [.int .i64 1,.int .i64 0,.int .i64 (c:Int)]):=by rw [← hw7];exact HE6.out
   have HBw7:Hid (Below x w w7):=by rw [← hw7];exact Qaa (Qaa HBw6.out k1) nq
   rw [hw7]
   clear hw7 HR6 HX6 HE6 HBw6 y0 y1 y2 r0 r1 s0 s1 f0 f1
   have y0:=HE7.out.cell (j:=0) rfl
   have y1:=HE7.out.cell (j:=1) rfl
   have r0:=HR7.out.rows.cell (j:=0) rfl
   have r1:=HR7.out.rows.cell (j:=1) rfl
   have s0:=HR7.out.r0.cell (j:=1) rfl
   have s1:=HR7.out.r1.cell (j:=0) rfl
   have f0:=HR7.out.r0.frozen 1
   have f1:=HR7.out.r1.frozen 0
   have n1:b0≠b1:=by omega
   have n2:eb≠b0:=by omega
   have n3:eb≠b1:=by omega
   have n4:rb≠b0:=by omega
   have n5:rb≠b1:=by omega
   have HR8:Hid (R2 3 27 2 rb b0 b1 [.int .i64 (-1),.int .i64 0] [.int .i64 0,.int .i64 (-1)] ((w7.setCell ⟨b1,0,none⟩ (.int .i64 0)).setCell ⟨b0,1,none⟩ (.int .i64 0))):=
    ⟨(HR7.out.rows.other (p:=⟨b1,0,none⟩) n5 _).other (p:=⟨b0,1,none⟩) n4 _,(HR7.out.r0.other (p:=⟨b1,0,none⟩) n1 _).set 1 _,(HR7.out.r1.set 0 _).other (p:=⟨b0,1,none⟩) (Ne.symm n1) _,h1,h2⟩
   have HX8:Hid (Blk 24 ((w7.setCell ⟨b1,0,none⟩ (.int .i64 0)).setCell ⟨b0,1,none⟩ (.int .i64 0)) x [.int .i64 2,.slice (some ⟨b,off,none⟩) 1 q]):=
    (HX7.out.other (p:=⟨b1,0,none⟩) (by show x≠b1;omega) _).other (p:=⟨b0,1,none⟩) (by show x≠b0;omega) _
   have HBw8:Hid (Below x w ((w7.setCell ⟨b1,0,none⟩ (.int .i64 0)).setCell ⟨b0,1,none⟩ (.int .i64 0))):=(HBw7.out.setCell (p:=⟨b1,0,none⟩) (by show x≤b1;omega) _).setCell (p:=⟨b0,1,none⟩) (by show x≤b0;omega) _
   clear HR7 HX7 HE7 HBw7
   go_wp2
   go_big_region_o
   go_wp2
   exact⟨.inr ⟨rfl,⟨HR8.out.rows,HR8.out.r0,HR8.out.r1,h1,h2⟩,Qaa HBw8.out 1,HX8.out.cell (j:=1) rfl⟩,by simp [intOf]⟩
  ·go_wp2
   go_ret
   exact⟨rb,b0,b1,rfl,hR,by rw [hx];exact hbr,by omega⟩
section
variable {P:Program} {ops:Array Oper} {Q:Exit→Act→World→Prop} {md:Region.Mode} {S:World→Prop}
def nextD (dep:Nat→List Nat)(ps d:List Nat):List Nat:=ps.filter fun i=>!d.contains i && (dep i).all fun j=>d.contains j
def Qia (dep:Nat→List Nat)(d:List Nat):Bool:=d.all fun i=>(dep i).all fun j=>d.contains j
def Qbu (base:Array Bool)(d:List Nat):Array Bool:=d.foldr (fun i l=>l.setIfInBounds i true) base
def subsD:List Nat→List (List Nat)
 | []=>[[]]
 | i :: l=>subsD l++(subsD l).map (i :: ·)
def okD (md:Region.Mode)(ops:Array Oper)(dep:Nat→List Nat)(ps:List Nat)(base:Array Bool):Bool:=
 (subsD ps).all fun d=>!Qia dep d || d.length==ps.length || (Region.ready md ops (Qbu base d)==nextD dep ps d && !(nextD dep ps d).isEmpty)
theorem Qbr (base:Array Bool):∀ d:List Nat,(Qbu base d).size=base.size
 | []=>rfl
 | i :: d=>by show (Array.setIfInBounds _ i true).size=_;rw [Array.size_setIfInBounds];exact Qbr base d
theorem Qdo (base:Array Bool){k:Nat}(hk:k<base.size):∀ d:List Nat,(Qbu base d)[k]? = if k∈d then some true else base[k]?
 | []=>by simp [Qbu]
 | i :: d=>by
  show (Array.setIfInBounds (Qbu base d) i true)[k]? = _
  rw [Array.getElem?_setIfInBounds,Qbr,Qdo base hk d]
  by_cases e:i=k
  ·subst e;simp [hk]
  ·rw [if_neg e]
   have:k∈i :: d↔k∈d:=by simp [Ne.symm e]
   simp only [this]
theorem QdG (base:Array Bool){d d':List Nat}(h:∀ i,i∈d↔i∈d'):Qbu base d=Qbu base d':=by
 apply Array.ext_getElem?
 intro k
 by_cases hk:k<base.size
 ·rw [Qdo base hk,Qdo base hk];simp only [h k]
 ·rw [Array.getElem?_eq_none (by rw [Qbr];omega),Array.getElem?_eq_none (by rw [Qbr];omega)]
theorem Qb9 (p:Nat→Bool):∀ ps:List Nat,ps.filter p∈subsD ps
 | []=>by simp [subsD]
 | i :: ps=>by
  unfold subsD
  rw [List.mem_append]
  by_cases h:p i=true
  ·rw [List.filter_cons_of_pos h]
   exact .inr (List.mem_map.2 ⟨_,Qb9 p ps,rfl⟩)
  ·rw [List.filter_cons_of_neg h]
   exact .inl (Qb9 p ps)
theorem Qpt {dep:Nat→List Nat}{ps:List Nat}{base:Array Bool}(hok:okD md ops dep ps base=true){d:List Nat}(hsub:∀ i∈d,i∈ps)(hcl:∀ i∈d,∀ j∈dep i,j∈d)(hne:∃ i∈ps,i∉d):Region.ready md ops (Qbu base d)=nextD dep ps d∧nextD dep ps d≠[]:=by
 have h:=List.all_eq_true.1 hok _ (Qb9 (fun i=>d.contains i) ps)
 have hmem:∀ i,i∈ps.filter (fun i=>d.contains i)↔i∈d:=fun i=>by
  rw [List.mem_filter]
  constructor
  ·intro h;simpa using h.2
  ·intro h;exact⟨hsub i h,by simpa using h⟩
 have hc:∀ j,(ps.filter fun i=>d.contains i).contains j=d.contains j:=fun j=>by
  rw [Bool.eq_iff_iff,List.contains_iff_mem,List.contains_iff_mem];exact hmem j
 have e1:Qia dep (ps.filter fun i=>d.contains i)=true:=by
  unfold Qia
  rw [List.all_eq_true]
  intro i hi
  rw [List.all_eq_true]
  intro j hj
  rw [hc,List.contains_iff_mem]
  exact hcl i ((hmem i).1 hi) j hj
 have e2:((ps.filter fun i=>d.contains i).length==ps.length)=false:=by
  rw [beq_eq_false_iff_ne]
  intro e
  rw [List.length_filter_eq_length_iff] at e
  obtain⟨i,hi,hn⟩:=hne
  exact hn (by simpa using e i hi)
 have e3:nextD dep ps (ps.filter fun i=>d.contains i)=nextD dep ps d:=by
  unfold nextD
  simp only [hc]
 rw [e1,e2,e3,QdG base hmem] at h
 simp only [Bool.not_true,Bool.false_or,Bool.and_eq_true] at h
 exact⟨by simpa using h.1,fun e=>by rw [e] at h;simp at h⟩
theorem QdA (dep:Nat→List Nat)(ps:List Nat)(hn:ps.Nodup)(base:Array Bool)(J:List Nat→Act→World→Prop)(fe:Nat)(hok:okD md ops dep ps base=true)
  (hstep:∀ i∈ps,∀ d a w,i∉d→(∀ j∈dep i,j∈d)→J d a w→wpOp P ops Q i (fun a' w'=>S w'∧J (i :: d) a' w') a w)
  (hend:∀ d a w,(∀ i∈ps,i∈d)→J d a w→wpAnyH P md ops Q S fe (Qbu base ps) a w) :
  ∀ (n:Nat) (d:List Nat) (a:Act) (w:World),(ps.filter fun i=>!d.contains i).length=n→(∀ i∈d,i∈ps)→(∀ i∈d,∀ j∈dep i,j∈d)→J d a w→wpAnyH P md ops Q S (fe+n) (Qbu base d) a w
 | 0,d,a,w,hl,hsub,_,hJ=>by
  have hall:∀ i∈ps,i∈d:=fun i hi=>by
   have h0:=List.eq_nil_of_length_eq_zero hl
   have:i∉ps.filter fun i=>!d.contains i:=by rw [h0];simp
   rw [List.mem_filter] at this
   by_cases hd:i∈d
   ·exact hd
   ·exact absurd ⟨hi,by simp [hd]⟩ this
  rw [QdG base (fun i=>⟨hsub i,hall i⟩)]
  exact hend d a w hall hJ
 | n+1,d,a,w,hl,hsub,hcl,hJ=>by
  have hne:∃ i∈ps,i∉d:=by
   have h0:0<(ps.filter fun i=>!d.contains i).length:=by omega
   obtain⟨i,hi⟩:=List.exists_mem_of_length_pos h0
   rw [List.mem_filter] at hi
   exact⟨i,hi.1,by simpa using hi.2⟩
  obtain⟨h1,h2⟩:=Qpt hok hsub hcl hne
  refine wpAnyH_ready h1 h2 (fun i hi=>?_)
  have hi2:=hi
  unfold nextD at hi2
  obtain⟨hip,hid⟩:=List.mem_filter.1 hi2
  rw [Bool.and_eq_true] at hid
  have hid':i∉d:=by simpa using hid.1
  have hdep:∀ j∈dep i,j∈d:=by simpa using hid.2
  refine wpOp_mono (fun a' w' h'=>⟨h'.1,?_⟩) (hstep i hip d a w hid' hdep hJ)
  have hl':=QeH hn d (i:=i) (List.mem_filter.2 ⟨hip,hid.1⟩)
  refine QdA dep ps hn base J fe hok hstep hend n (i :: d) a' w' (by omega) (fun j hj=>?_) (fun j hj k hk=>?_) h'.2
  ·rcases List.mem_cons.1 hj with rfl | hj
   ·exact hip
   ·exact hsub j hj
  ·rcases List.mem_cons.1 hj with rfl | hj
   ·exact List.mem_cons.2 (.inr (hdep k hk))
   ·exact List.mem_cons.2 (.inr (hcl j hj k hk))
end
structure R3 (t tr:TypeId)(n rb b0 b1 b2:Nat)(r0 r1 r2:List Value)(W:World):Prop where
 rows:Blk tr W rb [.slice (some ⟨b0,0,none⟩) n n,.slice (some ⟨b1,0,none⟩) n n,.slice (some ⟨b2,0,none⟩) n n]
 r0:Blk t W b0 r0
 r1:Blk t W b1 r1
 r2:Blk t W b2 r2
 lt0:rb<b0
 lt1:b0<b1
 lt2:b1<b2
theorem R3.go {t tr:TypeId}{n rb b0 b1 b2:Nat}{r0 r1 r2:List Value}{W W':World}(h:R3 t tr n rb b0 b1 b2 r0 r1 r2 W)(hb:Below W.heap.size W W'):R3 t tr n rb b0 b1 b2 r0 r1 r2 W':=⟨h.rows.go hb,h.r0.go hb,h.r1.go hb,h.r2.go hb,h.lt0,h.lt1,h.lt2⟩
theorem R3.of {t tr:TypeId}{row:List Value}{rb:Nat}{bs:Nat→Nat}{W:World}(h:SQ t tr 3 3 row rb bs W):R3 t tr 3 rb (bs 0) (bs 1) (bs 2) row row row W:=
 ⟨by have:=h.rows;simpa [Qb3,List.range_succ] using this,h.row 0 (by omega),h.row 1 (by omega),h.row 2 (by omega),h.gt 0 (by omega),h.rise 0 1 (by omega) (by omega),h.rise 1 2 (by omega) (by omega)⟩
def nodeZ:List Value:=[.int .i64 0,.int .i64 0,.int .i64 0,.int .i64 0,.int .i64 0,.int .i64 0,.int .i64 0,.slice none 0 0,.slice none 0 0,.int .i64 0]
def nodeA:Value:=.agg #[.int .i64 0,.int .i64 0,.int .i64 0,.int .i64 0,.int .i64 0,.int .i64 0,.int .i64 0,.slice none 0 0,.slice none 0 0,.int .i64 0]
theorem infoN:(Tryz.prog.info? 178).map (fun i=>(i.zero,i.size,i.bytes))=some (some nodeA,10,112):=by kernel_rfl
theorem Qlf:(madeCells nodeA.cells (3*10)).toList=nodeZ++(nodeZ++nodeZ):=by kernel_rfl
def linkN:List Value:=[.int .i64 (-1),.int .i64 (-1),.int .i64 (-1),.int .i64 (-1),.int .i64 (-1),.int .i64 (-1)]
def CF (c x:Nat)(i:Nat)(v:Value)(tg:Nat→Nat)(W:World):Prop:=
 (i=2→∃ nb,v = .slice (some ⟨nb,0,none⟩) 3 3∧Blk 178 W nb (nodeZ++(nodeZ++nodeZ))∧tg nb=2∧x≤nb) ∧
 (i=4→v = .int .i64 (-(c:Int))) ∧
 (i=5→∃ b,v = .slice (some ⟨b,0,none⟩) 1 1∧Blk 2 W b [.int .i64 (-(c:Int))]) ∧
 (i=8→∃ b,v = .slice (some ⟨b,0,none⟩) 2 2∧Blk 2 W b [.int .i64 (-(c:Int)),.int .i64 (-(c:Int))]∧tg b=8∧x≤b) ∧
 (i=9→∃ b,v = .slice (some ⟨b,0,none⟩) 1 1∧Blk 3 W b [.int .i64 (-1)]) ∧
 (i=12→∃ b,v = .slice (some ⟨b,0,none⟩) 2 2∧Blk 3 W b [.int .i64 (-1),.int .i64 (-1)]∧tg b=12∧x≤b) ∧
 (i=15→∃ b,v = .slice (some ⟨b,0,none⟩) 2 2∧Blk 3 W b [.int .i64 0,.int .i64 0]∧tg b=15∧x≤b) ∧
 (i=17→∃ rb b0 b1,v = .slice (some ⟨rb,0,none⟩) 2 2∧R2 3 27 2 rb b0 b1 [.int .i64 (-1),.int .i64 0] [.int .i64 0,.int .i64 (-1)] W∧tg rb=17∧tg b0=17∧tg b1=17∧x≤rb) ∧
 (i=20→∃ rb b0 b1,v = .slice (some ⟨rb,0,none⟩) 2 2∧R2 2 48 2 rb b0 b1 [.int .i64 0,.int .i64 0] [.int .i64 0,.int .i64 0] W∧tg rb=20∧tg b0=20∧tg b1=20∧x≤rb) ∧
 (i=22→v = .agg #[.int .i64 (-1),.int .i64 (-1)]) ∧
 (i=23→∃ rb b0 b1 b2,v = .slice (some ⟨rb,0,none⟩) 3 3∧R3 171 176 3 rb b0 b1 b2 linkN linkN linkN W∧tg rb=23∧tg b0=23∧tg b1=23∧tg b2=23∧x≤rb)
theorem CF.go {c x i:Nat}{v:Value}{tg tg':Nat→Nat}{W W':World}(h:CF c x i v tg W)(hb:Below W.heap.size W W')(ht:∀ b,b<W.heap.size→tg' b=tg b):CF c x i v tg' W':=by
 obtain⟨h2,h4,h5,h8,h9,h12,h15,h17,h20,h22,h23⟩:=h
 refine⟨fun e=>?_,h4,fun e=>?_,fun e=>?_,fun e=>?_,fun e=>?_,fun e=>?_,fun e=>?_,fun e=>?_,h22,fun e=>?_⟩
 ·obtain⟨b,a1,a2,a3,a4⟩:=h2 e;exact⟨b,a1,a2.go hb,(ht b a2.lt).trans a3,a4⟩
 ·obtain⟨b,a1,a2⟩:=h5 e;exact⟨b,a1,a2.go hb⟩
 ·obtain⟨b,a1,a2,a3,a4⟩:=h8 e;exact⟨b,a1,a2.go hb,(ht b a2.lt).trans a3,a4⟩
 ·obtain⟨b,a1,a2⟩:=h9 e;exact⟨b,a1,a2.go hb⟩
 ·obtain⟨b,a1,a2,a3,a4⟩:=h12 e;exact⟨b,a1,a2.go hb,(ht b a2.lt).trans a3,a4⟩
 ·obtain⟨b,a1,a2,a3,a4⟩:=h15 e;exact⟨b,a1,a2.go hb,(ht b a2.lt).trans a3,a4⟩
 ·obtain⟨rb,b0,b1,a1,a2,a3,a4,a5,a6⟩:=h17 e;exact⟨rb,b0,b1,a1,a2.go hb,(ht _ a2.rows.lt).trans a3,(ht _ a2.r0.lt).trans a4,(ht _ a2.r1.lt).trans a5,a6⟩
 ·obtain⟨rb,b0,b1,a1,a2,a3,a4,a5,a6⟩:=h20 e;exact⟨rb,b0,b1,a1,a2.go hb,(ht _ a2.rows.lt).trans a3,(ht _ a2.r0.lt).trans a4,(ht _ a2.r1.lt).trans a5,a6⟩
 ·obtain⟨rb,b0,b1,b2,a1,a2,a3,a4,a5,a6,a7⟩:=h23 e;exact⟨rb,b0,b1,b2,a1,a2.go hb,(ht _ a2.rows.lt).trans a3,(ht _ a2.r0.lt).trans a4,(ht _ a2.r1.lt).trans a5,(ht _ a2.r2.lt).trans a6,a7⟩
def tgN (tg:Nat→Nat)(s i:Nat):Nat→Nat:=fun b=>if s≤b then i else tg b
theorem QaQ {tg:Nat→Nat}{s i b:Nat}(h:b<s):tgN tg s i b=tg b:=if_neg (by omega)
theorem QbZ {tg:Nat→Nat}{s i b:Nat}(h:s≤b):tgN tg s i b=i:=if_pos h
def updX (X:Nat→Value)(i:Nat)(v:Value):Nat→Value:=fun j=>if j=i then v else X j
def JF (c x:Nat)(d:List Nat)(X:Nat→Value)(tg:Nat→Nat)(W:World):Prop:=∀ i,i∈d→CF c x i (X i) tg W
theorem JF.nil (c x:Nat)(X:Nat→Value)(tg:Nat→Nat)(W:World):JF c x [] X tg W:=fun i hi=>by simp at hi
theorem JF.add {c x:Nat}{d:List Nat}{X:Nat→Value}{tg:Nat→Nat}{W W':World}(h:JF c x d X tg W){i:Nat}(hi:i∉d)(hb:Below W.heap.size W W'){v:Value}(hC:CF c x i v (tgN tg W.heap.size i) W'):JF c x (i :: d) (updX X i v) (tgN tg W.heap.size i) W':=by
 intro j hj
 rcases List.mem_cons.1 hj with rfl | hj
 ·simpa [updX] using hC
 ·have hne:j≠i:=fun e=>hi (e ▸ hj)
  have e:updX X i v j=X j:=by simp [updX,hne]
  rw [e]
  exact (h j hj).go hb fun b hb'=>QaQ hb'
theorem CF.m2 {c x:Nat}{tg:Nat→Nat}{W:World}{b:Nat}(h:Blk 178 W b (nodeZ++(nodeZ++nodeZ)))(ht:tg b=2)(hx:x≤b):CF c x 2 (.slice (some ⟨b,0,none⟩) 3 3) tg W:=
 ⟨fun _=>⟨b,rfl,h,ht,hx⟩,fun e=>absurd e (by decide),fun e=>absurd e (by decide),fun e=>absurd e (by decide),fun e=>absurd e (by decide),fun e=>absurd e (by decide),fun e=>absurd e (by decide),fun e=>absurd e (by decide),fun e=>absurd e (by decide),fun e=>absurd e (by decide),fun e=>absurd e (by decide)⟩
theorem CF.m4 {c x:Nat}{tg:Nat→Nat}{W:World}: CF c x 4 (.int .i64 (-(c:Int))) tg W:=
 ⟨fun e=>absurd e (by decide),fun _=>rfl,fun e=>absurd e (by decide),fun e=>absurd e (by decide),fun e=>absurd e (by decide),fun e=>absurd e (by decide),fun e=>absurd e (by decide),fun e=>absurd e (by decide),fun e=>absurd e (by decide),fun e=>absurd e (by decide),fun e=>absurd e (by decide)⟩
theorem CF.m5 {c x:Nat}{tg:Nat→Nat}{W:World}{b:Nat}(h:Blk 2 W b [.int .i64 (-(c:Int))]):CF c x 5 (.slice (some ⟨b,0,none⟩) 1 1) tg W:=
 ⟨fun e=>absurd e (by decide),fun e=>absurd e (by decide),fun _=>⟨b,rfl,h⟩,fun e=>absurd e (by decide),fun e=>absurd e (by decide),fun e=>absurd e (by decide),fun e=>absurd e (by decide),fun e=>absurd e (by decide),fun e=>absurd e (by decide),fun e=>absurd e (by decide),fun e=>absurd e (by decide)⟩
theorem CF.m8 {c x:Nat}{tg:Nat→Nat}{W:World}{b:Nat}(h:Blk 2 W b [.int .i64 (-(c:Int)),.int .i64 (-(c:Int))])(ht:tg b=8)(hx:x≤b):CF c x 8 (.slice (some ⟨b,0,none⟩) 2 2) tg W:=
 ⟨fun e=>absurd e (by decide),fun e=>absurd e (by decide),fun e=>absurd e (by decide),fun _=>⟨b,rfl,h,ht,hx⟩,fun e=>absurd e (by decide),fun e=>absurd e (by decide),fun e=>absurd e (by decide),fun e=>absurd e (by decide),fun e=>absurd e (by decide),fun e=>absurd e (by decide),fun e=>absurd e (by decide)⟩
theorem CF.m9 {c x:Nat}{tg:Nat→Nat}{W:World}{b:Nat}(h:Blk 3 W b [.int .i64 (-1)]):CF c x 9 (.slice (some ⟨b,0,none⟩) 1 1) tg W:=
 ⟨fun e=>absurd e (by decide),fun e=>absurd e (by decide),fun e=>absurd e (by decide),fun e=>absurd e (by decide),fun _=>⟨b,rfl,h⟩,fun e=>absurd e (by decide),fun e=>absurd e (by decide),fun e=>absurd e (by decide),fun e=>absurd e (by decide),fun e=>absurd e (by decide),fun e=>absurd e (by decide)⟩
theorem CF.m12 {c x:Nat}{tg:Nat→Nat}{W:World}{b:Nat}(h:Blk 3 W b [.int .i64 (-1),.int .i64 (-1)])(ht:tg b=12)(hx:x≤b):CF c x 12 (.slice (some ⟨b,0,none⟩) 2 2) tg W:=
 ⟨fun e=>absurd e (by decide),fun e=>absurd e (by decide),fun e=>absurd e (by decide),fun e=>absurd e (by decide),fun e=>absurd e (by decide),fun _=>⟨b,rfl,h,ht,hx⟩,fun e=>absurd e (by decide),fun e=>absurd e (by decide),fun e=>absurd e (by decide),fun e=>absurd e (by decide),fun e=>absurd e (by decide)⟩
theorem CF.m15 {c x:Nat}{tg:Nat→Nat}{W:World}{b:Nat}(h:Blk 3 W b [.int .i64 0,.int .i64 0])(ht:tg b=15)(hx:x≤b):CF c x 15 (.slice (some ⟨b,0,none⟩) 2 2) tg W:=
 ⟨fun e=>absurd e (by decide),fun e=>absurd e (by decide),fun e=>absurd e (by decide),fun e=>absurd e (by decide),fun e=>absurd e (by decide),fun e=>absurd e (by decide),fun _=>⟨b,rfl,h,ht,hx⟩,fun e=>absurd e (by decide),fun e=>absurd e (by decide),fun e=>absurd e (by decide),fun e=>absurd e (by decide)⟩
theorem CF.m17 {c x:Nat}{tg:Nat→Nat}{W:World}{rb b0 b1:Nat}(h:R2 3 27 2 rb b0 b1 [.int .i64 (-1),.int .i64 0] [.int .i64 0,.int .i64 (-1)] W)(ht:∀ b,x≤b→rb≤b→tg b=17)(hx:x≤rb):CF c x 17 (.slice (some ⟨rb,0,none⟩) 2 2) tg W:=
 ⟨fun e=>absurd e (by decide),fun e=>absurd e (by decide),fun e=>absurd e (by decide),fun e=>absurd e (by decide),fun e=>absurd e (by decide),fun e=>absurd e (by decide),fun e=>absurd e (by decide),fun _=>⟨rb,b0,b1,rfl,h,ht _ hx YA,ht _ (by have:=h.lt0;omega) (by have:=h.lt0;omega),ht _ (by have:=h.lt0;have:=h.lt1;omega) (by have:=h.lt0;have:=h.lt1;omega),hx⟩,fun e=>absurd e (by decide),fun e=>absurd e (by decide),fun e=>absurd e (by decide)⟩
theorem CF.m20 {c x:Nat}{tg:Nat→Nat}{W:World}{rb b0 b1:Nat}(h:R2 2 48 2 rb b0 b1 [.int .i64 0,.int .i64 0] [.int .i64 0,.int .i64 0] W)(ht:∀ b,x≤b→rb≤b→tg b=20)(hx:x≤rb):CF c x 20 (.slice (some ⟨rb,0,none⟩) 2 2) tg W:=
 ⟨fun e=>absurd e (by decide),fun e=>absurd e (by decide),fun e=>absurd e (by decide),fun e=>absurd e (by decide),fun e=>absurd e (by decide),fun e=>absurd e (by decide),fun e=>absurd e (by decide),fun e=>absurd e (by decide),fun _=>⟨rb,b0,b1,rfl,h,ht _ hx YA,ht _ (by have:=h.lt0;omega) (by have:=h.lt0;omega),ht _ (by have:=h.lt0;have:=h.lt1;omega) (by have:=h.lt0;have:=h.lt1;omega),hx⟩,fun e=>absurd e (by decide),fun e=>absurd e (by decide)⟩
theorem CF.m22 {c x:Nat}{tg:Nat→Nat}{W:World}: CF c x 22 (.agg #[.int .i64 (-1),.int .i64 (-1)]) tg W:=
 ⟨fun e=>absurd e (by decide),fun e=>absurd e (by decide),fun e=>absurd e (by decide),fun e=>absurd e (by decide),fun e=>absurd e (by decide),fun e=>absurd e (by decide),fun e=>absurd e (by decide),fun e=>absurd e (by decide),fun e=>absurd e (by decide),fun _=>rfl,fun e=>absurd e (by decide)⟩
theorem CF.m23 {c x:Nat}{tg:Nat→Nat}{W:World}{rb b0 b1 b2:Nat}(h:R3 171 176 3 rb b0 b1 b2 linkN linkN linkN W)(ht:∀ b,x≤b→rb≤b→tg b=23)(hx:x≤rb):CF c x 23 (.slice (some ⟨rb,0,none⟩) 3 3) tg W:=
 ⟨fun e=>absurd e (by decide),fun e=>absurd e (by decide),fun e=>absurd e (by decide),fun e=>absurd e (by decide),fun e=>absurd e (by decide),fun e=>absurd e (by decide),fun e=>absurd e (by decide),fun e=>absurd e (by decide),fun e=>absurd e (by decide),fun e=>absurd e (by decide),fun _=>⟨rb,b0,b1,b2,rfl,h,ht _ hx YA,ht _ (by have:=h.lt0;omega) (by have:=h.lt0;omega),ht _ (by have:=h.lt0;have:=h.lt1;omega) (by have:=h.lt0;have:=h.lt1;omega),ht _ (by have:=h.lt0;have:=h.lt1;have:=h.lt2;omega) (by have:=h.lt0;have:=h.lt1;have:=h.lt2;omega),hx⟩⟩
theorem QfT {X:Nat→Value}{i:Nat}{v:Value}(h:X i=v):∃ X',X=updX X' i v:=by
 refine⟨X,funext fun j=>?_⟩
 unfold updX
 by_cases e:j=i
 ·rw [if_pos e,e,h]
 ·rw [if_neg e]
theorem QaR (w:World):Calls Tryz.prog 139 #[] w fun r w'=>r = .returned (.agg #[.int .i64 (-1),.int .i64 (-1)])∧Below w.heap.size w w':=by
 have hal:Below w.heap.size w (w.alloc (.cells #[.int .i64 (-1),.int .i64 (-1)] 171)):=YD.alloc YA _
 go_enter Tryz.func139,Tryz.ntmps139
 go_wp2
 exact bodyPost_ret (v:=.agg #[.int .i64 (-1),.int .i64 (-1)]) (by simp [results,Tryz.results139,go_sem]) rfl ⟨rfl,hal⟩
def tyF (i:Nat):TypeId:=if i=0 then 174 else if i=1 then 178 else if i=2 then 2 else if i=3 then 3 else if i=4 then 3 else if i=5 then 27 else if i=6 then 3 else if i=7 then 3 else if i=8 then 48 else if i=9 then 2 else if i=10 then 2 else if i=11 then 176 else 171
def nodeV (s vf vt nf nt h b:Int):List Value:=[.int .i64 s,.int .i64 vf,.int .i64 vt,.int .i64 nf,.int .i64 nt,.int .i64 h,.int .i64 b,.slice none 0 0,.slice none 0 0,.int .i64 0]
structure FV where
 sp:Value
 nd:List Value
 y:List Value
 mt:List Value
 tp:List Value
 t0:List Value
 t1:List Value
 e0:List Value
 e1:List Value
 e2:List Value
def ctF (Bk:Nat→Nat)(ev:Value)(V:FV)(i:Nat):List Value:=
 if i=0 then [.int .i64 2,ev,.slice (some ⟨Bk 1,0,none⟩) 3 3,V.sp,.slice (some ⟨Bk 2,0,none⟩) 2 2,.slice (some ⟨Bk 3,0,none⟩) 2 2,.slice (some ⟨Bk 4,0,none⟩) 2 2,.slice (some ⟨Bk 5,0,none⟩) 2 2,.slice (some ⟨Bk 8,0,none⟩) 2 2,.slice (some ⟨Bk 11,0,none⟩) 3 3]
 else if i=1 then V.nd else if i=2 then V.y else if i=3 then V.mt else if i=4 then V.tp
 else if i=5 then [.slice (some ⟨Bk 6,0,none⟩) 2 2,.slice (some ⟨Bk 7,0,none⟩) 2 2] else if i=6 then [.int .i64 (-1),.int .i64 0] else if i=7 then [.int .i64 0,.int .i64 (-1)]
 else if i=8 then [.slice (some ⟨Bk 9,0,none⟩) 2 2,.slice (some ⟨Bk 10,0,none⟩) 2 2] else if i=9 then V.t0 else if i=10 then V.t1
 else if i=11 then [.slice (some ⟨Bk 12,0,none⟩) 3 3,.slice (some ⟨Bk 13,0,none⟩) 3 3,.slice (some ⟨Bk 14,0,none⟩) 3 3] else if i=12 then V.e0 else if i=13 then V.e1 else V.e2
structure FP (x:Nat)(w0:World)(Bk:Nat→Nat)(b off c:Nat):Prop where
 inj:∀ i j,i<15→j<15→Bk i=Bk j→i=j
 lo:∀ i,i<15→x≤Bk i
 edge:∀ W',Below x w0 W'→W'.cell? ⟨b,off,none⟩=some (.int .i64 1)∧W'.cell? ⟨b,off+1,none⟩=some (.int .i64 0)∧W'.cell? ⟨b,off+2,none⟩=some (.int .i64 (c:Int))
 small:c<1099511627776
 below:b<x
theorem FP.ne {x:Nat}{w0:World}{Bk:Nat→Nat}{b off c:Nat}(h:FP x w0 Bk b off c){i j:Nat}(hi:i<15)(hj:j<15)(hne:i≠j):Bk i≠Bk j:=fun e=>hne (h.inj i j hi hj e)
structure FM (x:Nat)(w0:World)(Bk:Nat→Nat)(ev:Value)(V:FV)(W:World):Prop where
 mem:∀ i,i<15→Blk (tyF i) W (Bk i) (ctF Bk ev V i)
 bel:Below x w0 W
theorem FM.go {x:Nat}{w0:World}{Bk:Nat→Nat}{ev:Value}{V:FV}{W W':World}(h:FM x w0 Bk ev V W)(hx:x≤W.heap.size)(hb:Below W.heap.size W W'):FM x w0 Bk ev V W':=
 ⟨fun i hi=>(h.mem i hi).go hb,h.bel.trans (hb.mono hx)⟩
theorem FM.drewN {x:Nat}{w0:World}{Bk:Nat→Nat}{ev:Value}{V:FV}{W:World}(h:FM x w0 Bk ev V W)(n:Nat):FM x w0 Bk ev V (W.drewN n):=⟨h.mem,Qaa h.bel n⟩
theorem FM.drew {x:Nat}{w0:World}{Bk:Nat→Nat}{ev:Value}{V:FV}{W:World}(h:FM x w0 Bk ev V W):FM x w0 Bk ev V W.drew:=⟨h.mem,Qaa h.bel 1⟩
theorem FM.cell {x:Nat}{w0:World}{Bk:Nat→Nat}{ev:Value}{V:FV}{W:World}(h:FM x w0 Bk ev V W)(i k:Nat)(hi:i<15){v:Value}(hv:(ctF Bk ev V i)[k]? = some v):W.cell? ⟨Bk i,k,none⟩=some v:=(h.mem i hi).cell hv
theorem FM.frozen {x:Nat}{w0:World}{Bk:Nat→Nat}{ev:Value}{V:FV}{W:World}(h:FM x w0 Bk ev V W)(i k:Nat)(hi:i<15):W.frozen? ⟨Bk i,k,none⟩=false:=(h.mem i hi).frozen k
theorem FM.lt {x:Nat}{w0:World}{Bk:Nat→Nat}{ev:Value}{V:FV}{W:World}(h:FM x w0 Bk ev V W)(i:Nat)(hi:i<15):Bk i<W.heap.size:=(h.mem i hi).lt
theorem FM.set {x:Nat}{w0:World}{Bk:Nat→Nat}{b off c:Nat}{ev:Value}{V V':FV}{W:World}(h:FM x w0 Bk ev V W)(P:FP x w0 Bk b off c)(i k:Nat)(v:Value)(hi:i<15)(hs:∀ j,j<15→ctF Bk ev V' j=if j=i then (ctF Bk ev V i).set k v else ctF Bk ev V j):FM x w0 Bk ev V' (W.setCell ⟨Bk i,k,none⟩ v):=by
 refine⟨fun j hj=>?_,h.bel.setCell (p:=⟨Bk i,k,none⟩) (P.lo i hi) _⟩
 rw [hs j hj]
 by_cases e:j=i
 ·subst e;rw [if_pos rfl];exact (h.mem j hj).set k v
 ·rw [if_neg e];exact (h.mem j hj).other (p:=⟨Bk i,k,none⟩) (P.ne hj hi e) v
section
variable {x:Nat} {w0:World} {Bk:Nat→Nat} {b off c:Nat} {ev:Value} {W:World} {sp:Value} {nd y mt tp t0 t1 e0 e1 e2:List Value}
theorem Qa9 {p:Nat→Prop}(h0:p 0)(h1:p 1)(h2:p 2)(h3:p 3)(h4:p 4)(h5:p 5)(h6:p 6)(h7:p 7)(h8:p 8)(h9:p 9)(h10:p 10)(h11:p 11)(h12:p 12)(h13:p 13)(h14:p 14):∀ j,j<15→p j:=by
 intro j hj
 have:j=0∨j=1∨j=2∨j=3∨j=4∨j=5∨j=6∨j=7∨j=8∨j=9∨j=10∨j=11∨j=12∨j=13∨j=14:=by omega
 rcases this with rfl | rfl | rfl | rfl | rfl | rfl | rfl | rfl | rfl | rfl | rfl | rfl | rfl | rfl | rfl <;> assumption
theorem FM.setSp (h:FM x w0 Bk ev ⟨sp,nd,y,mt,tp,t0,t1,e0,e1,e2⟩ W)(P:FP x w0 Bk b off c)(v:Value):FM x w0 Bk ev ⟨v,nd,y,mt,tp,t0,t1,e0,e1,e2⟩ (W.setCell ⟨Bk 0,3,none⟩ v):=h.set P 0 3 v (by omega) (Qa9 rfl rfl rfl rfl rfl rfl rfl rfl rfl rfl rfl rfl rfl rfl rfl)
theorem FM.setN (h:FM x w0 Bk ev ⟨sp,nd,y,mt,tp,t0,t1,e0,e1,e2⟩ W)(P:FP x w0 Bk b off c)(k:Nat)(v:Value):FM x w0 Bk ev ⟨sp,nd.set k v,y,mt,tp,t0,t1,e0,e1,e2⟩ (W.setCell ⟨Bk 1,k,none⟩ v):=h.set P 1 k v (by omega) (Qa9 rfl rfl rfl rfl rfl rfl rfl rfl rfl rfl rfl rfl rfl rfl rfl)
theorem FM.setY (h:FM x w0 Bk ev ⟨sp,nd,y,mt,tp,t0,t1,e0,e1,e2⟩ W)(P:FP x w0 Bk b off c)(k:Nat)(v:Value):FM x w0 Bk ev ⟨sp,nd,y.set k v,mt,tp,t0,t1,e0,e1,e2⟩ (W.setCell ⟨Bk 2,k,none⟩ v):=h.set P 2 k v (by omega) (Qa9 rfl rfl rfl rfl rfl rfl rfl rfl rfl rfl rfl rfl rfl rfl rfl)
theorem FM.setM (h:FM x w0 Bk ev ⟨sp,nd,y,mt,tp,t0,t1,e0,e1,e2⟩ W)(P:FP x w0 Bk b off c)(k:Nat)(v:Value):FM x w0 Bk ev ⟨sp,nd,y,mt.set k v,tp,t0,t1,e0,e1,e2⟩ (W.setCell ⟨Bk 3,k,none⟩ v):=h.set P 3 k v (by omega) (Qa9 rfl rfl rfl rfl rfl rfl rfl rfl rfl rfl rfl rfl rfl rfl rfl)
theorem FM.setT (h:FM x w0 Bk ev ⟨sp,nd,y,mt,tp,t0,t1,e0,e1,e2⟩ W)(P:FP x w0 Bk b off c)(k:Nat)(v:Value):FM x w0 Bk ev ⟨sp,nd,y,mt,tp.set k v,t0,t1,e0,e1,e2⟩ (W.setCell ⟨Bk 4,k,none⟩ v):=h.set P 4 k v (by omega) (Qa9 rfl rfl rfl rfl rfl rfl rfl rfl rfl rfl rfl rfl rfl rfl rfl)
theorem FM.setT0 (h:FM x w0 Bk ev ⟨sp,nd,y,mt,tp,t0,t1,e0,e1,e2⟩ W)(P:FP x w0 Bk b off c)(k:Nat)(v:Value):FM x w0 Bk ev ⟨sp,nd,y,mt,tp,t0.set k v,t1,e0,e1,e2⟩ (W.setCell ⟨Bk 9,k,none⟩ v):=h.set P 9 k v (by omega) (Qa9 rfl rfl rfl rfl rfl rfl rfl rfl rfl rfl rfl rfl rfl rfl rfl)
theorem FM.setT1 (h:FM x w0 Bk ev ⟨sp,nd,y,mt,tp,t0,t1,e0,e1,e2⟩ W)(P:FP x w0 Bk b off c)(k:Nat)(v:Value):FM x w0 Bk ev ⟨sp,nd,y,mt,tp,t0,t1.set k v,e0,e1,e2⟩ (W.setCell ⟨Bk 10,k,none⟩ v):=h.set P 10 k v (by omega) (Qa9 rfl rfl rfl rfl rfl rfl rfl rfl rfl rfl rfl rfl rfl rfl rfl)
theorem FM.setE0 (h:FM x w0 Bk ev ⟨sp,nd,y,mt,tp,t0,t1,e0,e1,e2⟩ W)(P:FP x w0 Bk b off c)(k:Nat)(v:Value):FM x w0 Bk ev ⟨sp,nd,y,mt,tp,t0,t1,e0.set k v,e1,e2⟩ (W.setCell ⟨Bk 12,k,none⟩ v):=h.set P 12 k v (by omega) (Qa9 rfl rfl rfl rfl rfl rfl rfl rfl rfl rfl rfl rfl rfl rfl rfl)
theorem FM.setE1 (h:FM x w0 Bk ev ⟨sp,nd,y,mt,tp,t0,t1,e0,e1,e2⟩ W)(P:FP x w0 Bk b off c)(k:Nat)(v:Value):FM x w0 Bk ev ⟨sp,nd,y,mt,tp,t0,t1,e0,e1.set k v,e2⟩ (W.setCell ⟨Bk 13,k,none⟩ v):=h.set P 13 k v (by omega) (Qa9 rfl rfl rfl rfl rfl rfl rfl rfl rfl rfl rfl rfl rfl rfl rfl)
end
def NA:List Value:=nodeV 0 0 0 0 0 (-1) 0
def NB:List Value:=nodeV 0 0 0 0 0 (-1) 1
def NC:List Value:=nodeV 0 0 0 0 0 (-2) 0
def VI (c:Nat)(sp:Value)(nd tp t0 t1 e0 e1:List Value):FV:=⟨sp,nd,[.int .i64 (-(c:Int)),.int .i64 (-(c:Int))],[.int .i64 (-1),.int .i64 (-1)],tp,t0,t1,e0,e1,linkN⟩
def z2:List Value:=[.int .i64 0,.int .i64 0]
def w01:List Value:=[.int .i64 0,.int .i64 1]
def V0 (c:Nat):FV:=VI c (.slice none 0 0) (nodeZ++(nodeZ++nodeZ)) z2 z2 z2 linkN linkN
def V1 (c:Nat):FV:=VI c (.slice none 0 0) (NA++(nodeZ++nodeZ)) z2 z2 z2 linkN linkN
def V2 (c:Nat):FV:=VI c (.slice none 0 0) (NA++(NB++nodeZ)) w01 z2 z2 linkN linkN
def V3 (c:Nat)(sp:Value):FV:=VI c sp (NA++(NB++NC)) w01 z2 z2 linkN linkN
def eA:List Value:=[.int .i64 (-1),.int .i64 (-1),.int .i64 0,.int .i64 1,.int .i64 (-1),.int .i64 (-1)]
def eB:List Value:=[.int .i64 1,.int .i64 0,.int .i64 (-1),.int .i64 (-1),.int .i64 (-1),.int .i64 (-1)]
def V3a (c:Nat)(sp:Value):FV:=VI c sp (NA++(NB++NC)) w01 [.int .i64 0,.int .i64 (2*(c:Int))] z2 eA linkN
def V4 (c:Nat)(sp:Value):FV:=VI c sp (NA++(NB++NC)) w01 [.int .i64 0,.int .i64 (2*(c:Int))] [.int .i64 (2*(c:Int)),.int .i64 0] eA eB
def bkF (fb nb yb mb tb pb p0 p1 wb w0 w1 bb b0 b1 b2:Nat)(i:Nat):Nat:=if i=0 then fb else if i=1 then nb else if i=2 then yb else if i=3 then mb else if i=4 then tb else if i=5 then pb else if i=6 then p0 else if i=7 then p1 else if i=8 then wb else if i=9 then w0 else if i=10 then w1 else if i=11 then bb else if i=12 then b0 else if i=13 then b1 else b2
def tgF (i:Nat):Nat:=if i=0 then 25 else if i=1 then 2 else if i=2 then 8 else if i=3 then 12 else if i=4 then 15 else if i<8 then 17 else if i<11 then 20 else 23
theorem QpB {Bk tg:Nat→Nat}(ht:∀ i,i<15→tg (Bk i)=tgF i)(h5:Bk 5<Bk 6)(h6:Bk 6<Bk 7)(h8:Bk 8<Bk 9)(h9:Bk 9<Bk 10)(h11:Bk 11<Bk 12)(h12:Bk 12<Bk 13)(h13:Bk 13<Bk 14):∀ i j,i<15→j<15→Bk i=Bk j→i=j:=by
 intro i j hi hj e
 have e1:tgF i=tgF j:=by rw [← ht i hi,← ht j hj,e]
 by_cases hij:i=j
 ·exact hij
 ·exfalso
  unfold tgF at e1
  have hi':i=0∨i=1∨i=2∨i=3∨i=4∨i=5∨i=6∨i=7∨i=8∨i=9∨i=10∨i=11∨i=12∨i=13∨i=14:=by omega
  have hj':j=0∨j=1∨j=2∨j=3∨j=4∨j=5∨j=6∨j=7∨j=8∨j=9∨j=10∨j=11∨j=12∨j=13∨j=14:=by omega
  rcases hi' with rfl | rfl | rfl | rfl | rfl | rfl | rfl | rfl | rfl | rfl | rfl | rfl | rfl | rfl | rfl <;> rcases hj' with rfl | rfl | rfl | rfl | rfl | rfl | rfl | rfl | rfl | rfl | rfl | rfl | rfl | rfl | rfl <;> first | (exact absurd e1 (by decide)) | omega
theorem Qji (x:Nat)(w0:World)(Bk:Nat→Nat)(b off c q:Nat)(hP:FP x w0 Bk b off c)(w:World)(hM:FM x w0 Bk (.slice (some ⟨b,off,none⟩) 1 q) (V2 c) w):
  Calls Tryz.prog 140 #[.pointer (some ⟨Bk 0,0,none⟩),.int .i64 2] w fun e w'=>e = .returned (.tuple #[])∧∃ sp,FM x w0 Bk (.slice (some ⟨b,off,none⟩) 1 q) (V3 c sp) w':=by
 obtain⟨i0,hi,hz0,hz1,hz2⟩:=info_parts infoI
 have g2:=hM.cell 0 2 (by omega) rfl
 have g3:w.cell? ⟨Bk 0,3,none⟩=some (.slice none 0 0):=hM.cell 0 3 (by omega) rfl
 have h3:=hM.frozen 0 3 (by omega)
 have n20:=hM.cell 1 20 (by omega) rfl
 have f20:=hM.frozen 1 20 (by omega)
 have n21:=hM.cell 1 21 (by omega) rfl
 have f21:=hM.frozen 1 21 (by omega)
 have n22:=hM.cell 1 22 (by omega) rfl
 have f22:=hM.frozen 1 22 (by omega)
 have n23:=hM.cell 1 23 (by omega) rfl
 have f23:=hM.frozen 1 23 (by omega)
 have n24:=hM.cell 1 24 (by omega) rfl
 have f24:=hM.frozen 1 24 (by omega)
 have n25:=hM.cell 1 25 (by omega) rfl
 have f25:=hM.frozen 1 25 (by omega)
 have n26:=hM.cell 1 26 (by omega) rfl
 have f26:=hM.frozen 1 26 (by omega)
 have n27:=hM.cell 1 27 (by omega) rfl
 have f27:=hM.frozen 1 27 (by omega)
 have n28:=hM.cell 1 28 (by omega) rfl
 have f28:=hM.frozen 1 28 (by omega)
 have n29:=hM.cell 1 29 (by omega) rfl
 have f29:=hM.frozen 1 29 (by omega)
 have d1:Bk 0≠Bk 1:=hP.ne (by omega) (by omega) (by omega)
 have HM1:Hid (FM x w0 Bk (.slice (some ⟨b,off,none⟩) 1 q) (V3 c (.slice none 0 0)) ((((((((((w.setCell ⟨Bk 1,20,none⟩ (.int .i64 0)).setCell ⟨Bk 1,21,none⟩ (.int .i64 0)).setCell ⟨Bk 1,22,none⟩ (.int .i64 0)).setCell ⟨Bk 1,23,none⟩ (.int .i64 0)).setCell ⟨Bk 1,24,none⟩ (.int .i64 0)).setCell ⟨Bk 1,25,none⟩ (.int .i64 (-2))).setCell ⟨Bk 1,26,none⟩ (.int .i64 0)).setCell ⟨Bk 1,27,none⟩ (.slice none 0 0)).setCell ⟨Bk 1,28,none⟩ (.slice none 0 0)).setCell ⟨Bk 1,29,none⟩ (.int .i64 0))):=((((((((((hM.setN hP 20 (.int .i64 0)).setN hP 21 (.int .i64 0)).setN hP 22 (.int .i64 0)).setN hP 23 (.int .i64 0)).setN hP 24 (.int .i64 0)).setN hP 25 (.int .i64 (-2))).setN hP 26 (.int .i64 0)).setN hP 27 (.slice none 0 0)).setN hP 28 (.slice none 0 0)).setN hP 29 (.int .i64 0))
 have HSZ:Hid (((((((((((w.setCell ⟨Bk 1,20,none⟩ (.int .i64 0)).setCell ⟨Bk 1,21,none⟩ (.int .i64 0)).setCell ⟨Bk 1,22,none⟩ (.int .i64 0)).setCell ⟨Bk 1,23,none⟩ (.int .i64 0)).setCell ⟨Bk 1,24,none⟩ (.int .i64 0)).setCell ⟨Bk 1,25,none⟩ (.int .i64 (-2))).setCell ⟨Bk 1,26,none⟩ (.int .i64 0)).setCell ⟨Bk 1,27,none⟩ (.slice none 0 0)).setCell ⟨Bk 1,28,none⟩ (.slice none 0 0)).setCell ⟨Bk 1,29,none⟩ (.int .i64 0)).heap.size=w.heap.size):=by show _=_;simp
 have HX:Hid (x≤w.heap.size):=by have h1:=hM.lt 0 (by omega);have h2:=hP.lo 0 (by omega);show _≤_;omega
 have hfb:=hM.lt 0 (by omega)
 have HP:Hid _:=hP
 clear hM hP
 go_enter Tryz.func140,Tryz.ntmps140
 go_wp2_with (at_builtin;have hnews:=Qbi ((((((((((w.setCell ⟨Bk 1,20,none⟩ (.int .i64 0)).setCell ⟨Bk 1,21,none⟩ (.int .i64 0)).setCell ⟨Bk 1,22,none⟩ (.int .i64 0)).setCell ⟨Bk 1,23,none⟩ (.int .i64 0)).setCell ⟨Bk 1,24,none⟩ (.int .i64 0)).setCell ⟨Bk 1,25,none⟩ (.int .i64 (-2))).setCell ⟨Bk 1,26,none⟩ (.int .i64 0)).setCell ⟨Bk 1,27,none⟩ (.slice none 0 0)).setCell ⟨Bk 1,28,none⟩ (.slice none 0 0)).setCell ⟨Bk 1,29,none⟩ (.int .i64 0)) (.int .i64 2) 3;refine wpList_append_own_at _ rfl _ _ 27 rfl w.heap.size 3 i0 (.int .i64 0) 1 8 Tryz.underlying27 hi hz0 hz1 hz2 rfl (by decide) (.slice none 0 0) 0 [] rfl (World.ownsRow_nil _ _ _ _) ⟨w.heap.size,0,none⟩ 1 1 [.int .i64 2] rfl rfl ?_ (by intro u hu;rw [YF hu];rfl) (by unfold maxLen;omega) (by omega) (by simp) ?_)
 ·have:=hnews
  rw [HSZ.out] at this
  exact this
 ·intro v6 w6 hown6 hg6 hnil6 hat6
  obtain⟨a6,m6,c6,rfl⟩:=Qa3 hown6
  have HO6:Hid _:=hown6
  have hb7:Below w.heap.size ((((((((((w.setCell ⟨Bk 1,20,none⟩ (.int .i64 0)).setCell ⟨Bk 1,21,none⟩ (.int .i64 0)).setCell ⟨Bk 1,22,none⟩ (.int .i64 0)).setCell ⟨Bk 1,23,none⟩ (.int .i64 0)).setCell ⟨Bk 1,24,none⟩ (.int .i64 0)).setCell ⟨Bk 1,25,none⟩ (.int .i64 (-2))).setCell ⟨Bk 1,26,none⟩ (.int .i64 0)).setCell ⟨Bk 1,27,none⟩ (.slice none 0 0)).setCell ⟨Bk 1,28,none⟩ (.slice none 0 0)).setCell ⟨Bk 1,29,none⟩ (.int .i64 0)) w6:=((Below.refl w.heap.size _).alloc (by rw [HSZ.out];exact YA) _).grown hg6 (by simp) (fun k e=>by cases e)
  have hM7:FM x w0 Bk (.slice (some ⟨b,off,none⟩) 1 q) (V3 c (.slice none 0 0)) w6:=HM1.out.go (by rw [HSZ.out];exact HX.out) (by rw [HSZ.out];exact hb7)
  have HM8:Hid (FM x w0 Bk (.slice (some ⟨b,off,none⟩) 1 q) (V3 c (.slice a6 m6 c6)) (w6.setCell ⟨Bk 0,3,none⟩ (.slice a6 m6 c6))):=hM7.setSp HP.out _
  have k3:w6.cell? ⟨Bk 0,3,none⟩=some (.slice none 0 0):=hM7.cell 0 3 (by omega) rfl
  have l3:=hM7.frozen 0 3 (by omega)
  clear hown6 hg6 hnil6 hat6 hnews hb7 hM7 HM1 HSZ
  go_wp2
  exact bodyPost_end (results_none rfl _ _ _) rfl ⟨rfl,_,HM8.out⟩
theorem QoV (x:Nat)(w0:World)(Bk:Nat→Nat)(b off c q:Nat)(sp:Value)(hP:FP x w0 Bk b off c)(w:World)(hM:FM x w0 Bk (.slice (some ⟨b,off,none⟩) 1 q) (V3 c sp) w):
  Calls Tryz.prog 141 #[.pointer (some ⟨Bk 0,0,none⟩)] w fun e w'=>e = .returned (.tuple #[])∧FM x w0 Bk (.slice (some ⟨b,off,none⟩) 1 q) (V4 c sp) w':=by
 have hmix:=mixed
 have hc:=hP.small
 have HP:Hid _:=hP
 have h05:=hM.cell 0 7 (by omega) rfl
 clear hP
 go_enter Tryz.func141,Tryz.ntmps141
 go_wp2
 go_loopw [11] (fun i wr=>(i = .int .i64 0∧FM x w0 Bk (.slice (some ⟨b,off,none⟩) 1 q) (V3 c sp) wr)∨(i = .int .i64 1∧FM x w0 Bk (.slice (some ⟨b,off,none⟩) 1 q) (V3a c sp) wr)∨(i = .int .i64 2∧FM x w0 Bk (.slice (some ⟨b,off,none⟩) 1 q) (V4 c sp) wr)) (fun i _=>2-(intOf i).toNat)
 case atStart=>exact .inl ⟨rfl,hM⟩
 case round=>
  clear hM h05
  rcases hrel with ⟨rfl,hM⟩ | ⟨rfl,hM⟩ | ⟨rfl,hM⟩
  ·have g5:=hM.cell 5 0 (by omega) rfl
   have HM:Hid (FM x w0 Bk (.slice (some ⟨b,off,none⟩) 1 q) (V3 c sp) wr):=hM
   clear hM
   go_wp2
   go_loopw [18] (fun i wr=>(i = .int .i64 0∧FM x w0 Bk (.slice (some ⟨b,off,none⟩) 1 q) (V3 c sp) wr)∨(i = .int .i64 1∧FM x w0 Bk (.slice (some ⟨b,off,none⟩) 1 q) (V3 c sp) wr)∨(i = .int .i64 2∧FM x w0 Bk (.slice (some ⟨b,off,none⟩) 1 q) (V3a c sp) wr)) (fun i _=>2-(intOf i).toNat)
   case atStart=>exact .inl ⟨rfl,HM.out⟩
   case round=>
    clear HM g5
    rcases hrel with ⟨rfl,hM⟩ | ⟨rfl,hM⟩ | ⟨rfl,hM⟩
    ·have g5:=hM.cell 6 0 (by omega) rfl
     have HM1:Hid (FM x w0 Bk (.slice (some ⟨b,off,none⟩) 1 q) (V3 c sp) wr):=hM
     clear hM
     go_wp2
     exact⟨.inr (.inl ⟨rfl,HM1.out⟩),by simp [intOf]⟩
    ·have g5:=hM.cell 6 1 (by omega) rfl
     have g8:=hM.cell 0 8 (by omega) rfl
     have g1:=hM.cell 0 1 (by omega) rfl
     have g9:=hM.cell 0 9 (by omega) rfl
     have k8:=hM.cell 8 0 (by omega) rfl
     have k11:=hM.cell 11 0 (by omega) rfl
     have t0:=hM.cell 9 1 (by omega) rfl
     have f0:=hM.frozen 9 1 (by omega)
     obtain⟨c0,c1,c2⟩:=HP.out.edge wr hM.bel
     have HM1:Hid (FM x w0 Bk (.slice (some ⟨b,off,none⟩) 1 q) (VI c sp (NA++(NB++NC)) w01 [.int .i64 0,.int .i64 (2*(c:Int))] z2 linkN linkN) (wr.setCell ⟨Bk 9,1,none⟩ (.int .i64 (2*(c:Int))))):=hM.setT0 HP.out 1 _
     have hqn:(0:Int)<1:=by omega
     clear hM
     go_wp2
     go_big_region_o
     obtain⟨wz,hwz⟩:∃ W,(wr.setCell ⟨Bk 9,1,none⟩ (.int .i64 (2*(c:Int)))).drew=W:=⟨_,rfl⟩
     have hM2:FM x w0 Bk (.slice (some ⟨b,off,none⟩) 1 q) (VI c sp (NA++(NB++NC)) w01 [.int .i64 0,.int .i64 (2*(c:Int))] z2 linkN linkN) wz:=by rw [← hwz];exact HM1.out.drew
     rw [hwz]
     clear hwz HM1 g5 g8 g1 g9 k8 k11 t0 f0 c0 c1 c2
     have g9:=hM2.cell 0 9 (by omega) rfl
     have k11:=hM2.cell 11 0 (by omega) rfl
     have a0:=hM2.cell 12 2 (by omega) rfl
     have a1:=hM2.cell 12 3 (by omega) rfl
     have b0:=hM2.frozen 12 2 (by omega)
     have b1:=hM2.frozen 12 3 (by omega)
     have HM3:Hid (FM x w0 Bk (.slice (some ⟨b,off,none⟩) 1 q) (V3a c sp) ((wz.setCell ⟨Bk 12,2,none⟩ (.int .i64 0)).setCell ⟨Bk 12,3,none⟩ (.int .i64 1))):=(hM2.setE0 HP.out 2 _).setE0 HP.out 3 _
     clear hM2
     go_wp2
     exact⟨.inr (.inr ⟨rfl,HM3.out⟩),by simp [intOf]⟩
    ·have HM1:Hid (FM x w0 Bk (.slice (some ⟨b,off,none⟩) 1 q) (V3a c sp) wr):=hM
     clear hM
     go_wp2
     exact⟨.inr (.inl ⟨rfl,HM1.out⟩),by simp [intOf]⟩
  ·have g5:=hM.cell 5 1 (by omega) rfl
   have HM:Hid (FM x w0 Bk (.slice (some ⟨b,off,none⟩) 1 q) (V3a c sp) wr):=hM
   clear hM
   go_wp2
   go_loopw [18] (fun i wr=>(i = .int .i64 0∧FM x w0 Bk (.slice (some ⟨b,off,none⟩) 1 q) (V3a c sp) wr)∨(i = .int .i64 1∧FM x w0 Bk (.slice (some ⟨b,off,none⟩) 1 q) (V4 c sp) wr)∨(i = .int .i64 2∧FM x w0 Bk (.slice (some ⟨b,off,none⟩) 1 q) (V4 c sp) wr)) (fun i _=>2-(intOf i).toNat)
   case atStart=>exact .inl ⟨rfl,HM.out⟩
   case round=>
    clear HM g5
    rcases hrel with ⟨rfl,hM⟩ | ⟨rfl,hM⟩ | ⟨rfl,hM⟩
    ·have g5:=hM.cell 7 0 (by omega) rfl
     have g8:=hM.cell 0 8 (by omega) rfl
     have g1:=hM.cell 0 1 (by omega) rfl
     have g9:=hM.cell 0 9 (by omega) rfl
     have k8:=hM.cell 8 1 (by omega) rfl
     have k11:=hM.cell 11 1 (by omega) rfl
     have t0:=hM.cell 10 0 (by omega) rfl
     have f0:=hM.frozen 10 0 (by omega)
     obtain⟨c0,c1,c2⟩:=HP.out.edge wr hM.bel
     have HM1:Hid (FM x w0 Bk (.slice (some ⟨b,off,none⟩) 1 q) (VI c sp (NA++(NB++NC)) w01 [.int .i64 0,.int .i64 (2*(c:Int))] [.int .i64 (2*(c:Int)),.int .i64 0] eA linkN) (wr.setCell ⟨Bk 10,0,none⟩ (.int .i64 (2*(c:Int))))):=hM.setT1 HP.out 0 _
     have hqn:(0:Int)<1:=by omega
     clear hM
     go_wp2
     go_big_region_o
     obtain⟨wz,hwz⟩:∃ W,(wr.setCell ⟨Bk 10,0,none⟩ (.int .i64 (2*(c:Int)))).drew=W:=⟨_,rfl⟩
     have hM2:FM x w0 Bk (.slice (some ⟨b,off,none⟩) 1 q) (VI c sp (NA++(NB++NC)) w01 [.int .i64 0,.int .i64 (2*(c:Int))] [.int .i64 (2*(c:Int)),.int .i64 0] eA linkN) wz:=by rw [← hwz];exact HM1.out.drew
     rw [hwz]
     clear hwz HM1 g5 g8 g1 g9 k8 k11 t0 f0 c0 c1 c2
     have g9:=hM2.cell 0 9 (by omega) rfl
     have k11:=hM2.cell 11 1 (by omega) rfl
     have a0:=hM2.cell 13 0 (by omega) rfl
     have a1:=hM2.cell 13 1 (by omega) rfl
     have b0:=hM2.frozen 13 0 (by omega)
     have b1:=hM2.frozen 13 1 (by omega)
     have HM3:Hid (FM x w0 Bk (.slice (some ⟨b,off,none⟩) 1 q) (V4 c sp) ((wz.setCell ⟨Bk 13,0,none⟩ (.int .i64 1)).setCell ⟨Bk 13,1,none⟩ (.int .i64 0))):=(hM2.setE1 HP.out 0 _).setE1 HP.out 1 _
     clear hM2
     go_wp2
     exact⟨.inr (.inl ⟨rfl,HM3.out⟩),by simp [intOf]⟩
    ·have g5:=hM.cell 7 1 (by omega) rfl
     have HM1:Hid (FM x w0 Bk (.slice (some ⟨b,off,none⟩) 1 q) (V4 c sp) wr):=hM
     clear hM
     go_wp2
     exact⟨.inr (.inr ⟨rfl,HM1.out⟩),by simp [intOf]⟩
    ·have HM1:Hid (FM x w0 Bk (.slice (some ⟨b,off,none⟩) 1 q) (V4 c sp) wr):=hM
     clear hM
     go_wp2
     exact⟨.inr (.inr ⟨rfl,HM1.out⟩),by simp [intOf]⟩
  ·go_wp2
   exact bodyPost_end (results_none rfl _ _ _) rfl ⟨rfl,hM⟩
end Go.Proofs.YtalflecmadacaaaGreat
