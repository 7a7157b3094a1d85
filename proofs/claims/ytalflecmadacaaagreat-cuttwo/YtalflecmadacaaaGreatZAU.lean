import Derived.OwnWalk
import Derived.Test.YtalflecmadacaaaGreatZAB
import Derived.Test.YtalflecmadacaaaGreatZAR
import Derived.Test.YtalflecmadacaaaGreatZAQ
import Derived.Test.YtalflecmadacaaaGreatZAS
import Derived.Shelf.Bits.Mul64
import Derived.Ground.Names2Prog
import Derived.Test.YtalflecmadacaaaGreatProg
import Derived.Laws.CopyOwn
import Derived.Test.YtalflecmadacaaaGreatZAA
set_option maxRecDepth 100000
set_option maxHeartbeats 8000000
namespace Go.Proofs.YtalflecmadacaaaGreat
open Go Go.Proofs Go.RowKit
def iotaL (N j:Nat):List Nat:=List.range j++List.replicate (N-j) 0
theorem QlE {N j:Nat}(h:j≤N):(iotaL N j).length=N:=by simp [iotaL];omega
theorem QlD {N j:Nat}(h:j<N):(iotaL N j).set j j=iotaL N (j+1):=by
 unfold iotaL
 rw [List.set_append_right _ _ (by simp),List.length_range,Nat.sub_self]
 obtain⟨m,hm⟩:∃ m,N-j=m+1:=⟨N-j-1,by omega⟩
 rw [hm,List.replicate_succ,List.set_cons_zero,show N-(j+1)=m from by omega,List.range_succ,List.append_assoc]
 rfl
theorem QjB (N:Nat):iotaL N N=List.range N:=by simp [iotaL]
theorem Qe6 (N:Nat):(List.replicate N (0:Int)).map (Value.int .i64)=natsV (iotaL N 0):=by simp [natsV,iotaL]
def leadL (N:Nat)(R:Nat→Nat):List Nat:=(List.range N).map R
theorem Qnl {N:Nat}{P:List Nat}{R:Nat→Nat}(hP:P.length=N)(h:∀ i,i<N→pf P i=R i):P=leadL N R:=by
 apply List.ext_getElem
 ·simp [leadL,hP]
 ·intro i h1 h2
  have:=h i (by omega)
  rw [pf,YC,YB h1] at this
  simpa [leadL] using this
theorem Qbs {N v:Nat}{R:Nat→Nat}(h:v<N):(natsV (leadL N R))[v]? = some (.int .i64 (R v:Int)):=by simp [natsV,leadL,h]
theorem Qex (N:Nat)(L:List Eg)(hN:N≤1048576)(hm:L.length≤4194304)(hE:∀ e∈L,e.1<N∧e.2.1<N)(sv:Value)(w:World)(hl:Edges w.heap.size w sv (L.map edE)):
  Calls Tryz.prog 60 #[.agg #[.int .i64 (N:Int),sv]] w fun r w'=>∃ (g:Nat) (R:Nat→Nat),r = .returned (.slice (some ⟨g,0,none⟩) N N)∧LeadP L N R∧Blk 3 w' g (natsV (leadL N R))∧Below w.heap.size w w'∧w.heap.size≤g:=by
 have hmix:=mixed
 obtain⟨p,c,rfl⟩:=hl.lenG
 obtain⟨i0,hi,hz0,hz1,hz2⟩:=info_parts infoI
 have hg1:Grew w (w.alloc (.cells #[.int .i64 (N:Int),.slice p L.length c] 24)):=(Grew.refl w).alloc _
 have e1:(w.alloc (.cells #[.int .i64 (N:Int),.slice p L.length c] 24)).heap.size=w.heap.size+1:=by simp
 have E1:Hid _:=e1
 clear e1
 go_enter Tryz.func60,Tryz.ntmps60
 go_wp2_with (at_make;refine wpList_make_full _ rfl _ _ 27 rfl w.heap.size 3 i0 (.int .i64 0) 1 Tryz.underlying27 hi hz0 hz1 .i64 .i64 _ _ N rfl rfl rfl rfl (by rw [hz2];omega) (by unfold maxLen;omega) (by simp) ?_;intro w3 hown hgrow;have hb3:Below (w.alloc (.cells #[.int .i64 (N:Int),.slice p L.length c] 24)).heap.size (w.alloc (.cells #[.int .i64 (N:Int),.slice p L.length c] 24)) w3:=YD.grown hgrow YA (fun k e=>by cases e);have q0:w3.cell? ⟨w.heap.size,0,none⟩=some (.int .i64 (N:Int)):=(hb3.cell (p:=⟨w.heap.size,0,none⟩) (by rw [E1.out];exact Nat.lt_succ_self _)).trans (Qam rfl rfl);have q1:w3.cell? ⟨w.heap.size,1,none⟩=some (.slice p L.length c):=(hb3.cell (p:=⟨w.heap.size,1,none⟩) (by rw [E1.out];exact Nat.lt_succ_self _)).trans (Qam rfl rfl);have hbw:Below w.heap.size w w3:=hg1.below.trans (hb3.mono (by rw [E1.out];omega));rw [E1.out] at hown;have hrow:=Blk.made hown;have hsz:=hrow.lt;rw [QaK,Qe6] at hrow;have HRow:Hid _:=hrow;clear hown hgrow hb3 hrow;have hl1:w.heap.size<w3.heap.size:=by omega)
 have HB4:Hid (Below w.heap.size w (w3.alloc (.cells #[.slice (some ⟨w.heap.size+1,0,none⟩) N N] 27))):=hbw.alloc (by omega) _
 have HC4:Hid ((w3.alloc (.cells #[.slice (some ⟨w.heap.size+1,0,none⟩) N N] 27)).cell? ⟨w3.heap.size,0,none⟩=some (.slice (some ⟨w.heap.size+1,0,none⟩) N N)):=Qam rfl rfl
 have HR4:Hid (Blk 3 (w3.alloc (.cells #[.slice (some ⟨w.heap.size+1,0,none⟩) N N] 27)) (w.heap.size+1) (natsV (iotaL N 0))):=by
  have h1:Blk 3 w3 (w.heap.size+1) (natsV (iotaL N 0)):=HRow.out
  exact h1.go (YD.alloc YA _)
 have HQ4:Hid ((w3.alloc (.cells #[.slice (some ⟨w.heap.size+1,0,none⟩) N N] 27)).cell? ⟨w.heap.size,0,none⟩=some (.int .i64 (N:Int))∧(w3.alloc (.cells #[.slice (some ⟨w.heap.size+1,0,none⟩) N N] 27)).cell? ⟨w.heap.size,1,none⟩=some (.slice p L.length c)):=
  ⟨((Below.refl w3.heap.size w3).alloc YA _ |>.cell (p:=⟨w.heap.size,0,none⟩) hl1).trans q0,((Below.refl w3.heap.size w3).alloc YA _ |>.cell (p:=⟨w.heap.size,1,none⟩) hl1).trans q1⟩
 obtain⟨w4,hw4⟩:∃ W,w3.alloc (.cells #[.slice (some ⟨w.heap.size+1,0,none⟩) N N] 27)=W:=⟨_,rfl⟩
 rw [hw4] at HB4 HC4 HR4 HQ4
 rw [hw4]
 clear hw4 q0 q1 hbw HRow hi hz0 hz1 hz2 E1
 obtain⟨lb,hlb⟩:∃ n,w3.heap.size=n:=⟨_,rfl⟩
 rw [hlb] at HC4 hl1 hsz ⊢
 clear hlb
 obtain⟨x,hx⟩:∃ n,w.heap.size=n:=⟨_,rfl⟩
 rw [hx] at HC4 HR4 HQ4 HB4 hl1 hsz ⊢
 go_loopw [16] (fun i wr=>∃ j:Nat,j≤N∧i = .int .i64 j∧Hid (Blk 3 wr (x+1) (natsV (iotaL N j)))∧Hid (Tch (x+1) w4 wr)) (fun i _=>N-(intOf i).toNat)
 case atStart=>exact⟨0,YN,rfl,HR4,Tch.refl _ _⟩
 case round=>
  obtain⟨j,hj,rfl,HB,HT⟩:=hrel
  have c0:=HT.out.cell HC4.out (by omega)
  have q0:=HT.out.cell HQ4.out.1 (by omega)
  have q1:=HT.out.cell HQ4.out.2 (by omega)
  by_cases hlt:j<N
  ·have hjl:(j:Int)<(N:Int):=by omega
   have t0:wr.cell? ⟨x+1,j,none⟩=some (.int .i64 (pf (iotaL N j) j:Int)):=HB.out.cell (QcY (by rw [QlE hj];exact hlt))
   have f0:=HB.out.frozen j
   have HB2:Hid (Blk 3 (wr.setCell ⟨x+1,j,none⟩ (.int .i64 (j:Int))) (x+1) (natsV (iotaL N (j+1)))):=by
    have h1:=HB.out.set j (.int .i64 (j:Int))
    rw [← QcX,QlD hlt] at h1
    exact h1
   have HT2:Hid _:=HT.out.set j (.int .i64 (j:Int))
   go_wp2
   exact⟨⟨j+1,by omega,by go_num,HB2,HT2⟩,by simp [intOf];omega⟩
  ·obtain rfl:N=j:=by omega
   have HU:Hid (UF L N 0 (List.range N) id):=UF.start L N
   have HBr:Hid (Blk 3 wr (x+1) (natsV (List.range N))):=by
    have:=HB.out
    rw [QjB] at this
    exact this
   have HBw:Hid (Below x w wr):=by
    have:=HT.out.below (n:=x) HB4.out (by omega) ?_
    ·exact this
    ·have:=HB4.out.size;omega
   clear HB HR4 HC4 HQ4 HT HB4
   obtain⟨w5,hw5⟩:∃ W,wr=W:=⟨_,rfl⟩
   rw [hw5] at HBr HBw c0 q0 q1 ⊢
   clear hw5
   go_wp2
   go_loopw [28] (fun i wr=>∃ (j:Nat) (P:List Nat) (R:Nat→Nat),j≤L.length∧i = .int .i64 j∧Hid (UF L N j P R)∧Hid (Blk 3 wr (x+1) (natsV P))∧Hid (Tch (x+1) w5 wr)) (fun i _=>L.length-(intOf i).toNat)
   case atStart=>exact⟨0,_,_,YN,rfl,HU,HBr,Tch.refl _ _⟩
   case round=>
    obtain⟨j,P,R,hj,rfl,HUj,HBj,HTj⟩:=hrel
    have d0:=HTj.out.cell c0 (by omega)
    have d1:=HTj.out.cell q0 (by omega)
    have d2:=HTj.out.cell q1 (by omega)
    have hbr:Below x w wr:=HTj.out.below HBw.out (by omega) (by have:=HBw.out.size;omega)
    by_cases hlt:j<L.length
    ·obtain⟨b,off,rfl,hb1,hcap,hc⟩:=hl.eg hlt
     rw [hx] at hc hb1
     obtain⟨e0,e1,e2⟩:=hc wr hbr j hlt
     have hj3:(j:Int)<(L.length:Int):=by omega
     obtain⟨hu,hv⟩:=hE L[j] (YG hlt)
     have HK:Hid _:=YB hlt
     have HBr':Hid _:=hbr
     have hwx:=hbr.size
     clear hc hbr c0 q0 q1 d1 d2
     have hwlb:=World.block_lt_of_cell? wr _ d0
     obtain⟨u,hu1⟩:∃ u,L[j].1=u:=⟨_,rfl⟩
     obtain⟨v,hv1⟩:∃ v,L[j].2.1=v:=⟨_,rfl⟩
     obtain⟨wt,hw1⟩:∃ wt,L[j].2.2=wt:=⟨_,rfl⟩
     have HU1:Hid _:=hu1
     have HV1:Hid _:=hv1
     rw [hu1] at hu e0
     rw [hv1] at hv e1
     rw [hw1] at e2
     clear hu1 hv1 hw1
     have HE6:Hid (Blk 50 (wr.alloc (.cells #[.int .i64 (u:Int),.int .i64 (v:Int),.int .i64 (wt:Int)] 50)) wr.heap.size [.int .i64 (u:Int),.int .i64 (v:Int),.int .i64 (wt:Int)]):=heap_alloc_new wr _
     have HB6:Hid (Below wr.heap.size wr (wr.alloc (.cells #[.int .i64 (u:Int),.int .i64 (v:Int),.int .i64 (wt:Int)] 50))):=YD.alloc YA _
     go_wp2
     obtain⟨w6,hw6⟩:∃ W,wr.alloc (.cells #[.int .i64 (u:Int),.int .i64 (v:Int),.int .i64 (wt:Int)] 50)=W:=⟨_,rfl⟩
     rw [hw6] at HE6 HB6 ⊢
     clear hw6 e0 e1 e2 hg1 hl
     have HT6:Hid (Tch (x+1) w5 w6):=HTj.out.trans (Tch.of_below HB6.out)
     have HBk6:Hid (Blk 3 w6 (x+1) (natsV P)):=HBj.out.go HB6.out
     have hsw:=HB6.out.size
     have d6:w6.cell? ⟨lb,0,none⟩=some (.slice (some ⟨x+1,0,none⟩) N N):=(HB6.out.cell (p:=⟨lb,0,none⟩) hwlb).trans d0
     have hne6:wr.heap.size≠x+1:=by omega
     obtain⟨eb,heb⟩:∃ n,wr.heap.size=n:=⟨_,rfl⟩
     rw [heb] at HE6 hne6 hwlb ⊢
     clear HBj HTj HB6 d0 hwx heb
     refine wp_region_held_drew (S:=(fun w':World=>w'.cell? ⟨eb,0,none⟩=some (.int .i64 (u:Int))∧w'.cell? ⟨eb,1,none⟩=some (.int .i64 (v:Int)))) (by kernel_rfl) ⟨HE6.out.cell (j:=0) rfl,HE6.out.cell (j:=1) rfl⟩ (fun hHeld=>?_)
     refine tH 0 ?_
     try simp only [YS]
     refine tH 1 ?_
     refine tH 2 ?_
     refine tH 4 ?_
     refine tH 5 ?_
     refine tH 6 ?_
     try simp only [YS,YT,YU]
     refine wpAnyH_ready (rs:=[3]) (by kernel_rfl) (by simp) ?_
     refine AllReadyH.cons rfl (fun K hK=>?_) AllReadyH.nil
     go_simp
     refine (QfR L N j P R HUj.out u hu lb (x+1) (by omega) w6.drew d6 HBk6.out).mono ?_
     rintro e w7 ⟨rfl,P7,hU7,hp7,-,hB7,hT7⟩
     refine hK.out _ _ ⟨hT7.cell hHeld.1 hne6,hT7.cell hHeld.2 hne6⟩ (fun hHeld7=>?_)
     have HU7:Hid _:=hU7
     have HP7:Hid _:=hp7
     have HB7:Hid _:=hB7
     have HT7:Hid (Tch (x+1) w5 w7):=HT6.out.drew.trans hT7
     have d7:=hT7.cell (b:=lb) d6 (by omega)
     clear hK K hHeld hU7 hp7 hB7 hT7 HBk6 HT6 d6
     try simp only [Act.put,YS,YT,YU]
     refine wpAnyH_ready (rs:=[7]) (by kernel_rfl) (by simp) ?_
     refine AllReadyH.cons rfl (fun K hK=>?_) AllReadyH.nil
     go_simp
     refine (QfR L N j P7 R HU7.out v hv lb (x+1) (by omega) w7 d7 HB7.out).mono ?_
     rintro e w8 ⟨rfl,P8,hU8,hp8,-,hB8,hT8⟩
     refine hK.out _ _ ⟨hT8.cell hHeld7.1 hne6,hT8.cell hHeld7.2 hne6⟩ (fun hHeld8=>?_)
     have hra:=HU7.out.root (R u) (by have:=HU7.out.low u hu;omega) HP7.out
     have hrb:=hU8.root (R v) (by have:=hU8.low v hv;omega) hp8
     have haN:R u<N:=by have:=hU8.low u hu;omega
     have hbN:R v<N:=by have:=hU8.low v hv;omega
     have HJ:Hid _:=hU8.join haN hbN (hU8.rooted haN hra) hp8 HK.out (by rw [HU1.out]) (by rw [HV1.out]) (by rw [HU1.out];exact hu) (by rw [HV1.out];exact hv)
     have Hlen:Hid (P8.length=N):=hU8.len
     have HB8:Hid (Blk 3 w8 (x+1) (natsV P8)):=hB8
     have HT8:Hid (Tch (x+1) w5 w8):=HT7.out.trans hT8
     have d8:=hT8.cell (b:=lb) d7 (by omega)
     clear hK K hHeld7 hU8 hp8 hB8 hT8 HU7 HP7 HB7 HT7 d7 hra hrb
     generalize R u=a at *
     generalize R v=a2 at *
     try simp only [Act.put,YS,YT,YU]
     refine tH 8 ?_
     refine tH 9 ?_
     refine wpAnyH_done (by kernel_rfl) ?_ _
     simp only [YS,YT,YU]
     have hmxN:max a a2<P8.length:=by rw [Hlen.out];omega
     have HB9:Hid (Blk 3 (w8.setCell ⟨x+1,max a a2,none⟩ (.int .i64 (min a a2:Nat))) (x+1) (natsV (P8.set (max a a2) (min a a2)))):=by
      have h1:=HB8.out.set (max a a2) (.int .i64 ((min a a2:Nat):Int))
      rw [← QcX] at h1
      exact h1
     have HT9:Hid _:=HT8.out.set (max a a2) (.int .i64 ((min a a2:Nat):Int))
     have t0:w8.cell? ⟨x+1,max a a2,none⟩=some (.int .i64 (pf P8 (max a a2):Int)):=HB8.out.cell (QcY hmxN)
     have f0:=HB8.out.frozen (max a a2)
     have hai:(a:Int)<(N:Int):=by omega
     have hai2:(a2:Int)<(N:Int):=by omega
     clear HB8 HT8 hmxN hHeld8
     have HBx:Hid (∀ W,Tch (x+1) w5 W→Below x w W):=fun W hW=>hW.below HBw.out (by omega) (by have:=HBw.out.size;omega)
     rcases Nat.lt_trichotomy a a2 with hab | hab | hab
     ·rw [Nat.max_eq_right (by omega),Nat.min_eq_left (by omega)] at HJ HB9 HT9
      rw [Nat.max_eq_right (by omega)] at t0 f0
      have hab1:(a:Int)<(a2:Int):=by omega
      have hab2:(a:Int)≤(a2:Int):=by omega
      go_wp2
      exact⟨⟨j+1,_,_,by omega,by go_num,HJ,HB9,HT9.out⟩,by simp [intOf];omega⟩
     ·subst hab
      rw [Nat.max_self,Nat.min_self] at HJ HB9 HT9
      rw [Nat.max_self] at t0 f0
      go_wp2
      exact⟨⟨j+1,_,_,by omega,by go_num,HJ,HB9,HT9.out⟩,by simp [intOf];omega⟩
     ·rw [Nat.max_eq_left (by omega),Nat.min_eq_right (by omega)] at HJ HB9 HT9
      rw [Nat.max_eq_left (by omega)] at t0 f0
      have hab1:(a2:Int)<(a:Int):=by omega
      have hab2:(a2:Int)≤(a:Int):=by omega
      go_wp2
      exact⟨⟨j+1,_,_,by omega,by go_num,HJ,HB9,HT9.out⟩,by simp [intOf];omega⟩
    ·obtain rfl:j=L.length:=by omega
     obtain⟨w9,hw9⟩:∃ W,wr=W:=⟨_,rfl⟩
     have hlen:=HUj.out.len
     have HL:Hid (LeadP L N R):=HUj.out.lead
     have Hbr:Hid (Below x w wr):=hbr
     have HBj':Hid (Blk 3 wr (x+1) (natsV P)):=HBj.out
     rw [hw9] at Hbr HBj' d0 d1 ⊢
     have hls:lb<w9.heap.size:=World.block_lt_of_cell? w9 _ d0
     clear hbr HBj HTj HBw HBr HU hw9 d2 c0 q0 q1 hlen hg1
     go_wp2
     go_loopw [51] (fun i wr=>∃ (j:Nat) (P:List Nat),j≤N∧i = .int .i64 j∧Hid (UF L N L.length P R)∧Hid (∀ i,i<j→pf P i=R i)∧Hid (Blk 3 wr (x+1) (natsV P))∧Hid (Tch (x+1) w9 wr)) (fun i _=>N-(intOf i).toNat)
     case atStart=>exact⟨0,_,YN,rfl,HUj,fun i hi=>absurd hi (by omega),HBj',Tch.refl _ _⟩
     case round=>
      obtain⟨k,P,hk,rfl,HUk,HAt,HBk,HTk⟩:=hrel
      have e0:=HTk.out.cell d0 (by omega)
      have e1:=HTk.out.cell d1 (by omega)
      by_cases hlt:k<N
      ·have hkl:(k:Int)<(N:Int):=by omega
       have hlb1:lb≠x+1:=by omega
       go_wp2
       refine wp_region_held_drew (S:=(fun w':World=>w'.cell? ⟨lb,0,none⟩=some (.slice (some ⟨x+1,0,none⟩) N N))) (by kernel_rfl) e0 (fun hHeld=>?_)
       refine tH 0 ?_
       try simp only [YS]
       refine tH 1 ?_
       refine tH 2 ?_
       refine tH 3 ?_
       try simp only [YS,YT,YU]
       refine wpAnyH_ready (rs:=[4]) (by kernel_rfl) (by simp) ?_
       refine AllReadyH.cons rfl (fun K hK=>?_) AllReadyH.nil
       go_simp
       refine (QfR L N L.length P R HUk.out k hlt lb (x+1) (by omega) wr.drew e0 HBk.out).mono ?_
       rintro e w10 ⟨rfl,P10,hU10,-,hs10,hB10,hT10⟩
       refine hK.out _ _ (hT10.cell hHeld hlb1) (fun hHeld10=>?_)
       have HT11:Hid (Tch (x+1) w9 (w10.setCell ⟨x+1,k,none⟩ (.int .i64 (R k:Int)))):=(HTk.out.drew.trans hT10).set k _
       have HB11:Hid (Blk 3 (w10.setCell ⟨x+1,k,none⟩ (.int .i64 (R k:Int))) (x+1) (natsV (P10.set k (R k)))):=by
        have h1:=hB10.set k (.int .i64 (R k:Int))
        rw [← QcX] at h1
        exact h1
       have HU11:Hid _:=hU10.flat hlt
       have hkP:k<P10.length:=by rw [hU10.len];exact hlt
       have t0:w10.cell? ⟨x+1,k,none⟩=some (.int .i64 (pf P10 k:Int)):=hB10.cell (QcY hkP)
       have f0:=hB10.frozen k
       have HAt11:Hid (∀ i,i<k+1→pf (P10.set k (R k)) i=R i):=fun i hi=>by
        rw [QbW hkP]
        split
        ·next e=>rw [e]
        ·exact hs10 i (by omega) (HAt.out i (by omega))
       clear hK K hHeld hU10 hs10 hB10 hT10 HUk HAt HBk HTk hkP e0
       try simp only [Act.put,YS,YT,YU]
       refine tH 5 ?_
       refine wpAnyH_ready (rs:=[6]) (by kernel_rfl) (by simp) ?_
       refine AllReadyH.cons rfl (fun K hK=>?_) AllReadyH.nil
       go_simp
       refine hK.out _ _ ?_ (fun hHeld=>?_)
       ·(try dsimp only);first | (go_keep;done) | ((repeat' apply And.intro) <;> go_simp)
       clear hK K
       try simp only [YS,YT,YU]
       refine wpAnyH_done (by kernel_rfl) ?_ _
       go_wp2
       exact⟨⟨k+1,_,by omega,by go_num,HU11,HAt11,HB11,HT11⟩,by simp [intOf];omega⟩
      ·obtain rfl:N=k:=by omega
       have HLst:Hid (P=leadL N R):=Qnl HUk.out.len HAt.out
       have HBf:Hid (Blk 3 wr (x+1) (natsV (leadL N R))):=by
        have:=HBk.out
        rw [HLst.out] at this
        exact this
       have HBe:Hid (Below w.heap.size w wr):=by rw [hx];exact HTk.out.below Hbr.out (by omega) (by have:=Hbr.out.size;omega)
       go_wp2
       go_ret
       exact⟨x+1,R,rfl,HL.out,HBf.out,HBe.out,by omega⟩
theorem bAt_true {T:List Bool}:T.contains true=true↔∃ v,v<T.length∧bAt T v=true:=by
 rw [List.contains_iff_mem]
 constructor
 ·intro h
  obtain⟨i,hi,e⟩:=List.getElem_of_mem h
  exact⟨i,hi,by simp [bAt,hi,e]⟩
 ·rintro⟨v,hv,e⟩
  rw [bAt,YC,YB hv] at e
  have e2:T[v]=true:=e
  rw [← e2];exact YG hv
theorem QjF (T:List Bool)(hT:T.length≤4194304)(tv:Value)(w:World)(hI:Bools w.heap.size w tv T):
  Calls Tryz.prog 109 #[tv,.bool true] w fun r w'=>(∃ k:Nat,k<T.length∧bAt T k=true∧r = .returned (.int .i64 (k:Int))∨(∀ v,v<T.length→bAt T v=false)∧r = .returned (.int .i64 (-1)))∧w'=w:=by
 obtain⟨p,c,rfl⟩:=hI.len
 have HI:Hid (Bools w.heap.size w (.slice p T.length c) T):=hI
 clear hI
 go_enter Tryz.func109,Tryz.ntmps109
 go_wp2
 go_loopw [8] (fun iv wr=>∃ j:Nat,j≤T.length∧iv = .int .i64 j∧(∀ v,v<j→bAt T v=false)∧wr=w) (fun i _=>T.length-(intOf i).toNat)
 case atStart=>exact⟨0,YN,rfl,fun v hv=>absurd hv (by omega),rfl⟩
 case round=>
  obtain⟨j,hj,rfl,hA,rfl⟩:=hrel
  have HA:Hid (∀ v,v<j→bAt T v=false):=hA
  clear hA
  by_cases hlt:j<T.length
  ·have hjl:(j:Int)<(T.length:Int):=by omega
   obtain⟨b,off,rfl,hbb,hcap,hc⟩:=Vals.open (enc:=Value.bool) HI.out hlt
   have c0:=hc wr YD j hlt
   have hbT:bAt T j=T[j]:=by simp [bAt,hlt]
   rw [← hbT] at c0
   have HLT:Hid (j<T.length):=hlt
   clear hc hlt hbT
   cases hP:bAt T j with
   | false=>
    have HP:Hid (bAt T j=false):=hP
    rw [hP] at c0
    clear hP
    go_wp2
    exact⟨⟨j+1,HLT.out,by go_num,fun v hv=>by
     by_cases e:v=j
     ·rw [e];exact HP.out
     ·exact HA.out v (by omega),trivial⟩,by have:=HLT.out;simp [intOf];omega⟩
   | true=>
    have HP:Hid (bAt T j=true):=hP
    rw [hP] at c0
    clear hP
    go_wp2
    go_ret
    exact⟨⟨j,.inl ⟨HLT.out,HP.out,rfl⟩⟩,rfl⟩
  ·obtain rfl:j=T.length:=by omega
   go_wp2
   go_ret
   exact⟨⟨0,.inr ⟨HA.out,rfl⟩⟩,rfl⟩
theorem QfW (T:List Bool)(hT:T.length≤4194304)(tv:Value)(w:World)(hI:Bools w.heap.size w tv T):
  Calls Tryz.prog 85 #[tv,.bool true] w fun r w'=>r = .returned (.bool (T.contains true))∧w'=w:=by
 have hx:=QjF T hT tv w hI
 clear hI
 go_enter Tryz.func85,Tryz.ntmps85
 go_wp2_with fail
 refine hx.mono ?_
 clear hx
 rintro e w1 ⟨⟨k,⟨hk,hb,rfl⟩ | ⟨hA,rfl⟩⟩,rfl⟩
 ·have HE:Hid (T.contains true=true):=bAt_true.2 ⟨k,hk,hb⟩
  go_wp2
  go_ret
  refine⟨?_,rfl⟩
  rw [HE.out]
  simp
 ·have HE:Hid (T.contains true=false):=by
   show _=_
   cases h:T.contains true with
   | false=>rfl
   | true=>obtain⟨v,hv,e⟩:=bAt_true.1 h;rw [hA v hv] at e;cases e
  go_wp2
  go_ret
  refine⟨?_,rfl⟩
  rw [HE.out]
  rfl
def turnT (R:Nat→Nat)(T:List Bool)(B:List Int):List Bool:=B.foldl (fun T v=>flipB T (R v.toNat)) T
theorem QcA (R:Nat→Nat):∀ (B:List Int) (T:List Bool),(turnT R T B).length=T.length
 | [],_=>rfl
 | x :: B,T=>by show (turnT R (flipB T (R x.toNat)) B).length=_;rw [QcA R B,QaP]
theorem Qi4 (R:Nat→Nat)(T:List Bool)(B:List Int)(x:Int):turnT R T (B++[x])=flipB (turnT R T B) (R x.toNat):=by simp [turnT]
theorem QgN (N:Nat)(R:Nat→Nat)(B:List Int)(hN:N≤1048576)(hR:∀ v,v<N→R v<N)(hB:plcB N B=true)(hBl:B.length≤8388608)(g:Nat)(bv:Value)(w:World)(hG:Blk 3 w g (natsV (leadL N R)))(hI:Ints w.heap.size w bv B):
  Calls Tryz.prog 61 #[.slice (some ⟨g,0,none⟩) N N,bv] w fun r w'=>r = .returned (.bool ((turnT R (List.replicate N false) B).contains true))∧Below w.heap.size w w':=by
 have hmix:=mixed
 obtain⟨pb,cb,rfl,ho⟩:=hI.openW
 have HO:Hid _:=fun (j:Nat) (hj:j<B.length)=>ho (j:=j) hj
 clear ho
 obtain⟨i0,hi,hz0,hz1,hz2⟩:=info_parts Qff
 have HG:Hid (Blk 3 w g (natsV (leadL N R))):=hG
 have hgl:=hG.lt
 clear hG
 go_enter Tryz.func61,Tryz.ntmps61
 go_wp2_with (at_make;refine wpList_make_full _ rfl _ _ 25 rfl w.heap.size 4 i0 (.bool false) 1 Tryz.underlying25 hi hz0 hz1 .i64 .i64 _ _ N rfl rfl rfl rfl (by rw [hz2];omega) (by unfold maxLen;omega) (by simp) ?_;intro w3 hown hgrow;have hb3:Below w.heap.size w w3:=YD.grown hgrow YA (fun k e=>by cases e);have hrow:=Blk.made hown;have hsz:=hrow.lt;rw [QaT] at hrow;have HRow:Hid (Blk 4 w3 w.heap.size ((turnT R (List.replicate N false) (B.take 0)).map Value.bool)):=hrow;have HB3:Hid (Below w.heap.size w w3):=hb3;clear hown hgrow hb3 hrow)
 obtain⟨x,hx⟩:∃ n,w.heap.size=n:=⟨_,rfl⟩
 rw [hx] at HRow hsz HB3 hgl ⊢
 clear hi hz0 hz1 hz2
 go_loopw [13] (fun i wr=>∃ j:Nat,j≤B.length∧i = .int .i64 j∧Hid (Blk 4 wr x ((turnT R (List.replicate N false) (B.take j)).map Value.bool))∧Hid (Below x w wr)) (fun i _=>B.length-(intOf i).toNat)
 case atStart=>exact⟨0,YN,rfl,HRow,HB3⟩
 case round=>
  obtain⟨j,hj,rfl,HR,HB⟩:=hrel
  by_cases hlt:j<B.length
  ·have hjl:(j:Int)<(B.length:Int):=by omega
   obtain⟨b2,off2,rfl,hb2,hc2⟩:=HO.out j hlt
   rw [hx] at hb2 hc2
   have c0:=hc2 wr HB.out j hlt
   rw [QbJ hlt] at c0
   obtain⟨v,hv1,hv2⟩:=Qgy hB hlt
   have HST:Hid (flipB (turnT R (List.replicate N false) (B.take j)) (R v)=turnT R (List.replicate N false) (B.take (j+1))):=by
    show _=_
    rw [List.take_succ_eq_append_getElem hlt,Qi4,hv1,YM]
   rw [hv1] at c0
   have hvl:(v:Int)<(N:Int):=by omega
   have hrl:=hR v hv2
   have hrl':((R v:Nat):Int)<(N:Int):=by omega
   have g0:wr.cell? ⟨g,v,none⟩=some (.int .i64 (R v:Int)):=(HG.out.go (by rw [hx];exact HB.out)).cell (Qbs hv2)
   have hlT:(turnT R (List.replicate N false) (B.take j)).length=N:=by rw [QcA,List.length_replicate]
   have HLT:Hid (j<B.length):=hlt
   generalize turnT R (List.replicate N false) (B.take j)=T at *
   generalize R v=rv at *
   have t0:=HR.out.bcell (v:=rv) (by rw [hlT];exact hrl)
   have f0:=HR.out.frozen rv
   have HR2:Hid _:=HR.out.flip rv
   have HB2:Hid (Below x w (wr.setCell ⟨x,rv,none⟩ (.bool (!bAt T rv)))):=HB.out.setCell (p:=⟨x,rv,none⟩) YA _
   clear HR HB hc2 hlt hv1 hlT
   go_wp2
   go_big_region_o
   go_wp2
   refine⟨⟨j+1,HLT.out,by go_num,?_,Qaa HB2.out 1⟩,by have:=HLT.out;simp [intOf];omega⟩
   rw [← HST.out]
   exact HR2.out
  ·obtain rfl:j=B.length:=by omega
   have h1:=HR.out
   rw [List.take_length] at h1
   have hcb:=QfW (turnT R (List.replicate N false) B) (by rw [QcA,List.length_replicate];omega) (.slice (some ⟨x,0,none⟩) N N) wr (h1.boolsT (by rw [QcA,List.length_replicate]))
   clear HR h1
   go_wp2_with fail
   refine hcb.mono ?_
   rintro e w9 ⟨rfl,rfl⟩
   clear hcb
   go_wp2
   go_ret
   rw [hx]
   exact⟨by simp,HB.out⟩
end Go.Proofs.YtalflecmadacaaaGreat
namespace Go.Proofs
open Go.Shelf
def Tryz.lays212_ren:Go.Shelf.Ren:=⟨fun | 212=>159 | 263=>172 | 264=>173 | n=>n,fun | 46=>67 | 51=>205 | 146=>206 | 53=>208 | 148=>209 | n=>n,fun | n=>n⟩
theorem Tryz.lays212:Go.Proofs.Lays.n212 Tryz.prog Tryz.lays212_ren:={
 mixed:=by kernel_rfl
 f212:=Tryz.func159.trans (congrArg some (by kernel_rfl))
 f263:=Tryz.func172.trans (congrArg some (by kernel_rfl))
 f264:=Tryz.func173.trans (congrArg some (by kernel_rfl))
 t46:=Tryz.underlying67
 a46:=Tryz.isAgg67
 z46:=Tryz.sizeOf67
 v46:=Tryz.zeroValue67
 t51:=Tryz.underlying205
 a51:=Tryz.isAgg205
 z51:=Tryz.sizeOf205
 v51:=Tryz.zeroValue205
 t53:=Tryz.underlying208
 a53:=Tryz.isAgg208
 z53:=Tryz.sizeOf208
 v53:=Tryz.zeroValue208
 t146:=Tryz.underlying206
 a146:=Tryz.isAgg206
 z146:=Tryz.sizeOf206
 v146:=Tryz.zeroValue206
 t148:=Tryz.underlying209
 a148:=Tryz.isAgg209
 z148:=Tryz.sizeOf209
 v148:=Tryz.zeroValue209 }
open Go.RowKit Go.Lib in
theorem Tryz.bits_Mul (x y:Nat)(hx:x<18446744073709551616)(hy:y<18446744073709551616)(w:World):
  Calls Tryz.prog 159 #[.int .u64 x,.int .u64 y] w fun e w'=>e = .returned (.tuple #[.int .u64 ((x*y / 18446744073709551616:Nat):Int),.int .u64 ((x*y % 18446744073709551616:Nat):Int)])∧w'=w:=Any.bits_Mul Tryz.lays212 x y hx hy w
end Go.Proofs
namespace Go.Proofs.YtalflecmadacaaaGreat
open Go Go.Proofs Go.RowKit
def repH (n j:Nat)(v:Int):List Value:=List.replicate j (.int .i64 v)++List.replicate (n-j) (.int .i64 0)
theorem QdQ {n j:Nat}(h:j≤n)(v:Int):(repH n j v).length=n:=by simp [repH];omega
theorem Qeg (n:Nat)(v:Int):repH n 0 v=List.replicate n (.int .i64 0):=by simp [repH]
theorem Qeh (n:Nat)(v:Int):repH n n v=List.replicate n (.int .i64 v):=by simp [repH]
theorem QbM {n j m:Nat}(h:j+m≤n)(v:Int):splice (repH n j v) j (List.replicate m (.int .i64 v))=repH n (j+m) v:=by
 unfold splice repH
 apply List.ext_getElem?
 intro i
 rw [List.take_append,List.drop_append]
 simp only [List.length_replicate]
 rw [Nat.sub_self,List.take_zero,List.append_nil,List.take_of_length_le (by simp)]
 rw [List.drop_of_length_le (by simp),List.nil_append,List.drop_replicate]
 rw [← List.append_assoc,List.replicate_append_replicate]
 congr 3
 omega
theorem QlM:(Tryz.prog.info? 3).map (·.size)=some 1:=by kernel_rfl
theorem QkG {w3:World}{base g n:Nat}(v:Int)(hown:w3.ownsRow base 3 1 (.slice (some ⟨g,0,none⟩) n n) n (madeCells (Value.int .i64 0).cells (n*1)).toList):w3.heap[g]? = some (.cells (repH n 0 v).toArray 3 (0,0)):=by
 have h1:=Blk.made hown
 rw [QaK,List.map_replicate,← Qeg n v] at h1
 exact h1
theorem QkF {w3:World}{b m g off o:Nat}{v:Int}(hc:∀ j,j<m→w3.cell? ⟨b,o+j,none⟩=some (.int .i64 v)):0<(List.replicate m (Value.int .i64 v)).length→(some ⟨g,off,none⟩:Option Addr)=some ⟨g,off,none⟩∧∃ ad,(some ⟨b,o,none⟩:Option Addr)=some ad∧∀ j u,(List.replicate m (Value.int .i64 v))[j]? = some u→w3.cell? (ad.add j)=some u:=fun _=>⟨rfl,_,rfl,fun j u hu=>by
 have hj:=(YE hu).1
 rw [List.length_replicate] at hj
 rw [List.eq_of_mem_replicate (YK hu),Go.WideShapes.add_plain]
 exact hc j hj⟩
theorem Qhv {n j m:Nat}{v:Int}(h:j+m≤n):j+(List.replicate m (Value.int .i64 v)).length≤(repH n j v).length:=by
 rw [QdQ (by omega),List.length_replicate]
 exact h
theorem Qef (m:Nat)(v:Int):∀ u∈List.replicate m (Value.int .i64 v),u.oneCell'=true:=fun u hu=>by rw [List.eq_of_mem_replicate hu];rfl
theorem Qee {w3:World}{b:Nat}{v:Int}(h:w3.cell? ⟨b,0,none⟩=some (.int .i64 v)):∀ j u,[Value.int .i64 v][j]? = some u→w3.cell? ((⟨b,0,none⟩:Addr).add j)=some u:=fun j u hu=>by
 have hj:=(YE hu).1
 have hj0:j=0:=by simpa using hj
 subst hj0
 rw [Go.WideShapes.add_plain]
 cases hu
 exact h
theorem Qe2 {n:Nat}(h:0<n)(v:Int):Value.int .i64 v :: (repH n 0 v).tail=repH n 1 v:=by
 obtain⟨m,rfl⟩:∃ m,n=m+1:=⟨n-1,by omega⟩
 simp [repH,List.replicate_succ]
theorem Qhx {n j i:Nat}{v:Int}(h:i<j):(repH n j v)[i]? = some (.int .i64 v):=by
 unfold repH
 rw [List.getElem?_append_left (by simpa using h),List.getElem?_replicate,if_pos h]
theorem Qe1 (v:Int)(n:Nat)(hn:n≤8388608)(b:Nat)(w:World)(hb:w.cell? ⟨b,0,none⟩=some (.int .i64 v)):
  Calls Tryz.prog 135 #[.slice (some ⟨b,0,none⟩) 1 1,.int .i64 (n:Int)] w fun e w'=>∃ g,e = .returned (.slice (some ⟨g,0,none⟩) n n)∧w.heap.size≤g∧Blk 3 w' g (List.replicate n (.int .i64 v))∧Below w.heap.size w w':=by
 obtain⟨i0,hi,hz0,hz1,hz2⟩:=info_parts infoI
 have hmul:=Tryz.bits_Mul 1 n (by decide) (by omega) w
 rw [Nat.one_mul,Nat.div_eq_of_lt (by omega),Nat.mod_eq_of_lt (by omega)] at hmul
 have hn0:¬ (n:Int)<0:=by omega
 go_enter Tryz.func135,Tryz.ntmps135
 go_wp2_with fail
 refine hmul.mono ?_
 clear hmul
 rintro e w2 ⟨rfl,rfl⟩
 have hnb:decide ((9223372036854775807:Int)<(n:Int))=false:=decide_eq_false (by omega)
 have hbl:=World.block_lt_of_cell? w2 _ hb
 by_cases hz:n=0
 ·subst hz
  go_wp2_with (at_make;refine wpList_make_full _ rfl _ _ 27 rfl w2.heap.size 3 i0 (.int .i64 0) 1 Tryz.underlying27 hi hz0 hz1 .i64 .i64 _ _ 0 rfl rfl rfl rfl (by rw [hz2];omega) (by unfold maxLen;omega) YA ?_;intro w3 hown hgrow;have hb3:Below w2.heap.size w2 w3:=YD.grown hgrow YA (fun k e=>by cases e);have HB3:Hid (Below w2.heap.size w2 w3):=hb3;have HRW:Hid _:=QkG v hown;have hcp:=run_copy_none (P:=Tryz.prog) w3 27 27 3 3 (some ⟨w2.heap.size,0,none⟩) (some ⟨b,0,none⟩) 0 0 1 1 Tryz.underlying27 QlM rfl;clear hown hgrow hb3)
  go_wp2
  clear hcp
  go_loopw [8] (fun jv wr=>jv = .int .i64 0∧Hid (wr.heap[w2.heap.size]? = some (.cells (repH 0 0 v).toArray 3 (0,0)))∧Below w2.heap.size w2 wr) (fun _ _=>0)
  case atStart=>exact⟨rfl,HRW,HB3.out⟩
  case round=>
   obtain⟨rfl,HRJ,hbj⟩:=hrel
   have HRF:Hid (Blk 3 wr w2.heap.size (List.replicate 0 (.int .i64 v))):=HRJ.out
   have HB:Hid (Below w2.heap.size w2 wr):=hbj
   clear HRJ hbj
   go_wp2
   go_ret
   exact⟨w2.heap.size,rfl,YA,HRF.out,HB.out⟩
 ·have hmn:Nat.min 1 n=1:=Nat.min_eq_left (by omega)
  have HMN:Hid _:=hmn
  clear hmn
  go_wp2_with (at_make;refine wpList_make_full _ rfl _ _ 27 rfl w2.heap.size 3 i0 (.int .i64 0) 1 Tryz.underlying27 hi hz0 hz1 .i64 .i64 _ _ n rfl rfl rfl rfl (by rw [hz2];omega) (by unfold maxLen;omega) YA ?_;intro w3 hown hgrow;have hb3:Below w2.heap.size w2 w3:=YD.grown hgrow YA (fun k e=>by cases e);have HB3:Hid (Below w2.heap.size w2 w3):=hb3;have HRW:Hid _:=QkG v hown;have hcp:=run_copy_row (P:=Tryz.prog) w3 27 27 3 3 w2.heap.size 0 n n ⟨b,0,none⟩ 1 1 (repH n 0 v).toArray 3 [.int .i64 v] Tryz.underlying27 QlM HRW.out HMN.out.symm (Qee ((hb3.cell (p:=⟨b,0,none⟩) hbl).trans hb)) (by rw [List.size_toArray,QdQ YN];simp;omega) (Qef 1 v);clear hown hgrow hb3)
  obtain⟨w4,hw4⟩:∃ W,w3.setRow w2.heap.size (Value.int .i64 v :: (repH n 0 v).tail).toArray=W:=⟨_,rfl⟩
  have HR4:Hid (w4.heap[w2.heap.size]? = some (.cells (repH n 1 v).toArray 3 (0,0))):=by
   rw [← hw4,← Qe2 (by omega) v]
   exact setRow_heap w3 w2.heap.size _ _ 3 (0,0) HRW.out
  have HB4:Hid (Below w2.heap.size w2 w4):=by
   rw [← hw4]
   exact below_setRow HB3.out YA _
  rw [hw4]
  clear hw4 hcp
  go_loopw [8] (fun jv wr=>∃ j:Nat,j≤n∧(0<n→0<j)∧jv = .int .i64 j∧Hid (wr.heap[w2.heap.size]? = some (.cells (repH n j v).toArray 3 (0,0)))∧Below w2.heap.size w2 wr) (fun jv _=>n-(intOf jv).toNat)
  case atStart=>exact⟨1,by omega,fun _=>by omega,rfl,HR4,HB4.out⟩
  case round=>
   obtain⟨j,hj,hjp,rfl,HRJ,hbj⟩:=hrel
   by_cases hlt:j<n
   ·have hjl:(j:Int)<((n:Nat):Int):=by omega
    have hj0:=hjp (by omega)
    have hm1:Nat.min j (n-j)≤n-j:=Nat.min_le_right _ _
    have hm2:Nat.min j (n-j)≤j:=Nat.min_le_left _ _
    have hm3:0<Nat.min j (n-j):=Nat.lt_min.2 ⟨hj0,by omega⟩
    have HMM:Hid _:=And.intro hm1 (And.intro hm2 hm3)
    have HSP:Hid _:=QbM (n:=n) (j:=j) (m:=Nat.min j (n-j)) (by omega) v
    have HLN:Hid ((List.replicate (Nat.min j (n-j)) (Value.int .i64 v)).length=Nat.min j (n-j)):=List.length_replicate ..
    have HB:Hid (Below w2.heap.size w2 wr):=hbj
    have HFT:Hid _:=Qhv (n:=n) (j:=j) (m:=Nat.min j (n-j)) (v:=v) (by omega)
    have HSR:Hid (∀ i,i<Nat.min j (n-j)→wr.drew.cell? ⟨w2.heap.size,0+i,none⟩=some (.int .i64 v)):=fun i hi=>by
     have h1:Blk 3 wr w2.heap.size (repH n j v):=HRJ.out
     rw [Nat.zero_add]
     exact h1.cell (Qhx (by omega))
    have HLT:Hid (j<n):=hlt
    clear hbj hjp hm1 hm2 hm3
    go_wp2_with fail
    refine wp_region_held_drew (S:=(fun _:World=>True)) (by kernel_rfl) trivial (fun hHeld=>?_)
    refine tH 0 ?_
    try simp only [YS]
    refine tH 1 ?_
    refine tH 2 ?_
    refine tH 3 ?_
    try simp only [YS,YT,YU]
    refine tH 4 ?_
    refine tH 5 ?_
    refine tH 6 ?_
    try simp only [YS,YT,YU]
    refine wpAnyH_ready (rs:=[7]) (by kernel_rfl) (by simp) ?_
    refine AllReadyH.cons rfl (fun K hK=>?_) AllReadyH.nil
    refine step_copy_splice rfl _ _ 27 27 rfl 3 Tryz.underlying27 QlM (some ⟨w2.heap.size,j,none⟩) (some ⟨w2.heap.size,0,none⟩) (n-j) (n-j) j n ?hd ?hs w2.heap.size j (repH n j v) 3 HRJ.out (List.replicate (Nat.min j (n-j)) (.int .i64 v)) HLN.out (QkF HSR.out) HFT.out (Qef _ v) w2.heap.size w2 (Qaa HB.out 1) YA ?_
    case hd=>
     show Value.slice (if n=j then some _ else some _) _ _=_
     rw [if_neg (by have:=HLT.out;omega)]
    case hs=>rfl
    intro w5 hr5 hb5
    rw [HLN.out]
    have HR5:Hid (w5.heap[w2.heap.size]? = some (.cells (repH n (j+Nat.min j (n-j)) v).toArray 3 (0,0))):=by
     have h1:=hr5.out
     rw [HSP.out] at h1
     exact h1
    have HB5:Hid (Below w2.heap.size w2 w5):=hb5
    refine hK.out _ _ trivial (fun _=>?_)
    clear hK K hr5 hb5 HSP HLN HFT HSR HRJ HB hHeld
    have hmm:=HMM.out
    clear HMM
    generalize Nat.min j (n-j)=m at *
    obtain⟨hm1,hm2,hm3⟩:=hmm
    have hwr:=QaU ((j:Int)+(m:Int)) (by omega) (by have:=HLT.out;omega)
    try simp only [Act.put,YS]
    refine tH 8 ?_
    refine tH 9 ?_
    refine wpAnyH_done (by kernel_rfl) ?_ _
    go_wp2
    have hlt2:=HLT.out
    exact⟨⟨j+m,by omega,fun _=>by omega,by go_num,HR5,HB5.out⟩,by simp [intOf];omega⟩
   ·have hjn:j=n:=by omega
    have hjl:¬ (j:Int)<((n:Nat):Int):=by omega
    have HRF:Hid (Blk 3 wr w2.heap.size (List.replicate n (.int .i64 v))):=by
     have h1:=HRJ.out
     rw [hjn,Qeh] at h1
     exact h1
    clear hjn
    have HB:Hid (Below w2.heap.size w2 wr):=hbj
    clear HRJ hbj hjp
    go_wp2
    go_ret
    exact⟨w2.heap.size,rfl,YA,HRF.out,HB.out⟩
end Go.Proofs.YtalflecmadacaaaGreat
