import Derived.Lib.OwnBridge
import Derived.Test.YtalflecmadacaaaGreatZBE
import Derived.Test.YtalflecmadacaaaGreatShelfS
import Derived.Test.YtalflecmadacaaaGreatZAM
import Derived.Test.YtalflecmadacaaaGreatZAA
set_option maxRecDepth 100000
set_option maxHeartbeats 8000000
namespace Go.Proofs.YtalflecmadacaaaGreat
open Go Go.Proofs Go.RowKit
section
variable (x:Nat) (w0:World) (Bk:Nat→Nat) (b off c q:Nat) (sp:Value)
theorem QfZ (hP:FP x w0 Bk b off c)(w:World)(hM:FM x w0 Bk (.slice (some ⟨b,off,none⟩) 1 q) (VS c sp A2 B2 C0 (-(c:Int)) (-(c:Int)) 1 0) w):Calls Tryz.prog 114 #[.pointer (some ⟨Bk 0,0,none⟩)] w fun e w'=>∃ g cap,e = .returned (.slice (some ⟨g,0,none⟩) 1 cap)∧w'.cell? ⟨g,0,none⟩=some (.int .i64 0)∧w.heap.size≤g∧1≤cap∧Below w.heap.size w w':=by
 have hmix:=mixed
 obtain⟨i0,hi,hz0,hz1,hz2⟩:=info_parts infoI
 have hxw:=FP.le x w0 Bk b off c hP hM
 have k0:=hM.cell 0 0 (by omega) rfl
 have HP:Hid (FP x w0 Bk b off c):=hP
 have HM:Hid (FM x w0 Bk (.slice (some ⟨b,off,none⟩) 1 q) (VS c sp A2 B2 C0 (-(c:Int)) (-(c:Int)) 1 0) w):=hM
 clear hM hP
 go_enter Tryz.func114,Tryz.ntmps114
 go_wp2
 go_loopw [3,10] (fun lv i wr=>((i = .int .i64 0∧lv = .slice none 0 0)∨((i = .int .i64 1∨i = .int .i64 2)∧wr.ownsRow w.heap.size 3 1 lv 1 [.int .i64 0]))∧Below w.heap.size w wr) (fun _ i _=>2-(intOf i).toNat)
 case atStart=>exact⟨.inl ⟨rfl,rfl⟩,YD⟩
 case round=>
  clear k0
  obtain⟨hor,hb⟩:=hrel
  have hM:=HM.out.go hxw hb
  have k5:=hM.cell 0 5 (by omega) rfl
  have m0:=hM.cell 3 0 (by omega) rfl
  have m1:=hM.cell 3 1 (by omega) rfl
  have k7:=hM.cell 0 7 (by omega) rfl
  have p0:=hM.cell 5 0 (by omega) rfl
  have p01:=hM.cell 6 1 (by omega) rfl
  rcases hor with ⟨rfl,rfl⟩ | ⟨rfl | rfl,hO⟩
  ·have HB:Hid (Below w.heap.size w wr):=hb
   have hbs:=hb.size
   clear hb hM
   go_wp2
   refine wp_region_held_drew (S:=(fun w':World=>w'.cell? ⟨Bk 0,5,none⟩=some (.slice (some ⟨Bk 3,0,none⟩) 2 2)∧w'.cell? ⟨Bk 3,0,none⟩=some (.int .i64 1)∧w'.cell? ⟨Bk 0,7,none⟩=some (.slice (some ⟨Bk 5,0,none⟩) 2 2)∧w'.cell? ⟨Bk 5,0,none⟩=some (.slice (some ⟨Bk 6,0,none⟩) 2 2)∧w'.cell? ⟨Bk 6,1,none⟩=some (.int .i64 0))) (by kernel_rfl) ⟨k5,m0,k7,p0,p01⟩ (fun hHeld=>?_)
   refine tH 0 ?_
   try simp only [YS]
   refine tH 1 ?_
   refine tH 2 ?_
   refine tH 3 ?_
   refine tH 4 ?_
   refine tH 5 ?_
   refine tH 6 ?_
   simp only [YS,YT,YU]
   refine tH 7 ?_
   refine tH 8 ?_
   refine tH 9 ?_
   refine tH 10 ?_
   refine tH 11 ?_
   simp only [YS,YT,YU]
   refine tH 12 ?_
   refine tH 13 ?_
   refine tH 14 ?_
   refine tH 15 ?_
   refine tH 16 ?_
   simp only [YS,YT,YU]
   obtain⟨wd,hwd⟩:∃ W,wr.drew=W:=⟨_,rfl⟩
   have HBd:Hid (Below w.heap.size w wd):=by rw [← hwd];exact Qab HB.out 1
   have Hds:Hid (wd.heap.size=wr.heap.size):=by show _=_;rw [← hwd];rfl
   rw [hwd] at hHeld ⊢
   clear hwd k5 m0 m1 k7 p0 p01
   have hbA:Below wd.heap.size wd (wd.alloc (.cells #[.int .i64 0] 3)):=YD.alloc YA _
   have hownA:(wd.alloc (.cells #[.int .i64 0] 3)).ownsRow w.heap.size 3 1 (.slice none 0 0) 0 []:=World.ownsRow_nil _ _ _ _
   have hnw:Src (wd.alloc (.cells #[.int .i64 0] 3)) (.slice (some ⟨wd.heap.size,0,none⟩) 1 1) 1 1 [.int .i64 0]:=.inr ⟨⟨wd.heap.size,0,none⟩,1,rfl,rfl,Qbg wd (.int .i64 0) 3,fun z hz=>by rw [YF hz];rfl⟩
   have hsA:w.heap.size≤(wd.alloc (.cells #[.int .i64 0] 3)).heap.size:=by have:=Hds.out;simp only [World.size_alloc];omega
   refine wpAnyH_ready (rs:=[17]) (by kernel_rfl) (by simp) ?_
   refine AllReadyH.cons rfl (fun K hK=>?_) AllReadyH.nil
   go_simp
   refine hK.out _ _ ⟨Qac hbA hHeld.1,Qac hbA hHeld.2.1,Qac hbA hHeld.2.2.1,Qac hbA hHeld.2.2.2.1,Qac hbA hHeld.2.2.2.2⟩ (fun hHeld2=>?_)
   clear hK K
   refine wpAnyH_ready (rs:=[18]) (by kernel_rfl) (by simp) ?_
   refine AllReadyH.cons rfl (fun K hK=>?_) AllReadyH.nil
   refine Qap rfl _ _ 27 rfl w.heap.size 3 i0 (.int .i64 0) 1 8 Tryz.underlying27 hi hz0 hz1 hz2 rfl (by decide) (.slice none 0 0) 0 [] rfl hownA (.slice (some ⟨wd.heap.size,0,none⟩) 1 1) 1 [.int .i64 0] rfl hnw (by unfold maxLen;omega) (by omega) hsA ?_
   intro v8 w12 ho8 hg8 hat8
   obtain⟨a1,c1,rfl⟩:=Qaq ho8
   have HO8:Hid (w12.ownsRow w.heap.size 3 1 (.slice a1 1 c1) 1 [.int .i64 0]):=ho8
   have HB8:Hid (Below w.heap.size w w12):=(HBd.out.alloc HBd.out.size _).grown hg8 hsA (fun k e=>by cases e)
   have hb8:Below (wd.alloc (.cells #[.int .i64 0] 3)).heap.size (wd.alloc (.cells #[.int .i64 0] 3)) w12:=YD.grown hg8 YA (fun k e=>by cases e)
   refine hK.out _ _ ⟨Qac hb8 hHeld2.1,Qac hb8 hHeld2.2.1,Qac hb8 hHeld2.2.2.1,Qac hb8 hHeld2.2.2.2.1,Qac hb8 hHeld2.2.2.2.2⟩ (fun hHeld3=>?_)
   clear hK K hownA hnw hHeld hHeld2 ho8 hg8 hat8 hb8 hbA hsA
   simp only [Act.put,YS]
   refine tH 19 ?_
   refine wpAnyH_done (by kernel_rfl) ?_ _
   go_wp2
   exact⟨⟨.inr ⟨.inl rfl,HO8.out⟩,HB8.out⟩,by simp [intOf]⟩
  ·have HO:Hid _:=hO
   have HB:Hid (Below w.heap.size w wr):=hb
   obtain⟨pp,cc,rfl⟩:=Qaq hO
   clear hb hM hO
   go_wp2
   exact⟨⟨.inr ⟨.inr rfl,HO.out⟩,HB.out⟩,by simp [intOf]⟩
  ·obtain⟨g,cap,hv,hbg,hgl,hn,hcm,hzl,hH⟩:=Lib.holds_of_ownsRow (enc:=Value.int .i64) (zs:=[0]) hO (by intro e;subst e;have:=hO.1;rcases hO.2 with ⟨_,h⟩ | ⟨_,_,_,h,_⟩ <;> simp at h)
   subst hv
   have HO:Hid (wr.ownsRow w.heap.size 3 1 (.slice (some ⟨g,0,none⟩) 1 cap) 1 [.int .i64 0]):=hO
   have HB:Hid (Below w.heap.size w wr):=hb
   have hso:=Tryz.slices_Sort_int g 0 cap [0] wr hH hgl (by decide)
   have hso2:Calls Tryz.prog 146 #[.slice (some ⟨g,0,none⟩) 1 cap] wr fun e w'=>e = .returned (.tuple #[])∧w'.cell? ⟨g,0,none⟩=some (.int .i64 0)∧Below w.heap.size w w':=by
    refine hso.mono ?_
    rintro e w' ⟨rfl,n,os,rfl⟩
    have h1:(Go.Sort.putRow (Value.int .i64) (Go.Sort.ahead wr n) g 0 ([0]:List Int).toArray).ownsRow w.heap.size 3 1 (.slice (some ⟨g,0,none⟩) 1 cap) 1 ((([0]:List Int).take 1).map (Value.int .i64)):=Lib.ownsRow_putRow (q:=n) (ys:=[0]) (zs:=[0]) (enc:=Value.int .i64) hO rfl YA
    have h2:Below w.heap.size w (Go.Sort.putRow (Value.int .i64) (Go.Sort.ahead wr n) g 0 ([0]:List Int).toArray):=Lib.below_putRow hb hbg
    have hms:(([0]:List Int).mergeSort fun x y=>decide (x≤y))=[0]:=by simp
    rw [hms]
    generalize Go.Sort.putRow (Value.int .i64) (Go.Sort.ahead wr n) g 0 ([0]:List Int).toArray=W3 at h1 h2 ⊢
    have hbg2:Below W3.heap.size W3 (Go.Sort.grow W3 os):=Grew.below ⟨0,os,rfl⟩
    exact⟨rfl,Qac hbg2 ((h1.cellAt 0 (by omega)).trans rfl),h2.trans (hbg2.mono h2.size)⟩
   clear hb hM hO hso hH
   go_wp2_with fail
   refine hso2.mono ?_
   rintro e w5 ⟨rfl,hc5,hb5⟩
   clear hso2
   go_wp2
   go_ret
   exact⟨g,cap,rfl,hc5,hbg,hn,hb5⟩
end
end Go.Proofs.YtalflecmadacaaaGreat
