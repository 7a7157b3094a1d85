import Derived.Test.YtalflecmadacaaaGreatZBI
import Derived.Test.YtalflecmadacaaaGreatZAY
import Derived.Test.YtalflecmadacaaaGreatZAQ
import Derived.Laws.ResultCell
import Derived.Deep.RegionHeld3
set_option maxRecDepth 100000
set_option maxHeartbeats 8000000
namespace Go.Proofs.YtalflecmadacaaaGreat
open Go Go.Proofs Go.RowKit
section
variable {N:Nat} {l:List Ed} {r:List (List Int)}
theorem QmH (hR:RightG (N:Int) l)(hS:SysR N l r):Dec (nxD r) (fun x=>x∈Qal N l) (QaJ N l r):=by
 have hP:=QiH hS hR
 have hn:=QeI hS hR
 have hlen:(keysR r N).length≤2*l.length+1:=by
  rw [QeJ hS YA,Qcn (fun e he=>(hR.each e he).1)]
  omega
 obtain⟨⟨left,hG⟩,hr⟩:=Qg7 (starts:=Qal N l) hP hn hlen (fun d hd=>(QaL hS hR).2 hd) YA
 refine⟨hr,?_,fun x=>?_⟩
 ·unfold QaJ
  rw [QbN]
  exact (List.nodup_append.1 hG.nodup).2.1
 ·unfold QaJ
  rw [QbN]
  constructor
  ·intro hx
   exact (QaL hS hR).1 ((hG.all x).2 (.inr (.inr hx)))
  ·intro hx
   obtain⟨j,hj,e⟩:=List.getElem_of_mem hx
   have:=QcO (nx:=nxD r) (starts:=Qal N l) (fuel:=2*l.length+1) (by omega) (Qal N l).length j hj
   rw [YC,YB hj,e] at this
   exact this
end
section
variable {N:Nat} {r:List (List Int)}
end
section
variable {N:Nat} {l:List Ed} {r:List (List Int)}
end
def exR:List (List Int):=[[1,2],[2,0],[0,1]]
end Go.Proofs.YtalflecmadacaaaGreat
