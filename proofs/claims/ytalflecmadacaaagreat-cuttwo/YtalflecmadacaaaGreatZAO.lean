import Derived.Test.YtalflecmadacaaaGreatZAN
import Derived.Test.YtalflecmadacaaaGreatZAE
set_option maxRecDepth 100000
set_option maxHeartbeats 8000000
namespace Go.Proofs.YtalflecmadacaaaGreat
open Go Go.Proofs
section
variable {nx:Dt→Dt}
structure Dec (nx:Dt→Dt)(P:Dt→Prop)(C:List (List Dt)):Prop where
 rnd:∀ f∈C,Rnd nx f
 nodup:C.flatten.Nodup
 mem:∀ x,x∈C.flatten↔P x
end
section
variable {N:Nat} {l1 l2:List Ed} {e:Ed} {r:List (List Int)}
variable {a b:Nat}
end
def ShutK (l:List Ed)(K:List Nat):Prop:=∀ u∈K,∀ v:Nat,(v:Int)∈nb l (u:Int)→v∈K
def eK (l:List Ed)(K:List Nat):Nat:=l.countP fun e=>decide (e.1.toNat∈K)
def isoK (l:List Ed)(K:List Nat):Nat:=K.countP fun (v:Nat)=>(nb l (v:Int)).isEmpty
theorem Qoi {N:Nat}{l:List Ed}(hR:RightG (N:Int) l){u v:Nat}:Adj l u v↔(v:Int)∈nb l (u:Int):=by
 rw [mem_nb]
 constructor
 ·rintro⟨e,he,h⟩
  have hok:=(hR.each e he).1
  have h0:=hok.1
  have h1:=hok.2.2.1
  have h2:=hok.2.2.2.2.1
  refine⟨e,he,?_⟩
  rcases h with ⟨h3,h4⟩ | ⟨h3,h4⟩
  ·exact .inl ⟨by omega,by omega⟩
  ·exact .inr ⟨by omega,by omega,by omega⟩
 ·rintro⟨e,he,h⟩
  refine⟨e,he,?_⟩
  rcases h with ⟨h3,h4⟩ | ⟨_,h3,h4⟩
  ·exact .inl ⟨by omega,by omega⟩
  ·exact .inr ⟨by omega,by omega⟩
section
variable {N:Nat} {l1 l2:List Ed} {e:Ed} {a b:Nat}
end
end Go.Proofs.YtalflecmadacaaaGreat
