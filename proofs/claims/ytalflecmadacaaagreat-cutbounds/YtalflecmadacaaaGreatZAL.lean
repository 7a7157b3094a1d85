import Derived.OwnWalk
import Derived.Laws.OwnMore
import Derived.Maps.AppendAt
import Derived.Test.YtalflecmadacaaaGreatZAA
import Derived.Test.YtalflecmadacaaaGreatZAB
import Derived.Test.YtalflecmadacaaaGreatZAK
import Derived.Test.YtalflecmadacaaaGreatZAH
set_option maxRecDepth 100000
set_option maxHeartbeats 8000000
namespace Go.Proofs.YtalflecmadacaaaGreat
open Go Go.Proofs Go.RowKit
theorem Qml:(Tryz.prog.info? 27).map (fun i=>(i.zero,i.size,i.bytes))=some (some (.slice none 0 0),1,24):=by kernel_rfl
theorem Qa1 {A B:World}{base:Nat}{e:TypeId}{size:Nat}{v:Value}{n:Nat}{xs:List Value}{r:Option Nat}(h:A.ownsRow base e size v n xs)(hg:A.grownBy B r)(hne:v.ownBlock=none∨v.ownBlock≠r):B.ownsRow base e size v n xs:=h.kept hg hne
theorem grown_below'T {A B:World}(h:Below A.heap.size A B)(r:Option Nat):A.grownBy B r:=⟨h.os,h.tape,h.output,h.size,fun k hk _=>h.block k hk⟩
structure GrpT (h0:Nat)(lv:Value)(svs:List Value)(pre:List (List Int))(W:World):Prop where
 len:svs.length=pre.length
 own:W.ownsRow h0 27 1 lv svs.length svs
 inn:∀ (k:Nat) (sv:Value) (xs:List Int),svs[k]? = some sv→pre[k]? = some xs→W.ownsRow h0 3 1 sv xs.length (xs.map (Value.int .i64))
 apart:∀ (k j:Nat) (sv sv':Value),svs[k]? = some sv→svs[j]? = some sv'→k≠j→sv.ownBlock=none∨sv.ownBlock≠sv'.ownBlock
 outer:∀ (k:Nat) (sv:Value),svs[k]? = some sv→sv.ownBlock=none∨sv.ownBlock≠lv.ownBlock
theorem GrpT.go {h0:Nat}{lv:Value}{svs:List Value}{pre:List (List Int)}{A B:World}(h:GrpT h0 lv svs pre A)(hb:Below A.heap.size A B):GrpT h0 lv svs pre B:=by
 have hk:∀ {e:TypeId} {size:Nat} {v:Value} {n:Nat} {xs:List Value},A.ownsRow h0 e size v n xs→B.ownsRow h0 e size v n xs:=fun {e size v n xs} ho=>by
  refine Qa1 ho (grown_below'T hb none) ?_
  cases v.ownBlock with
  | none=>exact .inl rfl
  | some k=>exact .inr (by simp)
 exact⟨h.len,hk h.own,fun k sv xs h1 h2=>hk (h.inn k sv xs h1 h2),h.apart,h.outer⟩
theorem GrpT.push {h0 g cap k:Nat}{svs:List Value}{pre:List (List Int)}{W B:World}{o:Obj}{sv sv':Value}{xs:List Int}{y:Int}(h:GrpT h0 (.slice (some ⟨g,0,none⟩) svs.length cap) svs pre W)(hk:svs[k]? = some sv)(hp:pre[k]? = some xs)
  (hB:B.ownsRow h0 3 1 sv' (xs.length+1) (xs.map (Value.int .i64)++[.int .i64 y])) (hg:(W.alloc o).grownBy B sv.ownBlock) (hat:sv'.ownBlock=sv.ownBlock∨sv'.ownBlock=some (W.alloc o).heap.size):GrpT h0 (.slice (some ⟨g,0,none⟩) svs.length cap) (svs.set k sv') (pre.set k (xs++[y])) (B.setCell ⟨g,k,none⟩ sv'):=by
 have hlen:=h.len
 have hkl:=(YE hk).1
 have hgl:g<W.heap.size:=(h.own.lt g rfl).2
 have hkW:∀ {e:TypeId} {size:Nat} {v:Value} {n:Nat} {zs:List Value},W.ownsRow h0 e size v n zs→(v.ownBlock=none∨v.ownBlock≠sv.ownBlock)→B.ownsRow h0 e size v n zs:=fun {e size v n zs} ho hne=>Qa1 (World.ownsRow.alloc ho o) hg hne
 have hout:=h.outer k sv hk
 have hlvne:(Value.slice (some ⟨g,0,none⟩) svs.length cap).ownBlock=none∨(Value.slice (some ⟨g,0,none⟩) svs.length cap).ownBlock≠sv.ownBlock:=by
  refine .inr fun e=>?_
  rcases hout with h1 | h1
  ·rw [h1] at e;cases e
  ·exact h1 e.symm
 have hlvB:=hkW h.own hlvne
 obtain⟨hst,hsg⟩:=hlvB.stored k sv'
 have hsvg:sv'.ownBlock=none∨sv'.ownBlock≠some g:=by
  rcases hat with e | e
  ·rw [e];exact hout
  ·rw [e]
   refine .inr fun e2=>?_
   simp at e2
   omega
 have split:∀ {j:Nat} {x:Value},(svs.set k sv')[j]? = some x→(j≠k∧svs[j]? = some x)∨(j=k∧x=sv'):=fun {j x} hx=>by
  rw [List.getElem?_set] at hx
  by_cases hj:k=j
  ·subst hj
   rw [if_pos rfl,if_pos hkl] at hx
   exact .inr ⟨rfl,(Option.some.inj hx).symm⟩
  ·rw [if_neg hj] at hx
   exact .inl ⟨Ne.symm hj,hx⟩
 have far:∀ {j:Nat} {x:Value},svs[j]? = some x→x.ownBlock=none∨∀ m,W.heap.size≤m→x.ownBlock≠some m:=fun {j x} hx=>by
  have hj:=(YE hx).1
  obtain⟨zs,hzs⟩:∃ zs,pre[j]? = some zs:=⟨_,YB (by omega)⟩
  cases hv:x.ownBlock with
  | none=>exact .inl rfl
  | some b=>
   refine .inr fun m hm e=>?_
   have:=((h.inn j x zs hx hzs).lt b hv).2
   simp only [Option.some.injEq] at e
   omega
 refine⟨by simp [hlen],by rw [List.length_set];exact hst,?_,?_,?_⟩
 ·intro j x zs hx hz
  rcases split hx with ⟨hj,hx⟩ | ⟨rfl,rfl⟩
  ·rw [List.getElem?_set_ne (Ne.symm hj)] at hz
   refine Qa1 (hkW (h.inn j x zs hx hz) (h.apart j k x sv hx hk hj)) hsg ?_
   exact h.outer j x hx
  ·rw [List.getElem?_set_self (by omega)] at hz
   cases hz
   rw [YI,List.map_append]
   exact Qa1 hB hsg hsvg
 ·intro i j x x' hx hx' hij
  rcases split hx with ⟨hi,hy⟩ | ⟨rfl,rfl⟩
  ·rcases split hx' with ⟨hj,hy'⟩ | ⟨rfl,rfl⟩
   ·exact h.apart i j x x' hy hy' hij
   ·rcases hat with e | e
    ·rw [e];exact h.apart i j x sv hy hk hi
    ·rw [e]
     rcases far hy with h1 | h1
     ·exact .inl h1
     ·exact .inr (h1 _ (by simp))
  ·rcases split hx' with ⟨hj,hy'⟩ | ⟨rfl,rfl⟩
   ·rcases hat with e | e
    ·rw [e];exact h.apart i j sv x' hk hy' hij
    ·rw [e]
     refine .inr fun e2=>?_
     rcases far hy' with h1 | h1
     ·rw [h1] at e2;cases e2
     ·exact h1 _ (by simp) e2.symm
   ·exact absurd rfl hij
 ·intro j x hx
  rcases split hx with ⟨hj,hx⟩ | ⟨rfl,rfl⟩
  ·exact h.outer j x hx
  ·exact hsvg
theorem Qa0 {W:World}{base:Nat}{e:TypeId}{size:Nat}{v:Value}{n:Nat}{xs:List Value}(h:W.ownsRow base e size v n xs):∃ a m c,v = .slice a m c:=by
 rcases h.2 with ⟨hv,_⟩ | ⟨g,cap,cur,hv,_⟩ <;> exact⟨_,_,_,hv⟩
theorem Qaq {W:World}{base:Nat}{e:TypeId}{size:Nat}{v:Value}{n:Nat}{xs:List Value}(h:W.ownsRow base e size v n xs):∃ p c,v = .slice p n c:=by
 rcases h.2 with ⟨rfl,rfl⟩ | ⟨g,cap,cur,rfl,_⟩ <;> exact⟨_,_,rfl⟩
theorem Qbg (W:World)(v:Value)(t:TypeId):∀ (q:Nat) (u:Value),[v][q]? = some u→(W.alloc (.cells #[v] t)).cell? ((⟨W.heap.size,0,none⟩:Addr).add q)=some u:=by
 intro q u hu
 cases q with
 | zero=>simp at hu;subst hu;simp [Addr.add]
 | succ q=>simp at hu
theorem QcT {w:World}{base size n:Nat}{e:TypeId}{v:Value}{xs:List Value}(h:w.ownsRow base e size v n xs)(hn:0<n):∃ g cap,v = .slice (some ⟨g,0,none⟩) n cap:=by
 rcases h.2 with ⟨_,h0⟩ | ⟨g,cap,cur,hv,_⟩
 ·omega
 ·exact⟨g,cap,hv⟩
theorem Qbc (n:Nat):(madeCells (Value.slice none 0 0).cells (n*1)).toList=List.replicate n (.slice none 0 0):=by
 apply List.ext_getElem
 ·simp [madeCells]
 ·intro i h1 h2
  simp [madeCells,Value.cells,Nat.mod_one]
theorem Qa2 {W:World}{a b:Nat}{e:TypeId}{size:Nat}{v:Value}{n:Nat}{xs:List Value}(h:W.ownsRow b e size v n xs)(hab:a≤b):W.ownsRow a e size v n xs:=by
 obtain⟨h1,h2⟩:=h
 refine⟨h1,?_⟩
 rcases h2 with h2 | ⟨g,cap,cur,hv,hb,r⟩
 ·exact .inl h2
 ·exact .inr ⟨g,cap,cur,hv,Nat.le_trans hab hb,r⟩
theorem Qar {w w':World}{base:Nat}{e:TypeId}{size:Nat}{v:Value}{n:Nat}{xs:List Value}(h:w.ownsRow base e size v n xs)(hb:Below w.heap.size w w'):w'.ownsRow base e size v n xs:=by
 refine h.kept (row:=none) (⟨hb.os,hb.tape,hb.output,hb.size,fun k hk _=>hb.block k hk⟩:w.grownBy w' none) ?_
 cases v.ownBlock with
 | none=>exact .inl rfl
 | some k=>exact .inr (by simp)
theorem GrpT.made {h0 g N:Nat}{W:World}(h:W.ownsRow h0 27 1 (.slice (some ⟨g,0,none⟩) N N) N (madeCells (Value.slice none 0 0).cells (N*1)).toList):GrpT h0 (.slice (some ⟨g,0,none⟩) N N) (List.replicate N (.slice none 0 0)) (List.replicate N []) W:=by
 rw [Qbc] at h
 have hnil:∀ {k:Nat} {sv:Value},(List.replicate N (Value.slice none 0 0))[k]? = some sv→sv = .slice none 0 0:=fun {k sv} hk=>by
  have:=YK hk
  exact (List.mem_replicate.1 this).2
 refine⟨by simp,by rw [List.length_replicate];exact h,fun k sv xs h1 h2=>?_,fun k j sv sv' h1 h2 _=>.inl (by rw [hnil h1];rfl),fun k sv h1=>.inl (by rw [hnil h1];rfl)⟩
 have e1:=hnil h1
 have e2:xs=[]:=(List.mem_replicate.1 (YK h2)).2
 subst e1;subst e2
 exact World.ownsRow_nil _ _ _ _
theorem GrpT.put {h0 g cap k:Nat}{svs:List Value}{pre:List (List Int)}{W B:World}{sv':Value}{xs:List Int}(h:GrpT h0 (.slice (some ⟨g,0,none⟩) svs.length cap) svs pre W)(hk:k<svs.length)(hh:h0≤W.heap.size)(hb:Below W.heap.size W B)
  (hB:B.ownsRow W.heap.size 3 1 sv' xs.length (xs.map (Value.int .i64))):GrpT h0 (.slice (some ⟨g,0,none⟩) svs.length cap) (svs.set k sv') (pre.set k xs) (B.setCell ⟨g,k,none⟩ sv'):=by
 have hlen:=h.len
 have hgl:g<W.heap.size:=(h.own.lt g rfl).2
 have hlvB:=Qar h.own hb
 obtain⟨hst,hsg⟩:=hlvB.stored k sv'
 have hsvg:sv'.ownBlock=none∨sv'.ownBlock≠some g:=by
  cases hv:sv'.ownBlock with
  | none=>exact .inl rfl
  | some b=>
   refine .inr fun e=>?_
   have:=(hB.lt b hv).1
   simp at e
   omega
 have split:∀ {j:Nat} {x:Value},(svs.set k sv')[j]? = some x→(j≠k∧svs[j]? = some x)∨(j=k∧x=sv'):=fun {j x} hx=>by
  rw [List.getElem?_set] at hx
  by_cases hj:k=j
  ·subst hj
   rw [if_pos rfl,if_pos hk] at hx
   exact .inr ⟨rfl,(Option.some.inj hx).symm⟩
  ·rw [if_neg hj] at hx
   exact .inl ⟨Ne.symm hj,hx⟩
 have far:∀ {j:Nat} {x:Value},svs[j]? = some x→∀ b,x.ownBlock=some b→b<W.heap.size:=fun {j x} hx b hv=>by
  have hj:=(YE hx).1
  exact ((h.inn j x _ hx (YB (by omega))).lt b hv).2
 refine⟨by simp [hlen],by rw [List.length_set];exact hst,?_,?_,?_⟩
 ·intro j x zs hx hz
  rcases split hx with ⟨hj,hx⟩ | ⟨rfl,rfl⟩
  ·rw [List.getElem?_set_ne (Ne.symm hj)] at hz
   exact Qa1 (Qar (h.inn j x zs hx hz) hb) hsg (h.outer j x hx)
  ·rw [List.getElem?_set_self (by omega)] at hz
   cases hz
   exact Qa1 (Qa2 hB hh) hsg hsvg
 ·intro i j x x' hx hx' hij
  rcases split hx with ⟨hi,hy⟩ | ⟨rfl,rfl⟩
  ·rcases split hx' with ⟨hj,hy'⟩ | ⟨rfl,rfl⟩
   ·exact h.apart i j x x' hy hy' hij
   ·cases hv:x.ownBlock with
    | none=>exact .inl rfl
    | some b=>
     refine .inr fun e=>?_
     have h1:=far hy b hv
     have h2:=(hB.lt b e.symm).1
     omega
  ·rcases split hx' with ⟨hj,hy'⟩ | ⟨rfl,rfl⟩
   ·cases hv:x.ownBlock with
    | none=>exact .inl rfl
    | some b=>
     refine .inr fun e=>?_
     have h1:=far hy' b e.symm
     have h2:=(hB.lt b hv).1
     omega
   ·exact absurd rfl hij
 ·intro j x hx
  rcases split hx with ⟨hj,hy⟩ | ⟨rfl,rfl⟩
  ·exact h.outer j x hy
  ·exact hsvg
theorem GrpT.pushed {h0 g N k c:Nat}{p:Option Addr}{svs:List Value}{pre:List (List Int)}{W B:World}{o:Obj}{sv':Value}{xs:List Int}{y:Int}(h:GrpT h0 (.slice (some ⟨g,0,none⟩) N N) svs pre W)(hN:svs.length=N)(hk:svs[k]? = some (.slice p xs.length c))(hp:pre[k]? = some xs)
  (hB:B.ownsRow h0 3 1 sv' (xs.length+1) (xs.map (Value.int .i64)++[.int .i64 y])) (hg:(W.alloc o).grownBy B (Value.slice p xs.length c).ownBlock) (hat:sv'.ownBlock=(Value.slice p xs.length c).ownBlock∨sv'.ownBlock=some (W.alloc o).heap.size) :
  B.cell? ⟨g,k,none⟩=some (.slice p xs.length c)∧B.frozen? ⟨g,k,none⟩=false∧GrpT h0 (.slice (some ⟨g,0,none⟩) N N) (svs.set k sv') (pre.set k (xs++[y])) (B.setCell ⟨g,k,none⟩ sv'):=by
 subst hN
 have hne:(Value.slice (some ⟨g,0,none⟩) svs.length svs.length).ownBlock=none∨(Value.slice (some ⟨g,0,none⟩) svs.length svs.length).ownBlock≠(Value.slice p xs.length c).ownBlock:=by
  refine .inr fun e=>?_
  rcases h.outer k _ hk with h1 | h1
  ·rw [h1] at e;cases e
  ·exact h1 e.symm
 have h2:=Qa1 (World.ownsRow.alloc h.own o) hg hne
 refine⟨?_,h2.frozenAt k,h.push hk hp hB hg hat⟩
 have h3:=h2.cells (g:=g) rfl k _ hk
 rwa [Go.WideShapes.add_plain,Nat.zero_add] at h3
def edE (e : Eg) : Ed := ((e.1 : Int), (e.2.1 : Int), (e.2.2 : Int))
theorem QgM {n : Int} {l : List Ed} (h : rgtW n l = 0) : ∃ (N : Nat) (L : List Eg), n = N ∧ N ≤ 1048576 ∧ l = L.map edE ∧ L.length ≤ 4194304 ∧ (∀ e ∈ L, e.1 < N ∧ e.2.1 < N) ∧ ∀ e ∈ L, e.2.2 ≤ 2147483647 := by
  unfold rgtW at h
  split at h
  · omega
  · split at h
    · omega
    · rename_i h0 h1
      have hall : ∀ (l : List Ed), lstW n l = 0 → ∃ L : List Eg, l = L.map edE ∧ (∀ e ∈ L, (e.1 : Int) < n ∧ (e.2.1 : Int) < n) ∧ ∀ e ∈ L, e.2.2 ≤ 2147483647 := by
        intro l
        induction l with
        | nil => intro _; exact ⟨[], rfl, by simp, by simp⟩
        | cons e l ih =>
          intro hl
          by_cases hf : fitW n e = 0
          · have hl' : lstW n l = 0 := by
              unfold lstW at hl
              rwa [if_pos hf] at hl
            obtain ⟨L, h1, h2, h3⟩ := ih hl'
            unfold fitW at hf
            split at hf
            · omega
            · rename_i hv
              split at hf
              · omega
              · split at hf
                · omega
                · have a : vtxB n e.1 = true := by
                    cases hx : vtxB n e.1
                    · exact absurd (.inl hx) hv
                    · rfl
                  have b : vtxB n e.2.1 = true := by
                    cases hx : vtxB n e.2.1
                    · exact absurd (.inr hx) hv
                    · rfl
                  rw [vtx_iff] at a b
                  refine ⟨(e.1.toNat, e.2.1.toNat, e.2.2.toNat) :: L, ?_, fun x hx => ?_, fun x hx => ?_⟩
                  · rw [List.map_cons, ← h1]
                    congr 1
                    unfold edE
                    simp only
                    rw [Int.toNat_of_nonneg a.1, Int.toNat_of_nonneg b.1, Int.toNat_of_nonneg (by omega)]
                  · rcases List.mem_cons.1 hx with rfl | hx
                    · simp only; omega
                    · exact h2 x hx
                  · rcases List.mem_cons.1 hx with rfl | hx
                    · simp only; omega
                    · exact h3 x hx
          · unfold lstW at hl
            rw [if_neg hf] at hl
            exact absurd hl hf
      obtain ⟨L, h2, h3, h4⟩ := hall l h
      refine ⟨n.toNat, L, by omega, by omega, h2, by have : l.length = L.length := by rw [h2]; simp
                                                     omega, fun e he => by have := h3 e he; omega, h4⟩
theorem QgR (e : Eg) (v : Nat) (w : World) : Calls Tryz.prog 150 #[.agg #[.int .i64 (e.1 : Int), .int .i64 (e.2.1 : Int), .int .i64 (e.2.2 : Int)], .int .i64 (v : Int)] w fun r w' => r = .returned (.int .i64 (oth e v : Int)) ∧ Grew w w' := by
  obtain ⟨x, y, z⟩ := e
  simp only
  by_cases h : x = v
  · have hE : oth (x, y, z) v = y := if_pos h
    rw [hE]
    subst h
    go_enter Tryz.func150, Tryz.ntmps150
    go_wp2
    go_ret
    exact ⟨rfl, (Grew.refl w).alloc _⟩
  · have hE : oth (x, y, z) v = x := if_neg h
    rw [hE]
    have h' : ¬ (x : Int) = (v : Int) := by omega
    go_enter Tryz.func150, Tryz.ntmps150
    go_wp2
    go_ret
    exact ⟨rfl, (Grew.refl w).alloc _⟩
def isAt (L:List Eg)(v i:Nat):Bool:=match L[i]? with
 | some e=>decide ((e.1=v∨e.2.1=v)∧e.1≠e.2.1)
 | none=>false
def plW (L:List Eg)(k v:Nat):List Nat:=(List.range k).filter (isAt L v)
theorem QiV {L:List Eg}{k:Nat}(h:k<L.length)(v:Nat):plW L (k+1) v=if (L[k].1=v∨L[k].2.1=v)∧L[k].1≠L[k].2.1 then plW L k v++[k] else plW L k v:=by
 unfold plW
 rw [List.range_succ,List.filter_append]
 have e:isAt L v k=decide ((L[k].1=v∨L[k].2.1=v)∧L[k].1≠L[k].2.1):=by unfold isAt;rw [YB h]
 by_cases c:(L[k].1=v∨L[k].2.1=v)∧L[k].1≠L[k].2.1
 ·rw [if_pos c,List.filter_cons,e,decide_eq_true c];rfl
 ·rw [if_neg c,List.filter_cons,e,decide_eq_false c];simp
theorem QhU (L:List Eg)(k v:Nat):(plW L k v).length≤k:=by
 unfold plW
 exact Nat.le_trans (List.length_filter_le _ _) (by simp)
theorem mem_plW {L:List Eg}{k v i:Nat}:i∈plW L k v↔i<k∧isAt L v i=true:=by simp [plW]
def atW (N:Nat)(L:List Eg)(k:Nat):List (List Int):=(List.range N).map fun v=>(plW L k v).map fun (i:Nat)=>(i:Int)
theorem Qdy (N:Nat)(L:List Eg)(k:Nat):(atW N L k).length=N:=by simp [atW]
theorem Qhs {N:Nat}{L:List Eg}{k v:Nat}(h:v<N):(atW N L k)[v]? = some ((plW L k v).map fun (i:Nat)=>(i:Int)):=by simp [atW,h]
theorem Qgm (N:Nat)(L:List Eg):atW N L 0=List.replicate N []:=by
 unfold atW
 rw [List.eq_replicate_iff]
 simp [plW]
theorem Qov {N:Nat}{L:List Eg}{k:Nat}(h:k<L.length)(hl:L[k].1=L[k].2.1):atW N L (k+1)=atW N L k:=by
 unfold atW
 apply List.map_congr_left
 intro v _
 rw [QiV h,if_neg (fun c=>c.2 hl)]
theorem Qou {N:Nat}{L:List Eg}{k:Nat}(h:k<L.length)(hl:L[k].1≠L[k].2.1)(hu:L[k].1<N)(hv:L[k].2.1<N):
  ((atW N L k).set L[k].1 (((plW L k L[k].1).map fun (i:Nat)=>(i:Int))++[(k:Int)])).set L[k].2.1 (((plW L k L[k].2.1).map fun (i:Nat)=>(i:Int))++[(k:Int)])=atW N L (k+1):=by
 apply List.ext_getElem?
 intro i
 by_cases hi:i<N
 ·rw [Qhs hi,List.getElem?_set,List.getElem?_set,Qhs hi]
  simp only [List.length_set,Qdy]
  rw [QiV h]
  by_cases h1:L[k].2.1=i
  ·subst h1
   rw [if_pos rfl,if_pos hv,if_pos ⟨.inr rfl,hl⟩]
   simp
  ·rw [if_neg h1]
   by_cases h2:L[k].1=i
   ·subst h2
    rw [if_pos rfl,if_pos hu,if_pos ⟨.inl rfl,hl⟩]
    simp
   ·rw [if_neg h2,if_neg (fun c=>by rcases c.1 with c | c;exact h2 c;exact h1 c)]
 ·rw [YL (by simp [Qdy];omega),YL (by rw [Qdy];omega)]
theorem Edges.eg {w:World}{p:Option Addr}{c:Nat}{L:List Eg}(h:Edges w.heap.size w (.slice p L.length c) (L.map edE)){j:Nat}(hj:j<L.length):
  ∃ b off,p=some ⟨b,off,none⟩∧b<w.heap.size∧L.length≤c ∧
   ∀ W',Below w.heap.size w W'→∀ i (hi:i<L.length),W'.cell? ⟨b,off+i*3,none⟩=some (.int .i64 (L[i].1:Int))∧W'.cell? ⟨b,off+i*3+1,none⟩=some (.int .i64 (L[i].2.1:Int))∧W'.cell? ⟨b,off+i*3+2,none⟩=some (.int .i64 (L[i].2.2:Int)):=by
 have hlen:(L.map edE).length=L.length:=by simp
 have h':Edges w.heap.size w (.slice p (L.map edE).length c) (L.map edE):=by rw [hlen];exact h
 obtain⟨b,off,h1,h2,h3,h4,-⟩:=h'.open (j:=j) (by rw [hlen];exact hj)
 refine⟨b,off,h1,h2,by rw [← hlen];exact h3,fun W' hW i hi=>?_⟩
 have h5:=h4 W' hW i (by rw [hlen];exact hi)
 simpa [edE] using h5
theorem Edges.lenG {n:Nat}{W:World}{sv:Value}{L:List Eg}(h:Edges n W sv (L.map edE)):∃ p c,sv = .slice p L.length c:=by
 obtain⟨p,c,h1⟩:=h.len
 exact⟨p,c,by simpa using h1⟩
theorem Qmo:(Tryz.prog.info? 3).map (fun i=>(i.zero,i.size,i.bytes))=some (some (.int .i64 0),1,8):=by kernel_rfl
theorem Qfu (n:Nat):(madeCells (Value.int .i64 0).cells (n*1)).toList=(List.replicate n (0:Int)).map (Value.int .i64):=by
 apply List.ext_getElem
 ·simp [madeCells]
 ·intro i h1 h2
  simp [madeCells,Value.cells,Nat.mod_one]
theorem Qcx {e:TypeId}{z:Value}{k b:Nat}(h:(Tryz.prog.info? e).map (fun i=>(i.zero,i.size,i.bytes))=some (some z,k,b)):∃ i,Tryz.prog.info? e=some i∧i.zero=some z∧i.size=k∧i.bytes=b:=by
 cases hi:Tryz.prog.info? e with
 | none=>rw [hi] at h;cases h
 | some i=>
  rw [hi] at h
  simp only [Option.map_some,Option.some.injEq,Prod.mk.injEq] at h
  exact⟨i,rfl,h.1,h.2.1,h.2.2⟩
theorem Qac {A B:World}(hb:Below A.heap.size A B){a:Addr}{v:Value}(h:A.cell? a=some v):B.cell? a=some v:=(hb.cell (World.block_lt_of_cell? A a h)).trans h
def Few (N:Nat)(dl:List Int)(m:Nat):Prop:=dl.length=N∧∀ x∈dl,0≤x∧x≤(m:Int)
theorem Few.at {N m:Nat}{dl:List Int}(h:Few N dl m){v:Nat}(hv:v<N):∃ x,dl[v]? = some x∧0≤x∧x≤(m:Int):=by
 have:v<dl.length:=by rw [h.1];exact hv
 exact⟨dl[v],YB this,h.2 _ (YG this)⟩
theorem Few.set {N m:Nat}{dl:List Int}(h:Few N dl m)(v:Nat){y:Int}(h0:0≤y)(h1:y≤((m+1:Nat):Int)):Few N (dl.set v y) (m+1):=by
 refine⟨by simp [h.1],fun x hx=>?_⟩
 rcases List.mem_or_eq_of_mem_set hx with hx | rfl
 ·have:=h.2 x hx;omega
 ·exact⟨h0,h1⟩
theorem Qil (N:Nat)(L:List Eg)(hn1:N≤1048576)(hm1:L.length≤4194304)(hE:∀ e∈L,e.1<N∧e.2.1<N)(sv:Value)(w:World)(hl:Edges w.heap.size w sv (L.map edE)):
  Calls Tryz.prog 155 #[.agg #[.int .i64 (N:Int),sv]] w fun r w'=>∃ (h0:Nat) (svs:List Value),r = .returned (.slice (some ⟨h0,0,none⟩) N N)∧w.heap.size≤h0∧GrpT h0 (.slice (some ⟨h0,0,none⟩) N N) svs (atW N L L.length) w'∧Below w.heap.size w w':=by
 have hg1:Grew w (w.alloc (.cells #[.int .i64 (N:Int),sv] 24)):=(Grew.refl w).alloc _
 obtain⟨p,c,rfl⟩:=hl.lenG
 obtain⟨i0,hi,hz0,hz1,hz2⟩:=Qcx Qmo
 obtain⟨j0,ki,kz0,kz1,kz2⟩:=Qcx Qml
 have hbox2:=box2 (w:=w) (x:=.int .i64 (N:Int)) (y:=.slice p L.length c) (t:=24)
 have hx0:=(hbox2 _ (Grew.refl _)).1
 have hx1:=(hbox2 _ (Grew.refl _)).2
 have hs1:(w.alloc (.cells #[.int .i64 (N:Int),.slice p L.length c] 24)).heap.size=w.heap.size+1:=by simp
 have hb1:Below w.heap.size w (w.alloc (.cells #[.int .i64 (N:Int),.slice p L.length c] 24)):=hg1.below
 have hX1:Blk 24 (w.alloc (.cells #[.int .i64 (N:Int),.slice p L.length c] 24)) w.heap.size [.int .i64 (N:Int),.slice p L.length c]:=heap_alloc_new w _
 generalize hw1:w.alloc (.cells #[.int .i64 (N:Int),.slice p L.length c] 24)=w1 at hx0 hx1 hs1 hb1 hX1
 go_enter Tryz.func155,Tryz.ntmps155
 go_wp2_with (at_make;refine wpList_make_full _ rfl _ _ 27 rfl (w.heap.size+1) 3 i0 (.int .i64 0) 1 Tryz.underlying27 hi hz0 hz1 .i64 .i64 _ _ N rfl rfl rfl rfl (by rw [hz2];omega) (by unfold maxLen;omega) (by omega) ?_;rw [hs1];intro w3 hown hgrow;have hb3:Below (w.heap.size+1) w1 w3:=YD.grown hgrow (by omega) (fun k e=>by cases e);have x0:=(hX1.below hb3 (by omega)).cell (j:=0) rfl;have x1:=(hX1.below hb3 (by omega)).cell (j:=1) rfl)
 have hrow:=Blk.made hown
 rw [Qfu] at hrow
 have hfew0:Few N (List.replicate N 0) 0:=⟨by simp,fun x hx=>by rw [(List.mem_replicate.1 hx).2];simp⟩
 have hsz3:w.heap.size+1<w3.heap.size:=hrow.lt
 have hX3:=hX1.below hb3 (by omega)
 have hbw3:Below w.heap.size w w3:=hb1.trans (hb3.mono (by omega))
 clear hown hgrow hb3 hx0 hx1 hbox2 hg1 hw1
 generalize List.replicate N (0:Int)=dl0 at hrow hfew0
 obtain⟨g,hgg⟩:∃ g,w.heap.size+1=g:=⟨_,rfl⟩
 rw [hgg] at hrow hsz3 ⊢
 have HGG:Hid _:=hgg
 clear hgg
 go_loopw [17] (fun i wr=>∃ (j:Nat) (dl:List Int),j≤L.length∧i = .int .i64 j∧Few N dl (2*j)∧Blk 3 wr g (dl.map (Value.int .i64))∧Blk 24 wr w.heap.size [.int .i64 (N:Int),.slice p L.length c]∧Below w.heap.size w wr) (fun i _=>L.length-(intOf i).toNat)
 case atStart=>exact⟨0,dl0,YN,rfl,hfew0,hrow,hX3,hbw3⟩
 case round=>
  obtain⟨j,dl,hj,rfl,hF,hB,hX,hb⟩:=hrel
  have hgl:=hB.lt
  have x0:=hX.cell (j:=0) rfl
  have x1:=hX.cell (j:=1) rfl
  by_cases hlt:j<L.length
  ·obtain⟨b,off,rfl,hbb,hcap,hc⟩:=hl.eg hlt
   obtain⟨c0,c1,c2⟩:=hc wr hb j hlt
   have hjl:(j:Int)<(L.length:Int):=by omega
   obtain⟨huN,hvN⟩:=hE L[j] (YG hlt)
   generalize L[j].1=u at c0 huN
   generalize L[j].2.1=v at c1 hvN
   generalize (L[j].2.2:Int)=z at c2
   have huN':(u:Int)<(N:Int):=by omega
   have hvN':(v:Int)<(N:Int):=by omega
   obtain⟨du,hdu,du0,du1⟩:=hF.at huN
   obtain⟨dv,hdv,dv0,dv1⟩:=hF.at hvN
   have t0:wr.cell? ⟨g,u,none⟩=some (.int .i64 du):=hB.cell (by rw [YH,hdu];rfl)
   have t1:wr.cell? ⟨g,v,none⟩=some (.int .i64 dv):=hB.cell (by rw [YH,hdv];rfl)
   have f0:=hB.frozen u
   have f1:=hB.frozen v
   have hbg:b≠g:=by have:=HGG.out;omega
   have hd2:du≤8388608:=by omega
   have hd3:dv≤8388608:=by omega
   by_cases huv:u=v
   ·subst huv
    have hdd:du=dv:=by rw [hdu] at hdv;exact Option.some.inj hdv
    subst hdd
    have hBn:=(hB.set u (.int .i64 (du+1))).set u (.int .i64 (du+1+1))
    rw [← List.map_set,← List.map_set] at hBn
    have hFn:=(hF.set u (y:=du+1) (by omega) (by omega)).set u (y:=du+1+1) (by omega) (by omega)
    have hXn:=(hX.other (p:=⟨g,u,none⟩) (by have:=HGG.out;simp only;omega) (.int .i64 (du+1))).other (p:=⟨g,u,none⟩) (by have:=HGG.out;simp only;omega) (.int .i64 (du+1+1))
    have hbn:=(hb.setCell (p:=⟨g,u,none⟩) (by have:=HGG.out;simp only;omega) (.int .i64 (du+1))).setCell (p:=⟨g,u,none⟩) (by have:=HGG.out;simp only;omega) (.int .i64 (du+1+1))
    clear hc hdu hdv
    have hal:∀ W:World,Below W.heap.size W (W.alloc (.cells #[.int .i64 (u:Int),.int .i64 (u:Int),.int .i64 z] 50)):=fun W=>YD.alloc YA _
    go_wp2
    exact⟨⟨j+1,_,by omega,by go_num,hFn,hBn.go (hal _),hXn.go (hal _),hbn.trans ((hal _).mono hbn.size)⟩,by simp [intOf];omega⟩
   ·have hvu:¬ v=u:=fun e=>huv e.symm
    have hBn:=(hB.set u (.int .i64 (du+1))).set v (.int .i64 (dv+1))
    rw [← List.map_set,← List.map_set] at hBn
    have hFn:=(hF.set u (y:=du+1) (by omega) (by omega)).set v (y:=dv+1) (by omega) (by omega)
    have hXn:=(hX.other (p:=⟨g,u,none⟩) (by have:=HGG.out;simp only;omega) (.int .i64 (du+1))).other (p:=⟨g,v,none⟩) (by have:=HGG.out;simp only;omega) (.int .i64 (dv+1))
    have hbn:=(hb.setCell (p:=⟨g,u,none⟩) (by have:=HGG.out;simp only;omega) (.int .i64 (du+1))).setCell (p:=⟨g,v,none⟩) (by have:=HGG.out;simp only;omega) (.int .i64 (dv+1))
    clear hc hdu hdv
    have hal:∀ W:World,Below W.heap.size W (W.alloc (.cells #[.int .i64 (u:Int),.int .i64 (v:Int),.int .i64 z] 50)):=fun W=>YD.alloc YA _
    go_wp2
    exact⟨⟨j+1,_,by omega,by go_num,hFn,hBn.go (hal _),hXn.go (hal _),hbn.trans ((hal _).mono hbn.size)⟩,by simp [intOf];omega⟩
  ·obtain rfl:j=L.length:=by omega
   clear hrow hfew0 hX3 hbw3 hX1 hb1 hs1
   have hFl:=hF.1
   go_wp2_with (at_make;refine wpList_make_full _ rfl _ _ 35 rfl wr.heap.size 27 j0 (.slice none 0 0) 1 Tryz.underlying35 ki kz0 kz1 .i64 .i64 _ _ N rfl rfl rfl rfl (by rw [kz2];omega) (by unfold maxLen;omega) YA ?_;intro w4 hown hgrow;have hb4:Below wr.heap.size wr w4:=YD.grown hgrow YA (fun k e=>by cases e))
   have hGr:=GrpT.made hown
   rw [← Qgm N L] at hGr
   have hB4:=hB.go hb4
   have hX4:=hX.go hb4
   have hb40:=hb.trans (hb4.mono hb.size)
   have hsz4:wr.heap.size<w4.heap.size:=(hown.lt wr.heap.size rfl).2
   clear hown hgrow hB hX hb hb4 x0 x1
   have hX0:w.heap.size<wr.heap.size:=by have:=HGG.out;omega
   generalize wr.heap.size=h0 at *
   generalize List.replicate N (Value.slice none 0 0)=svs0 at hGr
   go_loopw [41] (fun i wq=>∃ (k:Nat) (svs:List Value),k≤N∧i = .int .i64 k∧GrpT h0 (.slice (some ⟨h0,0,none⟩) N N) svs (atW N L 0) wq∧Below h0 w4 wq) (fun i _=>N-(intOf i).toNat)
   case atStart=>exact⟨0,svs0,YN,rfl,hGr,YD⟩
   case round=>
    clear hGr
    obtain⟨k,svs,hk,rfl,hGr,hbq⟩:=hrel
    have hsvl:svs.length=N:=hGr.len.trans (Qdy _ _ _)
    by_cases hkN:k<N
    ·have hkN':(k:Int)<(N:Int):=by omega
     obtain⟨dx,hdx,d0,d1⟩:=hF.at hkN
     have t0:wr.cell? ⟨g,k,none⟩=some (.int .i64 dx):=(hB4.below hbq hgl).cell (by rw [YH,hdx];rfl)
     have hqs:=hbq.size
     have hszq:h0≤wr.heap.size:=by omega
     obtain⟨sv0,hsv0⟩:∃ sv0,svs[k]? = some sv0:=⟨_,YB (by omega)⟩
     have HSV:Hid _:=hsvl
     go_wp2_with (at_make;refine wpList_make_own _ rfl _ _ 27 rfl wr.heap.size 3 i0 (.int .i64 0) 1 Tryz.underlying27 hi hz0 hz1 .i64 .i64 _ dx.toNat rfl rfl (by rw [Int.toNat_of_nonneg d0]) (by rw [hz2];omega) (by unfold maxLen;omega) YA ?_;intro w6 hown6 hgrow6;have hb6:Below wr.heap.size wr w6:=YD.grown hgrow6 YA (fun k e=>by cases e);have hlv6:=Qar hGr.own hb6;rw [hsvl] at hlv6;have o1:w6.cell? ⟨h0,k,none⟩=some sv0:=(hlv6.cellAt k (by omega)).trans hsv0;have f1:=hlv6.frozenAt k)
     have hput:=GrpT.put (xs:=[]) (k:=k) (by rw [hsvl];exact hGr) (by omega) hszq hb6 hown6
     rw [hsvl,Qgm] at hput
     have hrep:(List.replicate N ([]:List Int)).set k []=List.replicate N []:=by
      apply List.ext_getElem?
      intro q
      rw [List.getElem?_set]
      split
      ·rename_i e;subst e;simp [hkN]
      ·rfl
     rw [hrep,← Qgm N L] at hput
     refine⟨⟨k+1,_,by omega,by go_num,hput,?_⟩,by simp [intOf];omega⟩
     exact (hbq.trans (hb6.mono hszq)).setCell (p:=⟨h0,k,none⟩) YA _
    ·obtain rfl:N=k:=by omega
     have hbq0:Below w.heap.size w wr:=hb40.trans (hbq.mono (by omega))
     have hXq:=hX4.below hbq (by omega)
     have hszq:h0<wr.heap.size:=by have:=hbq.size;omega
     have x0:=hXq.cell (j:=0) rfl
     have x1:=hXq.cell (j:=1) rfl
     go_wp2
     generalize wr=w5 at *
     go_loopw [55] (fun i wr=>∃ (q:Nat) (svs:List Value),q≤L.length∧i = .int .i64 q∧GrpT h0 (.slice (some ⟨h0,0,none⟩) N N) svs (atW N L q) wr∧Below h0 w5 wr) (fun i _=>L.length-(intOf i).toNat)
     case atStart=>exact⟨0,svs,YN,rfl,hGr,YD⟩
     case round=>
      clear hGr hsvl x0 x1
      obtain⟨q,svs,hq,rfl,hGr,hb⟩:=hrel
      have hbwr:Below w.heap.size w wr:=hbq0.trans (hb.mono (by omega))
      have hszr:h0<wr.heap.size:=by have:=hb.size;omega
      have hXr:=hXq.below hb (by omega)
      have x0:=hXr.cell (j:=0) rfl
      have x1:=hXr.cell (j:=1) rfl
      by_cases hlt:q<L.length
      ·obtain⟨b,off,rfl,hbb,hcap,hc⟩:=hl.eg hlt
       obtain⟨c0,c1,c2⟩:=hc wr hbwr q hlt
       have hql:(q:Int)<(L.length:Int):=by omega
       obtain⟨huN,hvN⟩:=hE L[q] (YG hlt)
       have hsvl:svs.length=N:=hGr.len.trans (Qdy _ _ _)
       clear hc
       by_cases huv:L[q].1=L[q].2.1
       ·have HST:Hid _:=Qov (N:=N) hlt huv
        rw [← huv] at c1
        generalize L[q].1=u at c0 c1 huN
        generalize (L[q].2.2:Int)=z at c2
        have hal:Below wr.heap.size wr (wr.alloc (.cells #[.int .i64 (u:Int),.int .i64 (u:Int),.int .i64 z] 50)):=YD.alloc YA _
        clear huv hvN
        go_wp2
        exact⟨⟨q+1,svs,by omega,by go_num,by rw [HST.out];exact hGr.go hal,hb.trans (hal.mono (by omega))⟩,by simp [intOf];omega⟩
       ·have HST:Hid _:=Qou (N:=N) hlt huv huN hvN
        have HPU:Hid _:=Qhs (L:=L) (k:=q) huN
        have HPV:Hid _:=Qhs (L:=L) (k:=q) hvN
        have hxu:((plW L q L[q].1).map fun (i:Nat)=>(i:Int)).length≤4194304:=by have:=QhU L q L[q].1;simp only [List.length_map];omega
        have hxv:((plW L q L[q].2.1).map fun (i:Nat)=>(i:Int)).length≤4194304:=by have:=QhU L q L[q].2.1;simp only [List.length_map];omega
        generalize ((plW L q L[q].1).map fun (i:Nat)=>(i:Int))=xu at HPU HST hxu
        generalize ((plW L q L[q].2.1).map fun (i:Nat)=>(i:Int))=xv at HPV HST hxv
        generalize L[q].1=u at c0 huN huv HPU HST
        generalize L[q].2.1=v at c1 hvN huv HPV HST
        generalize (L[q].2.2:Int)=z at c2
        have huv':¬ (u:Int)=(v:Int):=by omega
        have HPV2:Hid (((atW N L q).set u (xu++[(q:Int)]))[v]? = some xv):=by
         unfold Hid
         rw [List.getElem?_set_ne huv];exact HPV.out
        generalize atW N L q=pre at hGr HPU HPV HPV2 HST
        have huN':(u:Int)<(N:Int):=by omega
        have hvN':(v:Int)<(N:Int):=by omega
        have hal:Below wr.heap.size wr (wr.alloc (.cells #[.int .i64 (u:Int),.int .i64 (v:Int),.int .i64 z] 50)):=YD.alloc YA _
        have hGB:=hGr.go hal
        have hbB:=hb.trans (hal.mono (by omega))
        have hXB:Blk 50 (wr.alloc (.cells #[.int .i64 (u:Int),.int .i64 (v:Int),.int .i64 z] 50)) wr.heap.size [.int .i64 (u:Int),.int .i64 (v:Int),.int .i64 z]:=heap_alloc_new wr _
        go_wp2_with fail
        clear x0 x1 c0 c1 c2 hal
        obtain⟨bb,HBB⟩:∃ bb,Hid (wr.heap.size=bb):=⟨_,show Hid _ from rfl⟩
        rw [HBB.out] at hXB ⊢
        have hh0:h0<bb:=by have:=HBB.out;omega
        generalize wr.alloc (.cells #[.int .i64 (u:Int),.int .i64 (v:Int),.int .i64 z] 50)=wB at *
        obtain⟨sx1,hs1⟩:∃ sx,svs[u]? = some sx:=⟨_,YB (by omega)⟩
        obtain⟨px1,cx1,rfl⟩:=Qaq (hGr.inn u sx1 _ hs1 HPU.out)
        have hsx1:(svs)[u]? = some (.slice px1 xu.length cx1):=hs1
        have hbl1:∀ m,(Value.slice px1 xu.length cx1).ownBlock=some m→h0≤m∧m<bb:=fun m hm=>by have:=(hGr.inn u _ _ hs1 HPU.out).lt m hm;have:=HBB.out;omega
        have hsl1:(svs).length=N:=hsvl
        have r1:wB.cell? ⟨h0,u,none⟩=some (.slice px1 xu.length cx1):=by
         have hrow:=hGB.own
         rw [hsl1] at hrow
         exact (hrow.cellAt u (by omega)).trans hsx1
        have b1:wB.cell? ⟨bb,0,none⟩=some (.int .i64 (u:Int)):=hXB.cell (j:=0) rfl
        have hmx1:xu.length+1≤maxLen:=by unfold maxLen;omega
        have hby1:(xu.length+1)*8≤140737488355328:=by omega
        refine Qah (S:=(fun w':World=>w'.cell? ⟨bb,0,none⟩=some (.int .i64 (u:Int))∧w'.cell? ⟨h0,u,none⟩=some (.slice px1 xu.length cx1))) (by kernel_rfl) ?_ (fun hHeld=>?_)
        ·(try dsimp only);go_keep
        refine tL 0 ?_
        try simp only [YS]
        refine tL 1 ?_
        refine tL 2 ?_
        refine tL 3 ?_
        refine tL 4 ?_
        refine tL 5 ?_
        refine tL 6 ?_
        refine tL 7 ?_
        refine tL 8 ?_
        have hbd1:Below wB.heap.size wB wB.drew:=Qab YD 1
        have hsW1:bb<wB.heap.size:=hXB.lt
        have hGd1:=hGB.go hbd1
        have hXd1:=hXB.go hbd1
        have hsd1:bb<wB.drew.heap.size:=hXd1.lt
        clear b1 r1
        generalize wB.drew=wd1 at *
        have hbA1:Below wd1.heap.size wd1 (wd1.alloc (.cells #[.int .i64 (q:Int)] 3)):=YD.alloc YA _
        have hownA:=(hGd1.go hbA1).inn u _ _ hsx1 HPU.out
        have hnw:Src (wd1.alloc (.cells #[.int .i64 (q:Int)] 3)) (.slice (some ⟨wd1.heap.size,0,none⟩) 1 1) 1 1 [.int .i64 (q:Int)]:=.inr ⟨⟨wd1.heap.size,0,none⟩,1,rfl,rfl,Qbg wd1 (.int .i64 (q:Int)) 3,fun z hz=>by rw [YF hz];rfl⟩
        have hsA:h0≤(wd1.alloc (.cells #[.int .i64 (q:Int)] 3)).heap.size:=by simp only [World.size_alloc];omega
        refine Qad (rs:=[9]) (by kernel_rfl) (by simp) ?_
        refine AllReadyL.cons rfl (fun K hK=>?_) AllReadyL.nil
        go_simp
        refine hK.out _ _ ⟨Qac hbA1 hHeld.1,Qac hbA1 hHeld.2⟩ (fun hHeld12=>?_)
        clear hK K
        try simp only [Act.put,YS,YT,YU]
        refine Qad (rs:=[10]) (by kernel_rfl) (by simp) ?_
        refine AllReadyL.cons rfl (fun K hK=>?_) AllReadyL.nil
        refine Qap rfl _ _ 27 rfl h0 3 i0 (.int .i64 0) 1 8 Tryz.underlying27 hi hz0 hz1 hz2 rfl (by decide) (.slice px1 xu.length cx1) xu.length (xu.map (Value.int .i64)) rfl hownA (.slice (some ⟨wd1.heap.size,0,none⟩) 1 1) 1 [.int .i64 (q:Int)] rfl hnw hmx1 hby1 hsA ?_
        intro v8 w12 ho8 hg8 hat8
        obtain⟨a1,c1,rfl⟩:=Qaq ho8
        obtain⟨c12,f12,hG1⟩:=GrpT.pushed hGd1 hsl1 hsx1 HPU.out ho8 hg8 hat8
        have hb12:Below h0 wd1 (w12.setCell ⟨h0,u,none⟩ (.slice a1 (xu.length+1) c1)):=((YD.alloc (by omega) _).grown hg8 hsA (fun m hm=>(hbl1 m hm).1)).setCell (p:=⟨h0,u,none⟩) YA _
        have hX12:Blk 50 w12 bb [.int .i64 (u:Int),.int .i64 (v:Int),.int .i64 z]:=(hg8.block bb (by simp only [World.size_alloc];omega) (fun e=>by have:=hbl1 bb e.symm;omega)).trans (hXd1.go hbA1)
        have b12:w12.cell? ⟨bb,0,none⟩=some (.int .i64 (u:Int)):=hX12.cell (j:=0) rfl
        refine hK.out _ _ ⟨b12,c12⟩ (fun hHeld13=>?_)
        clear hK K
        try simp only [Act.put,YS]
        have hX1:Blk 50 (w12.setCell ⟨h0,u,none⟩ (.slice a1 (xu.length+1) c1)) bb [.int .i64 (u:Int),.int .i64 (v:Int),.int .i64 z]:=hX12.other (p:=⟨h0,u,none⟩) (by simp only;omega) _
        have hb1:Below h0 w5 (w12.setCell ⟨h0,u,none⟩ (.slice a1 (xu.length+1) c1)):=(hbB.trans (hbd1.mono (by omega))).trans hb12
        clear hownA hnw hHeld12 hHeld ho8 hg8 hat8 hGd1 hXd1 hbA1 hbd1 hb12 hX12
        refine tL 11 ?_
        refine Qad (rs:=[12]) (by kernel_rfl) (by simp) ?_
        refine AllReadyL.last rfl (by kernel_rfl) (fun K hK=>?_)
        go_simp
        refine hK.out _ _ ?_
        clear hK K
        try simp only [Act.put,YS,YT,YU]
        refine Qaj (by kernel_rfl) ?_ _
        clear c12 f12 b12 hHeld13
        generalize w12.setCell ⟨h0,u,none⟩ (.slice a1 (xu.length+1) c1)=wx1 at *
        clear hGB hXB hbB
        obtain⟨sx2,hs2⟩:∃ sx,svs[v]? = some sx:=⟨_,YB (by omega)⟩
        obtain⟨px2,cx2,rfl⟩:=Qaq (hGr.inn v sx2 _ hs2 HPV.out)
        have hsx2:((svs.set u (.slice a1 (xu.length+1) c1)))[v]? = some (.slice px2 xv.length cx2):=by rw [List.getElem?_set_ne huv];exact hs2
        have hbl2:∀ m,(Value.slice px2 xv.length cx2).ownBlock=some m→h0≤m∧m<bb:=fun m hm=>by have:=(hGr.inn v _ _ hs2 HPV.out).lt m hm;have:=HBB.out;omega
        have hsl2:((svs.set u (.slice a1 (xu.length+1) c1))).length=N:=by simp only [List.length_set];exact hsvl
        have r2:wx1.cell? ⟨h0,v,none⟩=some (.slice px2 xv.length cx2):=by
         have hrow:=hG1.own
         rw [hsl2] at hrow
         exact (hrow.cellAt v (by omega)).trans hsx2
        have b2:wx1.cell? ⟨bb,1,none⟩=some (.int .i64 (v:Int)):=hX1.cell (j:=1) rfl
        have hmx2:xv.length+1≤maxLen:=by unfold maxLen;omega
        have hby2:(xv.length+1)*8≤140737488355328:=by omega
        go_wp2_with fail
        refine Qah (S:=(fun w':World=>w'.cell? ⟨bb,1,none⟩=some (.int .i64 (v:Int))∧w'.cell? ⟨h0,v,none⟩=some (.slice px2 xv.length cx2))) (by kernel_rfl) ?_ (fun hHeld=>?_)
        ·(try dsimp only);go_keep
        refine tL 0 ?_
        try simp only [YS]
        refine tL 1 ?_
        refine tL 2 ?_
        refine tL 3 ?_
        refine tL 4 ?_
        refine tL 5 ?_
        refine tL 6 ?_
        refine tL 7 ?_
        refine tL 8 ?_
        have hbd2:Below wx1.heap.size wx1 wx1.drew:=Qab YD 1
        have hsW2:bb<wx1.heap.size:=hX1.lt
        have hGd2:=hG1.go hbd2
        have hXd2:=hX1.go hbd2
        have hsd2:bb<wx1.drew.heap.size:=hXd2.lt
        clear b2 r2
        generalize wx1.drew=wd2 at *
        have hbA2:Below wd2.heap.size wd2 (wd2.alloc (.cells #[.int .i64 (q:Int)] 3)):=YD.alloc YA _
        have hownA:=(hGd2.go hbA2).inn v _ _ hsx2 HPV2.out
        have hnw:Src (wd2.alloc (.cells #[.int .i64 (q:Int)] 3)) (.slice (some ⟨wd2.heap.size,0,none⟩) 1 1) 1 1 [.int .i64 (q:Int)]:=.inr ⟨⟨wd2.heap.size,0,none⟩,1,rfl,rfl,Qbg wd2 (.int .i64 (q:Int)) 3,fun z hz=>by rw [YF hz];rfl⟩
        have hsA:h0≤(wd2.alloc (.cells #[.int .i64 (q:Int)] 3)).heap.size:=by simp only [World.size_alloc];omega
        refine Qad (rs:=[9]) (by kernel_rfl) (by simp) ?_
        refine AllReadyL.cons rfl (fun K hK=>?_) AllReadyL.nil
        go_simp
        refine hK.out _ _ ⟨Qac hbA2 hHeld.1,Qac hbA2 hHeld.2⟩ (fun hHeld12=>?_)
        clear hK K
        try simp only [Act.put,YS,YT,YU]
        refine Qad (rs:=[10]) (by kernel_rfl) (by simp) ?_
        refine AllReadyL.cons rfl (fun K hK=>?_) AllReadyL.nil
        refine Qap rfl _ _ 27 rfl h0 3 i0 (.int .i64 0) 1 8 Tryz.underlying27 hi hz0 hz1 hz2 rfl (by decide) (.slice px2 xv.length cx2) xv.length (xv.map (Value.int .i64)) rfl hownA (.slice (some ⟨wd2.heap.size,0,none⟩) 1 1) 1 [.int .i64 (q:Int)] rfl hnw hmx2 hby2 hsA ?_
        intro v8 w12 ho8 hg8 hat8
        obtain⟨a2,c2,rfl⟩:=Qaq ho8
        obtain⟨c12,f12,hG2⟩:=GrpT.pushed hGd2 hsl2 hsx2 HPV2.out ho8 hg8 hat8
        have hb12:Below h0 wd2 (w12.setCell ⟨h0,v,none⟩ (.slice a2 (xv.length+1) c2)):=((YD.alloc (by omega) _).grown hg8 hsA (fun m hm=>(hbl2 m hm).1)).setCell (p:=⟨h0,v,none⟩) YA _
        have hX12:Blk 50 w12 bb [.int .i64 (u:Int),.int .i64 (v:Int),.int .i64 z]:=(hg8.block bb (by simp only [World.size_alloc];omega) (fun e=>by have:=hbl2 bb e.symm;omega)).trans (hXd2.go hbA2)
        have b12:w12.cell? ⟨bb,1,none⟩=some (.int .i64 (v:Int)):=hX12.cell (j:=1) rfl
        refine hK.out _ _ ⟨b12,c12⟩ (fun hHeld13=>?_)
        clear hK K
        try simp only [Act.put,YS]
        have hX2:Blk 50 (w12.setCell ⟨h0,v,none⟩ (.slice a2 (xv.length+1) c2)) bb [.int .i64 (u:Int),.int .i64 (v:Int),.int .i64 z]:=hX12.other (p:=⟨h0,v,none⟩) (by simp only;omega) _
        have hb2:Below h0 w5 (w12.setCell ⟨h0,v,none⟩ (.slice a2 (xv.length+1) c2)):=(hb1.trans (hbd2.mono (by omega))).trans hb12
        clear hownA hnw hHeld12 hHeld ho8 hg8 hat8 hGd2 hXd2 hbA2 hbd2 hb12 hX12
        refine tL 11 ?_
        refine Qad (rs:=[12]) (by kernel_rfl) (by simp) ?_
        refine AllReadyL.last rfl (by kernel_rfl) (fun K hK=>?_)
        go_simp
        refine hK.out _ _ ?_
        clear hK K
        try simp only [Act.put,YS,YT,YU]
        refine Qaj (by kernel_rfl) ?_ _
        clear c12 f12 b12 hHeld13
        generalize w12.setCell ⟨h0,v,none⟩ (.slice a2 (xv.length+1) c2)=wx2 at *
        go_wp2
        exact⟨⟨q+1,_,by omega,by go_num,by rw [← HST.out];exact hG2,hb2⟩,by simp [intOf];omega⟩
      ·obtain rfl:q=L.length:=by omega
       go_wp2
       go_ret
       exact⟨h0,svs,rfl,by omega,hGr,hbwr⟩
theorem Vals.openW {w:World}{sv:Value}{l:List Int}(h:Ints w.heap.size w sv l):∃ p c,sv = .slice p l.length c∧∀ {j:Nat},j<l.length→∃ b off,p=some ⟨b,off,none⟩∧b<w.heap.size∧∀ W',Below w.heap.size w W'→∀ i,i<l.length→W'.cell? ⟨b,off+i,none⟩=some (.int .i64 (at' l i)):=by
 obtain⟨p,c,rfl⟩:=h.len
 refine⟨p,c,rfl,fun {j} hj=>?_⟩
 obtain⟨b,off,h1,h2,_,h4⟩:=h.open hj
 exact⟨b,off,h1,h2,fun W' hW i hi=>by rw [QbH hi];exact h4 W' hW i hi⟩
def Qcq (L:List Eg)(place:Int)(v:Nat):Bool:=decide (0≤place) && (match L[place.toNat]? with
 | some e=>decide (e.1=v∨e.2.1=v)
 | none=>false)
theorem ends_iff {L:List Eg}{place:Int}{v:Nat}:Qcq L place v=true↔∃ i:Nat,place=i∧∃ e,L[i]? = some e∧(e.1=v∨e.2.1=v):=by
 unfold Qcq
 constructor
 ·intro h
  rw [Bool.and_eq_true] at h
  refine⟨place.toNat,by have:=h.1;simp at this;omega,?_⟩
  have h2:=h.2
  cases hL:L[place.toNat]? with
  | none=>rw [hL] at h2;simp at h2
  | some e=>rw [hL] at h2;exact⟨e,rfl,by simpa using h2⟩
 ·rintro⟨i,rfl,e,he,hv⟩
  rw [YM,he]
  simpa using hv
theorem Qkv (n:Int)(L:List Eg)(place:Int)(v:Nat)(sv:Value)(w:World)(hl:Edges w.heap.size w sv (L.map edE)):
  Calls Tryz.prog 149 #[.agg #[.int .i64 n,sv],.int .i64 place,.int .i64 (v:Int)] w fun r w'=>r = .returned (.bool (Qcq L place v))∧Grew w w':=by
 obtain⟨p,c,rfl⟩:=hl.lenG
 have hg:Grew w (w.alloc (.cells #[.int .i64 n,.slice p L.length c] 24)):=(Grew.refl w).alloc _
 by_cases h0:0≤place
 ·obtain⟨i,rfl⟩:∃ i:Nat,place=i:=⟨place.toNat,by omega⟩
  by_cases h1:i<L.length
  ·obtain⟨b,off,rfl,hbb,hcap,hc⟩:=hl.eg h1
   obtain⟨c0,c1,c2⟩:=hc _ hg.below i h1
   have h1':(i:Int)<(L.length:Int):=by omega
   have hE:Qcq L (i:Int) v=(decide (L[i].1=v∨L[i].2.1=v)):=by
    unfold Qcq
    rw [YM,YB h1]
    simp
   rw [hE]
   clear hE hc hl
   generalize L[i].1=x at *
   generalize L[i].2.1=y at *
   have hE:∃ r,Hid (decide (x=v∨y=v)=r):=⟨_,show Hid _ from rfl⟩
   obtain⟨r,HR⟩:=hE
   rw [HR.out]
   by_cases hx:x=v
   ·have hR:r=true:=by rw [← HR.out];simp [hx]
    subst hR hx
    go_enter Tryz.func149,Tryz.ntmps149
    go_wp2
    go_ret
    exact⟨rfl,hg⟩
   ·have hx':¬ (x:Int)=(v:Int):=by omega
    by_cases hy:y=v
    ·have hR:r=true:=by rw [← HR.out];simp [hy]
     subst hR hy
     go_enter Tryz.func149,Tryz.ntmps149
     go_wp2
     go_ret
     exact⟨by simp,hg⟩
    ·have hR:r=false:=by rw [← HR.out];simp [hx,hy]
     have hy':¬ (y:Int)=(v:Int):=by omega
     subst hR
     go_enter Tryz.func149,Tryz.ntmps149
     go_wp2
     go_ret
     exact⟨by simp [hx',hy'],hg⟩
  ·have hE:Qcq L (i:Int) v=false:=by
    unfold Qcq
    rw [YM,YL (by omega)]
    simp
   have h1':¬ (i:Int)<(L.length:Int):=by omega
   rw [hE]
   go_enter Tryz.func149,Tryz.ntmps149
   go_wp2
   go_ret
   exact⟨by simp,hg⟩
 ·have hE:Qcq L place v=false:=by unfold Qcq;simp [h0]
  rw [hE]
  go_enter Tryz.func149,Tryz.ntmps149
  go_wp2
  go_ret
  exact⟨by simp,hg⟩
end Go.Proofs.YtalflecmadacaaaGreat
