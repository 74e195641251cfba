/- Several texts of mine in one: Take DkList GEf GEw. -/
import Derived.Test.YtdkdjofnnnljjaaGreatDoorPPkMath
import Derived.OrdersHeld
import Derived.Maps.AppendAt
import Derived.Deep.RegionHeld
import Derived.Test.YtdkdjofnnnljjaaGreatDoorRows
import Derived.Test.YtdkdjofnnnljjaaGreatDoorPGCr
import Derived.Shelf.Abstract
import Derived.Lib.AppendZerosOnto
import Derived.ArgAppend
import Derived.Deep.QuietTactic
import Derived.BigQuiet
namespace Go.Proofs.YtdkdjofnnnljjaaGreatDoor
open Go.RowKit
theorem bH{P:Program}{md:Region.Mode}{ops:Array Oper}{Q:Exit->Act->World->Prop}{S:World->Prop}(i:Nat){oi:Oper}{v:Value}{fuel:Nat}{listed:Array Bool}{a:Act}{w:World}(hi:ops[i]? = some oi)(hS:S w)
 (h:wpAnyH P md ops Q S fuel (listed.setIfInBounds i true) (a.put oi.dst v) w)
 (hy : ∀W,S W->(execOp a.eval oi).run P W = .ok (.value v) W:=by intro W hSw;go_simp;(try with_reducible rfl))
 (hs:Region.noSelect ops=true:=by kernel_rfl) (hf:Region.free md ops listed i=true:=by kernel_rfl) (hr:(Region.ready md ops listed).contains i=true:=by kernel_rfl) (hw:Region.wanted oi (yielded ops a.tmps)=true:=by kernel_rfl)
 (hQ : ∀c a w,Q (.panic c) (a.put oi.dst v) w->Q (.panic c) a w:=by exact fun _ _ _ h=>h):wpAnyH P md ops Q S (fuel+1) listed a w :=
 wpAnyH_take hi hs hf hr hQ (.inl ⟨hw,hy⟩) hS h
theorem aV{P:Program}{md:Region.Mode}{ops:Array Oper}{Q:Exit->Act->World->Prop}{S:World->Prop}(i:Nat){oi:Oper}{v:Value}{fuel:Nat}{listed:Array Bool}{a:Act}{w:World}(hi:ops[i]? = some oi)(hS:S w)
 (h:wpAnyH P md ops Q S fuel (listed.setIfInBounds i true) (a.put oi.dst v) w)
 (hy : ∀W,S W->(execOp a.eval oi).run P W = .ok (.value v) W:=by intro W hSw;obtain⟨_,⟨⟩⟩:=hSw;go_simp;(try with_reducible rfl))
 (hs:Region.noSelect ops=true:=by kernel_rfl) (hf:Region.free md ops listed i=true:=by kernel_rfl) (hr:(Region.ready md ops listed).contains i=true:=by kernel_rfl) (hw:Region.wanted oi (yielded ops a.tmps)=true:=by kernel_rfl)
 (hQ : ∀c a w,Q (.panic c) (a.put oi.dst v) w->Q (.panic c) a w:=by exact fun _ _ _ h=>h):wpAnyH P md ops Q S (fuel+1) listed a w :=
 wpAnyH_take hi hs hf hr hQ (.inl ⟨hw,hy⟩) hS h
end Go.Proofs.YtdkdjofnnnljjaaGreatDoor

namespace Go.Proofs.YtdkdjofnnnljjaaGreatDoor
open Go.RowKit
section
structure Kp(q:Nat->Obj->Prop)(w w' : World):Prop where
 os:w'.os=w.os
 tape:w'.tape=w.tape
 output:w'.output=w.output
 size:w.heap.size<=w'.heap.size
 same : ∀b o,w.heap[b]? = some o->q b o->w'.heap[b]? = some o
theorem aK{w:World}{b:Nat}{o:Obj}(h:w.heap[b]? = some o):b<w.heap.size:=(Array.getElem?_eq_some_iff.1 h).1
theorem xU{w:World}{b:Nat}(h:b<w.heap.size) : ∃o,w.heap[b]? = some o:=⟨_,Array.getElem?_eq_getElem h⟩
theorem Kp.refl(q:Nat->Obj->Prop)(w:World):Kp q w w:=⟨rfl,rfl,rfl,Nat.le_refl _,fun _ _ h _=>h⟩
theorem Kp.trans{q:Nat->Obj->Prop}{a b c:World}(h:Kp q a b)(k:Kp q b c):Kp q a c :=
 ⟨k.os.trans h.os,k.tape.trans h.tape,k.output.trans h.output,Nat.le_trans h.size k.size,fun g o e hq=>k.same g o (h.same g o e hq) hq⟩
theorem Kp.imp{q r:Nat->Obj->Prop}{w w' : World}(h:Kp q w w')(hq : ∀b o,w.heap[b]? = some o->r b o->q b o):Kp r w w' :=
 ⟨h.os,h.tape,h.output,h.size,fun b o e hr=>h.same b o e (hq b o e hr)⟩
theorem Kp.aI{q:Nat->Obj->Prop}{w w' : World}{row:Option Nat}(h:w.grownBy w' row)(hq : ∀b o,row=some b->w.heap[b]? = some o -> ¬q b o):Kp q w w' :=
 ⟨h.os,h.tape,h.output,h.size,fun b o e hb=>(h.block b (aK e) (fun r=>hq b o r.symm e hb)).trans e⟩
theorem Kp.bp{q:Nat->Obj->Prop}{w w' : World}{B:Nat}(h:Below B w w')(hq : ∀b o,w.heap[b]? = some o->q b o->b<B):Kp q w w' :=
 ⟨h.os,h.tape,h.output,h.size,fun b o e hb=>(h.block b (hq b o e hb)).trans e⟩
theorem Kp.all{q:Nat->Obj->Prop}{w w' : World}(h:Below w.heap.size w w'):Kp q w w' := Kp.bp h fun _ _ e _=>aK e
theorem Kp.below{q:Nat->Obj->Prop}{w w' : World}{B:Nat}(h:Kp q w w')(hB:B<=w.heap.size)(hq : ∀b o,b<B->w.heap[b]? = some o->q b o):Below B w w' :=
 ⟨h.os,h.tape,h.output,h.size,fun b hb=>by
  obtain⟨o,ho⟩:=xU (show b<w.heap.size by omega)
  rw[ho];exact h.same b o ho (hq b o hb ho)⟩
theorem Kp.block{q:Nat->Obj->Prop}{w w' : World}(h:Kp q w w'){b:Nat}(hlt:b<w.heap.size)(hq : ∀o,q b o):w'.heap[b]? = w.heap[b]? := by
 obtain⟨o,ho⟩:=xU hlt;rw[ho];exact h.same b o ho (hq o)
theorem Kp.keep{q:Nat->Obj->Prop}{p:Nat->TypeId->Prop}{w w' : World}(h:Kp q w w')(hq : ∀b cs t fr,w.heap[b]? = some (.cells cs t fr)->p b t->q b (.cells cs t fr)):dS p w w' :=
 ⟨h.size,fun b cs t fr e hp=>h.same b _ e (hq b cs t fr e hp)⟩
theorem Kp.then{q r:Nat->Obj->Prop}{a b c:World}(h:Kp q a b)(k:Kp r b c)(hr : ∀g o,a.heap[g]? = some o->q g o->r g o):Kp q a c :=
 ⟨k.os.trans h.os,k.tape.trans h.tape,k.output.trans h.output,Nat.le_trans h.size k.size,fun g o e hq=>k.same g o (h.same g o e hq) (hr g o e hq)⟩
theorem Kp.ag{q:Nat->Obj->Prop}{w w' : World}(h:Kp q w w'){b:Nat}{t:TypeId}{vs:Array Value}(hl:ae w b t vs)(hq : ∀o,q b o):ae w' b t vs:=h.same b _ hl (hq _)
theorem Kp.drew{q:Nat->Obj->Prop}(w:World):Kp q w w.drew:=Kp.all (drawn w 1)
theorem dS.imp{p p' : Nat->TypeId->Prop}{w w' : World}(h:dS p w w')(hp : ∀b t,p' b t->p b t):dS p' w w' := ⟨h.size,fun b cs t fr e hq=>h.same b cs t fr e (hp b t hq)⟩
theorem aS.imp{p p' : Nat->TypeId->Prop}{w:World}{v:Value}{l:List UInt8}(h:aS p w v l)(hp : ∀b cs t fr,w.heap[b]? = some (.cells cs t fr)->p b t->p' b t):aS p' w v l:=by
 obtain⟨h1,h2⟩:=h;refine⟨h1,fun h0 => ?_⟩
 obtain⟨x,n,c,cs,t,fr,e1,e2,e3⟩:=h2 h0;exact⟨x,n,c,cs,t,fr,e1,e2,hp _ _ _ _ e2 e3⟩
theorem Reads.first{w:World}{ao:Option Addr}{n cap:Nat}{l:List UInt8}(h:Reads w (.slice ao n cap) l)(k:Nat)(hk:k<=n):Reads w (.slice ao k cap) (l.take k):=by
 obtain⟨EX, cap', hv,h1,h2,h3,h4⟩:=h;simp only[Value.slice.injEq]at hv
 obtain⟨rfl,rfl,rfl⟩:=hv;have e:(l.take k).length=k:=by rw[List.length_take];omega
 refine⟨ao,cap,by rw[e],by omega,h2,h3,fun x hx j u hu=>h4 x hx j u ?_⟩
 have:cellsOf (l.take k)=(cellsOf l).take k:=by simp[cellsOf,List.map_take]
 rw[this,List.getElem?_take]at hu
 split at hu
 ·exact hu
 ·cases hu
theorem bF.stays{w w' : World}{base:Nat}{E:TypeId}{v:Value}{l:List UInt8}(h:bF w base E v l)(hb : ∀g,v.ownBlock=some g->w'.heap[g]? = w.heap[g]?):bF w' base E v l:=by
 refine⟨h.1, ?_⟩;rcases h.2 with hn | ⟨g,cap,cur,rfl,hb', CI,rest⟩
 ·exact .inl hn
 ·exact .inr ⟨g,cap,cur,rfl,hb', (hb g rfl).trans CI,rest⟩
theorem aU.stays{w w' : World}{base:Nat}{E:TypeId}{k:Nat}{v:Value}{rs:List (Array Value)}(h:aU w base E k v rs)(hb : ∀g,v.ownBlock=some g->w'.heap[g]? = w.heap[g]?):aU w' base E k v rs:=by
 refine⟨h.1, ?_⟩;rcases h.2 with hn | ⟨g,cap,cur,rfl,hb', CI,rest⟩
 ·exact .inl hn
 ·exact .inr ⟨g,cap,cur,rfl,hb', (hb g rfl).trans CI,rest⟩
theorem bF.cells{w:World}{base:Nat}{E:TypeId}{v:Value}{l:List UInt8}(h:bF w base E v l){g:Nat}(e:v.ownBlock=some g) : ∃cs,w.heap[g]? = some (.cells cs E (0,0))∧base<=g:=by
 rcases h.2 with ⟨rfl,_⟩ | ⟨g', cap,cur,rfl,hb', CI,rest⟩
 ·simp[Value.ownBlock]at e
 ·obtain rfl:g' = g:=by simpa[Value.ownBlock] using e
  exact⟨cur,CI,hb'⟩
theorem aU.cells{w:World}{base:Nat}{E:TypeId}{k:Nat}{v:Value}{rs:List (Array Value)}(h:aU w base E k v rs){g:Nat}(e:v.ownBlock=some g) : ∃cs,w.heap[g]? = some (.cells cs E (0,0))∧base<=g:=by
 rcases h.2 with ⟨rfl,_⟩ | ⟨g', cap,cur,rfl,hb', CI,rest⟩
 ·simp[Value.ownBlock]at e
 ·obtain rfl:g' = g:=by simpa[Value.ownBlock] using e
  exact⟨cur,CI,hb'⟩
theorem aS.own{p:Nat->TypeId->Prop}{w:World}{base:Nat}{E:TypeId}{v:Value}{l:List UInt8}(h:bF w base E v l)(hp : ∀g,v.ownBlock=some g->p g E):aS p w v l:=by
 refine⟨h.reads,fun h0 => ?_⟩
 rcases h.2 with ⟨_,h1⟩ | ⟨g,cap,cur,rfl,hb,hg,_⟩
 ·omega
 ·exact⟨_,_,_,cur,E,(0,0),rfl,hg,hp g rfl⟩
theorem oh{P:Program}{w:World}(t ty E:TypeId)(ht:P.underlying t=some (.slice E))(hi:(P.info? E).map (fun i=>(i.zero,i.size,i.bytes))=some (some (.int .u8 0),1,1))
 (base:Nat) (l m:List UInt8) (v u:Value) (hown:bF w base E v l) (hr:Reads w u m) (hlen:l.length+m.length<=140737488355328) (hbase:base<=w.heap.size) :
 ∃v' w', (Builtin.append_ #[t,t] ty #[v,u]).run P w = .ok v' w' ∧ bF w' base E v' (l++m)∧w.grownBy w' v.ownBlock∧(v'.ownBlock=v.ownBlock∨v'.ownBlock=some w.heap.size):=by
 obtain⟨i,h1,h2,h3,h4⟩:=info_parts hi;obtain⟨ao,cap,rfl,hc1,hc2,hc3,Q6⟩:=hr;cases ao with
 | none =>
  have h0:=hc3 rfl;have hm:m = []:=List.eq_nil_of_length_eq_zero (by omega)
  subst hm;subst h0;have hrun:=run_append_owned_none (P:=P) w base t ty E i 1 ht h1 v l.length (cellsOf l) hown;exact⟨v,w,hrun,by simpa using hown,World.grownBy.refl _ _, .inl rfl⟩
 | some ad =>
  obtain⟨v', w', hrun,h5,h6,_,h7⟩:=run_append_own_at (P:=P) w base t ty E i (.int .u8 0) 1 1 ht h1 h2 h3 h4 rfl (by decide) v l.length (cellsOf l) hown ad m.length cap (cellsOf m) (by simp[cellsOf]) (Q6 ad rfl) (ki m) (by unfold maxLen;omega) (by omega) (by omega)
  refine⟨v', w', hrun, ?_,h6,h7⟩;unfold bF;rw[List.length_append,iM];exact h5
theorem bG{P:Program}{w:World}(t ty E:TypeId)(k bytes:Nat)(z:Value)(ht:P.underlying t=some (.slice E))
 (hi:(P.info? E).map (fun i=>(i.zero,i.size,i.bytes))=some (some z,k,bytes)) (TW:z.cells.size=k) (hk:0<k)
 (base:Nat) (l m:List (Array Value)) (v u:Value) (hown:aU w base E k v l) (hr:aQ w u k m) (hm:dC k m)
 (hlen:(l.length+m.length)*bytes<=140737488355328) (sK:l.length+m.length<=140737488355328) (hbase:base<=w.heap.size) :
 ∃v' w', (Builtin.append_ #[t,t] ty #[v,u]).run P w = .ok v' w' ∧ aU w' base E k v' (l++m)∧w.grownBy w' v.ownBlock∧(v'.ownBlock=v.ownBlock∨v'.ownBlock=some w.heap.size):=by
 obtain⟨i,h1,h2,h3,h4⟩:=info_parts hi;obtain⟨ao,cap,rfl⟩ : ∃ao cap,u = .slice ao m.length cap:=by obtain⟨ao,cap,e,_⟩:=hr.shape;exact⟨ao,cap,e⟩
 have hh:=hr.held hm;obtain⟨_,hc1,hc3,_⟩:=hr.len;cases ao with
 | none =>
  have h0:=hc3 rfl;have hm0:m = []:=List.eq_nil_of_length_eq_zero (by omega)
  subst hm0;have hrun:=run_append_owned_none (P:=P) w base t ty E i k ht h1 v l.length (cV l) hown;subst h0;exact⟨v,w,hrun,by simpa using hown,World.grownBy.refl _ _, .inl rfl⟩
 | some ad =>
  obtain⟨v', w', hrun,h5,h6,_,h7⟩:=run_append_own_at (P:=P) w base t ty E i z k bytes ht h1 h2 h3 h4 TW hk v l.length (cV l) hown ad m.length cap (cV m) (rM hm) (hh ad rfl) (mX hm) (by unfold maxLen;omega) hlen (by omega)
  refine⟨v', w', hrun, ?_,h6,h7⟩;unfold aU;rw[List.length_append,xI];exact h5
theorem xV{P:Program}{w w' : World}{o:Oper}{a:Act}{K:Act->World->Prop}{Q:Exit->Act->World->Prop}(s x:Operand)(t:TypeId)(ho:o.op = .call { callee := .builtin .append,args := #[s,x],argTypes := #[t,t] })
 (v u v' : Value) (hs:a.eval s=v) (hx:a.eval x=u) (hr:(Builtin.append_ #[t,t] o.type #[v,u]).run P w = .ok v' w') (hK:K (a.put o.dst v') w'):Oper.wp P o a w K Q:=by
 unfold Oper.wp execOp;simp only[ho,resolve,invoke,builtin,Sem.run_bind,Sem.run_pure,Result.andThen_ok,List.map_toArray,List.map_cons,List.map_nil,hs,hx,hr];exact hK
theorem step_append{P:Program}{w w' : World}{ops:Array Oper}{rest:List Oper}{o:Oper}{a:Act}{Q:Exit->Act->World->Prop}(hg:o.guard=none)(s x:Operand)(t:TypeId)(ho:o.op = .call { callee := .builtin .append,args := #[s,x],argTypes := #[t,t] })
 (v u v' : Value) (hs:a.eval s=v) (hx:a.eval x=u) (hr:(Builtin.append_ #[t,t] o.type #[v,u]).run P w = .ok v' w') (hK:wpList P ops Q rest (a.put o.dst v') w'):wpList P ops Q (o :: rest) a w :=
 wpList_plain hg fun _ hK' => xV s x t ho v u v' hs hx hr (hK' _ _ hK)
section
variable {P : Program} {md : Region.Mode} {ops : Array Oper} {Q : Exit -> Act -> World -> Prop} {S : World -> Prop} {fuel : Nat} {listed : Array Bool} {a : Act} {w : World}
theorem Cu(i:Nat){o:Oper}(ho:ops[i]? = some o)(hgd:o.guard=none)(v' : Value)(w' : World)(h : ∀K:Act->World->Prop,K (a.put o.dst v') w' -> Oper.wp P o a w K Q)
 (hK:S w' ∧ (S w' -> wpAnyH P md ops Q S fuel (listed.setIfInBounds i true) (a.put o.dst v') w')):AllReadyH P md ops Q S fuel listed a w [i] :=
 AllReadyH.cons ho (fun K hS=>by
  rw[if_pos (by simp[Region.wanted,hgd])]
  exact h K (hS.out _ _ hK.1 hK.2)) AllReadyH.nil
theorem bt(i:Nat)(s x:Operand)(t:TypeId){o:Oper}(ho:ops[i]? = some o)(hgd:o.guard=none)(hop:o.op = .call { callee := .builtin .append,args := #[s,x],argTypes := #[t,t] })(v u v' : Value)(w' : World)
 (hs:a.eval s=v) (hx:a.eval x=u) (hr:(Builtin.append_ #[t,t] o.type #[v,u]).run P w = .ok v' w') (hK:S w' ∧ (S w' -> wpAnyH P md ops Q S fuel (listed.setIfInBounds i true) (a.put o.dst v') w')):AllReadyH P md ops Q S fuel listed a w [i] :=
 Cu i ho hgd v' w' (fun _ hK=>xV s x t hop v u v' hs hx hr hK) hK
theorem bq(i:Nat)(ty:TypeId)(x y:Operand){o:Oper}(ho:ops[i]? = some o)(hgd:o.guard=none)(hop:o.op = .store ty x y)(g off:Nat)(T:TypeId)(vs vs' : Array Value)(u:Value)(cs:List Value)
 (hx:a.eval x = .pointer (some ⟨g,off,none⟩)) (hy:a.eval y=u) (hcs:u.cells.toList=cs) (hi:(P.info? ty).map (·.size)=some cs.length) (h1:cs.all (·.oneCell')=true) (hl:ae w g T vs) (hb:off+cs.length<=vs.size)
 (hv:vs'.toList=vs.toList.take off++cs++vs.toList.drop (off+cs.length))
 (hK : ∀w', ae w' g T vs' -> w.grownBy w' (some g)->S w' ∧ (S w' -> wpAnyH P md ops Q S fuel (listed.setIfInBounds i true) (a.put o.dst undef) w')):AllReadyH P md ops Q S fuel listed a w [i]:=by
 have hn:u.cells.size=cs.length:=by rw[<- hcs,Array.length_toList]
 have hall:u.cells.all (·.oneCell')=true:=by rw[<- Array.all_toList,hcs];exact h1
 have ht:w.there g off u.cells.size:=fun j hj=>by
  refine⟨?_,hl.free (off+j)⟩;obtain⟨v,hv⟩ : ∃v,vs[off+j]? = some v:=⟨_,Array.getElem?_eq_getElem (by omega)⟩
  rw[hl.cell (off+j) v hv]
  rfl
 have hrun:=kZ (P:=P) w g off ty u ht (by rw[hi,hn]) hall
 have hlies:ae (w.setCells g off u.cells.toList) g T vs' := by
  have:=ae.partly cs off w vs.toList vs'.toList (by simpa using hl) (by simpa using hb) hv
  rw[hcs]
  simpa using this
 refine Cu i ho hgd undef _ (fun K hK' => ?_) (hK _ hlies (mY g _ _ _))
 unfold Oper.wp execOp;simp only[hop,hx,hy,Instr.storeAt,Instr.sureAddr,Sem.run_bind,Sem.run_pure,Result.andThen_ok,hrun];exact hK'
end
def gH(p:Nat->TypeId->Prop)(w:World)(v:Value)(k:Nat)(rs:List (Array Value)):Prop :=
 aQ w v k rs∧(0<rs.length -> ∃(x:Addr) (n c:Nat) (cs:Array Value) (t:TypeId) (fr:Nat × Nat),v = .slice (some x) n c∧w.heap[x.block]? = some (.cells cs t fr)∧p x.block t)
theorem gH.keep{p:Nat->TypeId->Prop}{w w' : World}{v:Value}{k:Nat}{rs:List (Array Value)}(h:gH p w v k rs)(hk:dS p w w'):gH p w' v k rs:=by
 obtain⟨⟨ao,cap,rfl,h1,h2,h3,h4⟩,hp⟩:=h;by_cases h0:0<rs.length
 ·obtain⟨x,n,c,cs,t,fr,hv,hb,hpt⟩:=hp h0
  simp only[Value.slice.injEq]at hv
  obtain⟨rfl,rfl,rfl⟩:=hv;have hb' := hk.same _ _ _ _ hb hpt;refine⟨⟨some x,cap,rfl,h1,h2,h3,fun y hy i r hr j u hu => ?_⟩,fun _=>⟨x,_,_,cs,t,fr,rfl,hb', hpt⟩⟩
  cases hy;have:=h4 x rfl i r hr j u hu;rw[<- this];exact World.cell?_of_block (by rw[add_block,hb,hb'])
 ·obtain rfl:rs = []:=List.eq_nil_of_length_eq_zero (by omega)
  exact⟨⟨ao,cap,rfl,h1,h2,h3,fun y _ i r hr=>by simp at hr⟩,fun h=>absurd h (by simp)⟩
theorem gH.imp{p p' : Nat->TypeId->Prop}{w:World}{v:Value}{k:Nat}{rs:List (Array Value)}(h:gH p w v k rs)(hp : ∀b cs t fr,w.heap[b]? = some (.cells cs t fr)->p b t->p' b t):gH p' w v k rs:=by
 obtain⟨h1,h2⟩:=h;refine⟨h1,fun h0 => ?_⟩
 obtain⟨x,n,c,cs,t,fr,e1,e2,e3⟩:=h2 h0;exact⟨x,n,c,cs,t,fr,e1,e2,hp _ _ _ _ e2 e3⟩
theorem gH.own{p:Nat->TypeId->Prop}{w:World}{base:Nat}{E:TypeId}{k:Nat}{v:Value}{rs:List (Array Value)}(h:aU w base E k v rs)(hs:dC k rs)(hp : ∀g,v.ownBlock=some g->p g E):gH p w v k rs:=by
 refine⟨h.reads hs,fun h0 => ?_⟩
 rcases h.2 with ⟨_,h1⟩ | ⟨g,cap,cur,rfl,hb,hg,_⟩
 ·omega
 ·exact⟨_,_,_,cur,E,(0,0),rfl,hg,hp g rfl⟩
theorem gH.iL{p:Nat->TypeId->Prop}{w:World}{v:Value}{k:Nat}{rs:List (Array Value)}(h:aQ w v k rs)(hk:0<k)(hs:dC k rs)(hp : ∀b t,b<w.heap.size->p b t):gH p w v k rs:=by
 refine⟨h,fun h0 => ?_⟩
 obtain⟨r0,Sw⟩ : ∃r,rs[0]? = some r:=⟨_,List.getElem?_eq_getElem h0⟩;have hr:=hs r0 (List.mem_of_getElem? Sw);obtain⟨u0,VY⟩ : ∃u,r0[0]? = some u:=⟨_,Array.getElem?_eq_getElem (by omega)⟩
 obtain⟨ao,cap,rfl,h1,h2⟩:=h.shape;obtain⟨b,off,rfl,hlt,hc⟩:=h.places Sw VY;obtain⟨cs,t,fr,hb⟩:=kz (hc w (Below.refl _ w) 0 _ Sw 0 _ VY);exact⟨_,_,_,cs,t,fr,rfl,hb,hp _ _ (aK hb)⟩
section
variable {α : Type} (k : Nat) (cells : α -> Value -> Array Value) (bytes : α -> List UInt8)
def rowsOf(ps:List (α × Value)):List (Array Value):=ps.map fun q=>cells q.1 q.2
def cJ(p:Nat->TypeId->Prop)(w:World)(v:Value)(l:List α):Prop :=
 ∃ps:List (α × Value),l=ps.map (·.1)∧gH p w v k (rowsOf cells ps) ∧ ∀q∈ps,aS p w q.2 (bytes q.1)
def bb(p:Nat->TypeId->Prop)(w:World)(base:Nat)(E:TypeId)(v:Value)(l:List α):Prop :=
 ∃ps:List (α × Value),l=ps.map (·.1)∧aU w base E k v (rowsOf cells ps) ∧ ∀q∈ps,aS p w q.2 (bytes q.1)
end
section
variable {α : Type} {k : Nat} {cells : α -> Value -> Array Value} {bytes : α -> List UInt8}
theorem eM(hc : ∀a u,(cells a u).size=k∧(u.oneCell' = true->(cells a u).all (·.oneCell')=true)){ps:List (α × Value)}(h : ∀q∈ps,q.2.oneCell' = true):dC k (rowsOf cells ps):=fun r hr=>by
 obtain⟨q,hq,rfl⟩:=List.mem_map.1 hr;exact⟨(hc q.1 q.2).1,(hc q.1 q.2).2 (h q hq)⟩
theorem aS.one{p:Nat->TypeId->Prop}{w:World}{v:Value}{l:List UInt8}(h:aS p w v l):v.oneCell' = true:=by
 obtain⟨ao,cap,rfl⟩:=h.1.shape
 rfl
theorem gj(ps:List (α × Value)):(rowsOf cells ps).length=(ps.map (·.1)).length:=by simp[rowsOf]
theorem cJ.keep{p:Nat->TypeId->Prop}{w w' : World}{v:Value}{l:List α}(h:cJ k cells bytes p w v l)(hk:dS p w w'):cJ k cells bytes p w' v l:=by
 obtain⟨ps,e,h1,h2⟩:=h;exact⟨ps,e,h1.keep hk,fun q hq=>(h2 q hq).keep hk⟩
theorem cJ.imp{p p' : Nat->TypeId->Prop}{w:World}{v:Value}{l:List α}(h:cJ k cells bytes p w v l)(hp : ∀b cs t fr,w.heap[b]? = some (.cells cs t fr)->p b t->p' b t):cJ k cells bytes p' w v l:=by
 obtain⟨ps,e,h1,h2⟩:=h;exact⟨ps,e,h1.imp hp,fun q hq=>(h2 q hq).imp hp⟩
theorem cJ.below{p:Nat->TypeId->Prop}{w w' : World}{v:Value}{l:List α}(h:cJ k cells bytes p w v l)(hb:Below w.heap.size w w'):cJ k cells bytes p w' v l:=h.keep (dS.bp hb)
theorem cJ.shape{p:Nat->TypeId->Prop}{w:World}{v:Value}{l:List α}(h:cJ k cells bytes p w v l) : ∃ao cap,v = .slice ao l.length cap∧l.length<=cap∧cap<=9223372036854775807:=by
 obtain⟨ps,e,h1,_⟩:=h;obtain⟨ao,cap,h3,h4,h5⟩:=aQ.shape h1.1;rw[gj, <- e]at h3 h4
 exact⟨ao,cap,h3,h4,h5⟩
theorem cJ.places{p:Nat->TypeId->Prop}{w:World}{ao:Option Addr}{n cap:Nat}{l:List α}(h:cJ k cells bytes p w (.slice ao n cap) l)(hc : ∀a u,∃v,(cells a u)[0]? = some v)(hl:0<l.length) :
 ∃b off,ao=some ⟨b,off,none⟩∧b<w.heap.size ∧ ∀(i:Nat) (a:α),l[i]? = some a -> ∃u,aS p w u (bytes a) ∧ ∀w', Below w.heap.size w w' -> ∀j v,(cells a u)[j]? = some v->w'.cell? ⟨b,off+(i*k+j),none⟩=some v:=by
 obtain⟨ps,e,h1,h2⟩:=h;subst e;rw[List.length_map]at hl
 obtain⟨q0,UD⟩ : ∃q,ps[0]? = some q:=⟨_,List.getElem?_eq_getElem hl⟩;obtain⟨v0,hv0⟩:=hc q0.1 q0.2;obtain⟨b,off,e,hlt,hcell⟩:=aQ.places h1.1 (r0:=cells q0.1 q0.2) (u0:=v0) (by simp[rowsOf,UD]) hv0
 refine⟨b,off,e,hlt,fun i a hi => ?_⟩
 rw[List.getElem?_map,Option.map_eq_some_iff]at hi
 obtain⟨q,hq,rfl⟩:=hi;exact⟨q.2,h2 q (List.mem_of_getElem? hq),fun w' hb j v hv=>hcell w' hb i (cells q.1 q.2) (by simp[rowsOf,hq]) j v hv⟩
theorem bb.reads{p:Nat->TypeId->Prop}{w:World}{base:Nat}{E:TypeId}{v:Value}{l:List α}(h:bb k cells bytes p w base E v l)(hc : ∀a u,(cells a u).size=k∧(u.oneCell' = true->(cells a u).all (·.oneCell')=true))(hp : ∀g,v.ownBlock=some g->p g E):cJ k cells bytes p w v l:=by
 obtain⟨ps,e,h1,h2⟩:=h;exact⟨ps,e,gH.own h1 (eM hc fun q hq=>(h2 q hq).one) hp,h2⟩
theorem bb.bare(p:Nat->TypeId->Prop)(w:World)(base:Nat)(E:TypeId):bb k cells bytes p w base E (.slice none 0 0) []:=⟨[],rfl,aU.empty w base E k,fun q hq=>by simp at hq⟩
theorem bb.stays{p:Nat->TypeId->Prop}{w w' : World}{base:Nat}{E:TypeId}{v:Value}{l:List α}(h:bb k cells bytes p w base E v l)(hb : ∀g,v.ownBlock=some g->w'.heap[g]? = w.heap[g]?)(hk:dS p w w'):bb k cells bytes p w' base E v l:=by
 obtain⟨ps,e,h1,h2⟩:=h;exact⟨ps,e,h1.stays hb,fun q hq=>(h2 q hq).keep hk⟩
theorem bb.below{p:Nat->TypeId->Prop}{w w' : World}{base:Nat}{E:TypeId}{v:Value}{l:List α}(h:bb k cells bytes p w base E v l)(hb:Below w.heap.size w w'):bb k cells bytes p w' base E v l:=by
 refine h.stays (fun g e => ?_) (dS.bp hb)
 obtain⟨ps,_,h1,_⟩:=h;obtain⟨cs,hc,_⟩:=aU.cells h1 e;exact hb.block g (aK hc)
theorem bb.imp{p p' : Nat->TypeId->Prop}{w:World}{base:Nat}{E:TypeId}{v:Value}{l:List α}(h:bb k cells bytes p w base E v l)(hp : ∀b cs t fr,w.heap[b]? = some (.cells cs t fr)->p b t->p' b t):bb k cells bytes p' w base E v l:=by
 obtain⟨ps,e,h1,h2⟩:=h;exact⟨ps,e,h1,fun q hq=>(h2 q hq).imp hp⟩
theorem bb.snoc{P:Program}{p:Nat->TypeId->Prop}{w:World}{base:Nat}{E t:TypeId}(ty:TypeId){sz:Nat}{z:Value}{v:Value}{l:List α}(h:bb k cells bytes p w base E v l)(hc : ∀a u,(cells a u).size=k∧(u.oneCell' = true->(cells a u).all (·.oneCell')=true))
 (ht:P.underlying t=some (.slice E)) (hi:(P.info? E).map (fun i=>(i.zero,i.size,i.bytes))=some (some z,k,sz)) (TW:z.cells.size=k) (hk:0<k) (hbase:base<=w.heap.size) (a:α) (u:Value) {g:Nat} (hg:ae w g E (cells a u)) (hu:aS p w u (bytes a))
 (hlen:(l.length+1)*sz<=140737488355328) (sK:l.length+1<=140737488355328) (hp : ∀g,base<=g -> ¬p g E) :
 ∃v' w', (Builtin.append_ #[t,t] ty #[v, .slice (some ⟨g,0,none⟩) 1 1]).run P w = .ok v' w' ∧ bb k cells bytes p w' base E v' (l ++ [a])∧w.grownBy w' v.ownBlock∧(v'.ownBlock=v.ownBlock∨v'.ownBlock=some w.heap.size):=by
 obtain⟨ps,e,h1,h2⟩:=h;subst e;have hl:(rowsOf cells ps).length=(ps.map (·.1)).length:=gj ps
 obtain⟨v', w', hrun,h3,h4,h5⟩:=bG (P:=P) t ty E k sz z ht hi TW hk base (rowsOf cells ps) [cells a u] v _ h1 (aQ.single hg) (fun r hr=>by
  obtain rfl:r=cells a u:=by simpa using hr
  exact⟨(hc a u).1,(hc a u).2 hu.one⟩) (by rw[hl];exact hlen) (by rw[hl];exact sK) hbase
 have zI : dS p w w' := dS.aI h4 fun g' cs t' fr e' hcs=>by
  obtain⟨cs', hc', hb'⟩:=aU.cells h1 e';rw[hc']at hcs
  cases hcs;exact hp g' hb'
 refine⟨v', w', hrun,⟨ps ++ [(a,u)],by simp,by simpa[rowsOf] using h3,fun q hq => ?_⟩,h4,h5⟩
 rcases List.mem_append.1 hq with hq | hq
 ·exact(h2 q hq).keep zI
 ·obtain rfl:q=(a,u):=by simpa using hq
  exact hu.keep zI
theorem bb.blocks{p:Nat->TypeId->Prop}{w:World}{base:Nat}{E:TypeId}{v:Value}{l:List α}(h:bb k cells bytes p w base E v l){g:Nat}(e:v.ownBlock=some g) : ∃cs,w.heap[g]? = some (.cells cs E (0,0))∧base<=g:=by
 obtain⟨ps,_,h1,_⟩:=h;exact aU.cells h1 e
end
end
end Go.Proofs.YtdkdjofnnnljjaaGreatDoor

namespace Go.Proofs.YtdkdjofnnnljjaaGreatDoor
open Go.RowKit
set_option maxHeartbeats 3200000
set_option maxRecDepth 20000
theorem rT(x:Int)(w:World):Calls Tryz.prog 198 #[.int .i64 x] w (Says w (.bool false)):=by
 have h:(x != x)=false:=by simp
 go_enter Tryz.func198,Tryz.ntmps198
 go_wp2;go_ret;exact⟨bu (by simp),rfl⟩
def Cf.cmp(x y:Int):Int:=if x<y then -1 else if y<x then 1 else 0
theorem OI(x y:Int)(w:World):Calls Tryz.prog 171 #[.int .i64 x, .int .i64 y] w (Says w (.int .i64 (Cf.cmp x y))):=by
 go_enter Tryz.func171,Tryz.ntmps171
 by_cases h1:x<y
 ·go_wp2_with (go_at_call 198;refine(rT _ _).mono ?_;rintro e w' ⟨rfl,rfl⟩)
  go_ret;exact⟨ie (by unfold Cf.cmp;rw[if_pos (by omega)]),rfl⟩
 ·by_cases h2:y<x
  ·go_wp2_with (go_at_call 198;refine(rT _ _).mono ?_;rintro e w' ⟨rfl,rfl⟩)
   go_ret;exact⟨ie (by unfold Cf.cmp;rw[if_neg (by omega),if_pos (by omega)]),rfl⟩
  ·go_wp2_with (go_at_call 198;refine(rT _ _).mono ?_;rintro e w' ⟨rfl,rfl⟩)
   go_ret;exact⟨ie (by unfold Cf.cmp;rw[if_neg (by omega),if_neg (by omega)]),rfl⟩
theorem Cf.OJ(f x:Int):Cf.cmp f x<0↔f<x:=by
 unfold Cf.cmp;split
 ·omega
 ·split<;>omega
theorem Cf.MG(f x:Int):Cf.cmp f x=0↔f=x:=by
 unfold Cf.cmp;split
 ·omega
 ·split<;>omega
section
open Go.RowKit Go.Shelf
theorem vE(e:En.bz)(x:Int)(w:World):Calls Tryz.prog 170 #[.agg (En.cells e), .int .i64 x] w (Looks w (.int .i64 (Cf.cmp e.index x))):=by
 obtain⟨w1,e1,aH,aq,hz1⟩:=qG w e;obtain⟨p0,_⟩:=dL.pK aH;have aG:=aa aq;clear aH aq hz1
 go_enter Tryz.func170,Tryz.ntmps170
 go_wp2_with (go_at_call 171;refine(OI _ _ _).mono ?_;rintro e w' ⟨rfl,rfl⟩)
 go_ret;exact⟨rfl,aG.out⟩
theorem Cv(v:Value)(l:List En.bz)(x:Int)(w:World)(hv:aW w v l)(hp:En.eD l)(hn:l.length<=1048576) :
 Calls Tryz.prog 169 #[v, .int .i64 x, .func (.func 170) #[] #[]] w (Looks w (.tuple #[.int .i64 (En.below l x:Nat), .bool (En.found l x)])):=by
 obtain⟨ao,cap,rfl,hc1,hc2⟩:=aW.shape hv;have HP:=aa (fun h=>aW.places hv h)
 have nz:=En.jJ l x;have HI:=aa (En.nI l x hp);obtain⟨B,hB⟩ : ∃B,B=En.below l x:=⟨_,rfl⟩;have HF:Hid (En.found l x=(l[B]?).any fun c=>decide (c.index=x)):=by show _=_;rw[hB];rfl
 obtain⟨F,hF⟩ : ∃F,F=En.found l x:=⟨_,rfl⟩;rw[<- hF]at HF ⊢
 rw[<- hB]at nz HI ⊢
 obtain⟨n,hnn⟩ : ∃n,n=l.length:=⟨_,rfl⟩;rw[<- hnn]at hc1 nz hn ⊢
 have HN:=aa hnn;clear hv hp hB hF hnn
 go_enter Tryz.func169,Tryz.ntmps169
 go_wp2
 go_loopw [9,10] (fun y z wr => ∃lo hi:Nat,y = .int .i64 (lo:Int)∧z = .int .i64 (hi:Int)∧lo<=B∧B<=hi∧hi<=n∧Below w.heap.size w wr) (fun y z _=>(intOf z).toNat - (intOf y).toNat)
 case atStart=>exact⟨0,n,rfl,rfl,by omega,nz,by omega,Below.refl _ _⟩
 case round =>
  obtain⟨lo,hi,rfl,rfl,hlo,hhi,hin,hBw⟩:=hrel;have MH:=aa hBw;clear hBw;by_cases hlh:lo<hi
  ·obtain⟨m,hm⟩ : ∃m,m=(lo+hi) / 2:=⟨_,rfl⟩
   have CD:lo<=m:=by omega
   have zH:m<hi:=by omega
   have Ns:((lo:Int)+(hi:Int)) / 2=(m:Int):=by omega
   obtain⟨c,hcm⟩ : ∃c,l[m]? = some c:=⟨_,List.getElem?_eq_getElem (by have:=HN.out;omega)⟩
   obtain⟨g,off,rfl,kH,hcell⟩:=HP.out (by have:=HN.out;omega)
   have HC:=aa (hcell wr MH.out m c hcm);have qi:=HI.out m c hcm;obtain⟨z,hz⟩ : ∃z,z=Cf.cmp c.index x:=⟨_,rfl⟩;have OK:z<0↔c.index<x:=by rw[hz];exact Cf.OJ _ _
   have bY:=fun W=>vE c x W
   rw[<- hz]at bY
   have HZ:=aa hz;clear hz hcell hcm hm;by_cases hmB:m<B
   ·have hz0:z<0:=by rw[OK,qi];exact hmB
    clear qi OK
    go_wp2_with (first | (refine cB rfl _ rfl g (off+m*10) c rfl HC.out ?_) | (go_at_call 170;refine(bY _).mono ?_;rintro e w' ⟨rfl,Nl⟩))
    go_roundw
    case rel=>exact⟨m+1,hi,by go_num,rfl,by omega,hhi,hin,MH.trans (Nl.mono MH.size)⟩
    case measure=>simp[intOf];omega
   ·have hz0 : ¬z<0:=by rw[OK,qi];exact hmB
    clear qi OK
    go_wp2_with (first | (refine cB rfl _ rfl g (off+m*10) c rfl HC.out ?_) | (go_at_call 170;refine(bY _).mono ?_;rintro e w' ⟨rfl,Nl⟩))
    go_roundw
    case rel=>exact⟨lo,m,rfl,rfl,hlo,by omega,by omega,MH.trans (Nl.mono MH.size)⟩
    case measure=>simp[intOf];omega
  ·obtain rfl:lo=B:=by omega
   obtain rfl:hi=lo:=by omega
   by_cases ac2:hi<n
   ·obtain⟨c,hcm⟩ : ∃c,l[hi]? = some c:=⟨_,List.getElem?_eq_getElem (by have:=HN.out;omega)⟩
    obtain⟨g,off,rfl,kH,hcell⟩:=HP.out (by have:=HN.out;omega)
    obtain⟨c0,c1,c2,c3,c4,c5,c6,c7,c8,c9⟩:=hcell wr MH.out hi c hcm;obtain⟨z,hz⟩ : ∃z,z=Cf.cmp c.index x:=⟨_,rfl⟩;have OK:z=0↔c.index=x:=by rw[hz];exact Cf.MG _ _
    have bY:=fun W=>vE c x W
    rw[<- hz]at bY
    have HFc:Hid (F=decide (c.index=x)):=by show _=_;rw[HF.out,hcm];rfl
    clear hz hcell hcm;by_cases hz0:z=0
    ·have UN:Hid (F=true):=by show _=_;rw[HFc.out];exact decide_eq_true (OK.1 hz0)
     subst hz0;clear OK
     go_wp2_with (go_at_call 170;refine(bY _).mono ?_;rintro e w' ⟨rfl,Nl⟩)
     go_ret2
     exact⟨by rw[UN.out];rfl,MH.trans (Nl.mono MH.size)⟩
    ·have UN:Hid (F=false):=by show _=_;rw[HFc.out];exact decide_eq_false (fun h=>hz0 (OK.2 h))
     have hz1:(z == 0)=false:=by simpa using hz0
     clear OK
     go_wp2_with (go_at_call 170;refine(bY _).mono ?_;rintro e w' ⟨rfl,Nl⟩)
     go_ret2
     exact⟨by rw[UN.out];rfl,MH.trans (Nl.mono MH.size)⟩
   ·have UN:Hid (F=false):=by show _=_;rw[HF.out,List.getElem?_eq_none (by have:=HN.out;omega)];rfl
    go_wp2
    go_ret2
    exact⟨by rw[UN.out];rfl,MH.out⟩
end
def qK(w:World)(l:List En.bz)(e:Ending)(w' : World):Prop := ∃v,e = .returned v∧aU w' w.heap.size 129 10 v (l.map En.cells)∧Below w.heap.size w w'
theorem qL(w:World)(ao:Option Addr)(n cap f:Nat)(hf:f<=n) :
 (Instr.slice 31 (.slice ao n cap) (some (.int .i64 (f:Int))) none none).run Tryz.prog w = .ok (sliced ao f n cap 10) w:=by
 have he:Tryz.prog.elem 31=129:=by kernel_rfl
 have hi:(Tryz.prog.info? 129).isSome=true:=by kernel_rfl
 obtain⟨i,hi⟩:=Option.isSome_iff_exists.1 hi;have hrun:=run_slice_l (P:=Tryz.prog) (w:=w) 31 ao n cap (by rw[he];exact Tryz.underlying31) .i64 (f:Int) (by omega) (by omega)
 rw[he]at hrun
 refine hrun.trans ?_;rw[run_sizeOf _ hi,show Tryz.prog.cellsOf 129=10 by kernel_rfl]
 simp only[Result.andThen,Int.toNat_natCast]
theorem kG(w:World)(ao:Option Addr)(n cap f:Nat)(hf:f<=cap) :
 (Instr.slice 31 (.slice ao n cap) none (some (.int .i64 (f:Int))) none).run Tryz.prog w = .ok (sliced ao 0 f cap 10) w:=by
 have he:Tryz.prog.elem 31=129:=by kernel_rfl
 have hi:(Tryz.prog.info? 129).isSome=true:=by kernel_rfl
 obtain⟨i,hi⟩:=Option.isSome_iff_exists.1 hi;have hrun:=run_slice_h (P:=Tryz.prog) (w:=w) 31 ao n cap (by rw[he];exact Tryz.underlying31) .i64 (f:Int) (by omega) (by omega)
 rw[he]at hrun
 refine hrun.trans ?_;rw[run_sizeOf _ hi,show Tryz.prog.cellsOf 129=10 by kernel_rfl]
 simp only[Result.andThen,Int.toNat_natCast]
theorem pg(v:Value)(l:List En.bz)(w:World)(hv:aW w v l)(hn:l.length<=1048576) :
 Calls Tryz.prog 102 #[v] w (qK w l):=by
 obtain⟨ao,cap,rfl,hc1,hc2⟩:=aW.shape hv;have q22 : ∀(w:World) (a:Option Addr) (n c n' c' : Nat),(binOp .eql 31 (.slice a n c) (.slice none n' c')).run Tryz.prog w = .ok (.bool a.isNone) w:=fun w a n c n' c' => Lib.run_eql_slice_nil w _ _ a n c n' c' Tryz.underlying31
 cases ao with
 | none =>
  obtain⟨_,h1,h2,_⟩:=aQ.len hv;have h3:=h2 rfl;obtain rfl:l = []:=List.eq_nil_of_length_eq_zero (by omega)
  go_enter Tryz.func102,Tryz.ntmps102
  go_wp2;go_ret;exact⟨_,rfl,aU.empty _ _ _ _,Below.refl _ _⟩
 | some a =>
  have HV:Hid (aW (w.alloc (.cells #[] 129)) (.slice (some a) l.length cap) l):=aQ.below hv ((Below.refl _ w).alloc (Nat.le_refl _) _);have HL:Hid ((l.map En.cells).length=l.length):=by show _=_;simp
  obtain⟨n,hnn⟩ : ∃n,n=l.length:=⟨_,rfl⟩;rw[<- hnn]at hn HV HL ⊢
  have HN:=aa hnn;clear hv hc1 hnn
  go_enter Tryz.func102,Tryz.ntmps102
  go_wp2_with (at_builtin;refine kj rfl _ _ 31 129 10 104 (.agg (En.cells En.zero)) rfl Tryz.underlying31 qH rfl (by decide) w.heap.size [] (l.map En.cells) _ _ rfl rfl (World.ownsRow_made w #[] 0 (Nat.le_refl _) (Nat.zero_le _) (by simp)) HV.out (En.sized l) (by rw[HL.out];simp;omega) (by rw[HL.out];simp;omega) w ((Below.refl _ w).alloc (Nat.le_refl _) _) (Nat.le_refl _) ?_;intro v' w' zr hb' _)
  all_goals
   rw[List.nil_append]at zr
   obtain⟨EX, cap', kB⟩:=zr.shape;have HO:=aa zr;rw[HL.out]at kB
   clear zr;subst kB;go_wp2;go_ret;exact⟨_,rfl,HO.out,hb'⟩
theorem Iz(n:Nat)(w:World)(h0:0<n)(hn:n<=1048576) :
 Calls Tryz.prog 172 #[.slice none 0 0, .int .i64 (n:Int)] w (qK w []):=by
 obtain⟨i,hi,hz,hs,hb⟩:=info_parts qH;obtain⟨G,hG⟩ : ∃G,G=grownCap w n 0 129:=⟨_,rfl⟩;have hG1:n<=G:=by rw[hG];exact grownCap_ge w _ _ _
 have Rz:G<=maxLen:=by rw[hG];exact grownCap_le_maxLen w _ _ _ (by unfold maxLen;omega)
 have hzs:(Value.agg (En.cells En.zero)).cells.size=10:=rfl;obtain⟨C,hC⟩ : ∃C:Array Value,C=(([]:List Value).toArray++Builtin.zeroCells (Value.agg (En.cells En.zero)).cells n++Builtin.zeroCells (Value.agg (En.cells En.zero)).cells (G - n)):=⟨_,rfl⟩;have Yf:C.size=G*10:=by rw[hC];simp only[Array.size_append,size_zeroCells,hzs,List.size_toArray,List.length_nil];omega
 have hrun : ∀ty,(Builtin.append_ #[31,3] ty #[.slice none 0 0, .int .i64 (n:Int)]).run Tryz.prog w = .ok (.slice (some ⟨w.heap.size,0,none⟩) n G) (w.drew.alloc (.cells C 129)):=by
  intro ty
  have h:=Lib.run_append_grow_zeros (P:=Tryz.prog) w 31 3 ty 129 i (.agg (En.cells En.zero)) .i64 .i64 Tryz.underlying31 Tryz.underlying3 hi hz none 0 0 [] (run_firstCells_none w.drew i.size 0 0 0) n h0 (by omega) (by omega) (by omega) (by rw[hb];omega) (by rw[Nat.zero_add,nextslicecap_zero (by omega),hb];omega)
  rw[Nat.zero_add, <- hG, <- hC]at h
  exact h
 have GM : ∀W:World,(Instr.slice 31 (.slice (some ⟨w.heap.size,0,none⟩) n G) none (some (.int .i64 0)) none).run Tryz.prog W = .ok (.slice (some ⟨w.heap.size,0,none⟩) 0 G) W:=fun W=>by
  have h:=kG W (some ⟨w.heap.size,0,none⟩) n G 0 (Nat.zero_le _);rw[show sliced (some (⟨w.heap.size,0,none⟩:Addr)) 0 0 G 10 = .slice (some ⟨w.heap.size,0,none⟩) 0 G by simp[sliced,Addr.add_lit]]at h
  exact h
 have W8 : ∀W:World,(Instr.slice 31 (.slice none 0 0) none (some (.int .i64 0)) none).run Tryz.prog W = .ok (.slice none 0 0) W:=fun W=>by
  have h:=kG W none 0 0 0 (Nat.zero_le _);rw[show sliced none 0 0 0 10 = .slice none 0 0 by simp[sliced]]at h
  exact h
 clear hG hC;have ug:Hid (aU (w.drew.alloc (.cells C 129)) w.heap.size 129 10 (.slice (some ⟨w.heap.size,0,none⟩) 0 G) []):=⟨by simp[cV], .inr ⟨w.heap.size,G,C,rfl,Nat.le_refl _,heap_alloc_new w.drew _,by simp,Rz,by omega,by simp[cV]⟩⟩
 have TB:G<=9223372036854775807:=by unfold maxLen at Rz;omega
 clear Yf Rz hzs
 go_enter Tryz.func172,Tryz.ntmps172
 go_wp2_with (at_builtin;refine Lib.wpList_append_run _ rfl _ _ _ _ rfl _ _ rfl rfl _ _ (hrun _) ?_)
 all_goals
  go_ret;exact⟨_,rfl,ug.out,(Below.refl _ _).drew.alloc (Nat.le_refl _) _⟩
def RE(w:World)(H:Nat)(ls:List (List En.bz)):Prop := ∀k l,ls[k]? = some l -> ∃u,w.cell? ⟨H,k,none⟩=some u∧aW w u l
theorem pD{ls:List (List En.bz)}{k:Nat}{l:List En.bz}(h:ls[k]? = some l):(ls.take (k+1)).flatten=(ls.take k).flatten++l:=by
 rw[List.take_add_one,h,List.flatten_append];simp
theorem xW{ls:List (List En.bz)}{k:Nat}{l:List En.bz}(h:ls[k]? = some l):(ls.take k).flatten.length+l.length<=ls.flatten.length:=by
 have e:ls.flatten=(ls.take (k+1)).flatten++(ls.drop (k+1)).flatten:=by rw[<- List.flatten_append,List.take_append_drop]
 rw[e,List.length_append,pD h,List.length_append];omega
theorem Cw(H:Nat)(ls:List (List En.bz))(w:World)(hv:RE w H ls)(h3:ls.length=3)(h0:0<ls.flatten.length)(hlen:ls.flatten.length<=1048576) :
 Calls Tryz.prog 144 #[.slice (some ⟨H,0,none⟩) 3 3] w (qK w ls.flatten):=by
 have HC:=aa hv;have H0:=aa h0;have H3:=aa h3;clear hv h0 h3
 go_enter Tryz.func144,Tryz.ntmps144
 go_wp2
 go_loop [3,11] (fun s i => ∃k S:Nat,i = .int .i64 (k:Int)∧s = .int .i64 (S:Int)∧k<=3∧S<=1048576∧Hid (S=(ls.take k).flatten.length)) (fun _ i=>3 - (intOf i).toNat)
 case atStart=>exact⟨0,0,rfl,rfl,by omega,by omega,show 0=_ by simp⟩
 case round =>
  obtain⟨k,S,rfl,rfl,hk,hS,HS⟩:=hrel;by_cases hlt:k<3
  ·obtain⟨l,hl⟩ : ∃l,ls[k]? = some l:=⟨_,List.getElem?_eq_getElem (by have:=H3.out;omega)⟩
   obtain⟨u,hu,hr⟩:=HC.out k l hl;obtain⟨uo,Ea,rfl,_,_⟩:=aW.shape hr;have hle:=xW hl;have H1:Hid (S+l.length=(ls.take (k+1)).flatten.length):=by show _=_;rw[pD hl,List.length_append,HS.out]
   have XN:S+l.length<=1048576:=by have:=HS.out;omega
   clear hr hl hle;go_wp2
   go_round
   case rel=>exact⟨k+1,S+l.length,by go_num,by go_num,by omega,XN,H1⟩
   case measure=>simp[intOf];omega
  ·have XO:Hid (S=ls.flatten.length):=by show _=_;rw[HS.out,List.take_of_length_le (by have:=H3.out;omega)]
   have XP:0<S:=by have:=XO.out;have:=H0.out;omega
   clear HS
   go_wp2_with fail
   refine(Iz S w XP (by omega)).mono ?_
   rintro e w1 ⟨v1,rfl,lj,hb1⟩
   go_wp2_with fail
   go_loopw [6,27] (fun x i wr => ∃k:Nat,i = .int .i64 (k:Int)∧k<=3∧aU wr w.heap.size 129 10 x ((ls.take k).flatten.map En.cells)∧Below w.heap.size w wr) (fun _ i _=>3 - (intOf i).toNat)
   case atStart=>exact⟨0,rfl,by omega,by simpa using lj,hb1⟩
   case round =>
    clear lj hb1;obtain⟨k,rfl,hk,ho,hb⟩:=hrel;by_cases hlt:k<3
    ·obtain⟨l,hl⟩ : ∃l,ls[k]? = some l:=⟨_,List.getElem?_eq_getElem (by have:=H3.out;omega)⟩
     obtain⟨u,hu,hr⟩:=HC.out k l hl;obtain⟨uo,Ea,rfl,_,_⟩:=aW.shape hr;have hle:=xW hl;have hu' : wr.cell? ⟨H,k,none⟩=some (.slice uo l.length Ea):=(hb.cell (p:=⟨H,k,none⟩) (World.block_lt_of_cell? w _ hu)).trans hu;have HR:=aa (aQ.below hr hb);have jX:Hid (((ls.take k).flatten.map En.cells).length+(l.map En.cells).length<=1048576):=by show _<=_;rw[List.length_map,List.length_map];omega
     have H2:Hid ((ls.take (k+1)).flatten.map En.cells=(ls.take k).flatten.map En.cells++l.map En.cells):=by show _=_;rw[pD hl,List.map_append]
     have HO:=aa ho;have HB:=aa hb;clear hu hr hle hl ho hb
     go_wp2_with (at_builtin;refine kj rfl _ _ 31 129 10 104 (.agg (En.cells En.zero)) rfl Tryz.underlying31 qH rfl (by decide) w.heap.size _ (l.map En.cells) _ _ rfl rfl HO.out HR.out (En.sized l) (by have:=jX.out;omega) (by have:=jX.out;omega) w HB.out (Nat.le_refl _) ?_;intro v' w' zr hb' _)
     go_roundw
     case rel=>exact⟨k+1,by go_num,by omega,by rw[H2.out];exact zr, hb'⟩
     case measure=>simp[intOf];omega
    ·rw[List.take_of_length_le (by have:=H3.out;omega)]at ho
     go_wp2;go_ret;exact⟨_,rfl,ho,hb⟩
theorem rU(v:Value)(l:List En.bz)(x:Int)(w:World)(hv:aW w v l)(hp:En.eD l)(hn:l.length<=1048576) :
 Calls Tryz.prog 143 #[v, .int .i64 x] w (Looks w (.tuple #[.int .i64 (En.below l x:Nat), .int .i64 (En.upto l x:Nat)])):=by
 have bY:=Cv v l x w hv hp hn;obtain⟨ao,cap,rfl,_,_⟩:=aW.shape hv;have nz:=En.jJ l x;obtain⟨U,hU⟩ : ∃U,U=En.upto l x:=⟨_,rfl⟩;rw[<- hU];unfold En.upto at hU
 obtain⟨B,hB⟩ : ∃B,B=En.below l x:=⟨_,rfl⟩;obtain⟨F,hF⟩ : ∃F,F=En.found l x:=⟨_,rfl⟩;rw[<- hB, <- hF]at hU bY
 rw[<- hB]at nz ⊢
 have ZE:B<=1048576:=by omega
 obtain⟨n,hnn⟩ : ∃n,n=l.length:=⟨_,rfl⟩;rw[<- hnn]at bY ⊢
 clear hv hp hn nz hB hF hnn;cases F with
 | true =>
  have hU1:(B:Int)+1=(U:Int):=by simp at hU;omega
  clear hU
  go_enter Tryz.func143,Tryz.ntmps143
  go_wp2_with (go_at_call 169;refine bY.mono ?_;rintro e w1 ⟨rfl,aq⟩)
  go_ret2
  exact⟨rfl,aq⟩
 | false =>
  obtain rfl:U=B:=by simpa using hU
  clear hU
  go_enter Tryz.func143,Tryz.ntmps143
  go_wp2_with (go_at_call 169;refine bY.mono ?_;rintro e w1 ⟨rfl,aq⟩)
  go_ret2
  exact⟨rfl,aq⟩
theorem Kn(v:Value)(l:List En.bz)(x:Int)(w:World)(hv:aW w v l)(hp:En.eD l)(hn:l.length<=1048576) :
 Calls Tryz.prog 100 #[v, .int .i64 x] w (Looks w (.tuple #[.agg (En.cells (En.find l x)), .bool (En.found l x)])):=by
 obtain⟨w1,e1,aH,aq,hz1⟩:=qG w En.zero;dsimp only [En.cells,En.zero,Bl.zero,Cm.zero,Cm.aL]at e1
 have bY:=rU v l x w1 (hv.below aq) hp hn;have SA:=aa (hv.below aq);have dh:=aa aH;have aG:=aa aq;obtain⟨ao,cap,rfl,hc1,hc2⟩:=aW.shape hv;have nz:=En.jJ l x;have EE:=En.yH l x;obtain⟨F,hF⟩ : ∃F,F=En.found l x:=⟨_,rfl⟩;have HF:=aa hF;obtain⟨U,hU⟩ : ∃U,U=En.upto l x:=⟨_,rfl⟩;obtain⟨B,hB⟩ : ∃B,B=En.below l x:=⟨_,rfl⟩;have SI:U=B+(if En.found l x=true then 1 else 0):=by rw[hU,hB];rfl
 have vM:=aa hB;rw[<- hB, <- hU]at bY
 rw[<- hF]at SI ⊢
 rw[<- hB]at nz
 rw[<- hU]at EE
 obtain⟨n,hnn⟩ : ∃n,n=l.length:=⟨_,rfl⟩;rw[<- hnn]at bY nz EE hn hc1 SA ⊢
 have HN:=aa hnn;clear aH aq hv hp hF hU hB hz1 hnn;cases F with
 | false =>
  have RF : U=B:=by simpa using SI
  subst RF;have HZ:Hid (En.find l x=En.zero):=En.NJ HF.symm;clear SI
  go_enter Tryz.func100,Tryz.ntmps100
  go_wp2_with (first | (refine cq (by rfl) _ _ (by rfl) w.heap.size En.zero En.zero (by rfl) (by rfl) ej.out ?_;intro w6 eZ dt) | (go_at_call 143;refine bY.mono ?_;rintro e w2 ⟨rfl,dN⟩;have ej:=aa (dh.below dN dh.lt);have aR:=aa (aG.trans (dN.mono aG.size));clear dN))
  refine Cg rfl rfl eZ rfl ?_;rw[HZ.out];exact⟨rfl,aR.grown dt aR.size (by rintro j hj;cases hj;exact Nat.le_refl _)⟩
 | true =>
  have RF : (B:Int)+1=(U:Int):=by simp at SI;omega
  have hne:((B:Int) == (U:Int))=false:=by simp;omega
  have O7:B<n:=by simp at SI;omega
  obtain⟨e0,Yo⟩ : ∃e0,l[B]? = some e0:=⟨_,List.getElem?_eq_getElem (by have:=HN.out;omega)⟩
  have HZ:Hid (En.find l x=e0):=En.JV HF.symm (by rw[<- vM.out];exact Yo)
  obtain⟨g,off,rfl,kH,hcell⟩:=aW.places SA.out (by have:=HN.out;omega)
  have HE:=aa Yo;have HC:=aa hcell;clear SI RF hcell Yo
  go_enter Tryz.func100,Tryz.ntmps100
  go_wp2_with (first | (refine cB rfl _ rfl g (off+B*10) e0 rfl (HC.out _ HBH.out B e0 HE.out) ?_) | (refine cq (by rfl) _ _ (by rfl) w.heap.size En.zero e0 (by rfl) (by rfl) ej.out ?_;intro w6 eZ dt) | (go_at_call 143;refine bY.mono ?_;rintro e w2 ⟨rfl,dN⟩;have HBH:=aa dN;have ej:=aa (dh.below dN dh.lt);have aR:=aa (aG.trans (dN.mono aG.size));clear dN))
  refine Cg rfl rfl eZ rfl ?_;rw[HZ.out];exact⟨rfl,aR.grown dt aR.size (by rintro j hj;cases hj;exact Nat.le_refl _)⟩
theorem Bu(v:Value)(l:List En.bz)(x:Int)(w:World)(hv:aW w v l)(hp:En.eD l)(hn:l.length<=1048576) :
 Calls Tryz.prog 101 #[v, .int .i64 x] w (qK w (l.drop (En.below l x))):=by
 have bY:=rU v l x w hv hp hn;obtain⟨ao,cap,rfl,hc1,hc2⟩:=aW.shape hv;have nz:=En.jJ l x;obtain⟨U,hU⟩ : ∃U,U=En.upto l x:=⟨_,rfl⟩;obtain⟨B,hB⟩ : ∃B,B=En.below l x:=⟨_,rfl⟩;rw[<- hB, <- hU]at bY
 rw[<- hB]at nz ⊢
 obtain⟨zD,hs,hr⟩:=aQ.part hv B l.length cap nz (Nat.le_refl _) hc1 (Nat.le_refl _);have UO:((l.map En.cells).take l.length).drop B=(l.drop B).map En.cells:=by rw[List.take_of_length_le (by simp),List.map_drop]
 rw[UO]at hr
 have HR:=aa hr;have GM:=fun W=>qL W ao l.length cap B nz
 rw[hs]at GM
 have HK:=aa (fun(W:World) h=>pg (.slice zD (l.length - B) (cap - B)) (l.drop B) W h (by rw[List.length_drop];omega))
 obtain⟨m,hm⟩ : ∃m,m=l.length - B:=⟨_,rfl⟩;obtain⟨c,hc⟩ : ∃c,c=cap - B:=⟨_,rfl⟩;rw[<- hm, <- hc]at GM HK HR
 obtain⟨n,hnn⟩ : ∃n,n=l.length:=⟨_,rfl⟩;rw[<- hnn]at bY GM ⊢
 clear hv hp hB hU hm hc hs hr UO hnn
 go_enter Tryz.func101,Tryz.ntmps101
 go_wp2_with (first | (go_at_call 143;refine bY.mono ?_;rintro e w2 ⟨rfl,dN⟩) | (go_at_call 102;refine(HK.out _ (HR.below dN)).mono ?_;rintro e w3 ⟨v3,rfl,fM,jx⟩))
 go_ret;exact⟨_,rfl,fM.mono dN.size,dN.trans (jx.mono dN.size)⟩
theorem MI(w:World)(cells:Array Value)(T:TypeId)(B:Obj):ae ((w.alloc (.cells cells T)).alloc B).drew w.heap.size T cells:=(ae.new w T cells).alloc B
theorem MJ(w:World)(A:Obj)(cells:Array Value)(T:TypeId):ae ((w.alloc A).alloc (.cells cells T)).drew (w.heap.size+1) T cells:=by
 have h:=ae.new (w.alloc A) T cells;rw[show(w.alloc A).heap.size=w.heap.size+1 by simp]at h
 exact h
theorem IA(w:World)(A B:Obj):Below w.heap.size w ((w.alloc A).alloc B).drew:=(((Below.refl _ w).alloc (Nat.le_refl _) A).alloc (by simp) B).drew
theorem Bt(v:Value)(l:List En.bz)(e:En.bz)(w:World)(hv:aW w v l)(hp:En.eD l)(hn:l.length<=1000000) :
 Calls Tryz.prog 99 #[v, .agg (En.cells e)] w (qK w (En.put l e)):=by
 obtain⟨w1,e1,aH,aq,hz1⟩:=qG w e;obtain⟨p0,_⟩:=dL.pK aH;have V7:=hv.below aq;have bY:=rU v l e.index w1 V7 hp (by omega)
 obtain⟨ao,cap,rfl,hc1,hc2⟩:=aW.shape hv;have nz:=En.jJ l e.index;have EE:=En.yH l e.index;have hbu:=En.ux l e.index;have UP:Hid (En.put l e = [l.take (En.below l e.index), [e],l.drop (En.upto l e.index)].flatten):=by show _=_;unfold En.put;simp
 obtain⟨U,hU⟩ : ∃U,U=En.upto l e.index:=⟨_,rfl⟩;obtain⟨B,hB⟩ : ∃B,B=En.below l e.index:=⟨_,rfl⟩;rw[<- hB, <- hU]at bY UP hbu
 rw[<- hB]at nz
 rw[<- hU]at EE
 obtain⟨zD,hs2,hr2⟩:=aQ.part V7 0 B cap (Nat.zero_le _) nz (by omega) (Nat.le_refl _)
 rw[Nat.sub_zero,Nat.sub_zero]at hs2 hr2
 rw[List.drop_zero, <- List.map_take]at hr2
 obtain⟨eu,hs3,hr3⟩:=aQ.part V7 U l.length cap EE (Nat.le_refl _) hc1 (Nat.le_refl _);have UO:((l.map En.cells).take l.length).drop U=(l.drop U).map En.cells:=by rw[List.take_of_length_le (by simp),List.map_drop]
 rw[UO]at hr3
 have bC:=aa hr2;have oH:=aa hr3;have UQ:=fun W=>kG W ao l.length cap B (by omega)
 have RG:=fun W=>qL W ao l.length cap U EE
 rw[hs2]at UQ
 rw[hs3]at RG
 have mR:Hid (0 < [l.take B, [e],l.drop U].flatten.length ∧ [l.take B, [e],l.drop U].flatten.length<=1048576):=⟨by simp;omega,by simp;omega⟩
 obtain⟨m,hm⟩ : ∃m,m=l.length - U:=⟨_,rfl⟩;obtain⟨c,hc⟩ : ∃c,c=cap - U:=⟨_,rfl⟩;rw[<- hm, <- hc]at RG oH
 obtain⟨n,hnn⟩ : ∃n,n=l.length:=⟨_,rfl⟩;rw[<- hnn]at bY UQ RG ⊢
 have dh:=aa aH;have aG:=aa aq;clear hv V7 hp hB hU hm hc hs2 hs3 hr2 hr3 UO hnn aH aq hz1 hn hbu nz EE hc1
 go_enter Tryz.func99,Tryz.ntmps99
 go_wp2_with fail
 refine bY.mono ?_;rintro e' w2 ⟨rfl,dN⟩;have aR:=aa dN;have ej:=aa (dh.below dN dh.lt);obtain⟨q0,q1,q2,q3,q4,q5,q6,q7,q8,q9⟩:=dL.pK ej.out;have HX:Hid (∀(W:World) (H:Nat),Below w2.heap.size w2 W->ae W H 31 #[.slice zD B cap, .slice (some ⟨w2.heap.size,0,none⟩) 1 1, .slice eu m c]->ae W w2.heap.size 129 (En.cells e)->Calls Tryz.prog 144 #[.slice (some ⟨H,0,none⟩) 3 3] W (qK w (En.put l e))):=by
  intro W H hb h1 h2
  have Yp:Below w.heap.size w W:=(aG.trans (aR.mono aG.size)).trans (hb.mono (Nat.le_trans aG.size aR.size));rw[UP.out];refine(Cw H _ W (fun k x hk => ?_) rfl mR.1 mR.2).mono fun e' w3 ⟨v3,h3,ho,h4⟩=>⟨v3,h3,ho.mono Yp.size,Yp.trans (h4.mono Yp.size)⟩
  match k with
  | 0=>simp at hk;subst hk;exact⟨_,h1.cell 0 _ rfl,(bC.below aR.out).below hb⟩
  | 1=>simp at hk;subst hk;exact⟨_,h1.cell 1 _ rfl,aQ.single h2⟩
  | 2=>simp at hk;subst hk;exact⟨_,h1.cell 2 _ rfl,(oH.below aR.out).below hb⟩
  | k+3=>simp at hk
 clear bY p0 dN;go_wp2
 go_region_law (first
  | (rw[if_pos (by rfl)];go_simp;go_at_call 144
     refine(HX.out _ _ (IA _ _ _) (MJ _ _ _ _) (MI _ _ _ _)).mono ?_;rintro e' w3 ⟨v3,rfl,fM,jx⟩;dsimp only))
 all_goals
  simp only[Act.put,List.getElem_toArray,List.getElem_cons_succ,List.getElem_cons_zero,List.setIfInBounds_toArray,List.set_cons_succ,List.set_cons_zero];go_wp2;go_ret;exact⟨_,rfl,fM,jx⟩
end Go.Proofs.YtdkdjofnnnljjaaGreatDoor

namespace Go.Proofs.YtdkdjofnnnljjaaGreatDoor
open Go.RowKit
set_option maxHeartbeats 6400000
set_option maxRecDepth 4000
theorem ia{ops:Array Oper}{rest:List Oper}{o:Oper}{a:Act}{Q:Exit->Act->World->Prop}(hgd:o.guard=none)(s x:Operand)
 (ho:o.op = .call { callee := .builtin .append,args := #[s,x],argTypes := #[31,31] })
 (w:World) (base:Nat) (l:List En.bz) (v:Value) (e:En.bz) (hs:a.eval s=v) (hx:a.eval x = .slice (some ⟨w.heap.size,0,none⟩) 1 1) (hown:aU w base 129 10 v (l.map En.cells)) (hlen:l.length<=1048576)
 (w0:World) (hb:Below base w0 w) (hbase:base<=w0.heap.size)
 (h : ∀v' w', aU w' base 129 10 v' ((l ++ [e]).map En.cells)->Below base w0 w' -> wpList Tryz.prog ops Q rest (a.put o.dst v') w'):wpList Tryz.prog ops Q (o :: rest) a (w.alloc (.cells (En.cells e) 129)):=by
 refine kj hgd s x 31 129 10 104 (.agg (En.cells En.zero)) ho Tryz.underlying31 qH rfl (by decide) base (l.map En.cells) [En.cells e] v _ hs hx (hown.alloc _) (aQ.single (ae.new w _ _)) (En.sized [e]) (by simp;omega) (by simp;omega) w0 (hb.alloc (by have:=hb.size;omega) _) hbase fun v' w' h1 h2 _=>h v' w' ?_ h2
 rw[List.map_append];exact h1
theorem lh{ops:Array Oper}{rest:List Oper}{op:Oper}{a:Act}{w:World}{Q:Exit->Act->World->Prop}(hgd:op.guard=none)(x:Operand)(ho:op.op = .load 129 x)
 (g o:Nat) (e:En.bz) (hx:a.eval x = .pointer (some ⟨g,o,none⟩)) (hl:df w g o e)
 (h:wpList Tryz.prog ops Q rest (a.put op.dst (.agg #[.int .i64 e.index, .int .i64 e.aF.round, .int .i64 e.aF.node, .int .i64 e.cmd.kind, .int .i64 e.cmd.bD, .int .i64 e.cmd.seq, .string ⟨e.cmd.key.toArray⟩, .string ⟨e.cmd.val.toArray⟩, .string ⟨e.cmd.old.toArray⟩, .int .i64 e.cmd.node])) w):wpList Tryz.prog ops Q (op :: rest) a w :=
 cB hgd x ho g o e hx hl h
theorem En.EG{l:List En.bz}{k:Nat}{a:En.bz}(h:l[k]? = some a)(e:En.bz):(l.take (k+1)).foldl (En.dQ e) ([],false)=En.dQ e ((l.take k).foldl (En.dQ e) ([],false)) a:=by
 rw[List.take_add_one,h,List.foldl_append];rfl
theorem En.w1(s:List En.bz)(e a:En.bz)(h:a.index=e.index):En.dQ e (s,true) a=(s,true):=by unfold En.dQ En.ahead;simp[h]
theorem En.w2(s:List En.bz)(e a:En.bz)(h : ¬a.index=e.index):En.dQ e (s,true) a=(s ++ [a],true):=by unfold En.dQ En.ahead;simp[h]
theorem En.w3(s:List En.bz)(e a:En.bz)(h:a.index=e.index):En.dQ e (s,false) a=(s ++ [e],true):=by unfold En.dQ En.ahead;simp[h]
theorem En.w4(s:List En.bz)(e a:En.bz)(h1:e.index<=a.index)(h : ¬a.index=e.index):En.dQ e (s,false) a=(s ++ [e] ++ [a],true):=by unfold En.dQ En.ahead;simp[h,h1]
theorem En.w5(s:List En.bz)(e a:En.bz)(h1 : ¬e.index<=a.index):En.dQ e (s,false) a=(s ++ [a],false):=by unfold En.dQ En.ahead;rw[if_pos (by omega),if_neg (fun h=>h1 h.2)]
theorem sQ(v:Value)(l:List En.bz)(e:En.bz)(w:World)(hv:aW w v l)(hn:l.length<=400000) :
 Calls Tryz.prog 108 #[v, .agg (En.cells e)] w (qK w (En.oX l e)):=by
 obtain⟨w1,e1,aH,aq,hz1⟩:=qG w e;obtain⟨ao,cap,rfl,hc1,hc2⟩:=aW.shape hv;have HP:=aa (fun h=>aW.places hv h)
 have dh:=aa aH;have aG:=aa aq;obtain⟨n,hnn⟩ : ∃n,n=l.length:=⟨_,rfl⟩;rw[<- hnn]at hc1 hn ⊢
 have HN:=aa hnn;obtain⟨Q,hQ⟩ : ∃Q,Q=qK w (En.oX l e):=⟨_,rfl⟩;rw[<- hQ];have HQ:Hid (∀e' w', qK w (En.oX l e) e' w' -> Q e' w'):=by intro e' w' h;rw[hQ];exact h
 clear hv hnn hQ aH aq hz1
 go_enter Tryz.func108,Tryz.ntmps108
 go_wp2
 go_loopw [5,6,7] (fun y d i wr => ∃(k:Nat) (s:List En.bz) (t:Bool),d = .bool t∧i = .int .i64 (k:Int)∧k<=n∧aU wr w1.heap.size 129 10 y (s.map En.cells)∧Hid ((l.take k).foldl (En.dQ e) ([],false)=(s,t))∧s.length<=2*k∧Below w1.heap.size w1 wr) (fun _ _ i _=>n - (intOf i).toNat)
 case atStart=>exact⟨0, [],false,rfl,rfl,by omega,aU.empty _ _ _ _,rfl,by simp,Below.refl _ _⟩
 case round =>
  obtain⟨k,s,t,rfl,rfl,hk,ho,HS,GM,hB⟩:=hrel;have HO:=aa ho;have HB:=aa hB;obtain⟨zo,zc,hz⟩:=ho.shape;rw[List.length_map]at hz
  have O8:Hid (s.length<=1048570):=by show _<=_;omega
  have UR:=aa GM;obtain⟨zl,hzl⟩ : ∃zl,zl=s.length:=⟨_,rfl⟩;rw[<- hzl]at hz
  clear ho hB hzl GM;subst hz;by_cases hlt:k<n
  ·obtain⟨a,ha⟩ : ∃a,l[k]? = some a:=⟨_,List.getElem?_eq_getElem (by have:=HN.out;omega)⟩
   obtain⟨g,off,rfl,kH,hcell⟩:=HP.out (by have:=HN.out;omega)
   have bj:Hid (∀W,Below w1.heap.size w1 W->df W g (off+k*10) a):=fun W hW=>hcell W (aG.trans (hW.mono aG.size)) k a ha
   have qM:Hid (∀W,Below w1.heap.size w1 W->dL W w.heap.size e):=fun W hW=>dh.below hW dh.lt
   have HST:=aa (En.EG ha e);clear hcell ha;cases t with
   | true =>
    by_cases hx:a.index=e.index
    ·have HZ:Hid ((l.take (k+1)).foldl (En.dQ e) ([],false)=(s,true)):=by show _=_;rw[HST.out,HS.out,En.w1 _ _ _ hx]
     have hx1:(a.index != e.index)=false:=by simpa using hx
     clear hx;go_wp2;have k0:=fun p' : bP wr=>(bj.out p'.world (HB.trans (p'.below.mono HB.size))).c0
     have k1:=fun p' : bP wr=>(dL.pK (qM.out p'.world (HB.trans (p'.below.mono HB.size)))).1
     refine bn (by kernel_rfl) (by kernel_rfl) ?_
     repeat (go_big_quiet_step (fail))
     refine wpQuiet_nil ?_;rintro w5 ⟨⟨w5,oD⟩,rfl⟩
     (try dsimp only)
     have iO:=aa (HB.trans (oD.mono HB.size));have zA:=aa (HO.keep oD (Nat.le_refl _));clear k0 k1 oD;go_wp2;have k0:=fun p' : bP w5=>(bj.out p'.world (iO.trans (p'.below.mono iO.size))).c0
     have k1:=fun p' : bP w5=>(dL.pK (qM.out p'.world (iO.trans (p'.below.mono iO.size)))).1
     refine bn (by kernel_rfl) (by kernel_rfl) ?_
     repeat (go_big_quiet_step (fail))
     refine wpQuiet_nil ?_;rintro w7 ⟨⟨w7,zB⟩,rfl⟩
     (try dsimp only)
     have tu:=aa (iO.trans (zB.mono iO.size));have zC:=aa (zA.keep zB (Nat.le_refl _));clear k0 k1 zB;go_wp2
     go_roundw
     case rel=>exact⟨k+1,s,true,rfl,by go_num,by omega,zC.out,HZ.out,by have:=UR.out;first | omega | (simp only[List.length_append,List.length_cons,List.length_nil];omega),tu.out⟩
     case measure=>simp[intOf];omega
    ·have HZ:Hid ((l.take (k+1)).foldl (En.dQ e) ([],false)=(s ++ [a],true)):=by show _=_;rw[HST.out,HS.out,En.w2 _ _ _ hx]
     have hx1:(a.index != e.index)=true:=by simpa using hx
     clear hx;go_wp2;have k0:=fun p' : bP wr=>(bj.out p'.world (HB.trans (p'.below.mono HB.size))).c0
     have k1:=fun p' : bP wr=>(dL.pK (qM.out p'.world (HB.trans (p'.below.mono HB.size)))).1
     refine bn (by kernel_rfl) (by kernel_rfl) ?_
     repeat (go_big_quiet_step (fail))
     refine wpQuiet_nil ?_;rintro w5 ⟨⟨w5,oD⟩,rfl⟩
     (try dsimp only)
     have iO:=aa (HB.trans (oD.mono HB.size));have zA:=aa (HO.keep oD (Nat.le_refl _));clear k0 k1 oD;go_wp2;have k0:=fun p' : bP w5=>(bj.out p'.world (iO.trans (p'.below.mono iO.size))).c0
     have k1:=fun p' : bP w5=>(dL.pK (qM.out p'.world (iO.trans (p'.below.mono iO.size)))).1
     refine bn (by kernel_rfl) (by kernel_rfl) ?_
     repeat (go_big_quiet_step (fail))
     refine wpQuiet_nil ?_;rintro w7 ⟨⟨w7,zB⟩,rfl⟩
     (try dsimp only)
     have tu:=aa (iO.trans (zB.mono iO.size));have zC:=aa (zA.keep zB (Nat.le_refl _));clear k0 k1 zB
     go_wp2_with (first | (refine lh rfl _ rfl g (off+k*10) a rfl (bj.out _ tu.out) ?_) | (at_builtin;refine ia rfl _ _ rfl w7 w1.heap.size (s) (.slice zo zl zc) a rfl rfl zC.out (by have:=O8.out;first | omega | (simp only[List.length_append,List.length_cons,List.length_nil];omega)) w1 tu.out (Nat.le_refl _) ?_;intro Yq w8 vG vH;have EH:=aa vG;have EI:=aa vH;clear vG vH))
     go_roundw
     case rel=>exact⟨k+1,s ++ [a],true,rfl,by go_num,by omega,EH.out,HZ.out,by have:=UR.out;first | omega | (simp only[List.length_append,List.length_cons,List.length_nil];omega),EI.out⟩
     case measure=>simp[intOf];omega
   | false =>
    by_cases hge:e.index<=a.index
    ·have fL:decide (e.index<=a.index)=true:=decide_eq_true hge
     by_cases hx:a.index=e.index
     ·have HZ:Hid ((l.take (k+1)).foldl (En.dQ e) ([],false)=(s ++ [e],true)):=by show _=_;rw[HST.out,HS.out,En.w3 _ _ _ hx]
      have hx1:(a.index != e.index)=false:=by simpa using hx
      clear hx hge;go_wp2;have k0:=fun p' : bP wr=>(bj.out p'.world (HB.trans (p'.below.mono HB.size))).c0
      have k1:=fun p' : bP wr=>(dL.pK (qM.out p'.world (HB.trans (p'.below.mono HB.size)))).1
      refine bn (by kernel_rfl) (by kernel_rfl) ?_
      repeat (go_big_quiet_step (fail))
      refine wpQuiet_nil ?_;rintro w5 ⟨⟨w5,oD⟩,rfl⟩
      (try dsimp only)
      have iO:=aa (HB.trans (oD.mono HB.size));have zA:=aa (HO.keep oD (Nat.le_refl _));clear k0 k1 oD
      go_wp2_with (first | (refine lh rfl _ rfl w.heap.size 0 e rfl (dL.at (qM.out _ iO.out)) ?_) | (at_builtin;refine ia rfl _ _ rfl w5 w1.heap.size (s) (.slice zo zl zc) e rfl rfl zA.out (by have:=O8.out;first | omega | (simp only[List.length_append,List.length_cons,List.length_nil];omega)) w1 iO.out (Nat.le_refl _) ?_;intro vw6 w6 MK MM;have RH:=aa MK;have rV:=aa MM;clear MK MM))
      go_wp2;have k0:=fun p' : bP w6=>(bj.out p'.world (rV.trans (p'.below.mono rV.size))).c0
      have k1:=fun p' : bP w6=>(dL.pK (qM.out p'.world (rV.trans (p'.below.mono rV.size)))).1
      refine bn (by kernel_rfl) (by kernel_rfl) ?_
      repeat (go_big_quiet_step (fail))
      refine wpQuiet_nil ?_;rintro w7 ⟨⟨w7,zB⟩,rfl⟩
      (try dsimp only)
      have tu:=aa (rV.trans (zB.mono rV.size));have zC:=aa (RH.keep zB (Nat.le_refl _));clear k0 k1 zB;go_wp2
      go_roundw
      case rel=>exact⟨k+1,s ++ [e],true,rfl,by go_num,by omega,zC.out,HZ.out,by have:=UR.out;first | omega | (simp only[List.length_append,List.length_cons,List.length_nil];omega),tu.out⟩
      case measure=>simp[intOf];omega
     ·have HZ:Hid ((l.take (k+1)).foldl (En.dQ e) ([],false)=(s ++ [e] ++ [a],true)):=by show _=_;rw[HST.out,HS.out,En.w4 _ _ _ hge hx]
      have hx1:(a.index != e.index)=true:=by simpa using hx
      clear hx hge;go_wp2;have k0:=fun p' : bP wr=>(bj.out p'.world (HB.trans (p'.below.mono HB.size))).c0
      have k1:=fun p' : bP wr=>(dL.pK (qM.out p'.world (HB.trans (p'.below.mono HB.size)))).1
      refine bn (by kernel_rfl) (by kernel_rfl) ?_
      repeat (go_big_quiet_step (fail))
      refine wpQuiet_nil ?_;rintro w5 ⟨⟨w5,oD⟩,rfl⟩
      (try dsimp only)
      have iO:=aa (HB.trans (oD.mono HB.size));have zA:=aa (HO.keep oD (Nat.le_refl _));clear k0 k1 oD
      go_wp2_with (first | (refine lh rfl _ rfl w.heap.size 0 e rfl (dL.at (qM.out _ iO.out)) ?_) | (at_builtin;refine ia rfl _ _ rfl w5 w1.heap.size (s) (.slice zo zl zc) e rfl rfl zA.out (by have:=O8.out;first | omega | (simp only[List.length_append,List.length_cons,List.length_nil];omega)) w1 iO.out (Nat.le_refl _) ?_;intro vw6 w6 MK MM;have RH:=aa MK;have rV:=aa MM;clear MK MM))
      go_wp2;have k0:=fun p' : bP w6=>(bj.out p'.world (rV.trans (p'.below.mono rV.size))).c0
      have k1:=fun p' : bP w6=>(dL.pK (qM.out p'.world (rV.trans (p'.below.mono rV.size)))).1
      refine bn (by kernel_rfl) (by kernel_rfl) ?_
      repeat (go_big_quiet_step (fail))
      refine wpQuiet_nil ?_;rintro w7 ⟨⟨w7,zB⟩,rfl⟩
      (try dsimp only)
      have tu:=aa (rV.trans (zB.mono rV.size));have zC:=aa (RH.keep zB (Nat.le_refl _));clear k0 k1 zB
      go_wp2_with (first | (refine lh rfl _ rfl g (off+k*10) a rfl (bj.out _ tu.out) ?_) | (at_builtin;refine ia rfl _ _ rfl w7 w1.heap.size (s ++ [e]) vw6 a rfl rfl zC.out (by have:=O8.out;first | omega | (simp only[List.length_append,List.length_cons,List.length_nil];omega)) w1 tu.out (Nat.le_refl _) ?_;intro Yq w8 vG vH;have EH:=aa vG;have EI:=aa vH;clear vG vH))
      go_roundw
      case rel=>exact⟨k+1,s ++ [e] ++ [a],true,rfl,by go_num,by omega,EH.out,HZ.out,by have:=UR.out;first | omega | (simp only[List.length_append,List.length_cons,List.length_nil];omega),EI.out⟩
      case measure=>simp[intOf];omega
    ·have fL:decide (e.index<=a.index)=false:=decide_eq_false hge
     have HZ:Hid ((l.take (k+1)).foldl (En.dQ e) ([],false)=(s ++ [a],false)):=by show _=_;rw[HST.out,HS.out,En.w5 _ _ _ hge]
     have hx1:(a.index != e.index)=true:=by simp;omega
     clear hge;go_wp2;have k0:=fun p' : bP wr=>(bj.out p'.world (HB.trans (p'.below.mono HB.size))).c0
     have k1:=fun p' : bP wr=>(dL.pK (qM.out p'.world (HB.trans (p'.below.mono HB.size)))).1
     refine bn (by kernel_rfl) (by kernel_rfl) ?_
     repeat (go_big_quiet_step (fail))
     refine wpQuiet_nil ?_;rintro w5 ⟨⟨w5,oD⟩,rfl⟩
     (try dsimp only)
     have iO:=aa (HB.trans (oD.mono HB.size));have zA:=aa (HO.keep oD (Nat.le_refl _));clear k0 k1 oD;go_wp2;have k0:=fun p' : bP w5=>(bj.out p'.world (iO.trans (p'.below.mono iO.size))).c0
     have k1:=fun p' : bP w5=>(dL.pK (qM.out p'.world (iO.trans (p'.below.mono iO.size)))).1
     refine bn (by kernel_rfl) (by kernel_rfl) ?_
     repeat (go_big_quiet_step (fail))
     refine wpQuiet_nil ?_;rintro w7 ⟨⟨w7,zB⟩,rfl⟩
     (try dsimp only)
     have tu:=aa (iO.trans (zB.mono iO.size));have zC:=aa (zA.keep zB (Nat.le_refl _));clear k0 k1 zB
     go_wp2_with (first | (refine lh rfl _ rfl g (off+k*10) a rfl (bj.out _ tu.out) ?_) | (at_builtin;refine ia rfl _ _ rfl w7 w1.heap.size (s) (.slice zo zl zc) a rfl rfl zC.out (by have:=O8.out;first | omega | (simp only[List.length_append,List.length_cons,List.length_nil];omega)) w1 tu.out (Nat.le_refl _) ?_;intro Yq w8 vG vH;have EH:=aa vG;have EI:=aa vH;clear vG vH))
     go_roundw
     case rel=>exact⟨k+1,s ++ [a],false,rfl,by go_num,by omega,EH.out,HZ.out,by have:=UR.out;first | omega | (simp only[List.length_append,List.length_cons,List.length_nil];omega),EI.out⟩
     case measure=>simp[intOf];omega
  ·have lV:Hid (En.oX l e=En.GA e (s,t)):=by show _=_;unfold En.oX;rw[<- HS.out,List.take_of_length_le (by have:=HN.out;omega)]
   have qM:Hid (∀W,Below w1.heap.size w1 W->dL W w.heap.size e):=fun W hW=>dh.below hW dh.lt
   cases t with
   | true =>
    go_wp2;exact HQ.out _ _ ⟨_,rfl,by rw[lV.out];exact HO.mono aG.size,aG.trans (HB.mono aG.size)⟩
   | false =>
    go_wp2_with (first | (refine lh rfl _ rfl w.heap.size 0 e rfl (dL.at (qM.out _ HB.out)) ?_) | (at_builtin;refine ia rfl _ _ rfl wr w1.heap.size s (.slice zo zl zc) e rfl rfl HO.out (by have:=O8.out;omega) w1 HB.out (Nat.le_refl _) ?_;intro Yq w8 vG vH;have EH:=aa vG;have EI:=aa vH;clear vG vH))
    exact HQ.out _ _ ⟨_,rfl,by rw[lV.out];exact EH.mono aG.size,aG.trans (EI.mono aG.size)⟩
end Go.Proofs.YtdkdjofnnnljjaaGreatDoor
