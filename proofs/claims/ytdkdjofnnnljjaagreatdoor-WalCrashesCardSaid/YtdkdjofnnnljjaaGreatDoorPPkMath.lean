/- Several texts of mine in one: Kit Mem GMb GNum PkMath. -/
import Derived.WalkKit
import Derived.ProofKit
import Derived.Lib.Hide
import Derived.Laws.CopyOwn
import Derived.Laws.AppendOwnNone
import Derived.Deep.QuietTactic
import Derived.Laws.IdiomStrings
import Derived.Lib.SlBytesConst
import Derived.WideShapes
import Derived.OpenShut
import Derived.RangeFuncBox
import Derived.Sort.Grow
import Derived.Deep.Slices
import Derived.Deep.Fields
import Derived.ChangeSame
import Derived.Laws.AppendOwn
import Derived.Lib.SliceRun
import Derived.Deep.MidRow
import Derived.BigQuiet
import Derived.Test.YtdkdjofnnnljjaaGreatDoorRows
namespace Go.Proofs.YtdkdjofnnnljjaaGreatDoor
open Go.RowKit
theorem aa{p:Prop}(h:p):Hid p:=h
theorem ie{k:IntKind}{a b:Int}(h:a=b):Ending.returned (.int k a) = .returned (.int k b):=by rw[h]
theorem bu{a b:Bool}(h:a=b):Ending.returned (.bool a) = .returned (.bool b):=by rw[h]
def cellsOf(l:List UInt8):List Value:=l.map fun c => .int .u8 (c.toNat:Int)
theorem dZ(l:List UInt8):(cellsOf l).length=l.length:=by simp[cellsOf]
theorem iM(l m:List UInt8):cellsOf (l++m)=cellsOf l++cellsOf m:=by simp[cellsOf]
theorem ki(l:List UInt8) : ∀u∈cellsOf l,u.oneCell' = true:=by
 intro u hu;obtain⟨_,_,rfl⟩:=List.mem_map.1 hu;rfl
theorem py{l:List UInt8}{j:Nat}{c:UInt8}(h:l[j]? = some c):(cellsOf l)[j]? = some (.int .u8 (c.toNat:Int)):=by simp[cellsOf,h]
def Reads(w:World)(v:Value)(l:List UInt8):Prop :=
 ∃(ao:Option Addr) (cap:Nat),v = .slice ao l.length cap∧l.length<=cap∧cap<=maxLen∧(ao=none->cap=0) ∧ ∀x,ao=some x -> ∀j u,(cellsOf l)[j]? = some u->w.cell? (x.add j)=some u
def bF(w:World)(base:Nat)(E:TypeId)(v:Value)(l:List UInt8):Prop:=w.ownsRow base E 1 v l.length (cellsOf l)
theorem bF.reads{w:World}{base:Nat}{E:TypeId}{v:Value}{l:List UInt8}(h:bF w base E v l):Reads w v l:=by
 rcases h.2 with ⟨rfl,h0⟩ | ⟨g,cap,cur,rfl,hb,hg,hc,hm,_,_⟩
 ·exact⟨none,0,by rw[h0],by omega,by simp[maxLen],fun _=>rfl,(fun x hx=>by cases hx)⟩
 ·refine⟨_,cap,rfl,hc,hm,(fun h=>by cases h),fun x hx j u hu => ?_⟩
  cases hx;exact World.ownsRow.cells h (g:=g) rfl j u hu
theorem Reads.below{w w' : World}{v:Value}{l:List UInt8}(h:Reads w v l)(hb:Below w.heap.size w w'):Reads w' v l:=by
 obtain⟨ao,cap,rfl,h1,h2,h3,h4⟩:=h;refine⟨ao,cap,rfl,h1,h2,h3,fun x hx j u hu => ?_⟩
 have hc:=h4 x hx j u hu;rw[<- hc];exact hb.cell (World.block_lt_of_cell? w _ hc)
theorem Reads.empty(w:World):Reads w (.slice none 0 0) []:=⟨none,0,rfl,by simp,by simp[maxLen],fun _=>rfl,(fun x hx=>by cases hx)⟩
theorem Reads.place{w:World}{ao:Option Addr}{n cap:Nat}{l:List UInt8}(h:Reads w (.slice ao n cap) l)(hl:0<l.length) :
 ∃b off,ao=some ⟨b,off,none⟩ ∧ ∀j c,l[j]? = some c->w.cell? ⟨b,off+j,none⟩=some (.int .u8 (c.toNat:Int)):=by
 obtain⟨EX, cap', hv,h1,h2,h3,h4⟩:=h;simp only[Value.slice.injEq]at hv
 obtain⟨rfl,rfl,rfl⟩:=hv;cases ao with
 | none=>exact absurd (h3 rfl) (by omega)
 | some x =>
  obtain⟨b,off,spot⟩:=x;have hc:=h4 _ rfl 0 _ (py (List.getElem?_eq_getElem hl));have hspot:spot=none:=by simpa[Addr.add] using World.cell?_spot hc
  subst hspot;refine⟨b,off,rfl,fun j c hj => ?_⟩
  have:=h4 _ rfl j _ (py hj)
  rwa[Addr.add_lit]at this
theorem Reads.len{w:World}{ao:Option Addr}{n cap:Nat}{l:List UInt8}(h:Reads w (.slice ao n cap) l):n=l.length∧l.length<=cap∧cap<=9223372036854775807∧(ao=none->cap=0):=by
 obtain⟨EX, cap', hv,h1,h2,h3,h4⟩:=h;simp only[Value.slice.injEq]at hv
 obtain⟨rfl,rfl,rfl⟩:=hv;exact⟨rfl,h1,by unfold maxLen at h2;exact h2,h3⟩
theorem Reads.shape{w:World}{v:Value}{l:List UInt8}(h:Reads w v l) : ∃ao cap,v = .slice ao l.length cap:=by
 obtain⟨ao,cap,rfl,_⟩:=h;exact⟨ao,cap,rfl⟩
theorem fA{P:Program}{w:World}{ops:Array Oper}{rest:List Oper}{o:Oper}{a:Act}{Q:Exit->Act->World->Prop}(hgd:o.guard=none)(s x:Operand)(t E:TypeId)
 (ho:o.op = .call { callee := .builtin .append,args := #[s,x],argTypes := #[t,t] }) (ht:P.underlying t=some (.slice E))
 (hi:(P.info? E).map (fun i=>(i.zero,i.size,i.bytes))=some (some (.int .u8 0),1,1))
 (base:Nat) (l m:List UInt8) (v u:Value) (hs:a.eval s=v) (hx:a.eval x=u) (hown:bF w base E v l) (hr:Reads w u m)
 (hlen:l.length+m.length<=140737488355328) (w0:World) (hb:Below base w0 w) (hbase:base<=w0.heap.size)
 (h : ∀v' w', bF w' base E v' (l++m)->Below base w0 w' -> w.grownBy w' v.ownBlock->wpList P ops Q rest (a.put o.dst v') w'):wpList P ops Q (o :: rest) a w:=by
 obtain⟨i,h1,h2,h3,h4⟩:=info_parts hi;obtain⟨ao,cap,rfl,hc1,hc2,hc3,Q6⟩:=hr;have hsz:=hb.size;cases ao with
 | none =>
  have h0:=hc3 rfl;have hm:m = []:=List.eq_nil_of_length_eq_zero (by omega)
  subst hm;refine wpList_plain hgd fun K hK => ?_
  have hrun:=run_append_owned_none (P:=P) w base t o.type E i 1 ht h1 v l.length (cellsOf l) hown;subst h0;unfold Oper.wp;simp[execOp,ho,resolve,invoke,builtin,hs,hx,hrun,Result.andThen];exact hK _ _ (h _ _ (by simpa using hown) hb (World.grownBy.refl _ _))
 | some ad =>
  refine wpList_append_own w hgd s x t ho base E i (.int .u8 0) 1 1 ht h1 h2 h3 h4 rfl (by decide) v l.length (cellsOf l) hs hown ad m.length cap (cellsOf m) hx (by simp[cellsOf]) (Q6 ad rfl) (ki m) (by unfold maxLen;omega) (by omega) (by omega) ?_
  intro v' w' h5 h6 _
  refine h v' w' ?_ (hb.grown h6 (by omega) fun k hk=>(World.ownsRow.lt hown k hk).1) h6
  unfold bF;rw[List.length_append,iM];exact h5
theorem bF.keep{w w' : World}{base B:Nat}{E:TypeId}{v:Value}{l:List UInt8}(h:bF w base E v l)(hb:Below B w w')(hB:w.heap.size<=B):bF w' base E v l:=by
 refine⟨h.1, ?_⟩;rcases h.2 with hn | ⟨g,cap,cur,rfl,hb', CI,rest⟩
 ·exact .inl hn
 ·refine .inr ⟨g,cap,cur,rfl,hb', ?_,rest⟩
  rw[hb.block g (by have:=(Array.getElem?_eq_some_iff.1 CI).1;omega)]
  exact CI
theorem bF.alloc{w:World}{base:Nat}{E:TypeId}{v:Value}{l:List UInt8}(h:bF w base E v l)(o:Obj):bF (w.alloc o) base E v l:=World.ownsRow.alloc h o
theorem bF.drew{w:World}{base:Nat}{E:TypeId}{v:Value}{l:List UInt8}(h:bF w base E v l):bF w.drew base E v l:=h
theorem bF.empty(w:World)(base:Nat)(E:TypeId):bF w base E (.slice none 0 0) []:=World.ownsRow_nil _ _ _ _
theorem Reads.one(w:World)(E:TypeId)(x:Int)(c:UInt8)(h:x=(c.toNat:Int)):Reads (w.alloc (.cells #[.int .u8 x] E)) (.slice (some ⟨w.heap.size,0,none⟩) 1 1) [c]:=by
 subst h;refine⟨_,1,rfl,by simp,by simp[maxLen],(fun h=>by cases h),fun a ha j u hu => ?_⟩
 cases ha
 match j,hu with
 | 0,hu=>simp[cellsOf]at hu;subst hu;simp[Addr.add]
 | j+1,hu=>simp[cellsOf]at hu
theorem bF.XA(w:World)(E:TypeId):bF (w.alloc (.cells #[] E)) w.heap.size E (.slice (some ⟨w.heap.size,0,none⟩) 0 0) []:=World.ownsRow_lit w #[] 0 (Nat.le_refl _) (by simp[maxLen]) rfl
theorem on{w w1 w2:World}(h:Below w.heap.size w w1)(k:Below w1.heap.size w1 w2):Below w.heap.size w w2:=h.trans (k.mono h.size)
theorem drawn(w:World)(n:Nat):Below w.heap.size w (w.drewN n):=⟨rfl,rfl,rfl,Nat.le_refl _,fun _ _=>rfl⟩
def xH(w:World)(E:TypeId)(l:List UInt8)(e:Ending)(w' : World):Prop :=
 ∃v,e = .returned v∧bF w' w.heap.size E v l∧Below w.heap.size w w'
theorem DS(n c:Nat)(h:n<=c):(madeCells (Value.int .u8 0).cells (c*1)).toList.take n=cellsOf (List.replicate n 0):=by
 rw[show(Value.int .u8 0).cells = #[Value.int .u8 0]from rfl,toList_madeCells_one,List.take_replicate]
 simp[cellsOf,show min n c=n by omega]
theorem DT{P:Program}{w:World}{ops:Array Oper}{rest:List Oper}{o:Oper}{a:Act}{Q:Exit->Act->World->Prop}(hgd:o.guard=none)(lo co:Operand)(t E:TypeId)
 (ho:o.op=Op.makeSlice t lo co) (ht:P.underlying t=some (.slice E))
 (hi:(P.info? E).map (fun i=>(i.zero,i.size,i.bytes))=some (some (.int .u8 0),1,1))
 (base n c:Nat) (kl kc:IntKind) (L C:Int) (hl:a.eval lo = .int kl L) (hc:a.eval co = .int kc C) (hL:L=(n:Int)) (hC:C=(c:Int)) (sJ:n<=c) (hcap:c<=281474976710656)
 (w0:World) (hb:Below base w0 w) (hbase:base<=w0.heap.size)
 (h : ∀w', bF w' base E (.slice (some ⟨w.heap.size,0,none⟩) n c) (List.replicate n 0)->Below base w0 w' -> wpList P ops Q rest (a.put o.dst (.slice (some ⟨w.heap.size,0,none⟩) n c)) w'):wpList P ops Q (o :: rest) a w:=by
 obtain⟨i,h1,h2,h3,h4⟩:=info_parts hi;subst hL;subst hC;have hsz:=hb.size;have hr:=run_make (P:=P) w t E i (.int .u8 0) ht h1 h2 kl kc n c (by omega) (by omega) (by rw[h4];omega) (by omega)
 simp only[Int.toNat_natCast,h3]at hr
 refine wpList_plain hgd fun K hK => ?_
 unfold Oper.wp;simp[execOp,ho,hl,hc,hr,Result.andThen];refine hK _ _ (h _ ?_ ?_)
 ·refine⟨by simp[cellsOf], .inr ⟨w.heap.size,c,_,by simp,by omega,heap_alloc_new w _,by simpa using sJ,by unfold maxLen;omega,by simp[size_madeCells], ?_⟩⟩
  simpa using DS n c sJ
 ·exact hb.alloc (by omega) _
theorem DU{P:Program}{w:World}{ops:Array Oper}{rest:List Oper}{o:Oper}{a:Act}{Q:Exit->Act->World->Prop}(hgd:o.guard=none)(d s:Operand)(dT sT E:TypeId)
 (ho:o.op = .call { callee := .builtin .copy,args := #[d,s],argTypes := #[dT,sT] }) (ht:P.underlying dT=some (.slice E))
 (hi:(P.info? E).map (fun i=>(i.zero,i.size,i.bytes))=some (some (.int .u8 0),1,1))
 (base:Nat) (l m:List UInt8) (g n cap:Nat) (u:Value) (hd:a.eval d = .slice (some ⟨g,0,none⟩) n cap) (hs:a.eval s=u) (hown:bF w base E (.slice (some ⟨g,0,none⟩) n cap) l) (hr:Reads w u m)
 (hlen:m.length<=l.length) (w0:World) (hb:Below base w0 w) (hg:base<=g)
 (h : ∀w', bF w' base E (.slice (some ⟨g,0,none⟩) n cap) (m++l.drop m.length)->Below base w0 w' -> w.grownBy w' (some g)->wpList P ops Q rest (a.put o.dst (goInt m.length)) w'):wpList P ops Q (o :: rest) a w:=by
 obtain⟨i,h1,h2,h3,h4⟩:=info_parts hi;obtain⟨ao,TU,rfl,hc1,hc2,hc3,Q6⟩:=hr;rcases hown.2 with ⟨hv,_⟩ | ⟨g', cap', cur,hv,hbg,CI,sJ,hcm,hcs,TV⟩
 ·simp at hv
 ·simp only[Value.slice.injEq,Option.some.injEq,Addr.mk.injEq,and_true]at hv
  obtain⟨rfl,rfl,rfl⟩:=hv;refine wpList_plain hgd fun K hK => ?_
  by_cases h0:m.length=0
  ·obtain rfl:m = []:=List.eq_nil_of_length_eq_zero h0
   have hrun:=run_copy_none (P:=P) w dT sT o.type E (some ⟨g,0,none⟩) ao l.length cap 0 TU ht (by rw[h1];simp[h3]) (by simp)
   unfold Oper.wp;simp only[List.length_nil]at hs
   simp[execOp,ho,resolve,invoke,builtin,hd,hs,hrun,Result.andThen];exact hK _ _ (h w (by simpa using hown) hb (World.grownBy.refl _ _))
  ·obtain⟨x,rfl⟩ : ∃x,ao=some x:=by
    cases ao with
    | none=>exact absurd (hc3 rfl) (by omega)
    | some x=>exact⟨x,rfl⟩
   have hrun:=run_copy_row (P:=P) w dT sT o.type E g 0 l.length cap x m.length TU cur E (cellsOf m) ht (by rw[h1];simp[h3]) CI (by rw[dZ];show _=min _ _;omega) (Q6 x rfl) (by rw[dZ,hcs];omega) (ki m)
   unfold Oper.wp;simp[execOp,ho,resolve,invoke,builtin,hd,hs,hrun,Result.andThen];have hrow:=setRow_heap w g cur (cellsOf m++cur.toList.drop (cellsOf m).length).toArray E _ CI;have hkeep:w.grownBy (w.setRow g (cellsOf m++cur.toList.drop (cellsOf m).length).toArray) (some g):=⟨rfl,rfl,rfl,by simp[World.setRow],fun k _ hk=>setRow_other w g k _ (fun e=>hk (by simp[e]))⟩
   have Bx:=h (w.setRow g (cellsOf m++cur.toList.drop (cellsOf m).length).toArray) ⟨by simp[cellsOf], .inr ⟨g,cap,_,by simp;omega,hbg,hrow,by simp;omega,hcm,by simp[cellsOf];omega, ?_⟩⟩ (below_setRow hb hg _) hkeep
   ·rw[dZ]at Bx
    exact hK _ _ (by rw[dZ];exact Bx)
   ·have e1:(m++l.drop m.length).length=l.length:=by simp;omega
    rw[e1,iM];have e2:cellsOf (l.drop m.length)=(cellsOf l).drop m.length:=by simp[cellsOf,List.map_drop]
    rw[e2, <- TV,List.toList_toArray,List.take_append,dZ,List.drop_take];simp[List.take_of_length_le,dZ,hlen]
def bytesOf(zs:List Int):List UInt8:=zs.map fun z=>UInt8.ofNat z.toNat
theorem byte_back{z:Int}(h:(Lit.int .u8 z).wf=true):((UInt8.ofNat z.toNat).toNat:Int)=z:=by
 simp[Lit.wf,IntKind.min,IntKind.max,IntKind.signed,IntKind.bits]at h
 rw[UInt8.toNat_ofNat'];omega
theorem GQ{w:World}{a:Option Addr}{len cap:Nat}{zs:List Int}
 (h:(a=none∧len=0∧cap=0∧zs = []) ∨
   ∃x,a=some x∧len<=cap∧cap<=maxLen∧zs.length=cap∧(∀i,i<zs.length->w.cell? (x.add i)=some (.int .u8 (zs.getD i 0))) ∧ ∀n∈zs,(Lit.int .u8 n).wf=true) :
 Reads w (.slice a len cap) (bytesOf (zs.take len)):=by
 rcases h with ⟨rfl,rfl,rfl,rfl⟩ | ⟨x,rfl,hl,hm,hz,hc,hw⟩
 ·exact Reads.empty w
 ·have e:(bytesOf (zs.take len)).length=len:=by simp[bytesOf];omega
  refine⟨some x,cap,by rw[e],by omega,hm,(fun h=>by cases h),fun y hy j u hu => ?_⟩
  cases hy;simp only[cellsOf,bytesOf,List.map_map,List.getElem?_map,List.getElem?_take]at hu
  split at hu
  ·rename_i hj
   have VX:j<zs.length:=by omega
   have h1:=hc j VX;rw[List.getElem?_eq_getElem VX]at hu
   simp only[Option.map_some,Function.comp,Option.some.injEq]at hu
   rw[h1, <- hu,List.getD_eq_getElem?_getD,List.getElem?_eq_getElem VX,Option.getD_some,byte_back (hw _ (List.getElem_mem VX))]
  ·simp at hu
theorem DV{n:Int}(h:(Lit.int .i64 n).wf=true) : -9223372036854775808<=n∧n<=9223372036854775807:=by
 simpa[Lit.wf,IntKind.min,IntKind.max,IntKind.signed,IntKind.bits] using h
theorem fO{P:Program}{w:World}{src dst e:TypeId}{ao:Option Addr}{n cap:Nat}(l:List UInt8)(hs:P.underlying src=some (.slice e))(he:P.underlying e=some (.int .u8))(hd:P.underlying dst=some .string)(hr:Reads w (.slice ao n cap) l) :
 (convert src dst (.slice ao n cap)).run P w = .ok (.string ⟨l.toArray⟩) w:=by
 obtain⟨rfl,_,_,hnil⟩:=hr.len;cases ao with
 | none =>
  have h0:=hnil rfl;obtain rfl:l = []:=List.eq_nil_of_length_eq_zero (by omega)
  exact run_convert_bytes_nil w src e hs he _ _ dst hd
 | some x =>
  refine run_convert_bytes_back w src dst e x cap l hs he hd fun j hj => ?_
  obtain⟨EX, cap', hv,_,_,_,h4⟩:=hr;simp only[Value.slice.injEq]at hv
  obtain⟨rfl,_,rfl⟩:=hv;exact h4 x rfl j _ (py (List.getElem?_eq_getElem hj))
def Truly(w:World)(e:Ending)(w' : World):Prop:=e = .returned (.bool true)∧Below w.heap.size w w'
end Go.Proofs.YtdkdjofnnnljjaaGreatDoor

namespace Go.Proofs.YtdkdjofnnnljjaaGreatDoor
open Go.RowKit
structure dS(p:Nat->TypeId->Prop)(w w' : World):Prop where
 size:w.heap.size<=w'.heap.size
 same : ∀b cs t fr,w.heap[b]? = some (.cells cs t fr)->p b t->w'.heap[b]? = some (.cells cs t fr)
theorem dS.aI{p:Nat->TypeId->Prop}{w w' : World}{row:Option Nat}(h:w.grownBy w' row)(hr : ∀g cs t fr,row=some g->w.heap[g]? = some (.cells cs t fr) -> ¬p g t):dS p w w' :=
 ⟨h.size,fun b cs t fr e hp=>(h.block b (Array.getElem?_eq_some_iff.1 e).1 (fun hb=>hr b cs t fr hb.symm e hp)).trans e⟩
theorem dS.bp{p:Nat->TypeId->Prop}{w w' : World}(h:Below w.heap.size w w'):dS p w w' :=
 ⟨h.size,fun b _ _ _ e _=>(h.block b (Array.getElem?_eq_some_iff.1 e).1).trans e⟩
theorem dS.alloc(p:Nat->TypeId->Prop)(w:World)(o:Obj):dS p w (w.alloc o):=dS.bp ((Below.refl _ w).alloc (Nat.le_refl _) o)
theorem bF.mono{w:World}{base B:Nat}{E:TypeId}{v:Value}{l:List UInt8}(h:bF w B E v l)(hb:base<=B):bF w base E v l:=by
 refine⟨h.1, ?_⟩;rcases h.2 with hn | ⟨g,cap,cur,hv,hg,rest⟩
 ·exact .inl hn
 ·exact .inr ⟨g,cap,cur,hv,by omega,rest⟩
theorem gD{w w' : World}(h:Below w.heap.size w w'):w.grownBy w' none:=⟨h.os,h.tape,h.output,h.size,fun k hk _=>h.block k hk⟩
theorem kz{w:World}{a:Addr}{v:Value}(h:w.cell? a=some v) : ∃cs t fr,w.heap[a.block]? = some (.cells cs t fr):=by
 unfold World.cell? at h
 split at h
 ·rename_i c t fr e;exact⟨c,t,fr,e⟩
 ·cases h
theorem add_block(x:Addr)(j:Nat):(x.add j).block=x.block:=by unfold Addr.add;split<;>rfl
def aS(p:Nat->TypeId->Prop)(w:World)(v:Value)(l:List UInt8):Prop :=
 Reads w v l∧(0<l.length -> ∃(x:Addr) (n c:Nat) (cs:Array Value) (t:TypeId) (fr:Nat × Nat),v = .slice (some x) n c∧w.heap[x.block]? = some (.cells cs t fr)∧p x.block t)
theorem aS.keep{p:Nat->TypeId->Prop}{w w' : World}{v:Value}{l:List UInt8}(h:aS p w v l)(hk:dS p w w'):aS p w' v l:=by
 obtain⟨⟨ao,cap,rfl,h1,h2,h3,h4⟩,hp⟩:=h;by_cases h0:0<l.length
 ·obtain⟨x,n,c,cs,t,fr,hv,hb,hpt⟩:=hp h0
  simp only[Value.slice.injEq]at hv
  obtain⟨rfl,rfl,rfl⟩:=hv;have hb' := hk.same _ _ _ _ hb hpt;refine⟨⟨some x,cap,rfl,h1,h2,h3,fun y hy j u hu => ?_⟩,fun _=>⟨x,_,_,cs,t,fr,rfl,hb', hpt⟩⟩
  cases hy;have:=h4 x rfl j u hu;rw[<- this];exact World.cell?_of_block (by rw[add_block,hb,hb'])
 ·obtain rfl:l = []:=List.eq_nil_of_length_eq_zero (by omega)
  exact⟨⟨ao,cap,rfl,h1,h2,h3,fun y _ j u hu=>by simp[cellsOf]at hu⟩,fun h=>absurd h (by simp)⟩
theorem aS.iL{p:Nat->TypeId->Prop}{w:World}{v:Value}{l:List UInt8}(h:Reads w v l)(hp : ∀b t,b<w.heap.size->p b t):aS p w v l:=by
 refine⟨h,fun h0 => ?_⟩
 obtain⟨ao,cap,rfl⟩:=h.shape;obtain⟨b,off,rfl,hc⟩:=h.place h0;obtain⟨cs,t,fr,hb⟩:=kz (hc 0 _ (List.getElem?_eq_getElem h0));exact⟨_,_,_,cs,t,fr,rfl,hb,hp _ _ (Array.getElem?_eq_some_iff.1 hb).1⟩
theorem aS.zf{p:Nat->TypeId->Prop}{w:World}{base:Nat}{E:TypeId}{v:Value}{l:List UInt8}(h:bF w base E v l)(hp : ∀b,base<=b->p b E):aS p w v l:=by
 refine⟨h.reads,fun h0 => ?_⟩
 rcases h.2 with ⟨_,h1⟩ | ⟨g,cap,cur,hv,hb,hg,_⟩
 ·omega
 ·exact⟨_,_,_,cur,E,(0,0),hv,hg,hp g hb⟩
theorem aS.none(p:Nat->TypeId->Prop)(w:World):aS p w (.slice none 0 0) []:=⟨Reads.empty w,fun h=>absurd h (by simp)⟩
def lM(w:World)(v:Value)(ls:List (List UInt8)):Prop :=
 ∃(ao:Option Addr) (cap:Nat) (us:List Value),v = .slice ao ls.length cap∧ls.length<=cap∧cap<=maxLen∧us.length=ls.length ∧
  (∀x,ao=some x -> ∀j u,us[j]? = some u->w.cell? (x.add j)=some u)∧(ao=none->cap=0) ∧ ∀(j:Nat) (u:Value) (l:List UInt8),us[j]? = some u->ls[j]? = some l->Reads w u l
theorem lM.shape{w:World}{v:Value}{ls:List (List UInt8)}(h:lM w v ls) : ∃ao cap,v = .slice ao ls.length cap∧ls.length<=cap∧cap<=9223372036854775807:=by
 obtain⟨ao,cap,us,rfl,h1,h2,_⟩:=h;exact⟨ao,cap,rfl,h1,by unfold maxLen at h2;exact h2⟩
theorem lM.laid(w:World)(T:TypeId)(us:List Value)(ls:List (List UInt8))(n:Nat)(cs:Array Value)(hn:n=ls.length)(hc:cs.toList=us)(hl:us.length=ls.length)(hm:n<=9223372036854775807)
 (h : ∀(j:Nat) (u:Value) (l:List UInt8),us[j]? = some u->ls[j]? = some l->Reads w u l):lM (w.alloc (.cells cs T)) (.slice (some ⟨w.heap.size,0,none⟩) n n) ls:=by
 subst hn;refine⟨_,_,us,rfl,Nat.le_refl _,by unfold maxLen;omega,hl,fun x hx j u hu => ?_,(fun h=>by cases h),fun j u l hu Zk=>(h j u l hu Zk).below ((Below.refl _ w).alloc (Nat.le_refl _) _)⟩
 cases hx;rw[Addr.add_lit,Nat.zero_add,World.cell?_alloc_mark];rw[<- hu, <- hc,Array.getElem?_toList]
theorem lM.place{w:World}{ao:Option Addr}{n cap:Nat}{ls:List (List UInt8)}(h:lM w (.slice ao n cap) ls)(hl:0<ls.length) :
 ∃b off,ao=some ⟨b,off,none⟩ ∧ ∀j l,ls[j]? = some l -> ∃u,w.cell? ⟨b,off+j,none⟩=some u∧Reads w u l:=by
 obtain⟨EX, cap', us,hv,h1,h2,h3,h4,h5,h6⟩:=h;simp only[Value.slice.injEq]at hv
 obtain⟨rfl,rfl,rfl⟩:=hv;cases ao with
 | none=>exact absurd (h5 rfl) (by omega)
 | some x =>
  obtain⟨b,off,spot⟩:=x;have hc:=h4 _ rfl 0 _ (List.getElem?_eq_getElem (by omega))
  have hspot:spot=none:=by simpa[Addr.add] using World.cell?_spot hc
  subst hspot;refine⟨b,off,rfl,fun j l hj => ?_⟩
  obtain⟨u,ZQ⟩ : ∃u,us[j]? = some u:=⟨_,List.getElem?_eq_getElem (by have:=(List.getElem?_eq_some_iff.1 hj).1;omega)⟩
  refine⟨u, ?_,h6 j _ l ZQ hj⟩;have:=h4 _ rfl j _ ZQ
  rwa[Addr.add_lit]at this
end Go.Proofs.YtdkdjofnnnljjaaGreatDoor

namespace Go.Proofs.YtdkdjofnnnljjaaGreatDoor
open Go.RowKit
def Says(w:World)(v:Value)(e:Ending)(w' : World):Prop:=e = .returned v∧w=w'
def wW(w:World)(v:Value)(e:Ending)(w' : World):Prop:=e = .returned v∧Below w.heap.size w w'
def Looks(w:World)(v:Value)(e:Ending)(w' : World):Prop:=e = .returned v∧Below w.heap.size w w'
def ae(w:World)(o:Nat)(t:TypeId)(vs:Array Value):Prop:=w.heap[o]? = some (.cells vs t (0,0))
theorem ae.lt{w:World}{o:Nat}{t:TypeId}{vs:Array Value}(h:ae w o t vs):o<w.heap.size:=(Array.getElem?_eq_some_iff.1 h).1
theorem ae.cell{w:World}{o:Nat}{t:TypeId}{vs:Array Value}(h:ae w o t vs)(j:Nat)(v:Value)(hj:vs[j]? = some v):w.cell? ⟨o,j,none⟩=some v:=by
 simp[World.cell?,show w.heap[o]? = _ from h,hj]
theorem ae.free{w:World}{o:Nat}{t:TypeId}{vs:Array Value}(h:ae w o t vs)(j:Nat):w.frozen? ⟨o,j,none⟩=false:=by
 simp[World.frozen?,show w.heap[o]? = _ from h]
theorem ae.new(w:World)(t:TypeId)(vs:Array Value):ae (w.alloc (.cells vs t)) w.heap.size t vs:=World.alloc_heap_new w _
theorem ae.kept{w w' : World}{row:Option Nat}{o:Nat}{t:TypeId}{vs:Array Value}(h:ae w o t vs)(hg:w.grownBy w' row)(hne:some o≠row):ae w' o t vs:=(hg.block o h.lt hne).trans h
theorem ae.below{w w' : World}{B o:Nat}{t:TypeId}{vs:Array Value}(h:ae w o t vs)(hb:Below B w w')(hB:o<B):ae w' o t vs:=(hb.block o hB).trans h
theorem ae.alloc{w:World}{o:Nat}{t:TypeId}{vs:Array Value}(h:ae w o t vs)(x:Obj):ae (w.alloc x) o t vs:=h.kept (World.grownBy_alloc w x none) (by simp)
theorem ae.set{w:World}{o:Nat}{t:TypeId}{vs:Array Value}(h:ae w o t vs)(j:Nat)(v:Value):ae (w.setCell ⟨o,j,none⟩ v) o t (vs.setIfInBounds j v):=by
 obtain⟨hlt,hk⟩:=Array.getElem?_eq_some_iff.1 h;show(w.heap.modify o _)[o]? = _;rw[Array.getElem?_eq_getElem (by rw[Array.size_modify];exact hlt),Array.getElem_modify_self,hk]
 rfl
theorem au(w:World)(o j:Nat)(v:Value):w.grownBy (w.setCell ⟨o,j,none⟩ v) (some o) :=
 ⟨rfl,rfl,rfl,(KeepsWalks.setCell w _ v).size,fun k _ hk=>Below.heap_setCell _ _ _ k (fun e=>hk (by rw[e]))⟩
theorem ae.not_row{w:World}{o:Nat}{t e:TypeId}{vs:Array Value}(h:ae w o t vs)(hte:t≠e){base size k:Nat}{v:Value}{xs:List Value}(hr:w.ownsRow base e size v k xs):some o≠v.ownBlock:=by
 rcases hr.2 with ⟨rfl,_⟩ | ⟨g,cap,cur,rfl,_,hgb,_⟩
 ·simp[Value.ownBlock]
 ·intro he
  obtain rfl:o=g:=by simpa[Value.ownBlock] using he
  have h' := h;unfold ae at h'
  rw[hgb]at h'
  simp only[Option.some.injEq,Obj.cells.injEq]at h'
  exact hte h'.2.1.symm
theorem aM{w w1 w2:World}{row:Option Nat}(h:w.grownBy w1 row)(k:w1.grownBy w2 row):w.grownBy w2 row :=
 ⟨k.os.trans h.os,k.tape.trans h.tape,k.output.trans h.output,Nat.le_trans h.size k.size,fun j hj hr=>(k.block j (Nat.lt_of_lt_of_le hj h.size) hr).trans (h.block j hj hr)⟩
theorem aJ{w w' : World}{x:Obj}(hg:(w.alloc x).grownBy w' (some w.heap.size)):Below w.heap.size w w' :=
 ((Below.refl _ w).alloc (Nat.le_refl _) x).grown hg (by simp) (by rintro j hj;cases hj;exact Nat.le_refl _)
theorem dy(s:List UInt8):(ByteArray.mk s.toArray).size=s.length:=by simp[ByteArray.size]
theorem Hl{P:Program}{n:String}{cs:Array Value}{w w' : World}(h:w.var? P n=some cs)(hb:Below w.heap.size w w'):w'.var? P n=some cs:=by
 unfold World.var? at h ⊢
 cases hg:P.globalNamed n with
 | none=>simp[hg]at h
 | some g =>
  simp only[hg,Option.bind_some]at h ⊢
  have hlt:g<w.heap.size:=by
   rcases Nat.lt_or_ge g w.heap.size with hlt | hge
   ·exact hlt
   ·rw[Array.getElem?_eq_none hge]at h;simp at h
  rw[hb.block g hlt];exact h
theorem pick{α:Type}(q:Nat->α->Prop) : ∀n:Nat,(∀i,i<n -> ∃a,q i a) -> ∃xs:List α,xs.length=n ∧ ∀i a,xs[i]? = some a->q i a:=by
 intro n
 induction n with
 | zero=>intro _;exact⟨[],rfl,fun i a h=>by simp at h⟩
 | succ n ih =>
  intro h
  obtain⟨xs,h1,h2⟩:=ih (fun i hi=>h i (by omega))
  obtain⟨a,ha⟩:=h n (by omega)
  refine⟨xs ++ [a],by simp[h1],fun i x hx => ?_⟩
  rcases Nat.lt_or_ge i n with hi | hi
  ·rw[List.getElem?_append_left (by omega)]at hx;exact h2 i x hx
  ·rw[List.getElem?_append_right (by omega)]at hx
   have XB:i - xs.length=0:=by have:=(List.getElem?_eq_some_iff.1 hx).1;simp at this;omega
   obtain rfl:i=n:=by omega
   rw[XB]at hx
   simp at hx
   subst hx;exact ha
theorem iA{fn:Func}{p:Tmp}{ty:TypeId}(h:fn.results = #[.cell p ty])(tmps:Array Value)(P:Program)(w:World) :
 (results fn tmps).run P w=((asAddr (tmps.getD p undef)).run P w).andThen fun a w₁=>(loadVar ty a).run P w₁:=by
 simp only[results,h];simp[Sem.run_bind,Result.andThen]
theorem jZ{fn:Func}{p u:Tmp}{ty:TypeId}(h:fn.results = #[.cell p ty, .tmp u])(tmps:Array Value)(P:Program)(w:World) :
 (results fn tmps).run P w=((asAddr (tmps.getD p undef)).run P w).andThen fun a w₁=>((loadVar ty a).run P w₁).andThen fun v w₂ => .ok (.tuple #[v,tmps.getD u undef]) w₂:=by
 simp only[results,h];simp[Sem.run_bind,Result.andThen]
section
def aQ(w:World)(v:Value)(k:Nat)(rs:List (Array Value)):Prop :=
 ∃(ao:Option Addr) (cap:Nat),v = .slice ao rs.length cap∧rs.length<=cap∧cap<=maxLen∧(ao=none->cap=0) ∧
  ∀x,ao=some x -> ∀(i:Nat) (r:Array Value),rs[i]? = some r -> ∀(j:Nat) (u:Value),r[j]? = some u->w.cell? (x.add (i*k+j))=some u
theorem aQ.shape{w:World}{v:Value}{k:Nat}{rs:List (Array Value)}(h:aQ w v k rs) : ∃ao cap,v = .slice ao rs.length cap∧rs.length<=cap∧cap<=9223372036854775807:=by
 obtain⟨ao,cap,rfl,h1,h2,_⟩:=h;exact⟨ao,cap,rfl,h1,by unfold maxLen at h2;exact h2⟩
theorem aQ.empty(w:World)(k:Nat):aQ w (.slice none 0 0) k []:=⟨none,0,rfl,by simp,by simp[maxLen],fun _=>rfl,(fun x hx=>by cases hx)⟩
theorem aQ.below{w w' : World}{v:Value}{k:Nat}{rs:List (Array Value)}(h:aQ w v k rs)(hb:Below w.heap.size w w'):aQ w' v k rs:=by
 obtain⟨ao,cap,rfl,h1,h2,h3,h4⟩:=h;refine⟨ao,cap,rfl,h1,h2,h3,fun x hx i r hr j u hu => ?_⟩
 have hc:=h4 x hx i r hr j u hu;rw[<- hc];exact hb.cell (World.block_lt_of_cell? w _ hc)
theorem aQ.places{w:World}{ao:Option Addr}{n cap k:Nat}{rs:List (Array Value)}(h:aQ w (.slice ao n cap) k rs){r0:Array Value}{u0:Value}(Sw:rs[0]? = some r0)(VY:r0[0]? = some u0) :
 ∃b off,ao=some ⟨b,off,none⟩∧b<w.heap.size ∧ ∀w', Below w.heap.size w w' -> ∀i r,rs[i]? = some r -> ∀j u,r[j]? = some u->w'.cell? ⟨b,off+(i*k+j),none⟩=some u:=by
 have h' := h;obtain⟨EX, cap', hv,h1,h2,h3,h4⟩:=h';simp only[Value.slice.injEq]at hv
 obtain⟨rfl,rfl,rfl⟩:=hv;cases ao with
 | none=>have:=(List.getElem?_eq_some_iff.1 Sw).1;exact absurd (h3 rfl) (by omega)
 | some x =>
  obtain⟨b,off,spot⟩:=x;have hc:=h4 _ rfl 0 _ Sw 0 _ VY;have hspot:spot=none:=by simpa[Addr.add] using World.cell?_spot hc
  subst hspot;refine⟨b,off,rfl,by have:=World.block_lt_of_cell? w _ hc;simpa[Addr.add] using this,fun w' hb i r hr j u hu => ?_⟩
  obtain⟨zD,Jd,hv2,_,_,_,k4⟩:=h.below hb;simp only[Value.slice.injEq]at hv2
  obtain⟨rfl,_,_⟩:=hv2;have:=k4 _ rfl i r hr j u hu
  rwa[Addr.add_lit]at this
theorem aQ.rest{w:World}{ao:Option Addr}{n cap k:Nat}{rs:List (Array Value)}(h:aQ w (.slice ao n cap) k rs)(f:Nat)(hf:f<=n) :
 ∃zD,sliced ao f n cap k = .slice zD (n - f) (cap - f)∧aQ w (.slice zD (n - f) (cap - f)) k (rs.drop f):=by
 obtain⟨EX, cap', hv,h1,h2,h3,h4⟩:=h;simp only[Value.slice.injEq]at hv
 obtain⟨rfl,rfl,rfl⟩:=hv;have hlen:(rs.drop f).length=rs.length - f:=List.length_drop;refine⟨_,rfl,_,_,by rw[hlen],by rw[hlen];omega,by omega, ?_, ?_⟩
 ·intro h0
  split at h0
  ·have:=h3 h0;omega
  ·cases ao with
   | none=>have:=h3 rfl;omega
   | some x=>simp at h0
 ·intro x hx i r hr j u hu
  have hlt:=(List.getElem?_eq_some_iff.1 hr).1;rw[hlen]at hlt
  rw[if_neg (by omega)]at hx
  cases ao with
  | none=>simp at hx
  | some y =>
   simp only[Option.map_some,Option.some.injEq]at hx
   subst hx;rw[List.getElem?_drop]at hr
   have:=h4 y rfl _ r hr j u hu;rw[Deep.add_add, <- Nat.add_assoc, <- Nat.add_mul];exact this
theorem Hb{α H:Type}{enc:TypeId × Value->H}{P:Program}{w:World}{b0 base:Nat}{held:Bool}{t e:TypeId}{k:Nat}{v:Value}{d:DataW H}{p:List MemPlace}(cells:α->Array Value)(fit:α->Prop)
 (ht:P.underlying t=some (.slice e)) (hce:P.cellsOf e=k)
 (hel : ∀(m:Nat) (cs:List Value) (y:DataW H × List MemPlace),DataW.trod enc P w base (fun _=>true) held m e cs=some y -> ∃a,cs=(cells a).toList∧fit a)
 (hv:Value.okWide P w .any b0 t v) (h:DataW.Trod enc P w base (fun _=>true) held t v d p) : ∃l:List α,aQ w v k (l.map cells) ∧ ∀a∈l,fit a:=by
 obtain⟨a,len,cap,rfl⟩:=WideShapes.okWide_slice ht hv;obtain⟨fuel,hf⟩:=h;rcases Deep.open_slice ht hf with ⟨hcs,_⟩ | ⟨x,l,c,m,n,D,Pl,hcs,_,hl,hm,Ns,_,hi⟩
 ·simp[Value.cells]at hcs
  obtain⟨rfl,rfl,rfl⟩:=hcs;exact⟨[],aQ.empty w k,fun a ha=>by simp at ha⟩
 ·simp[Value.cells]at hcs
  obtain⟨rfl,rfl,rfl⟩:=hcs;have each : ∀i,i<len -> ∃f:α,(∀(j:Nat) (u:Value),(cells f)[j]? = some u->w.cell? (x.add (i*k+j))=some u)∧fit f:=by
   intro i XC
   obtain⟨cs', hc,ht'⟩:=hi i (by rw[Ns];simp;omega)
   rw[hce]at hc
   obtain⟨f,rfl,hfit⟩:=hel _ _ _ ht';obtain⟨_,lW,hat⟩:=World.cells?_some hc;refine⟨f,fun j u hu => ?_,hfit⟩
   have ZR:j<k:=by have:=(Array.getElem?_eq_some_iff.1 hu).1;rw[Array.length_toList]at lW;omega
   have:=hat j ZR;rw[<- Deep.add_add,this]
   simpa using hu
  obtain⟨fs,Sx,ZS⟩:=pick _ len each;refine⟨fs,⟨some x,cap,by rw[List.length_map,Sx],by rw[List.length_map];omega,hm,(fun h=>by cases h),fun y hy i r hr j u hu => ?_⟩,fun f hf => ?_⟩
  ·cases hy
   rw[List.getElem?_map,Option.map_eq_some_iff]at hr
   obtain⟨f,hf,rfl⟩:=hr;exact(ZS i f hf).1 j u hu
  ·obtain⟨i,hi⟩:=List.getElem?_of_mem hf
   exact(ZS i f hi).2
section
variable {H : Type} {enc : TypeId × Value -> H} {P : Program} {w : World} {base : Nat} {sp : Nat -> Bool} {held : Bool} {n : Nat} {t : TypeId} {o : Nat} {cs : List Value} {y : DataW H × List MemPlace}
theorem gL(ht:P.underlying t=some (.int .i64))(h:DataW.trod enc P w base sp held n t ((cs.drop o).take (P.cellsOf t))=some y)(hc:P.cellsOf t=1) : ∃x:Int,cs[o]? = some (.int .i64 x) ∧ -9223372036854775808<=x∧x<=9223372036854775807:=by
 rw[hc]at h
 obtain⟨x,e,_,hw⟩:=DataW.trod_int ht h;refine⟨x, ?_,DV hw⟩;have h2:=congrArg (fun l=>l[0]?) e
 simpa[List.getElem?_take,List.getElem?_drop] using h2
theorem zg(ht:P.underlying t=some .string)(h:DataW.trod enc P w base sp held n t ((cs.drop o).take (P.cellsOf t))=some y)(hc:P.cellsOf t=1) : ∃x:ByteArray,cs[o]? = some (.string x)∧x.size<=9223372036854775807:=by
 rw[hc]at h
 obtain⟨x,e,_,hw⟩:=DataW.trod_string ht h;refine⟨x, ?_,by unfold maxLen at hw;exact hw⟩
 have h2:=congrArg (fun l=>l[0]?) e
 simpa[List.getElem?_take,List.getElem?_drop] using h2
end
end
def cV(rs:List (Array Value)):List Value:=rs.flatMap (·.toList)
def dC(k:Nat)(rs:List (Array Value)):Prop := ∀r∈rs,r.size=k∧r.all (·.oneCell')=true
theorem dC.nil(k:Nat):dC k []:=fun r h=>by simp at h
theorem dC.tail{k:Nat}{r:Array Value}{rs:List (Array Value)}(h:dC k (r :: rs)):dC k rs:=fun x hx=>h x (List.mem_cons_of_mem _ hx)
theorem dC.map{α:Type}{k:Nat}{f:α->Array Value}(h : ∀a,(f a).size=k∧(f a).all (·.oneCell')=true)(l:List α):dC k (l.map f):=fun x hx=>by
 obtain⟨a,_,rfl⟩:=List.mem_map.1 hx;exact h a
theorem lN(r:Array Value)(rs:List (Array Value)):cV (r :: rs)=r.toList++cV rs:=rfl
theorem xI(a b:List (Array Value)):cV (a++b)=cV a++cV b:=by simp[cV,List.flatMap_append]
theorem rM{k:Nat} : ∀ {rs:List (Array Value)},dC k rs->(cV rs).length=rs.length*k
 | [],_=>by simp[cV]
 | r :: rs,h=>by
  rw[lN,List.length_append,rM h.tail,Array.length_toList,(h r (by simp)).1,List.length_cons,Nat.add_mul]
  omega
theorem ql{k:Nat} : ∀ {rs:List (Array Value)},dC k rs -> ∀ {i:Nat} {r:Array Value} {j:Nat} {u:Value},rs[i]? = some r->r[j]? = some u->(cV rs)[i*k+j]? = some u
 | [],_,i,r,j,u,h,_=>by simp at h
 | q :: rs,hs,i,r,j,u,h,hj=>by
  have hq:=(hs q (by simp)).1
  cases i with
  | zero =>
   simp at h
   subst h;have:=(Array.getElem?_eq_some_iff.1 hj).1;rw[lN,Nat.zero_mul,Nat.zero_add,List.getElem?_append_left (by simpa using this),Array.getElem?_toList,hj]
  | succ i =>
   rw[lN,Nat.add_mul,Nat.one_mul,List.getElem?_append_right (by rw[Array.length_toList,hq];omega),Array.length_toList,hq,show i*k+k+j - k=i*k+j by omega]
   exact ql hs.tail (by simpa using h) hj
theorem uU{k:Nat} : ∀ {rs:List (Array Value)},dC k rs -> ∀ {m:Nat} {u:Value},(cV rs)[m]? = some u -> ∃i r j,rs[i]? = some r∧r[j]? = some u∧m=i*k+j
 | [],_,m,u,h=>by simp[cV]at h
 | q :: rs,hs,m,u,h=>by
  have hq:=(hs q (by simp)).1
  rw[lN]at h
  rcases Nat.lt_or_ge m k with hlt | hge
  ·rw[List.getElem?_append_left (by rw[Array.length_toList,hq];exact hlt),Array.getElem?_toList]at h
   exact⟨0,q,m,rfl,h,by omega⟩
  ·rw[List.getElem?_append_right (by rw[Array.length_toList,hq];exact hge),Array.length_toList,hq]at h
   obtain⟨i,r,j,h1,h2,h3⟩:=uU hs.tail h;exact⟨i+1,r,j,by simpa using h1,h2,by rw[Nat.add_mul,Nat.one_mul];omega⟩
theorem mX{k:Nat}{rs:List (Array Value)}(h:dC k rs) : ∀u∈cV rs,u.oneCell' = true:=fun u hu=>by
 obtain⟨r,hr,hu⟩:=List.mem_flatMap.1 hu;exact Array.all_eq_true'.1 (h r hr).2 u (by simpa using hu)
def aU(w:World)(base:Nat)(E:TypeId)(k:Nat)(v:Value)(rs:List (Array Value)):Prop:=w.ownsRow base E k v rs.length (cV rs)
theorem aU.empty(w:World)(base:Nat)(E:TypeId)(k:Nat):aU w base E k (.slice none 0 0) []:=World.ownsRow_nil _ _ _ _
theorem aU.shape{w:World}{base:Nat}{E:TypeId}{k:Nat}{v:Value}{rs:List (Array Value)}(h:aU w base E k v rs) : ∃ao cap,v = .slice ao rs.length cap:=by
 rcases h.2 with ⟨rfl,h0⟩ | ⟨g,cap,cur,rfl,_⟩
 ·exact⟨none,0,by rw[h0]⟩
 ·exact⟨_,cap,rfl⟩
theorem aU.reads{w:World}{base:Nat}{E:TypeId}{k:Nat}{v:Value}{rs:List (Array Value)}(h:aU w base E k v rs)(hs:dC k rs):aQ w v k rs:=by
 rcases h.2 with ⟨rfl,h0⟩ | ⟨g,cap,cur,rfl,_,hg,hc,hm,_,ht⟩
 ·obtain rfl:rs = []:=List.eq_nil_of_length_eq_zero h0
  exact aQ.empty w k
 ·refine⟨_,cap,rfl,hc,hm,(fun h=>by cases h),fun x hx i r hr j u hu => ?_⟩
  cases hx;have h1:=ql hs hr hu;rw[<- ht,List.getElem?_take]at h1
  split at h1
  ·rw[Array.getElem?_toList]at h1
   rw[Addr.add_lit,Nat.zero_add];simp[World.cell?,hg,h1]
  ·cases h1
theorem aU.alloc{w:World}{base:Nat}{E:TypeId}{k:Nat}{v:Value}{rs:List (Array Value)}(h:aU w base E k v rs)(o:Obj):aU (w.alloc o) base E k v rs:=World.ownsRow.alloc h o
theorem aU.lt{w:World}{base:Nat}{E:TypeId}{k:Nat}{v:Value}{rs:List (Array Value)}(h:aU w base E k v rs) : ∀j,v.ownBlock=some j->base<=j∧j<w.heap.size:=fun j e=>World.ownsRow.lt h j e
theorem aU.mono{w:World}{base B:Nat}{E:TypeId}{k:Nat}{v:Value}{rs:List (Array Value)}(h:aU w B E k v rs)(hb:base<=B):aU w base E k v rs:=by
 refine⟨h.1, ?_⟩;rcases h.2 with hn | ⟨g,cap,cur,rfl,hb', rest⟩
 ·exact .inl hn
 ·exact .inr ⟨g,cap,cur,rfl,Nat.le_trans hb hb', rest⟩
theorem aU.keep{w w' : World}{base B:Nat}{E:TypeId}{k:Nat}{v:Value}{rs:List (Array Value)}(h:aU w base E k v rs)(hb:Below B w w')(hB:w.heap.size<=B):aU w' base E k v rs:=by
 refine⟨h.1, ?_⟩;rcases h.2 with hn | ⟨g,cap,cur,rfl,hb', CI,rest⟩
 ·exact .inl hn
 ·refine .inr ⟨g,cap,cur,rfl,hb', ?_,rest⟩
  rw[hb.block g (by have:=(Array.getElem?_eq_some_iff.1 CI).1;omega)]
  exact CI
theorem aQ.held{w:World}{ao:Option Addr}{n cap k:Nat}{rs:List (Array Value)}(h:aQ w (.slice ao n cap) k rs)(hs:dC k rs) : ∀b,ao=some b -> ∀j u,(cV rs)[j]? = some u->w.cell? (b.add j)=some u:=by
 obtain⟨EX, cap', hv,_,_,_,h4⟩:=h;simp only[Value.slice.injEq]at hv
 obtain⟨rfl,_,rfl⟩:=hv;intro b hb j u hu
 obtain⟨i,r,q,h1,h2,rfl⟩:=uU hs hu;exact h4 b hb i r h1 q u h2
theorem aQ.len{w:World}{ao:Option Addr}{n cap k:Nat}{rs:List (Array Value)}(h:aQ w (.slice ao n cap) k rs):n=rs.length∧n<=cap∧(ao=none->cap=0)∧cap<=9223372036854775807:=by
 obtain⟨EX, cap', hv,h1,h2,h3,_⟩:=h;simp only[Value.slice.injEq]at hv
 obtain⟨rfl,rfl,rfl⟩:=hv;exact⟨rfl,h1,h3,by unfold maxLen at h2;exact h2⟩
theorem aQ.part{w:World}{ao:Option Addr}{n cap k:Nat}{rs:List (Array Value)}(h:aQ w (.slice ao n cap) k rs)(a b c:Nat)(hab:a<=b)(hb:b<=n)(Bb:b<=c)(hc:c<=cap) :
 ∃zD,sliced ao a b c k = .slice zD (b - a) (c - a)∧aQ w (.slice zD (b - a) (c - a)) k ((rs.take b).drop a):=by
 obtain⟨EX, cap', hv,h1,h2,h3,h4⟩:=h;simp only[Value.slice.injEq]at hv
 obtain⟨rfl,rfl,rfl⟩:=hv;have hlen:((rs.take b).drop a).length=b - a:=by rw[List.length_drop,List.length_take];omega
 refine⟨_,rfl,_,_,by rw[hlen],by rw[hlen];omega,by omega, ?_, ?_⟩
 ·intro h0
  split at h0
  ·omega
  ·cases ao with
   | none=>have:=h3 rfl;omega
   | some x=>simp at h0
 ·intro x hx i r hr j u hu
  have hlt:=(List.getElem?_eq_some_iff.1 hr).1;rw[hlen]at hlt
  rw[if_neg (by omega)]at hx
  cases ao with
  | none=>simp at hx
  | some y =>
   simp only[Option.map_some,Option.some.injEq]at hx
   subst hx;rw[List.getElem?_drop,List.getElem?_take]at hr
   split at hr
   ·have:=h4 y rfl _ r hr j u hu
    rw[Deep.add_add, <- Nat.add_assoc, <- Nat.add_mul];exact this
   ·cases hr
theorem aQ.single{w:World}{g k:Nat}{E:TypeId}{r:Array Value}(h:ae w g E r):aQ w (.slice (some ⟨g,0,none⟩) 1 1) k [r]:=by
 refine⟨_,1,rfl,by simp,by simp[maxLen],(fun h=>by cases h),fun a ha i q hq j u hu => ?_⟩
 cases ha;obtain⟨hi,e⟩:=List.getElem?_eq_some_iff.1 hq;have XB:i=0:=by simp at hi;omega
 subst XB;simp at e
 subst e;rw[Addr.add_lit,Nat.zero_mul,Nat.zero_add,Nat.zero_add];exact h.cell j u hu
theorem kj{P:Program}{w:World}{ops:Array Oper}{rest:List Oper}{o:Oper}{a:Act}{Q:Exit->Act->World->Prop}(hgd:o.guard=none)(s x:Operand)(t E:TypeId)(k bytes:Nat)(z:Value)
 (ho:o.op = .call { callee := .builtin .append,args := #[s,x],argTypes := #[t,t] }) (ht:P.underlying t=some (.slice E))
 (hi:(P.info? E).map (fun i=>(i.zero,i.size,i.bytes))=some (some z,k,bytes)) (TW:z.cells.size=k) (hk:0<k)
 (base:Nat) (l m:List (Array Value)) (v u:Value) (hs:a.eval s=v) (hx:a.eval x=u) (hown:aU w base E k v l) (hr:aQ w u k m) (hm:dC k m)
 (hlen:(l.length+m.length)*bytes<=140737488355328) (sK:l.length+m.length<=140737488355328) (w0:World) (hb:Below base w0 w) (hbase:base<=w0.heap.size)
 (h : ∀v' w', aU w' base E k v' (l++m)->Below base w0 w' -> w.grownBy w' v.ownBlock->wpList P ops Q rest (a.put o.dst v') w'):wpList P ops Q (o :: rest) a w:=by
 obtain⟨i,h1,h2,h3,h4⟩:=info_parts hi;obtain⟨ao,cap,rfl⟩ : ∃ao cap,u = .slice ao m.length cap:=by obtain⟨ao,cap,e,_⟩:=hr.shape;exact⟨ao,cap,e⟩
 have hh:=hr.held hm;obtain⟨_,hc1,hc3,_⟩:=hr.len;have hsz:=hb.size;cases ao with
 | none =>
  have h0:=hc3 rfl;have hm0:m = []:=List.eq_nil_of_length_eq_zero (by omega)
  subst hm0;refine wpList_plain hgd fun K hK => ?_
  have hrun:=run_append_owned_none (P:=P) w base t o.type E i k ht h1 v l.length (cV l) hown;subst h0;unfold Oper.wp;simp[execOp,ho,resolve,invoke,builtin,hs,hx,hrun,Result.andThen];exact hK _ _ (h _ _ (by simpa using hown) hb (World.grownBy.refl _ _))
 | some ad =>
  refine wpList_append_own w hgd s x t ho base E i z k bytes ht h1 h2 h3 h4 TW hk v l.length (cV l) hs hown ad m.length cap (cV m) hx (rM hm) (hh ad rfl) (mX hm) (by unfold maxLen;omega) hlen (by omega) ?_
  intro v' w' h5 h6 _
  refine h v' w' ?_ (hb.grown h6 (by omega) fun k hk=>(World.ownsRow.lt hown k hk).1) h6
  unfold aU;rw[List.length_append,xI];exact h5
theorem ae.sets{g:Nat}{T:TypeId} : ∀(vs:List Value) (o:Nat) (w:World) (cur:Array Value),ae w g T cur->o+vs.length<=cur.size ->
 ∃cur', ae (w.setCells g o vs) g T cur' ∧ cur'.size=cur.size∧(∀j,j<o->cur'[j]? = cur[j]?) ∧ ∀j u,vs[j]? = some u->cur'[o+j]? = some u
 | [],_,_,cur,h,_=>⟨cur,h,rfl,fun _ _=>rfl,fun j u hu=>by simp at hu⟩
 | v :: r,o,w,cur,h,hs=>by
  rw[List.length_cons]at hs
  obtain⟨cur', h1,h2,h3,h4⟩:=ae.sets r (o+1) _ _ (h.set o v) (by simp;omega)
  refine⟨cur', h1,by rw[h2];simp,fun j hj => ?_,fun j u hu => ?_⟩
  ·rw[h3 j (by omega),Array.getElem?_setIfInBounds,if_neg (by omega)]
  ·cases j with
   | zero =>
    simp at hu
    subst hu;rw[Nat.add_zero,h3 o (by omega),Array.getElem?_setIfInBounds,if_pos rfl,if_pos (by omega)]
   | succ j =>
    have:=h4 j u (by simpa using hu)
    rw[show o+(j+1)=o+1+j by omega]
    exact this
theorem uV(g:Nat) : ∀(vs:List Value) (o:Nat) (w:World),w.grownBy (w.setCells g o vs) (some g)
 | [],_,_=>World.grownBy.refl _ _
 | v :: r,o,w=>aM (au w g o v) (uV g r (o+1) _)
theorem ae.whole{w:World}{g:Nat}{T:TypeId}{cur cells:Array Value}(h:ae w g T cur)(hs:cells.size=cur.size):ae (w.setCells g 0 cells.toList) g T cells:=by
 obtain⟨cur', h1,h2,_,h4⟩:=ae.sets cells.toList 0 w cur h (by simp;omega)
 have e:cur' = cells:=by
  refine Array.ext_getElem? fun j => ?_
  by_cases hj:j<cells.size
  ·have:=h4 j cells[j] (by simp[hj])
   rw[Nat.zero_add]at this
   rw[this,Array.getElem?_eq_getElem hj]
  ·rw[Array.getElem?_eq_none (by omega),Array.getElem?_eq_none (by omega)]
 rw[e]at h1
 exact h1
theorem ae.partly{g:Nat}{T:TypeId} : ∀(cs:List Value) (o:Nat) (w:World) (vs vs' : List Value),ae w g T vs.toArray->o+cs.length<=vs.length->vs' = vs.take o++cs++vs.drop (o+cs.length)->ae (w.setCells g o cs) g T vs'.toArray
 | [],o,w,vs,vs', h,hb,e=>by
  subst e;simp only[List.append_nil,List.length_nil,Nat.add_zero,List.take_append_drop];exact h
 | c :: r,o,w,vs,vs', h,hb,e=>by
  rw[List.length_cons]at hb
  have h' : ae (w.setCell ⟨g,o,none⟩ c) g T (vs.set o c).toArray:=by
   have:=h.set o c
   rwa[List.setIfInBounds_toArray]at this
  refine ae.partly r (o+1) _ (vs.set o c) vs' h' (by rw[List.length_set];omega) ?_
  subst e;have e1:(vs.set o c).take (o+1)=vs.take o ++ [c]:=by
   rw[List.take_add_one,List.take_set_of_le (Nat.le_refl _),List.getElem?_set_self (by omega)]
   rfl
  have e2:(vs.set o c).drop (o+1+r.length)=vs.drop (o+(c :: r).length):=by
   rw[List.drop_set_of_lt (by omega),List.length_cons,show o+1+r.length=o+(r.length+1) by omega]
  rw[e1,e2];simp
theorem mY(g:Nat) : ∀(vs:List Value) (o:Nat) (w:World),w.grownBy (w.setCells g o vs) (some g)
 | [],_,_=>World.grownBy.refl _ _
 | v :: r,o,w=>aM (au w g o v) (mY g r (o+1) _)
theorem kZ{P:Program}(w:World)(b o:Nat)(ty:TypeId)(u:Value)(ht:w.there b o u.cells.size)(hi:(P.info? ty).map (·.size)=some u.cells.size)(h1:u.cells.all (·.oneCell')=true) :
 (storeVar ty ⟨b,o,none⟩ u).run P w = .ok () (w.setCells b o u.cells.toList):=by
 have:=run_storeCells_cells (P:=P) b o u.cells.toList 0 w (fun j hj=>by simpa using (ht j (by simpa using hj)).1) (fun j hj=>by simpa using (ht j (by simpa using hj)).2)
  (fun v hv=>(Array.all_eq_true_iff_forall_mem.1 h1) v (by simpa using hv))
 cases hq:P.info? ty with
 | none=>simp[hq]at hi
 | some i =>
  have hs:u.cells.size=i.size:=by simp[hq]at hi;omega
  simp only[Nat.add_zero]at this
  simp[storeVar,sizeOf,typeInfo,hq,hs,this]
theorem aP{P:Program}{ops:Array Oper}{rest:List Oper}{op:Oper}{a:Act}{w:World}{Q:Exit->Act->World->Prop}(hgd:op.guard=none)(ty:TypeId)(x y:Operand)(ho:op.op = .store ty x y)
 (g o:Nat) (T:TypeId) (vs vs' : Array Value) (u:Value) (cs:List Value) (hx:a.eval x = .pointer (some ⟨g,o,none⟩)) (hy:a.eval y=u) (hcs:u.cells.toList=cs)
 (hi:(P.info? ty).map (·.size)=some cs.length) (h1:cs.all (·.oneCell')=true) (hl:ae w g T vs) (hb:o+cs.length<=vs.size)
 (hv:vs'.toList=vs.toList.take o++cs++vs.toList.drop (o+cs.length))
 (h : ∀w', ae w' g T vs' -> w.grownBy w' (some g)->wpList P ops Q rest (a.put op.dst undef) w'):wpList P ops Q (op :: rest) a w:=by
 have hn:u.cells.size=cs.length:=by rw[<- hcs,Array.length_toList]
 have hall:u.cells.all (·.oneCell')=true:=by
  rw[<- Array.all_toList,hcs];exact h1
 have ht:w.there g o u.cells.size:=fun j hj=>by
  refine⟨?_,hl.free (o+j)⟩;obtain⟨v,hv⟩ : ∃v,vs[o+j]? = some v:=⟨_,Array.getElem?_eq_getElem (by omega)⟩
  rw[hl.cell (o+j) v hv]
  rfl
 have hrun:=kZ (P:=P) w g o ty u ht (by rw[hi,hn]) hall
 have hlies:ae (w.setCells g o u.cells.toList) g T vs' := by
  have:=ae.partly cs o w vs.toList vs'.toList (by simpa using hl) (by simpa using hb) hv
  rw[hcs]
  simpa using this
 refine wpList_plain hgd fun _ hK => ?_
 unfold Oper.wp execOp;simp only[ho,hx,hy,Instr.storeAt,Instr.sureAddr,Sem.run_bind,Sem.run_pure,Result.andThen_ok,hrun];exact hK _ _ (h _ hlies (mY g _ _ _))
theorem Reads.dO{w w' : World}{b:Nat}{T:TypeId}{vs:Array Value}{v:Value}{l:List UInt8}(h:Reads w v l)(hl:ae w b T vs)(hno : ∀(j:Nat) (x:Int),vs[j]? ≠ some (.int .u8 x))(hg:w.grownBy w' (some b)):Reads w' v l:=by
 obtain⟨ao,cap,rfl,h1,h2,h3,h4⟩:=h;refine⟨ao,cap,rfl,h1,h2,h3,fun x hx j u hu => ?_⟩
 have hc:=h4 x hx j u hu;rw[<- hc];refine World.cell?_of_block ?_;have hlt:=World.block_lt_of_cell? w _ hc;rw[add_block]at hlt ⊢
 refine hg.block _ hlt ?_;intro hb
 obtain⟨blk,off,spot⟩:=x;obtain rfl:blk=b:=by simpa using hb
 have Ra:(Addr.add ⟨blk,off,spot⟩ j)=⟨blk,off+j,none⟩:=by
  have h:=World.cell?_spot hc;by_cases h0:j=0
  ·subst h0
   simpa[Addr.add] using h
  ·simp[Addr.add,h0]
 rw[Ra]at hc
 obtain⟨c,hcm,rfl⟩:=List.mem_map.1 (List.mem_of_getElem? hu);have hl' : w.heap[blk]? = some (.cells vs T (0,0)):=hl;simp only[World.cell?,hl']at hc
 exact hno _ _ (by simpa using hc)
structure bP(w:World) where
 world:World
 below:Below w.heap.size w world
instance (w : World):Inhabited (bP w):=⟨⟨w,Below.refl _ w⟩⟩
theorem bn{P:Program}{id:Nat}{Q:Exit->Act->World->Prop}{a:Act}{w:World}{l:List Oper}(hm:P.follows .mixedOrders=true)(hB:Region.lexB .any l.toArray=true)
 (h:wpQuiet P l.toArray (fun w' => ∃p:bP w,w' = p.world) (fun a' => ∀w', (∃p:bP w,w' = p.world)->Q .normal a' w') l a):(Code.region id l.toArray true).wp P Q a w :=
 wp_region_quiet (C:=fun w' => ∃p:bP w,w' = p.world) hm hB ⟨⟨w.drewN 1,drawn w 1⟩,rfl⟩ (by simpa using h)
theorem Looks.behind{P:Program}{f:FuncId}{args:Array Value}{w:World}{p:bP w}{v:Value}(h:Calls P f args p.world (Looks p.world v)) :
 Calls P f args p.world fun e w'' => e = .returned v ∧ ∃q:bP w,w'' = q.world :=
 h.mono fun _ w' ⟨he,hb⟩=>⟨he,⟨w', p.below.trans (hb.mono p.below.size)⟩,rfl⟩
end Go.Proofs.YtdkdjofnnnljjaaGreatDoor

namespace Go.Proofs.YtdkdjofnnnljjaaGreatDoor
open Go.RowKit
set_option maxHeartbeats 800000
set_option maxRecDepth 4000
def enc(n:Nat):List UInt8:=if n<128 then [UInt8.ofNat n]else UInt8.ofNat (128+n % 128) :: enc (n / 128)
termination_by n
decreasing_by omega
theorem lI{n:Nat}(h:n<128):enc n = [UInt8.ofNat n]:=by rw[enc,if_pos h]
theorem mP{n:Nat}(h:128<=n):enc n=UInt8.ofNat (128+n % 128) :: enc (n / 128):=by rw[enc,if_neg (by omega)]
theorem lJ(n:Nat):0<(enc n).length:=by
 by_cases h:n<128
 ·rw[lI h];simp
 ·rw[mP (by omega)];simp
theorem Of(k:Nat) : ∀n,n<128 ^ (k+1)->(enc n).length<=k+1:=by
 induction k with
 | zero=>intro n h;rw[lI (by simpa using h)];simp
 | succ k ih =>
  intro n h
  by_cases h1:n<128
  ·rw[lI h1];simp
  ·rw[mP (by omega)]
   have:=ih (n / 128) (by rw[Nat.pow_succ]at h;exact Nat.div_lt_of_lt_mul (by omega))
   simp;omega
theorem aA{n:Nat}(h:n<=9223372036854775807):(enc n).length<=9:=Of 8 n (by omega)
theorem low{n:Nat}(h:n<128):(UInt8.ofNat n).toNat=n:=by rw[UInt8.toNat_ofNat'];omega
theorem high(n:Nat):(UInt8.ofNat (128+n % 128)).toNat=128+n % 128:=by rw[UInt8.toNat_ofNat'];omega
def fG(k acc:Nat):List UInt8->Nat × Nat × Nat
 | []=>(0,0,1)
 | c :: r=>if k=9∨(0<k∧c.toNat=0)then (0,0,3)else if c.toNat<128 then (acc+c.toNat*128 ^ k,k+1,0)else fG (k+1) (acc+(c.toNat - 128)*128 ^ k) r
theorem uJ(post:List UInt8) : ∀(n k acc:Nat),(0<k->0<n)->k+(enc n).length<=9->fG k acc (enc n++post)=(acc+n*128 ^ k,k+(enc n).length,0):=by
 intro n
 induction n using Nat.strongRecOn with
 | ind n ih =>
  intro k acc h0 h9
  by_cases h:n<128
  ·rw[lI h]at h9 ⊢
   have e:=low h;simp at h9
   simp only[List.cons_append,List.nil_append,fG,e];rw[if_neg (by omega),if_pos h];simp
  ·rw[mP (by omega)]at h9 ⊢
   have e:=high n;simp at h9
   have:=lJ (n / 128);simp only[List.cons_append,fG,e];rw[if_neg (by omega),if_neg (by omega),ih (n / 128) (by omega) (k+1) _ (by omega) (by omega)]
   simp only[List.length_cons,Prod.mk.injEq];refine⟨?_,by omega,trivial⟩
   have hd:n=n % 128+128*(n / 128):=by omega
   rw[show 128+n % 128 - 128=n % 128 by omega,Nat.pow_succ]
   have:n*128 ^ k=(n % 128)*128 ^ k+n / 128*(128 ^ k*128):=by
    conv=>lhs;rw[hd]
    rw[Nat.add_mul,Nat.mul_comm (128 ^ k) 128, <- Nat.mul_assoc,Nat.mul_comm 128 (n / 128)]
   omega
theorem DW : ∀(l:List UInt8) (k acc:Nat),acc<128 ^ k->k<=9->(fG k acc l).1<128 ^ 9:=by
 intro l
 induction l with
 | nil=>intro k acc _ _;simp[fG]
 | cons c r ih =>
  intro k acc ha hk
  have hc:c.toNat<256:=c.toNat_lt;unfold fG;split
  ·simp
  ·rename_i h1
   have XD:k<9:=by omega
   split
   ·rename_i h2
    show acc+c.toNat*128 ^ k<128 ^ 9;have h3:acc+c.toNat*128 ^ k<128 ^ (k+1):=by
     rw[Nat.pow_succ];have:c.toNat*128 ^ k<=127*128 ^ k:=Nat.mul_le_mul_right _ (by omega)
     omega
    exact Nat.lt_of_lt_of_le h3 (Nat.pow_le_pow_right (by omega) (by omega))
   ·rename_i h2
    refine ih _ _ ?_ (by omega)
    rw[Nat.pow_succ];have:(c.toNat - 128)*128 ^ k<=127*128 ^ k:=Nat.mul_le_mul_right _ (by omega)
    omega
theorem DX : ∀(l:List UInt8) (k acc:Nat),(fG k acc l).2.1<=k+l.length:=by
 intro l
 induction l with
 | nil=>intro k acc;simp[fG]
 | cons c r ih =>
  intro k acc
  unfold fG;split
  ·simp
  ·split
   ·simp
   ·have:=ih (k+1) (acc+(c.toNat - 128)*128 ^ k)
    simp;omega
theorem TX : ∀x:Fin 256,x.val ||| 128=128+x.val % 128:=by decide+kernel
theorem Hm(m:Nat)(x:Int)(h:x=IntKind.u8.wrap (m:Int)):bits .or .u8 x 128=((UInt8.ofNat (128+m % 128)).toNat:Int):=by
 subst h;rw[IntKind.wrap_u8,u8_or _ _ (by omega) (by omega) (by omega) (by omega),high]
 have h:=TX ⟨m % 256,by omega⟩
 rw[show((m:Int) % 256).toNat=m % 256 by omega]
 show((m % 256 ||| 128:Nat):Int)=_
 simp only at h
 rw[h];omega
theorem Hn(n:Int)(h₀:0<=n)(h₁:n<2 ^ 63):IntKind.i64.wrap n=n:=by rw[IntKind.wrap_i64];omega
theorem TY(k:Nat):2 ^ (7*k)=128 ^ k:=by rw[Nat.pow_mul]
theorem BW(acc k d:Nat)(x:Int)(hx:x=(d:Int))(ha:acc<128 ^ k)(hk:k<=8)(hd:d<128) :
 bits .or .i64 (acc:Int) (RowKit.wrap64 (x*2 ^ (7*k)))=((acc+d*128 ^ k:Nat):Int):=by
 subst hx;have h9:128 ^ (k+1)<=128 ^ 9:=Nat.pow_le_pow_right (by omega) (by omega)
 rw[Nat.pow_succ]at h9
 have h1:d*128 ^ k<=127*128 ^ k:=Nat.mul_le_mul_right _ (by omega)
 have e:((d:Int)*2 ^ (7*k))=((d*128 ^ k:Nat):Int):=by
  rw[<- TY];simp
 rw[e,IntWalk.wrap64_in _ ⟨by omega,by omega⟩]
 rw[(bits_nat .i64 63 (by decide) Hn acc (d*128 ^ k) (by omega) (by omega)).2]
 rw[<- TY]at ha ⊢
 rw[Nat.or_comm,Nat.mul_comm d, <- Nat.two_pow_add_eq_or_of_lt ha d,Nat.add_comm]
theorem Ho{acc:Nat}{c:UInt8}{r:List UInt8}:fG 9 acc (c :: r)=(0,0,3):=by simp[fG]
theorem Hp{k acc:Nat}{c:UInt8}{r:List UInt8}(h:0<k)(hc:c.toNat=0):fG k acc (c :: r)=(0,0,3):=by rw[fG,if_pos (Or.inr ⟨h,hc⟩)]
theorem Hq{k acc:Nat}{c:UInt8}{r:List UInt8}(h9:k≠9)(h:k=0∨0<c.toNat)(hc:c.toNat<128):fG k acc (c :: r)=(acc+c.toNat*128 ^ k,k+1,0):=by
 rw[fG,if_neg (by omega),if_pos hc]
theorem Hr{k acc:Nat}{c:UInt8}{r:List UInt8}(h9:k≠9)(hc : ¬c.toNat<128):fG k acc (c :: r)=fG (k+1) (acc+(c.toNat - 128)*128 ^ k) r:=by
 rw[fG,if_neg (by omega),if_neg hc]
theorem LM{k acc d:Nat}(h:acc<128 ^ k)(hd:d<128):acc+d*128 ^ k<128 ^ (k+1):=by
 rw[Nat.pow_succ];have:d*128 ^ k<=127*128 ^ k:=Nat.mul_le_mul_right _ (by omega)
 omega
theorem nH{α:Type}{l:List α}{j:Nat}{c:α}(h:l[j]? = some c):l.drop j=c :: l.drop (j+1):=by
 obtain⟨hj,rfl⟩:=List.getElem?_eq_some_iff.1 h;exact List.drop_eq_getElem_cons hj
theorem Og(n:Nat)(w:World)(h1:n<=9223372036854775807) :
 Calls Tryz.prog 138 #[.int .i64 (n:Int)] w fun e w' => e = .returned (.int .i64 ((enc n).length:Int))∧w=w' := by
 have h9:=aA h1
 go_enter Tryz.func138,Tryz.ntmps138
 go_wp2
 go_loop [0,3] (fun x s => ∃m k:Nat,x = .int .i64 (m:Int)∧s = .int .i64 (k:Int)∧m<=n∧k+(enc m).length=(enc n).length+1) (fun x _=>(intOf x).toNat)
 case atStart=>exact⟨n,1,rfl,rfl,by omega,by omega⟩
 case round =>
  obtain⟨m,k,rfl,rfl,hm,hk⟩:=hrel;have hp:=lJ m;have XD:k<=9:=by omega
  have HK:=aa hk;clear hk hp h9;by_cases hlt:m<128
  ·go_wp2
   go_ret;have h:=HK.out;rw[lI hlt]at h
   simp at h
   exact⟨ie (by omega),rfl⟩
  ·have hs:=HK.out
   rw[mP (by omega)]at hs
   simp at hs
   have HS:=aa hs;clear hs;go_wp2
   go_round
   case rel=>exact⟨m / 128,k+1,by go_num,by go_num,by omega,by have:=HS.out;omega⟩
   case measure=>simp[intOf];omega
theorem Rb(n:Int)(w:World)(N k:Nat)(hn:n=(N:Int))(h1:n<=9223372036854775807)(hk:Hid (k=(enc N).length)) :
 Calls Tryz.prog 138 #[.int .i64 n] w fun e w' => e = .returned (.int .i64 (k:Int))∧w=w' := by
 subst hn;rw[hk.out];exact Og N w (by omega)
theorem eV : (Tryz.prog.info? 5).map (fun i=>(i.zero,i.size,i.bytes))=some (some (.int .u8 0),1,1):=by kernel_rfl
theorem Fw(v:Value)(l:List UInt8)(n:Int)(w:World)(hr:Reads w v l)(hlen:l.length<=140737488351232)(h0 : -9223372036854775808<=n)(h1:n<=9223372036854775807) :
 Calls Tryz.prog 95 #[v, .int .i64 n] w (xH w 5 (l++enc n.toNat)):=by
 obtain⟨N,hN⟩ : ∃N:Nat,N=n.toNat:=⟨_,rfl⟩;have ZT:N<=9223372036854775807:=by omega
 obtain⟨k,hk⟩ : ∃k:Nat,k=(enc N).length:=⟨_,rfl⟩;have XD:k<=9:=by rw[hk];exact aA ZT
 have HK:Hid (k=(enc N).length):=hk;clear hk;obtain⟨ao,cap,rfl⟩:=hr.shape;rw[<- hN];rcases(show n<0∧N<=0∨0<=n∧n=(N:Int) by omega)with ⟨hn,zG⟩ | ⟨hn,rfl⟩
 all_goals
  clear hN
  go_enter Tryz.func95,Tryz.ntmps95
  go_wp2_with (first
   | (go_at_call 138;refine(Rb _ _ _ k (by first | rfl | omega) (by omega) HK).mono ?_;rintro e w' ⟨rfl,rfl⟩)
   | (at_make;refine DT rfl _ _ 30 5 rfl Tryz.underlying30 eV w.heap.size l.length (l.length+k) _ _ _ _ rfl rfl rfl (by omega) (by omega) (by omega) w (Below.refl _ _) (Nat.le_refl _) ?_;intro w1 lj hb1)
   | (with_reducible show wpList _ _ _ _ _ _;refine DU rfl (.tmp 16) (.tmp 17) 30 30 5 rfl Tryz.underlying30 eV w.heap.size _ l w.heap.size l.length (l.length+k) (.slice ao l.length cap) rfl rfl lj (hr.below hb1) (by simp) w hb1 (Nat.le_refl _) ?_;intro w2 lY hb2 _))
  have fM:bF w2 w.heap.size 5 (.slice (some ⟨w.heap.size,0,none⟩) l.length (l.length+k)) l:=by simpa using lY
  clear lj lY hb1;simp only[goInt,Act.put,List.setIfInBounds_toArray,List.set_cons_succ,List.set_cons_zero]
  go_loopw [1,5] (fun x v wr => ∃(m:Nat) (pre:List UInt8),x = .int .i64 (m:Int)∧bF wr w.heap.size 5 v (l++pre)∧m<=9223372036854775807∧Hid (pre++enc m=enc N)∧Below w.heap.size w wr) (fun x _ _=>(intOf x).toNat)
  case atStart=>exact⟨N, [],by go_num,by simpa using fM,ZT,rfl,hb2⟩
  case round =>
   clear fM hb2;obtain⟨m,pre,rfl,hown,hm,HE,hb⟩:=hrel;have gP:pre.length<=9:=by have:=congrArg List.length HE.out;simp at this;have:=HK.out;omega
   have hsz:=hb.size;by_cases hlt:m<128
   ·go_wp2_with (at_builtin;refine fA rfl _ _ 30 5 rfl Tryz.underlying30 eV w.heap.size (l++pre) [UInt8.ofNat m] _ _ rfl rfl (hown.alloc _) (Reads.one _ _ _ _ (by rw[low hlt])) (by simp;omega) w (hb.alloc (by omega) _) (Nat.le_refl _) ?_;intro v' w' ho hb' hg)
    go_ret;exact⟨v', rfl,by have:=HE.out;rw[lI hlt]at this;rw[<- this, <- List.append_assoc];exact ho,hb'⟩
   ·go_wp2_with (at_builtin;refine fA rfl _ _ 30 5 rfl Tryz.underlying30 eV w.heap.size (l++pre) [UInt8.ofNat (128+m % 128)] _ _ rfl rfl (hown.alloc _) (Reads.one _ _ _ _ (Hm _ _ (by first | rfl | simp[IntKind.wrap_u8]))) (by simp;omega) w (hb.alloc (by omega) _) (Nat.le_refl _) ?_;intro v' w' ho hb' hg)
    go_roundw
    case rel=>exact⟨m / 128,pre ++ [_],by go_num,by rw[<- List.append_assoc];exact ho,by omega,by have:=HE.out;rw[mP (by omega)]at this;show _=_;simpa using this,hb'⟩
    case measure=>simp[intOf];omega
def kS(w:World)(v:Value)(e:Ending)(w' : World):Prop:=e = .returned v ∧ ∃n,w' = w.drewN n
theorem Hs{l m:List UInt8}{i:Nat}{c d:UInt8}(h:l.take i=m.take i)(hl:l[i]? = some c)(hm:m[i]? = some d)(TZ:c=d):l.take (i+1)=m.take (i+1):=by
 rw[List.take_add_one,List.take_add_one,hl,hm,h,TZ]
theorem J4(v u:Value)(l m:List UInt8)(w:World)(hv:Reads w v l)(hu:Reads w u m) :
 Calls Tryz.prog 54 #[v,u] w (kS w (.bool (l == m))):=by
 by_cases hlen:l.length=m.length
 ·by_cases h0:l.length=0
  ·obtain rfl:l = []:=List.eq_nil_of_length_eq_zero h0
   obtain rfl:m = []:=List.eq_nil_of_length_eq_zero (by omega)
   obtain⟨ao,cap,rfl⟩:=hv.shape;obtain⟨bo,ZU,rfl⟩:=hu.shape;clear hv hu hlen h0
   go_enter Tryz.func54,Tryz.ntmps54
   go_wp2;refine wp_loop_rounds 1 ?_;rw[rounds_succ];go_wp2;go_ret;exact⟨rfl,0,rfl⟩
  ·obtain⟨ao,cap,rfl⟩:=hv.shape
   obtain⟨bo,ZU,rfl⟩:=hu.shape;have hl:=hv.len;have hm:=hu.len;obtain⟨b,off,rfl,hc⟩:=hv.place (by omega)
   obtain⟨b', off', rfl,hd⟩:=hu.place (by omega)
   obtain⟨n,hn⟩ : ∃n,n=l.length:=⟨_,rfl⟩;have Sq : m.length=n:=by omega
   rw[<- hn,Sq];have SZ:n<=9223372036854775807:=by omega
   have HN:=aa hn;have HM:=aa Sq;have HC:=aa hc;have HD:=aa hd;clear hl hm hn Sq hlen hc hd
   go_enter Tryz.func54,Tryz.ntmps54
   go_wp2
   go_loopw [5] (fun x wr => ∃i:Nat,x = .int .i64 (i:Int)∧i<=n∧Hid (l.take i=m.take i) ∧ ∃q,wr=w.drewN q) (fun x _=>n - (intOf x).toNat)
   case atStart=>exact⟨0,rfl,by omega,rfl,0,rfl⟩
   case round =>
    obtain⟨i,rfl,hi,HE,q,rfl⟩:=hrel;by_cases hlt:i<n
    ·obtain⟨c,hlc⟩ : ∃c,l[i]? = some c:=⟨_,List.getElem?_eq_getElem (by have:=HN.out;omega)⟩
     obtain⟨d,XE⟩ : ∃d,m[i]? = some d:=⟨_,List.getElem?_eq_getElem (by have:=HM.out;omega)⟩
     have hc:=HC.out i c hlc;have hd:=HD.out i d XE;have Rc:=aa hlc;have ZV:=aa XE;clear hlc XE;go_wp2
     go_quiet (fail)
     by_cases TZ:c=d
     ·subst TZ
      go_wp2
      go_roundw
      case rel=>exact⟨i+1,by go_num,by omega,Hs HE.out Rc.out ZV.out rfl,_,rfl⟩
      case measure=>simp[intOf];omega
     ·have hne:((c.toNat:Int) != (d.toNat:Int))=true:=by simp;exact fun h=>TZ (UInt8.toNat_inj.1 (by omega))
      go_wp2;go_ret;exact⟨bu (by simp;exact fun h=>TZ (by have h1:=Rc.out;have h2:=ZV.out;rw[h,h2]at h1;simpa using h1.symm)),_,World.drewN_drewN _ _ _⟩
    ·go_wp2
     go_ret;exact⟨bu (by simp;have h:=HE.out;rwa[List.take_of_length_le (by have:=HN.out;omega),List.take_of_length_le (by have:=HM.out;omega)]at h),_,rfl⟩
 ·obtain⟨ao,cap,rfl⟩:=hv.shape
  obtain⟨bo,ZU,rfl⟩:=hu.shape;have h1:((l.length:Int) == (m.length:Int))=false:=by simp;omega
  have h2:((l.length:Int) != (m.length:Int))=true:=by simp;omega
  go_enter Tryz.func54,Tryz.ntmps54
  go_wp2;go_ret;exact⟨bu (by simp;exact fun h=>hlen (by rw[h])),0,rfl⟩
def ee(l:List UInt8)(pl:Int):Int × Int × Int :=
 if pl<0∨(l.length:Int)<pl then (0,0,6)else
  let r:=fG 0 0 (l.drop pl.toNat)
  if r.2.2=0 then (r.1,pl+r.2.1,0)else (0,0,r.2.2)
def Fx(w:World)(r:Int × Int × Int)(e:Ending)(w' : World):Prop:=e = .returned (.tuple #[.int .i64 r.1, .int .i64 r.2.1, .int .i64 r.2.2])∧w=w'
theorem tG{l:List UInt8}{p n c:Nat}(hp:p<=l.length)(h:fG 0 0 (l.drop p)=(n,c,0)):ee l p=((n:Int),(p:Int)+(c:Int),0):=by
 unfold ee;rw[if_neg (by omega),Int.toNat_natCast,h]
 simp
theorem kU{l:List UInt8}{p e:Nat}(hp:p<=l.length)(he:e≠0)(h:fG 0 0 (l.drop p)=(0,0,e)):ee l p=(0,0,(e:Int)):=by
 unfold ee;rw[if_neg (by omega),Int.toNat_natCast,h]
 simp[he]
theorem three{a b c:Int}{r:Int × Int × Int}(h:r=(a,b,c)):Ending.returned (.tuple #[.int .i64 a, .int .i64 b, .int .i64 c]) = .returned (.tuple #[.int .i64 r.1, .int .i64 r.2.1, .int .i64 r.2.2]):=by rw[h]
theorem Rf(v:Value)(l:List UInt8)(p:Nat)(w:World)(hv:Reads w v l)(hp:p<l.length) :
 Calls Tryz.prog 148 #[v, .int .i64 (p:Int)] w (Fx w (ee l p)):=by
 obtain⟨ao,cap,rfl⟩:=hv.shape;have hl:=hv.len;obtain⟨b,off,rfl,hc⟩:=hv.place (by omega)
 obtain⟨n,hn⟩ : ∃n,n=l.length:=⟨_,rfl⟩;rw[<- hn];have hpn:p<n:=by omega
 have sJ:n<=cap:=by omega
 have Tp:cap<=9223372036854775807:=by omega
 have hpc : ¬cap=p:=by omega
 have HN:=aa hn;have HC:=aa hc;have hb1:decide ((p:Int)<0)=false:=by simp
 have hb2:decide (n<p)=false:=by simp;omega
 clear hl hn hc hp
 go_enter Tryz.func148,Tryz.ntmps148
 go_wp2
 go_step3
 go_wp2
 go_step3
 go_wp2
 go_loop [24,7,9] (fun x y z=>z = .int .i64 1 ∧ ∃k acc:Nat,x = .int .i64 (k:Int)∧y = .int .i64 (acc:Int)∧k<=n - p∧k<=9∧Hid (acc<128 ^ k)∧Hid (fG k acc (l.drop (p+k))=fG 0 0 (l.drop p))) (fun x _ _=>n - (intOf x).toNat)
 case atStart=>exact⟨rfl,0,0,rfl,rfl,by omega,by omega,show 0<128 ^ 0 by simp,rfl⟩
 case round =>
  obtain⟨rfl,k,acc,rfl,rfl,hk,XD,HA,HE⟩:=hrel;by_cases hlt:k<n - p
  ·obtain⟨c,hlc⟩ : ∃c,l[p+k]? = some c:=⟨_,List.getElem?_eq_getElem (by have:=HN.out;omega)⟩
   have hc:=HC.out (p+k) c hlc;rw[<- Nat.add_assoc]at hc
   have Rc:=aa hlc;clear hlc;have ZW:=c.toNat_lt;by_cases h9:k=9
   ·subst h9
    go_wp2
    go_ret3
    exact⟨three (kU (e:=3) (by have:=HN.out;omega) (by omega) (by rw[<- HE.out,nH Rc.out,Ho])),rfl⟩
   ·by_cases hz:0<k∧c.toNat=0
    ·obtain⟨hz1,hz2⟩:=hz
     go_wp2
     go_ret3
     exact⟨three (kU (e:=3) (by have:=HN.out;omega) (by omega) (by rw[<- HE.out,nH Rc.out,Hp hz1 hz2])),rfl⟩
    ·by_cases h128:c.toNat<128
     ·have CJ : k=0∨0<c.toNat:=by omega
      have XF:=BW acc k c.toNat c.toNat rfl HA.out (by omega) h128
      obtain⟨r,hr⟩ : ∃r:Nat,r=acc+c.toNat*128 ^ k:=⟨_,rfl⟩;rw[<- hr]at XF
      have HR:=aa hr;clear hz hr;go_wp2
      all_goals
       go_ret3
       exact⟨three (by rw[tG (n:=r) (c:=k+1) (by have:=HN.out;omega) (by rw[<- HE.out,nH Rc.out,Hq h9 CJ h128,HR.out])];simp;omega),rfl⟩
     ·have XF:=BW acc k (c.toNat - 128) ((c.toNat:Int) - 128) (by omega) HA.out (by omega) (by omega)
      obtain⟨r,hr⟩ : ∃r:Nat,r=acc+(c.toNat - 128)*128 ^ k:=⟨_,rfl⟩;rw[<- hr]at XF
      have HR:=aa hr;clear hz hr;go_wp2
      all_goals
       go_round
       case rel =>
        refine⟨rfl,k+1,r,by go_num,by go_num,by omega,by omega, ?_, ?_⟩
        ·show r<_;rw[HR.out];exact LM HA.out (by omega)
        ·show fG _ _ _=_;rw[<- HE.out,nH Rc.out,Hr h9 h128,HR.out,Nat.add_assoc]
       case measure=>simp[intOf];omega
  ·go_wp2
   go_ret3
   exact⟨three (kU (e:=1) (by have:=HN.out;omega) (by omega) (by rw[<- HE.out,List.drop_eq_nil_of_le (by have:=HN.out;omega)];rfl)),rfl⟩
theorem Oh(v:Value)(l:List UInt8)(w:World)(hv:Reads w v l) :
 Calls Tryz.prog 148 #[v, .int .i64 (l.length:Int)] w (Fx w (ee l l.length)):=by
 obtain⟨ao,cap,rfl⟩:=hv.shape;have hl:=hv.len;have hr:ee l l.length=(0,0,1):=kU (e:=1) (Nat.le_refl _) (by omega) (by rw[List.drop_eq_nil_of_le (Nat.le_refl _)];rfl)
 rw[hr];obtain⟨n,hn⟩ : ∃n,n=l.length:=⟨_,rfl⟩;rw[<- hn];have sJ:n<=cap:=by omega
 have Tp:cap<=9223372036854775807:=by omega
 have hb1:decide ((n:Int)<0)=false:=by simp
 have hnil:=hl.2.2.2;clear hl hr hn hv;cases ao with
 | none =>
  obtain rfl:cap=0:=hnil rfl;obtain rfl:n=0:=by omega
  go_enter Tryz.func148,Tryz.ntmps148
  go_wp2
  go_step3
  go_wp2
  go_step3
  go_wp2;refine wp_loop_rounds 1 ?_;rw[rounds_succ];go_wp2
  go_ret3
  exact⟨rfl,rfl⟩
 | some x =>
  by_cases hcn:cap=n
  all_goals
   go_enter Tryz.func148,Tryz.ntmps148
   go_wp2
   go_step3
   go_wp2
   go_step3
   go_wp2;refine wp_loop_rounds 1 ?_;rw[rounds_succ];go_wp2
   go_ret3
   exact⟨rfl,rfl⟩
theorem Oi(v:Value)(l:List UInt8)(pl:Int)(w:World)(hv:Reads w v l)(h:pl<0∨(l.length:Int)<pl) :
 Calls Tryz.prog 148 #[v, .int .i64 pl] w (Fx w (ee l pl)):=by
 obtain⟨ao,cap,rfl⟩:=hv.shape;have hr:ee l pl=(0,0,6):=by unfold ee;rw[if_pos h]
 rw[hr];obtain⟨n,hn⟩ : ∃n,n=l.length:=⟨_,rfl⟩;rw[<- hn]at h ⊢
 clear hr hn hv;by_cases h1:pl<0
 ·clear h
  go_enter Tryz.func148,Tryz.ntmps148
  go_wp2
  go_step3
  go_wp2
  go_ret3
  exact⟨rfl,rfl⟩
 ·have h2:(n:Int)<pl:=by omega
  clear h
  go_enter Tryz.func148,Tryz.ntmps148
  go_wp2
  go_step3
  go_wp2
  go_ret3
  exact⟨rfl,rfl⟩
theorem Fy(v:Value)(l:List UInt8)(pl:Int)(w:World)(hv:Reads w v l) :
 Calls Tryz.prog 148 #[v, .int .i64 pl] w (Fx w (ee l pl)):=by
 by_cases h:pl<0∨(l.length:Int)<pl
 ·exact Oi v l pl w hv h
 ·obtain⟨p,rfl⟩:=Int.eq_ofNat_of_zero_le (show 0<=pl by omega)
  by_cases hp:p=l.length
  ·subst hp;exact Oh v l w hv
  ·exact Rf v l p w hv (by omega)
theorem uW(v:Value)(l:List UInt8)(pl:Int)(w:World)(a b c:Int)(hv:Reads w v l)(h:Hid (ee l pl=(a,b,c))) :
 Calls Tryz.prog 148 #[v, .int .i64 pl] w fun e w' => e = .returned (.tuple #[.int .i64 a, .int .i64 b, .int .i64 c])∧w=w' := by
 have hg:=Fy v l pl w hv;rw[h.out]at hg
 exact hg
theorem DY : ∀(l:List UInt8) (k acc n c:Nat),fG k acc l=(n,c,0) -> ∃m,n=acc+m*128 ^ k∧c=k+(enc m).length∧l.take (enc m).length=enc m∧(0<k->0<m):=by
 intro l
 induction l with
 | nil=>intro k acc n c h;simp[fG]at h
 | cons b r ih =>
  intro k acc n c h
  have hb:=b.toNat_lt;unfold fG at h
  split at h
  ·simp at h
  ·rename_i h1
   split at h
   ·rename_i h2
    simp only[Prod.mk.injEq]at h
    refine⟨b.toNat,h.1.symm, ?_, ?_,by omega⟩
    ·rw[lI h2];simp;omega
    ·rw[lI h2];simp
   ·rename_i h2
    obtain⟨m,e1,e2,e3,e4⟩:=ih _ _ _ _ h;have hm:=e4 (by omega)
    refine⟨b.toNat - 128+128*m, ?_, ?_, ?_,by omega⟩
    ·rw[e1,Nat.pow_succ,Nat.add_mul,Nat.mul_comm 128 m,Nat.mul_assoc m 128,Nat.mul_comm 128 (128 ^ k)];omega
    ·rw[mP (by omega),show(b.toNat - 128+128*m) / 128=m by omega,e2];simp;omega
    ·rw[mP (by omega),show(b.toNat - 128+128*m) / 128=m by omega]
     simp only[List.length_cons,List.take_succ_cons,e3,List.cons.injEq,and_true]
     apply UInt8.toNat_inj.1
     rw[high];omega
theorem oW(l:List UInt8)(pl:Int) :
 (∃e:Int,e≠0∧ee l pl=(0,0,e)) ∨
 (∃p n c:Nat,pl=(p:Int)∧p+c<=l.length∧0<c∧n<=9223372036854775807∧ee l pl=((n:Int),((p+c:Nat):Int),0)∧(l.drop p).take c=enc n):=by
 unfold ee;by_cases h:pl<0∨(l.length:Int)<pl
 ·rw[if_pos h];exact .inl ⟨6,by omega,rfl⟩
 ·rw[if_neg h]
  obtain⟨p,rfl⟩:=Int.eq_ofNat_of_zero_le (show 0<=pl by omega)
  have hp:p<=l.length:=by omega
  simp only[Int.toNat_natCast];obtain⟨r,hr⟩ : ∃r,r=fG 0 0 (l.drop p):=⟨_,rfl⟩;rw[<- hr];by_cases h0:r.2.2=0
  ·right
   rw[if_pos h0];obtain⟨n,c,e⟩:=r;simp only at h0
   subst h0;obtain⟨m,e1,e2,e3,_⟩:=DY _ _ _ _ _ hr.symm;have hb:=DW (l.drop p) 0 0 (by simp) (by omega)
   have hk:=DX (l.drop p) 0 0;rw[<- hr]at hb hk
   simp at e1 e2
   subst e1;have:=lJ n;refine⟨p,n,c,rfl, ?_,by omega,by simp at hb;omega,by simp,by rw[e2];exact e3⟩
   simp at hk;omega
  ·rw[if_neg h0]
   exact .inl ⟨_,by omega,rfl⟩
end Go.Proofs.YtdkdjofnnnljjaaGreatDoor

namespace Go.Proofs.YtdkdjofnnnljjaaGreatDoor
open Go.RowKit
namespace Pk
def text(s:List UInt8):List UInt8:=enc s.length++s
def num(b:List UInt8)(p most:Int):Int × Int × Int:=if(ee b p).2.2≠0 then (0,p,(ee b p).2.2)else if most<(ee b p).1 then (0,p,2)else ee b p
def cnt(b:List UInt8)(p most:Int):Int × Int × Int:=if(num b p most).2.2=0∧(b.length:Int) - (num b p most).2.1<(num b p most).1 then (0,(num b p most).2.1,1)else num b p most
def txt(b:List UInt8)(p most:Int):List UInt8 × Int × Int :=
 if(cnt b p most).2.2≠0 then ([],(cnt b p most).2.1,(cnt b p most).2.2)else ((b.drop (cnt b p most).2.1.toNat).take (cnt b p most).1.toNat,(cnt b p most).2.1+(cnt b p most).1,0)
theorem rz(b:List UInt8)(p:Nat)(most:Int) :
 (∃e:Int,e≠0∧ee b p=(0,0,e)∧num b p most=(0,(p:Int),e)) ∨
 (∃n q:Nat,ee b p=((n:Int),(q:Int),0)∧p<q∧q<=b.length∧n<=9223372036854775807∧most<(n:Int)∧num b p most=(0,(p:Int),2)) ∨
 (∃n q:Nat,ee b p=((n:Int),(q:Int),0)∧p<q∧q<=b.length∧n<=9223372036854775807∧(n:Int)<=most∧num b p most=((n:Int),(q:Int),0)):=by
 rcases oW b p with ⟨e,he,hg⟩ | ⟨p', n,c,hp,hc,h0,hn,hg,_⟩
 ·left;exact⟨e,he,hg,by unfold num;rw[hg];simp[he]⟩
 ·right
  obtain rfl:p=p' := by omega
  by_cases hm:most<(n:Int)
  ·left;exact⟨n,p+c,hg,by omega,hc,hn,hm,by unfold num;rw[hg];simp[hm]⟩
  ·right;exact⟨n,p+c,hg,by omega,hc,hn,by omega,by unfold num;rw[hg];simp[hm]⟩
theorem nG(b:List UInt8)(p:Nat)(most:Int) :
 (∃e:Int,e≠0∧num b p most=(0,(p:Int),e)∧cnt b p most=(0,(p:Int),e)) ∨
 (∃n q:Nat,num b p most=((n:Int),(q:Int),0)∧q<=b.length∧n<=9223372036854775807∧(b.length:Int) - q<n∧cnt b p most=(0,(q:Int),1)) ∨
 (∃n q:Nat,num b p most=((n:Int),(q:Int),0)∧q+n<=b.length∧cnt b p most=((n:Int),(q:Int),0)):=by
 rcases rz b p most with ⟨e,he,_,hg⟩ | ⟨n,q,_,_,_,_,_,hg⟩ | ⟨n,q,_,_,hq,hn,_,hg⟩
 ·left;exact⟨e,he,hg,by unfold cnt;rw[hg];simp[he]⟩
 ·left;exact⟨2,by omega,hg,by unfold cnt;rw[hg];simp⟩
 ·right
  by_cases h:(b.length:Int) - q<n
  ·left;exact⟨n,q,hg,hq,hn,h,by unfold cnt;rw[hg];simp[h]⟩
  ·right;exact⟨n,q,hg,by omega,by unfold cnt;rw[hg];simp[h]⟩
theorem nE(b:List UInt8)(p:Nat)(most:Int)(hp:p<=b.length) :
 (∃(e:Int) (q:Nat),e≠0∧q<=b.length∧cnt b p most=(0,(q:Int),e)∧txt b p most=([],(q:Int),e)) ∨
 (∃n q:Nat,cnt b p most=((n:Int),(q:Int),0)∧q+n<=b.length∧txt b p most=((b.drop q).take n,((q+n:Nat):Int),0)):=by
 rcases nG b p most with ⟨e,he,_,hg⟩ | ⟨n,q,_,hq,_,_,hg⟩ | ⟨n,q,_,hq,hg⟩
 ·left;exact⟨e,p,he,hp,hg,by unfold txt;rw[hg];simp[he]⟩
 ·left;exact⟨1,q,by omega,hq,hg,by unfold txt;rw[hg];simp⟩
 ·right;exact⟨n,q,hg,hq,by unfold txt;rw[hg];simp⟩
theorem LN(pre post:List UInt8){N:Nat}(hN:N<=9223372036854775807):ee (pre++(enc N++post)) (pre.length:Nat)=((N:Int),((pre.length+(enc N).length:Nat):Int),0):=by
 have h:=uJ post N 0 0 (by omega) (by have:=aA hN;omega)
 rw[tG (n:=N) (c:=(enc N).length) (by simp) (by rw[List.drop_left,h];simp)]
 simp
theorem yI(pre post:List UInt8){N:Nat}{most:Int}(hN:N<=9223372036854775807)(hm:(N:Int)<=most) :
 num (pre++(enc N++post)) (pre.length:Nat) most=((N:Int),((pre.length+(enc N).length:Nat):Int),0):=by
 unfold num;rw[LN pre post hN];simp;omega
theorem AH(pre post:List UInt8){s:List UInt8}{most:Int}(hN:s.length<=9223372036854775807)(hm:(s.length:Int)<=most) :
 txt (pre++(text s++post)) (pre.length:Nat) most=(s,((pre.length+(text s).length:Nat):Int),0):=by
 have hn:num (pre++(text s++post)) (pre.length:Nat) most=((s.length:Int),((pre.length+(enc s.length).length:Nat):Int),0):=by
  rw[show text s++post=enc s.length++(s++post) by simp[text]]
  exact yI pre (s++post) hN hm
 have hc:cnt (pre++(text s++post)) (pre.length:Nat) most=((s.length:Int),((pre.length+(enc s.length).length:Nat):Int),0):=by
  unfold cnt;rw[hn,if_neg];simp[text];omega
 unfold txt;rw[hc];simp only[ne_eq,not_true,if_false,Int.toNat_natCast,Prod.mk.injEq];refine⟨?_,by simp[text];omega,trivial⟩
 have e:pre++(text s++post)=(pre++enc s.length)++(s++post):=by simp[text]
 rw[e,show pre.length+(enc s.length).length=(pre++enc s.length).length by simp,List.drop_left,List.take_left]
end Pk
end Go.Proofs.YtdkdjofnnnljjaaGreatDoor
