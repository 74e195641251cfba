/- Several texts of mine in one: GMr GCb GRh Take DkList. -/
import Derived.Test.YtdkdjofnnnljjaaGreatDoorPGMp
import Derived.Test.YtdkdjofnnnljjaaGreatDoorPEnMem
import Derived.Test.YtdkdjofnnnljjaaGreatDoorPVers
import Derived.Test.YtdkdjofnnnljjaaGreatDoorGMb
import Derived.Test.YtdkdjofnnnljjaaGreatDoorRows
import Derived.Test.YtdkdjofnnnljjaaGreatDoorPGRd
import Derived.Deep.Slices
import Derived.Deep.Fields
import Derived.ChangeSame
import Derived.Test.YtdkdjofnnnljjaaGreatDoorPPkMath
import Derived.Laws.IdiomStrings
import Derived.Test.YtdkdjofnnnljjaaGreatDoorGRf
import Derived.Test.YtdkdjofnnnljjaaGreatDoorPCmdChk
import Derived.Test.YtdkdjofnnnljjaaGreatDoorGCw
import Derived.Test.YtdkdjofnnnljjaaGreatDoorPMem
import Derived.OrdersHeld
import Derived.Maps.AppendAt
import Derived.Deep.RegionHeld
namespace Go.Proofs.YtdkdjofnnnljjaaGreatDoor
open Go.RowKit
namespace Ms
def large(m:Msg):Bool:=En.large m.ents || ((decide (300<m.img.length) && decide (m.img.length<32760)) || decide (32780<m.img.length))
end Ms
namespace Ms
def f1(m:Msg):Bool:=decide (own m=m) && (!hm m.kind || decide (0<m.img.length))
def f2(m:Msg):Bool:=if m.kind=5 then sole m else true
end Ms
end Go.Proofs.YtdkdjofnnnljjaaGreatDoor

namespace Go.Proofs.YtdkdjofnnnljjaaGreatDoor
open Go.RowKit
def ReadsF(w:World)(v:Value)(l:List Fld):Prop :=
 ∃(ao:Option Addr) (cap:Nat),v = .slice ao l.length cap∧l.length≤cap∧cap≤maxLen∧(ao=none→cap=0) ∧
  (∀x,ao=some x → ∀(i:Nat) (f:Fld),l[i]? = some f → ∀(j:Nat) (u:Value),f.cells[j]? = some u→w.cell? (x.add (i*4+j))=some u) ∧ ∀f∈l,f.Fits
theorem ReadsF.shape{w:World}{v:Value}{l:List Fld}(h:ReadsF w v l) : ∃ao cap,v = .slice ao l.length cap∧l.length≤cap∧cap≤9223372036854775807:=by
 obtain⟨ao,cap,rfl,h1,h2,_⟩:=h
 exact⟨ao,cap,rfl,h1,by unfold maxLen at h2;exact h2⟩
theorem ReadsF.empty(w:World):ReadsF w (.slice none 0 0) []:=⟨none,0,rfl,by simp,by simp[maxLen],fun _=>rfl,(fun x hx=>by cases hx),fun f hf=>by simp at hf⟩
theorem ReadsF.below{w w' : World}{v:Value}{l:List Fld}(h:ReadsF w v l)(hb:Below w.heap.size w w'):ReadsF w' v l:=by
 obtain⟨ao,cap,rfl,h1,h2,h3,h4,h5⟩:=h
 refine⟨ao,cap,rfl,h1,h2,h3,fun x hx i f hf j u hu => ?_,h5⟩
 have hc:=h4 x hx i f hf j u hu
 rw[← hc]
 exact hb.cell (World.block_lt_of_cell? w _ hc)
theorem ReadsF.place{w:World}{ao:Option Addr}{n cap:Nat}{l:List Fld}(h:ReadsF w (.slice ao n cap) l)(hl:0<l.length) :
 ∃b off,ao=some ⟨b,off,none⟩ ∧ ∀i f,l[i]? = some f→w.cell? ⟨b,off+i*4,none⟩=some (.int .i64 f.kind)∧w.cell? ⟨b,off+i*4+1,none⟩=some (.int .i64 f.n) ∧
  w.cell? ⟨b,off+i*4+2,none⟩=some (.string ⟨f.s.toArray⟩)∧w.cell? ⟨b,off+i*4+3,none⟩=some (.bool f.is):=by
 obtain⟨ao', cap', hv,h1,h2,h3,h4,h5⟩:=h
 simp only[Value.slice.injEq]at hv
 obtain⟨rfl,rfl,rfl⟩:=hv
 cases ao with
 | none=>exact absurd (h3 rfl) (by omega)
 | some x =>
  obtain⟨b,off,spot⟩:=x
  have hc:=h4 _ rfl 0 _ (List.getElem?_eq_getElem (by omega)) 0 _ rfl
  have hspot:spot=none:=by simpa[Addr.add] using World.cell?_spot hc
  subst hspot
  refine⟨b,off,rfl,fun i f hf=>⟨?_, ?_, ?_, ?_⟩⟩
  ·have:=h4 _ rfl i f hf 0 _ rfl;rwa[Addr.add_lit]at this
  ·have:=h4 _ rfl i f hf 1 _ rfl;rwa[Addr.add_lit, ← Nat.add_assoc]at this
  ·have:=h4 _ rfl i f hf 2 _ rfl;rwa[Addr.add_lit, ← Nat.add_assoc]at this
  ·have:=h4 _ rfl i f hf 3 _ rfl;rwa[Addr.add_lit, ← Nat.add_assoc]at this
theorem ReadsF.places{w:World}{ao:Option Addr}{n cap:Nat}{l:List Fld}(h:ReadsF w (.slice ao n cap) l)(hl:0<l.length) :
 ∃b off,ao=some ⟨b,off,none⟩ ∧ ∀w', Below w.heap.size w w' → ∀i f,l[i]? = some f→w'.cell? ⟨b,off+i*4,none⟩=some (.int .i64 f.kind)∧w'.cell? ⟨b,off+i*4+1,none⟩=some (.int .i64 f.n) ∧
  w'.cell? ⟨b,off+i*4+2,none⟩=some (.string ⟨f.s.toArray⟩)∧w'.cell? ⟨b,off+i*4+3,none⟩=some (.bool f.is):=by
 obtain⟨b,off,rfl,_⟩:=h.place hl
 refine⟨b,off,rfl,fun w' hb => ?_⟩
 obtain⟨b', off', he,hc⟩:=(h.below hb).place hl
 cases he
 exact hc
def Pk.large(l:List Fld):Bool:=(l.take 60).any (fun f=>decide (200<f.s.length)) || decide (60<l.length)
theorem Pk.take_next{l:List Fld}{i:Nat}{f:Fld}(h:l[i]? = some f):Pk.all (l.take (i+1))=Pk.all (l.take i)++Pk.one f:=by
 rw[List.take_add_one,h]
 exact Pk.all_snoc _ _
end Go.Proofs.YtdkdjofnnnljjaaGreatDoor

namespace Go.Proofs.YtdkdjofnnnljjaaGreatDoor
open Go.RowKit
set_option maxHeartbeats 1600000
set_option maxRecDepth 4000
theorem largeRe_any(x:Re.Rec)(vi:Value)(w:World)(hi:Reads w vi x.img)(hs:x.cmd.Short 9223372036854775807) :
 Calls Tryz.prog 57 #[.agg (Re.cells x vi)] w (Looks w (.bool (Re.large x))):=by
 obtain⟨w1,e1,hl1,hB1,hz1⟩:=box_rec w x vi
 obtain⟨io,ic,rfl⟩:=hi.shape
 have hlen:=hi.len
 obtain⟨p0,p1,p2,p3,p4,p5,p6,p7,p8,p9,p10,p11⟩:=Recs.all hl1
 have HB1:=Lib.hid hB1
 have k1:=str_size x.cmd.key;have k2:=str_size x.cmd.val;have k3:=str_size x.cmd.old
 obtain⟨r,hr⟩ : ∃r,r=Re.large x:=⟨_,rfl⟩
 rw[← hr]
 unfold Re.large at hr
 obtain⟨x1,hx1⟩ : ∃n,n=x.cmd.key.length:=⟨_,rfl⟩
 obtain⟨x2,hx2⟩ : ∃n,n=x.cmd.val.length:=⟨_,rfl⟩
 obtain⟨x3,hx3⟩ : ∃n,n=x.cmd.old.length:=⟨_,rfl⟩
 obtain⟨n,hn⟩ : ∃n,n=x.img.length:=⟨_,rfl⟩
 have z1:x1≤9223372036854775807:=hx1 ▸ hs.1
 have z2:x2≤9223372036854775807:=hx2 ▸ hs.2.2
 have z3:x3≤9223372036854775807:=hx3 ▸ hs.2.1
 have zn:n≤9223372036854775807:=by omega
 rw[← hx1, ← hx2, ← hx3, ← hn]at hr
 rw[← hx1]at k1
 rw[← hx2]at k2
 rw[← hx3]at k3
 rw[← hn]at p11 e1 ⊢
 clear hl1 hB1 hz1 hi hs hx1 hx2 hx3 hn hlen
 by_cases h1:200<x1
 ·have d1:decide ((200:Int)<(x1:Int))=true:=by simp;omega
  have HZ:Hid (r=true):=by show _=_;rw[hr];simp;omega
  clear hr
  go_enter Tryz.func57,Tryz.ntmps57
  go_wp2
  go_ret
  exact⟨by rw[HZ.out];rfl,HB1.out⟩
 have d1:decide ((200:Int)<(x1:Int))=false:=by simp;omega
 by_cases h2:200<x2
 ·have d2:decide ((200:Int)<(x2:Int))=true:=by simp;omega
  have HZ:Hid (r=true):=by show _=_;rw[hr];simp;omega
  clear hr
  go_enter Tryz.func57,Tryz.ntmps57
  go_wp2
  go_ret
  exact⟨by rw[HZ.out];rfl,HB1.out⟩
 have d2:decide ((200:Int)<(x2:Int))=false:=by simp;omega
 by_cases h3:200<x3
 ·have d3:decide ((200:Int)<(x3:Int))=true:=by simp;omega
  have HZ:Hid (r=true):=by show _=_;rw[hr];simp;omega
  clear hr
  go_enter Tryz.func57,Tryz.ntmps57
  go_wp2
  go_ret
  exact⟨by rw[HZ.out];rfl,HB1.out⟩
 have d3:decide ((200:Int)<(x3:Int))=false:=by simp;omega
 by_cases h4:300<n
 ·have d4:decide ((300:Int)<(n:Int))=true:=by simp;omega
  by_cases h5:n<32760
  ·have d5:decide ((n:Int)<(32760:Int))=true:=by simp;omega
   have HZ:Hid (r=true):=by show _=_;rw[hr];simp;omega
   clear hr
   go_enter Tryz.func57,Tryz.ntmps57
   go_wp2
   go_ret
   exact⟨by rw[HZ.out];rfl,HB1.out⟩
  have d5:decide ((n:Int)<(32760:Int))=false:=by simp;omega
  by_cases h6:32780<n
  ·have d6:decide ((32780:Int)<(n:Int))=true:=by simp;omega
   have HZ:Hid (r=true):=by show _=_;rw[hr];simp;omega
   clear hr
   go_enter Tryz.func57,Tryz.ntmps57
   go_wp2
   go_ret
   exact⟨by rw[HZ.out];rfl,HB1.out⟩
  have d6:decide ((32780:Int)<(n:Int))=false:=by simp;omega
  have HZ:Hid (r=false):=by show _=_;rw[hr];simp;omega
  clear hr
  go_enter Tryz.func57,Tryz.ntmps57
  go_wp2
  go_ret
  exact⟨by rw[HZ.out];rfl,HB1.out⟩
 have d4:decide ((300:Int)<(n:Int))=false:=by simp;omega
 have d6:decide ((32780:Int)<(n:Int))=false:=by simp;omega
 have HZ:Hid (r=false):=by show _=_;rw[hr];simp;omega
 clear hr
 go_enter Tryz.func57,Tryz.ntmps57
 go_wp2
 go_ret
 exact⟨by rw[HZ.out];rfl,HB1.out⟩
end Go.Proofs.YtdkdjofnnnljjaaGreatDoor

namespace Go.Proofs.YtdkdjofnnnljjaaGreatDoor
open Go.RowKit
theorem wpT{P:Program}{md:Region.Mode}{ops:Array Oper}{Q:Exit→Act→World→Prop}{S:World→Prop}(i:Nat){oi:Oper}{v:Value}{fuel:Nat}{listed:Array Bool}{a:Act}{w:World}(hi:ops[i]? = some oi)(hS:S w)
 (h:wpAnyH P md ops Q S fuel (listed.setIfInBounds i true) (a.put oi.dst v) w)
 (hy : ∀W,S W→(execOp a.eval oi).run P W = .ok (.value v) W:=by intro W hSw;go_simp;(try with_reducible rfl))
 (hs:Region.noSelect ops=true:=by kernel_rfl) (hf:Region.free md ops listed i=true:=by kernel_rfl) (hr:(Region.ready md ops listed).contains i=true:=by kernel_rfl) (hw:Region.wanted oi (yielded ops a.tmps)=true:=by kernel_rfl)
 (hQ : ∀c a w,Q (.panic c) (a.put oi.dst v) w→Q (.panic c) a w:=by exact fun _ _ _ h=>h):wpAnyH P md ops Q S (fuel+1) listed a w :=
 wpAnyH_take hi hs hf hr hQ (.inl ⟨hw,hy⟩) hS h
end Go.Proofs.YtdkdjofnnnljjaaGreatDoor

namespace Go.Proofs.YtdkdjofnnnljjaaGreatDoor
open Go.RowKit
section
structure Kp(q:Nat→Obj→Prop)(w w' : World):Prop where
 os:w'.os=w.os
 tape:w'.tape=w.tape
 output:w'.output=w.output
 size:w.heap.size≤w'.heap.size
 same : ∀b o,w.heap[b]? = some o→q b o→w'.heap[b]? = some o
theorem lt_of_obj{w:World}{b:Nat}{o:Obj}(h:w.heap[b]? = some o):b<w.heap.size:=(Array.getElem?_eq_some_iff.1 h).1
theorem obj_of_lt{w:World}{b:Nat}(h:b<w.heap.size) : ∃o,w.heap[b]? = some o:=⟨_,Array.getElem?_eq_getElem h⟩
theorem Kp.refl(q:Nat→Obj→Prop)(w:World):Kp q w w:=⟨rfl,rfl,rfl,Nat.le_refl _,fun _ _ h _=>h⟩
theorem Kp.trans{q:Nat→Obj→Prop}{a b c:World}(h:Kp q a b)(k:Kp q b c):Kp q a c :=
 ⟨k.os.trans h.os,k.tape.trans h.tape,k.output.trans h.output,Nat.le_trans h.size k.size,fun g o e hq=>k.same g o (h.same g o e hq) hq⟩
theorem Kp.imp{q r:Nat→Obj→Prop}{w w' : World}(h:Kp q w w')(hq : ∀b o,w.heap[b]? = some o→r b o→q b o):Kp r w w' :=
 ⟨h.os,h.tape,h.output,h.size,fun b o e hr=>h.same b o e (hq b o e hr)⟩
theorem Kp.of_grown{q:Nat→Obj→Prop}{w w' : World}{row:Option Nat}(h:w.grownBy w' row)(hq : ∀b o,row=some b→w.heap[b]? = some o → ¬q b o):Kp q w w' :=
 ⟨h.os,h.tape,h.output,h.size,fun b o e hb=>(h.block b (lt_of_obj e) (fun r=>hq b o r.symm e hb)).trans e⟩
theorem Kp.of_below{q:Nat→Obj→Prop}{w w' : World}{B:Nat}(h:Below B w w')(hq : ∀b o,w.heap[b]? = some o→q b o→b<B):Kp q w w' :=
 ⟨h.os,h.tape,h.output,h.size,fun b o e hb=>(h.block b (hq b o e hb)).trans e⟩
theorem Kp.all{q:Nat→Obj→Prop}{w w' : World}(h:Below w.heap.size w w'):Kp q w w' := Kp.of_below h fun _ _ e _=>lt_of_obj e
theorem Kp.below{q:Nat→Obj→Prop}{w w' : World}{B:Nat}(h:Kp q w w')(hB:B≤w.heap.size)(hq : ∀b o,b<B→w.heap[b]? = some o→q b o):Below B w w' :=
 ⟨h.os,h.tape,h.output,h.size,fun b hb=>by
  obtain⟨o,ho⟩:=obj_of_lt (show b<w.heap.size by omega)
  rw[ho]
  exact h.same b o ho (hq b o hb ho)⟩
theorem Kp.block{q:Nat→Obj→Prop}{w w' : World}(h:Kp q w w'){b:Nat}(hlt:b<w.heap.size)(hq : ∀o,q b o):w'.heap[b]? = w.heap[b]? := by
 obtain⟨o,ho⟩:=obj_of_lt hlt
 rw[ho]
 exact h.same b o ho (hq o)
theorem Kp.keep{q:Nat→Obj→Prop}{p:Nat→TypeId→Prop}{w w' : World}(h:Kp q w w')(hq : ∀b cs t fr,w.heap[b]? = some (.cells cs t fr)→p b t→q b (.cells cs t fr)):Keep p w w' :=
 ⟨h.size,fun b cs t fr e hp=>h.same b _ e (hq b cs t fr e hp)⟩
theorem Kp.then{q r:Nat→Obj→Prop}{a b c:World}(h:Kp q a b)(k:Kp r b c)(hr : ∀g o,a.heap[g]? = some o→q g o→r g o):Kp q a c :=
 ⟨k.os.trans h.os,k.tape.trans h.tape,k.output.trans h.output,Nat.le_trans h.size k.size,fun g o e hq=>k.same g o (h.same g o e hq) (hr g o e hq)⟩
theorem Kp.lies{q:Nat→Obj→Prop}{w w' : World}(h:Kp q w w'){b:Nat}{t:TypeId}{vs:Array Value}(hl:Lies w b t vs)(hq : ∀o,q b o):Lies w' b t vs:=h.same b _ hl (hq _)
theorem Kp.drew{q:Nat→Obj→Prop}(w:World):Kp q w w.drew:=Kp.all (drawn w 1)
theorem Kp.alloc{q:Nat→Obj→Prop}(w:World)(o:Obj):Kp q w (w.alloc o):=Kp.all ((Below.refl _ w).alloc (Nat.le_refl _) o)
theorem Keep.imp{p p' : Nat→TypeId→Prop}{w w' : World}(h:Keep p w w')(hp : ∀b t,p' b t→p b t):Keep p' w w' := ⟨h.size,fun b cs t fr e hq=>h.same b cs t fr e (hp b t hq)⟩
theorem ReadsP.imp{p p' : Nat→TypeId→Prop}{w:World}{v:Value}{l:List UInt8}(h:ReadsP p w v l)(hp : ∀b cs t fr,w.heap[b]? = some (.cells cs t fr)→p b t→p' b t):ReadsP p' w v l:=by
 obtain⟨h1,h2⟩:=h
 refine⟨h1,fun h0 => ?_⟩
 obtain⟨x,n,c,cs,t,fr,e1,e2,e3⟩:=h2 h0
 exact⟨x,n,c,cs,t,fr,e1,e2,hp _ _ _ _ e2 e3⟩
theorem Reads.first{w:World}{ao:Option Addr}{n cap:Nat}{l:List UInt8}(h:Reads w (.slice ao n cap) l)(k:Nat)(hk:k≤n):Reads w (.slice ao k cap) (l.take k):=by
 obtain⟨ao', cap', hv,h1,h2,h3,h4⟩:=h
 simp only[Value.slice.injEq]at hv
 obtain⟨rfl,rfl,rfl⟩:=hv
 have e:(l.take k).length=k:=by rw[List.length_take];omega
 refine⟨ao,cap,by rw[e],by omega,h2,h3,fun x hx j u hu=>h4 x hx j u ?_⟩
 have:cellsOf (l.take k)=(cellsOf l).take k:=by simp[cellsOf,List.map_take]
 rw[this,List.getElem?_take]at hu
 split at hu
 ·exact hu
 ·cases hu
theorem Owns.stays{w w' : World}{base:Nat}{E:TypeId}{v:Value}{l:List UInt8}(h:Owns w base E v l)(hb : ∀g,v.ownBlock=some g→w'.heap[g]? = w.heap[g]?):Owns w' base E v l:=by
 refine⟨h.1, ?_⟩
 rcases h.2 with hn | ⟨g,cap,cur,rfl,hb', hgg,rest⟩
 ·exact .inl hn
 ·exact .inr ⟨g,cap,cur,rfl,hb', (hb g rfl).trans hgg,rest⟩
theorem OwnsR.stays{w w' : World}{base:Nat}{E:TypeId}{k:Nat}{v:Value}{rs:List (Array Value)}(h:OwnsR w base E k v rs)(hb : ∀g,v.ownBlock=some g→w'.heap[g]? = w.heap[g]?):OwnsR w' base E k v rs:=by
 refine⟨h.1, ?_⟩
 rcases h.2 with hn | ⟨g,cap,cur,rfl,hb', hgg,rest⟩
 ·exact .inl hn
 ·exact .inr ⟨g,cap,cur,rfl,hb', (hb g rfl).trans hgg,rest⟩
theorem Owns.cells{w:World}{base:Nat}{E:TypeId}{v:Value}{l:List UInt8}(h:Owns w base E v l){g:Nat}(e:v.ownBlock=some g) : ∃cs,w.heap[g]? = some (.cells cs E (0,0))∧base≤g:=by
 rcases h.2 with ⟨rfl,_⟩ | ⟨g', cap,cur,rfl,hb', hgg,rest⟩
 ·simp[Value.ownBlock]at e
 ·obtain rfl:g' = g:=by simpa[Value.ownBlock] using e
  exact⟨cur,hgg,hb'⟩
theorem OwnsR.cells{w:World}{base:Nat}{E:TypeId}{k:Nat}{v:Value}{rs:List (Array Value)}(h:OwnsR w base E k v rs){g:Nat}(e:v.ownBlock=some g) : ∃cs,w.heap[g]? = some (.cells cs E (0,0))∧base≤g:=by
 rcases h.2 with ⟨rfl,_⟩ | ⟨g', cap,cur,rfl,hb', hgg,rest⟩
 ·simp[Value.ownBlock]at e
 ·obtain rfl:g' = g:=by simpa[Value.ownBlock] using e
  exact⟨cur,hgg,hb'⟩
theorem ReadsP.own{p:Nat→TypeId→Prop}{w:World}{base:Nat}{E:TypeId}{v:Value}{l:List UInt8}(h:Owns w base E v l)(hp : ∀g,v.ownBlock=some g→p g E):ReadsP p w v l:=by
 refine⟨h.reads,fun h0 => ?_⟩
 rcases h.2 with ⟨_,h1⟩ | ⟨g,cap,cur,rfl,hb,hg,_⟩
 ·omega
 ·exact⟨_,_,_,cur,E,(0,0),rfl,hg,hp g rfl⟩
theorem run_append_bytes_at{P:Program}{w:World}(t ty E:TypeId)(ht:P.underlying t=some (.slice E))(hi:(P.info? E).map (fun i=>(i.zero,i.size,i.bytes))=some (some (.int .u8 0),1,1))
 (base:Nat) (l m:List UInt8) (v u:Value) (hown:Owns w base E v l) (hr:Reads w u m) (hlen:l.length+m.length≤140737488355328) (hbase:base≤w.heap.size) :
 ∃v' w', (Builtin.append_ #[t,t] ty #[v,u]).run P w = .ok v' w' ∧ Owns w' base E v' (l++m)∧w.grownBy w' v.ownBlock∧(v'.ownBlock=v.ownBlock∨v'.ownBlock=some w.heap.size):=by
 obtain⟨i,h1,h2,h3,h4⟩:=info_parts hi
 obtain⟨ao,cap,rfl,hc1,hc2,hc3,hc4⟩:=hr
 cases ao with
 | none =>
  have h0:=hc3 rfl
  have hm:m = []:=List.eq_nil_of_length_eq_zero (by omega)
  subst hm
  subst h0
  have hrun:=run_append_owned_none (P:=P) w base t ty E i 1 ht h1 v l.length (cellsOf l) hown
  exact⟨v,w,hrun,by simpa using hown,World.grownBy.refl _ _, .inl rfl⟩
 | some ad =>
  obtain⟨v', w', hrun,h5,h6,_,h7⟩:=run_append_own_at (P:=P) w base t ty E i (.int .u8 0) 1 1 ht h1 h2 h3 h4 rfl (by decide) v l.length (cellsOf l) hown ad m.length cap (cellsOf m) (by simp[cellsOf]) (hc4 ad rfl) (cellsOf_one m) (by unfold maxLen;omega) (by omega) (by omega)
  refine⟨v', w', hrun, ?_,h6,h7⟩
  unfold Owns
  rw[List.length_append,cellsOf_app]
  exact h5
theorem run_append_rows_at{P:Program}{w:World}(t ty E:TypeId)(k bytes:Nat)(z:Value)(ht:P.underlying t=some (.slice E))
 (hi:(P.info? E).map (fun i=>(i.zero,i.size,i.bytes))=some (some z,k,bytes)) (hzk:z.cells.size=k) (hk:0<k)
 (base:Nat) (l m:List (Array Value)) (v u:Value) (hown:OwnsR w base E k v l) (hr:ReadsR w u k m) (hm:Sized k m)
 (hlen:(l.length+m.length)*bytes≤140737488355328) (hlen2:l.length+m.length≤140737488355328) (hbase:base≤w.heap.size) :
 ∃v' w', (Builtin.append_ #[t,t] ty #[v,u]).run P w = .ok v' w' ∧ OwnsR w' base E k v' (l++m)∧w.grownBy w' v.ownBlock∧(v'.ownBlock=v.ownBlock∨v'.ownBlock=some w.heap.size):=by
 obtain⟨i,h1,h2,h3,h4⟩:=info_parts hi
 obtain⟨ao,cap,rfl⟩ : ∃ao cap,u = .slice ao m.length cap:=by obtain⟨ao,cap,e,_⟩:=hr.shape;exact⟨ao,cap,e⟩
 have hh:=hr.held hm
 obtain⟨_,hc1,hc3,_⟩:=hr.len
 cases ao with
 | none =>
  have h0:=hc3 rfl
  have hm0:m = []:=List.eq_nil_of_length_eq_zero (by omega)
  subst hm0
  have hrun:=run_append_owned_none (P:=P) w base t ty E i k ht h1 v l.length (flatR l) hown
  subst h0
  exact⟨v,w,hrun,by simpa using hown,World.grownBy.refl _ _, .inl rfl⟩
 | some ad =>
  obtain⟨v', w', hrun,h5,h6,_,h7⟩:=run_append_own_at (P:=P) w base t ty E i z k bytes ht h1 h2 h3 h4 hzk hk v l.length (flatR l) hown ad m.length cap (flatR m) (flatR_len hm) (hh ad rfl) (flatR_one_cell hm) (by unfold maxLen;omega) hlen (by omega)
  refine⟨v', w', hrun, ?_,h6,h7⟩
  unfold OwnsR
  rw[List.length_append,flatR_app]
  exact h5
theorem op_append{P:Program}{w w' : World}{o:Oper}{a:Act}{K:Act→World→Prop}{Q:Exit→Act→World→Prop}(s x:Operand)(t:TypeId)(ho:o.op = .call { callee := .builtin .append,args := #[s,x],argTypes := #[t,t] })
 (v u v' : Value) (hs:a.eval s=v) (hx:a.eval x=u) (hr:(Builtin.append_ #[t,t] o.type #[v,u]).run P w = .ok v' w') (hK:K (a.put o.dst v') w'):Oper.wp P o a w K Q:=by
 unfold Oper.wp execOp
 simp only[ho,resolve,invoke,builtin,Sem.run_bind,Sem.run_pure,Result.andThen_ok,List.map_toArray,List.map_cons,List.map_nil,hs,hx,hr]
 exact hK
theorem step_append{P:Program}{w w' : World}{ops:Array Oper}{rest:List Oper}{o:Oper}{a:Act}{Q:Exit→Act→World→Prop}(hg:o.guard=none)(s x:Operand)(t:TypeId)(ho:o.op = .call { callee := .builtin .append,args := #[s,x],argTypes := #[t,t] })
 (v u v' : Value) (hs:a.eval s=v) (hx:a.eval x=u) (hr:(Builtin.append_ #[t,t] o.type #[v,u]).run P w = .ok v' w') (hK:wpList P ops Q rest (a.put o.dst v') w'):wpList P ops Q (o :: rest) a w :=
 wpList_plain hg fun _ hK' => op_append s x t ho v u v' hs hx hr (hK' _ _ hK)
section
variable {P : Program} {md : Region.Mode} {ops : Array Oper} {Q : Exit → Act → World → Prop} {S : World → Prop} {fuel : Nat} {listed : Array Bool} {a : Act} {w : World}
theorem ready_op(i:Nat){o:Oper}(ho:ops[i]? = some o)(hgd:o.guard=none)(v' : Value)(w' : World)(h : ∀K:Act→World→Prop,K (a.put o.dst v') w' → Oper.wp P o a w K Q)
 (hK:S w' ∧ (S w' → wpAnyH P md ops Q S fuel (listed.setIfInBounds i true) (a.put o.dst v') w')):AllReadyH P md ops Q S fuel listed a w [i] :=
 AllReadyH.cons ho (fun K hS=>by
  rw[if_pos (by simp[Region.wanted,hgd])]
  exact h K (hS.out _ _ hK.1 hK.2)) AllReadyH.nil
theorem ready_append(i:Nat)(s x:Operand)(t:TypeId){o:Oper}(ho:ops[i]? = some o)(hgd:o.guard=none)(hop:o.op = .call { callee := .builtin .append,args := #[s,x],argTypes := #[t,t] })(v u v' : Value)(w' : World)
 (hs:a.eval s=v) (hx:a.eval x=u) (hr:(Builtin.append_ #[t,t] o.type #[v,u]).run P w = .ok v' w') (hK:S w' ∧ (S w' → wpAnyH P md ops Q S fuel (listed.setIfInBounds i true) (a.put o.dst v') w')):AllReadyH P md ops Q S fuel listed a w [i] :=
 ready_op i ho hgd v' w' (fun _ hK=>op_append s x t hop v u v' hs hx hr hK) hK
theorem ready_store(i:Nat)(ty:TypeId)(x y:Operand){o:Oper}(ho:ops[i]? = some o)(hgd:o.guard=none)(hop:o.op = .store ty x y)(g off:Nat)(T:TypeId)(vs vs' : Array Value)(u:Value)(cs:List Value)
 (hx:a.eval x = .pointer (some ⟨g,off,none⟩)) (hy:a.eval y=u) (hcs:u.cells.toList=cs) (hi:(P.info? ty).map (·.size)=some cs.length) (h1:cs.all (·.oneCell')=true) (hl:Lies w g T vs) (hb:off+cs.length≤vs.size)
 (hv:vs'.toList=vs.toList.take off++cs++vs.toList.drop (off+cs.length))
 (hK : ∀w', Lies w' g T vs' → w.grownBy w' (some g)→S w' ∧ (S w' → wpAnyH P md ops Q S fuel (listed.setIfInBounds i true) (a.put o.dst undef) w')):AllReadyH P md ops Q S fuel listed a w [i]:=by
 have hn:u.cells.size=cs.length:=by rw[← hcs,Array.length_toList]
 have hall:u.cells.all (·.oneCell')=true:=by rw[← Array.all_toList,hcs];exact h1
 have ht:w.there g off u.cells.size:=fun j hj=>by
  refine⟨?_,hl.free (off+j)⟩
  obtain⟨v,hv⟩ : ∃v,vs[off+j]? = some v:=⟨_,Array.getElem?_eq_getElem (by omega)⟩
  rw[hl.cell (off+j) v hv]
  rfl
 have hrun:=run_storeVar_any (P:=P) w g off ty u ht (by rw[hi,hn]) hall
 have hlies:Lies (w.setCells g off u.cells.toList) g T vs' := by
  have:=Lies.partly cs off w vs.toList vs'.toList (by simpa using hl) (by simpa using hb) hv
  rw[hcs]
  simpa using this
 refine ready_op i ho hgd undef _ (fun K hK' => ?_) (hK _ hlies (grown_cells g _ _ _))
 unfold Oper.wp execOp
 simp only[hop,hx,hy,Instr.storeAt,Instr.sureAddr,Sem.run_bind,Sem.run_pure,Result.andThen_ok,hrun]
 exact hK'
end
def RowP(p:Nat→TypeId→Prop)(w:World)(v:Value)(k:Nat)(rs:List (Array Value)):Prop :=
 ReadsR w v k rs∧(0<rs.length → ∃(x:Addr) (n c:Nat) (cs:Array Value) (t:TypeId) (fr:Nat × Nat),v = .slice (some x) n c∧w.heap[x.block]? = some (.cells cs t fr)∧p x.block t)
theorem RowP.keep{p:Nat→TypeId→Prop}{w w' : World}{v:Value}{k:Nat}{rs:List (Array Value)}(h:RowP p w v k rs)(hk:Keep p w w'):RowP p w' v k rs:=by
 obtain⟨⟨ao,cap,rfl,h1,h2,h3,h4⟩,hp⟩:=h
 by_cases h0:0<rs.length
 ·obtain⟨x,n,c,cs,t,fr,hv,hb,hpt⟩:=hp h0
  simp only[Value.slice.injEq]at hv
  obtain⟨rfl,rfl,rfl⟩:=hv
  have hb' := hk.same _ _ _ _ hb hpt
  refine⟨⟨some x,cap,rfl,h1,h2,h3,fun y hy i r hr j u hu => ?_⟩,fun _=>⟨x,_,_,cs,t,fr,rfl,hb', hpt⟩⟩
  cases hy
  have:=h4 x rfl i r hr j u hu
  rw[← this]
  exact World.cell?_of_block (by rw[add_block,hb,hb'])
 ·obtain rfl:rs = []:=List.eq_nil_of_length_eq_zero (by omega)
  exact⟨⟨ao,cap,rfl,h1,h2,h3,fun y _ i r hr=>by simp at hr⟩,fun h=>absurd h (by simp)⟩
theorem RowP.imp{p p' : Nat→TypeId→Prop}{w:World}{v:Value}{k:Nat}{rs:List (Array Value)}(h:RowP p w v k rs)(hp : ∀b cs t fr,w.heap[b]? = some (.cells cs t fr)→p b t→p' b t):RowP p' w v k rs:=by
 obtain⟨h1,h2⟩:=h
 refine⟨h1,fun h0 => ?_⟩
 obtain⟨x,n,c,cs,t,fr,e1,e2,e3⟩:=h2 h0
 exact⟨x,n,c,cs,t,fr,e1,e2,hp _ _ _ _ e2 e3⟩
theorem RowP.own{p:Nat→TypeId→Prop}{w:World}{base:Nat}{E:TypeId}{k:Nat}{v:Value}{rs:List (Array Value)}(h:OwnsR w base E k v rs)(hs:Sized k rs)(hp : ∀g,v.ownBlock=some g→p g E):RowP p w v k rs:=by
 refine⟨h.reads hs,fun h0 => ?_⟩
 rcases h.2 with ⟨_,h1⟩ | ⟨g,cap,cur,rfl,hb,hg,_⟩
 ·omega
 ·exact⟨_,_,_,cur,E,(0,0),rfl,hg,hp g rfl⟩
theorem RowP.bare(p:Nat→TypeId→Prop)(w:World)(k:Nat):RowP p w (.slice none 0 0) k []:=⟨ReadsR.empty w k,fun h=>absurd h (by simp)⟩
theorem RowP.of_reads{p:Nat→TypeId→Prop}{w:World}{v:Value}{k:Nat}{rs:List (Array Value)}(h:ReadsR w v k rs)(hk:0<k)(hs:Sized k rs)(hp : ∀b t,b<w.heap.size→p b t):RowP p w v k rs:=by
 refine⟨h,fun h0 => ?_⟩
 obtain⟨r0,hr0⟩ : ∃r,rs[0]? = some r:=⟨_,List.getElem?_eq_getElem h0⟩
 have hr:=hs r0 (List.mem_of_getElem? hr0)
 obtain⟨u0,hu0⟩ : ∃u,r0[0]? = some u:=⟨_,Array.getElem?_eq_getElem (by omega)⟩
 obtain⟨ao,cap,rfl,h1,h2⟩:=h.shape
 obtain⟨b,off,rfl,hlt,hc⟩:=h.places hr0 hu0
 obtain⟨cs,t,fr,hb⟩:=block_of_cell (hc w (Below.refl _ w) 0 _ hr0 0 _ hu0)
 exact⟨_,_,_,cs,t,fr,rfl,hb,hp _ _ (lt_of_obj hb)⟩
section
variable {α : Type} (k : Nat) (cells : α → Value → Array Value) (bytes : α → List UInt8)
def rowsOf(ps:List (α × Value)):List (Array Value):=ps.map fun q=>cells q.1 q.2
def ListP(p:Nat→TypeId→Prop)(w:World)(v:Value)(l:List α):Prop :=
 ∃ps:List (α × Value),l=ps.map (·.1)∧RowP p w v k (rowsOf cells ps) ∧ ∀q∈ps,ReadsP p w q.2 (bytes q.1)
def ListO(p:Nat→TypeId→Prop)(w:World)(base:Nat)(E:TypeId)(v:Value)(l:List α):Prop :=
 ∃ps:List (α × Value),l=ps.map (·.1)∧OwnsR w base E k v (rowsOf cells ps) ∧ ∀q∈ps,ReadsP p w q.2 (bytes q.1)
end
section
variable {α : Type} {k : Nat} {cells : α → Value → Array Value} {bytes : α → List UInt8}
theorem rowsOf_sized(hc : ∀a u,(cells a u).size=k∧(u.oneCell' = true→(cells a u).all (·.oneCell')=true)){ps:List (α × Value)}(h : ∀q∈ps,q.2.oneCell' = true):Sized k (rowsOf cells ps):=fun r hr=>by
 obtain⟨q,hq,rfl⟩:=List.mem_map.1 hr
 exact⟨(hc q.1 q.2).1,(hc q.1 q.2).2 (h q hq)⟩
theorem ReadsP.one{p:Nat→TypeId→Prop}{w:World}{v:Value}{l:List UInt8}(h:ReadsP p w v l):v.oneCell' = true:=by
 obtain⟨ao,cap,rfl⟩:=h.1.shape
 rfl
theorem rowsOf_len(ps:List (α × Value)):(rowsOf cells ps).length=(ps.map (·.1)).length:=by simp[rowsOf]
theorem ListP.keep{p:Nat→TypeId→Prop}{w w' : World}{v:Value}{l:List α}(h:ListP k cells bytes p w v l)(hk:Keep p w w'):ListP k cells bytes p w' v l:=by
 obtain⟨ps,e,h1,h2⟩:=h
 exact⟨ps,e,h1.keep hk,fun q hq=>(h2 q hq).keep hk⟩
theorem ListP.imp{p p' : Nat→TypeId→Prop}{w:World}{v:Value}{l:List α}(h:ListP k cells bytes p w v l)(hp : ∀b cs t fr,w.heap[b]? = some (.cells cs t fr)→p b t→p' b t):ListP k cells bytes p' w v l:=by
 obtain⟨ps,e,h1,h2⟩:=h
 exact⟨ps,e,h1.imp hp,fun q hq=>(h2 q hq).imp hp⟩
theorem ListP.below{p:Nat→TypeId→Prop}{w w' : World}{v:Value}{l:List α}(h:ListP k cells bytes p w v l)(hb:Below w.heap.size w w'):ListP k cells bytes p w' v l:=h.keep (Keep.of_below hb)
theorem ListP.bare(p:Nat→TypeId→Prop)(w:World):ListP k cells bytes p w (.slice none 0 0) []:=⟨[],rfl,RowP.bare p w k,fun q hq=>by simp at hq⟩
theorem ListP.shape{p:Nat→TypeId→Prop}{w:World}{v:Value}{l:List α}(h:ListP k cells bytes p w v l) : ∃ao cap,v = .slice ao l.length cap∧l.length≤cap∧cap≤9223372036854775807:=by
 obtain⟨ps,e,h1,_⟩:=h
 obtain⟨ao,cap,h3,h4,h5⟩:=ReadsR.shape h1.1
 rw[rowsOf_len, ← e]at h3 h4
 exact⟨ao,cap,h3,h4,h5⟩
theorem ListP.places{p:Nat→TypeId→Prop}{w:World}{ao:Option Addr}{n cap:Nat}{l:List α}(h:ListP k cells bytes p w (.slice ao n cap) l)(hc : ∀a u,∃v,(cells a u)[0]? = some v)(hl:0<l.length) :
 ∃b off,ao=some ⟨b,off,none⟩∧b<w.heap.size ∧ ∀(i:Nat) (a:α),l[i]? = some a → ∃u,ReadsP p w u (bytes a) ∧ ∀w', Below w.heap.size w w' → ∀j v,(cells a u)[j]? = some v→w'.cell? ⟨b,off+(i*k+j),none⟩=some v:=by
 obtain⟨ps,e,h1,h2⟩:=h
 subst e
 rw[List.length_map]at hl
 obtain⟨q0,hq0⟩ : ∃q,ps[0]? = some q:=⟨_,List.getElem?_eq_getElem hl⟩
 obtain⟨v0,hv0⟩:=hc q0.1 q0.2
 obtain⟨b,off,e,hlt,hcell⟩:=ReadsR.places h1.1 (r0:=cells q0.1 q0.2) (u0:=v0) (by simp[rowsOf,hq0]) hv0
 refine⟨b,off,e,hlt,fun i a hi => ?_⟩
 rw[List.getElem?_map,Option.map_eq_some_iff]at hi
 obtain⟨q,hq,rfl⟩:=hi
 exact⟨q.2,h2 q (List.mem_of_getElem? hq),fun w' hb j v hv=>hcell w' hb i (cells q.1 q.2) (by simp[rowsOf,hq]) j v hv⟩
theorem ListO.reads{p:Nat→TypeId→Prop}{w:World}{base:Nat}{E:TypeId}{v:Value}{l:List α}(h:ListO k cells bytes p w base E v l)(hc : ∀a u,(cells a u).size=k∧(u.oneCell' = true→(cells a u).all (·.oneCell')=true))(hp : ∀g,v.ownBlock=some g→p g E):ListP k cells bytes p w v l:=by
 obtain⟨ps,e,h1,h2⟩:=h
 exact⟨ps,e,RowP.own h1 (rowsOf_sized hc fun q hq=>(h2 q hq).one) hp,h2⟩
theorem ListO.bare(p:Nat→TypeId→Prop)(w:World)(base:Nat)(E:TypeId):ListO k cells bytes p w base E (.slice none 0 0) []:=⟨[],rfl,OwnsR.empty w base E k,fun q hq=>by simp at hq⟩
theorem ListO.stays{p:Nat→TypeId→Prop}{w w' : World}{base:Nat}{E:TypeId}{v:Value}{l:List α}(h:ListO k cells bytes p w base E v l)(hb : ∀g,v.ownBlock=some g→w'.heap[g]? = w.heap[g]?)(hk:Keep p w w'):ListO k cells bytes p w' base E v l:=by
 obtain⟨ps,e,h1,h2⟩:=h
 exact⟨ps,e,h1.stays hb,fun q hq=>(h2 q hq).keep hk⟩
theorem ListO.below{p:Nat→TypeId→Prop}{w w' : World}{base:Nat}{E:TypeId}{v:Value}{l:List α}(h:ListO k cells bytes p w base E v l)(hb:Below w.heap.size w w'):ListO k cells bytes p w' base E v l:=by
 refine h.stays (fun g e => ?_) (Keep.of_below hb)
 obtain⟨ps,_,h1,_⟩:=h
 obtain⟨cs,hc,_⟩:=OwnsR.cells h1 e
 exact hb.block g (lt_of_obj hc)
theorem ListO.imp{p p' : Nat→TypeId→Prop}{w:World}{base:Nat}{E:TypeId}{v:Value}{l:List α}(h:ListO k cells bytes p w base E v l)(hp : ∀b cs t fr,w.heap[b]? = some (.cells cs t fr)→p b t→p' b t):ListO k cells bytes p' w base E v l:=by
 obtain⟨ps,e,h1,h2⟩:=h
 exact⟨ps,e,h1,fun q hq=>(h2 q hq).imp hp⟩
theorem ListO.snoc{P:Program}{p:Nat→TypeId→Prop}{w:World}{base:Nat}{E t:TypeId}(ty:TypeId){sz:Nat}{z:Value}{v:Value}{l:List α}(h:ListO k cells bytes p w base E v l)(hc : ∀a u,(cells a u).size=k∧(u.oneCell' = true→(cells a u).all (·.oneCell')=true))
 (ht:P.underlying t=some (.slice E)) (hi:(P.info? E).map (fun i=>(i.zero,i.size,i.bytes))=some (some z,k,sz)) (hzk:z.cells.size=k) (hk:0<k) (hbase:base≤w.heap.size) (a:α) (u:Value) {g:Nat} (hg:Lies w g E (cells a u)) (hu:ReadsP p w u (bytes a))
 (hlen:(l.length+1)*sz≤140737488355328) (hlen2:l.length+1≤140737488355328) (hp : ∀g,base≤g → ¬p g E) :
 ∃v' w', (Builtin.append_ #[t,t] ty #[v, .slice (some ⟨g,0,none⟩) 1 1]).run P w = .ok v' w' ∧ ListO k cells bytes p w' base E v' (l ++ [a])∧w.grownBy w' v.ownBlock∧(v'.ownBlock=v.ownBlock∨v'.ownBlock=some w.heap.size):=by
 obtain⟨ps,e,h1,h2⟩:=h
 subst e
 have hl:(rowsOf cells ps).length=(ps.map (·.1)).length:=rowsOf_len ps
 obtain⟨v', w', hrun,h3,h4,h5⟩:=run_append_rows_at (P:=P) t ty E k sz z ht hi hzk hk base (rowsOf cells ps) [cells a u] v _ h1 (ReadsR.single hg) (fun r hr=>by
  obtain rfl:r=cells a u:=by simpa using hr
  exact⟨(hc a u).1,(hc a u).2 hu.one⟩) (by rw[hl];exact hlen) (by rw[hl];exact hlen2) hbase
 have hk' : Keep p w w' := Keep.of_grown h4 fun g' cs t' fr e' hcs=>by
  obtain⟨cs', hc', hb'⟩:=OwnsR.cells h1 e'
  rw[hc']at hcs
  cases hcs
  exact hp g' hb'
 refine⟨v', w', hrun,⟨ps ++ [(a,u)],by simp,by simpa[rowsOf] using h3,fun q hq => ?_⟩,h4,h5⟩
 rcases List.mem_append.1 hq with hq | hq
 ·exact(h2 q hq).keep hk'
 ·obtain rfl:q=(a,u):=by simpa using hq
  exact hu.keep hk'
theorem ListO.blocks{p:Nat→TypeId→Prop}{w:World}{base:Nat}{E:TypeId}{v:Value}{l:List α}(h:ListO k cells bytes p w base E v l){g:Nat}(e:v.ownBlock=some g) : ∃cs,w.heap[g]? = some (.cells cs E (0,0))∧base≤g:=by
 obtain⟨ps,_,h1,_⟩:=h
 exact OwnsR.cells h1 e
end
end
end Go.Proofs.YtdkdjofnnnljjaaGreatDoor
