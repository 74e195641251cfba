/- Several texts of mine in one: App PkMem Clone GRd GCa GQw CmdChk GCw. -/
import Derived.Test.YtdkdjofnnnljjaaGreatDoorPPkMath
import Derived.Test.YtdkdjofnnnljjaaGreatDoorPGPl
import Derived.Lib.AppendStr
import Derived.Laws.IdiomStrings
import Derived.Test.YtdkdjofnnnljjaaGreatDoorRows
import Derived.Lib.SliceRun
import Derived.Deep.QuietTactic
import Derived.BigQuiet
import Derived.Lib.RuneBytes
import Derived.Lib.Bytealg
import Derived.Lib.Join
import Derived.Shelf.Strings.Prefix
import Derived.Test.YtdkdjofnnnljjaaGreatDoorShelf
import Derived.WalkLawsBesides
import Derived.Laws.BitsAllLaws
import Derived.SliceStrings
import Derived.Maps.AppendAt
import Derived.Deep.MidRow
import Derived.Deep.RegionHeld3
import Derived.Deep.RegionLaw
namespace Go.Proofs.YtdkdjofnnnljjaaGreatDoor
open Go.RowKit
theorem bF.laid(w:World)(E:TypeId)(l:List UInt8)(n:Nat)(cs:Array Value)(hn:n=l.length)(hc:cs.toList=cellsOf l)(hm:n<=9223372036854775807):bF (w.alloc (.cells cs E)) w.heap.size E (.slice (some ⟨w.heap.size,0,none⟩) n n) l:=by
 subst hn;have hs:cs.size=l.length:=by rw[<- Array.length_toList,hc,dZ]
 refine⟨by simp[dZ], .inr ⟨w.heap.size,l.length,cs,rfl,Nat.le_refl _,heap_alloc_new w _,Nat.le_refl _,by unfold maxLen;omega,by simpa using hs, ?_⟩⟩
 rw[hc,List.take_of_length_le (by rw[dZ];omega)]
theorem rO{P:Program}{w:World}(t ty E:TypeId)(ht:P.underlying t=some (.slice E))(hi:(P.info? E).map (fun i=>(i.zero,i.size,i.bytes))=some (some (.int .u8 0),1,1))
 (base:Nat) (l m:List UInt8) (v u:Value) (hown:bF w base E v l) (hr:Reads w u m) (hlen:l.length+m.length<=140737488355328) (hbase:base<=w.heap.size) :
 ∃v' w', (Builtin.append_ #[t,t] ty #[v,u]).run P w = .ok v' w' ∧ bF w' base E v' (l++m)∧w.grownBy w' v.ownBlock:=by
 obtain⟨i,h1,h2,h3,h4⟩:=info_parts hi;obtain⟨ao,cap,rfl,hc1,hc2,hc3,Q6⟩:=hr;cases ao with
 | none =>
  have h0:=hc3 rfl;have hm:m = []:=List.eq_nil_of_length_eq_zero (by omega)
  subst hm;subst h0;have hrun:=run_append_owned_none (P:=P) w base t ty E i 1 ht h1 v l.length (cellsOf l) hown;exact⟨v,w,hrun,by simpa using hown,World.grownBy.refl _ _⟩
 | some ad =>
  obtain⟨v', w', hrun,h5,h6,_⟩:=run_append_own (P:=P) w base t ty E i (.int .u8 0) 1 1 ht h1 h2 h3 h4 rfl (by decide) v l.length (cellsOf l) hown ad m.length cap (cellsOf m) (by simp[cellsOf]) (Q6 ad rfl) (ki m) (by unfold maxLen;omega) (by omega) (by omega)
  refine⟨v', w', hrun, ?_,h6⟩;unfold bF;rw[List.length_append,iM];exact h5
theorem qE{P:Program}{w:World}{ops:Array Oper}{o:Oper}{a:Act}{K:Act->World->Prop}{Q:Exit->Act->World->Prop}{Z:Prop}(hgd:o.guard=none)(s x:Operand)(t E:TypeId)
 (ho:o.op = .call { callee := .builtin .append,args := #[s,x],argTypes := #[t,t] }) (ht:P.underlying t=some (.slice E)) (hi:(P.info? E).map (fun i=>(i.zero,i.size,i.bytes))=some (some (.int .u8 0),1,1))
 (base:Nat) (l m:List UInt8) (v u:Value) (hs:a.eval s=v) (hx:a.eval x=u) (hown:bF w base E v l) (hr:Reads w u m) (hlen:l.length+m.length<=140737488355328) (hbase:base<=w.heap.size)
 (h : ∀v' w', bF w' base E v' (l++m)->w.grownBy w' v.ownBlock->K (a.put o.dst v') w') :
 if Region.wanted o (yielded ops a.tmps)=true then Oper.wp P o a w K Q else Z:=by
 have hw:Region.wanted o (yielded ops a.tmps)=true:=by simp[Region.wanted,hgd]
 obtain⟨v', w', hr,h2,h3⟩:=rO (P:=P) t o.type E ht hi base l m v u hown hr hlen hbase;rw[if_pos hw];unfold Oper.wp execOp;simp only[ho,resolve,invoke,builtin,Sem.run_bind,Sem.run_pure,Result.andThen_ok,List.map_toArray,List.map_cons,List.map_nil,hs,hx,hr];exact h v' w' h2 h3
end Go.Proofs.YtdkdjofnnnljjaaGreatDoor

namespace Go.Proofs.YtdkdjofnnnljjaaGreatDoor
open Go.RowKit
theorem bF.grown{w w' : World}{base:Nat}{E:TypeId}{v:Value}{l:List UInt8}{row:Option Nat}(h:bF w base E v l)(hg:w.grownBy w' row)(hne:v.ownBlock=none∨v.ownBlock≠row):bF w' base E v l :=
 World.ownsRow.kept h hg hne
structure wA(w w' : World)(o:Nat)(v:Value):Prop where
 os:w'.os=w.os
 tape:w'.tape=w.tape
 output:w'.output=w.output
 size:w.heap.size<=w'.heap.size
 block : ∀k,k<w.heap.size->k≠o->some k≠v.ownBlock->w'.heap[k]? = w.heap[k]?
theorem wA.below{w w' : World}{o B:Nat}{v:Value}(h:wA w w' o v)(ho:B<=o)(hv : ∀k,v.ownBlock=some k->B<=k)(hB:B<=w.heap.size):Below B w w' :=
 ⟨h.os,h.tape,h.output,h.size,fun k hk=>h.block k (by omega) (by omega) (fun e=>by have:=hv k e.symm;omega)⟩
theorem wA.on{w0 w w' : World}{o:Nat}{v:Value}(hb:Below w0.heap.size w0 w)(h:wA w w' o v):wA w0 w' o v :=
 ⟨h.os.trans hb.os,h.tape.trans hb.tape,h.output.trans hb.output,Nat.le_trans hb.size h.size,fun k hk h1 h2=>(h.block k (Nat.lt_of_lt_of_le hk hb.size) h1 h2).trans (hb.block k hk)⟩
structure Wr(T E:TypeId)(w:World)(B o:Nat)(v:Value)(l:List UInt8):Prop where
 base:B<=o
 ag:ae w o T #[v]
 owns:bF w B E v l
theorem Wr.row{T E:TypeId}{w:World}{B o:Nat}{v:Value}{l:List UInt8}(h:Wr T E w B o v l) : ∀k,v.ownBlock=some k->B<=k:=fun k e=>(World.ownsRow.lt h.owns k e).1
theorem Wr.grown{T E:TypeId}{w w' : World}{B o:Nat}{v:Value}{l:List UInt8}(h:Wr T E w B o v l)(hb:Below w.heap.size w w'):Wr T E w' B o v l :=
 ⟨h.base,h.ag.below hb h.ag.lt,h.owns.keep hb (Nat.le_refl _)⟩
theorem Wr.below{T E:TypeId}{w w' : World}{B o:Nat}{v:Value}{l:List UInt8}(h:Wr T E w B o v l)(hg:wA w w' o v)(hB:B<=w.heap.size):Below B w w' := hg.below h.base h.row hB
theorem Wr.put{T E:TypeId}{w w' : World}{B o:Nat}{v v' : Value}{l m:List UInt8}(Z0:T≠E)(h:Wr T E w B o v l)(ho:bF w' B E v' m)(hg:w.grownBy w' v.ownBlock) :
 Wr T E (w'.setCell ⟨o,0,none⟩ v') B o v' m∧wA w (w'.setCell ⟨o,0,none⟩ v') o v:=by
 have hl:ae w' o T #[v]:=h.ag.kept hg (h.ag.not_row Z0 h.owns);have hs:=au w' o 0 v';refine⟨⟨h.base,hl.set 0 v', ho.grown hs ?_⟩,⟨hs.os.trans hg.os,hs.tape.trans hg.tape,hs.output.trans hg.output,Nat.le_trans hg.size hs.size,fun k hk hko hkr => ?_⟩⟩
 ·right;exact fun e=>hl.not_row Z0 ho e.symm
 ·rw[hs.block k (Nat.lt_of_lt_of_le hk hg.size) (by simpa using hko)]
  exact hg.block k hk hkr
theorem Hu(s:List UInt8):Lib.strCells ⟨s.toArray⟩=cellsOf s:=by simp[Lib.strCells,cellsOf]
theorem BX{P:Program}{w:World}{ops:Array Oper}{rest:List Oper}{o:Oper}{a:Act}{Q:Exit->Act->World->Prop}(hgd:o.guard=none)(s x:Operand)(t u E:TypeId)
 (ho:o.op = .call { callee := .builtin .append,args := #[s,x],argTypes := #[t,u] }) (ht:P.underlying t=some (.slice E)) (hu:P.underlying u=some .string)
 (hi:(P.info? E).map (fun i=>(i.zero,i.size,i.bytes))=some (some (.int .u8 0),1,1))
 (base:Nat) (l m:List UInt8) (v:Value) (hs:a.eval s=v) (hx:a.eval x = .string ⟨m.toArray⟩) (hown:bF w base E v l)
 (hlen:l.length+m.length<=140737488355328) (hbase:base<=w.heap.size)
 (h : ∀v' w', bF w' base E v' (l++m)->w.grownBy w' v.ownBlock->wpList P ops Q rest (a.put o.dst v') w'):wpList P ops Q (o :: rest) a w:=by
 obtain⟨i,h1,h2,h3,h4⟩:=info_parts hi;refine Lib.wpList_append_own_string _ hgd s x t u ho base E i ht hu h1 h2 h3 h4 v l.length (cellsOf l) hs hown _ hx (by rw[dy];unfold maxLen;omega) (by rw[dy];omega) hbase fun v' w' h5 h6 _ => ?_
 refine h v' w' ?_ h6;unfold bF;rw[List.length_append,iM, <- Hu m, <- dy m];exact h5
end Go.Proofs.YtdkdjofnnnljjaaGreatDoor

namespace Go.Proofs.YtdkdjofnnnljjaaGreatDoor
open Go.RowKit
set_option maxHeartbeats 400000
set_option maxRecDepth 4000
theorem di(v:Value)(l:List UInt8)(w:World)(hv:Reads w v l)(hlen:l.length<=140737488351232) :
 Calls Tryz.prog 61 #[v] w (xH w 5 l):=by
 have hq : ∀(w:World) (a:Option Addr) (n c n' c' : Nat),(binOp .eql 30 (.slice a n c) (.slice none n' c')).run Tryz.prog w = .ok (.bool a.isNone) w:=fun w a n c n' c' => Lib.run_eql_slice_nil w _ _ a n c n' c' Tryz.underlying30
 obtain⟨ao,cap,rfl⟩:=hv.shape;have hnil:=hv.len.2.2.2;have hcap:=hv.len.2.1;have hv0:=hv.below ((Below.refl w.heap.size w).alloc (Nat.le_refl _) (.cells #[] 5));cases ao with
 | none =>
  obtain rfl:cap=0:=hnil rfl;obtain rfl:l = []:=List.eq_nil_of_length_eq_zero (by omega)
  go_enter Tryz.func61,Tryz.ntmps61
  go_wp2;go_ret;exact⟨_,rfl,bF.empty _ _ _,Below.refl _ _⟩
 | some x =>
  go_enter Tryz.func61,Tryz.ntmps61
  go_wp2_with (at_builtin;refine fA rfl _ _ 30 5 rfl Tryz.underlying30 eV w.heap.size [] l _ _ rfl rfl (bF.XA w _) hv0 (by simp;omega) w ((Below.refl w.heap.size w).alloc (Nat.le_refl _) _) (Nat.le_refl _) ?_;intro v1 w1 lj hb1 _;rw[List.nil_append]at lj)
  go_ret;exact⟨_,rfl,lj,hb1⟩
end Go.Proofs.YtdkdjofnnnljjaaGreatDoor

namespace Go.Proofs.YtdkdjofnnnljjaaGreatDoor
open Go.RowKit
set_option maxHeartbeats 800000
set_option maxRecDepth 4000
structure dU(w:World)(B o:Nat)(v:Value)(b:List UInt8)(p:Nat)(er:Int):Prop where
 base:B<=o
 ag:ae w o 189 #[v, .int .i64 (p:Int), .int .i64 er]
 owns:bF w B 5 v b
 Pd:p<=b.length
 small:b.length<=70368744177664
theorem dU.kept{w w' : World}{B o:Nat}{v:Value}{b:List UInt8}{p:Nat}{er:Int}(h:dU w B o v b p er)(hb:Below w.heap.size w w'):dU w' B o v b p er :=
 ⟨h.base,h.ag.below hb h.ag.lt,h.owns.keep hb (Nat.le_refl _),h.Pd,h.small⟩
theorem dU.drewN{w:World}{B o:Nat}{v:Value}{b:List UInt8}{p:Nat}{er:Int}(h:dU w B o v b p er)(n:Nat):dU (w.drewN n) B o v b p er:=h.kept (drawn w n)
theorem dU.off{w:World}{B o:Nat}{v:Value}{b:List UInt8}{p:Nat}{er:Int}(h:dU w B o v b p er):v.ownBlock=none∨v.ownBlock≠some o := .inr fun e=>h.ag.not_row (by decide) h.owns e.symm
theorem dU.goes{w:World}{B o:Nat}{v:Value}{b:List UInt8}{p:Nat}{er:Int}(h:dU w B o v b p er){q:Nat}(hq:q<=b.length) :
 dU (w.setCell ⟨o,1,none⟩ (.int .i64 (q:Int))) B o v b q er∧w.grownBy (w.setCell ⟨o,1,none⟩ (.int .i64 (q:Int))) (some o) :=
 ⟨⟨h.base,h.ag.set 1 _,h.owns.grown (au w o 1 _) h.off,hq,h.small⟩,au w o 1 _⟩
theorem dU.errs{w:World}{B o:Nat}{v:Value}{b:List UInt8}{p:Nat}{er:Int}(h:dU w B o v b p er)(e:Int) :
 dU (w.setCell ⟨o,2,none⟩ (.int .i64 e)) B o v b p e∧w.grownBy (w.setCell ⟨o,2,none⟩ (.int .i64 e)) (some o) :=
 ⟨⟨h.base,h.ag.set 2 _,h.owns.grown (au w o 2 _) h.off,h.Pd,h.small⟩,au w o 2 _⟩
theorem BZ{w w' : World}{n:Nat}{row:Option Nat}(h:(w.drewN n).grownBy w' row):w.grownBy w' row:=⟨h.os,h.tape,h.output,h.size,h.block⟩
theorem gA(w:World)(n:Nat)(row:Option Nat):w.grownBy (w.drewN n) row:=⟨rfl,rfl,rfl,Nat.le_refl _,fun _ _ _=>rfl⟩
theorem Hv{w w' : World}(h:w.grownBy w' none)(row:Option Nat):w.grownBy w' row:=⟨h.os,h.tape,h.output,h.size,fun i hi _=>h.block i hi (by simp)⟩
def Sz(w:World)(B o:Nat)(v:Value)(b:List UInt8)(q:Nat)(er:Int)(x:Value)(e:Int)(en:Ending)(w' : World):Prop :=
 en = .returned (.tuple #[x, .int .i64 e])∧dU w' B o v b q er∧w.grownBy w' (some o)
theorem xJ(most:Int)(w:World)(B o:Nat)(v:Value)(b:List UInt8)(p:Nat)(er n:Int)(q:Nat)(e:Int)(hr:dU w B o v b p er)(h:Hid (Pk.num b p most=(n,(q:Int),e))) :
 Calls Tryz.prog 151 #[.pointer (some ⟨o,0,none⟩), .int .i64 most] w (Sz w B o v b q er (.int .i64 n) e):=by
 have hc0:=hr.ag.cell 0 v rfl;have hc1:=hr.ag.cell 1 (.int .i64 (p:Int)) rfl;have hf:=hr.ag.free 1;have HR:=aa hr;have Ai:=hr.owns.reads;have bY : ∀k,Calls Tryz.prog 148 #[v, .int .i64 (p:Int)] (w.drewN k) (fun e w' => e = .returned (.tuple #[.int .i64 (ee b p).1, .int .i64 (ee b p).2.1, .int .i64 (ee b p).2.2]) ∧ ∃m,w' = w.drewN m):=by
  intro k
  refine(Fy v b p (w.drewN k) Ai).mono ?_;rintro e w ⟨rfl,rfl⟩;exact⟨rfl,k,rfl⟩
 clear hr;rcases Pk.rz b p most with ⟨e', he,hg,hn⟩ | ⟨n', q', hg,h1,h2,h3,h4,hn⟩ | ⟨n', q', hg,h1,h2,h3,h4,hn⟩
 all_goals
  have h' := h.out;rw[hn]at h'
  simp only[Prod.mk.injEq,Int.natCast_inj]at h'
  obtain⟨rfl,rfl,rfl⟩:=h';rw[hg]at bY
  dsimp only at bY
  have uP:=aa bY;clear bY;clear hg hn h Ai
  go_enter Tryz.func151,Tryz.ntmps151
  go_wp2
  go_quiet (first | (go_at_call 148;exact uP.out _))
  go_wp2
  go_ret2
 ·exact⟨rfl,HR.drewN _,gA _ _ _⟩
 ·exact⟨rfl,HR.drewN _,gA _ _ _⟩
 ·exact⟨rfl,((HR.drewN _).goes h2).1,BZ ((HR.drewN _).goes h2).2⟩
theorem B0(most:Int)(w:World)(B o:Nat)(v:Value)(b:List UInt8)(p:Nat)(er n:Int)(q:Nat)(e:Int)(hr:dU w B o v b p er)(h:Hid (Pk.cnt b p most=(n,(q:Int),e))) :
 Calls Tryz.prog 221 #[.pointer (some ⟨o,0,none⟩), .int .i64 most] w (Sz w B o v b q er (.int .i64 n) e):=by
 have hsm:=hr.small;rcases Pk.nG b p most with ⟨e', he,hg,hn⟩ | ⟨n', q', hg,h1,h2,h3,hn⟩ | ⟨n', q', hg,h1,hn⟩
 all_goals
  have h' := h.out;rw[hn]at h'
  simp only[Prod.mk.injEq,Int.natCast_inj]at h'
  obtain⟨rfl,rfl,rfl⟩:=h';have HG:=aa hg;clear hg hn h
  go_enter Tryz.func221,Tryz.ntmps221
  go_wp2_with fail
  refine(xJ most _ B o v b p er _ _ _ hr HG).mono ?_;rintro e1 w1 ⟨rfl,hr1,fL⟩;have hc0:=hr1.ag.cell 0 v rfl;have hc1:=hr1.ag.cell 1 (.int .i64 _) rfl;obtain⟨ao,cap,rfl⟩:=hr1.owns.reads.shape
 ·go_wp2
  go_quiet (fail)
  go_wp2
  go_ret2
  exact⟨rfl,hr1.drewN _,aM fL (gA _ _ _)⟩
 ·obtain⟨k,hk⟩ : ∃k:Nat,(b.length:Int) - (q' : Int)=(k:Int):=⟨b.length - q', by omega⟩
  rw[hk]at h3
  go_wp2
  go_quiet (fail)
  go_wp2
  go_ret2
  exact⟨rfl,hr1.drewN _,aM fL (gA _ _ _)⟩
 ·obtain⟨k,hk⟩ : ∃k:Nat,(b.length:Int) - (q' : Int)=(k:Int):=⟨b.length - q', by omega⟩
  have h3 : ¬(k:Int)<(n' : Int):=by omega
  go_wp2
  go_quiet (fail)
  go_wp2
  go_ret2
  exact⟨rfl,hr1.drewN _,aM fL (gA _ _ _)⟩
theorem Reads.part{w:World}{ao:Option Addr}{n cap:Nat}{l:List UInt8}(h:Reads w (.slice ao n cap) l)(f q:Nat)(hf:f<=q)(hq:q<=l.length):Reads w (sliced ao f q cap 1) ((l.drop f).take (q - f)):=by
 obtain⟨hn,hc,hm,hnil⟩:=h.len;unfold sliced;have e:((l.drop f).take (q - f)).length=q - f:=by simp;omega
 rw[Nat.mul_one];by_cases h0:q - f=0
 ·rw[h0,List.take_zero]
  refine⟨_,cap - f,rfl,by simp,by unfold maxLen;omega,fun h1 => ?_,fun x _ j u hu=>by simp[cellsOf]at hu⟩
  by_cases KB:cap=f
  ·omega
  ·rw[if_neg KB]at h1
   cases ao with
   | none=>have:=hnil rfl;omega
   | some x=>simp at h1
 ·have KB : ¬cap=f:=by omega
  rw[if_neg KB];obtain⟨b,off,rfl,hcell⟩:=h.place (by omega)
  obtain⟨EX, cap', hv,h1,h2,h3,h4⟩:=h;simp only[Value.slice.injEq]at hv
  obtain⟨rfl,rfl,rfl⟩:=hv;refine⟨some ⟨b,off+f,none⟩,cap - f,by rw[e];simp[Addr.add_lit],by rw[e];omega,by omega,(fun h=>by cases h),fun x hx j u hu => ?_⟩
  cases hx;have:=h4 _ rfl (f+j) u (by
   simp only[cellsOf,List.getElem?_map,List.getElem?_take,List.getElem?_drop]at hu ⊢
   split at hu
   ·exact hu
   ·simp at hu)
  rw[Addr.add_lit]at this ⊢
  rw[Nat.add_assoc];exact this
theorem LR(w:World)(ao:Option Addr)(n cap f q:Nat)(hf:f<=q)(hq:q<=cap) :
 (Instr.slice 30 (.slice ao n cap) (some (.int .i64 (f:Int))) (some (.int .i64 (q:Int))) none).run Tryz.prog w = .ok (sliced ao f q cap 1) w:=by
 have he:Tryz.prog.elem 30=5:=by kernel_rfl
 obtain⟨i,h1,_⟩:=info_parts eV;have hrun:=run_slice_lh (P:=Tryz.prog) (w:=w) 30 ao n cap (by rw[he];exact Tryz.underlying30) .i64 .i64 (f:Int) (q:Int) (by omega) (by omega) (by omega)
 rw[he]at hrun
 refine hrun.trans ?_;rw[run_sizeOf _ h1,show Tryz.prog.cellsOf 5=1 by kernel_rfl]
 simp only[Result.andThen,Int.toNat_natCast]
theorem B1(size:Nat)(w:World)(B o:Nat)(v:Value)(b:List UInt8)(p:Nat)(er:Int)(hr:dU w B o v b p er)(hs:p+size<=b.length) :
 Calls Tryz.prog 222 #[.pointer (some ⟨o,0,none⟩), .int .i64 (size:Int)] w
  fun en w' => ∃u,en = .returned u∧Reads w' u ((b.drop p).take size)∧dU w' B o v b (p+size) er∧w.grownBy w' (some o):=by
 have hsm:=hr.small;obtain⟨ao,cap,rfl⟩:=hr.owns.reads.shape;have hcap:=hr.owns.reads.len;obtain⟨q,hq⟩ : ∃q:Nat,q=p+size:=⟨_,rfl⟩;have Wx:(p:Int)+(size:Int)=(q:Int):=by omega
 have PO:q<=b.length:=by omega
 have hp:=hr.owns.reads.part p q (by omega) PO
 obtain⟨uo,uc,hu⟩:=hp.shape;have hrun : ∀w,(Instr.slice 30 (.slice ao b.length cap) (some (.int .i64 (p:Int))) (some (.int .i64 (q:Int))) none).run Tryz.prog w = .ok (.slice uo ((b.drop p).take (q - p)).length uc) w:=by
  intro w
  rw[LR w ao _ cap p q (by omega) (by omega),hu]
 have hp2:=(hr.goes PO).1.owns.reads.part p q (by omega) PO
 rw[hu]at hp2
 obtain⟨m,hm⟩ : ∃m,m=((b.drop p).take (q - p)).length:=⟨_,rfl⟩;rw[<- hm]at hrun hp2
 have hc0:=hr.ag.cell 0 _ rfl;have hc1:=hr.ag.cell 1 (.int .i64 (p:Int)) rfl;have hf:=hr.ag.free 1;have hgo:=hr.goes PO;have hd0:=hgo.1.ag.cell 0 _ rfl;have SP:=hgo.1.ag.cell 1 (.int .i64 (q:Int)) rfl;have Z1:=aa hgo;have HP:=aa hp2;have HQ:=aa hq;have HM:=aa hm;clear hgo hp hp2 hq hm hu
 go_enter Tryz.func222,Tryz.ntmps222
 go_wp2
 go_quiet (fail)
 go_wp2;go_ret;have hq:=HQ.out;refine⟨_,rfl, ?_, ?_,aM Z1.2 (gA _ _ _)⟩
 ·rw[show size=q - p by omega]
  exact HP.below (drawn _ _)
 ·rw[<- hq]
  exact Z1.1.drewN _
abbrev Z2(o:Nat):Value := .func (.func 221) #[.pointer (some ⟨o,0,none⟩)] #[]
abbrev Z3(o:Nat):Value := .func (.func 222) #[.pointer (some ⟨o,0,none⟩)] #[]
theorem B3(most:Int)(w:World)(B o:Nat)(v:Value)(b:List UInt8)(p:Nat)(er:Int)(s:List UInt8)(q:Nat)(e:Int)(hr:dU w B o v b p er)(h:Hid (Pk.txt b p most=(s,(q:Int),e))) :
 Calls Tryz.prog 238 #[Z2 o,Z3 o, .int .i64 most] w (Sz w B o v b q er (.string ⟨s.toArray⟩) e):=by
 rcases Pk.nE b p most hr.Pd with ⟨e', q', he,h1,hg,hn⟩ | ⟨n', q', hg,h1,hn⟩
 all_goals
  have h' := h.out;rw[hn]at h'
  simp only[Prod.mk.injEq,Int.natCast_inj]at h'
  obtain⟨rfl,rfl,rfl⟩:=h';have HG:=aa hg;clear hg hn h
  go_enter Tryz.func238,Tryz.ntmps238
  go_wp2_with fail
  refine(B0 most _ B o v b p er _ _ _ hr HG).mono ?_;rintro e1 w1 ⟨rfl,hr1,fL⟩
  go_wp2_with fail
 ·go_ret2
  exact⟨rfl,hr1,fL⟩
 ·refine(B1 n' _ B o v b q' er hr1 h1).mono ?_
  rintro e2 w2 ⟨u,rfl,hu,hr2,hg2⟩;obtain⟨uo,uc,rfl⟩:=hu.shape;have hst:=fO (P:=Tryz.prog) _ Tryz.underlying30 Tryz.underlying5 Tryz.underlying9 hu;obtain⟨m,hm⟩ : ∃m,m=((b.drop q').take n').length:=⟨_,rfl⟩;rw[<- hm]at hst ⊢
  clear hm;go_wp2
  go_ret2
  exact⟨rfl,hr2,aM fL hg2⟩
theorem B4(most:Int)(w:World)(B o:Nat)(v:Value)(b:List UInt8)(p:Nat)(er:Int)(s:List UInt8)(q:Nat)(e:Int)(hr:dU w B o v b p er)(h:Hid (Pk.txt b p most=(s,(q:Int),e))) :
 Calls Tryz.prog 220 #[Z2 o,Z3 o, .int .i64 most] w (fun en w' => ∃u,Sz w B o v b q er u e en w' ∧ Reads w' u s):=by
 rcases Pk.nE b p most hr.Pd with ⟨e', q', he,h1,hg,hn⟩ | ⟨n', q', hg,h1,hn⟩
 all_goals
  have h' := h.out;rw[hn]at h'
  simp only[Prod.mk.injEq,Int.natCast_inj]at h'
  obtain⟨rfl,rfl,rfl⟩:=h';have HG:=aa hg;clear hg hn h
  go_enter Tryz.func220,Tryz.ntmps220
  go_wp2_with fail
  refine(B0 most _ B o v b p er _ _ _ hr HG).mono ?_;rintro e1 w1 ⟨rfl,hr1,fL⟩
  go_wp2_with fail
 ·go_ret2
  exact⟨_,⟨rfl,hr1,fL⟩,Reads.empty _⟩
 ·refine(B1 n' _ B o v b q' er hr1 h1).mono ?_
  rintro e2 w2 ⟨u,rfl,hu,hr2,hg2⟩;obtain⟨uo,uc,rfl⟩:=hu.shape;obtain⟨m,hm⟩ : ∃m,m=((b.drop q').take n').length:=⟨_,rfl⟩;rw[<- hm]at hu ⊢
  clear hm;go_wp2
  go_ret2
  exact⟨_,⟨rfl,hr2,aM fL hg2⟩,hu⟩
theorem Oj(most:Int)(w:World)(B o:Nat)(v:Value)(b:List UInt8)(p:Nat)(er:Int)(s:List UInt8)(q:Nat)(e:Int)(hr:dU w B o v b p er)(h:Hid (Pk.txt b p most=(s,(q:Int),e))) :
 Calls Tryz.prog 233 #[.pointer (some ⟨o,0,none⟩), .int .i64 most] w (Sz w B o v b q er (.string ⟨s.toArray⟩) e):=by
 have zJ : ∀(fn:Fn) (first cap:Array Value) (w:World),(Instr.makeFunc fn first cap).run Tryz.prog w = .ok (.func fn first cap) w:=fun _ _ _ _=>rfl
 go_enter Tryz.func233,Tryz.ntmps233
 go_wp2_with fail
 refine(B3 most _ B o v b p er _ _ _ hr h).mono ?_;rintro e1 w1 ⟨rfl,hr1,fL⟩;go_wp2
 go_ret2
 exact⟨rfl,hr1,fL⟩
theorem Q1(most:Int)(w:World)(B o:Nat)(v:Value)(b:List UInt8)(p:Nat)(er:Int)(s:List UInt8)(q:Nat)(e:Int)(hr:dU w B o v b p er)(hs:s.length<=70368744177664)(h:Hid (Pk.txt b p most=(s,(q:Int),e))) :
 Calls Tryz.prog 204 #[.pointer (some ⟨o,0,none⟩), .int .i64 most] w (fun en w' => ∃u,Sz w B o v b q er u e en w' ∧ bF w' w.heap.size 5 u s):=by
 have zJ : ∀(fn:Fn) (first cap:Array Value) (w:World),(Instr.makeFunc fn first cap).run Tryz.prog w = .ok (.func fn first cap) w:=fun _ _ _ _=>rfl
 go_enter Tryz.func204,Tryz.ntmps204
 go_wp2_with fail
 refine(B4 most _ B o v b p er _ _ _ hr h).mono ?_;rintro e1 w1 ⟨u,⟨rfl,hr1,fL⟩,hu⟩
 go_wp2_with fail
 refine(di u s _ hu (by omega)).mono ?_
 rintro e2 w2 ⟨u2,rfl,ho,hb⟩;go_wp2
 go_ret2
 exact⟨_,⟨rfl,hr1.kept hb,aM fL (Hv (gD hb) _)⟩,ho.mono fL.size⟩
theorem dI(w:World)(B o:Nat)(v:Value)(b:List UInt8)(p:Nat)(er:Int)(hr:dU w B o v b p er) :
 Calls Tryz.prog 152 #[.pointer (some ⟨o,0,none⟩)] w fun en w' => en = .returned (.int .i64 er)∧w=w' := by
 have hc2:=hr.ag.cell 2 (.int .i64 er) rfl
 go_enter Tryz.func152,Tryz.ntmps152
 go_wp2;go_ret;exact⟨rfl,rfl⟩
def oo(w:World)(B o:Nat)(v:Value)(b:List UInt8)(q:Nat)(e:Int)(x:Value)(en:Ending)(w' : World):Prop :=
 en = .returned x∧dU w' B o v b q e∧w.grownBy w' (some o)
theorem LS(most:Int)(w:World)(B o:Nat)(v:Value)(b:List UInt8)(p:Nat)(x:Int)(q:Nat)(e:Int)(hr:dU w B o v b p 0)(hx:e≠0->x=0)(h:Hid (Pk.num b p most=(x,(q:Int),e))) :
 Calls Tryz.prog 150 #[.pointer (some ⟨o,0,none⟩), .func (.func 151) #[.pointer (some ⟨o,0,none⟩)] #[], .int .i64 most] w (oo w B o v b q e (.int .i64 x)):=by
 go_enter Tryz.func150,Tryz.ntmps150
 go_wp2_with fail
 refine(dI _ B o v b p 0 hr).mono ?_;rintro e1 w1 ⟨rfl,rfl⟩
 go_wp2_with fail
 refine(xJ most _ B o v b p 0 _ _ _ hr h).mono ?_;rintro e2 w2 ⟨rfl,hr2,hg2⟩;by_cases he:e=0
 ·subst he
  go_wp2;go_ret;exact⟨rfl,hr2,hg2⟩
 ·obtain rfl:=hx he
  clear hx;have hc2:=hr2.ag.cell 2 (.int .i64 0) rfl;have hf2:=hr2.ag.free 2;have hs:=hr2.errs e;go_wp2;go_ret;exact⟨rfl,hs.1,aM hg2 hs.2⟩
theorem Hw(most er:Int)(fv:Value)(w:World)(B o:Nat)(v:Value)(b:List UInt8)(p:Nat)(hr:dU w B o v b p er)(he:er≠0) :
 Calls Tryz.prog 150 #[.pointer (some ⟨o,0,none⟩),fv, .int .i64 most] w (oo w B o v b p er (.int .i64 0)):=by
 go_enter Tryz.func150,Tryz.ntmps150
 go_wp2_with fail
 refine(dI _ B o v b p er hr).mono ?_;rintro e1 w1 ⟨rfl,rfl⟩;go_wp2;go_ret;exact⟨rfl,hr,World.grownBy.refl _ _⟩
theorem Ol(most:Int)(w:World)(B o:Nat)(v:Value)(b:List UInt8)(p:Nat)(x:Int)(q:Nat)(e:Int)(hr:dU w B o v b p 0)(hx:e≠0->x=0)(h:Hid (Pk.num b p most=(x,(q:Int),e))) :
 Calls Tryz.prog 113 #[.pointer (some ⟨o,0,none⟩), .int .i64 most] w (oo w B o v b q e (.int .i64 x)):=by
 have zJ : ∀(fn:Fn) (first cap:Array Value) (w:World),(Instr.makeFunc fn first cap).run Tryz.prog w = .ok (.func fn first cap) w:=fun _ _ _ _=>rfl
 go_enter Tryz.func113,Tryz.ntmps113
 go_wp2_with fail
 refine(LS most _ B o v b p x q e hr hx h).mono ?_;rintro e1 w1 ⟨rfl,hr1,fL⟩;go_wp2;go_ret;exact⟨rfl,hr1,fL⟩
theorem LU(most er:Int)(w:World)(B o:Nat)(v:Value)(b:List UInt8)(p:Nat)(hr:dU w B o v b p er)(he:er≠0) :
 Calls Tryz.prog 113 #[.pointer (some ⟨o,0,none⟩), .int .i64 most] w (oo w B o v b p er (.int .i64 0)):=by
 have zJ : ∀(fn:Fn) (first cap:Array Value) (w:World),(Instr.makeFunc fn first cap).run Tryz.prog w = .ok (.func fn first cap) w:=fun _ _ _ _=>rfl
 go_enter Tryz.func113,Tryz.ntmps113
 go_wp2_with fail
 refine(Hw most er _ _ B o v b p hr he).mono ?_;rintro e1 w1 ⟨rfl,hr1,fL⟩;go_wp2;go_ret;exact⟨rfl,hr1,fL⟩
theorem LV(most:Int)(w:World)(B o:Nat)(v:Value)(b:List UInt8)(p:Nat)(x:List UInt8)(q:Nat)(e:Int)(hr:dU w B o v b p 0)(hx:e≠0->x = [])(h:Hid (Pk.txt b p most=(x,(q:Int),e))) :
 Calls Tryz.prog 232 #[.pointer (some ⟨o,0,none⟩), .func (.func 233) #[.pointer (some ⟨o,0,none⟩)] #[], .int .i64 most] w (oo w B o v b q e (.string ⟨x.toArray⟩)):=by
 go_enter Tryz.func232,Tryz.ntmps232
 go_wp2_with fail
 refine(dI _ B o v b p 0 hr).mono ?_;rintro e1 w1 ⟨rfl,rfl⟩
 go_wp2_with fail
 refine(Oj most _ B o v b p 0 _ _ _ hr h).mono ?_;rintro e2 w2 ⟨rfl,hr2,hg2⟩;by_cases he:e=0
 ·subst he
  go_wp2;go_ret;exact⟨rfl,hr2,hg2⟩
 ·obtain rfl:=hx he
  clear hx;have hc2:=hr2.ag.cell 2 (.int .i64 0) rfl;have hf2:=hr2.ag.free 2;have hs:=hr2.errs e;go_wp2;go_ret;exact⟨rfl,hs.1,aM hg2 hs.2⟩
theorem Hx(most er:Int)(fv:Value)(w:World)(B o:Nat)(v:Value)(b:List UInt8)(p:Nat)(hr:dU w B o v b p er)(he:er≠0) :
 Calls Tryz.prog 232 #[.pointer (some ⟨o,0,none⟩),fv, .int .i64 most] w (oo w B o v b p er (.string ⟨#[]⟩)):=by
 go_enter Tryz.func232,Tryz.ntmps232
 go_wp2_with fail
 refine(dI _ B o v b p er hr).mono ?_;rintro e1 w1 ⟨rfl,rfl⟩;go_wp2;go_ret;exact⟨rfl,hr,World.grownBy.refl _ _⟩
theorem LW(most:Int)(w:World)(B o:Nat)(v:Value)(b:List UInt8)(p:Nat)(x:List UInt8)(q:Nat)(e:Int)(hr:dU w B o v b p 0)(hx:e≠0->x = [])(h:Hid (Pk.txt b p most=(x,(q:Int),e))) :
 Calls Tryz.prog 219 #[.pointer (some ⟨o,0,none⟩), .int .i64 most] w (oo w B o v b q e (.string ⟨x.toArray⟩)):=by
 have zJ : ∀(fn:Fn) (first cap:Array Value) (w:World),(Instr.makeFunc fn first cap).run Tryz.prog w = .ok (.func fn first cap) w:=fun _ _ _ _=>rfl
 go_enter Tryz.func219,Tryz.ntmps219
 go_wp2_with fail
 refine(LV most _ B o v b p x q e hr hx h).mono ?_;rintro e1 w1 ⟨rfl,hr1,fL⟩;go_wp2;go_ret;exact⟨rfl,hr1,fL⟩
theorem Hy(most er:Int)(w:World)(B o:Nat)(v:Value)(b:List UInt8)(p:Nat)(hr:dU w B o v b p er)(he:er≠0) :
 Calls Tryz.prog 219 #[.pointer (some ⟨o,0,none⟩), .int .i64 most] w (oo w B o v b p er (.string ⟨#[]⟩)):=by
 have zJ : ∀(fn:Fn) (first cap:Array Value) (w:World),(Instr.makeFunc fn first cap).run Tryz.prog w = .ok (.func fn first cap) w:=fun _ _ _ _=>rfl
 go_enter Tryz.func219,Tryz.ntmps219
 go_wp2_with fail
 refine(Hx most er _ _ B o v b p hr he).mono ?_;rintro e1 w1 ⟨rfl,hr1,fL⟩;go_wp2;go_ret;exact⟨rfl,hr1,fL⟩
theorem Hz(most er:Int)(fv:Value)(w:World)(B o:Nat)(v:Value)(b:List UInt8)(p:Nat)(hr:dU w B o v b p er)(he:er≠0) :
 Calls Tryz.prog 203 #[.pointer (some ⟨o,0,none⟩),fv, .int .i64 most] w (oo w B o v b p er (.slice none 0 0)):=by
 go_enter Tryz.func203,Tryz.ntmps203
 go_wp2_with fail
 refine(dI _ B o v b p er hr).mono ?_;rintro e1 w1 ⟨rfl,rfl⟩;go_wp2;go_ret;exact⟨rfl,hr,World.grownBy.refl _ _⟩
theorem Lz(most er:Int)(w:World)(B o:Nat)(v:Value)(b:List UInt8)(p:Nat)(hr:dU w B o v b p er)(he:er≠0) :
 Calls Tryz.prog 178 #[.pointer (some ⟨o,0,none⟩), .int .i64 most] w (oo w B o v b p er (.slice none 0 0)):=by
 have zJ : ∀(fn:Fn) (first cap:Array Value) (w:World),(Instr.makeFunc fn first cap).run Tryz.prog w = .ok (.func fn first cap) w:=fun _ _ _ _=>rfl
 go_enter Tryz.func178,Tryz.ntmps178
 go_wp2_with fail
 refine(Hz most er _ _ B o v b p hr he).mono ?_;rintro e1 w1 ⟨rfl,hr1,fL⟩;go_wp2;go_ret;exact⟨rfl,hr1,fL⟩
def Pk.done(b:List UInt8)(p:Nat)(er:Int):Int:=if er≠0 then er else if p<b.length then 3 else 0
theorem js(w:World)(B o:Nat)(v:Value)(b:List UInt8)(p:Nat)(er:Int)(hr:dU w B o v b p er) :
 Calls Tryz.prog 114 #[.pointer (some ⟨o,0,none⟩)] w fun en w' => en = .returned (.int .i64 (Pk.done b p er)) ∧ ∃q,w' = w.drewN q:=by
 have hc0:=hr.ag.cell 0 v rfl;have hc1:=hr.ag.cell 1 (.int .i64 (p:Int)) rfl;have hin:=hr.Pd;obtain⟨ao,cap,rfl⟩:=hr.owns.reads.shape;unfold Pk.done;by_cases he:er=0
 ·subst he
  by_cases hp:p<b.length
  all_goals
   rw[if_neg (by simp)]
   first | rw[if_pos hp] | rw[if_neg hp]
   go_enter Tryz.func114,Tryz.ntmps114
   go_wp2_with fail
   refine(dI _ B o _ b p 0 hr).mono ?_;rintro e1 w1 ⟨rfl,rfl⟩;go_wp2
   go_quiet (fail)
   go_wp2;go_ret;exact⟨rfl,_,rfl⟩
 ·rw[if_pos he]
  go_enter Tryz.func114,Tryz.ntmps114
  go_wp2_with fail
  refine(dI _ B o _ b p er hr).mono ?_;rintro e1 w1 ⟨rfl,rfl⟩;go_wp2;go_ret;exact⟨rfl,0,rfl⟩
theorem kv(u:Value)(b:List UInt8)(w:World)(B:Nat)(hB:B<=w.heap.size)(hu:Reads w u b)(hb:b.length<=70368744177664) :
 Calls Tryz.prog 112 #[u] w fun en w' => ∃o v,en = .returned (.pointer (some ⟨o,0,none⟩))∧w.heap.size<=o∧dU w' B o v b 0 0∧Below w.heap.size w w' := by
 go_enter Tryz.func112,Tryz.ntmps112
 go_wp2_with fail
 refine(di u b _ hu (by omega)).mono ?_
 rintro e1 w1 ⟨v,rfl,ho,hb1⟩;obtain⟨vo,vc,rfl⟩:=ho.reads.shape;have hz:=hb1.size;go_wp2;go_ret;refine⟨_,_,rfl,hb1.size,⟨by omega,ae.new _ _ _,(ho.mono hB).alloc _,by omega,hb⟩,hb1.alloc hb1.size _⟩
end Go.Proofs.YtdkdjofnnnljjaaGreatDoor

namespace Go.Proofs.YtdkdjofnnnljjaaGreatDoor
open Go.RowKit
set_option maxHeartbeats 1600000
set_option maxRecDepth 4000
theorem nW(v:Value)(W:World):(Instr.typeAssert (.iface 216 v) 20 216 true).run Tryz.prog W = .ok (.tuple #[v, .bool true]) W:=by kernel_rfl
theorem qF(v:Value)(W:World):(Instr.typeAssert (.iface 221 v) 20 216 true).run Tryz.prog W = .ok (.tuple #[.agg #[.pointer none, .int .i64 0], .bool false]) W:=by kernel_rfl
theorem jS(v:Value)(W:World):(Instr.typeAssert (.iface 221 v) 20 221 true).run Tryz.prog W = .ok (.tuple #[v, .bool true]) W:=by kernel_rfl
theorem nX(v:Value)(W:World):(Instr.typeAssert (.iface 216 v) 20 221 true).run Tryz.prog W = .ok (.tuple #[.agg #[.pointer none, .nilFunc], .bool false]) W:=by kernel_rfl
theorem fx(fn:Fn)(x y:Array Value)(a:Addr)(W:World)(m:Mode):(store a (.func fn x y) m).run Tryz.prog W=stored Tryz.prog W a (.func fn x y) m:=run_store Tryz.prog W a _ m rfl
theorem iw(a:Addr)(W:World)(m:Mode):(store a .nilFunc m).run Tryz.prog W=stored Tryz.prog W a .nilFunc m:=run_store Tryz.prog W a _ m rfl
theorem jT(w:World)(T:TypeId)(x y:Value)(b i:Nat)(v:Value)(hc:w.cell? ⟨b,i,none⟩=some v) :
 ∃w1,w.alloc (.cells #[x,y] T)=w1∧w1.cell? ⟨w.heap.size,0,none⟩=some x∧w1.cell? ⟨w.heap.size,1,none⟩=some y∧w1.cell? ⟨b,i,none⟩=some v∧Below w.heap.size w w1:=by
 refine⟨_,rfl,(ae.new w T #[x,y]).cell 0 x rfl,(ae.new w T #[x,y]).cell 1 y rfl, ?_,(Below.refl _ w).alloc (Nat.le_refl _) _⟩;rw[<- hc];exact World.cell?_alloc_lt w _ _ (World.block_lt_of_cell? w _ hc)
theorem rP(w:World)(A:Obj)(T:TypeId)(x y:Value)(b i:Nat)(v:Value)(hc:w.cell? ⟨b,i,none⟩=some v) :
 ∃w1,(w.alloc A).alloc (.cells #[x,y] T)=w1∧w1.cell? ⟨w.heap.size+1,0,none⟩=some x∧w1.cell? ⟨w.heap.size+1,1,none⟩=some y∧w1.cell? ⟨b,i,none⟩=some v∧Below w.heap.size w w1:=by
 have hc' : (w.alloc A).cell? ⟨b,i,none⟩=some v:=by rw[<- hc];exact World.cell?_alloc_lt w _ _ (World.block_lt_of_cell? w _ hc)
 obtain⟨w1,e1,c0,c1,cb,hB⟩:=jT (w.alloc A) T x y b i v hc';have e:(w.alloc A).heap.size=w.heap.size+1:=by simp
 rw[e]at c0 c1 hB
 exact⟨w1,e1,c0,c1,cb,((Below.refl _ w).alloc (Nat.le_refl _) A).trans (hB.mono (by omega))⟩
theorem D3(b i:Nat)(most x:Int)(w:World)(hc:w.cell? ⟨b,i,none⟩=some (.int .i64 x)) :
 Calls Tryz.prog 195 #[.iface 216 (.agg #[.pointer (some ⟨b,i,none⟩), .int .i64 most])] w
  fun e w' => e = .returned (.bool (decide (1<=x) && decide (x<=most)))∧Below w.heap.size w w' := by
 have ha:=nW;obtain⟨w1,e1,c0,c1,cb,hB⟩:=jT w 216 (.pointer (some ⟨b,i,none⟩)) (.int .i64 most) b i _ hc;have HB:=aa hB;clear hB hc;by_cases h1:1<=x
 ·have d1:decide (1<=x)=true:=decide_eq_true h1
  by_cases h2:x<=most
  ·have d2:decide (x<=most)=true:=decide_eq_true h2
   go_enter Tryz.func195,Tryz.ntmps195
   go_wp2
   go_quiet (fail)
   go_wp2;go_ret;exact⟨by rw[d1,d2];rfl,on HB.out (drawn _ _)⟩
  ·have d2:decide (x<=most)=false:=decide_eq_false h2
   go_enter Tryz.func195,Tryz.ntmps195
   go_wp2
   go_quiet (fail)
   go_wp2;go_ret;exact⟨by rw[d1,d2];rfl,on HB.out (drawn _ _)⟩
 ·have d1:decide (1<=x)=false:=decide_eq_false h1
  go_enter Tryz.func195,Tryz.ntmps195
  go_wp2
  go_quiet (fail)
  go_wp2;go_ret;exact⟨by rw[d1];rfl,on HB.out (drawn _ _)⟩
theorem B5(u v:Value)(w:World) :
 Calls Tryz.prog 195 #[.iface 221 (.agg #[u,v])] w fun e w' => e = .returned (.bool true)∧Below w.heap.size w w' := by
 have ha:=qF
 go_enter Tryz.func195,Tryz.ntmps195
 go_wp2
 go_quiet (fail)
 go_wp2;go_ret;exact⟨rfl,on ((Below.refl _ w).alloc (Nat.le_refl _) _) (drawn _ _)⟩
theorem H5(u v:Value)(w:World) :
 Calls Tryz.prog 196 #[.iface 216 (.agg #[u,v])] w fun e w' => e = .returned (.bool true)∧Below w.heap.size w w' := by
 have ha:=nX;have hst:=iw
 go_enter Tryz.func196,Tryz.ntmps196
 go_wp2
 go_quiet (fail)
 go_wp2;go_ret;exact⟨rfl,on ((Below.refl _ w).alloc (Nat.le_refl _) _) (drawn _ _)⟩
theorem H6(b i:Nat)(s:List UInt8)(w:World)(hc:w.cell? ⟨b,i,none⟩=some (.string ⟨s.toArray⟩))(hs:s.length<=140737488355328) :
 Calls Tryz.prog 196 #[.iface 221 (.agg #[.pointer (some ⟨b,i,none⟩), .func (.func 216) #[] #[]])] w
  fun e w' => e = .returned (.bool (Rn.key ⟨s.toArray⟩))∧Below w.heap.size w w' := by
 have ha:=jS;have hst:=fx;have hsz:(ByteArray.mk s.toArray).size<=140737488355328:=by rw[dy];exact hs
 obtain⟨S,hS⟩ : ∃S,S=ByteArray.mk s.toArray:=⟨_,rfl⟩;rw[<- hS]at hc hsz ⊢
 clear hS;obtain⟨w1,e1,c0,c1,cb,hB⟩:=jT w 221 (.pointer (some ⟨b,i,none⟩)) (.func (.func 216) #[] #[]) b i _ hc;have HB:=aa hB;clear hB hc
 go_enter Tryz.func196,Tryz.ntmps196
 go_wp2
 first
  | (go_region_with (first
      | (go_at_call 216;refine(NC _ _ hsz).mono ?_;rintro e2 w2 ⟨rfl,hb2⟩)))
  | fail
 all_goals
  go_wp2;go_ret;exact⟨rfl,HB.drew.trans (hb2.mono HB.drew.size)⟩
theorem H7(b i:Nat)(s:List UInt8)(w:World)(hc:w.cell? ⟨b,i,none⟩=some (.string ⟨s.toArray⟩))(hs:s.length<=140737488355328) :
 Calls Tryz.prog 196 #[.iface 221 (.agg #[.pointer (some ⟨b,i,none⟩), .func (.func 217) #[] #[]])] w
  fun e w' => e = .returned (.bool (Rn.val ⟨s.toArray⟩))∧Below w.heap.size w w' := by
 have ha:=jS;have hst:=fx;have hsz:(ByteArray.mk s.toArray).size<=140737488355328:=by rw[dy];exact hs
 obtain⟨S,hS⟩ : ∃S,S=ByteArray.mk s.toArray:=⟨_,rfl⟩;rw[<- hS]at hc hsz ⊢
 clear hS;obtain⟨w1,e1,c0,c1,cb,hB⟩:=jT w 221 (.pointer (some ⟨b,i,none⟩)) (.func (.func 217) #[] #[]) b i _ hc;have HB:=aa hB;clear hB hc
 go_enter Tryz.func196,Tryz.ntmps196
 go_wp2
 first
  | (go_region_with (first
      | (go_at_call 217;refine(ND _ _ hsz).mono ?_;rintro e2 w2 ⟨rfl,hb2⟩)))
  | fail
 all_goals
  go_wp2;go_ret;exact⟨rfl,HB.drew.trans (hb2.mono HB.drew.size)⟩
def D4(w:World)(b:Nat)(T:TypeId)(vs:Array Value)(e:Ending)(w' : World):Prop:=e = .returned (.tuple #[])∧ae w' b T vs∧w.grownBy w' (some b)
theorem grown_of{w w' : World}(h:Below w.heap.size w w')(row:Option Nat):w.grownBy w' row:=⟨h.os,h.tape,h.output,h.size,fun k hk _=>h.block k hk⟩
theorem LX(b i:Nat)(most x:Int)(T:TypeId)(vs:Array Value)(w:World)(hl:ae w b T vs)(hv:vs[i]? = some (.int .i64 x)) :
 Calls Tryz.prog 218 #[.iface 216 (.agg #[.pointer (some ⟨b,i,none⟩), .int .i64 most])] w (D4 w b T (vs.setIfInBounds i (.int .i64 0))):=by
 have ha:=nW;have hno:=nX;have hst:=iw;obtain⟨w1,e1,c0,c1,cb,hB⟩:=jT w 216 (.pointer (some ⟨b,i,none⟩)) (.int .i64 most) b i _ (hl.cell i _ hv);have aH:=hl.below hB hl.lt;have hf:=aH.free i;have hl2:=aH.set i (.int .i64 0);have hg:=aM (grown_of hB (some b)) (au w1 b i (.int .i64 0));obtain⟨w2,e2⟩ : ∃w2,w1.setCell ⟨b,i,none⟩ (.int .i64 0)=w2:=⟨_,rfl⟩;rw[e2]at hl2 hg
 have HL:=aa hl2;have HG:=aa hg;clear aH hl2 hg hB hl hv
 go_enter Tryz.func218,Tryz.ntmps218
 go_wp2
 go_end0
 exact⟨rfl,HL.alloc _,aM HG.out (World.grownBy_alloc _ _ _)⟩
theorem H8(b i:Nat)(s:ByteArray)(fn:Nat)(T:TypeId)(vs:Array Value)(w:World)(hl:ae w b T vs)(hv:vs[i]? = some (.string s)) :
 Calls Tryz.prog 218 #[.iface 221 (.agg #[.pointer (some ⟨b,i,none⟩), .func (.func fn) #[] #[]])] w (D4 w b T (vs.setIfInBounds i (.string ⟨#[]⟩))):=by
 have ha:=qF;have hno:=jS;have hst:=fx;obtain⟨w1,e1,c0,c1,cb,hB⟩:=rP w (.cells #[.pointer none, .int .i64 0] 216) 221 (.pointer (some ⟨b,i,none⟩)) (.func (.func fn) #[] #[]) b i _ (hl.cell i _ hv);have aH:=hl.below hB hl.lt;have hf:=aH.free i;have hl2:=aH.set i (.string ⟨#[]⟩);have hg:=aM (grown_of hB (some b)) (au w1 b i (.string ⟨#[]⟩));obtain⟨w2,e2⟩ : ∃w2,w1.setCell ⟨b,i,none⟩ (.string ⟨#[]⟩)=w2:=⟨_,rfl⟩;rw[e2]at hl2 hg
 have HL:=aa hl2;have HG:=aa hg;clear aH hl2 hg hB hl hv
 go_enter Tryz.func218,Tryz.ntmps218
 go_wp2
 go_end0
 exact⟨rfl,HL.out,HG.out⟩
theorem pz(w:World)(g:Nat)(x y:Value)(h:ae w g 216 #[x,y]):(loadVar 216 ⟨g,0,none⟩).run Tryz.prog w = .ok (.agg #[x,y]) w :=
 run_loadVar_row w g _ _ #[x,y] (0,0) _ h Tryz.underlying216 rfl (by kernel_rfl)
theorem nj(w:World)(g:Nat)(x y:Value)(h:ae w g 221 #[x,y]):(loadVar 221 ⟨g,0,none⟩).run Tryz.prog w = .ok (.agg #[x,y]) w :=
 run_loadVar_row w g _ _ #[x,y] (0,0) _ h Tryz.underlying221 rfl (by kernel_rfl)
theorem np{fn:Func}{p q r:Tmp}{ty:TypeId}(h:fn.results = #[.cell p ty, .cell q ty, .cell r ty])(tmps:Array Value)(P:Program)(w:World) :
 (results fn tmps).run P w=((asAddr (tmps.getD p undef)).run P w).andThen fun a w₁=>((loadVar ty a).run P w₁).andThen fun v w₂=>((asAddr (tmps.getD q undef)).run P w₂).andThen fun a' w₃=>((loadVar ty a').run P w₃).andThen fun v' w₄ =>
   ((asAddr (tmps.getD r undef)).run P w₄).andThen fun a'' w₅=>((loadVar ty a'').run P w₅).andThen fun v'' w₆ => .ok (.tuple #[v,v', v'']) w₆:=by
 simp only[results,h];simp[Sem.run_bind,Result.andThen]
theorem B7{fn:Func}{R:Ending->World->Prop}{a:Act}{w:World}{p q r:Tmp}{g g' g'' : Nat}{x y x' y' Ja Jb : Value}(h:fn.results = #[.cell p 216, .cell q 216, .cell r 216])
 (hp:a.tmps.getD p undef = .pointer (some ⟨g,0,none⟩)) (hq:a.tmps.getD q undef = .pointer (some ⟨g', 0,none⟩)) (hr:a.tmps.getD r undef = .pointer (some ⟨g'', 0,none⟩))
 (hl:ae w g 216 #[x,y]) (hl' : ae w g' 216 #[x', y']) (Rh : ae w g'' 216 #[Ja, Jb]) (hd:a.defers = [])
 (hR:R (.returned (.tuple #[.agg #[x,y], .agg #[x', y'], .agg #[Ja, Jb]])) w):bodyPost Tryz.prog fn R .ret a w:=by
 refine bodyPost_ret ?_ hd hR;rw[np h,hp,hq,hr];simp[asAddr,Result.andThen,pz w g x y hl,pz w g' x' y' hl', pz w g'' Ja Jb Rh]
theorem Ia{fn:Func}{R:Ending->World->Prop}{a:Act}{w:World}{p q r:Tmp}{g g' g'' : Nat}{x y x' y' Ja Jb : Value}(h:fn.results = #[.cell p 221, .cell q 221, .cell r 221])
 (hp:a.tmps.getD p undef = .pointer (some ⟨g,0,none⟩)) (hq:a.tmps.getD q undef = .pointer (some ⟨g', 0,none⟩)) (hr:a.tmps.getD r undef = .pointer (some ⟨g'', 0,none⟩))
 (hl:ae w g 221 #[x,y]) (hl' : ae w g' 221 #[x', y']) (Rh : ae w g'' 221 #[Ja, Jb]) (hd:a.defers = [])
 (hR:R (.returned (.tuple #[.agg #[x,y], .agg #[x', y'], .agg #[Ja, Jb]])) w):bodyPost Tryz.prog fn R .ret a w:=by
 refine bodyPost_ret ?_ hd hR;rw[np h,hp,hq,hr];simp[asAddr,Result.andThen,nj w g x y hl,nj w g' x' y' hl', nj w g'' Ja Jb Rh]
theorem jv(w:World)(T:TypeId)(x y x' y' Ja Jb : Value) :
 ∃w3,((w.alloc (.cells #[x,y] T)).alloc (.cells #[x', y'] T)).alloc (.cells #[Ja, Jb] T)=w3∧ae w3 w.heap.size T #[x,y]∧ae w3 (w.heap.size+1) T #[x', y']∧ae w3 (w.heap.size+1+1) T #[Ja, Jb]∧Below w.heap.size w w3:=by
 refine⟨_,rfl,((ae.new w T _).alloc _).alloc _, ?_, ?_,(((Below.refl _ w).alloc (Nat.le_refl _) _).alloc (by simp) _).alloc (by simp;omega) _⟩
 ·have:=(ae.new (w.alloc (.cells #[x,y] T)) T #[x', y']).alloc (.cells #[Ja, Jb] T)
  simpa using this
 ·have:=ae.new ((w.alloc (.cells #[x,y] T)).alloc (.cells #[x', y'] T)) T #[Ja, Jb]
  simpa using this
theorem sL(b:Nat)(w:World) :
 Calls Tryz.prog 190 #[.pointer (some ⟨b,0,none⟩)] w
  fun e w' => e = .returned (.tuple #[.agg #[.pointer (some ⟨b,1,none⟩), .int .i64 8], .agg #[.pointer (some ⟨b,2,none⟩), .int .i64 4294967296], .agg #[.pointer (some ⟨b,6,none⟩), .int .i64 9]])∧Below w.heap.size w w' := by
 obtain⟨w3,e3,h0,h1,h2,hB⟩:=jv w 216 (.pointer (some ⟨b,1,none⟩)) (.int .i64 8) (.pointer (some ⟨b,2,none⟩)) (.int .i64 4294967296) (.pointer (some ⟨b,6,none⟩)) (.int .i64 9);have HB:=aa hB;clear hB
 go_enter Tryz.func190,Tryz.ntmps190
 go_wp2
 go_region
 go_wp2;refine B7 rfl rfl rfl rfl (h0.kept (grown_of (drawn _ _) none) (by simp)) (h1.kept (grown_of (drawn _ _) none) (by simp)) (h2.kept (grown_of (drawn _ _) none) (by simp)) rfl ?_
 exact⟨rfl,on HB.out (drawn _ _)⟩
theorem xK(b:Nat)(w:World) :
 Calls Tryz.prog 191 #[.pointer (some ⟨b,0,none⟩)] w
  fun e w' => e = .returned (.tuple #[.agg #[.pointer (some ⟨b,3,none⟩), .func (.func 216) #[] #[]], .agg #[.pointer (some ⟨b,5,none⟩), .func (.func 217) #[] #[]],
   .agg #[.pointer (some ⟨b,4,none⟩), .func (.func 217) #[] #[]]])∧Below w.heap.size w w' := by
 obtain⟨w3,e3,h0,h1,h2,hB⟩:=jv w 221 (.pointer (some ⟨b,3,none⟩)) (.func (.func 216) #[] #[]) (.pointer (some ⟨b,5,none⟩)) (.func (.func 217) #[] #[]) (.pointer (some ⟨b,4,none⟩)) (.func (.func 217) #[] #[]);have HB:=aa hB;have hst:=fx;clear hB
 go_enter Tryz.func191,Tryz.ntmps191
 go_wp2
 go_region
 go_wp2;refine Ia rfl rfl rfl rfl (h0.kept (grown_of (drawn _ _) none) (by simp)) (h1.kept (grown_of (drawn _ _) none) (by simp)) (h2.kept (grown_of (drawn _ _) none) (by simp)) rfl ?_
 exact⟨rfl,on HB.out (drawn _ _)⟩
def Cm.fv(b:Nat)(f:Cm.F):Value :=
 if f.num=true then .iface 216 (.agg #[.pointer (some ⟨b,f.at,none⟩), .int .i64 f.most])
 else .iface 221 (.agg #[.pointer (some ⟨b,f.at,none⟩), .func (.func (if f = .key then 216 else 217)) #[] #[]])
def jy(w:World)(lo:Nat)(v:Value)(b:Nat)(fs:List Cm.F):Prop :=
 (fs = []∧v = .slice none 0 0) ∨ ∃g,lo<=g∧v = .slice (some ⟨g,0,none⟩) fs.length fs.length∧ae w g 20 (fs.map (Cm.fv b)).toArray
def J7(w:World)(b:Nat)(fs:List Cm.F)(e:Ending)(w' : World):Prop := ∃v,e = .returned v∧jy w' w.heap.size v b fs∧Below w.heap.size w w'
theorem pA(b:Nat)(k:Int)(w:World)(hc:w.cell? ⟨b,0,none⟩=some (.int .i64 k)) :
 Calls Tryz.prog 189 #[.pointer (some ⟨b,0,none⟩)] w (J7 w b (Cm.fields k)):=by
 have hst:=fx;have hbl:=World.block_lt_of_cell? w _ hc
 go_enter Tryz.func189,Tryz.ntmps189
 go_wp2_with fail
 refine(sL b _).mono ?_;rintro e w1 ⟨rfl,aq⟩;obtain⟨w3,e3,h0,h1,h2,jx⟩:=jv w1 216 (.pointer (some ⟨b,1,none⟩)) (.int .i64 8) (.pointer (some ⟨b,2,none⟩)) (.int .i64 4294967296) (.pointer (some ⟨b,6,none⟩)) (.int .i64 9);have LY:=aq.trans (jx.mono aq.size);have H0:=aa h0;have H1:=aa h1;have H2:=aa h2;have vZ:=aa LY;clear h0 h1 h2 LY jx
 go_wp2_with fail
 refine(xK b _).mono ?_;rintro e w4 ⟨rfl,og⟩;obtain⟨w5,e5,k0,k1,k2,qY⟩:=jv w4 221 (.pointer (some ⟨b,3,none⟩)) (.func (.func 216) #[] #[]) (.pointer (some ⟨b,5,none⟩)) (.func (.func 217) #[] #[]) (.pointer (some ⟨b,4,none⟩)) (.func (.func 217) #[] #[]);have uZ:=og.trans (qY.mono og.size);have hB:=vZ.trans (uZ.mono vZ.size);have h0:=H0.below uZ H0.lt;have h1:=H1.below uZ H1.lt;have h2:=H2.below uZ H2.lt;have a0:=h0.cell 0 _ rfl;have a1:=h0.cell 1 _ rfl;have a2:=h1.cell 0 _ rfl;have a3:=h1.cell 1 _ rfl;have a4:=h2.cell 0 _ rfl;have a5:=h2.cell 1 _ rfl;have b0:=k0.cell 0 _ rfl;have b1:=k0.cell 1 _ rfl;have b2:=k1.cell 0 _ rfl;have b3:=k1.cell 1 _ rfl;have b4:=k2.cell 0 _ rfl;have b5:=k2.cell 1 _ rfl;have hk:w5.cell? ⟨b,0,none⟩=some (.int .i64 k):=by rw[<- hc];exact World.cell?_of_block (hB.block b hbl)
 have HB:=aa hB;clear h0 h1 h2 k0 k1 k2 uZ og qY aq hB hc;have hsz:=HB.size;rcases Vs.kinds k with rfl | rfl | rfl | rfl | rfl | rfl | rfl | rfl | h
 ·go_wp2
  go_ret;exact⟨_,rfl, .inl ⟨rfl,rfl⟩,HB.out⟩
 ·go_wp2
  go_ret;exact⟨_,rfl, .inr ⟨w5.heap.size,hsz,rfl,ae.new _ _ _⟩,HB.alloc hsz _⟩
 ·go_wp2
  go_ret;exact⟨_,rfl, .inr ⟨w5.heap.size,hsz,rfl,ae.new _ _ _⟩,HB.alloc hsz _⟩
 ·go_wp2
  go_ret;exact⟨_,rfl, .inr ⟨w5.heap.size,hsz,rfl,ae.new _ _ _⟩,HB.alloc hsz _⟩
 ·go_wp2
  go_ret;exact⟨_,rfl, .inr ⟨w5.heap.size,hsz,rfl,ae.new _ _ _⟩,HB.alloc hsz _⟩
 ·go_wp2
  go_ret;exact⟨_,rfl, .inl ⟨rfl,rfl⟩,HB.out⟩
 ·go_wp2
  go_ret;exact⟨_,rfl, .inr ⟨w5.heap.size,hsz,rfl,ae.new _ _ _⟩,HB.alloc hsz _⟩
 ·go_wp2
  go_ret;exact⟨_,rfl, .inr ⟨w5.heap.size,hsz,rfl,ae.new _ _ _⟩,HB.alloc hsz _⟩
 ·have n2:(k == 2)=false:=by simp;omega
  have n3:(k == 3)=false:=by simp;omega
  have n4:(k == 4)=false:=by simp;omega
  have n5:(k == 5)=false:=by simp;omega
  have n7:(k == 7)=false:=by simp;omega
  have n8:(k == 8)=false:=by simp;omega
  go_wp2;go_ret;exact⟨_,rfl, .inl ⟨Cm.qV (by omega) (by omega) (by omega) (by omega) (by omega) (by omega),rfl⟩,HB.out⟩
theorem rX(v:Int)(b:Nat)(k:Int)(w:World)(hc:w.cell? ⟨b,0,none⟩=some (.int .i64 k)) :
 Calls Tryz.prog 161 #[.int .i64 v, .pointer (some ⟨b,0,none⟩)] w (J7 w b (Cm.cO v k)):=by
 have hst:=fx;by_cases h1:v=1
 ·subst h1
  go_enter Tryz.func161,Tryz.ntmps161
  go_wp2_with fail
  refine(sL b _).mono ?_;rintro e w1 ⟨rfl,aq⟩;obtain⟨w3,e3,h0,h1,h2,jx⟩:=jv w1 216 (.pointer (some ⟨b,1,none⟩)) (.int .i64 8) (.pointer (some ⟨b,2,none⟩)) (.int .i64 4294967296) (.pointer (some ⟨b,6,none⟩)) (.int .i64 9);have LY:=aq.trans (jx.mono aq.size);have H0:=aa h0;have H1:=aa h1;have H2:=aa h2;have vZ:=aa LY;clear h0 h1 h2 LY jx
  go_wp2_with fail
  refine(xK b _).mono ?_;rintro e w4 ⟨rfl,og⟩;obtain⟨w5,e5,k0,k1,k2,qY⟩:=jv w4 221 (.pointer (some ⟨b,3,none⟩)) (.func (.func 216) #[] #[]) (.pointer (some ⟨b,5,none⟩)) (.func (.func 217) #[] #[]) (.pointer (some ⟨b,4,none⟩)) (.func (.func 217) #[] #[]);have uZ:=og.trans (qY.mono og.size);have hB:=vZ.trans (uZ.mono vZ.size);have h0:=H0.below uZ H0.lt;have h1:=H1.below uZ H1.lt;have h2:=H2.below uZ H2.lt;have a0:=h0.cell 0 _ rfl;have a1:=h0.cell 1 _ rfl;have a2:=h1.cell 0 _ rfl;have a3:=h1.cell 1 _ rfl;have a4:=h2.cell 0 _ rfl;have a5:=h2.cell 1 _ rfl;have b0:=k0.cell 0 _ rfl;have b1:=k0.cell 1 _ rfl;have b2:=k1.cell 0 _ rfl;have b3:=k1.cell 1 _ rfl;have b4:=k2.cell 0 _ rfl;have b5:=k2.cell 1 _ rfl;have HB:=aa hB;clear h0 h1 h2 k0 k1 k2 uZ og qY aq hB hc;have hsz:=HB.size;go_wp2;go_ret;exact⟨_,rfl, .inr ⟨w5.heap.size,hsz,rfl,ae.new _ _ _⟩,HB.alloc hsz _⟩
 ·have hn:(v != 1)=true:=by simpa using h1
  have he:Cm.cO v k=Cm.fields k:=by simp[Cm.cO,h1]
  rw[he]
  go_enter Tryz.func161,Tryz.ntmps161
  go_wp2_with fail
  refine(pA b k _ hc).mono ?_;rintro e w1 ⟨u,rfl,hr,hB⟩;go_wp2;go_ret;exact⟨_,rfl,hr,hB⟩
def Cm.cells(c:Cm.bW):Array Value := #[.int .i64 c.kind, .int .i64 c.bD, .int .i64 c.seq, .string ⟨c.key.toArray⟩, .string ⟨c.val.toArray⟩, .string ⟨c.old.toArray⟩, .int .i64 c.node]
abbrev kL(w:World)(b:Nat)(c:Cm.bW):Prop:=ae w b 40 (Cm.cells c)
theorem Cm.nY(c:Cm.bW)(f:Cm.F)(h:f.num=true):(Cm.cells c)[f.at]? = some (.int .i64 (c.n f)):=by
 cases f<;>first | rfl | cases h
theorem Cm.ld(c:Cm.bW)(f:Cm.F)(h:f.num=false):(Cm.cells c)[f.at]? = some (.string ⟨(c.s f).toArray⟩):=by
 cases f<;>first | rfl | cases h
theorem Cm.ve(c:Cm.bW)(f:Cm.F)(n:Int)(h:f.num=true):(Cm.cells c).setIfInBounds f.at (.int .i64 n)=Cm.cells (c.jU n f):=by
 cases f<;>first | rfl | cases h
theorem Cm.vg(c:Cm.bW)(f:Cm.F)(s:List UInt8)(h:f.num=false):(Cm.cells c).setIfInBounds f.at (.string ⟨s.toArray⟩)=Cm.cells (c.jV s f):=by
 cases f<;>first | rfl | cases h
theorem jy.kept{w w' : World}{lo:Nat}{v:Value}{b:Nat}{fs:List Cm.F}(h:jy w lo v b fs){row:Option Nat}(hg:w.grownBy w' row)(hne : ∀g,lo<=g->some g≠row):jy w' lo v b fs:=by
 rcases h with ⟨rfl,rfl⟩ | ⟨g,h1,rfl,h2⟩
 ·exact .inl ⟨rfl,rfl⟩
 ·exact .inr ⟨g,h1,rfl,h2.kept hg (hne g h1)⟩
theorem jy.below{w w' : World}{lo:Nat}{v:Value}{b:Nat}{fs:List Cm.F}(h:jy w lo v b fs)(hb:Below w.heap.size w w'):jy w' lo v b fs:=h.kept (grown_of hb none) (by simp)
theorem jy.shape{w:World}{lo:Nat}{v:Value}{b:Nat}{fs:List Cm.F}(h:jy w lo v b fs) : ∃ao,v = .slice ao fs.length fs.length:=by
 rcases h with ⟨rfl,rfl⟩ | ⟨g,h1,rfl,h2⟩
 ·exact⟨_,rfl⟩
 ·exact⟨_,rfl⟩
theorem jy.cell{w:World}{lo:Nat}{ao:Option Addr}{n m:Nat}{b:Nat}{fs:List Cm.F}(h:jy w lo (.slice ao n m) b fs){k:Nat}{f:Cm.F}(hk:fs[k]? = some f) :
 ∃g,ao=some ⟨g,0,none⟩∧w.cell? ⟨g,k,none⟩=some (Cm.fv b f):=by
 rcases h with ⟨rfl,_⟩ | ⟨g,h1,hv,h2⟩
 ·simp at hk
 ·cases hv
  exact⟨g,rfl,h2.cell k _ (by simp[hk])⟩
theorem B8(b:Nat)(c:Cm.bW)(f:Cm.F)(w:World)(hl:kL w b c):Calls Tryz.prog 195 #[Cm.fv b f] w (Looks w (.bool (Cm.within c f))):=by
 cases h:f.num with
 | true =>
  rw[show Cm.fv b f=_ from if_pos h,show Cm.within c f=(decide (1<=c.n f) && decide (c.n f<=f.most)) by simp[Cm.within,h]]
  exact D3 b f.at f.most (c.n f) w (hl.cell _ _ (Cm.nY c f h))
 | false =>
  rw[show Cm.fv b f=_ from if_neg (by simp[h]),show Cm.within c f=true by simp[Cm.within,h]]
  exact B5 _ _ w
theorem D5(b:Nat)(c:Cm.bW)(f:Cm.F)(w:World)(hl:kL w b c)(hs:c.aD 140737488355328):Calls Tryz.prog 196 #[Cm.fv b f] w (Looks w (.bool (Cm.spelt c f))):=by
 cases h:f.num with
 | true =>
  rw[show Cm.fv b f=_ from if_pos h,show Cm.spelt c f=true by simp[Cm.spelt,h]]
  exact H5 _ _ w
 | false =>
  rw[show Cm.fv b f=_ from if_neg (by simp[h]),show Cm.spelt c f=Cm.SR f (c.s f) by simp[Cm.spelt,h]]
  by_cases hk:f = .key
  ·subst hk
   exact H6 b _ (c.s .key) w (hl.cell _ _ (Cm.ld c _ h)) (hs.s _)
  ·rw[if_neg hk,show Cm.SR f (c.s f)=Rn.val ⟨(c.s f).toArray⟩from if_neg hk]
   exact H7 b _ (c.s f) w (hl.cell _ _ (Cm.ld c _ h)) (hs.s _)
theorem Ib(b:Nat)(c:Cm.bW)(f:Cm.F)(w:World)(hl:kL w b c):Calls Tryz.prog 218 #[Cm.fv b f] w (D4 w b 40 (Cm.cells (Cm.oG c f))):=by
 cases h:f.num with
 | true =>
  rw[show Cm.fv b f=_ from if_pos h,show Cm.oG c f=c.jU 0 f by simp[Cm.oG,h], <- Cm.ve c f 0 h]
  exact LX b _ _ _ _ _ w hl (Cm.nY c f h)
 | false =>
  rw[show Cm.fv b f=_ from if_neg (by simp[h]),show Cm.oG c f=c.jV [] f by simp[Cm.oG,h], <- Cm.vg c f [] h]
  exact H8 b _ _ _ _ _ w hl (Cm.ld c f h)
theorem D6(c:Cm.bW)(b lo:Nat)(fs:List Cm.F)(v:Value)(w:World)(hr:jy w lo v b fs)(hn:fs.length<=5)(hl:kL w b c) :
 Calls Tryz.prog 194 #[v, .func (.func 195) #[] #[]] w (Looks w (.bool (fs.all (Cm.within c)))):=by
 obtain⟨ao,rfl⟩:=hr.shape;obtain⟨r,hr'⟩ : ∃r,r=fs.all (Cm.within c):=⟨_,rfl⟩;rw[<- hr'];have oq:=aa hr';have HR:=aa hr;have HL:=aa hl;clear hr hr' hl
 go_enter Tryz.func194,Tryz.ntmps194
 go_wp2
 go_loopw [6,9] (fun _ i wr => ∃k:Nat,i = .int .i64 (k:Int)∧k<=fs.length∧Below w.heap.size w wr∧Hid ((fs.take k).all (Cm.within c)=true)) (fun _ i _=>fs.length - (intOf i).toNat)
 case atStart=>exact⟨0,rfl,by omega,Below.refl _ _,rfl⟩
 case round =>
  obtain⟨k,rfl,hk,hb,HQ⟩:=hrel;by_cases hlt:k<fs.length
  ·have tK : (k:Int)<(fs.length:Int):=by omega
   obtain⟨f,hf⟩ : ∃f,fs[k]? = some f:=⟨_,List.getElem?_eq_getElem hlt⟩;obtain⟨g,rfl,hcell⟩:=(HR.below hb).cell hf;obtain⟨t,ht⟩ : ∃t,t=Cm.within c f:=⟨_,rfl⟩;have HT:=aa ht;have HF:=aa hf;have XG:=aa (HL.below hb HL.lt);clear ht hf
   go_wp2_with fail
   refine(B8 b c f _ XG.out).mono ?_;rintro e w2 ⟨rfl,hb2⟩;rw[<- HT.out];have hb3:=on hb hb2;cases t with
   | true =>
    go_wp2
    go_roundw
    case rel =>
     refine⟨k+1,by go_num,by omega,hb3, ?_⟩
     show _=_;rw[List.take_add_one,HF.out,List.all_append,HQ.out,Option.toList_some,List.all_cons,List.all_nil, <- HT.out]
     rfl
    case measure=>simp[intOf];omega
   | false =>
    have HZ:Hid (r=false):=by
     show _=_;rw[oq.out,List.all_eq_false];exact⟨f,List.mem_of_getElem? HF.out,by rw[<- HT.out];simp⟩
    go_wp2;go_ret;exact⟨by rw[HZ.out];rfl,hb3⟩
  ·have tK : ¬(k:Int)<(fs.length:Int):=by omega
   have HZ:Hid (r=true):=by
    show _=_;have:=HQ.out;rw[List.take_of_length_le (by omega)]at this
    rw[oq.out,this]
   go_wp2;go_ret;exact⟨by rw[HZ.out];rfl,hb⟩
theorem Ic(c:Cm.bW)(b lo:Nat)(fs:List Cm.F)(v:Value)(w:World)(hr:jy w lo v b fs)(hn:fs.length<=5)(hl:kL w b c)(hs:c.aD 140737488355328) :
 Calls Tryz.prog 194 #[v, .func (.func 196) #[] #[]] w (Looks w (.bool (fs.all (Cm.spelt c)))):=by
 obtain⟨ao,rfl⟩:=hr.shape;obtain⟨r,hr'⟩ : ∃r,r=fs.all (Cm.spelt c):=⟨_,rfl⟩;rw[<- hr'];have oq:=aa hr';have HR:=aa hr;have HL:=aa hl;clear hr hr' hl
 go_enter Tryz.func194,Tryz.ntmps194
 go_wp2
 go_loopw [6,9] (fun _ i wr => ∃k:Nat,i = .int .i64 (k:Int)∧k<=fs.length∧Below w.heap.size w wr∧Hid ((fs.take k).all (Cm.spelt c)=true)) (fun _ i _=>fs.length - (intOf i).toNat)
 case atStart=>exact⟨0,rfl,by omega,Below.refl _ _,rfl⟩
 case round =>
  obtain⟨k,rfl,hk,hb,HQ⟩:=hrel;by_cases hlt:k<fs.length
  ·have tK : (k:Int)<(fs.length:Int):=by omega
   obtain⟨f,hf⟩ : ∃f,fs[k]? = some f:=⟨_,List.getElem?_eq_getElem hlt⟩;obtain⟨g,rfl,hcell⟩:=(HR.below hb).cell hf;obtain⟨t,ht⟩ : ∃t,t=Cm.spelt c f:=⟨_,rfl⟩;have HT:=aa ht;have HF:=aa hf;have XG:=aa (HL.below hb HL.lt);clear ht hf
   go_wp2_with fail
   refine(D5 b c f _ XG.out hs).mono ?_;rintro e w2 ⟨rfl,hb2⟩;rw[<- HT.out];have hb3:=on hb hb2;cases t with
   | true =>
    go_wp2
    go_roundw
    case rel =>
     refine⟨k+1,by go_num,by omega,hb3, ?_⟩
     show _=_;rw[List.take_add_one,HF.out,List.all_append,HQ.out,Option.toList_some,List.all_cons,List.all_nil, <- HT.out]
     rfl
    case measure=>simp[intOf];omega
   | false =>
    have HZ:Hid (r=false):=by
     show _=_;rw[oq.out,List.all_eq_false];exact⟨f,List.mem_of_getElem? HF.out,by rw[<- HT.out];simp⟩
    go_wp2;go_ret;exact⟨by rw[HZ.out];rfl,hb3⟩
  ·have tK : ¬(k:Int)<(fs.length:Int):=by omega
   have HZ:Hid (r=true):=by
    show _=_;have:=HQ.out;rw[List.take_of_length_le (by omega)]at this
    rw[oq.out,this]
   go_wp2;go_ret;exact⟨by rw[HZ.out];rfl,hb⟩
end Go.Proofs.YtdkdjofnnnljjaaGreatDoor

namespace Go.Proofs.YtdkdjofnnnljjaaGreatDoor
open Go.RowKit
namespace Qt
theorem empty_eq(s:ByteArray):s.toList.isEmpty=decide (s.size=0):=by
 rw[ByteArray.toList_eq,Bool.eq_iff_iff,List.isEmpty_iff_length_eq_zero,decide_eq_true_eq];exact Iff.rfl
end Qt
end Go.Proofs.YtdkdjofnnnljjaaGreatDoor

namespace Go.Proofs.YtdkdjofnnnljjaaGreatDoor
open Go.RowKit
set_option maxHeartbeats 1600000
set_option maxRecDepth 4000
theorem rQ(s:List UInt8):(ByteArray.mk s.toArray).toList.isEmpty=decide (s = []):=by
 rw[Qt.empty_eq,dy];simp
theorem gv : Tryz.prog.eqGuardType Tryz.prog.depth 40=false:=by kernel_rfl
theorem si(w:World)(c d:Cm.bW):(binOp .eql 40 (.agg (Cm.cells c)) (.agg (Cm.cells d))).run Tryz.prog w = .ok (.bool (decide (c=d))) w:=by
 have hu:=Tryz.underlying40;obtain⟨k,cl,sq,nd,ky,od,vl⟩:=c;obtain⟨k', Wo, Wp, Wq, Ws, Wt, Wu⟩:=d;dsimp only [Cm.cells];go_simp
 repeat' split
 all_goals simp_all
theorem pL(w:World)(c:Cm.bW) : ∃w1,w.alloc (.cells (Cm.cells c) 40)=w1∧kL w1 w.heap.size c∧Below w.heap.size w w1∧w1.heap.size=w.heap.size+1 :=
 ⟨_,rfl,ae.new w _ _,(Below.refl _ w).alloc (Nat.le_refl _) _,by simp⟩
theorem Cm.D7(fs:List Cm.F) : ∀c:Cm.bW,(fs.foldl Cm.oG c).kind=c.kind:=by
 induction fs with
 | nil=>intro c;rfl
 | cons f fs ih =>
  intro c
  rw[List.foldl_cons,ih];unfold Cm.oG;split
  ·exact Cm.bW.wY _ _ _
  ·exact Cm.bW.wZ _ _ _
theorem Ie(c:Cm.bW)(w:World):Calls Tryz.prog 197 #[.agg (Cm.cells c)] w (Looks w (.bool (Cm.alone c))):=by
 obtain⟨w1,e1,aH,aq,hz1⟩:=pL w c;have hk:=aH.cell 0 _ rfl;have dh:=aa aH;have aG:=aa aq;have oC:=aa hz1;clear aH aq hz1
 go_enter Tryz.func197,Tryz.ntmps197
 go_wp2_with fail
 refine(pA w.heap.size c.kind _ hk).mono ?_;rintro e w2 ⟨v,rfl,hr,dN⟩;obtain⟨ao,rfl⟩:=hr.shape;have hn:=Cm.oV c.kind;obtain⟨fs,zE⟩ : ∃fs,fs=Cm.fields c.kind:=⟨_,rfl⟩;rw[<- zE]at hr hn ⊢
 have PI:=aa zE;have HR:=aa hr;have ej:=aa (dh.below dN dh.lt);have aR:=aa (aG.trans (dN.mono aG.size));clear hr zE dN hk;go_wp2
 go_loopw [4,7] (fun _ i wr => ∃(k:Nat) (d:Cm.bW),i = .int .i64 (k:Int)∧k<=fs.length∧Below w.heap.size w wr∧Hid (d=(fs.take k).foldl Cm.oG c)∧Hid (kL wr w.heap.size d)∧Hid (jy wr (w.heap.size+1) (.slice ao fs.length fs.length) w.heap.size fs)) (fun _ i _=>fs.length - (intOf i).toNat)
 case atStart =>
  refine⟨0,c,rfl,by omega,aR.out,rfl,ej.out, ?_⟩
  show jy _ _ _ _ _;rw[<- oC.out];exact HR.out
 case round =>
  obtain⟨k,d,rfl,hk,hb,HD,HL,HF⟩:=hrel;by_cases hlt:k<fs.length
  ·have tK : (k:Int)<(fs.length:Int):=by omega
   obtain⟨f,hf⟩ : ∃f,fs[k]? = some f:=⟨_,List.getElem?_eq_getElem hlt⟩;obtain⟨g,rfl,hcell⟩:=HF.cell hf;have SQ:=aa hf;clear hf
   go_wp2_with fail
   refine(Ib w.heap.size d f _ HL.out).mono ?_;rintro e w2 ⟨rfl,hl2,hg2⟩;have hb2:=hb.grown hg2 (Nat.le_trans (Nat.le_refl _) hb.size) (by rintro j hj;cases hj;exact Nat.le_refl _)
   have fY:=aa hl2;have Jc:=aa (HF.kept hg2 (by intro j hj e;cases e;omega))
   clear hl2 hg2;go_wp2
   go_roundw
   case rel =>
    refine⟨k+1,Cm.oG d f,by go_num,by omega,hb2, ?_,fY,Jc⟩
    show _=_;rw[List.take_add_one,SQ.out,List.foldl_append, <- HD.out]
    rfl
   case measure=>simp[intOf];omega
  ·have tK : ¬(k:Int)<(fs.length:Int):=by omega
   have hd:Hid (Cm.alone c=decide (d=Cm.aL d.kind)):=by
    show _=_;have h1:=HD.out;rw[List.take_of_length_le (by omega),PI.out]at h1
    unfold Cm.alone;rw[<- h1,show d.kind=c.kind by rw[h1];exact Cm.D7 _ _]
   have heq:=fun W=>si W d (Cm.aL d.kind)
   have hgd:=gv;have q0:wr.cell? ⟨w.heap.size,0,none⟩=some (.int .i64 d.kind):=HL.cell 0 _ rfl;have q1:wr.cell? ⟨w.heap.size,1,none⟩=some (.int .i64 d.bD):=HL.cell 1 _ rfl;have q2:wr.cell? ⟨w.heap.size,2,none⟩=some (.int .i64 d.seq):=HL.cell 2 _ rfl;have q3:wr.cell? ⟨w.heap.size,3,none⟩=some (.string ⟨d.key.toArray⟩):=HL.cell 3 _ rfl;have q4:wr.cell? ⟨w.heap.size,4,none⟩=some (.string ⟨d.val.toArray⟩):=HL.cell 4 _ rfl;have q5:wr.cell? ⟨w.heap.size,5,none⟩=some (.string ⟨d.old.toArray⟩):=HL.cell 5 _ rfl;have q6:wr.cell? ⟨w.heap.size,6,none⟩=some (.int .i64 d.node):=HL.cell 6 _ rfl;obtain⟨t,ht⟩ : ∃t,t=decide (d=Cm.aL d.kind):=⟨_,rfl⟩;rw[<- ht]at heq
   have HT:=aa ht;clear ht;dsimp only [Cm.cells,Cm.aL]at heq
   go_wp2;go_ret;exact⟨by rw[hd.out, <- HT.out];rfl,hb⟩
def Cm.mE : List (List UInt8) := [[], [110,111,112], [112,117,116], [103,101,116], [100,101,108], [99,97,115], [97,99,116,105,118,97,116,101], [97,100,100], [100,114,111,112]]
def Cm.word(k:Int):List UInt8:=if k<0 then []else Cm.mE.getD k.toNat []
def bE(w:World):Prop:=w.var? Tryz.prog "changeover/cmd.words"=some (Cm.mE.map fun l=>Value.string ⟨l.toArray⟩).toArray
theorem bE.below{w w' : World}(h:bE w)(hb:Below w.heap.size w w'):bE w' := Hl h hb
theorem bE.cell{w:World}(h:bE w)(i:Nat):w.cell? ⟨1,i,none⟩=(Cm.mE.map fun l=>Value.string ⟨l.toArray⟩).toArray[i]? := World.var?_cell (by kernel_rfl) h i
theorem Cm.zj{k:Int}(h:k<1∨8<k):Cm.word k = []:=by
 unfold Cm.word;by_cases h0:k<0
 ·rw[if_pos h0]
 ·rw[if_neg h0]
  by_cases h1:k=0
  ·subst h1;rfl
  ·obtain⟨n,rfl⟩:=Int.eq_ofNat_of_zero_le (show 0<=k by omega)
   rw[Int.toNat_natCast,List.getD_eq_getElem?_getD,List.getElem?_eq_none (by simp[Cm.mE];omega)]
   rfl
theorem Ig(k:Int)(n:Nat)(hk:k=(n:Int))(hn:n<9)(w:World)(hv:bE w):w.cell? ⟨1,n,none⟩=some (.string ⟨(Cm.word k).toArray⟩):=by
 rw[hv.cell n];unfold Cm.word;rw[if_neg (by omega),hk,Int.toNat_natCast]
 have:n=0∨n=1∨n=2∨n=3∨n=4∨n=5∨n=6∨n=7∨n=8:=by omega
 rcases this with rfl | rfl | rfl | rfl | rfl | rfl | rfl | rfl | rfl<;>rfl
theorem wB(k:Int)(w:World)(hv:bE w):Calls Tryz.prog 193 #[.int .i64 k] w (Says w (.string ⟨(Cm.word k).toArray⟩)):=by
 by_cases h0:k<0
 ·have e:Hid (Cm.word k = []):=Cm.zj (by omega)
  have d0:decide (k<0)=true:=decide_eq_true h0
  go_enter Tryz.func193,Tryz.ntmps193
  go_wp2;go_ret;exact⟨by rw[e.out];rfl,rfl⟩
 ·have d0:decide (k<0)=false:=decide_eq_false h0
  by_cases h9:k≥9
  ·have e:Hid (Cm.word k = []):=Cm.zj (by omega)
   have d9:decide (9<=k)=true:=decide_eq_true h9
   go_enter Tryz.func193,Tryz.ntmps193
   go_wp2;go_ret;exact⟨by rw[e.out];rfl,rfl⟩
  ·have d9:decide (9<=k)=false:=decide_eq_false (by omega)
   obtain⟨n,rfl⟩:=Int.eq_ofNat_of_zero_le (show 0<=k by omega)
   have hn:n<9:=by omega
   have hc:=Ig (n:Int) n rfl hn w hv;obtain⟨S,hS⟩ : ∃S,S=ByteArray.mk (Cm.word (n:Int)).toArray:=⟨_,rfl⟩;rw[<- hS]at hc ⊢
   clear hS
   go_enter Tryz.func193,Tryz.ntmps193
   go_wp2;go_ret;exact⟨rfl,rfl⟩
theorem Cm.D8(k:Int):(ByteArray.mk (Cm.word k).toArray).toList.isEmpty = !Cm.known k:=by
 rw[Qt.empty_eq,dy];rcases Vs.kinds k with rfl | rfl | rfl | rfl | rfl | rfl | rfl | rfl | h
 rotate_right
 ·rw[Cm.zj h]
  have:Cm.known k=false:=by simp[Cm.known];omega
  rw[this]
  rfl
 all_goals decide
theorem rK(c:Cm.bW)(w:World)(hv:bE w)(hs:c.aD 140737488355328):Calls Tryz.prog 167 #[.agg (Cm.cells c)] w (Looks w (.int .i64 (Cm.check c))):=by
 obtain⟨w1,e1,aH,aq,hz1⟩:=pL w c;have hk:=aH.cell 0 _ rfl;have dh:=aa aH;have aG:=aa aq;have SA:=aa (hv.below aq);clear aH aq hz1 hv;obtain⟨r,hr⟩ : ∃r,r=Cm.check c:=⟨_,rfl⟩;rw[<- hr];unfold Cm.check at hr
 have oq:=aa hr;clear hr
 go_enter Tryz.func167,Tryz.ntmps167
 go_wp2_with fail
 refine(pA w.heap.size c.kind _ hk).mono ?_;rintro e w2 ⟨v,rfl,hr,dN⟩;have hn:=Cm.oV c.kind;obtain⟨fs,zE⟩ : ∃fs,fs=Cm.fields c.kind:=⟨_,rfl⟩;rw[<- zE]at hr hn
 have PI:=aa zE;have HR:=aa hr;have hl2:=dh.below dN dh.lt;have q0:w2.cell? ⟨w.heap.size,0,none⟩=some (.int .i64 c.kind):=hl2.cell 0 _ rfl;have ej:=aa hl2;have XH:=aa (SA.below dN);have aR:=aa (aG.trans (dN.mono aG.size));clear hr zE dN hk hl2
 go_wp2_with fail
 refine(wB c.kind _ XH.out).mono ?_;rintro e w3 ⟨rfl,rfl⟩;have hE:=Cm.D8 c.kind;obtain⟨S,hS⟩ : ∃S,S=ByteArray.mk (Cm.word c.kind).toArray:=⟨_,rfl⟩;rw[<- hS]at hE ⊢
 clear hS;obtain⟨t,ht⟩ : ∃t,t=Cm.known c.kind:=⟨_,rfl⟩;rw[<- ht]at hE
 have HT:=aa ht;clear ht;cases t with
 | false =>
  have HZ:Hid (r=5):=by show _=_;rw[oq.out,if_pos HT.symm]
  go_wp2;go_ret;exact⟨by rw[HZ.out];rfl,aR.out⟩
 | true =>
  have FD:Hid (r=if fs.all (Cm.within c)=false then 6 else if fs.all (Cm.spelt c)=false then 7 else if Cm.alone c=false then 3 else 0):=by
   show _=_;rw[oq.out,if_neg (by rw[<- HT.out];simp),PI.out]
  go_wp2_with fail
  refine(D6 c w.heap.size _ fs v _ HR.out hn ej.out).mono ?_;rintro e w4 ⟨rfl,og⟩;have zF:=aa (ej.below og ej.lt);have rY:=aa (HR.below og);have bJ:=aa (aR.trans (og.mono aR.size));clear og;obtain⟨t,ht⟩ : ∃t,t=fs.all (Cm.within c):=⟨_,rfl⟩;rw[<- ht];have Nq:=aa ht;clear ht;cases t with
  | false =>
   have HZ:Hid (r=6):=by show _=_;rw[FD.out,if_pos Nq.symm]
   go_wp2;go_ret;exact⟨by rw[HZ.out];rfl,bJ.out⟩
  | true =>
   go_wp2_with fail
   refine(Ic c w.heap.size _ fs v _ rY.out hn zF.out hs).mono ?_;rintro e w5 ⟨rfl,qY⟩;have eN:=zF.below qY zF.lt;have bK:=aa (bJ.trans (qY.mono bJ.size));have p0:w5.cell? ⟨w.heap.size,0,none⟩=some (.int .i64 c.kind):=eN.cell 0 _ rfl;have p1:w5.cell? ⟨w.heap.size,1,none⟩=some (.int .i64 c.bD):=eN.cell 1 _ rfl;have p2:w5.cell? ⟨w.heap.size,2,none⟩=some (.int .i64 c.seq):=eN.cell 2 _ rfl;have p3:w5.cell? ⟨w.heap.size,3,none⟩=some (.string ⟨c.key.toArray⟩):=eN.cell 3 _ rfl;have p4:w5.cell? ⟨w.heap.size,4,none⟩=some (.string ⟨c.val.toArray⟩):=eN.cell 4 _ rfl;have p5:w5.cell? ⟨w.heap.size,5,none⟩=some (.string ⟨c.old.toArray⟩):=eN.cell 5 _ rfl;have p6:w5.cell? ⟨w.heap.size,6,none⟩=some (.int .i64 c.node):=eN.cell 6 _ rfl;clear qY eN;obtain⟨t,ht⟩ : ∃t,t=fs.all (Cm.spelt c):=⟨_,rfl⟩;rw[<- ht];have XI:=aa ht;clear ht;cases t with
   | false =>
    have HZ:Hid (r=7):=by show _=_;rw[FD.out,if_neg (by rw[<- Nq.out];simp),if_pos XI.symm]
    go_wp2;go_ret;exact⟨by rw[HZ.out];rfl,bK.out⟩
   | true =>
    go_wp2_with fail
    refine(Ie c _).mono ?_;rintro e w6 ⟨rfl,hB6⟩;obtain⟨t,ht⟩ : ∃t,t=Cm.alone c:=⟨_,rfl⟩;rw[<- ht];have Z4:=aa ht;clear ht;have cy:=aa (bK.trans (hB6.mono bK.size));cases t with
    | false =>
     have HZ:Hid (r=3):=by show _=_;rw[FD.out,if_neg (by rw[<- Nq.out];simp),if_neg (by rw[<- XI.out];simp),if_pos Z4.symm]
     go_wp2;go_ret;exact⟨by rw[HZ.out];rfl,cy.out⟩
    | true =>
     have HZ:Hid (r=0):=by show _=_;rw[FD.out,if_neg (by rw[<- Nq.out];simp),if_neg (by rw[<- XI.out];simp),if_neg (by rw[<- Z4.out];simp)]
     go_wp2;go_ret;exact⟨by rw[HZ.out];rfl,cy.out⟩
end Go.Proofs.YtdkdjofnnnljjaaGreatDoor

namespace Go.Proofs.YtdkdjofnnnljjaaGreatDoor
open Go.RowKit
set_option maxHeartbeats 1600000
set_option maxRecDepth 4000
abbrev kI(w:World)(B o:Nat)(v:Value)(l:List UInt8):Prop:=Wr 163 5 w B o v l
theorem fl(n:Int)(w:World)(B o:Nat)(v:Value)(l:List UInt8)(hw:kI w B o v l)(hB:B<=w.heap.size)(hlen:l.length<=140737488351232)(h0 : -9223372036854775808<=n)(h1:n<=9223372036854775807) :
 Calls Tryz.prog 125 #[.pointer (some ⟨o,0,none⟩), .int .i64 n] w fun e w' => e = .returned (.tuple #[]) ∧ ∃v', kI w' B o v' (l++enc n.toNat)∧wA w w' o v:=by
 have hc:=hw.ag.cell 0 v rfl;have hf:=hw.ag.free 0;have h9:=aA (n:=n.toNat) (by omega)
 obtain⟨ec,Wv⟩ : ∃ec,ec=enc n.toNat:=⟨_,rfl⟩;have HW:=aa hw
 go_enter Tryz.func125,Tryz.ntmps125
 go_wp2_with fail
 go_region_law (first
  | (refine qE (by rfl) _ _ 30 5 (by rfl) Tryz.underlying30 eV B l (enc n.toNat) v _ (by rfl) (by rfl) hW1.owns lj.reads (by omega) (by omega) ?_;intro v2 w2 lY hg2;obtain⟨zD,Jd,rfl⟩:=lY.reads.shape
     have hl2:=hW1.ag.kept hg2 (hW1.ag.not_row (by decide) hW1.owns)
     have hc2:=hl2.cell 0 v rfl;have hf2:=hl2.free 0)
  | (rw[if_pos (by rfl)];go_simp;go_at_call 95;refine(Fw _ [] n _ (Reads.empty _) (by simp) h0 h1).mono ?_;rintro e' w1 ⟨u,rfl,lj,hb1⟩;rw[List.nil_append]at lj
     have aq:Below w.heap.size w w1:=on (drawn w 1) hb1;have hW1:=HW.grown aq;have hc1:=hW1.ag.cell 0 v rfl;have hz1:=aq.size;dsimp only))
 all_goals
  have hp:=hW1.put (by decide) lY hg2
  have hq:=wA.on aq hp.2;go_wp2
  go_end0
  simp only[List.length_append]at hp hq
  exact⟨rfl,_,hp.1,hq⟩
theorem oM(w:World)(B o:Nat)(v:Value)(l:List UInt8)(hw:kI w B o v l)(hlen:l.length<=70368744177664) :
 Calls Tryz.prog 126 #[.pointer (some ⟨o,0,none⟩)] w (xH w 5 l):=by
 have hc:=hw.ag.cell 0 v rfl
 go_enter Tryz.func126,Tryz.ntmps126
 go_wp2_with fail
 refine(di v l _ hw.owns.reads (by omega)).mono ?_
 rintro e1 w1 ⟨u,rfl,ho,hb⟩;go_wp2;go_ret;exact⟨_,rfl,ho,hb⟩
def cC(o:Nat)(w w' : World):Prop := ∀(k:Nat) (T:TypeId) (vs:Array Value),k≠o->T≠5->ae w k T vs->ae w' k T vs
theorem cC.refl(o:Nat)(w:World):cC o w w:=fun _ _ _ _ _ h=>h
theorem cC.trans{o:Nat}{a b c:World}(h:cC o a b)(k:cC o b c):cC o a c:=fun j T vs h1 h2 h3=>k j T vs h1 h2 (h j T vs h1 h2 h3)
theorem cC.bp{o:Nat}{w w' : World}(h:Below w.heap.size w w'):cC o w w' := fun _ _ _ _ _ hl=>hl.below h hl.lt
theorem cC.ja{o B:Nat}{w w' : World}{v:Value}{l:List UInt8}(hw:kI w B o v l)(h:wA w w' o v):cC o w w' :=
 fun k _ _ hk hT hl=>(h.block k hl.lt hk (hl.not_row hT hw.owns)).trans hl
theorem jy.PL{w w' : World}{lo o:Nat}{v:Value}{b:Nat}{fs:List Cm.F}(h:jy w lo v b fs)(hs:cC o w w')(ho:o<lo):jy w' lo v b fs:=by
 rcases h with ⟨rfl,rfl⟩ | ⟨g,h1,rfl,h2⟩
 ·exact .inl ⟨rfl,rfl⟩
 ·exact .inr ⟨g,h1,rfl,hs g _ _ (by omega) (by decide) h2⟩
def jw(w:World)(B o:Nat)(m:List UInt8)(e:Ending)(w' : World):Prop:=e = .returned (.tuple #[]) ∧ ∃v', kI w' B o v' m∧cC o w w' ∧ Below B w w'
theorem zm(s:List UInt8)(w:World)(B o:Nat)(v:Value)(l:List UInt8)(hw:kI w B o v l)(hB:B<=w.heap.size)(hlen:l.length<=70368744177664)(hs:s.length<=1048576) :
 Calls Tryz.prog 192 #[.pointer (some ⟨o,0,none⟩), .string ⟨s.toArray⟩] w (jw w B o (l++Pk.text s)):=by
 have hsz:=dy s;have h9:=aA (n:=s.length) (by omega)
 go_enter Tryz.func192,Tryz.ntmps192
 go_wp2_with fail
 refine(fl (s.length:Int) _ B o v l hw hB (by omega) (by omega) (by omega)).mono ?_
 rintro e1 w1 ⟨rfl,v1,fJ,fL⟩;rw[Int.toNat_natCast]at fJ
 have aq:=hw.below fL hB;have hc1:=fJ.ag.cell 0 v1 rfl
 go_wp2_with (at_builtin;refine BX rfl _ _ 30 9 5 rfl Tryz.underlying30 Tryz.underlying9 eV B (l++enc s.length) s v1 rfl rfl fJ.owns (by simp;omega) (by have:=aq.size;omega) ?_;intro v2 w2 lY hg2;obtain⟨zD,Jd,rfl⟩:=lY.reads.shape;have hl2:=fJ.ag.kept hg2 (fJ.ag.not_row (by decide) fJ.owns);have hc2:=hl2.cell 0 v1 rfl;have hf2:=hl2.free 0)
 have hp:=fJ.put (by decide) lY hg2
 have hq:=aq.trans (fJ.below hp.2 (by have:=aq.size;omega))
 have hsp:=(cC.ja hw fL).trans (cC.ja fJ hp.2)
 go_end0
 simp only[List.length_append,Nat.add_assoc]at hp hq hsp
 exact⟨rfl,_,by unfold Pk.text;rw[<- List.append_assoc];exact hp.1,hsp,hq⟩
theorem Om(b i:Nat)(most x:Int)(w:World)(B o:Nat)(v:Value)(l:List UInt8)(hw:kI w B o v l)(hB:B<=w.heap.size)(hlen:l.length<=70368744177664)(hc:w.cell? ⟨b,i,none⟩=some (.int .i64 x))(h0 : -9223372036854775808<=x)(h1:x<=9223372036854775807) :
 Calls Tryz.prog 162 #[.pointer (some ⟨o,0,none⟩), .iface 216 (.agg #[.pointer (some ⟨b,i,none⟩), .int .i64 most])] w (jw w B o (l++enc x.toNat)):=by
 have ha:=nW;have hno:=nX;have hst:=iw;obtain⟨w1,e1,c0,c1,cb,aq⟩:=jT w 216 (.pointer (some ⟨b,i,none⟩)) (.int .i64 most) b i _ hc;have aG:=aa aq;have pF:=aa (hw.grown aq);clear aq hw hc
 go_enter Tryz.func162,Tryz.ntmps162
 go_wp2_with fail
 refine(fl x _ B o v l pF.out (Nat.le_trans hB aG.size) (by omega) h0 h1).mono ?_
 rintro e2 w2 ⟨rfl,v2,hw2,hg2⟩;have hs2:=(cC.bp aG.out).trans (cC.ja pF.out hg2);have hb2:=(aG.mono hB).trans (pF.below hg2 (Nat.le_trans hB aG.size));go_wp2
 go_end0
 have ha2:=(Below.refl _ w2).alloc (Nat.le_refl _) (.cells #[.pointer none, .nilFunc] 221);exact⟨rfl,v2,hw2.grown ha2,hs2.trans (cC.bp ha2),hb2.trans (ha2.mono (Nat.le_trans hB hb2.size))⟩
theorem LZ(b i fn:Nat)(s:List UInt8)(w:World)(B o:Nat)(v:Value)(l:List UInt8)(hw:kI w B o v l)(hB:B<=w.heap.size)(hlen:l.length<=70368744177664)(hc:w.cell? ⟨b,i,none⟩=some (.string ⟨s.toArray⟩))(hs:s.length<=1048576) :
 Calls Tryz.prog 162 #[.pointer (some ⟨o,0,none⟩), .iface 221 (.agg #[.pointer (some ⟨b,i,none⟩), .func (.func fn) #[] #[]])] w (jw w B o (l++Pk.text s)):=by
 have ha:=qF;have hno:=jS;have hst:=fx;obtain⟨w1,e1,c0,c1,cb,aq⟩:=rP w (.cells #[.pointer none, .int .i64 0] 216) 221 (.pointer (some ⟨b,i,none⟩)) (.func (.func fn) #[] #[]) b i _ hc;have aG:=aa aq;have pF:=aa (hw.grown aq);clear aq hw hc
 go_enter Tryz.func162,Tryz.ntmps162
 go_wp2_with fail
 refine(zm s _ B o v l pF.out (Nat.le_trans hB aG.size) hlen hs).mono ?_;rintro e2 w2 ⟨rfl,v2,hw2,hs2,hb2⟩;go_wp2
 go_end0
 exact⟨rfl,v2,hw2,(cC.bp aG.out).trans hs2,(aG.mono hB).trans hb2⟩
theorem Je(b:Nat)(c:Cm.bW)(f:Cm.F)(w:World)(B o:Nat)(v:Value)(l:List UInt8)(hw:kI w B o v l)(hB:B<=w.heap.size)(hlen:l.length<=70368744177664)(hl:kL w b c)(hf:c.Fits)(hs:c.aD 1048576) :
 Calls Tryz.prog 162 #[.pointer (some ⟨o,0,none⟩),Cm.fv b f] w (jw w B o (l++Cm.gB c f)):=by
 cases h:f.num with
 | true =>
  rw[show Cm.fv b f=_ from if_pos h,show Cm.gB c f=enc (c.n f).toNat from if_pos h]
  exact Om b f.at f.most (c.n f) w B o v l hw hB hlen (hl.cell _ _ (Cm.nY c f h)) (hf.n f).1 (hf.n f).2
 | false =>
  rw[show Cm.fv b f=_ from if_neg (by simp[h]),show Cm.gB c f=Pk.text (c.s f)from if_neg (by simp[h])]
  exact LZ b f.at _ (c.s f) w B o v l hw hB hlen (hl.cell _ _ (Cm.ld c f h)) (hs.s f)
theorem cY(w:World)(B o:Nat)(v:Value)(b:List UInt8)(p:Nat)(er x:Int)(q:Nat)(e:Int)(hr:dU w B o v b p er)(hx:e≠0->x=0)(h:Hid (Cm.dD b p er=(x,(q:Int),e))) :
 Calls Tryz.prog 113 #[.pointer (some ⟨o,0,none⟩), .int .i64 9223372036854775807] w (oo w B o v b q e (.int .i64 x)):=by
 by_cases h0:er=0
 ·subst h0
  exact Ol 9223372036854775807 w B o v b p x q e hr hx h.out
 ·have h1:=h.out
  unfold Cm.dD at h1
  rw[if_neg h0]at h1
  simp only[Prod.mk.injEq]at h1
  obtain⟨rfl,h2,rfl⟩:=h1;obtain rfl:p=q:=by omega
  exact LU _ er w B o v b p hr h0
theorem zq(w:World)(B o:Nat)(v:Value)(b:List UInt8)(p:Nat)(er:Int)(x:List UInt8)(q:Nat)(e:Int)(hr:dU w B o v b p er)(hx:e≠0->x = [])(h:Hid (Cm.rr b p er=(x,(q:Int),e))) :
 Calls Tryz.prog 219 #[.pointer (some ⟨o,0,none⟩), .int .i64 9223372036854775807] w (oo w B o v b q e (.string ⟨x.toArray⟩)):=by
 by_cases h0:er=0
 ·subst h0
  exact LW 9223372036854775807 w B o v b p x q e hr hx h.out
 ·have h1:=h.out
  unfold Cm.rr at h1
  rw[if_neg h0]at h1
  simp only[Prod.mk.injEq]at h1
  obtain⟨rfl,h2,rfl⟩:=h1;obtain rfl:p=q:=by omega
  exact Hy _ er w B o v b p hr h0
def gT(o b:Nat)(w w' : World):Prop := ∀(k:Nat) (T:TypeId) (vs:Array Value),k≠o->k≠b->ae w k T vs->ae w' k T vs
theorem gT.trans{o b:Nat}{x y z:World}(h:gT o b x y)(k:gT o b y z):gT o b x z:=fun j T vs h1 h2 h3=>k j T vs h1 h2 (h j T vs h1 h2 h3)
theorem gT.bp{o b:Nat}{w w' : World}(h:Below w.heap.size w w'):gT o b w w' := fun _ _ _ _ _ hl=>hl.below h hl.lt
theorem gT.aI{o b:Nat}{w w' : World}(h:w.grownBy w' (some o)):gT o b w w' := fun _ _ _ h1 _ hl=>hl.kept h (by intro e;cases e;exact h1 rfl)
theorem gT.Ih{o b:Nat}{w w' : World}(h:w.grownBy w' (some b)):gT o b w w' := fun _ _ _ _ h2 hl=>hl.kept h (by intro e;cases e;exact h2 rfl)
theorem jy.SU{w w' : World}{lo o b:Nat}{v:Value}{fs:List Cm.F}(h:jy w lo v b fs)(hs:gT o b w w')(ho:o<lo)(hb:b<lo):jy w' lo v b fs:=by
 rcases h with ⟨rfl,rfl⟩ | ⟨g,h1,rfl,h2⟩
 ·exact .inl ⟨rfl,rfl⟩
 ·exact .inr ⟨g,h1,rfl,hs g _ _ (by omega) (by omega) h2⟩
def L6(w:World)(B o b:Nat)(v:Value)(by' : List UInt8)(vs:Array Value)(q:Nat)(er:Int)(e:Ending)(w' : World):Prop :=
 e = .returned (.tuple #[])∧ae w' b 40 vs∧dU w' B o v by' q er∧gT o b w w' ∧ Below B w w'
theorem dU.gC {w w' : World}{B o j:Nat}{v:Value}{b:List UInt8}{p:Nat}{er:Int}(h:dU w B o v b p er)(hg:w.grownBy w' (some j))(hj:j≠o)(hv:v.ownBlock≠some j):dU w' B o v b p er :=
 ⟨h.base,h.ag.kept hg (by simp;omega),h.owns.grown hg (.inr hv),h.Pd,h.small⟩
theorem FE{w w1 w2:World}{B o b:Nat}{v:Value}{s:List UInt8}{q:Nat}{e:Int}{vs:Array Value}(i:Nat)(x:Value)(hb1:Below w.heap.size w w1)(hB:B<=b)(Pj:b<w.heap.size)(wI:b≠o)(hg:w1.drew.grownBy w2 (some o))(hl:ae w2 b 40 vs)(hr:dU w2 B o v s q e) :
 ae (w2.setCell ⟨b,i,none⟩ x) b 40 (vs.setIfInBounds i x)∧dU (w2.setCell ⟨b,i,none⟩ x) B o v s q e∧gT o b w (w2.setCell ⟨b,i,none⟩ x)∧Below B w (w2.setCell ⟨b,i,none⟩ x):=by
 refine⟨hl.set i x,hr.gC (au w2 b i x) wI (fun h=>hl.not_row (by decide) hr.owns h.symm), ?_, ?_⟩
 ·exact(gT.bp hb1.drew).trans ((gT.aI hg).trans (gT.Ih (au w2 b i x)))
 ·have h1:=hb1.size
  have h2:Below B w w1.drew:=(hb1.mono (by omega)).drew
  have h3:=h2.grown hg (Nat.le_trans (by omega) h2.size) (by rintro k hk;cases hk;exact hr.base)
  exact h3.grown (au w2 b i x) (Nat.le_trans (by omega) h3.size) (by rintro k hk;cases hk;exact hB)
theorem On(b i:Nat)(most z x:Int)(vs:Array Value)(w:World)(B o:Nat)(v:Value)(s:List UInt8)(p q:Nat)(er e:Int)(hr:dU w B o v s p er)(hl:ae w b 40 vs)(hv:vs[i]? = some (.int .i64 z))(wI:b≠o)(hB:B<=b)
 (hx:e≠0->x=0) (h:Hid (Cm.dD s p er=(x,(q:Int),e))) :
 Calls Tryz.prog 202 #[.pointer (some ⟨o,0,none⟩), .iface 216 (.agg #[.pointer (some ⟨b,i,none⟩), .int .i64 most])] w (L6 w B o b v s (vs.setIfInBounds i (.int .i64 x)) q e):=by
 have ha:=nW;have hno:=nX;have hst:=iw;obtain⟨w1,e1,c0,c1,cb,aq⟩:=jT w 216 (.pointer (some ⟨b,i,none⟩)) (.int .i64 most) b i _ (hl.cell i _ hv);have hlo:=hr.ag.lt;have Pj:=hl.lt;have aG:=aa aq;have ov:=aa (hr.kept aq);have dh:=aa (hl.below aq hl.lt);have HV:=aa hv;clear aq hr hl hv
 go_enter Tryz.func202,Tryz.ntmps202
 go_wp2;have XJ:some w.heap.size≠some o:=by simp;omega
 have Oo:some w.heap.size≠some b:=by simp;omega
 have hs1:w.heap.size<w1.heap.size:=World.block_lt_of_cell? w1 _ c0
 go_region_held3 (fun w' => w'.cell? ⟨w.heap.size,0,none⟩=some (.pointer (some ⟨b,i,none⟩))) (first | go_keep | exact c2 | exact c3) (first
  | (go_at_call 113;refine(cY _ B o v s p er x q e (ov.kept (Below.refl _ _).drew) hx h).mono ?_;rintro e2 w2 ⟨rfl,hr2,hg2⟩
     have hl2:=(dh.below (Below.refl _ _).drew dh.lt).kept hg2 (by intro e;cases e;exact wI rfl)
     have XK:=hl2.cell i _ HV.out;have XL:=hl2.free i;have c2:w2.cell? ⟨w.heap.size,0,none⟩=some (.pointer (some ⟨b,i,none⟩)):=by rw[<- c0];exact World.cell?_of_block (hg2.block w.heap.size hs1 XJ)
     have c3:(w2.setCell ⟨b,i,none⟩ (.int .i64 x)).cell? ⟨w.heap.size,0,none⟩=some (.pointer (some ⟨b,i,none⟩)):=by rw[<- c2];exact World.cell?_of_block ((au w2 b i _).block w.heap.size (Nat.lt_of_lt_of_le hs1 hg2.size) Oo)))
 all_goals
  obtain⟨fk,hr3,hs3,hb3⟩:=FE i (.int .i64 x) aG.out hB Pj wI hg2 hl2 hr2;generalize w2.setCell ⟨b,i,none⟩ (.int .i64 x)=w3 at fk hr3 hs3 hb3 ⊢
  clear hl2 hr2 hg2 c3 c2 XK XL;go_wp2
  go_end0
  have ha2:=(Below.refl _ w3).alloc (Nat.le_refl _) (.cells #[.pointer none, .nilFunc] 221);exact⟨rfl,fk.below ha2 fk.lt,hr3.kept ha2,hs3.trans (gT.bp ha2),hb3.trans (ha2.mono (Nat.le_trans (by omega) hb3.size))⟩
theorem L8(b i fn:Nat)(z:ByteArray)(x:List UInt8)(vs:Array Value)(w:World)(B o:Nat)(v:Value)(s:List UInt8)(p q:Nat)(er e:Int)(hr:dU w B o v s p er)(hl:ae w b 40 vs)(hv:vs[i]? = some (.string z))(wI:b≠o)(hB:B<=b)
 (hx:e≠0->x = []) (h:Hid (Cm.rr s p er=(x,(q:Int),e))) :
 Calls Tryz.prog 202 #[.pointer (some ⟨o,0,none⟩), .iface 221 (.agg #[.pointer (some ⟨b,i,none⟩), .func (.func fn) #[] #[]])] w (L6 w B o b v s (vs.setIfInBounds i (.string ⟨x.toArray⟩)) q e):=by
 have ha:=qF;have hno:=jS;have hst:=fx;obtain⟨w1,e1,c0,c1,cb,aq⟩:=rP w (.cells #[.pointer none, .int .i64 0] 216) 221 (.pointer (some ⟨b,i,none⟩)) (.func (.func fn) #[] #[]) b i _ (hl.cell i _ hv);have hlo:=hr.ag.lt;have Pj:=hl.lt;have aG:=aa aq;have ov:=aa (hr.kept aq);have dh:=aa (hl.below aq hl.lt);have HV:=aa hv;clear aq hr hl hv
 go_enter Tryz.func202,Tryz.ntmps202
 go_wp2;have XJ:some (w.heap.size+1)≠some o:=by simp;omega
 have Oo:some (w.heap.size+1)≠some b:=by simp;omega
 have hs1:w.heap.size+1<w1.heap.size:=World.block_lt_of_cell? w1 _ c0
 go_region_held3 (fun w' => w'.cell? ⟨w.heap.size+1,0,none⟩=some (.pointer (some ⟨b,i,none⟩))) (first | go_keep | exact c2 | exact c3) (first
  | (go_at_call 219;refine(zq _ B o v s p er x q e (ov.kept (Below.refl _ _).drew) hx h).mono ?_;rintro e2 w2 ⟨rfl,hr2,hg2⟩
     have hl2:=(dh.below (Below.refl _ _).drew dh.lt).kept hg2 (by intro e;cases e;exact wI rfl)
     have XK:=hl2.cell i _ HV.out;have XL:=hl2.free i;have c2:w2.cell? ⟨w.heap.size+1,0,none⟩=some (.pointer (some ⟨b,i,none⟩)):=by rw[<- c0];exact World.cell?_of_block (hg2.block (w.heap.size+1) hs1 XJ)
     have c3:(w2.setCell ⟨b,i,none⟩ (.string ⟨x.toArray⟩)).cell? ⟨w.heap.size+1,0,none⟩=some (.pointer (some ⟨b,i,none⟩)):=by rw[<- c2];exact World.cell?_of_block ((au w2 b i _).block (w.heap.size+1) (Nat.lt_of_lt_of_le hs1 hg2.size) Oo)))
 all_goals
  obtain⟨fk,hr3,hs3,hb3⟩:=FE i (.string ⟨x.toArray⟩) aG.out hB Pj wI hg2 hl2 hr2;generalize w2.setCell ⟨b,i,none⟩ (.string ⟨x.toArray⟩)=w3 at fk hr3 hs3 hb3 ⊢
  clear hl2 hr2 hg2 c3 c2 XK XL;go_wp2
  go_end0
  exact⟨rfl,fk,hr3,hs3,hb3⟩
theorem Cm.dV(b:List UInt8)(p:Nat)(er:Int) : ∃(n:Int) (q:Nat) (e:Int),Cm.dD b p er=(n,(q:Int),e)∧(e≠0->n=0)∧0<=n∧n<=9223372036854775807:=by
 rcases Cm.dr b p er with ⟨e,he,hn⟩ | ⟨n,q,_,_,_,hb,hn,_⟩
 ·exact⟨_,_,_,hn,fun _=>rfl,by omega,by omega⟩
 ·exact⟨_,_,_,hn,fun h=>absurd rfl h,by omega,by omega⟩
theorem Cm.L9(b:List UInt8)(p:Nat)(er:Int)(hp:p<=b.length) : ∃(x:List UInt8) (q:Nat) (e:Int),Cm.rr b p er=(x,(q:Int),e)∧(e≠0->x = [])∧x.length<=b.length:=by
 rcases Cm.lC b p er hp with ⟨e,q,he,hq,hn⟩ | ⟨s,q,_,_,_,hl,hn,_⟩
 ·exact⟨_,_,_,hn,fun _=>rfl,by simp⟩
 ·exact⟨_,_,_,hn,fun h=>absurd rfl h,hl⟩
def XM(w:World)(B o b:Nat)(v:Value)(s:List UInt8)(t:Cm.bW × Nat × Int)(e:Ending)(w' : World):Prop :=
 e = .returned (.tuple #[])∧kL w' b t.1∧dU w' B o v s t.2.1 t.2.2∧gT o b w w' ∧ Below B w w'
theorem Jg(b:Nat)(t:Cm.bW × Nat × Int)(f:Cm.F)(w:World)(B o:Nat)(v:Value)(s:List UInt8)(hr:dU w B o v s t.2.1 t.2.2)(hl:kL w b t.1)(wI:b≠o)(hB:B<=b) :
 Calls Tryz.prog 202 #[.pointer (some ⟨o,0,none⟩),Cm.fv b f] w (XM w B o b v s (Cm.cz s t f)):=by
 obtain⟨c,p,er⟩:=t;dsimp only at hr hl
 have hp:=hr.Pd;cases h:f.num with
 | true =>
  obtain⟨n,q,e,hq,hx,_,_⟩:=Cm.dV s p er;have hg:Cm.cz s (c,p,er) f=(c.jU n f,q,e):=by unfold Cm.cz;rw[if_pos h];simp only;rw[hq];simp
  rw[hg,show Cm.fv b f=_ from if_pos h]
  refine(On b f.at f.most (c.n f) n (Cm.cells c) w B o v s p q er e hr hl (Cm.nY c f h) wI hB hx hq).mono ?_
  rintro e1 w1 ⟨h1,h2,h3,h4,h5⟩;rw[Cm.ve c f n h]at h2
  exact⟨h1,h2,h3,h4,h5⟩
 | false =>
  obtain⟨x,q,e,hq,hx,_⟩:=Cm.L9 s p er hp;have hg:Cm.cz s (c,p,er) f=(c.jV x f,q,e):=by unfold Cm.cz;rw[if_neg (by simp[h])];simp only;rw[hq];simp
  rw[hg,show Cm.fv b f=_ from if_neg (by simp[h])]
  refine(L8 b f.at _ _ x (Cm.cells c) w B o v s p q er e hr hl (Cm.ld c f h) wI hB hx hq).mono ?_
  rintro e1 w1 ⟨h1,h2,h3,h4,h5⟩;rw[Cm.vg c f x h]at h2
  exact⟨h1,h2,h3,h4,h5⟩
theorem Wr.fresh(T E:TypeId)(w:World)(B:Nat)(hB:B<=w.heap.size):Wr T E (w.alloc (.cells #[.slice none 0 0] T)) B w.heap.size (.slice none 0 0) [] :=
 ⟨hB,ae.new _ _ _,bF.empty _ _ _⟩
theorem Cm.Ma(c:Cm.bW)(hf:c.Fits)(hs:c.aD 1000)(f:Cm.F):(Cm.gB c f).length<=1009:=by
 unfold Cm.gB;split
 ·have:=(hf.n f).2
  have:=aA (n:=(c.n f).toNat) (by omega)
  omega
 ·have:=hs.s f
  have h9:=aA (n:=(c.s f).length) (by omega)
  simp[Pk.text];omega
theorem Cm.iy(c:Cm.bW)(hf:c.Fits)(hs:c.aD 1000) : ∀fs:List Cm.F,(fs.flatMap (Cm.gB c)).length<=1009*fs.length:=by
 intro fs
 induction fs with
 | nil=>simp
 | cons f fs ih=>rw[List.flatMap_cons,List.length_append,List.length_cons];have:=Cm.Ma c hf hs f;omega
theorem B9(w:World)(g:Nat)(c:Cm.bW)(h:kL w g c):(loadVar 40 ⟨g,0,none⟩).run Tryz.prog w = .ok (.agg (Cm.cells c)) w :=
 run_loadVar_row w g _ _ (Cm.cells c) (0,0) _ h Tryz.underlying40 rfl (by kernel_rfl)
theorem Jh{fn:Func}{R:Ending->World->Prop}{a:Act}{w:World}{p:Tmp}{g:Nat}{c:Cm.bW}(h:fn.results = #[.cell p 40])(hp:a.tmps.getD p undef = .pointer (some ⟨g,0,none⟩))
 (hl:kL w g c) (hd:a.defers = []) (hR:R (.returned (.agg (Cm.cells c))) w):bodyPost Tryz.prog fn R .ret a w:=by
 refine bodyPost_ret ?_ hd hR;rw[iA h,hp];simp[asAddr,Result.andThen,B9 w g c hl]
theorem Cm.cR(c:Cm.bW):(Cm.cells c).all (·.oneCell')=true:=by simp[Cm.cells,Value.oneCell']
theorem Cm.vh(c:Cm.bW)(j:Nat)(hj:j<7) : ∃v,(Cm.cells c)[j]? = some v:=⟨_,Array.getElem?_eq_getElem (show j<(Cm.cells c).size from hj)⟩
theorem wH{ops:Array Oper}{rest:List Oper}{op:Oper}{a:Act}{w:World}{Q:Exit->Act->World->Prop}(hgd:op.guard=none)(x y:Operand)(ho:op.op = .store 40 x y)
 (g:Nat) (c0 c:Cm.bW) (hx:a.eval x = .pointer (some ⟨g,0,none⟩)) (hy:a.eval y = .agg (Cm.cells c)) (hl:kL w g c0)
 (h : ∀w', kL w' g c->w.grownBy w' (some g)->wpList Tryz.prog ops Q rest (a.put op.dst undef) w'):wpList Tryz.prog ops Q (op :: rest) a w:=by
 have h0 : ∀j,j<7->(w.cell? ⟨g,j,none⟩).isSome=true:=by
  intro j hj
  obtain⟨v,hv⟩:=Cm.vh c0 j hj;rw[hl.cell j v hv];rfl
 have hone:=Cm.cR c;have hL:kL (((((((w.setCell ⟨g,0,none⟩ (.int .i64 c.kind)).setCell ⟨g,1,none⟩ (.int .i64 c.bD)).setCell ⟨g,2,none⟩ (.int .i64 c.seq)).setCell ⟨g,3,none⟩ (.string ⟨c.key.toArray⟩)).setCell ⟨g,4,none⟩ (.string ⟨c.val.toArray⟩)).setCell ⟨g,5,none⟩ (.string ⟨c.old.toArray⟩)).setCell ⟨g,6,none⟩ (.int .i64 c.node)) g c :=
  ((((((hl.set 0 _).set 1 _).set 2 _).set 3 _).set 4 _).set 5 _).set 6 _
 have hG:w.grownBy (((((((w.setCell ⟨g,0,none⟩ (.int .i64 c.kind)).setCell ⟨g,1,none⟩ (.int .i64 c.bD)).setCell ⟨g,2,none⟩ (.int .i64 c.seq)).setCell ⟨g,3,none⟩ (.string ⟨c.key.toArray⟩)).setCell ⟨g,4,none⟩ (.string ⟨c.val.toArray⟩)).setCell ⟨g,5,none⟩ (.string ⟨c.old.toArray⟩)).setCell ⟨g,6,none⟩ (.int .i64 c.node)) (some g) :=
  aM (aM (aM (aM (aM (aM (au w g 0 _) (au _ g 1 _)) (au _ g 2 _)) (au _ g 3 _)) (au _ g 4 _)) (au _ g 5 _)) (au _ g 6 _)
 have hf:=hl.free;refine wpList_store_mid hgd _ x y ho g 0 (Cm.cells c) hx hy (fun j hj => ?_) (by kernel_rfl) hone (h _ hL hG)
 rw[Nat.zero_add];exact⟨h0 j hj,hf j⟩
def Wm(w:World)(B o:Nat)(u:Value)(s:List UInt8)(t:Cm.bW × Nat × Int)(e:Ending)(w' : World):Prop :=
 e = .returned (.agg (Cm.cells t.1))∧dU w' B o u s t.2.1 t.2.2∧Below B w w'
theorem Cm.fC(v:Int)(c:Cm.bW)(hf:c.Fits)(hs:c.aD 1000):(Cm.bytes v c).length<=6000:=by
 have h1:=aA (n:=c.kind.toNat) (by have:=hf.k1;omega)
 have h2:=Cm.iy c hf hs (Cm.cO v c.kind);have h3:=Cm.mi v c.kind;unfold Cm.bytes;rw[List.length_append];omega
theorem Cm.Ii(b:List UInt8)(t:Cm.bW × Nat × Int)(f:Cm.F)(hp:t.2.1<=b.length)(hs:t.1.aD b.length)(hf:t.1.Fits):(Cm.cz b t f).2.1<=b.length∧(Cm.cz b t f).1.aD b.length∧(Cm.cz b t f).1.Fits:=by
 obtain⟨c,p,er⟩:=t;dsimp only at hp hs hf
 unfold Cm.cz;cases h:f.num with
 | true =>
  rw[if_pos rfl];dsimp only;rcases Cm.dr b p er with ⟨e,_,hn⟩ | ⟨n,q,_,_,hq,hb,hn,_⟩
  ·rw[hn];exact⟨by simpa using hp,hs.jU f _,hf.jU f (by omega) (by omega)⟩
  ·rw[hn];exact⟨by simpa using hq,hs.jU f _,hf.jU f (by simp only;omega) (by simp only;omega)⟩
 | false =>
  rw[if_neg (by simp)]
  dsimp only;rcases Cm.lC b p er hp with ⟨e,q,_,hq,hn⟩ | ⟨s,q,_,_,hq,hl,hn,_⟩
  ·rw[hn];exact⟨by simpa using hq,hs.jV f (by simp),hf.jV f _⟩
  ·rw[hn];exact⟨by simpa using hq,hs.jV f hl,hf.jV f _⟩
theorem Cm.zT(b:List UInt8) : ∀(fs:List Cm.F) (t:Cm.bW × Nat × Int),t.2.1<=b.length->t.1.aD b.length->t.1.Fits->(fs.foldl (Cm.cz b) t).2.1<=b.length∧(fs.foldl (Cm.cz b) t).1.aD b.length∧(fs.foldl (Cm.cz b) t).1.Fits:=by
 intro fs
 induction fs with
 | nil=>intro t h1 h2 h3;exact⟨h1,h2,h3⟩
 | cons f fs ih =>
  intro t h1 h2 h3
  obtain⟨h4,h5,h6⟩:=Cm.Ii b t f h1 h2 h3;exact ih _ h4 h5 h6
end Go.Proofs.YtdkdjofnnnljjaaGreatDoor
