/- Several texts of mine in one: App PkMem Clone GRd. -/
import Derived.Test.YtdkdjofnnnljjaaGreatDoorPMem
import Derived.Test.YtdkdjofnnnljjaaGreatDoorPVers
import Derived.Test.YtdkdjofnnnljjaaGreatDoorGMb
import Derived.Test.YtdkdjofnnnljjaaGreatDoorPPkMath
import Derived.Lib.AppendStr
import Derived.Laws.IdiomStrings
import Derived.Test.YtdkdjofnnnljjaaGreatDoorRows
import Derived.Lib.SliceRun
import Derived.Deep.QuietTactic
import Derived.BigQuiet
namespace Go.Proofs.YtdkdjofnnnljjaaGreatDoor
open Go.RowKit
theorem Owns.laid(w:World)(E:TypeId)(l:List UInt8)(n:Nat)(cs:Array Value)(hn:n=l.length)(hc:cs.toList=cellsOf l)(hm:n≤9223372036854775807):Owns (w.alloc (.cells cs E)) w.heap.size E (.slice (some ⟨w.heap.size,0,none⟩) n n) l:=by
 subst hn
 have hs:cs.size=l.length:=by rw[← Array.length_toList,hc,cellsOf_len]
 refine⟨by simp[cellsOf_len], .inr ⟨w.heap.size,l.length,cs,rfl,Nat.le_refl _,heap_alloc_new w _,Nat.le_refl _,by unfold maxLen;omega,by simpa using hs, ?_⟩⟩
 rw[hc,List.take_of_length_le (by rw[cellsOf_len];omega)]
theorem run_append_bytes{P:Program}{w:World}(t ty E:TypeId)(ht:P.underlying t=some (.slice E))(hi:(P.info? E).map (fun i=>(i.zero,i.size,i.bytes))=some (some (.int .u8 0),1,1))
 (base:Nat) (l m:List UInt8) (v u:Value) (hown:Owns w base E v l) (hr:Reads w u m) (hlen:l.length+m.length≤140737488355328) (hbase:base≤w.heap.size) :
 ∃v' w', (Builtin.append_ #[t,t] ty #[v,u]).run P w = .ok v' w' ∧ Owns w' base E v' (l++m)∧w.grownBy w' v.ownBlock:=by
 obtain⟨i,h1,h2,h3,h4⟩:=info_parts hi
 obtain⟨ao,cap,rfl,hc1,hc2,hc3,hc4⟩:=hr
 cases ao with
 | none =>
  have h0:=hc3 rfl
  have hm:m = []:=List.eq_nil_of_length_eq_zero (by omega)
  subst hm
  subst h0
  have hrun:=run_append_owned_none (P:=P) w base t ty E i 1 ht h1 v l.length (cellsOf l) hown
  exact⟨v,w,hrun,by simpa using hown,World.grownBy.refl _ _⟩
 | some ad =>
  obtain⟨v', w', hrun,h5,h6,_⟩:=run_append_own (P:=P) w base t ty E i (.int .u8 0) 1 1 ht h1 h2 h3 h4 rfl (by decide) v l.length (cellsOf l) hown ad m.length cap (cellsOf m) (by simp[cellsOf]) (hc4 ad rfl) (cellsOf_one m) (by unfold maxLen;omega) (by omega) (by omega)
  refine⟨v', w', hrun, ?_,h6⟩
  unfold Owns
  rw[List.length_append,cellsOf_app]
  exact h5
theorem step_append_bytes{P:Program}{w:World}{ops:Array Oper}{o:Oper}{a:Act}{K:Act→World→Prop}{Q:Exit→Act→World→Prop}{Z:Prop}(hgd:o.guard=none)(s x:Operand)(t E:TypeId)
 (ho:o.op = .call { callee := .builtin .append,args := #[s,x],argTypes := #[t,t] }) (ht:P.underlying t=some (.slice E)) (hi:(P.info? E).map (fun i=>(i.zero,i.size,i.bytes))=some (some (.int .u8 0),1,1))
 (base:Nat) (l m:List UInt8) (v u:Value) (hs:a.eval s=v) (hx:a.eval x=u) (hown:Owns w base E v l) (hr:Reads w u m) (hlen:l.length+m.length≤140737488355328) (hbase:base≤w.heap.size)
 (h : ∀v' w', Owns w' base E v' (l++m)→w.grownBy w' v.ownBlock→K (a.put o.dst v') w') :
 if Region.wanted o (yielded ops a.tmps)=true then Oper.wp P o a w K Q else Z:=by
 have hw:Region.wanted o (yielded ops a.tmps)=true:=by simp[Region.wanted,hgd]
 obtain⟨v', w', hr,h2,h3⟩:=run_append_bytes (P:=P) t o.type E ht hi base l m v u hown hr hlen hbase
 rw[if_pos hw]
 unfold Oper.wp execOp
 simp only[ho,resolve,invoke,builtin,Sem.run_bind,Sem.run_pure,Result.andThen_ok,List.map_toArray,List.map_cons,List.map_nil,hs,hx,hr]
 exact h v' w' h2 h3
theorem Reads.drew{w:World}{v:Value}{l:List UInt8}(h:Reads w v l):Reads w.drew v l:=h
theorem It.grown{B base:Nat}{w0 w w' : World}{k:Nat}{s:ByteArray}{p:Nat}{E:TypeId}{v:Value}{n:Nat}{xs:List Value}(h:It B w0 w k s p)(ho:w.ownsRow base E 1 v n xs)(hB:B≤base)(hg:w.grownBy w' v.ownBlock):It B w0 w' k s p:=by
 have hk:=h.lt
 refine⟨?_,h.below.grown hg (by have:=h.base;omega) (fun j ej=>by have:=(World.ownsRow.lt ho j ej).1;omega),h.base⟩
 rw[hg.block k hk ?_]
 ·exact h.iter
 ·intro e
  have:=(row_cells ho e.symm h.iter).1
  simp[Obj.isCells]at this
theorem It.alloc{B:Nat}{w0 w:World}{k:Nat}{s:ByteArray}{p:Nat}(h:It B w0 w k s p)(o:Obj):It B w0 (w.alloc o) k s p :=
 h.on ((Below.refl _ w).alloc (Nat.le_refl _) o)
end Go.Proofs.YtdkdjofnnnljjaaGreatDoor

namespace Go.Proofs.YtdkdjofnnnljjaaGreatDoor
open Go.RowKit
theorem Owns.grown{w w' : World}{base:Nat}{E:TypeId}{v:Value}{l:List UInt8}{row:Option Nat}(h:Owns w base E v l)(hg:w.grownBy w' row)(hne:v.ownBlock=none∨v.ownBlock≠row):Owns w' base E v l :=
 World.ownsRow.kept h hg hne
structure Grew(w w' : World)(o:Nat)(v:Value):Prop where
 os:w'.os=w.os
 tape:w'.tape=w.tape
 output:w'.output=w.output
 size:w.heap.size≤w'.heap.size
 block : ∀k,k<w.heap.size→k≠o→some k≠v.ownBlock→w'.heap[k]? = w.heap[k]?
theorem Grew.below{w w' : World}{o B:Nat}{v:Value}(h:Grew w w' o v)(ho:B≤o)(hv : ∀k,v.ownBlock=some k→B≤k)(hB:B≤w.heap.size):Below B w w' :=
 ⟨h.os,h.tape,h.output,h.size,fun k hk=>h.block k (by omega) (by omega) (fun e=>by have:=hv k e.symm;omega)⟩
theorem Grew.on{w0 w w' : World}{o:Nat}{v:Value}(hb:Below w0.heap.size w0 w)(h:Grew w w' o v):Grew w0 w' o v :=
 ⟨h.os.trans hb.os,h.tape.trans hb.tape,h.output.trans hb.output,Nat.le_trans hb.size h.size,fun k hk h1 h2=>(h.block k (Nat.lt_of_lt_of_le hk hb.size) h1 h2).trans (hb.block k hk)⟩
structure Wr(T E:TypeId)(w:World)(B o:Nat)(v:Value)(l:List UInt8):Prop where
 base:B≤o
 lies:Lies w o T #[v]
 owns:Owns w B E v l
theorem Wr.row{T E:TypeId}{w:World}{B o:Nat}{v:Value}{l:List UInt8}(h:Wr T E w B o v l) : ∀k,v.ownBlock=some k→B≤k:=fun k e=>(World.ownsRow.lt h.owns k e).1
theorem Wr.grown{T E:TypeId}{w w' : World}{B o:Nat}{v:Value}{l:List UInt8}(h:Wr T E w B o v l)(hb:Below w.heap.size w w'):Wr T E w' B o v l :=
 ⟨h.base,h.lies.below hb h.lies.lt,h.owns.keep hb (Nat.le_refl _)⟩
theorem Wr.below{T E:TypeId}{w w' : World}{B o:Nat}{v:Value}{l:List UInt8}(h:Wr T E w B o v l)(hg:Grew w w' o v)(hB:B≤w.heap.size):Below B w w' := hg.below h.base h.row hB
theorem Wr.put{T E:TypeId}{w w' : World}{B o:Nat}{v v' : Value}{l m:List UInt8}(hTE:T≠E)(h:Wr T E w B o v l)(ho:Owns w' B E v' m)(hg:w.grownBy w' v.ownBlock) :
 Wr T E (w'.setCell ⟨o,0,none⟩ v') B o v' m∧Grew w (w'.setCell ⟨o,0,none⟩ v') o v:=by
 have hl:Lies w' o T #[v]:=h.lies.kept hg (h.lies.not_row hTE h.owns)
 have hs:=grown_set w' o 0 v'
 refine⟨⟨h.base,hl.set 0 v', ho.grown hs ?_⟩,⟨hs.os.trans hg.os,hs.tape.trans hg.tape,hs.output.trans hg.output,Nat.le_trans hg.size hs.size,fun k hk hko hkr => ?_⟩⟩
 ·right;exact fun e=>hl.not_row hTE ho e.symm
 ·rw[hs.block k (Nat.lt_of_lt_of_le hk hg.size) (by simpa using hko)]
  exact hg.block k hk hkr
theorem str_cells(s:List UInt8):Lib.strCells ⟨s.toArray⟩=cellsOf s:=by simp[Lib.strCells,cellsOf]
theorem append_text{P:Program}{w:World}{ops:Array Oper}{rest:List Oper}{o:Oper}{a:Act}{Q:Exit→Act→World→Prop}(hgd:o.guard=none)(s x:Operand)(t u E:TypeId)
 (ho:o.op = .call { callee := .builtin .append,args := #[s,x],argTypes := #[t,u] }) (ht:P.underlying t=some (.slice E)) (hu:P.underlying u=some .string)
 (hi:(P.info? E).map (fun i=>(i.zero,i.size,i.bytes))=some (some (.int .u8 0),1,1))
 (base:Nat) (l m:List UInt8) (v:Value) (hs:a.eval s=v) (hx:a.eval x = .string ⟨m.toArray⟩) (hown:Owns w base E v l)
 (hlen:l.length+m.length≤140737488355328) (hbase:base≤w.heap.size)
 (h : ∀v' w', Owns w' base E v' (l++m)→w.grownBy w' v.ownBlock→wpList P ops Q rest (a.put o.dst v') w'):wpList P ops Q (o :: rest) a w:=by
 obtain⟨i,h1,h2,h3,h4⟩:=info_parts hi
 refine Lib.wpList_append_own_string _ hgd s x t u ho base E i ht hu h1 h2 h3 h4 v l.length (cellsOf l) hs hown _ hx (by rw[str_size];unfold maxLen;omega) (by rw[str_size];omega) hbase fun v' w' h5 h6 _ => ?_
 refine h v' w' ?_ h6
 unfold Owns
 rw[List.length_append,cellsOf_app, ← str_cells m, ← str_size m]
 exact h5
end Go.Proofs.YtdkdjofnnnljjaaGreatDoor

namespace Go.Proofs.YtdkdjofnnnljjaaGreatDoor
open Go.RowKit
set_option maxHeartbeats 400000
set_option maxRecDepth 4000
theorem clone_any(v:Value)(l:List UInt8)(w:World)(hv:Reads w v l)(hlen:l.length≤140737488351232) :
 Calls Tryz.prog 61 #[v] w (Makes w 5 l):=by
 have hq : ∀(w:World) (a:Option Addr) (n c n' c' : Nat),(binOp .eql 30 (.slice a n c) (.slice none n' c')).run Tryz.prog w = .ok (.bool a.isNone) w:=fun w a n c n' c' => Lib.run_eql_slice_nil w _ _ a n c n' c' Tryz.underlying30
 obtain⟨ao,cap,rfl⟩:=hv.shape
 have hnil:=hv.len.2.2.2
 have hcap:=hv.len.2.1
 have hv0:=hv.below ((Below.refl w.heap.size w).alloc (Nat.le_refl _) (.cells #[] 5))
 cases ao with
 | none =>
  obtain rfl:cap=0:=hnil rfl
  obtain rfl:l = []:=List.eq_nil_of_length_eq_zero (by omega)
  go_enter Tryz.func61,Tryz.ntmps61
  go_wp2
  go_ret
  exact⟨_,rfl,Owns.empty _ _ _,Below.refl _ _⟩
 | some x =>
  go_enter Tryz.func61,Tryz.ntmps61
  go_wp2_with (at_builtin;refine append_bytes rfl _ _ 30 5 rfl Tryz.underlying30 info_u8 w.heap.size [] l _ _ rfl rfl (Owns.lit0 w _) hv0 (by simp;omega) w ((Below.refl w.heap.size w).alloc (Nat.le_refl _) _) (Nat.le_refl _) ?_;intro v1 w1 ho1 hb1 _;rw[List.nil_append]at ho1)
  go_ret
  exact⟨_,rfl,ho1,hb1⟩
end Go.Proofs.YtdkdjofnnnljjaaGreatDoor

namespace Go.Proofs.YtdkdjofnnnljjaaGreatDoor
open Go.RowKit
set_option maxHeartbeats 800000
set_option maxRecDepth 4000
structure Rdr(w:World)(B o:Nat)(v:Value)(b:List UInt8)(p:Nat)(er:Int):Prop where
 base:B≤o
 lies:Lies w o 189 #[v, .int .i64 (p:Int), .int .i64 er]
 owns:Owns w B 5 v b
 inn:p≤b.length
 small:b.length≤70368744177664
theorem Rdr.kept{w w' : World}{B o:Nat}{v:Value}{b:List UInt8}{p:Nat}{er:Int}(h:Rdr w B o v b p er)(hb:Below w.heap.size w w'):Rdr w' B o v b p er :=
 ⟨h.base,h.lies.below hb h.lies.lt,h.owns.keep hb (Nat.le_refl _),h.inn,h.small⟩
theorem Rdr.drewN{w:World}{B o:Nat}{v:Value}{b:List UInt8}{p:Nat}{er:Int}(h:Rdr w B o v b p er)(n:Nat):Rdr (w.drewN n) B o v b p er:=h.kept (drawn w n)
theorem Rdr.off{w:World}{B o:Nat}{v:Value}{b:List UInt8}{p:Nat}{er:Int}(h:Rdr w B o v b p er):v.ownBlock=none∨v.ownBlock≠some o := .inr fun e=>h.lies.not_row (by decide) h.owns e.symm
theorem Rdr.goes{w:World}{B o:Nat}{v:Value}{b:List UInt8}{p:Nat}{er:Int}(h:Rdr w B o v b p er){q:Nat}(hq:q≤b.length) :
 Rdr (w.setCell ⟨o,1,none⟩ (.int .i64 (q:Int))) B o v b q er∧w.grownBy (w.setCell ⟨o,1,none⟩ (.int .i64 (q:Int))) (some o) :=
 ⟨⟨h.base,h.lies.set 1 _,h.owns.grown (grown_set w o 1 _) h.off,hq,h.small⟩,grown_set w o 1 _⟩
theorem Rdr.errs{w:World}{B o:Nat}{v:Value}{b:List UInt8}{p:Nat}{er:Int}(h:Rdr w B o v b p er)(e:Int) :
 Rdr (w.setCell ⟨o,2,none⟩ (.int .i64 e)) B o v b p e∧w.grownBy (w.setCell ⟨o,2,none⟩ (.int .i64 e)) (some o) :=
 ⟨⟨h.base,h.lies.set 2 _,h.owns.grown (grown_set w o 2 _) h.off,h.inn,h.small⟩,grown_set w o 2 _⟩
theorem drewN_grown{w w' : World}{n:Nat}{row:Option Nat}(h:(w.drewN n).grownBy w' row):w.grownBy w' row:=⟨h.os,h.tape,h.output,h.size,h.block⟩
theorem grown_drewN(w:World)(n:Nat)(row:Option Nat):w.grownBy (w.drewN n) row:=⟨rfl,rfl,rfl,Nat.le_refl _,fun _ _ _=>rfl⟩
theorem grown_any{w w' : World}(h:w.grownBy w' none)(row:Option Nat):w.grownBy w' row:=⟨h.os,h.tape,h.output,h.size,fun i hi _=>h.block i hi (by simp)⟩
def Got(w:World)(B o:Nat)(v:Value)(b:List UInt8)(q:Nat)(er:Int)(x:Value)(e:Int)(en:Ending)(w' : World):Prop :=
 en = .returned (.tuple #[x, .int .i64 e])∧Rdr w' B o v b q er∧w.grownBy w' (some o)
theorem number_is(most:Int)(w:World)(B o:Nat)(v:Value)(b:List UInt8)(p:Nat)(er n:Int)(q:Nat)(e:Int)(hr:Rdr w B o v b p er)(h:Hid (Pk.num b p most=(n,(q:Int),e))) :
 Calls Tryz.prog 151 #[.pointer (some ⟨o,0,none⟩), .int .i64 most] w (Got w B o v b q er (.int .i64 n) e):=by
 have hc0:=hr.lies.cell 0 v rfl
 have hc1:=hr.lies.cell 1 (.int .i64 (p:Int)) rfl
 have hf:=hr.lies.free 1
 have HR:=Lib.hid hr
 have hrd:=hr.owns.reads
 have hcall : ∀k,Calls Tryz.prog 148 #[v, .int .i64 (p:Int)] (w.drewN k) (fun e w' => e = .returned (.tuple #[.int .i64 (getp b p).1, .int .i64 (getp b p).2.1, .int .i64 (getp b p).2.2]) ∧ ∃m,w' = w.drewN m):=by
  intro k
  refine(get_any v b p (w.drewN k) hrd).mono ?_
  rintro e w ⟨rfl,rfl⟩
  exact⟨rfl,k,rfl⟩
 clear hr
 rcases Pk.num_cases b p most with ⟨e', he,hg,hn⟩ | ⟨n', q', hg,h1,h2,h3,h4,hn⟩ | ⟨n', q', hg,h1,h2,h3,h4,hn⟩
 all_goals
  have h' := h.out
  rw[hn]at h'
  simp only[Prod.mk.injEq,Int.natCast_inj]at h'
  obtain⟨rfl,rfl,rfl⟩:=h'
  rw[hg]at hcall
  dsimp only at hcall
  have HCALL:=Lib.hid hcall
  clear hcall
  clear hg hn h hrd
  go_enter Tryz.func151,Tryz.ntmps151
  go_wp2
  go_quiet (first | (go_at_call 148;exact HCALL.out _))
  go_wp2
  go_ret2
 ·exact⟨rfl,HR.out.drewN _,grown_drewN _ _ _⟩
 ·exact⟨rfl,HR.out.drewN _,grown_drewN _ _ _⟩
 ·exact⟨rfl,((HR.out.drewN _).goes h2).1,drewN_grown ((HR.out.drewN _).goes h2).2⟩
theorem count_is(most:Int)(w:World)(B o:Nat)(v:Value)(b:List UInt8)(p:Nat)(er n:Int)(q:Nat)(e:Int)(hr:Rdr w B o v b p er)(h:Hid (Pk.cnt b p most=(n,(q:Int),e))) :
 Calls Tryz.prog 221 #[.pointer (some ⟨o,0,none⟩), .int .i64 most] w (Got w B o v b q er (.int .i64 n) e):=by
 have hsm:=hr.small
 rcases Pk.cnt_cases b p most with ⟨e', he,hg,hn⟩ | ⟨n', q', hg,h1,h2,h3,hn⟩ | ⟨n', q', hg,h1,hn⟩
 all_goals
  have h' := h.out
  rw[hn]at h'
  simp only[Prod.mk.injEq,Int.natCast_inj]at h'
  obtain⟨rfl,rfl,rfl⟩:=h'
  have HG:=Lib.hid hg
  clear hg hn h
  go_enter Tryz.func221,Tryz.ntmps221
  go_wp2_with fail
  refine(number_is most _ B o v b p er _ _ _ hr HG).mono ?_
  rintro e1 w1 ⟨rfl,hr1,hg1⟩
  have hc0:=hr1.lies.cell 0 v rfl
  have hc1:=hr1.lies.cell 1 (.int .i64 _) rfl
  obtain⟨ao,cap,rfl⟩:=hr1.owns.reads.shape
 ·go_wp2
  go_quiet (fail)
  go_wp2
  go_ret2
  exact⟨rfl,hr1.drewN _,grown_on hg1 (grown_drewN _ _ _)⟩
 ·obtain⟨k,hk⟩ : ∃k:Nat,(b.length:Int) - (q' : Int)=(k:Int):=⟨b.length - q', by omega⟩
  rw[hk]at h3
  go_wp2
  go_quiet (fail)
  go_wp2
  go_ret2
  exact⟨rfl,hr1.drewN _,grown_on hg1 (grown_drewN _ _ _)⟩
 ·obtain⟨k,hk⟩ : ∃k:Nat,(b.length:Int) - (q' : Int)=(k:Int):=⟨b.length - q', by omega⟩
  have h3 : ¬(k:Int)<(n' : Int):=by omega
  go_wp2
  go_quiet (fail)
  go_wp2
  go_ret2
  exact⟨rfl,hr1.drewN _,grown_on hg1 (grown_drewN _ _ _)⟩
theorem Reads.part{w:World}{ao:Option Addr}{n cap:Nat}{l:List UInt8}(h:Reads w (.slice ao n cap) l)(f q:Nat)(hf:f≤q)(hq:q≤l.length):Reads w (sliced ao f q cap 1) ((l.drop f).take (q - f)):=by
 obtain⟨hn,hc,hm,hnil⟩:=h.len
 unfold sliced
 have e:((l.drop f).take (q - f)).length=q - f:=by simp;omega
 rw[Nat.mul_one]
 by_cases h0:q - f=0
 ·rw[h0,List.take_zero]
  refine⟨_,cap - f,rfl,by simp,by unfold maxLen;omega,fun h1 => ?_,fun x _ j u hu=>by simp[cellsOf]at hu⟩
  by_cases hcf:cap=f
  ·omega
  ·rw[if_neg hcf]at h1
   cases ao with
   | none=>have:=hnil rfl;omega
   | some x=>simp at h1
 ·have hcf : ¬cap=f:=by omega
  rw[if_neg hcf]
  obtain⟨b,off,rfl,hcell⟩:=h.place (by omega)
  obtain⟨ao', cap', hv,h1,h2,h3,h4⟩:=h
  simp only[Value.slice.injEq]at hv
  obtain⟨rfl,rfl,rfl⟩:=hv
  refine⟨some ⟨b,off+f,none⟩,cap - f,by rw[e];simp[Addr.add_lit],by rw[e];omega,by omega,(fun h=>by cases h),fun x hx j u hu => ?_⟩
  cases hx
  have:=h4 _ rfl (f+j) u (by
   simp only[cellsOf,List.getElem?_map,List.getElem?_take,List.getElem?_drop]at hu ⊢
   split at hu
   ·exact hu
   ·simp at hu)
  rw[Addr.add_lit]at this ⊢
  rw[Nat.add_assoc];exact this
theorem run_part(w:World)(ao:Option Addr)(n cap f q:Nat)(hf:f≤q)(hq:q≤cap) :
 (Instr.slice 30 (.slice ao n cap) (some (.int .i64 (f:Int))) (some (.int .i64 (q:Int))) none).run Tryz.prog w = .ok (sliced ao f q cap 1) w:=by
 have he:Tryz.prog.elem 30=5:=by kernel_rfl
 obtain⟨i,h1,_⟩:=info_parts info_u8
 have hrun:=run_slice_lh (P:=Tryz.prog) (w:=w) 30 ao n cap (by rw[he];exact Tryz.underlying30) .i64 .i64 (f:Int) (q:Int) (by omega) (by omega) (by omega)
 rw[he]at hrun
 refine hrun.trans ?_
 rw[run_sizeOf _ h1,show Tryz.prog.cellsOf 5=1 by kernel_rfl]
 simp only[Result.andThen,Int.toNat_natCast]
theorem skip_any(size:Nat)(w:World)(B o:Nat)(v:Value)(b:List UInt8)(p:Nat)(er:Int)(hr:Rdr w B o v b p er)(hs:p+size≤b.length) :
 Calls Tryz.prog 222 #[.pointer (some ⟨o,0,none⟩), .int .i64 (size:Int)] w
  fun en w' => ∃u,en = .returned u∧Reads w' u ((b.drop p).take size)∧Rdr w' B o v b (p+size) er∧w.grownBy w' (some o):=by
 have hsm:=hr.small
 obtain⟨ao,cap,rfl⟩:=hr.owns.reads.shape
 have hcap:=hr.owns.reads.len
 obtain⟨q,hq⟩ : ∃q:Nat,q=p+size:=⟨_,rfl⟩
 have hqi:(p:Int)+(size:Int)=(q:Int):=by omega
 have hqb:q≤b.length:=by omega
 have hp:=hr.owns.reads.part p q (by omega) hqb
 obtain⟨uo,uc,hu⟩:=hp.shape
 have hrun : ∀w,(Instr.slice 30 (.slice ao b.length cap) (some (.int .i64 (p:Int))) (some (.int .i64 (q:Int))) none).run Tryz.prog w = .ok (.slice uo ((b.drop p).take (q - p)).length uc) w:=by
  intro w
  rw[run_part w ao _ cap p q (by omega) (by omega),hu]
 have hp2:=(hr.goes hqb).1.owns.reads.part p q (by omega) hqb
 rw[hu]at hp2
 obtain⟨m,hm⟩ : ∃m,m=((b.drop p).take (q - p)).length:=⟨_,rfl⟩
 rw[← hm]at hrun hp2
 have hc0:=hr.lies.cell 0 _ rfl
 have hc1:=hr.lies.cell 1 (.int .i64 (p:Int)) rfl
 have hf:=hr.lies.free 1
 have hgo:=hr.goes hqb
 have hd0:=hgo.1.lies.cell 0 _ rfl
 have hd1:=hgo.1.lies.cell 1 (.int .i64 (q:Int)) rfl
 have HGO:=Lib.hid hgo;have HP:=Lib.hid hp2;have HQ:=Lib.hid hq;have HM:=Lib.hid hm
 clear hgo hp hp2 hq hm hu
 go_enter Tryz.func222,Tryz.ntmps222
 go_wp2
 go_quiet (fail)
 go_wp2
 go_ret
 have hq:=HQ.out
 refine⟨_,rfl, ?_, ?_,grown_on HGO.out.2 (grown_drewN _ _ _)⟩
 ·rw[show size=q - p by omega]
  exact HP.out.below (drawn _ _)
 ·rw[← hq]
  exact HGO.out.1.drewN _
abbrev Cnt(o:Nat):Value := .func (.func 221) #[.pointer (some ⟨o,0,none⟩)] #[]
abbrev Skp(o:Nat):Value := .func (.func 222) #[.pointer (some ⟨o,0,none⟩)] #[]
theorem stretchS_is(most:Int)(w:World)(B o:Nat)(v:Value)(b:List UInt8)(p:Nat)(er:Int)(s:List UInt8)(q:Nat)(e:Int)(hr:Rdr w B o v b p er)(h:Hid (Pk.txt b p most=(s,(q:Int),e))) :
 Calls Tryz.prog 238 #[Cnt o,Skp o, .int .i64 most] w (Got w B o v b q er (.string ⟨s.toArray⟩) e):=by
 rcases Pk.txt_cases b p most hr.inn with ⟨e', q', he,h1,hg,hn⟩ | ⟨n', q', hg,h1,hn⟩
 all_goals
  have h' := h.out
  rw[hn]at h'
  simp only[Prod.mk.injEq,Int.natCast_inj]at h'
  obtain⟨rfl,rfl,rfl⟩:=h'
  have HG:=Lib.hid hg
  clear hg hn h
  go_enter Tryz.func238,Tryz.ntmps238
  go_wp2_with fail
  refine(count_is most _ B o v b p er _ _ _ hr HG).mono ?_
  rintro e1 w1 ⟨rfl,hr1,hg1⟩
  go_wp2_with fail
 ·go_ret2
  exact⟨rfl,hr1,hg1⟩
 ·refine(skip_any n' _ B o v b q' er hr1 h1).mono ?_
  rintro e2 w2 ⟨u,rfl,hu,hr2,hg2⟩
  obtain⟨uo,uc,rfl⟩:=hu.shape
  have hst:=run_string_of (P:=Tryz.prog) _ Tryz.underlying30 Tryz.underlying5 Tryz.underlying9 hu
  obtain⟨m,hm⟩ : ∃m,m=((b.drop q').take n').length:=⟨_,rfl⟩
  rw[← hm]at hst ⊢
  clear hm
  go_wp2
  go_ret2
  exact⟨rfl,hr2,grown_on hg1 hg2⟩
theorem stretchB_is(most:Int)(w:World)(B o:Nat)(v:Value)(b:List UInt8)(p:Nat)(er:Int)(s:List UInt8)(q:Nat)(e:Int)(hr:Rdr w B o v b p er)(h:Hid (Pk.txt b p most=(s,(q:Int),e))) :
 Calls Tryz.prog 220 #[Cnt o,Skp o, .int .i64 most] w (fun en w' => ∃u,Got w B o v b q er u e en w' ∧ Reads w' u s):=by
 rcases Pk.txt_cases b p most hr.inn with ⟨e', q', he,h1,hg,hn⟩ | ⟨n', q', hg,h1,hn⟩
 all_goals
  have h' := h.out
  rw[hn]at h'
  simp only[Prod.mk.injEq,Int.natCast_inj]at h'
  obtain⟨rfl,rfl,rfl⟩:=h'
  have HG:=Lib.hid hg
  clear hg hn h
  go_enter Tryz.func220,Tryz.ntmps220
  go_wp2_with fail
  refine(count_is most _ B o v b p er _ _ _ hr HG).mono ?_
  rintro e1 w1 ⟨rfl,hr1,hg1⟩
  go_wp2_with fail
 ·go_ret2
  exact⟨_,⟨rfl,hr1,hg1⟩,Reads.empty _⟩
 ·refine(skip_any n' _ B o v b q' er hr1 h1).mono ?_
  rintro e2 w2 ⟨u,rfl,hu,hr2,hg2⟩
  obtain⟨uo,uc,rfl⟩:=hu.shape
  obtain⟨m,hm⟩ : ∃m,m=((b.drop q').take n').length:=⟨_,rfl⟩
  rw[← hm]at hu ⊢
  clear hm
  go_wp2
  go_ret2
  exact⟨_,⟨rfl,hr2,grown_on hg1 hg2⟩,hu⟩
theorem text_is(most:Int)(w:World)(B o:Nat)(v:Value)(b:List UInt8)(p:Nat)(er:Int)(s:List UInt8)(q:Nat)(e:Int)(hr:Rdr w B o v b p er)(h:Hid (Pk.txt b p most=(s,(q:Int),e))) :
 Calls Tryz.prog 233 #[.pointer (some ⟨o,0,none⟩), .int .i64 most] w (Got w B o v b q er (.string ⟨s.toArray⟩) e):=by
 have hmf : ∀(fn:Fn) (first cap:Array Value) (w:World),(Instr.makeFunc fn first cap).run Tryz.prog w = .ok (.func fn first cap) w:=fun _ _ _ _=>rfl
 go_enter Tryz.func233,Tryz.ntmps233
 go_wp2_with fail
 refine(stretchS_is most _ B o v b p er _ _ _ hr h).mono ?_
 rintro e1 w1 ⟨rfl,hr1,hg1⟩
 go_wp2
 go_ret2
 exact⟨rfl,hr1,hg1⟩
theorem raw_is(most:Int)(w:World)(B o:Nat)(v:Value)(b:List UInt8)(p:Nat)(er:Int)(s:List UInt8)(q:Nat)(e:Int)(hr:Rdr w B o v b p er)(hs:s.length≤70368744177664)(h:Hid (Pk.txt b p most=(s,(q:Int),e))) :
 Calls Tryz.prog 204 #[.pointer (some ⟨o,0,none⟩), .int .i64 most] w (fun en w' => ∃u,Got w B o v b q er u e en w' ∧ Owns w' w.heap.size 5 u s):=by
 have hmf : ∀(fn:Fn) (first cap:Array Value) (w:World),(Instr.makeFunc fn first cap).run Tryz.prog w = .ok (.func fn first cap) w:=fun _ _ _ _=>rfl
 go_enter Tryz.func204,Tryz.ntmps204
 go_wp2_with fail
 refine(stretchB_is most _ B o v b p er _ _ _ hr h).mono ?_
 rintro e1 w1 ⟨u,⟨rfl,hr1,hg1⟩,hu⟩
 go_wp2_with fail
 refine(clone_any u s _ hu (by omega)).mono ?_
 rintro e2 w2 ⟨u2,rfl,ho,hb⟩
 go_wp2
 go_ret2
 exact⟨_,⟨rfl,hr1.kept hb,grown_on hg1 (grown_any (grown_of_below hb) _)⟩,ho.mono hg1.size⟩
theorem rerr_any(w:World)(B o:Nat)(v:Value)(b:List UInt8)(p:Nat)(er:Int)(hr:Rdr w B o v b p er) :
 Calls Tryz.prog 152 #[.pointer (some ⟨o,0,none⟩)] w fun en w' => en = .returned (.int .i64 er)∧w=w' := by
 have hc2:=hr.lies.cell 2 (.int .i64 er) rfl
 go_enter Tryz.func152,Tryz.ntmps152
 go_wp2
 go_ret
 exact⟨rfl,rfl⟩
def Gave(w:World)(B o:Nat)(v:Value)(b:List UInt8)(q:Nat)(e:Int)(x:Value)(en:Ending)(w' : World):Prop :=
 en = .returned x∧Rdr w' B o v b q e∧w.grownBy w' (some o)
theorem readN_is(most:Int)(w:World)(B o:Nat)(v:Value)(b:List UInt8)(p:Nat)(x:Int)(q:Nat)(e:Int)(hr:Rdr w B o v b p 0)(hx:e≠0→x=0)(h:Hid (Pk.num b p most=(x,(q:Int),e))) :
 Calls Tryz.prog 150 #[.pointer (some ⟨o,0,none⟩), .func (.func 151) #[.pointer (some ⟨o,0,none⟩)] #[], .int .i64 most] w (Gave w B o v b q e (.int .i64 x)):=by
 go_enter Tryz.func150,Tryz.ntmps150
 go_wp2_with fail
 refine(rerr_any _ B o v b p 0 hr).mono ?_
 rintro e1 w1 ⟨rfl,rfl⟩
 go_wp2_with fail
 refine(number_is most _ B o v b p 0 _ _ _ hr h).mono ?_
 rintro e2 w2 ⟨rfl,hr2,hg2⟩
 by_cases he:e=0
 ·subst he
  go_wp2
  go_ret
  exact⟨rfl,hr2,hg2⟩
 ·obtain rfl:=hx he
  clear hx
  have hc2:=hr2.lies.cell 2 (.int .i64 0) rfl
  have hf2:=hr2.lies.free 2
  have hs:=hr2.errs e
  go_wp2
  go_ret
  exact⟨rfl,hs.1,grown_on hg2 hs.2⟩
theorem readN_err(most er:Int)(fv:Value)(w:World)(B o:Nat)(v:Value)(b:List UInt8)(p:Nat)(hr:Rdr w B o v b p er)(he:er≠0) :
 Calls Tryz.prog 150 #[.pointer (some ⟨o,0,none⟩),fv, .int .i64 most] w (Gave w B o v b p er (.int .i64 0)):=by
 go_enter Tryz.func150,Tryz.ntmps150
 go_wp2_with fail
 refine(rerr_any _ B o v b p er hr).mono ?_
 rintro e1 w1 ⟨rfl,rfl⟩
 go_wp2
 go_ret
 exact⟨rfl,hr,World.grownBy.refl _ _⟩
theorem rnum_is(most:Int)(w:World)(B o:Nat)(v:Value)(b:List UInt8)(p:Nat)(x:Int)(q:Nat)(e:Int)(hr:Rdr w B o v b p 0)(hx:e≠0→x=0)(h:Hid (Pk.num b p most=(x,(q:Int),e))) :
 Calls Tryz.prog 113 #[.pointer (some ⟨o,0,none⟩), .int .i64 most] w (Gave w B o v b q e (.int .i64 x)):=by
 have hmf : ∀(fn:Fn) (first cap:Array Value) (w:World),(Instr.makeFunc fn first cap).run Tryz.prog w = .ok (.func fn first cap) w:=fun _ _ _ _=>rfl
 go_enter Tryz.func113,Tryz.ntmps113
 go_wp2_with fail
 refine(readN_is most _ B o v b p x q e hr hx h).mono ?_
 rintro e1 w1 ⟨rfl,hr1,hg1⟩
 go_wp2
 go_ret
 exact⟨rfl,hr1,hg1⟩
theorem rnum_err(most er:Int)(w:World)(B o:Nat)(v:Value)(b:List UInt8)(p:Nat)(hr:Rdr w B o v b p er)(he:er≠0) :
 Calls Tryz.prog 113 #[.pointer (some ⟨o,0,none⟩), .int .i64 most] w (Gave w B o v b p er (.int .i64 0)):=by
 have hmf : ∀(fn:Fn) (first cap:Array Value) (w:World),(Instr.makeFunc fn first cap).run Tryz.prog w = .ok (.func fn first cap) w:=fun _ _ _ _=>rfl
 go_enter Tryz.func113,Tryz.ntmps113
 go_wp2_with fail
 refine(readN_err most er _ _ B o v b p hr he).mono ?_
 rintro e1 w1 ⟨rfl,hr1,hg1⟩
 go_wp2
 go_ret
 exact⟨rfl,hr1,hg1⟩
theorem readT_is(most:Int)(w:World)(B o:Nat)(v:Value)(b:List UInt8)(p:Nat)(x:List UInt8)(q:Nat)(e:Int)(hr:Rdr w B o v b p 0)(hx:e≠0→x = [])(h:Hid (Pk.txt b p most=(x,(q:Int),e))) :
 Calls Tryz.prog 232 #[.pointer (some ⟨o,0,none⟩), .func (.func 233) #[.pointer (some ⟨o,0,none⟩)] #[], .int .i64 most] w (Gave w B o v b q e (.string ⟨x.toArray⟩)):=by
 go_enter Tryz.func232,Tryz.ntmps232
 go_wp2_with fail
 refine(rerr_any _ B o v b p 0 hr).mono ?_
 rintro e1 w1 ⟨rfl,rfl⟩
 go_wp2_with fail
 refine(text_is most _ B o v b p 0 _ _ _ hr h).mono ?_
 rintro e2 w2 ⟨rfl,hr2,hg2⟩
 by_cases he:e=0
 ·subst he
  go_wp2
  go_ret
  exact⟨rfl,hr2,hg2⟩
 ·obtain rfl:=hx he
  clear hx
  have hc2:=hr2.lies.cell 2 (.int .i64 0) rfl
  have hf2:=hr2.lies.free 2
  have hs:=hr2.errs e
  go_wp2
  go_ret
  exact⟨rfl,hs.1,grown_on hg2 hs.2⟩
theorem readT_err(most er:Int)(fv:Value)(w:World)(B o:Nat)(v:Value)(b:List UInt8)(p:Nat)(hr:Rdr w B o v b p er)(he:er≠0) :
 Calls Tryz.prog 232 #[.pointer (some ⟨o,0,none⟩),fv, .int .i64 most] w (Gave w B o v b p er (.string ⟨#[]⟩)):=by
 go_enter Tryz.func232,Tryz.ntmps232
 go_wp2_with fail
 refine(rerr_any _ B o v b p er hr).mono ?_
 rintro e1 w1 ⟨rfl,rfl⟩
 go_wp2
 go_ret
 exact⟨rfl,hr,World.grownBy.refl _ _⟩
theorem rtext_is(most:Int)(w:World)(B o:Nat)(v:Value)(b:List UInt8)(p:Nat)(x:List UInt8)(q:Nat)(e:Int)(hr:Rdr w B o v b p 0)(hx:e≠0→x = [])(h:Hid (Pk.txt b p most=(x,(q:Int),e))) :
 Calls Tryz.prog 219 #[.pointer (some ⟨o,0,none⟩), .int .i64 most] w (Gave w B o v b q e (.string ⟨x.toArray⟩)):=by
 have hmf : ∀(fn:Fn) (first cap:Array Value) (w:World),(Instr.makeFunc fn first cap).run Tryz.prog w = .ok (.func fn first cap) w:=fun _ _ _ _=>rfl
 go_enter Tryz.func219,Tryz.ntmps219
 go_wp2_with fail
 refine(readT_is most _ B o v b p x q e hr hx h).mono ?_
 rintro e1 w1 ⟨rfl,hr1,hg1⟩
 go_wp2
 go_ret
 exact⟨rfl,hr1,hg1⟩
theorem rtext_err(most er:Int)(w:World)(B o:Nat)(v:Value)(b:List UInt8)(p:Nat)(hr:Rdr w B o v b p er)(he:er≠0) :
 Calls Tryz.prog 219 #[.pointer (some ⟨o,0,none⟩), .int .i64 most] w (Gave w B o v b p er (.string ⟨#[]⟩)):=by
 have hmf : ∀(fn:Fn) (first cap:Array Value) (w:World),(Instr.makeFunc fn first cap).run Tryz.prog w = .ok (.func fn first cap) w:=fun _ _ _ _=>rfl
 go_enter Tryz.func219,Tryz.ntmps219
 go_wp2_with fail
 refine(readT_err most er _ _ B o v b p hr he).mono ?_
 rintro e1 w1 ⟨rfl,hr1,hg1⟩
 go_wp2
 go_ret
 exact⟨rfl,hr1,hg1⟩
theorem readR_err(most er:Int)(fv:Value)(w:World)(B o:Nat)(v:Value)(b:List UInt8)(p:Nat)(hr:Rdr w B o v b p er)(he:er≠0) :
 Calls Tryz.prog 203 #[.pointer (some ⟨o,0,none⟩),fv, .int .i64 most] w (Gave w B o v b p er (.slice none 0 0)):=by
 go_enter Tryz.func203,Tryz.ntmps203
 go_wp2_with fail
 refine(rerr_any _ B o v b p er hr).mono ?_
 rintro e1 w1 ⟨rfl,rfl⟩
 go_wp2
 go_ret
 exact⟨rfl,hr,World.grownBy.refl _ _⟩
theorem rraw_err(most er:Int)(w:World)(B o:Nat)(v:Value)(b:List UInt8)(p:Nat)(hr:Rdr w B o v b p er)(he:er≠0) :
 Calls Tryz.prog 178 #[.pointer (some ⟨o,0,none⟩), .int .i64 most] w (Gave w B o v b p er (.slice none 0 0)):=by
 have hmf : ∀(fn:Fn) (first cap:Array Value) (w:World),(Instr.makeFunc fn first cap).run Tryz.prog w = .ok (.func fn first cap) w:=fun _ _ _ _=>rfl
 go_enter Tryz.func178,Tryz.ntmps178
 go_wp2_with fail
 refine(readR_err most er _ _ B o v b p hr he).mono ?_
 rintro e1 w1 ⟨rfl,hr1,hg1⟩
 go_wp2
 go_ret
 exact⟨rfl,hr1,hg1⟩
def Pk.done(b:List UInt8)(p:Nat)(er:Int):Int:=if er≠0 then er else if p<b.length then 3 else 0
theorem rdone_any(w:World)(B o:Nat)(v:Value)(b:List UInt8)(p:Nat)(er:Int)(hr:Rdr w B o v b p er) :
 Calls Tryz.prog 114 #[.pointer (some ⟨o,0,none⟩)] w fun en w' => en = .returned (.int .i64 (Pk.done b p er)) ∧ ∃q,w' = w.drewN q:=by
 have hc0:=hr.lies.cell 0 v rfl
 have hc1:=hr.lies.cell 1 (.int .i64 (p:Int)) rfl
 have hin:=hr.inn
 obtain⟨ao,cap,rfl⟩:=hr.owns.reads.shape
 unfold Pk.done
 by_cases he:er=0
 ·subst he
  by_cases hp:p<b.length
  all_goals
   rw[if_neg (by simp)]
   first | rw[if_pos hp] | rw[if_neg hp]
   go_enter Tryz.func114,Tryz.ntmps114
   go_wp2_with fail
   refine(rerr_any _ B o _ b p 0 hr).mono ?_
   rintro e1 w1 ⟨rfl,rfl⟩
   go_wp2
   go_quiet (fail)
   go_wp2
   go_ret
   exact⟨rfl,_,rfl⟩
 ·rw[if_pos he]
  go_enter Tryz.func114,Tryz.ntmps114
  go_wp2_with fail
  refine(rerr_any _ B o _ b p er hr).mono ?_
  rintro e1 w1 ⟨rfl,rfl⟩
  go_wp2
  go_ret
  exact⟨rfl,0,rfl⟩
theorem newreader_any(u:Value)(b:List UInt8)(w:World)(B:Nat)(hB:B≤w.heap.size)(hu:Reads w u b)(hb:b.length≤70368744177664) :
 Calls Tryz.prog 112 #[u] w fun en w' => ∃o v,en = .returned (.pointer (some ⟨o,0,none⟩))∧w.heap.size≤o∧Rdr w' B o v b 0 0∧Below w.heap.size w w' := by
 go_enter Tryz.func112,Tryz.ntmps112
 go_wp2_with fail
 refine(clone_any u b _ hu (by omega)).mono ?_
 rintro e1 w1 ⟨v,rfl,ho,hb1⟩
 obtain⟨vo,vc,rfl⟩:=ho.reads.shape
 have hz:=hb1.size
 go_wp2
 go_ret
 refine⟨_,_,rfl,hb1.size,⟨by omega,Lies.new _ _ _,(ho.mono hB).alloc _,by omega,hb⟩,hb1.alloc hb1.size _⟩
end Go.Proofs.YtdkdjofnnnljjaaGreatDoor
