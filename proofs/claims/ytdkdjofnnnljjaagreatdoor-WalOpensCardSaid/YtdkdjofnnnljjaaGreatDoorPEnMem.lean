/- Several texts of mine in one: CmdEl GBl EnMem. -/
import Derived.Test.YtdkdjofnnnljjaaGreatDoorRows
import Derived.Test.YtdkdjofnnnljjaaGreatDoorGCa
import Derived.Test.YtdkdjofnnnljjaaGreatDoorGMb
import Derived.Test.YtdkdjofnnnljjaaGreatDoorGPl
import Derived.Deep.MidRow
import Derived.Test.YtdkdjofnnnljjaaGreatDoorShelf
import Derived.Lib.ItoaNum
import Derived.Lib.LaidU8
import Derived.OpenShut
import Derived.Deep.RegionHeld3
namespace Go.Proofs.YtdkdjofnnnljjaaGreatDoor
open Go.RowKit
set_option maxRecDepth 20000
theorem el_cmd{H:Type}{enc:TypeId × Value→H}{w:World}{base:Nat}{sp:Nat→Bool}{held:Bool}(m:Nat)(cs:List Value)(y:DataW H × List MemPlace)
 (h:DataW.trod enc Tryz.prog w base sp held m 40 cs=some y) : ∃c:Cm.Cmd,cs=(Cm.cells c).toList∧c.Fits∧c.Short 9223372036854775807:=by
 obtain⟨ys,n,_,_,hl,hlen,hat⟩:=DataW.trod_struct Tryz.underlying40 h
 have hce:Tryz.prog.cellsOf 40=7:=by kernel_rfl
 have hci:Tryz.prog.cellsOf 3=1:=by kernel_rfl
 have hcs:Tryz.prog.cellsOf 9=1:=by kernel_rfl
 have g0:=hat 0 _ rfl
 have g1:=hat 1 _ rfl
 have g2:=hat 2 _ rfl
 have g3:=hat 3 _ rfl
 have g4:=hat 4 _ rfl
 have g5:=hat 5 _ rfl
 have g6:=hat 6 _ rfl
 rw[List.getElem?_eq_getElem (by rw[hlen];simp)]at g0 g1 g2 g3 g4 g5 g6
 obtain⟨x0,e0,a0,b0⟩:=one_int Tryz.underlying3 g0 hci
 obtain⟨x1,e1,a1,b1⟩:=one_int Tryz.underlying3 g1 hci
 obtain⟨x2,e2,a2,b2⟩:=one_int Tryz.underlying3 g2 hci
 obtain⟨x3,e3,a3⟩:=one_str Tryz.underlying9 g3 hcs
 obtain⟨x4,e4,a4⟩:=one_str Tryz.underlying9 g4 hcs
 obtain⟨x5,e5,a5⟩:=one_str Tryz.underlying9 g5 hcs
 obtain⟨x6,e6,a6,b6⟩:=one_int Tryz.underlying3 g6 hci
 rw[hce]at hl
 match cs,hl with
 | [c0,c1,c2,c3,c4,c5,c6],_ =>
  simp at e0 e1 e2 e3 e4 e5 e6
  subst e0 e1 e2 e3 e4 e5 e6
  refine⟨⟨x0,x1,x2,x6,x3.data.toList,x5.data.toList,x4.data.toList⟩,rfl,⟨a0,b0,a1,b1,a2,b2,a6,b6⟩,⟨?_, ?_, ?_⟩⟩
  ·show x3.size≤_;omega
  ·show x5.size≤_;omega
  ·show x4.size≤_;omega
end Go.Proofs.YtdkdjofnnnljjaaGreatDoor

namespace Go.Proofs.YtdkdjofnnnljjaaGreatDoor
open Go.RowKit
set_option maxHeartbeats 1600000
set_option maxRecDepth 20000
abbrev Bals(w:World)(g:Nat)(b:Bl.Bal):Prop:=Lies w g 29 (Bl.cells b)
theorem Bals.both{w:World}{g:Nat}{b:Bl.Bal}(h:Bals w g b):w.cell? ⟨g,0,none⟩=some (.int .i64 b.round)∧w.cell? ⟨g,1,none⟩=some (.int .i64 b.node) :=
 ⟨h.cell 0 _ rfl,h.cell 1 _ rfl⟩
theorem guard_bal : Tryz.prog.eqGuardType Tryz.prog.depth 29=false:=by kernel_rfl
theorem run_eql_bal(w:World)(c d:Bl.Bal):(binOp .eql 29 (.agg (Bl.cells c)) (.agg (Bl.cells d))).run Tryz.prog w = .ok (.bool (decide (c=d))) w:=by
 have hu:=Tryz.underlying29
 obtain⟨r,n⟩:=c
 obtain⟨r', n'⟩:=d
 dsimp only [Bl.cells]
 go_simp
 repeat' split
 all_goals simp_all
theorem run_neq_bal(w:World)(c d:Bl.Bal):(binOp .neq 29 (.agg (Bl.cells c)) (.agg (Bl.cells d))).run Tryz.prog w = .ok (.bool (!decide (c=d))) w:=by
 have hu:=Tryz.underlying29
 obtain⟨r,n⟩:=c
 obtain⟨r', n'⟩:=d
 dsimp only [Bl.cells]
 go_simp
 repeat' split
 all_goals simp_all
theorem box_bal(w:World)(b:Bl.Bal) : ∃w1,w.alloc (.cells (Bl.cells b) 29)=w1∧Bals w1 w.heap.size b∧Below w.heap.size w w1∧w1.heap.size=w.heap.size+1 :=
 ⟨_,rfl,Lies.new w _ _,(Below.refl _ w).alloc (Nat.le_refl _) _,by simp⟩
theorem box_bals(w:World)(a b:Bl.Bal) : ∃w1,(w.alloc (.cells (Bl.cells a) 29)).alloc (.cells (Bl.cells b) 29)=w1∧Bals w1 w.heap.size a∧Bals w1 (w.heap.size+1) b∧Below w.heap.size w w1∧w1.heap.size=w.heap.size+2:=by
 refine⟨_,rfl,(Lies.new w _ _).alloc _, ?_,((Below.refl _ w).alloc (Nat.le_refl _) _).alloc (by simp) _,by simp⟩
 have:=Lies.new (w.alloc (.cells (Bl.cells a) 29)) 29 (Bl.cells b)
 simpa using this
theorem run_ballot(w:World)(g:Nat)(a:Bl.Bal)(h:Bals w g a):(loadVar 29 ⟨g,0,none⟩).run Tryz.prog w = .ok (.agg (Bl.cells a)) w :=
 run_loadVar_row w g _ _ (Bl.cells a) (0,0) _ h Tryz.underlying29 rfl (by kernel_rfl)
theorem ret_bal1{fn:Func}{R:Ending→World→Prop}{a:Act}{w:World}{p:Tmp}{g:Nat}{c:Bl.Bal}(h:fn.results = #[.cell p 29])(hp:a.tmps.getD p undef = .pointer (some ⟨g,0,none⟩))
 (hl:Bals w g c) (hd:a.defers = []) (hR:R (.returned (.agg (Bl.cells c))) w):bodyPost Tryz.prog fn R .ret a w:=by
 refine bodyPost_ret ?_ hd hR
 rw[results_one h,hp]
 simp[asAddr,Result.andThen,run_ballot w g c hl]
theorem Bl.cells_one(b:Bl.Bal):(Bl.cells b).all (·.oneCell')=true:=by simp[Bl.cells,Value.oneCell']
theorem store_bal{ops:Array Oper}{rest:List Oper}{op:Oper}{a:Act}{w:World}{Q:Exit→Act→World→Prop}(hgd:op.guard=none)(x y:Operand)(ho:op.op = .store 29 x y)
 (g:Nat) (c0 c:Bl.Bal) (hx:a.eval x = .pointer (some ⟨g,0,none⟩)) (hy:a.eval y = .agg (Bl.cells c)) (hl:Bals w g c0)
 (h : ∀w', Bals w' g c→w.grownBy w' (some g)→wpList Tryz.prog ops Q rest (a.put op.dst undef) w'):wpList Tryz.prog ops Q (op :: rest) a w:=by
 have h0 : ∀j,j<2→(w.cell? ⟨g,j,none⟩).isSome=true:=by
  intro j hj
  obtain⟨v,hv⟩ : ∃v,(Bl.cells c0)[j]? = some v:=⟨_,Array.getElem?_eq_getElem (show j<(Bl.cells c0).size from hj)⟩
  rw[hl.cell j v hv];rfl
 have hone:=Bl.cells_one c
 have hL:Bals ((w.setCell ⟨g,0,none⟩ (.int .i64 c.round)).setCell ⟨g,1,none⟩ (.int .i64 c.node)) g c:=(hl.set 0 _).set 1 _
 have hG:w.grownBy ((w.setCell ⟨g,0,none⟩ (.int .i64 c.round)).setCell ⟨g,1,none⟩ (.int .i64 c.node)) (some g):=grown_on (grown_set w g 0 _) (grown_set _ g 1 _)
 have hf:=hl.free
 refine wpList_store_mid hgd _ x y ho g 0 (Bl.cells c) hx hy (fun j hj => ?_) (by kernel_rfl) hone (h _ hL hG)
 rw[Nat.zero_add]
 exact⟨h0 j hj,hf j⟩
theorem el_bal{H:Type}{enc:TypeId × Value→H}{w:World}{base:Nat}{sp:Nat→Bool}{held:Bool}(m:Nat)(cs:List Value)(y:DataW H × List MemPlace)
 (h:DataW.trod enc Tryz.prog w base sp held m 29 cs=some y) : ∃b:Bl.Bal,cs=(Bl.cells b).toList∧b.Fits:=by
 obtain⟨ys,n,_,_,hl,hlen,hat⟩:=DataW.trod_struct Tryz.underlying29 h
 have hce:Tryz.prog.cellsOf 29=2:=by kernel_rfl
 have hci:Tryz.prog.cellsOf 3=1:=by kernel_rfl
 have g0:=hat 0 _ rfl
 have g1:=hat 1 _ rfl
 rw[List.getElem?_eq_getElem (by rw[hlen];simp)]at g0 g1
 obtain⟨r,e0,a0,b0⟩:=one_int Tryz.underlying3 g0 hci
 obtain⟨nd,e1,a1,b1⟩:=one_int Tryz.underlying3 g1 hci
 rw[hce]at hl
 match cs,hl with
 | [c0,c1],_ =>
  simp at e0 e1
  subst e0 e1
  exact⟨⟨r,nd⟩,rfl,⟨a0,b0,a1,b1⟩⟩
abbrev ReadsB(w:World)(v:Value)(l:List Bl.Bal):Prop:=ReadsR w v 2 (l.map Bl.cells)
theorem ReadsB.places{w:World}{ao:Option Addr}{n cap:Nat}{l:List Bl.Bal}(h:ReadsB w (.slice ao n cap) l)(hl:0<l.length) :
 ∃b off,ao=some ⟨b,off,none⟩∧b<w.heap.size ∧ ∀w', Below w.heap.size w w' → ∀i c,l[i]? = some c→w'.cell? ⟨b,off+i*2,none⟩=some (.int .i64 c.round)∧w'.cell? ⟨b,off+i*2+1,none⟩=some (.int .i64 c.node):=by
 obtain⟨b,off,e,hlt,hc⟩:=ReadsR.places h (r0:=Bl.cells (l[0]'hl)) (u0 := .int .i64 (l[0]'hl).round) (by rw[List.getElem?_map,List.getElem?_eq_getElem hl];rfl) rfl
 refine⟨b,off,e,hlt,fun w' hb i c hi=>⟨?_, ?_⟩⟩
 ·exact hc w' hb i (Bl.cells c) (by rw[List.getElem?_map,hi];rfl) 0 _ rfl
 ·exact hc w' hb i (Bl.cells c) (by rw[List.getElem?_map,hi];rfl) 1 _ rfl
theorem run_rest_bal(w:World)(ao:Option Addr)(n cap f:Nat)(hf:f≤n) :
 (Instr.slice 182 (.slice ao n cap) (some (.int .i64 (f:Int))) none none).run Tryz.prog w = .ok (sliced ao f n cap 2) w:=by
 have he:Tryz.prog.elem 182=29:=by kernel_rfl
 have hi:(Tryz.prog.info? 29).isSome=true:=by kernel_rfl
 obtain⟨i,hi⟩:=Option.isSome_iff_exists.1 hi
 have hrun:=run_slice_l (P:=Tryz.prog) (w:=w) 182 ao n cap (by rw[he];exact Tryz.underlying182) .i64 (f:Int) (by omega) (by omega)
 rw[he]at hrun
 refine hrun.trans ?_
 rw[run_sizeOf _ hi,show Tryz.prog.cellsOf 29=2 by kernel_rfl]
 simp only[Result.andThen,Int.toNat_natCast]
namespace Cm
end Cm
abbrev PowIn(w:World):Prop:=Lib.TabIs Tryz.prog w "internal/strconv.uint64pow10" .u64 Lib.pow10Tab
theorem PowIn.below{w w' : World}(h:PowIn w)(hb:Below w.heap.size w w'):PowIn w' := var_below h hb
theorem bwithin_any(n m:Int)(w:World):Calls Tryz.prog 158 #[.int .i64 n, .int .i64 m] w (Says w (.bool (Bl.within n m))):=by
 by_cases h1:1≤n
 ·have d1:decide (1≤n)=true:=decide_eq_true h1
  by_cases h2:n≤m
  ·have d2:decide (n≤m)=true:=decide_eq_true h2
   go_enter Tryz.func158,Tryz.ntmps158
   go_wp2
   go_ret
   exact⟨by simp[Bl.within,d1,d2],rfl⟩
  ·have d2:decide (n≤m)=false:=decide_eq_false h2
   go_enter Tryz.func158,Tryz.ntmps158
   go_wp2
   go_ret
   exact⟨by simp[Bl.within,d1,d2],rfl⟩
 ·have d1:decide (1≤n)=false:=decide_eq_false h1
  go_enter Tryz.func158,Tryz.ntmps158
  go_wp2
  go_ret
  exact⟨by simp[Bl.within,d1],rfl⟩
theorem bmay_any(b:Bl.Bal)(w:World):Calls Tryz.prog 120 #[.agg (Bl.cells b)] w (Looks w (.bool (Bl.may b))):=by
 obtain⟨w1,e1,hl1,hB1,hz1⟩:=box_bal w b
 obtain⟨p0,p1⟩:=Bals.both hl1
 have HB1:=Lib.hid hB1
 have heq:=fun W=>run_eql_bal W b Bl.zero
 have hgd:=guard_bal
 obtain⟨t,ht⟩ : ∃t,t=decide (b=Bl.zero):=⟨_,rfl⟩
 rw[← ht]at heq
 have HT:=Lib.hid ht
 obtain⟨r,hr⟩ : ∃r,r=Bl.within b.round 4294967296:=⟨_,rfl⟩
 obtain⟨n,hn⟩ : ∃n,n=Bl.within b.node 9:=⟨_,rfl⟩
 have HM:Hid (Bl.may b=(t || (r && n))):=by show _=_;rw[ht,hr,hn];rfl
 have HR:=Lib.hid hr
 have HN:=Lib.hid hn
 clear ht hr hn hl1 hB1 hz1
 dsimp only [Bl.cells,Bl.zero]at heq
 go_enter Tryz.func120,Tryz.ntmps120
 cases t with
 | true =>
  go_wp2
  go_ret
  exact⟨by rw[HM.out];rfl,HB1.out⟩
 | false =>
  go_wp2_with fail
  refine(bwithin_any b.round 4294967296 _).mono ?_
  rintro e w2 ⟨rfl,rfl⟩
  rw[← HR.out]
  cases r with
  | false =>
   go_wp2
   go_ret
   exact⟨by rw[HM.out];rfl,HB1.out⟩
  | true =>
   go_wp2_with fail
   refine(bwithin_any b.node 9 _).mono ?_
   rintro e w2 ⟨rfl,rfl⟩
   rw[← HN.out]
   go_wp2
   go_ret
   exact⟨by rw[HM.out];rfl,HB1.out⟩
theorem bless_any(a b:Bl.Bal)(w:World):Calls Tryz.prog 123 #[.agg (Bl.cells a), .agg (Bl.cells b)] w (Looks w (.bool (Bl.less a b))):=by
 obtain⟨w1,e1,hl1,hl2,hB1,hz1⟩:=box_bals w a b
 obtain⟨p0,p1⟩:=Bals.both hl1
 obtain⟨q0,q1⟩:=Bals.both hl2
 have HB1:=Lib.hid hB1
 clear hl1 hl2 hB1 hz1
 by_cases h:a.round=b.round
 ·have hne:(a.round != b.round)=false:=by simpa using h
  have HL:Hid (Bl.less a b=decide (a.node<b.node)):=if_pos h
  clear h
  go_enter Tryz.func123,Tryz.ntmps123
  go_wp2
  go_ret
  exact⟨ret_bool HL.out.symm,HB1.out⟩
 ·have hne:(a.round != b.round)=true:=by simpa using h
  have HL:Hid (Bl.less a b=decide (a.round<b.round)):=if_neg h
  clear h
  go_enter Tryz.func123,Tryz.ntmps123
  go_wp2
  go_ret
  exact⟨ret_bool HL.out.symm,HB1.out⟩
end Go.Proofs.YtdkdjofnnnljjaaGreatDoor

namespace Go.Proofs.YtdkdjofnnnljjaaGreatDoor
open Go.RowKit
set_option maxHeartbeats 1600000
section
abbrev Ents(w:World)(g:Nat)(e:En.Ent):Prop:=Lies w g 129 (En.cells e)
structure EntAt(w:World)(g o:Nat)(e:En.Ent):Prop where
 c0:w.cell? ⟨g,o,none⟩=some (.int .i64 e.index)
 c1:w.cell? ⟨g,o+1,none⟩=some (.int .i64 e.bal.round)
 c2:w.cell? ⟨g,o+2,none⟩=some (.int .i64 e.bal.node)
 c3:w.cell? ⟨g,o+3,none⟩=some (.int .i64 e.cmd.kind)
 c4:w.cell? ⟨g,o+4,none⟩=some (.int .i64 e.cmd.client)
 c5:w.cell? ⟨g,o+5,none⟩=some (.int .i64 e.cmd.seq)
 c6:w.cell? ⟨g,o+6,none⟩=some (.string ⟨e.cmd.key.toArray⟩)
 c7:w.cell? ⟨g,o+7,none⟩=some (.string ⟨e.cmd.val.toArray⟩)
 c8:w.cell? ⟨g,o+8,none⟩=some (.string ⟨e.cmd.old.toArray⟩)
 c9:w.cell? ⟨g,o+9,none⟩=some (.int .i64 e.cmd.node)
theorem EntAt.of{w:World}{g o:Nat}{e:En.Ent}(h : ∀j u,(En.cells e)[j]? = some u→w.cell? ⟨g,o+j,none⟩=some u):EntAt w g o e :=
 ⟨h 0 _ rfl,h 1 _ rfl,h 2 _ rfl,h 3 _ rfl,h 4 _ rfl,h 5 _ rfl,h 6 _ rfl,h 7 _ rfl,h 8 _ rfl,h 9 _ rfl⟩
theorem Ents.ten{w:World}{g:Nat}{e:En.Ent}(h:Ents w g e):w.cell? ⟨g,0,none⟩=some (.int .i64 e.index)∧w.cell? ⟨g,1,none⟩=some (.int .i64 e.bal.round)∧w.cell? ⟨g,2,none⟩=some (.int .i64 e.bal.node)∧w.cell? ⟨g,3,none⟩=some (.int .i64 e.cmd.kind)∧w.cell? ⟨g,4,none⟩=some (.int .i64 e.cmd.client)∧w.cell? ⟨g,5,none⟩=some (.int .i64 e.cmd.seq)∧w.cell? ⟨g,6,none⟩=some (.string ⟨e.cmd.key.toArray⟩)∧w.cell? ⟨g,7,none⟩=some (.string ⟨e.cmd.val.toArray⟩)∧w.cell? ⟨g,8,none⟩=some (.string ⟨e.cmd.old.toArray⟩)∧w.cell? ⟨g,9,none⟩=some (.int .i64 e.cmd.node) :=
 ⟨h.cell 0 _ rfl,h.cell 1 _ rfl,h.cell 2 _ rfl,h.cell 3 _ rfl,h.cell 4 _ rfl,h.cell 5 _ rfl,h.cell 6 _ rfl,h.cell 7 _ rfl,h.cell 8 _ rfl,h.cell 9 _ rfl⟩
theorem guard_ent : Tryz.prog.eqGuardType Tryz.prog.depth 129=false:=by kernel_rfl
theorem En.ext_iff(a b:En.Ent):a=b↔a.index=b.index∧a.bal.round=b.bal.round∧a.bal.node=b.bal.node∧a.cmd.kind=b.cmd.kind∧a.cmd.client=b.cmd.client∧a.cmd.seq=b.cmd.seq∧a.cmd.key=b.cmd.key∧a.cmd.val=b.cmd.val∧a.cmd.old=b.cmd.old∧a.cmd.node=b.cmd.node:=by
 obtain⟨i,⟨r,n⟩,k,cl,sq,nd,ky,od,vl⟩:=a
 obtain⟨i', ⟨r', n'⟩,k', cl', sq', nd', ky', od', vl'⟩:=b
 simp only[En.Ent.mk.injEq,Bl.Bal.mk.injEq,Cm.Cmd.mk.injEq]
 grind
theorem run_neq_ent(w:World)(a b:En.Ent):(binOp .neq 129 (.agg (En.cells a)) (.agg (En.cells b))).run Tryz.prog w = .ok (.bool (!decide (a=b))) w:=by
 have hu:=Tryz.underlying129
 have hb:=Tryz.underlying29
 have hc:=Tryz.underlying40
 rw[show decide (a=b)=decide (a.index=b.index∧a.bal.round=b.bal.round∧a.bal.node=b.bal.node∧a.cmd.kind=b.cmd.kind∧a.cmd.client=b.cmd.client∧a.cmd.seq=b.cmd.seq∧a.cmd.key=b.cmd.key∧a.cmd.val=b.cmd.val∧a.cmd.old=b.cmd.old∧a.cmd.node=b.cmd.node)from decide_eq_decide.2 (En.ext_iff a b)]
 obtain⟨i,⟨r,n⟩,k,cl,sq,nd,ky,od,vl⟩:=a
 obtain⟨i', ⟨r', n'⟩,k', cl', sq', nd', ky', od', vl'⟩:=b
 dsimp only [En.cells]
 go_simp
 repeat' split
 all_goals simp_all
theorem box_ent(w:World)(e:En.Ent) : ∃w1,w.alloc (.cells (En.cells e) 129)=w1∧Ents w1 w.heap.size e∧Below w.heap.size w w1∧w1.heap.size=w.heap.size+1 :=
 ⟨_,rfl,Lies.new w _ _,(Below.refl _ w).alloc (Nat.le_refl _) _,by simp⟩
theorem En.cells_one(e:En.Ent):(En.cells e).size=10∧(En.cells e).all (·.oneCell')=true:=⟨rfl,by simp[En.cells,Value.oneCell']⟩
theorem En.sized(l:List En.Ent):Sized 10 (l.map En.cells):=Sized.map En.cells_one l
theorem run_entry(w:World)(g:Nat)(e:En.Ent)(h:Ents w g e):(loadVar 129 ⟨g,0,none⟩).run Tryz.prog w = .ok (.agg (En.cells e)) w :=
 run_loadVar_row w g _ _ (En.cells e) (0,0) _ h Tryz.underlying129 rfl (by kernel_rfl)
theorem ret_ent2{fn:Func}{R:Ending→World→Prop}{a:Act}{w:World}{p u:Tmp}{g:Nat}{e:En.Ent}(h:fn.results = #[.cell p 129, .tmp u])(hp:a.tmps.getD p undef = .pointer (some ⟨g,0,none⟩))
 (hl:Ents w g e) (hd:a.defers = []) (hR:R (.returned (.tuple #[.agg (En.cells e),a.tmps.getD u undef])) w):bodyPost Tryz.prog fn R .ret a w:=by
 refine bodyPost_ret ?_ hd hR
 rw[results_two h,hp]
 simp[asAddr,Result.andThen,run_entry w g e hl]
theorem En.cells_at(e:En.Ent)(j:Nat)(h:j<10) : ∃v,(En.cells e)[j]? = some v:=⟨_,Array.getElem?_eq_getElem (show j<(En.cells e).size from h)⟩
theorem store_ent{ops:Array Oper}{rest:List Oper}{op:Oper}{a:Act}{w:World}{Q:Exit→Act→World→Prop}(hgd:op.guard=none)(x y:Operand)(ho:op.op = .store 129 x y)
 (g:Nat) (e0 e:En.Ent) (hx:a.eval x = .pointer (some ⟨g,0,none⟩)) (hy:a.eval y = .agg (En.cells e)) (hl:Ents w g e0)
 (h : ∀w', Ents w' g e→w.grownBy w' (some g)→wpList Tryz.prog ops Q rest (a.put op.dst undef) w'):wpList Tryz.prog ops Q (op :: rest) a w:=by
 have h0 : ∀j,j<10→(w.cell? ⟨g,j,none⟩).isSome=true:=by
  intro j hj
  obtain⟨v,hv⟩:=En.cells_at e0 j hj
  rw[hl.cell j v hv];rfl
 have hone:=(En.cells_one e).2
 have hf:=hl.free
 refine wpList_store_mid hgd _ x y ho g 0 (En.cells e) hx hy (fun j hj => ?_) (by kernel_rfl) hone (h _ (Lies.whole hl rfl) (grown_sets g _ _ _))
 rw[Nat.zero_add]
 exact⟨h0 j hj,hf j⟩
theorem load_ent{ops:Array Oper}{rest:List Oper}{op:Oper}{a:Act}{w:World}{Q:Exit→Act→World→Prop}(hgd:op.guard=none)(x:Operand)(ho:op.op = .load 129 x)
 (g o:Nat) (e:En.Ent) (hx:a.eval x = .pointer (some ⟨g,o,none⟩)) (hl:EntAt w g o e)
 (h:wpList Tryz.prog ops Q rest (a.put op.dst (.agg (En.cells e))) w):wpList Tryz.prog ops Q (op :: rest) a w :=
 wpList_load_mid hgd _ x ho g o hx (En.cells e).toList _ (fun j v hv=>by
  match j with
  | 0=>simp[En.cells]at hv;subst hv;exact hl.c0
  | 1=>simp[En.cells]at hv;subst hv;exact hl.c1
  | 2=>simp[En.cells]at hv;subst hv;exact hl.c2
  | 3=>simp[En.cells]at hv;subst hv;exact hl.c3
  | 4=>simp[En.cells]at hv;subst hv;exact hl.c4
  | 5=>simp[En.cells]at hv;subst hv;exact hl.c5
  | 6=>simp[En.cells]at hv;subst hv;exact hl.c6
  | 7=>simp[En.cells]at hv;subst hv;exact hl.c7
  | 8=>simp[En.cells]at hv;subst hv;exact hl.c8
  | 9=>simp[En.cells]at hv;subst hv;exact hl.c9
  | j+10=>simp[En.cells]at hv) Tryz.underlying129 rfl (by kernel_rfl) h
section
variable {H : Type} {enc : TypeId × Value → H} {w : World} {b0 base : Nat} {held : Bool}
abbrev ReadsE(w:World)(v:Value)(l:List En.Ent):Prop:=ReadsR w v 10 (l.map En.cells)
end
theorem ReadsE.shape{w:World}{v:Value}{l:List En.Ent}(h:ReadsE w v l) : ∃ao cap,v = .slice ao l.length cap∧l.length≤cap∧cap≤9223372036854775807:=by
 obtain⟨ao,cap,h1,h2,h3⟩:=ReadsR.shape h
 rw[List.length_map]at h1 h2
 exact⟨ao,cap,h1,h2,h3⟩
theorem ReadsE.places{w:World}{ao:Option Addr}{n cap:Nat}{l:List En.Ent}(h:ReadsE w (.slice ao n cap) l)(hl:0<l.length) :
 ∃b off,ao=some ⟨b,off,none⟩∧b<w.heap.size ∧ ∀w', Below w.heap.size w w' → ∀i e,l[i]? = some e→EntAt w' b (off+i*10) e:=by
 obtain⟨b,off,e,hlt,hc⟩:=ReadsR.places h (r0:=En.cells (l[0]'hl)) (u0 := .int .i64 (l[0]'hl).index) (by rw[List.getElem?_map,List.getElem?_eq_getElem hl];rfl) rfl
 refine⟨b,off,e,hlt,fun w' hb i c hi=>EntAt.of fun j u hu => ?_⟩
 have:=hc w' hb i (En.cells c) (by rw[List.getElem?_map,hi];rfl) j u hu
 rwa[← Nat.add_assoc]at this
theorem info_ent : (Tryz.prog.info? 129).map (fun i=>(i.zero,i.size,i.bytes))=some (some (.agg (En.cells En.zero)),10,104):=by kernel_rfl
theorem ReadsE.kept_of{w w' : World}{b:Nat}{T:TypeId}{vs:Array Value}{v:Value}{l:List En.Ent}(h:ReadsE w v l)(hl:Lies w b T vs)(hno : ∀(j:Nat) (x:ByteArray),vs[j]? ≠ some (.string x))(hg:w.grownBy w' (some b)):ReadsE w' v l:=by
 cases l with
 | nil =>
  obtain⟨ao,cap,rfl,h1,h2,h3,h4⟩:=h
  exact⟨ao,cap,rfl,h1,h2,h3,fun x hx i r hr=>by simp at hr⟩
 | cons e t =>
  obtain⟨ao,cap,rfl,h1,h2,h3,h4⟩:=h
  refine⟨ao,cap,rfl,h1,h2,h3,fun x hx i r hr j u hu => ?_⟩
  have hc:=h4 x hx i r hr j u hu
  have hs:w.cell? (x.add (0*10+6))=some (.string ⟨e.cmd.key.toArray⟩):=h4 x hx 0 (En.cells e) rfl 6 _ rfl
  rw[← hc]
  refine World.cell?_of_block ?_
  have hlt:=World.block_lt_of_cell? w _ hc
  rw[add_block]at hlt ⊢
  refine hg.block _ hlt ?_
  intro hb
  obtain⟨blk,off,spot⟩:=x
  obtain rfl:blk=b:=by simpa using hb
  have hadd:(Addr.add ⟨blk,off,spot⟩ (0*10+6))=⟨blk,off+6,none⟩:=by simp[Addr.add]
  rw[hadd]at hs
  have hl' : w.heap[blk]? = some (.cells vs T (0,0)):=hl
  simp only[World.cell?,hl']at hs
  exact hno _ _ (by simpa using hs)
end
end Go.Proofs.YtdkdjofnnnljjaaGreatDoor
