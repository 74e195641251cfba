/- Log files read: the two numbers of a first frame, the frames one behind the other, the records. Written by wip/tools/genread20.py. -/
import Derived.Test.YtdkdjofnnnljjaaGreatDoorPSgHead
import Derived.Test.YtdkdjofnnnljjaaGreatDoorGHc
import Derived.Test.YtdkdjofnnnljjaaGreatDoorGFt
namespace Go.Proofs.YtdkdjofnnnljjaaGreatDoor
open Go.RowKit
set_option maxHeartbeats 6400000
set_option maxRecDepth 8000
section
theorem numbersSg_any(u:Value)(y:List UInt8)(w:World)(hu:Reads w u y)(hy:y.length≤70368744177664) :
 Calls Tryz.prog 80 #[u] w (Looks w (.tuple #[.int .i64 (Sg.numbers y).1, .int .i64 (Sg.numbers y).2.1, .int .i64 (Sg.numbers y).2.2])):=by
 have hnew:=newreader_any u y w w.heap.size (Nat.le_refl _) hu hy
 obtain⟨k1,q1,e1,h1,hx1,hk0,hk1⟩:=Cm.rnum_res y 0 0
 obtain⟨k2,q2,e2,h2,hx2,hk2,hk3⟩:=Cm.rnum_res y q1 e1
 have g1:Sg.n1 y=(k1,(q1:Int),e1):=h1
 have g2:Sg.n2 y=(k2,(q2:Int),e2):=by unfold Sg.n2;rw[g1];exact h2
 obtain⟨d,hd⟩ : ∃d,d=Cm.done y q2 e2:=⟨_,rfl⟩
 obtain⟨z,hz⟩ : ∃z,z=Vs.opens 2 k1:=⟨_,rfl⟩
 obtain⟨r,hr⟩ : ∃r,r=Sg.numbers y:=⟨_,rfl⟩
 have HR:Hid (r=if d≠0 then (0,0,d)else if z≠0 then (0,0,z)else (k1,k2,0)):=by
  show _=_
  rw[hr]
  unfold Sg.numbers Sg.nd
  rw[g2,g1]
  dsimp only
  rw[Int.toNat_natCast, ← hd, ← hz]
 rw[← hr]
 have HNEW:=Lib.hid hnew;have H1:=Lib.hid h1;have H2:=Lib.hid h2
 have HD:Hid (d=Pk.done y q2 e2):=hd
 have HCF:Hid (∀W,Calls Tryz.prog 84 #[.int .i64 k1] W (Says W (.int .i64 z))):=by
  intro W
  rw[hz]
  exact checkFormat_any k1 W
 obtain⟨uo,uc,rfl⟩:=hu.shape
 clear hnew h1 h2 g1 g2 hd hz hr hu hy
 go_enter Tryz.func80,Tryz.ntmps80
 go_wp2_with fail
 refine HNEW.out.mono ?_
 rintro e w1 ⟨o,v,rfl,ho,hr1,hb1⟩
 have HR1:=Lib.hid hr1;have HB1:Hid (Below w.heap.size w w1):=hb1
 have HO:Hid (w.heap.size≤o):=ho
 clear hr1 hb1 ho HNEW
 go_wp2_with fail
 refine(rnumber_any _ w.heap.size o v y 0 0 k1 q1 e1 HR1.out hx1 H1).mono ?_
 rintro e w2 ⟨rfl,hr2,hg2⟩
 have HR2:=Lib.hid hr2
 have HB2:Hid (Below w.heap.size w w2):=HB1.out.grown hg2 HB1.out.size (by rintro j hj;cases hj;exact HO.out)
 clear hr2 hg2 hx1
 go_wp2_with fail
 refine(rnumber_any _ w.heap.size o v y q1 e1 k2 q2 e2 HR2.out hx2 H2).mono ?_
 rintro e w3 ⟨rfl,hr3,hg3⟩
 have HR3:=Lib.hid hr3
 have HB3:Hid (Below w.heap.size w w3):=HB2.out.grown hg3 HB2.out.size (by rintro j hj;cases hj;exact HO.out)
 clear hr3 hg3 hx2
 go_wp2_with fail
 refine(rdone_any _ w.heap.size o v y q2 e2 HR3.out).mono ?_
 rintro e w4 ⟨rfl,q,rfl⟩
 rw[← HD.out]
 have HB4:Hid (Below w.heap.size w (w3.drewN q)):=HB3.out.trans ((drawn w3 q).mono HB3.out.size)
 generalize w3.drewN q=w4 at HB4 ⊢
 by_cases h0:d=0
 ·subst h0
  have HR5:=Lib.hid (HR.out.trans (if_neg (by simp)))
  go_wp2_with fail
  refine(HCF.out w4).mono ?_
  rintro e w5 ⟨rfl,rfl⟩
  by_cases hz:z=0
  ·subst hz
   have HR6:Hid (r=(k1,k2,0)):=HR5.out.trans (if_neg (by simp))
   go_wp2
   go_ret3
   rw[HR6.out]
   exact⟨rfl,HB4.out⟩
  ·have hne:(z != 0)=true:=by simpa using hz
   have HR6:Hid (r=(0,0,z)):=HR5.out.trans (if_pos hz)
   clear hz
   go_wp2
   go_ret3
   rw[HR6.out]
   exact⟨rfl,HB4.out⟩
 ·have hne:(d != 0)=true:=by simpa using h0
  have HR5:Hid (r=(0,0,d)):=HR.out.trans (if_pos h0)
  clear h0
  go_wp2
  go_ret3
  rw[HR5.out]
  exact⟨rfl,HB4.out⟩
abbrev Sg.nextF(gb ga:Nat):Value := .func (.func 110) #[] #[.pointer (some ⟨gb,0,none⟩), .pointer (some ⟨ga,0,none⟩)]
def SgFrames(w:World)(u:Value)(e:Ending)(w' : World):Prop :=
 ∃gb ga,e = .returned (Sg.nextF gb ga)∧gb≠ga∧w.heap.size≤gb∧w.heap.size≤ga∧Lies w' gb 30 #[u]∧Lies w' ga 3 #[.int .i64 ((0:Nat):Int)]∧Below w.heap.size w w'
theorem framesSg_any(uo:Option Addr)(un uc:Nat)(w:World):Calls Tryz.prog 79 #[.slice uo un uc] w (SgFrames w (.slice uo un uc)):=by
 have hmf : ∀(fn:Fn) (first cap:Array Value) (w:World),(Instr.makeFunc fn first cap).run Tryz.prog w = .ok (.func fn first cap) w:=fun _ _ _ _=>rfl
 obtain⟨w1,e1,l1,b1,z1⟩ : ∃w1,w.alloc (.cells #[.slice uo un uc] 30)=w1∧Lies w1 w.heap.size 30 #[.slice uo un uc]∧Below w.heap.size w w1∧w1.heap.size=w.heap.size+1:=⟨_,rfl,Lies.new _ _ _,(Below.refl _ w).alloc (Nat.le_refl _) _,by simp⟩
 obtain⟨w2,e2,l2,b2,z2⟩ : ∃w2,w1.alloc (.cells #[.int .i64 0] 3)=w2∧Lies w2 w1.heap.size 3 #[.int .i64 ((0:Nat):Int)]∧Below w1.heap.size w1 w2∧w2.heap.size=w1.heap.size+1:=⟨_,rfl,Lies.new _ _ _,(Below.refl _ w1).alloc (Nat.le_refl _) _,by simp⟩
 have L1:=Lib.hid (l1.below b2 l1.lt);have L2:Hid (Lies w2 w1.heap.size 3 #[.int .i64 0]):=l2
 have HB:Hid (Below w.heap.size w w2):=b1.trans (b2.mono b1.size)
 have HZ:Hid (w1.heap.size=w.heap.size+1):=z1
 clear l1 l2 b1 b2 z1 z2
 go_enter Tryz.func79,Tryz.ntmps79
 go_wp2_with (first
  | (refine store_part (by rfl) _ _ _ (by rfl) w1.heap.size 0 _ _ #[.int .i64 0] (.int .i64 0) [.int .i64 0] (by rfl) (by rfl) (by rfl) (by kernel_rfl) (by rfl) L2.out (Nat.le_of_ble_eq_true rfl) (by rfl) ?_
     intro w3 hl3 hg3
     have HL3:=Lib.hid hl3;have HG3:=Lib.hid hg3
     clear hl3 hg3)
  | fail)
 go_ret
 have hz:=HZ.out
 exact⟨_,_,rfl,by omega,Nat.le_refl _,by omega,L1.out.kept HG3.out (by simp;omega),HL3.out,HB.out.grown HG3.out HB.out.size (by rintro j hj;cases hj;omega)⟩
def SgNext(w:World)(ga:Nat)(y:List UInt8)(c:Nat)(e:Ending)(w' : World):Prop :=
 ∃v,e = .returned (.tuple #[v, .int .i64 (c:Int), .bool true])∧Owns w' w.heap.size 5 v y∧Lies w' ga 3 #[.int .i64 (c:Int)]∧w.grownBy w' (some ga)
theorem nextSg_ok(u:Value)(b:List UInt8)(a:Nat)(w:World)(gb ga:Nat)(y:List UInt8)(c:Nat)(hT:CrcTab w)(hu:Reads w u b)(hlen:b.length≤140737487000000)(lb:Lies w gb 30 #[u])(la:Lies w ga 3 #[.int .i64 (a:Int)])(hn:Frm.next b (a:Int)=(y,(c:Int),0)) :
 Calls Tryz.prog 110 #[.pointer (some ⟨gb,0,none⟩), .pointer (some ⟨ga,0,none⟩)] w (SgNext w ga y c):=by
 have hx:=next_any u b (a:Int) w hu hT hlen
 rw[hn]at hx
 have HX:=Lib.hid hx
 obtain⟨c0,hc0,_,_,hy0,_⟩:=Frm.next_ok hn
 have HY:Hid (0<y.length):=hy0
 obtain⟨uo,uc,rfl⟩:=hu.shape
 obtain⟨un,hun⟩ : ∃un,un=b.length:=⟨_,rfl⟩
 rw[← hun]at HX lb
 have p0:w.cell? ⟨gb,0,none⟩=some (.slice uo un uc):=lb.cell 0 _ rfl
 have p1:w.cell? ⟨ga,0,none⟩=some (.int .i64 (a:Int)):=la.cell 0 _ rfl
 have HLA:=Lib.hid la
 clear hx hc0 hy0 hu hT hlen lb la hn hun
 go_enter Tryz.func110,Tryz.ntmps110
 go_wp2_with fail
 refine HX.out.mono ?_
 rintro e w1 ⟨v,rfl,ho1,hb1⟩
 dsimp only at ho1 ⊢
 obtain⟨vo,vc,hsh⟩:=ho1.reads.shape
 obtain⟨vn,hvn⟩ : ∃vn,vn=y.length:=⟨_,rfl⟩
 rw[← hvn]at hsh
 subst hsh
 have HL1:=Lib.hid (HLA.out.below hb1 HLA.out.lt)
 have HO1:=Lib.hid ho1;have HB1:=Lib.hid hb1
 clear ho1 hb1 hvn p0 p1
 go_wp2_with (first
  | (refine store_part (by rfl) _ _ _ (by rfl) ga 0 _ _ #[.int .i64 (c:Int)] (.int .i64 (c:Int)) [.int .i64 (c:Int)] (by rfl) (by rfl) (by rfl) (by kernel_rfl) (by rfl) HL1.out (Nat.le_of_ble_eq_true rfl) (by rfl) ?_
     intro w2 hl2 hg2
     have HL2:=Lib.hid hl2;have HG2:=Lib.hid hg2
     clear hl2 hg2)
  | fail)
 go_ret3
 refine⟨_,rfl, ?_,HL2.out, ?_⟩
 ·refine HO1.out.grown HG2.out (.inr fun h => ?_)
  exact HL1.out.not_row (by decide) HO1.out h.symm
 ·exact grown_on (World.grownBy.mk HB1.out.os HB1.out.tape HB1.out.output HB1.out.size fun k hk _=>HB1.out.block k hk) HG2.out
theorem nextSg_no(u:Value)(b:List UInt8)(a:Nat)(w:World)(gb ga:Nat)(hT:CrcTab w)(hu:Reads w u b)(hlen:b.length≤140737487000000)(lb:Lies w gb 30 #[u])(la:Lies w ga 3 #[.int .i64 (a:Int)])(hn:(Frm.next b (a:Int)).2.2≠0) :
 Calls Tryz.prog 110 #[.pointer (some ⟨gb,0,none⟩), .pointer (some ⟨ga,0,none⟩)] w (Looks w (.tuple #[.slice none 0 0, .int .i64 0, .bool false])):=by
 have hx:=next_any u b (a:Int) w hu hT hlen
 obtain⟨z,hz⟩ : ∃z,z=(Frm.next b (a:Int)).2.2:=⟨_,rfl⟩
 have HX:Hid (Calls Tryz.prog 111 #[u, .int .i64 (a:Int)] w (fun e w' => ∃v c,e = .returned (.tuple #[v, .int .i64 c, .int .i64 z])∧(∃o n k,v = .slice o n k)∧Below w.heap.size w w')):=by
  refine hx.mono ?_
  rintro e w' ⟨v,rfl,ho,hb⟩
  obtain⟨o,k,rfl⟩:=ho.reads.shape
  exact⟨_,_,by rw[hz],⟨_,_,_,rfl⟩,hb⟩
 rw[← hz]at hn
 obtain⟨uo,uc,rfl⟩:=hu.shape
 obtain⟨un,hun⟩ : ∃un,un=b.length:=⟨_,rfl⟩
 rw[← hun]at HX lb
 have p0:w.cell? ⟨gb,0,none⟩=some (.slice uo un uc):=lb.cell 0 _ rfl
 have p1:w.cell? ⟨ga,0,none⟩=some (.int .i64 (a:Int)):=la.cell 0 _ rfl
 have hne:(z != 0)=true:=by simpa using hn
 clear hx hu hT hlen lb la hn hun hz
 go_enter Tryz.func110,Tryz.ntmps110
 go_wp2_with fail
 refine HX.out.mono ?_
 rintro e w1 ⟨v,c,rfl,⟨vo,vn,vk,rfl⟩,hb1⟩
 have HB1:=Lib.hid hb1
 clear hb1 p0 p1
 go_wp2
 go_ret3
 exact⟨rfl,HB1.out⟩
def SgAny(b:List UInt8)(a:Nat)(w:World)(ga:Nat)(e:Ending)(w' : World):Prop :=
 ∃(v:Value) (n:Int) (tt:Bool),e = .returned (.tuple #[v, .int .i64 n, .bool tt])∧w.grownBy w' (some ga) ∧
  ((tt=true ∧ ∃(y:List UInt8) (c:Nat),Frm.next b (a:Int)=(y,(c:Int),0)∧n=(c:Int)∧Reads w' v y∧Lies w' ga 3 #[.int .i64 (c:Int)])∨(tt=false∧(Frm.next b (a:Int)).2.2≠0))
theorem nextSg_any(u:Value)(b:List UInt8)(a:Nat)(w:World)(gb ga:Nat)(hT:CrcTab w)(hu:Reads w u b)(hlen:b.length≤140737487000000)(lb:Lies w gb 30 #[u])(la:Lies w ga 3 #[.int .i64 (a:Int)]) :
 Calls Tryz.prog 110 #[.pointer (some ⟨gb,0,none⟩), .pointer (some ⟨ga,0,none⟩)] w (SgAny b a w ga):=by
 obtain⟨y,e0,z,hn⟩ : ∃y e z,Frm.next b (a:Int)=(y,e,z):=⟨_,_,_,rfl⟩
 by_cases h0:z=0
 ·subst h0
  obtain⟨c,rfl,_⟩:=Frm.next_ok hn
  refine(nextSg_ok u b a w gb ga y c hT hu hlen lb la hn).mono ?_
  rintro e w' ⟨v,rfl,ho,hl,hg⟩
  exact⟨v,_,true,rfl,hg, .inl ⟨rfl,y,c,hn,rfl,ho.reads,hl⟩⟩
 ·refine(nextSg_no u b a w gb ga hT hu hlen lb la (by rw[hn];exact h0)).mono ?_
  rintro e w' ⟨rfl,hb⟩
  exact⟨_,_,false,rfl,⟨hb.os,hb.tape,hb.output,hb.size,fun k hk _=>hb.block k hk⟩, .inr ⟨rfl,by rw[hn];exact h0⟩⟩
abbrev RecsY(w:World)(base:Nat)(v:Value)(l:List Re.Rec):Prop:=ListO 12 Re.cells Re.Rec.img (fun _ t=>t=5) w base 42 v l
section
variable {w w' W : World} {base : Nat} {v : Value} {l : List Re.Rec}
theorem RecsY.reads(h:RecsY w base v l):RecsP (fun _ t=>t=5∨t=42) w v l :=
 ListO.reads (ListO.imp h fun _ _ _ _ _ e => .inl e) cellR_ok fun _ _ => .inr rfl
theorem RecsY.shape(h:RecsY w base v l) : ∃o c,v = .slice o l.length c:=by
 obtain⟨ps,e,h1,_⟩:=h
 obtain⟨a,c,e2⟩:=OwnsR.shape h1
 rw[rowsOf_len, ← e]at e2
 exact⟨a,c,e2⟩
theorem RecsY.not(h:RecsY w base v l){b:Nat}{T:TypeId}{cs:Array Value}(hl:Lies w b T cs)(hT:T≠42):some b≠v.ownBlock:=fun e=>by
 obtain⟨cs', hc,_⟩:=ListO.blocks h e.symm
 have hl' : w.heap[b]? = some (.cells cs T (0,0)):=hl
 rw[hl']at hc
 simp only[Option.some.injEq,Obj.cells.injEq]at hc
 exact hT hc.2.1
theorem RecsY.other(h:RecsY w base v l){b:Nat}{T:TypeId}{cs:Array Value}(hl:Lies w b T cs)(hT:T≠42)(hT2:T≠5)(hg:w.grownBy w' (some b)):RecsY w' base v l:=by
 refine ListO.stays h (fun g e => ?_) (Keep.of_grown hg fun g cs' t fr e hc ht => ?_)
 ·obtain⟨cs', hc,_⟩:=ListO.blocks h e
  exact hg.block g (lt_of_obj hc) fun e2=>h.not hl hT (by rw[← e2,e])
 ·cases e
  have hl' : w.heap[b]? = some (.cells cs T (0,0)):=hl
  rw[hl']at hc
  simp only[Option.some.injEq,Obj.cells.injEq]at hc
  exact hT2 (hc.2.1.trans ht)
theorem RecsY.behind(h:RecsY w base v l)(hb:Below base W w)(hs:base≤W.heap.size)(hg:w.grownBy w' v.ownBlock):Below base W w' :=
 hb.grown hg (Nat.le_trans hs hb.size) fun g e=>by obtain⟨_,_,h2⟩:=ListO.blocks h e;exact h2
end
theorem step_recY{w:World}{ops:Array Oper}{rest:List Oper}{o:Oper}{a:Act}{Q:Exit→Act→World→Prop}(hg:o.guard=none)(s x:Operand)(ho:o.op = .call { callee := .builtin .append,args := #[s,x],argTypes := #[61,61] })
 (base:Nat) (out:Value) (G:List Re.Rec) (hs:a.eval s=out) (hown:RecsY w base out G) (f:Re.Rec) (u:Value) (g:Nat) (hx:a.eval x = .slice (some ⟨g,0,none⟩) 1 1) (hl:Lies w g 42 (Re.cells f u)) (hu:ReadsU w u f.img)
 (hlen:G.length≤1000000) (hbase:base≤w.heap.size) (hK : ∀v' w', RecsY w' base v' (G ++ [f])→w.grownBy w' out.ownBlock→wpList Tryz.prog ops Q rest (a.put o.dst v') w'):wpList Tryz.prog ops Q (o :: rest) a w:=by
 obtain⟨v', w', hrun,h1,h2,_⟩:=hown.snoc (P:=Tryz.prog) (t:=61) o.type cellR_ok Tryz.underlying61 info_recN rfl (by decide) hbase f u hl hu (by omega) (by omega) (fun g _ h=>absurd h (by decide))
 exact step_append hg s x 61 ho out _ v' hs hx hrun (hK v' w' h1 h2)
def SgReadQ(w:World)(b:List UInt8)(e:Ending)(w' : World):Prop :=
 Below w.heap.size w w' ∧ ((Sg.Torn b∧e = .returned (.tuple #[.agg (Sg.cells 0 Hd.zero Nil Nil Nil 0 0), .int .i64 17])) ∨
  ∃f s l a vi va vc,Sg.Whole b f s l a∧e = .returned (.tuple #[.agg (Sg.cells f (Hd.of l) vi va vc (l.length:Int) (a:Int)), .int .i64 0])∧HardQ (fun b=>w.heap.size≤b) w' (Hd.of l) vi va vc)
theorem readSg_q(u:Value)(b:List UInt8)(w:World)(hT:CrcTab w)(hW:WordsIn w)(hu:Reads w u b)(hlen:b.length≤4000000) :
 Calls Tryz.prog 52 #[u] w (SgReadQ w b):=by
 obtain⟨Q,hQ⟩ : ∃Q:Ending→World→Prop,Q=SgReadQ w b:=⟨_,rfl⟩
 rw[← hQ]
 have HQ:Hid (∀e w', SgReadQ w b e w' → Q e w'):=by rw[hQ];exact fun _ _ h=>h
 clear hQ
 obtain⟨w1,e1,hc1,hB1,hs1⟩:=box_cont w
 have HT:=Lib.hid (fun W (h:Below w.heap.size w W)=>hT.below h)
 have HW:=Lib.hid (fun W (h:Below w.heap.size w W)=>hW.below h)
 have HU:=Lib.hid (fun W (h:Below w.heap.size w W)=>hu.below h)
 have HBL:=Lib.hid hlen
 obtain⟨gc,hgc⟩ : ∃g,g=w.heap.size:=⟨_,rfl⟩
 have HGC:Hid (w.heap.size≤gc∧gc<w1.heap.size):=⟨by omega,by omega⟩
 have HC1:Hid (Conts w1 gc 0 Hd.zero Nil Nil Nil 0 0):=by rw[hgc];exact hc1
 have HB1:=Lib.hid hB1
 obtain⟨uo,uc,hsh⟩:=hu.shape
 obtain⟨un,hun⟩ : ∃un,un=b.length:=⟨_,rfl⟩
 rw[← hun]at hsh
 subst hsh
 clear hc1 hB1 hs1 hT hW hu hlen hun
 dsimp only [Sg.cells,Hd.zero,Bl.zero]at e1
 go_enter Tryz.func52,Tryz.ntmps52
 go_wp2_with fail
 rw[← hgc]
 clear e1 hgc
 refine(framesSg_any uo un uc w1).mono ?_
 rintro e w2 ⟨gb,ga,rfl,hne,hgb,hga,lb2,la2,hb2⟩
 have HB2:Hid (Below w.heap.size w w2):=HB1.out.trans (hb2.mono HB1.out.size)
 have HC2:=Lib.hid (HC1.out.below hb2 HC1.out.lies.lt)
 have HG:Hid (gb≠ga∧w.heap.size≤ga∧gc≠ga):=⟨hne,Nat.le_trans HB1.out.size hga,by have:=HGC.out;omega⟩
 have LB2:=Lib.hid lb2;have LA2:=Lib.hid la2
 clear hne hgb hga lb2 la2 hb2
 obtain⟨y0,e0,z0,hn0⟩ : ∃y e z,Frm.next b ((0:Nat):Int)=(y,e,z):=⟨_,_,_,rfl⟩
 by_cases h0:z0=0
 ·subst h0
  obtain⟨c0,rfl,_,hc0,hy0,hy1⟩:=Frm.next_ok hn0
  have HN0:=Lib.hid hn0
  have HC0:Hid (c0≤b.length):=hc0
  go_wp2_with fail
  refine(nextSg_ok (.slice uo un uc) b 0 w2 gb ga y0 c0 (HT.out _ HB2.out) (HU.out _ HB2.out) (by have:=HBL.out;omega) LB2.out LA2.out hn0).mono ?_
  rintro e w3 ⟨v3,rfl,ho3,la3,hg3⟩
  have HB3:Hid (Below w.heap.size w w3):=HB2.out.grown hg3 HB2.out.size (by rintro j hj;cases hj;exact HG.out.2.1)
  have HC3:=Lib.hid (HC2.out.kept hg3 HG.out.2.2)
  have LB3:=Lib.hid (LB2.out.kept hg3 (by simpa using HG.out.1));have LA3:=Lib.hid la3
  have hr3:=ho3.reads
  have hnum:=numbersSg_any v3 y0 w3 hr3 (by omega)
  obtain⟨o3,k3,hsh⟩:=hr3.shape
  obtain⟨n3,hn3⟩ : ∃n,n=y0.length:=⟨_,rfl⟩
  rw[← hn3]at hsh
  subst hsh
  clear hc0 hy0 hy1 hn0 ho3 la3 hg3 hr3 hn3 LB2 LA2 HC2
  rcases Sg.numbers_or y0 with ⟨z,hz,hnz⟩ | ⟨f,s,hf,hs0,hs1,hnz⟩
  ·have hTorn:Hid (Sg.Torn b):=fun f' s' l' e' hw=>by
    obtain⟨⟨y', c', k1,k2,_⟩,_,_⟩:=hw
    rw[HN0.out]at k1
    simp only[Prod.mk.injEq]at k1
    obtain⟨rfl,_,_⟩:=k1
    rw[hnz]at k2
    simp only[Prod.mk.injEq]at k2
    exact hz k2.2.2
   rw[hnz]at hnum
   have HNUM:=Lib.hid hnum
   have hzb:(z != 0)=true:=by simpa using hz
   clear hnz hnum hz
   go_wp2_with (first
    | (go_at_call 80
       refine HNUM.out.mono ?_
       rintro e w4 ⟨rfl,hb4⟩
       have HB4:=Lib.hid hb4
       dsimp only
       clear hb4)
    | (refine store_cont rfl _ _ rfl rfl (HC3.out.below HB4.out HC3.out.lies.lt) HC3.out rfl ?_;intro w9 hx9 hg9;have HX9:=Lib.hid hx9;have HG9:=Lib.hid hg9;clear hx9 hg9)
    | fail)
   refine ret_cont2 rfl rfl HX9.out rfl ?_
   have HB5:=Lib.hid (HB3.out.trans (HB4.out.mono HB3.out.size))
   exact HQ.out _ _ ⟨HB5.out.grown HG9.out HB5.out.size (by rintro j hj;cases hj;exact HGC.out.1), .inl ⟨hTorn.out,rfl⟩⟩
  ·rw[hnz]at hnum
   have HNX:=Lib.hid hnum
   have HNUM:=Lib.hid hnz;have HF:=Lib.hid hf
   clear hnum hnz hf
   go_wp2_with fail
   refine HNX.out.mono ?_
   rintro e w4 ⟨rfl,hb4⟩
   have HB4:Hid (Below w.heap.size w w4):=HB3.out.trans (hb4.mono HB3.out.size)
   have HC4:=Lib.hid (HC3.out.below hb4 HC3.out.lies.lt)
   have LB4:=Lib.hid (LB3.out.below hb4 LB3.out.lt);have LA4:=Lib.hid (LA3.out.below hb4 LA3.out.lt)
   clear hb4 HC3 LB3 LA3 HNX
   go_wp2_with fail
   refine(nextSg_any (.slice uo un uc) b c0 w4 gb ga (HT.out _ HB4.out) (HU.out _ HB4.out) (by have:=HBL.out;omega) LB4.out LA4.out).mono ?_
   rintro e w5 ⟨v5,n5,t5,rfl,hg5,hx5⟩
   have HB5:Hid (Below w.heap.size w w5):=HB4.out.grown hg5 HB4.out.size (by rintro j hj;cases hj;exact HG.out.2.1)
   have HC5:=Lib.hid (HC4.out.kept hg5 HG.out.2.2)
   have LB5:=Lib.hid (LB4.out.kept hg5 (by simpa using HG.out.1))
   have HN5:=Lib.hid hx5
   clear hg5 hx5 LB4 LA4 HC4
   go_wp2
   go_loopw [6,11,12,13,14] (fun e l v n t wr => ∃(a:Nat) (rs:List Re.Rec) (nn:Int) (tt:Bool),e = .int .i64 (a:Int)∧n = .int .i64 nn∧t = .bool tt∧Hid (a≤b.length)∧Hid (RecsY wr w.heap.size l rs)∧Hid (Sg.Run f b c0 rs a)∧Hid (Below w.heap.size w wr)∧Hid (Conts wr gc 0 Hd.zero Nil Nil Nil 0 0)∧Hid (Lies wr gb 30 #[.slice uo un uc]) ∧
    Hid ((tt=true ∧ ∃(y:List UInt8) (c:Nat),Frm.next b (a:Int)=(y,(c:Int),0)∧nn=(c:Int)∧Reads wr v y∧Lies wr ga 3 #[.int .i64 (c:Int)])∨(tt=false∧(Frm.next b (a:Int)).2.2≠0))) (fun e _ _ _ _ _=>b.length - (intOf e).toNat)
   case atStart=>exact⟨c0, [],n5,t5,rfl,rfl,rfl,HC0.out,ListO.bare _ _ _ _, .nil c0,HB5.out,HC5.out,LB5.out,HN5.out⟩
   case round =>
    obtain⟨a,rs,nn,tt,rfl,rfl,rfl,HAL,RS,RUN,HB,HC,LB,HNX⟩:=hrel
    obtain⟨lo,lc,hls⟩:=RecsY.shape RS.out
    obtain⟨ln,hln⟩ : ∃ln,ln=rs.length:=⟨_,rfl⟩
    rw[← hln]at hls
    have HLN:=Lib.hid hln
    subst hls
    clear hln
    rcases HNX.out with ⟨rfl,y,c,hn,rfl,hv,la⟩ | ⟨rfl,hn⟩
    ·obtain⟨c', hc', hc1,hc2,hy1,hy2⟩:=Frm.next_ok hn
     obtain rfl:c=c' := by omega
     have HCB:Hid (a+6≤c∧c≤b.length):=⟨hc1,hc2⟩
     have HN:=Lib.hid hn;have LA:=Lib.hid la
     have hget:=getRt_any f _ y wr (HW.out _ HB.out) hv (by omega)
     obtain⟨x,z,hxz⟩ : ∃x z,Rt.get f y=(x,z):=⟨_,_,rfl⟩
     rw[hxz]at hget
     obtain⟨vo,vk,hvs⟩:=hv.shape
     obtain⟨vn,hvn⟩ : ∃vn,vn=y.length:=⟨_,rfl⟩
     rw[← hvn]at hvs
     subst hvs
     have HGET:=Lib.hid hget;have HXZ:=Lib.hid hxz
     clear hc' hc1 hc2 hy1 hy2 hn la hget hv hvn hxz HNX
     by_cases hz:z=0
     ·subst hz
      have HRUN2:Hid (Sg.Run f b c0 (rs ++ [x]) c):=RUN.out.snoc HN.out HXZ.out
      have HCNT:Hid (rs.length≤1000000):=by
       have h1:=RUN.out.bound HC0.out
       have:=HBL.out
       show _≤_
       omega
      go_wp2_with (first
       | (go_at_call 81
          refine HGET.out.mono ?_
          rintro e w6 ⟨hb6,vi6,rfl,hi6,h6⟩
          obtain⟨io,ic,hsh6⟩:=hi6.shape
          subst hsh6
          have HB6:Hid (Below wr.heap.size wr w6):=hb6
          have HI6:=Lib.hid hi6
          dsimp only
          clear hb6 hi6 h6)
       | (refine store_rec rfl _ _ rfl w6.heap.size Re.zero Nil x (.slice io x.img.length ic) rfl rfl rfl (Lies.new _ _ _) ?_
          intro w7 hl7 hg7
          have HL7:=Lib.hid hl7
          have hb7:Below w6.heap.size w6 w7:=fresh_below hg7
          have HX:Hid (Below wr.heap.size wr w7):=HB6.out.trans (hb7.mono HB6.out.size)
          have HI7:=Lib.hid (HI6.out.below hb7)
          clear hl7 hg7 hb7)
       | (refine load_rec rfl _ rfl w6.heap.size x (.slice io x.img.length ic) rfl HL7.out ?_
          dsimp only [Re.cells])
       | (at_builtin
          refine step_recY rfl _ _ rfl w.heap.size (.slice lo ln lc) rs rfl (ListO.below (ListO.below RS.out HX.out) ((Below.refl _ w7).alloc (Nat.le_refl _) _)) x (.slice io x.img.length ic) w7.heap.size rfl (Lies.new w7 42 (Re.cells x (.slice io x.img.length ic))) (HI7.out.below ((Below.refl _ w7).alloc (Nat.le_refl _) _)) HCNT.out (Nat.le_trans (Nat.le_trans HB.out.size HX.out.size) (by simp)) ?_
          intro v8 w8 ho8 hg8
          have hb7:Below wr.heap.size wr (w7.alloc (.cells (Re.cells x (.slice io x.img.length ic)) 42)):=HX.out.alloc HX.out.size _
          have hrow:RecsY (w7.alloc (.cells (Re.cells x (.slice io x.img.length ic)) 42)) w.heap.size (.slice lo ln lc) rs:=ListO.below RS.out hb7
          have hbw:Below w.heap.size w w8:=RecsY.behind hrow (HB.out.trans (hb7.mono HB.out.size)) (Nat.le_refl _) hg8
          have hc8:Conts w8 gc 0 Hd.zero Nil Nil Nil 0 0:=by
           have h:=HC.out.below hb7 HC.out.lies.lt
           exact⟨h.lies.kept hg8 (hrow.not h.lies (by decide)),h.vi,h.va,h.vc⟩
          have hlb8:Lies w8 gb 30 #[.slice uo un uc]:=by
           have h:=LB.out.below hb7 LB.out.lt
           exact h.kept hg8 (hrow.not h (by decide))
          have hla8:Lies w8 ga 3 #[.int .i64 (c:Int)]:=by
           have h:=LA.out.below hb7 LA.out.lt
           exact h.kept hg8 (hrow.not h (by decide))
          have HO8:=Lib.hid ho8;have HB8:=Lib.hid hbw;have HC8:=Lib.hid hc8;have LB8:=Lib.hid hlb8;have LA8:=Lib.hid hla8
          clear ho8 hg8 hb7 hrow hbw hc8 hlb8 hla8)
       | (go_at_call 110
          refine(nextSg_any (.slice uo un uc) b c w8 gb ga (HT.out _ HB8.out) (HU.out _ HB8.out) (by have:=HBL.out;omega) LB8.out LA8.out).mono ?_
          rintro e w9 ⟨v9,n9,t9,rfl,hg9,hx9⟩
          have HB9:Hid (Below w.heap.size w w9):=HB8.out.grown hg9 HB8.out.size (by rintro j hj;cases hj;exact HG.out.2.1)
          have HC9:=Lib.hid (HC8.out.kept hg9 HG.out.2.2)
          have LB9:=Lib.hid (LB8.out.kept hg9 (by simpa using HG.out.1))
          have HO9:=Lib.hid (HO8.out.other LA8.out (by decide) (by decide) hg9)
          have HN9:=Lib.hid hx9
          clear hg9 hx9)
       | fail)
      go_roundw
      case rel=>exact⟨c,rs ++ [x],n9,t9,rfl,rfl,rfl,HCB.out.2,HO9.out,HRUN2.out,HB9.out,HC9.out,LB9.out,HN9.out⟩
      case measure=>have:=HCB.out;simp[intOf];omega
     ·have hzb:(z != 0)=true:=by simpa using hz
      have STOPS:Hid (Sg.Stops f b a) := .inr (by rw[HN.out];show(Rt.get f y).2≠0;rw[HXZ.out];exact hz)
      clear hz
      have HDONE:Hid (∀f' s' l' e', Sg.Whole b f' s' l' e' → f' = f∧s' = s∧l' = rs∧e' = a):=by
       intro f' s' l' e' hw
       obtain⟨⟨y', c', k1,k2,k3⟩,k4,_⟩:=hw
       rw[HN0.out]at k1
       simp only[Prod.mk.injEq,Int.natCast_inj,and_true]at k1
       obtain⟨rfl,rfl⟩:=k1
       rw[HNUM.out]at k2
       simp only[Prod.mk.injEq,and_true]at k2
       obtain⟨rfl,rfl⟩:=k2
       obtain⟨rfl,rfl⟩:=k3.one k4 RUN.out STOPS.out
       exact⟨rfl,rfl,rfl,rfl⟩
      by_cases hlt:(ln:Int)<s
      ·have hTorn:Hid (Sg.Torn b):=fun f' s' l' e' hw=>by
        obtain⟨h1,h2,h3,_⟩:=HDONE.out _ _ _ _ hw
        have h4:=hw.enough
        rw[h2,h3, ← HLN.out]at h4
        omega
       go_wp2_with (first
        | (go_at_call 81
           refine HGET.out.mono ?_
           rintro e w6 ⟨hb6,vi6,rfl,hi6,h6⟩
           obtain⟨io,ic,hsh6⟩:=hi6.shape
           subst hsh6
           have HB6:Hid (Below wr.heap.size wr w6):=hb6
           have HI6:=Lib.hid hi6
           dsimp only
           clear hb6 hi6 h6)
        | (refine store_rec rfl _ _ rfl w6.heap.size Re.zero Nil x (.slice io x.img.length ic) rfl rfl rfl (Lies.new _ _ _) ?_
           intro w7 hl7 hg7
           have HL7:=Lib.hid hl7
           have hb7:Below w6.heap.size w6 w7:=fresh_below hg7
           have HX:Hid (Below wr.heap.size wr w7):=HB6.out.trans (hb7.mono HB6.out.size)
           have HI7:=Lib.hid (HI6.out.below hb7)
           clear hl7 hg7 hb7)
        | (refine store_cont rfl _ _ rfl rfl (HC.out.below HX.out HC.out.lies.lt) HC.out rfl ?_
           intro w9 hx9 hg9
           have HX9:=Lib.hid hx9;have HG9:=Lib.hid hg9
           clear hx9 hg9)
        | fail)
       refine ret_cont2 rfl rfl HX9.out rfl ?_
       have HBX:=Lib.hid (HB.out.trans (HX.out.mono HB.out.size))
       exact HQ.out _ _ ⟨HBX.out.grown HG9.out HBX.out.size (by rintro j hj;cases hj;exact HGC.out.1), .inl ⟨hTorn.out,rfl⟩⟩
      ·have hWhole:Hid (Sg.Whole b f s rs a):=⟨⟨_,_,HN0.out,HNUM.out,RUN.out⟩,STOPS.out,by have:=HLN.out;omega⟩
       have HCNT:Hid (rs.length≤800000):=by
        obtain⟨_,_,h3,_⟩:=Frm.next_ok HN0.out
        have h1:=RUN.out.bound HC0.out
        have:=HBL.out
        show _≤_
        omega
       have HSHORT:Hid (∀x∈rs,x.cmd.Short 140737488355328):=fun x hx=>Short.up (RUN.out.good HF.out x hx).2.2.1 (by omega)
       go_wp2_with (first
        | (go_at_call 81
           refine HGET.out.mono ?_
           rintro e w6 ⟨hb6,vi6,rfl,hi6,h6⟩
           obtain⟨io,ic,hsh6⟩:=hi6.shape
           subst hsh6
           have HB6:Hid (Below wr.heap.size wr w6):=hb6
           have HI6:=Lib.hid hi6
           dsimp only
           clear hb6 hi6 h6)
        | (refine store_rec rfl _ _ rfl w6.heap.size Re.zero Nil x (.slice io x.img.length ic) rfl rfl rfl (Lies.new _ _ _) ?_
           intro w7 hl7 hg7
           have HL7:=Lib.hid hl7
           have hb7:Below w6.heap.size w6 w7:=fresh_below hg7
           have HX:Hid (Below wr.heap.size wr w7):=HB6.out.trans (hb7.mono HB6.out.size)
           have HI7:=Lib.hid (HI6.out.below hb7)
           clear hl7 hg7 hb7)
        | (go_at_call 82
           refine(hardOf_q (.slice lo ln lc) rs _ (HW.out _ (HB.out.trans (HX.out.mono HB.out.size))) (RecsY.reads (ListO.below RS.out HX.out)) HSHORT.out HCNT.out).mono ?_
           rintro e w8 ⟨vi,va,vc,rfl,hr8,hb8⟩
           have HR8:=Lib.hid (hr8.imp (q' := fun b=>w.heap.size≤b) fun b hb=>Nat.le_trans (HB.out.trans (HX.out.mono HB.out.size)).size hb)
           have HX8:Hid (Below wr.heap.size wr w8):=HX.out.trans (hb8.mono HX.out.size)
           dsimp only [Hd.cells]
           clear hr8 hb8)
        | (refine store_cont rfl _ _ rfl rfl (HC.out.below HX8.out HC.out.lies.lt) (Conts.mk (Lies.new w8 _ _) HR8.out.rows.sl.1 HR8.out.rows.sl.2.1 HR8.out.rows.sl.2.2:Conts (w8.alloc (.cells (Sg.cells f (Hd.of rs) vi va vc (ln:Int) (a:Int)) 97)) w8.heap.size f (Hd.of rs) vi va vc (ln:Int) (a:Int)) rfl ?_
           intro w9 hx9 hg9
           have HX9:=Lib.hid hx9;have HG9:=Lib.hid hg9
           clear hx9 hg9)
        | fail)
       refine ret_cont2 rfl rfl HX9.out rfl ?_
       have HBX:=Lib.hid (HB.out.trans (HX8.out.mono HB.out.size))
       exact HQ.out _ _ ⟨HBX.out.grown HG9.out HBX.out.size (by rintro j hj;cases hj;exact HGC.out.1), .inr ⟨f,s,rs,a,vi,va,vc,hWhole.out,by rw[← HLN.out];rfl,HR8.out.overC (HC.out.below HX8.out HC.out.lies.lt) HG9.out⟩⟩
    ·have STOPS:Hid (Sg.Stops f b a) := .inl hn
     have HX:Hid (Below wr.heap.size wr wr):=Below.refl _ _
     clear hn HNX
     have HDONE:Hid (∀f' s' l' e', Sg.Whole b f' s' l' e' → f' = f∧s' = s∧l' = rs∧e' = a):=by
      intro f' s' l' e' hw
      obtain⟨⟨y', c', k1,k2,k3⟩,k4,_⟩:=hw
      rw[HN0.out]at k1
      simp only[Prod.mk.injEq,Int.natCast_inj,and_true]at k1
      obtain⟨rfl,rfl⟩:=k1
      rw[HNUM.out]at k2
      simp only[Prod.mk.injEq,and_true]at k2
      obtain⟨rfl,rfl⟩:=k2
      obtain⟨rfl,rfl⟩:=k3.one k4 RUN.out STOPS.out
      exact⟨rfl,rfl,rfl,rfl⟩
     by_cases hlt:(ln:Int)<s
     ·have hTorn:Hid (Sg.Torn b):=fun f' s' l' e' hw=>by
       obtain⟨h1,h2,h3,_⟩:=HDONE.out _ _ _ _ hw
       have h4:=hw.enough
       rw[h2,h3, ← HLN.out]at h4
       omega
      go_wp2_with (first
       | (refine store_cont rfl _ _ rfl rfl (HC.out.below HX.out HC.out.lies.lt) HC.out rfl ?_
          intro w9 hx9 hg9
          have HX9:=Lib.hid hx9;have HG9:=Lib.hid hg9
          clear hx9 hg9)
       | fail)
      refine ret_cont2 rfl rfl HX9.out rfl ?_
      have HBX:=Lib.hid (HB.out.trans (HX.out.mono HB.out.size))
      exact HQ.out _ _ ⟨HBX.out.grown HG9.out HBX.out.size (by rintro j hj;cases hj;exact HGC.out.1), .inl ⟨hTorn.out,rfl⟩⟩
     ·have hWhole:Hid (Sg.Whole b f s rs a):=⟨⟨_,_,HN0.out,HNUM.out,RUN.out⟩,STOPS.out,by have:=HLN.out;omega⟩
      have HCNT:Hid (rs.length≤800000):=by
       obtain⟨_,_,h3,_⟩:=Frm.next_ok HN0.out
       have h1:=RUN.out.bound HC0.out
       have:=HBL.out
       show _≤_
       omega
      have HSHORT:Hid (∀x∈rs,x.cmd.Short 140737488355328):=fun x hx=>Short.up (RUN.out.good HF.out x hx).2.2.1 (by omega)
      go_wp2_with (first
       | (go_at_call 82
          refine(hardOf_q (.slice lo ln lc) rs _ (HW.out _ (HB.out.trans (HX.out.mono HB.out.size))) (RecsY.reads (ListO.below RS.out HX.out)) HSHORT.out HCNT.out).mono ?_
          rintro e w8 ⟨vi,va,vc,rfl,hr8,hb8⟩
          have HR8:=Lib.hid (hr8.imp (q' := fun b=>w.heap.size≤b) fun b hb=>Nat.le_trans (HB.out.trans (HX.out.mono HB.out.size)).size hb)
          have HX8:Hid (Below wr.heap.size wr w8):=HX.out.trans (hb8.mono HX.out.size)
          dsimp only [Hd.cells]
          clear hr8 hb8)
       | (refine store_cont rfl _ _ rfl rfl (HC.out.below HX8.out HC.out.lies.lt) (Conts.mk (Lies.new w8 _ _) HR8.out.rows.sl.1 HR8.out.rows.sl.2.1 HR8.out.rows.sl.2.2:Conts (w8.alloc (.cells (Sg.cells f (Hd.of rs) vi va vc (ln:Int) (a:Int)) 97)) w8.heap.size f (Hd.of rs) vi va vc (ln:Int) (a:Int)) rfl ?_
          intro w9 hx9 hg9
          have HX9:=Lib.hid hx9;have HG9:=Lib.hid hg9
          clear hx9 hg9)
       | fail)
      refine ret_cont2 rfl rfl HX9.out rfl ?_
      have HBX:=Lib.hid (HB.out.trans (HX8.out.mono HB.out.size))
      exact HQ.out _ _ ⟨HBX.out.grown HG9.out HBX.out.size (by rintro j hj;cases hj;exact HGC.out.1), .inr ⟨f,s,rs,a,vi,va,vc,hWhole.out,by rw[← HLN.out];rfl,HR8.out.overC (HC.out.below HX8.out HC.out.lies.lt) HG9.out⟩⟩
 ·have hTorn:Hid (Sg.Torn b):=fun f' s' l' e' hw=>by
   obtain⟨⟨y', c', k1,k2,_⟩,_,_⟩:=hw
   rw[hn0]at k1
   simp only[Prod.mk.injEq]at k1
   exact h0 k1.2.2
  have hnx:=nextSg_no (.slice uo un uc) b 0 w2 gb ga (HT.out _ HB2.out) (HU.out _ HB2.out) (by have:=HBL.out;omega) LB2.out LA2.out (by rw[hn0];exact h0)
  have HNX:=Lib.hid hnx
  obtain⟨z,hz,hnz⟩:=Sg.numbers_nil
  have HNZ:=Lib.hid hnz
  have hzb:(z != 0)=true:=by simpa using hz
  clear hnx hz hnz hn0 h0
  go_wp2_with fail
  refine HNX.out.mono ?_
  rintro e w3 ⟨rfl,hb3⟩
  have HB3:Hid (Below w.heap.size w w3):=HB2.out.trans (hb3.mono HB2.out.size)
  have HC3:=Lib.hid (HC2.out.below hb3 HC2.out.lies.lt)
  have hnum:=numbersSg_any (.slice none 0 0) [] w3 (Reads.empty _) (by simp)
  rw[HNZ.out]at hnum
  have HNUM:=Lib.hid hnum
  clear hb3 hnum HNX
  go_wp2_with (first
   | (go_at_call 80
      refine HNUM.out.mono ?_
      rintro e w4 ⟨rfl,hb4⟩
      have HB4:=Lib.hid hb4
      dsimp only
      clear hb4)
   | (refine store_cont rfl _ _ rfl rfl (HC3.out.below HB4.out HC3.out.lies.lt) HC3.out rfl ?_;intro w9 hx9 hg9;have HX9:=Lib.hid hx9;have HG9:=Lib.hid hg9;clear hx9 hg9)
   | fail)
  refine ret_cont2 rfl rfl HX9.out rfl ?_
  have HB5:=Lib.hid (HB3.out.trans (HB4.out.mono HB3.out.size))
  exact HQ.out _ _ ⟨HB5.out.grown HG9.out HB5.out.size (by rintro j hj;cases hj;exact HGC.out.1), .inl ⟨hTorn.out,rfl⟩⟩
end
end Go.Proofs.YtdkdjofnnnljjaaGreatDoor
