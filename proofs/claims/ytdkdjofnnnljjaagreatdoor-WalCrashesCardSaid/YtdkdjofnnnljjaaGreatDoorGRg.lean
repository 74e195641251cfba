/- Several texts of mine in one: RePut ReRaw ReGet ReDec. -/
import Derived.Test.YtdkdjofnnnljjaaGreatDoorPGRh
import Derived.Test.YtdkdjofnnnljjaaGreatDoorPGRe
import Derived.Test.YtdkdjofnnnljjaaGreatDoorPGPl
import Derived.Test.YtdkdjofnnnljjaaGreatDoorPGCr
import Derived.Test.YtdkdjofnnnljjaaGreatDoorPPkMath
import Derived.BigRegion
namespace Go.Proofs.YtdkdjofnnnljjaaGreatDoor
open Go.RowKit
set_option maxHeartbeats 3200000
set_option maxRecDepth 4000
abbrev mW(w:World)(h g:Nat):Prop:=ae w h 168 #[.pointer (some ⟨g,0,none⟩), .pointer (some ⟨g,1,none⟩), .pointer (some ⟨g,2,none⟩), .pointer (some ⟨g,3,none⟩)]
theorem mW.at{w:World}{h g:Nat}(hp:mW w h g)(k:Nat)(hk:k<4):w.cell? ⟨h,k,none⟩=some (.pointer (some ⟨g,k,none⟩)):=by
 have:k=0∨k=1∨k=2∨k=3:=by omega
 rcases this with rfl | rfl | rfl | rfl<;>exact hp.cell _ _ rfl
theorem ei(g:Nat)(w:World):Calls Tryz.prog 128 #[.pointer (some ⟨g,0,none⟩)] w
 fun e w' => e = .returned (.slice (some ⟨w.heap.size,0,none⟩) 4 4)∧mW w' w.heap.size g∧Below w.heap.size w w' := by
 obtain⟨w1,e1,aH,aq⟩ : ∃w1,w.alloc (.cells #[.pointer (some ⟨g,0,none⟩), .pointer (some ⟨g,1,none⟩), .pointer (some ⟨g,2,none⟩), .pointer (some ⟨g,3,none⟩)] 168)=w1∧mW w1 w.heap.size g∧Below w.heap.size w w1 :=
  ⟨_,rfl,ae.new _ _ _,(Below.refl _ w).alloc (Nat.le_refl _) _⟩
 have HL:=aa aH;have HB:=aa aq;clear aH aq
 go_enter Tryz.func128,Tryz.ntmps128
 go_wp2
 go_region
 all_goals
  go_wp2;go_ret;exact⟨rfl,HL.below (drawn _ _) HL.lt,on HB.out (drawn _ _)⟩
def Pq(w:World)(x:Re.Rec)(e:Ending)(w' : World):Prop :=
 Below w.heap.size w w' ∧ ∃u,e = .returned (.tuple #[u, .int .i64 (Re.older x)])∧Reads w' u (if Re.older x=0 then Re.bytes x else [])
theorem Re.Oa(m:Re.Rec)(k:Nat)(hk:k<4):Ms.bZ ((Re.bX m).take (k+1))=Ms.bZ ((Re.bX m).take k)++enc (Ms.nth (Re.bX m) k).toNat:=by
 have h:(Re.bX m)[k]? = some (Ms.nth (Re.bX m) k):=by
  unfold Ms.nth;rw[List.getD_eq_getElem?_getD,List.getElem?_eq_getElem (show k<(Re.bX m).length from hk)]
  rfl
 rw[List.take_add_one,h,Ms.jL];show _++Ms.bZ [_]=_;rw[Ms.lD]
theorem Re.Q0(m:Re.Rec){k:Nat}(hk:k<4):Ms.nth (Re.bX m) k∈Re.bX m:=by
 have:k=0∨k=1∨k=2∨k=3:=by omega
 rcases this with rfl | rfl | rfl | rfl<;>simp[Ms.nth,Re.bX]
theorem Re.tails{x:Re.Rec}(h:Re.older x=0):(x.kind=1∧Re.bytes x=Ms.bZ (Re.bX x))∨(x.kind=2∧Re.bytes x=Ms.bZ (Re.bX x)++Cm.bytes 1 x.cmd)∨(x.kind=3∧Re.bytes x=Ms.bZ (Re.bX x)++Cm.bytes 1 x.cmd)∨(x.kind=4∧Re.bytes x=Ms.bZ (Re.bX x)++Pk.text x.aw):=by
 have hk:=(Re.eG (Re.oI h).1).kind;unfold Re.bytes Re.tail;rcases Re.kinds x.kind with h | h | h | h | h
 ·exact .inl ⟨h,by rw[h];show _ ++ []=_;rw[List.append_nil]⟩
 ·exact .inr (.inl ⟨h,by rw[h];rfl⟩)
 ·exact .inr (.inr (.inl ⟨h,by rw[h];rfl⟩))
 ·exact .inr (.inr (.inr ⟨h,by rw[h];rfl⟩))
 ·rw[(Re.qW h).2.2.2.2]at hk;cases hk
theorem yy(m:Re.Rec)(vi:Value)(w:World)(hW:bE w)(hi:Reads w vi m.aw)(hf:m.Fits)(hs:m.cmd.aD 1000)(hk:m.aw.length<=100000) :
 Calls Tryz.prog 91 #[.agg (Re.cells m vi)] w (Pq w m):=by
 obtain⟨w1,e1,aH,aq,hz1⟩:=bf w m vi;obtain⟨p0,p1,p2,p3,p4,p5,p6,p7,p8,p9,cG,cE⟩:=ai.all aH;have dw:=aa aH;have aG:=aa aq;have HS:=aa hz1;have Te:=aa (hi.below aq);have kJ:=aa (sI m vi w1 (hW.below aq) Te.out ⟨Nat.le_trans hs.1 (by omega),Nat.le_trans hs.2.1 (by omega),Nat.le_trans hs.2.2 (by omega)⟩)
 have JG:=aa hf;have IY:=aa hs;have wz:Hid (∀k,k<4 -> -9223372036854775808<=Ms.nth (Re.bX m) k∧Ms.nth (Re.bX m) k<=9223372036854775807):=fun k hk=>hf.n _ (Re.Q0 m hk)
 have QJ:Hid (∀k,(Ms.bZ ((Re.bX m).take k)).length<=36):=by
  intro k
  have:=Ms.oJ ((Re.bX m).take k) fun x hx=>(hf.n x (List.mem_of_mem_take hx)).2
  rw[List.length_take]at this
  have h4:(Re.bX m).length=4:=rfl;omega
 have Sf:=aa hk;have ow:Hid ((Re.bytes m).length<=110000):=Re.fC hf hs hk;have Lu:=aa (fun h:Re.older m=0=>Re.tails h)
 unfold Pq;obtain⟨c,hc⟩ : ∃c,c=Re.older m:=⟨_,rfl⟩;rw[<- hc]at kJ Lu ⊢
 clear aH aq hz1 hW hi hs hf hk hc
 go_enter Tryz.func91,Tryz.ntmps91
 go_wp2_with fail
 refine kJ.mono ?_;rintro e2 w2 ⟨rfl,hb⟩;have dE:=aa (dw.below hb dw.lt);have aR:=aa hb;have rh:=aa (aG.trans (hb.mono aG.size));clear hb p0 p1 p2 p3 p4 p5 p6 p7 p8 p9 cG cE;by_cases h0:c=0
 ·subst h0
  have HT:=aa (Lu.out rfl);clear Lu;have hs1:=HS.out;obtain⟨w3,e3,hw3,jx⟩ : ∃w3,w2.alloc (.cells #[.slice none 0 0] 163)=w3∧kI w3 w1.heap.size w2.heap.size (.slice none 0 0) []∧Below w2.heap.size w2 w3 :=
   ⟨_,rfl,Wr.fresh _ _ _ _ aR.size,(Below.refl _ _).alloc (Nat.le_refl _) _⟩
  have Ae:=aa (dE.below jx dE.lt);have bh:=aa (aR.trans (jx.mono aR.size));have zR:=aa hw3;have pH:Hid (w.heap.size<w2.heap.size∧w2.heap.size<w3.heap.size):=⟨by have:=aR.size;omega,hw3.ag.lt⟩
  clear hw3 jx hs1
  go_wp2_with fail
  refine(ei w.heap.size _).mono ?_;rintro e4 w4 ⟨rfl,PJ,hb⟩;have j6:=aa (Ae.below hb Ae.lt);have bJ:=aa (bh.trans (hb.mono bh.size));have FO:=aa (zR.grown hb);have Wk:=aa PJ;clear PJ hb;go_wp2
  go_loopw [15] (fun i wr => ∃(k:Nat) (u:Value),i = .int .i64 (k:Int)∧k<=4∧Hid (Below w1.heap.size w1 wr)∧Hid (kI wr w1.heap.size w2.heap.size u (Ms.bZ ((Re.bX m).take k)))∧Hid (ai wr w.heap.size m vi)∧Hid (mW wr w3.heap.size w.heap.size)) (fun i _=>4 - (intOf i).toNat)
  case atStart=>exact⟨0, .slice none 0 0,rfl,by omega,bJ,FO,j6,Wk⟩
  case round =>
   obtain⟨k,u,rfl,hk,HB,HW,HM,HP⟩:=hrel;by_cases hlt:k<4
   ·have hp:=HP.at k hlt
    have hq:=ai.num HM.out k hlt;have HX:=aa (wz.out k hlt);have HST:=aa (Re.Oa m k hlt);have qZ:=aa (QJ.out k);obtain⟨x,hx⟩ : ∃x,x=Ms.nth (Re.bX m) k:=⟨_,rfl⟩;rw[<- hx]at hq HX HST
    clear hx
    go_wp2_with fail
    refine(fl x _ w1.heap.size w2.heap.size u _ HW.out (Nat.le_trans (Nat.le_refl _) HB.size) (by have:=qZ.out;omega) HX.1 HX.2).mono ?_
    rintro e5 w5 ⟨rfl,u5,oD,bU⟩;have bK:=aa (HB.trans (HW.below bU HB.size));have hsp:=cC.ja HW.out bU;have Au:=aa (hsp _ _ _ (by have:=pH.out;omega) (by decide) HM.out)
    have ot:=aa (hsp _ _ _ (by have:=pH.out;omega) (by decide) HP.out)
    rw[<- HST.out]at oD
    have O4:=aa oD;clear hsp oD bU hp hq;go_wp2
    go_roundw
    case rel=>exact⟨k+1,u5,by go_num,by omega,bK,O4,Au,ot⟩
    case measure=>simp[intOf];omega
   ·obtain rfl:k=4:=by omega
    have oD:=HW.out;rw[show(Re.bX m).take 4=Re.bX m from rfl]at oD
    have O4:=aa oD;have qZ:=aa (QJ.out 4);rw[show(Re.bX m).take 4=Re.bX m from rfl]at qZ
    obtain⟨p0,p1,p2,p3,p4,p5,p6,p7,p8,p9,cG,cE⟩:=ai.all HM.out;clear oD;have hend : ∀W U,kI W w1.heap.size w2.heap.size U (Re.bytes m)->Below w1.heap.size w1 W->Calls Tryz.prog 126 #[.pointer (some ⟨w2.heap.size,0,none⟩)] W (fun e w' => ∃u8,e = .returned u8∧Reads w' u8 (Re.bytes m)∧Below w.heap.size w w'):=by
     intro W U hU hb
     refine(oM _ w1.heap.size w2.heap.size U _ hU (by have:=ow.out;omega)).mono ?_
     rintro e8 w8 ⟨u8,rfl,eU,eX⟩;exact⟨u8,rfl,eU.reads,aG.trans ((hb.trans (eX.mono hb.size)).mono aG.size)⟩
    have lV:=aa hend;clear hend;rcases HT.out with ⟨hk,hby⟩ | ⟨hk,hby⟩ | ⟨hk,hby⟩ | ⟨hk,hby⟩
    ·rw[hk]at p0
     have Ob:Hid (kI wr w1.heap.size w2.heap.size u (Re.bytes m)):=by show kI _ _ _ _ _;rw[hby];exact O4.out
     clear hk hby
     go_wp2_with fail
     refine(lV.out _ _ Ob.out HB.out).mono ?_;rintro e8 w8 ⟨u8,rfl,eU,eX⟩;have fN:=aa eU;have cN:=aa eX;clear eU eX;go_wp2
     go_ret2
     exact⟨cN.out,u8,rfl,fN.out⟩
    ·rw[hk]at p0
     have PH:=aa hby;clear hk hby
     go_wp2_with fail
     refine(yf 1 m.cmd _ w1.heap.size w2.heap.size u _ rfl O4.out (by have:=qZ.out;omega) HB.size JG.c IY.out).mono ?_
     rintro e6 w6 ⟨rfl,u6,CH,_,fP⟩;have Ob:Hid (kI w6 w1.heap.size w2.heap.size u6 (Re.bytes m)):=by show kI _ _ _ _ _;rw[PH.out];exact CH
     have cy:=aa (HB.trans fP);clear CH fP p0 p1 p2 p3 p4 p5 p6 p7 p8 p9 cG cE
     go_wp2_with fail
     refine(lV.out _ _ Ob.out cy.out).mono ?_;rintro e8 w8 ⟨u8,rfl,eU,eX⟩;have fN:=aa eU;have cN:=aa eX;clear eU eX;go_wp2
     go_ret2
     exact⟨cN.out,u8,rfl,fN.out⟩
    ·rw[hk]at p0
     have PH:=aa hby;clear hk hby
     go_wp2_with fail
     refine(yf 1 m.cmd _ w1.heap.size w2.heap.size u _ rfl O4.out (by have:=qZ.out;omega) HB.size JG.c IY.out).mono ?_
     rintro e6 w6 ⟨rfl,u6,CH,_,fP⟩;have Ob:Hid (kI w6 w1.heap.size w2.heap.size u6 (Re.bytes m)):=by show kI _ _ _ _ _;rw[PH.out];exact CH
     have cy:=aa (HB.trans fP);clear CH fP p0 p1 p2 p3 p4 p5 p6 p7 p8 p9 cG cE
     go_wp2_with fail
     refine(lV.out _ _ Ob.out cy.out).mono ?_;rintro e8 w8 ⟨u8,rfl,eU,eX⟩;have fN:=aa eU;have cN:=aa eX;clear eU eX;go_wp2
     go_ret2
     exact⟨cN.out,u8,rfl,fN.out⟩
    ·rw[hk]at p0
     have PH:=aa hby;clear hk hby
     go_wp2_with fail
     refine(zS vi m.aw _ w1.heap.size w2.heap.size u _ O4.out HB.size (by have:=qZ.out;omega) (by have:=Sf.out;omega) (fun W h=>Te.below (HB.trans h))).mono ?_
     rintro e6 w6 ⟨rfl,u6,CH,fP⟩;have Ob:Hid (kI w6 w1.heap.size w2.heap.size u6 (Re.bytes m)):=by show kI _ _ _ _ _;rw[PH.out];exact CH
     have cy:=aa (HB.trans fP);clear CH fP p0 p1 p2 p3 p4 p5 p6 p7 p8 p9 cG cE
     go_wp2_with fail
     refine(lV.out _ _ Ob.out cy.out).mono ?_;rintro e8 w8 ⟨u8,rfl,eU,eX⟩;have fN:=aa eU;have cN:=aa eX;clear eU eX;go_wp2
     go_ret2
     exact⟨cN.out,u8,rfl,fN.out⟩
 ·have hne:(c != 0)=true:=by simpa using h0
  go_wp2
  go_ret2
  exact⟨rh.out,_,rfl,Reads.empty _⟩
section
def bB(w:World)(v:Value)(l:List UInt8):Prop:=aS (fun _ t=>t=5) w v l
namespace bB
variable {w w' : World} {v : Value} {l : List UInt8}
theorem reads(h:bB w v l):Reads w v l:=h.1
theorem empty(w:World):bB w (.slice none 0 0) []:=aS.none _ w
theorem shape(h:bB w v l) : ∃ao cap,v = .slice ao l.length cap:=h.1.shape
theorem keep(h:bB w v l)(hk:dS (fun _ t=>t=5) w w'):bB w' v l:=aS.keep h hk
theorem below(h:bB w v l)(hb:Below w.heap.size w w'):bB w' v l:=h.keep (dS.bp hb)
theorem zf{base:Nat}(h:bF w base 5 v l):bB w v l:=aS.zf h fun _ _=>rfl
theorem other{b:Nat}{cs:Array Value}{T:TypeId}{fr:Nat × Nat}(h:bB w v l)(hb:w.heap[b]? = some (.cells cs T fr))(hT:T≠5)(hg:w.grownBy w' (some b)):bB w' v l :=
 h.keep (dS.aI hg fun g cs' t fr' e hc ht=>by
  cases e;rw[hb]at hc
  cases hc;exact hT ht)
theorem fq{b:Nat}{r:Re.Rec}{vi:Value}(h:bB w v l)(hl:ai w b r vi)(hg:w.grownBy w' (some b)):bB w' v l:=by
 have hl' : w.heap[b]? = some (.cells (Re.cells r vi) 42 (0,0)):=hl;exact h.other hl' (by decide) hg
end bB
instance {w : World} {v:Value} {l:List UInt8}:Coe (bB w v l) (Reads w v l):=⟨bB.reads⟩
theorem Lv(most:Int)(w:World)(B o:Nat)(v:Value)(b:List UInt8)(p:Nat)(x:List UInt8)(q:Nat)(e:Int)(hr:dU w B o v b p 0)(hx:e≠0->x = [])(hl:x.length<=70368744177664)(h:Hid (Pk.txt b p most=(x,(q:Int),e))) :
 Calls Tryz.prog 203 #[.pointer (some ⟨o,0,none⟩), .func (.func 204) #[.pointer (some ⟨o,0,none⟩)] #[], .int .i64 most] w (fun en w' => ∃u,oo w B o v b q e u en w' ∧ bB w' u x):=by
 go_enter Tryz.func203,Tryz.ntmps203
 go_wp2_with fail
 refine(dI _ B o v b p 0 hr).mono ?_;rintro e1 w1 ⟨rfl,rfl⟩
 go_wp2_with fail
 refine(Q1 most _ B o v b p 0 _ _ _ hr hl h).mono ?_;rintro e2 w2 ⟨u,⟨rfl,hr2,hg2⟩,hu⟩;obtain⟨uo,uc,rfl⟩:=hu.reads.shape;by_cases he:e=0
 ·subst he
  go_wp2;go_ret;exact⟨_,⟨rfl,hr2,hg2⟩,bB.zf hu⟩
 ·obtain rfl:=hx he
  clear hx;have hc2:=hr2.ag.cell 2 (.int .i64 0) rfl;have hf2:=hr2.ag.free 2;have hs:=hr2.errs e;go_wp2;go_ret;exact⟨_,⟨rfl,hs.1,aM hg2 hs.2⟩,bB.empty _⟩
theorem Lx(most:Int)(w:World)(B o:Nat)(v:Value)(b:List UInt8)(p:Nat)(x:List UInt8)(q:Nat)(e:Int)(hr:dU w B o v b p 0)(hx:e≠0->x = [])(hl:x.length<=70368744177664)(h:Hid (Pk.txt b p most=(x,(q:Int),e))) :
 Calls Tryz.prog 178 #[.pointer (some ⟨o,0,none⟩), .int .i64 most] w (fun en w' => ∃u,oo w B o v b q e u en w' ∧ bB w' u x):=by
 have zJ : ∀(fn:Fn) (first cap:Array Value) (w:World),(Instr.makeFunc fn first cap).run Tryz.prog w = .ok (.func fn first cap) w:=fun _ _ _ _=>rfl
 go_enter Tryz.func178,Tryz.ntmps178
 go_wp2_with fail
 refine(Lv most _ B o v b p x q e hr hx hl h).mono ?_;rintro e1 w1 ⟨u,⟨rfl,hr1,fL⟩,hu⟩;go_wp2;go_ret;exact⟨_,⟨rfl,hr1,fL⟩,hu⟩
theorem wR(w:World)(B o:Nat)(v:Value)(b:List UInt8)(p:Nat)(er:Int)(x:List UInt8)(q:Nat)(e:Int)(hr:dU w B o v b p er)(hx:e≠0->x = [])(hl:x.length<=70368744177664)(h:Hid (Ms.raw b p er=(x,(q:Int),e))) :
 Calls Tryz.prog 178 #[.pointer (some ⟨o,0,none⟩), .int .i64 32768] w (fun en w' => ∃u,oo w B o v b q e u en w' ∧ bB w' u x):=by
 by_cases h0:er=0
 ·subst h0
  exact Lx 32768 w B o v b p x q e hr hx hl h.out
 ·have h1:=h.out
  unfold Ms.raw at h1
  rw[if_neg h0]at h1
  simp only[Prod.mk.injEq]at h1
  obtain⟨rfl,h2,rfl⟩:=h1;obtain rfl:p=q:=by omega
  exact(Lz 32768 er w B o v b p hr h0).mono fun en w' hg=>⟨_,hg,bB.empty _⟩
end
theorem Re.kY : ∀(L:List Int) (n:Int) (vi:Value),L.length<4->(Re.cells (Re.base (L ++ [n])) vi).toList=(Re.cells (Re.base L) vi).toList.take L.length ++ [.int .i64 n]++(Re.cells (Re.base L) vi).toList.drop (L.length+1)
 | [],_,_,_=>rfl
 | [_],_,_,_=>rfl
 | [_,_],_,_,_=>rfl
 | [_,_,_],_,_,_=>rfl
 | _ :: _ :: _ :: _ :: r,_,_,h=>by simp at h;omega
theorem Cm.DM(b:List UInt8)(t:Cm.bW × Nat × Int)(f:Cm.F)(h:t.2.2≠0):(Cm.cz b t f).2.2=t.2.2:=by
 unfold Cm.cz Cm.dD Cm.rr;split
 ·simp
 ·simp
theorem Cm.xG(b:List UInt8) : ∀(fs:List Cm.F) (t:Cm.bW × Nat × Int),t.2.2≠0->(fs.foldl (Cm.cz b) t).2.2=t.2.2
 | [],_,_=>rfl
 | f :: fs,t,h=>by
  have h1:=Cm.DM b t f h;rw[List.foldl_cons,Cm.xG b fs _ (by rw[h1];exact h),h1]
theorem Cm.LC(v:Int)(b:List UInt8)(p:Nat)(er:Int)(h:er≠0):(Cm.get v b p er).2.2=er:=by
 have h1:(Cm.dD b p er).2.2=er:=by unfold Cm.dD;rw[if_neg h]
 unfold Cm.get;rw[Cm.xG b _ _ (by show(Cm.dD b p er).2.2≠0;rw[h1];exact h)]
 exact h1
theorem Re.LD(s:List UInt8)(h:(Ms.aj s 4).2.2≠0):(Re.got s).2.2=(Ms.aj s 4).2.2:=by
 unfold Re.got;split
 ·exact Cm.LC _ _ _ _ h
 ·split
  ·show(Ms.raw s (Ms.aj s 4).2.1 (Ms.aj s 4).2.2).2.2=_
   unfold Ms.raw;rw[if_neg h]
  ·split
   ·rfl
   ·dsimp only
def Re.dn(s:List UInt8):Int:=Cm.done s (Re.got s).2.1 (Re.got s).2.2
def DN(w:World)(B:Nat)(s:List UInt8)(e:Ending)(w' : World):Prop :=
 ∃y vi,e = .returned (.tuple #[.agg (Re.cells y vi), .int .i64 (Re.dn s)])∧(Re.dn s=0->y=(Re.got s).1)∧bB w' vi y.aw∧Below B w w'
theorem jG{V:World}{h:Nat}{T:TypeId}{y0 y1 y2 y3 y4 y5 y6 y7 y8 y9 JH Ny:Value}{P:World->Prop}(hz:ae V h T #[y0,y1,y2,y3,y4,y5,y6,y7,y8,y9,JH,Ny])(a0 a1 a2 a3 a4 a5 a6 a7 a8 a9 O5 QT:Value)
 (hP : ∀w3,ae w3 h T #[a0,a1,a2,a3,a4,a5,a6,a7,a8,a9,O5,QT]->V.grownBy w3 (some h)->P w3) :
 P ((((((((((((V.setCell ⟨h,0,none⟩ a0).setCell ⟨h,1,none⟩ a1).setCell ⟨h,2,none⟩ a2).setCell ⟨h,3,none⟩ a3).setCell ⟨h,4,none⟩ a4).setCell ⟨h,5,none⟩ a5).setCell ⟨h,6,none⟩ a6).setCell ⟨h,7,none⟩ a7).setCell ⟨h,8,none⟩ a8).setCell ⟨h,9,none⟩ a9).setCell ⟨h,10,none⟩ O5).setCell ⟨h,11,none⟩ QT):=by
 refine hP _ ?_ ?_
 ·have:=(((((((((((hz.set 0 a0).set 1 a1).set 2 a2).set 3 a3).set 4 a4).set 5 a5).set 6 a6).set 7 a7).set 8 a8).set 9 a9).set 10 O5).set 11 QT
  simpa using this
 ·exact aM (aM (aM (aM (aM (aM (aM (aM (aM (aM (aM (au _ _ _ _) (au _ _ _ _)) (au _ _ _ _)) (au _ _ _ _)) (au _ _ _ _)) (au _ _ _ _)) (au _ _ _ _)) (au _ _ _ _)) (au _ _ _ _)) (au _ _ _ _)) (au _ _ _ _)) (au _ _ _ _)
theorem DO(w:World)(B o:Nat)(u:Value)(s:List UInt8)(hr:dU w B o u s 0 0)(hB:B<=w.heap.size)(hE:(Ms.aj s 4).2.2≠0) :
 Calls Tryz.prog 153 #[.pointer (some ⟨o,0,none⟩)] w (DN w B s):=by
 have ho:=hr.ag.lt;have hsm:=hr.small;obtain⟨w1,e1,jb,aH,aq,hz1⟩:=iz w Re.zero (.slice none 0 0) Re.zero (.slice none 0 0);dsimp only [Re.cells,Re.zero,Bl.zero,Cm.zero,Cm.aL]at e1
 have dh:=aa aH;have lr:=aa jb;have aG:=aa (aq.mono hB);have lU:=aa (cd.bp (o:=o) aq);have ov:=aa (hr.kept aq);have HZ:=aa hz1;have nR:=aa hE;have Xx:Hid (Re.dn s=(Ms.aj s 4).2.2):=by
  show _=_;unfold Re.dn Cm.done;rw[Re.LD s hE,if_pos hE]
 clear jb aH aq hz1 hr hE
 go_enter Tryz.func153,Tryz.ntmps153
 go_wp2_with fail
 refine(ei (w.heap.size+1) _).mono ?_;rintro e2 w2 ⟨rfl,hp2,hb2⟩;have ej:=aa (dh.below hb2 dh.lt);have sZ:=aa (lr.below hb2 lr.lt);have CM:=aa hp2;have bC:=aa (ov.kept hb2);have aR:=aa (aG.trans (hb2.mono (Nat.le_trans hB aG.size)));have kM:=aa (lU.trans (cd.bp (o:=o) hb2));clear hp2 hb2;go_wp2
 go_loopw [6,10] (fun _ i wr => ∃(k:Nat),i = .int .i64 (k:Int)∧k<=4∧Hid (Below B w wr)∧Hid (cd o w wr)∧Hid (dU wr B o u s (Ms.aj s k).2.1 (Ms.aj s k).2.2)∧Hid (ai wr (w.heap.size+1) (Re.base (Ms.aj s k).1) (.slice none 0 0))∧Hid (ai wr w.heap.size Re.zero (.slice none 0 0))∧Hid (mW wr w1.heap.size (w.heap.size+1))) (fun _ i _=>4 - (intOf i).toNat)
 case atStart=>exact⟨0,rfl,by omega,aR,kM,bC,ej,sZ,CM⟩
 case round =>
  obtain⟨k,rfl,hk,HB,HS,HR,HL,HK,HP⟩:=hrel;by_cases hlt:k<4
  ·have hp:=HP.at k hlt
   have hlen:=Ms.fB s k;obtain⟨n,q,e,hq,hx,_,_⟩:=Cm.dV s (Ms.aj s k).2.1 (Ms.aj s k).2.2;have HQ:=aa hq;have HST:Hid (Ms.aj s (k+1)=((Ms.aj s k).1 ++ [n],q,e)):=by
    show _=_;rw[Ms.gU,hq];simp
   obtain⟨L,hL⟩ : ∃L,L=(Ms.aj s k).1:=⟨_,rfl⟩;rw[<- hL]at HST hlen HL
   have qZ:=aa hlen;clear hq hL hlen
   go_wp2_with fail
   refine(cY _ B o u s _ _ n q e HR.out hx HQ).mono ?_;rintro e5 v5 ⟨rfl,ib,bU⟩;have eN:ai v5 (w.heap.size+1) (Re.base L) (.slice none 0 0):=HL.kept bU (by simp;omega)
   go_wp2_with (first
    | (refine aP (by rfl) _ _ _ (by rfl) (w.heap.size+1) k _ _ (Re.cells (Re.base (L ++ [n])) (.slice none 0 0)) (.int .i64 n) [.int .i64 n] (by rfl) (by rfl) (by rfl) (by kernel_rfl) (by rfl) eN (show k+1<=12 by omega) (by have h:=Re.kY L n (.slice none 0 0) (by rw[qZ.out];exact hlt);rw[qZ.out]at h;exact h) ?_
       intro w6 hl hg
       obtain⟨a1,a2,a3,a4⟩:=kN (by decide) hB (Nat.le_succ _) ho HB.out HS.out ib bU _ HL.out hl hg
       have jf:=aa a1;have cy:=aa a2;have oN:=aa a3;have dX:=aa hl;have mh:=aa (a4 _ _ _ (by omega) (by omega) HK.out)
       have Hj:=aa (a4 _ _ _ (by have:=HZ.out;omega) (by have:=HZ.out;omega) HP.out)
       clear a1 a2 a3 a4 hl hg ib bU eN hp)
    | fail)
   go_roundw
   case rel =>
    refine⟨k+1,by go_num,by omega,cy,oN, ?_, ?_,mh,Hj⟩
    ·show dU _ _ _ _ _ _ _
     rw[HST.out];exact jf.out
    ·show ai _ _ _ _
     rw[HST.out];exact dX.out
   case measure=>simp[intOf];omega
  ·obtain rfl:k=4:=by omega
   obtain⟨L,hL⟩ : ∃L,L=(Ms.aj s 4).1:=⟨_,rfl⟩;obtain⟨pp,qT⟩ : ∃pp,pp=(Ms.aj s 4).2.1:=⟨_,rfl⟩;obtain⟨er,jY⟩ : ∃er,er=(Ms.aj s 4).2.2:=⟨_,rfl⟩;have xA:=aa hL;have I7:=aa qT;have I8:=aa jY;rw[<- hL]at HL
   rw[<- qT, <- jY]at HR
   clear hL qT jY;have HD:Hid (Re.dn s=er):=Xx.trans I8.symm;have Q2:er≠0:=by rw[I8.out];exact nR.out
   have HN:=aa Q2;have hne:(er != 0)=true:=by simpa using Q2
   clear Q2
   go_wp2_with fail
   refine(dI _ B o u s pp er HR.out).mono ?_;rintro e5 w5 ⟨rfl,rfl⟩;have HC:=aa HK.out
   go_wp2_with (first
    | (refine aY (by rfl) _ _ (by rfl) w.heap.size Re.zero _ Re.zero (.slice none 0 0) (by rfl) (by rfl) rfl HK.out ?_
       intro w7 dH cr
       have bw:=aa (HB.grown cr (Nat.le_trans hB HB.size) (by rintro j hj;cases hj;exact hB)))
    | fail)
   refine cL rfl rfl dH rfl ?_;exact⟨Re.zero, .slice none 0 0,by rw[HD.out];rfl,fun h=>absurd (HD.symm.trans h) HN.out,bB.empty _,bw.out⟩
theorem LF(w:World)(B o:Nat)(u:Value)(s:List UInt8)(hr:dU w B o u s 0 0)(hB:B<=w.heap.size)(hE:(Ms.aj s 4).2.2=0)(hK:Ms.nth (Ms.aj s 4).1 0=1) :
 Calls Tryz.prog 153 #[.pointer (some ⟨o,0,none⟩)] w (DN w B s):=by
 have ho:=hr.ag.lt;have hsm:=hr.small;obtain⟨w1,e1,jb,aH,aq,hz1⟩:=iz w Re.zero (.slice none 0 0) Re.zero (.slice none 0 0);dsimp only [Re.cells,Re.zero,Bl.zero,Cm.zero,Cm.aL]at e1
 have dh:=aa aH;have lr:=aa jb;have aG:=aa (aq.mono hB);have lU:=aa (cd.bp (o:=o) aq);have ov:=aa (hr.kept aq);have HZ:=aa hz1;have Oc:=aa hE;have IV:=aa hK;have HG:Hid (Re.got s=(Re.base (Ms.aj s 4).1,(Ms.aj s 4).2.1,0)):=by
  show _=_;unfold Re.got;rw[hK,hE]
  rfl
 clear jb aH aq hz1 hr hE hK
 go_enter Tryz.func153,Tryz.ntmps153
 go_wp2_with fail
 refine(ei (w.heap.size+1) _).mono ?_;rintro e2 w2 ⟨rfl,hp2,hb2⟩;have ej:=aa (dh.below hb2 dh.lt);have sZ:=aa (lr.below hb2 lr.lt);have CM:=aa hp2;have bC:=aa (ov.kept hb2);have aR:=aa (aG.trans (hb2.mono (Nat.le_trans hB aG.size)));have kM:=aa (lU.trans (cd.bp (o:=o) hb2));clear hp2 hb2;go_wp2
 go_loopw [6,10] (fun _ i wr => ∃(k:Nat),i = .int .i64 (k:Int)∧k<=4∧Hid (Below B w wr)∧Hid (cd o w wr)∧Hid (dU wr B o u s (Ms.aj s k).2.1 (Ms.aj s k).2.2)∧Hid (ai wr (w.heap.size+1) (Re.base (Ms.aj s k).1) (.slice none 0 0))∧Hid (ai wr w.heap.size Re.zero (.slice none 0 0))∧Hid (mW wr w1.heap.size (w.heap.size+1))) (fun _ i _=>4 - (intOf i).toNat)
 case atStart=>exact⟨0,rfl,by omega,aR,kM,bC,ej,sZ,CM⟩
 case round =>
  obtain⟨k,rfl,hk,HB,HS,HR,HL,HK,HP⟩:=hrel;by_cases hlt:k<4
  ·have hp:=HP.at k hlt
   have hlen:=Ms.fB s k;obtain⟨n,q,e,hq,hx,_,_⟩:=Cm.dV s (Ms.aj s k).2.1 (Ms.aj s k).2.2;have HQ:=aa hq;have HST:Hid (Ms.aj s (k+1)=((Ms.aj s k).1 ++ [n],q,e)):=by
    show _=_;rw[Ms.gU,hq];simp
   obtain⟨L,hL⟩ : ∃L,L=(Ms.aj s k).1:=⟨_,rfl⟩;rw[<- hL]at HST hlen HL
   have qZ:=aa hlen;clear hq hL hlen
   go_wp2_with fail
   refine(cY _ B o u s _ _ n q e HR.out hx HQ).mono ?_;rintro e5 v5 ⟨rfl,ib,bU⟩;have eN:ai v5 (w.heap.size+1) (Re.base L) (.slice none 0 0):=HL.kept bU (by simp;omega)
   go_wp2_with (first
    | (refine aP (by rfl) _ _ _ (by rfl) (w.heap.size+1) k _ _ (Re.cells (Re.base (L ++ [n])) (.slice none 0 0)) (.int .i64 n) [.int .i64 n] (by rfl) (by rfl) (by rfl) (by kernel_rfl) (by rfl) eN (show k+1<=12 by omega) (by have h:=Re.kY L n (.slice none 0 0) (by rw[qZ.out];exact hlt);rw[qZ.out]at h;exact h) ?_
       intro w6 hl hg
       obtain⟨a1,a2,a3,a4⟩:=kN (by decide) hB (Nat.le_succ _) ho HB.out HS.out ib bU _ HL.out hl hg
       have jf:=aa a1;have cy:=aa a2;have oN:=aa a3;have dX:=aa hl;have mh:=aa (a4 _ _ _ (by omega) (by omega) HK.out)
       have Hj:=aa (a4 _ _ _ (by have:=HZ.out;omega) (by have:=HZ.out;omega) HP.out)
       clear a1 a2 a3 a4 hl hg ib bU eN hp)
    | fail)
   go_roundw
   case rel =>
    refine⟨k+1,by go_num,by omega,cy,oN, ?_, ?_,mh,Hj⟩
    ·show dU _ _ _ _ _ _ _
     rw[HST.out];exact jf.out
    ·show ai _ _ _ _
     rw[HST.out];exact dX.out
   case measure=>simp[intOf];omega
  ·obtain rfl:k=4:=by omega
   obtain⟨L,hL⟩ : ∃L,L=(Ms.aj s 4).1:=⟨_,rfl⟩;obtain⟨pp,qT⟩ : ∃pp,pp=(Ms.aj s 4).2.1:=⟨_,rfl⟩;obtain⟨er,jY⟩ : ∃er,er=(Ms.aj s 4).2.2:=⟨_,rfl⟩;have xA:=aa hL;have I7:=aa qT;have I8:=aa jY;rw[<- hL]at HL
   rw[<- qT, <- jY]at HR
   clear hL qT jY;obtain rfl:er=0:=I8.trans Oc.out;have hkk:Ms.nth L 0=1:=by rw[xA.out];exact IV.out
   have q0:=ai.c0 HL.out;rw[show(Re.base L).kind=Ms.nth L 0 from rfl]at q0
   rw[hkk]at q0
   clear hkk;have Od:Hid (Re.dn s=Cm.done s pp 0):=by
    show _=_;unfold Re.dn;rw[HG.out,I7.out]
   have pI:Hid ((Re.got s).1=Re.base L):=by show _=_;rw[HG.out,xA.out]
   have HI:Hid (bB wr (.slice none 0 0) (Re.base L).aw):=bB.empty _
   go_wp2_with fail
   refine(dI _ B o u s pp 0 HR.out).mono ?_;rintro e5 w5 ⟨rfl,rfl⟩;go_wp2;clear q0;obtain⟨p0,p1,p2,p3,p4,p5,p6,p7,p8,p9,cG,cE⟩:=ai.all HL.out;have Gk:Hid (Calls Tryz.prog 114 #[.pointer (some ⟨o,0,none⟩)] wr.drew (fun en w' => en = .returned (.int .i64 (Re.dn s))∧ai w' (w.heap.size+1) (Re.base L) (.slice none 0 0)∧ai w' w.heap.size Re.zero (.slice none 0 0)∧Below wr.heap.size wr w')):=by
    refine(js wr.drew B o u s _ _ (HR.kept (Below.refl _ _).drew)).mono ?_;rintro en w' ⟨rfl,q6,rfl⟩;have hd:Below wr.heap.size wr (wr.drew.drewN q6):=((Below.refl _ _).drew).trans (drawn wr.drew q6);exact⟨by rw[Od.out];rfl,HL.below hd HL.lt,HK.below hd HK.lt,hd⟩
   obtain⟨z0,z1,z2,z3,z4,z5,z6,z7,z8,z9,tE,E3⟩:=ai.all HK.out;dsimp only [Re.zero,Bl.zero,Cm.zero,Cm.aL]at z0 z1 z2 z3 z4 z5 z6 z7 z8 z9 tE
   have f0:=HK.free 0;have f1:=HK.free 1;have f2:=HK.free 2;have f3:=HK.free 3;have f4:=HK.free 4;have f5:=HK.free 5;have f6:=HK.free 6;have f7:=HK.free 7;have f8:=HK.free 8;have f9:=HK.free 9;have f10:=HK.free 10;have f11:=HK.free 11;obtain⟨D,hD⟩ : ∃D,D=Re.dn s:=⟨_,rfl⟩;rw[<- hD]at Gk
   have vX:=aa hD;clear hD
   go_region_with (first
    | (go_at_call 114
       with_reducible refine Gk.out.mono ?_
       rintro e8 w8 ⟨rfl,Q3,fI,Q4⟩;obtain⟨p0,p1,p2,p3,p4,p5,p6,p7,p8,p9,cG,cE⟩:=ai.all Q3;have lq:Hid (ai w8 w.heap.size Re.zero (.slice none 0 0)∧Below wr.heap.size wr w8):=⟨fI,Q4⟩;obtain⟨z0,z1,z2,z3,z4,z5,z6,z7,z8,z9,tE,E3⟩:=ai.all fI;dsimp only [Re.zero,Bl.zero,Cm.zero,Cm.aL]at z0 z1 z2 z3 z4 z5 z6 z7 z8 z9 tE
       have f0:=fI.free 0;have f1:=fI.free 1;have f2:=fI.free 2;have f3:=fI.free 3;have f4:=fI.free 4;have f5:=fI.free 5;have f6:=fI.free 6;have f7:=fI.free 7;have f8:=fI.free 8;have f9:=fI.free 9;have f10:=fI.free 10;have f11:=fI.free 11))
   all_goals
    refine jG lq.1 _ _ _ _ _ _ _ _ _ _ _ _ ?_;intro w9 gP cM
    clear p0 p1 p2 p3 p4 p5 p6 p7 p8 p9 cG cE z0 z1 z2 z3 z4 z5 z6 z7 z8 z9 tE E3 f0 f1 f2 f3 f4 f5 f6 f7 f8 f9 f10 f11;have oy:Hid (ai w9 w.heap.size (Re.base L) (.slice none 0 0)):=gP;have Oe:=aa ((HI.below lq.2).fq lq.1 cM);have eY:=aa ((HB.trans (lq.2.mono (Nat.le_trans hB HB.size))).grown cM (Nat.le_trans hB (Nat.le_trans HB.size lq.2.size)) (by rintro x hx;cases hx;exact hB))
    clear gP cM;go_wp2;refine cL rfl rfl oy.out rfl ?_;exact⟨(Re.base L),(.slice none 0 0),by rw[<- vX.out];rfl,fun _=>pI.symm,Oe.out,eY.out⟩
theorem LH(w:World)(B o:Nat)(u:Value)(s:List UInt8)(hr:dU w B o u s 0 0)(hB:B<=w.heap.size)(hE:(Ms.aj s 4).2.2=0)(hK:Ms.nth (Ms.aj s 4).1 0=2) :
 Calls Tryz.prog 153 #[.pointer (some ⟨o,0,none⟩)] w (DN w B s):=by
 have ho:=hr.ag.lt;have hsm:=hr.small;obtain⟨w1,e1,jb,aH,aq,hz1⟩:=iz w Re.zero (.slice none 0 0) Re.zero (.slice none 0 0);dsimp only [Re.cells,Re.zero,Bl.zero,Cm.zero,Cm.aL]at e1
 have dh:=aa aH;have lr:=aa jb;have aG:=aa (aq.mono hB);have lU:=aa (cd.bp (o:=o) aq);have ov:=aa (hr.kept aq);have HZ:=aa hz1;have Oc:=aa hE;have IV:=aa hK;have HG:Hid (Re.got s=({Re.base (Ms.aj s 4).1 with cmd:=(Cm.get 1 s (Ms.aj s 4).2.1 0).1},(Cm.get 1 s (Ms.aj s 4).2.1 0).2.1,(Cm.get 1 s (Ms.aj s 4).2.1 0).2.2)):=by
  show _=_;unfold Re.got;rw[hK,hE]
  rfl
 clear jb aH aq hz1 hr hE hK
 go_enter Tryz.func153,Tryz.ntmps153
 go_wp2_with fail
 refine(ei (w.heap.size+1) _).mono ?_;rintro e2 w2 ⟨rfl,hp2,hb2⟩;have ej:=aa (dh.below hb2 dh.lt);have sZ:=aa (lr.below hb2 lr.lt);have CM:=aa hp2;have bC:=aa (ov.kept hb2);have aR:=aa (aG.trans (hb2.mono (Nat.le_trans hB aG.size)));have kM:=aa (lU.trans (cd.bp (o:=o) hb2));clear hp2 hb2;go_wp2
 go_loopw [6,10] (fun _ i wr => ∃(k:Nat),i = .int .i64 (k:Int)∧k<=4∧Hid (Below B w wr)∧Hid (cd o w wr)∧Hid (dU wr B o u s (Ms.aj s k).2.1 (Ms.aj s k).2.2)∧Hid (ai wr (w.heap.size+1) (Re.base (Ms.aj s k).1) (.slice none 0 0))∧Hid (ai wr w.heap.size Re.zero (.slice none 0 0))∧Hid (mW wr w1.heap.size (w.heap.size+1))) (fun _ i _=>4 - (intOf i).toNat)
 case atStart=>exact⟨0,rfl,by omega,aR,kM,bC,ej,sZ,CM⟩
 case round =>
  obtain⟨k,rfl,hk,HB,HS,HR,HL,HK,HP⟩:=hrel;by_cases hlt:k<4
  ·have hp:=HP.at k hlt
   have hlen:=Ms.fB s k;obtain⟨n,q,e,hq,hx,_,_⟩:=Cm.dV s (Ms.aj s k).2.1 (Ms.aj s k).2.2;have HQ:=aa hq;have HST:Hid (Ms.aj s (k+1)=((Ms.aj s k).1 ++ [n],q,e)):=by
    show _=_;rw[Ms.gU,hq];simp
   obtain⟨L,hL⟩ : ∃L,L=(Ms.aj s k).1:=⟨_,rfl⟩;rw[<- hL]at HST hlen HL
   have qZ:=aa hlen;clear hq hL hlen
   go_wp2_with fail
   refine(cY _ B o u s _ _ n q e HR.out hx HQ).mono ?_;rintro e5 v5 ⟨rfl,ib,bU⟩;have eN:ai v5 (w.heap.size+1) (Re.base L) (.slice none 0 0):=HL.kept bU (by simp;omega)
   go_wp2_with (first
    | (refine aP (by rfl) _ _ _ (by rfl) (w.heap.size+1) k _ _ (Re.cells (Re.base (L ++ [n])) (.slice none 0 0)) (.int .i64 n) [.int .i64 n] (by rfl) (by rfl) (by rfl) (by kernel_rfl) (by rfl) eN (show k+1<=12 by omega) (by have h:=Re.kY L n (.slice none 0 0) (by rw[qZ.out];exact hlt);rw[qZ.out]at h;exact h) ?_
       intro w6 hl hg
       obtain⟨a1,a2,a3,a4⟩:=kN (by decide) hB (Nat.le_succ _) ho HB.out HS.out ib bU _ HL.out hl hg
       have jf:=aa a1;have cy:=aa a2;have oN:=aa a3;have dX:=aa hl;have mh:=aa (a4 _ _ _ (by omega) (by omega) HK.out)
       have Hj:=aa (a4 _ _ _ (by have:=HZ.out;omega) (by have:=HZ.out;omega) HP.out)
       clear a1 a2 a3 a4 hl hg ib bU eN hp)
    | fail)
   go_roundw
   case rel =>
    refine⟨k+1,by go_num,by omega,cy,oN, ?_, ?_,mh,Hj⟩
    ·show dU _ _ _ _ _ _ _
     rw[HST.out];exact jf.out
    ·show ai _ _ _ _
     rw[HST.out];exact dX.out
   case measure=>simp[intOf];omega
  ·obtain rfl:k=4:=by omega
   obtain⟨L,hL⟩ : ∃L,L=(Ms.aj s 4).1:=⟨_,rfl⟩;obtain⟨pp,qT⟩ : ∃pp,pp=(Ms.aj s 4).2.1:=⟨_,rfl⟩;obtain⟨er,jY⟩ : ∃er,er=(Ms.aj s 4).2.2:=⟨_,rfl⟩;have xA:=aa hL;have I7:=aa qT;have I8:=aa jY;rw[<- hL]at HL
   rw[<- qT, <- jY]at HR
   clear hL qT jY;obtain rfl:er=0:=I8.trans Oc.out;have hkk:Ms.nth L 0=2:=by rw[xA.out];exact IV.out
   have q0:=ai.c0 HL.out;rw[show(Re.base L).kind=Ms.nth L 0 from rfl]at q0
   rw[hkk]at q0
   clear hkk
   go_wp2_with fail
   refine(dI _ B o u s pp 0 HR.out).mono ?_;rintro e5 w5 ⟨rfl,rfl⟩
   go_wp2_with fail
   refine(qU 1 _ B o u s pp 0 rfl HR.out (Nat.le_trans hB HB.size)).mono ?_;rintro e6 w6 ⟨⟨rfl,qP,fP⟩,tr⟩;have Od:Hid (Re.dn s=Cm.done s (Cm.get 1 s pp 0).2.1 (Cm.get 1 s pp 0).2.2):=by
    show _=_;unfold Re.dn;rw[HG.out,I7.out]
   have pI:Hid ((Re.got s).1={Re.base L with cmd:=(Cm.get 1 s pp 0).1}):=by show _=_;rw[HG.out,xA.out,I7.out]
   obtain⟨t,ht⟩ : ∃t,t=Cm.get 1 s pp 0:=⟨_,rfl⟩;rw[<- ht]at qP Od pI ⊢
   have jf:=aa qP;have cy:=aa (HB.trans fP);have dX:=aa (tr _ _ _ (by omega) HL.out);have mh:=aa (tr _ _ _ (by omega) HK.out)
   clear qP fP tr ht q0
   go_wp2_with (first
    | (refine aP (by rfl) _ _ _ (by rfl) (w.heap.size+1) 4 _ _ (Re.cells {Re.base L with cmd:=t.1} (.slice none 0 0)) (.agg (Cm.cells t.1)) (Cm.cells t.1).toList (by rfl) (by rfl) (by rfl) (by kernel_rfl) (by rw[Array.all_toList];exact Cm.cR _) dX.out (Nat.le_of_ble_eq_true rfl) (by rfl) ?_
       intro w7 hl hg
       have I3:=aa (jf.gC hg (by omega) (fun h=>dX.not_row (by decide) jf.owns h.symm))
       have bw:=aa (cy.grown hg (Nat.le_trans hB cy.size) (by rintro x hx;cases hx;omega))
       have vP:=aa hl;have jR:=aa (mh.kept hg (by simp))
       have Av:Hid (bB w7 (.slice none 0 0) ({Re.base L with cmd:=t.1}:Re.Rec).aw):=bB.empty _
       clear hl hg)
    | fail)
   obtain⟨p0,p1,p2,p3,p4,p5,p6,p7,p8,p9,cG,cE⟩:=ai.all vP.out;have Gk:Hid (Calls Tryz.prog 114 #[.pointer (some ⟨o,0,none⟩)] w7.drew (fun en w' => en = .returned (.int .i64 (Re.dn s))∧ai w' (w.heap.size+1) {Re.base L with cmd:=t.1} (.slice none 0 0)∧ai w' w.heap.size Re.zero (.slice none 0 0)∧Below w7.heap.size w7 w')):=by
    refine(js w7.drew B o u s _ _ (I3.kept (Below.refl _ _).drew)).mono ?_;rintro en w' ⟨rfl,q6,rfl⟩;have hd:Below w7.heap.size w7 (w7.drew.drewN q6):=((Below.refl _ _).drew).trans (drawn w7.drew q6);exact⟨by rw[Od.out];rfl,vP.below hd vP.lt,jR.below hd jR.lt,hd⟩
   obtain⟨z0,z1,z2,z3,z4,z5,z6,z7,z8,z9,tE,E3⟩:=ai.all jR.out;dsimp only [Re.zero,Bl.zero,Cm.zero,Cm.aL]at z0 z1 z2 z3 z4 z5 z6 z7 z8 z9 tE
   have f0:=jR.free 0;have f1:=jR.free 1;have f2:=jR.free 2;have f3:=jR.free 3;have f4:=jR.free 4;have f5:=jR.free 5;have f6:=jR.free 6;have f7:=jR.free 7;have f8:=jR.free 8;have f9:=jR.free 9;have f10:=jR.free 10;have f11:=jR.free 11;obtain⟨D,hD⟩ : ∃D,D=Re.dn s:=⟨_,rfl⟩;rw[<- hD]at Gk
   have vX:=aa hD;clear hD;go_wp2
   go_region_with (first
    | (go_at_call 114
       with_reducible refine Gk.out.mono ?_
       rintro e8 w8 ⟨rfl,Q3,fI,Q4⟩;obtain⟨p0,p1,p2,p3,p4,p5,p6,p7,p8,p9,cG,cE⟩:=ai.all Q3;have lq:Hid (ai w8 w.heap.size Re.zero (.slice none 0 0)∧Below w7.heap.size w7 w8):=⟨fI,Q4⟩;obtain⟨z0,z1,z2,z3,z4,z5,z6,z7,z8,z9,tE,E3⟩:=ai.all fI;dsimp only [Re.zero,Bl.zero,Cm.zero,Cm.aL]at z0 z1 z2 z3 z4 z5 z6 z7 z8 z9 tE
       have f0:=fI.free 0;have f1:=fI.free 1;have f2:=fI.free 2;have f3:=fI.free 3;have f4:=fI.free 4;have f5:=fI.free 5;have f6:=fI.free 6;have f7:=fI.free 7;have f8:=fI.free 8;have f9:=fI.free 9;have f10:=fI.free 10;have f11:=fI.free 11))
   all_goals
    refine jG lq.1 _ _ _ _ _ _ _ _ _ _ _ _ ?_;intro w9 gP cM
    clear p0 p1 p2 p3 p4 p5 p6 p7 p8 p9 cG cE z0 z1 z2 z3 z4 z5 z6 z7 z8 z9 tE E3 f0 f1 f2 f3 f4 f5 f6 f7 f8 f9 f10 f11;have oy:Hid (ai w9 w.heap.size {Re.base L with cmd:=t.1} (.slice none 0 0)):=gP
    have Oe:=aa ((Av.below lq.2).fq lq.1 cM);have eY:=aa ((bw.trans (lq.2.mono (Nat.le_trans hB bw.size))).grown cM (Nat.le_trans hB (Nat.le_trans bw.size lq.2.size)) (by rintro x hx;cases hx;exact hB))
    clear gP cM;go_wp2;refine cL rfl rfl oy.out rfl ?_;exact⟨{Re.base L with cmd:=t.1},(.slice none 0 0),by rw[<- vX.out];rfl,fun _=>pI.symm,Oe.out,eY.out⟩
theorem LI(w:World)(B o:Nat)(u:Value)(s:List UInt8)(hr:dU w B o u s 0 0)(hB:B<=w.heap.size)(hE:(Ms.aj s 4).2.2=0)(hK:Ms.nth (Ms.aj s 4).1 0=3) :
 Calls Tryz.prog 153 #[.pointer (some ⟨o,0,none⟩)] w (DN w B s):=by
 have ho:=hr.ag.lt;have hsm:=hr.small;obtain⟨w1,e1,jb,aH,aq,hz1⟩:=iz w Re.zero (.slice none 0 0) Re.zero (.slice none 0 0);dsimp only [Re.cells,Re.zero,Bl.zero,Cm.zero,Cm.aL]at e1
 have dh:=aa aH;have lr:=aa jb;have aG:=aa (aq.mono hB);have lU:=aa (cd.bp (o:=o) aq);have ov:=aa (hr.kept aq);have HZ:=aa hz1;have Oc:=aa hE;have IV:=aa hK;have HG:Hid (Re.got s=({Re.base (Ms.aj s 4).1 with cmd:=(Cm.get 1 s (Ms.aj s 4).2.1 0).1},(Cm.get 1 s (Ms.aj s 4).2.1 0).2.1,(Cm.get 1 s (Ms.aj s 4).2.1 0).2.2)):=by
  show _=_;unfold Re.got;rw[hK,hE]
  rfl
 clear jb aH aq hz1 hr hE hK
 go_enter Tryz.func153,Tryz.ntmps153
 go_wp2_with fail
 refine(ei (w.heap.size+1) _).mono ?_;rintro e2 w2 ⟨rfl,hp2,hb2⟩;have ej:=aa (dh.below hb2 dh.lt);have sZ:=aa (lr.below hb2 lr.lt);have CM:=aa hp2;have bC:=aa (ov.kept hb2);have aR:=aa (aG.trans (hb2.mono (Nat.le_trans hB aG.size)));have kM:=aa (lU.trans (cd.bp (o:=o) hb2));clear hp2 hb2;go_wp2
 go_loopw [6,10] (fun _ i wr => ∃(k:Nat),i = .int .i64 (k:Int)∧k<=4∧Hid (Below B w wr)∧Hid (cd o w wr)∧Hid (dU wr B o u s (Ms.aj s k).2.1 (Ms.aj s k).2.2)∧Hid (ai wr (w.heap.size+1) (Re.base (Ms.aj s k).1) (.slice none 0 0))∧Hid (ai wr w.heap.size Re.zero (.slice none 0 0))∧Hid (mW wr w1.heap.size (w.heap.size+1))) (fun _ i _=>4 - (intOf i).toNat)
 case atStart=>exact⟨0,rfl,by omega,aR,kM,bC,ej,sZ,CM⟩
 case round =>
  obtain⟨k,rfl,hk,HB,HS,HR,HL,HK,HP⟩:=hrel;by_cases hlt:k<4
  ·have hp:=HP.at k hlt
   have hlen:=Ms.fB s k;obtain⟨n,q,e,hq,hx,_,_⟩:=Cm.dV s (Ms.aj s k).2.1 (Ms.aj s k).2.2;have HQ:=aa hq;have HST:Hid (Ms.aj s (k+1)=((Ms.aj s k).1 ++ [n],q,e)):=by
    show _=_;rw[Ms.gU,hq];simp
   obtain⟨L,hL⟩ : ∃L,L=(Ms.aj s k).1:=⟨_,rfl⟩;rw[<- hL]at HST hlen HL
   have qZ:=aa hlen;clear hq hL hlen
   go_wp2_with fail
   refine(cY _ B o u s _ _ n q e HR.out hx HQ).mono ?_;rintro e5 v5 ⟨rfl,ib,bU⟩;have eN:ai v5 (w.heap.size+1) (Re.base L) (.slice none 0 0):=HL.kept bU (by simp;omega)
   go_wp2_with (first
    | (refine aP (by rfl) _ _ _ (by rfl) (w.heap.size+1) k _ _ (Re.cells (Re.base (L ++ [n])) (.slice none 0 0)) (.int .i64 n) [.int .i64 n] (by rfl) (by rfl) (by rfl) (by kernel_rfl) (by rfl) eN (show k+1<=12 by omega) (by have h:=Re.kY L n (.slice none 0 0) (by rw[qZ.out];exact hlt);rw[qZ.out]at h;exact h) ?_
       intro w6 hl hg
       obtain⟨a1,a2,a3,a4⟩:=kN (by decide) hB (Nat.le_succ _) ho HB.out HS.out ib bU _ HL.out hl hg
       have jf:=aa a1;have cy:=aa a2;have oN:=aa a3;have dX:=aa hl;have mh:=aa (a4 _ _ _ (by omega) (by omega) HK.out)
       have Hj:=aa (a4 _ _ _ (by have:=HZ.out;omega) (by have:=HZ.out;omega) HP.out)
       clear a1 a2 a3 a4 hl hg ib bU eN hp)
    | fail)
   go_roundw
   case rel =>
    refine⟨k+1,by go_num,by omega,cy,oN, ?_, ?_,mh,Hj⟩
    ·show dU _ _ _ _ _ _ _
     rw[HST.out];exact jf.out
    ·show ai _ _ _ _
     rw[HST.out];exact dX.out
   case measure=>simp[intOf];omega
  ·obtain rfl:k=4:=by omega
   obtain⟨L,hL⟩ : ∃L,L=(Ms.aj s 4).1:=⟨_,rfl⟩;obtain⟨pp,qT⟩ : ∃pp,pp=(Ms.aj s 4).2.1:=⟨_,rfl⟩;obtain⟨er,jY⟩ : ∃er,er=(Ms.aj s 4).2.2:=⟨_,rfl⟩;have xA:=aa hL;have I7:=aa qT;have I8:=aa jY;rw[<- hL]at HL
   rw[<- qT, <- jY]at HR
   clear hL qT jY;obtain rfl:er=0:=I8.trans Oc.out;have hkk:Ms.nth L 0=3:=by rw[xA.out];exact IV.out
   have q0:=ai.c0 HL.out;rw[show(Re.base L).kind=Ms.nth L 0 from rfl]at q0
   rw[hkk]at q0
   clear hkk
   go_wp2_with fail
   refine(dI _ B o u s pp 0 HR.out).mono ?_;rintro e5 w5 ⟨rfl,rfl⟩
   go_wp2_with fail
   refine(qU 1 _ B o u s pp 0 rfl HR.out (Nat.le_trans hB HB.size)).mono ?_;rintro e6 w6 ⟨⟨rfl,qP,fP⟩,tr⟩;have Od:Hid (Re.dn s=Cm.done s (Cm.get 1 s pp 0).2.1 (Cm.get 1 s pp 0).2.2):=by
    show _=_;unfold Re.dn;rw[HG.out,I7.out]
   have pI:Hid ((Re.got s).1={Re.base L with cmd:=(Cm.get 1 s pp 0).1}):=by show _=_;rw[HG.out,xA.out,I7.out]
   obtain⟨t,ht⟩ : ∃t,t=Cm.get 1 s pp 0:=⟨_,rfl⟩;rw[<- ht]at qP Od pI ⊢
   have jf:=aa qP;have cy:=aa (HB.trans fP);have dX:=aa (tr _ _ _ (by omega) HL.out);have mh:=aa (tr _ _ _ (by omega) HK.out)
   clear qP fP tr ht q0
   go_wp2_with (first
    | (refine aP (by rfl) _ _ _ (by rfl) (w.heap.size+1) 4 _ _ (Re.cells {Re.base L with cmd:=t.1} (.slice none 0 0)) (.agg (Cm.cells t.1)) (Cm.cells t.1).toList (by rfl) (by rfl) (by rfl) (by kernel_rfl) (by rw[Array.all_toList];exact Cm.cR _) dX.out (Nat.le_of_ble_eq_true rfl) (by rfl) ?_
       intro w7 hl hg
       have I3:=aa (jf.gC hg (by omega) (fun h=>dX.not_row (by decide) jf.owns h.symm))
       have bw:=aa (cy.grown hg (Nat.le_trans hB cy.size) (by rintro x hx;cases hx;omega))
       have vP:=aa hl;have jR:=aa (mh.kept hg (by simp))
       have Av:Hid (bB w7 (.slice none 0 0) ({Re.base L with cmd:=t.1}:Re.Rec).aw):=bB.empty _
       clear hl hg)
    | fail)
   obtain⟨p0,p1,p2,p3,p4,p5,p6,p7,p8,p9,cG,cE⟩:=ai.all vP.out;have Gk:Hid (Calls Tryz.prog 114 #[.pointer (some ⟨o,0,none⟩)] w7.drew (fun en w' => en = .returned (.int .i64 (Re.dn s))∧ai w' (w.heap.size+1) {Re.base L with cmd:=t.1} (.slice none 0 0)∧ai w' w.heap.size Re.zero (.slice none 0 0)∧Below w7.heap.size w7 w')):=by
    refine(js w7.drew B o u s _ _ (I3.kept (Below.refl _ _).drew)).mono ?_;rintro en w' ⟨rfl,q6,rfl⟩;have hd:Below w7.heap.size w7 (w7.drew.drewN q6):=((Below.refl _ _).drew).trans (drawn w7.drew q6);exact⟨by rw[Od.out];rfl,vP.below hd vP.lt,jR.below hd jR.lt,hd⟩
   obtain⟨z0,z1,z2,z3,z4,z5,z6,z7,z8,z9,tE,E3⟩:=ai.all jR.out;dsimp only [Re.zero,Bl.zero,Cm.zero,Cm.aL]at z0 z1 z2 z3 z4 z5 z6 z7 z8 z9 tE
   have f0:=jR.free 0;have f1:=jR.free 1;have f2:=jR.free 2;have f3:=jR.free 3;have f4:=jR.free 4;have f5:=jR.free 5;have f6:=jR.free 6;have f7:=jR.free 7;have f8:=jR.free 8;have f9:=jR.free 9;have f10:=jR.free 10;have f11:=jR.free 11;obtain⟨D,hD⟩ : ∃D,D=Re.dn s:=⟨_,rfl⟩;rw[<- hD]at Gk
   have vX:=aa hD;clear hD;go_wp2
   go_region_with (first
    | (go_at_call 114
       with_reducible refine Gk.out.mono ?_
       rintro e8 w8 ⟨rfl,Q3,fI,Q4⟩;obtain⟨p0,p1,p2,p3,p4,p5,p6,p7,p8,p9,cG,cE⟩:=ai.all Q3;have lq:Hid (ai w8 w.heap.size Re.zero (.slice none 0 0)∧Below w7.heap.size w7 w8):=⟨fI,Q4⟩;obtain⟨z0,z1,z2,z3,z4,z5,z6,z7,z8,z9,tE,E3⟩:=ai.all fI;dsimp only [Re.zero,Bl.zero,Cm.zero,Cm.aL]at z0 z1 z2 z3 z4 z5 z6 z7 z8 z9 tE
       have f0:=fI.free 0;have f1:=fI.free 1;have f2:=fI.free 2;have f3:=fI.free 3;have f4:=fI.free 4;have f5:=fI.free 5;have f6:=fI.free 6;have f7:=fI.free 7;have f8:=fI.free 8;have f9:=fI.free 9;have f10:=fI.free 10;have f11:=fI.free 11))
   all_goals
    refine jG lq.1 _ _ _ _ _ _ _ _ _ _ _ _ ?_;intro w9 gP cM
    clear p0 p1 p2 p3 p4 p5 p6 p7 p8 p9 cG cE z0 z1 z2 z3 z4 z5 z6 z7 z8 z9 tE E3 f0 f1 f2 f3 f4 f5 f6 f7 f8 f9 f10 f11;have oy:Hid (ai w9 w.heap.size {Re.base L with cmd:=t.1} (.slice none 0 0)):=gP
    have Oe:=aa ((Av.below lq.2).fq lq.1 cM);have eY:=aa ((bw.trans (lq.2.mono (Nat.le_trans hB bw.size))).grown cM (Nat.le_trans hB (Nat.le_trans bw.size lq.2.size)) (by rintro x hx;cases hx;exact hB))
    clear gP cM;go_wp2;refine cL rfl rfl oy.out rfl ?_;exact⟨{Re.base L with cmd:=t.1},(.slice none 0 0),by rw[<- vX.out];rfl,fun _=>pI.symm,Oe.out,eY.out⟩
theorem LJ(w:World)(B o:Nat)(u:Value)(s:List UInt8)(hr:dU w B o u s 0 0)(hB:B<=w.heap.size)(hE:(Ms.aj s 4).2.2=0)(hK:Ms.nth (Ms.aj s 4).1 0=4) :
 Calls Tryz.prog 153 #[.pointer (some ⟨o,0,none⟩)] w (DN w B s):=by
 have ho:=hr.ag.lt;have hsm:=hr.small;obtain⟨w1,e1,jb,aH,aq,hz1⟩:=iz w Re.zero (.slice none 0 0) Re.zero (.slice none 0 0);dsimp only [Re.cells,Re.zero,Bl.zero,Cm.zero,Cm.aL]at e1
 have dh:=aa aH;have lr:=aa jb;have aG:=aa (aq.mono hB);have lU:=aa (cd.bp (o:=o) aq);have ov:=aa (hr.kept aq);have HZ:=aa hz1;have Oc:=aa hE;have IV:=aa hK;have HG:Hid (Re.got s=({Re.base (Ms.aj s 4).1 with aw:=(Ms.raw s (Ms.aj s 4).2.1 0).1},(Ms.raw s (Ms.aj s 4).2.1 0).2.1.toNat,(Ms.raw s (Ms.aj s 4).2.1 0).2.2)):=by
  show _=_;unfold Re.got;rw[hK,hE]
  rfl
 have Xy:Hid ((Re.got s).1.aw.length<=s.length):=(Re.nC s).2.2;have Xz:=aa (Ms.pN s 4);clear jb aH aq hz1 hr hE hK
 go_enter Tryz.func153,Tryz.ntmps153
 go_wp2_with fail
 refine(ei (w.heap.size+1) _).mono ?_;rintro e2 w2 ⟨rfl,hp2,hb2⟩;have ej:=aa (dh.below hb2 dh.lt);have sZ:=aa (lr.below hb2 lr.lt);have CM:=aa hp2;have bC:=aa (ov.kept hb2);have aR:=aa (aG.trans (hb2.mono (Nat.le_trans hB aG.size)));have kM:=aa (lU.trans (cd.bp (o:=o) hb2));clear hp2 hb2;go_wp2
 go_loopw [6,10] (fun _ i wr => ∃(k:Nat),i = .int .i64 (k:Int)∧k<=4∧Hid (Below B w wr)∧Hid (cd o w wr)∧Hid (dU wr B o u s (Ms.aj s k).2.1 (Ms.aj s k).2.2)∧Hid (ai wr (w.heap.size+1) (Re.base (Ms.aj s k).1) (.slice none 0 0))∧Hid (ai wr w.heap.size Re.zero (.slice none 0 0))∧Hid (mW wr w1.heap.size (w.heap.size+1))) (fun _ i _=>4 - (intOf i).toNat)
 case atStart=>exact⟨0,rfl,by omega,aR,kM,bC,ej,sZ,CM⟩
 case round =>
  obtain⟨k,rfl,hk,HB,HS,HR,HL,HK,HP⟩:=hrel;by_cases hlt:k<4
  ·have hp:=HP.at k hlt
   have hlen:=Ms.fB s k;obtain⟨n,q,e,hq,hx,_,_⟩:=Cm.dV s (Ms.aj s k).2.1 (Ms.aj s k).2.2;have HQ:=aa hq;have HST:Hid (Ms.aj s (k+1)=((Ms.aj s k).1 ++ [n],q,e)):=by
    show _=_;rw[Ms.gU,hq];simp
   obtain⟨L,hL⟩ : ∃L,L=(Ms.aj s k).1:=⟨_,rfl⟩;rw[<- hL]at HST hlen HL
   have qZ:=aa hlen;clear hq hL hlen
   go_wp2_with fail
   refine(cY _ B o u s _ _ n q e HR.out hx HQ).mono ?_;rintro e5 v5 ⟨rfl,ib,bU⟩;have eN:ai v5 (w.heap.size+1) (Re.base L) (.slice none 0 0):=HL.kept bU (by simp;omega)
   go_wp2_with (first
    | (refine aP (by rfl) _ _ _ (by rfl) (w.heap.size+1) k _ _ (Re.cells (Re.base (L ++ [n])) (.slice none 0 0)) (.int .i64 n) [.int .i64 n] (by rfl) (by rfl) (by rfl) (by kernel_rfl) (by rfl) eN (show k+1<=12 by omega) (by have h:=Re.kY L n (.slice none 0 0) (by rw[qZ.out];exact hlt);rw[qZ.out]at h;exact h) ?_
       intro w6 hl hg
       obtain⟨a1,a2,a3,a4⟩:=kN (by decide) hB (Nat.le_succ _) ho HB.out HS.out ib bU _ HL.out hl hg
       have jf:=aa a1;have cy:=aa a2;have oN:=aa a3;have dX:=aa hl;have mh:=aa (a4 _ _ _ (by omega) (by omega) HK.out)
       have Hj:=aa (a4 _ _ _ (by have:=HZ.out;omega) (by have:=HZ.out;omega) HP.out)
       clear a1 a2 a3 a4 hl hg ib bU eN hp)
    | fail)
   go_roundw
   case rel =>
    refine⟨k+1,by go_num,by omega,cy,oN, ?_, ?_,mh,Hj⟩
    ·show dU _ _ _ _ _ _ _
     rw[HST.out];exact jf.out
    ·show ai _ _ _ _
     rw[HST.out];exact dX.out
   case measure=>simp[intOf];omega
  ·obtain rfl:k=4:=by omega
   obtain⟨L,hL⟩ : ∃L,L=(Ms.aj s 4).1:=⟨_,rfl⟩;obtain⟨pp,qT⟩ : ∃pp,pp=(Ms.aj s 4).2.1:=⟨_,rfl⟩;obtain⟨er,jY⟩ : ∃er,er=(Ms.aj s 4).2.2:=⟨_,rfl⟩;have xA:=aa hL;have I7:=aa qT;have I8:=aa jY;rw[<- hL]at HL
   rw[<- qT, <- jY]at HR
   clear hL qT jY;obtain rfl:er=0:=I8.trans Oc.out;have hkk:Ms.nth L 0=4:=by rw[xA.out];exact IV.out
   have q0:=ai.c0 HL.out;rw[show(Re.base L).kind=Ms.nth L 0 from rfl]at q0
   rw[hkk]at q0
   clear hkk;obtain⟨x,q,e,hq,hx⟩ : ∃(x:List UInt8) (q:Nat) (e:Int),Ms.raw s pp 0=(x,(q:Int),e)∧(e≠0->x = []):=by
    rcases Ms.jn s pp 0 (by rw[I7.out];exact Xz.out)with ⟨e,q,_,_,h⟩ | ⟨x,q,_,_,_,h,_⟩
    ·exact⟨[],q,e,h,fun _=>rfl⟩
    ·exact⟨x,q,0,h,fun h=>absurd rfl h⟩
   have TC:Hid (Re.got s=({Re.base L with aw:=x},q,e)):=by show _=_;rw[HG.out, <- I7.out,hq,xA.out];simp
   have Od:Hid (Re.dn s=Cm.done s q e):=by
    show _=_;unfold Re.dn;rw[TC.out]
   have pI:Hid ((Re.got s).1={Re.base L with aw:=x}):=by show _=_;rw[TC.out]
   have Ni:Hid (x.length<=70368744177664):=by have:=Xy.out;rw[TC.out]at this;exact Nat.le_trans this hsm
   have HQ:=aa hq;clear hq
   go_wp2_with fail
   refine(dI _ B o u s pp 0 HR.out).mono ?_;rintro e5 w5 ⟨rfl,rfl⟩
   go_wp2_with fail
   refine(wR _ B o u s pp 0 x q e HR.out hx Ni.out HQ).mono ?_;rintro e6 w6 ⟨vi,⟨rfl,qP,dt⟩,vV⟩;obtain⟨io,ic,rfl⟩:=vV.shape;obtain⟨xn,sY⟩ : ∃xn,xn=x.length:=⟨_,rfl⟩;rw[<- sY]at vV ⊢
   have dX:=aa (HL.kept dt (by simp;omega));have mh:=aa (HK.kept dt (by simp;omega))
   have tD:=aa vV;have jf:=aa qP;have cy:=aa (HB.grown dt (Nat.le_trans hB HB.size) (by rintro x hx;cases hx;exact qP.base))
   clear qP dt vV sY q0
   go_wp2_with (first
    | (refine aP (by rfl) _ _ _ (by rfl) (w.heap.size+1) 11 _ _ (Re.cells {Re.base L with aw:=x} (.slice io xn ic)) (.slice io xn ic) [.slice io xn ic] (by rfl) (by rfl) (by rfl) (by kernel_rfl) (by rfl) dX.out (Nat.le_of_ble_eq_true rfl) (by rfl) ?_
       intro w7 hl hg
       have I3:=aa (jf.gC hg (by omega) (fun h=>dX.not_row (by decide) jf.owns h.symm))
       have bw:=aa (cy.grown hg (Nat.le_trans hB cy.size) (by rintro x hx;cases hx;omega))
       have Av:Hid (bB w7 (.slice io xn ic) ({Re.base L with aw:=x}:Re.Rec).aw):=tD.fq dX.out hg
       have vP:=aa hl;have jR:=aa (mh.kept hg (by simp))
       clear hl hg)
    | fail)
   obtain⟨p0,p1,p2,p3,p4,p5,p6,p7,p8,p9,cG,cE⟩:=ai.all vP.out;have Gk:Hid (Calls Tryz.prog 114 #[.pointer (some ⟨o,0,none⟩)] w7.drew (fun en w' => en = .returned (.int .i64 (Re.dn s))∧ai w' (w.heap.size+1) {Re.base L with aw:=x} (.slice io xn ic)∧ai w' w.heap.size Re.zero (.slice none 0 0)∧Below w7.heap.size w7 w')):=by
    refine(js w7.drew B o u s _ _ (I3.kept (Below.refl _ _).drew)).mono ?_;rintro en w' ⟨rfl,q6,rfl⟩;have hd:Below w7.heap.size w7 (w7.drew.drewN q6):=((Below.refl _ _).drew).trans (drawn w7.drew q6);exact⟨by rw[Od.out];rfl,vP.below hd vP.lt,jR.below hd jR.lt,hd⟩
   obtain⟨z0,z1,z2,z3,z4,z5,z6,z7,z8,z9,tE,E3⟩:=ai.all jR.out;dsimp only [Re.zero,Bl.zero,Cm.zero,Cm.aL]at z0 z1 z2 z3 z4 z5 z6 z7 z8 z9 tE
   have f0:=jR.free 0;have f1:=jR.free 1;have f2:=jR.free 2;have f3:=jR.free 3;have f4:=jR.free 4;have f5:=jR.free 5;have f6:=jR.free 6;have f7:=jR.free 7;have f8:=jR.free 8;have f9:=jR.free 9;have f10:=jR.free 10;have f11:=jR.free 11;obtain⟨D,hD⟩ : ∃D,D=Re.dn s:=⟨_,rfl⟩;rw[<- hD]at Gk
   have vX:=aa hD;clear hD;go_wp2
   go_region_with (first
    | (go_at_call 114
       with_reducible refine Gk.out.mono ?_
       rintro e8 w8 ⟨rfl,Q3,fI,Q4⟩;obtain⟨p0,p1,p2,p3,p4,p5,p6,p7,p8,p9,cG,cE⟩:=ai.all Q3;have lq:Hid (ai w8 w.heap.size Re.zero (.slice none 0 0)∧Below w7.heap.size w7 w8):=⟨fI,Q4⟩;obtain⟨z0,z1,z2,z3,z4,z5,z6,z7,z8,z9,tE,E3⟩:=ai.all fI;dsimp only [Re.zero,Bl.zero,Cm.zero,Cm.aL]at z0 z1 z2 z3 z4 z5 z6 z7 z8 z9 tE
       have f0:=fI.free 0;have f1:=fI.free 1;have f2:=fI.free 2;have f3:=fI.free 3;have f4:=fI.free 4;have f5:=fI.free 5;have f6:=fI.free 6;have f7:=fI.free 7;have f8:=fI.free 8;have f9:=fI.free 9;have f10:=fI.free 10;have f11:=fI.free 11))
   all_goals
    refine jG lq.1 _ _ _ _ _ _ _ _ _ _ _ _ ?_;intro w9 gP cM
    clear p0 p1 p2 p3 p4 p5 p6 p7 p8 p9 cG cE z0 z1 z2 z3 z4 z5 z6 z7 z8 z9 tE E3 f0 f1 f2 f3 f4 f5 f6 f7 f8 f9 f10 f11;have oy:Hid (ai w9 w.heap.size {Re.base L with aw:=x} (.slice io xn ic)):=gP
    have Oe:=aa ((Av.below lq.2).fq lq.1 cM);have eY:=aa ((bw.trans (lq.2.mono (Nat.le_trans hB bw.size))).grown cM (Nat.le_trans hB (Nat.le_trans bw.size lq.2.size)) (by rintro x hx;cases hx;exact hB))
    clear gP cM;go_wp2;refine cL rfl rfl oy.out rfl ?_;exact⟨{Re.base L with aw:=x},(.slice io xn ic),by rw[<- vX.out];rfl,fun _=>pI.symm,Oe.out,eY.out⟩
theorem Hk(w:World)(B o:Nat)(u:Value)(s:List UInt8)(hr:dU w B o u s 0 0)(hB:B<=w.heap.size)(hE:(Ms.aj s 4).2.2=0)(hK:Ms.nth (Ms.aj s 4).1 0<1∨4<Ms.nth (Ms.aj s 4).1 0) :
 Calls Tryz.prog 153 #[.pointer (some ⟨o,0,none⟩)] w (DN w B s):=by
 have ho:=hr.ag.lt;have hsm:=hr.small;obtain⟨w1,e1,jb,aH,aq,hz1⟩:=iz w Re.zero (.slice none 0 0) Re.zero (.slice none 0 0);dsimp only [Re.cells,Re.zero,Bl.zero,Cm.zero,Cm.aL]at e1
 have dh:=aa aH;have lr:=aa jb;have aG:=aa (aq.mono hB);have lU:=aa (cd.bp (o:=o) aq);have ov:=aa (hr.kept aq);have HZ:=aa hz1;have Oc:=aa hE;have IV:=aa hK;have HG:Hid ((Re.got s).2.2=3):=by
  show _=_;obtain⟨_,_,h3,h4,_⟩:=Re.qW hK;unfold Re.got;rw[if_neg (by rw[h3];simp),if_neg (by rw[h4];simp),if_neg (by omega),hE]
  rfl
 have Xx:Hid (Re.dn s=3):=by
  show _=_;unfold Re.dn Cm.done;rw[HG.out,if_pos (by decide)]
 clear jb aH aq hz1 hr hE hK
 go_enter Tryz.func153,Tryz.ntmps153
 go_wp2_with fail
 refine(ei (w.heap.size+1) _).mono ?_;rintro e2 w2 ⟨rfl,hp2,hb2⟩;have ej:=aa (dh.below hb2 dh.lt);have sZ:=aa (lr.below hb2 lr.lt);have CM:=aa hp2;have bC:=aa (ov.kept hb2);have aR:=aa (aG.trans (hb2.mono (Nat.le_trans hB aG.size)));have kM:=aa (lU.trans (cd.bp (o:=o) hb2));clear hp2 hb2;go_wp2
 go_loopw [6,10] (fun _ i wr => ∃(k:Nat),i = .int .i64 (k:Int)∧k<=4∧Hid (Below B w wr)∧Hid (cd o w wr)∧Hid (dU wr B o u s (Ms.aj s k).2.1 (Ms.aj s k).2.2)∧Hid (ai wr (w.heap.size+1) (Re.base (Ms.aj s k).1) (.slice none 0 0))∧Hid (ai wr w.heap.size Re.zero (.slice none 0 0))∧Hid (mW wr w1.heap.size (w.heap.size+1))) (fun _ i _=>4 - (intOf i).toNat)
 case atStart=>exact⟨0,rfl,by omega,aR,kM,bC,ej,sZ,CM⟩
 case round =>
  obtain⟨k,rfl,hk,HB,HS,HR,HL,HK,HP⟩:=hrel;by_cases hlt:k<4
  ·have hp:=HP.at k hlt
   have hlen:=Ms.fB s k;obtain⟨n,q,e,hq,hx,_,_⟩:=Cm.dV s (Ms.aj s k).2.1 (Ms.aj s k).2.2;have HQ:=aa hq;have HST:Hid (Ms.aj s (k+1)=((Ms.aj s k).1 ++ [n],q,e)):=by
    show _=_;rw[Ms.gU,hq];simp
   obtain⟨L,hL⟩ : ∃L,L=(Ms.aj s k).1:=⟨_,rfl⟩;rw[<- hL]at HST hlen HL
   have qZ:=aa hlen;clear hq hL hlen
   go_wp2_with fail
   refine(cY _ B o u s _ _ n q e HR.out hx HQ).mono ?_;rintro e5 v5 ⟨rfl,ib,bU⟩;have eN:ai v5 (w.heap.size+1) (Re.base L) (.slice none 0 0):=HL.kept bU (by simp;omega)
   go_wp2_with (first
    | (refine aP (by rfl) _ _ _ (by rfl) (w.heap.size+1) k _ _ (Re.cells (Re.base (L ++ [n])) (.slice none 0 0)) (.int .i64 n) [.int .i64 n] (by rfl) (by rfl) (by rfl) (by kernel_rfl) (by rfl) eN (show k+1<=12 by omega) (by have h:=Re.kY L n (.slice none 0 0) (by rw[qZ.out];exact hlt);rw[qZ.out]at h;exact h) ?_
       intro w6 hl hg
       obtain⟨a1,a2,a3,a4⟩:=kN (by decide) hB (Nat.le_succ _) ho HB.out HS.out ib bU _ HL.out hl hg
       have jf:=aa a1;have cy:=aa a2;have oN:=aa a3;have dX:=aa hl;have mh:=aa (a4 _ _ _ (by omega) (by omega) HK.out)
       have Hj:=aa (a4 _ _ _ (by have:=HZ.out;omega) (by have:=HZ.out;omega) HP.out)
       clear a1 a2 a3 a4 hl hg ib bU eN hp)
    | fail)
   go_roundw
   case rel =>
    refine⟨k+1,by go_num,by omega,cy,oN, ?_, ?_,mh,Hj⟩
    ·show dU _ _ _ _ _ _ _
     rw[HST.out];exact jf.out
    ·show ai _ _ _ _
     rw[HST.out];exact dX.out
   case measure=>simp[intOf];omega
  ·obtain rfl:k=4:=by omega
   obtain⟨L,hL⟩ : ∃L,L=(Ms.aj s 4).1:=⟨_,rfl⟩;obtain⟨pp,qT⟩ : ∃pp,pp=(Ms.aj s 4).2.1:=⟨_,rfl⟩;obtain⟨er,jY⟩ : ∃er,er=(Ms.aj s 4).2.2:=⟨_,rfl⟩;have xA:=aa hL;have I7:=aa qT;have I8:=aa jY;rw[<- hL]at HL
   rw[<- qT, <- jY]at HR
   clear hL qT jY;obtain rfl:er=0:=I8.trans Oc.out;have hkk:Ms.nth L 0<1∨4<Ms.nth L 0:=by rw[xA.out];exact IV.out
   have d1:(Ms.nth L 0 == 1)=false:=by simp;omega
   have d2:(Ms.nth L 0 == 2)=false:=by simp;omega
   have d3:(Ms.nth L 0 == 3)=false:=by simp;omega
   have d4:(Ms.nth L 0 == 4)=false:=by simp;omega
   have q0:=ai.c0 HL.out;rw[show(Re.base L).kind=Ms.nth L 0 from rfl]at q0
   clear hkk;have HD:Hid (Re.dn s=3):=Xx.out
   go_wp2_with fail
   refine(dI _ B o u s pp 0 HR.out).mono ?_;rintro e5 w5 ⟨rfl,rfl⟩;have HC:=aa HK.out
   go_wp2_with (first
    | (refine aY (by rfl) _ _ (by rfl) w.heap.size Re.zero _ Re.zero (.slice none 0 0) (by rfl) (by rfl) rfl HK.out ?_
       intro w7 dH cr
       have bw:=aa (HB.grown cr (Nat.le_trans hB HB.size) (by rintro j hj;cases hj;exact hB)))
    | fail)
   refine cL rfl rfl dH rfl ?_;exact⟨Re.zero, .slice none 0 0,by rw[HD.out];rfl,fun h=>absurd (HD.symm.trans h) (by decide),bB.empty _,bw.out⟩
theorem DR(w:World)(B o:Nat)(u:Value)(s:List UInt8)(hr:dU w B o u s 0 0)(hB:B<=w.heap.size) :
 Calls Tryz.prog 153 #[.pointer (some ⟨o,0,none⟩)] w (DN w B s):=by
 by_cases hE:(Ms.aj s 4).2.2=0
 ·rcases Re.kinds (Ms.nth (Ms.aj s 4).1 0)with h | h | h | h | h
  ·exact LF w B o u s hr hB hE h
  ·exact LH w B o u s hr hB hE h
  ·exact LI w B o u s hr hB hE h
  ·exact LJ w B o u s hr hB hE h
  ·exact Hk w B o u s hr hB hE h
 ·exact DO w B o u s hr hB hE
def JN(w:World)(r:Re.Rec × Int)(e:Ending)(w' : World):Prop :=
 Below w.heap.size w w' ∧ ∃vi,e = .returned (.tuple #[.agg (Re.cells r.1 vi), .int .i64 r.2])∧bB w' vi r.1.aw∧vi.oneCell' = true
theorem yz(u:Value)(s:List UInt8)(w:World)(hW:bE w)(hu:Reads w u s)(hb:s.length<=1000000) :
 Calls Tryz.prog 115 #[u] w (JN w (Re.decode s)):=by
 obtain⟨w1,e1,aH,aq,hz1⟩:=bf w Re.zero (.slice none 0 0);dsimp only [Re.cells,Re.zero,Bl.zero,Cm.zero,Cm.aL]at e1
 have lr:=aa aH;have aG:=aa aq;have W5:=aa (hu.below aq);have HZ:=aa hz1;have HW:=aa (fun W (h:Below w.heap.size w W)=>hW.below h)
 obtain⟨r,hr⟩ : ∃r,r=Re.decode s:=⟨_,rfl⟩;rw[<- hr];unfold Re.decode at hr
 obtain⟨_,mG,_⟩:=Re.nC s;obtain⟨t,ht⟩ : ∃t,t=(Re.got s).1:=⟨_,rfl⟩;rw[show Cm.done s (Re.got s).2.1 (Re.got s).2.2=Re.dn s from rfl, <- ht]at hr
 rw[<- ht]at mG
 have HT:=aa ht;have oq:=aa hr;have IY:Hid (t.cmd.aD 140737488355328):=⟨Nat.le_trans mG.1 (by omega),Nat.le_trans mG.2.1 (by omega),Nat.le_trans mG.2.2 (by omega)⟩
 clear aH aq hz1 hu hr ht hW mG
 go_enter Tryz.func115,Tryz.ntmps115
 go_wp2_with fail
 refine(kv u s _ w1.heap.size (Nat.le_refl _) W5.out (by omega)).mono ?_
 rintro e2 w2 ⟨o,rv,rfl,ho,hr2,hb2⟩;have sZ:=aa (lr.below hb2 lr.lt);have aR:=aa (aG.trans (hb2.mono aG.size));have bC:=aa hr2;have rh:=aa hb2;clear hr2 hb2
 go_wp2_with fail
 refine(DR _ w1.heap.size o rv s bC.out rh.size).mono ?_;rintro e3 w3 ⟨y,vi,rfl,hy,hi,hb3⟩;obtain⟨io,ic,rfl⟩:=hi.shape;obtain⟨xn,sY⟩ : ∃xn,xn=y.aw.length:=⟨_,rfl⟩;rw[<- sY]at hi ⊢
 have wP:=aa hi;have bh:=aa (aR.trans (hb3.mono (Nat.le_of_lt (by have:=HZ.out;omega))))
 have jz:=aa (sZ.below hb3 (by have:=HZ.out;omega))
 obtain⟨z,hz⟩ : ∃z,z=Re.dn s:=⟨_,rfl⟩;rw[<- hz]at hy oq ⊢
 rw[<- HT.out]at hy
 have HY:=aa hy;clear hi hb3 sY hy hz;by_cases h0:z=0
 ·subst h0
  obtain rfl:y=t:=HY.out rfl;have lZ:=aa (oq.trans (if_neg (by simp)))
  have CW:=aa (fun W (h:Below w.heap.size w W) (h' : Reads W (.slice io xn ic) y.aw)=>sI y (.slice io xn ic) W (HW.out _ h) h' IY.out)
  obtain⟨v,hv⟩ : ∃v,v=Re.older y:=⟨_,rfl⟩;rw[<- hv]at CW lZ
  clear hv
  go_wp2_with (first
   | (refine aY (by rfl) _ _ (by rfl) w3.heap.size Re.zero _ y (.slice io xn ic) (by rfl) (by rfl) rfl (ae.new _ _ _) ?_
      intro w5 hl4 hg4
      have hb:=aJ hg4;have Qn:=aa (wP.below hb);have zV:=aa (jz.below hb jz.lt);have Au:=aa hl4;have bK:=aa (bh.trans (hb.mono bh.size));clear hl4 hg4 hb)
   | (refine cZ (by rfl) _ (by rfl) w3.heap.size y (.slice io xn ic) (by rfl) Au.out ?_)
   | fail)
  refine(CW.out _ bK.out Qn.out).mono ?_;rintro e6 w6 ⟨rfl,hb⟩;have tD:=aa (Qn.below hb);have mh:=aa (zV.below hb zV.lt);have W6:=aa (Au.below hb Au.lt);have cy:=aa (bK.trans (hb.mono bK.size));clear hb;by_cases hy0:v=0
  ·subst hy0
   have jE:Hid (r=(y,0)):=lZ.trans (if_neg (by simp))
   go_wp2_with (first
    | (refine cZ (by rfl) _ (by rfl) w3.heap.size y (.slice io xn ic) (by rfl) W6.out ?_)
    | (refine aY (by rfl) _ _ (by rfl) w.heap.size Re.zero _ y (.slice io xn ic) (by rfl) (by rfl) rfl mh.out ?_
       intro w7 dH cr
       have bw:=aa (cy.grown cr cy.size (by rintro j hj;cases hj;exact Nat.le_refl _))
       have Av:=aa (tD.fq mh.out cr))
    | fail)
   refine cL rfl rfl dH rfl ?_;rw[jE.out];exact⟨bw.out, .slice io xn ic,rfl,Av.out,rfl⟩
  ·have hne:(v != 0)=true:=by simpa using hy0
   have jE:Hid (r=(Re.zero,v)):=lZ.trans (if_pos hy0);clear hy0
   go_wp2_with (first
    | (refine aY (by rfl) _ _ (by rfl) w.heap.size Re.zero _ Re.zero (.slice none 0 0) (by rfl) (by rfl) rfl mh.out ?_
       intro w7 dH cr
       have bw:=aa (cy.grown cr cy.size (by rintro j hj;cases hj;exact Nat.le_refl _)))
    | fail)
   refine cL rfl rfl dH rfl ?_;rw[jE.out];exact⟨bw.out, .slice none 0 0,rfl,bB.empty _,rfl⟩
 ·have hne:(z != 0)=true:=by simpa using h0
  have heq:(z == 0)=false:=by simpa using h0
  have jE:Hid (r=(Re.zero,z)):=oq.trans (if_pos h0);clear h0
  go_wp2_with (first
   | (refine aY (by rfl) _ _ (by rfl) w3.heap.size Re.zero _ y (.slice io xn ic) (by rfl) (by rfl) rfl (ae.new _ _ _) ?_
      intro w5 hl4 hg4
      have hb:=aJ hg4;have Qn:=aa (wP.below hb);have zV:=aa (jz.below hb jz.lt);have Au:=aa hl4;have bK:=aa (bh.trans (hb.mono bh.size));clear hl4 hg4 hb)
   | (refine aY (by rfl) _ _ (by rfl) w.heap.size Re.zero _ Re.zero (.slice none 0 0) (by rfl) (by rfl) rfl zV.out ?_
      intro w7 dH cr
      have bw:=aa (bK.grown cr bK.size (by rintro j hj;cases hj;exact Nat.le_refl _)))
   | fail)
  refine cL rfl rfl dH rfl ?_;rw[jE.out];exact⟨bw.out, .slice none 0 0,rfl,bB.empty _,rfl⟩
end Go.Proofs.YtdkdjofnnnljjaaGreatDoor
