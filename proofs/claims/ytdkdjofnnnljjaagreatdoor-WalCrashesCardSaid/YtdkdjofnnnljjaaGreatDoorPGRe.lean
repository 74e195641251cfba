/- Several texts of mine in one: GEr GMc GMp GMg CmFew GRe. -/
import Derived.Test.YtdkdjofnnnljjaaGreatDoorPGCr
import Derived.Deep.QuietTactic
import Derived.BigQuiet
import Derived.Test.YtdkdjofnnnljjaaGreatDoorPPkMath
import Derived.Test.YtdkdjofnnnljjaaGreatDoorPGPl
import Derived.Test.YtdkdjofnnnljjaaGreatDoorPGCw
import Derived.BigRegion
namespace Go.Proofs.YtdkdjofnnnljjaaGreatDoor
open Go.RowKit
set_option maxHeartbeats 3200000
set_option maxRecDepth 4000
theorem ye(v:Value)(l:List En.bz)(x:Int)(w:World)(hv:aW w v l)(hp:En.eD l) :
 Calls Tryz.prog 109 #[v, .int .i64 x] w (Looks w (.int .i64 (En.pos l x))):=by
 obtain⟨ao,cap,rfl,hc1,hc2⟩:=aW.shape hv;have HP:=aa (fun h=>aW.places hv h)
 have HA:=aa hp;obtain⟨n,hnn⟩ : ∃n,n=l.length:=⟨_,rfl⟩;rw[<- hnn]at hc1 ⊢
 have HN:=aa hnn;obtain⟨r,hr⟩ : ∃r,r=En.pos l x:=⟨_,rfl⟩;rw[<- hr];have HR:=aa hr;have hnb:n<9223372036854775808:=by omega
 clear hv hnn hr hp
 go_enter Tryz.func109,Tryz.ntmps109
 go_wp2
 go_loopw [5] (fun i wr => ∃k:Nat,i = .int .i64 (k:Int)∧k<=n∧Hid (∀(j:Nat) (e:En.bz),j<k->l[j]? = some e->e.index≠x)∧Below w.heap.size w wr) (fun i _=>n - (intOf i).toNat)
 case atStart=>exact⟨0,rfl,by omega,fun j e hj=>by omega,Below.refl _ _⟩
 case round =>
  obtain⟨k,rfl,hk,HI,hB⟩:=hrel;have HB:=aa hB;clear hB;by_cases hlt:k<n
  ·obtain⟨e,he⟩ : ∃e,l[k]? = some e:=⟨_,List.getElem?_eq_getElem (by have:=HN.out;omega)⟩
   obtain⟨g,off,rfl,kH,hcell⟩:=HP.out (by have:=HN.out;omega)
   have c0:=(hcell wr HB.out k e he).c0;have HE:=aa he;clear hcell he;by_cases hx:e.index=x
   ·have HZ:Hid (r=(k:Int)):=by
     obtain⟨h1,h2⟩:=En.zP HA.out HE.out;show _=_;rw[HR.out, <- hx,En.pos,if_pos h1,h2]
    have hx1:(e.index == x)=true:=by simpa using hx
    clear hx;go_wp2;go_ret;exact⟨by rw[HZ.out];rfl,HB.out⟩
   ·have HZ:Hid (∀(j:Nat) (e:En.bz),j<k+1->l[j]? = some e->e.index≠x):=by
     intro j d hj hd
     by_cases hjk:j=k
     ·subst hjk;rw[HE.out]at hd;cases hd;exact hx
     ·exact HI.out j d (by omega) hd
    have hx1:(e.index == x)=false:=by simpa using hx
    clear hx;go_wp2
    go_roundw
    case rel=>exact⟨k+1,by go_num,by omega,HZ.out,HB.out⟩
    case measure=>simp[intOf];omega
  ·have HZ:Hid (r = -1):=by
    have h:=En.FM (l:=l) (x:=x) fun j e hj=>HI.out j e (by have:=HN.out;have:=(List.getElem?_eq_some_iff.1 hj).1;omega) hj
    show _=_;rw[HR.out,En.pos,h];rfl
   go_wp2;go_ret;exact⟨by rw[HZ.out];rfl,HB.out⟩
theorem wG(v u:Value)(l m:List En.bz)(w:World)(hv:aW w v l)(hu:aW w u m) :
 Calls Tryz.prog 55 #[v,u] w (Looks w (.bool (decide (l=m)))):=by
 obtain⟨ao,cap,rfl,hc1,hc2⟩:=aW.shape hv;obtain⟨bo,abg,rfl,SP,M1⟩:=aW.shape hu;have HP:=aa (fun h=>aW.places hv h)
 have HQ:=aa (fun h=>aW.places hu h)
 obtain⟨r,hr⟩ : ∃r,r=decide (l=m):=⟨_,rfl⟩;rw[<- hr];have HR:=aa hr;obtain⟨n,hnn⟩ : ∃n,n=l.length:=⟨_,rfl⟩;obtain⟨p,qT⟩ : ∃p,p=m.length:=⟨_,rfl⟩;rw[<- hnn]at hc1 ⊢
 rw[<- qT]at SP ⊢
 have HN:=aa hnn;have HM:=aa qT;have hnb:n<9223372036854775808:=by omega
 have hpb:p<9223372036854775808:=by omega
 clear hv hu hnn qT hr;by_cases OZ:n=p
 ·subst OZ
  have hne:((n:Int) != (n:Int))=false:=by simp
  go_enter Tryz.func55,Tryz.ntmps55
  go_wp2
  go_loopw [5] (fun i wr => ∃k:Nat,i = .int .i64 (k:Int)∧k<=n∧Hid (l.take k=m.take k)∧Below w.heap.size w wr) (fun i _=>n - (intOf i).toNat)
  case atStart=>exact⟨0,rfl,by omega,by show _=_;simp,Below.refl _ _⟩
  case round =>
   obtain⟨k,rfl,hk,HI,hB⟩:=hrel;have HB:=aa hB;clear hB;by_cases hlt:k<n
   ·obtain⟨a,ha⟩ : ∃e,l[k]? = some e:=⟨_,List.getElem?_eq_getElem (by have:=HN.out;omega)⟩
    obtain⟨b,hb⟩ : ∃e,m[k]? = some e:=⟨_,List.getElem?_eq_getElem (by have:=HM.out;omega)⟩
    obtain⟨g,off,rfl,kH,hcell⟩:=HP.out (by have:=HN.out;omega)
    obtain⟨h,oof,rfl,hhl,O1⟩:=HQ.out (by have:=HM.out;omega)
    obtain⟨c0,c1,c2,c3,c4,c5,c6,c7,c8,c9⟩:=hcell wr HB.out k a ha;obtain⟨d0,d1,d2,d3,d4,d5,d6,d7,d8,d9⟩:=O1 wr HB.out k b hb;have HA:=aa ha;have vM:=aa hb;have hgd:=FN;have vQ:=fun W=>zQ W a b
    obtain⟨t,ht⟩ : ∃t,t=decide (a=b):=⟨_,rfl⟩;rw[<- ht]at vQ
    have HT:=aa ht;dsimp only [En.cells]at vQ
    clear hcell O1 ha hb ht;cases t with
    | true =>
     have HZ:Hid (l.take (k+1)=m.take (k+1)):=by
      show _=_;rw[List.take_add_one,List.take_add_one,HA.out,vM.out,HI.out,of_decide_eq_true HT.symm]
     simp only[Bool.not_true]at vQ
     go_wp2
     go_quiet (fail)
     all_goals
      go_wp2
      go_roundw
      case rel=>exact⟨k+1,by go_num,by omega,HZ.out,HB.trans ((drawn wr _).mono HB.size)⟩
      case measure=>simp[intOf];omega
    | false =>
     have HZ:Hid (r=false):=by
      show _=_;rw[HR.out];refine decide_eq_false fun h => ?_
      have h1:=HA.out;rw[h,vM.out]at h1
      exact of_decide_eq_false HT.symm (Option.some.inj h1).symm
     simp only[Bool.not_false]at vQ
     go_wp2
     go_quiet (fail)
     all_goals
      go_wp2;go_ret;exact⟨by rw[HZ.out];rfl,HB.trans ((drawn wr _).mono HB.size)⟩
   ·have HZ:Hid (r=true):=by
     show _=_;rw[HR.out];refine decide_eq_true ?_;have:=HI.out
     rwa[List.take_of_length_le (by have:=HN.out;omega),List.take_of_length_le (by have:=HM.out;omega)]at this
    go_wp2;go_ret;exact⟨by rw[HZ.out];rfl,HB.out⟩
 ·have hne:((n:Int) != (p:Int))=true:=by simp;omega
  have HZ:Hid (r=false):=by
   show _=_;rw[HR.out];exact decide_eq_false fun h=>OZ (by rw[HN.out,HM.out,h])
  go_enter Tryz.func55,Tryz.ntmps55
  go_wp2;go_ret;exact⟨by rw[HZ.out];rfl,Below.refl _ _⟩
end Go.Proofs.YtdkdjofnnnljjaaGreatDoor

namespace Go.Proofs.YtdkdjofnnnljjaaGreatDoor
open Go.RowKit
set_option maxHeartbeats 400000
set_option maxRecDepth 4000
theorem CL(v u:Value)(l m:List UInt8)(w:World)(hv:Reads w v l)(hu:Reads w u m) :
 Calls Tryz.prog 149 #[v,u] w (Looks w (.bool (l == m))):=by
 obtain⟨ao,cap,rfl⟩:=hv.shape;obtain⟨zD,Jd,rfl⟩:=hu.shape;have c1:=fO (P:=Tryz.prog) l Tryz.underlying30 Tryz.underlying5 Tryz.underlying9 hv;have c2:=fO (P:=Tryz.prog) m Tryz.underlying30 Tryz.underlying5 Tryz.underlying9 hu
 go_enter Tryz.func149,Tryz.ntmps149
 go_wp2;go_ret;exact⟨bu rfl,Below.refl _ _⟩
end Go.Proofs.YtdkdjofnnnljjaaGreatDoor

namespace Go.Proofs.YtdkdjofnnnljjaaGreatDoor
open Go.RowKit
set_option maxHeartbeats 1600000
set_option maxRecDepth 4000
theorem yf(v:Int)(c:Cm.bW)(w:World)(B o:Nat)(u:Value)(pre:List UInt8)(hm:Vs.may v=true)(hw:kI w B o u pre)(hpre:pre.length<=35184372088832)(hB:B<=w.heap.size)(hf:c.Fits)(hs:c.aD 1000) :
 Calls Tryz.prog 129 #[.pointer (some ⟨o,0,none⟩), .int .i64 v, .agg (Cm.cells c)] w (jw w B o (pre++Cm.bytes v c)):=by
 have ho:=hw.ag.lt;have hs2:c.aD 1048576:=⟨by have:=hs.1;omega,by have:=hs.2.1;omega,by have:=hs.2.2;omega⟩
 obtain⟨w1,e1,aH,aq,hz1⟩:=pL w c;have hk:w1.cell? ⟨w.heap.size,0,none⟩=some (.int .i64 c.kind):=aH.cell 0 _ rfl;have dh:=aa aH;have aG:=aa aq;have oC:=aa hz1;have pF:=aa (hw.grown aq);clear aH aq hz1 hw
 go_enter Tryz.func129,Tryz.ntmps129
 go_wp2_with fail
 refine(pM v _).mono ?_;rintro e w2 ⟨rfl,rfl⟩;rw[hm]
 go_wp2_with fail
 refine(fl c.kind _ B o u pre pF.out (Nat.le_trans hB aG.size) (by omega) hf.k0 hf.k1).mono ?_
 rintro e w2 ⟨rfl,u2,hw2,hg2⟩;have hp2:=cC.ja pF.out hg2;have hb2:=pF.below hg2 (Nat.le_trans hB aG.size);have hl2:kL w2 w.heap.size c:=hp2 _ _ _ (by omega) (by decide) dh.out
 have hk2:w2.cell? ⟨w.heap.size,0,none⟩=some (.int .i64 c.kind):=hl2.cell 0 _ rfl;obtain⟨K0,Wh⟩ : ∃K0,K0=pre++enc c.kind.toNat:=⟨_,rfl⟩;rw[<- Wh]at hw2
 have IV:=aa Wh;have aR:=aa ((aG.mono hB).trans hb2);have CM:=aa ((cC.bp (o:=o) aG.out).trans hp2);have ES:=aa hw2;have ej:=aa hl2;have hz2:w.heap.size+1<=w2.heap.size:=by have:=hb2.size;have:=oC.out;omega
 clear hp2 hb2 hl2 hw2 hg2 Wh
 go_wp2_with fail
 refine(rX v w.heap.size c.kind _ hk2).mono ?_;rintro e w3 ⟨r,rfl,hr,jx⟩;obtain⟨ao,rfl⟩:=hr.shape;have hn:=Cm.mi v c.kind;have PH:Hid (pre++Cm.bytes v c=K0++(Cm.cO v c.kind).flatMap (Cm.gB c)):=by show _=_;rw[IV.out];simp[Cm.bytes]
 obtain⟨fs,zE⟩ : ∃fs,fs=Cm.cO v c.kind:=⟨_,rfl⟩;rw[<- zE]at hr hn ⊢
 have PI:=aa zE;have HR:=aa hr;have fY:=aa (ej.below jx ej.lt);have zR:=aa (ES.grown jx);have bh:=aa (aR.trans (jx.mono (Nat.le_trans hB aR.size)));have Wi:=aa (CM.trans (cC.bp (o:=o) jx));have H9:Hid (K0.length<=35184372088841):=by show _<=_;rw[IV.out,List.length_append];have:=aA (n:=c.kind.toNat) (by have:=hf.k1;omega);omega
 have Wj:=aa (Cm.iy c hf hs);clear hr zE jx hk hk2;go_wp2
 go_loopw [7,18] (fun _ i wr => ∃(k:Nat) (u' : Value),i = .int .i64 (k:Int)∧k<=fs.length∧Hid (Below B w wr)∧Hid (kI wr B o u' (K0++(fs.take k).flatMap (Cm.gB c)))∧Hid (kL wr w.heap.size c)∧Hid (jy wr w2.heap.size (.slice ao fs.length fs.length) w.heap.size fs)∧Hid (cC o w wr)) (fun _ i _=>fs.length - (intOf i).toNat)
 case atStart =>
  refine⟨0,u2,rfl,by omega,bh, ?_,fY,HR,Wi⟩
  show kI _ _ _ _ _;rw[List.take_zero,List.flatMap_nil,List.append_nil];exact zR.out
 case round =>
  obtain⟨k,u', rfl,hk,HB,HW,HL,HF,HP⟩:=hrel;by_cases hlt:k<fs.length
  ·have tK : (k:Int)<(fs.length:Int):=by omega
   obtain⟨f,O3⟩ : ∃f,fs[k]? = some f:=⟨_,List.getElem?_eq_getElem hlt⟩;obtain⟨g,rfl,hcell⟩:=HF.cell O3;have SQ:=aa O3;have hlen:(K0++(fs.take k).flatMap (Cm.gB c)).length<=70368744177664:=by
    have:=Wj.out (fs.take k);have:=H9.out;rw[List.length_append];rw[List.length_take]at *
    omega
   clear O3
   go_wp2_with fail
   refine(Je w.heap.size c f _ B o u' _ HW.out (Nat.le_trans hB HB.size) hlen HL.out hf hs2).mono ?_;rintro e w4 ⟨rfl,u4,hw4,PJ,hb4⟩;have zF:=aa (PJ _ _ _ (by omega) (by decide) HL.out)
   have Jf:=aa (HF.PL PJ (by omega))
   have Wk:=aa (HP.trans PJ);have bJ:=aa (HB.trans hb4);have FO:=aa hw4;clear hw4 PJ hb4 hlen;go_wp2
   go_roundw
   case rel =>
    refine⟨k+1,u4,by go_num,by omega,bJ, ?_,zF,Jf,Wk⟩
    show kI _ _ _ _ _;have:=FO.out;rw[List.take_add_one,SQ.out,List.flatMap_append,Option.toList_some,List.flatMap_singleton, <- List.append_assoc];exact this
   case measure=>simp[intOf];omega
  ·have tK : ¬(k:Int)<(fs.length:Int):=by omega
   have oD:=HW.out;rw[List.take_of_length_le (by omega),PI.out, <- PH.out]at oD
   have O4:=aa oD;clear oD;go_wp2
   go_end0
   exact⟨rfl,u', O4.out,HP.out,HB.out⟩
theorem zS(u:Value)(s:List UInt8)(w:World)(B o:Nat)(v:Value)(l:List UInt8)(hw:kI w B o v l)(hB:B<=w.heap.size)(hlen:l.length<=70368744177664)(hs:s.length<=1048576)(hu : ∀W,Below B w W->Reads W u s) :
 Calls Tryz.prog 130 #[.pointer (some ⟨o,0,none⟩),u] w fun e w' => e = .returned (.tuple #[]) ∧ ∃v', kI w' B o v' (l++Pk.text s)∧Below B w w' := by
 have h9:=aA (n:=s.length) (by omega)
 obtain⟨uo,uc,rfl⟩:=(hu w (Below.refl _ _)).shape;have HU:=aa hu;clear hu
 go_enter Tryz.func130,Tryz.ntmps130
 go_wp2_with fail
 refine(fl (s.length:Int) _ B o v l hw hB (by omega) (by omega) (by omega)).mono ?_
 rintro e1 w1 ⟨rfl,v1,fJ,fL⟩;rw[Int.toNat_natCast]at fJ
 have aq:=hw.below fL hB;have hu1:=HU.out _ aq;have hc1:=fJ.ag.cell 0 v1 rfl
 go_wp2_with (at_builtin;refine fA rfl _ _ 30 5 rfl Tryz.underlying30 eV B (l++enc s.length) s v1 _ rfl rfl fJ.owns hu1 (by simp;omega) w1 (Below.refl _ _) (by have:=aq.size;omega) ?_;intro v2 w2 lY hb2 hg2;obtain⟨zD,Jd,rfl⟩:=lY.reads.shape;have hl2:=fJ.ag.kept hg2 (fJ.ag.not_row (by decide) fJ.owns);have hc2:=hl2.cell 0 v1 rfl;have hf2:=hl2.free 0)
 have hp:=fJ.put (by decide) lY hg2
 have hq:=aq.trans (fJ.below hp.2 (by have:=aq.size;omega))
 go_end0
 simp only[List.length_append,Nat.add_assoc]at hp hq
 exact⟨rfl,_,by unfold Pk.text;rw[<- List.append_assoc];exact hp.1,hq⟩
end Go.Proofs.YtdkdjofnnnljjaaGreatDoor

namespace Go.Proofs.YtdkdjofnnnljjaaGreatDoor
open Go.RowKit
set_option maxHeartbeats 1600000
set_option maxRecDepth 4000
theorem Cm.tL(v:Int)(b:List UInt8)(p:Nat)(er:Int)(hp:p<=b.length):(Cm.get v b p er).2.1<=b.length∧(Cm.get v b p er).1.aD b.length∧(Cm.get v b p er).1.Fits:=by
 unfold Cm.get;have hS : ∀n,(Cm.aL n).aD b.length:=fun n=>⟨by simp[Cm.aL],by simp[Cm.aL],by simp[Cm.aL]⟩
 rcases Cm.dr b p er with ⟨e,_,hn⟩ | ⟨n,q,_,_,hq,hb,hn,_⟩
 ·rw[hn]
  exact Cm.zT b _ _ (by simpa using hp) (hS _) (by constructor<;>simp[Cm.aL])
 ·rw[hn]
  exact Cm.zT b _ _ (by simpa using hq) (hS _) (by constructor<;>simp[Cm.aL]<;>omega)
theorem Cm.gu{c:Cm.bW}(h:Cm.check c=0):c.aD 48:=by
 obtain⟨hk,ha⟩:=Cm.mj h;unfold Cm.check at h
 rw[hk,if_neg (by simp)]at h
 by_cases h6:(Cm.fields c.kind).all (Cm.within c)=false
 ·rw[if_pos h6]at h;omega
 rw[if_neg h6]at h
 by_cases h7:(Cm.fields c.kind).all (Cm.spelt c)=false
 ·rw[if_pos h7]at h;omega
 have hw:(Cm.fields c.kind).all (Cm.spelt c)=true:=by simpa using h7
 have h' := of_decide_eq_true ha;have hkey : ∀s:List UInt8,Rn.key ⟨s.toArray⟩=true->s.length<=48:=fun s hs=>by
  unfold Rn.key at hs
  simp only[Bool.and_eq_true,decide_eq_true_eq]at hs
  have:=hs.1.2;rw[dy]at this
  omega
 have hval : ∀s:List UInt8,Rn.val ⟨s.toArray⟩=true->s.length<=48:=fun s hs=>by
  unfold Rn.val at hs
  simp only[Bool.and_eq_true,decide_eq_true_eq]at hs
  have:=hs.1.1
  rwa[dy]at this
 clear h ha h6 h7;obtain⟨k,cl,sq,nd,ky,od,vl⟩:=c;dsimp only at hk hw h'
 rcases Vs.kinds k with rfl | rfl | rfl | rfl | rfl | rfl | rfl | rfl | h
 rotate_right
 ·simp[Cm.known]at hk;omega
 all_goals
  simp[Cm.fields,Cm.oG,Cm.F.num,Cm.bW.jU,Cm.bW.jV,Cm.aL]at h'
  simp[Cm.fields,Cm.spelt,Cm.F.num,Cm.SR,Cm.bW.s]at hw
  refine⟨?_, ?_, ?_⟩<;>dsimp only<;>first | (rw[h'.1];simp;done) | (rw[h'.2];simp;done) | (rw[h'.2.1];simp;done) | (rw[h'.2.2];simp;done) | exact hkey _ hw | exact hkey _ hw.1 | exact hkey _ hw.2 | exact hval _ hw.2 | exact hval _ hw.1 | exact hval _ hw.2.1 | exact hval _ hw.2.2 | grind
theorem aD.up{c:Cm.bW}{a b:Nat}(h:c.aD a)(hab:a<=b):c.aD b:=⟨Nat.le_trans h.1 hab,Nat.le_trans h.2.1 hab,Nat.le_trans h.2.2 hab⟩
def cd(o:Nat)(w w' : World):Prop := ∀(k:Nat) (T:TypeId) (vs:Array Value),k≠o->ae w k T vs->ae w' k T vs
theorem cd.trans{o:Nat}{a b c:World}(h:cd o a b)(k:cd o b c):cd o a c:=fun j T vs h1 h2=>k j T vs h1 (h j T vs h1 h2)
theorem cd.bp{o:Nat}{w w' : World}(h:Below w.heap.size w w'):cd o w w' := fun _ _ _ _ hl=>hl.below h hl.lt
theorem cd.aI{o:Nat}{w w' : World}(h:w.grownBy w' (some o)):cd o w w' := fun _ _ _ h1 hl=>hl.kept h (by intro e;cases e;exact h1 rfl)
theorem qU(v:Int)(w:World)(B o:Nat)(u:Value)(s:List UInt8)(p:Nat)(er:Int)(hm:Vs.may v=true)(hr:dU w B o u s p er)(hB:B<=w.heap.size) :
 Calls Tryz.prog 177 #[.pointer (some ⟨o,0,none⟩), .int .i64 v] w (fun e' w' => Wm w B o u s (Cm.get v s p er) e' w' ∧ cd o w w'):=by
 have ho:=hr.ag.lt;obtain⟨n,q,e,hq,hx,zG,R9⟩:=Cm.dV s p er;have HQ:=aa hq;obtain⟨w1,e1,aH,aq,hz1⟩:=pL w Cm.zero;have HG:Hid (Cm.get v s p er=(Cm.cO v n).foldl (Cm.cz s) (Cm.aL n,q,e)):=by
  show _=_;unfold Cm.get;rw[hq];simp
 dsimp only [Cm.cells,Cm.zero,Cm.aL]at e1
 have lU:=aa (cd.bp (o:=o) aq);have dh:=aa aH;have aG:=aa (aq.mono hB);have oC:=aa hz1;have ov:=aa (hr.kept aq);clear aH aq hz1 hr hq
 go_enter Tryz.func177,Tryz.ntmps177
 go_wp2_with fail
 refine(pM v _).mono ?_;rintro e w2 ⟨rfl,rfl⟩;rw[hm]
 go_wp2_with fail
 refine(cY _ B o u s p er n q e ov.out hx HQ).mono ?_;rintro e2 w2 ⟨rfl,hr2,hg2⟩;have hb2:=aG.grown hg2 (Nat.le_trans hB aG.size) (by rintro k hk;cases hk;exact hr2.base)
 have hl2:kL w2 w.heap.size Cm.zero:=dh.kept hg2 (by simp;omega)
 have hz2:w.heap.size+1<=w2.heap.size:=by have:=hg2.size;have:=oC.out;omega
 have kM:=aa (lU.trans (cd.aI hg2));have aR:=aa hb2;have ej:=aa hl2;have bC:=aa hr2;clear hr2 hg2 hb2 hl2
 go_wp2_with (refine wH (by rfl) _ _ (by rfl) w2.heap.size Cm.zero (Cm.aL n) (by rfl) (by rfl) (ae.new _ _ _) ?_;intro w3 fk hg3)
 have jx:Below w2.heap.size w2 w3:=((Below.refl _ w2).alloc (Nat.le_refl _) _).grown hg3 (by simp) (by rintro j hj;cases hj;exact Nat.le_refl _)
 have hk3:w3.cell? ⟨w2.heap.size,0,none⟩=some (.int .i64 n):=fk.cell 0 _ rfl;have Np:w2.heap.size<w3.heap.size:=fk.lt;have zU:=aa (kM.trans (cd.bp (o:=o) jx));have fY:=aa fk;have bh:=aa (aR.trans (jx.mono (Nat.le_trans hB aR.size)));have oH:=aa (bC.kept jx);have jz:=aa (ej.below jx ej.lt);clear fk jx hg3
 go_wp2_with fail
 refine(rX v w2.heap.size n _ hk3).mono ?_;rintro e4 w4 ⟨r,rfl,hr,og⟩;obtain⟨ao,rfl⟩:=hr.shape;have hn:=Cm.mi v n;obtain⟨fs,zE⟩ : ∃fs,fs=Cm.cO v n:=⟨_,rfl⟩;rw[<- zE]at hr hn ⊢
 have PI:=aa zE;have Jf:=aa hr;have zF:=aa (fY.below og fY.lt);have rY:=aa (oH.kept og);have ET:=aa (jz.below og jz.lt);have tv:=aa (zU.trans (cd.bp (o:=o) og));have bJ:=aa (bh.trans (og.mono (Nat.le_trans hB bh.size)));clear hr zE og hk3;go_wp2
 go_loopw [7,18] (fun _ i wr => ∃(k:Nat) (t:Cm.bW × Nat × Int),i = .int .i64 (k:Int)∧k<=fs.length∧Hid (Below B w wr)∧Hid (t=(fs.take k).foldl (Cm.cz s) (Cm.aL n,q,e))∧Hid (dU wr B o u s t.2.1 t.2.2)∧Hid (kL wr w2.heap.size t.1)∧Hid (jy wr w3.heap.size (.slice ao fs.length fs.length) w2.heap.size fs)∧Hid (kL wr w.heap.size Cm.zero)∧Hid (cd o w wr)) (fun _ i _=>fs.length - (intOf i).toNat)
 case atStart=>exact⟨0,(Cm.aL n,q,e),rfl,by omega,bJ,rfl,rY,zF,Jf,ET,tv⟩
 case round =>
  obtain⟨k,t,rfl,hk,HB,HT,HR,HL,HF,HK,HS⟩:=hrel;by_cases hlt:k<fs.length
  ·have tK : (k:Int)<(fs.length:Int):=by omega
   obtain⟨f,O3⟩ : ∃f,fs[k]? = some f:=⟨_,List.getElem?_eq_getElem hlt⟩;obtain⟨g,rfl,hcell⟩:=HF.cell O3;have SQ:=aa O3;clear O3
   go_wp2_with fail
   refine(Jg w2.heap.size t f _ B o u s HR.out HL.out (by omega) (by omega)).mono ?_
   rintro e5 w5 ⟨rfl,eN,ib,hs5,ew⟩;have gQ:=aa eN;have lZ:=aa ib;have SS:=aa (HF.SU hs5 (by omega) (by omega))
   have zV:=aa (hs5 _ _ _ (by omega) (by omega) HK.out)
   have bK:=aa (HB.trans ew);have ma:Hid (cd o w w5):=fun k T vs h1 h2=>hs5 k T vs h1 (by have:=h2.lt;omega) (HS.out k T vs h1 h2)
   clear eN ib hs5 ew;go_wp2
   go_roundw
   case rel =>
    refine⟨k+1,Cm.cz s t f,by go_num,by omega,bK, ?_,lZ,gQ,SS,zV,ma⟩
    show _=_;rw[List.take_add_one,SQ.out,List.foldl_append, <- HT.out]
    rfl
   case measure=>simp[intOf];omega
  ·have tK : ¬(k:Int)<(fs.length:Int):=by omega
   have ht:=HT.out;rw[List.take_of_length_le (by omega),PI.out, <- HG.out]at ht
   have Nq:=aa ht;clear ht;have p0:wr.cell? ⟨w2.heap.size,0,none⟩=some (.int .i64 t.1.kind):=HL.cell 0 _ rfl;have p1:wr.cell? ⟨w2.heap.size,1,none⟩=some (.int .i64 t.1.bD):=HL.cell 1 _ rfl;have p2:wr.cell? ⟨w2.heap.size,2,none⟩=some (.int .i64 t.1.seq):=HL.cell 2 _ rfl;have p3:wr.cell? ⟨w2.heap.size,3,none⟩=some (.string ⟨t.1.key.toArray⟩):=HL.cell 3 _ rfl;have p4:wr.cell? ⟨w2.heap.size,4,none⟩=some (.string ⟨t.1.val.toArray⟩):=HL.cell 4 _ rfl;have p5:wr.cell? ⟨w2.heap.size,5,none⟩=some (.string ⟨t.1.old.toArray⟩):=HL.cell 5 _ rfl;have p6:wr.cell? ⟨w2.heap.size,6,none⟩=some (.int .i64 t.1.node):=HL.cell 6 _ rfl
   go_wp2_with (first
    | (refine wH (by rfl) _ _ (by rfl) w.heap.size Cm.zero t.1 (by rfl) (by rfl) HK.out ?_;intro w6 eZ dt))
   refine Jh rfl rfl eZ rfl ?_;rw[<- Nq.out];exact⟨⟨rfl,HR.gC dt (by omega) (fun h=>HK.not_row (by decide) HR.owns h.symm),HB.grown dt (Nat.le_trans hB HB.size) (by rintro j hj;cases hj;exact hB)⟩,
    fun k T vs h1 h2=>(HS.out k T vs h1 h2).kept dt (by have:=h2.lt;simp;omega)⟩
theorem kN{w0 w v w' : World}{B o b:Nat}{u:Value}{s:List UInt8}{q:Nat}{e:Int}{T:TypeId}{vs' : Array Value}(hT:T≠5)(hB:B<=w0.heap.size)(hb:w0.heap.size<=b)(ho:o<w0.heap.size)
 (HB:Below B w0 w) (HS:cd o w0 w) (hr:dU v B o u s q e) (hg:w.grownBy v (some o)) (vs:Array Value) (hl:ae w b T vs) (_hl' : ae w' b T vs') (VA : v.grownBy w' (some b)) :
 dU w' B o u s q e∧Below B w0 w' ∧ cd o w0 w' ∧ (∀k T' us,k≠o->k≠b->ae w k T' us->ae w' k T' us):=by
 have wI:b≠o:=by omega
 have hlv:ae v b T vs:=hl.kept hg (by simp;omega)
 refine⟨hr.gC VA wI (fun h=>hlv.not_row hT hr.owns h.symm), ?_, ?_, ?_⟩
 ·exact(HB.grown hg (Nat.le_trans hB HB.size) (by rintro x hx;cases hx;exact hr.base)).grown VA (Nat.le_trans hB (Nat.le_trans HB.size hg.size)) (by rintro x hx;cases hx;omega)
 ·intro k T' us h1 h2
  exact((HS k T' us h1 h2).kept hg (by simp;omega)).kept VA (by have:=h2.lt;simp;omega)
 ·intro k T' us h1 h2 h3
  exact(h3.kept hg (by simp;omega)).kept VA (by simp;omega)
theorem Ms.gU(b:List UInt8)(k:Nat):Ms.aj b (k+1)=((Ms.aj b k).1 ++ [(Cm.dD b (Ms.aj b k).2.1 (Ms.aj b k).2.2).1],(Cm.dD b (Ms.aj b k).2.1 (Ms.aj b k).2.2).2.1.toNat,(Cm.dD b (Ms.aj b k).2.1 (Ms.aj b k).2.2).2.2):=rfl
end Go.Proofs.YtdkdjofnnnljjaaGreatDoor

namespace Go.Proofs.YtdkdjofnnnljjaaGreatDoor
open Go.RowKit
theorem Cm.wJ(v:Int)(c:Cm.bW)(hf:c.Fits)(hs:c.aD 48):(Cm.bytes v c).length<=198:=by
 have a4:=aA (n:=c.kind.toNat) (by have:=hf.k1;omega)
 have a5:=aA (n:=c.bD.toNat) (by have:=hf.c1;omega)
 have a6:=aA (n:=c.seq.toNat) (by have:=hf.q1;omega)
 have a7:=aA (n:=c.node.toNat) (by have:=hf.n1;omega)
 have a8:=aA (n:=c.key.length) (by have:=hs.1;omega)
 have a9:=aA (n:=c.val.length) (by have:=hs.2.2;omega)
 have O5:=aA (n:=c.old.length) (by have:=hs.2.1;omega)
 have c1:=hs.1;have c2:=hs.2.1;have c3:=hs.2.2;have h:((Cm.cO v c.kind).flatMap (Cm.gB c)).length<=189:=by
  unfold Cm.cO;by_cases h1:v=1
  ·rw[if_pos h1]
   simp[Cm.gB,Cm.F.num,Cm.bW.n,Cm.bW.s,Pk.text];omega
  ·rw[if_neg h1]
   rcases Vs.kinds c.kind with q | q | q | q | q | q | q | q | q
   rotate_right
   ·rw[Cm.qV (by omega) (by omega) (by omega) (by omega) (by omega) (by omega)];simp
   all_goals
    rw[q];simp[Cm.fields,Cm.gB,Cm.F.num,Cm.bW.n,Cm.bW.s,Pk.text]<;>omega
 unfold Cm.bytes;rw[List.length_append];omega
end Go.Proofs.YtdkdjofnnnljjaaGreatDoor

namespace Go.Proofs.YtdkdjofnnnljjaaGreatDoor
open Go.RowKit
set_option maxHeartbeats 1600000
set_option maxRecDepth 4000
structure Re.Rec where
 kind:Int
 aF:Bl.dM
 index:Int
 cmd:Cm.bW
 aw:List UInt8
 deriving DecidableEq
namespace Re
def zero : Rec:=⟨0,Bl.zero,0,Cm.zero, []⟩
def cells(x:Rec)(vi:Value):Array Value := #[.int .i64 x.kind, .int .i64 x.aF.round, .int .i64 x.aF.node, .int .i64 x.index, .int .i64 x.cmd.kind, .int .i64 x.cmd.bD, .int .i64 x.cmd.seq, .string ⟨x.cmd.key.toArray⟩, .string ⟨x.cmd.val.toArray⟩, .string ⟨x.cmd.old.toArray⟩, .int .i64 x.cmd.node,vi]
def hb(k:Int):Bool:=decide (k=1) || decide (k=2)
def hi(k:Int):Bool:=decide (k=2) || (decide (k=3) || decide (k=4))
def hc(k:Int):Bool:=decide (k=2) || decide (k=3)
def hm(k:Int):Bool:=decide (k=4)
def known(k:Int):Bool:=decide (1<=k) && decide (k<=4)
theorem kinds(k:Int):k=1∨k=2∨k=3∨k=4∨(k<1∨4<k):=by omega
theorem qW{k:Int}(h:k<1∨4<k):hb k=false∧hi k=false∧hc k=false∧hm k=false∧known k=false:=by
 unfold hb hi hc hm known;simp only[Bool.or_eq_false_iff,Bool.and_eq_false_iff,decide_eq_false_iff_not];omega
def bO(x:Rec):Bool := !(hb x.kind && !Ms.owned x.aF) && !(hi x.kind && !Ms.within x.index 1 4294967296)
def own(x:Rec):Rec:=⟨x.kind,if hb x.kind=true then x.aF else Bl.zero,if hi x.kind=true then x.index else 0,if hc x.kind=true then x.cmd else Cm.zero,if hm x.kind=true then x.aw else []⟩
def whole(x:Rec):Bool := !(hm x.kind && decide (x.aw = []))
def check(x:Rec):Int :=
 if known x.kind=false then 5
 else if bO x=false then 6
 else if(hm x.kind && decide (32768<x.aw.length))=true then 2
 else if hc x.kind=true∧Cm.check x.cmd≠0 then Cm.check x.cmd
 else if(decide (own x=x) && whole x)=false then 3 else 0
def rZ(x:Rec):Bool:=hc x.kind && !Vs.has 1 x.cmd.kind
def older(x:Rec):Int:=if check x≠0 then check x else if rZ x=true then 8 else 0
def iU(x:Rec):Bool:=decide (200<x.cmd.key.length) || (decide (200<x.cmd.val.length) || (decide (200<x.cmd.old.length) || ((decide (300<x.aw.length) && decide (x.aw.length<32760)) || decide (32780<x.aw.length))))
def bX(x:Rec):List Int := [x.kind,x.aF.round,x.aF.node,x.index]
def tail(x:Rec):List UInt8:=if hc x.kind=true then Cm.bytes 1 x.cmd else if hm x.kind=true then Pk.text x.aw else []
def bytes(x:Rec):List UInt8:=Ms.bZ (bX x)++tail x
structure Rec.Fits(x:Rec):Prop where
 n : ∀z∈bX x, -9223372036854775808<=z∧z<=9223372036854775807
 c:x.cmd.Fits
def base(l:List Int):Rec:=⟨Ms.nth l 0,⟨Ms.nth l 1,Ms.nth l 2⟩,Ms.nth l 3,Cm.zero, []⟩
def got(b:List UInt8):Rec × Nat × Int :=
 if hc (Ms.nth (Ms.aj b 4).1 0)=true then ({base (Ms.aj b 4).1 with cmd:=(Cm.get 1 b (Ms.aj b 4).2.1 (Ms.aj b 4).2.2).1},(Cm.get 1 b (Ms.aj b 4).2.1 (Ms.aj b 4).2.2).2.1,(Cm.get 1 b (Ms.aj b 4).2.1 (Ms.aj b 4).2.2).2.2)
 else if hm (Ms.nth (Ms.aj b 4).1 0)=true then ({base (Ms.aj b 4).1 with aw:=(Ms.raw b (Ms.aj b 4).2.1 (Ms.aj b 4).2.2).1},(Ms.raw b (Ms.aj b 4).2.1 (Ms.aj b 4).2.2).2.1.toNat,(Ms.raw b (Ms.aj b 4).2.1 (Ms.aj b 4).2.2).2.2)
 else if Ms.nth (Ms.aj b 4).1 0=1 then (base (Ms.aj b 4).1,(Ms.aj b 4).2.1,(Ms.aj b 4).2.2)
 else (base (Ms.aj b 4).1,(Ms.aj b 4).2.1,if(Ms.aj b 4).2.2=0 then 3 else (Ms.aj b 4).2.2)
def decode(b:List UInt8):Rec × Int :=
 if Cm.done b (got b).2.1 (got b).2.2≠0 then (zero,Cm.done b (got b).2.1 (got b).2.2)
 else if older (got b).1≠0 then (zero,older (got b).1)else ((got b).1,0)
structure Good(x:Rec):Prop where
 kind:known x.kind=true
 bO:bO x=true
 long:(hm x.kind && decide (32768<x.aw.length))=false
 cmd:hc x.kind=true->Cm.check x.cmd=0
 own:own x=x
 whole:whole x=true
theorem eG{x:Rec}(h:check x=0):Good x:=by
 unfold check at h
 by_cases h1:known x.kind=false
 ·rw[if_pos h1]at h;omega
 rw[if_neg h1]at h
 by_cases h2:Re.bO x=false
 ·rw[if_pos h2]at h;omega
 rw[if_neg h2]at h
 by_cases h3:(hm x.kind && decide (32768<x.aw.length))=true
 ·rw[if_pos h3]at h;omega
 rw[if_neg h3]at h
 by_cases h4:hc x.kind=true∧Cm.check x.cmd≠0
 ·rw[if_pos h4]at h;exact absurd h h4.2
 ·rw[if_neg h4]at h
  by_cases h5:(decide (Re.own x=x) && Re.whole x)=false
  ·rw[if_pos h5]at h;omega
  ·simp only[Bool.not_eq_false,Bool.and_eq_true,decide_eq_true_eq]at h5
   exact⟨by simpa using h1,by simpa using h2,by simpa using h3,fun hk=>by by_cases hq:Cm.check x.cmd=0;exact hq;exact absurd ⟨hk,hq⟩ h4,h5.1,h5.2⟩
theorem oI{x:Rec}(h:older x=0):check x=0∧rZ x=false:=by
 unfold older at h
 by_cases h1:check x=0
 ·rw[if_neg (by simpa using h1)]at h
  by_cases h2:rZ x=true
  ·rw[if_pos h2]at h;omega
  ·exact⟨h1,by simpa using h2⟩
 ·rw[if_pos h1]at h;exact absurd h h1
theorem ml{x:Rec}(h:Good x):x.aw.length<=32768:=by
 by_cases hx:hm x.kind=true
 ·have:=h.long
  rw[hx]at this
  simp at this
  omega
 ·have:=congrArg Rec.aw h.own
  rw[<- this,show(Re.own x).aw=if hm x.kind=true then x.aw else []from rfl,if_neg hx]
  simp
theorem jA{x:Rec}(h:Good x)(hk:hc x.kind=false):x.cmd=Cm.zero:=by
 have:=congrArg Rec.cmd h.own;rw[<- this];show(if hc x.kind=true then x.cmd else Cm.zero)=Cm.zero
 rw[if_neg (by rw[hk];simp)]
theorem tM{x:Rec}(h:Good x)(hk:hm x.kind=false):x.aw = []:=by
 have:=congrArg Rec.aw h.own;rw[<- this];show(if hm x.kind=true then x.aw else []) = []
 rw[if_neg (by rw[hk];simp)]
theorem zW{x:Rec}(h:Good x) : ∀z∈bX x,0<=z∧z<=9223372036854775807:=by
 have hk:=h.kind;have hr:=h.bO;unfold known at hk
 simp only[Bool.and_eq_true,decide_eq_true_eq]at hk
 unfold Re.bO at hr
 simp only[Bool.and_eq_true]at hr
 have hb:(0<=x.aF.round∧x.aF.round<=4294967296)∧(0<=x.aF.node∧x.aF.node<=9):=by
  by_cases hx:hb x.kind=true
  ·have ho:Ms.owned x.aF=true:=by
    have:=hr.1;rw[hx]at this
    simpa using this
   unfold Ms.owned at ho
   have qX:=(Bool.and_eq_true_iff.1 ho).1;unfold Bl.may Bl.within at qX
   rcases Bool.or_eq_true_iff.1 qX with h1 | h1
   ·rw[of_decide_eq_true h1];simp[Bl.zero]
   ·simp only[Bool.and_eq_true,decide_eq_true_eq]at h1
    omega
  ·have:=congrArg Rec.aF h.own
   rw[<- this,show(Re.own x).aF=if hb x.kind=true then x.aF else Bl.zero from rfl,if_neg hx]
   simp[Bl.zero]
 have hix:0<=x.index∧x.index<=4294967296:=by
  by_cases hx:hi x.kind=true
  ·have:=hr.2
   rw[hx]at this
   simp[Ms.within]at this
   omega
  ·have:=congrArg Rec.index h.own
   rw[<- this,show(Re.own x).index=if hi x.kind=true then x.index else 0 from rfl,if_neg hx]
   simp
 intro z hz
 simp only[bX,List.mem_cons,List.not_mem_nil,or_false]at hz
 rcases hz with rfl | rfl | rfl | rfl<;>omega
theorem four{l:List Int}(h:l.length=4) : [Ms.nth l 0,Ms.nth l 1,Ms.nth l 2,Ms.nth l 3]=l:=by
 match l,h with
 | [_,_,_,_],_=>rfl
theorem FP(x:Rec):base (bX x)={x with cmd:=Cm.zero,aw := []}:=rfl
theorem mm{x:Rec}(h:older x=0)(hf:x.Fits){s:Nat}(hs:x.cmd.aD s)(hs2:s<=9223372036854775807):decode (bytes x)=(x,0):=by
 obtain⟨Nr,hn⟩:=oI h;have hg:=eG Nr;have h1:=Ms.zX (bX x) (zW hg) (bytes x) (tail x) rfl 4 (Nat.le_refl _);rw[show(bX x).take 4=bX x from rfl]at h1
 have h0:Ms.nth (bX x) 0=x.kind:=rfl;have Ji:got (bytes x)=(x,(bytes x).length,0):=by
  unfold got;rw[h1];dsimp only;rw[h0,FP];by_cases hc1:hc x.kind=true
  ·rw[if_pos hc1]
   have hcm:=hg.cmd hc1;have hm0:hm x.kind=false:=by unfold hc at hc1;unfold hm;simp at hc1 ⊢; omega
   have hin:Cm.nA 1 x.cmd=0:=by
    unfold rZ at hn
    rw[hc1]at hn
    unfold Cm.nA;rw[if_neg (by decide),if_neg (by simpa using hcm),if_neg (by simp at hn;rw[hn];simp)]
   have PM:=Cm.get_at 1 x.cmd (Cm.wK hcm) hf.c hs hs2 (Ms.bZ (bX x)) [];have ht:tail x=Cm.bytes 1 x.cmd:=if_pos hc1;have hb:bytes x=Ms.bZ (bX x)++Cm.bytes 1 x.cmd:=by unfold bytes;rw[ht]
   rw[List.append_nil,Cm.sg 1 x.cmd hin, <- hb]at PM
   rw[PM];dsimp only;rw[show({x with cmd:=x.cmd,aw := []}:Rec)=x from by rw[show([]:List UInt8)=x.aw from(tM hg hm0).symm]]
  ·rw[if_neg hc1]
   have hc0:hc x.kind=false:=by simpa using hc1
   by_cases CD:hm x.kind=true
   ·rw[if_pos CD]
    have ht:tail x=Pk.text x.aw:=(if_neg hc1).trans (if_pos CD);have hb:bytes x=Ms.bZ (bX x)++Pk.text x.aw:=by unfold bytes;rw[ht]
    have Y4:=Ms.Jj (Ms.bZ (bX x)) [] (ml hg);rw[List.append_nil, <- hb]at Y4
    rw[Y4];dsimp only;rw[show({x with cmd:=Cm.zero,aw:=x.aw}:Rec)=x from by rw[<- jA hg hc0]]
    rfl
   ·rw[if_neg CD]
    have hm0:hm x.kind=false:=by simpa using CD
    have jb:x.kind=1:=by
     have hk:=hg.kind;unfold known at hk
     unfold hc at hc0
     unfold hm at hm0
     simp at hk hc0 hm0
     omega
    have ht:tail x = []:=(if_neg hc1).trans (if_neg CD);rw[if_pos jb,show({x with cmd:=Cm.zero,aw := []}:Rec)=x from by rw[<- jA hg hc0, <- tM hg hm0]]
    unfold bytes;rw[ht,List.append_nil]
 unfold decode;rw[Ji];dsimp only;rw[Cm.tN,if_neg (by simp),if_neg (by simpa using h)]
theorem nB(b:List UInt8)(h:(decode b).2=0):(decode b).1=(got b).1∧older (got b).1=0∧bytes (got b).1=b:=by
 unfold decode at h ⊢
 by_cases h2:Cm.done b (got b).2.1 (got b).2.2=0
 ·rw[if_neg (by simpa using h2)]at h ⊢
  by_cases h3:older (got b).1=0
  ·rw[if_neg (by simpa using h3)]
   refine⟨rfl,h3, ?_⟩;have jY:(got b).2.2=0:=by
    unfold Cm.done at h2
    split at h2
    ·rename_i hne;exact absurd h2 hne
    ·rename_i hne;simpa using hne
   have hpl : ¬(got b).2.1<b.length:=by
    unfold Cm.done at h2
    rw[if_neg (by simpa using jY)]at h2
    intro hlt
    rw[if_pos hlt]at h2
    omega
   clear h h2 h3;have l1:=Ms.pN b 4;have Wn : ∀x:Rec,x.kind=(base (Ms.aj b 4).1).kind->x.aF=(base (Ms.aj b 4).1).aF->x.index=(base (Ms.aj b 4).1).index->bX x=(Ms.aj b 4).1:=fun x h1 h2 h3=>by
    unfold bX;rw[h1,h2,h3];exact four (Ms.fB b 4)
   unfold got at jY hpl ⊢
   by_cases hc1:hc (Ms.nth (Ms.aj b 4).1 0)=true
   ·rw[if_pos hc1]at jY hpl ⊢
    dsimp only at jY hpl ⊢
    obtain⟨k0,k1,k2⟩:=Cm.yg 1 b _ _ jY l1;have k3:=Ms.pO b 4 k0;rw[List.take_of_length_le (by omega),k3]at k2
    conv=>rhs;rw[k2]
    unfold bytes;exact congr (congrArg _ (congrArg Ms.bZ (Wn _ rfl rfl rfl))) (if_pos hc1)
   ·rw[if_neg hc1]at jY hpl ⊢
    by_cases CD:hm (Ms.nth (Ms.aj b 4).1 0)=true
    ·rw[if_pos CD]at jY hpl ⊢
     dsimp only at jY hpl ⊢
     rcases Ms.jn b (Ms.aj b 4).2.1 (Ms.aj b 4).2.2 l1 with ⟨e,q,he,_,hr⟩ | ⟨s,q,h0,hq,_,hr,ht⟩
     ·rw[hr]at jY;exact absurd jY he
     ·rw[hr]at hpl ⊢
      simp only[Int.toNat_natCast]at hpl
      rw[List.take_of_length_le (by omega),Ms.pO b 4 h0]at ht
      conv=>rhs;rw[ht]
      unfold bytes;exact congr (congrArg _ (congrArg Ms.bZ (Wn _ rfl rfl rfl))) ((if_neg hc1).trans (if_pos CD))
    ·rw[if_neg CD]at jY hpl ⊢
     by_cases jb:Ms.nth (Ms.aj b 4).1 0=1
     ·rw[if_pos jb]at jY hpl ⊢
      dsimp only at jY hpl ⊢
      have k3:=Ms.pO b 4 jY;rw[List.take_of_length_le (by omega)]at k3
      conv=>rhs;rw[k3]
      unfold bytes;rw[Wn _ rfl rfl rfl,show tail (base (Ms.aj b 4).1) = []from(if_neg hc1).trans (if_neg CD),List.append_nil]
     ·rw[if_neg jb]at jY
      dsimp only at jY
      split at jY<;>omega
  ·rw[if_pos h3]at h;exact absurd h h3
 ·rw[if_pos h2]at h;exact absurd h h2
theorem nC(b:List UInt8):(got b).1.Fits∧(got b).1.cmd.aD b.length∧(got b).1.aw.length<=b.length:=by
 have l1:=Ms.pN b 4;have hz:Cm.zero.Fits∧Cm.zero.aD b.length:=⟨by constructor<;>simp[Cm.zero,Cm.aL],by simp[Cm.zero,Cm.aL],by simp[Cm.zero,Cm.aL],by simp[Cm.zero,Cm.aL]⟩
 have hn : ∀z∈(Ms.aj b 4).1, -9223372036854775808<=z∧z<=9223372036854775807:=fun z hz=>by
  have:=Ms.wL b 4 z hz;omega
 have h4:bX (base (Ms.aj b 4).1)=(Ms.aj b 4).1:=four (Ms.fB b 4);unfold got;split
 ·obtain⟨_,h2,h3⟩:=Cm.tL 1 b _ (Ms.aj b 4).2.2 l1
  exact⟨⟨fun z hz=>hn z (h4 ▸ hz),h3⟩,h2,Nat.zero_le _⟩
 ·split
  ·refine⟨⟨fun z hz=>hn z (h4 ▸ hz),hz.1⟩,hz.2, ?_⟩
   rcases Ms.jn b (Ms.aj b 4).2.1 (Ms.aj b 4).2.2 l1 with ⟨e,q,_,_,hr⟩ | ⟨s,q,_,_,hs,hr,_⟩
   ·rw[hr];simp
   ·rw[hr];exact hs
  ·split<;>exact⟨⟨fun z hz=>hn z (h4 ▸ hz),hz.1⟩,hz.2,Nat.zero_le _⟩
theorem small{x:Rec}(h:iU x=false):x.cmd.aD 200∧x.aw.length<=32780:=by
 unfold iU at h
 simp only[Bool.or_eq_false_iff,decide_eq_false_iff_not]at h
 exact⟨⟨by omega,by omega,by omega⟩,by omega⟩
theorem fC{x:Rec}(hf:x.Fits)(hs:x.cmd.aD 1000)(hm:x.aw.length<=100000):(bytes x).length<=110000:=by
 have n1:=Ms.oJ (bX x) fun z hz=>(hf.n z hz).2
 have h4:(bX x).length=4:=rfl;have h5:=aA (n:=x.aw.length) (by omega)
 have h6:(Cm.bytes 1 x.cmd).length<=4000:=by
  have a4:=aA (n:=x.cmd.kind.toNat) (by have:=hf.c.k1;omega)
  have a5:=aA (n:=x.cmd.bD.toNat) (by have:=hf.c.c1;omega)
  have a6:=aA (n:=x.cmd.seq.toNat) (by have:=hf.c.q1;omega)
  have a7:=aA (n:=x.cmd.node.toNat) (by have:=hf.c.n1;omega)
  have a8:=aA (n:=x.cmd.key.length) (by have:=hs.1;omega)
  have a9:=aA (n:=x.cmd.val.length) (by have:=hs.2.2;omega)
  have c1:=hs.1;have c3:=hs.2.2;unfold Cm.bytes Cm.cO;rw[if_pos rfl];simp[Cm.gB,Cm.F.num,Cm.bW.n,Cm.bW.s,Pk.text];omega
 have h7:(tail x).length<=100009:=by
  unfold tail;split
  ·omega
  ·split
   ·unfold Pk.text;rw[List.length_append];omega
   ·simp
 unfold bytes;rw[List.length_append];omega
def aO(v:Int)(x:Rec):Int:=if check x≠0 then check x else if(hc x.kind && !Vs.has v x.cmd.kind)=true then 8 else 0
theorem mn(x:Rec):aO 1 x=older x:=rfl
end Re
section
abbrev ai(w:World)(g:Nat)(x:Re.Rec)(vi:Value):Prop:=ae w g 42 (Re.cells x vi)
section
variable {w : World} {g : Nat} {x : Re.Rec} {vi : Value}
theorem ai.c0(h:ai w g x vi):w.cell? ⟨g,0,none⟩=some (.int .i64 x.kind):=h.cell 0 _ rfl
theorem ai.c1(h:ai w g x vi):w.cell? ⟨g,1,none⟩=some (.int .i64 x.aF.round):=h.cell 1 _ rfl
theorem ai.c2(h:ai w g x vi):w.cell? ⟨g,2,none⟩=some (.int .i64 x.aF.node):=h.cell 2 _ rfl
theorem ai.c3(h:ai w g x vi):w.cell? ⟨g,3,none⟩=some (.int .i64 x.index):=h.cell 3 _ rfl
theorem ai.c4(h:ai w g x vi):w.cell? ⟨g,4,none⟩=some (.int .i64 x.cmd.kind):=h.cell 4 _ rfl
theorem ai.c5(h:ai w g x vi):w.cell? ⟨g,5,none⟩=some (.int .i64 x.cmd.bD):=h.cell 5 _ rfl
theorem ai.c6(h:ai w g x vi):w.cell? ⟨g,6,none⟩=some (.int .i64 x.cmd.seq):=h.cell 6 _ rfl
theorem ai.c7(h:ai w g x vi):w.cell? ⟨g,7,none⟩=some (.string ⟨x.cmd.key.toArray⟩):=h.cell 7 _ rfl
theorem ai.c8(h:ai w g x vi):w.cell? ⟨g,8,none⟩=some (.string ⟨x.cmd.val.toArray⟩):=h.cell 8 _ rfl
theorem ai.c9(h:ai w g x vi):w.cell? ⟨g,9,none⟩=some (.string ⟨x.cmd.old.toArray⟩):=h.cell 9 _ rfl
theorem ai.c10(h:ai w g x vi):w.cell? ⟨g,10,none⟩=some (.int .i64 x.cmd.node):=h.cell 10 _ rfl
theorem ai.c11(h:ai w g x vi):w.cell? ⟨g,11,none⟩=some vi:=h.cell 11 _ rfl
theorem ai.all(h:ai w g x vi):w.cell? ⟨g,0,none⟩=some (.int .i64 x.kind)∧w.cell? ⟨g,1,none⟩=some (.int .i64 x.aF.round)∧w.cell? ⟨g,2,none⟩=some (.int .i64 x.aF.node)∧w.cell? ⟨g,3,none⟩=some (.int .i64 x.index)∧w.cell? ⟨g,4,none⟩=some (.int .i64 x.cmd.kind)∧w.cell? ⟨g,5,none⟩=some (.int .i64 x.cmd.bD)∧w.cell? ⟨g,6,none⟩=some (.int .i64 x.cmd.seq)∧w.cell? ⟨g,7,none⟩=some (.string ⟨x.cmd.key.toArray⟩)∧w.cell? ⟨g,8,none⟩=some (.string ⟨x.cmd.val.toArray⟩)∧w.cell? ⟨g,9,none⟩=some (.string ⟨x.cmd.old.toArray⟩)∧w.cell? ⟨g,10,none⟩=some (.int .i64 x.cmd.node)∧w.cell? ⟨g,11,none⟩=some vi :=
 ⟨h.c0,h.c1,h.c2,h.c3,h.c4,h.c5,h.c6,h.c7,h.c8,h.c9,h.c10,h.c11⟩
theorem ai.num(h:ai w g x vi)(k:Nat)(hk:k<4):w.cell? ⟨g,k,none⟩=some (.int .i64 (Ms.nth (Re.bX x) k)):=by
 have:k=0∨k=1∨k=2∨k=3:=by omega
 rcases this with rfl | rfl | rfl | rfl<;>exact h.cell _ _ rfl
end
theorem bf(w:World)(x:Re.Rec)(vi:Value) : ∃w1,w.alloc (.cells (Re.cells x vi) 42)=w1∧ai w1 w.heap.size x vi∧Below w.heap.size w w1∧w1.heap.size=w.heap.size+1 :=
 ⟨_,rfl,ae.new w _ _,(Below.refl _ w).alloc (Nat.le_refl _) _,by simp⟩
theorem iz(w:World)(x:Re.Rec)(vi:Value)(x' : Re.Rec)(IW : Value) : ∃w1,(w.alloc (.cells (Re.cells x vi) 42)).alloc (.cells (Re.cells x' IW) 42)=w1∧ai w1 w.heap.size x vi∧ai w1 (w.heap.size+1) x' IW ∧ Below w.heap.size w w1∧w1.heap.size=w.heap.size+2:=by
 refine⟨_,rfl,(ae.new w _ _).alloc _, ?_,((Below.refl _ w).alloc (Nat.le_refl _) _).alloc (by simp) _,by simp⟩
 have:=ae.new (w.alloc (.cells (Re.cells x vi) 42)) 42 (Re.cells x' IW)
 simpa using this
theorem Re.cR(x:Re.Rec){vi:Value}(h:vi.oneCell' = true):(Re.cells x vi).all (·.oneCell')=true:=by
 have hi : ∀x:Int,(Value.int .i64 x).oneCell' = true:=fun _=>rfl
 have hs : ∀s:ByteArray,(Value.string s).oneCell' = true:=fun _=>rfl
 simp[Re.cells,hi,hs,h]
theorem EU(w:World)(g:Nat)(x:Re.Rec)(vi:Value)(h:ai w g x vi):(loadVar 42 ⟨g,0,none⟩).run Tryz.prog w = .ok (.agg (Re.cells x vi)) w :=
 run_loadVar_row w g _ _ (Re.cells x vi) (0,0) _ h Tryz.underlying42 rfl (by kernel_rfl)
theorem kO{fn:Func}{R:Ending->World->Prop}{a:Act}{w:World}{p:Tmp}{g:Nat}{x:Re.Rec}{vi:Value}(h:fn.results = #[.cell p 42])(hp:a.tmps.getD p undef = .pointer (some ⟨g,0,none⟩))
 (hl:ai w g x vi) (hd:a.defers = []) (hR:R (.returned (.agg (Re.cells x vi))) w):bodyPost Tryz.prog fn R .ret a w:=by
 refine bodyPost_ret ?_ hd hR;rw[iA h,hp];simp[asAddr,Result.andThen,EU w g x vi hl]
theorem cL{fn:Func}{R:Ending->World->Prop}{a:Act}{w:World}{p u:Tmp}{g:Nat}{x:Re.Rec}{vi:Value}(h:fn.results = #[.cell p 42, .tmp u])(hp:a.tmps.getD p undef = .pointer (some ⟨g,0,none⟩))
 (hl:ai w g x vi) (hd:a.defers = []) (hR:R (.returned (.tuple #[.agg (Re.cells x vi),a.tmps.getD u undef])) w):bodyPost Tryz.prog fn R .ret a w:=by
 refine bodyPost_ret ?_ hd hR;rw[jZ h,hp];simp[asAddr,Result.andThen,EU w g x vi hl]
theorem aY{ops:Array Oper}{rest:List Oper}{op:Oper}{a:Act}{w:World}{Q:Exit->Act->World->Prop}(hgd:op.guard=none)(x y:Operand)(ho:op.op = .store 42 x y)
 (g:Nat) (r0:Re.Rec) (VB:Value) (r:Re.Rec) (vi:Value) (hx:a.eval x = .pointer (some ⟨g,0,none⟩)) (hy:a.eval y = .agg (Re.cells r vi)) (hi:vi.oneCell' = true) (hl:ai w g r0 VB)
 (h : ∀w', ai w' g r vi->w.grownBy w' (some g)->wpList Tryz.prog ops Q rest (a.put op.dst undef) w'):wpList Tryz.prog ops Q (op :: rest) a w :=
 aP hgd _ x y ho g 0 _ _ (Re.cells r vi) (.agg (Re.cells r vi)) (Re.cells r vi).toList hx hy rfl (by kernel_rfl) (by rw[Array.all_toList];exact Re.cR r hi) hl (Nat.le_refl 12) (by simp[Re.cells]) h
theorem cZ{ops:Array Oper}{rest:List Oper}{op:Oper}{a:Act}{w:World}{Q:Exit->Act->World->Prop}(hgd:op.guard=none)(x:Operand)(ho:op.op = .load 42 x)
 (g:Nat) (r:Re.Rec) (vi:Value) (hx:a.eval x = .pointer (some ⟨g,0,none⟩)) (hl:ai w g r vi)
 (h:wpList Tryz.prog ops Q rest (a.put op.dst (.agg (Re.cells r vi))) w):wpList Tryz.prog ops Q (op :: rest) a w :=
 wpList_load_mid hgd _ x ho g 0 hx (Re.cells r vi).toList _ (fun j v hv=>by rw[Nat.zero_add];exact hl.cell j v (by simpa using hv)) Tryz.underlying42 rfl (by kernel_rfl) h
theorem fD(w:World)(c d:Cm.bW):(binOp .neq 40 (.agg (Cm.cells c)) (.agg (Cm.cells d))).run Tryz.prog w = .ok (.bool (!decide (c=d))) w:=by
 have hu:=Tryz.underlying40;obtain⟨k,cl,sq,nd,ky,od,vl⟩:=c;obtain⟨k', Wo, Wp, Wq, Ws, Wt, Wu⟩:=d;dsimp only [Cm.cells];go_simp
 repeat' split
 all_goals simp_all
end
theorem wM(b:Bl.dM)(w:World):Calls Tryz.prog 165 #[.agg (Bl.cells b)] w (Looks w (.int .i64 (if Ms.owned b=true then 0 else 6))):=by
 obtain⟨w1,e1,aH,aq,hz1⟩:=pP w b;obtain⟨p0,p1⟩:=iP.both aH;have dh:=aa aH;have aG:=aa aq;obtain⟨r,hr⟩ : ∃r:Int,r=if Ms.owned b=true then 0 else 6:=⟨_,rfl⟩
 rw[<- hr];unfold Ms.owned at hr
 have qX:=tO b w1;obtain⟨t,ht⟩ : ∃t,t=Bl.may b:=⟨_,rfl⟩;rw[<- ht]at hr qX
 have hg:=jq;have heq:=fun W=>iB W b Bl.zero
 obtain⟨z,hz⟩ : ∃z,z=decide (b=Bl.zero):=⟨_,rfl⟩;rw[<- hz]at heq
 rw[show decide (b≠Bl.zero) = !z by rw[hz,decide_not]]at hr
 dsimp only [Bl.cells,Bl.zero]at heq
 clear aH aq hz1 ht hz;cases t with
 | false =>
  have HR:Hid (r=6):=hr;clear hr
  go_enter Tryz.func165,Tryz.ntmps165
  go_wp2_with fail
  refine qX.mono ?_;rintro e w2 ⟨rfl,dN⟩;go_wp2;go_ret;exact⟨by rw[HR.out];rfl,aG.trans (dN.mono aG.size)⟩
 | true =>
  cases z with
  | false =>
   have HR:Hid (r=0):=hr;clear hr
   go_enter Tryz.func165,Tryz.ntmps165
   go_wp2_with fail
   refine qX.mono ?_;rintro e w2 ⟨rfl,dN⟩;obtain⟨q0,q1⟩:=iP.both (dh.below dN dh.lt);have aR:=aa (aG.trans (dN.mono aG.size));clear dN p0 p1;go_wp2;go_ret;exact⟨by rw[HR.out];rfl,aR.out⟩
  | true =>
   have HR:Hid (r=6):=hr;clear hr
   go_enter Tryz.func165,Tryz.ntmps165
   go_wp2_with fail
   refine qX.mono ?_;rintro e w2 ⟨rfl,dN⟩;obtain⟨q0,q1⟩:=iP.both (dh.below dN dh.lt);have aR:=aa (aG.trans (dN.mono aG.size));clear dN p0 p1;go_wp2;go_ret;exact⟨by rw[HR.out];rfl,aR.out⟩
theorem zY(n:Int)(w:World):Calls Tryz.prog 166 #[.int .i64 n] w (Says w (.int .i64 (if Ms.within n 1 4294967296=true then 0 else 6))):=by
 obtain⟨r,hr⟩ : ∃r:Int,r=if Ms.within n 1 4294967296=true then 0 else 6:=⟨_,rfl⟩
 rw[<- hr];unfold Ms.within at hr
 by_cases h1:n<1
 ·have HR:Hid (r=6):=by show _=_;rw[hr,decide_eq_false (show ¬ 1<=n by omega)];rfl
  clear hr
  go_enter Tryz.func166,Tryz.ntmps166
  go_wp2;go_ret;exact⟨by rw[HR.out];rfl,rfl⟩
 ·rw[decide_eq_true (show 1<=n by omega)]at hr
  by_cases h2:4294967296<n
  ·have HR:Hid (r=6):=by show _=_;rw[hr,decide_eq_false (show ¬n<=4294967296 by omega)];rfl
   clear hr
   go_enter Tryz.func166,Tryz.ntmps166
   go_wp2;go_ret;exact⟨by rw[HR.out];rfl,rfl⟩
  ·have HR:Hid (r=0):=by show _=_;rw[hr,decide_eq_true (show n<=4294967296 by omega)];rfl
   clear hr
   go_enter Tryz.func166,Tryz.ntmps166
   go_wp2;go_ret;exact⟨by rw[HR.out];rfl,rfl⟩
theorem zZ(u:Value)(l:List UInt8)(w:World)(hu:Reads w u l):Calls Tryz.prog 168 #[u] w (Says w (.int .i64 (if decide (32768<l.length)=true then 2 else 0))):=by
 obtain⟨ao,cap,rfl⟩:=hu.shape;have hlen:=hu.len;obtain⟨n,hn⟩ : ∃n,n=l.length:=⟨_,rfl⟩;rw[<- hn]at hlen ⊢
 have hnb:n<=9223372036854775807:=by omega
 clear hu hn hlen;by_cases h:32768<n
 ·rw[decide_eq_true h,if_pos rfl]
  have d:decide ((32768:Int)<(n:Int))=true:=by simp;omega
  clear h
  go_enter Tryz.func168,Tryz.ntmps168
  go_wp2;go_ret;exact⟨rfl,rfl⟩
 ·rw[decide_eq_false h,if_neg (by simp)]
  have d:decide ((32768:Int)<(n:Int))=false:=by simp;omega
  clear h
  go_enter Tryz.func168,Tryz.ntmps168
  go_wp2;go_ret;exact⟨rfl,rfl⟩
theorem Re.ext_iff(a b:Re.Rec):a=b↔a.kind=b.kind∧a.aF=b.aF∧a.index=b.index∧a.cmd=b.cmd∧a.aw=b.aw:=by
 obtain⟨k,b1,i,c,m⟩:=a;obtain⟨k', b1', i', c', m'⟩:=b;simp only[Re.Rec.mk.injEq]
theorem CN(m m' : Re.Rec)(vi IW : Value)(w:World)(hi:Reads w vi m.aw)(hi' : Reads w IW m'.aw) :
 Calls Tryz.prog 141 #[.agg (Re.cells m vi), .agg (Re.cells m' IW)] w (Looks w (.bool (decide (m=m')))):=by
 obtain⟨w1,e1,aH,jb,aq,hz1⟩:=iz w m vi m' IW;obtain⟨p0,p1,p2,p3,p4,p5,p6,p7,p8,p9,cG,cE⟩:=ai.all aH;obtain⟨q0,q1,q2,q3,q4,q5,q6,q7,q8,q9,VC,VD⟩:=ai.all jb;have Y5:=aa (CL vi IW m.aw m'.aw w1 (hi.below aq) (hi'.below aq));have HB:=aa aq;have hgb:=jq;have O6:=gv;have Y6:=fun W=>iB W m.aF m'.aF
 have Wv:=fun W=>si W m.cmd m'.cmd
 obtain⟨r,hr⟩ : ∃r,r=decide (m=m'):=⟨_,rfl⟩;rw[<- hr];have HR:=aa hr;have HE:=aa (Re.ext_iff m m');obtain⟨z,hz⟩ : ∃z,z=decide (m.aF=m'.aF):=⟨_,rfl⟩;rw[<- hz]at Y6
 obtain⟨y,hy⟩ : ∃y,y=decide (m.cmd=m'.cmd):=⟨_,rfl⟩;rw[<- hy]at Wv
 have Y7:=aa hz;have Sa:=aa hy;dsimp only [Bl.cells]at Y6
 dsimp only [Cm.cells]at Wv
 clear aH jb aq hz1 hi hi' hr hz hy;by_cases h0:m.kind=m'.kind
 rotate_left
 ·have d0:(m.kind == m'.kind)=false:=by simpa using h0
  have HZ:Hid (r=false):=HR.trans (decide_eq_false fun h=>h0 ((HE.1 h).1))
  clear h0
  go_enter Tryz.func141,Tryz.ntmps141
  go_wp2;go_ret;exact⟨by rw[HZ.out];rfl,HB.out⟩
 have d0:(m.kind == m'.kind)=true:=by simpa using h0
 have H0:=aa h0;clear h0;cases z with
 | false =>
  have HZ:Hid (r=false):=HR.trans (decide_eq_false fun h=>of_decide_eq_false Y7.symm ((HE.1 h).2.1))
  go_enter Tryz.func141,Tryz.ntmps141
  go_wp2;go_ret;exact⟨by rw[HZ.out];rfl,HB.out⟩
 | true =>
  have H1:=aa (of_decide_eq_true Y7.symm);by_cases h2:m.index=m'.index
  rotate_left
  ·have d2:(m.index == m'.index)=false:=by simpa using h2
   have HZ:Hid (r=false):=HR.trans (decide_eq_false fun h=>h2 ((HE.1 h).2.2.1))
   clear h2
   go_enter Tryz.func141,Tryz.ntmps141
   go_wp2;go_ret;exact⟨by rw[HZ.out];rfl,HB.out⟩
  have d2:(m.index == m'.index)=true:=by simpa using h2
  have H2:=aa h2;clear h2;cases y with
  | false =>
   have HZ:Hid (r=false):=HR.trans (decide_eq_false fun h=>of_decide_eq_false Sa.symm ((HE.1 h).2.2.2.1))
   go_enter Tryz.func141,Tryz.ntmps141
   go_wp2;go_ret;exact⟨by rw[HZ.out];rfl,HB.out⟩
  | true =>
   have H3:=aa (of_decide_eq_true Sa.symm);have HZ:Hid (r=(m.aw == m'.aw)):=by
    show _=_;rw[HR.out];cases hx:m.aw == m'.aw with
    | false=>exact decide_eq_false fun h=>by rw[(HE.1 h).2.2.2.2]at hx;simp at hx
    | true=>exact decide_eq_true (HE.2 ⟨H0.out,H1.out,H2.out,H3.out,by simpa using hx⟩)
   obtain⟨x,hx⟩ : ∃x,x=(m.aw == m'.aw):=⟨_,rfl⟩;rw[<- hx]at HZ Y5
   clear hx
   go_enter Tryz.func141,Tryz.ntmps141
   go_wp2_with fail
   refine Y5.mono ?_;rintro e w5 ⟨rfl,qY⟩;go_wp2;go_ret;exact⟨by rw[HZ.out];rfl,HB.trans (qY.mono HB.size)⟩
end Go.Proofs.YtdkdjofnnnljjaaGreatDoor
