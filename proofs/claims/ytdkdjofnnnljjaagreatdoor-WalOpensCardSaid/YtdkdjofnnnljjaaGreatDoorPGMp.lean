/- Several texts of mine in one: EnChk GMa GEr GMc GMp. -/
import Derived.Test.YtdkdjofnnnljjaaGreatDoorPEnMem
import Derived.Test.YtdkdjofnnnljjaaGreatDoorPCmdChk
import Derived.Test.YtdkdjofnnnljjaaGreatDoorPVers
import Derived.Test.YtdkdjofnnnljjaaGreatDoorGPl
import Derived.Test.YtdkdjofnnnljjaaGreatDoorGMb
import Derived.Deep.QuietTactic
import Derived.BigQuiet
import Derived.Test.YtdkdjofnnnljjaaGreatDoorPPkMath
import Derived.Test.YtdkdjofnnnljjaaGreatDoorGCw
import Derived.BigRegion
namespace Go.Proofs.YtdkdjofnnnljjaaGreatDoor
open Go.RowKit
set_option maxHeartbeats 1600000
set_option maxRecDepth 4000
theorem Ents.at{w:World}{g:Nat}{e:En.Ent}(h:Ents w g e):EntAt w g 0 e:=EntAt.of fun j u hj=>by rw[Nat.zero_add];exact h.cell j u hj
theorem behind_any(b:Int)(e:En.Ent)(w:World)(hv:WordsIn w)(hs:e.cmd.Short 140737488355328) :
 Calls Tryz.prog 187 #[.int .i64 b, .agg (En.cells e)] w (Looks w (.int .i64 (En.one b e))):=by
 obtain⟨w1,e1,hl1,hB1,hz1⟩:=box_ent w e
 obtain⟨p0,p1,p2,_,_,_,_,_,_,_⟩:=Ents.ten hl1
 have HL1:=Lib.hid hl1;have HB1:=Lib.hid hB1
 have HV1:=Lib.hid (hv.below hB1)
 have hmay:=bmay_any e.bal w1
 obtain⟨t,ht⟩ : ∃t,t=Bl.may e.bal:=⟨_,rfl⟩
 rw[← ht]at hmay
 obtain⟨r,hr⟩ : ∃r,r=En.one b e:=⟨_,rfl⟩
 rw[← hr]
 unfold En.one En.ranged at hr
 rw[← ht]at hr
 obtain⟨y,hy⟩ : ∃y,y=Cm.check e.cmd:=⟨_,rfl⟩
 have hchk:=fun W hW=>check_any e.cmd W hW hs
 rw[← hy]at hr hchk
 have HCHK:=Lib.hid hchk
 clear hl1 hB1 hz1 hv ht hy hchk hs
 by_cases h1:e.index<1
 ·have HZ:Hid (r=6):=by show _=_;rw[hr,decide_eq_false (show ¬ 1≤e.index by omega)];rfl
  clear hr hmay
  go_enter Tryz.func187,Tryz.ntmps187
  go_wp2
  go_ret
  exact⟨by rw[HZ.out];rfl,HB1.out⟩
 ·rw[decide_eq_true (show 1≤e.index by omega)]at hr
  by_cases h2:4294967296<e.index
  ·have HZ:Hid (r=6):=by show _=_;rw[hr,decide_eq_false (show ¬e.index≤4294967296 by omega)];rfl
   clear hr hmay
   go_enter Tryz.func187,Tryz.ntmps187
   go_wp2
   go_ret
   exact⟨by rw[HZ.out];rfl,HB1.out⟩
  ·rw[decide_eq_true (show e.index≤4294967296 by omega)]at hr
   cases t with
   | false =>
    have HZ:Hid (r=6):=by show _=_;rw[hr];rfl
    clear hr
    go_enter Tryz.func187,Tryz.ntmps187
    go_wp2_with (go_at_call 120;refine hmay.mono ?_;rintro e' w2 ⟨rfl,hB2⟩)
    go_ret
    exact⟨by rw[HZ.out];rfl,HB1.out.trans (hB2.mono HB1.out.size)⟩
   | true =>
    have hr' : r=if y≠0 then y else if e.index≤b then 12 else 0:=hr
    have HR:=Lib.hid hr'
    clear hr hr'
    go_enter Tryz.func187,Tryz.ntmps187
    go_wp2_with (go_at_call 120;refine hmay.mono ?_;rintro e' w2 ⟨rfl,hB2⟩;obtain⟨q0,q1,q2,q3,q4,q5,q6,q7,q8,q9⟩:=Ents.ten (HL1.out.below hB2 HL1.out.lt);have HL2:=Lib.hid (HL1.out.below hB2 HL1.out.lt);have HV2:=Lib.hid (HV1.out.below hB2);have HB2:=Lib.hid (HB1.out.trans (hB2.mono HB1.out.size));clear hB2 p0 p1 p2)
    refine(HCHK.out _ HV2.out).mono ?_
    rintro e' w3 ⟨rfl,hB3⟩
    obtain⟨s0,_⟩:=Ents.ten (HL2.out.below hB3 HL2.out.lt)
    have HB3:=Lib.hid (HB2.out.trans (hB3.mono HB2.out.size))
    clear hB3 q0 q1 q2 q3 q4 q5 q6 q7 q8 q9
    by_cases hy:y=0
    ·subst hy
     by_cases hb:e.index≤b
     ·have HZ:Hid (r=12):=by show _=_;rw[HR.out,if_neg (by simp),if_pos hb]
      go_wp2
      go_ret
      exact⟨by rw[HZ.out];rfl,HB3.out⟩
     ·have HZ:Hid (r=0):=by show _=_;rw[HR.out,if_neg (by simp),if_neg hb]
      go_wp2
      go_ret
      exact⟨by rw[HZ.out];rfl,HB3.out⟩
    ·have hne:(y != 0)=true:=by simpa using hy
     have HZ:Hid (r=y):=by show _=_;rw[HR.out,if_pos hy]
     go_wp2
     go_ret
     exact⟨by rw[HZ.out];rfl,HB3.out⟩
theorem checkE_any(v:Value)(l:List En.Ent)(w:World)(hv:ReadsE w v l)(hw:WordsIn w)(hs : ∀e∈l,e.cmd.Short 140737488355328) :
 Calls Tryz.prog 159 #[v] w (Looks w (.int .i64 (En.check 0 l))):=by
 obtain⟨ao,cap,rfl,hc1,hc2⟩:=ReadsE.shape hv
 have HP:=Lib.hid (fun h=>ReadsE.places hv h)
 have HS:=Lib.hid hs
 have HW:=Lib.hid hw
 obtain⟨n,hnn⟩ : ∃n,n=l.length:=⟨_,rfl⟩
 rw[← hnn]at hc1 ⊢
 have HN:=Lib.hid hnn
 obtain⟨r,hr⟩ : ∃r,r=En.check 0 l:=⟨_,rfl⟩
 rw[← hr]
 have HR:=Lib.hid hr
 have hnb:n<9223372036854775808:=by omega
 clear hv hnn hr hs hw
 go_enter Tryz.func159,Tryz.ntmps159
 go_wp2
 go_loopw [3,9] (fun y i wr => ∃(b:Int) (k:Nat),y = .int .i64 b∧i = .int .i64 (k:Int)∧k≤n∧Hid (r=En.check b (l.drop k))∧Below w.heap.size w wr) (fun _ i _=>n - (intOf i).toNat)
 case atStart=>exact⟨0,0,rfl,rfl,by omega,HR.out,Below.refl _ _⟩
 case round =>
  obtain⟨b,k,rfl,rfl,hk,HI,hB⟩:=hrel
  have HB:=Lib.hid hB
  clear hB
  by_cases hlt:k<n
  ·obtain⟨e,he⟩ : ∃e,l[k]? = some e:=⟨_,List.getElem?_eq_getElem (by have:=HN.out;omega)⟩
   obtain⟨g,off,rfl,hgl,hcell⟩:=HP.out (by have:=HN.out;omega)
   have HC:=Lib.hid (hcell wr HB.out k e he)
   have HST:=Lib.hid (HI.out.trans (En.check_step he b))
   have HSE:=Lib.hid (HS.out e (List.mem_of_getElem? he))
   obtain⟨y,hy⟩ : ∃y,y=En.one b e:=⟨_,rfl⟩
   rw[← hy]at HST
   have hcall:=fun W hW=>behind_any b e W hW HSE.out
   rw[← hy]at hcall
   have HCALL:=Lib.hid hcall
   clear hcell he hy hcall
   by_cases hy:y=0
   ·subst hy
    have HZ:Hid (r=En.check e.index (l.drop (k+1))):=by show _=_;rw[HST.out,if_neg (by simp)]
    go_wp2_with (first
     | (refine load_ent rfl _ rfl g (off+k*10) e rfl HC.out ?_)
     | (refine store_ent (by rfl) _ _ (by rfl) wr.heap.size En.zero e (by rfl) (by rfl) (Lies.new _ _ _) ?_;intro w3 hl3 hg3;have HL3:=Lib.hid hl3;have HB3:=Lib.hid ((HB.out.alloc HB.out.size _).grown hg3 (by simp;have:=HB.out.size;omega) (by rintro j hj;cases hj;exact HB.out.size));clear hl3 hg3)
     | (refine load_ent rfl _ rfl wr.heap.size 0 e rfl (Ents.at HL3.out) ?_)
     | (go_at_call 187;refine(HCALL.out _ (HW.out.below HB3.out)).mono ?_;rintro e' w4 ⟨rfl,hB4⟩;obtain⟨q0,_⟩:=Ents.ten (HL3.out.below hB4 HL3.out.lt);have HB4:=Lib.hid (HB3.out.trans (hB4.mono HB3.out.size));clear hB4))
    go_roundw
    case rel=>exact⟨e.index,k+1,rfl,by go_num,by omega,HZ.out,HB4.out⟩
    case measure=>simp[intOf];omega
   ·have hne:(y != 0)=true:=by simpa using hy
    have HZ:Hid (r=y):=by show _=_;rw[HST.out,if_pos hy]
    go_wp2_with (first
     | (refine load_ent rfl _ rfl g (off+k*10) e rfl HC.out ?_)
     | (refine store_ent (by rfl) _ _ (by rfl) wr.heap.size En.zero e (by rfl) (by rfl) (Lies.new _ _ _) ?_;intro w3 hl3 hg3;have HL3:=Lib.hid hl3;have HB3:=Lib.hid ((HB.out.alloc HB.out.size _).grown hg3 (by simp;have:=HB.out.size;omega) (by rintro j hj;cases hj;exact HB.out.size));clear hl3 hg3)
     | (refine load_ent rfl _ rfl wr.heap.size 0 e rfl (Ents.at HL3.out) ?_)
     | (go_at_call 187;refine(HCALL.out _ (HW.out.below HB3.out)).mono ?_;rintro e' w4 ⟨rfl,hB4⟩;obtain⟨q0,_⟩:=Ents.ten (HL3.out.below hB4 HL3.out.lt);have HB4:=Lib.hid (HB3.out.trans (hB4.mono HB3.out.size));clear hB4))
    go_ret
    exact⟨by rw[HZ.out];rfl,HB4.out⟩
  ·have HZ:Hid (r=0):=by show _=_;rw[HI.out,List.drop_of_length_le (by have:=HN.out;omega)];rfl
   go_wp2
   go_ret
   exact⟨by rw[HZ.out];rfl,HB.out⟩
end Go.Proofs.YtdkdjofnnnljjaaGreatDoor

namespace Go.Proofs.YtdkdjofnnnljjaaGreatDoor
open Go.RowKit
theorem Ms.cells_one(m:Ms.Msg){ve vi:Value}(h:ve.oneCell' = true)(h' : vi.oneCell' = true):(Ms.cells m ve vi).all (·.oneCell')=true:=by
 have hi : ∀x:Int,(Value.int .i64 x).oneCell' = true:=fun _=>rfl
 simp[Ms.cells,hi,h,h']
theorem Ms.cells_at(m:Ms.Msg)(ve vi:Value)(j:Nat)(h:j<10) : ∃v,(Ms.cells m ve vi)[j]? = some v:=⟨_,Array.getElem?_eq_getElem (show j<(Ms.cells m ve vi).size from h)⟩
theorem Ms.sets(k:Int):(Ms.hv k=false∧Ms.hb k=false∧Ms.hi k=false∧Ms.hc k=false∧Ms.he k=false∧Ms.hm k=false)∨(Ms.hv k=true∧Ms.hb k=false∧Ms.hi k=false∧Ms.hc k=false∧Ms.he k=false∧Ms.hm k=false)∨(Ms.hv k=false∧Ms.hb k=true∧Ms.hi k=true∧Ms.hc k=false∧Ms.he k=false∧Ms.hm k=false)∨(Ms.hv k=false∧Ms.hb k=true∧Ms.hi k=true∧Ms.hc k=true∧Ms.he k=true∧Ms.hm k=false)∨(Ms.hv k=false∧Ms.hb k=true∧Ms.hi k=false∧Ms.hc k=false∧Ms.he k=true∧Ms.hm k=false)∨(Ms.hv k=false∧Ms.hb k=true∧Ms.hi k=false∧Ms.hc k=false∧Ms.he k=false∧Ms.hm k=false)∨(Ms.hv k=false∧Ms.hb k=true∧Ms.hi k=false∧Ms.hc k=true∧Ms.he k=false∧Ms.hm k=false)∨(Ms.hv k=false∧Ms.hb k=false∧Ms.hi k=true∧Ms.hc k=false∧Ms.he k=false∧Ms.hm k=false)∨(Ms.hv k=false∧Ms.hb k=false∧Ms.hi k=false∧Ms.hc k=true∧Ms.he k=true∧Ms.hm k=false)∨(Ms.hv k=false∧Ms.hb k=false∧Ms.hi k=false∧Ms.hc k=false∧Ms.he k=false∧Ms.hm k=true):=by
 rcases Ms.kinds k with rfl | rfl | rfl | rfl | rfl | rfl | rfl | rfl | rfl | rfl | rfl | h
 rotate_right
 ·obtain⟨h1,h2,h3,h4,h5,h6,_⟩:=Ms.has_no h
  exact .inl ⟨h1,h2,h3,h4,h5,h6⟩
 all_goals decide+kernel
def FieldsIn(w:World):Prop:=w.var? Tryz.prog "changeover/msgone.fields"=some (Ms.tab.map fun n=>Value.int .i64 n).toArray
theorem FieldsIn.below{w w' : World}(h:FieldsIn w)(hb:Below w.heap.size w w'):FieldsIn w' := var_below h hb
def Ms.bit(k f:Int):Bool:=bits .and .i64 (Ms.mask k) f != 0
theorem Ms.bits(k:Int):Ms.bit k 1=Ms.hv k∧Ms.bit k 2=Ms.hb k∧Ms.bit k 4=Ms.hi k∧Ms.bit k 8=Ms.hc k∧Ms.bit k 16=Ms.he k∧Ms.bit k 32=Ms.hm k:=by
 rcases Ms.kinds k with rfl | rfl | rfl | rfl | rfl | rfl | rfl | rfl | rfl | rfl | rfl | h
 rotate_right
 ·obtain⟨h1,h2,h3,h4,h5,h6,_⟩:=Ms.has_no h
  unfold Ms.bit
  rw[Ms.mask_no h,h1,h2,h3,h4,h5,h6]
  decide+kernel
 all_goals decide+kernel
end Go.Proofs.YtdkdjofnnnljjaaGreatDoor

namespace Go.Proofs.YtdkdjofnnnljjaaGreatDoor
open Go.RowKit
set_option maxHeartbeats 3200000
set_option maxRecDepth 4000
def En.long(e:En.Ent):Bool:=decide (200<e.cmd.key.length) || (decide (200<e.cmd.val.length) || decide (200<e.cmd.old.length))
def En.large(l:List En.Ent):Bool:=(l.take 40).any En.long || decide (40<l.length)
theorem En.small{l:List En.Ent}(h:En.large l=false):l.length≤40 ∧ ∀e∈l,e.cmd.Short 200:=by
 unfold En.large at h
 rw[Bool.or_eq_false_iff]at h
 have h40:l.length≤40:=by have:=of_decide_eq_false h.2;omega
 refine⟨h40,fun e he => ?_⟩
 have:=List.any_eq_false.1 h.1 e (by rw[List.take_of_length_le h40];exact he)
 unfold En.long at this
 simp at this
 exact⟨this.1,this.2.2,this.2.1⟩
theorem sameE_any(v u:Value)(l m:List En.Ent)(w:World)(hv:ReadsE w v l)(hu:ReadsE w u m) :
 Calls Tryz.prog 55 #[v,u] w (Looks w (.bool (decide (l=m)))):=by
 obtain⟨ao,cap,rfl,hc1,hc2⟩:=ReadsE.shape hv
 obtain⟨bo,bcap,rfl,hd1,hd2⟩:=ReadsE.shape hu
 have HP:=Lib.hid (fun h=>ReadsE.places hv h)
 have HQ:=Lib.hid (fun h=>ReadsE.places hu h)
 obtain⟨r,hr⟩ : ∃r,r=decide (l=m):=⟨_,rfl⟩
 rw[← hr]
 have HR:=Lib.hid hr
 obtain⟨n,hnn⟩ : ∃n,n=l.length:=⟨_,rfl⟩
 obtain⟨p,hpp⟩ : ∃p,p=m.length:=⟨_,rfl⟩
 rw[← hnn]at hc1 ⊢
 rw[← hpp]at hd1 ⊢
 have HN:=Lib.hid hnn
 have HM:=Lib.hid hpp
 have hnb:n<9223372036854775808:=by omega
 have hpb:p<9223372036854775808:=by omega
 clear hv hu hnn hpp hr
 by_cases hnp:n=p
 ·subst hnp
  have hne:((n:Int) != (n:Int))=false:=by simp
  go_enter Tryz.func55,Tryz.ntmps55
  go_wp2
  go_loopw [5] (fun i wr => ∃k:Nat,i = .int .i64 (k:Int)∧k≤n∧Hid (l.take k=m.take k)∧Below w.heap.size w wr) (fun i _=>n - (intOf i).toNat)
  case atStart=>exact⟨0,rfl,by omega,by show _=_;simp,Below.refl _ _⟩
  case round =>
   obtain⟨k,rfl,hk,HI,hB⟩:=hrel
   have HB:=Lib.hid hB
   clear hB
   by_cases hlt:k<n
   ·obtain⟨a,ha⟩ : ∃e,l[k]? = some e:=⟨_,List.getElem?_eq_getElem (by have:=HN.out;omega)⟩
    obtain⟨b,hb⟩ : ∃e,m[k]? = some e:=⟨_,List.getElem?_eq_getElem (by have:=HM.out;omega)⟩
    obtain⟨g,off,rfl,hgl,hcell⟩:=HP.out (by have:=HN.out;omega)
    obtain⟨h,oof,rfl,hhl,hdell⟩:=HQ.out (by have:=HM.out;omega)
    obtain⟨c0,c1,c2,c3,c4,c5,c6,c7,c8,c9⟩:=hcell wr HB.out k a ha
    obtain⟨d0,d1,d2,d3,d4,d5,d6,d7,d8,d9⟩:=hdell wr HB.out k b hb
    have HA:=Lib.hid ha;have HBB:=Lib.hid hb
    have hgd:=guard_ent
    have hneq:=fun W=>run_neq_ent W a b
    obtain⟨t,ht⟩ : ∃t,t=decide (a=b):=⟨_,rfl⟩
    rw[← ht]at hneq
    have HT:=Lib.hid ht
    dsimp only [En.cells]at hneq
    clear hcell hdell ha hb ht
    cases t with
    | true =>
     have HZ:Hid (l.take (k+1)=m.take (k+1)):=by
      show _=_
      rw[List.take_add_one,List.take_add_one,HA.out,HBB.out,HI.out,of_decide_eq_true HT.out.symm]
     simp only[Bool.not_true]at hneq
     go_wp2
     go_quiet (fail)
     all_goals
      go_wp2
      go_roundw
      case rel=>exact⟨k+1,by go_num,by omega,HZ.out,HB.out.trans ((drawn wr _).mono HB.out.size)⟩
      case measure=>simp[intOf];omega
    | false =>
     have HZ:Hid (r=false):=by
      show _=_
      rw[HR.out]
      refine decide_eq_false fun h => ?_
      have h1:=HA.out
      rw[h,HBB.out]at h1
      exact of_decide_eq_false HT.out.symm (Option.some.inj h1).symm
     simp only[Bool.not_false]at hneq
     go_wp2
     go_quiet (fail)
     all_goals
      go_wp2
      go_ret
      exact⟨by rw[HZ.out];rfl,HB.out.trans ((drawn wr _).mono HB.out.size)⟩
   ·have HZ:Hid (r=true):=by
     show _=_
     rw[HR.out]
     refine decide_eq_true ?_
     have:=HI.out
     rwa[List.take_of_length_le (by have:=HN.out;omega),List.take_of_length_le (by have:=HM.out;omega)]at this
    go_wp2
    go_ret
    exact⟨by rw[HZ.out];rfl,HB.out⟩
 ·have hne:((n:Int) != (p:Int))=true:=by simp;omega
  have HZ:Hid (r=false):=by
   show _=_
   rw[HR.out]
   exact decide_eq_false fun h=>hnp (by rw[HN.out,HM.out,h])
  go_enter Tryz.func55,Tryz.ntmps55
  go_wp2
  go_ret
  exact⟨by rw[HZ.out];rfl,Below.refl _ _⟩
end Go.Proofs.YtdkdjofnnnljjaaGreatDoor

namespace Go.Proofs.YtdkdjofnnnljjaaGreatDoor
open Go.RowKit
set_option maxHeartbeats 400000
set_option maxRecDepth 4000
theorem equalB_any(v u:Value)(l m:List UInt8)(w:World)(hv:Reads w v l)(hu:Reads w u m) :
 Calls Tryz.prog 149 #[v,u] w (Looks w (.bool (l == m))):=by
 obtain⟨ao,cap,rfl⟩:=hv.shape
 obtain⟨ao2,cap2,rfl⟩:=hu.shape
 have c1:=run_string_of (P:=Tryz.prog) l Tryz.underlying30 Tryz.underlying5 Tryz.underlying9 hv
 have c2:=run_string_of (P:=Tryz.prog) m Tryz.underlying30 Tryz.underlying5 Tryz.underlying9 hu
 go_enter Tryz.func149,Tryz.ntmps149
 go_wp2
 go_ret
 exact⟨ret_bool rfl,Below.refl _ _⟩
theorem Ms.ext_iff(a b:Ms.Msg):a=b↔a.kind=b.kind∧a.frm=b.frm∧a.dst=b.dst∧a.bal=b.bal∧a.index=b.index∧a.commit=b.commit∧a.version=b.version∧a.ents=b.ents∧a.img=b.img:=by
 obtain⟨a1,a2,a3,a4,a5,a6,a7,a8,a9⟩:=a
 obtain⟨b1,b2,b3,b4,b5,b6,b7,b8,b9⟩:=b
 simp only[Ms.Msg.mk.injEq]
end Go.Proofs.YtdkdjofnnnljjaaGreatDoor

namespace Go.Proofs.YtdkdjofnnnljjaaGreatDoor
open Go.RowKit
set_option maxHeartbeats 1600000
set_option maxRecDepth 4000
theorem cput_at(v:Int)(c:Cm.Cmd)(w:World)(B o:Nat)(u:Value)(pre:List UInt8)(hm:Vs.may v=true)(hw:Wrt w B o u pre)(hpre:pre.length≤35184372088832)(hB:B≤w.heap.size)(hf:c.Fits)(hs:c.Short 1000) :
 Calls Tryz.prog 129 #[.pointer (some ⟨o,0,none⟩), .int .i64 v, .agg (Cm.cells c)] w (PutGot w B o (pre++Cm.bytes v c)):=by
 have ho:=hw.lies.lt
 have hs2:c.Short 1048576:=⟨by have:=hs.1;omega,by have:=hs.2.1;omega,by have:=hs.2.2;omega⟩
 obtain⟨w1,e1,hl1,hB1,hz1⟩:=box_cmd w c
 have hk:w1.cell? ⟨w.heap.size,0,none⟩=some (.int .i64 c.kind):=hl1.cell 0 _ rfl
 have HL1:=Lib.hid hl1;have HB1:=Lib.hid hB1;have HZ1:=Lib.hid hz1
 have HW1:=Lib.hid (hw.grown hB1)
 clear hl1 hB1 hz1 hw
 go_enter Tryz.func129,Tryz.ntmps129
 go_wp2_with fail
 refine(may_any v _).mono ?_
 rintro e w2 ⟨rfl,rfl⟩
 rw[hm]
 go_wp2_with fail
 refine(wnum_any c.kind _ B o u pre HW1.out (Nat.le_trans hB HB1.out.size) (by omega) hf.k0 hf.k1).mono ?_
 rintro e w2 ⟨rfl,u2,hw2,hg2⟩
 have hp2:=Spares.of_grew HW1.out hg2
 have hb2:=HW1.out.below hg2 (Nat.le_trans hB HB1.out.size)
 have hl2:Cmds w2 w.heap.size c:=hp2 _ _ _ (by omega) (by decide) HL1.out
 have hk2:w2.cell? ⟨w.heap.size,0,none⟩=some (.int .i64 c.kind):=hl2.cell 0 _ rfl
 obtain⟨K0,hK0⟩ : ∃K0,K0=pre++enc c.kind.toNat:=⟨_,rfl⟩
 rw[← hK0]at hw2
 have HK0:=Lib.hid hK0
 have HB2:=Lib.hid ((HB1.out.mono hB).trans hb2)
 have HP2:=Lib.hid ((Spares.of_below (o:=o) HB1.out).trans hp2)
 have HW2:=Lib.hid hw2
 have HL2:=Lib.hid hl2
 have hz2:w.heap.size+1≤w2.heap.size:=by have:=hb2.size;have:=HZ1.out;omega
 clear hp2 hb2 hl2 hw2 hg2 hK0
 go_wp2_with fail
 refine(encoded_any v w.heap.size c.kind _ hk2).mono ?_
 rintro e w3 ⟨r,rfl,hr,hB3⟩
 obtain⟨ao,rfl⟩:=hr.shape
 have hn:=Cm.encoded_len v c.kind
 have HBY:Hid (pre++Cm.bytes v c=K0++(Cm.encoded v c.kind).flatMap (Cm.fenc c)):=by show _=_;rw[HK0.out];simp[Cm.bytes]
 obtain⟨fs,hfs⟩ : ∃fs,fs=Cm.encoded v c.kind:=⟨_,rfl⟩
 rw[← hfs]at hr hn ⊢
 have HFS:=Lib.hid hfs
 have HR:=Lib.hid hr
 have HL3:=Lib.hid (HL2.out.below hB3 HL2.out.lt)
 have HW3:=Lib.hid (HW2.out.grown hB3)
 have HB3:=Lib.hid (HB2.out.trans (hB3.mono (Nat.le_trans hB HB2.out.size)))
 have HP3:=Lib.hid (HP2.out.trans (Spares.of_below (o:=o) hB3))
 have H9:Hid (K0.length≤35184372088841):=by show _≤_;rw[HK0.out,List.length_append];have:=enc_nine (n:=c.kind.toNat) (by have:=hf.k1;omega);omega
 have HFL:=Lib.hid (Cm.flat_len c hf hs)
 clear hr hfs hB3 hk hk2
 go_wp2
 go_loopw [7,18] (fun _ i wr => ∃(k:Nat) (u' : Value),i = .int .i64 (k:Int)∧k≤fs.length∧Hid (Below B w wr)∧Hid (Wrt wr B o u' (K0++(fs.take k).flatMap (Cm.fenc c)))∧Hid (Cmds wr w.heap.size c)∧Hid (FRow wr w2.heap.size (.slice ao fs.length fs.length) w.heap.size fs)∧Hid (Spares o w wr)) (fun _ i _=>fs.length - (intOf i).toNat)
 case atStart =>
  refine⟨0,u2,rfl,by omega,HB3, ?_,HL3,HR,HP3⟩
  show Wrt _ _ _ _ _
  rw[List.take_zero,List.flatMap_nil,List.append_nil]
  exact HW3.out
 case round =>
  obtain⟨k,u', rfl,hk,HB,HW,HL,HF,HP⟩:=hrel
  by_cases hlt:k<fs.length
  ·have hlt' : (k:Int)<(fs.length:Int):=by omega
   obtain⟨f,hff⟩ : ∃f,fs[k]? = some f:=⟨_,List.getElem?_eq_getElem hlt⟩
   obtain⟨g,rfl,hcell⟩:=HF.out.cell hff
   have HFK:=Lib.hid hff
   have hlen:(K0++(fs.take k).flatMap (Cm.fenc c)).length≤70368744177664:=by
    have:=HFL.out (fs.take k)
    have:=H9.out
    rw[List.length_append]
    rw[List.length_take]at *
    omega
   clear hff
   go_wp2_with fail
   refine(fput_any w.heap.size c f _ B o u' _ HW.out (Nat.le_trans hB HB.out.size) hlen HL.out hf hs2).mono ?_
   rintro e w4 ⟨rfl,u4,hw4,hp4,hb4⟩
   have HL4:=Lib.hid (hp4 _ _ _ (by omega) (by decide) HL.out)
   have HF4:=Lib.hid (HF.out.spares hp4 (by omega))
   have HP4:=Lib.hid (HP.out.trans hp4)
   have HB4:=Lib.hid (HB.out.trans hb4)
   have HW4:=Lib.hid hw4
   clear hw4 hp4 hb4 hlen
   go_wp2
   go_roundw
   case rel =>
    refine⟨k+1,u4,by go_num,by omega,HB4, ?_,HL4,HF4,HP4⟩
    show Wrt _ _ _ _ _
    have:=HW4.out
    rw[List.take_add_one,HFK.out,List.flatMap_append,Option.toList_some,List.flatMap_singleton, ← List.append_assoc]
    exact this
   case measure=>simp[intOf];omega
  ·have hlt' : ¬(k:Int)<(fs.length:Int):=by omega
   have hw5:=HW.out
   rw[List.take_of_length_le (by omega),HFS.out, ← HBY.out]at hw5
   have HW5:=Lib.hid hw5
   clear hw5
   go_wp2
   go_end0
   exact⟨rfl,u', HW5.out,HP.out,HB.out⟩
theorem wraw_out(u:Value)(s:List UInt8)(w:World)(B o:Nat)(v:Value)(l:List UInt8)(hw:Wrt w B o v l)(hB:B≤w.heap.size)(hlen:l.length≤70368744177664)(hs:s.length≤1048576)(hu : ∀W,Below B w W→Reads W u s) :
 Calls Tryz.prog 130 #[.pointer (some ⟨o,0,none⟩),u] w fun e w' => e = .returned (.tuple #[]) ∧ ∃v', Wrt w' B o v' (l++Pk.text s)∧Below B w w' := by
 have h9:=enc_nine (n:=s.length) (by omega)
 obtain⟨uo,uc,rfl⟩:=(hu w (Below.refl _ _)).shape
 have HU:=Lib.hid hu
 clear hu
 go_enter Tryz.func130,Tryz.ntmps130
 go_wp2_with fail
 refine(wnum_any (s.length:Int) _ B o v l hw hB (by omega) (by omega) (by omega)).mono ?_
 rintro e1 w1 ⟨rfl,v1,hw1,hg1⟩
 rw[Int.toNat_natCast]at hw1
 have hB1:=hw.below hg1 hB
 have hu1:=HU.out _ hB1
 have hc1:=hw1.lies.cell 0 v1 rfl
 go_wp2_with (at_builtin;refine append_bytes rfl _ _ 30 5 rfl Tryz.underlying30 info_u8 B (l++enc s.length) s v1 _ rfl rfl hw1.owns hu1 (by simp;omega) w1 (Below.refl _ _) (by have:=hB1.size;omega) ?_;intro v2 w2 ho2 hb2 hg2;obtain⟨ao2,cap2,rfl⟩:=ho2.reads.shape;have hl2:=hw1.lies.kept hg2 (hw1.lies.not_row (by decide) hw1.owns);have hc2:=hl2.cell 0 v1 rfl;have hf2:=hl2.free 0)
 have hp:=hw1.put (by decide) ho2 hg2
 have hq:=hB1.trans (hw1.below hp.2 (by have:=hB1.size;omega))
 go_end0
 simp only[List.length_append,Nat.add_assoc]at hp hq
 exact⟨rfl,_,by unfold Pk.text;rw[← List.append_assoc];exact hp.1,hq⟩
theorem En.ebytes_len(v:Int)(e:En.Ent)(hf:e.Fits)(hs:e.cmd.Short 1000):(En.ebytes v e).length≤6027:=by
 have h1:=enc_nine (n:=e.index.toNat) (by have:=hf.i1;omega)
 have h2:=enc_nine (n:=e.bal.round.toNat) (by have:=hf.bal.r1;omega)
 have h3:=enc_nine (n:=e.bal.node.toNat) (by have:=hf.bal.n1;omega)
 have h4:=Cm.bytes_len v e.cmd hf.cmd hs
 unfold En.ebytes
 simp only[List.length_append]
 omega
theorem En.flat_len(v:Int) : ∀(l:List En.Ent),(∀e∈l,e.Fits∧e.cmd.Short 1000)→(l.flatMap (En.ebytes v)).length≤6027*l.length
 | [],_=>by simp
 | e :: r,h=>by
  have h1:=En.ebytes_len v e (h e (by simp)).1 (h e (by simp)).2
  have h2:=En.flat_len v r fun x hx=>h x (by simp[hx])
  rw[List.flatMap_cons,List.length_append,List.length_cons]
  omega
def Put(w:World)(B o:Nat)(m:List UInt8)(e:Ending)(w' : World):Prop:=e = .returned (.tuple #[]) ∧ ∃v', Wrt w' B o v' m∧Below B w w'
abbrev Ptrs(w:World)(h g:Nat):Prop:=Lies w h 168 #[.pointer (some ⟨g,0,none⟩), .pointer (some ⟨g,1,none⟩), .pointer (some ⟨g,2,none⟩), .pointer (some ⟨g,3,none⟩), .pointer (some ⟨g,4,none⟩), .pointer (some ⟨g,5,none⟩), .pointer (some ⟨g,6,none⟩)]
theorem Ptrs.at{w:World}{h g:Nat}(hp:Ptrs w h g)(k:Nat)(hk:k<7):w.cell? ⟨h,k,none⟩=some (.pointer (some ⟨g,k,none⟩)):=by
 have:k=0∨k=1∨k=2∨k=3∨k=4∨k=5∨k=6:=by omega
 rcases this with rfl | rfl | rfl | rfl | rfl | rfl | rfl<;>exact hp.cell _ _ rfl
theorem Ms.nums_at(m:Ms.Msg)(k:Nat)(hk:k<7):Ms.nbytes ((Ms.nums m).take (k+1))=Ms.nbytes ((Ms.nums m).take k)++enc (Ms.nth (Ms.nums m) k).toNat:=by
 have h:(Ms.nums m)[k]? = some (Ms.nth (Ms.nums m) k):=by
  unfold Ms.nth
  rw[List.getD_eq_getElem?_getD,List.getElem?_eq_getElem (show k<(Ms.nums m).length from hk)]
  rfl
 rw[List.take_add_one,h,Ms.nbytes_app]
 show _++Ms.nbytes [_]=_
 rw[Ms.nbytes_one]
end Go.Proofs.YtdkdjofnnnljjaaGreatDoor
