/- Several texts of mine in one: ReChk ReOwn ReOld. -/
import Derived.Test.YtdkdjofnnnljjaaGreatDoorGRe
import Derived.Test.YtdkdjofnnnljjaaGreatDoorPCmdChk
import Derived.Test.YtdkdjofnnnljjaaGreatDoorPVers
namespace Go.Proofs.YtdkdjofnnnljjaaGreatDoor
open Go.RowKit
set_option maxHeartbeats 3200000
set_option maxRecDepth 4000
def Re.limits(x:Re.Rec):Int:=if Re.known x.kind=false then 5 else if Re.ranged x=false then 6 else if(Re.hm x.kind && decide (32768<x.img.length))=true then 2 else if Re.hc x.kind=true then Cm.check x.cmd else 0
theorem Re.check_limits(x:Re.Rec):Re.check x=if Re.limits x≠0 then Re.limits x else if(decide (Re.own x=x) && Re.whole x)=false then 3 else 0:=by
 unfold Re.check Re.limits
 by_cases h1:Re.known x.kind=false
 ·simp only[if_pos h1];rfl
 simp only[if_neg h1]
 by_cases h2:Re.ranged x=false
 ·simp only[if_pos h2];rfl
 simp only[if_neg h2]
 by_cases h3:(Re.hm x.kind && decide (32768<x.img.length))=true
 ·simp only[if_pos h3];rfl
 simp only[if_neg h3]
 by_cases h4:Re.hc x.kind=true
 ·simp only[if_pos h4]
  by_cases h5:Cm.check x.cmd≠0
  ·rw[if_pos ⟨h4,h5⟩,if_pos h5]
  ·rw[if_neg fun h=>h5 h.2,if_neg h5]
 ·simp only[if_neg h4]
  rw[if_neg fun h=>h4 h.1]
  rfl
theorem Re.limits_1{x:Re.Rec}(h:x.kind=1):Re.limits x=if Ms.owned x.bal=true then 0 else 6:=by
 unfold Re.limits Re.ranged
 rw[h]
 show(if(!(true && !Ms.owned x.bal) && true)=false then (6:Int)else 0)=_
 cases Ms.owned x.bal<;>rfl
theorem Re.limits_2{x:Re.Rec}(h:x.kind=2):Re.limits x=if Ms.owned x.bal=true then (if Ms.within x.index 1 4294967296=true then Cm.check x.cmd else 6)else 6:=by
 unfold Re.limits Re.ranged
 rw[h]
 show(if(!(true && !Ms.owned x.bal) && !(true && !Ms.within x.index 1 4294967296))=false then (6:Int)else Cm.check x.cmd)=_
 cases Ms.owned x.bal<;>cases Ms.within x.index 1 4294967296<;>rfl
theorem Re.limits_3{x:Re.Rec}(h:x.kind=3):Re.limits x=if Ms.within x.index 1 4294967296=true then Cm.check x.cmd else 6:=by
 unfold Re.limits Re.ranged
 rw[h]
 show(if(!(false && !Ms.owned x.bal) && !(true && !Ms.within x.index 1 4294967296))=false then (6:Int)else Cm.check x.cmd)=_
 cases Ms.owned x.bal<;>cases Ms.within x.index 1 4294967296<;>rfl
theorem Re.limits_4{x:Re.Rec}(h:x.kind=4):Re.limits x=if Ms.within x.index 1 4294967296=true then (if decide (32768<x.img.length)=true then 2 else 0)else 6:=by
 unfold Re.limits Re.ranged
 rw[h]
 show(if(!(false && !Ms.owned x.bal) && !(true && !Ms.within x.index 1 4294967296))=false then (6:Int)else if decide (32768<x.img.length)=true then 2 else 0)=_
 cases Ms.owned x.bal<;>cases Ms.within x.index 1 4294967296<;>rfl
theorem Re.limits_no{x:Re.Rec}(h:x.kind<1∨4<x.kind):Re.limits x=5:=by
 unfold Re.limits
 rw[if_pos (Re.has_no h).2.2.2.2]
theorem reBal_is{b:Bl.Bal}(w:World)(t:Bool)(h:Ms.owned b=t):Calls Tryz.prog 165 #[.agg (Bl.cells b)] w (Looks w (.int .i64 (if t=true then 0 else 6))):=by
 have:=reBal_any b w
 rw[h]at this
 exact this
theorem reIndex_is{n:Int}(w:World)(t:Bool)(h:Ms.within n 1 4294967296=t):Calls Tryz.prog 166 #[.int .i64 n] w (Says w (.int .i64 (if t=true then 0 else 6))):=by
 have:=reIndex_any n w
 rw[h]at this
 exact this
theorem reLimits_1(x:Re.Rec)(vi:Value)(w:World)(hk:x.kind=1) :
 Calls Tryz.prog 140 #[.agg (Re.cells x vi)] w (Looks w (.int .i64 (Re.limits x))):=by
 rw[Re.limits_1 hk]
 obtain⟨w1,e1,hl1,hB1,hz1⟩:=box_rec w x vi
 obtain⟨p0,p1,p2,p3,p4,p5,p6,p7,p8,p9,p10,p11⟩:=Recs.all hl1
 rw[hk]at p0
 have HM1:=Lib.hid hl1;have HB1:=Lib.hid hB1
 obtain⟨r,hr⟩ : ∃r:Int,r=if Ms.owned x.bal=true then 0 else 6:=⟨_,rfl⟩
 have HC:=Lib.hid (reBal_any x.bal w1)
 rw[← hr]at HC ⊢
 clear hl1 hB1 hz1 hk hr
 go_enter Tryz.func140,Tryz.ntmps140
 go_wp2_with fail
 refine HC.out.mono ?_
 rintro e2 w2 ⟨rfl,hb⟩
 go_wp2
 go_ret
 exact⟨rfl,HB1.out.trans (hb.mono HB1.out.size)⟩
theorem reLimits_2(x:Re.Rec)(vi:Value)(w:World)(hk:x.kind=2)(hW:WordsIn w)(hs:x.cmd.Short 140737488355328) :
 Calls Tryz.prog 140 #[.agg (Re.cells x vi)] w (Looks w (.int .i64 (Re.limits x))):=by
 rw[Re.limits_2 hk]
 obtain⟨w1,e1,hl1,hB1,hz1⟩:=box_rec w x vi
 obtain⟨p0,p1,p2,p3,p4,p5,p6,p7,p8,p9,p10,p11⟩:=Recs.all hl1
 rw[hk]at p0
 have HM1:=Lib.hid hl1;have HB1:=Lib.hid hB1
 have HW:=Lib.hid (fun W (h:Below w.heap.size w W)=>check_any x.cmd W (hW.below h) hs)
 obtain⟨c,hc⟩ : ∃c,c=Cm.check x.cmd:=⟨_,rfl⟩
 rw[← hc]at HW ⊢
 obtain⟨r,hr⟩ : ∃r:Int,r=if Ms.owned x.bal=true then (if Ms.within x.index 1 4294967296=true then c else 6)else 6:=⟨_,rfl⟩
 rw[← hr]
 clear hl1 hB1 hz1 hk hW hs hc
 cases t:Ms.owned x.bal with
 | false =>
  have HC:Hid (Calls Tryz.prog 165 #[.agg (Bl.cells x.bal)] w1 (Looks w1 (.int .i64 6))):=reBal_is w1 _ t
  have HZ:Hid (r=6):=by show _=_;rw[hr,t];rfl
  clear t hr
  go_enter Tryz.func140,Tryz.ntmps140
  go_wp2_with fail
  refine HC.out.mono ?_
  rintro e2 w2 ⟨rfl,hb⟩
  go_wp2
  go_ret
  exact⟨by rw[HZ.out];rfl,HB1.out.trans (hb.mono HB1.out.size)⟩
 | true =>
  have HC:Hid (Calls Tryz.prog 165 #[.agg (Bl.cells x.bal)] w1 (Looks w1 (.int .i64 0))):=reBal_is w1 _ t
  rw[t,if_pos rfl]at hr
  clear t
  cases y:Ms.within x.index 1 4294967296 with
  | false =>
   have HI:Hid (∀W,Calls Tryz.prog 166 #[.int .i64 x.index] W (Says W (.int .i64 6))):=fun W=>reIndex_is W _ y
   have HZ:Hid (r=6):=by show _=_;rw[hr,y];rfl
   clear y hr
   go_enter Tryz.func140,Tryz.ntmps140
   go_wp2_with fail
   refine HC.out.mono ?_
   rintro e2 w2 ⟨rfl,hb⟩
   have HM2:=Lib.hid (HM1.out.below hb HM1.out.lt);have HB2:=Lib.hid (HB1.out.trans (hb.mono HB1.out.size))
   clear hb p0 p1 p2 p3 p4 p5 p6 p7 p8 p9 p10 p11
   obtain⟨p0,p1,p2,p3,p4,p5,p6,p7,p8,p9,p10,p11⟩:=Recs.all HM2.out
   go_wp2_with fail
   refine(HI.out _).mono ?_
   rintro e3 w3 ⟨rfl,rfl⟩
   go_wp2
   go_ret
   exact⟨by rw[HZ.out];rfl,HB2.out⟩
  | true =>
   have HI:Hid (∀W,Calls Tryz.prog 166 #[.int .i64 x.index] W (Says W (.int .i64 0))):=fun W=>reIndex_is W _ y
   have HZ:Hid (r=c):=by show _=_;rw[hr,y];rfl
   clear y hr
   go_enter Tryz.func140,Tryz.ntmps140
   go_wp2_with fail
   refine HC.out.mono ?_
   rintro e2 w2 ⟨rfl,hb⟩
   have HM2:=Lib.hid (HM1.out.below hb HM1.out.lt);have HB2:=Lib.hid (HB1.out.trans (hb.mono HB1.out.size))
   clear hb p0 p1 p2 p3 p4 p5 p6 p7 p8 p9 p10 p11
   obtain⟨p0,p1,p2,p3,p4,p5,p6,p7,p8,p9,p10,p11⟩:=Recs.all HM2.out
   go_wp2_with fail
   refine(HI.out _).mono ?_
   rintro e3 w3 ⟨rfl,rfl⟩
   go_wp2_with fail
   refine(HW.out _ HB2.out).mono ?_
   rintro e4 w4 ⟨rfl,hb⟩
   go_wp2
   go_ret
   exact⟨by rw[HZ.out];rfl,HB2.out.trans (hb.mono HB2.out.size)⟩
theorem reLimits_3(x:Re.Rec)(vi:Value)(w:World)(hk:x.kind=3)(hW:WordsIn w)(hs:x.cmd.Short 140737488355328) :
 Calls Tryz.prog 140 #[.agg (Re.cells x vi)] w (Looks w (.int .i64 (Re.limits x))):=by
 rw[Re.limits_3 hk]
 obtain⟨w1,e1,hl1,hB1,hz1⟩:=box_rec w x vi
 obtain⟨p0,p1,p2,p3,p4,p5,p6,p7,p8,p9,p10,p11⟩:=Recs.all hl1
 rw[hk]at p0
 have HM1:=Lib.hid hl1;have HB1:=Lib.hid hB1
 have HW:=Lib.hid (fun W (h:Below w.heap.size w W)=>check_any x.cmd W (hW.below h) hs)
 obtain⟨c,hc⟩ : ∃c,c=Cm.check x.cmd:=⟨_,rfl⟩
 rw[← hc]at HW ⊢
 obtain⟨r,hr⟩ : ∃r:Int,r=if Ms.within x.index 1 4294967296=true then c else 6:=⟨_,rfl⟩
 rw[← hr]
 clear hl1 hB1 hz1 hk hW hs hc
 cases y:Ms.within x.index 1 4294967296 with
 | false =>
  have HI:Hid (∀W,Calls Tryz.prog 166 #[.int .i64 x.index] W (Says W (.int .i64 6))):=fun W=>reIndex_is W _ y
  have HZ:Hid (r=6):=by show _=_;rw[hr,y];rfl
  clear y hr
  go_enter Tryz.func140,Tryz.ntmps140
  go_wp2_with fail
  refine(HI.out _).mono ?_
  rintro e3 w3 ⟨rfl,rfl⟩
  go_wp2
  go_ret
  exact⟨by rw[HZ.out];rfl,HB1.out⟩
 | true =>
  have HI:Hid (∀W,Calls Tryz.prog 166 #[.int .i64 x.index] W (Says W (.int .i64 0))):=fun W=>reIndex_is W _ y
  have HZ:Hid (r=c):=by show _=_;rw[hr,y];rfl
  clear y hr
  go_enter Tryz.func140,Tryz.ntmps140
  go_wp2_with fail
  refine(HI.out _).mono ?_
  rintro e3 w3 ⟨rfl,rfl⟩
  go_wp2_with fail
  refine(HW.out _ HB1.out).mono ?_
  rintro e4 w4 ⟨rfl,hb⟩
  go_wp2
  go_ret
  exact⟨by rw[HZ.out];rfl,HB1.out.trans (hb.mono HB1.out.size)⟩
theorem reLimits_4(x:Re.Rec)(vi:Value)(w:World)(hk:x.kind=4)(hi:Reads w vi x.img) :
 Calls Tryz.prog 140 #[.agg (Re.cells x vi)] w (Looks w (.int .i64 (Re.limits x))):=by
 rw[Re.limits_4 hk]
 obtain⟨w1,e1,hl1,hB1,hz1⟩:=box_rec w x vi
 obtain⟨p0,p1,p2,p3,p4,p5,p6,p7,p8,p9,p10,p11⟩:=Recs.all hl1
 rw[hk]at p0
 have HM1:=Lib.hid hl1;have HB1:=Lib.hid hB1
 have HU:=Lib.hid (hi.below hB1)
 have HC:=Lib.hid (reImage_any vi x.img w1 HU.out)
 obtain⟨io,ic,rfl⟩:=hi.shape
 obtain⟨c,hc⟩ : ∃c:Int,c=if decide (32768<x.img.length)=true then 2 else 0:=⟨_,rfl⟩
 rw[← hc]at HC ⊢
 obtain⟨r,hr⟩ : ∃r:Int,r=if Ms.within x.index 1 4294967296=true then c else 6:=⟨_,rfl⟩
 rw[← hr]
 clear hl1 hB1 hz1 hk hi hc
 cases y:Ms.within x.index 1 4294967296 with
 | false =>
  have HI:Hid (∀W,Calls Tryz.prog 166 #[.int .i64 x.index] W (Says W (.int .i64 6))):=fun W=>reIndex_is W _ y
  have HZ:Hid (r=6):=by show _=_;rw[hr,y];rfl
  clear y hr
  go_enter Tryz.func140,Tryz.ntmps140
  go_wp2_with fail
  refine(HI.out _).mono ?_
  rintro e3 w3 ⟨rfl,rfl⟩
  go_wp2
  go_ret
  exact⟨by rw[HZ.out];rfl,HB1.out⟩
 | true =>
  have HI:Hid (∀W,Calls Tryz.prog 166 #[.int .i64 x.index] W (Says W (.int .i64 0))):=fun W=>reIndex_is W _ y
  have HZ:Hid (r=c):=by show _=_;rw[hr,y];rfl
  clear y hr
  go_enter Tryz.func140,Tryz.ntmps140
  go_wp2_with fail
  refine(HI.out _).mono ?_
  rintro e3 w3 ⟨rfl,rfl⟩
  go_wp2_with fail
  refine HC.out.mono ?_
  rintro e4 w4 ⟨rfl,rfl⟩
  go_wp2
  go_ret
  exact⟨by rw[HZ.out];rfl,HB1.out⟩
theorem reLimits_no(x:Re.Rec)(vi:Value)(w:World)(hk:x.kind<1∨4<x.kind) :
 Calls Tryz.prog 140 #[.agg (Re.cells x vi)] w (Looks w (.int .i64 (Re.limits x))):=by
 rw[Re.limits_no hk]
 obtain⟨w1,e1,hl1,hB1,hz1⟩:=box_rec w x vi
 have p0:=hl1.c0
 have d1:(x.kind == 1)=false:=by simp;omega
 have d2:(x.kind == 2)=false:=by simp;omega
 have d3:(x.kind == 3)=false:=by simp;omega
 have d4:(x.kind == 4)=false:=by simp;omega
 have HB1:=Lib.hid hB1
 clear hl1 hB1 hz1 hk
 go_enter Tryz.func140,Tryz.ntmps140
 go_wp2
 go_ret
 exact⟨rfl,HB1.out⟩
theorem reLimits_any(x:Re.Rec)(vi:Value)(w:World)(hW:WordsIn w)(hi:Reads w vi x.img)(hs:x.cmd.Short 140737488355328) :
 Calls Tryz.prog 140 #[.agg (Re.cells x vi)] w (Looks w (.int .i64 (Re.limits x))):=by
 rcases Re.kinds x.kind with h | h | h | h | h
 ·exact reLimits_1 x vi w h
 ·exact reLimits_2 x vi w h hW hs
 ·exact reLimits_3 x vi w h hW hs
 ·exact reLimits_4 x vi w h hi
 ·exact reLimits_no x vi w h
theorem set_eight{V:World}{h:Nat}{T:TypeId}{y0 y1 y2 y3 y4 y5 y6 y7 y8 y9 y10 y11:Value}{P:World→Prop}(hz:Lies V h T #[y0,y1,y2,y3,y4,y5,y6,y7,y8,y9,y10,y11])(a3 a4 a5 a6 a7 a8 a9 a10:Value)
 (hP : ∀w3,Lies w3 h T #[y0,y1,y2,a3,a4,a5,a6,a7,a8,a9,a10,y11]→V.grownBy w3 (some h)→P w3) :
 P ((((((((V.setCell ⟨h,3,none⟩ a3).setCell ⟨h,4,none⟩ a4).setCell ⟨h,5,none⟩ a5).setCell ⟨h,6,none⟩ a6).setCell ⟨h,7,none⟩ a7).setCell ⟨h,8,none⟩ a8).setCell ⟨h,9,none⟩ a9).setCell ⟨h,10,none⟩ a10):=by
 refine hP _ ?_ ?_
 ·have:=(((((((hz.set 3 a3).set 4 a4).set 5 a5).set 6 a6).set 7 a7).set 8 a8).set 9 a9).set 10 a10
  simpa using this
 ·exact grown_on (grown_on (grown_on (grown_on (grown_on (grown_on (grown_on (grown_set _ _ _ _) (grown_set _ _ _ _)) (grown_set _ _ _ _)) (grown_set _ _ _ _)) (grown_set _ _ _ _)) (grown_set _ _ _ _)) (grown_set _ _ _ _)) (grown_set _ _ _ _)
theorem set_pair{V:World}{h:Nat}{T:TypeId}{y0 y1 y2 y3 y4 y5 y6 y7 y8 y9 y10 y11:Value}{P:World→Prop}(hz:Lies V h T #[y0,y1,y2,y3,y4,y5,y6,y7,y8,y9,y10,y11])(a3 a11:Value)
 (hP : ∀w3,Lies w3 h T #[y0,y1,y2,a3,y4,y5,y6,y7,y8,y9,y10,a11]→V.grownBy w3 (some h)→P w3) :
 P ((V.setCell ⟨h,3,none⟩ a3).setCell ⟨h,11,none⟩ a11):=by
 refine hP _ ?_ ?_
 ·have:=(hz.set 3 a3).set 11 a11
  simpa using this
 ·exact grown_on (grown_set _ _ _ _) (grown_set _ _ _ _)
theorem box_rec0(w:World)(x:Re.Rec)(vi:Value) : ∃w1,(w.alloc (.cells (Re.cells x vi) 42)).alloc (.cells #[.int .i64 0, .int .i64 0, .int .i64 0, .int .i64 0, .int .i64 0, .int .i64 0, .int .i64 0, .string ⟨#[]⟩, .string ⟨#[]⟩, .string ⟨#[]⟩, .int .i64 0, .slice none 0 0] 42)=w1∧Recs w1 w.heap.size x vi∧Recs w1 (w.heap.size+1) Re.zero (.slice none 0 0)∧Below w.heap.size w w1∧w1.heap.size=w.heap.size+2 :=
 box_recs w x vi Re.zero (.slice none 0 0)
theorem reOwn_1(x:Re.Rec)(io:Option Addr)(ik ic:Nat)(w:World)(hk:x.kind=1) :
 Calls Tryz.prog 142 #[.agg (Re.cells x (.slice io ik ic))] w (Looks w (.agg (Re.cells (⟨1,x.bal,0,Cm.zero, []⟩:Re.Rec) (.slice none 0 0)))):=by
 obtain⟨w1,e1,hl1,hl0,hB1,hz1⟩:=box_rec0 w x (.slice io ik ic)
 obtain⟨p0,p1,p2,p3,p4,p5,p6,p7,p8,p9,p10,p11⟩:=Recs.all hl1
 have HK:=Lib.hid hk
 rw[hk]at p0
 have HM1:=Lib.hid hl1;have HZ1:=Lib.hid hl0;have HB1:=Lib.hid hB1;have HS:=Lib.hid hz1
 clear hl1 hl0 hB1 hz1 hk
 go_enter Tryz.func142,Tryz.ntmps142
 go_wp2_with (first
  | (refine store_rec (by rfl) _ _ (by rfl) w1.heap.size Re.zero _ (⟨1,Bl.zero,0,Cm.zero, []⟩:Re.Rec) (.slice none 0 0) (by rfl) (by rfl) rfl (Lies.new _ _ _) ?_
     intro w2 hl2 hg2
     have hb2:=fresh_below hg2
     have HM2:=Lib.hid (HM1.out.below hb2 HM1.out.lt);have HZ2:=Lib.hid (HZ1.out.below hb2 HZ1.out.lt);have HO2:=Lib.hid hl2
     have HB2:=Lib.hid (HB1.out.trans (hb2.mono HB1.out.size))
     clear hl2 hg2 hb2 p0 p1 p2 p3 p4 p5 p6 p7 p8 p9 p10 p11
     obtain⟨p0,p1,p2,p3,p4,p5,p6,p7,p8,p9,p10,p11⟩:=Recs.all HM2.out
     rw[HK.out]at p0)
  | (refine store_part (by rfl) _ _ _ (by rfl) w1.heap.size 1 _ _ (Re.cells (⟨1,x.bal,0,Cm.zero, []⟩:Re.Rec) (.slice none 0 0)) (.agg (Bl.cells x.bal)) (Bl.cells x.bal).toList (by rfl) (by rfl) (by rfl) (by kernel_rfl) (by rw[Array.all_toList];exact Bl.cells_one _) HO2.out (Nat.le_of_ble_eq_true rfl) (by rfl) ?_
     intro w3 hl3 hg3
     have hs:=HS.out
     have HM3:=Lib.hid (HM2.out.kept hg3 (by simp;omega));have HZ3:=Lib.hid (HZ2.out.kept hg3 (by simp;omega));have HO3:=Lib.hid hl3
     have HB3:=Lib.hid (HB2.out.grown hg3 HB2.out.size (by rintro j hj;cases hj;omega))
     clear hl3 hg3 hs p0 p1 p2 p3 p4 p5 p6 p7 p8 p9 p10 p11
     obtain⟨p0,p1,p2,p3,p4,p5,p6,p7,p8,p9,p10,p11⟩:=Recs.all HM3.out
     rw[HK.out]at p0)
  | (refine load_rec (by rfl) _ (by rfl) w1.heap.size (⟨1,x.bal,0,Cm.zero, []⟩:Re.Rec) (.slice none 0 0) (by rfl) HO3.out ?_)
  | (refine store_rec (by rfl) _ _ (by rfl) (w.heap.size+1) Re.zero _ (⟨1,x.bal,0,Cm.zero, []⟩:Re.Rec) (.slice none 0 0) (by rfl) (by rfl) rfl HZ3.out ?_
     intro w9 hl9 hg9
     have HB9:=Lib.hid (HB3.out.grown hg9 HB3.out.size (by rintro j hj;cases hj;exact Nat.le_succ _)))
  | fail)
 refine ret_rec1 rfl rfl hl9 rfl ?_
 exact⟨rfl,HB9.out⟩
theorem reOwn_2(x:Re.Rec)(io:Option Addr)(ik ic:Nat)(w:World)(hk:x.kind=2) :
 Calls Tryz.prog 142 #[.agg (Re.cells x (.slice io ik ic))] w (Looks w (.agg (Re.cells (⟨2,x.bal,x.index,x.cmd, []⟩:Re.Rec) (.slice none 0 0)))):=by
 obtain⟨w1,e1,hl1,hl0,hB1,hz1⟩:=box_rec0 w x (.slice io ik ic)
 obtain⟨p0,p1,p2,p3,p4,p5,p6,p7,p8,p9,p10,p11⟩:=Recs.all hl1
 have HK:=Lib.hid hk
 rw[hk]at p0
 have HM1:=Lib.hid hl1;have HZ1:=Lib.hid hl0;have HB1:=Lib.hid hB1;have HS:=Lib.hid hz1
 clear hl1 hl0 hB1 hz1 hk
 go_enter Tryz.func142,Tryz.ntmps142
 go_wp2_with (first
  | (refine store_rec (by rfl) _ _ (by rfl) w1.heap.size Re.zero _ (⟨2,Bl.zero,0,Cm.zero, []⟩:Re.Rec) (.slice none 0 0) (by rfl) (by rfl) rfl (Lies.new _ _ _) ?_
     intro w2 hl2 hg2
     have hb2:=fresh_below hg2
     have HM2:=Lib.hid (HM1.out.below hb2 HM1.out.lt);have HZ2:=Lib.hid (HZ1.out.below hb2 HZ1.out.lt);have HO2:=Lib.hid hl2
     have HB2:=Lib.hid (HB1.out.trans (hb2.mono HB1.out.size))
     clear hl2 hg2 hb2 p0 p1 p2 p3 p4 p5 p6 p7 p8 p9 p10 p11
     obtain⟨p0,p1,p2,p3,p4,p5,p6,p7,p8,p9,p10,p11⟩:=Recs.all HM2.out
     rw[HK.out]at p0)
  | (refine store_part (by rfl) _ _ _ (by rfl) w1.heap.size 1 _ _ (Re.cells (⟨2,x.bal,0,Cm.zero, []⟩:Re.Rec) (.slice none 0 0)) (.agg (Bl.cells x.bal)) (Bl.cells x.bal).toList (by rfl) (by rfl) (by rfl) (by kernel_rfl) (by rw[Array.all_toList];exact Bl.cells_one _) HO2.out (Nat.le_of_ble_eq_true rfl) (by rfl) ?_
     intro w3 hl3 hg3
     have hs:=HS.out
     have HM3:=Lib.hid (HM2.out.kept hg3 (by simp;omega));have HZ3:=Lib.hid (HZ2.out.kept hg3 (by simp;omega));have HO3:=Lib.hid hl3
     have HB3:=Lib.hid (HB2.out.grown hg3 HB2.out.size (by rintro j hj;cases hj;omega))
     clear hl3 hg3 hs p0 p1 p2 p3 p4 p5 p6 p7 p8 p9 p10 p11
     obtain⟨p0,p1,p2,p3,p4,p5,p6,p7,p8,p9,p10,p11⟩:=Recs.all HM3.out
     rw[HK.out]at p0)
  | fail)
 have HO:=HO3
 have c0:=Recs.c0 HO.out;have c1:=Recs.c1 HO.out;have c2:=Recs.c2 HO.out;have c3:=Recs.c3 HO.out;have c4:=Recs.c4 HO.out;have c5:=Recs.c5 HO.out;have c6:=Recs.c6 HO.out;have c7:=Recs.c7 HO.out;have c8:=Recs.c8 HO.out;have c9:=Recs.c9 HO.out;have c10:=Recs.c10 HO.out;have c11:=Recs.c11 HO.out
 have f3:=HO.out.free 3;have f4:=HO.out.free 4;have f5:=HO.out.free 5;have f6:=HO.out.free 6;have f7:=HO.out.free 7;have f8:=HO.out.free 8;have f9:=HO.out.free 9;have f10:=HO.out.free 10;have f11:=HO.out.free 11
 have hne : ¬w1.heap.size=w.heap.size:=by have:=HS.out;omega
 have hne2 : ¬w.heap.size=w1.heap.size:=by have:=HS.out;omega
 go_wp2
 go_region
 all_goals
  refine set_eight (P:=fun W=>Exit.then _ _ _ _ W.drew) HO.out _ _ _ _ _ _ _ _ ?_
  intro w4 hl4 hg4
  clear p0 p1 p2 p3 p4 p5 p6 p7 p8 p9 p10 p11 c0 c1 c2 c3 c4 c5 c6 c7 c8 c9 c10 c11 f3 f4 f5 f6 f7 f8 f9 f10 f11 hne hne2
  have hs:=HS.out
  have HO4:Hid (Recs w4.drew w1.heap.size (⟨2,x.bal,x.index,x.cmd, []⟩:Re.Rec) (.slice none 0 0)):=Lies.below hl4 (Below.refl _ _).drew (Lies.lt hl4)
  have HZ4:=Lib.hid ((HZ3.out.kept hg4 (by simp;omega)).below (Below.refl _ _).drew (HZ3.out.kept hg4 (by simp;omega)).lt)
  have HB4:=Lib.hid (HB3.out.grown hg4 HB3.out.size (by rintro j hj;cases hj;omega)).drew
  clear hl4 hg4 hs
  go_wp2_with (first
  | (refine load_rec (by rfl) _ (by rfl) w1.heap.size (⟨2,x.bal,x.index,x.cmd, []⟩:Re.Rec) (.slice none 0 0) (by rfl) HO4.out ?_)
  | (refine store_rec (by rfl) _ _ (by rfl) (w.heap.size+1) Re.zero _ (⟨2,x.bal,x.index,x.cmd, []⟩:Re.Rec) (.slice none 0 0) (by rfl) (by rfl) rfl HZ4.out ?_
     intro w9 hl9 hg9
     have HB9:=Lib.hid (HB4.out.grown hg9 HB4.out.size (by rintro j hj;cases hj;exact Nat.le_succ _)))
  | fail)
  refine ret_rec1 rfl rfl hl9 rfl ?_
  exact⟨rfl,HB9.out⟩
theorem reOwn_3(x:Re.Rec)(io:Option Addr)(ik ic:Nat)(w:World)(hk:x.kind=3) :
 Calls Tryz.prog 142 #[.agg (Re.cells x (.slice io ik ic))] w (Looks w (.agg (Re.cells (⟨3,Bl.zero,x.index,x.cmd, []⟩:Re.Rec) (.slice none 0 0)))):=by
 obtain⟨w1,e1,hl1,hl0,hB1,hz1⟩:=box_rec0 w x (.slice io ik ic)
 obtain⟨p0,p1,p2,p3,p4,p5,p6,p7,p8,p9,p10,p11⟩:=Recs.all hl1
 have HK:=Lib.hid hk
 rw[hk]at p0
 have HM1:=Lib.hid hl1;have HZ1:=Lib.hid hl0;have HB1:=Lib.hid hB1;have HS:=Lib.hid hz1
 clear hl1 hl0 hB1 hz1 hk
 go_enter Tryz.func142,Tryz.ntmps142
 go_wp2_with (first
  | (refine store_rec (by rfl) _ _ (by rfl) w1.heap.size Re.zero _ (⟨3,Bl.zero,0,Cm.zero, []⟩:Re.Rec) (.slice none 0 0) (by rfl) (by rfl) rfl (Lies.new _ _ _) ?_
     intro w2 hl2 hg2
     have hb2:=fresh_below hg2
     have HM2:=Lib.hid (HM1.out.below hb2 HM1.out.lt);have HZ2:=Lib.hid (HZ1.out.below hb2 HZ1.out.lt);have HO2:=Lib.hid hl2
     have HB2:=Lib.hid (HB1.out.trans (hb2.mono HB1.out.size))
     clear hl2 hg2 hb2 p0 p1 p2 p3 p4 p5 p6 p7 p8 p9 p10 p11
     obtain⟨p0,p1,p2,p3,p4,p5,p6,p7,p8,p9,p10,p11⟩:=Recs.all HM2.out
     rw[HK.out]at p0)
  | fail)
 have HO:=HO2
 have c0:=Recs.c0 HO.out;have c1:=Recs.c1 HO.out;have c2:=Recs.c2 HO.out;have c3:=Recs.c3 HO.out;have c4:=Recs.c4 HO.out;have c5:=Recs.c5 HO.out;have c6:=Recs.c6 HO.out;have c7:=Recs.c7 HO.out;have c8:=Recs.c8 HO.out;have c9:=Recs.c9 HO.out;have c10:=Recs.c10 HO.out;have c11:=Recs.c11 HO.out
 have f3:=HO.out.free 3;have f4:=HO.out.free 4;have f5:=HO.out.free 5;have f6:=HO.out.free 6;have f7:=HO.out.free 7;have f8:=HO.out.free 8;have f9:=HO.out.free 9;have f10:=HO.out.free 10;have f11:=HO.out.free 11
 have hne : ¬w1.heap.size=w.heap.size:=by have:=HS.out;omega
 have hne2 : ¬w.heap.size=w1.heap.size:=by have:=HS.out;omega
 go_wp2
 go_region
 all_goals
  refine set_eight (P:=fun W=>Exit.then _ _ _ _ W.drew) HO.out _ _ _ _ _ _ _ _ ?_
  intro w4 hl4 hg4
  clear p0 p1 p2 p3 p4 p5 p6 p7 p8 p9 p10 p11 c0 c1 c2 c3 c4 c5 c6 c7 c8 c9 c10 c11 f3 f4 f5 f6 f7 f8 f9 f10 f11 hne hne2
  have hs:=HS.out
  have HO4:Hid (Recs w4.drew w1.heap.size (⟨3,Bl.zero,x.index,x.cmd, []⟩:Re.Rec) (.slice none 0 0)):=Lies.below hl4 (Below.refl _ _).drew (Lies.lt hl4)
  have HZ4:=Lib.hid ((HZ2.out.kept hg4 (by simp;omega)).below (Below.refl _ _).drew (HZ2.out.kept hg4 (by simp;omega)).lt)
  have HB4:=Lib.hid (HB2.out.grown hg4 HB2.out.size (by rintro j hj;cases hj;omega)).drew
  clear hl4 hg4 hs
  go_wp2_with (first
  | (refine load_rec (by rfl) _ (by rfl) w1.heap.size (⟨3,Bl.zero,x.index,x.cmd, []⟩:Re.Rec) (.slice none 0 0) (by rfl) HO4.out ?_)
  | (refine store_rec (by rfl) _ _ (by rfl) (w.heap.size+1) Re.zero _ (⟨3,Bl.zero,x.index,x.cmd, []⟩:Re.Rec) (.slice none 0 0) (by rfl) (by rfl) rfl HZ4.out ?_
     intro w9 hl9 hg9
     have HB9:=Lib.hid (HB4.out.grown hg9 HB4.out.size (by rintro j hj;cases hj;exact Nat.le_succ _)))
  | fail)
  refine ret_rec1 rfl rfl hl9 rfl ?_
  exact⟨rfl,HB9.out⟩
theorem reOwn_4(x:Re.Rec)(io:Option Addr)(ik ic:Nat)(w:World)(hk:x.kind=4) :
 Calls Tryz.prog 142 #[.agg (Re.cells x (.slice io ik ic))] w (Looks w (.agg (Re.cells (⟨4,Bl.zero,x.index,Cm.zero,x.img⟩:Re.Rec) (.slice io ik ic)))):=by
 obtain⟨w1,e1,hl1,hl0,hB1,hz1⟩:=box_rec0 w x (.slice io ik ic)
 obtain⟨p0,p1,p2,p3,p4,p5,p6,p7,p8,p9,p10,p11⟩:=Recs.all hl1
 have HK:=Lib.hid hk
 rw[hk]at p0
 have HM1:=Lib.hid hl1;have HZ1:=Lib.hid hl0;have HB1:=Lib.hid hB1;have HS:=Lib.hid hz1
 clear hl1 hl0 hB1 hz1 hk
 go_enter Tryz.func142,Tryz.ntmps142
 go_wp2_with (first
  | (refine store_rec (by rfl) _ _ (by rfl) w1.heap.size Re.zero _ (⟨4,Bl.zero,0,Cm.zero, []⟩:Re.Rec) (.slice none 0 0) (by rfl) (by rfl) rfl (Lies.new _ _ _) ?_
     intro w2 hl2 hg2
     have hb2:=fresh_below hg2
     have HM2:=Lib.hid (HM1.out.below hb2 HM1.out.lt);have HZ2:=Lib.hid (HZ1.out.below hb2 HZ1.out.lt);have HO2:=Lib.hid hl2
     have HB2:=Lib.hid (HB1.out.trans (hb2.mono HB1.out.size))
     clear hl2 hg2 hb2 p0 p1 p2 p3 p4 p5 p6 p7 p8 p9 p10 p11
     obtain⟨p0,p1,p2,p3,p4,p5,p6,p7,p8,p9,p10,p11⟩:=Recs.all HM2.out
     rw[HK.out]at p0)
  | fail)
 have HO:=HO2
 have c0:=Recs.c0 HO.out;have c1:=Recs.c1 HO.out;have c2:=Recs.c2 HO.out;have c3:=Recs.c3 HO.out;have c4:=Recs.c4 HO.out;have c5:=Recs.c5 HO.out;have c6:=Recs.c6 HO.out;have c7:=Recs.c7 HO.out;have c8:=Recs.c8 HO.out;have c9:=Recs.c9 HO.out;have c10:=Recs.c10 HO.out;have c11:=Recs.c11 HO.out
 have f3:=HO.out.free 3;have f4:=HO.out.free 4;have f5:=HO.out.free 5;have f6:=HO.out.free 6;have f7:=HO.out.free 7;have f8:=HO.out.free 8;have f9:=HO.out.free 9;have f10:=HO.out.free 10;have f11:=HO.out.free 11
 have hne : ¬w1.heap.size=w.heap.size:=by have:=HS.out;omega
 have hne2 : ¬w.heap.size=w1.heap.size:=by have:=HS.out;omega
 go_wp2
 go_region
 all_goals
  refine set_pair (P:=fun W=>Exit.then _ _ _ _ W.drew) HO.out _ _ ?_
  intro w4 hl4 hg4
  clear p0 p1 p2 p3 p4 p5 p6 p7 p8 p9 p10 p11 c0 c1 c2 c3 c4 c5 c6 c7 c8 c9 c10 c11 f3 f4 f5 f6 f7 f8 f9 f10 f11 hne hne2
  have hs:=HS.out
  have HO4:Hid (Recs w4.drew w1.heap.size (⟨4,Bl.zero,x.index,Cm.zero,x.img⟩:Re.Rec) (.slice io ik ic)):=Lies.below hl4 (Below.refl _ _).drew (Lies.lt hl4)
  have HZ4:=Lib.hid ((HZ2.out.kept hg4 (by simp;omega)).below (Below.refl _ _).drew (HZ2.out.kept hg4 (by simp;omega)).lt)
  have HB4:=Lib.hid (HB2.out.grown hg4 HB2.out.size (by rintro j hj;cases hj;omega)).drew
  clear hl4 hg4 hs
  go_wp2_with (first
  | (refine load_rec (by rfl) _ (by rfl) w1.heap.size (⟨4,Bl.zero,x.index,Cm.zero,x.img⟩:Re.Rec) (.slice io ik ic) (by rfl) HO4.out ?_)
  | (refine store_rec (by rfl) _ _ (by rfl) (w.heap.size+1) Re.zero _ (⟨4,Bl.zero,x.index,Cm.zero,x.img⟩:Re.Rec) (.slice io ik ic) (by rfl) (by rfl) rfl HZ4.out ?_
     intro w9 hl9 hg9
     have HB9:=Lib.hid (HB4.out.grown hg9 HB4.out.size (by rintro j hj;cases hj;exact Nat.le_succ _)))
  | fail)
  refine ret_rec1 rfl rfl hl9 rfl ?_
  exact⟨rfl,HB9.out⟩
theorem reOwn_no(x:Re.Rec)(io:Option Addr)(ik ic:Nat)(w:World)(hk:x.kind<1∨4<x.kind) :
 Calls Tryz.prog 142 #[.agg (Re.cells x (.slice io ik ic))] w (Looks w (.agg (Re.cells (⟨x.kind,Bl.zero,0,Cm.zero, []⟩:Re.Rec) (.slice none 0 0)))):=by
 obtain⟨w1,e1,hl1,hl0,hB1,hz1⟩:=box_rec0 w x (.slice io ik ic)
 obtain⟨p0,p1,p2,p3,p4,p5,p6,p7,p8,p9,p10,p11⟩:=Recs.all hl1
 have d1:(x.kind == 1)=false:=by simp;omega
 have d2:(x.kind == 2)=false:=by simp;omega
 have d3:(x.kind == 3)=false:=by simp;omega
 have d4:(x.kind == 4)=false:=by simp;omega
 have HM1:=Lib.hid hl1;have HZ1:=Lib.hid hl0;have HB1:=Lib.hid hB1;have HS:=Lib.hid hz1
 clear hl1 hl0 hB1 hz1 hk
 go_enter Tryz.func142,Tryz.ntmps142
 go_wp2_with (first
  | (refine store_rec (by rfl) _ _ (by rfl) w1.heap.size Re.zero _ (⟨x.kind,Bl.zero,0,Cm.zero, []⟩:Re.Rec) (.slice none 0 0) (by rfl) (by rfl) rfl (Lies.new _ _ _) ?_
     intro w2 hl2 hg2
     have hb2:=fresh_below hg2
     have HM2:=Lib.hid (HM1.out.below hb2 HM1.out.lt);have HZ2:=Lib.hid (HZ1.out.below hb2 HZ1.out.lt);have HO2:=Lib.hid hl2
     have HB2:=Lib.hid (HB1.out.trans (hb2.mono HB1.out.size))
     clear hl2 hg2 hb2 p0 p1 p2 p3 p4 p5 p6 p7 p8 p9 p10 p11
     obtain⟨p0,p1,p2,p3,p4,p5,p6,p7,p8,p9,p10,p11⟩:=Recs.all HM2.out)
  | (refine load_rec (by rfl) _ (by rfl) w1.heap.size (⟨x.kind,Bl.zero,0,Cm.zero, []⟩:Re.Rec) (.slice none 0 0) (by rfl) HO2.out ?_)
  | (refine store_rec (by rfl) _ _ (by rfl) (w.heap.size+1) Re.zero _ (⟨x.kind,Bl.zero,0,Cm.zero, []⟩:Re.Rec) (.slice none 0 0) (by rfl) (by rfl) rfl HZ2.out ?_
     intro w9 hl9 hg9
     have HB9:=Lib.hid (HB2.out.grown hg9 HB2.out.size (by rintro j hj;cases hj;exact Nat.le_succ _)))
  | fail)
 refine ret_rec1 rfl rfl hl9 rfl ?_
 exact⟨rfl,HB9.out⟩
theorem ownRe_any(x:Re.Rec)(io:Option Addr)(ik ic:Nat)(w:World) :
 Calls Tryz.prog 142 #[.agg (Re.cells x (.slice io ik ic))] w (Looks w (.agg (Re.cells (Re.own x) (if Re.hm x.kind=true then .slice io ik ic else .slice none 0 0)))):=by
 rcases Re.kinds x.kind with h | h | h | h | h
 ·have:=reOwn_1 x io ik ic w h
  unfold Re.own
  rw[h]
  exact this
 ·have:=reOwn_2 x io ik ic w h
  unfold Re.own
  rw[h]
  exact this
 ·have:=reOwn_3 x io ik ic w h
  unfold Re.own
  rw[h]
  exact this
 ·have:=reOwn_4 x io ik ic w h
  unfold Re.own
  rw[h]
  exact this
 ·have:=reOwn_no x io ik ic w h
  obtain⟨a,b,c,d,_⟩:=Re.has_no h
  unfold Re.own
  rw[a,b,c,d]
  exact this
theorem Re.own_reads{x:Re.Rec}{io:Option Addr}{ik ic:Nat}{w:World}(h:Reads w (.slice io ik ic) x.img):Reads w (if Re.hm x.kind=true then .slice io ik ic else .slice none 0 0) (Re.own x).img:=by
 rw[show(Re.own x).img=if Re.hm x.kind=true then x.img else []from rfl]
 by_cases hk:Re.hm x.kind=true
 ·rw[if_pos hk,if_pos hk];exact h
 ·rw[if_neg hk,if_neg hk];exact Reads.empty w
theorem checkRe_any(x:Re.Rec)(vi:Value)(w:World)(hW:WordsIn w)(hi:Reads w vi x.img)(hs:x.cmd.Short 140737488355328) :
 Calls Tryz.prog 97 #[.agg (Re.cells x vi)] w (Looks w (.int .i64 (Re.check x))):=by
 obtain⟨w1,e1,hl1,hB1,hz1⟩:=box_rec w x vi
 obtain⟨p0,p1,p2,p3,p4,p5,p6,p7,p8,p9,p10,p11⟩:=Recs.all hl1
 have HM1:=Lib.hid hl1;have HB1:=Lib.hid hB1
 have HC1:=Lib.hid (reLimits_any x vi w1 (hW.below hB1) (hi.below hB1) hs)
 have HI:=Lib.hid (fun W (h:Below w.heap.size w W)=>hi.below h)
 obtain⟨io,ic,rfl⟩:=hi.shape
 have hlen:=hi.len
 obtain⟨r,hr⟩ : ∃r,r=Re.check x:=⟨_,rfl⟩
 rw[← hr]
 rw[Re.check_limits]at hr
 obtain⟨c,hc⟩ : ∃c,c=Re.limits x:=⟨_,rfl⟩
 rw[← hc]at hr HC1
 obtain⟨n,hn⟩ : ∃n,n=x.img.length:=⟨_,rfl⟩
 have HWH:Hid (Re.whole x = !(decide (x.kind=4) && decide (n=0))):=by
  show _=_
  unfold Re.whole Re.hm
  rw[hn]
  congr 2
  exact decide_eq_decide.2 (by simp)
 rw[← hn]at HI HC1 HM1 e1 p11 hlen ⊢
 obtain⟨z,hz⟩ : ∃z,z=decide (Re.own x=x):=⟨_,rfl⟩
 have HSAME:=Lib.hid (fun W (h:Below w.heap.size w W)=>sameRe_any (Re.own x) x _ (.slice io n ic) W (Re.own_reads (HI.out W h)) (HI.out W h))
 have HOWN:=Lib.hid (fun W=>ownRe_any x io n ic W)
 obtain⟨vo,hvo⟩ : ∃vo,vo=if Re.hm x.kind=true then Value.slice io n ic else .slice none 0 0:=⟨_,rfl⟩
 rw[← hvo]at HOWN HSAME
 obtain⟨y,hy⟩ : ∃y,y=Re.own x:=⟨_,rfl⟩
 rw[← hz]at hr HSAME
 rw[← hy]at HOWN HSAME
 have HR:=Lib.hid hr
 clear hl1 hB1 hz1 hW hi hs hr hc hz hvo hy hn
 go_enter Tryz.func97,Tryz.ntmps97
 go_wp2_with fail
 refine HC1.out.mono ?_
 rintro e2 w2 ⟨rfl,hb⟩
 have HM2:=Lib.hid (HM1.out.below hb HM1.out.lt);have HB2:=Lib.hid (HB1.out.trans (hb.mono HB1.out.size))
 clear hb p0 p1 p2 p3 p4 p5 p6 p7 p8 p9 p10 p11
 by_cases h0:c=0
 ·subst h0
  have HR2:=Lib.hid (HR.out.trans (if_neg (by simp)))
  have k0:=fun p:Behind w2=>Recs.c0 (HM2.out.below p.below HM2.out.lt)
  have k1:=fun p:Behind w2=>Recs.c1 (HM2.out.below p.below HM2.out.lt)
  have k2:=fun p:Behind w2=>Recs.c2 (HM2.out.below p.below HM2.out.lt)
  have k3:=fun p:Behind w2=>Recs.c3 (HM2.out.below p.below HM2.out.lt)
  have k4:=fun p:Behind w2=>Recs.c4 (HM2.out.below p.below HM2.out.lt)
  have k5:=fun p:Behind w2=>Recs.c5 (HM2.out.below p.below HM2.out.lt)
  have k6:=fun p:Behind w2=>Recs.c6 (HM2.out.below p.below HM2.out.lt)
  have k7:=fun p:Behind w2=>Recs.c7 (HM2.out.below p.below HM2.out.lt)
  have k8:=fun p:Behind w2=>Recs.c8 (HM2.out.below p.below HM2.out.lt)
  have k9:=fun p:Behind w2=>Recs.c9 (HM2.out.below p.below HM2.out.lt)
  have k10:=fun p:Behind w2=>Recs.c10 (HM2.out.below p.below HM2.out.lt)
  have k11:=fun p:Behind w2=>Recs.c11 (HM2.out.below p.below HM2.out.lt)
  have HOW:=Lib.hid (fun p:Behind w2=>HOWN.out p.world)
  have HSA:=Lib.hid (fun p:Behind w2=>HSAME.out p.world (HB2.out.trans (p.below.mono HB2.out.size)))
  have hfin:(∃t,z=false∧t=(3:Int)∧r=t)∨(z=true∧x.kind≠4∧r=0)∨(z=true∧x.kind=4∧n=0∧r=3)∨(z=true∧x.kind=4∧n≠0∧r=0):=by
   have h1:=HR2.out
   rw[HWH.out]at h1
   cases z with
   | false=>exact .inl ⟨3,rfl,rfl,h1.trans (if_pos rfl)⟩
   | true =>
    by_cases h4:x.kind=4
    ·by_cases hn:n=0
     ·exact .inr (.inr (.inl ⟨rfl,h4,hn,h1.trans (if_pos (by rw[decide_eq_true h4,decide_eq_true hn];rfl))⟩))
     ·exact .inr (.inr (.inr ⟨rfl,h4,hn,h1.trans (if_neg (by rw[decide_eq_false hn];simp))⟩))
    ·exact .inr (.inl ⟨rfl,h4,h1.trans (if_neg (by rw[decide_eq_false h4];simp))⟩)
  rcases hfin with ⟨t,hz,ht,hr⟩ | ⟨hz,h4,hr⟩ | ⟨hz,h4,hn,hr⟩ | ⟨hz,h4,hn,hr⟩
  ·subst hz
   subst ht
   have HZ:=Lib.hid hr
   clear hr
   go_wp2
   refine wp_region_behind (by kernel_rfl) (by kernel_rfl) ?_
   repeat (go_big_quiet_step (first
    | (go_at_call 142;exact Looks.behind (HOW.out _))
    | (go_at_call 141;exact Looks.behind (HSA.out _))))
   refine wpQuiet_nil ?_
   rintro w5 ⟨⟨w5,hB5⟩,rfl⟩
   (try dsimp only)
   clear k0 k1 k2 k3 k4 k5 k6 k7 k8 k9 k10 k11
   go_wp2
   go_ret
   exact⟨by rw[HZ.out];rfl,HB2.out.trans (hB5.mono HB2.out.size)⟩
  ·subst hz
   have d4:(x.kind == 4)=false:=by simpa using h4
   have HZ:=Lib.hid hr
   clear hr h4
   go_wp2
   refine wp_region_behind (by kernel_rfl) (by kernel_rfl) ?_
   repeat (go_big_quiet_step (first
    | (go_at_call 142;exact Looks.behind (HOW.out _))
    | (go_at_call 141;exact Looks.behind (HSA.out _))))
   refine wpQuiet_nil ?_
   rintro w5 ⟨⟨w5,hB5⟩,rfl⟩
   (try dsimp only)
   clear k0 k1 k2 k3 k4 k5 k6 k7 k8 k9 k10 k11
   go_wp2
   go_ret
   exact⟨by rw[HZ.out];rfl,HB2.out.trans (hB5.mono HB2.out.size)⟩
  ·subst hz
   have d4:(x.kind == 4)=true:=by simpa using h4
   have dn:((n:Int) == 0)=true:=by simpa using hn
   have HZ:=Lib.hid hr
   clear hr h4 hn
   go_wp2
   refine wp_region_behind (by kernel_rfl) (by kernel_rfl) ?_
   repeat (go_big_quiet_step (first
    | (go_at_call 142;exact Looks.behind (HOW.out _))
    | (go_at_call 141;exact Looks.behind (HSA.out _))))
   refine wpQuiet_nil ?_
   rintro w5 ⟨⟨w5,hB5⟩,rfl⟩
   (try dsimp only)
   clear k0 k1 k2 k3 k4 k5 k6 k7 k8 k9 k10 k11
   go_wp2
   go_ret
   exact⟨by rw[HZ.out];rfl,HB2.out.trans (hB5.mono HB2.out.size)⟩
  ·subst hz
   have d4:(x.kind == 4)=true:=by simpa using h4
   have dn:((n:Int) == 0)=false:=by simpa using hn
   have HZ:=Lib.hid hr
   clear hr h4 hn
   go_wp2
   refine wp_region_behind (by kernel_rfl) (by kernel_rfl) ?_
   repeat (go_big_quiet_step (first
    | (go_at_call 142;exact Looks.behind (HOW.out _))
    | (go_at_call 141;exact Looks.behind (HSA.out _))))
   refine wpQuiet_nil ?_
   rintro w5 ⟨⟨w5,hB5⟩,rfl⟩
   (try dsimp only)
   clear k0 k1 k2 k3 k4 k5 k6 k7 k8 k9 k10 k11
   go_wp2
   go_ret
   exact⟨by rw[HZ.out];rfl,HB2.out.trans (hB5.mono HB2.out.size)⟩
 ·have hne:(c != 0)=true:=by simpa using h0
  have HZ:Hid (r=c):=HR.out.trans (if_pos h0)
  go_wp2
  go_ret
  exact⟨by rw[HZ.out];rfl,HB2.out⟩
theorem Re.newer_cases(x:Re.Rec):(x.kind=2∧Re.newer x = !Vs.has 1 x.cmd.kind)∨(x.kind=3∧Re.newer x = !Vs.has 1 x.cmd.kind)∨(x.kind≠2∧x.kind≠3∧Re.newer x=false):=by
 unfold Re.newer Re.hc
 by_cases h2:x.kind=2
 ·exact .inl ⟨h2,by rw[decide_eq_true h2];rfl⟩
 ·by_cases h3:x.kind=3
  ·exact .inr (.inl ⟨h3,by rw[decide_eq_true h3];simp⟩)
  ·exact .inr (.inr ⟨h2,h3,by rw[decide_eq_false h2,decide_eq_false h3];rfl⟩)
theorem olderRe_any(x:Re.Rec)(vi:Value)(w:World)(hW:WordsIn w)(hi:Reads w vi x.img)(hs:x.cmd.Short 140737488355328) :
 Calls Tryz.prog 127 #[.agg (Re.cells x vi)] w (Looks w (.int .i64 (Re.older x))):=by
 obtain⟨w1,e1,hl1,hB1,hz1⟩:=box_rec w x vi
 obtain⟨p0,p1,p2,p3,p4,p5,p6,p7,p8,p9,p10,p11⟩:=Recs.all hl1
 have HM1:=Lib.hid hl1;have HB1:=Lib.hid hB1
 have HC1:=Lib.hid (checkRe_any x vi w1 (hW.below hB1) (hi.below hB1) hs)
 obtain⟨r,hr⟩ : ∃r,r=Re.older x:=⟨_,rfl⟩
 rw[← hr]
 unfold Re.older at hr
 obtain⟨c,hc⟩ : ∃c,c=Re.check x:=⟨_,rfl⟩
 rw[← hc]at hr HC1
 have HR:=Lib.hid hr
 have hnew:=Re.newer_cases x
 have HHAS:=Lib.hid (fun W=>has_any 1 x.cmd.kind W)
 obtain⟨y,hy⟩ : ∃y,y=Vs.has 1 x.cmd.kind:=⟨_,rfl⟩
 rw[← hy]at hnew HHAS
 have HNEW:=Lib.hid hnew
 clear hl1 hB1 hz1 hW hi hs hr hc hnew hy
 go_enter Tryz.func127,Tryz.ntmps127
 go_wp2_with fail
 refine HC1.out.mono ?_
 rintro e2 w2 ⟨rfl,hb⟩
 have HM2:=Lib.hid (HM1.out.below hb HM1.out.lt);have HB2:=Lib.hid (HB1.out.trans (hb.mono HB1.out.size))
 clear hb p0 p1 p2 p3 p4 p5 p6 p7 p8 p9 p10 p11
 by_cases h0:c=0
 ·subst h0
  have HR2:=Lib.hid (HR.out.trans (if_neg (by simp)))
  have p0:=Recs.c0 HM2.out
  have p4:=Recs.c4 HM2.out
  rcases HNEW.out with ⟨hk,hn⟩ | ⟨hk,hn⟩ | ⟨h2,h3,hn⟩
  ·rw[hk]at p0
   have HZ:Hid (r=if(!y)=true then 8 else 0):=by show _=_;rw[HR2.out,hn]
   clear hk hn
   cases y <;>
   ·go_wp2_with fail
    refine(HHAS.out _).mono ?_
    rintro e3 w3 ⟨rfl,rfl⟩
    go_wp2
    go_ret
    exact⟨by rw[HZ.out];rfl,HB2.out⟩
  ·rw[hk]at p0
   have HZ:Hid (r=if(!y)=true then 8 else 0):=by show _=_;rw[HR2.out,hn]
   clear hk hn
   cases y <;>
   ·go_wp2_with fail
    refine(HHAS.out _).mono ?_
    rintro e3 w3 ⟨rfl,rfl⟩
    go_wp2
    go_ret
    exact⟨by rw[HZ.out];rfl,HB2.out⟩
  ·have d2:(x.kind == 2)=false:=by simpa using h2
   have d3:(x.kind == 3)=false:=by simpa using h3
   have HZ:Hid (r=0):=by show _=_;rw[HR2.out,hn];rfl
   clear h2 h3 hn
   go_wp2
   go_ret
   exact⟨by rw[HZ.out];rfl,HB2.out⟩
 ·have hne:(c != 0)=true:=by simpa using h0
  have HZ:Hid (r=c):=HR.out.trans (if_pos h0)
  go_wp2
  go_ret
  exact⟨by rw[HZ.out];rfl,HB2.out⟩
end Go.Proofs.YtdkdjofnnnljjaaGreatDoor
