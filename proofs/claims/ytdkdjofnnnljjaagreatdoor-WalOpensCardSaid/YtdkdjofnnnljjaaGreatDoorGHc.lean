/- Several texts of mine in one: HdCopy HdAfter HdOf. -/
import Derived.Test.YtdkdjofnnnljjaaGreatDoorPMsCame
import Derived.Test.YtdkdjofnnnljjaaGreatDoorPDkMap
import Derived.Test.YtdkdjofnnnljjaaGreatDoorGEf
import Derived.Test.YtdkdjofnnnljjaaGreatDoorPGRd
import Derived.Test.YtdkdjofnnnljjaaGreatDoorGRf
import Derived.Test.YtdkdjofnnnljjaaGreatDoorPGBm
namespace Go.Proofs.YtdkdjofnnnljjaaGreatDoor
open Go.RowKit
set_option maxHeartbeats 12800000
set_option maxRecDepth 4000
structure Hd.Hard.Few(h:Hd.Hard):Prop where
 img:h.img.length≤140737488351232
 acc:h.acc.length≤900000
 chs:h.chs.length≤900000
theorem box_six(w:World)(T:TypeId)(h:Hd.Hard)(vi va vc:Value)(r:HardR w h vi va vc) : ∃w1,w.alloc (.cells (Hd.cells h vi va vc) T)=w1∧SixAt w1 w.heap.size T h.prom h.base vi va vc∧Below w.heap.size w w1∧w1.heap.size=w.heap.size+1 :=
 ⟨_,rfl,⟨Lies.new w _ _,r.sl.1,r.sl.2.1,r.sl.2.2⟩,(Below.refl _ w).alloc (Nat.le_refl _) _,by simp⟩
theorem copied_q(h:Hd.Hard)(vi va vc:Value)(w:World)(hr:HardR w h vi va vc)(hf:h.Few) :
 Calls Tryz.prog 73 #[.agg (Hd.cells h vi va vc)] w (MadeQ (fun b=>w.heap.size≤b) w h):=by
 obtain⟨w1,e1,hx1,hB1,hs1⟩:=box_six w 113 h vi va vc hr
 obtain⟨w2,e2,hz2,hB2,hs2⟩:=box_zero w1 33
 have HX2:=Lib.hid (hx1.below hB2 (by omega))
 have HZ2:=Lib.hid hz2
 have HB2:Hid (Below w.heap.size w w2):=hB1.trans (hB2.mono hB1.size)
 have HR2:=Lib.hid (hr.below HB2.out)
 have HF:=Lib.hid hf
 have HNE:Hid (w1.heap.size=w.heap.size+1):=hs1
 obtain⟨_,_,_,c3,_,_⟩:=HX2.out.all
 clear hx1 hz2 hB1 hB2 hs2 hr hf hs1
 go_enter Tryz.func73,Tryz.ntmps73
 go_wp2_with fail
 refine(clone_any vi h.img w2 HR2.out.img HF.out.img).mono ?_
 rintro e w3 ⟨v3,rfl,ho3,hb3⟩
 obtain⟨io,ic,rfl⟩:=(ho3.reads).shape
 have HI3:=Lib.hid ho3.reads
 have HP3:=Lib.hid ((InP.of_row ho3).imp fun b hb=>Nat.le_trans HB2.out.size hb)
 have HR3:=Lib.hid (HR2.out.below hb3)
 have HX3:=Lib.hid (HX2.out.below hb3 HX2.out.lies.lt)
 have HZ3:=Lib.hid (HZ2.out.below hb3 HZ2.out.lies.lt)
 have HB3:Hid (Below w.heap.size w w3):=HB2.out.trans (hb3.mono HB2.out.size)
 clear ho3 hb3 c3
 go_wp2_with (refine store_img rfl _ _ rfl io h.img.length ic rfl rfl HX3.out ?_;intro w4 hx4 hg4;have HX4:=Lib.hid hx4;have HG4:=Lib.hid hg4;have c4:w4.cell? ⟨w.heap.size,4,none⟩=some va:=HX4.out.all.2.2.2.2.1;clear hx4 hg4)
 have HR4:Hid (HardR w4 h (.slice io h.img.length ic) va vc):=(show HardR w3 h (.slice io h.img.length ic) va vc from⟨HI3.out,HR3.out.acc,HR3.out.chs⟩).over HX3.out HG4.out
 have HZ4:=Lib.hid (HZ3.out.kept HG4.out (by rw[HNE.out];omega))
 have HB4:Hid (Below w.heap.size w w4):=HB3.out.grown HG4.out HB3.out.size (by rintro j hj;cases hj;exact Nat.le_refl _)
 refine(clone_ents va h.acc w4 HR4.out.acc (by have:=HF.out.acc;omega)).mono ?_
 rintro e w5 ⟨v5,rfl,ho5,hb5⟩
 obtain⟨ao,ac,hs5⟩:=ho5.shape
 have HA5:=Lib.hid (ho5.reads (En.sized _))
 have HP5:=Lib.hid ((InP.of_row ho5).imp fun b hb=>Nat.le_trans HB4.out.size hb)
 rw[List.length_map]at hs5
 have HR5:=Lib.hid (HR4.out.below hb5)
 have HX5:=Lib.hid (HX4.out.below hb5 HX4.out.lies.lt)
 have HZ5:=Lib.hid (HZ4.out.below hb5 HZ4.out.lies.lt)
 have HB5:Hid (Below w.heap.size w w5):=HB4.out.trans (hb5.mono HB4.out.size)
 clear ho5 hb5 c4
 subst hs5
 go_wp2_with (refine store_acc rfl _ _ rfl ao h.acc.length ac rfl rfl HX5.out ?_;intro w6 hx6 hg6;have HX6:=Lib.hid hx6;have HG6:=Lib.hid hg6;have c5:w6.cell? ⟨w.heap.size,5,none⟩=some vc:=HX6.out.all.2.2.2.2.2;clear hx6 hg6)
 have HR6:Hid (HardR w6 h (.slice io h.img.length ic) (.slice ao h.acc.length ac) vc):=(show HardR w5 h (.slice io h.img.length ic) (.slice ao h.acc.length ac) vc from⟨HR5.out.img,HA5.out,HR5.out.chs⟩).over HX5.out HG6.out
 have HZ6:=Lib.hid (HZ5.out.kept HG6.out (by rw[HNE.out];omega))
 have HB6:Hid (Below w.heap.size w w6):=HB5.out.grown HG6.out HB5.out.size (by rintro j hj;cases hj;exact Nat.le_refl _)
 refine(clone_ents vc h.chs w6 HR6.out.chs (by have:=HF.out.chs;omega)).mono ?_
 rintro e w7 ⟨v7,rfl,ho7,hb7⟩
 obtain⟨co,cc,hs7⟩:=ho7.shape
 have HC7:=Lib.hid (ho7.reads (En.sized _))
 have HP7:=Lib.hid ((InP.of_row ho7).imp fun b hb=>Nat.le_trans HB6.out.size hb)
 rw[List.length_map]at hs7
 have HR7:=Lib.hid (HR6.out.below hb7)
 have HX7:=Lib.hid (HX6.out.below hb7 HX6.out.lies.lt)
 have HZ7:=Lib.hid (HZ6.out.below hb7 HZ6.out.lies.lt)
 have HB7:Hid (Below w.heap.size w w7):=HB6.out.trans (hb7.mono HB6.out.size)
 clear ho7 hb7 c5
 subst hs7
 go_wp2_with (first
  | (refine store_chs rfl _ _ rfl co h.chs.length cc rfl rfl HX7.out ?_;intro w8 hx8 hg8;have HX8:=Lib.hid hx8;have HG8:=Lib.hid hg8;have HZ8:=Lib.hid (HZ7.out.kept HG8.out (by rw[HNE.out];omega));clear hx8 hg8)
  | (refine load_hard rfl _ rfl rfl HX8.out ?_)
  | (refine store_hard rfl _ _ rfl rfl HZ8.out HX8.out rfl ?_;intro w9 hx9 hg9;have HX9:=Lib.hid hx9;have HG9:=Lib.hid hg9;clear hx9 hg9))
 have HR8:HardR w8 h (.slice io h.img.length ic) (.slice ao h.acc.length ac) (.slice co h.chs.length cc):=(show HardR w7 h (.slice io h.img.length ic) (.slice ao h.acc.length ac) (.slice co h.chs.length cc)from⟨HR7.out.img,HR7.out.acc,HC7.out⟩).over HX7.out HG8.out
 have HB8:Below w.heap.size w w8:=HB7.out.grown HG8.out HB7.out.size (by rintro j hj;cases hj;exact Nat.le_refl _)
 refine ret_hard1 rfl rfl HX9.out rfl ?_
 exact⟨_,_,_,rfl,⟨HR8.over HZ8.out HG9.out,HP3.out,HP5.out,HP7.out⟩,HB8.grown HG9.out HB8.size (by rintro j hj;cases hj;rw[HNE.out];omega)⟩
theorem image_any(b:Int)(vi:Value)(l:List UInt8)(w:World)(hv:Reads w vi l) :
 Calls Tryz.prog 124 #[.int .i64 b,vi] w (fun e w' => e = .returned (.agg (Re.cells ⟨4,Bl.zero,b,Cm.zero,l⟩ vi))∧Below w.heap.size w w'):=by
 obtain⟨io,ic,rfl⟩:=hv.shape
 obtain⟨n,hn⟩ : ∃n,n=l.length:=⟨_,rfl⟩
 rw[← hn]
 clear hn hv
 go_enter Tryz.func124,Tryz.ntmps124
 go_wp2_with (refine store_rec rfl _ _ rfl w.heap.size Re.zero Nil ⟨4,Bl.zero,b,Cm.zero,l⟩ (.slice io n ic) rfl rfl rfl (Lies.new _ _ _) ?_;intro w5 hl5 hg5;have HL5:=Lib.hid hl5;have HB5:Hid (Below w.heap.size w w5):=fresh_below hg5;clear hl5 hg5)
 refine ret_rec1 rfl rfl HL5.out rfl ?_
 exact⟨rfl,HB5.out⟩
theorem cloneH_q(h:Hd.Hard)(vi va vc:Value)(w:World)(hr:HardR w h vi va vc)(hf:h.Few) :
 Calls Tryz.prog 56 #[.agg (Hd.cells h vi va vc)] w (MadeQ (fun b=>w.heap.size≤b) w h):=by
 obtain⟨w1,e1,hx1,hB1,hs1⟩:=box_six w 33 h vi va vc hr
 obtain⟨w2,e2,hz2,hB2,hs2⟩:=box_zero w1 33
 have HX2:=Lib.hid (hx1.below hB2 (by omega))
 have HZ2:=Lib.hid hz2
 have HB2:Hid (Below w.heap.size w w2):=hB1.trans (hB2.mono hB1.size)
 have HR2:=Lib.hid (hr.below HB2.out)
 have HF:=Lib.hid hf
 have HNE:Hid (w1.heap.size=w.heap.size+1):=hs1
 have HC:=Lib.hid (copied_q h vi va vc w2 HR2.out HF.out)
 clear hx1 hz2 hB1 hB2 hs2 hr hf hs1
 go_enter Tryz.func56,Tryz.ntmps56
 obtain⟨c0,c1,c2,c3,c4,c5⟩:=HX2.out.all
 go_wp2_with fail
 refine HC.out.mono ?_
 rintro e w3 ⟨ui,ua,uc,rfl,hr3,hb3⟩
 clear c0 c1 c2 c3 c4 c5
 have HR3:=Lib.hid hr3
 have HB3:Hid (Below w.heap.size w w3):=HB2.out.trans (hb3.mono HB2.out.size)
 have HZ3:=Lib.hid (HZ2.out.below hb3 HZ2.out.lies.lt)
 have HX3:Hid (SixAt (w3.alloc (.cells (Hd.cells h ui ua uc) 33)) w3.heap.size 33 h.prom h.base ui ua uc):=⟨Lies.new _ _ _,hr3.rows.sl.1,hr3.rows.sl.2.1,hr3.rows.sl.2.2⟩
 clear hr3 hb3
 go_wp2_with (refine store_hard rfl _ _ rfl rfl HZ3.out HX3.out rfl ?_;intro w9 hx9 hg9;have HX9:=Lib.hid hx9;have HG9:=Lib.hid hg9;clear hx9 hg9)
 refine ret_hard1 rfl rfl HX9.out rfl ?_
 exact⟨_,_,_,rfl,(HR3.out.over HZ3.out HG9.out).imp fun b hb=>Nat.le_trans HB2.out.size hb,HB3.out.grown HG9.out HB3.out.size (by rintro j hj;cases hj;rw[HNE.out];omega)⟩
theorem En.drop_cut : ∀ {l:List En.Ent},En.Asc l → ∀x:Int,l.drop (En.below l (x+1))=En.cut x l
 | [],_,_=>rfl
 | a :: r,hp,x=>by
  by_cases h:a.index<x+1
  ·rw[En.below_less r h,List.drop_succ_cons,En.drop_cut (List.pairwise_cons.1 hp).2 x,En.cut_cons,if_neg (by omega)]
  ·rw[En.below_none hp h,List.drop_zero]
   refine(En.cut_all fun e he => ?_).symm
   rcases List.mem_cons.1 he with rfl | he
   ·omega
   ·have:=(List.pairwise_cons.1 hp).1 e he;omega
theorem Hd.most_proms(p:Bl.Bal)(x:Re.Rec)(h:Re.hb x.kind=true):Bl.most [p,x.bal]=Hd.proms p x:=by
 show Bl.top p x.bal=_
 unfold Bl.top Hd.proms
 cases hl:Bl.less p x.bal
 ·rw[if_neg (by simp),if_neg (by simp)]
 ·rw[if_pos rfl,if_pos ⟨h,rfl⟩]
theorem Hd.own_index{x:Re.Rec}(f:Hd.Fine x)(h:Re.hi x.kind=false):x.index=0:=by
 have:=congrArg Re.Rec.index f.own
 simp only[Re.own,h]at this
 simpa using this.symm
theorem Hd.proms_none(p:Bl.Bal)(x:Re.Rec)(h:Re.hb x.kind=false):Hd.proms p x=p:=by
 unfold Hd.proms;rw[if_neg (fun h2=>by rw[h]at h2;cases h2.1)]
theorem Hd.apply_low{h:Hd.Hard}{x:Re.Rec}(hk:Re.check x=0)(hi:x.index≤h.base):Hd.apply h x=⟨Hd.proms h.prom x,h.base,h.img,h.acc,h.chs⟩:=by
 unfold Hd.apply
 rw[if_neg (by rw[hk];simp),if_neg (fun h2=>by omega),Hd.two_out _ (.inr (.inl hi))]
structure AftR(w W:World)(h:Hd.Hard)(vi va vc:Value)(x:Re.Rec)(xi:Value):Prop where
 st:SixAt W w.heap.size 113 h.prom h.base vi va vc
 re:Recs W (w.heap.size+1) x xi
 out:SixAt W (w.heap.size+2) 113 Bl.zero 0 Nil Nil Nil
 rows:HardR W h vi va vc
 img:Reads W xi x.img
 below:Below w.heap.size w W
theorem AftR.call{w W W' : World}{h:Hd.Hard}{vi va vc:Value}{x:Re.Rec}{xi:Value}(A:AftR w W h vi va vc x xi)(hb:Below W.heap.size W W'):AftR w W' h vi va vc x xi :=
 ⟨A.st.below hb A.st.lies.lt,A.re.below hb A.re.lt,A.out.below hb A.out.lies.lt,A.rows.below hb,A.img.below hb,A.below.trans (hb.mono A.below.size)⟩
theorem AftR.turn{w W W' : World}{h:Hd.Hard}{vi va vc:Value}{x:Re.Rec}{xi:Value}(A:AftR w W h vi va vc x xi){h' : Hd.Hard}{vi' va' vc' : Value}(s:SixAt W' w.heap.size 113 h'.prom h'.base vi' va' vc')(hg:W.grownBy W' (some w.heap.size))(r:HardR W h' vi' va' vc'):AftR w W' h' vi' va' vc' x xi :=
 ⟨s,A.re.kept hg (by simp),A.out.kept hg (by omega),r.over A.st hg,A.img.kept_of A.st.lies A.st.no8 hg,A.below.grown hg A.below.size (by rintro j hj;cases hj;exact Nat.le_refl _)⟩
theorem AftR.made{w W W' : World}{h:Hd.Hard}{vi va vc:Value}{x:Re.Rec}{xi:Value}(A:AftR w W h vi va vc x xi)(hg:W.grownBy W' (some (w.heap.size+2))):MadeH w h (.returned (.agg (Hd.six h.prom h.base vi va vc))) W' :=
 ⟨vi,va,vc,rfl,A.rows.over A.out hg,A.below.grown hg A.below.size (by rintro j hj;cases hj;omega)⟩
theorem box_three(w:World)(h:Hd.Hard)(vi va vc:Value)(x:Re.Rec)(xi:Value)(r:HardR w h vi va vc)(hx:Reads w xi x.img) :
 ∃w3,((w.alloc (.cells (Hd.cells h vi va vc) 113)).alloc (.cells (Re.cells x xi) 42)).alloc (.cells #[.int .i64 0, .int .i64 0, .int .i64 0, .slice none 0 0, .slice none 0 0, .slice none 0 0] 113)=w3∧AftR w w3 h vi va vc x xi:=by
 obtain⟨w1,e1,hx1,hB1,hs1⟩:=box_six w 113 h vi va vc r
 obtain⟨w2,e2,hl2,hB2,hs2⟩:=box_rec w1 x xi
 obtain⟨w3,e3,hz3,hB3,hs3⟩:=box_zero w2 113
 rw[hs1]at hl2 hs2
 rw[hs2]at hz3
 have hB:Below w.heap.size w w3:=(hB1.trans (hB2.mono hB1.size)).trans (hB3.mono (Nat.le_trans hB1.size hB2.size))
 exact⟨w3,by rw[e1,e2,e3],(hx1.below hB2 (by omega)).below hB3 (by omega),hl2.below hB3 (by omega),hz3,r.below hB,hx.below hB,hB⟩
theorem after_any(h:Hd.Hard)(vi va vc:Value)(x:Re.Rec)(xi:Value)(w:World)(hW:WordsIn w)(hr:HardR w h vi va vc)(hv:Hd.Valid h)(hla:h.acc.length≤900000∧h.chs.length≤900000)(hx:Reads w xi x.img)(hs:x.cmd.Short 140737488355328) :
 Calls Tryz.prog 72 #[.agg (Hd.cells h vi va vc), .agg (Re.cells x xi)] w (MadeH w (Hd.apply h x)):=by
 obtain⟨w3,e3,hA⟩:=box_three w h vi va vc x xi hr hx
 have A3:=Lib.hid hA;have HW:=Lib.hid hW;have HV:=Lib.hid hv;have HLEN:=Lib.hid hla;have HS:=Lib.hid hs
 have HXI:Hid (∃o k c,xi = .slice o k c):=by obtain⟨xo,xc,e⟩:=hx.shape;exact⟨_,_,_,e⟩
 clear hA hW hr hv hla hx hs
 go_enter Tryz.func72,Tryz.ntmps72
 go_wp2_with (refine load_rec rfl _ rfl (w.heap.size+1) x xi rfl A3.out.re ?_)
 refine(checkRe_any x xi w3 (HW.out.below A3.out.below) A3.out.img HS.out).mono ?_
 rintro e w4 ⟨rfl,hb4⟩
 have A4:=Lib.hid (A3.out.call hb4)
 obtain⟨y,hy⟩ : ∃y,y=Re.check x:=⟨_,rfl⟩
 rw[← hy]
 clear hb4 A3 e3
 by_cases hy0:y=0
 rotate_left
 ·have hyb:(y != 0)=true:=by simpa using hy0
  have HAP:Hid (Hd.apply h x=h):=Hd.apply_bad (by rw[← hy];exact hy0)
  clear hy hy0
  go_wp2_with (first
   | (refine load_state rfl _ rfl rfl A4.out.st ?_)
   | (refine store_state rfl _ _ rfl rfl A4.out.out A4.out.st rfl ?_;intro w7 hx7 hg7;have HX7:=Lib.hid hx7;have HG7:=Lib.hid hg7;clear hx7 hg7)
  )
  refine ret_state1 rfl rfl HX7.out rfl ?_
  show MadeH w (Hd.apply _ _) _ _
  rw[HAP.out]
  exact A4.out.made HG7.out
 subst hy0
 have HY:Hid (Re.check x=0):=hy.symm
 clear hy
 obtain⟨kd,bal,ix,cm,im⟩:=x
 obtain⟨p,b,img,acc,chs⟩:=h
 dsimp only at HV HLEN HS
 have hkn:=Hd.check_known HY.out
 dsimp only at hkn
 obtain rfl | rfl | rfl | rfl:kd=1∨kd=2∨kd=3∨kd=4:=by omega
 all_goals clear hkn
 ·skip
  have HF:=Lib.hid (Hd.check_fine.1 HY.out)
  have HAP:=Lib.hid (fun h=>Hd.apply_low (h:=⟨p,b,img,acc,chs⟩) (x:=⟨1,bal,ix,cm,im⟩) HY.out h)
  have HM:Hid (Bl.most [p,bal]=Hd.proms p ⟨1,bal,ix,cm,im⟩):=Hd.most_proms p ⟨1,bal,ix,cm,im⟩ rfl
  obtain⟨mo,hmo⟩ : ∃m,m=Bl.most [p,bal]:=⟨_,rfl⟩
  have HMO:=Lib.hid hmo
  have hlit:ReadsB (w4.alloc (.cells #[.int .i64 p.round, .int .i64 p.node, .int .i64 bal.round, .int .i64 bal.node] 29)) (.slice (some ⟨w4.heap.size,0,none⟩) 2 2) [p,bal]:=ReadsR.lit (rs := [p,bal].map Bl.cells) (Lies.new _ _ _) (Sized.map (k:=2) (f:=Bl.cells) (fun b=>⟨rfl,Bl.cells_one b⟩) [p,bal]) (by simp)
  have HMAX:=Lib.hid (bmax_any _ _ _ hlit)
  clear hmo hlit
  obtain rfl:ix=0:=Hd.own_index HF.out rfl
  have hb0:0≤b:=HV.out.base.1
  have c0:w4.cell? ⟨w.heap.size,0,none⟩=some (.int .i64 p.round):=A4.out.st.lies.cell 0 _ rfl
  have c1:w4.cell? ⟨w.heap.size,1,none⟩=some (.int .i64 p.node):=A4.out.st.lies.cell 1 _ rfl
  have d0:w4.cell? ⟨w.heap.size+1,0,none⟩=some (.int .i64 1):=A4.out.re.cell 0 _ rfl
  have d1:w4.cell? ⟨w.heap.size+1,1,none⟩=some (.int .i64 bal.round):=A4.out.re.cell 1 _ rfl
  have d2:w4.cell? ⟨w.heap.size+1,2,none⟩=some (.int .i64 bal.node):=A4.out.re.cell 2 _ rfl
  go_wp2_with fail
  refine HMAX.out.mono ?_
  rintro e w5 ⟨rfl,hb5⟩
  rw[← HMO.out]
  have A5:=Lib.hid (A4.out.call (((Below.refl _ w4).alloc (Nat.le_refl _) _).trans (hb5.mono (by simp))))
  clear hb5 c0 c1 d0 d1 d2
  go_wp2_with (first
   | (refine store_prom rfl _ _ rfl mo rfl rfl A5.out.st ?_;intro w6 hx6 hg6;have A6:=Lib.hid (A5.out.turn (h' := ⟨mo,b,img,acc,chs⟩) hx6 hg6 ⟨A5.out.rows.img,A5.out.rows.acc,A5.out.rows.chs⟩);clear hx6 hg6;have c2:w6.cell? ⟨w.heap.size,2,none⟩=some (.int .i64 b):=A6.out.st.lies.cell 2 _ rfl;have d3:w6.cell? ⟨w.heap.size+1,3,none⟩=some (.int .i64 0):=A6.out.re.cell 3 _ rfl)
   | (refine load_state rfl _ rfl rfl A6.out.st ?_)
   | (refine store_state rfl _ _ rfl rfl A6.out.out A6.out.st rfl ?_;intro w7 hx7 hg7;have HX7:=Lib.hid hx7;have HG7:=Lib.hid hg7;clear hx7 hg7))
  refine ret_state1 rfl rfl HX7.out rfl ?_
  show MadeH w (Hd.apply _ _) _ _
  rw[HAP.out hb0,show Hd.proms p _=mo by rw[HMO.out,HM.out]]
  exact A6.out.made HG7.out
 ·skip
  have HF:=Lib.hid (Hd.check_fine.1 HY.out)
  have HAP:=Lib.hid (fun h=>Hd.apply_low (h:=⟨p,b,img,acc,chs⟩) (x:=⟨2,bal,ix,cm,im⟩) HY.out h)
  have HM:Hid (Bl.most [p,bal]=Hd.proms p ⟨2,bal,ix,cm,im⟩):=Hd.most_proms p ⟨2,bal,ix,cm,im⟩ rfl
  obtain⟨mo,hmo⟩ : ∃m,m=Bl.most [p,bal]:=⟨_,rfl⟩
  have HMO:=Lib.hid hmo
  have hlit:ReadsB (w4.alloc (.cells #[.int .i64 p.round, .int .i64 p.node, .int .i64 bal.round, .int .i64 bal.node] 29)) (.slice (some ⟨w4.heap.size,0,none⟩) 2 2) [p,bal]:=ReadsR.lit (rs := [p,bal].map Bl.cells) (Lies.new _ _ _) (Sized.map (k:=2) (f:=Bl.cells) (fun b=>⟨rfl,Bl.cells_one b⟩) [p,bal]) (by simp)
  have HMAX:=Lib.hid (bmax_any _ _ _ hlit)
  clear hmo hlit
  by_cases hbi:ix≤b
  ·skip
   have c0:w4.cell? ⟨w.heap.size,0,none⟩=some (.int .i64 p.round):=A4.out.st.lies.cell 0 _ rfl
   have c1:w4.cell? ⟨w.heap.size,1,none⟩=some (.int .i64 p.node):=A4.out.st.lies.cell 1 _ rfl
   have d0:w4.cell? ⟨w.heap.size+1,0,none⟩=some (.int .i64 2):=A4.out.re.cell 0 _ rfl
   have d1:w4.cell? ⟨w.heap.size+1,1,none⟩=some (.int .i64 bal.round):=A4.out.re.cell 1 _ rfl
   have d2:w4.cell? ⟨w.heap.size+1,2,none⟩=some (.int .i64 bal.node):=A4.out.re.cell 2 _ rfl
   go_wp2_with fail
   refine HMAX.out.mono ?_
   rintro e w5 ⟨rfl,hb5⟩
   rw[← HMO.out]
   have A5:=Lib.hid (A4.out.call (((Below.refl _ w4).alloc (Nat.le_refl _) _).trans (hb5.mono (by simp))))
   clear hb5 c0 c1 d0 d1 d2
   go_wp2_with (first
    | (refine store_prom rfl _ _ rfl mo rfl rfl A5.out.st ?_;intro w6 hx6 hg6;have A6:=Lib.hid (A5.out.turn (h' := ⟨mo,b,img,acc,chs⟩) hx6 hg6 ⟨A5.out.rows.img,A5.out.rows.acc,A5.out.rows.chs⟩);clear hx6 hg6;have c2:w6.cell? ⟨w.heap.size,2,none⟩=some (.int .i64 b):=A6.out.st.lies.cell 2 _ rfl;have d3:w6.cell? ⟨w.heap.size+1,3,none⟩=some (.int .i64 ix):=A6.out.re.cell 3 _ rfl)
    | (refine load_state rfl _ rfl rfl A6.out.st ?_)
    | (refine store_state rfl _ _ rfl rfl A6.out.out A6.out.st rfl ?_;intro w7 hx7 hg7;have HX7:=Lib.hid hx7;have HG7:=Lib.hid hg7;clear hx7 hg7))
   refine ret_state1 rfl rfl HX7.out rfl ?_
   show MadeH w (Hd.apply _ _) _ _
   rw[HAP.out hbi,show Hd.proms p _=mo by rw[HMO.out,HM.out]]
   exact A6.out.made HG7.out
  ·have HBI:Hid (b<ix):=by show _<_;omega
   have hbi2:decide (ix≤b)=false:=decide_eq_false hbi
   have c0:w4.cell? ⟨w.heap.size,0,none⟩=some (.int .i64 p.round):=A4.out.st.lies.cell 0 _ rfl
   have c1:w4.cell? ⟨w.heap.size,1,none⟩=some (.int .i64 p.node):=A4.out.st.lies.cell 1 _ rfl
   have d0:w4.cell? ⟨w.heap.size+1,0,none⟩=some (.int .i64 2):=A4.out.re.cell 0 _ rfl
   have d1:w4.cell? ⟨w.heap.size+1,1,none⟩=some (.int .i64 bal.round):=A4.out.re.cell 1 _ rfl
   have d2:w4.cell? ⟨w.heap.size+1,2,none⟩=some (.int .i64 bal.node):=A4.out.re.cell 2 _ rfl
   go_wp2_with fail
   refine HMAX.out.mono ?_
   rintro e w5 ⟨rfl,hb5⟩
   rw[← HMO.out]
   have A5:=Lib.hid (A4.out.call (((Below.refl _ w4).alloc (Nat.le_refl _) _).trans (hb5.mono (by simp))))
   clear hb5 c0 c1 d0 d1 d2
   go_wp2_with (first
    | (refine store_prom rfl _ _ rfl mo rfl rfl A5.out.st ?_;intro w6 hx6 hg6;have A6:=Lib.hid (A5.out.turn (h' := ⟨mo,b,img,acc,chs⟩) hx6 hg6 ⟨A5.out.rows.img,A5.out.rows.acc,A5.out.rows.chs⟩);clear hx6 hg6;have c2:w6.cell? ⟨w.heap.size,2,none⟩=some (.int .i64 b):=A6.out.st.lies.cell 2 _ rfl;have c4:w6.cell? ⟨w.heap.size,4,none⟩=some (va):=A6.out.st.lies.cell 4 _ rfl;have d0:w6.cell? ⟨w.heap.size+1,0,none⟩=some (.int .i64 2):=A6.out.re.cell 0 _ rfl;have d1:w6.cell? ⟨w.heap.size+1,1,none⟩=some (.int .i64 bal.round):=A6.out.re.cell 1 _ rfl;have d2:w6.cell? ⟨w.heap.size+1,2,none⟩=some (.int .i64 bal.node):=A6.out.re.cell 2 _ rfl;have d3:w6.cell? ⟨w.heap.size+1,3,none⟩=some (.int .i64 ix):=A6.out.re.cell 3 _ rfl;have d4:w6.cell? ⟨w.heap.size+1,4,none⟩=some (.int .i64 cm.kind):=A6.out.re.cell 4 _ rfl;have d5:w6.cell? ⟨w.heap.size+1,5,none⟩=some (.int .i64 cm.client):=A6.out.re.cell 5 _ rfl;have d6:w6.cell? ⟨w.heap.size+1,6,none⟩=some (.int .i64 cm.seq):=A6.out.re.cell 6 _ rfl;have d7:w6.cell? ⟨w.heap.size+1,7,none⟩=some (.string ⟨cm.key.toArray⟩):=A6.out.re.cell 7 _ rfl;have d8:w6.cell? ⟨w.heap.size+1,8,none⟩=some (.string ⟨cm.val.toArray⟩):=A6.out.re.cell 8 _ rfl;have d9:w6.cell? ⟨w.heap.size+1,9,none⟩=some (.string ⟨cm.old.toArray⟩):=A6.out.re.cell 9 _ rfl;have d10:w6.cell? ⟨w.heap.size+1,10,none⟩=some (.int .i64 cm.node):=A6.out.re.cell 10 _ rfl)
    | (fail))
   refine(with_ent va acc ⟨ix,bal,cm⟩ w6 A6.out.rows.acc HV.out.ascA (by have:=HLEN.out.1;omega)).mono ?_
   rintro e w7 ⟨v7,rfl,ho7,hb7⟩
   obtain⟨uo,uc,hs7⟩:=ho7.shape
   have HO7:Hid (ReadsE w7 v7 (En.put acc ⟨ix,bal,cm⟩)):=ho7.reads (En.sized _)
   have A7:=Lib.hid (A6.out.call hb7)
   clear ho7 hb7 c2 c4 d0 d1 d2 d3 d4 d5 d6 d7 d8 d9 d10
   subst hs7
   obtain⟨un,hun⟩ : ∃n,n=((En.put acc ⟨ix,bal,cm⟩).map En.cells).length:=⟨_,rfl⟩
   rw[← hun]at HO7 ⊢
   clear hun
   go_wp2_with (first
    | (refine store_acc rfl _ _ rfl uo un uc rfl rfl A7.out.st ?_;intro w8 hx8 hg8;have A8:=Lib.hid (A7.out.turn (h' := ⟨mo,b,img,En.put acc ⟨ix,bal,cm⟩,chs⟩) hx8 hg8 ⟨A7.out.rows.img,HO7.out,A7.out.rows.chs⟩);clear hx8 hg8)
    | (refine load_state rfl _ rfl rfl A8.out.st ?_)
    | (refine store_state rfl _ _ rfl rfl A8.out.out A8.out.st rfl ?_;intro w9 hx9 hg9;have HX9:=Lib.hid hx9;have HG9:=Lib.hid hg9;clear hx9 hg9))
   refine ret_state1 rfl rfl HX9.out rfl ?_
   have HEQ:Hd.apply ⟨p,b,img,acc,chs⟩ ⟨2,bal,ix,cm,im⟩=⟨mo,b,img,En.put acc ⟨ix,bal,cm⟩,chs⟩:=by
    unfold Hd.apply
    rw[if_neg (by rw[HY.out];simp),if_neg (fun h=>by have:=h.1;simp at this),Hd.two_in _ HY.out HBI.out rfl,if_pos rfl,HMO.out,HM.out]
    rfl
   show MadeH w (Hd.apply _ _) _ _
   rw[HEQ]
   exact A8.out.made HG9.out
 ·skip
  have HF:=Lib.hid (Hd.check_fine.1 HY.out)
  have HAP:=Lib.hid (fun h=>Hd.apply_low (h:=⟨p,b,img,acc,chs⟩) (x:=⟨3,bal,ix,cm,im⟩) HY.out h)
  have HPR:Hid (Hd.proms p ⟨3,bal,ix,cm,im⟩=p):=Hd.proms_none p ⟨3,bal,ix,cm,im⟩ rfl
  obtain rfl:bal=Bl.zero:=Hd.own_bal HF.out rfl
  by_cases hbi:ix≤b
  ·skip
   have c2:w4.cell? ⟨w.heap.size,2,none⟩=some (.int .i64 b):=A4.out.st.lies.cell 2 _ rfl
   have d0:w4.cell? ⟨w.heap.size+1,0,none⟩=some (.int .i64 3):=A4.out.re.cell 0 _ rfl
   have d3:w4.cell? ⟨w.heap.size+1,3,none⟩=some (.int .i64 ix):=A4.out.re.cell 3 _ rfl
   go_wp2_with (first
    | (refine load_state rfl _ rfl rfl A4.out.st ?_)
    | (refine store_state rfl _ _ rfl rfl A4.out.out A4.out.st rfl ?_;intro w7 hx7 hg7;have HX7:=Lib.hid hx7;have HG7:=Lib.hid hg7;clear hx7 hg7))
   refine ret_state1 rfl rfl HX7.out rfl ?_
   show MadeH w (Hd.apply _ _) _ _
   rw[HAP.out hbi,show Hd.proms p _=p from HPR.out]
   exact A4.out.made HG7.out
  ·have HBI:Hid (b<ix):=by show _<_;omega
   have hbi2:decide (ix≤b)=false:=decide_eq_false hbi
   have c2:w4.cell? ⟨w.heap.size,2,none⟩=some (.int .i64 b):=A4.out.st.lies.cell 2 _ rfl
   have c5:w4.cell? ⟨w.heap.size,5,none⟩=some (vc):=A4.out.st.lies.cell 5 _ rfl
   have d0:w4.cell? ⟨w.heap.size+1,0,none⟩=some (.int .i64 3):=A4.out.re.cell 0 _ rfl
   have d3:w4.cell? ⟨w.heap.size+1,3,none⟩=some (.int .i64 ix):=A4.out.re.cell 3 _ rfl
   have HEQ:Hid (Hd.apply ⟨p,b,img,acc,chs⟩ ⟨3,Bl.zero,ix,cm,im⟩=if En.found chs ix=true then ⟨p,b,img,acc,chs⟩else ⟨p,b,img,acc,En.put chs ⟨ix,Bl.zero,cm⟩⟩):=by
    show _=_
    unfold Hd.apply
    rw[if_neg (by rw[HY.out];simp),if_neg (fun h=>by have:=h.1;simp at this),Hd.two_in _ HY.out HBI.out rfl,if_neg (by simp),HPR.out]
    by_cases hf:En.found chs ix=true
    ·rw[if_pos hf,if_pos hf]
    ·rw[if_neg hf,if_neg hf]
     rfl
   go_wp2_with fail
   refine(find_ent vc chs ix w4 A4.out.rows.chs HV.out.ascC (by have:=HLEN.out.2;omega)).mono ?_
   rintro e w5 ⟨rfl,hb5⟩
   have A5:=Lib.hid (A4.out.call hb5)
   obtain⟨fe,hfe⟩ : ∃e,e=En.find chs ix:=⟨_,rfl⟩
   rw[← hfe]
   obtain⟨f,hf⟩ : ∃f,f=En.found chs ix:=⟨_,rfl⟩
   rw[← hf]at HEQ ⊢
   clear hb5 hfe hf c2 c5 d0 d3 hbi hbi2
   cases f with
   | true =>
    go_wp2_with (first
     | (refine store_ent rfl _ _ rfl w5.heap.size En.zero fe rfl rfl (Lies.new _ _ _) ?_;intro w6 hl6 hg6;have A6:=Lib.hid (A5.out.call (fresh_below hg6));clear hl6 hg6)
     | (refine load_state rfl _ rfl rfl A6.out.st ?_)
     | (refine store_state rfl _ _ rfl rfl A6.out.out A6.out.st rfl ?_;intro w9 hx9 hg9;have HX9:=Lib.hid hx9;have HG9:=Lib.hid hg9;clear hx9 hg9))
    refine ret_state1 rfl rfl HX9.out rfl ?_
    show MadeH w (Hd.apply _ _) _ _
    rw[HEQ.out]
    simp only[↓reduceIte]
    exact A6.out.made HG9.out
   | false =>
    go_wp2_with ((refine store_ent rfl _ _ rfl w5.heap.size En.zero fe rfl rfl (Lies.new _ _ _) ?_;intro w6 hl6 hg6;have A6:=Lib.hid (A5.out.call (fresh_below hg6));clear hl6 hg6;have c5:w6.cell? ⟨w.heap.size,5,none⟩=some (vc):=A6.out.st.lies.cell 5 _ rfl;have d3:w6.cell? ⟨w.heap.size+1,3,none⟩=some (.int .i64 ix):=A6.out.re.cell 3 _ rfl;have d4:w6.cell? ⟨w.heap.size+1,4,none⟩=some (.int .i64 cm.kind):=A6.out.re.cell 4 _ rfl;have d5:w6.cell? ⟨w.heap.size+1,5,none⟩=some (.int .i64 cm.client):=A6.out.re.cell 5 _ rfl;have d6:w6.cell? ⟨w.heap.size+1,6,none⟩=some (.int .i64 cm.seq):=A6.out.re.cell 6 _ rfl;have d7:w6.cell? ⟨w.heap.size+1,7,none⟩=some (.string ⟨cm.key.toArray⟩):=A6.out.re.cell 7 _ rfl;have d8:w6.cell? ⟨w.heap.size+1,8,none⟩=some (.string ⟨cm.val.toArray⟩):=A6.out.re.cell 8 _ rfl;have d9:w6.cell? ⟨w.heap.size+1,9,none⟩=some (.string ⟨cm.old.toArray⟩):=A6.out.re.cell 9 _ rfl;have d10:w6.cell? ⟨w.heap.size+1,10,none⟩=some (.int .i64 cm.node):=A6.out.re.cell 10 _ rfl))
    refine(with_ent vc chs ⟨ix,Bl.zero,cm⟩ w6 A6.out.rows.chs HV.out.ascC (by have:=HLEN.out.2;omega)).mono ?_
    rintro e w7 ⟨v7,rfl,ho7,hb7⟩
    obtain⟨uo,uc,hs7⟩:=ho7.shape
    have HO7:Hid (ReadsE w7 v7 (En.put chs ⟨ix,Bl.zero,cm⟩)):=ho7.reads (En.sized _)
    have A7:=Lib.hid (A6.out.call hb7)
    clear ho7 hb7 c5 d3 d4 d5 d6 d7 d8 d9 d10
    subst hs7
    obtain⟨un,hun⟩ : ∃n,n=((En.put chs ⟨ix,Bl.zero,cm⟩).map En.cells).length:=⟨_,rfl⟩
    rw[← hun]at HO7 ⊢
    clear hun
    go_wp2_with (first
     | (refine store_chs rfl _ _ rfl uo un uc rfl rfl A7.out.st ?_;intro w8 hx8 hg8;have A8:=Lib.hid (A7.out.turn (h' := ⟨p,b,img,acc,En.put chs ⟨ix,Bl.zero,cm⟩⟩) hx8 hg8 ⟨A7.out.rows.img,A7.out.rows.acc,HO7.out⟩);clear hx8 hg8)
     | (refine load_state rfl _ rfl rfl A8.out.st ?_)
     | (refine store_state rfl _ _ rfl rfl A8.out.out A8.out.st rfl ?_;intro w9 hx9 hg9;have HX9:=Lib.hid hx9;have HG9:=Lib.hid hg9;clear hx9 hg9))
    refine ret_state1 rfl rfl HX9.out rfl ?_
    show MadeH w (Hd.apply _ _) _ _
    rw[HEQ.out]
    simp only[Bool.false_eq_true, ↓reduceIte]
    exact A8.out.made HG9.out
 ·skip
  have HF:=Lib.hid (Hd.check_fine.1 HY.out)
  have HAP:=Lib.hid (fun h=>Hd.apply_low (h:=⟨p,b,img,acc,chs⟩) (x:=⟨4,bal,ix,cm,im⟩) HY.out h)
  have HPR:Hid (Hd.proms p ⟨4,bal,ix,cm,im⟩=p):=Hd.proms_none p ⟨4,bal,ix,cm,im⟩ rfl
  by_cases hbi:ix≤b
  ·skip
   have c2:w4.cell? ⟨w.heap.size,2,none⟩=some (.int .i64 b):=A4.out.st.lies.cell 2 _ rfl
   have d0:w4.cell? ⟨w.heap.size+1,0,none⟩=some (.int .i64 4):=A4.out.re.cell 0 _ rfl
   have d3:w4.cell? ⟨w.heap.size+1,3,none⟩=some (.int .i64 ix):=A4.out.re.cell 3 _ rfl
   go_wp2_with (first
    | (refine load_state rfl _ rfl rfl A4.out.st ?_)
    | (refine store_state rfl _ _ rfl rfl A4.out.out A4.out.st rfl ?_;intro w7 hx7 hg7;have HX7:=Lib.hid hx7;have HG7:=Lib.hid hg7;clear hx7 hg7))
   refine ret_state1 rfl rfl HX7.out rfl ?_
   show MadeH w (Hd.apply _ _) _ _
   rw[HAP.out hbi,show Hd.proms p _=p from HPR.out]
   exact A4.out.made HG7.out
  ·have HBI:Hid (b<ix):=by show _<_;omega
   have hbi2:decide (ix≤b)=false:=decide_eq_false hbi
   have c2:w4.cell? ⟨w.heap.size,2,none⟩=some (.int .i64 b):=A4.out.st.lies.cell 2 _ rfl
   have d0:w4.cell? ⟨w.heap.size+1,0,none⟩=some (.int .i64 4):=A4.out.re.cell 0 _ rfl
   have d3:w4.cell? ⟨w.heap.size+1,3,none⟩=some (.int .i64 ix):=A4.out.re.cell 3 _ rfl
   have HEQ:Hid (Hd.apply ⟨p,b,img,acc,chs⟩ ⟨4,bal,ix,cm,im⟩=⟨p,ix,im,En.cut ix acc,En.cut ix chs⟩):=by
    show _=_
    unfold Hd.apply
    rw[if_neg (by rw[HY.out];simp),if_pos ⟨rfl,HBI.out⟩]
   have hix:ix≤4294967296:=(HF.out.index rfl).2
   have hix1:1≤ix:=(HF.out.index rfl).1
   go_wp2
   clear c2 d0 d3
   obtain⟨xo,xk,xc,rfl⟩:=HXI.out
   obtain⟨so,sk,sc,rfl⟩:=A4.out.rows.sl.1
   have c2:w4.cell? ⟨w.heap.size,2,none⟩=some (.int .i64 b):=A4.out.st.lies.cell 2 _ rfl
   have c3:w4.cell? ⟨w.heap.size,3,none⟩=some (.slice so sk sc):=A4.out.st.lies.cell 3 _ rfl
   have d3:w4.cell? ⟨w.heap.size+1,3,none⟩=some (.int .i64 ix):=A4.out.re.cell 3 _ rfl
   have d11:w4.cell? ⟨w.heap.size+1,11,none⟩=some (.slice xo xk xc):=A4.out.re.cell 11 _ rfl
   have f2:=A4.out.st.lies.free 2
   have f3:=A4.out.st.lies.free 3
   go_region
   obtain⟨w6,hw6⟩ : ∃w6,w6=((w4.setCell ⟨w.heap.size,2,none⟩ (.int .i64 ix)).setCell ⟨w.heap.size,3,none⟩ (.slice xo xk xc)).drew:=⟨_,rfl⟩
   rw[← hw6]
   have A6:Hid (AftR w w6 ⟨p,ix,im,acc,chs⟩ (.slice xo xk xc) va vc ⟨4,bal,ix,cm,im⟩ (.slice xo xk xc)):=by
    rw[hw6]
    exact(A4.out.turn (h' := ⟨p,ix,im,acc,chs⟩) ⟨(A4.out.st.lies.set 2 (.int .i64 ix)).set 3 (.slice xo xk xc),⟨_,_,_,rfl⟩,A4.out.st.va,A4.out.st.vc⟩ (grown_on (grown_set _ _ _ _) (grown_set _ _ _ _)) (show HardR w4 ⟨p,ix,im,acc,chs⟩ (.slice xo xk xc) va vc from⟨A4.out.img,A4.out.rows.acc,A4.out.rows.chs⟩)).call ((Below.refl _ _).drew)
   clear hw6 c2 c3 d3 d11 f2 f3
   have c4:w6.cell? ⟨w.heap.size,4,none⟩=some (va):=A6.out.st.lies.cell 4 _ rfl
   have d3:w6.cell? ⟨w.heap.size+1,3,none⟩=some (.int .i64 ix):=A6.out.re.cell 3 _ rfl
   go_wp2_with fail
   refine(from_ent va acc (ix+1) w6 A6.out.rows.acc HV.out.ascA (by have:=HLEN.out.1;omega)).mono ?_
   rintro e w7 ⟨v7,rfl,ho7,hb7⟩
   rw[En.drop_cut HV.out.ascA]at ho7
   obtain⟨uo,uc,hs7⟩:=ho7.shape
   have HO7:Hid (ReadsE w7 v7 (En.cut ix acc)):=ho7.reads (En.sized _)
   have A7:=Lib.hid (A6.out.call hb7)
   clear ho7 hb7 c4 d3
   subst hs7
   obtain⟨un,hun⟩ : ∃n,n=((En.cut ix acc).map En.cells).length:=⟨_,rfl⟩
   rw[← hun]at HO7 ⊢
   clear hun
   go_wp2_with ((refine store_acc rfl _ _ rfl uo un uc rfl rfl A7.out.st ?_;intro w8 hx8 hg8;have A8:=Lib.hid (A7.out.turn (h' := ⟨p,ix,im,En.cut ix acc,chs⟩) hx8 hg8 ⟨A7.out.rows.img,HO7.out,A7.out.rows.chs⟩);clear hx8 hg8;have c5:w8.cell? ⟨w.heap.size,5,none⟩=some (vc):=A8.out.st.lies.cell 5 _ rfl;have d3:w8.cell? ⟨w.heap.size+1,3,none⟩=some (.int .i64 ix):=A8.out.re.cell 3 _ rfl))
   refine(from_ent vc chs (ix+1) w8 A8.out.rows.chs HV.out.ascC (by have:=HLEN.out.2;omega)).mono ?_
   rintro e w9 ⟨v9,rfl,ho9,hb9⟩
   rw[En.drop_cut HV.out.ascC]at ho9
   obtain⟨to,tc,hs9⟩:=ho9.shape
   have HO9:Hid (ReadsE w9 v9 (En.cut ix chs)):=ho9.reads (En.sized _)
   have A9:=Lib.hid (A8.out.call hb9)
   clear ho9 hb9 c5 d3
   subst hs9
   obtain⟨tn,htn⟩ : ∃n,n=((En.cut ix chs).map En.cells).length:=⟨_,rfl⟩
   rw[← htn]at HO9 ⊢
   clear htn
   go_wp2_with (first
    | (refine store_chs rfl _ _ rfl to tn tc rfl rfl A9.out.st ?_;intro w10 hx10 hg10;have A10:=Lib.hid (A9.out.turn (h' := ⟨p,ix,im,En.cut ix acc,En.cut ix chs⟩) hx10 hg10 ⟨A9.out.rows.img,A9.out.rows.acc,HO9.out⟩);clear hx10 hg10)
    | (refine load_state rfl _ rfl rfl A10.out.st ?_)
    | (refine store_state rfl _ _ rfl rfl A10.out.out A10.out.st rfl ?_;intro w11 hx11 hg11;have HX11:=Lib.hid hx11;have HG11:=Lib.hid hg11;clear hx11 hg11))
   refine ret_state1 rfl rfl HX11.out rfl ?_
   show MadeH w (Hd.apply _ _) _ _
   rw[HEQ.out]
   exact A10.out.made HG11.out
theorem En.cut_len(b:Int)(l:List En.Ent):(En.cut b l).length≤l.length:=List.length_filter_le _ _
theorem Hd.apply_len(h:Hd.Hard)(x:Re.Rec):(Hd.apply h x).acc.length≤h.acc.length+1∧(Hd.apply h x).chs.length≤h.chs.length+1:=by
 unfold Hd.apply
 split
 ·exact⟨by omega,by omega⟩
 ·split
  ·have h1:=En.cut_len x.index h.acc
   have h2:=En.cut_len x.index h.chs
   exact⟨by show(En.cut x.index h.acc).length≤_;omega,by show(En.cut x.index h.chs).length≤_;omega⟩
  ·exact Hd.two_len h.base (h.acc,h.chs) x
theorem Hd.of_len(l:List Re.Rec):(Hd.of l).acc.length≤l.length∧(Hd.of l).chs.length≤l.length:=by
 induction l using Hd.snoc_ind with
 | h0=>exact⟨by simp[Hd.of,Hd.zero],by simp[Hd.of,Hd.zero]⟩
 | h1 l x ih =>
  rw[Hd.of_snoc,List.length_append]
  have:=Hd.apply_len (Hd.of l) x
  exact⟨by simp;omega,by simp;omega⟩
theorem Hd.Valid.few{h:Hd.Hard}(v:Hd.Valid h)(h1:h.acc.length≤900000)(h2:h.chs.length≤900000):h.Few:=⟨by have:=v.img;omega,h1,h2⟩
theorem apply_q(h:Hd.Hard)(vi va vc:Value)(x:Re.Rec)(xi:Value)(w:World)(hW:WordsIn w)(hr:HardR w h vi va vc)(hv:Hd.Valid h)(hla:h.acc.length≤800000∧h.chs.length≤800000)(hx:Reads w xi x.img)(hs:x.cmd.Short 140737488355328) :
 Calls Tryz.prog 42 #[.agg (Hd.cells h vi va vc), .agg (Re.cells x xi)] w (MadeQ (fun b=>w.heap.size≤b) w (Hd.apply h x)):=by
 obtain⟨w1,e1,hx1,hB1,hs1⟩:=box_six w 33 h vi va vc hr
 obtain⟨w2,e2,hl2,hB2,hs2⟩:=box_rec w1 x xi
 obtain⟨w3,e3,hz3,hB3,hs3⟩:=box_zero w2 33
 rw[hs1]at hl2 hs2
 rw[hs2]at hz3
 have hB:Below w.heap.size w w3:=(hB1.trans (hB2.mono hB1.size)).trans (hB3.mono (Nat.le_trans hB1.size hB2.size))
 have HX3:=Lib.hid ((hx1.below hB2 (by omega)).below hB3 (by omega))
 have HL3:=Lib.hid (hl2.below hB3 (by omega))
 have HZ3:=Lib.hid hz3
 have HB:=Lib.hid hB
 have HCALL:=Lib.hid (after_any h vi va vc x xi w3 (hW.below hB) (hr.below hB) hv ⟨by omega,by omega⟩ (hx.below hB) hs)
 have HF:Hid (Hd.Hard.Few (Hd.apply h x)):=Hd.Valid.few (Hd.valid_apply hv x) (by have:=Hd.apply_len h x;omega) (by have:=Hd.apply_len h x;omega)
 have HS:Hid (w1.heap.size=w.heap.size+1∧w2.heap.size=w.heap.size+1+1):=⟨hs1,hs2⟩
 obtain⟨c0,c1,c2,c3,c4,c5⟩:=HX3.out.all
 clear hx1 hl2 hz3 hB1 hB2 hB3 hB hs1 hs2 hs3 hW hr hv hla hx hs
 go_enter Tryz.func42,Tryz.ntmps42
 go_wp2_with (refine load_rec rfl _ rfl (w.heap.size+1) x xi (by first | rfl | (show _=_;rw[← HS.out.1];rfl)) HL3.out ?_)
 refine HCALL.out.mono ?_
 rintro e w4 ⟨ui,ua,uc,rfl,hr4,hb4⟩
 have HR4:=Lib.hid hr4
 have HB4:Hid (Below w.heap.size w w4):=HB.out.trans (hb4.mono HB.out.size)
 have HZ4:=Lib.hid (HZ3.out.below hb4 HZ3.out.lies.lt)
 clear hr4 hb4 c0 c1 c2 c3 c4 c5 HX3 HL3 HCALL
 go_wp2_with fail
 refine(copied_q (Hd.apply h x) ui ua uc w4 HR4.out HF.out).mono ?_
 rintro e w5 ⟨ti,ta,tc,rfl,hr5,hb5⟩
 have HR5:=Lib.hid hr5
 have HB5:Hid (Below w.heap.size w w5):=HB4.out.trans (hb5.mono HB4.out.size)
 have HZ5:=Lib.hid (HZ4.out.below hb5 HZ4.out.lies.lt)
 have HX5:Hid (SixAt (w5.alloc (.cells (Hd.cells (Hd.apply h x) ti ta tc) 33)) w5.heap.size 33 (Hd.apply h x).prom (Hd.apply h x).base ti ta tc):=⟨Lies.new _ _ _,hr5.rows.sl.1,hr5.rows.sl.2.1,hr5.rows.sl.2.2⟩
 clear hr5 hb5
 go_wp2_with (refine store_hard rfl _ _ rfl (by first | rfl | (show _=_;rw[HS.out.2];rfl)) HZ5.out HX5.out rfl ?_;intro w9 hx9 hg9;have HX9:=Lib.hid hx9;have HG9:=Lib.hid hg9;clear hx9 hg9)
 refine ret_hard1 rfl (by first | rfl | (rw[HS.out.2];rfl) | simp[HS.out.2]) HX9.out rfl ?_
 exact⟨_,_,_,rfl,(HR5.out.over HZ5.out HG9.out).imp fun b hb=>Nat.le_trans HB4.out.size hb,HB5.out.grown HG9.out HB5.out.size (by rintro j hj;cases hj;omega)⟩
theorem hardOf_q{p:Nat→TypeId→Prop}(v:Value)(l:List Re.Rec)(w:World)(hW:WordsIn w)(hv:RecsP p w v l)(hs : ∀x∈l,x.cmd.Short 140737488355328)(hlen:l.length≤800000) :
 Calls Tryz.prog 82 #[v] w (MadeQ (fun b=>w.heap.size≤b) w (Hd.of l)):=by
 obtain⟨ao,cap,rfl,hc1,hc2⟩:=ListP.shape hv
 have HP:=Lib.hid (fun h=>ListP.places hv cellR_first h)
 obtain⟨w1,e1,hz1,hB1,hs1⟩:=box_zero w 33
 obtain⟨w2,e2,hx2,hB2,hs2⟩:=box_zero w1 113
 rw[hs1]at hx2
 have HZ2:=Lib.hid (hz1.below hB2 (by omega))
 have HX2:=Lib.hid hx2
 have HBB:Hid (Below w.heap.size w w2):=hB1.trans (hB2.mono hB1.size)
 obtain⟨gz,hgz⟩ : ∃g,g=w.heap.size:=⟨_,rfl⟩
 obtain⟨gh,hgh⟩ : ∃g,g=w.heap.size+1:=⟨_,rfl⟩
 rw[← hgz]at HZ2
 rw[← hgh]at HX2
 obtain⟨n,hn⟩ : ∃n,n=l.length:=⟨_,rfl⟩
 rw[← hn]at hc1 HP hlen ⊢
 have HN:=Lib.hid hn;have HS:=Lib.hid hs;have HLEN:=Lib.hid hlen;have HW:=Lib.hid hW
 have HSZ2:Hid (gz≠gh∧w.heap.size≤gz∧w.heap.size≤gh):=⟨by omega,by omega,by omega⟩
 have hnb:n<9223372036854775808:=by omega
 have he1:w1.heap.size=gh:=by omega
 clear hv hn hs hz1 hx2 hB1 hB2 hlen hc2 hW
 go_enter Tryz.func82,Tryz.ntmps82
 go_wp2
 rw[← hgh, ← hgz]
 clear e1 e2 hs1 hs2 he1 hgz hgh
 go_loopw [8] (fun i wr => ∃(k:Nat) (vi va vc:Value),i = .int .i64 (k:Int)∧k≤n∧Hid (SixAt wr gh 113 (Hd.of (l.take k)).prom (Hd.of (l.take k)).base vi va vc)∧Hid (HardR wr (Hd.of (l.take k)) vi va vc)∧Hid (SixAt wr gz 33 Bl.zero 0 Nil Nil Nil)∧Hid (Below w.heap.size w wr)) (fun i _=>n - (intOf i).toNat)
 case atStart=>exact⟨0,Nil,Nil,Nil,rfl,by omega,HX2.out,⟨Reads.empty w2,ReadsR.empty _ _,ReadsR.empty _ _⟩,HZ2.out,HBB.out⟩
 case round =>
  obtain⟨k,vi,va,vc,rfl,hk,HX,HR,HZ,HB⟩:=hrel
  by_cases hlt:k<n
  ·obtain⟨x,hxl⟩ : ∃x,l[k]? = some x:=⟨_,List.getElem?_eq_getElem (by have:=HN.out;omega)⟩
   obtain⟨g,off,rfl,_,hc⟩:=HP.out (by have:=HN.out;omega)
   obtain⟨u,hu,hcell⟩:=hc k x hxl
   obtain⟨uo,uc,rfl⟩:=hu.1.shape
   have HU:=Lib.hid (fun W (h:Below w.heap.size w W)=>hu.1.below h)
   have HSX:=Lib.hid (HS.out x (List.mem_of_getElem? hxl))
   have HOF:Hid (Hd.of (l.take (k+1))=Hd.apply (Hd.of (l.take k)) x):=by show _=_;rw[Hd.take_snoc hxl,Hd.of_snoc]
   have HCELL:Hid (∀j v,(Re.cells x (.slice uo x.img.length uc))[j]? = some v→wr.cell? ⟨g,off+k*12+j,none⟩=some v):=fun j v hj=>by rw[Nat.add_assoc];exact hcell wr HB.out j v hj
   clear hc hu hcell hxl
   have HGB:Hid (gh<wr.heap.size∧gz<wr.heap.size):=⟨HX.out.lies.lt,HZ.out.lies.lt⟩
   obtain⟨h,hh⟩ : ∃h,h=Hd.of (l.take k):=⟨_,rfl⟩
   have HV:Hid (Hd.Valid h):=by rw[hh];exact Hd.valid_of _
   have HLL:Hid (h.acc.length≤900000∧h.chs.length≤900000):=by
    have h1:=Hd.of_len (l.take k)
    rw[← hh,List.length_take]at h1
    have:=HLEN.out
    exact⟨by have:=h1.1;omega,by have:=h1.2;omega⟩
   rw[← hh]at HX HR HOF
   clear hh
   go_wp2_with (first
    | (refine load_rec_at rfl _ rfl g (off+k*12) x (.slice uo x.img.length uc) rfl HCELL.out ?_)
    | (refine store_rec rfl _ _ rfl wr.heap.size Re.zero Nil x (.slice uo x.img.length uc) rfl rfl rfl (Lies.new _ _ _) ?_;intro w5 hl5 hg5;have HL5:=Lib.hid hl5;have HB5:Hid (Below wr.heap.size wr w5):=fresh_below hg5;have HX5:=Lib.hid (HX.out.below HB5.out HGB.out.1);clear hl5 hg5)
    | (refine load_state rfl _ rfl rfl HX5.out ?_)
    | (refine load_rec rfl _ rfl wr.heap.size x (.slice uo x.img.length uc) rfl HL5.out ?_))
   have HBX:Hid (Below w.heap.size w w5):=HB.out.trans (HB5.out.mono HB.out.size)
   refine(after_any h vi va vc x (.slice uo x.img.length uc) w5 (HW.out.below HBX.out) (HR.out.below HB5.out) HV.out HLL.out (HU.out _ HBX.out) HSX.out).mono ?_
   rintro e w6 ⟨ui,ua,uc', rfl,hr6,hb6⟩
   have HR6:=Lib.hid hr6
   have HX6:=Lib.hid (HX5.out.below hb6 HX5.out.lies.lt)
   have HZ6:=Lib.hid ((HZ.out.below HB5.out HGB.out.2).below hb6 (Nat.lt_of_lt_of_le HGB.out.2 HB5.out.size))
   have HB6:Hid (Below w.heap.size w w6):=HBX.out.trans (hb6.mono HBX.out.size)
   have HY6:Hid (SixAt (w6.alloc (.cells (Hd.cells (Hd.apply h x) ui ua uc') 33)) w6.heap.size 33 (Hd.apply h x).prom (Hd.apply h x).base ui ua uc'):=⟨Lies.new _ _ _,hr6.sl.1,hr6.sl.2.1,hr6.sl.2.2⟩
   clear hr6 hb6 HL5 HCELL
   go_wp2_with (refine store_state rfl _ _ rfl rfl HX6.out HY6.out rfl ?_;intro w7 hx7 hg7;have HX7:=Lib.hid hx7;have HG7:=Lib.hid hg7;clear hx7 hg7)
   have HX8:Hid (SixAt w7 gh 113 (Hd.of (l.take (k+1))).prom (Hd.of (l.take (k+1))).base ui ua uc'):=by rw[HOF.out];exact HX7.out
   have HR8:Hid (HardR w7 (Hd.of (l.take (k+1))) ui ua uc'):=by rw[HOF.out];exact HR6.out.over HX6.out HG7.out
   have HZ8:=Lib.hid (HZ6.out.kept HG7.out HSZ2.out.1)
   have HB8:Hid (Below w.heap.size w w7):=HB6.out.grown HG7.out HB6.out.size (by rintro j hj;cases hj;have:=HSZ2.out.2.2;omega)
   go_wp2
   go_roundw
   case rel=>exact⟨k+1,ui,ua,uc', by go_num,by omega,HX8.out,HR8.out,HZ8.out,HB8.out⟩
   case measure=>simp[intOf];omega
  ·obtain rfl:n=k:=by omega
   have hall:l.take n=l:=List.take_of_length_le (by have:=HN.out;omega)
   rw[hall]at HX HR
   have HF:Hid (Hd.Hard.Few (Hd.of l)):=Hd.Valid.few (Hd.valid_of l) (by have:=(Hd.of_len l).1;have:=HN.out;have:=HLEN.out;omega) (by have:=(Hd.of_len l).2;have:=HN.out;have:=HLEN.out;omega)
   clear hall
   go_wp2_with (refine load_state rfl _ rfl rfl HX.out ?_)
   refine(copied_q (Hd.of l) vi va vc wr HR.out HF.out).mono ?_
   rintro e w5 ⟨ti,ta,tc,rfl,hr5,hb5⟩
   have HR5:=Lib.hid hr5
   have HB5:Hid (Below w.heap.size w w5):=HB.out.trans (hb5.mono HB.out.size)
   have HZ5:=Lib.hid (HZ.out.below hb5 HZ.out.lies.lt)
   have HX5:Hid (SixAt (w5.alloc (.cells (Hd.cells (Hd.of l) ti ta tc) 33)) w5.heap.size 33 (Hd.of l).prom (Hd.of l).base ti ta tc):=⟨Lies.new _ _ _,hr5.rows.sl.1,hr5.rows.sl.2.1,hr5.rows.sl.2.2⟩
   clear hr5 hb5
   go_wp2_with (refine store_hard rfl _ _ rfl rfl HZ5.out HX5.out rfl ?_;intro w9 hx9 hg9;have HX9:=Lib.hid hx9;have HG9:=Lib.hid hg9;clear hx9 hg9)
   refine ret_hard1 rfl rfl HX9.out rfl ?_
   exact⟨_,_,_,rfl,(HR5.out.over HZ5.out HG9.out).imp fun b hb=>Nat.le_trans HB.out.size hb,HB5.out.grown HG9.out HB5.out.size (by rintro j hj;cases hj;have:=HSZ2.out.2.1;omega)⟩
end Go.Proofs.YtdkdjofnnnljjaaGreatDoor
