/- Several texts of mine in one: RtGet RtRead RtDec. -/
import Derived.Test.YtdkdjofnnnljjaaGreatDoorGRt
import Derived.Test.YtdkdjofnnnljjaaGreatDoorGRg
import Derived.Deep.RegionHeld3
import Derived.Deep.RegionWith
import Derived.Test.YtdkdjofnnnljjaaGreatDoorPVers
import Derived.Test.YtdkdjofnnnljjaaGreatDoorPDkMath
namespace Go.Proofs.YtdkdjofnnnljjaaGreatDoor
open Go.RowKit
set_option maxHeartbeats 6400000
set_option maxRecDepth 4000
section
def SavesR(g h:Nat)(w w' : World):Prop := ∀(k:Nat) (T:TypeId) (vs:Array Value),k≠g→k≠h→Lies w k T vs→Lies w' k T vs
theorem SavesR.refl(g h:Nat)(w:World):SavesR g h w w:=fun _ _ _ _ _ h=>h
theorem SavesR.of_below{g h:Nat}{w w' : World}(hb:Below w.heap.size w w'):SavesR g h w w' := fun _ _ _ _ _ hl=>hl.below hb hl.lt
theorem SavesR.trans{g h:Nat}{a b c:World}(x:SavesR g h a b)(y:SavesR g h b c):SavesR g h a c:=fun j T vs h1 h2 h3=>y j T vs h1 h2 (x j T vs h1 h2 h3)
theorem SavesR.of_one{g h:Nat}{w w' : World}(k:w.grownBy w' (some g)):SavesR g h w w' := fun _ _ _ h1 _ hl=>hl.kept k (by intro e;cases e;exact h1 rfl)
theorem SavesR.of_two{g h:Nat}{w w' : World}(k:w.grownBy w' (some h)):SavesR g h w w' := fun _ _ _ _ h2 hl=>hl.kept k (by intro e;cases e;exact h2 rfl)
theorem SavesR.of_o{g h:Nat}{w w' : World}(k:SavesO g w w'):SavesR g h w w' := fun j T vs h1 _ hl=>k j T vs h1 hl
structure RtAt(w0:World)(B o gx:Nat)(u:Value)(s:List UInt8)(x:Re.Rec)(vi:Value)(p:Nat × Int)(w:World):Prop where
 r:Rdr w B o u s p.1 p.2
 m:Recs w gx x vi
 i:ReadsU w vi x.img
 b:Below B w0 w
 s:SavesR o gx w0 w
def RtGot(w0:World)(B o gx:Nat)(u:Value)(s:List UInt8)(x:Re.Rec)(p:Nat × Int)(e:Ending)(w:World):Prop :=
 e = .returned (.tuple #[])∧RtAt w0 B o gx u s x (.slice none 0 0) p w
abbrev RtR(w:World)(gr o:Nat):Prop:=Lies w gr 151 #[.pointer (some ⟨o,0,none⟩)]
abbrev RtN(w:World)(gn gr:Nat):Prop:=Lies w gn 60 #[.func (.func 179) #[] #[.pointer (some ⟨gr,0,none⟩)]]
theorem Mt.num_is{s:List UInt8}{p:Nat}{er n:Int}{q:Nat}{e:Int}(h:Cm.rnum s p er=(n,(q:Int),e)):Mt.num true s (p,er)=(n,q,e):=by
 unfold Mt.num
 rw[if_pos rfl]
 dsimp only
 rw[h]
 simp
theorem rtNumber_any(w:World)(B o gr:Nat)(u:Value)(s:List UInt8)(p:Nat)(er n:Int)(q:Nat)(e:Int)(hr:Rdr w B o u s p er)(hx:e≠0→n=0)(h:Hid (Cm.rnum s p er=(n,(q:Int),e)))(hg:RtR w gr o) :
 Calls Tryz.prog 179 #[.pointer (some ⟨gr,0,none⟩)] w (Gave w B o u s q e (.int .i64 n)):=by
 have c0:=hg.cell 0 _ rfl
 have HR:=Lib.hid hr
 clear hr hg
 go_enter Tryz.func179,Tryz.ntmps179
 go_wp2_with fail
 refine(rnumber_any _ B o u s p er n q e HR.out hx h).mono ?_
 rintro e1 w1 ⟨rfl,hr1,hg1⟩
 have HR1:=Lib.hid hr1;have HG1:=Lib.hid hg1
 clear hr1 hg1
 go_wp2
 go_ret
 exact⟨rfl,HR1.out,HG1.out⟩
theorem set_bal{V:World}{h:Nat}{T:TypeId}{y0 y1 y2 y3 y4 y5 y6 y7 y8 y9 y10 y11:Value}{P:World→Prop}(hz:Lies V h T #[y0,y1,y2,y3,y4,y5,y6,y7,y8,y9,y10,y11])(a1 a2:Value)
 (hP : ∀w3,Lies w3 h T #[y0,a1,a2,y3,y4,y5,y6,y7,y8,y9,y10,y11]→V.grownBy w3 (some h)→P w3) :
 P ((V.setCell ⟨h,1,none⟩ a1).setCell ⟨h,2,none⟩ a2):=by
 refine hP _ ?_ ?_
 ·have:=(hz.set 1 a1).set 2 a2
  simpa using this
 ·exact grown_on (grown_set _ _ _ _) (grown_set _ _ _ _)
theorem rtGet_bal(k:Int)(w:World)(B o gx gr gn:Nat)(u:Value)(s:List UInt8)(p:Nat × Int)(hr:Rdr w B o u s p.1 p.2)(hl:Recs w gx ⟨k,Bl.zero,0,Cm.zero, []⟩ (.slice none 0 0))(hg:RtR w gr o)(hn:RtN w gn gr)
 (hB:B≤gx) (hxo:gx≠o) (hro:gr≠o) (hno:gn≠o) (hnx:gn≠gx) :
 Calls Tryz.prog 180 #[.pointer (some ⟨gn,0,none⟩), .pointer (some ⟨gx,0,none⟩)] w
  (RtGot w B o gx u s ⟨k,⟨(Mt.num true s p).1,(Mt.num true s (Mt.num true s p).2).1⟩,0,Cm.zero, []⟩ (Mt.num true s (Mt.num true s p).2).2):=by
 obtain⟨p,er⟩:=p
 obtain⟨n1,q1,er1,hq1,hx1,_,_⟩:=Cm.rnum_res s p er
 obtain⟨n2,q2,er2,hq2,hx2,_,_⟩:=Cm.rnum_res s q1 er1
 rw[Mt.num_is hq1]
 dsimp only
 rw[Mt.num_is hq2]
 dsimp only at hr ⊢
 have HQ1:=Lib.hid hq1;have HQ2:=Lib.hid hq2
 have hgl:=hl.lt
 have hBw:B≤w.heap.size:=by omega
 have c0:=hn.cell 0 _ rfl
 have HR:=Lib.hid hr;have HL:=Lib.hid hl;have HG:=Lib.hid hg;have HN:=Lib.hid hn
 have hd:Below w.heap.size w w.drew:=(Below.refl _ w).drew
 have HN1:=Lib.hid (rtNumber_any w.drew B o gr u s p er n1 q1 er1 (hr.kept hd) hx1 HQ1 (hg.below hd hg.lt))
 have ne1 : ¬gn=gx:=hnx
 have ne2 : ¬gx=gn:=fun h=>hnx h.symm
 clear hr hl hg hn hq1 hq2 hd
 go_enter Tryz.func180,Tryz.ntmps180
 go_wp2
 go_region_held3 (fun W=>W.cell? ⟨gn,0,none⟩=some (.func (.func 179) #[] #[.pointer (some ⟨gr,0,none⟩)])) (first | go_keep | exact K5 | exact K6) (first
  | (go_at_call 179
     with_reducible refine HN1.out.mono ?_
     rintro e5 w5 ⟨rfl,hr5,hg5⟩
     have hgd:w.drew.grownBy w5 (some o):=hg5
     have HL5:Hid (Recs w5 gx ⟨k,Bl.zero,0,Cm.zero, []⟩ (.slice none 0 0)):=(HL.out.below (Below.refl _ w).drew HL.out.lt).kept hgd (by simp;exact hxo)
     have HG5:=Lib.hid ((HG.out.below (Below.refl _ w).drew HG.out.lt).kept hgd (by simp;exact hro))
     have hn5:=(HN.out.below (Below.refl _ w).drew HN.out.lt).kept hgd (by simp;exact hno)
     have HN5:=Lib.hid hn5
     have K5:w5.cell? ⟨gn,0,none⟩=some (.func (.func 179) #[] #[.pointer (some ⟨gr,0,none⟩)]):=hn5.cell 0 _ rfl
     have HB5:Hid (Below B w w5):=((Below.refl B w).drew).grown hgd hBw (by rintro x hx;cases hx;exact hr5.base)
     have HS5:Hid (SavesR o gx w w5):=(SavesR.of_below (Below.refl _ w).drew).trans (SavesR.of_one hgd)
     have HN2:=Lib.hid (rtNumber_any w5 B o gr u s q1 er1 n2 q2 er2 hr5 hx2 HQ2 HG5.out)
     clear hr5 hg5 hgd hn5)
  | (go_at_call 179
     with_reducible refine HN2.out.mono ?_
     rintro e6 w6 ⟨rfl,hr6,hg6⟩
     have hl6:Recs w6 gx ⟨k,Bl.zero,0,Cm.zero, []⟩ (.slice none 0 0):=HL5.out.kept hg6 (by simp;exact hxo)
     have hn6:=HN5.out.kept hg6 (by simp;exact hno)
     have K6:w6.cell? ⟨gn,0,none⟩=some (.func (.func 179) #[] #[.pointer (some ⟨gr,0,none⟩)]):=hn6.cell 0 _ rfl
     have c1:w6.cell? ⟨gx,1,none⟩=some (.int .i64 0):=Recs.c1 hl6
     have c2:w6.cell? ⟨gx,2,none⟩=some (.int .i64 0):=Recs.c2 hl6
     have f1:=hl6.free 1;have f2:=hl6.free 2
     have HR6:=Lib.hid hr6;have HL6:=Lib.hid hl6
     have HB6:=Lib.hid (HB5.out.grown hg6 (Nat.le_trans hBw HB5.out.size) (by rintro x hx;cases hx;exact hr6.base))
     have HS6:=Lib.hid (HS5.out.trans (SavesR.of_one hg6))
     clear hr6 hg6 hl6 hn6))
 all_goals
  refine set_bal HL6.out _ _ ?_
  intro w7 hl7 hg7
  have hl7' : Recs w7 gx ⟨k,⟨n1,n2⟩,0,Cm.zero, []⟩ (.slice none 0 0):=hl7
  have HX:Hid (RtAt w B o gx u s ⟨k,⟨n1,n2⟩,0,Cm.zero, []⟩ (.slice none 0 0) (q2,er2) w7) :=
   ⟨HR6.out.beside' hg7 hxo (fun h=>HL6.out.not_row (by decide) HR6.out.owns h.symm),hl7', ReadsU.empty _,HB6.out.grown hg7 (Nat.le_trans hBw HB6.out.size) (by rintro x hx;cases hx;exact hB),HS6.out.trans (SavesR.of_two hg7)⟩
  clear hl7 hg7 hl7'
  go_wp2
  go_end0
  exact⟨rfl,HX.out⟩
theorem rtGet_index(k:Int)(b:Bl.Bal)(w:World)(B o gx gr gn:Nat)(u:Value)(s:List UInt8)(p:Nat × Int)(hr:Rdr w B o u s p.1 p.2)(hl:Recs w gx ⟨k,b,0,Cm.zero, []⟩ (.slice none 0 0))(hg:RtR w gr o)(hn:RtN w gn gr)
 (hB:B≤gx) (hxo:gx≠o) :
 Calls Tryz.prog 181 #[.pointer (some ⟨gn,0,none⟩), .pointer (some ⟨gx,0,none⟩)] w
  (RtGot w B o gx u s ⟨k,b,(Mt.num true s p).1,Cm.zero, []⟩ (Mt.num true s p).2):=by
 obtain⟨p,er⟩:=p
 obtain⟨n1,q1,er1,hq1,hx1,_,_⟩:=Cm.rnum_res s p er
 rw[Mt.num_is hq1]
 dsimp only at hr ⊢
 have hgl:=hl.lt
 have hBw:B≤w.heap.size:=by omega
 have c0:=hn.cell 0 _ rfl
 have HN1:=Lib.hid (rtNumber_any w B o gr u s p er n1 q1 er1 hr hx1 (Lib.hid hq1) hg)
 have HL:=Lib.hid hl
 clear hr hl hg hn hq1
 go_enter Tryz.func181,Tryz.ntmps181
 go_wp2_with fail
 refine HN1.out.mono ?_
 rintro e5 w5 ⟨rfl,hr5,hg5⟩
 have HL5:Hid (Recs w5 gx ⟨k,b,0,Cm.zero, []⟩ (.slice none 0 0)):=HL.out.kept hg5 (by simp;exact hxo)
 have HR5:=Lib.hid hr5
 have HB5:=Lib.hid ((Below.refl B w).grown hg5 hBw (by rintro x hx;cases hx;exact hr5.base))
 have HS5:Hid (SavesR o gx w w5):=SavesR.of_one hg5
 clear hr5 hg5 c0
 go_wp2_with (first
  | (refine store_part (by rfl) _ _ _ (by rfl) gx 3 _ _ (Re.cells ⟨k,b,n1,Cm.zero, []⟩ (.slice none 0 0)) (.int .i64 n1) [.int .i64 n1] (by rfl) (by rfl) (by rfl) (by kernel_rfl) (by rfl) HL5.out (Nat.le_of_ble_eq_true rfl) (by rfl) ?_
     intro w7 hl7 hg7
     have HX:Hid (RtAt w B o gx u s ⟨k,b,n1,Cm.zero, []⟩ (.slice none 0 0) (q1,er1) w7) :=
      ⟨HR5.out.beside' hg7 hxo (fun h=>HL5.out.not_row (by decide) HR5.out.owns h.symm),hl7,ReadsU.empty _,HB5.out.grown hg7 (Nat.le_trans hBw HB5.out.size) (by rintro x hx;cases hx;exact hB),HS5.out.trans (SavesR.of_two hg7)⟩
     clear hl7 hg7)
  | fail)
 go_end0
 exact⟨rfl,HX.out⟩
theorem rtGet_cmd(k:Int)(b:Bl.Bal)(i:Int)(w:World)(B o gx gr:Nat)(u:Value)(s:List UInt8)(p:Nat × Int)(hr:Rdr w B o u s p.1 p.2)(hl:Recs w gx ⟨k,b,i,Cm.zero, []⟩ (.slice none 0 0))(hg:RtR w gr o)
 (hB:B≤gx) (hxo:gx≠o) :
 Calls Tryz.prog 182 #[.pointer (some ⟨gr,0,none⟩), .pointer (some ⟨gx,0,none⟩)] w
  (RtGot w B o gx u s ⟨k,b,i,(Rt.cmd true s p).1, []⟩ (Rt.cmd true s p).2):=by
 obtain⟨p,er⟩:=p
 have hc:Rt.cmd true s (p,er)=Cm.get 2 s p er:=rfl
 rw[hc]
 dsimp only at hr ⊢
 have hgl:=hl.lt
 have hBw:B≤w.heap.size:=by omega
 have c0:=hg.cell 0 _ rfl
 have HL:=Lib.hid hl;have HR:=Lib.hid hr
 clear hr hl hg hc
 go_enter Tryz.func182,Tryz.ntmps182
 go_wp2_with fail
 refine(cgetS_any 2 _ B o u s p er rfl HR.out hBw).mono ?_
 rintro e5 w5 ⟨⟨rfl,hr5,hb5⟩,hs5⟩
 obtain⟨t,ht⟩ : ∃t,t=Cm.get 2 s p er:=⟨_,rfl⟩
 rw[← ht]at hr5 ⊢
 have HT:=Lib.hid ht
 have HL5:=Lib.hid (hs5 _ _ _ hxo HL.out)
 have HR5:=Lib.hid hr5
 have HB5:=Lib.hid hb5
 have HS5:Hid (SavesR o gx w w5):=SavesR.of_o hs5
 clear hr5 hs5 hb5 c0 ht
 go_wp2_with (first
  | (refine store_part (by rfl) _ _ _ (by rfl) gx 4 _ _ (Re.cells ⟨k,b,i,t.1, []⟩ (.slice none 0 0)) (.agg (Cm.cells t.1)) (Cm.cells t.1).toList (by rfl) (by rfl) (by rfl) (by kernel_rfl) (by rw[Array.all_toList];exact Cm.cells_one _) HL5.out (Nat.le_of_ble_eq_true rfl) (by rfl) ?_
     intro w7 hl7 hg7
     have HX:Hid (RtAt w B o gx u s ⟨k,b,i,t.1, []⟩ (.slice none 0 0) t.2 w7) :=
      ⟨HR5.out.beside' hg7 hxo (fun h=>HL5.out.not_row (by decide) HR5.out.owns h.symm),hl7,ReadsU.empty _,HB5.out.grown hg7 (Nat.le_trans hBw HB5.out.size) (by rintro x hx;cases hx;exact hB),HS5.out.trans (SavesR.of_two hg7)⟩
     clear hl7 hg7)
  | fail)
 go_end0
 exact⟨rfl,by rw[← HT.out];exact HX.out⟩
def RtDone(w0:World)(B o gx:Nat)(u:Value)(s:List UInt8)(x:Re.Rec)(p:Nat × Int)(w:World):Prop := ∃vi,RtAt w0 B o gx u s x vi p w
theorem rtGet_img(k:Int)(b:Bl.Bal)(i:Int)(c:Cm.Cmd)(w:World)(B o gx gr:Nat)(u:Value)(s:List UInt8)(p:Nat × Int)(hr:Rdr w B o u s p.1 p.2)(hl:Recs w gx ⟨k,b,i,c, []⟩ (.slice none 0 0))(hg:RtR w gr o)
 (hB:B≤gx) (hxo:gx≠o) :
 Calls Tryz.prog 183 #[.pointer (some ⟨gr,0,none⟩), .pointer (some ⟨gx,0,none⟩)] w
  (fun e w' => e = .returned (.tuple #[])∧RtDone w B o gx u s ⟨k,b,i,c,(Mt.img true s p).1⟩ (Mt.img true s p).2 w'):=by
 obtain⟨p,er⟩:=p
 have hsm:=hr.small
 obtain⟨x,q,e,hq,hx,hxl⟩ : ∃(x:List UInt8) (q:Nat) (e:Int),Ms.raw s p er=(x,(q:Int),e)∧(e≠0→x = [])∧x.length≤s.length:=by
  rcases Ms.raw_cases s p er hr.inn with ⟨e,q,_,_,h⟩ | ⟨x,q,_,_,h1,h,_⟩
  ·exact⟨[],q,e,h,fun _=>rfl,Nat.zero_le _⟩
  ·exact⟨x,q,0,h,fun h=>absurd rfl h,h1⟩
 have hi:Mt.img true s (p,er)=(x,q,e):=by unfold Mt.img;rw[if_pos rfl];dsimp only;rw[hq];simp
 rw[hi]
 dsimp only at hr ⊢
 have hgl:=hl.lt
 have hBw:B≤w.heap.size:=by omega
 have c0:=hg.cell 0 _ rfl
 have HL:=Lib.hid hl;have HR:=Lib.hid hr;have HQ:=Lib.hid hq
 clear hr hl hg hi hq
 go_enter Tryz.func183,Tryz.ntmps183
 go_wp2_with fail
 refine(rrawB_any _ B o u s p er x q e HR.out hx (by omega) HQ).mono ?_
 rintro e6 w6 ⟨vi,⟨rfl,hr6,hg6⟩,hi6⟩
 obtain⟨io,ic,rfl⟩:=hi6.shape
 obtain⟨xn,hxn⟩ : ∃xn,xn=x.length:=⟨_,rfl⟩
 rw[← hxn]at hi6 ⊢
 have HL6:=Lib.hid (HL.out.kept hg6 (by simp;exact hxo))
 have HI6:=Lib.hid hi6;have HR6:=Lib.hid hr6
 have HB6:=Lib.hid ((Below.refl B w).grown hg6 hBw (by rintro x hx;cases hx;exact hr6.base))
 have HS6:Hid (SavesR o gx w w6):=SavesR.of_one hg6
 clear hr6 hg6 hi6 hxn c0
 go_wp2_with (first
  | (refine store_part (by rfl) _ _ _ (by rfl) gx 11 _ _ (Re.cells ⟨k,b,i,c,x⟩ (.slice io xn ic)) (.slice io xn ic) [.slice io xn ic] (by rfl) (by rfl) (by rfl) (by kernel_rfl) (by rfl) HL6.out (Nat.le_of_ble_eq_true rfl) (by rfl) ?_
     intro w7 hl7 hg7
     have HX:Hid (RtAt w B o gx u s ⟨k,b,i,c,x⟩ (.slice io xn ic) (q,e) w7) :=
      ⟨HR6.out.beside' hg7 hxo (fun h=>HL6.out.not_row (by decide) HR6.out.owns h.symm),hl7,HI6.out.kept_rec HL6.out hg7,HB6.out.grown hg7 (Nat.le_trans hBw HB6.out.size) (by rintro x hx;cases hx;exact hB),HS6.out.trans (SavesR.of_two hg7)⟩
     clear hl7 hg7)
  | fail)
 go_end0
 exact⟨rfl,_,HX.out⟩
section
variable (t : Bool) (g : Nat) (k : Int) (w : World) (B o gx gr gn : Nat) (u : Value) (s : List UInt8) (p : Nat × Int) (hr : Rdr w B o u s p.1 p.2) (hg : RtR w gr o) (hB : B ≤ gx) (hxo : gx ≠ o)
include hr hg hB hxo
theorem rtLinkGet_bal(hl:Recs w gx ⟨k,Bl.zero,0,Cm.zero, []⟩ (.slice none 0 0))(hn:RtN w gn gr)(hro:gr≠o)(hno:gn≠o)(hnx:gn≠gx)(hc:Fun2 w g 180 gn gx) :
 Calls Tryz.prog 163 #[.bool t, .pointer (some ⟨g,0,none⟩)] w (RtGot w B o gx u s ⟨k,⟨(Mt.num t s p).1,(Mt.num t s (Mt.num t s p).2).1⟩,0,Cm.zero, []⟩ (Mt.num t s (Mt.num t s p).2).2) :=
 rtLink_r2 t g gn gx w (RtAt w B o gx u s ⟨k,⟨(Mt.num t s p).1,(Mt.num t s (Mt.num t s p).2).1⟩,0,Cm.zero, []⟩ (.slice none 0 0) (Mt.num t s (Mt.num t s p).2).2) hc
  (fun h=>by subst h;exact rtGet_bal k w B o gx gr gn u s p hr hl hg hn hB hxo hro hno hnx)
  (fun h=>by subst h;exact⟨hr,hl,ReadsU.empty _,Below.refl _ _,SavesR.refl _ _ _⟩)
theorem rtLinkGet_index(b:Bl.Bal)(hl:Recs w gx ⟨k,b,0,Cm.zero, []⟩ (.slice none 0 0))(hn:RtN w gn gr)(hc:Fun2 w g 181 gn gx) :
 Calls Tryz.prog 163 #[.bool t, .pointer (some ⟨g,0,none⟩)] w (RtGot w B o gx u s ⟨k,b,(Mt.num t s p).1,Cm.zero, []⟩ (Mt.num t s p).2) :=
 rtLink_r3 t g gn gx w (RtAt w B o gx u s ⟨k,b,(Mt.num t s p).1,Cm.zero, []⟩ (.slice none 0 0) (Mt.num t s p).2) hc
  (fun h=>by subst h;exact rtGet_index k b w B o gx gr gn u s p hr hl hg hn hB hxo)
  (fun h=>by subst h;exact⟨hr,hl,ReadsU.empty _,Below.refl _ _,SavesR.refl _ _ _⟩)
theorem rtLinkGet_cmd(b:Bl.Bal)(i:Int)(hl:Recs w gx ⟨k,b,i,Cm.zero, []⟩ (.slice none 0 0))(hc:Fun2 w g 182 gr gx) :
 Calls Tryz.prog 163 #[.bool t, .pointer (some ⟨g,0,none⟩)] w (RtGot w B o gx u s ⟨k,b,i,(Rt.cmd t s p).1, []⟩ (Rt.cmd t s p).2) :=
 rtLink_r4 t g gr gx w (RtAt w B o gx u s ⟨k,b,i,(Rt.cmd t s p).1, []⟩ (.slice none 0 0) (Rt.cmd t s p).2) hc
  (fun h=>by subst h;exact rtGet_cmd k b i w B o gx gr u s p hr hl hg hB hxo)
  (fun h=>by subst h;exact⟨hr,hl,ReadsU.empty _,Below.refl _ _,SavesR.refl _ _ _⟩)
theorem rtLinkGet_img(b:Bl.Bal)(i:Int)(c:Cm.Cmd)(hl:Recs w gx ⟨k,b,i,c, []⟩ (.slice none 0 0))(hc:Fun2 w g 183 gr gx) :
 Calls Tryz.prog 163 #[.bool t, .pointer (some ⟨g,0,none⟩)] w (fun e w' => e = .returned (.tuple #[])∧RtDone w B o gx u s ⟨k,b,i,c,(Mt.img t s p).1⟩ (Mt.img t s p).2 w') :=
 rtLink_r5 t g gr gx w (RtDone w B o gx u s ⟨k,b,i,c,(Mt.img t s p).1⟩ (Mt.img t s p).2) hc
  (fun h=>by subst h;exact rtGet_img k b i c w B o gx gr u s p hr hl hg hB hxo)
  (fun h=>by subst h;exact⟨_,hr,hl,ReadsU.empty _,Below.refl _ _,SavesR.refl _ _ _⟩)
end
def Rt.f1(k:Int)(s:List UInt8)(p:Nat × Int):=Mt.num (Re.hb k) s p
def Rt.f2(k:Int)(s:List UInt8)(p:Nat × Int):=Mt.num (Re.hb k) s (Rt.f1 k s p).2
def Rt.f3(k:Int)(s:List UInt8)(p:Nat × Int):=Mt.num (Re.hi k) s (Rt.f2 k s p).2
def Rt.f4(k:Int)(s:List UInt8)(p:Nat × Int):=Rt.cmd (Re.hc k) s (Rt.f3 k s p).2
def Rt.f5(k:Int)(s:List UInt8)(p:Nat × Int):=Mt.img (Re.hm k) s (Rt.f4 k s p).2
def Rt.rec(k:Int)(s:List UInt8)(p:Nat × Int):Re.Rec:=⟨k,⟨(Rt.f1 k s p).1,(Rt.f2 k s p).1⟩,(Rt.f3 k s p).1,(Rt.f4 k s p).1,(Rt.f5 k s p).1⟩
theorem rtRunR_1(w:World)(B o gx gr gn g1 g2 g3 g4:Nat)(u:Value)(s:List UInt8)(p:Nat × Int)(hr:Rdr w B o u s p.1 p.2)(hl:Recs w gx ⟨1,Bl.zero,0,Cm.zero, []⟩ (.slice none 0 0))(hg:RtR w gr o)(hn:RtN w gn gr)(hB:B≤gx)(hxo:gx≠o)(hro:gr≠o)(hrx:gr≠gx)(hno:gn≠o)(hnx:gn≠gx)(ho:o≠g1∧o≠g2∧o≠g3∧o≠g4)(hgx:gx≠g1∧gx≠g2∧gx≠g3∧gx≠g4)(hc:Rt.Chain w g1 g2 g3 g4 180 181 182 183 gn gr gx) :
 Calls Tryz.prog 131 #[.int .i64 1,Rt.link g1,Rt.link g2,Rt.link g3,Rt.link g4] w (fun e w' => e = .returned (.tuple #[])∧RtDone w B o gx u s (Rt.rec 1 s p) (Rt.f5 1 s p).2 w'):=by
 have HR:=Lib.hid hr;have HL:=Lib.hid hl;have HG:=Lib.hid hg;have HN:=Lib.hid hn;have HC:=Lib.hid hc
 have HO:=Lib.hid ho;have HX:=Lib.hid hgx
 clear hr hl hg hn hc ho hgx
 go_enter Tryz.func131,Tryz.ntmps131
 go_wp2_with fail
 refine(rtLinkGet_bal true g1 1 _ B o gx gr gn u s p HR.out HG.out hB hxo HL.out HN.out hro hno hnx HC.out.l1).mono ?_
 rintro e1 w1 ⟨rfl,hr1,hl1,_,hb1,hs1⟩
 rw[show Mt.num true s p=Rt.f1 1 s p from rfl,show Mt.num true s (Rt.f1 1 s p).2=Rt.f2 1 s p from rfl]at hr1 hl1
 have HR1:=Lib.hid hr1;have HL1:=Lib.hid hl1;have HB1:=Lib.hid hb1;have HS1:=Lib.hid hs1
 have HG1:=Lib.hid (hs1 _ _ _ hro hrx HG.out);have HN1:=Lib.hid (hs1 _ _ _ hno hnx HN.out)
 have HC1:=Lib.hid (HC.out.by fun g f x y h k=>hs1 _ _ _ (by have:=HO.out;omega) (by have:=HX.out;omega) k)
 clear hr1 hl1 hb1 hs1
 go_wp2_with fail
 refine(rtLinkGet_index false g2 1 _ B o gx gr gn u s _ HR1.out HG1.out hB hxo _ HL1.out HN1.out HC1.out.l2).mono ?_
 rintro e2 w2 ⟨rfl,hr2,hl2,_,hb2,hs2⟩
 rw[show Mt.num false s (Rt.f2 1 s p).2=Rt.f3 1 s p from rfl]at hr2 hl2
 have HR2:=Lib.hid hr2;have HL2:=Lib.hid hl2;have HB2:=Lib.hid (HB1.out.trans hb2);have HS2:=Lib.hid (HS1.out.trans hs2)
 have HG2:=Lib.hid (hs2 _ _ _ hro hrx HG1.out)
 have HC2:=Lib.hid (HC1.out.by fun g f x y h k=>hs2 _ _ _ (by have:=HO.out;omega) (by have:=HX.out;omega) k)
 clear hr2 hl2 hb2 hs2
 go_wp2_with fail
 refine(rtLinkGet_cmd false g3 1 _ B o gx gr u s _ HR2.out HG2.out hB hxo _ _ HL2.out HC2.out.l3).mono ?_
 rintro e3 w3 ⟨rfl,hr3,hl3,_,hb3,hs3⟩
 rw[show Rt.cmd false s (Rt.f3 1 s p).2=Rt.f4 1 s p from rfl]at hr3 hl3
 have HR3:=Lib.hid hr3;have HL3:=Lib.hid hl3;have HB3:=Lib.hid (HB2.out.trans hb3);have HS3:=Lib.hid (HS2.out.trans hs3)
 have HG3:=Lib.hid (hs3 _ _ _ hro hrx HG2.out)
 have HC3:=Lib.hid (HC2.out.by fun g f x y h k=>hs3 _ _ _ (by have:=HO.out;omega) (by have:=HX.out;omega) k)
 clear hr3 hl3 hb3 hs3
 go_wp2_with fail
 refine(rtLinkGet_img false g4 1 _ B o gx gr u s _ HR3.out HG3.out hB hxo _ _ _ HL3.out HC3.out.l4).mono ?_
 rintro e4 w4 ⟨rfl,vi,hr4,hl4,hi4,hb4,hs4⟩
 rw[show Mt.img false s (Rt.f4 1 s p).2=Rt.f5 1 s p from rfl]at hr4 hl4 hi4
 have HD:Hid (RtAt w B o gx u s (Rt.rec 1 s p) vi (Rt.f5 1 s p).2 w4):=⟨hr4,hl4,hi4,HB3.out.trans hb4,HS3.out.trans hs4⟩
 clear hr4 hl4 hi4 hb4 hs4
 go_wp2
 go_end0
 exact⟨rfl,vi,HD.out⟩
theorem rtRunR_2(w:World)(B o gx gr gn g1 g2 g3 g4:Nat)(u:Value)(s:List UInt8)(p:Nat × Int)(hr:Rdr w B o u s p.1 p.2)(hl:Recs w gx ⟨2,Bl.zero,0,Cm.zero, []⟩ (.slice none 0 0))(hg:RtR w gr o)(hn:RtN w gn gr)(hB:B≤gx)(hxo:gx≠o)(hro:gr≠o)(hrx:gr≠gx)(hno:gn≠o)(hnx:gn≠gx)(ho:o≠g1∧o≠g2∧o≠g3∧o≠g4)(hgx:gx≠g1∧gx≠g2∧gx≠g3∧gx≠g4)(hc:Rt.Chain w g1 g2 g3 g4 180 181 182 183 gn gr gx) :
 Calls Tryz.prog 131 #[.int .i64 2,Rt.link g1,Rt.link g2,Rt.link g3,Rt.link g4] w (fun e w' => e = .returned (.tuple #[])∧RtDone w B o gx u s (Rt.rec 2 s p) (Rt.f5 2 s p).2 w'):=by
 have HR:=Lib.hid hr;have HL:=Lib.hid hl;have HG:=Lib.hid hg;have HN:=Lib.hid hn;have HC:=Lib.hid hc
 have HO:=Lib.hid ho;have HX:=Lib.hid hgx
 clear hr hl hg hn hc ho hgx
 go_enter Tryz.func131,Tryz.ntmps131
 go_wp2_with fail
 refine(rtLinkGet_bal true g1 2 _ B o gx gr gn u s p HR.out HG.out hB hxo HL.out HN.out hro hno hnx HC.out.l1).mono ?_
 rintro e1 w1 ⟨rfl,hr1,hl1,_,hb1,hs1⟩
 rw[show Mt.num true s p=Rt.f1 2 s p from rfl,show Mt.num true s (Rt.f1 2 s p).2=Rt.f2 2 s p from rfl]at hr1 hl1
 have HR1:=Lib.hid hr1;have HL1:=Lib.hid hl1;have HB1:=Lib.hid hb1;have HS1:=Lib.hid hs1
 have HG1:=Lib.hid (hs1 _ _ _ hro hrx HG.out);have HN1:=Lib.hid (hs1 _ _ _ hno hnx HN.out)
 have HC1:=Lib.hid (HC.out.by fun g f x y h k=>hs1 _ _ _ (by have:=HO.out;omega) (by have:=HX.out;omega) k)
 clear hr1 hl1 hb1 hs1
 go_wp2_with fail
 refine(rtLinkGet_index true g2 2 _ B o gx gr gn u s _ HR1.out HG1.out hB hxo _ HL1.out HN1.out HC1.out.l2).mono ?_
 rintro e2 w2 ⟨rfl,hr2,hl2,_,hb2,hs2⟩
 rw[show Mt.num true s (Rt.f2 2 s p).2=Rt.f3 2 s p from rfl]at hr2 hl2
 have HR2:=Lib.hid hr2;have HL2:=Lib.hid hl2;have HB2:=Lib.hid (HB1.out.trans hb2);have HS2:=Lib.hid (HS1.out.trans hs2)
 have HG2:=Lib.hid (hs2 _ _ _ hro hrx HG1.out)
 have HC2:=Lib.hid (HC1.out.by fun g f x y h k=>hs2 _ _ _ (by have:=HO.out;omega) (by have:=HX.out;omega) k)
 clear hr2 hl2 hb2 hs2
 go_wp2_with fail
 refine(rtLinkGet_cmd true g3 2 _ B o gx gr u s _ HR2.out HG2.out hB hxo _ _ HL2.out HC2.out.l3).mono ?_
 rintro e3 w3 ⟨rfl,hr3,hl3,_,hb3,hs3⟩
 rw[show Rt.cmd true s (Rt.f3 2 s p).2=Rt.f4 2 s p from rfl]at hr3 hl3
 have HR3:=Lib.hid hr3;have HL3:=Lib.hid hl3;have HB3:=Lib.hid (HB2.out.trans hb3);have HS3:=Lib.hid (HS2.out.trans hs3)
 have HG3:=Lib.hid (hs3 _ _ _ hro hrx HG2.out)
 have HC3:=Lib.hid (HC2.out.by fun g f x y h k=>hs3 _ _ _ (by have:=HO.out;omega) (by have:=HX.out;omega) k)
 clear hr3 hl3 hb3 hs3
 go_wp2_with fail
 refine(rtLinkGet_img false g4 2 _ B o gx gr u s _ HR3.out HG3.out hB hxo _ _ _ HL3.out HC3.out.l4).mono ?_
 rintro e4 w4 ⟨rfl,vi,hr4,hl4,hi4,hb4,hs4⟩
 rw[show Mt.img false s (Rt.f4 2 s p).2=Rt.f5 2 s p from rfl]at hr4 hl4 hi4
 have HD:Hid (RtAt w B o gx u s (Rt.rec 2 s p) vi (Rt.f5 2 s p).2 w4):=⟨hr4,hl4,hi4,HB3.out.trans hb4,HS3.out.trans hs4⟩
 clear hr4 hl4 hi4 hb4 hs4
 go_wp2
 go_end0
 exact⟨rfl,vi,HD.out⟩
theorem rtRunR_3(w:World)(B o gx gr gn g1 g2 g3 g4:Nat)(u:Value)(s:List UInt8)(p:Nat × Int)(hr:Rdr w B o u s p.1 p.2)(hl:Recs w gx ⟨3,Bl.zero,0,Cm.zero, []⟩ (.slice none 0 0))(hg:RtR w gr o)(hn:RtN w gn gr)(hB:B≤gx)(hxo:gx≠o)(hro:gr≠o)(hrx:gr≠gx)(hno:gn≠o)(hnx:gn≠gx)(ho:o≠g1∧o≠g2∧o≠g3∧o≠g4)(hgx:gx≠g1∧gx≠g2∧gx≠g3∧gx≠g4)(hc:Rt.Chain w g1 g2 g3 g4 180 181 182 183 gn gr gx) :
 Calls Tryz.prog 131 #[.int .i64 3,Rt.link g1,Rt.link g2,Rt.link g3,Rt.link g4] w (fun e w' => e = .returned (.tuple #[])∧RtDone w B o gx u s (Rt.rec 3 s p) (Rt.f5 3 s p).2 w'):=by
 have HR:=Lib.hid hr;have HL:=Lib.hid hl;have HG:=Lib.hid hg;have HN:=Lib.hid hn;have HC:=Lib.hid hc
 have HO:=Lib.hid ho;have HX:=Lib.hid hgx
 clear hr hl hg hn hc ho hgx
 go_enter Tryz.func131,Tryz.ntmps131
 go_wp2_with fail
 refine(rtLinkGet_bal false g1 3 _ B o gx gr gn u s p HR.out HG.out hB hxo HL.out HN.out hro hno hnx HC.out.l1).mono ?_
 rintro e1 w1 ⟨rfl,hr1,hl1,_,hb1,hs1⟩
 rw[show Mt.num false s p=Rt.f1 3 s p from rfl,show Mt.num false s (Rt.f1 3 s p).2=Rt.f2 3 s p from rfl]at hr1 hl1
 have HR1:=Lib.hid hr1;have HL1:=Lib.hid hl1;have HB1:=Lib.hid hb1;have HS1:=Lib.hid hs1
 have HG1:=Lib.hid (hs1 _ _ _ hro hrx HG.out);have HN1:=Lib.hid (hs1 _ _ _ hno hnx HN.out)
 have HC1:=Lib.hid (HC.out.by fun g f x y h k=>hs1 _ _ _ (by have:=HO.out;omega) (by have:=HX.out;omega) k)
 clear hr1 hl1 hb1 hs1
 go_wp2_with fail
 refine(rtLinkGet_index true g2 3 _ B o gx gr gn u s _ HR1.out HG1.out hB hxo _ HL1.out HN1.out HC1.out.l2).mono ?_
 rintro e2 w2 ⟨rfl,hr2,hl2,_,hb2,hs2⟩
 rw[show Mt.num true s (Rt.f2 3 s p).2=Rt.f3 3 s p from rfl]at hr2 hl2
 have HR2:=Lib.hid hr2;have HL2:=Lib.hid hl2;have HB2:=Lib.hid (HB1.out.trans hb2);have HS2:=Lib.hid (HS1.out.trans hs2)
 have HG2:=Lib.hid (hs2 _ _ _ hro hrx HG1.out)
 have HC2:=Lib.hid (HC1.out.by fun g f x y h k=>hs2 _ _ _ (by have:=HO.out;omega) (by have:=HX.out;omega) k)
 clear hr2 hl2 hb2 hs2
 go_wp2_with fail
 refine(rtLinkGet_cmd true g3 3 _ B o gx gr u s _ HR2.out HG2.out hB hxo _ _ HL2.out HC2.out.l3).mono ?_
 rintro e3 w3 ⟨rfl,hr3,hl3,_,hb3,hs3⟩
 rw[show Rt.cmd true s (Rt.f3 3 s p).2=Rt.f4 3 s p from rfl]at hr3 hl3
 have HR3:=Lib.hid hr3;have HL3:=Lib.hid hl3;have HB3:=Lib.hid (HB2.out.trans hb3);have HS3:=Lib.hid (HS2.out.trans hs3)
 have HG3:=Lib.hid (hs3 _ _ _ hro hrx HG2.out)
 have HC3:=Lib.hid (HC2.out.by fun g f x y h k=>hs3 _ _ _ (by have:=HO.out;omega) (by have:=HX.out;omega) k)
 clear hr3 hl3 hb3 hs3
 go_wp2_with fail
 refine(rtLinkGet_img false g4 3 _ B o gx gr u s _ HR3.out HG3.out hB hxo _ _ _ HL3.out HC3.out.l4).mono ?_
 rintro e4 w4 ⟨rfl,vi,hr4,hl4,hi4,hb4,hs4⟩
 rw[show Mt.img false s (Rt.f4 3 s p).2=Rt.f5 3 s p from rfl]at hr4 hl4 hi4
 have HD:Hid (RtAt w B o gx u s (Rt.rec 3 s p) vi (Rt.f5 3 s p).2 w4):=⟨hr4,hl4,hi4,HB3.out.trans hb4,HS3.out.trans hs4⟩
 clear hr4 hl4 hi4 hb4 hs4
 go_wp2
 go_end0
 exact⟨rfl,vi,HD.out⟩
theorem rtRunR_4(w:World)(B o gx gr gn g1 g2 g3 g4:Nat)(u:Value)(s:List UInt8)(p:Nat × Int)(hr:Rdr w B o u s p.1 p.2)(hl:Recs w gx ⟨4,Bl.zero,0,Cm.zero, []⟩ (.slice none 0 0))(hg:RtR w gr o)(hn:RtN w gn gr)(hB:B≤gx)(hxo:gx≠o)(hro:gr≠o)(hrx:gr≠gx)(hno:gn≠o)(hnx:gn≠gx)(ho:o≠g1∧o≠g2∧o≠g3∧o≠g4)(hgx:gx≠g1∧gx≠g2∧gx≠g3∧gx≠g4)(hc:Rt.Chain w g1 g2 g3 g4 180 181 182 183 gn gr gx) :
 Calls Tryz.prog 131 #[.int .i64 4,Rt.link g1,Rt.link g2,Rt.link g3,Rt.link g4] w (fun e w' => e = .returned (.tuple #[])∧RtDone w B o gx u s (Rt.rec 4 s p) (Rt.f5 4 s p).2 w'):=by
 have HR:=Lib.hid hr;have HL:=Lib.hid hl;have HG:=Lib.hid hg;have HN:=Lib.hid hn;have HC:=Lib.hid hc
 have HO:=Lib.hid ho;have HX:=Lib.hid hgx
 clear hr hl hg hn hc ho hgx
 go_enter Tryz.func131,Tryz.ntmps131
 go_wp2_with fail
 refine(rtLinkGet_bal false g1 4 _ B o gx gr gn u s p HR.out HG.out hB hxo HL.out HN.out hro hno hnx HC.out.l1).mono ?_
 rintro e1 w1 ⟨rfl,hr1,hl1,_,hb1,hs1⟩
 rw[show Mt.num false s p=Rt.f1 4 s p from rfl,show Mt.num false s (Rt.f1 4 s p).2=Rt.f2 4 s p from rfl]at hr1 hl1
 have HR1:=Lib.hid hr1;have HL1:=Lib.hid hl1;have HB1:=Lib.hid hb1;have HS1:=Lib.hid hs1
 have HG1:=Lib.hid (hs1 _ _ _ hro hrx HG.out);have HN1:=Lib.hid (hs1 _ _ _ hno hnx HN.out)
 have HC1:=Lib.hid (HC.out.by fun g f x y h k=>hs1 _ _ _ (by have:=HO.out;omega) (by have:=HX.out;omega) k)
 clear hr1 hl1 hb1 hs1
 go_wp2_with fail
 refine(rtLinkGet_index true g2 4 _ B o gx gr gn u s _ HR1.out HG1.out hB hxo _ HL1.out HN1.out HC1.out.l2).mono ?_
 rintro e2 w2 ⟨rfl,hr2,hl2,_,hb2,hs2⟩
 rw[show Mt.num true s (Rt.f2 4 s p).2=Rt.f3 4 s p from rfl]at hr2 hl2
 have HR2:=Lib.hid hr2;have HL2:=Lib.hid hl2;have HB2:=Lib.hid (HB1.out.trans hb2);have HS2:=Lib.hid (HS1.out.trans hs2)
 have HG2:=Lib.hid (hs2 _ _ _ hro hrx HG1.out)
 have HC2:=Lib.hid (HC1.out.by fun g f x y h k=>hs2 _ _ _ (by have:=HO.out;omega) (by have:=HX.out;omega) k)
 clear hr2 hl2 hb2 hs2
 go_wp2_with fail
 refine(rtLinkGet_cmd false g3 4 _ B o gx gr u s _ HR2.out HG2.out hB hxo _ _ HL2.out HC2.out.l3).mono ?_
 rintro e3 w3 ⟨rfl,hr3,hl3,_,hb3,hs3⟩
 rw[show Rt.cmd false s (Rt.f3 4 s p).2=Rt.f4 4 s p from rfl]at hr3 hl3
 have HR3:=Lib.hid hr3;have HL3:=Lib.hid hl3;have HB3:=Lib.hid (HB2.out.trans hb3);have HS3:=Lib.hid (HS2.out.trans hs3)
 have HG3:=Lib.hid (hs3 _ _ _ hro hrx HG2.out)
 have HC3:=Lib.hid (HC2.out.by fun g f x y h k=>hs3 _ _ _ (by have:=HO.out;omega) (by have:=HX.out;omega) k)
 clear hr3 hl3 hb3 hs3
 go_wp2_with fail
 refine(rtLinkGet_img true g4 4 _ B o gx gr u s _ HR3.out HG3.out hB hxo _ _ _ HL3.out HC3.out.l4).mono ?_
 rintro e4 w4 ⟨rfl,vi,hr4,hl4,hi4,hb4,hs4⟩
 rw[show Mt.img true s (Rt.f4 4 s p).2=Rt.f5 4 s p from rfl]at hr4 hl4 hi4
 have HD:Hid (RtAt w B o gx u s (Rt.rec 4 s p) vi (Rt.f5 4 s p).2 w4):=⟨hr4,hl4,hi4,HB3.out.trans hb4,HS3.out.trans hs4⟩
 clear hr4 hl4 hi4 hb4 hs4
 go_wp2
 go_end0
 exact⟨rfl,vi,HD.out⟩
theorem rtRunR_any(k:Int)(w:World)(B o gx gr gn g1 g2 g3 g4:Nat)(u:Value)(s:List UInt8)(p:Nat × Int)(hr:Rdr w B o u s p.1 p.2)(hl:Recs w gx ⟨k,Bl.zero,0,Cm.zero, []⟩ (.slice none 0 0))(hg:RtR w gr o)(hn:RtN w gn gr)(hB:B≤gx)(hxo:gx≠o)(hro:gr≠o)(hrx:gr≠gx)(hno:gn≠o)(hnx:gn≠gx)(ho:o≠g1∧o≠g2∧o≠g3∧o≠g4)(hgx:gx≠g1∧gx≠g2∧gx≠g3∧gx≠g4)(hc:Rt.Chain w g1 g2 g3 g4 180 181 182 183 gn gr gx)(hk:Re.known k=true) :
 Calls Tryz.prog 131 #[.int .i64 k,Rt.link g1,Rt.link g2,Rt.link g3,Rt.link g4] w (fun e w' => e = .returned (.tuple #[])∧RtDone w B o gx u s (Rt.rec k s p) (Rt.f5 k s p).2 w'):=by
 rcases Re.kinds k with rfl | rfl | rfl | rfl | h
 ·exact rtRunR_1 w B o gx gr gn g1 g2 g3 g4 u s p hr hl hg hn hB hxo hro hrx hno hnx ho hgx hc
 ·exact rtRunR_2 w B o gx gr gn g1 g2 g3 g4 u s p hr hl hg hn hB hxo hro hrx hno hnx ho hgx hc
 ·exact rtRunR_3 w B o gx gr gn g1 g2 g3 g4 u s p hr hl hg hn hB hxo hro hrx hno hnx ho hgx hc
 ·exact rtRunR_4 w B o gx gr gn g1 g2 g3 g4 u s p hr hl hg hn hB hxo hro hrx hno hnx ho hgx hc
 ·rw[(Re.has_no h).2.2.2.2]at hk;cases hk
end
def Rt.dn(s:List UInt8):Int:=if(Rt.r0 s).2.2≠0 then (Rt.r0 s).2.2 else if Re.known (Rt.kindOf s)=false then 3 else Cm.done s (Rt.r5 s).2.1 (Rt.r5 s).2.2
theorem Rt.decode_dn(s:List UInt8):Rt.decode s=if Rt.dn s≠0 then (Re.zero,Rt.dn s)else if Re.check (Rt.gotR s)≠0 then (Re.zero,Re.check (Rt.gotR s))else (Rt.gotR s,0):=by
 unfold Rt.decode Rt.dn
 by_cases h1:(Rt.r0 s).2.2≠0
 ·rw[if_pos h1,if_pos h1,if_pos h1]
 ·rw[if_neg h1,if_neg h1]
  by_cases h2:Re.known (Rt.kindOf s)=false
  ·rw[if_pos h2,if_pos h2];rfl
  ·rw[if_neg h2,if_neg h2]
def RtRead(w:World)(B:Nat)(s:List UInt8)(e:Ending)(w' : World):Prop :=
 ∃y vi,e = .returned (.tuple #[.agg (Re.cells y vi), .int .i64 (Rt.dn s)])∧(Rt.dn s=0→y=Rt.gotR s)∧ReadsU w' vi y.img∧Below B w w'
theorem readRt_any(w:World)(B o:Nat)(u:Value)(s:List UInt8)(hr:Rdr w B o u s 0 0)(hB:B≤w.heap.size) :
 Calls Tryz.prog 154 #[.pointer (some ⟨o,0,none⟩)] w (RtRead w B s):=by
 have hmf : ∀(fn:Fn) (first cap:Array Value) (w:World),(Instr.makeFunc fn first cap).run Tryz.prog w = .ok (.func fn first cap) w:=fun _ _ _ _=>rfl
 have ho:=hr.lies.lt
 obtain⟨n,q,e,hq,hx,hn0,hn1⟩:=Cm.rnum_res s 0 0
 have h0:Rt.r0 s=(n,q,e):=Mt.num_is hq
 obtain⟨k,hk⟩ : ∃k,k=n - 16:=⟨_,rfl⟩
 have hkk:Rt.kindOf s=k:=by unfold Rt.kindOf;rw[h0,hk]
 have HDN1:Hid (e≠0→Rt.dn s=e):=fun h=>by unfold Rt.dn;rw[h0,if_pos h]
 have HDN2:Hid (e=0→Re.known k=false→Rt.dn s=3):=fun h h' => by unfold Rt.dn;rw[h0,hkk,if_neg (by simp[h]),if_pos h']
 have HDN3:Hid (e=0→Re.known k=true→Rt.dn s=Cm.done s (Rt.f5 k s (q,e)).2.1 (Rt.f5 k s (q,e)).2.2):=fun h h' => by
  have h5:Rt.r5 s=Rt.f5 k s (q,e):=by show Rt.f5 (Rt.kindOf s) s (Rt.r0 s).2=_;rw[hkk,h0]
  unfold Rt.dn
  rw[h5,h0,hkk,if_neg (by simp[h]),if_neg (by rw[h'];simp)]
 have HGOT:Hid (Rt.gotR s=Rt.rec k s (q,e)):=by
  show Rt.gotR s=_
  show Rt.rec (Rt.kindOf s) s (Rt.r0 s).2=_
  rw[hkk,h0]
 have HQ:=Lib.hid hq
 have hks:n - 16=k:=hk.symm
 have hk0 : -16≤k:=by omega
 have hk1:k≤9223372036854775791:=by omega
 obtain⟨w1,e1,hg1,hb1,hz1⟩ : ∃w1,w.alloc (.cells #[.pointer (some ⟨o,0,none⟩)] 151)=w1∧RtR w1 w.heap.size o∧Below w.heap.size w w1∧w1.heap.size=w.heap.size+1:=⟨_,rfl,Lies.new _ _ _,(Below.refl _ w).alloc (Nat.le_refl _) _,by simp⟩
 obtain⟨w2,e2,hl2,hb2,hz2⟩:=box_rec w1 Re.zero (.slice none 0 0)
 dsimp only [Re.cells,Re.zero,Bl.zero,Cm.zero,Cm.bareOf]at e2
 obtain⟨w3,e3,hn3,hb3,hz3⟩ : ∃w3,w2.alloc (.cells #[.nilFunc] 60)=w3∧Lies w3 w2.heap.size 60 #[.nilFunc]∧Below w2.heap.size w2 w3∧w3.heap.size=w2.heap.size+1:=⟨_,rfl,Lies.new _ _ _,(Below.refl _ w2).alloc (Nat.le_refl _) _,by simp⟩
 have hb03:Below w.heap.size w w3:=hb1.trans ((hb2.trans (hb3.mono hb2.size)).mono hb1.size)
 have HSZ:Hid (w1.heap.size=w.heap.size+1∧w2.heap.size=w1.heap.size+1∧w3.heap.size=w2.heap.size+1):=⟨hz1,hz2,hz3⟩
 have HR3:=Lib.hid (hr.kept hb03)
 have HG3:=Lib.hid ((hg1.below hb2 hg1.lt).below hb3 (by omega))
 have HK3:=Lib.hid (hl2.below hb3 hl2.lt)
 have HN3:=Lib.hid hn3;have HB3:=Lib.hid hb03
 have HOW:Hid (o<w.heap.size):=ho
 clear hr hq h0 hk hkk hg1 hl2 hn3 hb1 hb2 hb3 hb03 hz1 hz2 hz3 ho
 go_enter Tryz.func154,Tryz.ntmps154
 go_wp2_with (first
  | (refine store_part (by rfl) _ _ _ (by rfl) w2.heap.size 0 _ _ #[.func (.func 179) #[] #[.pointer (some ⟨w.heap.size,0,none⟩)]] (.func (.func 179) #[] #[.pointer (some ⟨w.heap.size,0,none⟩)]) [.func (.func 179) #[] #[.pointer (some ⟨w.heap.size,0,none⟩)]] (by rfl) (by rfl) (by rfl) (by kernel_rfl) (by rfl) HN3.out (Nat.le_of_ble_eq_true rfl) (by rfl) ?_
     intro w4 hl4 hg4
     have c4:w4.cell? ⟨w2.heap.size,0,none⟩=some (.func (.func 179) #[] #[.pointer (some ⟨w.heap.size,0,none⟩)]):=hl4.cell 0 _ rfl
     have HN4:Hid (RtN w4 w2.heap.size w.heap.size):=hl4
     have HR4:=Lib.hid (HR3.out.beside' hg4 (by have:=HSZ.out;have:=HOW.out;omega) (fun h=>HN3.out.not_row (by decide) HR3.out.owns h.symm))
     have HG4:=Lib.hid (HG3.out.kept hg4 (by have:=HSZ.out;simp;omega));have HK4:=Lib.hid (HK3.out.kept hg4 (by have:=HSZ.out;simp;omega))
     have HB4:=Lib.hid (HB3.out.grown hg4 HB3.out.size (by rintro x hx;cases hx;have:=HSZ.out;omega))
     have HZ4:Hid (w3.heap.size≤w4.heap.size):=hg4.size
     clear hl4 hg4)
  | fail)
 refine(rtNumber_any _ B o w.heap.size u s 0 0 n q e HR4.out hx HQ HG4.out).mono ?_
 rintro e5 w5 ⟨rfl,hr5,hg5⟩
 have HR5:=Lib.hid hr5
 have HN5:=Lib.hid (HN4.out.kept hg5 (by have:=HSZ.out;have:=HOW.out;simp;omega));have HG5:=Lib.hid (HG4.out.kept hg5 (by have:=HOW.out;simp;omega));have HK5:=Lib.hid (HK4.out.kept hg5 (by have:=HSZ.out;have:=HOW.out;simp;omega))
 have HB5:Hid (Below B w w5):=(HB4.out.mono hB).grown hg5 (Nat.le_trans hB HB4.out.size) (by rintro x hx;cases hx;exact hr5.base)
 have HZ5:Hid (w3.heap.size≤w5.heap.size):=Nat.le_trans HZ4.out hg5.size
 clear hr5 hg5 c4
 go_wp2_with (first
  | (refine store_rec (by rfl) _ _ (by rfl) w5.heap.size Re.zero _ (⟨k,Bl.zero,0,Cm.zero, []⟩:Re.Rec) (.slice none 0 0) (by rfl) (by rfl) rfl (Lies.new _ _ _) ?_
     intro w6 hl6 hg6
     have hb:=fresh_below hg6
     have HL6:=Lib.hid hl6;have HR6:=Lib.hid (HR5.out.kept hb);have HN6:=Lib.hid (HN5.out.below hb HN5.out.lt);have HK6:=Lib.hid (HK5.out.below hb HK5.out.lt)
     have hg6' := HG5.out.below hb HG5.out.lt
     have HG6:=Lib.hid hg6'
     have c6:w6.cell? ⟨w.heap.size,0,none⟩=some (.pointer (some ⟨o,0,none⟩)):=hg6'.cell 0 _ rfl
     have HB6:=Lib.hid (HB5.out.trans (hb.mono (Nat.le_trans hB HB5.out.size)))
     clear hl6 hg6 hb hg6')
  | fail)
 refine(rerr_any _ B o u s q e HR6.out).mono ?_
 rintro e7 w7 ⟨rfl,rfl⟩
 have q0:=Recs.c0 HL6.out
 dsimp only at q0
 by_cases he:e=0
 ·subst he
  by_cases hkn:Re.known k=true
  ·have hk14:1≤k∧k≤4:=by unfold Re.known at hkn;simpa using hkn
   obtain⟨k1,k4⟩:=hk14
   have d1:decide (k<1)=false:=by simp;omega
   have d2:decide (4<k)=false:=by simp;omega
   have HD3:=Lib.hid (HDN3.out rfl hkn)
   have HKN:=Lib.hid hkn
   have hrun : ∀(W:World) (g1 g2 g3 g4:Nat),Below w6.heap.size w6 W→w6.heap.size≤g1→w6.heap.size≤g2→w6.heap.size≤g3→w6.heap.size≤g4 →
    Rt.Chain W g1 g2 g3 g4 180 181 182 183 w2.heap.size w.heap.size w5.heap.size →
    Calls Tryz.prog 131 #[.int .i64 k,Rt.link g1,Rt.link g2,Rt.link g3,Rt.link g4] W (fun e w' => e = .returned (.tuple #[])∧RtDone W B o w5.heap.size u s (Rt.rec k s (q,0)) (Rt.f5 k s (q,0)).2 w'):=by
    intro W g1 g2 g3 g4 hb h1 h2 h3 h4 hc
    have z1:=HSZ.out;have z2:=HZ5.out;have z3:=HL6.out.lt;have z4:=HOW.out
    exact rtRunR_any k W B o w5.heap.size w.heap.size w2.heap.size g1 g2 g3 g4 u s (q,0) (HR6.out.kept hb) (HL6.out.below hb HL6.out.lt) (HG6.out.below hb HG6.out.lt) (HN6.out.below hb HN6.out.lt)
     (by omega) (by omega) (by omega) (by omega) (by omega) (by omega) (by omega) (by omega) hc HKN.out
   have HRUN:=Lib.hid hrun
   clear hrun hkn hks hk0 hk1 hn0 hn1 hx
   go_wp2
   have HBD:Hid (Below w6.heap.size w6 w6.drew):=(Below.refl _ w6).drew
   refine wp_region_held_drew (S:=fun W=>W.cell? ⟨w5.heap.size,0,none⟩=some (.int .i64 k)) (by kernel_rfl) (by first | go_keep | exact q0) (fun hHeld => ?_)
   refine wpAnyH_take (i:=0) (v := ?v0) rfl (by kernel_rfl) (by kernel_rfl) (by kernel_rfl) (fun _ _ _ h=>h) (Or.inl ⟨by rfl, ?hy0⟩) hHeld ?rest0
   case hy0=>(intro w hSw;(try dsimp only at hSw);go_simp;(try with_reducible rfl))
   refine wpAnyH_take (i:=1) (v := ?v1) rfl (by kernel_rfl) (by kernel_rfl) (by kernel_rfl) (fun _ _ _ h=>h) (Or.inl ⟨by rfl, ?hy1⟩) hHeld ?rest1
   case hy1=>(intro w hSw;(try dsimp only at hSw);go_simp;(try with_reducible rfl))
   refine wpAnyH_take (i:=2) (v := ?v2) rfl (by kernel_rfl) (by kernel_rfl) (by kernel_rfl) (fun _ _ _ h=>h) (Or.inl ⟨by rfl, ?hy2⟩) hHeld ?rest2
   case hy2=>(intro w hSw;(try dsimp only at hSw);go_simp;(try with_reducible rfl))
   refine wpAnyH_take (i:=4) (v := ?v4) rfl (by kernel_rfl) (by kernel_rfl) (by kernel_rfl) (fun _ _ _ h=>h) (Or.inl ⟨by rfl, ?hy4⟩) hHeld ?rest4
   case hy4=>(intro w hSw;(try dsimp only at hSw);go_simp;(try with_reducible rfl))
   refine wpAnyH_take (i:=6) (v := ?v6) rfl (by kernel_rfl) (by kernel_rfl) (by kernel_rfl) (fun _ _ _ h=>h) (Or.inl ⟨by rfl, ?hy6⟩) hHeld ?rest6
   case hy6=>(intro w hSw;(try dsimp only at hSw);go_simp;(try with_reducible rfl))
   refine wpAnyH_take (i:=8) (v := ?v8) rfl (by kernel_rfl) (by kernel_rfl) (by kernel_rfl) (fun _ _ _ h=>h) (Or.inl ⟨by rfl, ?hy8⟩) hHeld ?rest8
   case hy8=>(intro w hSw;(try dsimp only at hSw);go_simp;(try with_reducible rfl))
   refine wpAnyH_ready (rs := [3]) (by kernel_rfl) (by simp) ?_
   refine AllReadyH.cons rfl (fun K hK => ?_) AllReadyH.nil
   rw[if_pos (by rfl)]
   go_simp
   go_at_call 132
   with_reducible refine(rtWith_some 180 _ _ _).mono ?_
   rintro e7 w7 ⟨g7,rfl,hc7,hz7,hb7⟩
   have HC7:=Lib.hid hc7;have HB7:=Lib.hid (HBD.out.trans (hb7.mono (Nat.le_refl w6.heap.size)))
   have HZ7:Hid (w6.heap.size≤g7):=hz7
   have K7:w7.cell? ⟨w5.heap.size,0,none⟩=some (.int .i64 k):=Recs.c0 (HL6.out.below HB7.out HL6.out.lt)
   clear hc7 hz7 hb7
   refine hK.out _ _ K7 (fun hHeld => ?_)
   clear hK K
   refine wpAnyH_ready (rs := [5]) (by kernel_rfl) (by simp) ?_
   refine AllReadyH.cons rfl (fun K hK => ?_) AllReadyH.nil
   rw[if_pos (by rfl)]
   go_simp
   go_at_call 132
   with_reducible refine(rtWith_some 181 _ _ _).mono ?_
   rintro e8 w8 ⟨g8,rfl,hc8,hz8,hb8⟩
   have HC8:=Lib.hid hc8;have HB8:=Lib.hid (HB7.out.trans (hb8.mono HB7.out.size));have HB78:=Lib.hid hb8
   have HZ8:Hid (w6.heap.size≤g8):=Nat.le_trans HB7.out.size hz8
   have K8:w8.cell? ⟨w5.heap.size,0,none⟩=some (.int .i64 k):=Recs.c0 (HL6.out.below HB8.out HL6.out.lt)
   clear hc8 hz8 hb8
   refine hK.out _ _ K8 (fun hHeld => ?_)
   clear hK K
   refine wpAnyH_ready (rs := [7]) (by kernel_rfl) (by simp) ?_
   refine AllReadyH.cons rfl (fun K hK => ?_) AllReadyH.nil
   rw[if_pos (by rfl)]
   go_simp
   go_at_call 132
   with_reducible refine(rtWith_some 182 _ _ _).mono ?_
   rintro e9 w9 ⟨g9,rfl,hc9,hz9,hb9⟩
   have HC9:=Lib.hid hc9;have HB9:=Lib.hid (HB8.out.trans (hb9.mono HB8.out.size));have HB89:=Lib.hid hb9
   have HZ9:Hid (w6.heap.size≤g9):=Nat.le_trans HB8.out.size hz9
   have K9:w9.cell? ⟨w5.heap.size,0,none⟩=some (.int .i64 k):=Recs.c0 (HL6.out.below HB9.out HL6.out.lt)
   clear hc9 hz9 hb9
   refine hK.out _ _ K9 (fun hHeld => ?_)
   clear hK K
   refine wpAnyH_ready (rs := [9]) (by kernel_rfl) (by simp) ?_
   refine AllReadyH.cons rfl (fun K hK => ?_) AllReadyH.nil
   rw[if_pos (by rfl)]
   go_simp
   go_at_call 132
   with_reducible refine(rtWith_some 183 _ _ _).mono ?_
   rintro e10 w10 ⟨g10,rfl,hc10,hz10,hb10⟩
   have HC10:=Lib.hid hc10;have HB10:=Lib.hid (HB9.out.trans (hb10.mono HB9.out.size));have HB910:=Lib.hid hb10
   have HZ10:Hid (w6.heap.size≤g10):=Nat.le_trans HB9.out.size hz10
   have K10:w10.cell? ⟨w5.heap.size,0,none⟩=some (.int .i64 k):=Recs.c0 (HL6.out.below HB10.out HL6.out.lt)
   clear hc10 hz10 hb10
   refine hK.out _ _ K10 (fun hHeld => ?_)
   clear hK K
   refine wpAnyH_ready (rs := [10]) (by kernel_rfl) (by simp) ?_
   refine AllReadyH.cons rfl (fun K hK => ?_) AllReadyH.nil
   rw[if_pos (by rfl)]
   go_simp
   go_at_call 131
   have HCH:Hid (Rt.Chain w10 g7 g8 g9 g10 180 181 182 183 w2.heap.size w.heap.size w5.heap.size):=⟨((HC7.out.below HB78.out HC7.out.lt).below HB89.out (Nat.lt_of_lt_of_le HC7.out.lt HB78.out.size)).below HB910.out (Nat.lt_of_lt_of_le HC7.out.lt (Nat.le_trans HB78.out.size HB89.out.size)),(HC8.out.below HB89.out HC8.out.lt).below HB910.out (Nat.lt_of_lt_of_le HC8.out.lt HB89.out.size),HC9.out.below HB910.out HC9.out.lt,HC10.out⟩
   with_reducible refine(HRUN.out w10 g7 g8 g9 g10 HB10.out HZ7.out HZ8.out HZ9.out HZ10.out HCH.out).mono ?_
   rintro e11 w11 ⟨rfl,vi,hr11,hl11,hi11,hb11,hs11⟩
   have z1:=HSZ.out
   have z2:=HZ5.out
   have z3:=HOW.out
   have HR11:=Lib.hid hr11;have HL11:=Lib.hid hl11;have HI11:=Lib.hid hi11
   have HB11:=Lib.hid ((HB6.out.trans (HB10.out.mono (Nat.le_trans hB HB6.out.size))).trans hb11)
   have HK11:=Lib.hid (hs11 _ _ _ (by omega) (by omega) (HK6.out.below HB10.out HK6.out.lt))
   have HG11:=Lib.hid (hs11 _ _ _ (by omega) (by omega) (HG6.out.below HB10.out HG6.out.lt))
   have K11:w11.cell? ⟨w5.heap.size,0,none⟩=some (.int .i64 k):=Recs.c0 hl11
   clear hr11 hl11 hi11 hb11 hs11 z1 z2 z3
   refine hK.out _ _ K11 (fun hHeld => ?_)
   clear hK K
   refine wpAnyH_done (by kernel_rfl) ?_ _
   all_goals
    obtain⟨io,ic,hsh⟩:=HI11.out.shape
    subst hsh
    obtain⟨y,hy⟩ : ∃y,y=Rt.rec k s (q,0):=⟨_,rfl⟩
    have HY:=Lib.hid hy
    rw[← hy]at HL11 HI11
    obtain⟨xn,hxn⟩ : ∃xn,xn=y.img.length:=⟨_,rfl⟩
    rw[← hxn]at HL11 HI11
    obtain⟨pq,hpq⟩ : ∃pq,pq=(Rt.f5 k s (q,0)).2:=⟨_,rfl⟩
    rw[← hpq]at HR11 HD3
    obtain⟨D,hD⟩ : ∃D,D=Rt.dn s:=⟨_,rfl⟩
    have HDD:=Lib.hid hD
    have HDE:Hid (D=Cm.done s pq.1 pq.2):=hD.trans HD3.out
    clear hy hxn hpq hD hHeld
    (try clear K7);(try clear K8);(try clear K9);(try clear K10);(try clear K11);(try clear c6);(try clear q0);(try clear HRUN);(try clear HBD);(try clear HCH);(try clear HC7);(try clear HC8);(try clear HC9);(try clear HC10);(try clear HB7);(try clear HB8);(try clear HB9);(try clear HB10);(try clear HB78);(try clear HB89);(try clear HB910);(try clear HZ7);(try clear HZ8);(try clear HZ9);(try clear HZ10);(try clear HL6);(try clear HN6);(try clear HK6);(try clear HG6);(try clear HB6);(try clear HR6);(try clear HR5);(try clear HB5);(try clear HZ5);(try clear HK5);(try clear HG5);(try clear HN5);(try clear HZ4);(try clear HB4);(try clear HK4);(try clear HG4);(try clear HR4);(try clear HN4);(try clear HOW);(try clear HB3);(try clear HN3);(try clear HK3);(try clear HG3);(try clear HR3);(try clear HD3);(try clear HKN);(try clear HQ);(try clear HDN1);(try clear HDN2);(try clear HDN3);(try clear k1);(try clear k4);(try clear d1);(try clear d2);(try clear e1);(try clear e2);(try clear e3);(try clear hmf)
    go_wp2
    obtain⟨p0,p1,p2,p3,p4,p5,p6,p7,p8,p9,p10,p11⟩:=Recs.all HL11.out
    have cg:w11.cell? ⟨w.heap.size,0,none⟩=some (.pointer (some ⟨o,0,none⟩)):=HG11.out.cell 0 _ rfl
    have HDN:Hid (Calls Tryz.prog 114 #[.pointer (some ⟨o,0,none⟩)] w11.drew (fun en w' => en = .returned (.int .i64 D)∧Recs w' w5.heap.size y (.slice io xn ic)∧Recs w' w1.heap.size Re.zero (.slice none 0 0)∧Below w11.heap.size w11 w')):=by
     refine(rdone_any w11.drew B o u s _ _ (HR11.out.kept (Below.refl _ _).drew)).mono ?_
     rintro en w' ⟨rfl,q6,rfl⟩
     have hd:Below w11.heap.size w11 (w11.drew.drewN q6):=((Below.refl _ _).drew).trans (drawn w11.drew q6)
     exact⟨by rw[HDE.out];rfl,HL11.out.below hd HL11.out.lt,HK11.out.below hd HK11.out.lt,hd⟩
    obtain⟨z0,z1,z2,z3,z4,z5,z6,z7,z8,z9,z10,z11⟩:=Recs.all HK11.out
    dsimp only [Re.zero,Bl.zero,Cm.zero,Cm.bareOf]at z0 z1 z2 z3 z4 z5 z6 z7 z8 z9 z10
    have f0:=HK11.out.free 0;have f1:=HK11.out.free 1;have f2:=HK11.out.free 2;have f3:=HK11.out.free 3;have f4:=HK11.out.free 4;have f5:=HK11.out.free 5;have f6:=HK11.out.free 6;have f7:=HK11.out.free 7;have f8:=HK11.out.free 8;have f9:=HK11.out.free 9;have f10:=HK11.out.free 10;have f11:=HK11.out.free 11
    go_region_with (first
     | (go_at_call 114
        with_reducible refine HDN.out.mono ?_
        rintro e12 w12 ⟨rfl,hm12,hk12,hd12⟩
        obtain⟨p0,p1,p2,p3,p4,p5,p6,p7,p8,p9,p10,p11⟩:=Recs.all hm12
        have HAT:Hid (Recs w12 w1.heap.size Re.zero (.slice none 0 0)∧Below w11.heap.size w11 w12):=⟨hk12,hd12⟩
        obtain⟨z0,z1,z2,z3,z4,z5,z6,z7,z8,z9,z10,z11⟩:=Recs.all hk12
        dsimp only [Re.zero,Bl.zero,Cm.zero,Cm.bareOf]at z0 z1 z2 z3 z4 z5 z6 z7 z8 z9 z10
        have f0:=hk12.free 0;have f1:=hk12.free 1;have f2:=hk12.free 2;have f3:=hk12.free 3;have f4:=hk12.free 4;have f5:=hk12.free 5;have f6:=hk12.free 6;have f7:=hk12.free 7;have f8:=hk12.free 8;have f9:=hk12.free 9;have f10:=hk12.free 10;have f11:=hk12.free 11))
    all_goals
     refine set_twelve HAT.out.1 _ _ _ _ _ _ _ _ _ _ _ _ ?_
     intro w13 hl13 hg13
     clear p0 p1 p2 p3 p4 p5 p6 p7 p8 p9 p10 p11 z0 z1 z2 z3 z4 z5 z6 z7 z8 z9 z10 z11 f0 f1 f2 f3 f4 f5 f6 f7 f8 f9 f10 f11
     have HL13:Hid (Recs w13 w1.heap.size y (.slice io xn ic)):=hl13
     have HI13:=Lib.hid ((HI11.out.below HAT.out.2).kept_rec HAT.out.1 hg13)
     have HB13:=Lib.hid ((HB11.out.trans (HAT.out.2.mono (Nat.le_trans hB HB11.out.size))).grown hg13 (Nat.le_trans hB (Nat.le_trans HB11.out.size HAT.out.2.size)) (by rintro x hx;cases hx;have:=HSZ.out;omega))
     clear hl13 hg13
     go_wp2
     refine ret_rec2 rfl rfl HL13.out rfl ?_
     exact⟨y, .slice io xn ic,by rw[← HDD.out];rfl,fun _=>HY.out.trans HGOT.out.symm,HI13.out,HB13.out⟩
  ·have HDD:=Lib.hid (HDN2.out rfl (by simpa using hkn))
   obtain⟨D,hD⟩ : ∃D,D=Rt.dn s:=⟨_,rfl⟩
   have HDE:=Lib.hid hD
   have hk14:k<1∨4<k:=by unfold Re.known at hkn;simp at hkn;omega
   clear hkn hD
   rcases hk14 with hk14 | hk14
   ·have d1:decide (k<1)=true:=by simp;omega
    go_wp2_with (first
     | (refine store_rec (by rfl) _ _ (by rfl) w1.heap.size Re.zero _ Re.zero (.slice none 0 0) (by rfl) (by rfl) rfl HK6.out ?_
        intro w7 hl7 hg7
        have HB7:=Lib.hid (HB6.out.grown hg7 (Nat.le_trans hB HB6.out.size) (by rintro j hj;cases hj;have:=HSZ.out;omega)))
     | fail)
    refine ret_rec2 rfl rfl hl7 rfl ?_
    exact⟨Re.zero, .slice none 0 0,by rw[HDD.out];rfl,fun h=>absurd (HDD.out.symm.trans h) (by decide),ReadsU.empty _,HB7.out⟩
   ·have d1:decide (k<1)=false:=by simp;omega
    have d2:decide (4<k)=true:=by simp;omega
    go_wp2_with (first
     | (refine store_rec (by rfl) _ _ (by rfl) w1.heap.size Re.zero _ Re.zero (.slice none 0 0) (by rfl) (by rfl) rfl HK6.out ?_
        intro w7 hl7 hg7
        have HB7:=Lib.hid (HB6.out.grown hg7 (Nat.le_trans hB HB6.out.size) (by rintro j hj;cases hj;have:=HSZ.out;omega)))
     | fail)
    refine ret_rec2 rfl rfl hl7 rfl ?_
    exact⟨Re.zero, .slice none 0 0,by rw[HDD.out];rfl,fun h=>absurd (HDD.out.symm.trans h) (by decide),ReadsU.empty _,HB7.out⟩
 ·have hne:(e != 0)=true:=by simpa using he
  have HE:=Lib.hid he
  have HDD:=Lib.hid (HDN1.out he)
  clear he
  go_wp2_with (first
   | (refine store_rec (by rfl) _ _ (by rfl) w1.heap.size Re.zero _ Re.zero (.slice none 0 0) (by rfl) (by rfl) rfl HK6.out ?_
      intro w7 hl7 hg7
      have HB7:=Lib.hid (HB6.out.grown hg7 (Nat.le_trans hB HB6.out.size) (by rintro j hj;cases hj;have:=HSZ.out;omega)))
   | fail)
  refine ret_rec2 rfl rfl hl7 rfl ?_
  exact⟨Re.zero, .slice none 0 0,by rw[HDD.out];rfl,fun h=>absurd (HDD.out.symm.trans h) HE.out,ReadsU.empty _,HB7.out⟩
theorem decodeRt_any(u:Value)(s:List UInt8)(w:World)(hW:WordsIn w)(hu:Reads w u s)(hb:s.length≤1000000) :
 Calls Tryz.prog 116 #[u] w (RDecd w (Rt.decode s)):=by
 obtain⟨w1,e1,hl1,hB1,hz1⟩:=box_rec w Re.zero (.slice none 0 0)
 dsimp only [Re.cells,Re.zero,Bl.zero,Cm.zero,Cm.bareOf]at e1
 have HK1:=Lib.hid hl1;have HB1:=Lib.hid hB1;have HU1:=Lib.hid (hu.below hB1);have HZ:=Lib.hid hz1
 have HW:=Lib.hid (fun W (h:Below w.heap.size w W)=>hW.below h)
 obtain⟨r,hr⟩ : ∃r,r=Rt.decode s:=⟨_,rfl⟩
 rw[← hr]
 rw[Rt.decode_dn]at hr
 obtain⟨_,hinv2,_⟩:=Rt.got_inv s
 obtain⟨t,ht⟩ : ∃t,t=Rt.gotR s:=⟨_,rfl⟩
 rw[← ht]at hr hinv2
 have HT:=Lib.hid ht;have HRES:=Lib.hid hr
 have HSH:Hid (t.cmd.Short 140737488355328):=⟨Nat.le_trans hinv2.1 (by omega),Nat.le_trans hinv2.2.1 (by omega),Nat.le_trans hinv2.2.2 (by omega)⟩
 clear hl1 hB1 hz1 hu hr ht hW hinv2
 go_enter Tryz.func116,Tryz.ntmps116
 go_wp2_with fail
 refine(newreader_any u s _ w1.heap.size (Nat.le_refl _) HU1.out (by omega)).mono ?_
 rintro e2 w2 ⟨o,rv,rfl,ho,hr2,hb2⟩
 have HK2:=Lib.hid (HK1.out.below hb2 HK1.out.lt);have HB2:=Lib.hid (HB1.out.trans (hb2.mono HB1.out.size));have HR2:=Lib.hid hr2
 have HX2:=Lib.hid hb2
 clear hr2 hb2
 go_wp2_with fail
 refine(readRt_any _ w1.heap.size o rv s HR2.out HX2.out.size).mono ?_
 rintro e3 w3 ⟨y,vi,rfl,hy,hi,hb3⟩
 obtain⟨io,ic,rfl⟩:=hi.shape
 obtain⟨xn,hxn⟩ : ∃xn,xn=y.img.length:=⟨_,rfl⟩
 rw[← hxn]at hi ⊢
 have HI3:=Lib.hid hi;have HB3:=Lib.hid (HB2.out.trans (hb3.mono (Nat.le_of_lt (by have:=HZ.out;omega))))
 have HK3:=Lib.hid (HK2.out.below hb3 (by have:=HZ.out;omega))
 obtain⟨z,hz⟩ : ∃z,z=Rt.dn s:=⟨_,rfl⟩
 rw[← hz]at hy HRES ⊢
 rw[← HT.out]at hy
 have HY:=Lib.hid hy
 clear hi hb3 hxn hy hz
 by_cases h0:z=0
 ·subst h0
  obtain rfl:y=t:=HY.out rfl
  have HR5:=Lib.hid (HRES.out.trans (if_neg (by simp)))
  have HOL:=Lib.hid (fun W (h:Below w.heap.size w W) (h' : Reads W (.slice io xn ic) y.img)=>checkRe_any y (.slice io xn ic) W (HW.out _ h) h' HSH.out)
  obtain⟨v,hv⟩ : ∃v,v=Re.check y:=⟨_,rfl⟩
  rw[← hv]at HOL HR5
  clear hv
  go_wp2_with (first
   | (refine store_rec (by rfl) _ _ (by rfl) w3.heap.size Re.zero _ y (.slice io xn ic) (by rfl) (by rfl) rfl (Lies.new _ _ _) ?_
      intro w5 hl4 hg4
      have hb:=fresh_below hg4
      have HI5:=Lib.hid (HI3.out.below hb)
      have HK5:=Lib.hid (HK3.out.below hb HK3.out.lt);have HM5:=Lib.hid hl4;have HB5:=Lib.hid (HB3.out.trans (hb.mono HB3.out.size))
      clear hl4 hg4 hb)
   | (refine load_rec (by rfl) _ (by rfl) w3.heap.size y (.slice io xn ic) (by rfl) HM5.out ?_)
   | fail)
  refine(HOL.out _ HB5.out HI5.out).mono ?_
  rintro e6 w6 ⟨rfl,hb⟩
  have HI6:=Lib.hid (HI5.out.below hb)
  have HK6:=Lib.hid (HK5.out.below hb HK5.out.lt);have HM6:=Lib.hid (HM5.out.below hb HM5.out.lt);have HB6:=Lib.hid (HB5.out.trans (hb.mono HB5.out.size))
  clear hb
  by_cases hy0:v=0
  ·subst hy0
   have HZ2:Hid (r=(y,0)):=HR5.out.trans (if_neg (by simp))
   go_wp2_with (first
    | (refine load_rec (by rfl) _ (by rfl) w3.heap.size y (.slice io xn ic) (by rfl) HM6.out ?_)
    | (refine store_rec (by rfl) _ _ (by rfl) w.heap.size Re.zero _ y (.slice io xn ic) (by rfl) (by rfl) rfl HK6.out ?_
       intro w7 hl7 hg7
       have HB7:=Lib.hid (HB6.out.grown hg7 HB6.out.size (by rintro j hj;cases hj;exact Nat.le_refl _))
       have HI7:=Lib.hid (HI6.out.kept_rec HK6.out hg7))
    | fail)
   refine ret_rec2 rfl rfl hl7 rfl ?_
   rw[HZ2.out]
   exact⟨HB7.out, .slice io xn ic,rfl,HI7.out,rfl⟩
  ·have hne:(v != 0)=true:=by simpa using hy0
   have HZ2:Hid (r=(Re.zero,v)):=HR5.out.trans (if_pos hy0)
   clear hy0
   go_wp2_with (first
    | (refine store_rec (by rfl) _ _ (by rfl) w.heap.size Re.zero _ Re.zero (.slice none 0 0) (by rfl) (by rfl) rfl HK6.out ?_
       intro w7 hl7 hg7
       have HB7:=Lib.hid (HB6.out.grown hg7 HB6.out.size (by rintro j hj;cases hj;exact Nat.le_refl _)))
    | fail)
   refine ret_rec2 rfl rfl hl7 rfl ?_
   rw[HZ2.out]
   exact⟨HB7.out, .slice none 0 0,rfl,ReadsU.empty _,rfl⟩
 ·have hne:(z != 0)=true:=by simpa using h0
  have heq:(z == 0)=false:=by simpa using h0
  have HZ2:Hid (r=(Re.zero,z)):=HRES.out.trans (if_pos h0)
  clear h0
  go_wp2_with (first
   | (refine store_rec (by rfl) _ _ (by rfl) w3.heap.size Re.zero _ y (.slice io xn ic) (by rfl) (by rfl) rfl (Lies.new _ _ _) ?_
      intro w5 hl4 hg4
      have hb:=fresh_below hg4
      have HI5:=Lib.hid (HI3.out.below hb)
      have HK5:=Lib.hid (HK3.out.below hb HK3.out.lt);have HM5:=Lib.hid hl4;have HB5:=Lib.hid (HB3.out.trans (hb.mono HB3.out.size))
      clear hl4 hg4 hb)
   | (refine store_rec (by rfl) _ _ (by rfl) w.heap.size Re.zero _ Re.zero (.slice none 0 0) (by rfl) (by rfl) rfl HK5.out ?_
      intro w7 hl7 hg7
      have HB7:=Lib.hid (HB5.out.grown hg7 HB5.out.size (by rintro j hj;cases hj;exact Nat.le_refl _)))
   | fail)
  refine ret_rec2 rfl rfl hl7 rfl ?_
  rw[HZ2.out]
  exact⟨HB7.out, .slice none 0 0,rfl,ReadsU.empty _,rfl⟩
def Rt.format(v:Int):Int:=if v=1∨v=2 then 0 else 8
theorem rtFormat_any(v:Int)(w:World):Calls Tryz.prog 90 #[.int .i64 v] w (Says w (.int .i64 (Rt.format v))):=by
 have ho:=opens_any 2 v w
 rw[show Vs.opens 2 v=Rt.format v by unfold Vs.opens Rt.format Vs.may;simp;omega]at ho
 have HO:=Lib.hid ho
 clear ho
 go_enter Tryz.func90,Tryz.ntmps90
 go_wp2_with fail
 refine HO.out.mono ?_
 rintro e1 w1 ⟨rfl,rfl⟩
 go_wp2
 go_ret
 exact⟨rfl,rfl⟩
theorem putRt_any(v:Int)(m:Re.Rec)(vi:Value)(w:World)(hW:WordsIn w)(hi:Reads w vi m.img)(hf:m.Fits)(hs:m.cmd.Short 1000)(hk:m.img.length≤100000) :
 Calls Tryz.prog 69 #[.int .i64 v, .agg (Re.cells m vi)] w (RtMade w (Rt.put v m)):=by
 obtain⟨w1,e1,hl1,hB1,hz1⟩:=box_rec w m vi
 obtain⟨p0,p1,p2,p3,p4,p5,p6,p7,p8,p9,p10,p11⟩:=Recs.all hl1
 have HB1:=Lib.hid hB1
 have hfm:=rtFormat_any v w1
 by_cases h12:v=1∨v=2
 ·have HR:Hid (Rt.put v m=if Re.olderIn v m≠0 then ([],Re.olderIn v m)else (Rt.bytesIn v m,0)):=by show _=_;unfold Rt.put;rw[if_pos h12]
  rw[show Rt.format v=0 from if_pos h12]at hfm
  have HF:=Lib.hid hfm
  rcases h12 with rfl | rfl
  ·have HC:=Lib.hid (encodeRe_any m vi w1 (hW.below hB1) (hi.below hB1) hf hs hk)
   clear hfm hl1 hB1 hz1 hW hi hf hs
   go_enter Tryz.func69,Tryz.ntmps69
   go_wp2_with fail
   refine HF.out.mono ?_
   rintro e2 w2 ⟨rfl,rfl⟩
   go_wp2_with fail
   refine HC.out.mono ?_
   rintro e3 w3 ⟨hb,u,rfl,hu⟩
   have HB3:=Lib.hid (HB1.out.trans (hb.mono HB1.out.size));have HU:=Lib.hid hu
   clear hb hu p0 p1 p2 p3 p4 p5 p6 p7 p8 p9 p10 p11
   go_wp2
   go_ret2
   have hr:=HR.out
   rw[show Re.olderIn 1 m=Re.older m from Re.olderIn_one m]at hr
   have hu:=HU.out
   by_cases h0:Re.older m=0
   ·rw[if_neg (by simpa using h0)]at hr
    rw[if_pos h0]at hu
    rw[hr,h0]
    exact⟨HB3.out,u,rfl,hu⟩
   ·rw[if_pos h0]at hr
    rw[if_neg h0]at hu
    rw[hr]
    exact⟨HB3.out,u,rfl,hu⟩
  ·have HC:=Lib.hid (encodeRt_any m vi w1 (hW.below hB1) (hi.below hB1) hf hs hk)
   clear hfm hl1 hB1 hz1 hW hi hf hs
   go_enter Tryz.func69,Tryz.ntmps69
   go_wp2_with fail
   refine HF.out.mono ?_
   rintro e2 w2 ⟨rfl,rfl⟩
   go_wp2_with fail
   refine HC.out.mono ?_
   rintro e3 w3 ⟨hb,u,rfl,hu⟩
   have HB3:=Lib.hid (HB1.out.trans (hb.mono HB1.out.size));have HU:=Lib.hid hu
   clear hb hu p0 p1 p2 p3 p4 p5 p6 p7 p8 p9 p10 p11
   go_wp2
   go_ret2
   have hr:Rt.put 2 m=Rt.encode m:=by rw[HR.out,Rt.older_two];rfl
   rw[hr]
   exact⟨HB3.out,u,rfl,HU.out⟩
 ·have HR:Hid (Rt.put v m=([],8)):=by show _=_;unfold Rt.put;rw[if_neg h12]
  rw[show Rt.format v=8 from if_neg h12]at hfm
  have HF:=Lib.hid hfm
  clear hfm hl1 hB1 hz1 hW hi hf hs hk h12
  go_enter Tryz.func69,Tryz.ntmps69
  go_wp2_with fail
  refine HF.out.mono ?_
  rintro e2 w2 ⟨rfl,rfl⟩
  go_wp2
  go_ret2
  rw[HR.out]
  exact⟨HB1.out,_,rfl,Reads.empty _⟩
theorem getRt_any(v:Int)(u:Value)(s:List UInt8)(w:World)(hW:WordsIn w)(hu:Reads w u s)(hb:s.length≤1000000) :
 Calls Tryz.prog 81 #[.int .i64 v,u] w (RDecd w (Rt.get v s)):=by
 obtain⟨w1,e1,hl1,hB1,hz1⟩:=box_rec w Re.zero (.slice none 0 0)
 dsimp only [Re.cells,Re.zero,Bl.zero,Cm.zero,Cm.bareOf]at e1
 have HK1:=Lib.hid hl1;have HB1:=Lib.hid hB1
 have hfm:=rtFormat_any v w1
 by_cases h12:v=1∨v=2
 ·rw[show Rt.format v=0 from if_pos h12]at hfm
  have HF:=Lib.hid hfm
  rcases h12 with rfl | rfl
  ·have HC:=Lib.hid (decodeRe_any u s w1 (hW.below hB1) (hu.below hB1) hb)
   have HR:Hid (Rt.get 1 s=Re.decode s):=by show _=_;unfold Rt.get;rw[if_pos rfl]
   clear hfm hl1 hB1 hz1 hW hu
   go_enter Tryz.func81,Tryz.ntmps81
   go_wp2_with fail
   refine HF.out.mono ?_
   rintro e2 w2 ⟨rfl,rfl⟩
   go_wp2_with fail
   refine HC.out.mono ?_
   rintro e3 w3 ⟨hb3,vi,rfl,hi,h1⟩
   rw[← HR.out]at hi ⊢
   have HI3:=Lib.hid hi;have H1:=Lib.hid h1;have HB3:=Lib.hid (HB1.out.trans (hb3.mono HB1.out.size));have HK3:=Lib.hid (HK1.out.below hb3 HK1.out.lt)
   obtain⟨io,ic,rfl⟩:=hi.shape
   obtain⟨r,hr⟩ : ∃r,r=Rt.get 1 s:=⟨_,rfl⟩
   have HRR:=Lib.hid hr
   rw[← hr]at HI3 ⊢
   obtain⟨xn,hxn⟩ : ∃xn,xn=r.1.img.length:=⟨_,rfl⟩
   rw[← hxn]at HI3 ⊢
   clear hb3 hi h1 hr hxn
   go_wp2_with (first
    | (refine store_rec (by rfl) _ _ (by rfl) w.heap.size Re.zero _ r.1 (.slice io xn ic) (by rfl) (by rfl) rfl HK3.out ?_
       intro w7 hl7 hg7
       have HB7:=Lib.hid (HB3.out.grown hg7 HB3.out.size (by rintro j hj;cases hj;exact Nat.le_refl _))
       have HI7:=Lib.hid (HI3.out.kept_rec HK3.out hg7))
    | fail)
   refine ret_rec2 rfl rfl hl7 rfl ?_
   rw[← HRR.out]
   exact⟨HB7.out, .slice io xn ic,rfl,HI7.out,rfl⟩
  ·have HC:=Lib.hid (decodeRt_any u s w1 (hW.below hB1) (hu.below hB1) hb)
   have HR:Hid (Rt.get 2 s=Rt.decode s):=by show _=_;unfold Rt.get;rw[if_neg (by decide),if_pos rfl]
   clear hfm hl1 hB1 hz1 hW hu
   go_enter Tryz.func81,Tryz.ntmps81
   go_wp2_with fail
   refine HF.out.mono ?_
   rintro e2 w2 ⟨rfl,rfl⟩
   go_wp2_with fail
   refine HC.out.mono ?_
   rintro e3 w3 ⟨hb3,vi,rfl,hi,h1⟩
   rw[← HR.out]at hi ⊢
   have HI3:=Lib.hid hi;have H1:=Lib.hid h1;have HB3:=Lib.hid (HB1.out.trans (hb3.mono HB1.out.size));have HK3:=Lib.hid (HK1.out.below hb3 HK1.out.lt)
   obtain⟨io,ic,rfl⟩:=hi.shape
   obtain⟨r,hr⟩ : ∃r,r=Rt.get 2 s:=⟨_,rfl⟩
   have HRR:=Lib.hid hr
   rw[← hr]at HI3 ⊢
   obtain⟨xn,hxn⟩ : ∃xn,xn=r.1.img.length:=⟨_,rfl⟩
   rw[← hxn]at HI3 ⊢
   clear hb3 hi h1 hr hxn
   go_wp2_with (first
    | (refine store_rec (by rfl) _ _ (by rfl) w.heap.size Re.zero _ r.1 (.slice io xn ic) (by rfl) (by rfl) rfl HK3.out ?_
       intro w7 hl7 hg7
       have HB7:=Lib.hid (HB3.out.grown hg7 HB3.out.size (by rintro j hj;cases hj;exact Nat.le_refl _))
       have HI7:=Lib.hid (HI3.out.kept_rec HK3.out hg7))
    | fail)
   refine ret_rec2 rfl rfl hl7 rfl ?_
   rw[← HRR.out]
   exact⟨HB7.out, .slice io xn ic,rfl,HI7.out,rfl⟩
 ·have HR:Hid (Rt.get v s=(Re.zero,8)):=by show _=_;unfold Rt.get;rw[if_neg (by omega),if_neg (by omega)]
  rw[show Rt.format v=8 from if_neg h12]at hfm
  have HF:=Lib.hid hfm
  clear hfm hl1 hB1 hz1 hW hu h12
  go_enter Tryz.func81,Tryz.ntmps81
  go_wp2_with fail
  refine HF.out.mono ?_
  rintro e2 w2 ⟨rfl,rfl⟩
  go_wp2_with (first
   | (refine store_rec (by rfl) _ _ (by rfl) w.heap.size Re.zero _ Re.zero (.slice none 0 0) (by rfl) (by rfl) rfl HK1.out ?_
      intro w7 hl7 hg7
      have HB7:=Lib.hid (HB1.out.grown hg7 HB1.out.size (by rintro j hj;cases hj;exact Nat.le_refl _)))
   | fail)
  refine ret_rec2 rfl rfl hl7 rfl ?_
  rw[HR.out]
  exact⟨HB7.out, .slice none 0 0,rfl,ReadsU.empty _,rfl⟩
end Go.Proofs.YtdkdjofnnnljjaaGreatDoor
