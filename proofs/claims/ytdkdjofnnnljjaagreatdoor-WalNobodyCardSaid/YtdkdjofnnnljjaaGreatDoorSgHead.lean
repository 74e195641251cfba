/- Log files: the first frame, a record's frame, the bytes that a file begins with. -/
import Derived.Test.YtdkdjofnnnljjaaGreatDoorPSgMem
import Derived.Test.YtdkdjofnnnljjaaGreatDoorPSgPlain
import Derived.Test.YtdkdjofnnnljjaaGreatDoorGRu
import Derived.Test.YtdkdjofnnnljjaaGreatDoorGFt
import Derived.Test.YtdkdjofnnnljjaaGreatDoorHdMake
import Derived.Test.YtdkdjofnnnljjaaGreatDoorPGHd
namespace Go.Proofs.YtdkdjofnnnljjaaGreatDoor
open Go.RowKit
set_option maxHeartbeats 3200000
set_option maxRecDepth 8000
theorem checkFormat_any(f:Int)(w:World):Calls Tryz.prog 84 #[.int .i64 f] w (Says w (.int .i64 (Vs.opens 2 f))):=by
 have hc:=opens_any 2 f w
 obtain⟨z,hz⟩ : ∃z,z=Vs.opens 2 f:=⟨_,rfl⟩
 rw[← hz]at hc ⊢
 have HC:=Lib.hid hc
 clear hc hz
 go_enter Tryz.func84,Tryz.ntmps84
 go_wp2_with fail
 refine HC.out.mono ?_
 rintro e w1 ⟨rfl,rfl⟩
 go_wp2
 go_ret
 exact⟨rfl,rfl⟩
def SgMade(w:World)(r:List UInt8 × Int)(e:Ending)(w' : World):Prop :=
 ∃u,e = .returned (.tuple #[u, .int .i64 r.2])∧Owns w' w.heap.size 5 u r.1∧Below w.heap.size w w'
theorem firstSg_any(f:Int)(hf:f=1∨f=2)(n:Nat)(w:World)(hT:CrcTab w)(hn:n≤9223372036854775807) :
 Calls Tryz.prog 87 #[.int .i64 f, .int .i64 (n:Int)] w (SgMade w (Frm.frame (Sg.first f n),0)):=by
 obtain⟨w1,e1,hw1,hB1⟩ : ∃w1,w.alloc (.cells #[.slice none 0 0] 163)=w1∧Wrt w1 w.heap.size w.heap.size (.slice none 0 0) []∧Below w.heap.size w w1 :=
  ⟨_,rfl,Wr.fresh _ _ _ _ (Nat.le_refl _),(Below.refl _ _).alloc (Nat.le_refl _) _⟩
 have HW1:=Lib.hid hw1;have HB1:=Lib.hid hB1
 have HT:=Lib.hid (fun W (h:Below w.heap.size w W)=>hT.below h)
 have hf0:1≤f:=by omega
 have hf1:f≤2:=by omega
 have l1:=enc_nine (n:=f.toNat) (by omega)
 have l2:=enc_nine (n:=n) hn
 have p1:=enc_pos f.toNat
 have HL:Hid (0<(Sg.first f n).length∧(Sg.first f n).length≤18):=by
  show _∧_
  unfold Sg.first
  rw[List.length_append]
  omega
 have HL1:=Lib.hid l1
 have HN:=Lib.hid hn
 clear hw1 hB1 hT hf l1 l2 p1 hn
 go_enter Tryz.func87,Tryz.ntmps87
 go_wp2_with fail
 refine(wnum_any f _ w.heap.size w.heap.size _ [] HW1.out HB1.out.size (by simp) (by omega) (by omega)).mono ?_
 rintro e2 w2 ⟨rfl,v2,hw2,hg2⟩
 rw[List.nil_append]at hw2
 have HW2:=Lib.hid hw2
 have HB2:Hid (Below w.heap.size w w2):=HB1.out.trans (HW1.out.below hg2 HB1.out.size)
 clear hw2 hg2
 go_wp2_with fail
 refine(wnum_any (n:Int) _ w.heap.size w.heap.size v2 (enc f.toNat) HW2.out HB2.out.size (by have:=HL1.out;omega) (by omega) (by have:=HN.out;omega)).mono ?_
 rw[Int.toNat_natCast]
 rintro e3 w3 ⟨rfl,v3,hw3,hg3⟩
 have HW3:=Lib.hid hw3
 have HB3:Hid (Below w.heap.size w w3):=HB2.out.trans (HW2.out.below hg3 HB2.out.size)
 clear hw3 hg3
 go_wp2_with fail
 refine(wbytes_any _ w.heap.size w.heap.size v3 (Sg.first f n) HW3.out (by have:=HL.out.2;omega)).mono ?_
 rintro e4 w4 ⟨v4,rfl,ho4,hb4⟩
 have HO4:=Lib.hid ho4.reads
 have HB4:Hid (Below w.heap.size w w4):=HB3.out.trans (hb4.mono HB3.out.size)
 clear ho4 hb4
 go_wp2_with fail
 refine(add_ok (.slice none 0 0) v4 [] (Sg.first f n) _ (Reads.empty _) HO4.out (HT.out _ HB4.out) (by have:=HL.out.1;omega) (by have:=HL.out.2;omega) (by simp)).mono ?_
 rw[List.nil_append]
 rintro e5 w5 ⟨x,rfl,ho5,hb5⟩
 go_wp2
 go_ret2
 exact⟨x,rfl,ho5.mono HB4.out.size,HB4.out.trans (hb5.mono HB4.out.size)⟩
def Sg.add(f:Int)(x:Re.Rec):List UInt8 × Int:=if(Rt.put f x).2≠0 then ([],(Rt.put f x).2)else (Frm.frame (Rt.bytesIn f x),0)
theorem Sg.put_ok{f:Int}{x:Re.Rec}(h:(Rt.put f x).2=0):(f=1∨f=2)∧Re.olderIn f x=0∧Rt.put f x=(Rt.bytesIn f x,0):=by
 unfold Rt.put at h ⊢
 by_cases hf:f=1∨f=2
 ·rw[if_pos hf]at h ⊢
  by_cases ho:Re.olderIn f x=0
  ·rw[if_neg (by simpa using ho)]
   exact⟨hf,ho,rfl⟩
  ·rw[if_pos ho]at h
   exact absurd h ho
 ·rw[if_neg hf]at h
  exact absurd h (by decide)
theorem addSg_any(f:Int)(x:Re.Rec)(vi:Value)(w:World)(hT:CrcTab w)(hW:WordsIn w)(hi:Reads w vi x.img)(hx:x.Fits)(hs:x.cmd.Short 1000)(hk:x.img.length≤100000) :
 Calls Tryz.prog 39 #[.int .i64 f, .agg (Re.cells x vi)] w (SgMade w (Sg.add f x)):=by
 obtain⟨w1,e1,hl1,hB1,hz1⟩:=box_rec w x vi
 have HM1:=Lib.hid hl1;have HB1:=Lib.hid hB1
 have HP:=Lib.hid (putRt_any f x vi w1 (hW.below hB1) (hi.below hB1) hx hs hk)
 have HT:=Lib.hid (fun W (h:Below w.heap.size w W)=>hT.below h)
 have HX:=Lib.hid hx
 clear hl1 hB1 hz1 hT hW hi hx hs hk
 obtain⟨r,hr⟩ : ∃r,r=Sg.add f x:=⟨_,rfl⟩
 rw[← hr]
 unfold Sg.add at hr
 have hpk:=fun h=>Sg.put_ok (f:=f) (x:=x) h
 obtain⟨q,hq⟩ : ∃q,q=Rt.put f x:=⟨_,rfl⟩
 rw[← hq]at HP hr hpk
 have HR:=Lib.hid hr;have HPK:=Lib.hid hpk
 clear hr hq hpk
 go_enter Tryz.func39,Tryz.ntmps39
 go_wp2_with (first
  | (refine load_rec rfl _ rfl w.heap.size x vi rfl HM1.out ?_)
  | fail)
 refine HP.out.mono ?_
 rintro e2 w2 ⟨hb2,u,rfl,hu⟩
 have HB2:Hid (Below w.heap.size w w2):=HB1.out.trans (hb2.mono HB1.out.size)
 have HU:=Lib.hid hu
 obtain⟨uo,uc,rfl⟩:=hu.shape
 obtain⟨z,hz⟩ : ∃z,z=q.2:=⟨_,rfl⟩
 rw[← hz]at HR HPK ⊢
 clear hb2 hu
 by_cases h0:z=0
 ·obtain⟨hf,ho,he⟩:=HPK.out h0
  have HR2:Hid (r=(Frm.frame (Rt.bytesIn f x),0)):=HR.out.trans (if_neg (by simpa using h0))
  obtain⟨_,hb,_⟩:=Sg.body_len ho HX.out
  rw[he]at HU ⊢
  dsimp only at HU ⊢
  have HBL:=Lib.hid hb
  subst h0
  obtain⟨un,hun⟩ : ∃un,un=(Rt.bytesIn f x).length:=⟨_,rfl⟩
  rw[← hun]at HU ⊢
  clear hf ho he hb hz hun
  go_wp2_with fail
  refine(add_ok (.slice none 0 0) (.slice uo un uc) [] (Rt.bytesIn f x) _ (Reads.empty _) HU.out (HT.out _ HB2.out) HBL.out.1 HBL.out.2 (by simp)).mono ?_
  rw[List.nil_append]
  rintro e3 w3 ⟨y,rfl,ho3,hb3⟩
  go_wp2
  go_ret2
  rw[HR2.out]
  exact⟨y,rfl,ho3.mono HB2.out.size,HB2.out.trans (hb3.mono HB2.out.size)⟩
 ·have hne:(z != 0)=true:=by simpa using h0
  have HR2:Hid (r=([],z)):=HR.out.trans (if_pos h0)
  clear h0 HPK HR hz
  go_wp2
  go_ret2
  rw[HR2.out]
  exact⟨_,rfl,Owns.empty _ _ _,HB2.out⟩
def Sg.head(b:Bool)(f:Int)(h:Hd.Hard):List UInt8 × Int :=
 if Vs.opens 2 f≠0 then ([],Vs.opens 2 f)else if b=false then ([],3)else if Sg.hasAll f (Hd.recs h)≠0 then ([],Sg.hasAll f (Hd.recs h))else (Sg.file f h [],0)
theorem headSg_any(b:Bool)(f:Int)(h:Hd.Hard)(vi va vc:Value)(w:World)(hT:CrcTab w)(hW:WordsIn w)(hr:HardR w h vi va vc)(hb:b=true↔Hd.Valid h)(hfew:h.Few)(hrl:(Hd.recs h).length≤1000)
 (ha : ∀e∈h.acc,e.cmd.Short 140737488355328) (hc : ∀e∈h.chs,e.cmd.Short 140737488355328) (hx : ∀x∈Hd.recs h,x.Fits∧x.cmd.Short 1000∧x.img.length≤100000) :
 Calls Tryz.prog 65 #[.int .i64 f, .agg (Hd.cells h vi va vc)] w (SgMade w (Sg.head b f h)):=by
 obtain⟨w1,e1,hx1,hB1,hs1⟩:=box_six w 33 h vi va vc hr
 have HX1:=Lib.hid hx1;have HB1:=Lib.hid hB1
 have HR1:=Lib.hid (hr.below hB1)
 have HT:=Lib.hid (fun W (h:Below w.heap.size w W)=>hT.below h)
 have HW:=Lib.hid (fun W (h:Below w.heap.size w W)=>hW.below h)
 have HBV:=Lib.hid hb;have HFEW:=Lib.hid hfew;have HA:=Lib.hid ha;have HC:=Lib.hid hc;have HXX:=Lib.hid hx;have HRL:=Lib.hid hrl
 have hcf:=checkFormat_any f w1
 obtain⟨r,hr'⟩ : ∃r,r=Sg.head b f h:=⟨_,rfl⟩
 rw[← hr']
 unfold Sg.head at hr'
 obtain⟨z,hz⟩ : ∃z,z=Vs.opens 2 f:=⟨_,rfl⟩
 rw[← hz]at hcf hr'
 have HZ:Hid (z=0→f=1∨f=2):=fun h0=>by
  rw[h0,Vs.opens_two]at hz
  by_cases h1:f=1∨f=2
  ·exact h1
  ·rw[if_neg h1]at hz;omega
 have HCF:=Lib.hid hcf;have HR:=Lib.hid hr'
 clear hx1 hB1 hs1 hr hT hW hb hfew ha hc hx hrl hcf hr' hz
 go_enter Tryz.func65,Tryz.ntmps65
 go_wp2_with fail
 refine HCF.out.mono ?_
 rintro e2 w2 ⟨rfl,rfl⟩
 by_cases h0:z=0
 ·have hf:=HZ.out h0
  have HF:=Lib.hid hf
  have hr2:=HR.out.trans (if_neg (by simpa using h0))
  subst h0
  have HR2:=Lib.hid hr2
  clear hf hr2 HR HCF HZ
  go_wp2_with (refine load_hard rfl _ rfl rfl HX1.out ?_)
  refine(hardCheck_any b h vi va vc w1 (HW.out _ HB1.out) HR1.out HBV.out HA.out HC.out).mono ?_
  rintro e w3 ⟨rfl,hb3⟩
  have HB3:=Lib.hid (HB1.out.trans (hb3.mono HB1.out.size))
  have HX3:=Lib.hid (HX1.out.below hb3 HX1.out.lies.lt)
  have HR3:=Lib.hid (HR1.out.below hb3)
  clear hb3
  cases b with
  | false =>
   have HR4:Hid (r=([],3)):=HR2.out.trans (if_pos rfl)
   rw[if_neg (by simp)]
   go_wp2
   go_ret2
   rw[HR4.out]
   exact⟨_,rfl,Owns.empty _ _ _,HB3.out⟩
  | true =>
   have HR4:=Lib.hid (HR2.out.trans (if_neg (by simp)))
   rw[if_pos rfl]
   go_wp2_with (refine load_hard rfl _ rfl rfl HX3.out ?_)
   refine(records_any h vi va vc w3 HR3.out HFEW.out).mono ?_
   rintro e w4 ⟨v4,rfl,hl4,hb4⟩
   have HB4:=Lib.hid (HB3.out.trans (hb4.mono HB3.out.size))
   obtain⟨L,hL⟩ : ∃L,L=Hd.recs h:=⟨_,rfl⟩
   have HLL:=Lib.hid hL
   rw[← hL]at hl4 HR4 HXX HRL
   obtain⟨lo,lc,hvl,hc1,hc2⟩:=ListP.shape hl4
   obtain⟨N,hN⟩ : ∃N,N=L.length:=⟨_,rfl⟩
   rw[← hN]at hvl hc1
   subst hvl
   have HNN:=Lib.hid hN
   have hN1:N≤1000:=by have:=HRL.out;omega
   have HP:=Lib.hid (fun h=>ListP.places hl4 cellR_first h)
   clear hl4 hb4 hL hN HX3 HR3 HR2
   go_wp2_with fail
   refine(firstSg_any f HF.out N w4 (HT.out _ HB4.out) (by omega)).mono ?_
   rintro e w5 ⟨v5,rfl,ho5,hb5⟩
   have HO5:Hid (Owns w5 w4.heap.size 5 v5 (Frm.flat (Sg.first f N :: (L.take 0).map (Rt.bytesIn f)))):=by
    show Owns _ _ _ _ _
    simpa[Frm.flat] using ho5
   have HB5:Hid (Below w4.heap.size w4 w5):=hb5
   obtain⟨vo,vc5,hv5⟩:=ho5.reads.shape
   obtain⟨vn,hvn⟩ : ∃vn,vn=(Frm.frame (Sg.first f N)).length:=⟨_,rfl⟩
   rw[← hvn]at hv5
   subst hv5
   clear ho5 hb5 hvn
   go_wp2
   go_loopw [9,39] (fun y i wr => ∃k:Nat,i = .int .i64 (k:Int)∧k≤N∧Hid (∀c∈L.take k,Re.olderIn f c=0)∧Hid (Owns wr w4.heap.size 5 y (Frm.flat (Sg.first f N :: (L.take k).map (Rt.bytesIn f))))∧Hid (Below w4.heap.size w4 wr)) (fun _ i _=>N - (intOf i).toNat)
   case atStart=>exact⟨0,rfl,by omega,by show ∀c∈_,_;simp,HO5.out,HB5.out⟩
   case round =>
    obtain⟨k,rfl,hk,HI,HY,HB⟩:=hrel
    obtain⟨yo,yc,hyy⟩:=HY.out.reads.shape
    obtain⟨yn,hyn⟩ : ∃m,m=(Frm.flat (Sg.first f N :: (L.take k).map (Rt.bytesIn f))).length:=⟨_,rfl⟩
    rw[← hyn]at hyy
    clear hyn
    subst hyy
    have HBW:Hid (Below w.heap.size w wr):=HB4.out.trans (HB.out.mono HB4.out.size)
    by_cases hlt:k<N
    ·obtain⟨x,hxl⟩ : ∃x,L[k]? = some x:=⟨_,List.getElem?_eq_getElem (by have:=HNN.out;omega)⟩
     obtain⟨g,off,rfl,_,hc⟩:=HP.out (by have:=HNN.out;omega)
     obtain⟨u,hu,hcell⟩:=hc k x hxl
     obtain⟨uo,uc,rfl⟩:=hu.1.shape
     have HU:=Lib.hid (fun W (h:Below w4.heap.size w4 W)=>hu.1.below h)
     have HXO:=Lib.hid (HXX.out x (List.mem_of_getElem? hxl))
     have HXL:=Lib.hid hxl
     have HCELL:Hid (∀j v,(Re.cells x (.slice uo x.img.length uc))[j]? = some v→wr.cell? ⟨g,off+k*12+j,none⟩=some v):=fun j v hj=>by rw[Nat.add_assoc];exact hcell wr HB.out j v hj
     clear hc hu hcell hxl
     go_wp2_with (first
      | (refine load_rec_at rfl _ rfl g (off+k*12) x (.slice uo x.img.length uc) rfl HCELL.out ?_)
      | (refine store_rec rfl _ _ rfl wr.heap.size Re.zero Nil x (.slice uo x.img.length uc) rfl rfl rfl (Lies.new _ _ _) ?_;intro w6 hl6 hg6;have HL6:=Lib.hid hl6;have HB6:Hid (Below wr.heap.size wr w6):=fresh_below hg6;clear hl6 hg6)
      | (refine load_rec rfl _ rfl wr.heap.size x (.slice uo x.img.length uc) rfl HL6.out ?_)
      | fail)
     have HBX:Hid (Below w4.heap.size w4 w6):=HB.out.trans (HB6.out.mono HB.out.size)
     have HBXW:Hid (Below w.heap.size w w6):=HB4.out.trans (HBX.out.mono HB4.out.size)
     refine(addSg_any f x (.slice uo x.img.length uc) w6 (HT.out _ HBXW.out) (HW.out _ HBXW.out) (HU.out _ HBX.out) HXO.out.1 HXO.out.2.1 HXO.out.2.2).mono ?_
     rintro e w7 ⟨u7,rfl,ho7,hb7⟩
     have HB7:Hid (Below w4.heap.size w4 w7):=HBX.out.trans (hb7.mono HBX.out.size)
     have HY7:=Lib.hid (HY.out.keep (HB6.out.trans (hb7.mono HB6.out.size)) (Nat.le_refl _))
     have HO7:=Lib.hid ho7
     clear ho7 hb7 HCELL HL6
     obtain⟨q,hq⟩ : ∃q,q=(Rt.put f x).2:=⟨_,rfl⟩
     have HQ:=Lib.hid hq
     by_cases h0:q=0
     ·have HAD:Hid (Sg.add f x=(Frm.frame (Rt.bytesIn f x),0)):=by show _=_;unfold Sg.add;rw[← hq,if_neg (by simpa using h0)]
      obtain⟨_,hold,_⟩:=Sg.put_ok (f:=f) (x:=x) (by rw[← hq];exact h0)
      rw[HAD.out]at HO7 ⊢
      dsimp only at HO7 ⊢
      have HI2:Hid (∀d∈L.take (k+1),Re.olderIn f d=0):=by
       intro d hd
       rw[List.take_add_one,HXL.out]at hd
       rcases List.mem_append.1 hd with hd | hd
       ·exact HI.out d hd
       ·simp at hd;subst hd;exact hold
      have HTK:Hid (Frm.flat (Sg.first f N :: (L.take k).map (Rt.bytesIn f))++Frm.frame (Rt.bytesIn f x)=Frm.flat (Sg.first f N :: (L.take (k+1)).map (Rt.bytesIn f))):=by show _=_;rw[List.take_add_one,HXL.out];simp[Frm.flat]
      have HFL:Hid ((Frm.flat (Sg.first f N :: (L.take k).map (Rt.bytesIn f))).length+(Frm.frame (Rt.bytesIn f x)).length≤140737488355328):=by
       have h1:=Sg.flat_len (f:=f) (Sg.first f N) (L.take k) (fun c hc=>(Sg.body_len (HI.out c hc) (HXX.out c (List.mem_of_mem_take hc)).1).1)
       have h2:(L.take k).length≤L.length:=List.length_take_le' _ _
       have h3:=Frm.frame_len (Sg.first f N)
       have h4:=Frm.frame_len (Rt.bytesIn f x)
       have h6:=(Sg.body_len hold HXO.out.1).2.1.2
       have h5:=enc_nine (n:=(Rt.bytesIn f x).length) (by omega)
       have hff:=HF.out
       have h7:=enc_nine (n:=f.toNat) (by omega)
       have h8:=enc_nine (n:=N) (by omega)
       have h9:(Sg.first f N).length=(enc f.toNat).length+(enc N).length:=by simp[Sg.first]
       have h10:=enc_nine (n:=(Sg.first f N).length) (by omega)
       have:=HNN.out
       show _≤_
       omega
      clear hold hq HQ h0
      go_wp2_with (at_builtin;refine append_bytes rfl _ _ 30 5 rfl Tryz.underlying30 info_u8 w4.heap.size _ (Frm.frame (Rt.bytesIn f x)) (.slice yo yn yc) u7 rfl rfl HY7.out HO7.out.reads HFL.out w4 HB7.out (Nat.le_refl _) ?_;intro v8 w8 ho8 hb8 hg8;have HO8:=Lib.hid ho8;have HB8:Hid (Below w4.heap.size w4 w8):=hb8;clear ho8 hb8 hg8)
      rw[HTK.out]at HO8
      go_roundw
      case rel=>exact⟨k+1,by go_num,by omega,HI2.out,HO8.out,HB8.out⟩
      case measure=>simp[intOf];omega
     ·have hne:(q != 0)=true:=by simpa using h0
      have hold:Re.olderIn f x=q:=by
       rw[hq]
       unfold Rt.put
       rw[if_pos HF.out]
       by_cases ho:Re.olderIn f x=0
       ·exfalso
        apply h0
        rw[hq]
        unfold Rt.put
        rw[if_pos HF.out,if_neg (by simpa using ho)]
       ·rw[if_pos ho]
      have hall:Sg.hasAll f L=q:=(Sg.hasAll_step HI.out HXL.out (by rw[hold];exact h0)).trans hold
      have HR5:Hid (r=([],q)):=by
       have h1:=HR4.out
       rw[hall,if_pos h0]at h1
       exact h1
      have HAD:Hid (Sg.add f x=([],q)):=by show _=_;unfold Sg.add;rw[← hq,if_pos h0]
      rw[HAD.out]at HO7 ⊢
      dsimp only at HO7 ⊢
      obtain⟨ao,ac,hsh⟩:=HO7.out.reads.shape
      subst hsh
      clear hold hall hq HQ h0 HR4
      go_wp2
      go_ret2
      rw[HR5.out]
      exact⟨_,rfl,Owns.empty _ _ _,HB4.out.trans (HB7.out.mono HB4.out.size)⟩
    ·obtain rfl:k=N:=by omega
     have hall:Sg.hasAll f L=0:=(Sg.hasAll_iff L).2 fun c hc=>HI.out c (by rw[List.take_of_length_le (by have:=HNN.out;omega)];exact hc)
     have HR5:Hid (r=(Sg.file f h [],0)):=by
      have h1:=HR4.out
      rw[hall,if_neg (by simp)]at h1
      exact h1
     have HFIN:Hid (Owns wr w4.heap.size 5 (.slice yo yn yc) (Sg.file f h [])):=by
      have h1:=HY.out
      rw[List.take_of_length_le (by have:=HNN.out;omega)]at h1
      show Owns _ _ _ _ _
      unfold Sg.file Sg.bodies
      rw[List.append_nil, ← HLL.out, ← HNN.out]
      exact h1
     clear hall HR4
     go_wp2
     go_ret2
     rw[HR5.out]
     exact⟨_,rfl,HFIN.out.mono HB4.out.size,HBW.out⟩
 ·have hne:(z != 0)=true:=by simpa using h0
  have HR2:Hid (r=([],z)):=HR.out.trans (if_pos h0)
  clear h0 HR HCF HZ
  go_wp2
  go_ret2
  rw[HR2.out]
  exact⟨_,rfl,Owns.empty _ _ _,HB1.out⟩
end Go.Proofs.YtdkdjofnnnljjaaGreatDoor
