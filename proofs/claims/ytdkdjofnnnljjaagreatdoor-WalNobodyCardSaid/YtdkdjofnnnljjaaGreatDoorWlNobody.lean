/- WalNobody: a log, and a disk, that are nil. -/
import Derived.Test.YtdkdjofnnnljjaaGreatDoorPWlAwake
namespace Go.Proofs.YtdkdjofnnnljjaaGreatDoor
open Go.RowKit
set_option maxHeartbeats 3200000
set_option maxRecDepth 8000
theorem envWl{w:World}(hT:CrcTab w)(hW:WordsIn w):Env w.heap.size w:=⟨Nat.le_refl _,fun _ h=>⟨hT.below h,hW.below h⟩⟩
theorem HardR.zero' (w:World):HardR w Hd.zero Nil Nil Nil:=(HardQ.zero (fun _=>True) w).rows
theorem RecsP.sole{w:World}{g:Nat}{x:Re.Rec}{u:Value}(hl:Lies w g 42 (Re.cells x u))(hu:Reads w u x.img):RecsP (fun k _=>k<w.heap.size) w (.slice (some ⟨g,0,none⟩) 1 1) [x]:=by
 have h1:Lies w g 42 (flatR [Re.cells x u]).toArray:=by simpa[flatR] using hl
 have hs:Sized 12 [Re.cells x u]:=rowsOf_sized (ps := [(x,u)]) cellR_ok fun q hq=>by
  obtain rfl:q=(x,u):=by simpa using hq
  obtain⟨o,c,e⟩:=hu.shape
  rw[e]
  rfl
 refine⟨[(x,u)],rfl,RowP.of_reads (ReadsR.lit h1 hs (by simp)) (by omega) hs (fun b t hb=>hb),fun q hq => ?_⟩
 obtain rfl:q=(x,u):=by simpa using hq
 exact ReadsP.of_reads hu fun _ _ hb=>hb
theorem same_zero : decide (Hd.zero=Hd.zero)=true:=by simp
theorem walNobody_any{n0:Nat}(v:Int)(x:Re.Rec)(xi:Value)(w:World)(E:Env n0 w)(hx:Reads w xi x.img)(hsx:x.cmd.Short 9223372036854775807) :
 Calls Tryz.prog 5 #[.int .i64 v, .agg (Re.cells x xi)] w (Truly w):=by
 obtain⟨w1,e1,hl1,hB1,hs1⟩:=box_rec w x xi
 have HE:=Lib.hid E
 have HXI:=Lib.hid (fun W (h:Below w.heap.size w W)=>hx.below h)
 have HL1:=Lib.hid hl1;have HB1:=Lib.hid hB1;have HSX0:=Lib.hid hsx
 obtain⟨xo,xc,rfl⟩:=hx.shape
 obtain⟨xk,hxk⟩ : ∃n,n=x.img.length:=⟨_,rfl⟩
 rw[← hxk]at HXI HL1 e1 ⊢
 clear hl1 hB1 hs1 E hx hsx hxk
 have HA1:Hid (Below w.heap.size w (w1.alloc (.cells (Re.cells x (.slice xo xk xc)) 42))):=HB1.out.alloc HB1.out.size _
 have hlarge:=largeH_any (.slice (some ⟨w1.heap.size,0,none⟩) 1 1) [x] _ (RecsP.sole (Lies.new w1 42 (Re.cells x (.slice xo xk xc))) (HXI.out _ HA1.out)) (fun d hd=>by
  obtain rfl:d=x:=by simpa using hd
  exact HSX0.out)
 have HLARGE:=Lib.hid hlarge
 obtain⟨d0,d1,d2,d3,d4,d5,d6,d7,d8,d9,d10,d11⟩:=Recs.all HL1.out
 clear hlarge
 go_enter Tryz.func5,Tryz.ntmps5
 go_wp2_with fail
 refine HLARGE.out.mono ?_
 rintro e w2 ⟨b,rfl,hb2,_⟩
 have HB2:Hid (Below w.heap.size w w2):=HA1.out.trans (hb2.mono HA1.out.size)
 have HL2:=Lib.hid ((HL1.out.alloc (.cells (Re.cells x (.slice xo xk xc)) 42)).below hb2 (Nat.lt_of_lt_of_le HL1.out.lt (by simp)))
 clear hb2 d0 d1 d2 d3 d4 d5 d6 d7 d8 d9 d10 d11 HLARGE
 cases b with
 | true =>
  have HAW:=Lib.hid (awakeWl_any (HE.out.up HB2.out))
  go_wp2_with (go_at_call 7;refine HAW.out.mono ?_;rintro e w3 ⟨rfl,hb3⟩;have HB3:=Lib.hid hb3;clear hb3)
  go_ret
  exact⟨rfl,HB2.out.trans (HB3.out.mono HB2.out.size)⟩
 | false =>
  have HOP:=Lib.hid (openWl_nil (HE.out.up HB2.out) v)
  go_wp2_with (first
   | (go_at_call 14;refine(syncWl_nil w2).mono ?_;rintro e w2' ⟨rfl,rfl⟩)
   | (go_at_call 9;refine HOP.out.mono ?_;rintro e w3 ⟨rfl,hb3⟩;have HB3:Hid (Below w.heap.size w w3):=HB2.out.trans (hb3.mono HB2.out.size);have HL3:=Lib.hid (HL2.out.below hb3 HL2.out.lt);clear hb3;dsimp only [Hd.cells,Hd.zero,Bl.zero])
   | fail)
  have hba:Below w3.heap.size w3 (w3.alloc (.cells #[.int .i64 0, .int .i64 0, .int .i64 0, .slice none 0 0, .slice none 0 0, .slice none 0 0] 33)):=(Below.refl _ w3).alloc (Nat.le_refl _) _
  have HBA:Hid (Below w.heap.size w (w3.alloc (.cells #[.int .i64 0, .int .i64 0, .int .i64 0, .slice none 0 0, .slice none 0 0, .slice none 0 0] 33))):=HB3.out.trans (hba.mono HB3.out.size)
  refine(peekWl_nil (HE.out.up HBA.out)).mono ?_
  rintro e w4 ⟨f', k', vi,va,vc,rfl,hpk,hr4,hb4⟩
  obtain⟨rfl,rfl⟩:=hpk.one Wl.Peek.nil
  obtain⟨⟨io,ik,ic,rfl⟩,⟨ao,ak,ac,rfl⟩,⟨co,ck,cc,rfl⟩⟩:=hr4.rows.sl
  have HB4:Hid (Below w.heap.size w w4):=HBA.out.trans (hb4.mono HBA.out.size)
  have HL4:=Lib.hid ((HL3.out.below hba HL3.out.lt).below hb4 (Nat.lt_of_lt_of_le HL3.out.lt hba.size))
  obtain⟨w5,e5,l5,hb5,hs5⟩:=box_six w4 33 Hd.zero (.slice io ik ic) (.slice ao ak ac) (.slice co ck cc) hr4.rows
  have HR5:=Lib.hid (hr4.rows.below hb5)
  have HB5:Hid (Below w.heap.size w w5):=HB4.out.trans (hb5.mono HB4.out.size)
  have HL5:=Lib.hid (HL4.out.below hb5 HL4.out.lt)
  have HS1:=Lib.hid (sameH_any Hd.zero Hd.zero (.slice io ik ic) (.slice ao ak ac) (.slice co ck cc) Nil Nil Nil w5 HR5.out (HardR.zero' w5))
  rw[same_zero]at HS1
  obtain⟨c0,c1,c2,c3,c4,c5⟩:=l5.all
  clear hpk hr4 hb4 hba l5 hb5 hs5 HOP
  dsimp only [Hd.cells,Hd.zero,Bl.zero]at e5 c0 c1 c2 HS1 ⊢
  go_wp2_with fail
  refine HS1.out.mono ?_
  rintro e w6 ⟨rfl,hb6⟩
  have HB6:Hid (Below w.heap.size w w6):=HB5.out.trans (hb6.mono HB5.out.size)
  obtain⟨d0,d1,d2,d3,d4,d5,d6,d7,d8,d9,d10,d11⟩:=Recs.all (HL5.out.below hb6 HL5.out.lt)
  clear hb6 c0 c1 c2 c3 c4 c5 HS1
  have HAD:=Lib.hid (addWl_nil x xo xk xc w6)
  go_wp2_with fail
  refine HAD.out.mono ?_
  rintro e w7 ⟨rfl,hb7⟩
  have HB7:Hid (Below w.heap.size w w7):=HB6.out.trans (hb7.mono HB6.out.size)
  clear hb7 d0 d1 d2 d3 d4 d5 d6 d7 d8 d9 d10 d11 HAD
  have HRN:=Lib.hid (renewWl_nil v Hd.zero w7 Nil Nil Nil)
  dsimp only [Hd.cells,Hd.zero,Bl.zero]at HRN
  go_wp2_with fail
  refine HRN.out.mono ?_
  rintro e w8 ⟨rfl,hb8⟩
  have HB8:Hid (Below w.heap.size w w8):=HB7.out.trans (hb8.mono HB7.out.size)
  clear hb8 HRN
  have HHD:=Lib.hid (hardWl_nil w8)
  have HS2:=Lib.hid (fun W=>sameH_any Hd.zero Hd.zero Nil Nil Nil Nil Nil Nil W (HardR.zero' W) (HardR.zero' W))
  rw[same_zero]at HS2
  have HAW:=Lib.hid (fun W (h:Below w.heap.size w W)=>awakeWl_any (HE.out.up h))
  dsimp only [Hd.cells,Hd.zero,Bl.zero]at HS2 HHD
  go_wp2_with (first
   | (go_at_call 23;refine(formatWl_nil w8).mono ?_;rintro e w8' ⟨rfl,rfl⟩)
   | (go_at_call 29;refine(dirtyWl_nil w8).mono ?_;rintro e w8' ⟨rfl,rfl⟩)
   | (go_at_call 22;refine HHD.out.mono ?_;rintro e w9 ⟨rfl,hb9⟩;have HB9:Hid (Below w.heap.size w w9):=HB8.out.trans (hb9.mono HB8.out.size);clear hb9)
   | (go_at_call 21;refine(HS2.out w9).mono ?_;rintro e w10 ⟨rfl,hb10⟩;have HB10:Hid (Below w.heap.size w w10):=HB9.out.trans (hb10.mono HB9.out.size);clear hb10)
   | (go_at_call 7;refine(HAW.out w10 HB10.out).mono ?_;rintro e w11 ⟨rfl,hb11⟩;have HB11:Hid (Below w.heap.size w w11):=HB10.out.trans (hb11.mono HB10.out.size);clear hb11))
  go_ret
  exact⟨rfl,HB11.out⟩
end Go.Proofs.YtdkdjofnnnljjaaGreatDoor
