/- Several texts of mine in one: WlAdds WlRenew Stop WlBack. -/
import Derived.Test.YtdkdjofnnnljjaaGreatDoorPWlAdd
import Derived.Test.YtdkdjofnnnljjaaGreatDoorPDkHold
import Derived.Test.YtdkdjofnnnljjaaGreatDoorPGFs
import Derived.RangeFuncNested
import Derived.RangeFuncLeaves
import Derived.Shelf.Abstract
import Derived.OwnWalkIn
import Derived.TacticsInMore
import Derived.LoopNIn
import Derived.LoopIn
namespace Go.Proofs.YtdkdjofnnnljjaaGreatDoor
open Go.RowKit
set_option maxHeartbeats 3200000
set_option maxRecDepth 8000
def Adds(T:Nat→Prop)(w:World)(g d:Nat)(F:Dk.Files)(B:List Dk.Op)(n f:Int)(h:Hd.Hard)(x:Re.Rec)(r:List UInt8 × Int)(e:Ending)(w' : World):Prop :=
 e = .returned (.int .i64 r.2)∧((r.2=0∧LogTo T w g d F (B ++ [⟨2,n,r.1⟩]) n f (Hd.apply h x) w')∨(r.2≠0∧LogTo T w g d F B n f h w'))
theorem addWl_any{T:Nat→Prop}{w:World}{n0 g d:Nat}{F:Dk.Files}{B:List Dk.Op}{n f:Int}{h:Hd.Hard}(E:Env n0 w)(hT : ∀k,T k→n0≤k)(l:LogAt T w g d F B n f h)(x:Re.Rec)(xi:Value)(hx:Reads w xi x.img)(hxp:InP (fun b => ¬T b) xi)
 (r:List UInt8 × Int) (hc : ∀W,Below w.heap.size w W→Calls Tryz.prog 39 #[.int .i64 f, .agg (Re.cells x xi)] W (SgMade W r)) (hb:r.1.length≤1000000) (hB:B.length≤1000000000) (hn:1≤n∧n≤4294967296) (hval:Hd.Valid h) (hla:h.acc.length≤800000∧h.chs.length≤800000) (hs:x.cmd.Short 140737488355328) :
 Calls Tryz.prog 12 #[Wl.ptr g, .agg (Re.cells x xi)] w (Adds T w g d F B n f h x r):=by
 have hmf : ∀(fn:Fn) (first cap:Array Value) (w:World),(Instr.makeFunc fn first cap).run Tryz.prog w = .ok (.func fn first cap) w:=fun _ _ _ _=>rfl
 have HLA:=Lib.hid l
 obtain⟨xo,xc,rfl⟩:=hx.shape
 obtain⟨S,vi,va,vc,l⟩:=l
 have HSUB:=Lib.hid l.sub;have HTG:=Lib.hid l.here
 have hlt:=l.tight
 have hgl:=l.lies.lt
 obtain⟨w1,e1,l2,hb1,hs1⟩:=box_cells w 27 #[Wl.ptr g]
 obtain⟨w2,e2,l3,hb2,hs2⟩:=box_rec w1 x (.slice xo x.img.length xc)
 obtain⟨w3,e3,l5,hb3,hs3⟩:=box_cells w2 30 #[Nil]
 obtain⟨w4,e4,lk,hb4,hs4⟩:=box_cells w3 34 #[.int .i64 0]
 obtain⟨b2,hb2e⟩ : ∃b,b=w.heap.size:=⟨_,rfl⟩
 obtain⟨b3,hb3e⟩ : ∃b,b=w1.heap.size:=⟨_,rfl⟩
 obtain⟨b5,hb5e⟩ : ∃b,b=w2.heap.size:=⟨_,rfl⟩
 obtain⟨k,hke⟩ : ∃b,b=w3.heap.size:=⟨_,rfl⟩
 have HB4:Hid (Below w.heap.size w w4):=((hb1.trans (hb2.mono hb1.size)).trans (hb3.mono (by omega))).trans (hb4.mono (by omega))
 have L2:Hid (Lies w4 b2 27 #[Wl.ptr g]):=by rw[hb2e];exact((l2.below hb2 (by omega)).below hb3 (by omega)).below hb4 (by omega)
 have L3:Hid (Recs w4 b3 x (.slice xo x.img.length xc)):=by rw[hb3e];exact(l3.below hb3 (by omega)).below hb4 (by omega)
 have L5:Hid (Lies w4 b5 30 #[Nil]):=by rw[hb5e];exact l5.below hb4 (by omega)
 have LK:Hid (Lies w4 k 34 #[.int .i64 0]):=by rw[hke];exact lk
 have HNE:Hid (w.heap.size≤b2∧w.heap.size≤b3∧w.heap.size≤b5∧w.heap.size≤k∧b2≠b5∧g≠b5∧b3≠b5∧b5≠k∧b2≠k∧b3≠k∧g≠k):=⟨by omega,by omega,by omega,by omega,by omega,by omega,by omega,by omega,by omega,by omega,by omega⟩
 have HLT:=Lib.hid hlt;have HBB:=Lib.hid hb;have HBL:=Lib.hid hB;have HN:=Lib.hid hn;have HV:=Lib.hid hval;have HA:=Lib.hid hla;have HS:=Lib.hid hs;have HX:=Lib.hid hx;have HXT:=Lib.hid ((Reads.tight hx).both hxp);have HGL:=Lib.hid hgl
 have HC:=Lib.hid hc;have HE:=Lib.hid E;have HTT:=Lib.hid hT
 obtain⟨nx,hnx⟩ : ∃n,n=x.img.length:=⟨_,rfl⟩
 have HNX:=Lib.hid hnx
 rw[← hnx]at L3 HC HX HXT e2 ⊢
 clear l2 l3 l5 lk hb1 hb2 hb3 hb4 hs1 hs2 hs3 hs4 hlt hb hB hn hval hla hs hx hxp hgl l hc E hT hnx
 obtain⟨Q,hQ⟩ : ∃Q,Q=Adds T w g d F B n f h x r:=⟨_,rfl⟩
 rw[← hQ]
 have HQ:=Lib.hid hQ
 clear hQ
 go_enter Tryz.func12,Tryz.ntmps12
 go_wp2_with fail
 refine(stepsWl_any w3).mono ?_
 rintro e w4' ⟨rfl,rfl⟩
 rw[e4, ← hb2e, ← hb3e, ← hb5e, ← hke]
 clear e1 e2 e3 e4 hb2e hb3e hb5e hke
 go_wp2_with fail
 refine takeWl_go _ _ k w4 (fun W=>enters_of Tryz.func37 (by kernel_rfl) rfl _ W) LK.out ?_
 refine(add1_yes b2 g w4 L2.out).mono ?_
 rintro e w4' ⟨rfl,rfl⟩
 obtain⟨n2,n3,n5,nk,n25,ng5,n35,n5k,n2k,n3k,ngk⟩:=HNE.out
 refine⟨0,rfl,LK.out,fun w5 lk5 hg5 => ?_⟩
 have HB5:Hid (Below w.heap.size w w5):=HB4.out.grown hg5 HB4.out.size (by rintro j hj;cases hj;exact nk)
 have M2:Hid (Lies w5 b2 27 #[Wl.ptr g]):=L2.out.kept hg5 (by simpa using n2k)
 have M3:Hid (Recs w5 b3 x (.slice xo nx xc)):=L3.out.kept hg5 (by simpa using n3k)
 have M5:Hid (Lies w5 b5 30 #[Nil]):=L5.out.kept hg5 (by simpa using n5k)
 have LK5:=Lib.hid lk5
 have ML:=Lib.hid (HLT.out.keep (Kp.all HB5.out))
 clear lk5 hg5 L2 L3 L5 LK HB4
 dsimp only
 go_wp2_with fail
 refine takeWl_go _ _ k w5 (fun W=>enters_of Tryz.func38 (by kernel_rfl) rfl _ W) LK5.out ?_
 have hm3:=M3.out
 rw[HNX.out]at hm3
 refine(add2_any b2 b3 b5 g (Wl.ptr d) n f h vi va vc x xo xc r w5 M2.out ML.out.lies hm3 M5.out ⟨n25,ng5,n35⟩ (fun W hW=>by rw[← HNX.out];exact HC.out W (HB5.out.trans (hW.mono HB5.out.size)))).mono ?_
 rintro e w6 ⟨rfl,o,c,l6,hv6,hvp6,hk6⟩
 refine⟨r.2,rfl,hk6.lies LK5.out (fun _=>n5k.symm),fun w7 lk7 hg7 => ?_⟩
 have h65:Below w.heap.size w5 w6:=hk6.below HB5.out.size fun b _ hb _=>by omega
 have HB7:Hid (Below w.heap.size w w7):=(HB5.out.trans h65).grown hg7 (Nat.le_trans HB5.out.size h65.size) (by rintro j hj;cases hj;exact nk)
 have P2:Hid (Lies w7 b2 27 #[Wl.ptr g]):=(hk6.lies M2.out fun _=>n25).kept hg7 (by simpa using n2k)
 have P3:Hid (Recs w7 b3 x (.slice xo nx xc)):=Lies.kept (hk6.lies M3.out fun _=>n35) hg7 (by simpa using n3k)
 have P5:Hid (Lies w7 b5 30 #[.slice o r.1.length c]):=l6.kept hg7 (by simpa using n5k)
 have HV7:Hid (Reads w7 (.slice o r.1.length c) r.1):=hv6.kept_of (hk6.lies LK5.out fun _=>n5k.symm) (fun j x=>errno_no8 0 x j) hg7
 have LK7:=Lib.hid lk7
 clear l6 hv6 hvp6 hk6 hg7 lk7 h65 M2 M3 M5 ML LK5 hm3 n2 n3 n5 nk n25 ng5 n35 n5k n2k n3k ngk HC
 dsimp only
 by_cases h0:r.2=0
 ·rw[h0]at LK7
  have H0:=Lib.hid h0
  rw[h0]
  clear h0
  go_wp2_with fail
  refine takeWl_go _ _ k w7 (fun W=>enters_of Tryz.func40 (by kernel_rfl) rfl _ W) LK7.out ?_
  have hl7:=HLT.out.keep (Kp.all HB7.out)
  have hs7:=HB7.out.size
  have hp3:=P3.out
  have hx7:=HX.out.below HB7.out
  have hxt:=HXT.out
  rw[HNX.out]at hp3 hx7 hxt
  refine(add3_any hl7 (fun j hj=>Nat.lt_of_lt_of_le hj.2 hs7) b2 b3 b5 x xo xc o c r.1 P2.out hp3 P5.out (fun b hb => ?_) hx7 (hxt.imp fun b hb=>⟨fun hs=>hb.2 (HSUB.out b hs.1).1,fun e=>hb.2 (e ▸ HTG.out)⟩) HV7.out (fun W hk => ?_) HBB.out HBL.out HN.out HV.out HA.out HS.out).mono ?_
  ·obtain⟨n2,n3,n5,_⟩:=HNE.out
   have:=HGL.out
   have hb' : w.heap.size≤b:=by omega
   exact⟨fun hs=>by have:=hs.2;omega,by omega⟩
  ·exact(((HE.out.up HB7.out).on (hk.below (HE.out.up HB7.out).size fun b _ hb _ hs=>by have:=HTT.out b (HSUB.out b hs.1).1;omega))).words
  ·rintro e w8 ⟨rfl,S8,ui,ua,uc,hl8,hk8⟩
   have nk:=HNE.out.2.2.2.1
   have hgl:=HGL.out
   refine⟨0,rfl,hk8.lies LK7.out (fun _=>⟨fun hs=>by have:=hs.2;omega,by omega⟩),fun w9 lk9 hg9 => ?_⟩
   have hk:k<w7.heap.size:=LK7.out.lt
   have HL9:Hid (LogTo T w g d F (B ++ [⟨2,n,r.1⟩]) n f (Hd.apply h x) w9):=LogTo.outer (w8:=w8) HB7.out ⟨⟨S8,ui,ua,uc,hl8⟩,hk8.imp fun b o' _ hs=>⟨fun hs' => hs ⟨(HSUB.out b hs'.1).1,hs'.2⟩,fun e=>hs (e ▸ ⟨HTG.out,hgl⟩)⟩⟩ hg9 ⟨nk,hk⟩
   clear hl8 hk8 lk9 hg9 hs7 hl7 hp3 hx7 hxt
   dsimp only
   go_wp2
   rw[HQ.out]
   exact⟨by rw[H0.out];rfl, .inl ⟨H0.out,HL9.out⟩⟩
 ·have H0:=Lib.hid h0
  obtain⟨z,hz⟩ : ∃z,z=r.2:=⟨_,rfl⟩
  rw[← hz]at LK7 h0 ⊢
  have HZ:=Lib.hid hz
  clear hz
  go_wp2_with fail
  refine takeWl_stop _ k w7 z h0 LK7.out ?_
  dsimp only
  clear h0
  go_wp2
  rw[HQ.out]
  exact⟨by rw[← HZ.out];rfl, .inr ⟨H0.out,LogTo.same HLA.out HB7.out⟩⟩
end Go.Proofs.YtdkdjofnnnljjaaGreatDoor

namespace Go.Proofs.YtdkdjofnnnljjaaGreatDoor
open Go.RowKit
set_option maxHeartbeats 3200000
set_option maxRecDepth 8000
section
section
variable {f : Int} {h : Hd.Hard} {vi va vc : Value} {r : List UInt8 × Int}
theorem renew2_any{T:Nat→Prop}{w:World}{g d:Nat}{F:Dk.Files}{B:List Dk.Op}{n0 f0:Int}{h0:Hd.Hard}(b3 b4 b5:Nat)(l3:Lies w b3 27 #[Wl.ptr g])(l4:Lies w b4 3 #[.int .i64 f])(l5:SixAt w b5 33 h.prom h.base vi va vc)
 (hc:Calls Tryz.prog 36 #[Wl.ptr g, .int .i64 f, .agg (Hd.cells h vi va vc)] w (Begins T w g d F B n0 f0 h0 f h r)) :
 Calls Tryz.prog 47 #[Wl.ptr b3,Wl.ptr b4,Wl.ptr b5] w (Begins T w g d F B n0 f0 h0 f h r):=by
 have c3:w.cell? ⟨b3,0,none⟩=some (Wl.ptr g):=l3.cell 0 _ rfl
 have c4:w.cell? ⟨b4,0,none⟩=some (.int .i64 f):=l4.cell 0 _ rfl
 have HC:=Lib.hid hc;have L5:=Lib.hid l5
 obtain⟨Q,hQ⟩ : ∃Q,Q=Begins T w g d F B n0 f0 h0 f h r:=⟨_,rfl⟩
 rw[← hQ]at HC ⊢
 have HI:Hid (∀e w', Q e w' → ∃c:Int,e = .returned (.int .i64 c)):=by rw[hQ];exact fun e w' h=>⟨_,h.1⟩
 clear hc l3 l4 l5 hQ
 go_enter Tryz.func47,Tryz.ntmps47
 go_wp2_with (refine load_hard rfl _ rfl rfl L5.out ?_)
 refine HC.out.mono ?_
 rintro e w1 hq
 obtain⟨c,rfl⟩:=HI.out _ _ hq
 have HQ:=Lib.hid hq
 clear hq
 dsimp only
 go_wp2
 exact HQ.out
theorem open3_any{T:Nat→Prop}{w:World}{g d:Nat}{F:Dk.Files}{B:List Dk.Op}{n0 f0:Int}{h0:Hd.Hard}(b3 b4 b5:Nat)(l3:Lies w b3 27 #[Wl.ptr g])(l4:Lies w b4 3 #[.int .i64 f])(l5:SixAt w b5 33 h.prom h.base vi va vc)
 (hc:Calls Tryz.prog 36 #[Wl.ptr g, .int .i64 f, .agg (Hd.cells h vi va vc)] w (Begins T w g d F B n0 f0 h0 f h r)) :
 Calls Tryz.prog 35 #[Wl.ptr b3,Wl.ptr b4,Wl.ptr b5] w (Begins T w g d F B n0 f0 h0 f h r):=by
 have c3:w.cell? ⟨b3,0,none⟩=some (Wl.ptr g):=l3.cell 0 _ rfl
 have c4:w.cell? ⟨b4,0,none⟩=some (.int .i64 f):=l4.cell 0 _ rfl
 have HC:=Lib.hid hc;have L5:=Lib.hid l5
 obtain⟨Q,hQ⟩ : ∃Q,Q=Begins T w g d F B n0 f0 h0 f h r:=⟨_,rfl⟩
 rw[← hQ]at HC ⊢
 have HI:Hid (∀e w', Q e w' → ∃c:Int,e = .returned (.int .i64 c)):=by rw[hQ];exact fun e w' h=>⟨_,h.1⟩
 clear hc l3 l4 l5 hQ
 go_enter Tryz.func35,Tryz.ntmps35
 go_wp2_with (refine load_hard rfl _ rfl rfl L5.out ?_)
 refine HC.out.mono ?_
 rintro e w1 hq
 obtain⟨c,rfl⟩:=HI.out _ _ hq
 have HQ:=Lib.hid hq
 clear hq
 dsimp only
 go_wp2
 exact HQ.out
end
theorem renewWl_any{T:Nat→Prop}{w:World}{g d:Nat}{F:Dk.Files}{B:List Dk.Op}{n0 f0:Int}{h0:Hd.Hard}(l:LogAt T w g d F B n0 f0 h0)(f:Int)(h:Hd.Hard)(vi va vc:Value)(hr:HardQ (fun b => ¬T b) w h vi va vc)(hf:h.Few)
 (r:List UInt8 × Int) (hc : ∀W,Below w.heap.size w W→Calls Tryz.prog 65 #[.int .i64 f, .agg (Hd.cells h vi va vc)] W (SgMade W r)) (hh:r.1.length≤1000000) {N M:Nat} (s:Wl.Sane F B N M) (hN:N≤900) (hM:M≤1000000000) :
 Calls Tryz.prog 16 #[Wl.ptr g, .int .i64 f, .agg (Hd.cells h vi va vc)] w (Begins T w g d F B n0 f0 h0 f h r):=by
 have hmf : ∀(fn:Fn) (first cap:Array Value) (w:World),(Instr.makeFunc fn first cap).run Tryz.prog w = .ok (.func fn first cap) w:=fun _ _ _ _=>rfl
 obtain⟨w1,e1,l3,hb1,hs1⟩:=box_cells w 27 #[Wl.ptr g]
 obtain⟨w2,e2,l4,hb2,hs2⟩:=box_cells w1 3 #[.int .i64 f]
 obtain⟨w3,e3,l5,hb3,hs3⟩:=box_six w2 33 h vi va vc ((hr.below hb1).below hb2).rows
 obtain⟨w4,e4,lk,hb4,hs4⟩:=box_cells w3 34 #[.int .i64 0]
 obtain⟨b3,hb3e⟩ : ∃b,b=w.heap.size:=⟨_,rfl⟩
 obtain⟨b4,hb4e⟩ : ∃b,b=w1.heap.size:=⟨_,rfl⟩
 obtain⟨b5,hb5e⟩ : ∃b,b=w2.heap.size:=⟨_,rfl⟩
 obtain⟨k,hke⟩ : ∃b,b=w3.heap.size:=⟨_,rfl⟩
 have HB4:Hid (Below w.heap.size w w4):=((hb1.trans (hb2.mono hb1.size)).trans (hb3.mono (by omega))).trans (hb4.mono (by omega))
 have L3:Hid (Lies w4 b3 27 #[Wl.ptr g]):=by rw[hb3e];exact((l3.below hb2 (by omega)).below hb3 (by omega)).below hb4 (by omega)
 have L4:Hid (Lies w4 b4 3 #[.int .i64 f]):=by rw[hb4e];exact(l4.below hb3 (by omega)).below hb4 (by omega)
 have L5:Hid (SixAt w4 b5 33 h.prom h.base vi va vc):=by rw[hb5e];exact l5.below hb4 (by omega)
 have LK:Hid (Lies w4 k 34 #[.int .i64 0]):=by rw[hke];exact lk
 have HNE:Hid (w.heap.size≤k∧b3≠k∧b4≠k∧b5≠k):=⟨by omega,by omega,by omega,by omega⟩
 have HBEG:Hid (∀W,Below w.heap.size w W→Calls Tryz.prog 36 #[Wl.ptr g, .int .i64 f, .agg (Hd.cells h vi va vc)] W (Begins (fun j=>T j∧j<w.heap.size) W g d F B n0 f0 h0 f h r)):=fun W hb =>
  beginWl_any (l.tight.keep (Kp.all hb)) f h vi va vc ((hr.below hb).imp fun b hb hs=>hb hs.1) hf r (fun W' hb' => hc W' (hb.trans (hb'.mono hb.size))) hh s hN hM
 clear l3 l4 l5 lk hb1 hb2 hb3 hb4 hs1 hs2 hs3 hs4 hr hf hh s hN hM l hc
 obtain⟨Q,hQ⟩ : ∃Q,Q=Begins T w g d F B n0 f0 h0 f h r:=⟨_,rfl⟩
 rw[← hQ]
 have HQ:=Lib.hid hQ
 clear hQ
 go_enter Tryz.func16,Tryz.ntmps16
 go_wp2_with fail
 refine(stepsWl_any w3).mono ?_
 rintro e w4' ⟨rfl,rfl⟩
 rw[e4, ← hb3e, ← hb4e, ← hb5e, ← hke]
 clear e1 e2 e3 e4 hb3e hb4e hb5e hke
 go_wp2_with fail
 refine takeWl_go _ _ k w4 (fun W=>enters_of Tryz.func46 (by kernel_rfl) rfl _ W) LK.out ?_
 refine(renew1_yes b3 g w4 L3.out).mono ?_
 rintro e w4' ⟨rfl,rfl⟩
 obtain⟨nk,n3k,n4k,n5k⟩:=HNE.out
 refine⟨0,rfl,LK.out,fun w5 lk5 hg5 => ?_⟩
 have HB5:Hid (Below w.heap.size w w5):=HB4.out.grown hg5 HB4.out.size (by rintro j hj;cases hj;exact nk)
 have M3:Hid (Lies w5 b3 27 #[Wl.ptr g]):=L3.out.kept hg5 (by simpa using n3k)
 have M4:Hid (Lies w5 b4 3 #[.int .i64 f]):=L4.out.kept hg5 (by simpa using n4k)
 have M5:Hid (SixAt w5 b5 33 h.prom h.base vi va vc):=L5.out.kept hg5 n5k
 have LK5:=Lib.hid lk5
 clear lk5 hg5 L3 L4 L5 LK HB4 n3k n4k n5k
 dsimp only
 go_wp2_with fail
 refine takeWl_go _ _ k w5 (fun W=>enters_of Tryz.func47 (by kernel_rfl) rfl _ W) LK5.out ?_
 refine(renew2_any b3 b4 b5 M3.out M4.out M5.out (HBEG.out w5 HB5.out)).mono ?_
 rintro e w6 ⟨rfl,hw6⟩
 have hk5:=LK5.out.lt
 have hlk:Lies w6 k 34 #[.int .i64 0]:=by
  rcases hw6 with ⟨_,h6⟩ | ⟨_,h6⟩
  ·exact h6.2.lies LK5.out fun _ hs=>by have:=hs.2;omega
  ·exact h6.2.lies LK5.out fun _ hs=>by have:=hs.2;omega
 refine⟨r.2,rfl,hlk,fun w7 lk7 hg7 => ?_⟩
 have hfin:Begins T w g d F B n0 f0 h0 f h r (.returned (.int .i64 r.2)) w7:=by
  refine⟨rfl, ?_⟩
  rcases hw6 with ⟨h0,h6⟩ | ⟨h0,h6⟩
  ·exact .inl ⟨h0,LogTo.outer HB5.out h6 hg7 ⟨nk,hk5⟩⟩
  ·exact .inr ⟨h0,LogTo.outer HB5.out h6 hg7 ⟨nk,hk5⟩⟩
 have HFIN:=Lib.hid hfin
 clear hlk hw6 lk7 hg7 hfin
 obtain⟨z,hz⟩ : ∃z,z=r.2:=⟨_,rfl⟩
 rw[← hz]at HFIN ⊢
 clear hz
 dsimp only
 go_wp2
 rw[HQ.out]
 exact HFIN.out
end
end Go.Proofs.YtdkdjofnnnljjaaGreatDoor

namespace Go.Proofs.YtdkdjofnnnljjaaGreatDoor
open Go.RowKit
def Stops{α:Type}(F:Fence)(n:Nat)(P:Program)(f:Nat)(held:Array Value)(encs:α→Array Value)(keeps:World→World→Prop)(gives:List α→α→World→Prop)(over:List α→Prop)(w:World):Prop :=
 ∀(l:Nat) (J Jx:List α→World→Prop) (A:World),Below w.heap.size w A →
  (∀pre B C,J pre B→Below B.heap.size B C→J pre C) →
  (∀pre x B,J pre B→gives pre x B→YieldAt F (n - 1) P l (encs x) B fun e C=>(e = .returned (.bool true)∧J (pre ++ [x]) C∧keeps B C)∨(e = .returned (.bool false)∧Jx (pre ++ [x]) C)) →
  J [] A→CallsIn F n P f (#[.func (.yield l) #[] #[]]++held) A fun e B=>(∃v,e = .returned v)∧((∃xs,over xs∧J xs B) ∨ ∃xs,Jx xs B)
def roundStops{α:Type}(keeps:World→World→Prop)(I Ix:List α→World→Prop)(base:Nat)(xs:List α)(A:World):Exit→Act→World→Prop
 | .normal,_,B=>KeepsFrom base A B∧keeps A B∧I xs B
 | .ret,_,B=>KeepsFrom base A B∧Ix xs B
 | .exit _,_,_=>False
 | .goto _,_,_=>False
 | .panic _,_,_=>False
 | .outgrown,_,_=>False
theorem range_stops{α:Type}{F:Fence}{n:Nat}{P:Program}{g:Operand}{ps:Array Tmp}{assign body:Code}{Q:Exit→Act→World→Prop}{a:Act}{w:World}
 (hro:F.round=none) (h1:1≤n) {f:Nat} {held:Array Value} (hg:a.eval g = .func (.func f) #[] held) (hF:F.fn f) (hen : ∀args w,(callFunc f args).run P w = .ok (.enter f args) w)
 {encs:α→Array Value} {keeps:World→World→Prop} {gives:List α→α→World→Prop} {over:List α→Prop} {w0:World} (hseq:Stops F (n - 1) P f held encs keeps gives over w0) (hb0:Below w0.heap.size w0 w)
 (hkt : ∀ {A B C:World},keeps A B→keeps B C→keeps A C) (hkb : ∀(A:World) (l:Nat) (o o' : Obj),w.heap.size≤l→A.heap[l]? = some o→o.isCells=false→keeps A (A.putObj l o')) (hps : ∀x,(encs x).size=ps.size)
 (I Ix:List α→World→Prop) (hI:OwnFrom w.heap.size I) (hIx:OwnFrom w.heap.size Ix) (hG:OwnFrom w.heap.size (fun(p:List α × α)=>gives p.1 p.2)) (h0:I [] w) (Ax:α→Act→World→Prop) (hAx : ∀x a', OwnFrom w.heap.size (fun(_:Unit) A=>Ax x a' A))
 (hassign : ∀(l:Nat) (pre:List α) (x:α) (A:World) (K:Act→World→Prop),w.heap.size≤A.heap.size→I pre A→gives pre x A→(∀a' A', KeepsFrom w.heap.size A A' → keeps A A' → I pre A' → gives pre x A' → Ax x a' A' → K a' A') →
   assign.wpIn (F.inRound l) (n - 1 - 1) P (Exit.then K (fun _ _ _=>False)) { tmps:=(ps.zip (encs x)).foldl (fun t (p,v)=>t.setIfInBounds p v) a.tmps,defers := [] } A)
 (hbody : ∀(l:Nat) (pre:List α) (x:α) (a' : Act) (A:World),I pre A→gives pre x A→Ax x a' A→w.heap.size≤A.heap.size→body.wpIn (F.inRound l) (n - 1 - 1) P (roundStops keeps I Ix w.heap.size (pre ++ [x]) A) a' A)
 (hdone : ∀(D:Nat) (xs:List α) (A:World),w.heap.size≤D→over xs→I xs A→A.heap[D]? = some (.deferred (some []))→Q .normal { a with defers:={ target := .collected D,args := #[] } :: a.defers } A)
 (hstop : ∀(D:Nat) (xs:List α) (A:World),w.heap.size≤D→Ix xs A→A.heap[D]? = some (.deferred (some []))→Code.ret.wpIn F n P Q { a with defers:={ target := .collected D,args := #[] } :: a.defers } A) :
 (Code.rangeFunc g ps assign body).wpIn F n P Q a w:=by
 apply wpIn_rangeFunc
 intro fn hfn
 rw[hro]
 let rc (st:LoopState) (pe:Option Code):Obj := .loop { state:=st,pending:=pe,fn:=fn,tmps:=a.tmps,params:=ps,assign:=assign,body:=body,defers:=w.heap.size }
 have hrun:=run_enterLoop_outer (P:=P) (w:=w) fn a.tmps ps assign body
 obtain⟨A0,hA0⟩ : ∃A0,A0=(w.alloc (.deferred (some []))).alloc (rc .ready none):=⟨_,rfl⟩
 have hrun' : (Instr.enterLoop fn a.tmps ps assign body none).run P w = .ok (w.heap.size+1, [{ target := .collected w.heap.size,args := #[] }]) A0:=by rw[hA0];exact hrun
 have hgw:Below w.heap.size w A0:=by rw[hA0];exact((Below.refl _ w).alloc (Nat.le_refl _) _).alloc (by simp) _
 have hL:A0.heap[w.heap.size+1]? = some (rc .ready none):=by
  have:=World.alloc_heap_new (w.alloc (.deferred (some []))) (rc .ready none)
  rw[World.size_alloc]at this
  rw[hA0];exact this
 have hD:A0.heap[w.heap.size]? = some (.deferred (some [])):=by
  rw[hA0];exact(Below.heap_alloc _ _ _ (by simp)).trans (World.alloc_heap_new w _)
 have new : ∀ {β:Type} {R:β→World→Prop} {s:β} {B C:World},OwnFrom w.heap.size R→R s B→Below B.heap.size B C→R s C:=fun h hs hb=>h _ _ _ none hs (grown_of_below hb) (fun r e=>by cases e)
 have put : ∀ {β:Type} {R:β→World→Prop} {s:β} {B:World} {o:Obj} (o' : Obj),OwnFrom w.heap.size R→R s B→B.heap[w.heap.size+1]? = some o→o.isCells=false→R s (B.putObj (w.heap.size+1) o'):=fun o' h hs hl ho=>h.putObj o' hs (by omega) hl ho
 refine⟨w.heap.size+1,_,A0,{ target := .fn (.func f) held,args := #[.func (.yield (w.heap.size+1)) #[] #[]] },A0,f,#[.func (.yield (w.heap.size+1)) #[] #[]]++held,A0,hrun', ?_, ?_, ?_,fun _=>h1, ?_⟩
 ·simp only[resolve,hg];simp[go_sem]
 ·intro f' e;simp[Target.leads]at e;subst e;exact hF
 ·simp[invoke,go_sem,hen]
 refine(hseq (w.heap.size+1) (fun pre B=>I pre B∧B.heap[w.heap.size+1]? = some (rc .ready none)∧B.heap[w.heap.size]? = some (.deferred (some []))) (fun pre B=>Ix pre B∧B.heap[w.heap.size+1]? = some (rc .done (some .ret))∧B.heap[w.heap.size]? = some (.deferred (some []))) A0 (hb0.trans (hgw.mono hb0.size))
  (fun pre B C hJ hb=>⟨new hI hJ.1 hb,(hb.block _ (Array.getElem?_eq_some_iff.1 hJ.2.1).1).trans hJ.2.1,(hb.block _ (Array.getElem?_eq_some_iff.1 hJ.2.2).1).trans hJ.2.2⟩) ?_
  ⟨new hI h0 hgw,hL,hD⟩).mono ?_
 ·-- a round
  rintro pre x B ⟨hi,hl,hd⟩ hgv
  have hlt:=(Array.getElem?_eq_some_iff.1 hl).1
  refine⟨fn,_,assign,body,run_yield hl (hps x),roundIn_of_wpIn hfn (hassign _ pre x B _ (by omega) hi hgv ?_)⟩
  intro a' Ba hkf hka hia hga hax
  replace hl:=hkf.same _ _ (by omega) hl rfl
  replace hd:=hkf.same _ _ (Nat.le_refl _) hd rfl
  replace hlt:=(Array.getElem?_eq_some_iff.1 hl).1
  refine⟨_,run_beginRound hl rfl, ?_⟩
  have hl2:(Ba.putObj (w.heap.size+1) (rc .busy none)).heap[w.heap.size+1]? = some (rc .busy none):=World.putObj_heap_same hlt
  have hd2:(Ba.putObj (w.heap.size+1) (rc .busy none)).heap[w.heap.size]? = some (.deferred (some [])):=(World.putObj_heap_other (by omega)).trans hd
  refine wpIn_mono (hbody _ pre x a' _ (put _ hI hia hl rfl) (put (s:=(pre,x)) _ hG hga hl rfl) (put (s:=()) _ (hAx x a') hax hl rfl) (by simp;omega)) ?_
  intro e a3 C hC
  cases e with
  | normal =>
   obtain⟨hk,hkk,hi3⟩:=hC
   have hl3:=hk.same _ _ (by omega) hl2 rfl
   have hd3:=hk.same _ _ (by omega) hd2 rfl
   refine⟨_,_,run_endRound none hl3, .inl ⟨rfl,⟨put _ hI hi3 hl3 rfl,World.putObj_heap_same (Array.getElem?_eq_some_iff.1 hl3).1,(World.putObj_heap_other (by omega)).trans hd3⟩, ?_⟩⟩
   exact hkt hka (hkt (hkt (hkb _ _ _ _ (by omega) hl rfl) hkk) (hkb _ _ _ _ (by omega) hl3 rfl))
  | ret =>
   obtain⟨hk,hi3⟩:=hC
   have hl3:=hk.same _ _ (by omega) hl2 rfl
   have hd3:=hk.same _ _ (by omega) hd2 rfl
   exact⟨_,_,run_endRound (some .ret) hl3, .inr ⟨rfl,put _ hIx hi3 hl3 rfl,World.putObj_heap_same (Array.getElem?_eq_some_iff.1 hl3).1,(World.putObj_heap_other (by omega)).trans hd3⟩⟩
  | exit _=>exact hC.elim
  | goto _=>exact hC.elim
  | panic _=>exact hC.elim
  | outgrown=>exact hC.elim
 ·-- behind the iterator
  rintro e B ⟨⟨v,rfl⟩,⟨xs,hov,hi,hl,hd⟩ | ⟨xs,hi,hl,hd⟩⟩
  ·exact⟨none,_,run_endLoop hl (by simp),hdone _ xs _ (Nat.le_refl _) hov (put _ hI hi hl rfl) ((World.putObj_heap_other (by omega)).trans hd)⟩
  ·exact⟨some .ret,_,run_endLoop hl (by simp),hstop _ xs _ (Nat.le_refl _) (put _ hIx hi hl rfl) ((World.putObj_heap_other (by omega)).trans hd)⟩
end Go.Proofs.YtdkdjofnnnljjaaGreatDoor

namespace Go.Proofs.YtdkdjofnnnljjaaGreatDoor
open Go.RowKit
set_option maxHeartbeats 2000000
set_option maxRecDepth 100000
section
open Go.RowKit Go.Shelf
attribute [local go_sem] Oper.semAt_some
structure Back where
 idx:Nat
 no:Int
 val:Value
 data:List UInt8
def backArgs(x:Back):Array Value := #[.int .i64 (x.idx:Int), .agg #[.int .i64 x.no,x.val]]
def backGiven(F:Dk.Files)(pre:List Back)(x:Back)(w:World):Prop:=F.length=pre.length+x.idx+1∧F[x.idx]? = some (x.no,x.data)∧Reads w x.val x.data
theorem backward_any(ao:Option Addr)(n c:Nat)(w:World) :
 Calls Tryz.prog 50 #[.slice ao n c] w fun e w' => e = .returned (.func (.func 77) #[] #[.pointer (some ⟨w.heap.size,0,none⟩)])∧w' = w.alloc (.cells #[.slice ao n c] 63):=by
 have hmf : ∀(fn:Fn) (first cap:Array Value) (w:World),(Instr.makeFunc fn first cap).run Tryz.prog w = .ok (.func fn first cap) w:=fun _ _ _ _=>rfl
 go_enter Tryz.func50,Tryz.ntmps50
 go_wp2
 go_ret
 exact⟨rfl,rfl⟩
theorem backward_stops{p:Nat→TypeId→Prop}(Bn:Nat)(vb:Value)(F:Dk.Files)(w0:World)(hBn:Boxed w0 Bn 63 vb)(hv:FilesP p w0 vb F)(hlen:F.length≤17592186044416) :
 Stops Fence.wide 8 Tryz.prog 77 #[.pointer (some ⟨Bn,0,none⟩)] backArgs (Below w0.heap.size) (backGiven F) (fun xs=>xs.length=F.length) w0:=by
 intro lp J Jx A hA hJ hY h0
 obtain⟨ao,cap,rfl,hc1,hc2⟩:=ListP.shape hv
 have HP:=Lib.hid (fun h=>ListP.places hv (fun a u=>⟨_,rfl⟩) h)
 have HBX:Hid (∀W,Below w0.heap.size w0 W→W.cell? ⟨Bn,0,none⟩=some (.slice ao F.length cap)):=fun W h=>Boxed.cell ((h.block _ hBn.lt).trans hBn)
 have hcA:=HBX.out A hA
 refine callsIn_of_wp Tryz.func77 rfl trivial ?_ rfl
 simp only[Tryz.ntmps77,List.size_toArray,List.length_cons,List.length_nil,Nat.reduceAdd,Nat.reduceSub,Array.replicate_succ,Array.replicate_zero,List.push_toArray,List.append_toArray,List.nil_append,List.cons_append]
 obtain⟨n,hn⟩ : ∃n,n=F.length:=⟨_,rfl⟩
 rw[← hn]at hlen hc1 HP HBX hcA
 have HN:=Lib.hid hn;have HYY:=Lib.hid hY;have HJ0:=Lib.hid h0;have HBA:=Lib.hid hA
 have hn9:(n:Int)≤17592186044416:=by omega
 clear hv hn hY h0 hA hJ hBn hc2
 gi_wp2
 gi_loopw [3] (fun x wr => ∃(k:Nat) (z:Int) (pre:List Back),x = .int .i64 z∧Hid (z=(k:Int) - 1)∧Hid (k+pre.length=n)∧J pre wr∧Hid (Below w0.heap.size w0 wr)) (fun x _=>(intOf x+1).toNat)
 case atStart=>exact⟨n,(n:Int) - 1, [],rfl,rfl,rfl,HJ0.out,HBA.out⟩
 case round =>
  clear HJ0 HBA hcA
  obtain⟨k,z,pre,rfl,HZ,HK,hJp,HB⟩:=hrel
  have HJP:=Lib.hid hJp
  clear hJp
  obtain _ | j:=k
  ·obtain rfl:z = -1:=by have:=HZ.out;omega
   gi_wp2
   go_end0
   exact⟨⟨_,rfl⟩, .inl ⟨pre,by have:=HK.out;have:=HN.out;omega,HJP.out⟩⟩
  ·obtain rfl:z=(j:Int):=by have:=HZ.out;omega
   have hjn:(j:Int)<(n:Int):=by have:=HK.out;omega
   have hj0:(0:Int)≤(j:Int):=by omega
   obtain⟨x,hx⟩ : ∃x,F[j]? = some x:=⟨_,List.getElem?_eq_getElem (by have:=HN.out;omega)⟩
   obtain⟨g,off,rfl,_,hc⟩:=HP.out (by have:=HN.out;omega)
   obtain⟨u,hu,hcell⟩:=hc j x hx
   obtain⟨uo,uc,rfl⟩:=hu.1.shape
   have hcw:=hcell wr HB.out
   have m0:wr.cell? ⟨g,off+j*2,none⟩=some (.int .i64 x.1):=hcw 0 _ rfl
   have m1:wr.cell? ⟨g,off+j*2+1,none⟩=some (.slice uo x.2.length uc):=hcw 1 _ rfl
   have hcB:=HBX.out wr HB.out
   obtain⟨fn,tmps,assign,body,hy,hR⟩:=HYY.out pre ⟨j,x.1, .slice uo x.2.length uc,x.2⟩ wr HJP.out ⟨by have:=HK.out;have:=HN.out;show _=_+j+1;omega,hx,hu.1.below HB.out⟩
   dsimp only [backArgs]at hy
   clear hc hu hcell hcw hx
   gi_wp2
   refine hR.mono ?_
   rintro e W3 (⟨rfl,hJ3,hk3⟩ | ⟨rfl,hJ3⟩)
   ·have HJ3:=Lib.hid hJ3;have HK3:=Lib.hid hk3
    clear hJ3 hk3
    gi_wp2
    go_roundw
    case rel=>exact⟨j,(j:Int) - 1,_,rfl,rfl,by show _=_;rw[List.length_append];have:=HK.out;simp;omega,HJ3.out,HB.out.trans HK3.out⟩
    case measure=>simp[intOf]
   ·have HJ3:=Lib.hid hJ3
    clear hJ3
    gi_wp2
    exact bodyPost_ret (results_none rfl _ _ _) rfl ⟨⟨_,rfl⟩, .inr ⟨_,HJ3.out⟩⟩
end
end Go.Proofs.YtdkdjofnnnljjaaGreatDoor
