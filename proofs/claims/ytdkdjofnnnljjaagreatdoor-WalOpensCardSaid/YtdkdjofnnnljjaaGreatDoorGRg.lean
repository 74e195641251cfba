/- Several texts of mine in one: RePut ReRaw ReGet ReDec. -/
import Derived.Test.YtdkdjofnnnljjaaGreatDoorGRf
import Derived.Test.YtdkdjofnnnljjaaGreatDoorPGMp
import Derived.BigRegion
import Derived.Test.YtdkdjofnnnljjaaGreatDoorGRe
import Derived.Test.YtdkdjofnnnljjaaGreatDoorPCmFew
namespace Go.Proofs.YtdkdjofnnnljjaaGreatDoor
open Go.RowKit
set_option maxHeartbeats 3200000
set_option maxRecDepth 4000
abbrev RPtrs(w:World)(h g:Nat):Prop:=Lies w h 168 #[.pointer (some ⟨g,0,none⟩), .pointer (some ⟨g,1,none⟩), .pointer (some ⟨g,2,none⟩), .pointer (some ⟨g,3,none⟩)]
theorem RPtrs.at{w:World}{h g:Nat}(hp:RPtrs w h g)(k:Nat)(hk:k<4):w.cell? ⟨h,k,none⟩=some (.pointer (some ⟨g,k,none⟩)):=by
 have:k=0∨k=1∨k=2∨k=3:=by omega
 rcases this with rfl | rfl | rfl | rfl<;>exact hp.cell _ _ rfl
theorem reNumbers_any(g:Nat)(w:World):Calls Tryz.prog 128 #[.pointer (some ⟨g,0,none⟩)] w
 fun e w' => e = .returned (.slice (some ⟨w.heap.size,0,none⟩) 4 4)∧RPtrs w' w.heap.size g∧Below w.heap.size w w' := by
 obtain⟨w1,e1,hl1,hB1⟩ : ∃w1,w.alloc (.cells #[.pointer (some ⟨g,0,none⟩), .pointer (some ⟨g,1,none⟩), .pointer (some ⟨g,2,none⟩), .pointer (some ⟨g,3,none⟩)] 168)=w1∧RPtrs w1 w.heap.size g∧Below w.heap.size w w1 :=
  ⟨_,rfl,Lies.new _ _ _,(Below.refl _ w).alloc (Nat.le_refl _) _⟩
 have HL:=Lib.hid hl1;have HB:=Lib.hid hB1
 clear hl1 hB1
 go_enter Tryz.func128,Tryz.ntmps128
 go_wp2
 go_region
 all_goals
  go_wp2
  go_ret
  exact⟨rfl,HL.out.below (drawn _ _) HL.out.lt,on HB.out (drawn _ _)⟩
def REncd(w:World)(x:Re.Rec)(e:Ending)(w' : World):Prop :=
 Below w.heap.size w w' ∧ ∃u,e = .returned (.tuple #[u, .int .i64 (Re.older x)])∧Reads w' u (if Re.older x=0 then Re.bytes x else [])
theorem Re.nums_at(m:Re.Rec)(k:Nat)(hk:k<4):Ms.nbytes ((Re.nums m).take (k+1))=Ms.nbytes ((Re.nums m).take k)++enc (Ms.nth (Re.nums m) k).toNat:=by
 have h:(Re.nums m)[k]? = some (Ms.nth (Re.nums m) k):=by
  unfold Ms.nth
  rw[List.getD_eq_getElem?_getD,List.getElem?_eq_getElem (show k<(Re.nums m).length from hk)]
  rfl
 rw[List.take_add_one,h,Ms.nbytes_app]
 show _++Ms.nbytes [_]=_
 rw[Ms.nbytes_one]
theorem Re.nth_in(m:Re.Rec){k:Nat}(hk:k<4):Ms.nth (Re.nums m) k∈Re.nums m:=by
 have:k=0∨k=1∨k=2∨k=3:=by omega
 rcases this with rfl | rfl | rfl | rfl<;>simp[Ms.nth,Re.nums]
theorem Re.tails{x:Re.Rec}(h:Re.older x=0):(x.kind=1∧Re.bytes x=Ms.nbytes (Re.nums x))∨(x.kind=2∧Re.bytes x=Ms.nbytes (Re.nums x)++Cm.bytes 1 x.cmd)∨(x.kind=3∧Re.bytes x=Ms.nbytes (Re.nums x)++Cm.bytes 1 x.cmd)∨(x.kind=4∧Re.bytes x=Ms.nbytes (Re.nums x)++Pk.text x.img):=by
 have hk:=(Re.check_good (Re.older_good h).1).kind
 unfold Re.bytes Re.tail
 rcases Re.kinds x.kind with h | h | h | h | h
 ·exact .inl ⟨h,by rw[h];show _ ++ []=_;rw[List.append_nil]⟩
 ·exact .inr (.inl ⟨h,by rw[h];rfl⟩)
 ·exact .inr (.inr (.inl ⟨h,by rw[h];rfl⟩))
 ·exact .inr (.inr (.inr ⟨h,by rw[h];rfl⟩))
 ·rw[(Re.has_no h).2.2.2.2]at hk;cases hk
theorem encodeRe_any(m:Re.Rec)(vi:Value)(w:World)(hW:WordsIn w)(hi:Reads w vi m.img)(hf:m.Fits)(hs:m.cmd.Short 1000)(hk:m.img.length≤100000) :
 Calls Tryz.prog 91 #[.agg (Re.cells m vi)] w (REncd w m):=by
 obtain⟨w1,e1,hl1,hB1,hz1⟩:=box_rec w m vi
 obtain⟨p0,p1,p2,p3,p4,p5,p6,p7,p8,p9,p10,p11⟩:=Recs.all hl1
 have HM1:=Lib.hid hl1;have HB1:=Lib.hid hB1;have HS:=Lib.hid hz1
 have HI1:=Lib.hid (hi.below hB1)
 have HC1:=Lib.hid (olderRe_any m vi w1 (hW.below hB1) HI1.out ⟨Nat.le_trans hs.1 (by omega),Nat.le_trans hs.2.1 (by omega),Nat.le_trans hs.2.2 (by omega)⟩)
 have HFIT:=Lib.hid hf;have HSH:=Lib.hid hs
 have HNUM:Hid (∀k,k<4 → -9223372036854775808≤Ms.nth (Re.nums m) k∧Ms.nth (Re.nums m) k≤9223372036854775807):=fun k hk=>hf.n _ (Re.nth_in m hk)
 have HNB:Hid (∀k,(Ms.nbytes ((Re.nums m).take k)).length≤36):=by
  intro k
  have:=Ms.nbytes_len ((Re.nums m).take k) fun x hx=>(hf.n x (List.mem_of_mem_take hx)).2
  rw[List.length_take]at this
  have h4:(Re.nums m).length=4:=rfl
  omega
 have HKK:=Lib.hid hk
 have HBL:Hid ((Re.bytes m).length≤110000):=Re.bytes_len hf hs hk
 have HTAIL:=Lib.hid (fun h:Re.older m=0=>Re.tails h)
 unfold REncd
 obtain⟨c,hc⟩ : ∃c,c=Re.older m:=⟨_,rfl⟩
 rw[← hc]at HC1 HTAIL ⊢
 clear hl1 hB1 hz1 hW hi hs hf hk hc
 go_enter Tryz.func91,Tryz.ntmps91
 go_wp2_with fail
 refine HC1.out.mono ?_
 rintro e2 w2 ⟨rfl,hb⟩
 have HM2:=Lib.hid (HM1.out.below hb HM1.out.lt);have HB2:=Lib.hid hb
 have HX2:=Lib.hid (HB1.out.trans (hb.mono HB1.out.size))
 clear hb p0 p1 p2 p3 p4 p5 p6 p7 p8 p9 p10 p11
 by_cases h0:c=0
 ·subst h0
  have HT:=Lib.hid (HTAIL.out rfl)
  clear HTAIL
  have hs1:=HS.out
  obtain⟨w3,e3,hw3,hB3⟩ : ∃w3,w2.alloc (.cells #[.slice none 0 0] 163)=w3∧Wrt w3 w1.heap.size w2.heap.size (.slice none 0 0) []∧Below w2.heap.size w2 w3 :=
   ⟨_,rfl,Wr.fresh _ _ _ _ HB2.out.size,(Below.refl _ _).alloc (Nat.le_refl _) _⟩
  have HM3:=Lib.hid (HM2.out.below hB3 HM2.out.lt);have HB3:=Lib.hid (HB2.out.trans (hB3.mono HB2.out.size));have HW3:=Lib.hid hw3
  have HZ3:Hid (w.heap.size<w2.heap.size∧w2.heap.size<w3.heap.size):=⟨by have:=HB2.out.size;omega,hw3.lies.lt⟩
  clear hw3 hB3 hs1
  go_wp2_with fail
  refine(reNumbers_any w.heap.size _).mono ?_
  rintro e4 w4 ⟨rfl,hp4,hb⟩
  have HM4:=Lib.hid (HM3.out.below hb HM3.out.lt);have HB4:=Lib.hid (HB3.out.trans (hb.mono HB3.out.size));have HW4:=Lib.hid (HW3.out.grown hb);have HP4:=Lib.hid hp4
  clear hp4 hb
  go_wp2
  go_loopw [15] (fun i wr => ∃(k:Nat) (u:Value),i = .int .i64 (k:Int)∧k≤4∧Hid (Below w1.heap.size w1 wr)∧Hid (Wrt wr w1.heap.size w2.heap.size u (Ms.nbytes ((Re.nums m).take k)))∧Hid (Recs wr w.heap.size m vi)∧Hid (RPtrs wr w3.heap.size w.heap.size)) (fun i _=>4 - (intOf i).toNat)
  case atStart=>exact⟨0, .slice none 0 0,rfl,by omega,HB4,HW4,HM4,HP4⟩
  case round =>
   obtain⟨k,u,rfl,hk,HB,HW,HM,HP⟩:=hrel
   by_cases hlt:k<4
   ·have hp:=HP.out.at k hlt
    have hq:=Recs.num HM.out k hlt
    have HX:=Lib.hid (HNUM.out k hlt)
    have HST:=Lib.hid (Re.nums_at m k hlt)
    have HLE:=Lib.hid (HNB.out k)
    obtain⟨x,hx⟩ : ∃x,x=Ms.nth (Re.nums m) k:=⟨_,rfl⟩
    rw[← hx]at hq HX HST
    clear hx
    go_wp2_with fail
    refine(wnum_any x _ w1.heap.size w2.heap.size u _ HW.out (Nat.le_trans (Nat.le_refl _) HB.out.size) (by have:=HLE.out;omega) HX.out.1 HX.out.2).mono ?_
    rintro e5 w5 ⟨rfl,u5,hw5,hg5⟩
    have HB5:=Lib.hid (HB.out.trans (HW.out.below hg5 HB.out.size))
    have hsp:=Spares.of_grew HW.out hg5
    have HM5:=Lib.hid (hsp _ _ _ (by have:=HZ3.out;omega) (by decide) HM.out)
    have HP5:=Lib.hid (hsp _ _ _ (by have:=HZ3.out;omega) (by decide) HP.out)
    rw[← HST.out]at hw5
    have HW5:=Lib.hid hw5
    clear hsp hw5 hg5 hp hq
    go_wp2
    go_roundw
    case rel=>exact⟨k+1,u5,by go_num,by omega,HB5,HW5,HM5,HP5⟩
    case measure=>simp[intOf];omega
   ·obtain rfl:k=4:=by omega
    have hw5:=HW.out
    rw[show(Re.nums m).take 4=Re.nums m from rfl]at hw5
    have HW5:=Lib.hid hw5
    have HLE:=Lib.hid (HNB.out 4)
    rw[show(Re.nums m).take 4=Re.nums m from rfl]at HLE
    obtain⟨p0,p1,p2,p3,p4,p5,p6,p7,p8,p9,p10,p11⟩:=Recs.all HM.out
    clear hw5
    have hend : ∀W U,Wrt W w1.heap.size w2.heap.size U (Re.bytes m)→Below w1.heap.size w1 W→Calls Tryz.prog 126 #[.pointer (some ⟨w2.heap.size,0,none⟩)] W (fun e w' => ∃u8,e = .returned u8∧Reads w' u8 (Re.bytes m)∧Below w.heap.size w w'):=by
     intro W U hU hb
     refine(wbytes_any _ w1.heap.size w2.heap.size U _ hU (by have:=HBL.out;omega)).mono ?_
     rintro e8 w8 ⟨u8,rfl,ho8,hb8⟩
     exact⟨u8,rfl,ho8.reads,HB1.out.trans ((hb.trans (hb8.mono hb.size)).mono HB1.out.size)⟩
    have HEND:=Lib.hid hend
    clear hend
    rcases HT.out with ⟨hk,hby⟩ | ⟨hk,hby⟩ | ⟨hk,hby⟩ | ⟨hk,hby⟩
    ·rw[hk]at p0
     have HW6:Hid (Wrt wr w1.heap.size w2.heap.size u (Re.bytes m)):=by show Wrt _ _ _ _ _;rw[hby];exact HW5.out
     clear hk hby
     go_wp2_with fail
     refine(HEND.out _ _ HW6.out HB.out).mono ?_
     rintro e8 w8 ⟨u8,rfl,ho8,hb8⟩
     have HO8:=Lib.hid ho8;have HB8:=Lib.hid hb8
     clear ho8 hb8
     go_wp2
     go_ret2
     exact⟨HB8.out,u8,rfl,HO8.out⟩
    ·rw[hk]at p0
     have HBY:=Lib.hid hby
     clear hk hby
     go_wp2_with fail
     refine(cput_at 1 m.cmd _ w1.heap.size w2.heap.size u _ rfl HW5.out (by have:=HLE.out;omega) HB.out.size HFIT.out.c HSH.out).mono ?_
     rintro e6 w6 ⟨rfl,u6,hw6,_,hb6⟩
     have HW6:Hid (Wrt w6 w1.heap.size w2.heap.size u6 (Re.bytes m)):=by show Wrt _ _ _ _ _;rw[HBY.out];exact hw6
     have HB6:=Lib.hid (HB.out.trans hb6)
     clear hw6 hb6 p0 p1 p2 p3 p4 p5 p6 p7 p8 p9 p10 p11
     go_wp2_with fail
     refine(HEND.out _ _ HW6.out HB6.out).mono ?_
     rintro e8 w8 ⟨u8,rfl,ho8,hb8⟩
     have HO8:=Lib.hid ho8;have HB8:=Lib.hid hb8
     clear ho8 hb8
     go_wp2
     go_ret2
     exact⟨HB8.out,u8,rfl,HO8.out⟩
    ·rw[hk]at p0
     have HBY:=Lib.hid hby
     clear hk hby
     go_wp2_with fail
     refine(cput_at 1 m.cmd _ w1.heap.size w2.heap.size u _ rfl HW5.out (by have:=HLE.out;omega) HB.out.size HFIT.out.c HSH.out).mono ?_
     rintro e6 w6 ⟨rfl,u6,hw6,_,hb6⟩
     have HW6:Hid (Wrt w6 w1.heap.size w2.heap.size u6 (Re.bytes m)):=by show Wrt _ _ _ _ _;rw[HBY.out];exact hw6
     have HB6:=Lib.hid (HB.out.trans hb6)
     clear hw6 hb6 p0 p1 p2 p3 p4 p5 p6 p7 p8 p9 p10 p11
     go_wp2_with fail
     refine(HEND.out _ _ HW6.out HB6.out).mono ?_
     rintro e8 w8 ⟨u8,rfl,ho8,hb8⟩
     have HO8:=Lib.hid ho8;have HB8:=Lib.hid hb8
     clear ho8 hb8
     go_wp2
     go_ret2
     exact⟨HB8.out,u8,rfl,HO8.out⟩
    ·rw[hk]at p0
     have HBY:=Lib.hid hby
     clear hk hby
     go_wp2_with fail
     refine(wraw_out vi m.img _ w1.heap.size w2.heap.size u _ HW5.out HB.out.size (by have:=HLE.out;omega) (by have:=HKK.out;omega) (fun W h=>HI1.out.below (HB.out.trans h))).mono ?_
     rintro e6 w6 ⟨rfl,u6,hw6,hb6⟩
     have HW6:Hid (Wrt w6 w1.heap.size w2.heap.size u6 (Re.bytes m)):=by show Wrt _ _ _ _ _;rw[HBY.out];exact hw6
     have HB6:=Lib.hid (HB.out.trans hb6)
     clear hw6 hb6 p0 p1 p2 p3 p4 p5 p6 p7 p8 p9 p10 p11
     go_wp2_with fail
     refine(HEND.out _ _ HW6.out HB6.out).mono ?_
     rintro e8 w8 ⟨u8,rfl,ho8,hb8⟩
     have HO8:=Lib.hid ho8;have HB8:=Lib.hid hb8
     clear ho8 hb8
     go_wp2
     go_ret2
     exact⟨HB8.out,u8,rfl,HO8.out⟩
 ·have hne:(c != 0)=true:=by simpa using h0
  go_wp2
  go_ret2
  exact⟨HX2.out,_,rfl,Reads.empty _⟩
section
def ReadsU(w:World)(v:Value)(l:List UInt8):Prop:=ReadsP (fun _ t=>t=5) w v l
namespace ReadsU
variable {w w' : World} {v : Value} {l : List UInt8}
theorem reads(h:ReadsU w v l):Reads w v l:=h.1
theorem empty(w:World):ReadsU w (.slice none 0 0) []:=ReadsP.none _ w
theorem shape(h:ReadsU w v l) : ∃ao cap,v = .slice ao l.length cap:=h.1.shape
theorem keep(h:ReadsU w v l)(hk:Keep (fun _ t=>t=5) w w'):ReadsU w' v l:=ReadsP.keep h hk
theorem below(h:ReadsU w v l)(hb:Below w.heap.size w w'):ReadsU w' v l:=h.keep (Keep.of_below hb)
theorem drew(h:ReadsU w v l):ReadsU w.drew v l:=h.below (Below.refl _ w).drew
theorem of_owns{base:Nat}(h:Owns w base 5 v l):ReadsU w v l:=ReadsP.of_owns h fun _ _=>rfl
theorem other{b:Nat}{cs:Array Value}{T:TypeId}{fr:Nat × Nat}(h:ReadsU w v l)(hb:w.heap[b]? = some (.cells cs T fr))(hT:T≠5)(hg:w.grownBy w' (some b)):ReadsU w' v l :=
 h.keep (Keep.of_grown hg fun g cs' t fr' e hc ht=>by
  cases e
  rw[hb]at hc
  cases hc
  exact hT ht)
theorem kept_rec{b:Nat}{r:Re.Rec}{vi:Value}(h:ReadsU w v l)(hl:Recs w b r vi)(hg:w.grownBy w' (some b)):ReadsU w' v l:=by
 have hl' : w.heap[b]? = some (.cells (Re.cells r vi) 42 (0,0)):=hl
 exact h.other hl' (by decide) hg
end ReadsU
instance {w : World} {v:Value} {l:List UInt8}:Coe (ReadsU w v l) (Reads w v l):=⟨ReadsU.reads⟩
theorem readB_is(most:Int)(w:World)(B o:Nat)(v:Value)(b:List UInt8)(p:Nat)(x:List UInt8)(q:Nat)(e:Int)(hr:Rdr w B o v b p 0)(hx:e≠0→x = [])(hl:x.length≤70368744177664)(h:Hid (Pk.txt b p most=(x,(q:Int),e))) :
 Calls Tryz.prog 203 #[.pointer (some ⟨o,0,none⟩), .func (.func 204) #[.pointer (some ⟨o,0,none⟩)] #[], .int .i64 most] w (fun en w' => ∃u,Gave w B o v b q e u en w' ∧ ReadsU w' u x):=by
 go_enter Tryz.func203,Tryz.ntmps203
 go_wp2_with fail
 refine(rerr_any _ B o v b p 0 hr).mono ?_
 rintro e1 w1 ⟨rfl,rfl⟩
 go_wp2_with fail
 refine(raw_is most _ B o v b p 0 _ _ _ hr hl h).mono ?_
 rintro e2 w2 ⟨u,⟨rfl,hr2,hg2⟩,hu⟩
 obtain⟨uo,uc,rfl⟩:=hu.reads.shape
 by_cases he:e=0
 ·subst he
  go_wp2
  go_ret
  exact⟨_,⟨rfl,hr2,hg2⟩,ReadsU.of_owns hu⟩
 ·obtain rfl:=hx he
  clear hx
  have hc2:=hr2.lies.cell 2 (.int .i64 0) rfl
  have hf2:=hr2.lies.free 2
  have hs:=hr2.errs e
  go_wp2
  go_ret
  exact⟨_,⟨rfl,hs.1,grown_on hg2 hs.2⟩,ReadsU.empty _⟩
theorem rrawB_is(most:Int)(w:World)(B o:Nat)(v:Value)(b:List UInt8)(p:Nat)(x:List UInt8)(q:Nat)(e:Int)(hr:Rdr w B o v b p 0)(hx:e≠0→x = [])(hl:x.length≤70368744177664)(h:Hid (Pk.txt b p most=(x,(q:Int),e))) :
 Calls Tryz.prog 178 #[.pointer (some ⟨o,0,none⟩), .int .i64 most] w (fun en w' => ∃u,Gave w B o v b q e u en w' ∧ ReadsU w' u x):=by
 have hmf : ∀(fn:Fn) (first cap:Array Value) (w:World),(Instr.makeFunc fn first cap).run Tryz.prog w = .ok (.func fn first cap) w:=fun _ _ _ _=>rfl
 go_enter Tryz.func178,Tryz.ntmps178
 go_wp2_with fail
 refine(readB_is most _ B o v b p x q e hr hx hl h).mono ?_
 rintro e1 w1 ⟨u,⟨rfl,hr1,hg1⟩,hu⟩
 go_wp2
 go_ret
 exact⟨_,⟨rfl,hr1,hg1⟩,hu⟩
theorem rrawB_any(w:World)(B o:Nat)(v:Value)(b:List UInt8)(p:Nat)(er:Int)(x:List UInt8)(q:Nat)(e:Int)(hr:Rdr w B o v b p er)(hx:e≠0→x = [])(hl:x.length≤70368744177664)(h:Hid (Ms.raw b p er=(x,(q:Int),e))) :
 Calls Tryz.prog 178 #[.pointer (some ⟨o,0,none⟩), .int .i64 32768] w (fun en w' => ∃u,Gave w B o v b q e u en w' ∧ ReadsU w' u x):=by
 by_cases h0:er=0
 ·subst h0
  exact rrawB_is 32768 w B o v b p x q e hr hx hl h.out
 ·have h1:=h.out
  unfold Ms.raw at h1
  rw[if_neg h0]at h1
  simp only[Prod.mk.injEq]at h1
  obtain⟨rfl,h2,rfl⟩:=h1
  obtain rfl:p=q:=by omega
  exact(rraw_err 32768 er w B o v b p hr h0).mono fun en w' hg=>⟨_,hg,ReadsU.empty _⟩
end
theorem Re.base_set : ∀(L:List Int) (n:Int) (vi:Value),L.length<4→(Re.cells (Re.base (L ++ [n])) vi).toList=(Re.cells (Re.base L) vi).toList.take L.length ++ [.int .i64 n]++(Re.cells (Re.base L) vi).toList.drop (L.length+1)
 | [],_,_,_=>rfl
 | [_],_,_,_=>rfl
 | [_,_],_,_,_=>rfl
 | [_,_,_],_,_,_=>rfl
 | _ :: _ :: _ :: _ :: r,_,_,h=>by simp at h;omega
theorem Cm.gstep_stay(b:List UInt8)(t:Cm.Cmd × Nat × Int)(f:Cm.F)(h:t.2.2≠0):(Cm.gstep b t f).2.2=t.2.2:=by
 unfold Cm.gstep Cm.rnum Cm.rtxt
 split
 ·simp
 ·simp
theorem Cm.fold_stay(b:List UInt8) : ∀(fs:List Cm.F) (t:Cm.Cmd × Nat × Int),t.2.2≠0→(fs.foldl (Cm.gstep b) t).2.2=t.2.2
 | [],_,_=>rfl
 | f :: fs,t,h=>by
  have h1:=Cm.gstep_stay b t f h
  rw[List.foldl_cons,Cm.fold_stay b fs _ (by rw[h1];exact h),h1]
theorem Cm.get_stay(v:Int)(b:List UInt8)(p:Nat)(er:Int)(h:er≠0):(Cm.get v b p er).2.2=er:=by
 have h1:(Cm.rnum b p er).2.2=er:=by unfold Cm.rnum;rw[if_neg h]
 unfold Cm.get
 rw[Cm.fold_stay b _ _ (by show(Cm.rnum b p er).2.2≠0;rw[h1];exact h)]
 exact h1
theorem Re.got_stay(s:List UInt8)(h:(Ms.rnums s 4).2.2≠0):(Re.got s).2.2=(Ms.rnums s 4).2.2:=by
 unfold Re.got
 split
 ·exact Cm.get_stay _ _ _ _ h
 ·split
  ·show(Ms.raw s (Ms.rnums s 4).2.1 (Ms.rnums s 4).2.2).2.2=_
   unfold Ms.raw
   rw[if_neg h]
  ·split
   ·rfl
   ·dsimp only
def Re.dn(s:List UInt8):Int:=Cm.done s (Re.got s).2.1 (Re.got s).2.2
def RGot(w:World)(B:Nat)(s:List UInt8)(e:Ending)(w' : World):Prop :=
 ∃y vi,e = .returned (.tuple #[.agg (Re.cells y vi), .int .i64 (Re.dn s)])∧(Re.dn s=0→y=(Re.got s).1)∧ReadsU w' vi y.img∧Below B w w'
theorem set_twelve{V:World}{h:Nat}{T:TypeId}{y0 y1 y2 y3 y4 y5 y6 y7 y8 y9 y10 y11:Value}{P:World→Prop}(hz:Lies V h T #[y0,y1,y2,y3,y4,y5,y6,y7,y8,y9,y10,y11])(a0 a1 a2 a3 a4 a5 a6 a7 a8 a9 a10 a11:Value)
 (hP : ∀w3,Lies w3 h T #[a0,a1,a2,a3,a4,a5,a6,a7,a8,a9,a10,a11]→V.grownBy w3 (some h)→P w3) :
 P ((((((((((((V.setCell ⟨h,0,none⟩ a0).setCell ⟨h,1,none⟩ a1).setCell ⟨h,2,none⟩ a2).setCell ⟨h,3,none⟩ a3).setCell ⟨h,4,none⟩ a4).setCell ⟨h,5,none⟩ a5).setCell ⟨h,6,none⟩ a6).setCell ⟨h,7,none⟩ a7).setCell ⟨h,8,none⟩ a8).setCell ⟨h,9,none⟩ a9).setCell ⟨h,10,none⟩ a10).setCell ⟨h,11,none⟩ a11):=by
 refine hP _ ?_ ?_
 ·have:=(((((((((((hz.set 0 a0).set 1 a1).set 2 a2).set 3 a3).set 4 a4).set 5 a5).set 6 a6).set 7 a7).set 8 a8).set 9 a9).set 10 a10).set 11 a11
  simpa using this
 ·exact grown_on (grown_on (grown_on (grown_on (grown_on (grown_on (grown_on (grown_on (grown_on (grown_on (grown_on (grown_set _ _ _ _) (grown_set _ _ _ _)) (grown_set _ _ _ _)) (grown_set _ _ _ _)) (grown_set _ _ _ _)) (grown_set _ _ _ _)) (grown_set _ _ _ _)) (grown_set _ _ _ _)) (grown_set _ _ _ _)) (grown_set _ _ _ _)) (grown_set _ _ _ _)) (grown_set _ _ _ _)
theorem readRe_err(w:World)(B o:Nat)(u:Value)(s:List UInt8)(hr:Rdr w B o u s 0 0)(hB:B≤w.heap.size)(hE:(Ms.rnums s 4).2.2≠0) :
 Calls Tryz.prog 153 #[.pointer (some ⟨o,0,none⟩)] w (RGot w B s):=by
 have ho:=hr.lies.lt
 have hsm:=hr.small
 obtain⟨w1,e1,hk1,hl1,hB1,hz1⟩:=box_recs w Re.zero (.slice none 0 0) Re.zero (.slice none 0 0)
 dsimp only [Re.cells,Re.zero,Bl.zero,Cm.zero,Cm.bareOf]at e1
 have HL1:=Lib.hid hl1;have HK1:=Lib.hid hk1;have HB1:=Lib.hid (hB1.mono hB);have HS1:=Lib.hid (SavesO.of_below (o:=o) hB1)
 have HR1:=Lib.hid (hr.kept hB1);have HZ:=Lib.hid hz1
 have HNE:=Lib.hid hE
 have HD0:Hid (Re.dn s=(Ms.rnums s 4).2.2):=by
  show _=_
  unfold Re.dn Cm.done
  rw[Re.got_stay s hE,if_pos hE]
 clear hk1 hl1 hB1 hz1 hr hE
 go_enter Tryz.func153,Tryz.ntmps153
 go_wp2_with fail
 refine(reNumbers_any (w.heap.size+1) _).mono ?_
 rintro e2 w2 ⟨rfl,hp2,hb2⟩
 have HL2:=Lib.hid (HL1.out.below hb2 HL1.out.lt);have HK2:=Lib.hid (HK1.out.below hb2 HK1.out.lt);have HP2:=Lib.hid hp2
 have HR2:=Lib.hid (HR1.out.kept hb2);have HB2:=Lib.hid (HB1.out.trans (hb2.mono (Nat.le_trans hB HB1.out.size)));have HS2:=Lib.hid (HS1.out.trans (SavesO.of_below (o:=o) hb2))
 clear hp2 hb2
 go_wp2
 go_loopw [6,10] (fun _ i wr => ∃(k:Nat),i = .int .i64 (k:Int)∧k≤4∧Hid (Below B w wr)∧Hid (SavesO o w wr)∧Hid (Rdr wr B o u s (Ms.rnums s k).2.1 (Ms.rnums s k).2.2)∧Hid (Recs wr (w.heap.size+1) (Re.base (Ms.rnums s k).1) (.slice none 0 0))∧Hid (Recs wr w.heap.size Re.zero (.slice none 0 0))∧Hid (RPtrs wr w1.heap.size (w.heap.size+1))) (fun _ i _=>4 - (intOf i).toNat)
 case atStart=>exact⟨0,rfl,by omega,HB2,HS2,HR2,HL2,HK2,HP2⟩
 case round =>
  obtain⟨k,rfl,hk,HB,HS,HR,HL,HK,HP⟩:=hrel
  by_cases hlt:k<4
  ·have hp:=HP.out.at k hlt
   have hlen:=Ms.rnums_len s k
   obtain⟨n,q,e,hq,hx,_,_⟩:=Cm.rnum_res s (Ms.rnums s k).2.1 (Ms.rnums s k).2.2
   have HQ:=Lib.hid hq
   have HST:Hid (Ms.rnums s (k+1)=((Ms.rnums s k).1 ++ [n],q,e)):=by
    show _=_
    rw[Ms.rnums_succ,hq]
    simp
   obtain⟨L,hL⟩ : ∃L,L=(Ms.rnums s k).1:=⟨_,rfl⟩
   rw[← hL]at HST hlen HL
   have HLE:=Lib.hid hlen
   clear hq hL hlen
   go_wp2_with fail
   refine(rnumber_any _ B o u s _ _ n q e HR.out hx HQ).mono ?_
   rintro e5 v5 ⟨rfl,hr5,hg5⟩
   have hl5:Recs v5 (w.heap.size+1) (Re.base L) (.slice none 0 0):=HL.out.kept hg5 (by simp;omega)
   go_wp2_with (first
    | (refine store_part (by rfl) _ _ _ (by rfl) (w.heap.size+1) k _ _ (Re.cells (Re.base (L ++ [n])) (.slice none 0 0)) (.int .i64 n) [.int .i64 n] (by rfl) (by rfl) (by rfl) (by kernel_rfl) (by rfl) hl5 (show k+1≤12 by omega) (by have h:=Re.base_set L n (.slice none 0 0) (by rw[HLE.out];exact hlt);rw[HLE.out]at h;exact h) ?_
       intro w6 hl hg
       obtain⟨a1,a2,a3,a4⟩:=eget_end (by decide) hB (Nat.le_succ _) ho HB.out HS.out hr5 hg5 _ HL.out hl hg
       have HR6:=Lib.hid a1;have HB6:=Lib.hid a2;have HS6:=Lib.hid a3;have HL6:=Lib.hid hl
       have HK6:=Lib.hid (a4 _ _ _ (by omega) (by omega) HK.out)
       have HP6:=Lib.hid (a4 _ _ _ (by have:=HZ.out;omega) (by have:=HZ.out;omega) HP.out)
       clear a1 a2 a3 a4 hl hg hr5 hg5 hl5 hp)
    | fail)
   go_roundw
   case rel =>
    refine⟨k+1,by go_num,by omega,HB6,HS6, ?_, ?_,HK6,HP6⟩
    ·show Rdr _ _ _ _ _ _ _
     rw[HST.out]
     exact HR6.out
    ·show Recs _ _ _ _
     rw[HST.out]
     exact HL6.out
   case measure=>simp[intOf];omega
  ·obtain rfl:k=4:=by omega
   obtain⟨L,hL⟩ : ∃L,L=(Ms.rnums s 4).1:=⟨_,rfl⟩
   obtain⟨pp,hpp⟩ : ∃pp,pp=(Ms.rnums s 4).2.1:=⟨_,rfl⟩
   obtain⟨er,her⟩ : ∃er,er=(Ms.rnums s 4).2.2:=⟨_,rfl⟩
   have HLL:=Lib.hid hL;have HPP:=Lib.hid hpp;have HEE:=Lib.hid her
   rw[← hL]at HL
   rw[← hpp, ← her]at HR
   clear hL hpp her
   have HD:Hid (Re.dn s=er):=HD0.out.trans HEE.out.symm
   have hne0:er≠0:=by rw[HEE.out];exact HNE.out
   have HN:=Lib.hid hne0
   have hne:(er != 0)=true:=by simpa using hne0
   clear hne0
   go_wp2_with fail
   refine(rerr_any _ B o u s pp er HR.out).mono ?_
   rintro e5 w5 ⟨rfl,rfl⟩
   have HC:=Lib.hid HK.out
   go_wp2_with (first
    | (refine store_rec (by rfl) _ _ (by rfl) w.heap.size Re.zero _ Re.zero (.slice none 0 0) (by rfl) (by rfl) rfl HK.out ?_
       intro w7 hl7 hg7
       have HB7:=Lib.hid (HB.out.grown hg7 (Nat.le_trans hB HB.out.size) (by rintro j hj;cases hj;exact hB)))
    | fail)
   refine ret_rec2 rfl rfl hl7 rfl ?_
   exact⟨Re.zero, .slice none 0 0,by rw[HD.out];rfl,fun h=>absurd (HD.out.symm.trans h) HN.out,ReadsU.empty _,HB7.out⟩
theorem readRe_1(w:World)(B o:Nat)(u:Value)(s:List UInt8)(hr:Rdr w B o u s 0 0)(hB:B≤w.heap.size)(hE:(Ms.rnums s 4).2.2=0)(hK:Ms.nth (Ms.rnums s 4).1 0=1) :
 Calls Tryz.prog 153 #[.pointer (some ⟨o,0,none⟩)] w (RGot w B s):=by
 have ho:=hr.lies.lt
 have hsm:=hr.small
 obtain⟨w1,e1,hk1,hl1,hB1,hz1⟩:=box_recs w Re.zero (.slice none 0 0) Re.zero (.slice none 0 0)
 dsimp only [Re.cells,Re.zero,Bl.zero,Cm.zero,Cm.bareOf]at e1
 have HL1:=Lib.hid hl1;have HK1:=Lib.hid hk1;have HB1:=Lib.hid (hB1.mono hB);have HS1:=Lib.hid (SavesO.of_below (o:=o) hB1)
 have HR1:=Lib.hid (hr.kept hB1);have HZ:=Lib.hid hz1
 have HE0:=Lib.hid hE;have HK0:=Lib.hid hK
 have HG:Hid (Re.got s=(Re.base (Ms.rnums s 4).1,(Ms.rnums s 4).2.1,0)):=by
  show _=_
  unfold Re.got
  rw[hK,hE]
  rfl
 clear hk1 hl1 hB1 hz1 hr hE hK
 go_enter Tryz.func153,Tryz.ntmps153
 go_wp2_with fail
 refine(reNumbers_any (w.heap.size+1) _).mono ?_
 rintro e2 w2 ⟨rfl,hp2,hb2⟩
 have HL2:=Lib.hid (HL1.out.below hb2 HL1.out.lt);have HK2:=Lib.hid (HK1.out.below hb2 HK1.out.lt);have HP2:=Lib.hid hp2
 have HR2:=Lib.hid (HR1.out.kept hb2);have HB2:=Lib.hid (HB1.out.trans (hb2.mono (Nat.le_trans hB HB1.out.size)));have HS2:=Lib.hid (HS1.out.trans (SavesO.of_below (o:=o) hb2))
 clear hp2 hb2
 go_wp2
 go_loopw [6,10] (fun _ i wr => ∃(k:Nat),i = .int .i64 (k:Int)∧k≤4∧Hid (Below B w wr)∧Hid (SavesO o w wr)∧Hid (Rdr wr B o u s (Ms.rnums s k).2.1 (Ms.rnums s k).2.2)∧Hid (Recs wr (w.heap.size+1) (Re.base (Ms.rnums s k).1) (.slice none 0 0))∧Hid (Recs wr w.heap.size Re.zero (.slice none 0 0))∧Hid (RPtrs wr w1.heap.size (w.heap.size+1))) (fun _ i _=>4 - (intOf i).toNat)
 case atStart=>exact⟨0,rfl,by omega,HB2,HS2,HR2,HL2,HK2,HP2⟩
 case round =>
  obtain⟨k,rfl,hk,HB,HS,HR,HL,HK,HP⟩:=hrel
  by_cases hlt:k<4
  ·have hp:=HP.out.at k hlt
   have hlen:=Ms.rnums_len s k
   obtain⟨n,q,e,hq,hx,_,_⟩:=Cm.rnum_res s (Ms.rnums s k).2.1 (Ms.rnums s k).2.2
   have HQ:=Lib.hid hq
   have HST:Hid (Ms.rnums s (k+1)=((Ms.rnums s k).1 ++ [n],q,e)):=by
    show _=_
    rw[Ms.rnums_succ,hq]
    simp
   obtain⟨L,hL⟩ : ∃L,L=(Ms.rnums s k).1:=⟨_,rfl⟩
   rw[← hL]at HST hlen HL
   have HLE:=Lib.hid hlen
   clear hq hL hlen
   go_wp2_with fail
   refine(rnumber_any _ B o u s _ _ n q e HR.out hx HQ).mono ?_
   rintro e5 v5 ⟨rfl,hr5,hg5⟩
   have hl5:Recs v5 (w.heap.size+1) (Re.base L) (.slice none 0 0):=HL.out.kept hg5 (by simp;omega)
   go_wp2_with (first
    | (refine store_part (by rfl) _ _ _ (by rfl) (w.heap.size+1) k _ _ (Re.cells (Re.base (L ++ [n])) (.slice none 0 0)) (.int .i64 n) [.int .i64 n] (by rfl) (by rfl) (by rfl) (by kernel_rfl) (by rfl) hl5 (show k+1≤12 by omega) (by have h:=Re.base_set L n (.slice none 0 0) (by rw[HLE.out];exact hlt);rw[HLE.out]at h;exact h) ?_
       intro w6 hl hg
       obtain⟨a1,a2,a3,a4⟩:=eget_end (by decide) hB (Nat.le_succ _) ho HB.out HS.out hr5 hg5 _ HL.out hl hg
       have HR6:=Lib.hid a1;have HB6:=Lib.hid a2;have HS6:=Lib.hid a3;have HL6:=Lib.hid hl
       have HK6:=Lib.hid (a4 _ _ _ (by omega) (by omega) HK.out)
       have HP6:=Lib.hid (a4 _ _ _ (by have:=HZ.out;omega) (by have:=HZ.out;omega) HP.out)
       clear a1 a2 a3 a4 hl hg hr5 hg5 hl5 hp)
    | fail)
   go_roundw
   case rel =>
    refine⟨k+1,by go_num,by omega,HB6,HS6, ?_, ?_,HK6,HP6⟩
    ·show Rdr _ _ _ _ _ _ _
     rw[HST.out]
     exact HR6.out
    ·show Recs _ _ _ _
     rw[HST.out]
     exact HL6.out
   case measure=>simp[intOf];omega
  ·obtain rfl:k=4:=by omega
   obtain⟨L,hL⟩ : ∃L,L=(Ms.rnums s 4).1:=⟨_,rfl⟩
   obtain⟨pp,hpp⟩ : ∃pp,pp=(Ms.rnums s 4).2.1:=⟨_,rfl⟩
   obtain⟨er,her⟩ : ∃er,er=(Ms.rnums s 4).2.2:=⟨_,rfl⟩
   have HLL:=Lib.hid hL;have HPP:=Lib.hid hpp;have HEE:=Lib.hid her
   rw[← hL]at HL
   rw[← hpp, ← her]at HR
   clear hL hpp her
   obtain rfl:er=0:=HEE.out.trans HE0.out
   have hkk:Ms.nth L 0=1:=by rw[HLL.out];exact HK0.out
   have q0:=Recs.c0 HL.out
   rw[show(Re.base L).kind=Ms.nth L 0 from rfl]at q0
   rw[hkk]at q0
   clear hkk
   have HDV:Hid (Re.dn s=Cm.done s pp 0):=by
    show _=_
    unfold Re.dn
    rw[HG.out,HPP.out]
   have HG1:Hid ((Re.got s).1=Re.base L):=by show _=_;rw[HG.out,HLL.out]
   have HI:Hid (ReadsU wr (.slice none 0 0) (Re.base L).img):=ReadsU.empty _
   go_wp2_with fail
   refine(rerr_any _ B o u s pp 0 HR.out).mono ?_
   rintro e5 w5 ⟨rfl,rfl⟩
   go_wp2
   clear q0
   obtain⟨p0,p1,p2,p3,p4,p5,p6,p7,p8,p9,p10,p11⟩:=Recs.all HL.out
   have HDN:Hid (Calls Tryz.prog 114 #[.pointer (some ⟨o,0,none⟩)] wr.drew (fun en w' => en = .returned (.int .i64 (Re.dn s))∧Recs w' (w.heap.size+1) (Re.base L) (.slice none 0 0)∧Recs w' w.heap.size Re.zero (.slice none 0 0)∧Below wr.heap.size wr w')):=by
    refine(rdone_any wr.drew B o u s _ _ (HR.out.kept (Below.refl _ _).drew)).mono ?_
    rintro en w' ⟨rfl,q6,rfl⟩
    have hd:Below wr.heap.size wr (wr.drew.drewN q6):=((Below.refl _ _).drew).trans (drawn wr.drew q6)
    exact⟨by rw[HDV.out];rfl,HL.out.below hd HL.out.lt,HK.out.below hd HK.out.lt,hd⟩
   obtain⟨z0,z1,z2,z3,z4,z5,z6,z7,z8,z9,z10,z11⟩:=Recs.all HK.out
   dsimp only [Re.zero,Bl.zero,Cm.zero,Cm.bareOf]at z0 z1 z2 z3 z4 z5 z6 z7 z8 z9 z10
   have f0:=HK.out.free 0;have f1:=HK.out.free 1;have f2:=HK.out.free 2;have f3:=HK.out.free 3;have f4:=HK.out.free 4;have f5:=HK.out.free 5;have f6:=HK.out.free 6;have f7:=HK.out.free 7;have f8:=HK.out.free 8;have f9:=HK.out.free 9;have f10:=HK.out.free 10;have f11:=HK.out.free 11
   obtain⟨D,hD⟩ : ∃D,D=Re.dn s:=⟨_,rfl⟩
   rw[← hD]at HDN
   have HDD:=Lib.hid hD
   clear hD
   go_region_with (first
    | (go_at_call 114
       with_reducible refine HDN.out.mono ?_
       rintro e8 w8 ⟨rfl,hm8,hk8,hd8⟩
       obtain⟨p0,p1,p2,p3,p4,p5,p6,p7,p8,p9,p10,p11⟩:=Recs.all hm8
       have HAT:Hid (Recs w8 w.heap.size Re.zero (.slice none 0 0)∧Below wr.heap.size wr w8):=⟨hk8,hd8⟩
       obtain⟨z0,z1,z2,z3,z4,z5,z6,z7,z8,z9,z10,z11⟩:=Recs.all hk8
       dsimp only [Re.zero,Bl.zero,Cm.zero,Cm.bareOf]at z0 z1 z2 z3 z4 z5 z6 z7 z8 z9 z10
       have f0:=hk8.free 0;have f1:=hk8.free 1;have f2:=hk8.free 2;have f3:=hk8.free 3;have f4:=hk8.free 4;have f5:=hk8.free 5;have f6:=hk8.free 6;have f7:=hk8.free 7;have f8:=hk8.free 8;have f9:=hk8.free 9;have f10:=hk8.free 10;have f11:=hk8.free 11))
   all_goals
    refine set_twelve HAT.out.1 _ _ _ _ _ _ _ _ _ _ _ _ ?_
    intro w9 hl9 hg9
    clear p0 p1 p2 p3 p4 p5 p6 p7 p8 p9 p10 p11 z0 z1 z2 z3 z4 z5 z6 z7 z8 z9 z10 z11 f0 f1 f2 f3 f4 f5 f6 f7 f8 f9 f10 f11
    have HL9:Hid (Recs w9 w.heap.size (Re.base L) (.slice none 0 0)):=hl9
    have HI9:=Lib.hid ((HI.out.below HAT.out.2).kept_rec HAT.out.1 hg9)
    have HB9:=Lib.hid ((HB.out.trans (HAT.out.2.mono (Nat.le_trans hB HB.out.size))).grown hg9 (Nat.le_trans hB (Nat.le_trans HB.out.size HAT.out.2.size)) (by rintro x hx;cases hx;exact hB))
    clear hl9 hg9
    go_wp2
    refine ret_rec2 rfl rfl HL9.out rfl ?_
    exact⟨(Re.base L),(.slice none 0 0),by rw[← HDD.out];rfl,fun _=>HG1.out.symm,HI9.out,HB9.out⟩
theorem readRe_2(w:World)(B o:Nat)(u:Value)(s:List UInt8)(hr:Rdr w B o u s 0 0)(hB:B≤w.heap.size)(hE:(Ms.rnums s 4).2.2=0)(hK:Ms.nth (Ms.rnums s 4).1 0=2) :
 Calls Tryz.prog 153 #[.pointer (some ⟨o,0,none⟩)] w (RGot w B s):=by
 have ho:=hr.lies.lt
 have hsm:=hr.small
 obtain⟨w1,e1,hk1,hl1,hB1,hz1⟩:=box_recs w Re.zero (.slice none 0 0) Re.zero (.slice none 0 0)
 dsimp only [Re.cells,Re.zero,Bl.zero,Cm.zero,Cm.bareOf]at e1
 have HL1:=Lib.hid hl1;have HK1:=Lib.hid hk1;have HB1:=Lib.hid (hB1.mono hB);have HS1:=Lib.hid (SavesO.of_below (o:=o) hB1)
 have HR1:=Lib.hid (hr.kept hB1);have HZ:=Lib.hid hz1
 have HE0:=Lib.hid hE;have HK0:=Lib.hid hK
 have HG:Hid (Re.got s=({Re.base (Ms.rnums s 4).1 with cmd:=(Cm.get 1 s (Ms.rnums s 4).2.1 0).1},(Cm.get 1 s (Ms.rnums s 4).2.1 0).2.1,(Cm.get 1 s (Ms.rnums s 4).2.1 0).2.2)):=by
  show _=_
  unfold Re.got
  rw[hK,hE]
  rfl
 clear hk1 hl1 hB1 hz1 hr hE hK
 go_enter Tryz.func153,Tryz.ntmps153
 go_wp2_with fail
 refine(reNumbers_any (w.heap.size+1) _).mono ?_
 rintro e2 w2 ⟨rfl,hp2,hb2⟩
 have HL2:=Lib.hid (HL1.out.below hb2 HL1.out.lt);have HK2:=Lib.hid (HK1.out.below hb2 HK1.out.lt);have HP2:=Lib.hid hp2
 have HR2:=Lib.hid (HR1.out.kept hb2);have HB2:=Lib.hid (HB1.out.trans (hb2.mono (Nat.le_trans hB HB1.out.size)));have HS2:=Lib.hid (HS1.out.trans (SavesO.of_below (o:=o) hb2))
 clear hp2 hb2
 go_wp2
 go_loopw [6,10] (fun _ i wr => ∃(k:Nat),i = .int .i64 (k:Int)∧k≤4∧Hid (Below B w wr)∧Hid (SavesO o w wr)∧Hid (Rdr wr B o u s (Ms.rnums s k).2.1 (Ms.rnums s k).2.2)∧Hid (Recs wr (w.heap.size+1) (Re.base (Ms.rnums s k).1) (.slice none 0 0))∧Hid (Recs wr w.heap.size Re.zero (.slice none 0 0))∧Hid (RPtrs wr w1.heap.size (w.heap.size+1))) (fun _ i _=>4 - (intOf i).toNat)
 case atStart=>exact⟨0,rfl,by omega,HB2,HS2,HR2,HL2,HK2,HP2⟩
 case round =>
  obtain⟨k,rfl,hk,HB,HS,HR,HL,HK,HP⟩:=hrel
  by_cases hlt:k<4
  ·have hp:=HP.out.at k hlt
   have hlen:=Ms.rnums_len s k
   obtain⟨n,q,e,hq,hx,_,_⟩:=Cm.rnum_res s (Ms.rnums s k).2.1 (Ms.rnums s k).2.2
   have HQ:=Lib.hid hq
   have HST:Hid (Ms.rnums s (k+1)=((Ms.rnums s k).1 ++ [n],q,e)):=by
    show _=_
    rw[Ms.rnums_succ,hq]
    simp
   obtain⟨L,hL⟩ : ∃L,L=(Ms.rnums s k).1:=⟨_,rfl⟩
   rw[← hL]at HST hlen HL
   have HLE:=Lib.hid hlen
   clear hq hL hlen
   go_wp2_with fail
   refine(rnumber_any _ B o u s _ _ n q e HR.out hx HQ).mono ?_
   rintro e5 v5 ⟨rfl,hr5,hg5⟩
   have hl5:Recs v5 (w.heap.size+1) (Re.base L) (.slice none 0 0):=HL.out.kept hg5 (by simp;omega)
   go_wp2_with (first
    | (refine store_part (by rfl) _ _ _ (by rfl) (w.heap.size+1) k _ _ (Re.cells (Re.base (L ++ [n])) (.slice none 0 0)) (.int .i64 n) [.int .i64 n] (by rfl) (by rfl) (by rfl) (by kernel_rfl) (by rfl) hl5 (show k+1≤12 by omega) (by have h:=Re.base_set L n (.slice none 0 0) (by rw[HLE.out];exact hlt);rw[HLE.out]at h;exact h) ?_
       intro w6 hl hg
       obtain⟨a1,a2,a3,a4⟩:=eget_end (by decide) hB (Nat.le_succ _) ho HB.out HS.out hr5 hg5 _ HL.out hl hg
       have HR6:=Lib.hid a1;have HB6:=Lib.hid a2;have HS6:=Lib.hid a3;have HL6:=Lib.hid hl
       have HK6:=Lib.hid (a4 _ _ _ (by omega) (by omega) HK.out)
       have HP6:=Lib.hid (a4 _ _ _ (by have:=HZ.out;omega) (by have:=HZ.out;omega) HP.out)
       clear a1 a2 a3 a4 hl hg hr5 hg5 hl5 hp)
    | fail)
   go_roundw
   case rel =>
    refine⟨k+1,by go_num,by omega,HB6,HS6, ?_, ?_,HK6,HP6⟩
    ·show Rdr _ _ _ _ _ _ _
     rw[HST.out]
     exact HR6.out
    ·show Recs _ _ _ _
     rw[HST.out]
     exact HL6.out
   case measure=>simp[intOf];omega
  ·obtain rfl:k=4:=by omega
   obtain⟨L,hL⟩ : ∃L,L=(Ms.rnums s 4).1:=⟨_,rfl⟩
   obtain⟨pp,hpp⟩ : ∃pp,pp=(Ms.rnums s 4).2.1:=⟨_,rfl⟩
   obtain⟨er,her⟩ : ∃er,er=(Ms.rnums s 4).2.2:=⟨_,rfl⟩
   have HLL:=Lib.hid hL;have HPP:=Lib.hid hpp;have HEE:=Lib.hid her
   rw[← hL]at HL
   rw[← hpp, ← her]at HR
   clear hL hpp her
   obtain rfl:er=0:=HEE.out.trans HE0.out
   have hkk:Ms.nth L 0=2:=by rw[HLL.out];exact HK0.out
   have q0:=Recs.c0 HL.out
   rw[show(Re.base L).kind=Ms.nth L 0 from rfl]at q0
   rw[hkk]at q0
   clear hkk
   go_wp2_with fail
   refine(rerr_any _ B o u s pp 0 HR.out).mono ?_
   rintro e5 w5 ⟨rfl,rfl⟩
   go_wp2_with fail
   refine(cgetS_any 1 _ B o u s pp 0 rfl HR.out (Nat.le_trans hB HB.out.size)).mono ?_
   rintro e6 w6 ⟨⟨rfl,hr6,hb6⟩,hs6⟩
   have HDV:Hid (Re.dn s=Cm.done s (Cm.get 1 s pp 0).2.1 (Cm.get 1 s pp 0).2.2):=by
    show _=_
    unfold Re.dn
    rw[HG.out,HPP.out]
   have HG1:Hid ((Re.got s).1={Re.base L with cmd:=(Cm.get 1 s pp 0).1}):=by show _=_;rw[HG.out,HLL.out,HPP.out]
   obtain⟨t,ht⟩ : ∃t,t=Cm.get 1 s pp 0:=⟨_,rfl⟩
   rw[← ht]at hr6 HDV HG1 ⊢
   have HR6:=Lib.hid hr6;have HB6:=Lib.hid (HB.out.trans hb6)
   have HL6:=Lib.hid (hs6 _ _ _ (by omega) HL.out);have HK6:=Lib.hid (hs6 _ _ _ (by omega) HK.out)
   clear hr6 hb6 hs6 ht q0
   go_wp2_with (first
    | (refine store_part (by rfl) _ _ _ (by rfl) (w.heap.size+1) 4 _ _ (Re.cells {Re.base L with cmd:=t.1} (.slice none 0 0)) (.agg (Cm.cells t.1)) (Cm.cells t.1).toList (by rfl) (by rfl) (by rfl) (by kernel_rfl) (by rw[Array.all_toList];exact Cm.cells_one _) HL6.out (Nat.le_of_ble_eq_true rfl) (by rfl) ?_
       intro w7 hl hg
       have HR7:=Lib.hid (HR6.out.beside' hg (by omega) (fun h=>HL6.out.not_row (by decide) HR6.out.owns h.symm))
       have HB7:=Lib.hid (HB6.out.grown hg (Nat.le_trans hB HB6.out.size) (by rintro x hx;cases hx;omega))
       have HL7:=Lib.hid hl;have HK7:=Lib.hid (HK6.out.kept hg (by simp))
       have HI7:Hid (ReadsU w7 (.slice none 0 0) ({Re.base L with cmd:=t.1}:Re.Rec).img):=ReadsU.empty _
       clear hl hg)
    | fail)
   obtain⟨p0,p1,p2,p3,p4,p5,p6,p7,p8,p9,p10,p11⟩:=Recs.all HL7.out
   have HDN:Hid (Calls Tryz.prog 114 #[.pointer (some ⟨o,0,none⟩)] w7.drew (fun en w' => en = .returned (.int .i64 (Re.dn s))∧Recs w' (w.heap.size+1) {Re.base L with cmd:=t.1} (.slice none 0 0)∧Recs w' w.heap.size Re.zero (.slice none 0 0)∧Below w7.heap.size w7 w')):=by
    refine(rdone_any w7.drew B o u s _ _ (HR7.out.kept (Below.refl _ _).drew)).mono ?_
    rintro en w' ⟨rfl,q6,rfl⟩
    have hd:Below w7.heap.size w7 (w7.drew.drewN q6):=((Below.refl _ _).drew).trans (drawn w7.drew q6)
    exact⟨by rw[HDV.out];rfl,HL7.out.below hd HL7.out.lt,HK7.out.below hd HK7.out.lt,hd⟩
   obtain⟨z0,z1,z2,z3,z4,z5,z6,z7,z8,z9,z10,z11⟩:=Recs.all HK7.out
   dsimp only [Re.zero,Bl.zero,Cm.zero,Cm.bareOf]at z0 z1 z2 z3 z4 z5 z6 z7 z8 z9 z10
   have f0:=HK7.out.free 0;have f1:=HK7.out.free 1;have f2:=HK7.out.free 2;have f3:=HK7.out.free 3;have f4:=HK7.out.free 4;have f5:=HK7.out.free 5;have f6:=HK7.out.free 6;have f7:=HK7.out.free 7;have f8:=HK7.out.free 8;have f9:=HK7.out.free 9;have f10:=HK7.out.free 10;have f11:=HK7.out.free 11
   obtain⟨D,hD⟩ : ∃D,D=Re.dn s:=⟨_,rfl⟩
   rw[← hD]at HDN
   have HDD:=Lib.hid hD
   clear hD
   go_wp2
   go_region_with (first
    | (go_at_call 114
       with_reducible refine HDN.out.mono ?_
       rintro e8 w8 ⟨rfl,hm8,hk8,hd8⟩
       obtain⟨p0,p1,p2,p3,p4,p5,p6,p7,p8,p9,p10,p11⟩:=Recs.all hm8
       have HAT:Hid (Recs w8 w.heap.size Re.zero (.slice none 0 0)∧Below w7.heap.size w7 w8):=⟨hk8,hd8⟩
       obtain⟨z0,z1,z2,z3,z4,z5,z6,z7,z8,z9,z10,z11⟩:=Recs.all hk8
       dsimp only [Re.zero,Bl.zero,Cm.zero,Cm.bareOf]at z0 z1 z2 z3 z4 z5 z6 z7 z8 z9 z10
       have f0:=hk8.free 0;have f1:=hk8.free 1;have f2:=hk8.free 2;have f3:=hk8.free 3;have f4:=hk8.free 4;have f5:=hk8.free 5;have f6:=hk8.free 6;have f7:=hk8.free 7;have f8:=hk8.free 8;have f9:=hk8.free 9;have f10:=hk8.free 10;have f11:=hk8.free 11))
   all_goals
    refine set_twelve HAT.out.1 _ _ _ _ _ _ _ _ _ _ _ _ ?_
    intro w9 hl9 hg9
    clear p0 p1 p2 p3 p4 p5 p6 p7 p8 p9 p10 p11 z0 z1 z2 z3 z4 z5 z6 z7 z8 z9 z10 z11 f0 f1 f2 f3 f4 f5 f6 f7 f8 f9 f10 f11
    have HL9:Hid (Recs w9 w.heap.size {Re.base L with cmd:=t.1} (.slice none 0 0)):=hl9
    have HI9:=Lib.hid ((HI7.out.below HAT.out.2).kept_rec HAT.out.1 hg9)
    have HB9:=Lib.hid ((HB7.out.trans (HAT.out.2.mono (Nat.le_trans hB HB7.out.size))).grown hg9 (Nat.le_trans hB (Nat.le_trans HB7.out.size HAT.out.2.size)) (by rintro x hx;cases hx;exact hB))
    clear hl9 hg9
    go_wp2
    refine ret_rec2 rfl rfl HL9.out rfl ?_
    exact⟨{Re.base L with cmd:=t.1},(.slice none 0 0),by rw[← HDD.out];rfl,fun _=>HG1.out.symm,HI9.out,HB9.out⟩
theorem readRe_3(w:World)(B o:Nat)(u:Value)(s:List UInt8)(hr:Rdr w B o u s 0 0)(hB:B≤w.heap.size)(hE:(Ms.rnums s 4).2.2=0)(hK:Ms.nth (Ms.rnums s 4).1 0=3) :
 Calls Tryz.prog 153 #[.pointer (some ⟨o,0,none⟩)] w (RGot w B s):=by
 have ho:=hr.lies.lt
 have hsm:=hr.small
 obtain⟨w1,e1,hk1,hl1,hB1,hz1⟩:=box_recs w Re.zero (.slice none 0 0) Re.zero (.slice none 0 0)
 dsimp only [Re.cells,Re.zero,Bl.zero,Cm.zero,Cm.bareOf]at e1
 have HL1:=Lib.hid hl1;have HK1:=Lib.hid hk1;have HB1:=Lib.hid (hB1.mono hB);have HS1:=Lib.hid (SavesO.of_below (o:=o) hB1)
 have HR1:=Lib.hid (hr.kept hB1);have HZ:=Lib.hid hz1
 have HE0:=Lib.hid hE;have HK0:=Lib.hid hK
 have HG:Hid (Re.got s=({Re.base (Ms.rnums s 4).1 with cmd:=(Cm.get 1 s (Ms.rnums s 4).2.1 0).1},(Cm.get 1 s (Ms.rnums s 4).2.1 0).2.1,(Cm.get 1 s (Ms.rnums s 4).2.1 0).2.2)):=by
  show _=_
  unfold Re.got
  rw[hK,hE]
  rfl
 clear hk1 hl1 hB1 hz1 hr hE hK
 go_enter Tryz.func153,Tryz.ntmps153
 go_wp2_with fail
 refine(reNumbers_any (w.heap.size+1) _).mono ?_
 rintro e2 w2 ⟨rfl,hp2,hb2⟩
 have HL2:=Lib.hid (HL1.out.below hb2 HL1.out.lt);have HK2:=Lib.hid (HK1.out.below hb2 HK1.out.lt);have HP2:=Lib.hid hp2
 have HR2:=Lib.hid (HR1.out.kept hb2);have HB2:=Lib.hid (HB1.out.trans (hb2.mono (Nat.le_trans hB HB1.out.size)));have HS2:=Lib.hid (HS1.out.trans (SavesO.of_below (o:=o) hb2))
 clear hp2 hb2
 go_wp2
 go_loopw [6,10] (fun _ i wr => ∃(k:Nat),i = .int .i64 (k:Int)∧k≤4∧Hid (Below B w wr)∧Hid (SavesO o w wr)∧Hid (Rdr wr B o u s (Ms.rnums s k).2.1 (Ms.rnums s k).2.2)∧Hid (Recs wr (w.heap.size+1) (Re.base (Ms.rnums s k).1) (.slice none 0 0))∧Hid (Recs wr w.heap.size Re.zero (.slice none 0 0))∧Hid (RPtrs wr w1.heap.size (w.heap.size+1))) (fun _ i _=>4 - (intOf i).toNat)
 case atStart=>exact⟨0,rfl,by omega,HB2,HS2,HR2,HL2,HK2,HP2⟩
 case round =>
  obtain⟨k,rfl,hk,HB,HS,HR,HL,HK,HP⟩:=hrel
  by_cases hlt:k<4
  ·have hp:=HP.out.at k hlt
   have hlen:=Ms.rnums_len s k
   obtain⟨n,q,e,hq,hx,_,_⟩:=Cm.rnum_res s (Ms.rnums s k).2.1 (Ms.rnums s k).2.2
   have HQ:=Lib.hid hq
   have HST:Hid (Ms.rnums s (k+1)=((Ms.rnums s k).1 ++ [n],q,e)):=by
    show _=_
    rw[Ms.rnums_succ,hq]
    simp
   obtain⟨L,hL⟩ : ∃L,L=(Ms.rnums s k).1:=⟨_,rfl⟩
   rw[← hL]at HST hlen HL
   have HLE:=Lib.hid hlen
   clear hq hL hlen
   go_wp2_with fail
   refine(rnumber_any _ B o u s _ _ n q e HR.out hx HQ).mono ?_
   rintro e5 v5 ⟨rfl,hr5,hg5⟩
   have hl5:Recs v5 (w.heap.size+1) (Re.base L) (.slice none 0 0):=HL.out.kept hg5 (by simp;omega)
   go_wp2_with (first
    | (refine store_part (by rfl) _ _ _ (by rfl) (w.heap.size+1) k _ _ (Re.cells (Re.base (L ++ [n])) (.slice none 0 0)) (.int .i64 n) [.int .i64 n] (by rfl) (by rfl) (by rfl) (by kernel_rfl) (by rfl) hl5 (show k+1≤12 by omega) (by have h:=Re.base_set L n (.slice none 0 0) (by rw[HLE.out];exact hlt);rw[HLE.out]at h;exact h) ?_
       intro w6 hl hg
       obtain⟨a1,a2,a3,a4⟩:=eget_end (by decide) hB (Nat.le_succ _) ho HB.out HS.out hr5 hg5 _ HL.out hl hg
       have HR6:=Lib.hid a1;have HB6:=Lib.hid a2;have HS6:=Lib.hid a3;have HL6:=Lib.hid hl
       have HK6:=Lib.hid (a4 _ _ _ (by omega) (by omega) HK.out)
       have HP6:=Lib.hid (a4 _ _ _ (by have:=HZ.out;omega) (by have:=HZ.out;omega) HP.out)
       clear a1 a2 a3 a4 hl hg hr5 hg5 hl5 hp)
    | fail)
   go_roundw
   case rel =>
    refine⟨k+1,by go_num,by omega,HB6,HS6, ?_, ?_,HK6,HP6⟩
    ·show Rdr _ _ _ _ _ _ _
     rw[HST.out]
     exact HR6.out
    ·show Recs _ _ _ _
     rw[HST.out]
     exact HL6.out
   case measure=>simp[intOf];omega
  ·obtain rfl:k=4:=by omega
   obtain⟨L,hL⟩ : ∃L,L=(Ms.rnums s 4).1:=⟨_,rfl⟩
   obtain⟨pp,hpp⟩ : ∃pp,pp=(Ms.rnums s 4).2.1:=⟨_,rfl⟩
   obtain⟨er,her⟩ : ∃er,er=(Ms.rnums s 4).2.2:=⟨_,rfl⟩
   have HLL:=Lib.hid hL;have HPP:=Lib.hid hpp;have HEE:=Lib.hid her
   rw[← hL]at HL
   rw[← hpp, ← her]at HR
   clear hL hpp her
   obtain rfl:er=0:=HEE.out.trans HE0.out
   have hkk:Ms.nth L 0=3:=by rw[HLL.out];exact HK0.out
   have q0:=Recs.c0 HL.out
   rw[show(Re.base L).kind=Ms.nth L 0 from rfl]at q0
   rw[hkk]at q0
   clear hkk
   go_wp2_with fail
   refine(rerr_any _ B o u s pp 0 HR.out).mono ?_
   rintro e5 w5 ⟨rfl,rfl⟩
   go_wp2_with fail
   refine(cgetS_any 1 _ B o u s pp 0 rfl HR.out (Nat.le_trans hB HB.out.size)).mono ?_
   rintro e6 w6 ⟨⟨rfl,hr6,hb6⟩,hs6⟩
   have HDV:Hid (Re.dn s=Cm.done s (Cm.get 1 s pp 0).2.1 (Cm.get 1 s pp 0).2.2):=by
    show _=_
    unfold Re.dn
    rw[HG.out,HPP.out]
   have HG1:Hid ((Re.got s).1={Re.base L with cmd:=(Cm.get 1 s pp 0).1}):=by show _=_;rw[HG.out,HLL.out,HPP.out]
   obtain⟨t,ht⟩ : ∃t,t=Cm.get 1 s pp 0:=⟨_,rfl⟩
   rw[← ht]at hr6 HDV HG1 ⊢
   have HR6:=Lib.hid hr6;have HB6:=Lib.hid (HB.out.trans hb6)
   have HL6:=Lib.hid (hs6 _ _ _ (by omega) HL.out);have HK6:=Lib.hid (hs6 _ _ _ (by omega) HK.out)
   clear hr6 hb6 hs6 ht q0
   go_wp2_with (first
    | (refine store_part (by rfl) _ _ _ (by rfl) (w.heap.size+1) 4 _ _ (Re.cells {Re.base L with cmd:=t.1} (.slice none 0 0)) (.agg (Cm.cells t.1)) (Cm.cells t.1).toList (by rfl) (by rfl) (by rfl) (by kernel_rfl) (by rw[Array.all_toList];exact Cm.cells_one _) HL6.out (Nat.le_of_ble_eq_true rfl) (by rfl) ?_
       intro w7 hl hg
       have HR7:=Lib.hid (HR6.out.beside' hg (by omega) (fun h=>HL6.out.not_row (by decide) HR6.out.owns h.symm))
       have HB7:=Lib.hid (HB6.out.grown hg (Nat.le_trans hB HB6.out.size) (by rintro x hx;cases hx;omega))
       have HL7:=Lib.hid hl;have HK7:=Lib.hid (HK6.out.kept hg (by simp))
       have HI7:Hid (ReadsU w7 (.slice none 0 0) ({Re.base L with cmd:=t.1}:Re.Rec).img):=ReadsU.empty _
       clear hl hg)
    | fail)
   obtain⟨p0,p1,p2,p3,p4,p5,p6,p7,p8,p9,p10,p11⟩:=Recs.all HL7.out
   have HDN:Hid (Calls Tryz.prog 114 #[.pointer (some ⟨o,0,none⟩)] w7.drew (fun en w' => en = .returned (.int .i64 (Re.dn s))∧Recs w' (w.heap.size+1) {Re.base L with cmd:=t.1} (.slice none 0 0)∧Recs w' w.heap.size Re.zero (.slice none 0 0)∧Below w7.heap.size w7 w')):=by
    refine(rdone_any w7.drew B o u s _ _ (HR7.out.kept (Below.refl _ _).drew)).mono ?_
    rintro en w' ⟨rfl,q6,rfl⟩
    have hd:Below w7.heap.size w7 (w7.drew.drewN q6):=((Below.refl _ _).drew).trans (drawn w7.drew q6)
    exact⟨by rw[HDV.out];rfl,HL7.out.below hd HL7.out.lt,HK7.out.below hd HK7.out.lt,hd⟩
   obtain⟨z0,z1,z2,z3,z4,z5,z6,z7,z8,z9,z10,z11⟩:=Recs.all HK7.out
   dsimp only [Re.zero,Bl.zero,Cm.zero,Cm.bareOf]at z0 z1 z2 z3 z4 z5 z6 z7 z8 z9 z10
   have f0:=HK7.out.free 0;have f1:=HK7.out.free 1;have f2:=HK7.out.free 2;have f3:=HK7.out.free 3;have f4:=HK7.out.free 4;have f5:=HK7.out.free 5;have f6:=HK7.out.free 6;have f7:=HK7.out.free 7;have f8:=HK7.out.free 8;have f9:=HK7.out.free 9;have f10:=HK7.out.free 10;have f11:=HK7.out.free 11
   obtain⟨D,hD⟩ : ∃D,D=Re.dn s:=⟨_,rfl⟩
   rw[← hD]at HDN
   have HDD:=Lib.hid hD
   clear hD
   go_wp2
   go_region_with (first
    | (go_at_call 114
       with_reducible refine HDN.out.mono ?_
       rintro e8 w8 ⟨rfl,hm8,hk8,hd8⟩
       obtain⟨p0,p1,p2,p3,p4,p5,p6,p7,p8,p9,p10,p11⟩:=Recs.all hm8
       have HAT:Hid (Recs w8 w.heap.size Re.zero (.slice none 0 0)∧Below w7.heap.size w7 w8):=⟨hk8,hd8⟩
       obtain⟨z0,z1,z2,z3,z4,z5,z6,z7,z8,z9,z10,z11⟩:=Recs.all hk8
       dsimp only [Re.zero,Bl.zero,Cm.zero,Cm.bareOf]at z0 z1 z2 z3 z4 z5 z6 z7 z8 z9 z10
       have f0:=hk8.free 0;have f1:=hk8.free 1;have f2:=hk8.free 2;have f3:=hk8.free 3;have f4:=hk8.free 4;have f5:=hk8.free 5;have f6:=hk8.free 6;have f7:=hk8.free 7;have f8:=hk8.free 8;have f9:=hk8.free 9;have f10:=hk8.free 10;have f11:=hk8.free 11))
   all_goals
    refine set_twelve HAT.out.1 _ _ _ _ _ _ _ _ _ _ _ _ ?_
    intro w9 hl9 hg9
    clear p0 p1 p2 p3 p4 p5 p6 p7 p8 p9 p10 p11 z0 z1 z2 z3 z4 z5 z6 z7 z8 z9 z10 z11 f0 f1 f2 f3 f4 f5 f6 f7 f8 f9 f10 f11
    have HL9:Hid (Recs w9 w.heap.size {Re.base L with cmd:=t.1} (.slice none 0 0)):=hl9
    have HI9:=Lib.hid ((HI7.out.below HAT.out.2).kept_rec HAT.out.1 hg9)
    have HB9:=Lib.hid ((HB7.out.trans (HAT.out.2.mono (Nat.le_trans hB HB7.out.size))).grown hg9 (Nat.le_trans hB (Nat.le_trans HB7.out.size HAT.out.2.size)) (by rintro x hx;cases hx;exact hB))
    clear hl9 hg9
    go_wp2
    refine ret_rec2 rfl rfl HL9.out rfl ?_
    exact⟨{Re.base L with cmd:=t.1},(.slice none 0 0),by rw[← HDD.out];rfl,fun _=>HG1.out.symm,HI9.out,HB9.out⟩
theorem readRe_4(w:World)(B o:Nat)(u:Value)(s:List UInt8)(hr:Rdr w B o u s 0 0)(hB:B≤w.heap.size)(hE:(Ms.rnums s 4).2.2=0)(hK:Ms.nth (Ms.rnums s 4).1 0=4) :
 Calls Tryz.prog 153 #[.pointer (some ⟨o,0,none⟩)] w (RGot w B s):=by
 have ho:=hr.lies.lt
 have hsm:=hr.small
 obtain⟨w1,e1,hk1,hl1,hB1,hz1⟩:=box_recs w Re.zero (.slice none 0 0) Re.zero (.slice none 0 0)
 dsimp only [Re.cells,Re.zero,Bl.zero,Cm.zero,Cm.bareOf]at e1
 have HL1:=Lib.hid hl1;have HK1:=Lib.hid hk1;have HB1:=Lib.hid (hB1.mono hB);have HS1:=Lib.hid (SavesO.of_below (o:=o) hB1)
 have HR1:=Lib.hid (hr.kept hB1);have HZ:=Lib.hid hz1
 have HE0:=Lib.hid hE;have HK0:=Lib.hid hK
 have HG:Hid (Re.got s=({Re.base (Ms.rnums s 4).1 with img:=(Ms.raw s (Ms.rnums s 4).2.1 0).1},(Ms.raw s (Ms.rnums s 4).2.1 0).2.1.toNat,(Ms.raw s (Ms.rnums s 4).2.1 0).2.2)):=by
  show _=_
  unfold Re.got
  rw[hK,hE]
  rfl
 have HINV:Hid ((Re.got s).1.img.length≤s.length):=(Re.got_inv s).2.2
 have HLE4:=Lib.hid (Ms.rnums_le s 4)
 clear hk1 hl1 hB1 hz1 hr hE hK
 go_enter Tryz.func153,Tryz.ntmps153
 go_wp2_with fail
 refine(reNumbers_any (w.heap.size+1) _).mono ?_
 rintro e2 w2 ⟨rfl,hp2,hb2⟩
 have HL2:=Lib.hid (HL1.out.below hb2 HL1.out.lt);have HK2:=Lib.hid (HK1.out.below hb2 HK1.out.lt);have HP2:=Lib.hid hp2
 have HR2:=Lib.hid (HR1.out.kept hb2);have HB2:=Lib.hid (HB1.out.trans (hb2.mono (Nat.le_trans hB HB1.out.size)));have HS2:=Lib.hid (HS1.out.trans (SavesO.of_below (o:=o) hb2))
 clear hp2 hb2
 go_wp2
 go_loopw [6,10] (fun _ i wr => ∃(k:Nat),i = .int .i64 (k:Int)∧k≤4∧Hid (Below B w wr)∧Hid (SavesO o w wr)∧Hid (Rdr wr B o u s (Ms.rnums s k).2.1 (Ms.rnums s k).2.2)∧Hid (Recs wr (w.heap.size+1) (Re.base (Ms.rnums s k).1) (.slice none 0 0))∧Hid (Recs wr w.heap.size Re.zero (.slice none 0 0))∧Hid (RPtrs wr w1.heap.size (w.heap.size+1))) (fun _ i _=>4 - (intOf i).toNat)
 case atStart=>exact⟨0,rfl,by omega,HB2,HS2,HR2,HL2,HK2,HP2⟩
 case round =>
  obtain⟨k,rfl,hk,HB,HS,HR,HL,HK,HP⟩:=hrel
  by_cases hlt:k<4
  ·have hp:=HP.out.at k hlt
   have hlen:=Ms.rnums_len s k
   obtain⟨n,q,e,hq,hx,_,_⟩:=Cm.rnum_res s (Ms.rnums s k).2.1 (Ms.rnums s k).2.2
   have HQ:=Lib.hid hq
   have HST:Hid (Ms.rnums s (k+1)=((Ms.rnums s k).1 ++ [n],q,e)):=by
    show _=_
    rw[Ms.rnums_succ,hq]
    simp
   obtain⟨L,hL⟩ : ∃L,L=(Ms.rnums s k).1:=⟨_,rfl⟩
   rw[← hL]at HST hlen HL
   have HLE:=Lib.hid hlen
   clear hq hL hlen
   go_wp2_with fail
   refine(rnumber_any _ B o u s _ _ n q e HR.out hx HQ).mono ?_
   rintro e5 v5 ⟨rfl,hr5,hg5⟩
   have hl5:Recs v5 (w.heap.size+1) (Re.base L) (.slice none 0 0):=HL.out.kept hg5 (by simp;omega)
   go_wp2_with (first
    | (refine store_part (by rfl) _ _ _ (by rfl) (w.heap.size+1) k _ _ (Re.cells (Re.base (L ++ [n])) (.slice none 0 0)) (.int .i64 n) [.int .i64 n] (by rfl) (by rfl) (by rfl) (by kernel_rfl) (by rfl) hl5 (show k+1≤12 by omega) (by have h:=Re.base_set L n (.slice none 0 0) (by rw[HLE.out];exact hlt);rw[HLE.out]at h;exact h) ?_
       intro w6 hl hg
       obtain⟨a1,a2,a3,a4⟩:=eget_end (by decide) hB (Nat.le_succ _) ho HB.out HS.out hr5 hg5 _ HL.out hl hg
       have HR6:=Lib.hid a1;have HB6:=Lib.hid a2;have HS6:=Lib.hid a3;have HL6:=Lib.hid hl
       have HK6:=Lib.hid (a4 _ _ _ (by omega) (by omega) HK.out)
       have HP6:=Lib.hid (a4 _ _ _ (by have:=HZ.out;omega) (by have:=HZ.out;omega) HP.out)
       clear a1 a2 a3 a4 hl hg hr5 hg5 hl5 hp)
    | fail)
   go_roundw
   case rel =>
    refine⟨k+1,by go_num,by omega,HB6,HS6, ?_, ?_,HK6,HP6⟩
    ·show Rdr _ _ _ _ _ _ _
     rw[HST.out]
     exact HR6.out
    ·show Recs _ _ _ _
     rw[HST.out]
     exact HL6.out
   case measure=>simp[intOf];omega
  ·obtain rfl:k=4:=by omega
   obtain⟨L,hL⟩ : ∃L,L=(Ms.rnums s 4).1:=⟨_,rfl⟩
   obtain⟨pp,hpp⟩ : ∃pp,pp=(Ms.rnums s 4).2.1:=⟨_,rfl⟩
   obtain⟨er,her⟩ : ∃er,er=(Ms.rnums s 4).2.2:=⟨_,rfl⟩
   have HLL:=Lib.hid hL;have HPP:=Lib.hid hpp;have HEE:=Lib.hid her
   rw[← hL]at HL
   rw[← hpp, ← her]at HR
   clear hL hpp her
   obtain rfl:er=0:=HEE.out.trans HE0.out
   have hkk:Ms.nth L 0=4:=by rw[HLL.out];exact HK0.out
   have q0:=Recs.c0 HL.out
   rw[show(Re.base L).kind=Ms.nth L 0 from rfl]at q0
   rw[hkk]at q0
   clear hkk
   obtain⟨x,q,e,hq,hx⟩ : ∃(x:List UInt8) (q:Nat) (e:Int),Ms.raw s pp 0=(x,(q:Int),e)∧(e≠0→x = []):=by
    rcases Ms.raw_cases s pp 0 (by rw[HPP.out];exact HLE4.out)with ⟨e,q,_,_,h⟩ | ⟨x,q,_,_,_,h,_⟩
    ·exact⟨[],q,e,h,fun _=>rfl⟩
    ·exact⟨x,q,0,h,fun h=>absurd rfl h⟩
   have HGG:Hid (Re.got s=({Re.base L with img:=x},q,e)):=by show _=_;rw[HG.out, ← HPP.out,hq,HLL.out];simp
   have HDV:Hid (Re.dn s=Cm.done s q e):=by
    show _=_
    unfold Re.dn
    rw[HGG.out]
   have HG1:Hid ((Re.got s).1={Re.base L with img:=x}):=by show _=_;rw[HGG.out]
   have HXL:Hid (x.length≤70368744177664):=by have:=HINV.out;rw[HGG.out]at this;exact Nat.le_trans this hsm
   have HQ:=Lib.hid hq
   clear hq
   go_wp2_with fail
   refine(rerr_any _ B o u s pp 0 HR.out).mono ?_
   rintro e5 w5 ⟨rfl,rfl⟩
   go_wp2_with fail
   refine(rrawB_any _ B o u s pp 0 x q e HR.out hx HXL.out HQ).mono ?_
   rintro e6 w6 ⟨vi,⟨rfl,hr6,hg6⟩,hi6⟩
   obtain⟨io,ic,rfl⟩:=hi6.shape
   obtain⟨xn,hxn⟩ : ∃xn,xn=x.length:=⟨_,rfl⟩
   rw[← hxn]at hi6 ⊢
   have HL6:=Lib.hid (HL.out.kept hg6 (by simp;omega));have HK6:=Lib.hid (HK.out.kept hg6 (by simp;omega))
   have HI6:=Lib.hid hi6;have HR6:=Lib.hid hr6
   have HB6:=Lib.hid (HB.out.grown hg6 (Nat.le_trans hB HB.out.size) (by rintro x hx;cases hx;exact hr6.base))
   clear hr6 hg6 hi6 hxn q0
   go_wp2_with (first
    | (refine store_part (by rfl) _ _ _ (by rfl) (w.heap.size+1) 11 _ _ (Re.cells {Re.base L with img:=x} (.slice io xn ic)) (.slice io xn ic) [.slice io xn ic] (by rfl) (by rfl) (by rfl) (by kernel_rfl) (by rfl) HL6.out (Nat.le_of_ble_eq_true rfl) (by rfl) ?_
       intro w7 hl hg
       have HR7:=Lib.hid (HR6.out.beside' hg (by omega) (fun h=>HL6.out.not_row (by decide) HR6.out.owns h.symm))
       have HB7:=Lib.hid (HB6.out.grown hg (Nat.le_trans hB HB6.out.size) (by rintro x hx;cases hx;omega))
       have HI7:Hid (ReadsU w7 (.slice io xn ic) ({Re.base L with img:=x}:Re.Rec).img):=HI6.out.kept_rec HL6.out hg
       have HL7:=Lib.hid hl;have HK7:=Lib.hid (HK6.out.kept hg (by simp))
       clear hl hg)
    | fail)
   obtain⟨p0,p1,p2,p3,p4,p5,p6,p7,p8,p9,p10,p11⟩:=Recs.all HL7.out
   have HDN:Hid (Calls Tryz.prog 114 #[.pointer (some ⟨o,0,none⟩)] w7.drew (fun en w' => en = .returned (.int .i64 (Re.dn s))∧Recs w' (w.heap.size+1) {Re.base L with img:=x} (.slice io xn ic)∧Recs w' w.heap.size Re.zero (.slice none 0 0)∧Below w7.heap.size w7 w')):=by
    refine(rdone_any w7.drew B o u s _ _ (HR7.out.kept (Below.refl _ _).drew)).mono ?_
    rintro en w' ⟨rfl,q6,rfl⟩
    have hd:Below w7.heap.size w7 (w7.drew.drewN q6):=((Below.refl _ _).drew).trans (drawn w7.drew q6)
    exact⟨by rw[HDV.out];rfl,HL7.out.below hd HL7.out.lt,HK7.out.below hd HK7.out.lt,hd⟩
   obtain⟨z0,z1,z2,z3,z4,z5,z6,z7,z8,z9,z10,z11⟩:=Recs.all HK7.out
   dsimp only [Re.zero,Bl.zero,Cm.zero,Cm.bareOf]at z0 z1 z2 z3 z4 z5 z6 z7 z8 z9 z10
   have f0:=HK7.out.free 0;have f1:=HK7.out.free 1;have f2:=HK7.out.free 2;have f3:=HK7.out.free 3;have f4:=HK7.out.free 4;have f5:=HK7.out.free 5;have f6:=HK7.out.free 6;have f7:=HK7.out.free 7;have f8:=HK7.out.free 8;have f9:=HK7.out.free 9;have f10:=HK7.out.free 10;have f11:=HK7.out.free 11
   obtain⟨D,hD⟩ : ∃D,D=Re.dn s:=⟨_,rfl⟩
   rw[← hD]at HDN
   have HDD:=Lib.hid hD
   clear hD
   go_wp2
   go_region_with (first
    | (go_at_call 114
       with_reducible refine HDN.out.mono ?_
       rintro e8 w8 ⟨rfl,hm8,hk8,hd8⟩
       obtain⟨p0,p1,p2,p3,p4,p5,p6,p7,p8,p9,p10,p11⟩:=Recs.all hm8
       have HAT:Hid (Recs w8 w.heap.size Re.zero (.slice none 0 0)∧Below w7.heap.size w7 w8):=⟨hk8,hd8⟩
       obtain⟨z0,z1,z2,z3,z4,z5,z6,z7,z8,z9,z10,z11⟩:=Recs.all hk8
       dsimp only [Re.zero,Bl.zero,Cm.zero,Cm.bareOf]at z0 z1 z2 z3 z4 z5 z6 z7 z8 z9 z10
       have f0:=hk8.free 0;have f1:=hk8.free 1;have f2:=hk8.free 2;have f3:=hk8.free 3;have f4:=hk8.free 4;have f5:=hk8.free 5;have f6:=hk8.free 6;have f7:=hk8.free 7;have f8:=hk8.free 8;have f9:=hk8.free 9;have f10:=hk8.free 10;have f11:=hk8.free 11))
   all_goals
    refine set_twelve HAT.out.1 _ _ _ _ _ _ _ _ _ _ _ _ ?_
    intro w9 hl9 hg9
    clear p0 p1 p2 p3 p4 p5 p6 p7 p8 p9 p10 p11 z0 z1 z2 z3 z4 z5 z6 z7 z8 z9 z10 z11 f0 f1 f2 f3 f4 f5 f6 f7 f8 f9 f10 f11
    have HL9:Hid (Recs w9 w.heap.size {Re.base L with img:=x} (.slice io xn ic)):=hl9
    have HI9:=Lib.hid ((HI7.out.below HAT.out.2).kept_rec HAT.out.1 hg9)
    have HB9:=Lib.hid ((HB7.out.trans (HAT.out.2.mono (Nat.le_trans hB HB7.out.size))).grown hg9 (Nat.le_trans hB (Nat.le_trans HB7.out.size HAT.out.2.size)) (by rintro x hx;cases hx;exact hB))
    clear hl9 hg9
    go_wp2
    refine ret_rec2 rfl rfl HL9.out rfl ?_
    exact⟨{Re.base L with img:=x},(.slice io xn ic),by rw[← HDD.out];rfl,fun _=>HG1.out.symm,HI9.out,HB9.out⟩
theorem readRe_no(w:World)(B o:Nat)(u:Value)(s:List UInt8)(hr:Rdr w B o u s 0 0)(hB:B≤w.heap.size)(hE:(Ms.rnums s 4).2.2=0)(hK:Ms.nth (Ms.rnums s 4).1 0<1∨4<Ms.nth (Ms.rnums s 4).1 0) :
 Calls Tryz.prog 153 #[.pointer (some ⟨o,0,none⟩)] w (RGot w B s):=by
 have ho:=hr.lies.lt
 have hsm:=hr.small
 obtain⟨w1,e1,hk1,hl1,hB1,hz1⟩:=box_recs w Re.zero (.slice none 0 0) Re.zero (.slice none 0 0)
 dsimp only [Re.cells,Re.zero,Bl.zero,Cm.zero,Cm.bareOf]at e1
 have HL1:=Lib.hid hl1;have HK1:=Lib.hid hk1;have HB1:=Lib.hid (hB1.mono hB);have HS1:=Lib.hid (SavesO.of_below (o:=o) hB1)
 have HR1:=Lib.hid (hr.kept hB1);have HZ:=Lib.hid hz1
 have HE0:=Lib.hid hE;have HK0:=Lib.hid hK
 have HG:Hid ((Re.got s).2.2=3):=by
  show _=_
  obtain⟨_,_,h3,h4,_⟩:=Re.has_no hK
  unfold Re.got
  rw[if_neg (by rw[h3];simp),if_neg (by rw[h4];simp),if_neg (by omega),hE]
  rfl
 have HD0:Hid (Re.dn s=3):=by
  show _=_
  unfold Re.dn Cm.done
  rw[HG.out,if_pos (by decide)]
 clear hk1 hl1 hB1 hz1 hr hE hK
 go_enter Tryz.func153,Tryz.ntmps153
 go_wp2_with fail
 refine(reNumbers_any (w.heap.size+1) _).mono ?_
 rintro e2 w2 ⟨rfl,hp2,hb2⟩
 have HL2:=Lib.hid (HL1.out.below hb2 HL1.out.lt);have HK2:=Lib.hid (HK1.out.below hb2 HK1.out.lt);have HP2:=Lib.hid hp2
 have HR2:=Lib.hid (HR1.out.kept hb2);have HB2:=Lib.hid (HB1.out.trans (hb2.mono (Nat.le_trans hB HB1.out.size)));have HS2:=Lib.hid (HS1.out.trans (SavesO.of_below (o:=o) hb2))
 clear hp2 hb2
 go_wp2
 go_loopw [6,10] (fun _ i wr => ∃(k:Nat),i = .int .i64 (k:Int)∧k≤4∧Hid (Below B w wr)∧Hid (SavesO o w wr)∧Hid (Rdr wr B o u s (Ms.rnums s k).2.1 (Ms.rnums s k).2.2)∧Hid (Recs wr (w.heap.size+1) (Re.base (Ms.rnums s k).1) (.slice none 0 0))∧Hid (Recs wr w.heap.size Re.zero (.slice none 0 0))∧Hid (RPtrs wr w1.heap.size (w.heap.size+1))) (fun _ i _=>4 - (intOf i).toNat)
 case atStart=>exact⟨0,rfl,by omega,HB2,HS2,HR2,HL2,HK2,HP2⟩
 case round =>
  obtain⟨k,rfl,hk,HB,HS,HR,HL,HK,HP⟩:=hrel
  by_cases hlt:k<4
  ·have hp:=HP.out.at k hlt
   have hlen:=Ms.rnums_len s k
   obtain⟨n,q,e,hq,hx,_,_⟩:=Cm.rnum_res s (Ms.rnums s k).2.1 (Ms.rnums s k).2.2
   have HQ:=Lib.hid hq
   have HST:Hid (Ms.rnums s (k+1)=((Ms.rnums s k).1 ++ [n],q,e)):=by
    show _=_
    rw[Ms.rnums_succ,hq]
    simp
   obtain⟨L,hL⟩ : ∃L,L=(Ms.rnums s k).1:=⟨_,rfl⟩
   rw[← hL]at HST hlen HL
   have HLE:=Lib.hid hlen
   clear hq hL hlen
   go_wp2_with fail
   refine(rnumber_any _ B o u s _ _ n q e HR.out hx HQ).mono ?_
   rintro e5 v5 ⟨rfl,hr5,hg5⟩
   have hl5:Recs v5 (w.heap.size+1) (Re.base L) (.slice none 0 0):=HL.out.kept hg5 (by simp;omega)
   go_wp2_with (first
    | (refine store_part (by rfl) _ _ _ (by rfl) (w.heap.size+1) k _ _ (Re.cells (Re.base (L ++ [n])) (.slice none 0 0)) (.int .i64 n) [.int .i64 n] (by rfl) (by rfl) (by rfl) (by kernel_rfl) (by rfl) hl5 (show k+1≤12 by omega) (by have h:=Re.base_set L n (.slice none 0 0) (by rw[HLE.out];exact hlt);rw[HLE.out]at h;exact h) ?_
       intro w6 hl hg
       obtain⟨a1,a2,a3,a4⟩:=eget_end (by decide) hB (Nat.le_succ _) ho HB.out HS.out hr5 hg5 _ HL.out hl hg
       have HR6:=Lib.hid a1;have HB6:=Lib.hid a2;have HS6:=Lib.hid a3;have HL6:=Lib.hid hl
       have HK6:=Lib.hid (a4 _ _ _ (by omega) (by omega) HK.out)
       have HP6:=Lib.hid (a4 _ _ _ (by have:=HZ.out;omega) (by have:=HZ.out;omega) HP.out)
       clear a1 a2 a3 a4 hl hg hr5 hg5 hl5 hp)
    | fail)
   go_roundw
   case rel =>
    refine⟨k+1,by go_num,by omega,HB6,HS6, ?_, ?_,HK6,HP6⟩
    ·show Rdr _ _ _ _ _ _ _
     rw[HST.out]
     exact HR6.out
    ·show Recs _ _ _ _
     rw[HST.out]
     exact HL6.out
   case measure=>simp[intOf];omega
  ·obtain rfl:k=4:=by omega
   obtain⟨L,hL⟩ : ∃L,L=(Ms.rnums s 4).1:=⟨_,rfl⟩
   obtain⟨pp,hpp⟩ : ∃pp,pp=(Ms.rnums s 4).2.1:=⟨_,rfl⟩
   obtain⟨er,her⟩ : ∃er,er=(Ms.rnums s 4).2.2:=⟨_,rfl⟩
   have HLL:=Lib.hid hL;have HPP:=Lib.hid hpp;have HEE:=Lib.hid her
   rw[← hL]at HL
   rw[← hpp, ← her]at HR
   clear hL hpp her
   obtain rfl:er=0:=HEE.out.trans HE0.out
   have hkk:Ms.nth L 0<1∨4<Ms.nth L 0:=by rw[HLL.out];exact HK0.out
   have d1:(Ms.nth L 0 == 1)=false:=by simp;omega
   have d2:(Ms.nth L 0 == 2)=false:=by simp;omega
   have d3:(Ms.nth L 0 == 3)=false:=by simp;omega
   have d4:(Ms.nth L 0 == 4)=false:=by simp;omega
   have q0:=Recs.c0 HL.out
   rw[show(Re.base L).kind=Ms.nth L 0 from rfl]at q0
   clear hkk
   have HD:Hid (Re.dn s=3):=HD0.out
   go_wp2_with fail
   refine(rerr_any _ B o u s pp 0 HR.out).mono ?_
   rintro e5 w5 ⟨rfl,rfl⟩
   have HC:=Lib.hid HK.out
   go_wp2_with (first
    | (refine store_rec (by rfl) _ _ (by rfl) w.heap.size Re.zero _ Re.zero (.slice none 0 0) (by rfl) (by rfl) rfl HK.out ?_
       intro w7 hl7 hg7
       have HB7:=Lib.hid (HB.out.grown hg7 (Nat.le_trans hB HB.out.size) (by rintro j hj;cases hj;exact hB)))
    | fail)
   refine ret_rec2 rfl rfl hl7 rfl ?_
   exact⟨Re.zero, .slice none 0 0,by rw[HD.out];rfl,fun h=>absurd (HD.out.symm.trans h) (by decide),ReadsU.empty _,HB7.out⟩
theorem readRe_any(w:World)(B o:Nat)(u:Value)(s:List UInt8)(hr:Rdr w B o u s 0 0)(hB:B≤w.heap.size) :
 Calls Tryz.prog 153 #[.pointer (some ⟨o,0,none⟩)] w (RGot w B s):=by
 by_cases hE:(Ms.rnums s 4).2.2=0
 ·rcases Re.kinds (Ms.nth (Ms.rnums s 4).1 0)with h | h | h | h | h
  ·exact readRe_1 w B o u s hr hB hE h
  ·exact readRe_2 w B o u s hr hB hE h
  ·exact readRe_3 w B o u s hr hB hE h
  ·exact readRe_4 w B o u s hr hB hE h
  ·exact readRe_no w B o u s hr hB hE h
 ·exact readRe_err w B o u s hr hB hE
def RDecd(w:World)(r:Re.Rec × Int)(e:Ending)(w' : World):Prop :=
 Below w.heap.size w w' ∧ ∃vi,e = .returned (.tuple #[.agg (Re.cells r.1 vi), .int .i64 r.2])∧ReadsU w' vi r.1.img∧vi.oneCell' = true
theorem decodeRe_any(u:Value)(s:List UInt8)(w:World)(hW:WordsIn w)(hu:Reads w u s)(hb:s.length≤1000000) :
 Calls Tryz.prog 115 #[u] w (RDecd w (Re.decode s)):=by
 obtain⟨w1,e1,hl1,hB1,hz1⟩:=box_rec w Re.zero (.slice none 0 0)
 dsimp only [Re.cells,Re.zero,Bl.zero,Cm.zero,Cm.bareOf]at e1
 have HK1:=Lib.hid hl1;have HB1:=Lib.hid hB1;have HU1:=Lib.hid (hu.below hB1);have HZ:=Lib.hid hz1
 have HW:=Lib.hid (fun W (h:Below w.heap.size w W)=>hW.below h)
 obtain⟨r,hr⟩ : ∃r,r=Re.decode s:=⟨_,rfl⟩
 rw[← hr]
 unfold Re.decode at hr
 obtain⟨_,hinv2,_⟩:=Re.got_inv s
 obtain⟨t,ht⟩ : ∃t,t=(Re.got s).1:=⟨_,rfl⟩
 rw[show Cm.done s (Re.got s).2.1 (Re.got s).2.2=Re.dn s from rfl, ← ht]at hr
 rw[← ht]at hinv2
 have HT:=Lib.hid ht;have HRES:=Lib.hid hr
 have HSH:Hid (t.cmd.Short 140737488355328):=⟨Nat.le_trans hinv2.1 (by omega),Nat.le_trans hinv2.2.1 (by omega),Nat.le_trans hinv2.2.2 (by omega)⟩
 clear hl1 hB1 hz1 hu hr ht hW hinv2
 go_enter Tryz.func115,Tryz.ntmps115
 go_wp2_with fail
 refine(newreader_any u s _ w1.heap.size (Nat.le_refl _) HU1.out (by omega)).mono ?_
 rintro e2 w2 ⟨o,rv,rfl,ho,hr2,hb2⟩
 have HK2:=Lib.hid (HK1.out.below hb2 HK1.out.lt);have HB2:=Lib.hid (HB1.out.trans (hb2.mono HB1.out.size));have HR2:=Lib.hid hr2
 have HX2:=Lib.hid hb2
 clear hr2 hb2
 go_wp2_with fail
 refine(readRe_any _ w1.heap.size o rv s HR2.out HX2.out.size).mono ?_
 rintro e3 w3 ⟨y,vi,rfl,hy,hi,hb3⟩
 obtain⟨io,ic,rfl⟩:=hi.shape
 obtain⟨xn,hxn⟩ : ∃xn,xn=y.img.length:=⟨_,rfl⟩
 rw[← hxn]at hi ⊢
 have HI3:=Lib.hid hi;have HB3:=Lib.hid (HB2.out.trans (hb3.mono (Nat.le_of_lt (by have:=HZ.out;omega))))
 have HK3:=Lib.hid (HK2.out.below hb3 (by have:=HZ.out;omega))
 obtain⟨z,hz⟩ : ∃z,z=Re.dn s:=⟨_,rfl⟩
 rw[← hz]at hy HRES ⊢
 rw[← HT.out]at hy
 have HY:=Lib.hid hy
 clear hi hb3 hxn hy hz
 by_cases h0:z=0
 ·subst h0
  obtain rfl:y=t:=HY.out rfl
  have HR5:=Lib.hid (HRES.out.trans (if_neg (by simp)))
  have HOL:=Lib.hid (fun W (h:Below w.heap.size w W) (h' : Reads W (.slice io xn ic) y.img)=>olderRe_any y (.slice io xn ic) W (HW.out _ h) h' HSH.out)
  obtain⟨v,hv⟩ : ∃v,v=Re.older y:=⟨_,rfl⟩
  rw[← hv]at HOL HR5
  clear hv
  go_wp2_with (first
   | (refine store_rec (by rfl) _ _ (by rfl) w3.heap.size Re.zero _ y (.slice io xn ic) (by rfl) (by rfl) rfl (Lies.new _ _ _) ?_
      intro w5 hl4 hg4
      have hb:=fresh_below hg4
      have HI5:=Lib.hid (HI3.out.below hb)
      have HK5:=Lib.hid (HK3.out.below hb HK3.out.lt);have HM5:=Lib.hid hl4;have HB5:=Lib.hid (HB3.out.trans (hb.mono HB3.out.size))
      clear hl4 hg4 hb)
   | (refine load_rec (by rfl) _ (by rfl) w3.heap.size y (.slice io xn ic) (by rfl) HM5.out ?_)
   | fail)
  refine(HOL.out _ HB5.out HI5.out).mono ?_
  rintro e6 w6 ⟨rfl,hb⟩
  have HI6:=Lib.hid (HI5.out.below hb)
  have HK6:=Lib.hid (HK5.out.below hb HK5.out.lt);have HM6:=Lib.hid (HM5.out.below hb HM5.out.lt);have HB6:=Lib.hid (HB5.out.trans (hb.mono HB5.out.size))
  clear hb
  by_cases hy0:v=0
  ·subst hy0
   have HZ2:Hid (r=(y,0)):=HR5.out.trans (if_neg (by simp))
   go_wp2_with (first
    | (refine load_rec (by rfl) _ (by rfl) w3.heap.size y (.slice io xn ic) (by rfl) HM6.out ?_)
    | (refine store_rec (by rfl) _ _ (by rfl) w.heap.size Re.zero _ y (.slice io xn ic) (by rfl) (by rfl) rfl HK6.out ?_
       intro w7 hl7 hg7
       have HB7:=Lib.hid (HB6.out.grown hg7 HB6.out.size (by rintro j hj;cases hj;exact Nat.le_refl _))
       have HI7:=Lib.hid (HI6.out.kept_rec HK6.out hg7))
    | fail)
   refine ret_rec2 rfl rfl hl7 rfl ?_
   rw[HZ2.out]
   exact⟨HB7.out, .slice io xn ic,rfl,HI7.out,rfl⟩
  ·have hne:(v != 0)=true:=by simpa using hy0
   have HZ2:Hid (r=(Re.zero,v)):=HR5.out.trans (if_pos hy0)
   clear hy0
   go_wp2_with (first
    | (refine store_rec (by rfl) _ _ (by rfl) w.heap.size Re.zero _ Re.zero (.slice none 0 0) (by rfl) (by rfl) rfl HK6.out ?_
       intro w7 hl7 hg7
       have HB7:=Lib.hid (HB6.out.grown hg7 HB6.out.size (by rintro j hj;cases hj;exact Nat.le_refl _)))
    | fail)
   refine ret_rec2 rfl rfl hl7 rfl ?_
   rw[HZ2.out]
   exact⟨HB7.out, .slice none 0 0,rfl,ReadsU.empty _,rfl⟩
 ·have hne:(z != 0)=true:=by simpa using h0
  have heq:(z == 0)=false:=by simpa using h0
  have HZ2:Hid (r=(Re.zero,z)):=HRES.out.trans (if_pos h0)
  clear h0
  go_wp2_with (first
   | (refine store_rec (by rfl) _ _ (by rfl) w3.heap.size Re.zero _ y (.slice io xn ic) (by rfl) (by rfl) rfl (Lies.new _ _ _) ?_
      intro w5 hl4 hg4
      have hb:=fresh_below hg4
      have HI5:=Lib.hid (HI3.out.below hb)
      have HK5:=Lib.hid (HK3.out.below hb HK3.out.lt);have HM5:=Lib.hid hl4;have HB5:=Lib.hid (HB3.out.trans (hb.mono HB3.out.size))
      clear hl4 hg4 hb)
   | (refine store_rec (by rfl) _ _ (by rfl) w.heap.size Re.zero _ Re.zero (.slice none 0 0) (by rfl) (by rfl) rfl HK5.out ?_
      intro w7 hl7 hg7
      have HB7:=Lib.hid (HB5.out.grown hg7 HB5.out.size (by rintro j hj;cases hj;exact Nat.le_refl _)))
   | fail)
  refine ret_rec2 rfl rfl hl7 rfl ?_
  rw[HZ2.out]
  exact⟨HB7.out, .slice none 0 0,rfl,ReadsU.empty _,rfl⟩
end Go.Proofs.YtdkdjofnnnljjaaGreatDoor
