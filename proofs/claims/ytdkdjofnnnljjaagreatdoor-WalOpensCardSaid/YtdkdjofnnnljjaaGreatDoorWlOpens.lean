/- WalOpens: which version opens the log. -/
import Derived.Test.YtdkdjofnnnljjaaGreatDoorPDkCmp
namespace Go.Proofs.YtdkdjofnnnljjaaGreatDoor
open Go.RowKit
set_option maxHeartbeats 12800000
set_option maxRecDepth 8000
theorem LogS.elder{T S T' : Nat→Prop}{w w' : World}{g gm d:Nat}{F F' : Dk.Files}{B B' : List Dk.Op}{n f n' f' : Int}{h h' : Hd.Hard}{vi va vc:Value}{m:Nat}(l:LogS T S w g d F B n f h vi va vc)(hT : ∀k,T k→k<w.heap.size)(hk:Kp (fun j _ => ¬S j) w w')(hm:w.heap.size≤m)
 (lm:LogAt T' w' gm d F' B' n' f' h') (ht : ∀j,T' j→S j∨m≤j):LogAt (fun j=>T j∨m≤j) w' g d F' B' n f h:=by
 obtain⟨Sm,ui,ua,uc,lm⟩:=lm
 have hs : ∀k,Sm k→S k∨m≤k:=fun k h=>ht k (lm.sub k h).1
 refine⟨Sm,vi,va,vc,lm.dsk,fun k h => ?_, .inl l.here,hk.lies l.lies fun _ h=>(l.sub g h).2 rfl,(l.hard.keep (hk.keep fun b _ _ _ _ h h' => h.2.1 h')).imp fun b hb=>⟨.inl hb.1,fun h => ?_,hb.2.2⟩⟩
 ·rcases hs k h with h1 | h1
  ·exact⟨.inl (l.sub k h1).1,(l.sub k h1).2⟩
  ·exact⟨.inr h1,fun e=>by have:=l.lies.lt;omega⟩
 ·rcases hs b h with h1 | h1
  ·exact hb.2.1 h1
  ·have:=hT b hb.1;omega
theorem walOpens_any{n0:Nat}(rv:Value)(l:List Re.Rec)(newer:Bool)(v:Int)(w:World)(E:Env n0 w)(hv:RecsP (fun k _=>k<w.heap.size) w rv l)(hs : ∀x∈l,x.Fits∧x.cmd.Short 9223372036854775807) :
 Calls Tryz.prog 4 #[rv, .bool newer, .int .i64 v] w (Truly w):=by
 have HLARGE:=Lib.hid (largeH_any rv l w hv fun x hx=>(hs x hx).2)
 have HE:=Lib.hid E;have HS:=Lib.hid hs;have HV:=Lib.hid hv
 obtain⟨ao,cap,rfl,hc1,hc2⟩:=ListP.shape hv
 have HPL:=Lib.hid (fun h=>ListP.places hv cellR_first h)
 clear E hs hv
 go_enter Tryz.func4,Tryz.ntmps4
 go_wp2_with fail
 refine HLARGE.out.mono ?_
 rintro e w2 ⟨b,rfl,hb2,hbl⟩
 have HB2:=Lib.hid hb2
 clear hb2 HLARGE
 cases b with
 | true =>
  have HAW:=Lib.hid (awakeWl_any (HE.out.up HB2.out))
  go_wp2_with (go_at_call 7;refine HAW.out.mono ?_;rintro e w3 ⟨rfl,hb3⟩;have HB3:=Lib.hid hb3;clear hb3)
  go_ret
  exact⟨rfl,HB2.out.trans (HB3.out.mono HB2.out.size)⟩
 | false =>
  have HSM:=Lib.hid (hbl rfl)
  clear hbl
  go_wp2_with fail
  refine(new_any w2).mono ?_
  rintro e w3 ⟨rfl,hd3,hb3,hs3⟩
  have HB3:=Lib.hid (HB2.out.trans (hb3.mono HB2.out.size))
  obtain⟨d,hde⟩ : ∃d,d=w2.heap.size:=⟨_,rfl⟩
  have HE3:=HE.out.up HB3.out
  have hop:=openWl_any HE3 hd3 Wl.Sane.nil (by omega) (by omega) (fun q hq=>by simp[Dk.all]at hq) 2 1 Hd.zero Wl.Peek.nil ((Wl.Ok.zero 1 0).fews (by omega)) (Sg.file 1 Hd.zero []) (fun W vi va vc hb hr=>headWl_any HE3 (.inl rfl) (Wl.Ok.zero 1 0) (by omega) W vi va vc hb hr) (by rw[askWl_len];omega)
  rw[← hde]
  rw[← hde]at hop
  have HOP:=Lib.hid hop
  have HDE:Hid (w.heap.size≤d):=by rw[hde];exact HB2.out.size
  clear hd3 hb3 hs3 HE3 hop hde
  go_wp2_with fail
  refine HOP.out.mono ?_
  rintro e w4 (⟨hno,_⟩ | ⟨_,gl,m,vi,va,vc,rfl,hm,hl4,hr4,hk4⟩)
  ·exact absurd (show Vs.opens 2 1=0 by decide) hno
  obtain⟨⟨io,ik,ic,rfl⟩,⟨bo,bk,bc,rfl⟩,⟨co,ck,cc,rfl⟩⟩:=hr4.rows.sl
  obtain⟨w5,e5,l5,hb5,hs5⟩:=box_six w4 33 Hd.zero (.slice io ik ic) (.slice bo bk bc) (.slice co ck cc) hr4.rows
  have HB4:Hid (Below w.heap.size w w4):=HB3.out.trans (hk4.below HB3.out.size fun b _ hb _ h=>by have:=HDE.out;omega)
  have HB5:Hid (Below w.heap.size w w5):=HB4.out.trans (hb5.mono HB4.out.size)
  have hl5:LogAt (fun j=>w.heap.size≤j) w5 gl d [] (Wl.begins 1 (Sg.file 1 Hd.zero []) []) 1 1 Hd.zero:=(hl4.keep (Kp.all hb5)).imp fun j hj=>by
   have h1:=HDE.out
   have h2:=HB3.out.size
   rcases hj with hj | hj
   ·omega
   ·omega
  have HRE:=Lib.hid (fun(f:Int) (hf:f=1∨f=2)=>renewSt_any (HE.out.up HB5.out) hl5 Wl.St.start (by omega) f hf Hd.zero (Wl.Ok.zero f 0) Nil Nil Nil (HardQ.zero _ _))
  clear hl4 hr4 hk4 hm l5 hl5 hb5 hs5 HOP HB4
  dsimp only [Hd.cells,Hd.zero,Bl.zero]at e5 ⊢
  cases newer
  all_goals go_wp2_with fail
  obtain⟨f,hf,hfe⟩ : ∃f:Int,(f=1∨f=2)∧f=1:=⟨1, .inl rfl,rfl⟩
  rotate_left
  obtain⟨f,hf,hfe⟩ : ∃f:Int,(f=1∨f=2)∧f=2:=⟨2, .inr rfl,rfl⟩
  rotate_left
  all_goals
   rw[← hfe]
   refine(HRE.out f hf).mono ?_
   rintro e w6 ⟨rfl,hk6,F,B,n,hl6,hst6⟩
   have HL6:Hid (LogAt (fun j=>w.heap.size≤j) w6 gl d F B n f Hd.zero):=hl6.imp fun j hj=>by
    have h1:=HB5.out.size
    rcases hj with hj | hj
    ·exact hj
    ·omega
   have HS6:=Lib.hid hst6
   have HB6:Hid (Below w.heap.size w w6):=HB5.out.trans (hk6.below HB5.out.size fun b _ hb _ h=>by omega)
   have HF:=Lib.hid hf
   obtain⟨nl,hnl⟩ : ∃n,n=l.length:=⟨_,rfl⟩
   have HNL:=Lib.hid hnl
   rw[← hnl]
   have hnl0:nl<9223372036854775808:=by have:=HNL.out;have:=HSM.out.1;omega
   clear hfe hl6 hst6 hk6 hf HRE hnl
   go_wp2
   go_loopw [12] (fun i wr => ∃k:Nat,i = .int .i64 (k:Int)∧k≤nl∧Hid (∃B h ps,LogAt (fun j=>w.heap.size≤j) wr gl d F B n f h∧Wl.St (k+1) F B n f h ps)∧Hid (Below w.heap.size w wr)) (fun i _=>nl - (intOf i).toNat)
   case atStart=>exact⟨0,rfl,by omega,Lib.hid ⟨_,_,_,HL6.out,HS6.out⟩,HB6⟩
   case round =>
    obtain⟨k,rfl,hk,HI,HB⟩:=hrel
    by_cases hlt:k<nl
    ·have d1:decide ((k:Int)<(nl:Int))=true:=decide_eq_true (by omega)
     have hlt' : (k:Int)<(nl:Int):=by omega
     obtain⟨c,hcl⟩ : ∃c,l[k]? = some c:=⟨_,List.getElem?_eq_getElem (by have:=HNL.out;omega)⟩
     obtain⟨g,off,rfl,_,hc⟩:=HPL.out (by have:=HNL.out;omega)
     obtain⟨u,hu,hcell⟩:=hc k c hcl
     obtain⟨uo,uc,rfl⟩:=hu.1.shape
     obtain⟨im,him⟩ : ∃im,im=c.img.length:=⟨_,rfl⟩
     rw[← him]at hu hcell
     have hcw:=hcell wr HB.out
     have m0:wr.cell? ⟨g,off+k*12,none⟩=some (.int .i64 c.kind):=hcw 0 _ rfl
     have m1:wr.cell? ⟨g,off+k*12+1,none⟩=some (.int .i64 c.bal.round):=hcw 1 _ rfl
     have m2:wr.cell? ⟨g,off+k*12+2,none⟩=some (.int .i64 c.bal.node):=hcw 2 _ rfl
     have m3:wr.cell? ⟨g,off+k*12+3,none⟩=some (.int .i64 c.index):=hcw 3 _ rfl
     have m4:wr.cell? ⟨g,off+k*12+4,none⟩=some (.int .i64 c.cmd.kind):=hcw 4 _ rfl
     have m5:wr.cell? ⟨g,off+k*12+5,none⟩=some (.int .i64 c.cmd.client):=hcw 5 _ rfl
     have m6:wr.cell? ⟨g,off+k*12+6,none⟩=some (.int .i64 c.cmd.seq):=hcw 6 _ rfl
     have m7:wr.cell? ⟨g,off+k*12+7,none⟩=some (.string ⟨c.cmd.key.toArray⟩):=hcw 7 _ rfl
     have m8:wr.cell? ⟨g,off+k*12+8,none⟩=some (.string ⟨c.cmd.val.toArray⟩):=hcw 8 _ rfl
     have m9:wr.cell? ⟨g,off+k*12+9,none⟩=some (.string ⟨c.cmd.old.toArray⟩):=hcw 9 _ rfl
     have m10:wr.cell? ⟨g,off+k*12+10,none⟩=some (.int .i64 c.cmd.node):=hcw 10 _ rfl
     have m11:wr.cell? ⟨g,off+k*12+11,none⟩=some (.slice uo im uc):=hcw 11 _ rfl
     obtain⟨B1,h1,ps1,hl1,hst1⟩:=HI.out
     have hmem:c∈l:=List.mem_of_getElem? hcl
     have had:=addSt_any (HE.out.up HB.out) (fun j hj=>Nat.le_trans HE.out.size hj) hl1 hst1 (by have:=HNL.out;have:=HSM.out.1;omega) c (.slice uo im uc) (hu.1.below HB.out) ((ReadsP.inP (q:=fun b=>b<w.heap.size) hu).imp fun b hb=>by omega) (HS.out c hmem).1 (HSM.out.2 c hmem).1 (HSM.out.2 c hmem).2
     have HAD:=Lib.hid had
     clear hc hcl hcell hu hcw him hl1 hst1 had hmem
     go_wp2_with fail
     refine HAD.out.mono ?_
     rintro e w7 ⟨rfl,hk7,B2,h2,ps2,hl7,hst7,_⟩
     have HI7:Hid (∃B h ps,LogAt (fun j=>w.heap.size≤j) w7 gl d F B n f h∧Wl.St (k+1+1) F B n f h ps):=Lib.hid ⟨B2,h2,ps2,hl7.imp fun j hj=>hj.elim id fun h=>by have:=HB.out.size;omega,hst7⟩
     have HB7:Hid (Below w.heap.size w w7):=HB.out.trans (hk7.below HB.out.size fun b _ hb _ h=>by omega)
     clear hk7 hl7 hst7 HAD m0 m1 m2 m3 m4 m5 m6 m7 m8 m9 m10 m11
     go_wp2
     go_roundw
     case rel=>exact⟨k+1,by go_num,by omega,HI7,HB7⟩
     case measure=>simp[intOf];omega
    ·obtain rfl:k=nl:=by omega
     have hnl:k≤40:=by have:=HNL.out;have:=HSM.out.1;omega
     obtain⟨B1,h1,ps1,hl1,hst1⟩:=HI.out
     have hw1:=hst1.wt (by omega)
     have HSY:=Lib.hid (syncWl_any hl1 (hst1.sane.kinds (by omega)) (by omega))
     have HST:=Lib.hid hst1.sync
     have HWF:Hid (Dk.wt (Dk.all F B1)≤3000000):=by
      have:=hst1.sync.wt (by omega)
      show _≤_
      omega
     clear hl1 hst1 hw1 HI HS6 HL6 HPL
     go_wp2_with fail
     refine HSY.out.mono ?_
     rintro e w7 ⟨rfl,hl7,hk7⟩
     have HB7:Hid (Below w.heap.size w w7):=HB.out.trans (hk7.below HB.out.size fun b _ hb _ h=>by omega)
     have HL7:Hid (LogAt (fun j=>w.heap.size≤j) w7 gl d (Dk.all F B1) [] n f h1):=hl7.imp fun j hj=>hj.elim id fun h=>by have:=HB.out.size;omega
     have HFI:=Lib.hid (files_any HL7.out.disk (by have:=HWF.out;omega))
     clear hl7 hk7 HSY
     go_wp2_with fail
     refine HFI.out.mono ?_
     rintro e w8 ⟨v8,rfl,hf8,hb8⟩
     have HB8:Hid (Below w.heap.size w w8):=HB7.out.trans (hb8.mono HB7.out.size)
     obtain⟨S0,xi,xa,xc,ls0⟩:=HL7.out
     have LS:=Lib.hid (ls0.tight.keep (Kp.all hb8)).tight
     have HF8:=Lib.hid hf8
     have hpk:Wl.Peek (Dk.all (Dk.all F B1) []) f h1:=by
      obtain⟨hh,more,gg,ee⟩:=HST.out.log
      rw[← ee]
      exact gg.now.peek
     have hok:=HST.out.ok
     have hhd:=Wl.head_few HST.out.fmt hok (by omega)
     have HOV:=Lib.hid (openWl_any (HE.out.up HB8.out) LS.out.dsk HST.out.sane (by omega) (by omega) (HST.out.files (by omega)) v f h1 hpk (hok.fews (by omega)) (Sg.file f h1 []) (fun W vi va vc hb hr=>headWl_any (HE.out.up HB8.out) HST.out.fmt hok (by omega) W vi va vc hb hr) (by omega))
     obtain⟨fo,fc,rfl,hfc,hfm⟩:=hf8.shape
     clear hb8 hf8 ls0 hpk hok hhd HFI HL7
     go_wp2_with fail
     refine HOV.out.mono ?_
     have HDB:Hid (Dk.wtB ([]++Wl.begins (Wl.next (Dk.all F B1) []) (Sg.file f h1 []) (Dk.all (Dk.all F B1) []))≤1099511627776):=by
      have h9:=(HST.out.sane.begins (Wl.head_few HST.out.fmt HST.out.ok (by omega))).wt
      show _≤_
      omega
     have HRO:=Lib.hid (fun W=>refOpens21_any v f W)
     have HSH:Hid (∀W,Calls Tryz.prog 21 #[.agg #[.int .i64 0, .int .i64 0, .int .i64 0, .slice none 0 0, .slice none 0 0, .slice none 0 0], .agg #[.int .i64 0, .int .i64 0, .int .i64 0, .slice none 0 0, .slice none 0 0, .slice none 0 0]] W (Looks W (.bool true))):=fun W=>by
      have:=sameH_any Hd.zero Hd.zero Nil Nil Nil Nil Nil Nil W (HardR.zero' W) (HardR.zero' W)
      rw[same_zero]at this
      exact this
     have HFS:=Lib.hid (fun(W:World) (hb:Below w8.heap.size w8 W)=>files_any (LS.out.dsk.below hb) (by have:=HWF.out;omega))
     have HBU:=Lib.hid (fun(W:World) (hb:Below w8.heap.size w8 W)=>buffered_any (LS.out.dsk.below hb) (by simp[Dk.wtB]))
     have HFN:Hid ((Dk.all F B1).length≤1000):=by
      have h9:=HST.out.sane.count
      rw[show Dk.all (Dk.all F B1) []=Dk.all F B1 from rfl]at h9
      show _≤_
      omega
     rintro e w9 (⟨hno,rfl,hb9⟩ | ⟨hyes,gm,m2,yi,ya,yc,rfl,hm2,hl9,hr9,hk9⟩)
     ·obtain⟨w10,e10,l10,hb10,hs10⟩:=box_six w9 33 Hd.zero Nil Nil Nil (HardR.zero' w9)
      have HB10:Hid (Below w8.heap.size w8 w10):=hb9.trans (hb10.mono hb9.size)
      have L10:=Lib.hid l10
      have HS9:Hid (w8.heap.size≤w9.heap.size):=hb9.size
      clear hb9 hb10 l10 hs10 HOV
      dsimp only [Hd.cells,Hd.zero,Bl.zero]at e10 ⊢
      have HNO:=Lib.hid hno
      obtain⟨ov,hov⟩ : ∃o,o=Vs.opens v f:=⟨_,rfl⟩
      rw[← hov]at HNO HRO hno ⊢
      clear hov
      go_wp2_with (first
       | (refine store_hard (p:=Bl.zero) (b:=0) (vi:=Nil) (va:=Nil) (vc:=Nil) rfl _ _ rfl rfl L10.out L10.out rfl ?_;intro w11 hx11 hg11;have HB11:Hid (Below w8.heap.size w8 w11):=HB10.out.grown hg11 HB10.out.size (fun j e=>by cases e;exact HS9.out);obtain⟨c0,c1,c2,c3,c4,c5⟩:=hx11.all;clear hx11 hg11)
       | (go_at_call 26;refine(HRO.out _).mono ?_;rintro e w11' ⟨rfl,rfl⟩)
       | (go_at_call 21;refine(HSH.out _).mono ?_;rintro e w12 ⟨rfl,hb12⟩;have HB12:Hid (Below w8.heap.size w8 w12):=HB11.out.trans (hb12.mono HB11.out.size);clear hb12 c0 c1 c2 c3 c4 c5)
       | (go_at_call 25;go_loud (refine(HFS.out _ HB12.out).mono ?_;rintro e w13 ⟨v13,rfl,hf13,hb13⟩;have HB13:Hid (Below w8.heap.size w8 w13):=HB12.out.trans (hb13.mono HB12.out.size);have HF13:=Lib.hid hf13;obtain⟨go,gc,rfl,hgc,hgm⟩:=hf13.shape;clear hf13 hb13))
       | (go_at_call 27;go_loud (refine(same_ref HF13.out (HF8.out.below HB13.out) (by have:=HFN.out;omega)).mono ?_;rintro e w14 ⟨rfl,hb14⟩;have HB14:Hid (Below w8.heap.size w8 w14):=HB13.out.trans (hb14.mono HB13.out.size);clear hb14))
       | (go_at_call 28;go_loud (refine(HBU.out _ HB14.out).mono ?_;rintro e w15 ⟨v15,rfl,ho15,hb15⟩;have HB15:Hid (Below w8.heap.size w8 w15):=HB14.out.trans (hb15.mono HB14.out.size);obtain⟨ho,hcp,rfl,_,_⟩:=ho15.shape;clear hb15 ho15;dsimp only [List.length_nil]))
       | (go_at_call 7;refine(awakeWl_any (HE.out.up (HB8.out.trans (HB15.out.mono HB8.out.size)))).mono ?_;rintro e w16 ⟨rfl,hb16⟩;have HB16:Hid (Below w8.heap.size w8 w16):=HB15.out.trans (hb16.mono HB15.out.size);clear hb16))
      go_ret
      exact⟨by simp,HB8.out.trans (HB16.out.mono HB8.out.size)⟩
     ·obtain⟨⟨yo,yk,yq,rfl⟩,⟨zo,zk,zq,rfl⟩,⟨xo,xk,xq,rfl⟩⟩:=hr9.rows.sl
      have hel:=LS.out.elder (fun k h=>h.2) hk9 hm2 hl9 (fun j h=>h)
      have hmt:=hl9.tight
      have het:=hel.tight
      obtain⟨w10,e10,l10,hb10,hs10⟩:=box_six w9 33 Hd.zero Nil Nil Nil (HardR.zero' w9)
      have L10:=Lib.hid l10
      have HB9:Hid (Below w.heap.size w w9):=HB8.out.trans (hk9.below HB8.out.size fun b _ hb _ h=>by have:=(LS.out.sub b h).1.1.1;omega)
      have H109:=Lib.hid hb10
      have HR9:=Lib.hid hr9.rows
      have HMT:=Lib.hid hmt
      have HFEW:=Lib.hid (HST.out.ok.fews (by omega))
      have HDL:Hid (decide (0<([]++Wl.begins (Wl.next (Dk.all F B1) []) (Sg.file f h1 []) (Dk.all (Dk.all F B1) [])).length)=true):=by
       show _=_
       rw[List.nil_append,Wl.begins_len]
       exact decide_eq_true (by omega)
      have HF9:=Lib.hid (HF8.out.keep (hk9.keep fun b _ _ _ _ h h' => by have h1:=h'.1.2;omega))
      have HET:=Lib.hid het
      clear hk9 hl9 hr9 hel hmt het hb10 l10 hs10 HOV
      dsimp only [Hd.cells,Hd.zero,Bl.zero]at e10 ⊢
      rw[hyes]at HRO
      go_wp2_with (first
       | (refine store_hard (p:=Bl.zero) (b:=0) (vi:=Nil) (va:=Nil) (vc:=Nil) rfl _ _ rfl rfl L10.out (w0:=w9.alloc (.cells (Hd.six h1.prom h1.base (.slice yo yk yq) (.slice zo zk zq) (.slice xo xk xq)) 33)) (T0:=33) ⟨Lies.new w9 33 _,⟨_,_,_,rfl⟩,⟨_,_,_,rfl⟩,⟨_,_,_,rfl⟩⟩ rfl ?_;intro w11 hx11 hg11;have HB11:Hid (Below w9.heap.size w9 w11):=H109.out.grown hg11 H109.out.size (fun j e=>by cases e;exact Nat.le_refl _);have HX11:=Lib.hid hx11;clear hx11 hg11)
       | (go_at_call 26;refine(HRO.out _).mono ?_;rintro e w11' ⟨rfl,rfl⟩))
      have HB11d:Hid (Below w9.heap.size w9 w11.drew):=HB11.out.drew
      have HX11d:Hid (SixAt w11.drew w9.heap.size 33 h1.prom h1.base (.slice yo yk yq) (.slice zo zk zq) (.slice xo xk xq)):=HX11.out.below (drawn w11 1) HX11.out.lies.lt
      refine wp_region_held_drew (S:=fun W=>SixAt W w9.heap.size 33 h1.prom h1.base (.slice yo yk yq) (.slice zo zk zq) (.slice xo xk xq)) (by kernel_rfl) HX11d.out (fun hHeld => ?_)
      refine wpT 0 rfl hHeld ?_
      refine wpT 1 rfl hHeld ?_
      refine wpT 2 rfl hHeld ?_
      refine wpT 3 rfl hHeld ?_ (by intro W hSw;obtain⟨q0,q1,q2,q3,q4,q5⟩:=hSw.all;go_simp;(try with_reducible rfl))
      refine wpT 4 rfl hHeld ?_
      refine wpAnyH_ready (rs := [5]) (by kernel_rfl) (by simp) ?_
      refine AllReadyH.cons rfl (fun K hK => ?_) AllReadyH.nil
      rw[if_pos (by rfl)]
      go_simp
      go_at_call 22
      refine(hardWl_any (HET.out.keep (Kp.all HB11d.out)) HFEW.out).mono ?_
      rintro e w12 ⟨ui,ua,uc,rfl,hr12,hb12⟩
      have HR12:=Lib.hid hr12.rows
      clear hr12
      have HB12:Hid (Below w9.heap.size w9 w12):=HB11d.out.trans (hb12.mono HB11d.out.size)
      have HX12:Hid (SixAt w12 w9.heap.size 33 h1.prom h1.base (.slice yo yk yq) (.slice zo zk zq) (.slice xo xk xq)):=HX11d.out.below hb12 HX11d.out.lies.lt
      clear hb12
      refine hK.out _ _ HX12.out (fun hHeld => ?_)
      clear hK K
      refine wpAnyH_ready (rs := [6]) (by kernel_rfl) (by simp) ?_
      refine AllReadyH.cons rfl (fun K hK => ?_) AllReadyH.nil
      rw[if_pos (by rfl)]
      go_simp
      go_at_call 21
      refine(sameH_any h1 h1 (.slice yo yk yq) (.slice zo zk zq) (.slice xo xk xq) ui ua uc w12 (HR9.out.below HB12.out) HR12.out).mono ?_
      rintro e w13 ⟨rfl,hb13⟩
      have HB13:Hid (Below w9.heap.size w9 w13):=HB12.out.trans (hb13.mono HB12.out.size)
      have HX13:Hid (SixAt w13 w9.heap.size 33 h1.prom h1.base (.slice yo yk yq) (.slice zo zk zq) (.slice xo xk xq)):=HX12.out.below hb13 HX12.out.lies.lt
      clear hb13
      rw[decide_eq_true (rfl:h1=h1)]
      refine hK.out _ _ HX13.out (fun hHeld => ?_)
      clear hK K
      refine wpT 7 rfl hHeld ?_
      refine wpT 8 rfl hHeld ?_
      refine wpT 9 rfl hHeld ?_
      refine wpT 11 rfl hHeld ?_
      refine wpAnyH_ready (rs := [10]) (by kernel_rfl) (by simp) ?_
      refine AllReadyH.cons rfl (fun K hK => ?_) AllReadyH.nil
      rw[if_pos (by rfl)]
      go_simp
      go_at_call 23
      refine(formatWl_any (HMT.out.keep (Kp.all HB13.out))).mono ?_
      rintro e w13' ⟨rfl,rfl⟩
      refine hK.out _ _ HX13.out (fun hHeld => ?_)
      clear hK K
      refine wpT 12 rfl hHeld ?_
      refine wpT 13 rfl hHeld ?_
      refine wpT 14 rfl hHeld ?_
      refine wpT 15 rfl hHeld ?_
      refine wpAnyH_ready (rs := [16]) (by kernel_rfl) (by simp) ?_
      refine AllReadyH.cons rfl (fun K hK => ?_) AllReadyH.nil
      rw[if_pos (by rfl)]
      go_simp
      go_at_call 29
      refine(dirtyWl_any (HMT.out.keep (Kp.all HB13.out)) HDB.out).mono ?_
      rintro e w14 ⟨rfl,hb14⟩
      have HB14:Hid (Below w9.heap.size w9 w14):=HB13.out.trans (hb14.mono HB13.out.size)
      have HX14:Hid (SixAt w14 w9.heap.size 33 h1.prom h1.base (.slice yo yk yq) (.slice zo zk zq) (.slice xo xk xq)):=HX13.out.below hb14 HX13.out.lies.lt
      clear hb14
      rw[HDL.out]
      refine hK.out _ _ HX14.out (fun hHeld => ?_)
      clear hK K
      refine wpT 17 rfl hHeld ?_
      refine wpT 18 rfl hHeld ?_
      refine wpT 19 rfl hHeld ?_
      refine wpT 21 rfl hHeld ?_
      refine wpAnyH_ready (rs := [20]) (by kernel_rfl) (by simp) ?_
      refine AllReadyH.cons rfl (fun K hK => ?_) AllReadyH.nil
      rw[if_pos (by rfl)]
      go_simp
      go_at_call 25
      refine(files_any (HMT.out.keep (Kp.all HB14.out)).disk (by have:=HWF.out;omega)).mono ?_
      rintro e w15 ⟨v15,rfl,hf15,hb15⟩
      have HF15:=Lib.hid hf15
      clear hf15
      have HB15:Hid (Below w9.heap.size w9 w15):=HB14.out.trans (hb15.mono HB14.out.size)
      have HX15:Hid (SixAt w15 w9.heap.size 33 h1.prom h1.base (.slice yo yk yq) (.slice zo zk zq) (.slice xo xk xq)):=HX14.out.below hb15 HX14.out.lies.lt
      clear hb15
      refine hK.out _ _ HX15.out (fun hHeld => ?_)
      clear hK K
      refine wpAnyH_ready (rs := [22]) (by kernel_rfl) (by simp) ?_
      refine AllReadyH.cons rfl (fun K hK => ?_) AllReadyH.nil
      rw[if_pos (by rfl)]
      go_simp
      go_at_call 27
      refine(same_ref HF15.out (HF9.out.below HB15.out) (by have:=HFN.out;omega)).mono ?_
      rintro e w16 ⟨rfl,hb16⟩
      have HB16:Hid (Below w9.heap.size w9 w16):=HB15.out.trans (hb16.mono HB15.out.size)
      have HX16:Hid (SixAt w16 w9.heap.size 33 h1.prom h1.base (.slice yo yk yq) (.slice zo zk zq) (.slice xo xk xq)):=HX15.out.below hb16 HX15.out.lies.lt
      clear hb16
      refine hK.out _ _ HX16.out (fun hHeld => ?_)
      clear hK K
      refine wpT 23 rfl hHeld ?_
      refine wpT 24 rfl hHeld ?_
      refine wpAnyH_ready (rs := [25]) (by kernel_rfl) (by simp) ?_
      refine AllReadyH.cons rfl (fun K hK => ?_) AllReadyH.nil
      rw[if_pos (by rfl)]
      go_simp
      go_at_call 7
      refine(awakeWl_any (HE.out.up (HB9.out.trans (HB16.out.mono HB9.out.size)))).mono ?_
      rintro e w17 ⟨rfl,hb17⟩
      have HB17:Hid (Below w9.heap.size w9 w17):=HB16.out.trans (hb17.mono HB16.out.size)
      have HX17:Hid (SixAt w17 w9.heap.size 33 h1.prom h1.base (.slice yo yk yq) (.slice zo zk zq) (.slice xo xk xq)):=HX16.out.below hb17 HX16.out.lies.lt
      clear hb17
      refine hK.out _ _ HX17.out (fun hHeld => ?_)
      clear hK K
      refine wpT 26 rfl hHeld ?_
      refine wpT 27 rfl hHeld ?_
      refine wpAnyH_done (by kernel_rfl) ?_ _
      clear hHeld
      go_wp2
      go_ret
      exact⟨rfl,HB9.out.trans (HB17.out.mono HB9.out.size)⟩
end Go.Proofs.YtdkdjofnnnljjaaGreatDoor
