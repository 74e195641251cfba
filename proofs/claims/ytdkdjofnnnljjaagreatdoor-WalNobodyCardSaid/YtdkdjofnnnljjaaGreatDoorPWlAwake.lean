/- Several texts of mine in one: WlOk WlAwake. -/
import Derived.Test.YtdkdjofnnnljjaaGreatDoorPGBm
import Derived.Test.YtdkdjofnnnljjaaGreatDoorGHc
import Derived.Test.YtdkdjofnnnljjaaGreatDoorWlOpen
namespace Go.Proofs.YtdkdjofnnnljjaaGreatDoor
open Go.RowKit
section
namespace Wl
structure Ok(f:Int)(i:Nat)(h:Hd.Hard):Prop where
 valid:Hd.Valid h
 few:h.acc.length≤i∧h.chs.length≤i
 img:h.img.length≤300
 acc : ∀e∈h.acc,Vs.has f e.cmd.kind=true∧e.cmd.Fits
 chs : ∀e∈h.chs,Vs.has f e.cmd.kind=true∧e.cmd.Fits
section
variable {f : Int} {i : Nat} {h : Hd.Hard}
theorem Ok.zero(f:Int)(i:Nat):Ok f i Hd.zero:=⟨Hd.valid_zero,⟨Nat.zero_le _,Nat.zero_le _⟩,by simp[Hd.zero],fun e he=>by simp[Hd.zero]at he,fun e he=>by simp[Hd.zero]at he⟩
theorem Ok.up(o:Ok f i h){j:Nat}(hj:i≤j):Ok f j h:=⟨o.valid,⟨Nat.le_trans o.few.1 hj,Nat.le_trans o.few.2 hj⟩,o.img,o.acc,o.chs⟩
theorem Ok.accs(o:Ok f i h) : ∀e∈h.acc,En.ranged e=true∧Cm.check e.cmd=0:=fun e he=>by have:=((En.check_iff _ _).1 o.valid.acc).2 e he;exact⟨this.1,this.2.1⟩
theorem Ok.chss(o:Ok f i h) : ∀e∈h.chs,En.ranged e=true∧Cm.check e.cmd=0:=fun e he=>by have:=((En.check_iff _ _).1 o.valid.chs).2 e he;exact⟨this.1,this.2.1⟩
theorem ranged_num{e:En.Ent}(h:En.ranged e=true):(1≤e.index∧e.index≤4294967296)∧Bl.may e.bal=true:=by
 unfold En.ranged at h
 simp only[Bool.and_eq_true,decide_eq_true_eq]at h
 exact⟨⟨h.1.1,h.1.2⟩,h.2⟩
theorem may_fits{b:Bl.Bal}(h:Bl.may b=true) : -9223372036854775808≤b.round∧b.round≤9223372036854775807 ∧ -9223372036854775808≤b.node∧b.node≤9223372036854775807:=by
 rcases Bl.may_cases _ h with rfl | h
 ·simp[Bl.zero]
 ·omega
theorem zero_fits : Cm.zero.Fits:=by constructor<;>simp[Cm.zero,Cm.bareOf]
theorem older_of{x:Re.Rec}(h:Hd.Fine x)(hh:Re.hc x.kind=true→Vs.has f x.cmd.kind=true):Re.olderIn f x=0:=by
 unfold Re.olderIn
 rw[if_neg (by simpa using Hd.check_fine.2 h)]
 cases hc:Re.hc x.kind with
 | true=>rw[hh hc];rfl
 | false=>rfl
theorem Ok.recs(o:Ok f i h) : ∀x∈Hd.recs h,Re.olderIn f x=0∧x.Fits∧x.img.length≤300:=by
 intro x hx
 unfold Hd.recs at hx
 rcases List.mem_append.1 hx with hx | hx
 ·rcases List.mem_append.1 hx with hx | hx
  ·rcases List.mem_append.1 hx with hx | hx
   ·split at hx
    ·rename_i hb
     obtain rfl:x=Hd.recI h:=by simpa using hx
     refine⟨older_of (Hd.fine_img o.valid hb) (fun hc=>by cases hc),⟨fun z hz => ?_,zero_fits⟩,o.img⟩
     have h1:=o.valid.base
     simp[Re.nums,Hd.recI,Bl.zero]at hz
     omega
    ·simp at hx
   ·split at hx
    ·rename_i hp
     obtain rfl:x=Hd.recP h:=by simpa using hx
     refine⟨older_of (Hd.fine_prom o.valid hp) (fun hc=>by cases hc),⟨fun z hz => ?_,zero_fits⟩,by simp[Hd.recP]⟩
     have:=may_fits o.valid.prom
     simp[Re.nums,Hd.recP]at hz
     omega
    ·simp at hx
  ·obtain⟨e,he,rfl⟩:=List.mem_map.1 hx
   have h1:=o.accs e he
   have h2:=o.valid.accs e he
   have h3:=ranged_num h1.1
   have h4:=may_fits h3.2
   refine⟨older_of (Hd.fine_acc h1.1 h1.2 h2.2.1) fun _=>(o.acc e he).1,⟨fun z hz => ?_,(o.acc e he).2⟩,by simp[Hd.recA]⟩
   simp[Re.nums,Hd.recA]at hz
   omega
 ·obtain⟨e,he,rfl⟩:=List.mem_map.1 hx
  have h1:=o.chss e he
  have h3:=ranged_num h1.1
  refine⟨older_of (Hd.fine_chs h1.1 h1.2) fun _=>(o.chs e he).1,⟨fun z hz => ?_,(o.chs e he).2⟩,by simp[Hd.recC]⟩
  simp[Re.nums,Hd.recC,Bl.zero]at hz
  omega
theorem Ok.len(o:Ok f i h):(Hd.recs h).length≤2+2*i:=by
 have h1:=o.few
 unfold Hd.recs
 simp only[List.length_append,List.length_map]
 have h2:(if 0<h.base then [Hd.recI h]else []).length≤1:=by split<;>simp
 have h3:(if h.prom≠Bl.zero then [Hd.recP h]else []).length≤1:=by split<;>simp
 omega
theorem Ok.two(o:Ok f i h):Ok 2 i h:=by
 have key : ∀x:Re.Rec,Re.olderIn f x=0→Re.hc x.kind=true→Vs.has 2 x.cmd.kind=true:=fun x hx hc=>by
  have h1:=Rt.older_two x
  rw[Re.olderIn_check hx]at h1
  unfold Re.olderIn at h1
  rw[if_neg (by rw[Re.olderIn_check hx];simp),hc]at h1
  cases hv:Vs.has 2 x.cmd.kind with
  | true=>rfl
  | false=>rw[hv]at h1;simp at h1
 exact⟨o.valid,o.few,o.img,fun e he=>⟨key (Hd.recA e) (o.recs _ (by unfold Hd.recs;simp;exact .inr (.inr (.inl ⟨e,he,rfl⟩)))).1 rfl,(o.acc e he).2⟩,fun e he=>⟨key (Hd.recC e) (o.recs _ (by unfold Hd.recs;simp;exact .inr (.inr (.inr ⟨e,he,rfl⟩)))).1 rfl,(o.chs e he).2⟩⟩
theorem two_mem{b:Int}{s:List En.Ent × List En.Ent}{x:Re.Rec}(h1:En.Asc s.1)(h2:En.Asc s.2):(∀e∈(Hd.two b s x).1,e∈s.1∨(e=Hd.ent x∧Re.hc x.kind=true)) ∧ ∀e∈(Hd.two b s x).2,e∈s.2∨(e=Hd.ent x∧Re.hc x.kind=true):=by
 by_cases hn:Re.check x≠0∨x.index≤b∨Re.hc x.kind=false
 ·rw[Hd.two_out s hn]
  exact⟨fun e he => .inl he,fun e he => .inl he⟩
 ·have hk:Re.hc x.kind=true:=by
   cases h:Re.hc x.kind with
   | true=>rfl
   | false=>exact absurd (.inr (.inr h)) hn
  unfold Hd.two
  rw[if_neg hn]
  split
  ·exact⟨fun e he=>by
    rcases(En.mem_put h1).1 he with rfl | he
    ·exact .inr ⟨rfl,hk⟩
    ·exact .inl he.1,fun e he => .inl he⟩
  ·split
   ·exact⟨fun e he => .inl he,fun e he => .inl he⟩
   ·exact⟨fun e he => .inl he,fun e he=>by
     rcases(En.mem_put h2).1 he with rfl | he
     ·exact .inr ⟨rfl,hk⟩
     ·exact .inl he.1⟩
theorem Ok.apply(o:Ok f i h){x:Re.Rec}(hx:Re.olderIn f x=0)(hf:x.Fits)(hi:x.img.length≤300):Ok f (i+1) (Hd.apply h x):=by
 have hck:=Re.olderIn_check hx
 have hl:=Hd.apply_len h x
 have hv:Re.hc x.kind=true→Vs.has f x.cmd.kind=true:=fun hc=>by
  unfold Re.olderIn at hx
  rw[if_neg (by rw[hck];simp),hc]at hx
  cases hv:Vs.has f x.cmd.kind with
  | true=>rfl
  | false=>rw[hv]at hx;simp at hx
 refine⟨Hd.valid_apply o.valid x,⟨Nat.le_trans hl.1 (by have:=o.few.1;omega),Nat.le_trans hl.2 (by have:=o.few.2;omega)⟩, ?_, ?_, ?_⟩
 ·unfold Hd.apply
  rw[if_neg (by rw[hck];simp)]
  split
  ·exact hi
  ·exact o.img
 ·intro e he
  unfold Hd.apply at he
  rw[if_neg (by rw[hck];simp)]at he
  split at he
  ·exact o.acc e (En.mem_cut.1 he).1
  ·rcases(two_mem (s:=(h.acc,h.chs)) o.valid.ascA o.valid.ascC).1 e he with he | ⟨rfl,hc⟩
   ·exact o.acc e he
   ·exact⟨hv hc,hf.c⟩
 ·intro e he
  unfold Hd.apply at he
  rw[if_neg (by rw[hck];simp)]at he
  split at he
  ·exact o.chs e (En.mem_cut.1 he).1
  ·rcases(two_mem (s:=(h.acc,h.chs)) o.valid.ascA o.valid.ascC).2 e he with he | ⟨rfl,hc⟩
   ·exact o.chs e he
   ·exact⟨hv hc,hf.c⟩
end
theorem frame_few{f:Int}{x:Re.Rec}(h:Re.olderIn f x=0)(hx:x.Fits)(hi:x.img.length≤300):(Frm.frame (Rt.bytesIn f x)).length≤620:=by
 have h1:=(Sg.body_len h hx).2.2
 have h2:=Frm.frame_len (Rt.bytesIn f x)
 have h3:=enc_nine (n:=(Rt.bytesIn f x).length) (by omega)
 omega
theorem flat_few{f:Int}(y:List UInt8) : ∀l:List Re.Rec,(∀x∈l,(Frm.frame (Rt.bytesIn f x)).length≤620)→(Frm.flat (y :: l.map (Rt.bytesIn f))).length≤(Frm.frame y).length+620*l.length:=by
 intro l
 induction l using Hd.snoc_ind with
 | h0=>intro _;simp[Frm.flat]
 | h1 l x ih =>
  intro h
  have h1:=ih fun c hc=>h c (by simp[hc])
  have h2:=h x (by simp)
  have e:Frm.flat (y :: (l ++ [x]).map (Rt.bytesIn f))=Frm.flat (y :: l.map (Rt.bytesIn f))++Frm.frame (Rt.bytesIn f x):=by simp[Frm.flat]
  rw[e,List.length_append,List.length_append]
  simp
  omega
theorem head_few{f:Int}(hf:f=1∨f=2){i:Nat}{h:Hd.Hard}(o:Ok f i h)(hi:i≤41):(Sg.file f h []).length≤53000:=by
 have h0:=o.len
 have h1:=flat_few (f:=f) (Sg.first f (Hd.recs h).length) (Hd.recs h) fun x hx=>by
  obtain⟨a,b,c⟩:=o.recs x hx
  exact frame_few a b c
 have h2:=Frm.frame_len (Sg.first f (Hd.recs h).length)
 have h3:=enc_nine (n:=f.toNat) (by omega)
 have h4:=enc_nine (n:=(Hd.recs h).length) (by omega)
 have h5:(Sg.first f (Hd.recs h).length).length=(enc f.toNat).length+(enc (Hd.recs h).length).length:=by simp[Sg.first]
 have h6:=enc_nine (n:=(Sg.first f (Hd.recs h).length).length) (by omega)
 show(Frm.flat _).length≤_
 unfold Sg.bodies
 rw[List.append_nil]
 omega
structure St(i:Nat)(F:Dk.Files)(B:List Dk.Op)(n f:Int)(k:Hd.Hard)(ps:List (Hd.Hard × Int)):Prop where
 sane:Sane F B (i+1) ((i+1)*54000)
 log : ∃h more,Log F B n f h more (fun f h=>(h,f)∈ps)∧Hd.of (Hd.recs h++more)=k
 fmt:f=1∨f=2
 oks : ∀p∈ps,Ok p.2 i p.1
 last : ∃qs,ps=qs ++ [(k,f)]
 num:1≤n∧n≤(i:Int)+1
section
variable {i : Nat} {F : Dk.Files} {B : List Dk.Op} {n f : Int} {k : Hd.Hard} {ps : List (Hd.Hard × Int)}
theorem St.ok(s:St i F B n f k ps):Ok f i k:=by
 obtain⟨qs,e⟩:=s.last
 exact s.oks (k,f) (by rw[e];simp)
theorem St.files(s:St i F B n f k ps)(hi:i≤41) : ∀q∈Dk.all F B,q.2.length≤4000000:=fun q hq=>by
 have h1:=Dk.wt_mem hq
 have h2:=Dk.wt_all B F
 have h3:=s.sane.wt
 have:(i+1)*54000≤42*54000:=Nat.mul_le_mul_right _ (by omega)
 omega
theorem St.wt(s:St i F B n f k ps)(hi:i≤41):Dk.wt F+Dk.wtB B≤3000000:=by
 have h3:=s.sane.wt
 have:(i+1)*54000≤42*54000:=Nat.mul_le_mul_right _ (by omega)
 omega
theorem St.add(s:St i F B n f k ps){x:Re.Rec}(hx:Re.olderIn f x=0)(hf:x.Fits)(hi:x.img.length≤300):St (i+1) F (B ++ [⟨2,n,Frm.frame (Rt.bytesIn f x)⟩]) n f (Hd.apply k x) (ps ++ [(Hd.apply k x,f)]):=by
 obtain⟨h,more,g,e⟩:=s.log
 have e' : Hd.of (Hd.recs h++(more ++ [x]))=Hd.apply k x:=by rw[← List.append_assoc,Hd.of_snoc,e]
 refine⟨((s.sane.snoc (x:=⟨2,n,Frm.frame (Rt.bytesIn f x)⟩) ⟨.inr (.inl rfl),s.num.1,by have:=s.num.2;push_cast;exact this⟩ (frame_few hx hf hi)).more (by omega) (by omega)),⟨h,more ++ [x],g.add ⟨hx,hf⟩ (fun f h hp=>by simp[hp]) (by rw[e'];simp),e'⟩,s.fmt,fun p hp => ?_,⟨ps,rfl⟩,⟨s.num.1,by have:=s.num.2;omega⟩⟩
 rcases List.mem_append.1 hp with hp | hp
 ·exact(s.oks p hp).up (by omega)
 ·obtain rfl:p=(Hd.apply k x,f):=by simpa using hp
  exact s.ok.apply hx hf hi
theorem St.start : St 0 [] (begins 1 (Sg.file 1 Hd.zero []) []) 1 1 Hd.zero [(Hd.zero,1)]:=by
 have o:=Ok.zero 1 0
 have h0:=head_few (.inl rfl) o (by omega)
 have hrec:=o.recs
 have hl:=o.len
 have g' := Log.begun (F := []) (B := []) (P:=fun a b=>a=1∧b=Hd.zero) (P' := fun f h=>(h,f) ∈ [(Hd.zero,(1:Int))]) (Fine.synced Peek.nil ⟨rfl,rfl⟩) (f0:=1) (h0:=Hd.zero) Peek.nil ⟨rfl,rfl⟩ (n:=1) (fun q hq=>by simp[Dk.all]at hq) (.inl rfl) o.valid (fun x hx=>⟨(hrec x hx).1,(hrec x hx).2.1⟩) (by omega) (fun f h hp=>by simp[hp.1,hp.2]) (by simp) [] (fun m hm=>by simp at hm)
 have hsb:=(Sane.nil).begins h0
 refine⟨hsb.more (by omega) (by omega),⟨Hd.zero, [],g', by rw[List.append_nil,Hd.of_recs Hd.valid_zero]⟩, .inl rfl,fun p hp => ?_,⟨[],rfl⟩,⟨by omega,by omega⟩⟩
 obtain rfl:p=(Hd.zero,1):=by simpa using hp
 exact o
end
end Wl
end
end Go.Proofs.YtdkdjofnnnljjaaGreatDoor

namespace Go.Proofs.YtdkdjofnnnljjaaGreatDoor
open Go.RowKit
set_option maxHeartbeats 3200000
set_option maxRecDepth 8000
theorem headWl_any{n0:Nat}{w:World}(E:Env n0 w){f:Int}(hf:f=1∨f=2){i:Nat}{k:Hd.Hard}(o:Wl.Ok f i k)(hi:i≤41)(W:World)(vi va vc:Value)(hb:Below w.heap.size w W)(hr:HardR W k vi va vc) :
 Calls Tryz.prog 65 #[.int .i64 f, .agg (Hd.cells k vi va vc)] W (SgMade W (Sg.file f k [],0)):=by
 have hrec:=o.recs
 have hl:=o.len
 have h:=headSg_any true f k vi va vc W (E.up hb).crc (E.up hb).words hr (by simp[o.valid]) (Hd.Valid.few o.valid (by have:=o.few.1;omega) (by have:=o.few.2;omega)) (by omega) (fun e he=>Short.up (Cm.check_short (o.accs e he).2) (by omega)) (fun e he=>Short.up (Cm.check_short (o.chss e he).2) (by omega))
  (fun x hx=>by obtain⟨h1,h2,h3⟩:=hrec x hx;exact⟨h2,(Sg.body_len h1 h2).1.2.2.1,by omega⟩)
 have e:Sg.head true f k=(Sg.file f k [],0):=by
  unfold Sg.head
  rw[Vs.opens_two,if_pos hf,if_neg (by simp),if_neg (by simp),Sg.hasAll_none fun x hx=>(hrec x hx).1,if_neg (by simp)]
 rw[e]at h
 exact h
theorem Wl.Ok.fews{f:Int}{i:Nat}{k:Hd.Hard}(o:Wl.Ok f i k)(hi:i≤41):k.Few:=Hd.Valid.few o.valid (by have:=o.few.1;omega) (by have:=o.few.2;omega)
theorem openWl_nil{w:World}{n0:Nat}(E:Env n0 w)(v:Int):Calls Tryz.prog 9 #[.pointer none, .int .i64 v] w (Looks w (.tuple #[.pointer none, .agg (Hd.cells Hd.zero Nil Nil Nil), .int .i64 10])):=by
 have hmf : ∀(fn:Fn) (first cap:Array Value) (w:World),(Instr.makeFunc fn first cap).run Tryz.prog w = .ok (.func fn first cap) w:=fun _ _ _ _=>rfl
 obtain⟨w1,e1,l2,hb1,hs1⟩:=box_cells w 25 #[.pointer none]
 obtain⟨w2,e2,l3,hb2,hs2⟩:=box_cells w1 3 #[.int .i64 v]
 obtain⟨w3,e3,l5,hb3,hs3⟩:=box_zero w2 33
 obtain⟨b2,hb2e⟩ : ∃b,b=w.heap.size:=⟨_,rfl⟩
 obtain⟨b3,hb3e⟩ : ∃b,b=w1.heap.size:=⟨_,rfl⟩
 obtain⟨b5,hb5e⟩ : ∃b,b=w2.heap.size:=⟨_,rfl⟩
 have HB3:Hid (Below w.heap.size w w3):=(hb1.trans (hb2.mono hb1.size)).trans (hb3.mono (by omega))
 have L2:Hid (Lies w3 b2 25 #[.pointer none]):=by rw[hb2e];exact(l2.below hb2 (by omega)).below hb3 (by omega)
 have L5:Hid (SixAt w3 b5 33 Bl.zero 0 Nil Nil Nil):=by rw[hb5e];exact l5
 have HNE:Hid (w.heap.size≤b5∧b5<w3.heap.size):=⟨by omega,by omega⟩
 have HPK:=Lib.hid (peekWl_nil (E.up HB3.out))
 clear l2 l3 l5 hb1 hb2 hb3 hs1 hs2 hs3 E
 have c20:w3.cell? ⟨w.heap.size,0,none⟩=some (.pointer none):=by rw[← hb2e];exact L2.out.cell 0 _ rfl
 go_enter Tryz.func9,Tryz.ntmps9
 go_wp2_with fail
 rw[← hb2e, ← hb3e, ← hb5e]
 refine HPK.out.mono ?_
 rintro e w4 ⟨f', k', vi,va,vc,rfl,hpk,hr4,hb4⟩
 obtain⟨⟨io,ik,ic,rfl⟩,⟨ao,ak,ac,rfl⟩,⟨co,ck,cc,rfl⟩⟩:=hr4.rows.sl
 have HB4:=Lib.hid hb4
 have HR4:=Lib.hid hr4.rows
 clear hpk hr4 hb4 c20 e1 e2 e3 hb2e hb3e hb5e HPK
 obtain⟨w5,e5,l7,hb5,hs5⟩:=box_cells w4 3 #[.int .i64 f']
 obtain⟨w6,e6,l8,hb6,hs6⟩:=box_six w5 33 k' (.slice io ik ic) (.slice ao ak ac) (.slice co ck cc) (HR4.out.below hb5)
 obtain⟨w7,e7,lg,hb7,hs7⟩:=box_cells w6 78 #[.pointer none, .int .i64 0, .int .i64 0, .int .i64 0, .int .i64 0, .int .i64 0, .slice none 0 0, .slice none 0 0, .slice none 0 0]
 obtain⟨w8,e8,l9,hb8,hs8⟩:=box_cells w7 27 #[Wl.ptr w6.heap.size]
 obtain⟨w9,e9,lk,hb9,hs9⟩:=box_cells w8 34 #[.int .i64 0]
 dsimp only [Hd.cells]at e6
 have c2:w4.cell? ⟨b2,0,none⟩=some (.pointer none):=(L2.out.below HB4.out L2.out.lt).cell 0 _ rfl
 have c26:w6.cell? ⟨b2,0,none⟩=some (.pointer none):=((((L2.out.below HB4.out L2.out.lt).below hb5 (Nat.lt_of_lt_of_le L2.out.lt HB4.out.size))).below hb6 (Nat.lt_of_lt_of_le L2.out.lt (Nat.le_trans HB4.out.size hb5.size))).cell 0 _ rfl
 have c27:(w5.alloc (.cells #[.int .i64 k'.prom.round, .int .i64 k'.prom.node, .int .i64 k'.base, .slice io ik ic, .slice ao ak ac, .slice co ck cc] 33)).cell? ⟨b2,0,none⟩=some (.pointer none):=by rw[e6];exact c26
 dsimp only [Hd.cells]
 go_wp2_with fail
 have e8' : w7.alloc (.cells #[.pointer (some ⟨w4.heap.size+1+1,0,none⟩)] 27)=w8:=by rw[show w4.heap.size+1+1=w6.heap.size by omega];exact e8
 rw[e8']
 refine(stepsWl_any w8).mono ?_
 rintro e w9' ⟨rfl,rfl⟩
 rw[e9]
 obtain⟨k,hke⟩ : ∃k,k=w8.heap.size:=⟨_,rfl⟩
 rw[← hke]
 have HB9:Hid (Below w4.heap.size w4 w9):=(((hb5.trans (hb6.mono (by omega))).trans (hb7.mono (by omega))).trans (hb8.mono (by omega))).trans (hb9.mono (by omega))
 have P2:Hid (Lies w9 b2 25 #[.pointer none]):=(L2.out.below HB4.out L2.out.lt).below HB9.out (Nat.lt_of_lt_of_le L2.out.lt HB4.out.size)
 have P5:Hid (SixAt w9 b5 33 Bl.zero 0 Nil Nil Nil):=(L5.out.below HB4.out L5.out.lies.lt).below HB9.out (Nat.lt_of_lt_of_le L5.out.lies.lt HB4.out.size)
 have PK:Hid (Lies w9 k 34 #[.int .i64 0]):=by rw[hke];exact lk
 have hs43:=HB4.out.size
 have hs3:=HB3.out.size
 have hne:=HNE.out
 have HNE2:Hid (w4.heap.size≤k∧b5≠k∧w.heap.size≤k):=⟨by omega,by omega,by omega⟩
 clear e5 e6 e7 e8 e8' e9 l7 l8 lg l9 lk hb5 hb6 hb7 hb8 hb9 hs5 hs6 hs7 hs8 hs9 hke c2 c26 c27 hs43 hs3 hne L2 L5
 go_wp2_with fail
 refine takeWl_go _ _ k w9 (fun W=>enters_of Tryz.func31 (by kernel_rfl) rfl _ W) PK.out ?_
 refine(open1_no b2 w9 P2.out).mono ?_
 rintro e w9' ⟨rfl,rfl⟩
 refine⟨10,rfl,PK.out,fun w10 lk10 hg10 => ?_⟩
 have Q5:Hid (SixAt w10 b5 33 Bl.zero 0 Nil Nil Nil):=P5.out.kept hg10 HNE2.out.2.1
 have HBW:Hid (Below w.heap.size w w10):=((HB3.out.trans (HB4.out.mono HB3.out.size)).trans (HB9.out.mono (Nat.le_trans HB3.out.size HB4.out.size))).grown hg10 (Nat.le_trans (Nat.le_trans HB3.out.size HB4.out.size) HB9.out.size) (by rintro j hj;cases hj;exact HNE2.out.2.2)
 have LK10:=Lib.hid lk10
 clear lk10 hg10 P2 PK P5
 dsimp only
 go_wp2_with fail
 refine takeWl_stop _ k w10 10 (by decide) LK10.out ?_
 dsimp only
 go_wp2_with fail
 refine takeWl_stop _ k w10 10 (by decide) LK10.out ?_
 dsimp only
 have HX:Hid (SixAt (w10.alloc (.cells (Hd.cells Hd.zero Nil Nil Nil) 33)) w10.heap.size 33 Hd.zero.prom Hd.zero.base Nil Nil Nil):=⟨Lies.new _ _ _,⟨_,_,_,rfl⟩,⟨_,_,_,rfl⟩,⟨_,_,_,rfl⟩⟩
 go_wp2_with (refine store_hard rfl _ _ rfl rfl Q5.out HX.out rfl ?_;intro w12 hx12 hg12;have HX12:=Lib.hid hx12;have HG12:=Lib.hid hg12;clear hx12 hg12)
 refine ret_open rfl rfl HX12.out rfl ?_
 exact⟨rfl,HBW.out.grown HG12.out HBW.out.size (by rintro j hj;cases hj;exact HNE.out.1)⟩
theorem askWl_len : (Sg.file 1 Hd.zero []).length=7:=by
 unfold Sg.file Sg.bodies
 rw[show Hd.recs Hd.zero = []from rfl]
 have h1:Sg.first 1 0 = [1,0]:=by decide+kernel
 have h2:=Frm.frame_len [1,0]
 have h3:(enc ([1,0]:List UInt8).length).length=1:=by decide+kernel
 have e:Frm.flat [[1,0]]=Frm.frame [1,0]:=by simp[Frm.flat]
 have h4:([1,0]:List UInt8).length=2:=rfl
 show(Frm.flat [Sg.first 1 0]).length=7
 rw[h1,e]
 omega
theorem askWl_all(head:List UInt8):Dk.all [] ([]++Wl.begins (Wl.next [] []) head (Dk.all [] [])) = [(1,head)]:=by
 show Dk.done (Dk.done [] ⟨1,1, []⟩) ⟨2,1,head⟩=_
 rw[Wl.done_make (V := []) (fun q hq=>by simp at hq)]
 show Dk.done ([] ++ [(1, [])]) ⟨2,1,head⟩=_
 rw[Wl.done_add (V := []) (fun q hq=>by simp at hq)]
 rfl
theorem awakeWl_any{w:World}{n0:Nat}(E:Env n0 w):Calls Tryz.prog 7 #[] w (Looks w (.bool true)):=by
 have HN:=Lib.hid (new_any w);have HE:=Lib.hid E
 clear E
 go_enter Tryz.func7,Tryz.ntmps7
 go_wp2_with fail
 refine HN.out.mono ?_
 rintro e w1 ⟨rfl,hd1,hb1,hs1⟩
 obtain⟨d,hde⟩ : ∃d,d=w.heap.size:=⟨_,rfl⟩
 have HE1:=HE.out.up hb1
 have hop:=openWl_any HE1 hd1 Wl.Sane.nil (by omega) (by omega) (fun q hq=>by simp[Dk.all]at hq) 1 1 Hd.zero Wl.Peek.nil ((Wl.Ok.zero 1 0).fews (by omega)) (Sg.file 1 Hd.zero []) (fun W vi va vc hb hr=>headWl_any HE1 (.inl rfl) (Wl.Ok.zero 1 0) (by omega) W vi va vc hb hr) (by rw[askWl_len];omega)
 have HB1:=Lib.hid hb1
 rw[← hde]
 rw[← hde]at hop
 have HOP:=Lib.hid hop
 have HDE:=Lib.hid hde
 have hwd:w.heap.size≤d:=Nat.le_of_eq hde.symm
 have HWD:=Lib.hid hwd
 clear hd1 hb1 hs1 HE1 hop hde hwd HN
 go_wp2_with fail
 refine HOP.out.mono ?_
 rintro e w2 (⟨hno,_⟩ | ⟨_,gl,m,vi,va,vc,rfl,hm,hl2,hr2,hk2⟩)
 ·exact absurd (show Vs.opens 1 1=0 by decide) hno
 obtain⟨⟨io,ik,ic,rfl⟩,⟨ao,ak,ac,rfl⟩,⟨co,ck,cc,rfl⟩⟩:=hr2.rows.sl
 have hb2:Below w.heap.size w w2:=HB1.out.trans (hk2.below HB1.out.size fun b _ hb _ h=>by have:=HWD.out;omega)
 have s:=Wl.St.start
 have hw:=s.wt (by omega)
 have hal:=askWl_all (Sg.file 1 Hd.zero [])
 obtain⟨w3,e3,l3,hb3,hs3⟩:=box_six w2 33 Hd.zero (.slice io ik ic) (.slice ao ak ac) (.slice co ck cc) hr2.rows
 have hl3:=hl2.keep (Kp.all hb3)
 have hsy:=syncWl_any hl3 (s.sane.kinds (by omega)) (by have:=hw;show Dk.wt []+2*Dk.wtB (Wl.begins 1 (Sg.file 1 Hd.zero []) [])≤_;omega)
 rw[hal]at hsy
 have HSY:=Lib.hid hsy
 have HB3:Hid (Below w.heap.size w w3):=hb2.trans (hb3.mono hb2.size)
 have HNG:Hid (w.heap.size≤m):=Nat.le_trans HB1.out.size hm
 clear hm hl2 hr2 hk2 hb2 s hw hal hl3 hsy l3 hb3 hs3 HOP
 dsimp only [Hd.cells,Hd.zero,Bl.zero]at e3 ⊢
 go_wp2_with fail
 refine HSY.out.mono ?_
 rintro e w4 ⟨rfl,hl4,hk4⟩
 have HL4:=Lib.hid hl4
 have HB4:Hid (Below w.heap.size w w4):=HB3.out.trans (hk4.below HB3.out.size fun b _ hb _ h=>by
  have h1:=HNG.out
  have h2:=HWD.out
  have h3:=HDE.out
  rcases h with h | h
  ·rw[h]at hb;omega
  ·omega)
 have HFI:=Lib.hid (files_any hl4.disk (by rw[Dk.wt_cons,askWl_len];simp[Dk.wt]))
 clear hl4 hk4 e3 HSY
 go_wp2_with fail
 refine HFI.out.mono ?_
 rintro e w5 ⟨v5,rfl,hf5,hb5⟩
 have HB5:Hid (Below w.heap.size w w5):=HB4.out.trans (hb5.mono HB4.out.size)
 have HL5:=Lib.hid (HL4.out.keep (Kp.all hb5))
 obtain⟨fo,fc,rfl,hc5,hm5⟩:=hf5.shape
 obtain⟨fg,off,rfl,_,hc⟩:=ListP.places hf5 (fun a u=>⟨_,rfl⟩) (by simp)
 obtain⟨u,hu,hcell⟩:=hc 0 _ rfl
 obtain⟨uo,uc,rfl⟩:=hu.1.shape
 have HCW:=Lib.hid hcell
 have m0:w5.cell? ⟨fg,off,none⟩=some (.int .i64 1):=by have:=hcell w5 (Below.refl _ _) 0 (.int .i64 1) rfl;simpa using this
 have m1:w5.cell? ⟨fg,off+1,none⟩=some (.slice uo 7 uc):=by have:=hcell w5 (Below.refl _ _) 1 (.slice uo (Sg.file 1 Hd.zero []).length uc) rfl;rw[askWl_len]at this;simpa using this
 clear hf5 hb5 hc hu hcell HFI
 have HFO:=Lib.hid (formatWl_any HL5.out)
 have HDI:=Lib.hid (dirtyWl_any HL5.out (by simp[Dk.wtB]))
 go_wp2_with (first
  | (go_at_call 23;refine HFO.out.mono ?_;rintro e w6 ⟨rfl,rfl⟩)
  | (go_at_call 29;refine HDI.out.mono ?_;rintro e w7 ⟨rfl,hb7⟩;have HB7:=Lib.hid hb7;clear hb7))
 go_ret
 exact⟨rfl,HB5.out.trans (HB7.out.mono HB5.out.size)⟩
end Go.Proofs.YtdkdjofnnnljjaaGreatDoor
