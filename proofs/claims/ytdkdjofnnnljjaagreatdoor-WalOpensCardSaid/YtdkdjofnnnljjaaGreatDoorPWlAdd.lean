/- Several texts of mine in one: WlBegin WlBeg WlAdd. -/
import Derived.Test.YtdkdjofnnnljjaaGreatDoorPSgMem
import Derived.Test.YtdkdjofnnnljjaaGreatDoorPSgHead
import Derived.Test.YtdkdjofnnnljjaaGreatDoorGHc
namespace Go.Proofs.YtdkdjofnnnljjaaGreatDoor
open Go.RowKit
set_option maxHeartbeats 3200000
set_option maxRecDepth 8000
def Filled(b:Nat)(r:List UInt8 × Int)(w:World)(e:Ending)(w' : World):Prop :=
 e = .returned (.int .i64 r.2) ∧ ∃o c,Lies w' b 30 #[.slice o r.1.length c]∧Reads w' (.slice o r.1.length c) r.1∧InP (fun k=>w.heap.size≤k) (.slice o r.1.length c)∧Kp (fun j _=>j≠b) w w'
theorem begin1_any(b4 b5 b7:Nat)(f:Int)(h:Hd.Hard)(vi va vc:Value)(r:List UInt8 × Int)(w:World)(l4:Lies w b4 3 #[.int .i64 f])(l5:SixAt w b5 33 h.prom h.base vi va vc)(l7:Lies w b7 30 #[Nil])
 (hc:Calls Tryz.prog 65 #[.int .i64 f, .agg (Hd.cells h vi va vc)] w (SgMade w r)) :
 Calls Tryz.prog 64 #[Wl.ptr b4,Wl.ptr b5,Wl.ptr b7] w (Filled b7 r w):=by
 have c4:w.cell? ⟨b4,0,none⟩=some (.int .i64 f):=l4.cell 0 _ rfl
 have HC:=Lib.hid hc;have L5:=Lib.hid l5;have L7:=Lib.hid l7
 clear hc l5 l7 l4
 go_enter Tryz.func64,Tryz.ntmps64
 go_wp2_with (first
  | (refine load_hard rfl _ rfl rfl L5.out ?_)
  | (go_at_call 65;refine HC.out.mono ?_;rintro e w1 ⟨u,rfl,ho,hb⟩;obtain⟨o,c,rfl⟩:=ho.reads.shape;have HO:=Lib.hid ho;have HB:=Lib.hid hb;have hl1:=L7.out.below hb L7.out.lt;have c7:w1.cell? ⟨b7,0,none⟩=some Nil:=hl1.cell 0 _ rfl;have f7:=hl1.free 0;have HL1:=Lib.hid hl1;clear ho hb hl1))
 go_ret
 refine⟨rfl,o,c,HL1.out.set 0 _,HO.out.reads.kept_of HL1.out (fun j x => ?_) (grown_set _ _ _ _),InP.of_row HO.out,(Kp.all HB.out).trans (Kp.of_grown (grown_set w1 b7 0 _) fun b _ e _ h=>by simp only[Option.some.injEq]at e;exact h e.symm)⟩
 match j with
 | 0=>simp
 | j+1=>simp
theorem LogS.set{T S:Nat→Prop}{w w4 w' : World}{g d:Nat}{F:Dk.Files}{B:List Dk.Op}{n f f' : Int}{h k:Hd.Hard}{vi va vc ui ua uc:Value}(l:LogS T S w g d F B n f h vi va vc)(hS : ∀k,S k→k<w.heap.size)(hb:Below w.heap.size w w4)
 (hr:HardQ (fun b=>w.heap.size≤b) w4 k ui ua uc) (hg:w4.grownBy w' (some g)) (hl:Lies w' g 78 (Wl.cells (Wl.ptr d) n f' k ui ua uc)):LogS (fun j=>T j∨w.heap.size≤j) S w' g d F B n f' k ui ua uc:=by
 have hlt:=l.lies.lt
 refine⟨(l.dsk.below hb).keep (Kp.of_grown hg fun b o e _ hs=>by simp only[Option.some.injEq]at e;subst e;exact(l.sub _ hs).2 rfl),fun k hs=>⟨.inl (l.sub k hs).1,(l.sub k hs).2⟩, .inl l.here,hl,(hr.keep (Keep.of_grown hg fun b cs t fr e _ hp=>by simp only[Option.some.injEq]at e;omega)).imp fun b hb=>⟨.inr hb,fun hs => ?_,by omega⟩⟩
 have:=hS b hs
 omega
def Begun(T S:Nat→Prop)(w:World)(g d:Nat)(F:Dk.Files)(B:List Dk.Op)(n f:Int)(h:Hd.Hard)(e:Ending)(w' : World):Prop :=
 e = .returned (.int .i64 0) ∧ ∃S' vi va vc,LogS (fun j=>T j∨w.heap.size≤j) S' w' g d F B n f h vi va vc∧Kp (fun j _ => ¬S j∧j≠g) w w'
theorem begin2_any{T S:Nat→Prop}{w:World}{g d:Nat}{F:Dk.Files}{B:List Dk.Op}{n0 f0:Int}{h0:Hd.Hard}{vi0 va0 vc0:Value}(l:LogS T S w g d F B n0 f0 h0 vi0 va0 vc0)(hS : ∀k,S k→k<w.heap.size)(b3 b4 b5 b7:Nat)(f:Int)(h:Hd.Hard)(vi va vc:Value)
 (l3:Lies w b3 27 #[Wl.ptr g]) (l4:Lies w b4 3 #[.int .i64 f]) (l5:SixAt w b5 33 h.prom h.base vi va vc) (o:Option Addr) (c:Nat) (head:List UInt8) (l7:Lies w b7 30 #[.slice o head.length c])
 (hq : ∀b,b=b3∨b=b4∨b=b5∨b=b7 → ¬S b∧b≠g) (hr:HardQ (fun b => ¬S b∧b≠g) w h vi va vc) (hf:h.Few) (hv:Reads w (.slice o head.length c) head) (hvp:InP (fun b => ¬S b) (.slice o head.length c)) (hh:head.length≤1000000) {N M:Nat} (s:Wl.Sane F B N M) (hN:N≤900) (hM:M≤1000000000) :
 Calls Tryz.prog 66 #[Wl.ptr b3,Wl.ptr b7,Wl.ptr b4,Wl.ptr b5] w (Begun T S w g d F (B++Wl.begins (Wl.next F B) head (Dk.all F B)) (Wl.next F B) f h):=by
 have hld:=l.keep (Kp.drew w)
 have HNX:=Lib.hid (nextWl_any hld.dsk s (by omega) hM)
 have hnp:=Wl.next_pos F B
 have hnq:=s.next
 have HREP:=Lib.hid (fun W (hb:Below w.heap.size w W)=>replaceWl_any (l.keep (Kp.all hb)) (fun k hk=>Nat.lt_of_lt_of_le (hS k hk) hb.size) (Wl.next F B) ⟨hnp,by omega⟩ (.slice o head.length c) head (hv.below hb) hvp hh s (by omega) hM)
 obtain⟨z,hz⟩ : ∃z,z=Wl.next F B:=⟨_,rfl⟩
 rw[← hz]at HNX HREP ⊢
 obtain⟨B', hB'⟩ : ∃B', B' = B++Wl.begins z head (Dk.all F B):=⟨_,rfl⟩
 rw[← hB']at HREP ⊢
 have k3:w.drew.cell? ⟨b3,0,none⟩=some (Wl.ptr g):=l3.cell 0 _ rfl
 have kg:w.drew.cell? ⟨g,0,none⟩=some (Wl.ptr d):=hld.lies.cell 0 _ rfl
 have k7:w.drew.cell? ⟨b7,0,none⟩=some (.slice o head.length c):=l7.cell 0 _ rfl
 have L3:=Lib.hid l3;have L4:=Lib.hid l4;have L5:=Lib.hid l5;have L7:=Lib.hid l7;have HQ:=Lib.hid hq;have HR:=Lib.hid hr;have HF:=Lib.hid hf;have LL:=Lib.hid l
 obtain⟨nh,hnh⟩ : ∃n,n=head.length:=⟨_,rfl⟩
 rw[← hnh]at k7 L7 HREP
 clear l3 l4 l5 l7 hq hr hf hv hvp hh s hM hN hld hnp hnq hz hB' l hnh
 go_enter Tryz.func66,Tryz.ntmps66
 go_wp2
 refine wp_region_held_drew (S:=fun W=>W.cell? ⟨b3,0,none⟩=some (Wl.ptr g)∧W.cell? ⟨g,0,none⟩=some (Wl.ptr d)∧W.cell? ⟨b7,0,none⟩=some (.slice o nh c)) (by kernel_rfl) ⟨k3,kg,k7⟩ (fun hHeld => ?_)
 clear k3 kg k7
 refine wpT 0 rfl hHeld ?_ (by intro W hSw;obtain⟨s1,s2,s3⟩:=hSw;go_simp;(try with_reducible rfl))
 refine wpT 1 rfl hHeld ?_ (by intro W hSw;obtain⟨s1,s2,s3⟩:=hSw;go_simp;(try with_reducible rfl))
 refine wpT 2 rfl hHeld ?_
 refine wpT 3 rfl hHeld ?_
 refine wpT 4 rfl hHeld ?_ (by intro W hSw;obtain⟨s1,s2,s3⟩:=hSw;go_simp;(try with_reducible rfl))
 refine wpT 6 rfl hHeld ?_ (by intro W hSw;obtain⟨s1,s2,s3⟩:=hSw;go_simp;(try with_reducible rfl))
 refine wpAnyH_ready (rs := [5]) (by kernel_rfl) (by simp) ?_
 refine AllReadyH.cons rfl (fun K hK => ?_) AllReadyH.nil
 rw[if_pos (by kernel_rfl)]
 go_simp
 go_at_call 68
 refine HNX.out.mono ?_
 rintro e w2 ⟨rfl,hb2⟩
 have HB2:Hid (Below w.heap.size w w2):=on (drawn w 1) hb2
 refine hK.out _ _ ⟨(L3.out.below HB2.out L3.out.lt).cell 0 _ rfl,(LL.out.lies.below HB2.out LL.out.lies.lt).cell 0 _ rfl,(L7.out.below HB2.out L7.out.lt).cell 0 _ rfl⟩ (fun hHeld => ?_)
 clear hK K hb2 HNX
 refine wpAnyH_ready (rs := [7]) (by kernel_rfl) (by simp) ?_
 refine AllReadyH.cons rfl (fun K hK => ?_) AllReadyH.nil
 rw[if_pos (by kernel_rfl)]
 go_simp
 go_at_call 67
 refine(HREP.out w2 HB2.out).mono ?_
 rintro e w3 ⟨rfl,S3,hl3,hs3,hk3⟩
 have HL3:=Lib.hid hl3
 have HK3:Hid (Kp (fun j _ => ¬S j∧j≠g) w w3):=(Kp.all HB2.out).trans hk3
 have M3:Hid (Lies w3 b3 27 #[Wl.ptr g]):=HK3.out.lies L3.out fun _=>HQ.out b3 (by simp)
 have M7:Hid (Lies w3 b7 30 #[.slice o nh c]):=HK3.out.lies L7.out fun _=>HQ.out b7 (by simp)
 have M4:Hid (Lies w3 b4 3 #[.int .i64 f]):=HK3.out.lies L4.out fun _=>HQ.out b4 (by simp)
 have M5:Hid (SixAt w3 b5 33 h.prom h.base vi va vc):=⟨HK3.out.lies L5.out.lies fun _=>HQ.out b5 (by simp),L5.out.vi,L5.out.va,L5.out.vc⟩
 have HR3:=Lib.hid (HR.out.keep (HK3.out.keep fun _ _ _ _ _ hp=>hp))
 have HS3:=Lib.hid hs3
 refine hK.out _ _ ⟨M3.out.cell 0 _ rfl,hl3.lies.cell 0 _ rfl,M7.out.cell 0 _ rfl⟩ (fun hHeld => ?_)
 clear hK K hl3 hs3 hk3 HREP L3 L4 L5 L7 M7
 refine wpAnyH_done (by kernel_rfl) ?_ _
 clear hHeld
 obtain⟨c0,c1,c2,c3,c4,c5⟩:=M5.out.all
 have k3:w3.drew.cell? ⟨b3,0,none⟩=some (Wl.ptr g):=M3.out.cell 0 _ rfl
 have k4:w3.drew.cell? ⟨b4,0,none⟩=some (.int .i64 f):=M4.out.cell 0 _ rfl
 obtain⟨⟨io,ik,ic,rfl⟩,⟨ao,ak,ac,rfl⟩,⟨co,ck,cc,rfl⟩⟩:=HR3.out.rows.sl
 obtain⟨⟨jo,jk,jc,rfl⟩,⟨po,pk,pc,rfl⟩,⟨qo,qk,qc,rfl⟩⟩:=HL3.out.hard.rows.sl
 go_wp2
 refine wp_region_held_drew (S:=fun W=>W.cell? ⟨b3,0,none⟩=some (Wl.ptr g)∧W.cell? ⟨b4,0,none⟩=some (.int .i64 f)∧Lies W b5 33 (Hd.six h.prom h.base (.slice io ik ic) (.slice ao ak ac) (.slice co ck cc))) (by kernel_rfl) ⟨k3,k4,M5.out.lies⟩ (fun hHeld => ?_)
 clear k3 k4 c0 c1 c2 c3 c4 c5
 refine wpT 0 rfl hHeld ?_ (by intro W hSw;obtain⟨s1,s2,s3⟩:=hSw;go_simp;(try with_reducible rfl))
 refine wpT 1 rfl hHeld ?_ (by intro W hSw;obtain⟨s1,s2,s3⟩:=hSw;go_simp;(try with_reducible rfl))
 refine wpT 2 rfl hHeld ?_ (by intro W hSw;obtain⟨s1,s2,s3⟩:=hSw;go_simp;(try with_reducible rfl))
 refine wpT 3 rfl hHeld ?_ (by intro W hSw;obtain⟨s1,s2,s3⟩:=hSw;obtain⟨q0,q1,q2,q3,q4,q5⟩:=(⟨s3,⟨_,_,_,rfl⟩,⟨_,_,_,rfl⟩,⟨_,_,_,rfl⟩⟩:SixAt W b5 33 h.prom h.base (.slice io ik ic) (.slice ao ak ac) (.slice co ck cc)).all;go_simp;(try with_reducible rfl))
 refine wpAnyH_ready (rs := [4]) (by kernel_rfl) (by simp) ?_
 refine AllReadyH.cons rfl (fun K hK => ?_) AllReadyH.nil
 rw[if_pos (by kernel_rfl)]
 go_simp
 go_at_call 56
 refine(cloneH_q h (.slice io ik ic) (.slice ao ak ac) (.slice co ck cc) w3.drew (HR3.out.rows.below (drawn w3 1)) HF.out).mono ?_
 rintro e w4 ⟨ti,ta,tc,rfl,hr4,hb4⟩
 obtain⟨⟨to', tk,tc', rfl⟩,⟨uo,uk,uc,rfl⟩,⟨xo,xk,xc,rfl⟩⟩:=hr4.rows.sl
 have HB4:Hid (Below w3.heap.size w3 w4):=on (drawn w3 1) hb4
 have HR4:=Lib.hid hr4
 have HL4:=Lib.hid (HL3.out.keep (Kp.all HB4.out))
 have HQ' : Hid (g≠b3∧g≠b4∧g≠b5):=⟨fun e=>(HQ.out b3 (by simp)).2 e.symm,fun e=>(HQ.out b4 (by simp)).2 e.symm,fun e=>(HQ.out b5 (by simp)).2 e.symm⟩
 have HS4:Hid (Lies w4 b3 27 #[Wl.ptr g]∧Lies w4 b4 3 #[.int .i64 f]∧Lies w4 b5 33 (Hd.six h.prom h.base (.slice io ik ic) (.slice ao ak ac) (.slice co ck cc))):=⟨M3.out.below HB4.out M3.out.lt,M4.out.below HB4.out M4.out.lt,M5.out.lies.below HB4.out M5.out.lies.lt⟩
 refine hK.out _ _ ⟨HS4.out.1.cell 0 _ rfl,HS4.out.2.1.cell 0 _ rfl,HS4.out.2.2⟩ (fun hHeld => ?_)
 clear hK K hr4 hb4
 refine wpT 5 rfl hHeld ?_
 refine wpT 6 rfl hHeld ?_
 refine wpAnyH_ready (rs := [7]) (by kernel_rfl) (by simp) ?_
 refine ready_store 7 3 (.tmp 19) (.tmp 15) rfl rfl rfl g 2 78 (Wl.cells (Wl.ptr d) z f0 h0 (.slice jo jk jc) (.slice po pk pc) (.slice qo qk qc)) (Wl.cells (Wl.ptr d) z f h0 (.slice jo jk jc) (.slice po pk pc) (.slice qo qk qc)) (.int .i64 f) [.int .i64 f] ?x7 ?y7 rfl (by kernel_rfl) rfl HL4.out.lies (Nat.le_of_ble_eq_true rfl) rfl ?k7
 case x7=>kernel_rfl
 case y7=>kernel_rfl
 intro w5 hl5 hg5
 have HL5:=Lib.hid hl5;have HG5:=Lib.hid hg5
 clear hl5 hg5
 refine⟨⟨(HS4.out.1.kept HG5.out (by simp;exact HQ'.out.1.symm)).cell 0 _ rfl,(HS4.out.2.1.kept HG5.out (by simp;exact HQ'.out.2.1.symm)).cell 0 _ rfl,HS4.out.2.2.kept HG5.out (by simp;exact HQ'.out.2.2.symm)⟩,fun hHeld => ?_⟩
 refine wpT 8 rfl hHeld ?_
 refine wpT 9 rfl hHeld ?_
 refine wpAnyH_ready (rs := [10]) (by kernel_rfl) (by simp) ?_
 refine ready_store 10 33 (.tmp 21) (.tmp 17) rfl rfl rfl g 3 78 (Wl.cells (Wl.ptr d) z f h0 (.slice jo jk jc) (.slice po pk pc) (.slice qo qk qc)) (Wl.cells (Wl.ptr d) z f h (.slice to' tk tc') (.slice uo uk uc) (.slice xo xk xc)) (.agg (Hd.cells h (.slice to' tk tc') (.slice uo uk uc) (.slice xo xk xc))) (Hd.cells h (.slice to' tk tc') (.slice uo uk uc) (.slice xo xk xc)).toList ?x10 ?y10 rfl (by kernel_rfl) rfl HL5.out (Nat.le_of_ble_eq_true rfl) rfl ?k10
 case x10=>kernel_rfl
 case y10=>kernel_rfl
 intro w6 hl6 hg6
 have HL6:=Lib.hid hl6;have HG6:=Lib.hid (grown_on HG5.out hg6)
 refine⟨⟨((HS4.out.1.kept HG5.out (by simp;exact HQ'.out.1.symm)).kept hg6 (by simp;exact HQ'.out.1.symm)).cell 0 _ rfl,((HS4.out.2.1.kept HG5.out (by simp;exact HQ'.out.2.1.symm)).kept hg6 (by simp;exact HQ'.out.2.1.symm)).cell 0 _ rfl,(HS4.out.2.2.kept HG5.out (by simp;exact HQ'.out.2.2.symm)).kept hg6 (by simp;exact HQ'.out.2.2.symm)⟩,fun hHeld => ?_⟩
 clear hl6 hg6
 refine wpAnyH_done (by kernel_rfl) ?_ _
 clear hHeld
 go_wp2
 go_ret
 have hw3:w.heap.size≤w3.heap.size:=HK3.out.size
 have hl9:=(HL3.out.tight).set (fun k hk=>hk.2) HB4.out HR4.out HG6.out HL6.out
 refine⟨rfl,_,_,_,_,hl9.imp fun j hj => ?_,HK3.out.trans ((Kp.all HB4.out).trans (Kp.of_grown HG6.out fun b o e _ h=>by simp only[Option.some.injEq]at e;exact h.2 e.symm))⟩
 have hw2:=HB2.out.size
 rcases hj with ⟨hj | hj,_⟩ | hj
 ·exact .inl hj
 ·exact .inr (by omega)
 ·exact .inr (by omega)
end Go.Proofs.YtdkdjofnnnljjaaGreatDoor

namespace Go.Proofs.YtdkdjofnnnljjaaGreatDoor
open Go.RowKit
set_option maxHeartbeats 3200000
set_option maxRecDepth 8000
def Begins(T:Nat→Prop)(w:World)(g d:Nat)(F:Dk.Files)(B:List Dk.Op)(n0 f0:Int)(h0:Hd.Hard)(f:Int)(h:Hd.Hard)(r:List UInt8 × Int)(e:Ending)(w' : World):Prop :=
 e = .returned (.int .i64 r.2)∧((r.2=0∧LogTo T w g d F (B++Wl.begins (Wl.next F B) r.1 (Dk.all F B)) (Wl.next F B) f h w')∨(r.2≠0∧LogTo T w g d F B n0 f0 h0 w'))
theorem box_cells(w:World)(T:TypeId)(vs:Array Value) : ∃w1,w.alloc (.cells vs T)=w1∧Lies w1 w.heap.size T vs∧Below w.heap.size w w1∧w1.heap.size=w.heap.size+1:=⟨_,rfl,Lies.new _ _ _,(Below.refl _ w).alloc (Nat.le_refl _) _,by simp⟩
theorem errno_no8(c x:Int)(j:Nat):(#[.int .i64 c]:Array Value)[j]? ≠ some (.int .u8 x):=by
 match j with
 | 0=>simp
 | j+1=>simp
theorem LogTo.outer{T:Nat→Prop}{w w7 w8 w9:World}{g d:Nat}{F:Dk.Files}{B:List Dk.Op}{n f:Int}{h:Hd.Hard}{k:Nat}(hb:Below w.heap.size w w7)(l:LogTo (fun j=>T j∧j<w.heap.size) w7 g d F B n f h w8)(hg:w8.grownBy w9 (some k))(hk:w.heap.size≤k∧k<w7.heap.size):LogTo T w g d F B n f h w9:=by
 have hs:=hb.size
 refine⟨(l.1.keep (Kp.of_grown hg fun b o e _ hs' => ?_)).imp fun j hj => ?_,((Kp.all hb).then l.2 fun b _ _ hn hs' => hn hs'.1).then (Kp.of_grown (q:=fun b _=>b<w.heap.size) hg fun b o e _ hs' => by simp only[Option.some.injEq]at e;omega) fun b o h _=>lt_of_obj h⟩
 ·simp only[Option.some.injEq]at e
  rcases hs' with hs' | hs'
  ·have:=hs'.2;omega
  ·omega
 ·rcases hj with hj | hj
  ·exact .inl hj.1
  ·exact .inr (by omega)
theorem beginWl_any{T:Nat→Prop}{w:World}{g d:Nat}{F:Dk.Files}{B:List Dk.Op}{n0 f0:Int}{h0:Hd.Hard}(l:LogAt T w g d F B n0 f0 h0)(f:Int)(h:Hd.Hard)(vi va vc:Value)(hr:HardQ (fun b => ¬T b) w h vi va vc)(hf:h.Few)
 (r:List UInt8 × Int) (hc : ∀W,Below w.heap.size w W→Calls Tryz.prog 65 #[.int .i64 f, .agg (Hd.cells h vi va vc)] W (SgMade W r)) (hh:r.1.length≤1000000) {N M:Nat} (s:Wl.Sane F B N M) (hN:N≤900) (hM:M≤1000000000) :
 Calls Tryz.prog 36 #[Wl.ptr g, .int .i64 f, .agg (Hd.cells h vi va vc)] w (Begins T w g d F B n0 f0 h0 f h r):=by
 have hmf : ∀(fn:Fn) (first cap:Array Value) (w:World),(Instr.makeFunc fn first cap).run Tryz.prog w = .ok (.func fn first cap) w:=fun _ _ _ _=>rfl
 have HLA:=Lib.hid l
 obtain⟨S,vi0,va0,vc0,l⟩:=l
 have HSUB:=Lib.hid l.sub;have HTG:=Lib.hid l.here
 have hlt:=l.tight
 have hgl:=l.lies.lt
 obtain⟨w1,e1,l3,hb1,hs1⟩:=box_cells w 27 #[Wl.ptr g]
 obtain⟨w2,e2,l4,hb2,hs2⟩:=box_cells w1 3 #[.int .i64 f]
 obtain⟨w3,e3,l5,hb3,hs3⟩:=box_six w2 33 h vi va vc ((hr.below hb1).below (hb2) ).rows
 obtain⟨w4,e4,l7,hb4,hs4⟩:=box_cells w3 30 #[Nil]
 obtain⟨w5,e5,lk,hb5,hs5⟩:=box_cells w4 34 #[.int .i64 0]
 obtain⟨b3,hb3e⟩ : ∃b,b=w.heap.size:=⟨_,rfl⟩
 obtain⟨b4,hb4e⟩ : ∃b,b=w1.heap.size:=⟨_,rfl⟩
 obtain⟨b5,hb5e⟩ : ∃b,b=w2.heap.size:=⟨_,rfl⟩
 obtain⟨b7,hb7e⟩ : ∃b,b=w3.heap.size:=⟨_,rfl⟩
 obtain⟨k,hke⟩ : ∃b,b=w4.heap.size:=⟨_,rfl⟩
 have HB5:Hid (Below w.heap.size w w5):=(((hb1.trans (hb2.mono hb1.size)).trans (hb3.mono (by omega))).trans (hb4.mono (by omega))).trans (hb5.mono (by omega))
 have L3:Hid (Lies w5 b3 27 #[Wl.ptr g]):=by rw[hb3e];exact(((l3.below hb2 (by omega)).below hb3 (by omega)).below hb4 (by omega)).below hb5 (by omega)
 have L4:Hid (Lies w5 b4 3 #[.int .i64 f]):=by rw[hb4e];exact((l4.below hb3 (by omega)).below hb4 (by omega)).below hb5 (by omega)
 have L5:Hid (SixAt w5 b5 33 h.prom h.base vi va vc):=by rw[hb5e];exact(l5.below hb4 (by omega)).below hb5 (by omega)
 have L7:Hid (Lies w5 b7 30 #[Nil]):=by rw[hb7e];exact l7.below hb5 (by omega)
 have LK:Hid (Lies w5 k 34 #[.int .i64 0]):=by rw[hke];exact lk
 have HNE:Hid (w.heap.size≤b3∧w.heap.size≤b4∧w.heap.size≤b5∧w.heap.size≤b7∧w.heap.size≤k∧b3≠b7∧b4≠b7∧b5≠b7∧b7≠k∧b3≠k∧b4≠k∧b5≠k):=⟨by omega,by omega,by omega,by omega,by omega,by omega,by omega,by omega,by omega,by omega,by omega,by omega⟩
 have HLT:=Lib.hid hlt;have HR:=Lib.hid hr;have HF:=Lib.hid hf;have HH:=Lib.hid hh;have HSN:=Lib.hid s;have HNM:Hid (N≤900∧M≤1000000000):=⟨hN,hM⟩;have HGL:=Lib.hid hgl
 have HC:=Lib.hid (hc w5 HB5.out)
 clear l3 l4 l5 l7 lk hb1 hb2 hb3 hb4 hb5 hs1 hs2 hs3 hs4 hs5 hlt hr hf hh s hN hM hgl l hc
 obtain⟨Q,hQ⟩ : ∃Q,Q=Begins T w g d F B n0 f0 h0 f h r:=⟨_,rfl⟩
 rw[← hQ]
 have HQ:=Lib.hid hQ
 clear hQ
 go_enter Tryz.func36,Tryz.ntmps36
 go_wp2_with fail
 refine(stepsWl_any w4).mono ?_
 rintro e w5' ⟨rfl,rfl⟩
 rw[e5, ← hb3e, ← hb4e, ← hb5e, ← hb7e, ← hke]
 clear e1 e2 e3 e4 e5 hb3e hb4e hb5e hb7e hke
 go_wp2_with fail
 refine takeWl_go _ _ k w5 (fun W=>enters_of Tryz.func64 (by kernel_rfl) rfl _ W) LK.out ?_
 refine(begin1_any b4 b5 b7 f h vi va vc r w5 L4.out L5.out L7.out HC.out).mono ?_
 rintro e w6 ⟨rfl,o,c,l7,hv,hvp,hk6⟩
 obtain⟨n3,n4,n5,n7,nk,n37,n47,n57,n7k,n3k,n4k,n5k⟩:=HNE.out
 refine⟨r.2,rfl,hk6.lies LK.out (fun _=>n7k.symm),fun w7 lk7 hg7 => ?_⟩
 have h65:Below w.heap.size w5 w6:=hk6.below HB5.out.size fun b _ hb _=>by omega
 have HB7:Hid (Below w.heap.size w w7):=(HB5.out.trans h65).grown hg7 (Nat.le_trans HB5.out.size h65.size) (by rintro j hj;cases hj;exact nk)
 have M3:Hid (Lies w7 b3 27 #[Wl.ptr g]):=(hk6.lies L3.out fun _=>n37).kept hg7 (by simpa using n3k)
 have M4:Hid (Lies w7 b4 3 #[.int .i64 f]):=(hk6.lies L4.out fun _=>n47).kept hg7 (by simpa using n4k)
 have M5:Hid (SixAt w7 b5 33 h.prom h.base vi va vc):=(⟨hk6.lies L5.out.lies fun _=>n57,L5.out.vi,L5.out.va,L5.out.vc⟩:SixAt w6 b5 33 h.prom h.base vi va vc).kept hg7 n5k
 have M7:Hid (Lies w7 b7 30 #[.slice o r.1.length c]):=l7.kept hg7 (by simpa using n7k)
 have HV:Hid (Reads w7 (.slice o r.1.length c) r.1):=hv.kept_of (hk6.lies LK.out fun _=>n7k.symm) (fun j x=>errno_no8 0 x j) hg7
 have HVP:=Lib.hid hvp;have LK7:=Lib.hid lk7;have HB5S:=Lib.hid HB5.out.size
 clear l7 hv hvp hk6 hg7 lk7 h65 L3 L4 L5 L7 LK HC HB5 n3 n4 n5 n7 nk n37 n47 n57 n7k n3k n4k n5k
 dsimp only
 by_cases h0:r.2=0
 ·rw[h0]at LK7
  have H0:=Lib.hid h0
  rw[h0]
  clear h0
  go_wp2_with fail
  refine takeWl_go _ _ k w7 (fun W=>enters_of Tryz.func66 (by kernel_rfl) rfl _ W) LK7.out ?_
  have hl7:=HLT.out.keep (Kp.all HB7.out)
  have hs7:=HB7.out.size
  refine(begin2_any hl7 (fun j hj=>Nat.lt_of_lt_of_le hj.2 hs7) b3 b4 b5 b7 f h vi va vc M3.out M4.out M5.out o c r.1 M7.out (fun b hb => ?_) ((HR.out.tight.below HB7.out).imp fun b hb=>⟨fun hs=>hb.1 (HSUB.out b hs.1).1,fun e=>hb.1 (e ▸ HTG.out)⟩) HF.out HV.out (HVP.out.imp fun b hb hs => ?_) HH.out HSN.out HNM.out.1 HNM.out.2).mono ?_
  ·obtain⟨n3,n4,n5,n7,_⟩:=HNE.out
   have:=HGL.out
   have hb' : w.heap.size≤b:=by omega
   exact⟨fun hs=>by have:=hs.2;omega,by omega⟩
  ·have:=hs.2
   have:=HB5S.out
   omega
  ·rintro e w8 ⟨rfl,S8,ui,ua,uc,hl8,hk8⟩
   have nk:=HNE.out.2.2.2.2.1
   have hgl:=HGL.out
   refine⟨0,rfl,hk8.lies LK7.out (fun _=>⟨fun hs=>by have:=hs.2;omega,by omega⟩),fun w9 lk9 hg9 => ?_⟩
   have hk:k<w7.heap.size:=LK7.out.lt
   have hl9:LogAt (fun j=>T j∨w.heap.size≤j) w9 g d F (B++Wl.begins (Wl.next F B) r.1 (Dk.all F B)) (Wl.next F B) f h:=⟨S8,ui,ua,uc,(hl8.keep (Kp.of_grown hg9 fun b o' e _ hs=>by
    simp only[Option.some.injEq]at e
    rcases hs with hs | hs
    ·have:=hs.2;omega
    ·omega)).imp fun j hj=>by
    rcases hj with hj | hj
    ·exact .inl hj.1
    ·exact .inr (by omega)⟩
   have hkk:Kp (fun j _ => ¬T j) w w9:=((Kp.all HB7.out).then hk8 fun b o' _ hs=>⟨fun hs' => hs (HSUB.out b hs'.1).1,fun e=>hs (e ▸ HTG.out)⟩).then (Kp.of_grown (q:=fun b _=>b<w.heap.size) hg9 fun b o' e _ hs=>by simp only[Option.some.injEq]at e;omega) fun b o' h _=>lt_of_obj h
   have HL9:=Lib.hid hl9;have HKK:=Lib.hid hkk
   clear hl8 hk8 hl9 hkk lk9 hg9 hs7 hl7
   dsimp only
   go_wp2
   rw[HQ.out]
   exact⟨by rw[H0.out];rfl, .inl ⟨H0.out,HL9.out,HKK.out⟩⟩
 ·have H0:=Lib.hid h0
  obtain⟨z,hz⟩ : ∃z,z=r.2:=⟨_,rfl⟩
  rw[← hz]at LK7 h0 ⊢
  have HZ:=Lib.hid hz
  clear hz
  go_wp2_with fail
  refine takeWl_stop _ k w7 z h0 LK7.out ?_
  dsimp only
  clear h0
  go_wp2
  rw[HQ.out]
  exact⟨by rw[← HZ.out];rfl, .inr ⟨H0.out,LogTo.same HLA.out HB7.out⟩⟩
end Go.Proofs.YtdkdjofnnnljjaaGreatDoor

namespace Go.Proofs.YtdkdjofnnnljjaaGreatDoor
open Go.RowKit
set_option maxHeartbeats 3200000
set_option maxRecDepth 8000
theorem add1_yes(b g:Nat)(w:World)(l:Lies w b 27 #[Wl.ptr g]):Calls Tryz.prog 37 #[Wl.ptr b] w (Says w (.int .i64 0)):=by
 have c0:w.cell? ⟨b,0,none⟩=some (Wl.ptr g):=l.cell 0 _ rfl
 clear l
 go_enter Tryz.func37,Tryz.ntmps37
 go_wp2_with (go_at_call 32;refine(givenWl_any true w).mono ?_;rintro e w' ⟨rfl,rfl⟩)
 go_ret
 exact⟨rfl,rfl⟩
theorem renew1_yes(b g:Nat)(w:World)(l:Lies w b 27 #[Wl.ptr g]):Calls Tryz.prog 46 #[Wl.ptr b] w (Says w (.int .i64 0)):=by
 have c0:w.cell? ⟨b,0,none⟩=some (Wl.ptr g):=l.cell 0 _ rfl
 clear l
 go_enter Tryz.func46,Tryz.ntmps46
 go_wp2_with (go_at_call 32;refine(givenWl_any true w).mono ?_;rintro e w' ⟨rfl,rfl⟩)
 go_ret
 exact⟨rfl,rfl⟩
theorem open1_yes(b g:Nat)(w:World)(l:Lies w b 25 #[Wl.ptr g]):Calls Tryz.prog 31 #[Wl.ptr b] w (Says w (.int .i64 0)):=by
 have c0:w.cell? ⟨b,0,none⟩=some (Wl.ptr g):=l.cell 0 _ rfl
 clear l
 go_enter Tryz.func31,Tryz.ntmps31
 go_wp2_with (go_at_call 32;refine(givenWl_any true w).mono ?_;rintro e w' ⟨rfl,rfl⟩)
 go_ret
 exact⟨rfl,rfl⟩
theorem add2_any(b2 b3 b5 g:Nat)(dv:Value)(n f:Int)(h:Hd.Hard)(vi va vc:Value)(x:Re.Rec)(xo:Option Addr)(xc:Nat)(r:List UInt8 × Int)(w:World)(l2:Lies w b2 27 #[Wl.ptr g])(lg:Lies w g 78 (Wl.cells dv n f h vi va vc))(l3:Recs w b3 x (.slice xo x.img.length xc))(l5:Lies w b5 30 #[Nil])(hne:b2≠b5∧g≠b5∧b3≠b5)
 (hc : ∀W,Below w.heap.size w W→Calls Tryz.prog 39 #[.int .i64 f, .agg (Re.cells x (.slice xo x.img.length xc))] W (SgMade W r)) :
 Calls Tryz.prog 38 #[Wl.ptr b2,Wl.ptr b3,Wl.ptr b5] w (Filled b5 r w):=by
 have HC:=Lib.hid (hc w.drew (drawn w 1));have L5:=Lib.hid l5;have L3:=Lib.hid l3;have LG:=Lib.hid lg;have L2:=Lib.hid l2;have HNE:=Lib.hid hne
 have k2:w.drew.cell? ⟨b2,0,none⟩=some (Wl.ptr g):=l2.cell 0 _ rfl
 have kg:w.drew.cell? ⟨g,2,none⟩=some (.int .i64 f):=lg.cell 2 _ rfl
 obtain⟨nx,hnx⟩ : ∃n,n=x.img.length:=⟨_,rfl⟩
 rw[← hnx]at HC L3 l3
 clear hc l5 l2 lg hnx hne
 go_enter Tryz.func38,Tryz.ntmps38
 go_wp2
 refine wp_region_held_drew (S:=fun W=>W.cell? ⟨b2,0,none⟩=some (Wl.ptr g)∧W.cell? ⟨g,2,none⟩=some (.int .i64 f)∧Recs W b3 x (.slice xo nx xc)) (by kernel_rfl) ⟨k2,kg,L3.out⟩ (fun hHeld => ?_)
 clear k2 kg l3
 refine wpT 0 rfl hHeld ?_ (by intro W hSw;obtain⟨s1,s2,s3⟩:=hSw;go_simp;(try with_reducible rfl))
 refine wpT 1 rfl hHeld ?_
 refine wpT 2 rfl hHeld ?_
 refine wpT 3 rfl hHeld ?_ (by intro W hSw;obtain⟨s1,s2,s3⟩:=hSw;go_simp;(try with_reducible rfl))
 refine wpT 4 rfl hHeld ?_ (by intro W hSw;obtain⟨s1,s2,s3⟩:=hSw;obtain⟨q0,q1,q2,q3,q4,q5,q6,q7,q8,q9,q10,q11⟩:=Recs.all s3;go_simp;(try with_reducible rfl))
 refine wpAnyH_ready (rs := [5]) (by kernel_rfl) (by simp) ?_
 refine AllReadyH.cons rfl (fun K hK => ?_) AllReadyH.nil
 rw[if_pos (by kernel_rfl)]
 go_simp
 go_at_call 39
 refine HC.out.mono ?_
 rintro e w1 ⟨u,rfl,ho,hb⟩
 obtain⟨o,c,rfl⟩:=ho.reads.shape
 have HB:Hid (Below w.heap.size w w1):=on (drawn w 1) hb
 have HO:=Lib.hid ho
 have HL1:=Lib.hid (L5.out.below HB.out L5.out.lt)
 have HS:Hid (Lies w1 b2 27 #[Wl.ptr g]∧Lies w1 g 78 (Wl.cells dv n f h vi va vc)∧Recs w1 b3 x (.slice xo nx xc)):=⟨L2.out.below HB.out L2.out.lt,LG.out.below HB.out LG.out.lt,L3.out.below HB.out L3.out.lt⟩
 refine hK.out _ _ ⟨HS.out.1.cell 0 _ rfl,HS.out.2.1.cell 2 _ rfl,HS.out.2.2⟩ (fun hHeld => ?_)
 clear hK K ho hb
 obtain⟨nr,hnr⟩ : ∃n,n=r.1.length:=⟨_,rfl⟩
 obtain⟨z,hz⟩ : ∃z,z=r.2:=⟨_,rfl⟩
 rw[← hnr, ← hz]
 have HNR:=Lib.hid hnr;have HZ:=Lib.hid hz
 clear hnr hz
 refine wpT 6 rfl hHeld ?_
 refine wpT 7 rfl hHeld ?_
 refine wpT 8 rfl hHeld ?_
 refine wpAnyH_ready (rs := [9]) (by kernel_rfl) (by simp) ?_
 refine ready_store 9 30 (.tmp 2) (.tmp 11) rfl rfl rfl b5 0 30 #[Nil] #[.slice o nr c] (.slice o nr c) [.slice o nr c] ?x9 ?y9 rfl (by kernel_rfl) rfl HL1.out (Nat.le_of_ble_eq_true rfl) rfl ?k9
 case x9=>kernel_rfl
 case y9=>kernel_rfl
 intro w2 hl2 hg2
 have HL2:=Lib.hid hl2;have HG2:=Lib.hid hg2
 obtain⟨n1,n2,n3⟩:=HNE.out
 refine⟨⟨(HS.out.1.kept hg2 (by simpa using n1)).cell 0 _ rfl,(HS.out.2.1.kept hg2 (by simpa using n2)).cell 2 _ rfl,HS.out.2.2.kept hg2 (by simpa using n3)⟩,fun hHeld => ?_⟩
 clear hl2 hg2 n1 n2 n3
 refine wpT 10 rfl hHeld ?_
 refine wpAnyH_done (by kernel_rfl) ?_ _
 clear hHeld
 go_wp2
 go_ret
 rw[HNR.out]at HL2
 refine⟨by rw[HZ.out];rfl,o,c,HL2.out,HO.out.reads.kept_of HL1.out (fun j x => ?_) HG2.out,(InP.of_row HO.out).imp fun b hb=>hb,(Kp.all HB.out).trans (Kp.of_grown HG2.out fun b _ e _ h=>by simp only[Option.some.injEq]at e;exact h e.symm)⟩
 match j with
 | 0=>simp
 | j+1=>simp
def Added(T S:Nat→Prop)(w:World)(g d:Nat)(F:Dk.Files)(B:List Dk.Op)(n f:Int)(h:Hd.Hard)(e:Ending)(w' : World):Prop :=
 e = .returned (.int .i64 0) ∧ ∃S' vi va vc,LogS (fun j=>T j∨w.heap.size≤j) S' w' g d F B n f h vi va vc∧Kp (fun j _ => ¬S j∧j≠g) w w'
theorem add3_any{T S:Nat→Prop}{w:World}{g d:Nat}{F:Dk.Files}{B:List Dk.Op}{n f:Int}{h:Hd.Hard}{vi va vc:Value}(l:LogS T S w g d F B n f h vi va vc)(hS : ∀k,S k→k<w.heap.size)(b2 b3 b5:Nat)(x:Re.Rec)(xo:Option Addr)(xc:Nat)(o:Option Addr)(c:Nat)(b:List UInt8)
 (l2:Lies w b2 27 #[Wl.ptr g]) (l3:Recs w b3 x (.slice xo x.img.length xc)) (l5:Lies w b5 30 #[.slice o b.length c]) (hq : ∀k,k=b2∨k=b3∨k=b5 → ¬S k∧k≠g) (hx:Reads w (.slice xo x.img.length xc) x.img) (hxp:InP (fun k => ¬S k∧k≠g) (.slice xo x.img.length xc))
 (hv:Reads w (.slice o b.length c) b) (hW : ∀W,Kp (fun j _ => ¬S j) w W→WordsIn W) (hb:b.length≤1000000) (hB:B.length≤1000000000) (hn:1≤n∧n≤4294967296) (hval:Hd.Valid h) (hla:h.acc.length≤800000∧h.chs.length≤800000) (hs:x.cmd.Short 140737488355328) :
 Calls Tryz.prog 40 #[Wl.ptr b2,Wl.ptr b5,Wl.ptr b3] w (Added T S w g d F (B ++ [⟨2,n,b⟩]) n f (Hd.apply h x)):=by
 have hld:=l.keep (Kp.drew w)
 have HAD:=Lib.hid (add_any hld.dsk n (.slice o b.length c) b (hv.below (drawn w 1)) (by omega) (by omega))
 have k2:w.drew.cell? ⟨b2,0,none⟩=some (Wl.ptr g):=l2.cell 0 _ rfl
 have kg:w.drew.cell? ⟨g,0,none⟩=some (Wl.ptr d):=hld.lies.cell 0 _ rfl
 have kn:w.drew.cell? ⟨g,1,none⟩=some (.int .i64 n):=hld.lies.cell 1 _ rfl
 have k5:w.drew.cell? ⟨b5,0,none⟩=some (.slice o b.length c):=l5.cell 0 _ rfl
 have LL:=Lib.hid l;have L2:=Lib.hid l2;have L3:=Lib.hid l3;have L5:=Lib.hid l5;have HQ:=Lib.hid hq;have HN:=Lib.hid hn;have HV:=Lib.hid hval;have HA:=Lib.hid hla;have HSX:=Lib.hid hs;have HWW:=Lib.hid hW;have HS:=Lib.hid hS;have HLD:=Lib.hid hld
 have HX:=Lib.hid (Reads.inP hx hxp)
 obtain⟨nb,hnb⟩ : ∃n,n=b.length:=⟨_,rfl⟩
 obtain⟨nx,hnx⟩ : ∃n,n=x.img.length:=⟨_,rfl⟩
 rw[← hnb]at HAD k5 L5
 rw[← hnx]at L3 HX
 clear l hS l2 l3 l5 hq hx hxp hv hW hb hB hn hval hla hs hld hnb hnx
 go_enter Tryz.func40,Tryz.ntmps40
 go_wp2
 refine wp_region_held_drew (S:=fun W=>W.cell? ⟨b2,0,none⟩=some (Wl.ptr g)∧W.cell? ⟨g,0,none⟩=some (Wl.ptr d)∧W.cell? ⟨g,1,none⟩=some (.int .i64 n)∧W.cell? ⟨b5,0,none⟩=some (.slice o nb c)) (by kernel_rfl) ⟨k2,kg,kn,k5⟩ (fun hHeld => ?_)
 clear k2 kg kn k5
 refine wpT 0 rfl hHeld ?_ (by intro W hSw;obtain⟨s1,s2,s3,s4⟩:=hSw;go_simp;(try with_reducible rfl))
 refine wpT 1 rfl hHeld ?_
 refine wpT 2 rfl hHeld ?_
 refine wpT 3 rfl hHeld ?_ (by intro W hSw;obtain⟨s1,s2,s3,s4⟩:=hSw;go_simp;(try with_reducible rfl))
 refine wpT 4 rfl hHeld ?_ (by intro W hSw;obtain⟨s1,s2,s3,s4⟩:=hSw;go_simp;(try with_reducible rfl))
 refine wpT 5 rfl hHeld ?_
 refine wpT 6 rfl hHeld ?_
 refine wpT 7 rfl hHeld ?_ (by intro W hSw;obtain⟨s1,s2,s3,s4⟩:=hSw;go_simp;(try with_reducible rfl))
 refine wpT 8 rfl hHeld ?_ (by intro W hSw;obtain⟨s1,s2,s3,s4⟩:=hSw;go_simp;(try with_reducible rfl))
 refine wpAnyH_ready (rs := [9]) (by kernel_rfl) (by simp) ?_
 refine AllReadyH.cons rfl (fun K hK => ?_) AllReadyH.nil
 rw[if_pos (by kernel_rfl)]
 go_simp
 go_at_call 41
 refine HAD.out.mono ?_
 rintro e w3 ⟨rfl,hd3,hk3⟩
 rw[if_pos HN.out]at hd3
 have hl3:=HLD.out.held hd3 hk3
 have HL3:=Lib.hid hl3
 have HK3:Hid (Kp (fun j _ => ¬S j) w w3):=(Kp.drew w).trans hk3
 have M2:Hid (Lies w3 b2 27 #[Wl.ptr g]):=HK3.out.lies L2.out fun _=>(HQ.out b2 (by simp)).1
 have M3:Hid (Recs w3 b3 x (.slice xo nx xc)):=HK3.out.lies L3.out fun _=>(HQ.out b3 (by simp)).1
 have M5:Hid (Lies w3 b5 30 #[.slice o nb c]):=HK3.out.lies L5.out fun _=>(HQ.out b5 (by simp)).1
 have HX3:=Lib.hid ((HX.out.keep (HK3.out.keep fun _ _ _ _ _ hp=>hp.1)).1)
 refine hK.out _ _ ⟨M2.out.cell 0 _ rfl,hl3.lies.cell 0 _ rfl,hl3.lies.cell 1 _ rfl,M5.out.cell 0 _ rfl⟩ (fun hHeld => ?_)
 clear hK K hd3 hk3 hl3 HAD L2 L3 L5 M5
 refine wpAnyH_done (by kernel_rfl) ?_ _
 clear hHeld
 obtain⟨⟨jo,jk,jc,rfl⟩,⟨po,pk,pc,rfl⟩,⟨qo,qk,qc,rfl⟩⟩:=HL3.out.hard.rows.sl
 have k2:w3.drew.cell? ⟨b2,0,none⟩=some (Wl.ptr g):=M2.out.cell 0 _ rfl
 have HAP:=Lib.hid (apply_q h (.slice jo jk jc) (.slice po pk pc) (.slice qo qk qc) x (.slice xo nx xc) w3.drew (HWW.out _ (HK3.out.trans (Kp.drew w3))) (HL3.out.hard.rows.below (drawn w3 1)) HV.out HA.out (HX3.out.below (drawn w3 1)) HSX.out)
 go_wp2
 refine wp_region_held_drew (S:=fun W=>W.cell? ⟨b2,0,none⟩=some (Wl.ptr g)∧Recs W b3 x (.slice xo nx xc)) (by kernel_rfl) ⟨k2,M3.out⟩ (fun hHeld => ?_)
 clear k2
 refine wpT 0 rfl hHeld ?_ (by intro W hSw;obtain⟨s1,s3⟩:=hSw;go_simp;(try with_reducible rfl))
 refine wpT 1 rfl hHeld ?_ (by intro W hSw;obtain⟨s1,s3⟩:=hSw;go_simp;(try with_reducible rfl))
 refine wpT 2 rfl hHeld ?_
 refine wpT 3 rfl hHeld ?_
 refine wpT 5 rfl hHeld ?_ (by intro W hSw;obtain⟨s1,s3⟩:=hSw;obtain⟨q0,q1,q2,q3,q4,q5,q6,q7,q8,q9,q10,q11⟩:=Recs.all s3;go_simp;(try with_reducible rfl))
 have q0:w3.drew.cell? ⟨g,3,none⟩=some (.int .i64 h.prom.round):=HL3.out.lies.cell 3 _ rfl
 have q1:w3.drew.cell? ⟨g,4,none⟩=some (.int .i64 h.prom.node):=HL3.out.lies.cell 4 _ rfl
 have q2:w3.drew.cell? ⟨g,5,none⟩=some (.int .i64 h.base):=HL3.out.lies.cell 5 _ rfl
 have q3:w3.drew.cell? ⟨g,6,none⟩=some (.slice jo jk jc):=HL3.out.lies.cell 6 _ rfl
 have q4:w3.drew.cell? ⟨g,7,none⟩=some (.slice po pk pc):=HL3.out.lies.cell 7 _ rfl
 have q5:w3.drew.cell? ⟨g,8,none⟩=some (.slice qo qk qc):=HL3.out.lies.cell 8 _ rfl
 refine wpAnyH_ready (rs := [4]) (by kernel_rfl) (by simp) ?_
 refine AllReadyH.cons rfl (fun K hK => ?_) AllReadyH.nil
 rw[if_pos (by kernel_rfl)]
 go_simp
 refine hK.out _ _ hHeld (fun hHeld => ?_)
 clear hK K q0 q1 q2 q3 q4 q5
 refine wpAnyH_ready (rs := [6]) (by kernel_rfl) (by simp) ?_
 refine AllReadyH.cons rfl (fun K hK => ?_) AllReadyH.nil
 rw[if_pos (by kernel_rfl)]
 go_simp
 go_at_call 42
 refine HAP.out.mono ?_
 rintro e w4 ⟨ti,ta,tc,rfl,hr4,hb4⟩
 obtain⟨⟨to', tk,tc', rfl⟩,⟨uo,uk,uc,rfl⟩,⟨yo,yk,yc,rfl⟩⟩:=hr4.rows.sl
 have HB4:Hid (Below w3.heap.size w3 w4):=on (drawn w3 1) hb4
 have HR4:=Lib.hid hr4
 have HL4:=Lib.hid (HL3.out.keep (Kp.all HB4.out))
 have HS4:Hid (Lies w4 b2 27 #[Wl.ptr g]∧Recs w4 b3 x (.slice xo nx xc)):=⟨M2.out.below HB4.out M2.out.lt,M3.out.below HB4.out M3.out.lt⟩
 refine hK.out _ _ ⟨HS4.out.1.cell 0 _ rfl,HS4.out.2⟩ (fun hHeld => ?_)
 clear hK K hr4 hb4
 refine wpT 7 rfl hHeld ?_
 refine wpT 8 rfl hHeld ?_
 refine wpAnyH_ready (rs := [9]) (by kernel_rfl) (by simp) ?_
 refine ready_store 9 33 (.tmp 22) (.tmp 20) rfl rfl rfl g 3 78 (Wl.cells (Wl.ptr d) n f h (.slice jo jk jc) (.slice po pk pc) (.slice qo qk qc)) (Wl.cells (Wl.ptr d) n f (Hd.apply h x) (.slice to' tk tc') (.slice uo uk uc) (.slice yo yk yc)) (.agg (Hd.cells (Hd.apply h x) (.slice to' tk tc') (.slice uo uk uc) (.slice yo yk yc))) (Hd.cells (Hd.apply h x) (.slice to' tk tc') (.slice uo uk uc) (.slice yo yk yc)).toList ?x9 ?y9 rfl (by kernel_rfl) rfl HL4.out.lies (Nat.le_of_ble_eq_true rfl) rfl ?k9
 case x9=>kernel_rfl
 case y9=>kernel_rfl
 intro w5 hl5 hg5
 have HL5:=Lib.hid hl5;have HG5:=Lib.hid hg5
 have hq2:=(HQ.out b2 (by simp)).2
 have hq3:=(HQ.out b3 (by simp)).2
 refine⟨⟨(HS4.out.1.kept hg5 (by simpa using hq2)).cell 0 _ rfl,HS4.out.2.kept hg5 (by simpa using hq3)⟩,fun hHeld => ?_⟩
 clear hl5 hg5 hq2 hq3
 refine wpAnyH_done (by kernel_rfl) ?_ _
 clear hHeld
 go_wp2
 go_ret
 have hw3:w.heap.size≤w3.heap.size:=HK3.out.size
 have hl9:=(HL3.out.tight).set (fun k hk=>hk.2) HB4.out HR4.out HG5.out HL5.out
 refine⟨rfl,_,_,_,_,hl9.imp fun j hj => ?_,(HK3.out.imp fun b o _ h=>h.1).trans ((Kp.all HB4.out).trans (Kp.of_grown HG5.out fun b o e _ h=>by simp only[Option.some.injEq]at e;exact h.2 e.symm))⟩
 have hwd:w.drew.heap.size=w.heap.size:=rfl
 rcases hj with ⟨hj | hj,_⟩ | hj
 ·exact .inl hj
 ·exact .inr (by omega)
 ·exact .inr (by omega)
end Go.Proofs.YtdkdjofnnnljjaaGreatDoor
