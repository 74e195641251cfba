/- Several texts of mine in one: WlOpen WlOk. -/
import Derived.Test.YtdkdjofnnnljjaaGreatDoorPWlBack
import Derived.Test.YtdkdjofnnnljjaaGreatDoorWlPeek
import Derived.Test.YtdkdjofnnnljjaaGreatDoorPGBm
import Derived.Test.YtdkdjofnnnljjaaGreatDoorGHc
namespace Go.Proofs.YtdkdjofnnnljjaaGreatDoor
open Go.RowKit
set_option maxHeartbeats 3200000
set_option maxRecDepth 8000
theorem peekWl_any{S:Nat→Prop}{w:World}{n0 d:Nat}{F:Dk.Files}{B:List Dk.Op}(E:Env n0 w)(h:DiskAt S w d F B){N M:Nat}(s:Wl.Sane F B N M)(hN:N≤1000)(hM:M≤1000000000)(hsm : ∀q∈Dk.all F B,q.2.length≤4000000) :
 Calls Tryz.prog 19 #[Wl.ptr d] w (Peeked w (Dk.all F B)):=by
 have hw:=s.wt
 exact peek_of (Wl.ptr d) (Dk.all F B) w ⟨_,rfl⟩ (fun W hb=>view_any (h.below hb) (s.kinds hN) (by omega)) E.crc E.words hsm (by have:=s.count;omega)
theorem open2_any(b3 b7:Nat)(v f:Int)(w:World)(l3:Lies w b3 3 #[.int .i64 v])(l7:Lies w b7 3 #[.int .i64 f]):Calls Tryz.prog 33 #[Wl.ptr b3,Wl.ptr b7] w (Says w (.int .i64 (Vs.opens v f))):=by
 have c3:w.cell? ⟨b3,0,none⟩=some (.int .i64 v):=l3.cell 0 _ rfl
 have c7:w.cell? ⟨b7,0,none⟩=some (.int .i64 f):=l7.cell 0 _ rfl
 have HC:=Lib.hid (opens_any v f w)
 obtain⟨z,hz⟩ : ∃z,z=Vs.opens v f:=⟨_,rfl⟩
 rw[← hz]at HC ⊢
 clear l3 l7 hz
 go_enter Tryz.func33,Tryz.ntmps33
 go_wp2_with (go_at_call 34;refine HC.out.mono ?_;rintro e w' ⟨rfl,rfl⟩)
 go_ret
 exact⟨rfl,rfl⟩
theorem results_mid{fn:Func}{p q u:Tmp}{ty:TypeId}(h:fn.results = #[.tmp q, .cell p ty, .tmp u])(tmps:Array Value)(P:Program)(w:World) :
 (results fn tmps).run P w=((asAddr (tmps.getD p undef)).run P w).andThen fun a w₁=>((loadVar ty a).run P w₁).andThen fun v w₂ => .ok (.tuple #[tmps.getD q undef,v,tmps.getD u undef]) w₂:=by
 simp only[results,h]
 simp[Sem.run_bind,Result.andThen]
theorem ret_open{fn:Func}{R:Ending→World→Prop}{a:Act}{w:World}{t q u:Tmp}{g:Nat}{p:Bl.Bal}{b:Int}{vi va vc:Value}(h:fn.results = #[.tmp q, .cell t 33, .tmp u])(hp:a.tmps.getD t undef = .pointer (some ⟨g,0,none⟩))
 (hl:SixAt w g 33 p b vi va vc) (hd:a.defers = []) (hR:R (.returned (.tuple #[a.tmps.getD q undef, .agg (Hd.six p b vi va vc),a.tmps.getD u undef])) w):bodyPost Tryz.prog fn R .ret a w:=by
 refine bodyPost_ret ?_ hd hR
 rw[results_mid h,hp]
 simp[asAddr,Result.andThen,run_hard w g p b vi va vc hl]
def Opened(T:Nat→Prop)(w:World)(d:Nat)(F:Dk.Files)(B:List Dk.Op)(v f:Int)(k:Hd.Hard)(head:List UInt8)(e:Ending)(w' : World):Prop :=
 (Vs.opens v f≠0∧e = .returned (.tuple #[.pointer none, .agg (Hd.cells Hd.zero Nil Nil Nil), .int .i64 (Vs.opens v f)])∧Below w.heap.size w w') ∨
 (Vs.opens v f=0 ∧ ∃gl m vi va vc,e = .returned (.tuple #[Wl.ptr gl, .agg (Hd.cells k vi va vc), .int .i64 0])∧w.heap.size≤m∧LogAt (fun j=>T j∨m≤j) w' gl d F (B++Wl.begins (Wl.next F B) head (Dk.all F B)) (Wl.next F B) f k∧HardQ (fun b=>w.heap.size≤b∧b<m) w' k vi va vc∧Kp (fun j _ => ¬T j) w w')
theorem openWl_any{T:Nat→Prop}{w:World}{n0 d:Nat}{F:Dk.Files}{B:List Dk.Op}(E:Env n0 w)(hd:DiskAt T w d F B){N M:Nat}(s:Wl.Sane F B N M)(hN:N≤900)(hM:M≤1000000000)(hsm : ∀q∈Dk.all F B,q.2.length≤4000000)(v f:Int)(k:Hd.Hard)(hp:Wl.Peek (Dk.all F B) f k)(hf:k.Few)
 (head:List UInt8) (hc : ∀W vi va vc,Below w.heap.size w W→HardR W k vi va vc→Calls Tryz.prog 65 #[.int .i64 f, .agg (Hd.cells k vi va vc)] W (SgMade W (head,0))) (hh:head.length≤1000000) :
 Calls Tryz.prog 9 #[Wl.ptr d, .int .i64 v] w (Opened T w d F B v f k head):=by
 have hmf : ∀(fn:Fn) (first cap:Array Value) (w:World),(Instr.makeFunc fn first cap).run Tryz.prog w = .ok (.func fn first cap) w:=fun _ _ _ _=>rfl
 have hdt:DiskAt (fun j=>T j∧j<w.heap.size) w d F B:=hd.imp fun _ hlt h=>⟨h,hlt⟩
 obtain⟨w1,e1,l2,hb1,hs1⟩:=box_cells w 25 #[Wl.ptr d]
 obtain⟨w2,e2,l3,hb2,hs2⟩:=box_cells w1 3 #[.int .i64 v]
 obtain⟨w3,e3,l5,hb3,hs3⟩:=box_zero w2 33
 obtain⟨b2,hb2e⟩ : ∃b,b=w.heap.size:=⟨_,rfl⟩
 obtain⟨b3,hb3e⟩ : ∃b,b=w1.heap.size:=⟨_,rfl⟩
 obtain⟨b5,hb5e⟩ : ∃b,b=w2.heap.size:=⟨_,rfl⟩
 have HB3:Hid (Below w.heap.size w w3):=(hb1.trans (hb2.mono hb1.size)).trans (hb3.mono (by omega))
 have L2:Hid (Lies w3 b2 25 #[Wl.ptr d]):=by rw[hb2e];exact(l2.below hb2 (by omega)).below hb3 (by omega)
 have L3:Hid (Lies w3 b3 3 #[.int .i64 v]):=by rw[hb3e];exact l3.below hb3 (by omega)
 have L5:Hid (SixAt w3 b5 33 Bl.zero 0 Nil Nil Nil):=by rw[hb5e];exact l5
 have HNE:Hid (w.heap.size≤b2∧w.heap.size≤b3∧w.heap.size≤b5∧b2<w3.heap.size∧b3<w3.heap.size∧b5<w3.heap.size∧b2≠b5∧b3≠b5):=⟨by omega,by omega,by omega,by omega,by omega,by omega,by omega,by omega⟩
 have HPK:=Lib.hid (peekWl_any (E.up HB3.out) (hdt.below HB3.out) s (by omega) hM hsm)
 have HDT:=Lib.hid hdt;have HSN:=Lib.hid s;have HNM:Hid (N≤900∧M≤1000000000):=⟨hN,hM⟩;have HP:=Lib.hid hp;have HF:=Lib.hid hf;have HC:=Lib.hid hc;have HH:=Lib.hid hh
 clear l2 l3 l5 hb1 hb2 hb3 hs1 hs2 hs3 hd hdt s hN hM hsm hp hf hc hh E
 obtain⟨Q,hQ⟩ : ∃Q,Q=Opened T w d F B v f k head:=⟨_,rfl⟩
 rw[← hQ]
 have HQ:=Lib.hid hQ
 clear hQ
 have c20:w3.cell? ⟨w.heap.size,0,none⟩=some (Wl.ptr d):=by rw[← hb2e];exact L2.out.cell 0 _ rfl
 go_enter Tryz.func9,Tryz.ntmps9
 go_wp2_with fail
 rw[← hb2e, ← hb3e, ← hb5e]
 refine HPK.out.mono ?_
 rintro e w4 ⟨f', k', vi,va,vc,rfl,hpk,hr4,hb4⟩
 obtain⟨rfl,rfl⟩:=hpk.one HP.out
 obtain⟨⟨io,ik,ic,rfl⟩,⟨ao,ak,ac,rfl⟩,⟨co,ck,cc,rfl⟩⟩:=hr4.rows.sl
 have HB4:=Lib.hid hb4
 have HR4:=Lib.hid hr4
 clear hpk hr4 hb4 c20 e1 e2 e3 hb2e hb3e hb5e HPK
 obtain⟨w5,e5,l7,hb5,hs5⟩:=box_cells w4 3 #[.int .i64 f']
 obtain⟨w6,e6,l8,hb6,hs6⟩:=box_six w5 33 k' (.slice io ik ic) (.slice ao ak ac) (.slice co ck cc) (HR4.out.rows.below hb5)
 obtain⟨w7,e7,lg,hb7,hs7⟩:=box_cells w6 78 #[Wl.ptr d, .int .i64 0, .int .i64 0, .int .i64 0, .int .i64 0, .int .i64 0, .slice none 0 0, .slice none 0 0, .slice none 0 0]
 obtain⟨w8,e8,l9,hb8,hs8⟩:=box_cells w7 27 #[Wl.ptr w6.heap.size]
 obtain⟨w9,e9,lk,hb9,hs9⟩:=box_cells w8 34 #[.int .i64 0]
 dsimp only [Hd.cells]at e6
 have c2:w4.cell? ⟨b2,0,none⟩=some (Wl.ptr d):=(L2.out.below HB4.out L2.out.lt).cell 0 _ rfl
 have c26:w6.cell? ⟨b2,0,none⟩=some (Wl.ptr d):=((((L2.out.below HB4.out L2.out.lt).below hb5 (Nat.lt_of_lt_of_le L2.out.lt HB4.out.size))).below hb6 (Nat.lt_of_lt_of_le L2.out.lt (Nat.le_trans HB4.out.size hb5.size))).cell 0 _ rfl
 have c27:(w5.alloc (.cells #[.int .i64 k'.prom.round, .int .i64 k'.prom.node, .int .i64 k'.base, .slice io ik ic, .slice ao ak ac, .slice co ck cc] 33)).cell? ⟨b2,0,none⟩=some (Wl.ptr d):=by rw[e6];exact c26
 dsimp only [Hd.cells]
 go_wp2_with fail
 have e8' : w7.alloc (.cells #[.pointer (some ⟨w4.heap.size+1+1,0,none⟩)] 27)=w8:=by rw[show w4.heap.size+1+1=w6.heap.size by omega];exact e8
 rw[e8']
 refine(stepsWl_any w8).mono ?_
 rintro e w9' ⟨rfl,rfl⟩
 rw[e9]
 obtain⟨m,hm⟩ : ∃m,m=w4.heap.size:=⟨_,rfl⟩
 obtain⟨gl,hgl⟩ : ∃m,m=w4.heap.size+1+1:=⟨_,rfl⟩
 obtain⟨b8,hb8e⟩ : ∃m,m=w4.heap.size+1:=⟨_,rfl⟩
 obtain⟨b9,hb9e⟩ : ∃m,m=w4.heap.size+1+1+1:=⟨_,rfl⟩
 obtain⟨k,hke⟩ : ∃k,k=w8.heap.size:=⟨_,rfl⟩
 rw[← hb9e, ← hgl, ← hb8e, ← hm, ← hke]
 have HB9:Hid (Below w4.heap.size w4 w9):=(((hb5.trans (hb6.mono (by omega))).trans (hb7.mono (by omega))).trans (hb8.mono (by omega))).trans (hb9.mono (by omega))
 have P2:Hid (Lies w9 b2 25 #[Wl.ptr d]):=(L2.out.below HB4.out L2.out.lt).below HB9.out (Nat.lt_of_lt_of_le L2.out.lt HB4.out.size)
 have P3:Hid (Lies w9 b3 3 #[.int .i64 v]):=(L3.out.below HB4.out L3.out.lt).below HB9.out (Nat.lt_of_lt_of_le L3.out.lt HB4.out.size)
 have P5:Hid (SixAt w9 b5 33 Bl.zero 0 Nil Nil Nil):=(L5.out.below HB4.out L5.out.lies.lt).below HB9.out (Nat.lt_of_lt_of_le L5.out.lies.lt HB4.out.size)
 have P7:Hid (Lies w9 m 3 #[.int .i64 f']):=by rw[hm];exact(((l7.below hb6 (by omega)).below hb7 (by omega)).below hb8 (by omega)).below hb9 (by omega)
 have P8:Hid (SixAt w9 b8 33 k'.prom k'.base (.slice io ik ic) (.slice ao ak ac) (.slice co ck cc)):=by rw[hb8e,show w4.heap.size+1=w5.heap.size by omega];exact((l8.below hb7 (by omega)).below hb8 (by omega)).below hb9 (by omega)
 have PG:Hid (Lies w9 gl 78 (Wl.cells (Wl.ptr d) 0 0 Hd.zero Nil Nil Nil)):=by rw[hgl,show w4.heap.size+1+1=w6.heap.size by omega];exact(lg.below hb8 (by omega)).below hb9 (by omega)
 have P9:Hid (Lies w9 b9 27 #[Wl.ptr gl]):=by rw[hb9e,hgl,show w4.heap.size+1+1+1=w7.heap.size by omega,show w4.heap.size+1+1=w6.heap.size by omega];exact l9.below hb9 (by omega)
 have PK:Hid (Lies w9 k 34 #[.int .i64 0]):=by rw[hke];exact lk
 have hs43:=HB4.out.size
 have hne:=HNE.out
 have HNE2:Hid (m≤gl∧m≤b8∧m≤b9∧m≤k∧m≠gl∧b8≠gl∧b9≠gl∧k≠gl∧m≠k∧b8≠k∧b9≠k∧b2<m∧b3<m∧b5<m∧w3.heap.size≤m):=⟨by omega,by omega,by omega,by omega,by omega,by omega,by omega,by omega,by omega,by omega,by omega,by omega,by omega,by omega,by omega⟩
 have HM4:=Lib.hid hm
 clear e5 e6 e7 e8 e8' e9 l7 l8 lg l9 lk hb5 hb6 hb7 hb8 hb9 hs5 hs6 hs7 hs8 hs9 hm hgl hb8e hb9e hke c2 c26 c27 hs43 hne L2 L3 L5
 go_wp2_with fail
 refine takeWl_go _ _ k w9 (fun W=>enters_of Tryz.func31 (by kernel_rfl) rfl _ W) PK.out ?_
 refine(open1_yes b2 d w9 P2.out).mono ?_
 rintro e w9' ⟨rfl,rfl⟩
 refine⟨0,rfl,PK.out,fun w10 lk10 hg10 => ?_⟩
 obtain⟨ng,n8,n9,nk,nmg,n8g,n9g,nkg,nmk,n8k,n9k,n2m,n3m,n5m,n3⟩:=HNE2.out
 have R3:Hid (Lies w10 b3 3 #[.int .i64 v]):=P3.out.kept hg10 (by simp;omega)
 have R7:Hid (Lies w10 m 3 #[.int .i64 f']):=P7.out.kept hg10 (by simpa using nmk)
 have HG10:=Lib.hid hg10
 have LK10:=Lib.hid lk10
 clear lk10 hg10 P2 PK
 dsimp only
 go_wp2_with fail
 refine takeWl_go _ _ k w10 (fun W=>enters_of Tryz.func33 (by kernel_rfl) rfl _ W) LK10.out ?_
 refine(open2_any b3 m v f' w10 R3.out R7.out).mono ?_
 rintro e w10' ⟨rfl,rfl⟩
 refine⟨Vs.opens v f', rfl,LK10.out,fun w11 lk11 hg11 => ?_⟩
 have HG11:=Lib.hid (grown_on HG10.out hg11)
 have LK11:=Lib.hid lk11
 have hb91:Below w4.heap.size w4 w11:=HB9.out.grown HG11.out HB9.out.size (by rintro j hj;cases hj;rw[← HM4.out];exact nk)
 have HB11:Hid (Below w4.heap.size w4 w11):=hb91
 have HBW:Hid (Below w.heap.size w w11):=(HB3.out.trans (HB4.out.mono HB3.out.size)).trans (hb91.mono (Nat.le_trans HB3.out.size HB4.out.size))
 have Q5:Hid (SixAt w11 b5 33 Bl.zero 0 Nil Nil Nil):=P5.out.kept HG11.out (by omega)
 have Q7:Hid (Lies w11 m 3 #[.int .i64 f']):=P7.out.kept HG11.out (by simpa using nmk)
 have Q8:Hid (SixAt w11 b8 33 k'.prom k'.base (.slice io ik ic) (.slice ao ak ac) (.slice co ck cc)):=P8.out.kept HG11.out n8k
 have QG:Hid (Lies w11 gl 78 (Wl.cells (Wl.ptr d) 0 0 Hd.zero Nil Nil Nil)):=PG.out.kept HG11.out (by simpa using nkg.symm)
 have Q9:Hid (Lies w11 b9 27 #[Wl.ptr gl]):=P9.out.kept HG11.out (by simpa using n9k)
 clear lk11 hg11 hb91 HG10 HG11 R3 R7 LK10 P3 P5 P7 P8 PG P9 HB9 ng n8 n9 nk nmg n8g n9g nkg nmk n8k n9k n2m n3m n5m n3
 dsimp only
 obtain⟨z,hz⟩ : ∃z,z=Vs.opens v f' := ⟨_,rfl⟩
 rw[← hz]at LK11 ⊢
 have HZ:=Lib.hid hz
 clear hz
 by_cases h0:z=0
 ·subst h0
  obtain⟨ng,n8,n9,nk,nmg,n8g,n9g,nkg,nmk,n8k,n9k,n2m,n3m,n5m,n3⟩:=HNE2.out
  have hw3:=HB3.out.size
  have hm4:=HM4.out
  have hl11:LogAt (fun j=>(T j∧j<w.heap.size)∨j=gl) w11 gl d F B 0 0 Hd.zero:=⟨fun j=>T j∧j<w.heap.size,Nil,Nil,Nil,⟨HDT.out.below HBW.out,fun j hs=>⟨.inl hs,by have:=hs.2;omega⟩, .inr rfl,QG.out,HardQ.zero _ _⟩⟩
  have HR11:=Lib.hid (HR4.out.tight.below HB11.out)
  have hbeg:=beginWl_any hl11 f' k' (.slice io ik ic) (.slice ao ak ac) (.slice co ck cc) (HR11.out.imp fun b hb hs=>by
   have h1:=hb.1;have h2:=hb.2
   rcases hs with hs | hs
   ·have:=hs.2;omega
   ·omega) HF.out (head,0) (fun W hb=>HC.out W _ _ _ (HBW.out.trans (hb.mono HBW.out.size)) (HR11.out.rows.below hb)) HH.out HSN.out HNM.out.1 HNM.out.2
  have HBEG:=Lib.hid hbeg
  clear hl11 hbeg hm4
  go_wp2_with fail
  refine takeWl_go _ _ k w11 (fun W=>enters_of Tryz.func35 (by kernel_rfl) rfl _ W) LK11.out ?_
  refine(open3_any b9 m b8 Q9.out Q7.out Q8.out HBEG.out).mono ?_
  rintro e w12 ⟨rfl,h12'⟩
  obtain⟨_,h12⟩:=h12'.resolve_right fun h=>absurd rfl h.1
  have hm4:=HM4.out
  have hout : ∀j,w.heap.size≤j→j≠gl → ¬((T j∧j<w.heap.size)∨j=gl):=fun j h1 h2 hs=>by
   rcases hs with hs | hs
   ·have:=hs.2;omega
   ·exact h2 hs
  refine⟨0,rfl,h12.2.lies LK11.out (fun _=>hout k (by omega) nkg),fun w13 lk13 hg13 => ?_⟩
  have T8:Hid (SixAt w13 b8 33 k'.prom k'.base (.slice io ik ic) (.slice ao ak ac) (.slice co ck cc)):=(⟨h12.2.lies Q8.out.lies (fun _=>hout b8 (by omega) n8g),Q8.out.vi,Q8.out.va,Q8.out.vc⟩:SixAt w12 b8 33 k'.prom k'.base (.slice io ik ic) (.slice ao ak ac) (.slice co ck cc)).kept hg13 n8k
  have T5:Hid (SixAt w13 b5 33 Bl.zero 0 Nil Nil Nil):=(⟨h12.2.lies Q5.out.lies (fun _=>hout b5 HNE.out.2.2.1 (by omega)),Q5.out.vi,Q5.out.va,Q5.out.vc⟩:SixAt w12 b5 33 Bl.zero 0 Nil Nil Nil).kept hg13 (by omega)
  have T9:Hid (Lies w13 b9 27 #[Wl.ptr gl]):=(h12.2.lies Q9.out fun _=>hout b9 (by omega) n9g).kept hg13 (by simpa using n9k)
  have HR13:Hid (HardQ (fun b=>w3.heap.size≤b∧b<w4.heap.size) w13 k' (.slice io ik ic) (.slice ao ak ac) (.slice co ck cc)):=(HR11.out.keep (h12.2.keep fun b _ _ _ _ hp=>hout b (Nat.le_trans hw3 hp.1) (by have:=hp.2;omega))).keep (Keep.of_grown hg13 fun b cs t fr e _ hp=>by simp only[Option.some.injEq]at e;have:=hp.2;omega)
  have hk11:=LK11.out.lt
  have HL13:Hid (LogAt (fun j=>(T j∧j<w.heap.size)∨m≤j) w13 gl d F (B++Wl.begins (Wl.next F B) head (Dk.all F B)) (Wl.next F B) f' k'):=(h12.1.keep (Kp.of_grown hg13 fun b o e _ hs=>by
   simp only[Option.some.injEq]at e
   subst e
   rcases hs with hs | hs
   ·exact hout _ (by omega) nkg hs
   ·omega)).imp fun j hj=>by
   have:=HB11.out.size
   rcases hj with (hj | hj) | hj
   ·exact .inl hj
   ·exact .inr (by omega)
   ·exact .inr (by omega)
  have HK13:Hid (Kp (fun j _ => ¬T j) w w13):=((Kp.all HBW.out).then h12.2 fun b o h hs hs' => by
   rcases hs' with hs' | hs'
   ·exact hs hs'.1
   ·have:=lt_of_obj h;omega).then (Kp.of_grown (q:=fun b _=>b<w.heap.size) hg13 fun b o e _ hs' => by simp only[Option.some.injEq]at e;omega) fun b o h _=>lt_of_obj h
  have HGK:Hid (m≤k∧w.heap.size≤b5∧b5<w3.heap.size∧b5≠b8∧b5≠b9∧b5<m∧w.heap.size≤m):=⟨nk,HNE.out.2.2.1,HNE.out.2.2.2.2.2.1,by omega,by omega,n5m,by omega⟩
  clear h12 h12' lk13 hg13 hk11 hout ng n8 n9 nk nmg n8g n9g nkg nmk n8k n9k n2m n3m n5m n3 hw3 hm4 Q5 Q7 Q8 Q9 QG HBEG HR11
  have T8d:Hid (SixAt w13.drew b8 33 k'.prom k'.base (.slice io ik ic) (.slice ao ak ac) (.slice co ck cc)):=T8.out.below (drawn w13 1) T8.out.lies.lt
  have T9d:Hid (Lies w13.drew b9 27 #[Wl.ptr gl]):=T9.out
  dsimp only
  go_wp2
  refine wp_region_held_drew (S:=fun W=>Lies W b9 27 #[Wl.ptr gl]∧SixAt W b8 33 k'.prom k'.base (.slice io ik ic) (.slice ao ak ac) (.slice co ck cc)) (by kernel_rfl) ⟨T9d.out,T8d.out⟩ (fun hHeld => ?_)
  refine wpT 0 rfl hHeld ?_ (by intro W hSw;obtain⟨s1,s2⟩:=hSw;have q0:W.cell? ⟨b9,0,none⟩=some (Wl.ptr gl):=s1.cell 0 _ rfl;go_simp;(try with_reducible rfl))
  refine wpT 1 rfl hHeld ?_ (by intro W hSw;obtain⟨s1,s2⟩:=hSw;obtain⟨q0,q1,q2,q3,q4,q5⟩:=s2.all;go_simp;(try with_reducible rfl))
  refine wpT 2 rfl hHeld ?_
  refine wpAnyH_ready (rs := [3]) (by kernel_rfl) (by simp) ?_
  refine ready_store 3 33 (.tmp 5) (.tmp 35) rfl rfl rfl b5 0 33 (Hd.six Bl.zero 0 Nil Nil Nil) (Hd.six k'.prom k'.base (.slice io ik ic) (.slice ao ak ac) (.slice co ck cc)) (.agg (Hd.six k'.prom k'.base (.slice io ik ic) (.slice ao ak ac) (.slice co ck cc))) (Hd.six k'.prom k'.base (.slice io ik ic) (.slice ao ak ac) (.slice co ck cc)).toList ?x3 ?y3 rfl (by kernel_rfl) rfl T5.out.lies (Nat.le_of_ble_eq_true rfl) rfl ?k3
  case x3=>kernel_rfl
  case y3=>kernel_rfl
  intro w14 hl14 hg14
  have HL14:=Lib.hid hl14;have HG14:=Lib.hid hg14
  obtain⟨nk,n5w,n53,n58,n59,n5m,nwm⟩:=HGK.out
  refine⟨⟨T9d.out.kept hg14 (by simpa using n59.symm),T8d.out.kept hg14 n58.symm⟩,fun hHeld => ?_⟩
  clear hl14 hg14
  refine wpT 4 rfl hHeld ?_
  refine wpAnyH_done (by kernel_rfl) ?_ _
  clear hHeld
  go_wp2
  refine ret_open (g:=b5) rfl rfl (⟨HL14.out,⟨_,_,_,rfl⟩,⟨_,_,_,rfl⟩,⟨_,_,_,rfl⟩⟩:SixAt w14 b5 33 k'.prom k'.base (.slice io ik ic) (.slice ao ak ac) (.slice co ck cc)) rfl ?_
  rw[HQ.out]
  have hm4:=HM4.out
  have hw3:=HB3.out.size
  refine .inr ⟨HZ.out.symm,gl,m, .slice io ik ic, .slice ao ak ac, .slice co ck cc,rfl,nwm, ?_, ?_, ?_⟩
  ·exact(HL13.out.keep ((Kp.drew w13).trans (Kp.of_grown HG14.out fun b o e _ hs=>by
    simp only[Option.some.injEq]at e
    rcases hs with hs | hs
    ·have:=hs.2;omega
    ·omega))).imp fun j hj=>by
    rcases hj with hj | hj
    ·exact .inl hj.1
    ·exact .inr hj
  ·exact(((HR13.out.below (drawn w13 1)).keep (Keep.of_grown HG14.out fun b cs t fr e _ hp=>by simp only[Option.some.injEq]at e;have:=hp.1;omega)).imp fun b hb=>⟨Nat.le_trans hw3 hb.1,by have:=hb.2;omega⟩)
  ·exact(HK13.out.trans (Kp.drew w13)).then (Kp.of_grown (q:=fun b _=>b<w.heap.size) HG14.out fun b o e _ hs' => by simp only[Option.some.injEq]at e;omega) fun b o h _=>lt_of_obj h
 ·have H0:=Lib.hid h0
  have hzb:(z != 0)=true:=by simpa using h0
  go_wp2_with fail
  refine takeWl_stop _ k w11 z h0 LK11.out ?_
  dsimp only
  clear h0
  have HX:Hid (SixAt (w11.alloc (.cells (Hd.cells Hd.zero Nil Nil Nil) 33)) w11.heap.size 33 Hd.zero.prom Hd.zero.base Nil Nil Nil):=⟨Lies.new _ _ _,⟨_,_,_,rfl⟩,⟨_,_,_,rfl⟩,⟨_,_,_,rfl⟩⟩
  have HN5:=Lib.hid HNE.out.2.2.1
  go_wp2_with (refine store_hard rfl _ _ rfl rfl Q5.out HX.out rfl ?_;intro w12 hx12 hg12;have HX12:=Lib.hid hx12;have HG12:=Lib.hid hg12;clear hx12 hg12)
  refine ret_open rfl rfl HX12.out rfl ?_
  rw[HQ.out]
  exact .inl ⟨by rw[← HZ.out];exact H0.out,by rw[← HZ.out];rfl,HBW.out.grown HG12.out HBW.out.size (by rintro j hj;cases hj;exact HN5.out)⟩
end Go.Proofs.YtdkdjofnnnljjaaGreatDoor

namespace Go.Proofs.YtdkdjofnnnljjaaGreatDoor
open Go.RowKit
section
namespace Wl
structure Ok(f:Int)(i:Nat)(h:Hd.Hard):Prop where
 valid:Hd.Valid h
 few:h.acc.length≤i∧h.chs.length≤i
 img:h.img.length≤300
 acc : ∀e∈h.acc,Vs.has f e.cmd.kind=true∧e.cmd.Fits
 chs : ∀e∈h.chs,Vs.has f e.cmd.kind=true∧e.cmd.Fits
section
variable {f : Int} {i : Nat} {h : Hd.Hard}
theorem Ok.zero(f:Int)(i:Nat):Ok f i Hd.zero:=⟨Hd.valid_zero,⟨Nat.zero_le _,Nat.zero_le _⟩,by simp[Hd.zero],fun e he=>by simp[Hd.zero]at he,fun e he=>by simp[Hd.zero]at he⟩
theorem Ok.up(o:Ok f i h){j:Nat}(hj:i≤j):Ok f j h:=⟨o.valid,⟨Nat.le_trans o.few.1 hj,Nat.le_trans o.few.2 hj⟩,o.img,o.acc,o.chs⟩
theorem Ok.accs(o:Ok f i h) : ∀e∈h.acc,En.ranged e=true∧Cm.check e.cmd=0:=fun e he=>by have:=((En.check_iff _ _).1 o.valid.acc).2 e he;exact⟨this.1,this.2.1⟩
theorem Ok.chss(o:Ok f i h) : ∀e∈h.chs,En.ranged e=true∧Cm.check e.cmd=0:=fun e he=>by have:=((En.check_iff _ _).1 o.valid.chs).2 e he;exact⟨this.1,this.2.1⟩
theorem ranged_num{e:En.Ent}(h:En.ranged e=true):(1≤e.index∧e.index≤4294967296)∧Bl.may e.bal=true:=by
 unfold En.ranged at h
 simp only[Bool.and_eq_true,decide_eq_true_eq]at h
 exact⟨⟨h.1.1,h.1.2⟩,h.2⟩
theorem may_fits{b:Bl.Bal}(h:Bl.may b=true) : -9223372036854775808≤b.round∧b.round≤9223372036854775807 ∧ -9223372036854775808≤b.node∧b.node≤9223372036854775807:=by
 rcases Bl.may_cases _ h with rfl | h
 ·simp[Bl.zero]
 ·omega
theorem zero_fits : Cm.zero.Fits:=by constructor<;>simp[Cm.zero,Cm.bareOf]
theorem older_of{x:Re.Rec}(h:Hd.Fine x)(hh:Re.hc x.kind=true→Vs.has f x.cmd.kind=true):Re.olderIn f x=0:=by
 unfold Re.olderIn
 rw[if_neg (by simpa using Hd.check_fine.2 h)]
 cases hc:Re.hc x.kind with
 | true=>rw[hh hc];rfl
 | false=>rfl
theorem Ok.recs(o:Ok f i h) : ∀x∈Hd.recs h,Re.olderIn f x=0∧x.Fits∧x.img.length≤300:=by
 intro x hx
 unfold Hd.recs at hx
 rcases List.mem_append.1 hx with hx | hx
 ·rcases List.mem_append.1 hx with hx | hx
  ·rcases List.mem_append.1 hx with hx | hx
   ·split at hx
    ·rename_i hb
     obtain rfl:x=Hd.recI h:=by simpa using hx
     refine⟨older_of (Hd.fine_img o.valid hb) (fun hc=>by cases hc),⟨fun z hz => ?_,zero_fits⟩,o.img⟩
     have h1:=o.valid.base
     simp[Re.nums,Hd.recI,Bl.zero]at hz
     omega
    ·simp at hx
   ·split at hx
    ·rename_i hp
     obtain rfl:x=Hd.recP h:=by simpa using hx
     refine⟨older_of (Hd.fine_prom o.valid hp) (fun hc=>by cases hc),⟨fun z hz => ?_,zero_fits⟩,by simp[Hd.recP]⟩
     have:=may_fits o.valid.prom
     simp[Re.nums,Hd.recP]at hz
     omega
    ·simp at hx
  ·obtain⟨e,he,rfl⟩:=List.mem_map.1 hx
   have h1:=o.accs e he
   have h2:=o.valid.accs e he
   have h3:=ranged_num h1.1
   have h4:=may_fits h3.2
   refine⟨older_of (Hd.fine_acc h1.1 h1.2 h2.2.1) fun _=>(o.acc e he).1,⟨fun z hz => ?_,(o.acc e he).2⟩,by simp[Hd.recA]⟩
   simp[Re.nums,Hd.recA]at hz
   omega
 ·obtain⟨e,he,rfl⟩:=List.mem_map.1 hx
  have h1:=o.chss e he
  have h3:=ranged_num h1.1
  refine⟨older_of (Hd.fine_chs h1.1 h1.2) fun _=>(o.chs e he).1,⟨fun z hz => ?_,(o.chs e he).2⟩,by simp[Hd.recC]⟩
  simp[Re.nums,Hd.recC,Bl.zero]at hz
  omega
theorem Ok.len(o:Ok f i h):(Hd.recs h).length≤2+2*i:=by
 have h1:=o.few
 unfold Hd.recs
 simp only[List.length_append,List.length_map]
 have h2:(if 0<h.base then [Hd.recI h]else []).length≤1:=by split<;>simp
 have h3:(if h.prom≠Bl.zero then [Hd.recP h]else []).length≤1:=by split<;>simp
 omega
theorem Ok.two(o:Ok f i h):Ok 2 i h:=by
 have key : ∀x:Re.Rec,Re.olderIn f x=0→Re.hc x.kind=true→Vs.has 2 x.cmd.kind=true:=fun x hx hc=>by
  have h1:=Rt.older_two x
  rw[Re.olderIn_check hx]at h1
  unfold Re.olderIn at h1
  rw[if_neg (by rw[Re.olderIn_check hx];simp),hc]at h1
  cases hv:Vs.has 2 x.cmd.kind with
  | true=>rfl
  | false=>rw[hv]at h1;simp at h1
 exact⟨o.valid,o.few,o.img,fun e he=>⟨key (Hd.recA e) (o.recs _ (by unfold Hd.recs;simp;exact .inr (.inr (.inl ⟨e,he,rfl⟩)))).1 rfl,(o.acc e he).2⟩,fun e he=>⟨key (Hd.recC e) (o.recs _ (by unfold Hd.recs;simp;exact .inr (.inr (.inr ⟨e,he,rfl⟩)))).1 rfl,(o.chs e he).2⟩⟩
theorem two_mem{b:Int}{s:List En.Ent × List En.Ent}{x:Re.Rec}(h1:En.Asc s.1)(h2:En.Asc s.2):(∀e∈(Hd.two b s x).1,e∈s.1∨(e=Hd.ent x∧Re.hc x.kind=true)) ∧ ∀e∈(Hd.two b s x).2,e∈s.2∨(e=Hd.ent x∧Re.hc x.kind=true):=by
 by_cases hn:Re.check x≠0∨x.index≤b∨Re.hc x.kind=false
 ·rw[Hd.two_out s hn]
  exact⟨fun e he => .inl he,fun e he => .inl he⟩
 ·have hk:Re.hc x.kind=true:=by
   cases h:Re.hc x.kind with
   | true=>rfl
   | false=>exact absurd (.inr (.inr h)) hn
  unfold Hd.two
  rw[if_neg hn]
  split
  ·exact⟨fun e he=>by
    rcases(En.mem_put h1).1 he with rfl | he
    ·exact .inr ⟨rfl,hk⟩
    ·exact .inl he.1,fun e he => .inl he⟩
  ·split
   ·exact⟨fun e he => .inl he,fun e he => .inl he⟩
   ·exact⟨fun e he => .inl he,fun e he=>by
     rcases(En.mem_put h2).1 he with rfl | he
     ·exact .inr ⟨rfl,hk⟩
     ·exact .inl he.1⟩
theorem Ok.apply(o:Ok f i h){x:Re.Rec}(hx:Re.olderIn f x=0)(hf:x.Fits)(hi:x.img.length≤300):Ok f (i+1) (Hd.apply h x):=by
 have hck:=Re.olderIn_check hx
 have hl:=Hd.apply_len h x
 have hv:Re.hc x.kind=true→Vs.has f x.cmd.kind=true:=fun hc=>by
  unfold Re.olderIn at hx
  rw[if_neg (by rw[hck];simp),hc]at hx
  cases hv:Vs.has f x.cmd.kind with
  | true=>rfl
  | false=>rw[hv]at hx;simp at hx
 refine⟨Hd.valid_apply o.valid x,⟨Nat.le_trans hl.1 (by have:=o.few.1;omega),Nat.le_trans hl.2 (by have:=o.few.2;omega)⟩, ?_, ?_, ?_⟩
 ·unfold Hd.apply
  rw[if_neg (by rw[hck];simp)]
  split
  ·exact hi
  ·exact o.img
 ·intro e he
  unfold Hd.apply at he
  rw[if_neg (by rw[hck];simp)]at he
  split at he
  ·exact o.acc e (En.mem_cut.1 he).1
  ·rcases(two_mem (s:=(h.acc,h.chs)) o.valid.ascA o.valid.ascC).1 e he with he | ⟨rfl,hc⟩
   ·exact o.acc e he
   ·exact⟨hv hc,hf.c⟩
 ·intro e he
  unfold Hd.apply at he
  rw[if_neg (by rw[hck];simp)]at he
  split at he
  ·exact o.chs e (En.mem_cut.1 he).1
  ·rcases(two_mem (s:=(h.acc,h.chs)) o.valid.ascA o.valid.ascC).2 e he with he | ⟨rfl,hc⟩
   ·exact o.chs e he
   ·exact⟨hv hc,hf.c⟩
end
theorem frame_few{f:Int}{x:Re.Rec}(h:Re.olderIn f x=0)(hx:x.Fits)(hi:x.img.length≤300):(Frm.frame (Rt.bytesIn f x)).length≤620:=by
 have h1:=(Sg.body_len h hx).2.2
 have h2:=Frm.frame_len (Rt.bytesIn f x)
 have h3:=enc_nine (n:=(Rt.bytesIn f x).length) (by omega)
 omega
theorem flat_few{f:Int}(y:List UInt8) : ∀l:List Re.Rec,(∀x∈l,(Frm.frame (Rt.bytesIn f x)).length≤620)→(Frm.flat (y :: l.map (Rt.bytesIn f))).length≤(Frm.frame y).length+620*l.length:=by
 intro l
 induction l using Hd.snoc_ind with
 | h0=>intro _;simp[Frm.flat]
 | h1 l x ih =>
  intro h
  have h1:=ih fun c hc=>h c (by simp[hc])
  have h2:=h x (by simp)
  have e:Frm.flat (y :: (l ++ [x]).map (Rt.bytesIn f))=Frm.flat (y :: l.map (Rt.bytesIn f))++Frm.frame (Rt.bytesIn f x):=by simp[Frm.flat]
  rw[e,List.length_append,List.length_append]
  simp
  omega
theorem head_few{f:Int}(hf:f=1∨f=2){i:Nat}{h:Hd.Hard}(o:Ok f i h)(hi:i≤41):(Sg.file f h []).length≤53000:=by
 have h0:=o.len
 have h1:=flat_few (f:=f) (Sg.first f (Hd.recs h).length) (Hd.recs h) fun x hx=>by
  obtain⟨a,b,c⟩:=o.recs x hx
  exact frame_few a b c
 have h2:=Frm.frame_len (Sg.first f (Hd.recs h).length)
 have h3:=enc_nine (n:=f.toNat) (by omega)
 have h4:=enc_nine (n:=(Hd.recs h).length) (by omega)
 have h5:(Sg.first f (Hd.recs h).length).length=(enc f.toNat).length+(enc (Hd.recs h).length).length:=by simp[Sg.first]
 have h6:=enc_nine (n:=(Sg.first f (Hd.recs h).length).length) (by omega)
 show(Frm.flat _).length≤_
 unfold Sg.bodies
 rw[List.append_nil]
 omega
structure St(i:Nat)(F:Dk.Files)(B:List Dk.Op)(n f:Int)(k:Hd.Hard)(ps:List (Hd.Hard × Int)):Prop where
 sane:Sane F B (i+1) ((i+1)*54000)
 log : ∃h more,Log F B n f h more (fun f h=>(h,f)∈ps)∧Hd.of (Hd.recs h++more)=k
 fmt:f=1∨f=2
 oks : ∀p∈ps,Ok p.2 i p.1
 last : ∃qs,ps=qs ++ [(k,f)]
 num:1≤n∧n≤(i:Int)+1
section
variable {i : Nat} {F : Dk.Files} {B : List Dk.Op} {n f : Int} {k : Hd.Hard} {ps : List (Hd.Hard × Int)}
theorem St.ok(s:St i F B n f k ps):Ok f i k:=by
 obtain⟨qs,e⟩:=s.last
 exact s.oks (k,f) (by rw[e];simp)
theorem St.skip(s:St i F B n f k ps):St (i+1) F B n f k ps :=
 ⟨s.sane.more (by omega) (by omega),s.log,s.fmt,fun p hp=>(s.oks p hp).up (by omega),s.last,⟨s.num.1,by have:=s.num.2;omega⟩⟩
theorem St.files(s:St i F B n f k ps)(hi:i≤41) : ∀q∈Dk.all F B,q.2.length≤4000000:=fun q hq=>by
 have h1:=Dk.wt_mem hq
 have h2:=Dk.wt_all B F
 have h3:=s.sane.wt
 have:(i+1)*54000≤42*54000:=Nat.mul_le_mul_right _ (by omega)
 omega
theorem St.wt(s:St i F B n f k ps)(hi:i≤41):Dk.wt F+Dk.wtB B≤3000000:=by
 have h3:=s.sane.wt
 have:(i+1)*54000≤42*54000:=Nat.mul_le_mul_right _ (by omega)
 omega
theorem St.add(s:St i F B n f k ps){x:Re.Rec}(hx:Re.olderIn f x=0)(hf:x.Fits)(hi:x.img.length≤300):St (i+1) F (B ++ [⟨2,n,Frm.frame (Rt.bytesIn f x)⟩]) n f (Hd.apply k x) (ps ++ [(Hd.apply k x,f)]):=by
 obtain⟨h,more,g,e⟩:=s.log
 have e' : Hd.of (Hd.recs h++(more ++ [x]))=Hd.apply k x:=by rw[← List.append_assoc,Hd.of_snoc,e]
 refine⟨((s.sane.snoc (x:=⟨2,n,Frm.frame (Rt.bytesIn f x)⟩) ⟨.inr (.inl rfl),s.num.1,by have:=s.num.2;push_cast;exact this⟩ (frame_few hx hf hi)).more (by omega) (by omega)),⟨h,more ++ [x],g.add ⟨hx,hf⟩ (fun f h hp=>by simp[hp]) (by rw[e'];simp),e'⟩,s.fmt,fun p hp => ?_,⟨ps,rfl⟩,⟨s.num.1,by have:=s.num.2;omega⟩⟩
 rcases List.mem_append.1 hp with hp | hp
 ·exact(s.oks p hp).up (by omega)
 ·obtain rfl:p=(Hd.apply k x,f):=by simpa using hp
  exact s.ok.apply hx hf hi
theorem St.sync(s:St i F B n f k ps):St i (Dk.all F B) [] n f k [(k,f)]:=by
 obtain⟨h,more,g,e⟩:=s.log
 refine⟨s.sane.all,⟨h,more,g.sync (by rw[e];simp),e⟩,s.fmt,fun p hp => ?_,⟨[],rfl⟩,s.num⟩
 obtain rfl:p=(k,f):=by simpa using hp
 exact s.ok
theorem St.begin(s:St i F B n f k ps)(hi:i≤40){f' : Int}(hf' : f' = 1∨f' = 2){h' : Hd.Hard}(o:Ok f' i h'):St (i+1) F (B++begins (next F B) (Sg.file f' h' []) (Dk.all F B)) (next F B) f' h' (ps ++ [(h', f')]):=by
 obtain⟨h,more,g,e⟩:=s.log
 have hrec:=o.recs
 have hl:=o.len
 have h0:=head_few hf' o (by omega)
 have g' := Log.begun (P' := fun f h=>(h,f)∈ps ++ [(h', f')]) g.fine g.now.peek g.last (fun q hq=>lt_next hq) hf' o.valid (fun x hx=>⟨(hrec x hx).1,(hrec x hx).2.1⟩) (by omega) (fun f h hp=>by simp[hp]) (by simp) ((Dk.all F B).map (·.1)) (fun m hm=>by
  obtain⟨q,hq,rfl⟩:=List.mem_map.1 hm
  have:=lt_next hq
  omega)
 refine⟨(s.sane.begins h0).more (by omega) (by omega),⟨h', [],by unfold begins;rw[← List.append_assoc, ← List.append_assoc];exact g', by rw[List.append_nil,Hd.of_recs o.valid]⟩,hf', fun p hp => ?_,⟨ps,rfl⟩,⟨next_pos F B,by have:=s.sane.next;push_cast at this ⊢; omega⟩⟩
 rcases List.mem_append.1 hp with hp | hp
 ·exact(s.oks p hp).up (by omega)
 ·obtain rfl:p=(h', f'):=by simpa using hp
  exact o.up (by omega)
theorem St.crash(s:St i F B n f k ps)(hi:i≤40)(keep cut:Int) : ∃f' h', (h', f')∈ps∧Peek (Dk.crash F B keep cut) f' h' ∧ (f' = 1∨f' = 2)∧Ok f' i h' ∧ Sane (Dk.crash F B keep cut) [] (i+1) ((i+1)*54000) ∧
 St (i+1) (Dk.crash F B keep cut) (begins (next (Dk.crash F B keep cut) []) (Sg.file f' h' []) (Dk.crash F B keep cut)) (next (Dk.crash F B keep cut) []) f' h' [(h', f')]:=by
 obtain⟨h,more,g,e⟩:=s.log
 obtain⟨f', h', hp,pk,fin⟩:=g.crashed keep cut
 have o:=s.oks _ hp
 have hs:=s.sane.crash keep cut
 have hf' : f' = 1∨f' = 2:=by
  rcases pk with ⟨A,m,b,C,_,⟨s', l,e', hw,_⟩,_⟩ | ⟨_,rfl,_⟩
  ·exact hw.format
  ·exact .inl rfl
 have hrec:=o.recs
 have hl:=o.len
 have h0:=head_few hf' o (by omega)
 have g' := Log.begun (F:=Dk.crash F B keep cut) (B := []) (P:=fun a b=>a=f' ∧ b=h') (P' := fun f h=>(h,f) ∈ [(h', f')]) fin (f0:=f') (h0:=h') pk ⟨rfl,rfl⟩ (fun q hq=>lt_next (F:=Dk.crash F B keep cut) (B := []) hq) hf' o.valid (fun x hx=>⟨(hrec x hx).1,(hrec x hx).2.1⟩) (by omega) (fun f h hp=>by simp[hp.1,hp.2]) (by simp) ((Dk.crash F B keep cut).map (·.1)) (fun m hm=>by
  obtain⟨q,hq,rfl⟩:=List.mem_map.1 hm
  have:=lt_next (F:=Dk.crash F B keep cut) (B := []) hq
  omega)
 have hsb:=hs.begins h0
 refine⟨f', h', hp,pk,hf', o,hs,⟨hsb.more (by omega) (by omega),⟨h', [],g', by rw[List.append_nil,Hd.of_recs o.valid]⟩,hf', fun p hp => ?_,⟨[],rfl⟩,⟨next_pos _ [],by have:=hs.next;push_cast at this ⊢; omega⟩⟩⟩
 obtain rfl:p=(h', f'):=by simpa using hp
 exact o.up (by omega)
theorem St.start : St 0 [] (begins 1 (Sg.file 1 Hd.zero []) []) 1 1 Hd.zero [(Hd.zero,1)]:=by
 have o:=Ok.zero 1 0
 have h0:=head_few (.inl rfl) o (by omega)
 have hrec:=o.recs
 have hl:=o.len
 have g' := Log.begun (F := []) (B := []) (P:=fun a b=>a=1∧b=Hd.zero) (P' := fun f h=>(h,f) ∈ [(Hd.zero,(1:Int))]) (Fine.synced Peek.nil ⟨rfl,rfl⟩) (f0:=1) (h0:=Hd.zero) Peek.nil ⟨rfl,rfl⟩ (n:=1) (fun q hq=>by simp[Dk.all]at hq) (.inl rfl) o.valid (fun x hx=>⟨(hrec x hx).1,(hrec x hx).2.1⟩) (by omega) (fun f h hp=>by simp[hp.1,hp.2]) (by simp) [] (fun m hm=>by simp at hm)
 have hsb:=(Sane.nil).begins h0
 refine⟨hsb.more (by omega) (by omega),⟨Hd.zero, [],g', by rw[List.append_nil,Hd.of_recs Hd.valid_zero]⟩, .inl rfl,fun p hp => ?_,⟨[],rfl⟩,⟨by omega,by omega⟩⟩
 obtain rfl:p=(Hd.zero,1):=by simpa using hp
 exact o
end
end Wl
end
end Go.Proofs.YtdkdjofnnnljjaaGreatDoor
