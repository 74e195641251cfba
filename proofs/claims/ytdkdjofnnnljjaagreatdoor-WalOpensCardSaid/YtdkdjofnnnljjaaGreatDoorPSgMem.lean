/- Several texts of mine in one: WlLog WlNum WlRepl GSb SgMem. -/
import Derived.Test.YtdkdjofnnnljjaaGreatDoorPGFs
import Derived.Test.YtdkdjofnnnljjaaGreatDoorPDkBuf
import Derived.Test.YtdkdjofnnnljjaaGreatDoorGHc
import Derived.Test.YtdkdjofnnnljjaaGreatDoorPGBm
import Derived.Test.YtdkdjofnnnljjaaGreatDoorPDkMap
import Derived.Test.YtdkdjofnnnljjaaGreatDoorPMsCame
import Derived.Test.YtdkdjofnnnljjaaGreatDoorPDkList
import Derived.Test.YtdkdjofnnnljjaaGreatDoorPDkMath
namespace Go.Proofs.YtdkdjofnnnljjaaGreatDoor
open Go.RowKit
set_option maxHeartbeats 1600000
set_option maxRecDepth 4000
section
theorem Reads.tight{w:World}{v:Value}{l:List UInt8}(h:Reads w v l):InP (fun b=>b<w.heap.size) v:=ReadsP.inP (ReadsP.of_reads h fun _ _ hb=>hb)
theorem RowP.inP{q:Nat→Prop}{w:World}{v:Value}{k:Nat}{rs:List (Array Value)}(h:RowP (fun b _=>q b) w v k rs):InP q v:=by
 intro x n c e h0
 subst e
 obtain⟨ao,cap,e2,_⟩:=h.1
 cases e2
 obtain⟨y,m,d,_,_,_,e3,_,hq⟩:=h.2 h0
 cases e3
 exact hq
theorem InP.both{q q' : Nat→Prop}{v:Value}(h:InP q v)(h' : InP q' v):InP (fun b=>q b∧q' b) v:=fun x n c e h0=>⟨h x n c e h0,h' x n c e h0⟩
theorem HardQ.tight{q:Nat→Prop}{w:World}{h:Hd.Hard}{vi va vc:Value}(r:HardQ q w h vi va vc):HardQ (fun b=>q b∧b<w.heap.size) w h vi va vc :=
 ⟨r.rows,r.pi.both r.img.tight,r.pa.both (RowP.inP (RowP.of_reads (p:=fun b _=>b<w.heap.size) r.acc (by omega) (En.sized _) fun _ _ hb=>hb)),r.pc.both (RowP.inP (RowP.of_reads (p:=fun b _=>b<w.heap.size) r.chs (by omega) (En.sized _) fun _ _ hb=>hb))⟩
def Wl.cells(dv:Value)(n f:Int)(h:Hd.Hard)(vi va vc:Value):Array Value := #[dv, .int .i64 n, .int .i64 f, .int .i64 h.prom.round, .int .i64 h.prom.node, .int .i64 h.base,vi,va,vc]
abbrev Wl.ptr(g:Nat):Value := .pointer (some ⟨g,0,none⟩)
structure LogS(T S:Nat→Prop)(w:World)(g d:Nat)(F:Dk.Files)(B:List Dk.Op)(n f:Int)(h:Hd.Hard)(vi va vc:Value):Prop where
 dsk:DiskAt S w d F B
 sub : ∀k,S k→T k∧k≠g
 here:T g
 lies:Lies w g 78 (Wl.cells (Wl.ptr d) n f h vi va vc)
 hard:HardQ (fun b=>T b ∧ ¬S b∧b≠g) w h vi va vc
def LogAt(T:Nat→Prop)(w:World)(g d:Nat)(F:Dk.Files)(B:List Dk.Op)(n f:Int)(h:Hd.Hard):Prop := ∃S vi va vc,LogS T S w g d F B n f h vi va vc
def LogTo(T:Nat→Prop)(w:World)(g d:Nat)(F:Dk.Files)(B:List Dk.Op)(n f:Int)(h:Hd.Hard)(w' : World):Prop :=
 LogAt (fun j=>T j∨w.heap.size≤j) w' g d F B n f h∧Kp (fun j _ => ¬T j) w w'
section
variable {T S : Nat → Prop} {w w' : World} {g d : Nat} {F F' : Dk.Files} {B B' : List Dk.Op} {n f : Int} {h : Hd.Hard} {vi va vc : Value}
theorem LogS.keep(l:LogS T S w g d F B n f h vi va vc)(hk:Kp (fun k _=>T k) w w'):LogS T S w' g d F B n f h vi va vc :=
 ⟨l.dsk.keep (hk.imp fun b _ _ hs=>(l.sub b hs).1),l.sub,l.here,hk.lies l.lies fun _=>l.here,l.hard.keep (hk.keep fun _ _ _ _ _ hp=>hp.1)⟩
theorem LogS.imp{T' : Nat→Prop}(l:LogS T S w g d F B n f h vi va vc)(ht : ∀k,T k→T' k):LogS T' S w g d F B n f h vi va vc :=
 ⟨l.dsk,fun k hs=>⟨ht k (l.sub k hs).1,(l.sub k hs).2⟩,ht g l.here,l.lies,l.hard.imp fun b hb=>⟨ht b hb.1,hb.2⟩⟩
theorem LogS.tight(l:LogS T S w g d F B n f h vi va vc):LogS (fun k=>T k∧k<w.heap.size) (fun k=>S k∧k<w.heap.size) w g d F B n f h vi va vc :=
 ⟨l.dsk.imp fun _ hlt hs=>⟨hs,hlt⟩,fun k hs=>⟨⟨(l.sub k hs.1).1,hs.2⟩,(l.sub k hs.1).2⟩,⟨l.here,l.lies.lt⟩,l.lies,l.hard.tight.imp fun _ hb=>⟨⟨hb.1.1,hb.2⟩,fun hs=>hb.1.2.1 hs.1,hb.1.2.2⟩⟩
theorem LogS.held(l:LogS T S w g d F B n f h vi va vc)(hd:DiskAt (fun j=>S j∨w.heap.size≤j) w' d F' B')(hk:Kp (fun j _ => ¬S j) w w') :
 LogS (fun j=>T j∨w.heap.size≤j) (fun j=>S j∨w.heap.size≤j) w' g d F' B' n f h vi va vc:=by
 have hg:=l.lies.lt
 refine⟨hd,fun k hs => ?_, .inl l.here,hk.lies l.lies fun _ hs=>(l.sub g hs).2 rfl,((l.hard.tight).keep (hk.keep fun _ _ _ _ _ hp=>hp.1.2.1)).imp fun b hb=>⟨.inl hb.1.1,fun hs => ?_,hb.1.2.2⟩⟩
 ·rcases hs with hs | hs
  ·exact⟨.inl (l.sub k hs).1,(l.sub k hs).2⟩
  ·exact⟨.inr hs,by omega⟩
 ·have:=hb.2
  rcases hs with hs | hs
  ·exact hb.1.2.1 hs
  ·omega
theorem LogAt.keep(l:LogAt T w g d F B n f h)(hk:Kp (fun k _=>T k) w w'):LogAt T w' g d F B n f h:=by
 obtain⟨S,vi,va,vc,l⟩:=l
 exact⟨S,vi,va,vc,l.keep hk⟩
theorem LogAt.imp{T' : Nat→Prop}(l:LogAt T w g d F B n f h)(ht : ∀k,T k→T' k):LogAt T' w g d F B n f h:=by
 obtain⟨S,vi,va,vc,l⟩:=l
 exact⟨S,vi,va,vc,l.imp ht⟩
theorem LogAt.tight(l:LogAt T w g d F B n f h):LogAt (fun k=>T k∧k<w.heap.size) w g d F B n f h:=by
 obtain⟨S,vi,va,vc,l⟩:=l
 exact⟨_,vi,va,vc,l.tight⟩
theorem LogAt.disk(l:LogAt T w g d F B n f h):DiskAt T w d F B:=by
 obtain⟨S,vi,va,vc,l⟩:=l
 exact l.dsk.imp fun k _ hs=>(l.sub k hs).1
theorem LogTo.same(l:LogAt T w g d F B n f h)(hb:Below w.heap.size w w'):LogTo T w g d F B n f h w' := ⟨(l.keep (Kp.all hb)).imp fun _ ht => .inl ht,Kp.all hb⟩
end
structure Env(n0:Nat)(w:World):Prop where
 size:n0≤w.heap.size
 stay : ∀W,Below n0 w W→CrcTab W∧WordsIn W
theorem Env.on{n0:Nat}{w w' : World}(e:Env n0 w)(hb:Below n0 w w'):Env n0 w' := ⟨Nat.le_trans e.size hb.size,fun W h=>e.stay W (hb.trans h)⟩
theorem Env.up{n0:Nat}{w w' : World}(e:Env n0 w)(hb:Below w.heap.size w w'):Env n0 w' := e.on (hb.mono e.size)
theorem Env.kp{n0:Nat}{T:Nat→Prop}{w w' : World}(e:Env n0 w)(ht : ∀k,T k→n0≤k)(hk:Kp (fun j _ => ¬T j) w w'):Env n0 w' := e.on (hk.below e.size fun b _ hb _ h=>by have:=ht b h;omega)
theorem Env.crc{n0:Nat}{w:World}(e:Env n0 w):CrcTab w:=(e.stay w (Below.refl _ _)).1
theorem Env.words{n0:Nat}{w:World}(e:Env n0 w):WordsIn w:=(e.stay w (Below.refl _ _)).2
section
variable {T : Nat → Prop} {w : World} {g d : Nat} {F : Dk.Files} {B : List Dk.Op} {n f : Int} {h : Hd.Hard}
theorem syncWl_any(l:LogAt T w g d F B n f h)(hk:Dk.Kinds B)(hs:Dk.wt F+2*Dk.wtB B≤17592186044416) :
 Calls Tryz.prog 14 #[Wl.ptr g] w fun e w' => e = .returned (.tuple #[])∧LogTo T w g d (Dk.all F B) [] n f h w' := by
 obtain⟨S,vi,va,vc,l⟩:=l
 have HC:=Lib.hid (sync_any l.dsk hk hs)
 have c0:w.cell? ⟨g,0,none⟩=some (Wl.ptr d):=l.lies.cell 0 _ rfl
 have HL:=Lib.hid l
 clear l hk hs
 go_enter Tryz.func14,Tryz.ntmps14
 go_wp2_with (go_at_call 45;refine HC.out.mono ?_;rintro e w' ⟨rfl,hd,hkp⟩)
 go_end0
 exact⟨rfl,⟨_,vi,va,vc,HL.out.held hd hkp⟩,hkp.imp fun b _ _ ht hs=>ht (HL.out.sub b hs).1⟩
theorem formatWl_any(l:LogAt T w g d F B n f h):Calls Tryz.prog 23 #[Wl.ptr g] w (Says w (.int .i64 f)):=by
 obtain⟨S,vi,va,vc,l⟩:=l
 have c2:w.cell? ⟨g,2,none⟩=some (.int .i64 f):=l.lies.cell 2 _ rfl
 clear l
 go_enter Tryz.func23,Tryz.ntmps23
 go_wp2
 go_ret
 exact⟨rfl,rfl⟩
theorem dirtyWl_any(l:LogAt T w g d F B n f h)(hs:Dk.wtB B≤1099511627776):Calls Tryz.prog 29 #[Wl.ptr g] w (Looks w (.bool (decide (0<B.length)))):=by
 obtain⟨S,vi,va,vc,l⟩:=l
 have HC:=Lib.hid (buffered_any l.dsk hs)
 have c0:w.cell? ⟨g,0,none⟩=some (Wl.ptr d):=l.lies.cell 0 _ rfl
 clear l hs
 go_enter Tryz.func29,Tryz.ntmps29
 go_wp2_with (go_at_call 28;refine HC.out.mono ?_;rintro e w' ⟨v,rfl,hv,hb⟩;obtain⟨o,c,rfl,_,_⟩:=hv.shape;have HB:=Lib.hid hb;clear hv hb)
 go_ret
 exact⟨rfl,HB.out⟩
theorem load_hardL{ops:Array Oper}{rest:List Oper}{op:Oper}{a:Act}{Q:Exit→Act→World→Prop}{dv vi va vc:Value}(hgd:op.guard=none)(x:Operand)(ho:op.op = .load 33 x)(hx:a.eval x = .pointer (some ⟨g,3,none⟩))(hl:Lies w g 78 (Wl.cells dv n f h vi va vc))
 (hK:wpList Tryz.prog ops Q rest (a.put op.dst (.agg (Hd.cells h vi va vc))) w):wpList Tryz.prog ops Q (op :: rest) a w :=
 wpList_load_mid hgd _ x ho g 3 hx (Hd.cells h vi va vc).toList _ (fun j v hv=>by
  have hv' : (Hd.cells h vi va vc)[j]? = some v:=by simpa using hv
  have:(Wl.cells dv n f h vi va vc)[3+j]? = some v:=by
   match j,hv' with
   | 0,hv=>exact hv
   | 1,hv=>exact hv
   | 2,hv=>exact hv
   | 3,hv=>exact hv
   | 4,hv=>exact hv
   | 5,hv=>exact hv
   | j+6,hv=>simp[Hd.cells]at hv
  exact hl.cell (3+j) v this) Tryz.underlying33 rfl (by kernel_rfl) hK
theorem hardWl_any(l:LogAt T w g d F B n f h)(hf:h.Few):Calls Tryz.prog 22 #[Wl.ptr g] w (MadeQ (fun b=>w.heap.size≤b) w h):=by
 obtain⟨S,vi,va,vc,l⟩:=l
 obtain⟨w1,e1,hz1,hB1,hs1⟩:=box_zero w 33
 have HL1:=Lib.hid (l.lies.below hB1 l.lies.lt)
 have HZ1:=Lib.hid hz1;have HB1:=Lib.hid hB1
 have HC:=Lib.hid (cloneH_q h vi va vc w1 (l.hard.rows.below hB1) hf)
 clear hz1 hB1 l hf hs1
 go_enter Tryz.func22,Tryz.ntmps22
 go_wp2_with (refine load_hardL rfl _ rfl rfl HL1.out ?_)
 refine HC.out.mono ?_
 rintro e w3 ⟨ui,ua,uc,rfl,hr3,hb3⟩
 have HR3:=Lib.hid hr3
 have HB3:Hid (Below w.heap.size w w3):=HB1.out.trans (hb3.mono HB1.out.size)
 have HZ3:=Lib.hid (HZ1.out.below hb3 HZ1.out.lies.lt)
 have HX3:Hid (SixAt (w3.alloc (.cells (Hd.cells h ui ua uc) 33)) w3.heap.size 33 h.prom h.base ui ua uc):=⟨Lies.new _ _ _,hr3.rows.sl.1,hr3.rows.sl.2.1,hr3.rows.sl.2.2⟩
 clear hr3 hb3
 go_wp2_with (refine store_hard rfl _ _ rfl rfl HZ3.out HX3.out rfl ?_;intro w9 hx9 hg9;have HX9:=Lib.hid hx9;have HG9:=Lib.hid hg9;clear hx9 hg9)
 refine ret_hard1 rfl rfl HX9.out rfl ?_
 exact⟨_,_,_,rfl,(HR3.out.over HZ3.out HG9.out).imp fun b hb=>Nat.le_trans HB1.out.size hb,HB3.out.grown HG9.out HB3.out.size (by rintro j hj;cases hj;exact Nat.le_refl _)⟩
end
end
end Go.Proofs.YtdkdjofnnnljjaaGreatDoor

namespace Go.Proofs.YtdkdjofnnnljjaaGreatDoor
open Go.RowKit
set_option maxHeartbeats 3200000
set_option maxRecDepth 8000
theorem Wl.lastF_take{F:Dk.Files}{k:Nat}{q:Int × List UInt8}(h:F[k]? = some q):Wl.lastF (F.take (k+1))=max (Wl.lastF (F.take k)) q.1:=by rw[List.take_add_one,h];exact Wl.lastF_snoc _ _
theorem Wl.lastB_take{a:Int}{B:List Dk.Op}{k:Nat}{x:Dk.Op}(h:B[k]? = some x):Wl.lastB a (B.take (k+1))=if x.kind=1 then max (Wl.lastB a (B.take k)) x.no else Wl.lastB a (B.take k):=by rw[List.take_add_one,h];exact Wl.lastB_snoc _ _ _
theorem nextWl_any{S:Nat→Prop}{w:World}{d:Nat}{F:Dk.Files}{B:List Dk.Op}(h:DiskAt S w d F B){N M:Nat}(s:Wl.Sane F B N M)(hN:N≤1000)(hM:M≤1000000000) :
 Calls Tryz.prog 68 #[Wl.ptr d] w (Looks w (.int .i64 (Wl.next F B))):=by
 have hw:=s.wt
 have hlf:=Dk.len_wt F;have hlb:=Dk.len_wtB B
 have HC:=Lib.hid (files_any h (by omega))
 have HCB:=Lib.hid (fun W (hb:Below w.heap.size w W)=>buffered_any (h.below hb) (by omega))
 have hnext:=s.next
 obtain⟨z,hz⟩ : ∃z,z=Wl.next F B:=⟨_,rfl⟩
 rw[← hz]at hnext ⊢
 have HZ:=Lib.hid hz
 have hz9:z≤1001:=by omega
 have hz1:=Wl.next_pos F B
 rw[← hz]at hz1
 have hF9:F.length≤1000000000:=by omega
 have hB9:B.length≤1000000000:=by omega
 clear h s hN hM hw hz hnext hlf hlb
 go_enter Tryz.func68,Tryz.ntmps68
 go_wp2_with (go_at_call 25;refine HC.out.mono ?_;rintro e w1 ⟨v1,rfl,hf1,hb1⟩;obtain⟨fo,fc,rfl,hc1,hm1⟩:=hf1.shape)
 have HP:=Lib.hid (fun x=>ListP.places hf1 (fun a u=>⟨_,rfl⟩) x)
 have HB1:=Lib.hid hb1
 obtain⟨n,hn⟩ : ∃n,n=F.length:=⟨_,rfl⟩
 rw[← hn]at hc1 HP hF9 ⊢
 have HN:=Lib.hid hn
 have hn9:(n:Int)≤1000000000:=by omega
 clear hf1 hb1 hn HC
 go_wp2
 go_loopw [3,11] (fun y i wr => ∃(k:Nat) (m:Int),i = .int .i64 (k:Int)∧k≤n∧y = .int .i64 m∧Hid (m=Wl.lastF (F.take k))∧Hid (Below w1.heap.size w1 wr)) (fun _ i _=>n - (intOf i).toNat)
 case atStart=>exact⟨0,0,rfl,by omega,rfl,rfl,Below.refl _ _⟩
 case round =>
  obtain⟨k,m,rfl,hk,rfl,HM,HB⟩:=hrel
  by_cases hlt:k<n
  ·have hki:(k:Int)<(n:Int):=by omega
   obtain⟨q,hq⟩ : ∃q,F[k]? = some q:=⟨_,List.getElem?_eq_getElem (by have:=HN.out;omega)⟩
   obtain⟨g,off,rfl,_,hc⟩:=HP.out (by have:=HN.out;omega)
   obtain⟨u,hu,hcell⟩:=hc k q hq
   obtain⟨uo,uc,rfl⟩:=hu.1.shape
   have hcw:=hcell wr HB.out
   have m0:wr.cell? ⟨g,off+k*2,none⟩=some (.int .i64 q.1):=hcw 0 _ rfl
   have m1:wr.cell? ⟨g,off+k*2+1,none⟩=some (.slice uo q.2.length uc):=hcw 1 _ rfl
   obtain⟨m2,hm2⟩ : ∃m2,max m q.1=m2:=⟨_,rfl⟩
   have HM2:Hid (m2=Wl.lastF (F.take (k+1))):=by show _=_;rw[Wl.lastF_take hq, ← HM.out,hm2]
   have HBA:Hid (Below w1.heap.size w1 (wr.alloc (.cells (Dk.cellF q (.slice uo q.2.length uc)) 72))):=HB.out.alloc HB.out.size _
   clear hc hu hcell hcw hq
   go_wp2
   go_roundw
   case rel=>exact⟨k+1,m2,by go_num,by omega,rfl,HM2.out,HBA.out⟩
   case measure=>simp[intOf];omega
  ·obtain rfl:n=k:=by omega
   have HLF:Hid (m=Wl.lastF F):=by have h:=HM.out;rw[List.take_of_length_le (by have:=HN.out;omega)]at h;exact h
   have HBW:Hid (Below w.heap.size w wr):=HB1.out.trans (HB.out.mono HB1.out.size)
   have HCW:=Lib.hid (HCB.out wr HBW.out)
   go_wp2_with (go_at_call 28;refine HCW.out.mono ?_;rintro e w2 ⟨v2,rfl,ho2,hb2⟩;obtain⟨bo,bc,rfl,hc2,hm2⟩:=ho2.shape)
   have HPB:=Lib.hid (fun x=>ListP.places ho2 (fun a u=>⟨_,rfl⟩) x)
   have HB2:Hid (Below w.heap.size w w2):=HBW.out.trans (hb2.mono HBW.out.size)
   obtain⟨nb,hnb⟩ : ∃n,n=B.length:=⟨_,rfl⟩
   rw[← hnb]at hc2 HPB hB9 ⊢
   have HNB:=Lib.hid hnb
   have hnb9:(nb:Int)≤1000000000:=by omega
   clear ho2 hb2 hnb HCB HCW HM HB HBW
   go_wp2
   go_loopw [3,23] (fun y i wr => ∃(k:Nat) (p:Int),i = .int .i64 (k:Int)∧k≤nb∧y = .int .i64 p∧Hid (p=Wl.lastB m (B.take k))∧Hid (Below w2.heap.size w2 wr)) (fun _ i _=>nb - (intOf i).toNat)
   case atStart=>exact⟨0,m,rfl,by omega,rfl,rfl,Below.refl _ _⟩
   case round =>
    obtain⟨k,p,rfl,hk,rfl,HM,HB⟩:=hrel
    by_cases hlt:k<nb
    ·have hki:(k:Int)<(nb:Int):=by omega
     obtain⟨q,hq⟩ : ∃q,B[k]? = some q:=⟨_,List.getElem?_eq_getElem (by have:=HNB.out;omega)⟩
     obtain⟨g,off,rfl,_,hc⟩:=HPB.out (by have:=HNB.out;omega)
     obtain⟨u,hu,hcell⟩:=hc k q hq
     obtain⟨uo,uc,rfl⟩:=hu.1.shape
     have hcw:=hcell wr HB.out
     have m0:wr.cell? ⟨g,off+k*3,none⟩=some (.int .i64 q.kind):=hcw 0 _ rfl
     have m1:wr.cell? ⟨g,off+k*3+1,none⟩=some (.int .i64 q.no):=hcw 1 _ rfl
     have m2:wr.cell? ⟨g,off+k*3+2,none⟩=some (.slice uo q.data.length uc):=hcw 2 _ rfl
     obtain⟨m3,hm3⟩ : ∃m3,max p q.no=m3:=⟨_,rfl⟩
     have HT:=Lib.hid (Wl.lastB_take (a:=m) hq)
     have HBA:Hid (Below w2.heap.size w2 (wr.alloc (.cells (Dk.cellO q (.slice uo q.data.length uc)) 91))):=HB.out.alloc HB.out.size _
     clear hc hu hcell hcw hq
     by_cases hk1:q.kind=1
     ·have hkb:(q.kind == 1)=true:=by simpa using hk1
      have HM2:Hid (m3=Wl.lastB m (B.take (k+1))):=by show _=_;rw[HT.out,if_pos hk1, ← HM.out,hm3]
      clear hk1
      go_wp2
      go_roundw
      case rel=>exact⟨k+1,m3,by go_num,by omega,rfl,HM2.out,HBA.out⟩
      case measure=>simp[intOf];omega
     ·have hkb:(q.kind == 1)=false:=by simpa using hk1
      have HM2:Hid (p=Wl.lastB m (B.take (k+1))):=by show _=_;rw[HT.out,if_neg hk1];exact HM.out
      clear hk1 hm3
      go_wp2
      go_roundw
      case rel=>exact⟨k+1,p,by go_num,by omega,rfl,HM2.out,HBA.out⟩
      case measure=>simp[intOf];omega
    ·obtain rfl:nb=k:=by omega
     have hpz:p+1=z:=by
      have h:=HM.out
      rw[List.take_of_length_le (by have:=HNB.out;omega)]at h
      rw[HZ.out,h,HLF.out]
      rfl
     have HBF:Hid (Below w.heap.size w wr):=HB2.out.trans (HB.out.mono HB2.out.size)
     obtain rfl:p=z - 1:=by omega
     clear hpz HM
     go_wp2
     go_ret
     exact⟨by first | rfl | (trace_state;simp),HBF.out⟩
end Go.Proofs.YtdkdjofnnnljjaaGreatDoor

namespace Go.Proofs.YtdkdjofnnnljjaaGreatDoor
open Go.RowKit
set_option maxHeartbeats 3200000
set_option maxRecDepth 8000
section
section
variable {ops : Array Oper} {rest : List Oper} {op : Oper} {a : Act} {w : World} {Q : Exit → Act → World → Prop} {g : Nat} {dv : Value} {n f : Int} {h : Hd.Hard} {vi va vc : Value}
theorem store_no(hgd:op.guard=none)(x y:Operand)(ho:op.op = .store 3 x y)(m:Int)(hx:a.eval x = .pointer (some ⟨g,1,none⟩))(hy:a.eval y = .int .i64 m)(hl:Lies w g 78 (Wl.cells dv n f h vi va vc))
 (hK : ∀w', Lies w' g 78 (Wl.cells dv m f h vi va vc)→w.grownBy w' (some g)→wpList Tryz.prog ops Q rest (a.put op.dst undef) w'):wpList Tryz.prog ops Q (op :: rest) a w :=
 store_part hgd _ x y ho g 1 _ _ (Wl.cells dv m f h vi va vc) (.int .i64 m) [.int .i64 m] hx hy rfl (by kernel_rfl) rfl hl (Nat.le_of_ble_eq_true rfl) rfl hK
end
theorem LogS.turn{T S:Nat→Prop}{w w' : World}{g d:Nat}{F:Dk.Files}{B:List Dk.Op}{n f m f' : Int}{h:Hd.Hard}{vi va vc:Value}(l:LogS T S w g d F B n f h vi va vc)(hl:Lies w' g 78 (Wl.cells (Wl.ptr d) m f' h vi va vc))(hg:w.grownBy w' (some g)):LogS T S w' g d F B m f' h vi va vc :=
 ⟨l.dsk.keep (Kp.of_grown hg fun b o e _ hs=>by simp only[Option.some.injEq]at e;subst e;exact(l.sub _ hs).2 rfl),l.sub,l.here,hl,l.hard.keep (Keep.of_grown hg fun b cs t fr e _ hp=>by simp only[Option.some.injEq]at e;subst e;exact hp.2.2 rfl)⟩
def Replaced(T S:Nat→Prop)(w:World)(g d:Nat)(F:Dk.Files)(B:List Dk.Op)(n f:Int)(h:Hd.Hard)(vi va vc:Value)(e:Ending)(w' : World):Prop :=
 e = .returned (.tuple #[]) ∧ ∃S', LogS (fun j=>T j∨w.heap.size≤j) S' w' g d F B n f h vi va vc∧(∀j,S' j→S j∨w.heap.size≤j)∧Kp (fun j _ => ¬S j∧j≠g) w w'
theorem Wl.begins_snoc(n:Int)(head:List UInt8)(V:Dk.Files)(q:Int × List UInt8):Wl.begins n head (V ++ [q])=Wl.begins n head V ++ [⟨3,q.1, []⟩]:=by simp[Wl.begins]
theorem Wl.begins_len(n:Int)(head:List UInt8)(V:Dk.Files):(Wl.begins n head V).length=V.length+2:=by simp[Wl.begins]
theorem replaceWl_any{T S:Nat→Prop}{w:World}{g d:Nat}{F:Dk.Files}{B:List Dk.Op}{n0 f:Int}{h:Hd.Hard}{vi va vc:Value}(l:LogS T S w g d F B n0 f h vi va vc)(hS : ∀k,S k→k<w.heap.size)(n:Int)(hn:1≤n∧n≤4294967296)
 (v:Value) (head:List UInt8) (hv:Reads w v head) (hvp:InP (fun b => ¬S b) v) (hh:head.length≤1000000) {N M:Nat} (s:Wl.Sane F B N M) (hN:N≤1000) (hM:M≤1000000000) :
 Calls Tryz.prog 67 #[Wl.ptr g, .int .i64 n,v] w (Replaced T S w g d F (B++Wl.begins n head (Dk.all F B)) n f h vi va vc):=by
 have hw:=s.wt
 have hkinds:=s.kinds hN
 have hcount:=s.count
 have hnos : ∀q∈Dk.all F B,1≤q.1∧q.1≤4294967296:=fun q hq=>by have:=s.all.files q hq;omega
 have hlb:=Dk.len_wtB B
 have HC:=Lib.hid (view_any l.dsk hkinds (by omega))
 obtain⟨vo,vcap,rfl⟩:=hv.shape
 have HL:=Lib.hid l;have HV:=Lib.hid hv;have HVP:=Lib.hid hvp;have HH:=Lib.hid hh;have HN:=Lib.hid hn;have HNO:=Lib.hid hnos;have HS:=Lib.hid hS
 have c0:w.cell? ⟨g,0,none⟩=some (Wl.ptr d):=l.lies.cell 0 _ rfl
 obtain⟨V,hV⟩ : ∃V,V=Dk.all F B:=⟨_,rfl⟩
 rw[← hV]at HC HNO hcount ⊢
 have HVC:Hid (V.length≤1000):=Nat.le_trans hcount hN
 have HBL:Hid (B.length≤1000000000):=by show _≤_;omega
 clear l hv hvp hh hn hnos s hN hM hw hkinds hlb hS hV hcount
 go_enter Tryz.func67,Tryz.ntmps67
 go_wp2_with (go_at_call 51;refine HC.out.mono ?_;rintro e w1 ⟨v1,rfl,hf1,hb1⟩;obtain⟨fo,fc,rfl,hc1,hm1⟩:=hf1.shape;have hl1:=HL.out.keep (Kp.all hb1);have c1:w1.cell? ⟨g,0,none⟩=some (Wl.ptr d):=hl1.lies.cell 0 _ rfl;have HMK:=Lib.hid (make_any hl1.dsk n (by have:=HBL.out;omega)))
 have HKC:Hid (∀W,Kp (fun j _ => ¬S j) w1 W→W.cell? ⟨g,0,none⟩=some (Wl.ptr d)):=fun W hk=>(hk.lies hl1.lies fun _ hs=>(HL.out.sub g hs).2 rfl).cell 0 _ rfl
 have HKV:Hid (∀W,Kp (fun j _ => ¬S j) w1 W→Reads W (.slice vo head.length vcap) head):=fun W hk=>((Reads.inP (HV.out.below hb1) HVP.out).keep (hk.keep fun _ _ _ _ _ hp=>hp)).1
 have HKF:Hid (∀W,Kp (fun j _ => ¬S j) w1 W→FilesP (fun k _=>w.heap.size≤k) W (.slice fo V.length fc) V):=fun W hk=>ListP.keep hf1 (hk.keep fun b _ _ _ _ hp hs=>by have:=HS.out b hs;exact absurd hp (by omega))
 have HL1:=Lib.hid hl1;have HB1:=Lib.hid hb1
 clear hf1 hb1 hl1 HC HV HVP c0
 refine HMK.out.mono ?_
 rintro e w2 ⟨rfl,hd2,hk2⟩
 rw[if_pos HN.out]at hd2
 have c2:=HKC.out w2 hk2
 have HD2:=Lib.hid hd2;have HK2:=Lib.hid hk2
 have HAD:=Lib.hid (add_any hd2 n (.slice vo head.length vcap) head (HKV.out w2 hk2) (by have:=HH.out;omega) (by rw[List.length_append];have:=HBL.out;simp;omega))
 clear hd2 hk2 HMK c1
 go_wp2_with fail
 refine HAD.out.mono ?_
 rintro e w3 ⟨rfl,hd3,hk3⟩
 rw[if_pos HN.out]at hd3
 have hs2:=HK2.out.size
 have hD3:DiskAt (fun j=>S j∨w1.heap.size≤j) w3 d F (B++Wl.begins n head (V.take 0)):=by
  have e:B++Wl.begins n head (V.take 0)=B ++ [⟨1,n, []⟩] ++ [⟨2,n,head⟩]:=by simp[Wl.begins]
  rw[e]
  exact hd3.imp fun j _ hs=>by
   rcases hs with hs | hs
   ·exact hs
   ·exact .inr (Nat.le_trans hs2 hs)
 have hK3:Kp (fun j _ => ¬S j) w1 w3:=HK2.out.then hk3 fun b o h hs hs' => by
  rcases hs' with hs' | hs'
  ·exact hs hs'
  ·have:=lt_of_obj h;omega
 have HD3:=Lib.hid hD3;have HK3:=Lib.hid hK3
 obtain⟨m,hm⟩ : ∃m,m=V.length:=⟨_,rfl⟩
 have HM:=Lib.hid hm
 rw[← hm]at hc1 HKF ⊢
 have hm9:(m:Int)≤1000:=by have:=HVC.out;omega
 clear hd3 hk3 hD3 hK3 HAD c2 HD2 HK2 hs2 hm
 go_wp2
 go_loopw [29] (fun i wr => ∃k:Nat,i = .int .i64 (k:Int)∧k≤m∧Hid (DiskAt (fun j=>S j∨w1.heap.size≤j) wr d F (B++Wl.begins n head (V.take k)))∧Hid (Kp (fun j _ => ¬S j) w1 wr)) (fun i _=>m - (intOf i).toNat)
 case atStart=>exact⟨0,rfl,by omega,HD3.out,HK3.out⟩
 case round =>
  clear HD3 HK3
  obtain⟨k,rfl,hk,HD,HK⟩:=hrel
  by_cases hlt:k<m
  ·have hki:(k:Int)<(m:Int):=by omega
   obtain⟨q,hq⟩ : ∃q,V[k]? = some q:=⟨_,List.getElem?_eq_getElem (by have:=HM.out;omega)⟩
   obtain⟨fg,off,rfl,_,hc⟩:=ListP.places (HKF.out wr HK.out) (fun a u=>⟨_,rfl⟩) (by have:=HM.out;omega)
   obtain⟨u,hu,hcell⟩:=hc k q hq
   obtain⟨uo,uc,rfl⟩:=hu.1.shape
   have hcw:=hcell wr (Below.refl _ _)
   have m0:wr.cell? ⟨fg,off+k*2,none⟩=some (.int .i64 q.1):=hcw 0 _ rfl
   have m1:wr.cell? ⟨fg,off+k*2+1,none⟩=some (.slice uo q.2.length uc):=hcw 1 _ rfl
   have HQ:=Lib.hid (HNO.out q (List.mem_of_getElem? hq))
   have HT:Hid (Wl.begins n head (V.take (k+1))=Wl.begins n head (V.take k) ++ [⟨3,q.1, []⟩]):=by show _=_;rw[List.take_add_one,hq];exact Wl.begins_snoc _ _ _ _
   obtain⟨w4,e4⟩ : ∃w4,w4=wr.alloc (.cells (Dk.cellF q (.slice uo q.2.length uc)) 72):=⟨_,rfl⟩
   have hl4:Lies w4 wr.heap.size 72 (Dk.cellF q (.slice uo q.2.length uc)):=by rw[e4];exact Lies.new _ _ _
   have hb4:Below wr.heap.size wr w4:=by rw[e4];exact(Below.refl _ wr).alloc (Nat.le_refl _) _
   dsimp only [Dk.cellF]at e4
   have HL4:=Lib.hid hl4;have HB4:=Lib.hid hb4
   have HD4:=Lib.hid (((HD.out.imp (S' := fun j=>(S j∨w1.heap.size≤j)∧j<wr.heap.size) fun _ hlt hs=>⟨hs,hlt⟩).below hb4).below (drawn w4 1))
   have HK4:Hid (Kp (fun j _ => ¬S j) w1 w4.drew):=HK.out.trans ((Kp.all hb4).trans (Kp.drew w4))
   have HCL:=Lib.hid (drop_any HD4.out q.1 (by rw[List.length_append,Wl.begins_len,List.length_take];have:=HBL.out;have:=HVC.out;omega))
   have k0:=HKC.out _ HK4.out
   have k1:w4.drew.cell? ⟨wr.heap.size,0,none⟩=some (.int .i64 q.1):=(hl4.below (drawn w4 1) hl4.lt).cell 0 _ rfl
   clear hc hu hcell hcw hq hl4 hb4
   go_wp2
   rw[← e4]
   clear e4 m0 m1
   refine wp_region_held_drew (S:=fun W=>W.cell? ⟨g,0,none⟩=some (Wl.ptr d)∧W.cell? ⟨wr.heap.size,0,none⟩=some (.int .i64 q.1)) (by kernel_rfl) ⟨k0,k1⟩ (fun hHeld => ?_)
   clear k0 k1
   refine wpT 0 rfl hHeld ?_
   refine wpT 1 rfl hHeld ?_
   refine wpT 2 rfl hHeld ?_
   refine wpT 3 rfl hHeld ?_ (by intro W hSw;obtain⟨s1,s2⟩:=hSw;go_simp;(try with_reducible rfl))
   refine wpT 4 rfl hHeld ?_
   refine wpT 5 rfl hHeld ?_ (by intro W hSw;obtain⟨s1,s2⟩:=hSw;go_simp;(try with_reducible rfl))
   refine wpAnyH_ready (rs := [6]) (by kernel_rfl) (by simp) ?_
   refine AllReadyH.cons rfl (fun K hK => ?_) AllReadyH.nil
   rw[if_pos (by kernel_rfl)]
   go_simp
   go_at_call 89
   refine HCL.out.mono ?_
   rintro e w5 ⟨rfl,hd5,hk5⟩
   rw[if_pos HQ.out]at hd5
   have hs4:=HK4.out.size
   have hK5:Kp (fun j _ => ¬S j) w1 w5:=HK4.out.then hk5 fun b o h hs hs' => by
    rcases hs'.1 with hs' | hs'
    ·exact hs hs'
    ·have:=lt_of_obj h;omega
   have hD5:DiskAt (fun j=>S j∨w1.heap.size≤j) w5 d F (B++Wl.begins n head (V.take (k+1))):=by
    rw[HT.out, ← List.append_assoc]
    exact hd5.imp fun j _ hs=>by
     rcases hs with hs | hs
     ·exact hs.1
     ·exact .inr (Nat.le_trans hs4 hs)
   have h1:w5.cell? ⟨wr.heap.size,0,none⟩=some (.int .i64 q.1):=(hk5.lies (HL4.out.below (drawn w4 1) HL4.out.lt) fun _ hs=>Nat.lt_irrefl _ hs.2).cell 0 _ rfl
   have HD5:=Lib.hid hD5;have HK5:=Lib.hid hK5
   refine hK.out _ _ ⟨HKC.out w5 hK5,h1⟩ (fun hHeld => ?_)
   clear hK K hd5 hk5 hD5 hK5 h1 hs4
   refine wpAnyH_done (by kernel_rfl) ?_ _
   clear hHeld
   go_wp2
   go_roundw
   case rel=>exact⟨k+1,by go_num,by omega,HD5.out,HK5.out⟩
   case measure=>simp[intOf];omega
  ·obtain rfl:m=k:=by omega
   have hall:V.take m=V:=List.take_of_length_le (by have:=HM.out;omega)
   rw[hall]at HD
   have hl9:=HL1.out.held HD.out HK.out
   have HL9:=Lib.hid hl9
   have hc9:=hl9.lies
   clear hall hl9
   go_wp2_with (refine store_no rfl _ _ rfl n rfl rfl HL9.out.lies ?_;intro w9 hl9 hg9;have HLL:=Lib.hid hl9;have HG9:=Lib.hid hg9;clear hl9 hg9)
   go_end0
   have hs1:=HB1.out.size
   refine⟨rfl,_,(HL9.out.turn HLL.out HG9.out).imp fun j hj => ?_,fun j hj => ?_, ?_⟩
   ·rcases hj with hj | hj
    ·exact .inl hj
    ·exact .inr (Nat.le_trans hs1 hj)
   ·rcases hj with hj | hj
    ·exact .inl hj
    ·exact .inr (Nat.le_trans hs1 hj)
   ·exact((Kp.all HB1.out).trans (HK.out.imp fun b o _ h=>h.1)).trans (Kp.of_grown HG9.out fun b o e _ h=>by simp only[Option.some.injEq]at e;exact h.2 e.symm)
end
end Go.Proofs.YtdkdjofnnnljjaaGreatDoor

namespace Go.Proofs.YtdkdjofnnnljjaaGreatDoor
open Go.RowKit
section
theorem info_recN : (Tryz.prog.info? 42).map (fun i=>(i.zero,i.size,i.bytes))=some (some (.agg (Re.cells Re.zero (.slice none 0 0))),12,136):=by kernel_rfl
abbrev RecsQ(q:Nat→Prop)(w:World)(base:Nat)(v:Value)(l:List Re.Rec):Prop:=ListO 12 Re.cells Re.Rec.img (fun b _=>q b) w base 42 v l
section
variable {q : Nat → Prop} {w w' W : World} {base : Nat} {v : Value} {l : List Re.Rec}
theorem RecsQ.reads(h:RecsQ q w base v l):RecsP (fun k _=>k<w.heap.size) w v l :=
 ListO.reads (ListO.imp h fun b cs t fr e _=>lt_of_obj e) cellR_ok fun g e=>by obtain⟨cs,hc,_⟩:=ListO.blocks h e;exact lt_of_obj hc
theorem RecsQ.shape(h:RecsQ q w base v l) : ∃o c,v = .slice o l.length c:=by
 obtain⟨ps,e,h1,_⟩:=h
 obtain⟨a,c,e2⟩:=OwnsR.shape h1
 rw[rowsOf_len, ← e]at e2
 exact⟨a,c,e2⟩
theorem RecsQ.behind(h:RecsQ q w base v l)(hb:Below base W w)(hs:base≤W.heap.size)(hg:w.grownBy w' v.ownBlock):Below base W w' :=
 hb.grown hg (Nat.le_trans hs hb.size) fun g e=>by obtain⟨_,_,h2⟩:=ListO.blocks h e;exact h2
end
abbrev RecsN(n:Nat)(w:World)(base:Nat)(v:Value)(l:List Re.Rec):Prop:=RecsQ (fun b=>b<n) w base v l
section
variable {n : Nat} {w w' W : World} {base : Nat} {v : Value} {l : List Re.Rec}
theorem RecsN.reads(h:RecsN n w base v l):RecsP (fun k _=>k<w.heap.size) w v l:=RecsQ.reads h
theorem RecsN.shape(h:RecsN n w base v l) : ∃o c,v = .slice o l.length c:=RecsQ.shape h
theorem RecsN.behind(h:RecsN n w base v l)(hb:Below base W w)(hs:base≤W.heap.size)(hg:w.grownBy w' v.ownBlock):Below base W w' := RecsQ.behind h hb hs hg
end
end
theorem RecsQ.mono{q:Nat→Prop}{w:World}{base b:Nat}{v:Value}{l:List Re.Rec}(h:RecsQ q w base v l)(hb:b≤base):RecsQ q w b v l:=by
 obtain⟨ps,e,h1,h2⟩:=h
 exact⟨ps,e,OwnsR.mono h1 hb,h2⟩
def Sg.hasAll(f:Int):List Re.Rec→Int
 | []=>0
 | x :: r=>if Re.olderIn f x≠0 then Re.olderIn f x else Sg.hasAll f r
def Sg.has(f:Int)(l:List Re.Rec):Int:=if f<1∨2<f then 8 else Sg.hasAll f l
theorem Sg.hasAll_step{f:Int} : ∀ {l:List Re.Rec} {k:Nat} {x:Re.Rec},(∀c∈l.take k,Re.olderIn f c=0)→l[k]? = some x→Re.olderIn f x≠0→Sg.hasAll f l=Re.olderIn f x
 | [],_,_,_,h,_=>by simp at h
 | a :: r,0,x,_,h,hx=>by
  obtain rfl:a=x:=by simpa using h
  unfold Sg.hasAll
  rw[if_pos hx]
 | a :: r,k+1,x,h0,h,hx=>by
  unfold Sg.hasAll
  rw[if_neg (by rw[h0 a (by simp)];simp)]
  exact Sg.hasAll_step (k:=k) (fun c hc=>h0 c (by rw[List.take_succ_cons];exact List.mem_cons_of_mem _ hc)) (by simpa using h) hx
theorem Sg.hasAll_none{f:Int} : ∀ {l:List Re.Rec},(∀c∈l,Re.olderIn f c=0)→Sg.hasAll f l=0
 | [],_=>rfl
 | a :: r,h=>by
  unfold Sg.hasAll
  rw[if_neg (by rw[h a (by simp)];simp)]
  exact Sg.hasAll_none fun c hc=>h c (by simp[hc])
theorem Sg.hasAll_iff{f:Int} : ∀(l:List Re.Rec),Sg.hasAll f l=0 ↔ ∀c∈l,Re.olderIn f c=0
 | []=>by simp[Sg.hasAll]
 | a :: r=>by
  unfold Sg.hasAll
  by_cases h:Re.olderIn f a=0
  ·rw[if_neg (by rw[h];simp),Sg.hasAll_iff r]
   simp[h]
  ·rw[if_pos h]
   simp[h]
end Go.Proofs.YtdkdjofnnnljjaaGreatDoor

namespace Go.Proofs.YtdkdjofnnnljjaaGreatDoor
open Go.RowKit
section
def Sg.cells(f:Int)(h:Hd.Hard)(vi va vc:Value)(n e:Int):Array Value := #[.int .i64 f, .int .i64 h.prom.round, .int .i64 h.prom.node, .int .i64 h.base,vi,va,vc, .int .i64 n, .int .i64 e]
structure Conts(w:World)(g:Nat)(f:Int)(h:Hd.Hard)(vi va vc:Value)(n e:Int):Prop where
 lies:Lies w g 97 (Sg.cells f h vi va vc n e)
 vi : ∃o k c,vi = .slice o k c
 va : ∃o k c,va = .slice o k c
 vc : ∃o k c,vc = .slice o k c
section
variable {w w' : World} {g : Nat} {f : Int} {h : Hd.Hard} {vi va vc : Value} {n e : Int}
theorem Conts.below{B:Nat}(c:Conts w g f h vi va vc n e)(hb:Below B w w')(hB:g<B):Conts w' g f h vi va vc n e:=⟨c.lies.below hb hB,c.vi,c.va,c.vc⟩
theorem Conts.kept{o:Nat}(c:Conts w g f h vi va vc n e)(hg:w.grownBy w' (some o))(hne:g≠o):Conts w' g f h vi va vc n e:=⟨c.lies.kept hg (by simpa using hne),c.vi,c.va,c.vc⟩
theorem Conts.ok(c:Conts w g f h vi va vc n e):(Sg.cells f h vi va vc n e).toList.all (·.oneCell')=true:=by
 obtain⟨_,_,_,rfl⟩:=c.vi
 obtain⟨_,_,_,rfl⟩:=c.va
 obtain⟨_,_,_,rfl⟩:=c.vc
 rfl
theorem Conts.all(c:Conts w g f h vi va vc n e):w.cell? ⟨g,0,none⟩=some (.int .i64 f)∧w.cell? ⟨g,1,none⟩=some (.int .i64 h.prom.round)∧w.cell? ⟨g,2,none⟩=some (.int .i64 h.prom.node)∧w.cell? ⟨g,3,none⟩=some (.int .i64 h.base)∧w.cell? ⟨g,4,none⟩=some vi∧w.cell? ⟨g,5,none⟩=some va∧w.cell? ⟨g,6,none⟩=some vc∧w.cell? ⟨g,7,none⟩=some (.int .i64 n)∧w.cell? ⟨g,8,none⟩=some (.int .i64 e) :=
 ⟨c.lies.cell 0 _ rfl,c.lies.cell 1 _ rfl,c.lies.cell 2 _ rfl,c.lies.cell 3 _ rfl,c.lies.cell 4 _ rfl,c.lies.cell 5 _ rfl,c.lies.cell 6 _ rfl,c.lies.cell 7 _ rfl,c.lies.cell 8 _ rfl⟩
theorem Conts.no8(c:Conts w g f h vi va vc n e)(j:Nat)(x:Int):(Sg.cells f h vi va vc n e)[j]? ≠ some (.int .u8 x):=by
 obtain⟨_,_,_,rfl⟩:=c.vi
 obtain⟨_,_,_,rfl⟩:=c.va
 obtain⟨_,_,_,rfl⟩:=c.vc
 match j with
 | 0 | 1 | 2 | 3 | 4 | 5 | 6 | 7 | 8=>simp[Sg.cells]
 | j+9=>simp[Sg.cells]
theorem Conts.nostr(c:Conts w g f h vi va vc n e)(j:Nat)(x:ByteArray):(Sg.cells f h vi va vc n e)[j]? ≠ some (.string x):=by
 obtain⟨_,_,_,rfl⟩:=c.vi
 obtain⟨_,_,_,rfl⟩:=c.va
 obtain⟨_,_,_,rfl⟩:=c.vc
 match j with
 | 0 | 1 | 2 | 3 | 4 | 5 | 6 | 7 | 8=>simp[Sg.cells]
 | j+9=>simp[Sg.cells]
theorem HardR.overC{k:Hd.Hard}{ui ua uc:Value}(r:HardR w k ui ua uc)(c:Conts w g f h vi va vc n e)(hg:w.grownBy w' (some g)):HardR w' k ui ua uc :=
 ⟨r.img.kept_of c.lies c.no8 hg,r.acc.kept_of c.lies c.nostr hg,r.chs.kept_of c.lies c.nostr hg⟩
theorem HardQ.overC{q:Nat→Prop}{k:Hd.Hard}{ui ua uc:Value}(r:HardQ q w k ui ua uc)(c:Conts w g f h vi va vc n e)(hg:w.grownBy w' (some g)):HardQ q w' k ui ua uc:=⟨r.rows.overC c hg,r.pi,r.pa,r.pc⟩
end
theorem box_cont(w:World) : ∃w1,w.alloc (.cells (Sg.cells 0 Hd.zero (.slice none 0 0) (.slice none 0 0) (.slice none 0 0) 0 0) 97)=w1∧Conts w1 w.heap.size 0 Hd.zero (.slice none 0 0) (.slice none 0 0) (.slice none 0 0) 0 0∧Below w.heap.size w w1∧w1.heap.size=w.heap.size+1 :=
 ⟨_,rfl,⟨Lies.new w _ _,⟨_,_,_,rfl⟩,⟨_,_,_,rfl⟩,⟨_,_,_,rfl⟩⟩,(Below.refl _ w).alloc (Nat.le_refl _) _,by simp⟩
section
variable {ops : Array Oper} {rest : List Oper} {op : Oper} {a : Act} {w : World} {Q : Exit → Act → World → Prop} {g : Nat} {f : Int} {h : Hd.Hard} {vi va vc : Value} {n e : Int} {f' : Int} {h' : Hd.Hard} {ui ua uc : Value} {n' e' : Int}
theorem store_cont(hgd:op.guard=none)(x y:Operand)(ho:op.op = .store 97 x y)(hx:a.eval x = .pointer (some ⟨g,0,none⟩))(hl:Conts w g f h vi va vc n e){w0:World}{g0:Nat}(hu:Conts w0 g0 f' h' ui ua uc n' e')(hy:a.eval y = .agg (Sg.cells f' h' ui ua uc n' e'))
 (hK : ∀w', Conts w' g f' h' ui ua uc n' e' → w.grownBy w' (some g)→wpList Tryz.prog ops Q rest (a.put op.dst undef) w'):wpList Tryz.prog ops Q (op :: rest) a w :=
 store_part hgd _ x y ho g 0 _ _ (Sg.cells f' h' ui ua uc n' e') (.agg (Sg.cells f' h' ui ua uc n' e')) (Sg.cells f' h' ui ua uc n' e').toList hx hy rfl (by kernel_rfl) hu.ok hl.lies (Nat.le_of_ble_eq_true rfl) rfl fun w' h1 h2=>hK w' ⟨h1,hu.vi,hu.va,hu.vc⟩ h2
end
theorem run_cont(w:World)(g:Nat)(f:Int)(h:Hd.Hard)(vi va vc:Value)(n e:Int)(c:Conts w g f h vi va vc n e):(loadVar 97 ⟨g,0,none⟩).run Tryz.prog w = .ok (.agg (Sg.cells f h vi va vc n e)) w :=
 run_loadVar_row w g _ _ (Sg.cells f h vi va vc n e) (0,0) _ c.lies Tryz.underlying97 rfl (by kernel_rfl)
theorem ret_cont2{fn:Func}{R:Ending→World→Prop}{a:Act}{w:World}{t u:Tmp}{g:Nat}{f:Int}{h:Hd.Hard}{vi va vc:Value}{n e:Int}(hr:fn.results = #[.cell t 97, .tmp u])(hp:a.tmps.getD t undef = .pointer (some ⟨g,0,none⟩))
 (hl:Conts w g f h vi va vc n e) (hd:a.defers = []) (hR:R (.returned (.tuple #[.agg (Sg.cells f h vi va vc n e),a.tmps.getD u undef])) w):bodyPost Tryz.prog fn R .ret a w:=by
 refine bodyPost_ret ?_ hd hR
 rw[results_two hr,hp]
 simp[asAddr,Result.andThen,run_cont w g f h vi va vc n e hl]
end
end Go.Proofs.YtdkdjofnnnljjaaGreatDoor
