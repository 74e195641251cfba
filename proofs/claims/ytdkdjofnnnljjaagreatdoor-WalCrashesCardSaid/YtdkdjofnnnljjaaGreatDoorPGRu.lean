/- Several texts of mine in one: GRt GRu. -/
import Derived.Test.YtdkdjofnnnljjaaGreatDoorPGCr
import Derived.Test.YtdkdjofnnnljjaaGreatDoorPPkMath
import Derived.Test.YtdkdjofnnnljjaaGreatDoorGRg
import Derived.Test.YtdkdjofnnnljjaaGreatDoorPGRh
import Derived.Test.YtdkdjofnnnljjaaGreatDoorPDkMath
import Derived.Deep.RegionHeld3
import Derived.Deep.RegionWith
import Derived.Test.YtdkdjofnnnljjaaGreatDoorPGPl
namespace Go.Proofs.YtdkdjofnnnljjaaGreatDoor
open Go.RowKit
set_option maxHeartbeats 3200000
set_option maxRecDepth 4000
abbrev iQ(w:World)(g f a b:Nat):Prop:=ae w g 1 #[.func (.func f) #[] #[.pointer (some ⟨a,0,none⟩), .pointer (some ⟨b,0,none⟩)]]
abbrev Rt.link(g:Nat):Value := .func (.func 163) #[] #[.pointer (some ⟨g,0,none⟩)]
theorem CQ(f a b:Nat)(w:World) :
 Calls Tryz.prog 132 #[.func (.func f) #[] #[.pointer (some ⟨a,0,none⟩), .pointer (some ⟨b,0,none⟩)]] w
  fun e w' => e = .returned (Rt.link w.heap.size)∧iQ w' w.heap.size f a b∧Below w.heap.size w w' ∧ w.heap.size<w'.heap.size:=by
 have zJ : ∀(fn:Fn) (first cap:Array Value) (w:World),(Instr.makeFunc fn first cap).run Tryz.prog w = .ok (.func fn first cap) w:=fun _ _ _ _=>rfl
 obtain⟨w1,e1,aH,hb1⟩ : ∃w1,w.alloc (.cells #[.func (.func f) #[] #[.pointer (some ⟨a,0,none⟩), .pointer (some ⟨b,0,none⟩)]] 1)=w1∧iQ w1 w.heap.size f a b∧Below w.heap.size w w1 :=
  ⟨_,rfl,ae.new _ _ _,(Below.refl _ w).alloc (Nat.le_refl _) _⟩
 have HL:=aa aH;have HB:=aa hb1;clear aH hb1
 go_enter Tryz.func132,Tryz.ntmps132
 go_wp2;go_ret;exact⟨rfl,HL.out,HB.out,HL.lt⟩
theorem eF(f a b:Nat)(w:World) :
 Calls Tryz.prog 132 #[.func (.func f) #[] #[.pointer (some ⟨a,0,none⟩), .pointer (some ⟨b,0,none⟩)]] w
  fun e w' => ∃g,e = .returned (Rt.link g)∧iQ w' g f a b∧w.heap.size<=g∧Below w.heap.size w w' := by
 refine(CQ f a b w).mono ?_;rintro e w' ⟨h1,h2,h3,_⟩;exact⟨_,h1,h2,Nat.le_refl _,h3⟩
theorem FY(t:Bool)(g a b:Nat)(w:World)(P:World->Prop)(hl:iQ w g 133 a b)
 (h1:t=true->Calls Tryz.prog 133 #[.pointer (some ⟨a,0,none⟩), .pointer (some ⟨b,0,none⟩)] w fun e w' => e = .returned (.tuple #[])∧P w') (h0:t=false->P w) :
 Calls Tryz.prog 163 #[.bool t, .pointer (some ⟨g,0,none⟩)] w fun e w' => e = .returned (.tuple #[])∧P w' := by
 have c0:=hl.cell 0 _ rfl;cases t with
 | true =>
  have H1:=aa (h1 rfl);clear h1 h0 hl
  go_enter Tryz.func163,Tryz.ntmps163
  go_wp2_with fail
  refine H1.mono ?_;rintro e1 w1 ⟨rfl,h⟩;have H:=aa h;clear h;go_wp2
  go_end0
  exact⟨rfl,H.out⟩
 | false =>
  have H0:=aa (h0 rfl);clear h1 h0 hl
  go_enter Tryz.func163,Tryz.ntmps163
  go_wp2
  go_end0
  exact⟨rfl,H0.out⟩
theorem FZ(t:Bool)(g a b:Nat)(w:World)(P:World->Prop)(hl:iQ w g 134 a b)
 (h1:t=true->Calls Tryz.prog 134 #[.pointer (some ⟨a,0,none⟩), .pointer (some ⟨b,0,none⟩)] w fun e w' => e = .returned (.tuple #[])∧P w') (h0:t=false->P w) :
 Calls Tryz.prog 163 #[.bool t, .pointer (some ⟨g,0,none⟩)] w fun e w' => e = .returned (.tuple #[])∧P w' := by
 have c0:=hl.cell 0 _ rfl;cases t with
 | true =>
  have H1:=aa (h1 rfl);clear h1 h0 hl
  go_enter Tryz.func163,Tryz.ntmps163
  go_wp2_with fail
  refine H1.mono ?_;rintro e1 w1 ⟨rfl,h⟩;have H:=aa h;clear h;go_wp2
  go_end0
  exact⟨rfl,H.out⟩
 | false =>
  have H0:=aa (h0 rfl);clear h1 h0 hl
  go_enter Tryz.func163,Tryz.ntmps163
  go_wp2
  go_end0
  exact⟨rfl,H0.out⟩
theorem F0(t:Bool)(g a b:Nat)(w:World)(P:World->Prop)(hl:iQ w g 135 a b)
 (h1:t=true->Calls Tryz.prog 135 #[.pointer (some ⟨a,0,none⟩), .pointer (some ⟨b,0,none⟩)] w fun e w' => e = .returned (.tuple #[])∧P w') (h0:t=false->P w) :
 Calls Tryz.prog 163 #[.bool t, .pointer (some ⟨g,0,none⟩)] w fun e w' => e = .returned (.tuple #[])∧P w' := by
 have c0:=hl.cell 0 _ rfl;cases t with
 | true =>
  have H1:=aa (h1 rfl);clear h1 h0 hl
  go_enter Tryz.func163,Tryz.ntmps163
  go_wp2_with fail
  refine H1.mono ?_;rintro e1 w1 ⟨rfl,h⟩;have H:=aa h;clear h;go_wp2
  go_end0
  exact⟨rfl,H.out⟩
 | false =>
  have H0:=aa (h0 rfl);clear h1 h0 hl
  go_enter Tryz.func163,Tryz.ntmps163
  go_wp2
  go_end0
  exact⟨rfl,H0.out⟩
theorem F3(t:Bool)(g a b:Nat)(w:World)(P:World->Prop)(hl:iQ w g 136 a b)
 (h1:t=true->Calls Tryz.prog 136 #[.pointer (some ⟨a,0,none⟩), .pointer (some ⟨b,0,none⟩)] w fun e w' => e = .returned (.tuple #[])∧P w') (h0:t=false->P w) :
 Calls Tryz.prog 163 #[.bool t, .pointer (some ⟨g,0,none⟩)] w fun e w' => e = .returned (.tuple #[])∧P w' := by
 have c0:=hl.cell 0 _ rfl;cases t with
 | true =>
  have H1:=aa (h1 rfl);clear h1 h0 hl
  go_enter Tryz.func163,Tryz.ntmps163
  go_wp2_with fail
  refine H1.mono ?_;rintro e1 w1 ⟨rfl,h⟩;have H:=aa h;clear h;go_wp2
  go_end0
  exact⟨rfl,H.out⟩
 | false =>
  have H0:=aa (h0 rfl);clear h1 h0 hl
  go_enter Tryz.func163,Tryz.ntmps163
  go_wp2
  go_end0
  exact⟨rfl,H0.out⟩
theorem F4(t:Bool)(g a b:Nat)(w:World)(P:World->Prop)(hl:iQ w g 180 a b)
 (h1:t=true->Calls Tryz.prog 180 #[.pointer (some ⟨a,0,none⟩), .pointer (some ⟨b,0,none⟩)] w fun e w' => e = .returned (.tuple #[])∧P w') (h0:t=false->P w) :
 Calls Tryz.prog 163 #[.bool t, .pointer (some ⟨g,0,none⟩)] w fun e w' => e = .returned (.tuple #[])∧P w' := by
 have c0:=hl.cell 0 _ rfl;cases t with
 | true =>
  have H1:=aa (h1 rfl);clear h1 h0 hl
  go_enter Tryz.func163,Tryz.ntmps163
  go_wp2_with fail
  refine H1.mono ?_;rintro e1 w1 ⟨rfl,h⟩;have H:=aa h;clear h;go_wp2
  go_end0
  exact⟨rfl,H.out⟩
 | false =>
  have H0:=aa (h0 rfl);clear h1 h0 hl
  go_enter Tryz.func163,Tryz.ntmps163
  go_wp2
  go_end0
  exact⟨rfl,H0.out⟩
theorem F5(t:Bool)(g a b:Nat)(w:World)(P:World->Prop)(hl:iQ w g 181 a b)
 (h1:t=true->Calls Tryz.prog 181 #[.pointer (some ⟨a,0,none⟩), .pointer (some ⟨b,0,none⟩)] w fun e w' => e = .returned (.tuple #[])∧P w') (h0:t=false->P w) :
 Calls Tryz.prog 163 #[.bool t, .pointer (some ⟨g,0,none⟩)] w fun e w' => e = .returned (.tuple #[])∧P w' := by
 have c0:=hl.cell 0 _ rfl;cases t with
 | true =>
  have H1:=aa (h1 rfl);clear h1 h0 hl
  go_enter Tryz.func163,Tryz.ntmps163
  go_wp2_with fail
  refine H1.mono ?_;rintro e1 w1 ⟨rfl,h⟩;have H:=aa h;clear h;go_wp2
  go_end0
  exact⟨rfl,H.out⟩
 | false =>
  have H0:=aa (h0 rfl);clear h1 h0 hl
  go_enter Tryz.func163,Tryz.ntmps163
  go_wp2
  go_end0
  exact⟨rfl,H0.out⟩
theorem F7(t:Bool)(g a b:Nat)(w:World)(P:World->Prop)(hl:iQ w g 182 a b)
 (h1:t=true->Calls Tryz.prog 182 #[.pointer (some ⟨a,0,none⟩), .pointer (some ⟨b,0,none⟩)] w fun e w' => e = .returned (.tuple #[])∧P w') (h0:t=false->P w) :
 Calls Tryz.prog 163 #[.bool t, .pointer (some ⟨g,0,none⟩)] w fun e w' => e = .returned (.tuple #[])∧P w' := by
 have c0:=hl.cell 0 _ rfl;cases t with
 | true =>
  have H1:=aa (h1 rfl);clear h1 h0 hl
  go_enter Tryz.func163,Tryz.ntmps163
  go_wp2_with fail
  refine H1.mono ?_;rintro e1 w1 ⟨rfl,h⟩;have H:=aa h;clear h;go_wp2
  go_end0
  exact⟨rfl,H.out⟩
 | false =>
  have H0:=aa (h0 rfl);clear h1 h0 hl
  go_enter Tryz.func163,Tryz.ntmps163
  go_wp2
  go_end0
  exact⟨rfl,H0.out⟩
theorem F8(t:Bool)(g a b:Nat)(w:World)(P:World->Prop)(hl:iQ w g 183 a b)
 (h1:t=true->Calls Tryz.prog 183 #[.pointer (some ⟨a,0,none⟩), .pointer (some ⟨b,0,none⟩)] w fun e w' => e = .returned (.tuple #[])∧P w') (h0:t=false->P w) :
 Calls Tryz.prog 163 #[.bool t, .pointer (some ⟨g,0,none⟩)] w fun e w' => e = .returned (.tuple #[])∧P w' := by
 have c0:=hl.cell 0 _ rfl;cases t with
 | true =>
  have H1:=aa (h1 rfl);clear h1 h0 hl
  go_enter Tryz.func163,Tryz.ntmps163
  go_wp2_with fail
  refine H1.mono ?_;rintro e1 w1 ⟨rfl,h⟩;have H:=aa h;clear h;go_wp2
  go_end0
  exact⟨rfl,H.out⟩
 | false =>
  have H0:=aa (h0 rfl);clear h1 h0 hl
  go_enter Tryz.func163,Tryz.ntmps163
  go_wp2
  go_end0
  exact⟨rfl,H0.out⟩
theorem F9(m:Re.Rec)(vi:Value)(w:World)(B o gx:Nat)(u:Value)(pre:List UInt8)(hw:kI w B o u pre)(hp:pre.length<=200)(hB:B<=w.heap.size)(hl:ai w gx m vi)(hgo:gx≠o)(hf:m.Fits) :
 Calls Tryz.prog 133 #[.pointer (some ⟨o,0,none⟩), .pointer (some ⟨gx,0,none⟩)] w (jw w B o (pre++(enc m.aF.round.toNat++enc m.aF.node.toNat))):=by
 have c1:=ai.c1 hl;have h1:=hf.n m.aF.round (by simp[Re.bX]);have h2:=hf.n m.aF.node (by simp[Re.bX])
 have h9:=aA (n:=m.aF.round.toNat) (by omega)
 have HW:=aa hw;have HL:=aa hl;have H1:=aa h1;have H2:=aa h2;have H9:=aa h9;clear hw hl hf h1 h2 h9
 go_enter Tryz.func133,Tryz.ntmps133
 go_wp2_with fail
 refine(fl m.aF.round _ B o u pre HW.out hB (by omega) H1.1 H1.2).mono ?_
 rintro e1 w1 ⟨rfl,u1,fJ,fL⟩;have lU:=aa (cC.ja HW.out fL);have aG:=aa (HW.below fL hB);have aH:=lU.out _ _ _ hgo (by decide) HL.out
 have c2:=ai.c2 aH;have pF:=aa fJ;clear fJ fL aH c1
 go_wp2_with fail
 refine(fl m.aF.node _ B o u1 _ pF.out (Nat.le_trans hB aG.size) (by rw[List.length_append];have:=H9.out;omega) H2.1 H2.2).mono ?_
 rintro e2 w2 ⟨rfl,u2,hw2,hg2⟩;have kM:=aa (cC.ja pF.out hg2);have aR:=aa (pF.below hg2 (Nat.le_trans hB aG.size));have ES:=aa hw2;clear hw2 hg2 c2;go_wp2
 go_end0
 refine⟨rfl,u2, ?_,lU.trans kM.out,aG.trans aR.out⟩;rw[<- List.append_assoc];exact ES.out
theorem Ap(m:Re.Rec)(vi:Value)(w:World)(B o gx:Nat)(u:Value)(pre:List UInt8)(hw:kI w B o u pre)(hp:pre.length<=200)(hB:B<=w.heap.size)(hl:ai w gx m vi)(hf:m.Fits) :
 Calls Tryz.prog 134 #[.pointer (some ⟨o,0,none⟩), .pointer (some ⟨gx,0,none⟩)] w (jw w B o (pre++enc m.index.toNat)):=by
 have c3:=ai.c3 hl;have h1:=hf.n m.index (by simp[Re.bX])
 have HW:=aa hw;have H1:=aa h1;clear hw hl hf h1
 go_enter Tryz.func134,Tryz.ntmps134
 go_wp2_with fail
 refine(fl m.index _ B o u pre HW.out hB (by omega) H1.1 H1.2).mono ?_
 rintro e1 w1 ⟨rfl,u1,fJ,fL⟩;have lU:=aa (cC.ja HW.out fL);have aG:=aa (HW.below fL hB);have pF:=aa fJ;clear fJ fL c3;go_wp2
 go_end0
 exact⟨rfl,u1,pF.out,lU.out,aG.out⟩
theorem Ga(m:Re.Rec)(vi:Value)(w:World)(B o gx:Nat)(u:Value)(pre:List UInt8)(hw:kI w B o u pre)(hp:pre.length<=200)(hB:B<=w.heap.size)(hl:ai w gx m vi)(hf:m.Fits)(hs:m.cmd.aD 1000) :
 Calls Tryz.prog 135 #[.pointer (some ⟨o,0,none⟩), .pointer (some ⟨gx,0,none⟩)] w (jw w B o (pre++Cm.bytes 2 m.cmd)):=by
 obtain⟨p0,p1,p2,p3,p4,p5,p6,p7,p8,p9,cG,cE⟩:=ai.all hl;have HW:=aa hw;have HC:=aa hf.c;have HS:=aa hs;clear hw hl hf hs p0 p1 p2 p3 cE
 go_enter Tryz.func135,Tryz.ntmps135
 go_wp2_with fail
 refine(yf 2 m.cmd _ B o u pre rfl HW.out (by omega) hB HC.out HS.out).mono ?_
 rintro e1 w1 ⟨rfl,u1,fJ,hs1,hb1⟩;have pF:=aa fJ;have lU:=aa hs1;have aG:=aa hb1;clear fJ hs1 hb1 p4 p5 p6 p7 p8 p9 cG;go_wp2
 go_end0
 exact⟨rfl,u1,pF.out,lU.out,aG.out⟩
def pX(w:World)(B o:Nat)(m:List UInt8)(w' : World):Prop := ∃v', kI w' B o v' m∧Below B w w'
theorem Gb(m:Re.Rec)(vi:Value)(w:World)(B o gx:Nat)(u:Value)(pre:List UInt8)(hw:kI w B o u pre)(hp:pre.length<=200000)(hB:B<=w.heap.size)(hl:ai w gx m vi)(hk:m.aw.length<=100000)
 (hi : ∀W,Below B w W->Reads W vi m.aw) :
 Calls Tryz.prog 136 #[.pointer (some ⟨o,0,none⟩), .pointer (some ⟨gx,0,none⟩)] w fun e w' => e = .returned (.tuple #[])∧pX w B o (pre++Pk.text m.aw) w' := by
 have c11:=ai.c11 hl;have HW:=aa hw;have HI:=aa hi;obtain⟨io,ic,rfl⟩:=(hi w (Below.refl _ _)).shape;clear hw hl hi
 go_enter Tryz.func136,Tryz.ntmps136
 go_wp2_with fail
 refine(zS _ m.aw _ B o u pre HW.out hB (by omega) (by omega) HI.out).mono ?_
 rintro e1 w1 ⟨rfl,u1,fJ,hb1⟩;have pF:=aa fJ;have aG:=aa hb1;clear fJ hb1 c11;go_wp2
 go_end0
 exact⟨rfl,u1,pF.out,aG.out⟩
section
def Rt.tail(x:Re.Rec):List UInt8:=Mt.part (Re.hb x.kind) (enc x.aF.round.toNat++enc x.aF.node.toNat)++(Mt.part (Re.hi x.kind) (enc x.index.toNat)++(Mt.part (Re.hc x.kind) (Cm.bytes 2 x.cmd)++Mt.part (Re.hm x.kind) (Pk.text x.aw)))
theorem Mt.JB(t:Bool)(a b:List UInt8):Mt.part t (a++b)=Mt.part t a++Mt.part t b:=by
 cases t
 ·rw[Mt.fE,Mt.fE,Mt.fE];rfl
 ·rw[Mt.eO,Mt.eO,Mt.eO]
theorem Rt.tX(x:Re.Rec):Rt.bytes x=enc (x.kind+16).toNat++Rt.tail x:=by
 unfold Rt.bytes Rt.tail;rw[Mt.JB];simp only[List.append_assoc]
theorem Rt.fC{m:Re.Rec}(hk:Re.known m.kind=true)(hf:m.Fits)(hs:m.cmd.aD 1000)(hm:m.aw.length<=100000):(Rt.bytes m).length<=110000:=by
 have f1:=hf.n m.aF.round (by simp[Re.bX]);have f2:=hf.n m.aF.node (by simp[Re.bX]);have f3:=hf.n m.index (by simp[Re.bX])
 have q1:=aA (n:=m.aF.round.toNat) (by omega);have q2:=aA (n:=m.aF.node.toNat) (by omega);have q3:=aA (n:=m.index.toNat) (by omega)
 have vT:1<=m.kind∧m.kind<=4:=by unfold Re.known at hk;simpa using hk
 have q0:=aA (n:=(m.kind+16).toNat) (by omega)
 have q4:=Cm.fC 2 m.cmd hf.c hs;have q5:=aA (n:=m.aw.length) (by omega)
 rw[Rt.tX];unfold Rt.tail;have L1:=Mt.cX (Re.hb m.kind) (enc m.aF.round.toNat++enc m.aF.node.toNat);have L2:=Mt.cX (Re.hi m.kind) (enc m.index.toNat);have L3:=Mt.cX (Re.hc m.kind) (Cm.bytes 2 m.cmd);have L4:=Mt.cX (Re.hm m.kind) (Pk.text m.aw);rw[show(Pk.text m.aw).length=(enc m.aw.length).length+m.aw.length by simp[Pk.text]]at L4
 simp only[List.length_append]at L1 ⊢
 omega
structure Rt.iD(w:World)(g1 g2 g3 g4 f1 f2 f3 f4 a c b:Nat):Prop where
 l1:iQ w g1 f1 a b
 l2:iQ w g2 f2 a b
 l3:iQ w g3 f3 c b
 l4:iQ w g4 f4 c b
theorem Rt.iD.by{w w' : World}{g1 g2 g3 g4 f1 f2 f3 f4 a c b:Nat}(h:Rt.iD w g1 g2 g3 g4 f1 f2 f3 f4 a c b)(k : ∀g f x y,g=g1∨g=g2∨g=g3∨g=g4->iQ w g f x y->iQ w' g f x y):Rt.iD w' g1 g2 g3 g4 f1 f2 f3 f4 a c b :=
 ⟨k _ _ _ _ (.inl rfl) h.l1,k _ _ _ _ (.inr (.inl rfl)) h.l2,k _ _ _ _ (.inr (.inr (.inl rfl))) h.l3,k _ _ _ _ (.inr (.inr (.inr rfl))) h.l4⟩
section
variable (t : Bool) (g : Nat) (m : Re.Rec) (vi : Value) (w : World) (B o gx : Nat) (u : Value) (pre : List UInt8) (hw : kI w B o u pre) (hB : B <= w.heap.size) (hl : ai w gx m vi)
include hw hB hl
theorem ig(hp:pre.length<=200)(hgo:gx≠o)(hf:m.Fits)(hc:iQ w g 133 o gx) :
 Calls Tryz.prog 163 #[.bool t, .pointer (some ⟨g,0,none⟩)] w (jw w B o (pre++Mt.part t (enc m.aF.round.toNat++enc m.aF.node.toNat))) :=
 FY t g o gx w (fun w' => ∃v', kI w' B o v' (pre++Mt.part t (enc m.aF.round.toNat++enc m.aF.node.toNat))∧cC o w w' ∧ Below B w w') hc
  (fun h=>by subst h;rw[Mt.eO];exact F9 m vi w B o gx u pre hw hp hB hl hgo hf)
  (fun h=>by subst h;rw[Mt.fE,List.append_nil];exact⟨u,hw,cC.refl _ _,Below.refl _ _⟩)
theorem fU(hp:pre.length<=200)(hf:m.Fits)(hc:iQ w g 134 o gx) :
 Calls Tryz.prog 163 #[.bool t, .pointer (some ⟨g,0,none⟩)] w (jw w B o (pre++Mt.part t (enc m.index.toNat))) :=
 FZ t g o gx w (fun w' => ∃v', kI w' B o v' (pre++Mt.part t (enc m.index.toNat))∧cC o w w' ∧ Below B w w') hc
  (fun h=>by subst h;rw[Mt.eO];exact Ap m vi w B o gx u pre hw hp hB hl hf)
  (fun h=>by subst h;rw[Mt.fE,List.append_nil];exact⟨u,hw,cC.refl _ _,Below.refl _ _⟩)
theorem ij(hp:pre.length<=200)(hf:m.Fits)(hs:m.cmd.aD 1000)(hc:iQ w g 135 o gx) :
 Calls Tryz.prog 163 #[.bool t, .pointer (some ⟨g,0,none⟩)] w (jw w B o (pre++Mt.part t (Cm.bytes 2 m.cmd))) :=
 F0 t g o gx w (fun w' => ∃v', kI w' B o v' (pre++Mt.part t (Cm.bytes 2 m.cmd))∧cC o w w' ∧ Below B w w') hc
  (fun h=>by subst h;rw[Mt.eO];exact Ga m vi w B o gx u pre hw hp hB hl hf hs)
  (fun h=>by subst h;rw[Mt.fE,List.append_nil];exact⟨u,hw,cC.refl _ _,Below.refl _ _⟩)
theorem il(hp:pre.length<=200000)(hk:m.aw.length<=100000)(hi : ∀W,Below B w W->Reads W vi m.aw)(hc:iQ w g 136 o gx) :
 Calls Tryz.prog 163 #[.bool t, .pointer (some ⟨g,0,none⟩)] w (fun e w' => e = .returned (.tuple #[])∧pX w B o (pre++Mt.part t (Pk.text m.aw)) w') :=
 F3 t g o gx w (pX w B o (pre++Mt.part t (Pk.text m.aw))) hc
  (fun h=>by subst h;rw[Mt.eO];exact Gb m vi w B o gx u pre hw hp hB hl hk hi)
  (fun h=>by subst h;rw[Mt.fE,List.append_nil];exact⟨u,hw,Below.refl _ _⟩)
end
theorem JC(m:Re.Rec)(vi:Value)(w:World)(B o gx g1 g2 g3 g4:Nat)(u:Value)(pre:List UInt8)(hw:kI w B o u pre)(hp:pre.length<=10)(hB:B<=w.heap.size)(hl:ai w gx m vi)(hgo:gx≠o)(hn:o≠g1∧o≠g2∧o≠g3∧o≠g4)(hc:Rt.iD w g1 g2 g3 g4 133 134 135 136 o o gx)(hf:m.Fits)(hs:m.cmd.aD 1000)(hi : ∀W,Below B w W->Reads W vi m.aw)(hm:m.aw.length<=100000)(hk:m.kind=1) :
 Calls Tryz.prog 131 #[.int .i64 1,Rt.link g1,Rt.link g2,Rt.link g3,Rt.link g4] w (fun e w' => e = .returned (.tuple #[])∧pX w B o (pre++Rt.tail m) w'):=by
 have HT:Hid (Rt.tail m=Mt.part true (enc m.aF.round.toNat++enc m.aF.node.toNat)++(Mt.part false (enc m.index.toNat)++(Mt.part false (Cm.bytes 2 m.cmd)++Mt.part false (Pk.text m.aw)))):=by
  show _=_;unfold Rt.tail;rw[hk]
  rfl
 have L1:=Mt.cX true (enc m.aF.round.toNat++enc m.aF.node.toNat);have L2:=Mt.cX false (enc m.index.toNat);have L3:=Mt.cX false (Cm.bytes 2 m.cmd);have f1:=hf.n m.aF.round (by simp[Re.bX]);have f2:=hf.n m.aF.node (by simp[Re.bX]);have f3:=hf.n m.index (by simp[Re.bX])
 have q1:=aA (n:=m.aF.round.toNat) (by omega);have q2:=aA (n:=m.aF.node.toNat) (by omega);have q3:=aA (n:=m.index.toNat) (by omega)
 have q4:=Cm.fC 2 m.cmd hf.c hs;have X1:Hid ((pre++Mt.part true (enc m.aF.round.toNat++enc m.aF.node.toNat)).length<=200):=by show _<=_;simp only[List.length_append]at L1 ⊢; omega
 have X2:Hid (((pre++Mt.part true (enc m.aF.round.toNat++enc m.aF.node.toNat))++Mt.part false (enc m.index.toNat)).length<=200):=by show _<=_;simp only[List.length_append]at L1 ⊢; omega
 have X3:Hid ((((pre++Mt.part true (enc m.aF.round.toNat++enc m.aF.node.toNat))++Mt.part false (enc m.index.toNat))++Mt.part false (Cm.bytes 2 m.cmd)).length<=200000):=by show _<=_;simp only[List.length_append]at L1 ⊢; omega
 have HW:=aa hw;have HL:=aa hl;have HC:=aa hc;have HF:=aa hf;have HS:=aa hs;have HI:=aa hi;have HN:=aa hn;clear L1 L2 L3 f1 f2 f3 q1 q2 q3 q4 hw hl hc hf hs hi hk hn
 go_enter Tryz.func131,Tryz.ntmps131
 go_wp2_with fail
 refine(ig true g1 m vi _ B o gx u pre HW.out hB HL.out (by omega) hgo HF.out HC.l1).mono ?_
 rintro e1 w1 ⟨rfl,u1,fJ,hs1,hb1⟩;have pF:=aa fJ;have aG:=aa hb1;have dh:=aa (hs1 _ _ _ hgo (by decide) HL.out)
 have kJ:=aa (HC.by fun g f x y h k=>hs1 _ _ _ (by have:=HN.out;omega) (by decide) k)
 clear fJ hs1 hb1
 go_wp2_with fail
 refine(fU false g2 m vi _ B o gx u1 _ pF.out (Nat.le_trans hB aG.size) dh.out X1.out HF.out kJ.l2).mono ?_;rintro e2 w2 ⟨rfl,u2,hw2,hs2,hb2⟩;have ES:=aa hw2;have aR:=aa (aG.trans hb2);have ej:=aa (hs2 _ _ _ hgo (by decide) dh.out)
 have ll:=aa (kJ.by fun g f x y h k=>hs2 _ _ _ (by have:=HN.out;omega) (by decide) k)
 clear hw2 hs2 hb2
 go_wp2_with fail
 refine(ij false g3 m vi _ B o gx u2 _ ES.out (Nat.le_trans hB aR.size) ej.out X2.out HF.out HS.out ll.l3).mono ?_;rintro e3 w3 ⟨rfl,u3,hw3,hs3,hb3⟩;have zR:=aa hw3;have bh:=aa (aR.trans hb3);have fY:=aa (hs3 _ _ _ hgo (by decide) ej.out)
 have pY:=aa (ll.by fun g f x y h k=>hs3 _ _ _ (by have:=HN.out;omega) (by decide) k)
 clear hw3 hs3 hb3
 go_wp2_with fail
 refine(il false g4 m vi _ B o gx u3 _ zR.out (Nat.le_trans hB bh.size) fY.out X3.out hm (fun W h=>HI.out W (bh.trans h)) pY.l4).mono ?_
 rintro e4 w4 ⟨rfl,u4,hw4,hb4⟩;have FO:=aa hw4;have bJ:=aa (bh.trans hb4);clear hw4 hb4;go_wp2
 go_end0
 refine⟨rfl,u4, ?_,bJ.out⟩;rw[HT.out];have hx:=FO.out;simp only[List.append_assoc]at hx ⊢
 exact hx
theorem JD(m:Re.Rec)(vi:Value)(w:World)(B o gx g1 g2 g3 g4:Nat)(u:Value)(pre:List UInt8)(hw:kI w B o u pre)(hp:pre.length<=10)(hB:B<=w.heap.size)(hl:ai w gx m vi)(hgo:gx≠o)(hn:o≠g1∧o≠g2∧o≠g3∧o≠g4)(hc:Rt.iD w g1 g2 g3 g4 133 134 135 136 o o gx)(hf:m.Fits)(hs:m.cmd.aD 1000)(hi : ∀W,Below B w W->Reads W vi m.aw)(hm:m.aw.length<=100000)(hk:m.kind=2) :
 Calls Tryz.prog 131 #[.int .i64 2,Rt.link g1,Rt.link g2,Rt.link g3,Rt.link g4] w (fun e w' => e = .returned (.tuple #[])∧pX w B o (pre++Rt.tail m) w'):=by
 have HT:Hid (Rt.tail m=Mt.part true (enc m.aF.round.toNat++enc m.aF.node.toNat)++(Mt.part true (enc m.index.toNat)++(Mt.part true (Cm.bytes 2 m.cmd)++Mt.part false (Pk.text m.aw)))):=by
  show _=_;unfold Rt.tail;rw[hk]
  rfl
 have L1:=Mt.cX true (enc m.aF.round.toNat++enc m.aF.node.toNat);have L2:=Mt.cX true (enc m.index.toNat);have L3:=Mt.cX true (Cm.bytes 2 m.cmd);have f1:=hf.n m.aF.round (by simp[Re.bX]);have f2:=hf.n m.aF.node (by simp[Re.bX]);have f3:=hf.n m.index (by simp[Re.bX])
 have q1:=aA (n:=m.aF.round.toNat) (by omega);have q2:=aA (n:=m.aF.node.toNat) (by omega);have q3:=aA (n:=m.index.toNat) (by omega)
 have q4:=Cm.fC 2 m.cmd hf.c hs;have X1:Hid ((pre++Mt.part true (enc m.aF.round.toNat++enc m.aF.node.toNat)).length<=200):=by show _<=_;simp only[List.length_append]at L1 ⊢; omega
 have X2:Hid (((pre++Mt.part true (enc m.aF.round.toNat++enc m.aF.node.toNat))++Mt.part true (enc m.index.toNat)).length<=200):=by show _<=_;simp only[List.length_append]at L1 ⊢; omega
 have X3:Hid ((((pre++Mt.part true (enc m.aF.round.toNat++enc m.aF.node.toNat))++Mt.part true (enc m.index.toNat))++Mt.part true (Cm.bytes 2 m.cmd)).length<=200000):=by show _<=_;simp only[List.length_append]at L1 ⊢; omega
 have HW:=aa hw;have HL:=aa hl;have HC:=aa hc;have HF:=aa hf;have HS:=aa hs;have HI:=aa hi;have HN:=aa hn;clear L1 L2 L3 f1 f2 f3 q1 q2 q3 q4 hw hl hc hf hs hi hk hn
 go_enter Tryz.func131,Tryz.ntmps131
 go_wp2_with fail
 refine(ig true g1 m vi _ B o gx u pre HW.out hB HL.out (by omega) hgo HF.out HC.l1).mono ?_
 rintro e1 w1 ⟨rfl,u1,fJ,hs1,hb1⟩;have pF:=aa fJ;have aG:=aa hb1;have dh:=aa (hs1 _ _ _ hgo (by decide) HL.out)
 have kJ:=aa (HC.by fun g f x y h k=>hs1 _ _ _ (by have:=HN.out;omega) (by decide) k)
 clear fJ hs1 hb1
 go_wp2_with fail
 refine(fU true g2 m vi _ B o gx u1 _ pF.out (Nat.le_trans hB aG.size) dh.out X1.out HF.out kJ.l2).mono ?_;rintro e2 w2 ⟨rfl,u2,hw2,hs2,hb2⟩;have ES:=aa hw2;have aR:=aa (aG.trans hb2);have ej:=aa (hs2 _ _ _ hgo (by decide) dh.out)
 have ll:=aa (kJ.by fun g f x y h k=>hs2 _ _ _ (by have:=HN.out;omega) (by decide) k)
 clear hw2 hs2 hb2
 go_wp2_with fail
 refine(ij true g3 m vi _ B o gx u2 _ ES.out (Nat.le_trans hB aR.size) ej.out X2.out HF.out HS.out ll.l3).mono ?_;rintro e3 w3 ⟨rfl,u3,hw3,hs3,hb3⟩;have zR:=aa hw3;have bh:=aa (aR.trans hb3);have fY:=aa (hs3 _ _ _ hgo (by decide) ej.out)
 have pY:=aa (ll.by fun g f x y h k=>hs3 _ _ _ (by have:=HN.out;omega) (by decide) k)
 clear hw3 hs3 hb3
 go_wp2_with fail
 refine(il false g4 m vi _ B o gx u3 _ zR.out (Nat.le_trans hB bh.size) fY.out X3.out hm (fun W h=>HI.out W (bh.trans h)) pY.l4).mono ?_
 rintro e4 w4 ⟨rfl,u4,hw4,hb4⟩;have FO:=aa hw4;have bJ:=aa (bh.trans hb4);clear hw4 hb4;go_wp2
 go_end0
 refine⟨rfl,u4, ?_,bJ.out⟩;rw[HT.out];have hx:=FO.out;simp only[List.append_assoc]at hx ⊢
 exact hx
theorem JE(m:Re.Rec)(vi:Value)(w:World)(B o gx g1 g2 g3 g4:Nat)(u:Value)(pre:List UInt8)(hw:kI w B o u pre)(hp:pre.length<=10)(hB:B<=w.heap.size)(hl:ai w gx m vi)(hgo:gx≠o)(hn:o≠g1∧o≠g2∧o≠g3∧o≠g4)(hc:Rt.iD w g1 g2 g3 g4 133 134 135 136 o o gx)(hf:m.Fits)(hs:m.cmd.aD 1000)(hi : ∀W,Below B w W->Reads W vi m.aw)(hm:m.aw.length<=100000)(hk:m.kind=3) :
 Calls Tryz.prog 131 #[.int .i64 3,Rt.link g1,Rt.link g2,Rt.link g3,Rt.link g4] w (fun e w' => e = .returned (.tuple #[])∧pX w B o (pre++Rt.tail m) w'):=by
 have HT:Hid (Rt.tail m=Mt.part false (enc m.aF.round.toNat++enc m.aF.node.toNat)++(Mt.part true (enc m.index.toNat)++(Mt.part true (Cm.bytes 2 m.cmd)++Mt.part false (Pk.text m.aw)))):=by
  show _=_;unfold Rt.tail;rw[hk]
  rfl
 have L1:=Mt.cX false (enc m.aF.round.toNat++enc m.aF.node.toNat);have L2:=Mt.cX true (enc m.index.toNat);have L3:=Mt.cX true (Cm.bytes 2 m.cmd);have f1:=hf.n m.aF.round (by simp[Re.bX]);have f2:=hf.n m.aF.node (by simp[Re.bX]);have f3:=hf.n m.index (by simp[Re.bX])
 have q1:=aA (n:=m.aF.round.toNat) (by omega);have q2:=aA (n:=m.aF.node.toNat) (by omega);have q3:=aA (n:=m.index.toNat) (by omega)
 have q4:=Cm.fC 2 m.cmd hf.c hs;have X1:Hid ((pre++Mt.part false (enc m.aF.round.toNat++enc m.aF.node.toNat)).length<=200):=by show _<=_;simp only[List.length_append]at L1 ⊢; omega
 have X2:Hid (((pre++Mt.part false (enc m.aF.round.toNat++enc m.aF.node.toNat))++Mt.part true (enc m.index.toNat)).length<=200):=by show _<=_;simp only[List.length_append]at L1 ⊢; omega
 have X3:Hid ((((pre++Mt.part false (enc m.aF.round.toNat++enc m.aF.node.toNat))++Mt.part true (enc m.index.toNat))++Mt.part true (Cm.bytes 2 m.cmd)).length<=200000):=by show _<=_;simp only[List.length_append]at L1 ⊢; omega
 have HW:=aa hw;have HL:=aa hl;have HC:=aa hc;have HF:=aa hf;have HS:=aa hs;have HI:=aa hi;have HN:=aa hn;clear L1 L2 L3 f1 f2 f3 q1 q2 q3 q4 hw hl hc hf hs hi hk hn
 go_enter Tryz.func131,Tryz.ntmps131
 go_wp2_with fail
 refine(ig false g1 m vi _ B o gx u pre HW.out hB HL.out (by omega) hgo HF.out HC.l1).mono ?_
 rintro e1 w1 ⟨rfl,u1,fJ,hs1,hb1⟩;have pF:=aa fJ;have aG:=aa hb1;have dh:=aa (hs1 _ _ _ hgo (by decide) HL.out)
 have kJ:=aa (HC.by fun g f x y h k=>hs1 _ _ _ (by have:=HN.out;omega) (by decide) k)
 clear fJ hs1 hb1
 go_wp2_with fail
 refine(fU true g2 m vi _ B o gx u1 _ pF.out (Nat.le_trans hB aG.size) dh.out X1.out HF.out kJ.l2).mono ?_;rintro e2 w2 ⟨rfl,u2,hw2,hs2,hb2⟩;have ES:=aa hw2;have aR:=aa (aG.trans hb2);have ej:=aa (hs2 _ _ _ hgo (by decide) dh.out)
 have ll:=aa (kJ.by fun g f x y h k=>hs2 _ _ _ (by have:=HN.out;omega) (by decide) k)
 clear hw2 hs2 hb2
 go_wp2_with fail
 refine(ij true g3 m vi _ B o gx u2 _ ES.out (Nat.le_trans hB aR.size) ej.out X2.out HF.out HS.out ll.l3).mono ?_;rintro e3 w3 ⟨rfl,u3,hw3,hs3,hb3⟩;have zR:=aa hw3;have bh:=aa (aR.trans hb3);have fY:=aa (hs3 _ _ _ hgo (by decide) ej.out)
 have pY:=aa (ll.by fun g f x y h k=>hs3 _ _ _ (by have:=HN.out;omega) (by decide) k)
 clear hw3 hs3 hb3
 go_wp2_with fail
 refine(il false g4 m vi _ B o gx u3 _ zR.out (Nat.le_trans hB bh.size) fY.out X3.out hm (fun W h=>HI.out W (bh.trans h)) pY.l4).mono ?_
 rintro e4 w4 ⟨rfl,u4,hw4,hb4⟩;have FO:=aa hw4;have bJ:=aa (bh.trans hb4);clear hw4 hb4;go_wp2
 go_end0
 refine⟨rfl,u4, ?_,bJ.out⟩;rw[HT.out];have hx:=FO.out;simp only[List.append_assoc]at hx ⊢
 exact hx
theorem JF(m:Re.Rec)(vi:Value)(w:World)(B o gx g1 g2 g3 g4:Nat)(u:Value)(pre:List UInt8)(hw:kI w B o u pre)(hp:pre.length<=10)(hB:B<=w.heap.size)(hl:ai w gx m vi)(hgo:gx≠o)(hn:o≠g1∧o≠g2∧o≠g3∧o≠g4)(hc:Rt.iD w g1 g2 g3 g4 133 134 135 136 o o gx)(hf:m.Fits)(hs:m.cmd.aD 1000)(hi : ∀W,Below B w W->Reads W vi m.aw)(hm:m.aw.length<=100000)(hk:m.kind=4) :
 Calls Tryz.prog 131 #[.int .i64 4,Rt.link g1,Rt.link g2,Rt.link g3,Rt.link g4] w (fun e w' => e = .returned (.tuple #[])∧pX w B o (pre++Rt.tail m) w'):=by
 have HT:Hid (Rt.tail m=Mt.part false (enc m.aF.round.toNat++enc m.aF.node.toNat)++(Mt.part true (enc m.index.toNat)++(Mt.part false (Cm.bytes 2 m.cmd)++Mt.part true (Pk.text m.aw)))):=by
  show _=_;unfold Rt.tail;rw[hk]
  rfl
 have L1:=Mt.cX false (enc m.aF.round.toNat++enc m.aF.node.toNat);have L2:=Mt.cX true (enc m.index.toNat);have L3:=Mt.cX false (Cm.bytes 2 m.cmd);have f1:=hf.n m.aF.round (by simp[Re.bX]);have f2:=hf.n m.aF.node (by simp[Re.bX]);have f3:=hf.n m.index (by simp[Re.bX])
 have q1:=aA (n:=m.aF.round.toNat) (by omega);have q2:=aA (n:=m.aF.node.toNat) (by omega);have q3:=aA (n:=m.index.toNat) (by omega)
 have q4:=Cm.fC 2 m.cmd hf.c hs;have X1:Hid ((pre++Mt.part false (enc m.aF.round.toNat++enc m.aF.node.toNat)).length<=200):=by show _<=_;simp only[List.length_append]at L1 ⊢; omega
 have X2:Hid (((pre++Mt.part false (enc m.aF.round.toNat++enc m.aF.node.toNat))++Mt.part true (enc m.index.toNat)).length<=200):=by show _<=_;simp only[List.length_append]at L1 ⊢; omega
 have X3:Hid ((((pre++Mt.part false (enc m.aF.round.toNat++enc m.aF.node.toNat))++Mt.part true (enc m.index.toNat))++Mt.part false (Cm.bytes 2 m.cmd)).length<=200000):=by show _<=_;simp only[List.length_append]at L1 ⊢; omega
 have HW:=aa hw;have HL:=aa hl;have HC:=aa hc;have HF:=aa hf;have HS:=aa hs;have HI:=aa hi;have HN:=aa hn;clear L1 L2 L3 f1 f2 f3 q1 q2 q3 q4 hw hl hc hf hs hi hk hn
 go_enter Tryz.func131,Tryz.ntmps131
 go_wp2_with fail
 refine(ig false g1 m vi _ B o gx u pre HW.out hB HL.out (by omega) hgo HF.out HC.l1).mono ?_
 rintro e1 w1 ⟨rfl,u1,fJ,hs1,hb1⟩;have pF:=aa fJ;have aG:=aa hb1;have dh:=aa (hs1 _ _ _ hgo (by decide) HL.out)
 have kJ:=aa (HC.by fun g f x y h k=>hs1 _ _ _ (by have:=HN.out;omega) (by decide) k)
 clear fJ hs1 hb1
 go_wp2_with fail
 refine(fU true g2 m vi _ B o gx u1 _ pF.out (Nat.le_trans hB aG.size) dh.out X1.out HF.out kJ.l2).mono ?_;rintro e2 w2 ⟨rfl,u2,hw2,hs2,hb2⟩;have ES:=aa hw2;have aR:=aa (aG.trans hb2);have ej:=aa (hs2 _ _ _ hgo (by decide) dh.out)
 have ll:=aa (kJ.by fun g f x y h k=>hs2 _ _ _ (by have:=HN.out;omega) (by decide) k)
 clear hw2 hs2 hb2
 go_wp2_with fail
 refine(ij false g3 m vi _ B o gx u2 _ ES.out (Nat.le_trans hB aR.size) ej.out X2.out HF.out HS.out ll.l3).mono ?_;rintro e3 w3 ⟨rfl,u3,hw3,hs3,hb3⟩;have zR:=aa hw3;have bh:=aa (aR.trans hb3);have fY:=aa (hs3 _ _ _ hgo (by decide) ej.out)
 have pY:=aa (ll.by fun g f x y h k=>hs3 _ _ _ (by have:=HN.out;omega) (by decide) k)
 clear hw3 hs3 hb3
 go_wp2_with fail
 refine(il true g4 m vi _ B o gx u3 _ zR.out (Nat.le_trans hB bh.size) fY.out X3.out hm (fun W h=>HI.out W (bh.trans h)) pY.l4).mono ?_
 rintro e4 w4 ⟨rfl,u4,hw4,hb4⟩;have FO:=aa hw4;have bJ:=aa (bh.trans hb4);clear hw4 hb4;go_wp2
 go_end0
 refine⟨rfl,u4, ?_,bJ.out⟩;rw[HT.out];have hx:=FO.out;simp only[List.append_assoc]at hx ⊢
 exact hx
theorem CR(m:Re.Rec)(vi:Value)(w:World)(B o gx g1 g2 g3 g4:Nat)(u:Value)(pre:List UInt8)(hw:kI w B o u pre)(hp:pre.length<=10)(hB:B<=w.heap.size)(hl:ai w gx m vi)(hgo:gx≠o)(hn:o≠g1∧o≠g2∧o≠g3∧o≠g4)(hc:Rt.iD w g1 g2 g3 g4 133 134 135 136 o o gx)(hf:m.Fits)(hs:m.cmd.aD 1000)(hi : ∀W,Below B w W->Reads W vi m.aw)(hm:m.aw.length<=100000)(hk:Re.known m.kind=true) :
 Calls Tryz.prog 131 #[.int .i64 m.kind,Rt.link g1,Rt.link g2,Rt.link g3,Rt.link g4] w (fun e w' => e = .returned (.tuple #[])∧pX w B o (pre++Rt.tail m) w'):=by
 rcases Re.kinds m.kind with h | h | h | h | h
 ·have:=JC m vi w B o gx g1 g2 g3 g4 u pre hw hp hB hl hgo hn hc hf hs hi hm h;rw[h];exact this
 ·have:=JD m vi w B o gx g1 g2 g3 g4 u pre hw hp hB hl hgo hn hc hf hs hi hm h;rw[h];exact this
 ·have:=JE m vi w B o gx g1 g2 g3 g4 u pre hw hp hB hl hgo hn hc hf hs hi hm h;rw[h];exact this
 ·have:=JF m vi w B o gx g1 g2 g3 g4 u pre hw hp hB hl hgo hn hc hf hs hi hm h;rw[h];exact this
 ·rw[(Re.qW h).2.2.2.2]at hk;cases hk
def CS(w:World)(r:List UInt8 × Int)(e:Ending)(w' : World):Prop :=
 Below w.heap.size w w' ∧ ∃u,e = .returned (.tuple #[u, .int .i64 r.2])∧Reads w' u r.1
def Rt.encode(x:Re.Rec):List UInt8 × Int:=if Re.check x≠0 then ([],Re.check x)else (Rt.bytes x,0)
theorem yl(m:Re.Rec)(vi:Value)(w:World)(hW:bE w)(hi:Reads w vi m.aw)(hf:m.Fits)(hs:m.cmd.aD 1000)(hk:m.aw.length<=100000) :
 Calls Tryz.prog 92 #[.agg (Re.cells m vi)] w (CS w (Rt.encode m)):=by
 have zJ : ∀(fn:Fn) (first cap:Array Value) (w:World),(Instr.makeFunc fn first cap).run Tryz.prog w = .ok (.func fn first cap) w:=fun _ _ _ _=>rfl
 obtain⟨w1,e1,aH,aq,hz1⟩:=bf w m vi;obtain⟨p0,p1,p2,p3,p4,p5,p6,p7,p8,p9,cG,cE⟩:=ai.all aH;have dw:=aa aH;have aG:=aa aq;have HS:=aa hz1;have Te:=aa (hi.below aq);have kJ:=aa (iE m vi w1 (hW.below aq) Te.out ⟨Nat.le_trans hs.1 (by omega),Nat.le_trans hs.2.1 (by omega),Nat.le_trans hs.2.2 (by omega)⟩)
 have JG:=aa hf;have IY:=aa hs;have Sf:=aa hk;obtain⟨r,hr⟩ : ∃r,r=Rt.encode m:=⟨_,rfl⟩;rw[<- hr];unfold Rt.encode at hr
 have Qb:=aa (fun h:Re.check m=0=>(Re.eG h).kind)
 unfold CS;obtain⟨c,hc⟩ : ∃c,c=Re.check m:=⟨_,rfl⟩;rw[<- hc]at kJ Qb hr
 have HR:=aa hr;clear aH aq hz1 hW hi hs hf hk hc hr
 go_enter Tryz.func92,Tryz.ntmps92
 go_wp2_with fail
 refine kJ.mono ?_;rintro e2 w2 ⟨rfl,hb⟩;have dE:=aa (dw.below hb dw.lt);have aR:=aa hb;have rh:=aa (aG.trans (hb.mono aG.size));clear hb p0 p1 p2 p3 p4 p5 p6 p7 p8 p9 cG cE;by_cases h0:c=0
 ·subst h0
  have bC:Hid (r=(Rt.bytes m,0)):=HR.trans (if_neg (by simp))
  have hkn:=Qb.out rfl;have vT:1<=m.kind∧m.kind<=4:=by unfold Re.known at hkn;simpa using hkn
  have Tf:=aa hkn;have hs1:=HS.out;obtain⟨w3,e3,hw3,jx⟩ : ∃w3,w2.alloc (.cells #[.slice none 0 0] 163)=w3∧kI w3 w1.heap.size w2.heap.size (.slice none 0 0) []∧Below w2.heap.size w2 w3 :=
   ⟨_,rfl,Wr.fresh _ _ _ _ aR.size,(Below.refl _ _).alloc (Nat.le_refl _) _⟩
  have Ae:=aa (dE.below jx dE.lt);have bh:=aa (aR.trans (jx.mono aR.size));have zR:=aa hw3;have pH:Hid (w.heap.size<w2.heap.size∧w2.heap.size<w3.heap.size):=⟨by have:=aR.size;omega,hw3.ag.lt⟩
  have q0:=ai.c0 Ae.out;obtain⟨k,hkk⟩ : ∃k,k=m.kind:=⟨_,rfl⟩;have ym:=aa hkk;rw[<- hkk]at q0 vT
  obtain⟨k1,k2⟩:=vT;clear hw3 jx hs1 hkn Qb HR hkk;have h9:=aA (n:=(k+16).toNat) (by omega)
  have H9:=aa h9;clear h9
  go_wp2_with fail
  refine(fl (k+16) _ w1.heap.size w2.heap.size _ [] zR.out bh.size (by simp) (by omega) (by omega)).mono ?_
  rintro e4 w4 ⟨rfl,u4,hw4,hg4⟩;rw[List.nil_append]at hw4
  have tv:=aa (cC.ja zR.out hg4);have bJ:=aa (bh.trans (zR.below hg4 bh.size));have j6:=aa (tv.out _ _ _ (by have:=pH.out;omega) (by decide) Ae.out)
  have FO:=aa hw4;have sW:Hid (w2.heap.size<w4.heap.size):=hw4.ag.lt;have q0:=ai.c0 j6.out;rw[<- ym.out]at q0
  clear hw4 hg4;go_wp2;have abG:=aa (j6.below (Below.refl _ w4).drew j6.lt);have hrun : ∀(W:World) (g1 g2 g3 g4:Nat),Below w4.heap.size w4 W->w4.heap.size<=g1->w4.heap.size<=g2->w4.heap.size<=g3->w4.heap.size<=g4 ->
   Rt.iD W g1 g2 g3 g4 133 134 135 136 w2.heap.size w2.heap.size w.heap.size ->
   Calls Tryz.prog 131 #[.int .i64 k,Rt.link g1,Rt.link g2,Rt.link g3,Rt.link g4] W (fun e w' => e = .returned (.tuple #[])∧pX W w1.heap.size w2.heap.size (Rt.bytes m) w'):=by
   intro W g1 g2 g3 g4 hb h1 h2 h3 h4 hc
   rw[Rt.tX,ym.out];exact CR m vi W w1.heap.size w2.heap.size w.heap.size g1 g2 g3 g4 u4 _ (by rw[<- ym.out];exact FO.grown hb) (by rw[<- ym.out];have:=H9.out;omega) (Nat.le_trans bJ.size hb.size) (j6.below hb j6.lt)
    (by have:=pH.out;omega) (by have:=sW.out;omega) hc JG.out IY.out (fun V h=>Te.below (bJ.trans ((hb.mono bJ.size).trans h))) Sf.out Tf.out
  have gV:=aa hrun;have VK:Hid (Below w4.heap.size w4 w4.drew):=(Below.refl _ w4).drew;clear hrun;refine wp_region_held_drew (S:=fun W=>W.cell? ⟨w.heap.size,0,none⟩=some (.int .i64 k)) (by kernel_rfl) (by first | go_keep | exact q0) (fun hHeld => ?_)
  refine wpAnyH_take (i:=0) (v := ?v0) rfl (by kernel_rfl) (by kernel_rfl) (by kernel_rfl) (fun _ _ _ h=>h) (Or.inl ⟨by rfl, ?hy0⟩) hHeld ?Jp
  case hy0=>(intro w hSw;(try dsimp only at hSw);go_simp;(try with_reducible rfl))
  refine wpAnyH_take (i:=1) (v := ?v1) rfl (by kernel_rfl) (by kernel_rfl) (by kernel_rfl) (fun _ _ _ h=>h) (Or.inl ⟨by rfl, ?wO⟩) hHeld ?Jq
  case wO=>(intro w hSw;(try dsimp only at hSw);go_simp;(try with_reducible rfl))
  refine wpAnyH_take (i:=2) (v := ?v2) rfl (by kernel_rfl) (by kernel_rfl) (by kernel_rfl) (fun _ _ _ h=>h) (Or.inl ⟨by rfl, ?IX⟩) hHeld ?Jr
  case IX=>(intro w hSw;(try dsimp only at hSw);go_simp;(try with_reducible rfl))
  refine wpAnyH_take (i:=4) (v := ?v4) rfl (by kernel_rfl) (by kernel_rfl) (by kernel_rfl) (fun _ _ _ h=>h) (Or.inl ⟨by rfl, ?PR⟩) hHeld ?Js
  case PR=>(intro w hSw;(try dsimp only at hSw);go_simp;(try with_reducible rfl))
  refine wpAnyH_take (i:=6) (v := ?v6) rfl (by kernel_rfl) (by kernel_rfl) (by kernel_rfl) (fun _ _ _ h=>h) (Or.inl ⟨by rfl, ?WN⟩) hHeld ?Tg
  case WN=>(intro w hSw;(try dsimp only at hSw);go_simp;(try with_reducible rfl))
  refine wpAnyH_take (i:=8) (v := ?v8) rfl (by kernel_rfl) (by kernel_rfl) (by kernel_rfl) (fun _ _ _ h=>h) (Or.inl ⟨by rfl, ?WO⟩) hHeld ?Th
  case WO=>(intro w hSw;(try dsimp only at hSw);go_simp;(try with_reducible rfl))
  refine wpAnyH_ready (rs := [3]) (by kernel_rfl) (by simp) ?_
  refine AllReadyH.cons rfl (fun K hK => ?_) AllReadyH.nil
  rw[if_pos (by rfl)]
  go_simp
  go_at_call 132
  with_reducible refine(eF 133 _ _ _).mono ?_
  rintro e5 w5 ⟨g5,rfl,WQ,Zl,ew⟩;have Sh:=aa WQ;have bK:=aa (VK.trans (ew.mono (Nat.le_refl w4.heap.size)));have CF:Hid (w4.heap.size<=g5):=Zl;have K5:w5.cell? ⟨w.heap.size,0,none⟩=some (.int .i64 k):=by rw[ym.out];exact ai.c0 (j6.below bK.out j6.lt)
  clear WQ Zl ew;refine hK.out _ _ K5 (fun hHeld => ?_)
  clear hK K;refine wpAnyH_ready (rs := [5]) (by kernel_rfl) (by simp) ?_
  refine AllReadyH.cons rfl (fun K hK => ?_) AllReadyH.nil
  rw[if_pos (by rfl)]
  go_simp
  go_at_call 132
  with_reducible refine(eF 134 _ _ _).mono ?_
  rintro e6 w6 ⟨g6,rfl,Zm,Zn,fP⟩;have WR:=aa Zm;have cy:=aa (bK.trans (fP.mono bK.size));have Qg:=aa fP;have vU:Hid (w4.heap.size<=g6):=Nat.le_trans bK.size Zn;have K6:w6.cell? ⟨w.heap.size,0,none⟩=some (.int .i64 k):=by rw[ym.out];exact ai.c0 (j6.below cy.out j6.lt)
  clear Zm Zn fP;refine hK.out _ _ K6 (fun hHeld => ?_)
  clear hK K;refine wpAnyH_ready (rs := [7]) (by kernel_rfl) (by simp) ?_
  refine AllReadyH.cons rfl (fun K hK => ?_) AllReadyH.nil
  rw[if_pos (by rfl)]
  go_simp
  go_at_call 132
  with_reducible refine(eF 135 _ _ _).mono ?_
  rintro e7 w7 ⟨g7,rfl,Ti,Tj,fZ⟩;have Na:=aa Ti;have bw:=aa (cy.trans (fZ.mono cy.size));have Nw:=aa fZ;have IZ:Hid (w4.heap.size<=g7):=Nat.le_trans cy.size Tj;have K7:w7.cell? ⟨w.heap.size,0,none⟩=some (.int .i64 k):=by rw[ym.out];exact ai.c0 (j6.below bw.out j6.lt)
  clear Ti Tj fZ;refine hK.out _ _ K7 (fun hHeld => ?_)
  clear hK K;refine wpAnyH_ready (rs := [9]) (by kernel_rfl) (by simp) ?_
  refine AllReadyH.cons rfl (fun K hK => ?_) AllReadyH.nil
  rw[if_pos (by rfl)]
  go_simp
  go_at_call 132
  with_reducible refine(eF 136 _ _ _).mono ?_
  rintro e8 w8 ⟨g8,rfl,Pb,Tk,eX⟩;have Pc:=aa Pb;have cN:=aa (bw.trans (eX.mono bw.size));have Aq:=aa eX;have zK:Hid (w4.heap.size<=g8):=Nat.le_trans bw.size Tk;have K8:w8.cell? ⟨w.heap.size,0,none⟩=some (.int .i64 k):=by rw[ym.out];exact ai.c0 (j6.below cN.out j6.lt)
  clear Pb Tk eX;refine hK.out _ _ K8 (fun hHeld => ?_)
  clear hK K;refine wpAnyH_ready (rs := [10]) (by kernel_rfl) (by simp) ?_
  refine AllReadyH.cons rfl (fun K hK => ?_) AllReadyH.nil
  rw[if_pos (by rfl)]
  go_simp
  go_at_call 131
  have VL:Hid (Rt.iD w8 g5 g6 g7 g8 133 134 135 136 w2.heap.size w2.heap.size w.heap.size):=⟨((Sh.below Qg.out Sh.lt).below Nw.out (Nat.lt_of_lt_of_le Sh.lt Qg.size)).below Aq.out (Nat.lt_of_lt_of_le Sh.lt (Nat.le_trans Qg.size Nw.size)),(WR.below Nw.out WR.lt).below Aq.out (Nat.lt_of_lt_of_le WR.lt Nw.size),Na.below Aq.out Na.lt,Pc.out⟩
  with_reducible refine(gV.out w8 g5 g6 g7 g8 cN.out CF.out vU.out IZ.out zK.out VL.out).mono ?_
  rintro e9 w9 ⟨rfl,u9,Zo,j5⟩;have HW9:=aa Zo;have eY:=aa ((bJ.trans (cN.mono bJ.size)).trans j5);have K9:w9.cell? ⟨w.heap.size,0,none⟩=some (.int .i64 k):=by rw[ym.out];exact ai.c0 ((dw.below eY.out dw.lt))
  clear Zo j5;refine hK.out _ _ K9 (fun hHeld => ?_)
  clear hK K;refine wpAnyH_done (by kernel_rfl) ?_ _
  all_goals
   go_wp2_with fail
   refine(oM _ w1.heap.size w2.heap.size u9 _ HW9.out (by have:=Rt.fC Tf.out JG.out IY.out Sf.out;omega)).mono ?_
   rintro e8 oL ⟨u8,rfl,eU,eX⟩;have fN:=aa eU.reads;have mF:=aa (aG.trans ((eY.trans (eX.mono eY.size)).mono aG.size));clear eU eX;go_wp2
   go_ret2
   rw[bC.out];exact⟨mF.out,u8,rfl,fN.out⟩
 ·have hne:(c != 0)=true:=by simpa using h0
  have bC:Hid (r=([],c)):=HR.trans (if_pos h0);go_wp2
  go_ret2
  rw[bC.out];exact⟨rh.out,_,rfl,Reads.empty _⟩
end
end Go.Proofs.YtdkdjofnnnljjaaGreatDoor

namespace Go.Proofs.YtdkdjofnnnljjaaGreatDoor
open Go.RowKit
set_option maxHeartbeats 6400000
set_option maxRecDepth 4000
section
def cD(g h:Nat)(w w' : World):Prop := ∀(k:Nat) (T:TypeId) (vs:Array Value),k≠g->k≠h->ae w k T vs->ae w' k T vs
theorem cD.refl(g h:Nat)(w:World):cD g h w w:=fun _ _ _ _ _ h=>h
theorem cD.bp{g h:Nat}{w w' : World}(hb:Below w.heap.size w w'):cD g h w w' := fun _ _ _ _ _ hl=>hl.below hb hl.lt
theorem cD.trans{g h:Nat}{a b c:World}(x:cD g h a b)(y:cD g h b c):cD g h a c:=fun j T vs h1 h2 h3=>y j T vs h1 h2 (x j T vs h1 h2 h3)
theorem cD.yq{g h:Nat}{w w' : World}(k:w.grownBy w' (some g)):cD g h w w' := fun _ _ _ h1 _ hl=>hl.kept k (by intro e;cases e;exact h1 rfl)
theorem cD.yt{g h:Nat}{w w' : World}(k:w.grownBy w' (some h)):cD g h w w' := fun _ _ _ _ h2 hl=>hl.kept k (by intro e;cases e;exact h2 rfl)
theorem cD.WS{g h:Nat}{w w' : World}(k:cd g w w'):cD g h w w' := fun j T vs h1 _ hl=>k j T vs h1 hl
structure ri(w0:World)(B o gx:Nat)(u:Value)(s:List UInt8)(x:Re.Rec)(vi:Value)(p:Nat × Int)(w:World):Prop where
 r:dU w B o u s p.1 p.2
 m:ai w gx x vi
 i:bB w vi x.aw
 b:Below B w0 w
 s:cD o gx w0 w
def wQ(w0:World)(B o gx:Nat)(u:Value)(s:List UInt8)(x:Re.Rec)(p:Nat × Int)(e:Ending)(w:World):Prop :=
 e = .returned (.tuple #[])∧ri w0 B o gx u s x (.slice none 0 0) p w
abbrev I0(w:World)(gr o:Nat):Prop:=ae w gr 151 #[.pointer (some ⟨o,0,none⟩)]
abbrev Nb(w:World)(gn gr:Nat):Prop:=ae w gn 60 #[.func (.func 179) #[] #[.pointer (some ⟨gr,0,none⟩)]]
theorem Mt.yu{s:List UInt8}{p:Nat}{er n:Int}{q:Nat}{e:Int}(h:Cm.dD s p er=(n,(q:Int),e)):Mt.num true s (p,er)=(n,q,e):=by
 unfold Mt.num;rw[if_pos rfl];dsimp only;rw[h];simp
theorem je(w:World)(B o gr:Nat)(u:Value)(s:List UInt8)(p:Nat)(er n:Int)(q:Nat)(e:Int)(hr:dU w B o u s p er)(hx:e≠0->n=0)(h:Hid (Cm.dD s p er=(n,(q:Int),e)))(hg:I0 w gr o) :
 Calls Tryz.prog 179 #[.pointer (some ⟨gr,0,none⟩)] w (oo w B o u s q e (.int .i64 n)):=by
 have c0:=hg.cell 0 _ rfl;have HR:=aa hr;clear hr hg
 go_enter Tryz.func179,Tryz.ntmps179
 go_wp2_with fail
 refine(cY _ B o u s p er n q e HR.out hx h).mono ?_;rintro e1 w1 ⟨rfl,hr1,fL⟩;have ov:=aa hr1;have pI:=aa fL;clear hr1 fL;go_wp2;go_ret;exact⟨rfl,ov.out,pI.out⟩
theorem Nx{V:World}{h:Nat}{T:TypeId}{y0 y1 y2 y3 y4 y5 y6 y7 y8 y9 JH Ny:Value}{P:World->Prop}(hz:ae V h T #[y0,y1,y2,y3,y4,y5,y6,y7,y8,y9,JH,Ny])(a1 a2:Value)
 (hP : ∀w3,ae w3 h T #[y0,a1,a2,y3,y4,y5,y6,y7,y8,y9,JH,Ny]->V.grownBy w3 (some h)->P w3) :
 P ((V.setCell ⟨h,1,none⟩ a1).setCell ⟨h,2,none⟩ a2):=by
 refine hP _ ?_ ?_
 ·have:=(hz.set 1 a1).set 2 a2
  simpa using this
 ·exact aM (au _ _ _ _) (au _ _ _ _)
theorem Gc(k:Int)(w:World)(B o gx gr gn:Nat)(u:Value)(s:List UInt8)(p:Nat × Int)(hr:dU w B o u s p.1 p.2)(hl:ai w gx ⟨k,Bl.zero,0,Cm.zero, []⟩ (.slice none 0 0))(hg:I0 w gr o)(hn:Nb w gn gr)
 (hB:B<=gx) (ku:gx≠o) (hro:gr≠o) (hno:gn≠o) (iC:gn≠gx) :
 Calls Tryz.prog 180 #[.pointer (some ⟨gn,0,none⟩), .pointer (some ⟨gx,0,none⟩)] w
  (wQ w B o gx u s ⟨k,⟨(Mt.num true s p).1,(Mt.num true s (Mt.num true s p).2).1⟩,0,Cm.zero, []⟩ (Mt.num true s (Mt.num true s p).2).2):=by
 obtain⟨p,er⟩:=p;obtain⟨n1,q1,Si,Nc,hx1,_,_⟩:=Cm.dV s p er;obtain⟨n2,q2,Zp,Sj,hx2,_,_⟩:=Cm.dV s q1 Si;rw[Mt.yu Nc];dsimp only;rw[Mt.yu Sj];dsimp only at hr ⊢
 have Zq:=aa Nc;have Sk:=aa Sj;have kH:=hl.lt;have hBw:B<=w.heap.size:=by omega
 have c0:=hn.cell 0 _ rfl;have HR:=aa hr;have HL:=aa hl;have HG:=aa hg;have HN:=aa hn;have hd:Below w.heap.size w w.drew:=(Below.refl _ w).drew;have EZ:=aa (je w.drew B o gr u s p er n1 q1 Si (hr.kept hd) hx1 Zq (hg.below hd hg.lt));have ne1 : ¬gn=gx:=iC;have ne2 : ¬gx=gn:=fun h=>iC h.symm
 clear hr hl hg hn Nc Sj hd
 go_enter Tryz.func180,Tryz.ntmps180
 go_wp2
 go_region_held3 (fun W=>W.cell? ⟨gn,0,none⟩=some (.func (.func 179) #[] #[.pointer (some ⟨gr,0,none⟩)])) (first | go_keep | exact K5 | exact K6) (first
  | (go_at_call 179
     with_reducible refine EZ.out.mono ?_
     rintro e5 w5 ⟨rfl,ib,bU⟩;have hgd:w.drew.grownBy w5 (some o):=bU;have gQ:Hid (ai w5 gx ⟨k,Bl.zero,0,Cm.zero, []⟩ (.slice none 0 0)):=(HL.below (Below.refl _ w).drew HL.lt).kept hgd (by simp;exact ku)
     have j3:=aa ((HG.below (Below.refl _ w).drew HG.lt).kept hgd (by simp;exact hro))
     have WT:=(HN.below (Below.refl _ w).drew HN.lt).kept hgd (by simp;exact hno)
     have Nz:=aa WT;have K5:w5.cell? ⟨gn,0,none⟩=some (.func (.func 179) #[] #[.pointer (some ⟨gr,0,none⟩)]):=WT.cell 0 _ rfl;have bK:Hid (Below B w w5):=((Below.refl B w).drew).grown hgd hBw (by rintro x hx;cases hx;exact ib.base)
     have ma:Hid (cD o gx w w5):=(cD.bp (Below.refl _ w).drew).trans (cD.yq hgd);have HN2:=aa (je w5 B o gr u s q1 Si n2 q2 Zp ib hx2 Sk j3.out);clear ib bU hgd WT)
  | (go_at_call 179
     with_reducible refine HN2.out.mono ?_
     rintro e6 w6 ⟨rfl,qP,dt⟩;have eZ:ai w6 gx ⟨k,Bl.zero,0,Cm.zero, []⟩ (.slice none 0 0):=gQ.kept dt (by simp;exact ku)
     have Zr:=Nz.kept dt (by simp;exact hno)
     have K6:w6.cell? ⟨gn,0,none⟩=some (.func (.func 179) #[] #[.pointer (some ⟨gr,0,none⟩)]):=Zr.cell 0 _ rfl;have c1:w6.cell? ⟨gx,1,none⟩=some (.int .i64 0):=ai.c1 eZ;have c2:w6.cell? ⟨gx,2,none⟩=some (.int .i64 0):=ai.c2 eZ;have f1:=eZ.free 1;have f2:=eZ.free 2;have jf:=aa qP;have dX:=aa eZ;have cy:=aa (bK.grown dt (Nat.le_trans hBw bK.size) (by rintro x hx;cases hx;exact qP.base))
     have oN:=aa (ma.trans (cD.yq dt));clear qP dt eZ Zr))
 all_goals
  refine Nx dX.out _ _ ?_;intro w7 dH cr
  have Tl : ai w7 gx ⟨k,⟨n1,n2⟩,0,Cm.zero, []⟩ (.slice none 0 0):=dH;have HX:Hid (ri w B o gx u s ⟨k,⟨n1,n2⟩,0,Cm.zero, []⟩ (.slice none 0 0) (q2,Zp) w7) :=
   ⟨jf.gC cr ku (fun h=>dX.not_row (by decide) jf.owns h.symm),Tl, bB.empty _,cy.grown cr (Nat.le_trans hBw cy.size) (by rintro x hx;cases hx;exact hB),oN.trans (cD.yt cr)⟩
  clear dH cr Tl;go_wp2
  go_end0
  exact⟨rfl,HX.out⟩
theorem Ar(k:Int)(b:Bl.dM)(w:World)(B o gx gr gn:Nat)(u:Value)(s:List UInt8)(p:Nat × Int)(hr:dU w B o u s p.1 p.2)(hl:ai w gx ⟨k,b,0,Cm.zero, []⟩ (.slice none 0 0))(hg:I0 w gr o)(hn:Nb w gn gr)
 (hB:B<=gx) (ku:gx≠o) :
 Calls Tryz.prog 181 #[.pointer (some ⟨gn,0,none⟩), .pointer (some ⟨gx,0,none⟩)] w
  (wQ w B o gx u s ⟨k,b,(Mt.num true s p).1,Cm.zero, []⟩ (Mt.num true s p).2):=by
 obtain⟨p,er⟩:=p;obtain⟨n1,q1,Si,Nc,hx1,_,_⟩:=Cm.dV s p er;rw[Mt.yu Nc];dsimp only at hr ⊢
 have kH:=hl.lt;have hBw:B<=w.heap.size:=by omega
 have c0:=hn.cell 0 _ rfl;have EZ:=aa (je w B o gr u s p er n1 q1 Si hr hx1 (aa Nc) hg);have HL:=aa hl;clear hr hl hg hn Nc
 go_enter Tryz.func181,Tryz.ntmps181
 go_wp2_with fail
 refine EZ.mono ?_;rintro e5 w5 ⟨rfl,ib,bU⟩;have gQ:Hid (ai w5 gx ⟨k,b,0,Cm.zero, []⟩ (.slice none 0 0)):=HL.kept bU (by simp;exact ku)
 have lZ:=aa ib;have bK:=aa ((Below.refl B w).grown bU hBw (by rintro x hx;cases hx;exact ib.base))
 have ma:Hid (cD o gx w w5):=cD.yq bU;clear ib bU c0
 go_wp2_with (first
  | (refine aP (by rfl) _ _ _ (by rfl) gx 3 _ _ (Re.cells ⟨k,b,n1,Cm.zero, []⟩ (.slice none 0 0)) (.int .i64 n1) [.int .i64 n1] (by rfl) (by rfl) (by rfl) (by kernel_rfl) (by rfl) gQ.out (Nat.le_of_ble_eq_true rfl) (by rfl) ?_
     intro w7 dH cr
     have HX:Hid (ri w B o gx u s ⟨k,b,n1,Cm.zero, []⟩ (.slice none 0 0) (q1,Si) w7) :=
      ⟨lZ.gC cr ku (fun h=>gQ.not_row (by decide) lZ.owns h.symm),dH,bB.empty _,bK.grown cr (Nat.le_trans hBw bK.size) (by rintro x hx;cases hx;exact hB),ma.trans (cD.yt cr)⟩
     clear dH cr)
  | fail)
 go_end0
 exact⟨rfl,HX.out⟩
theorem Gd(k:Int)(b:Bl.dM)(i:Int)(w:World)(B o gx gr:Nat)(u:Value)(s:List UInt8)(p:Nat × Int)(hr:dU w B o u s p.1 p.2)(hl:ai w gx ⟨k,b,i,Cm.zero, []⟩ (.slice none 0 0))(hg:I0 w gr o)
 (hB:B<=gx) (ku:gx≠o) :
 Calls Tryz.prog 182 #[.pointer (some ⟨gr,0,none⟩), .pointer (some ⟨gx,0,none⟩)] w
  (wQ w B o gx u s ⟨k,b,i,(Rt.cmd true s p).1, []⟩ (Rt.cmd true s p).2):=by
 obtain⟨p,er⟩:=p;have hc:Rt.cmd true s (p,er)=Cm.get 2 s p er:=rfl;rw[hc];dsimp only at hr ⊢
 have kH:=hl.lt;have hBw:B<=w.heap.size:=by omega
 have c0:=hg.cell 0 _ rfl;have HL:=aa hl;have HR:=aa hr;clear hr hl hg hc
 go_enter Tryz.func182,Tryz.ntmps182
 go_wp2_with fail
 refine(qU 2 _ B o u s p er rfl HR.out hBw).mono ?_;rintro e5 w5 ⟨⟨rfl,ib,ew⟩,hs5⟩;obtain⟨t,ht⟩ : ∃t,t=Cm.get 2 s p er:=⟨_,rfl⟩;rw[<- ht]at ib ⊢
 have HT:=aa ht;have gQ:=aa (hs5 _ _ _ ku HL.out);have lZ:=aa ib;have bK:=aa ew;have ma:Hid (cD o gx w w5):=cD.WS hs5;clear ib hs5 ew c0 ht
 go_wp2_with (first
  | (refine aP (by rfl) _ _ _ (by rfl) gx 4 _ _ (Re.cells ⟨k,b,i,t.1, []⟩ (.slice none 0 0)) (.agg (Cm.cells t.1)) (Cm.cells t.1).toList (by rfl) (by rfl) (by rfl) (by kernel_rfl) (by rw[Array.all_toList];exact Cm.cR _) gQ.out (Nat.le_of_ble_eq_true rfl) (by rfl) ?_
     intro w7 dH cr
     have HX:Hid (ri w B o gx u s ⟨k,b,i,t.1, []⟩ (.slice none 0 0) t.2 w7) :=
      ⟨lZ.gC cr ku (fun h=>gQ.not_row (by decide) lZ.owns h.symm),dH,bB.empty _,bK.grown cr (Nat.le_trans hBw bK.size) (by rintro x hx;cases hx;exact hB),ma.trans (cD.yt cr)⟩
     clear dH cr)
  | fail)
 go_end0
 exact⟨rfl,by rw[<- HT.out];exact HX.out⟩
def lA(w0:World)(B o gx:Nat)(u:Value)(s:List UInt8)(x:Re.Rec)(p:Nat × Int)(w:World):Prop := ∃vi,ri w0 B o gx u s x vi p w
theorem Ge(k:Int)(b:Bl.dM)(i:Int)(c:Cm.bW)(w:World)(B o gx gr:Nat)(u:Value)(s:List UInt8)(p:Nat × Int)(hr:dU w B o u s p.1 p.2)(hl:ai w gx ⟨k,b,i,c, []⟩ (.slice none 0 0))(hg:I0 w gr o)
 (hB:B<=gx) (ku:gx≠o) :
 Calls Tryz.prog 183 #[.pointer (some ⟨gr,0,none⟩), .pointer (some ⟨gx,0,none⟩)] w
  (fun e w' => e = .returned (.tuple #[])∧lA w B o gx u s ⟨k,b,i,c,(Mt.aw true s p).1⟩ (Mt.aw true s p).2 w'):=by
 obtain⟨p,er⟩:=p;have hsm:=hr.small;obtain⟨x,q,e,hq,hx,hxl⟩ : ∃(x:List UInt8) (q:Nat) (e:Int),Ms.raw s p er=(x,(q:Int),e)∧(e≠0->x = [])∧x.length<=s.length:=by
  rcases Ms.jn s p er hr.Pd with ⟨e,q,_,_,h⟩ | ⟨x,q,_,_,h1,h,_⟩
  ·exact⟨[],q,e,h,fun _=>rfl,Nat.zero_le _⟩
  ·exact⟨x,q,0,h,fun h=>absurd rfl h,h1⟩
 have hi:Mt.aw true s (p,er)=(x,q,e):=by unfold Mt.aw;rw[if_pos rfl];dsimp only;rw[hq];simp
 rw[hi];dsimp only at hr ⊢
 have kH:=hl.lt;have hBw:B<=w.heap.size:=by omega
 have c0:=hg.cell 0 _ rfl;have HL:=aa hl;have HR:=aa hr;have HQ:=aa hq;clear hr hl hg hi hq
 go_enter Tryz.func183,Tryz.ntmps183
 go_wp2_with fail
 refine(wR _ B o u s p er x q e HR.out hx (by omega) HQ).mono ?_
 rintro e6 w6 ⟨vi,⟨rfl,qP,dt⟩,vV⟩;obtain⟨io,ic,rfl⟩:=vV.shape;obtain⟨xn,sY⟩ : ∃xn,xn=x.length:=⟨_,rfl⟩;rw[<- sY]at vV ⊢
 have dX:=aa (HL.kept dt (by simp;exact ku))
 have tD:=aa vV;have jf:=aa qP;have cy:=aa ((Below.refl B w).grown dt hBw (by rintro x hx;cases hx;exact qP.base))
 have oN:Hid (cD o gx w w6):=cD.yq dt;clear qP dt vV sY c0
 go_wp2_with (first
  | (refine aP (by rfl) _ _ _ (by rfl) gx 11 _ _ (Re.cells ⟨k,b,i,c,x⟩ (.slice io xn ic)) (.slice io xn ic) [.slice io xn ic] (by rfl) (by rfl) (by rfl) (by kernel_rfl) (by rfl) dX.out (Nat.le_of_ble_eq_true rfl) (by rfl) ?_
     intro w7 dH cr
     have HX:Hid (ri w B o gx u s ⟨k,b,i,c,x⟩ (.slice io xn ic) (q,e) w7) :=
      ⟨jf.gC cr ku (fun h=>dX.not_row (by decide) jf.owns h.symm),dH,tD.fq dX.out cr,cy.grown cr (Nat.le_trans hBw cy.size) (by rintro x hx;cases hx;exact hB),oN.trans (cD.yt cr)⟩
     clear dH cr)
  | fail)
 go_end0
 exact⟨rfl,_,HX.out⟩
section
variable (t : Bool) (g : Nat) (k : Int) (w : World) (B o gx gr gn : Nat) (u : Value) (s : List UInt8) (p : Nat × Int) (hr : dU w B o u s p.1 p.2) (hg : I0 w gr o) (hB : B <= gx) (ku : gx ≠ o)
include hr hg hB ku
theorem iq(hl:ai w gx ⟨k,Bl.zero,0,Cm.zero, []⟩ (.slice none 0 0))(hn:Nb w gn gr)(hro:gr≠o)(hno:gn≠o)(iC:gn≠gx)(hc:iQ w g 180 gn gx) :
 Calls Tryz.prog 163 #[.bool t, .pointer (some ⟨g,0,none⟩)] w (wQ w B o gx u s ⟨k,⟨(Mt.num t s p).1,(Mt.num t s (Mt.num t s p).2).1⟩,0,Cm.zero, []⟩ (Mt.num t s (Mt.num t s p).2).2) :=
 F4 t g gn gx w (ri w B o gx u s ⟨k,⟨(Mt.num t s p).1,(Mt.num t s (Mt.num t s p).2).1⟩,0,Cm.zero, []⟩ (.slice none 0 0) (Mt.num t s (Mt.num t s p).2).2) hc
  (fun h=>by subst h;exact Gc k w B o gx gr gn u s p hr hl hg hn hB ku hro hno iC)
  (fun h=>by subst h;exact⟨hr,hl,bB.empty _,Below.refl _ _,cD.refl _ _ _⟩)
theorem fV(b:Bl.dM)(hl:ai w gx ⟨k,b,0,Cm.zero, []⟩ (.slice none 0 0))(hn:Nb w gn gr)(hc:iQ w g 181 gn gx) :
 Calls Tryz.prog 163 #[.bool t, .pointer (some ⟨g,0,none⟩)] w (wQ w B o gx u s ⟨k,b,(Mt.num t s p).1,Cm.zero, []⟩ (Mt.num t s p).2) :=
 F5 t g gn gx w (ri w B o gx u s ⟨k,b,(Mt.num t s p).1,Cm.zero, []⟩ (.slice none 0 0) (Mt.num t s p).2) hc
  (fun h=>by subst h;exact Ar k b w B o gx gr gn u s p hr hl hg hn hB ku)
  (fun h=>by subst h;exact⟨hr,hl,bB.empty _,Below.refl _ _,cD.refl _ _ _⟩)
theorem ir(b:Bl.dM)(i:Int)(hl:ai w gx ⟨k,b,i,Cm.zero, []⟩ (.slice none 0 0))(hc:iQ w g 182 gr gx) :
 Calls Tryz.prog 163 #[.bool t, .pointer (some ⟨g,0,none⟩)] w (wQ w B o gx u s ⟨k,b,i,(Rt.cmd t s p).1, []⟩ (Rt.cmd t s p).2) :=
 F7 t g gr gx w (ri w B o gx u s ⟨k,b,i,(Rt.cmd t s p).1, []⟩ (.slice none 0 0) (Rt.cmd t s p).2) hc
  (fun h=>by subst h;exact Gd k b i w B o gx gr u s p hr hl hg hB ku)
  (fun h=>by subst h;exact⟨hr,hl,bB.empty _,Below.refl _ _,cD.refl _ _ _⟩)
theorem iu(b:Bl.dM)(i:Int)(c:Cm.bW)(hl:ai w gx ⟨k,b,i,c, []⟩ (.slice none 0 0))(hc:iQ w g 183 gr gx) :
 Calls Tryz.prog 163 #[.bool t, .pointer (some ⟨g,0,none⟩)] w (fun e w' => e = .returned (.tuple #[])∧lA w B o gx u s ⟨k,b,i,c,(Mt.aw t s p).1⟩ (Mt.aw t s p).2 w') :=
 F8 t g gr gx w (lA w B o gx u s ⟨k,b,i,c,(Mt.aw t s p).1⟩ (Mt.aw t s p).2) hc
  (fun h=>by subst h;exact Ge k b i c w B o gx gr u s p hr hl hg hB ku)
  (fun h=>by subst h;exact⟨_,hr,hl,bB.empty _,Below.refl _ _,cD.refl _ _ _⟩)
end
def Rt.f1(k:Int)(s:List UInt8)(p:Nat × Int):=Mt.num (Re.hb k) s p
def Rt.f2(k:Int)(s:List UInt8)(p:Nat × Int):=Mt.num (Re.hb k) s (Rt.f1 k s p).2
def Rt.f3(k:Int)(s:List UInt8)(p:Nat × Int):=Mt.num (Re.hi k) s (Rt.f2 k s p).2
def Rt.f4(k:Int)(s:List UInt8)(p:Nat × Int):=Rt.cmd (Re.hc k) s (Rt.f3 k s p).2
def Rt.f5(k:Int)(s:List UInt8)(p:Nat × Int):=Mt.aw (Re.hm k) s (Rt.f4 k s p).2
def Rt.rec(k:Int)(s:List UInt8)(p:Nat × Int):Re.Rec:=⟨k,⟨(Rt.f1 k s p).1,(Rt.f2 k s p).1⟩,(Rt.f3 k s p).1,(Rt.f4 k s p).1,(Rt.f5 k s p).1⟩
theorem JI(w:World)(B o gx gr gn g1 g2 g3 g4:Nat)(u:Value)(s:List UInt8)(p:Nat × Int)(hr:dU w B o u s p.1 p.2)(hl:ai w gx ⟨1,Bl.zero,0,Cm.zero, []⟩ (.slice none 0 0))(hg:I0 w gr o)(hn:Nb w gn gr)(hB:B<=gx)(ku:gx≠o)(hro:gr≠o)(wS:gr≠gx)(hno:gn≠o)(iC:gn≠gx)(ho:o≠g1∧o≠g2∧o≠g3∧o≠g4)(hgx:gx≠g1∧gx≠g2∧gx≠g3∧gx≠g4)(hc:Rt.iD w g1 g2 g3 g4 180 181 182 183 gn gr gx) :
 Calls Tryz.prog 131 #[.int .i64 1,Rt.link g1,Rt.link g2,Rt.link g3,Rt.link g4] w (fun e w' => e = .returned (.tuple #[])∧lA w B o gx u s (Rt.rec 1 s p) (Rt.f5 1 s p).2 w'):=by
 have HR:=aa hr;have HL:=aa hl;have HG:=aa hg;have HN:=aa hn;have HC:=aa hc;have HO:=aa ho;have HX:=aa hgx;clear hr hl hg hn hc ho hgx
 go_enter Tryz.func131,Tryz.ntmps131
 go_wp2_with fail
 refine(iq true g1 1 _ B o gx gr gn u s p HR.out HG.out hB ku HL.out HN.out hro hno iC HC.l1).mono ?_;rintro e1 w1 ⟨rfl,hr1,aH,_,hb1,hs1⟩;rw[show Mt.num true s p=Rt.f1 1 s p from rfl,show Mt.num true s (Rt.f1 1 s p).2=Rt.f2 1 s p from rfl]at hr1 aH
 have ov:=aa hr1;have dh:=aa aH;have aG:=aa hb1;have lU:=aa hs1;have pI:=aa (hs1 _ _ _ hro wS HG.out);have EZ:=aa (hs1 _ _ _ hno iC HN.out);have kJ:=aa (HC.by fun g f x y h k=>hs1 _ _ _ (by have:=HO.out;omega) (by have:=HX.out;omega) k)
 clear hr1 aH hb1 hs1
 go_wp2_with fail
 refine(fV false g2 1 _ B o gx gr gn u s _ ov.out pI.out hB ku _ dh.out EZ.out kJ.l2).mono ?_;rintro e2 w2 ⟨rfl,hr2,hl2,_,hb2,hs2⟩;rw[show Mt.num false s (Rt.f2 1 s p).2=Rt.f3 1 s p from rfl]at hr2 hl2
 have bC:=aa hr2;have ej:=aa hl2;have aR:=aa (aG.trans hb2);have kM:=aa (lU.trans hs2);have mg:=aa (hs2 _ _ _ hro wS pI.out);have ll:=aa (kJ.by fun g f x y h k=>hs2 _ _ _ (by have:=HO.out;omega) (by have:=HX.out;omega) k)
 clear hr2 hl2 hb2 hs2
 go_wp2_with fail
 refine(ir false g3 1 _ B o gx gr u s _ bC.out mg.out hB ku _ _ ej.out ll.l3).mono ?_;rintro e3 w3 ⟨rfl,hr3,fk,_,hb3,hs3⟩;rw[show Rt.cmd false s (Rt.f3 1 s p).2=Rt.f4 1 s p from rfl]at hr3 fk
 have oH:=aa hr3;have fY:=aa fk;have bh:=aa (aR.trans hb3);have zU:=aa (kM.trans hs3);have pT:=aa (hs3 _ _ _ hro wS mg.out);have pY:=aa (ll.by fun g f x y h k=>hs3 _ _ _ (by have:=HO.out;omega) (by have:=HX.out;omega) k)
 clear hr3 fk hb3 hs3
 go_wp2_with fail
 refine(iu false g4 1 _ B o gx gr u s _ oH.out pT.out hB ku _ _ _ fY.out pY.l4).mono ?_;rintro e4 w4 ⟨rfl,vi,hr4,hl4,hi4,hb4,tY⟩;rw[show Mt.aw false s (Rt.f4 1 s p).2=Rt.f5 1 s p from rfl]at hr4 hl4 hi4
 have HD:Hid (ri w B o gx u s (Rt.rec 1 s p) vi (Rt.f5 1 s p).2 w4):=⟨hr4,hl4,hi4,bh.trans hb4,zU.trans tY⟩;clear hr4 hl4 hi4 hb4 tY;go_wp2
 go_end0
 exact⟨rfl,vi,HD.out⟩
theorem JJ(w:World)(B o gx gr gn g1 g2 g3 g4:Nat)(u:Value)(s:List UInt8)(p:Nat × Int)(hr:dU w B o u s p.1 p.2)(hl:ai w gx ⟨2,Bl.zero,0,Cm.zero, []⟩ (.slice none 0 0))(hg:I0 w gr o)(hn:Nb w gn gr)(hB:B<=gx)(ku:gx≠o)(hro:gr≠o)(wS:gr≠gx)(hno:gn≠o)(iC:gn≠gx)(ho:o≠g1∧o≠g2∧o≠g3∧o≠g4)(hgx:gx≠g1∧gx≠g2∧gx≠g3∧gx≠g4)(hc:Rt.iD w g1 g2 g3 g4 180 181 182 183 gn gr gx) :
 Calls Tryz.prog 131 #[.int .i64 2,Rt.link g1,Rt.link g2,Rt.link g3,Rt.link g4] w (fun e w' => e = .returned (.tuple #[])∧lA w B o gx u s (Rt.rec 2 s p) (Rt.f5 2 s p).2 w'):=by
 have HR:=aa hr;have HL:=aa hl;have HG:=aa hg;have HN:=aa hn;have HC:=aa hc;have HO:=aa ho;have HX:=aa hgx;clear hr hl hg hn hc ho hgx
 go_enter Tryz.func131,Tryz.ntmps131
 go_wp2_with fail
 refine(iq true g1 2 _ B o gx gr gn u s p HR.out HG.out hB ku HL.out HN.out hro hno iC HC.l1).mono ?_;rintro e1 w1 ⟨rfl,hr1,aH,_,hb1,hs1⟩;rw[show Mt.num true s p=Rt.f1 2 s p from rfl,show Mt.num true s (Rt.f1 2 s p).2=Rt.f2 2 s p from rfl]at hr1 aH
 have ov:=aa hr1;have dh:=aa aH;have aG:=aa hb1;have lU:=aa hs1;have pI:=aa (hs1 _ _ _ hro wS HG.out);have EZ:=aa (hs1 _ _ _ hno iC HN.out);have kJ:=aa (HC.by fun g f x y h k=>hs1 _ _ _ (by have:=HO.out;omega) (by have:=HX.out;omega) k)
 clear hr1 aH hb1 hs1
 go_wp2_with fail
 refine(fV true g2 2 _ B o gx gr gn u s _ ov.out pI.out hB ku _ dh.out EZ.out kJ.l2).mono ?_;rintro e2 w2 ⟨rfl,hr2,hl2,_,hb2,hs2⟩;rw[show Mt.num true s (Rt.f2 2 s p).2=Rt.f3 2 s p from rfl]at hr2 hl2
 have bC:=aa hr2;have ej:=aa hl2;have aR:=aa (aG.trans hb2);have kM:=aa (lU.trans hs2);have mg:=aa (hs2 _ _ _ hro wS pI.out);have ll:=aa (kJ.by fun g f x y h k=>hs2 _ _ _ (by have:=HO.out;omega) (by have:=HX.out;omega) k)
 clear hr2 hl2 hb2 hs2
 go_wp2_with fail
 refine(ir true g3 2 _ B o gx gr u s _ bC.out mg.out hB ku _ _ ej.out ll.l3).mono ?_;rintro e3 w3 ⟨rfl,hr3,fk,_,hb3,hs3⟩;rw[show Rt.cmd true s (Rt.f3 2 s p).2=Rt.f4 2 s p from rfl]at hr3 fk
 have oH:=aa hr3;have fY:=aa fk;have bh:=aa (aR.trans hb3);have zU:=aa (kM.trans hs3);have pT:=aa (hs3 _ _ _ hro wS mg.out);have pY:=aa (ll.by fun g f x y h k=>hs3 _ _ _ (by have:=HO.out;omega) (by have:=HX.out;omega) k)
 clear hr3 fk hb3 hs3
 go_wp2_with fail
 refine(iu false g4 2 _ B o gx gr u s _ oH.out pT.out hB ku _ _ _ fY.out pY.l4).mono ?_;rintro e4 w4 ⟨rfl,vi,hr4,hl4,hi4,hb4,tY⟩;rw[show Mt.aw false s (Rt.f4 2 s p).2=Rt.f5 2 s p from rfl]at hr4 hl4 hi4
 have HD:Hid (ri w B o gx u s (Rt.rec 2 s p) vi (Rt.f5 2 s p).2 w4):=⟨hr4,hl4,hi4,bh.trans hb4,zU.trans tY⟩;clear hr4 hl4 hi4 hb4 tY;go_wp2
 go_end0
 exact⟨rfl,vi,HD.out⟩
theorem JK(w:World)(B o gx gr gn g1 g2 g3 g4:Nat)(u:Value)(s:List UInt8)(p:Nat × Int)(hr:dU w B o u s p.1 p.2)(hl:ai w gx ⟨3,Bl.zero,0,Cm.zero, []⟩ (.slice none 0 0))(hg:I0 w gr o)(hn:Nb w gn gr)(hB:B<=gx)(ku:gx≠o)(hro:gr≠o)(wS:gr≠gx)(hno:gn≠o)(iC:gn≠gx)(ho:o≠g1∧o≠g2∧o≠g3∧o≠g4)(hgx:gx≠g1∧gx≠g2∧gx≠g3∧gx≠g4)(hc:Rt.iD w g1 g2 g3 g4 180 181 182 183 gn gr gx) :
 Calls Tryz.prog 131 #[.int .i64 3,Rt.link g1,Rt.link g2,Rt.link g3,Rt.link g4] w (fun e w' => e = .returned (.tuple #[])∧lA w B o gx u s (Rt.rec 3 s p) (Rt.f5 3 s p).2 w'):=by
 have HR:=aa hr;have HL:=aa hl;have HG:=aa hg;have HN:=aa hn;have HC:=aa hc;have HO:=aa ho;have HX:=aa hgx;clear hr hl hg hn hc ho hgx
 go_enter Tryz.func131,Tryz.ntmps131
 go_wp2_with fail
 refine(iq false g1 3 _ B o gx gr gn u s p HR.out HG.out hB ku HL.out HN.out hro hno iC HC.l1).mono ?_;rintro e1 w1 ⟨rfl,hr1,aH,_,hb1,hs1⟩;rw[show Mt.num false s p=Rt.f1 3 s p from rfl,show Mt.num false s (Rt.f1 3 s p).2=Rt.f2 3 s p from rfl]at hr1 aH
 have ov:=aa hr1;have dh:=aa aH;have aG:=aa hb1;have lU:=aa hs1;have pI:=aa (hs1 _ _ _ hro wS HG.out);have EZ:=aa (hs1 _ _ _ hno iC HN.out);have kJ:=aa (HC.by fun g f x y h k=>hs1 _ _ _ (by have:=HO.out;omega) (by have:=HX.out;omega) k)
 clear hr1 aH hb1 hs1
 go_wp2_with fail
 refine(fV true g2 3 _ B o gx gr gn u s _ ov.out pI.out hB ku _ dh.out EZ.out kJ.l2).mono ?_;rintro e2 w2 ⟨rfl,hr2,hl2,_,hb2,hs2⟩;rw[show Mt.num true s (Rt.f2 3 s p).2=Rt.f3 3 s p from rfl]at hr2 hl2
 have bC:=aa hr2;have ej:=aa hl2;have aR:=aa (aG.trans hb2);have kM:=aa (lU.trans hs2);have mg:=aa (hs2 _ _ _ hro wS pI.out);have ll:=aa (kJ.by fun g f x y h k=>hs2 _ _ _ (by have:=HO.out;omega) (by have:=HX.out;omega) k)
 clear hr2 hl2 hb2 hs2
 go_wp2_with fail
 refine(ir true g3 3 _ B o gx gr u s _ bC.out mg.out hB ku _ _ ej.out ll.l3).mono ?_;rintro e3 w3 ⟨rfl,hr3,fk,_,hb3,hs3⟩;rw[show Rt.cmd true s (Rt.f3 3 s p).2=Rt.f4 3 s p from rfl]at hr3 fk
 have oH:=aa hr3;have fY:=aa fk;have bh:=aa (aR.trans hb3);have zU:=aa (kM.trans hs3);have pT:=aa (hs3 _ _ _ hro wS mg.out);have pY:=aa (ll.by fun g f x y h k=>hs3 _ _ _ (by have:=HO.out;omega) (by have:=HX.out;omega) k)
 clear hr3 fk hb3 hs3
 go_wp2_with fail
 refine(iu false g4 3 _ B o gx gr u s _ oH.out pT.out hB ku _ _ _ fY.out pY.l4).mono ?_;rintro e4 w4 ⟨rfl,vi,hr4,hl4,hi4,hb4,tY⟩;rw[show Mt.aw false s (Rt.f4 3 s p).2=Rt.f5 3 s p from rfl]at hr4 hl4 hi4
 have HD:Hid (ri w B o gx u s (Rt.rec 3 s p) vi (Rt.f5 3 s p).2 w4):=⟨hr4,hl4,hi4,bh.trans hb4,zU.trans tY⟩;clear hr4 hl4 hi4 hb4 tY;go_wp2
 go_end0
 exact⟨rfl,vi,HD.out⟩
theorem JL(w:World)(B o gx gr gn g1 g2 g3 g4:Nat)(u:Value)(s:List UInt8)(p:Nat × Int)(hr:dU w B o u s p.1 p.2)(hl:ai w gx ⟨4,Bl.zero,0,Cm.zero, []⟩ (.slice none 0 0))(hg:I0 w gr o)(hn:Nb w gn gr)(hB:B<=gx)(ku:gx≠o)(hro:gr≠o)(wS:gr≠gx)(hno:gn≠o)(iC:gn≠gx)(ho:o≠g1∧o≠g2∧o≠g3∧o≠g4)(hgx:gx≠g1∧gx≠g2∧gx≠g3∧gx≠g4)(hc:Rt.iD w g1 g2 g3 g4 180 181 182 183 gn gr gx) :
 Calls Tryz.prog 131 #[.int .i64 4,Rt.link g1,Rt.link g2,Rt.link g3,Rt.link g4] w (fun e w' => e = .returned (.tuple #[])∧lA w B o gx u s (Rt.rec 4 s p) (Rt.f5 4 s p).2 w'):=by
 have HR:=aa hr;have HL:=aa hl;have HG:=aa hg;have HN:=aa hn;have HC:=aa hc;have HO:=aa ho;have HX:=aa hgx;clear hr hl hg hn hc ho hgx
 go_enter Tryz.func131,Tryz.ntmps131
 go_wp2_with fail
 refine(iq false g1 4 _ B o gx gr gn u s p HR.out HG.out hB ku HL.out HN.out hro hno iC HC.l1).mono ?_;rintro e1 w1 ⟨rfl,hr1,aH,_,hb1,hs1⟩;rw[show Mt.num false s p=Rt.f1 4 s p from rfl,show Mt.num false s (Rt.f1 4 s p).2=Rt.f2 4 s p from rfl]at hr1 aH
 have ov:=aa hr1;have dh:=aa aH;have aG:=aa hb1;have lU:=aa hs1;have pI:=aa (hs1 _ _ _ hro wS HG.out);have EZ:=aa (hs1 _ _ _ hno iC HN.out);have kJ:=aa (HC.by fun g f x y h k=>hs1 _ _ _ (by have:=HO.out;omega) (by have:=HX.out;omega) k)
 clear hr1 aH hb1 hs1
 go_wp2_with fail
 refine(fV true g2 4 _ B o gx gr gn u s _ ov.out pI.out hB ku _ dh.out EZ.out kJ.l2).mono ?_;rintro e2 w2 ⟨rfl,hr2,hl2,_,hb2,hs2⟩;rw[show Mt.num true s (Rt.f2 4 s p).2=Rt.f3 4 s p from rfl]at hr2 hl2
 have bC:=aa hr2;have ej:=aa hl2;have aR:=aa (aG.trans hb2);have kM:=aa (lU.trans hs2);have mg:=aa (hs2 _ _ _ hro wS pI.out);have ll:=aa (kJ.by fun g f x y h k=>hs2 _ _ _ (by have:=HO.out;omega) (by have:=HX.out;omega) k)
 clear hr2 hl2 hb2 hs2
 go_wp2_with fail
 refine(ir false g3 4 _ B o gx gr u s _ bC.out mg.out hB ku _ _ ej.out ll.l3).mono ?_;rintro e3 w3 ⟨rfl,hr3,fk,_,hb3,hs3⟩;rw[show Rt.cmd false s (Rt.f3 4 s p).2=Rt.f4 4 s p from rfl]at hr3 fk
 have oH:=aa hr3;have fY:=aa fk;have bh:=aa (aR.trans hb3);have zU:=aa (kM.trans hs3);have pT:=aa (hs3 _ _ _ hro wS mg.out);have pY:=aa (ll.by fun g f x y h k=>hs3 _ _ _ (by have:=HO.out;omega) (by have:=HX.out;omega) k)
 clear hr3 fk hb3 hs3
 go_wp2_with fail
 refine(iu true g4 4 _ B o gx gr u s _ oH.out pT.out hB ku _ _ _ fY.out pY.l4).mono ?_;rintro e4 w4 ⟨rfl,vi,hr4,hl4,hi4,hb4,tY⟩;rw[show Mt.aw true s (Rt.f4 4 s p).2=Rt.f5 4 s p from rfl]at hr4 hl4 hi4
 have HD:Hid (ri w B o gx u s (Rt.rec 4 s p) vi (Rt.f5 4 s p).2 w4):=⟨hr4,hl4,hi4,bh.trans hb4,zU.trans tY⟩;clear hr4 hl4 hi4 hb4 tY;go_wp2
 go_end0
 exact⟨rfl,vi,HD.out⟩
theorem CT(k:Int)(w:World)(B o gx gr gn g1 g2 g3 g4:Nat)(u:Value)(s:List UInt8)(p:Nat × Int)(hr:dU w B o u s p.1 p.2)(hl:ai w gx ⟨k,Bl.zero,0,Cm.zero, []⟩ (.slice none 0 0))(hg:I0 w gr o)(hn:Nb w gn gr)(hB:B<=gx)(ku:gx≠o)(hro:gr≠o)(wS:gr≠gx)(hno:gn≠o)(iC:gn≠gx)(ho:o≠g1∧o≠g2∧o≠g3∧o≠g4)(hgx:gx≠g1∧gx≠g2∧gx≠g3∧gx≠g4)(hc:Rt.iD w g1 g2 g3 g4 180 181 182 183 gn gr gx)(hk:Re.known k=true) :
 Calls Tryz.prog 131 #[.int .i64 k,Rt.link g1,Rt.link g2,Rt.link g3,Rt.link g4] w (fun e w' => e = .returned (.tuple #[])∧lA w B o gx u s (Rt.rec k s p) (Rt.f5 k s p).2 w'):=by
 rcases Re.kinds k with rfl | rfl | rfl | rfl | h
 ·exact JI w B o gx gr gn g1 g2 g3 g4 u s p hr hl hg hn hB ku hro wS hno iC ho hgx hc
 ·exact JJ w B o gx gr gn g1 g2 g3 g4 u s p hr hl hg hn hB ku hro wS hno iC ho hgx hc
 ·exact JK w B o gx gr gn g1 g2 g3 g4 u s p hr hl hg hn hB ku hro wS hno iC ho hgx hc
 ·exact JL w B o gx gr gn g1 g2 g3 g4 u s p hr hl hg hn hB ku hro wS hno iC ho hgx hc
 ·rw[(Re.qW h).2.2.2.2]at hk;cases hk
end
def Rt.dn(s:List UInt8):Int:=if(Rt.r0 s).2.2≠0 then (Rt.r0 s).2.2 else if Re.known (Rt.kindOf s)=false then 3 else Cm.done s (Rt.r5 s).2.1 (Rt.r5 s).2.2
theorem Rt.Gf(s:List UInt8):Rt.decode s=if Rt.dn s≠0 then (Re.zero,Rt.dn s)else if Re.check (Rt.jW s)≠0 then (Re.zero,Re.check (Rt.jW s))else (Rt.jW s,0):=by
 unfold Rt.decode Rt.dn;by_cases h1:(Rt.r0 s).2.2≠0
 ·rw[if_pos h1,if_pos h1,if_pos h1]
 ·rw[if_neg h1,if_neg h1]
  by_cases h2:Re.known (Rt.kindOf s)=false
  ·rw[if_pos h2,if_pos h2];rfl
  ·rw[if_neg h2,if_neg h2]
def Qh(w:World)(B:Nat)(s:List UInt8)(e:Ending)(w' : World):Prop :=
 ∃y vi,e = .returned (.tuple #[.agg (Re.cells y vi), .int .i64 (Rt.dn s)])∧(Rt.dn s=0->y=Rt.jW s)∧bB w' vi y.aw∧Below B w w'
theorem CU(w:World)(B o:Nat)(u:Value)(s:List UInt8)(hr:dU w B o u s 0 0)(hB:B<=w.heap.size) :
 Calls Tryz.prog 154 #[.pointer (some ⟨o,0,none⟩)] w (Qh w B s):=by
 have zJ : ∀(fn:Fn) (first cap:Array Value) (w:World),(Instr.makeFunc fn first cap).run Tryz.prog w = .ok (.func fn first cap) w:=fun _ _ _ _=>rfl
 have ho:=hr.ag.lt;obtain⟨n,q,e,hq,hx,zG,R9⟩:=Cm.dV s 0 0;have h0:Rt.r0 s=(n,q,e):=Mt.yu hq;obtain⟨k,hk⟩ : ∃k,k=n - 16:=⟨_,rfl⟩;have hkk:Rt.kindOf s=k:=by unfold Rt.kindOf;rw[h0,hk]
 have Tm:Hid (e≠0->Rt.dn s=e):=fun h=>by unfold Rt.dn;rw[h0,if_pos h]
 have Tn:Hid (e=0->Re.known k=false->Rt.dn s=3):=fun h h' => by unfold Rt.dn;rw[h0,hkk,if_neg (by simp[h]),if_pos h']
 have To:Hid (e=0->Re.known k=true->Rt.dn s=Cm.done s (Rt.f5 k s (q,e)).2.1 (Rt.f5 k s (q,e)).2.2):=fun h h' => by
  have h5:Rt.r5 s=Rt.f5 k s (q,e):=by show Rt.f5 (Rt.kindOf s) s (Rt.r0 s).2=_;rw[hkk,h0]
  unfold Rt.dn;rw[h5,h0,hkk,if_neg (by simp[h]),if_neg (by rw[h'];simp)]
 have WU:Hid (Rt.jW s=Rt.rec k s (q,e)):=by
  show Rt.jW s=_;show Rt.rec (Rt.kindOf s) s (Rt.r0 s).2=_;rw[hkk,h0]
 have HQ:=aa hq;have hks:n - 16=k:=hk.symm;have WV : -16<=k:=by omega
 have jb:k<=9223372036854775791:=by omega
 obtain⟨w1,e1,fL,hb1,hz1⟩ : ∃w1,w.alloc (.cells #[.pointer (some ⟨o,0,none⟩)] 151)=w1∧I0 w1 w.heap.size o∧Below w.heap.size w w1∧w1.heap.size=w.heap.size+1:=⟨_,rfl,ae.new _ _ _,(Below.refl _ w).alloc (Nat.le_refl _) _,by simp⟩
 obtain⟨w2,e2,hl2,hb2,hz2⟩:=bf w1 Re.zero (.slice none 0 0);dsimp only [Re.cells,Re.zero,Bl.zero,Cm.zero,Cm.aL]at e2
 obtain⟨w3,e3,Sl,hb3,hz3⟩ : ∃w3,w2.alloc (.cells #[.nilFunc] 60)=w3∧ae w3 w2.heap.size 60 #[.nilFunc]∧Below w2.heap.size w2 w3∧w3.heap.size=w2.heap.size+1:=⟨_,rfl,ae.new _ _ _,(Below.refl _ w2).alloc (Nat.le_refl _) _,by simp⟩
 have Qi:Below w.heap.size w w3:=hb1.trans ((hb2.trans (hb3.mono hb2.size)).mono hb1.size);have vR:Hid (w1.heap.size=w.heap.size+1∧w2.heap.size=w1.heap.size+1∧w3.heap.size=w2.heap.size+1):=⟨hz1,hz2,hz3⟩;have oH:=aa (hr.kept Qi);have pT:=aa ((fL.below hb2 fL.lt).below hb3 (by omega))
 have jz:=aa (hl2.below hb3 hl2.lt);have WW:=aa Sl;have bh:=aa Qi;have I1:Hid (o<w.heap.size):=ho;clear hr hq h0 hk hkk fL hl2 Sl hb1 hb2 hb3 Qi hz1 hz2 hz3 ho
 go_enter Tryz.func154,Tryz.ntmps154
 go_wp2_with (first
  | (refine aP (by rfl) _ _ _ (by rfl) w2.heap.size 0 _ _ #[.func (.func 179) #[] #[.pointer (some ⟨w.heap.size,0,none⟩)]] (.func (.func 179) #[] #[.pointer (some ⟨w.heap.size,0,none⟩)]) [.func (.func 179) #[] #[.pointer (some ⟨w.heap.size,0,none⟩)]] (by rfl) (by rfl) (by rfl) (by kernel_rfl) (by rfl) WW.out (Nat.le_of_ble_eq_true rfl) (by rfl) ?_
     intro w4 hl4 hg4
     have c4:w4.cell? ⟨w2.heap.size,0,none⟩=some (.func (.func 179) #[] #[.pointer (some ⟨w.heap.size,0,none⟩)]):=hl4.cell 0 _ rfl;have Zs:Hid (Nb w4 w2.heap.size w.heap.size):=hl4;have rY:=aa (oH.gC hg4 (by have:=vR.out;have:=I1.out;omega) (fun h=>WW.not_row (by decide) oH.owns h.symm))
     have Gg:=aa (pT.kept hg4 (by have:=vR.out;simp;omega));have ET:=aa (jz.kept hg4 (by have:=vR.out;simp;omega))
     have bJ:=aa (bh.grown hg4 bh.size (by rintro x hx;cases hx;have:=vR.out;omega))
     have sW:Hid (w3.heap.size<=w4.heap.size):=hg4.size;clear hl4 hg4)
  | fail)
 refine(je _ B o w.heap.size u s 0 0 n q e rY.out hx HQ Gg.out).mono ?_;rintro e5 w5 ⟨rfl,ib,bU⟩;have lZ:=aa ib;have Nz:=aa (Zs.kept bU (by have:=vR.out;have:=I1.out;simp;omega));have j3:=aa (Gg.kept bU (by have:=I1.out;simp;omega));have zV:=aa (ET.kept bU (by have:=vR.out;have:=I1.out;simp;omega))
 have bK:Hid (Below B w w5):=(bJ.mono hB).grown bU (Nat.le_trans hB bJ.size) (by rintro x hx;cases hx;exact ib.base)
 have CF:Hid (w3.heap.size<=w5.heap.size):=Nat.le_trans sW.out bU.size;clear ib bU c4
 go_wp2_with (first
  | (refine aY (by rfl) _ _ (by rfl) w5.heap.size Re.zero _ (⟨k,Bl.zero,0,Cm.zero, []⟩:Re.Rec) (.slice none 0 0) (by rfl) (by rfl) rfl (ae.new _ _ _) ?_
     intro w6 eZ dt
     have hb:=aJ dt;have dX:=aa eZ;have jf:=aa (lZ.kept hb);have Gh:=aa (Nz.below hb Nz.lt);have mh:=aa (zV.below hb zV.lt);have Qj := j3.below hb j3.lt;have pG:=aa Qj;have c6:w6.cell? ⟨w.heap.size,0,none⟩=some (.pointer (some ⟨o,0,none⟩)):=Qj.cell 0 _ rfl;have cy:=aa (bK.trans (hb.mono (Nat.le_trans hB bK.size)));clear eZ dt hb Qj)
  | fail)
 refine(dI _ B o u s q e jf.out).mono ?_;rintro e7 w7 ⟨rfl,rfl⟩;have q0:=ai.c0 dX.out;dsimp only at q0
 by_cases he:e=0
 ·subst he
  by_cases hkn:Re.known k=true
  ·have vT:1<=k∧k<=4:=by unfold Re.known at hkn;simpa using hkn
   obtain⟨k1,k4⟩:=vT;have d1:decide (k<1)=false:=by simp;omega
   have d2:decide (4<k)=false:=by simp;omega
   have Sm:=aa (To.out rfl hkn);have Qb:=aa hkn;have hrun : ∀(W:World) (g1 g2 g3 g4:Nat),Below w6.heap.size w6 W->w6.heap.size<=g1->w6.heap.size<=g2->w6.heap.size<=g3->w6.heap.size<=g4 ->
    Rt.iD W g1 g2 g3 g4 180 181 182 183 w2.heap.size w.heap.size w5.heap.size ->
    Calls Tryz.prog 131 #[.int .i64 k,Rt.link g1,Rt.link g2,Rt.link g3,Rt.link g4] W (fun e w' => e = .returned (.tuple #[])∧lA W B o w5.heap.size u s (Rt.rec k s (q,0)) (Rt.f5 k s (q,0)).2 w'):=by
    intro W g1 g2 g3 g4 hb h1 h2 h3 h4 hc
    have z1:=vR.out;have z2:=CF.out;have z3:=dX.lt;have z4:=I1.out;exact CT k W B o w5.heap.size w.heap.size w2.heap.size g1 g2 g3 g4 u s (q,0) (jf.kept hb) (dX.below hb dX.lt) (pG.below hb pG.lt) (Gh.below hb Gh.lt)
     (by omega) (by omega) (by omega) (by omega) (by omega) (by omega) (by omega) (by omega) hc Qb.out
   have gV:=aa hrun;clear hrun hkn hks WV jb zG R9 hx;go_wp2;have VK:Hid (Below w6.heap.size w6 w6.drew):=(Below.refl _ w6).drew;refine wp_region_held_drew (S:=fun W=>W.cell? ⟨w5.heap.size,0,none⟩=some (.int .i64 k)) (by kernel_rfl) (by first | go_keep | exact q0) (fun hHeld => ?_)
   refine wpAnyH_take (i:=0) (v := ?v0) rfl (by kernel_rfl) (by kernel_rfl) (by kernel_rfl) (fun _ _ _ h=>h) (Or.inl ⟨by rfl, ?hy0⟩) hHeld ?Jp
   case hy0=>(intro w hSw;(try dsimp only at hSw);go_simp;(try with_reducible rfl))
   refine wpAnyH_take (i:=1) (v := ?v1) rfl (by kernel_rfl) (by kernel_rfl) (by kernel_rfl) (fun _ _ _ h=>h) (Or.inl ⟨by rfl, ?wO⟩) hHeld ?Jq
   case wO=>(intro w hSw;(try dsimp only at hSw);go_simp;(try with_reducible rfl))
   refine wpAnyH_take (i:=2) (v := ?v2) rfl (by kernel_rfl) (by kernel_rfl) (by kernel_rfl) (fun _ _ _ h=>h) (Or.inl ⟨by rfl, ?IX⟩) hHeld ?Jr
   case IX=>(intro w hSw;(try dsimp only at hSw);go_simp;(try with_reducible rfl))
   refine wpAnyH_take (i:=4) (v := ?v4) rfl (by kernel_rfl) (by kernel_rfl) (by kernel_rfl) (fun _ _ _ h=>h) (Or.inl ⟨by rfl, ?PR⟩) hHeld ?Js
   case PR=>(intro w hSw;(try dsimp only at hSw);go_simp;(try with_reducible rfl))
   refine wpAnyH_take (i:=6) (v := ?v6) rfl (by kernel_rfl) (by kernel_rfl) (by kernel_rfl) (fun _ _ _ h=>h) (Or.inl ⟨by rfl, ?WN⟩) hHeld ?Tg
   case WN=>(intro w hSw;(try dsimp only at hSw);go_simp;(try with_reducible rfl))
   refine wpAnyH_take (i:=8) (v := ?v8) rfl (by kernel_rfl) (by kernel_rfl) (by kernel_rfl) (fun _ _ _ h=>h) (Or.inl ⟨by rfl, ?WO⟩) hHeld ?Th
   case WO=>(intro w hSw;(try dsimp only at hSw);go_simp;(try with_reducible rfl))
   refine wpAnyH_ready (rs := [3]) (by kernel_rfl) (by simp) ?_
   refine AllReadyH.cons rfl (fun K hK => ?_) AllReadyH.nil
   rw[if_pos (by rfl)]
   go_simp
   go_at_call 132
   with_reducible refine(eF 180 _ _ _).mono ?_
   rintro e7 w7 ⟨g7,rfl,Ti,Tj,fZ⟩;have Na:=aa Ti;have bw:=aa (VK.trans (fZ.mono (Nat.le_refl w6.heap.size)));have IZ:Hid (w6.heap.size<=g7):=Tj;have K7:w7.cell? ⟨w5.heap.size,0,none⟩=some (.int .i64 k):=ai.c0 (dX.below bw.out dX.lt);clear Ti Tj fZ;refine hK.out _ _ K7 (fun hHeld => ?_)
   clear hK K;refine wpAnyH_ready (rs := [5]) (by kernel_rfl) (by simp) ?_
   refine AllReadyH.cons rfl (fun K hK => ?_) AllReadyH.nil
   rw[if_pos (by rfl)]
   go_simp
   go_at_call 132
   with_reducible refine(eF 181 _ _ _).mono ?_
   rintro e8 w8 ⟨g8,rfl,Pb,Tk,eX⟩;have Pc:=aa Pb;have cN:=aa (bw.trans (eX.mono bw.size));have Aq:=aa eX;have zK:Hid (w6.heap.size<=g8):=Nat.le_trans bw.size Tk;have K8:w8.cell? ⟨w5.heap.size,0,none⟩=some (.int .i64 k):=ai.c0 (dX.below cN.out dX.lt);clear Pb Tk eX;refine hK.out _ _ K8 (fun hHeld => ?_)
   clear hK K;refine wpAnyH_ready (rs := [7]) (by kernel_rfl) (by simp) ?_
   refine AllReadyH.cons rfl (fun K hK => ?_) AllReadyH.nil
   rw[if_pos (by rfl)]
   go_simp
   go_at_call 132
   with_reducible refine(eF 182 _ _ _).mono ?_
   rintro e9 w9 ⟨g9,rfl,Tp,WX,j5⟩;have Tq:=aa Tp;have eY:=aa (cN.trans (j5.mono cN.size));have JM:=aa j5;have Pe:Hid (w6.heap.size<=g9):=Nat.le_trans cN.size WX;have K9:w9.cell? ⟨w5.heap.size,0,none⟩=some (.int .i64 k):=ai.c0 (dX.below eY.out dX.lt);clear Tp WX j5;refine hK.out _ _ K9 (fun hHeld => ?_)
   clear hK K;refine wpAnyH_ready (rs := [9]) (by kernel_rfl) (by simp) ?_
   refine AllReadyH.cons rfl (fun K hK => ?_) AllReadyH.nil
   rw[if_pos (by rfl)]
   go_simp
   go_at_call 132
   with_reducible refine(eF 183 _ _ _).mono ?_
   rintro e10 oL ⟨g10,rfl,Tr,Ts,Qk⟩;have Tt:=aa Tr;have mF:=aa (eY.trans (Qk.mono eY.size));have E0:=aa Qk;have Gi:Hid (w6.heap.size<=g10):=Nat.le_trans eY.size Ts;have Zt:oL.cell? ⟨w5.heap.size,0,none⟩=some (.int .i64 k):=ai.c0 (dX.below mF.out dX.lt);clear Tr Ts Qk;refine hK.out _ _ Zt (fun hHeld => ?_)
   clear hK K;refine wpAnyH_ready (rs := [10]) (by kernel_rfl) (by simp) ?_
   refine AllReadyH.cons rfl (fun K hK => ?_) AllReadyH.nil
   rw[if_pos (by rfl)]
   go_simp
   go_at_call 131
   have VL:Hid (Rt.iD oL g7 g8 g9 g10 180 181 182 183 w2.heap.size w.heap.size w5.heap.size):=⟨((Na.below Aq.out Na.lt).below JM.out (Nat.lt_of_lt_of_le Na.lt Aq.size)).below E0.out (Nat.lt_of_lt_of_le Na.lt (Nat.le_trans Aq.size JM.size)),(Pc.below JM.out Pc.lt).below E0.out (Nat.lt_of_lt_of_le Pc.lt JM.size),Tq.below E0.out Tq.lt,Tt.out⟩
   with_reducible refine(gV.out oL g7 g8 g9 g10 mF.out IZ.out zK.out Pe.out Gi.out VL.out).mono ?_
   rintro e11 jr ⟨rfl,vi,Tu,sX,Tv,vW,Gj⟩;have z1:=vR.out;have z2:=CF.out;have z3:=I1.out;have yw:=aa Tu;have CV:=aa sX;have NA:=aa Tv;have tZ:=aa ((cy.trans (mF.mono (Nat.le_trans hB cy.size))).trans vW);have oO:=aa (Gj _ _ _ (by omega) (by omega) (mh.below mF.out mh.lt))
   have ub:=aa (Gj _ _ _ (by omega) (by omega) (pG.below mF.out pG.lt))
   have Zu:jr.cell? ⟨w5.heap.size,0,none⟩=some (.int .i64 k):=ai.c0 sX;clear Tu sX Tv vW Gj z1 z2 z3;refine hK.out _ _ Zu (fun hHeld => ?_)
   clear hK K;refine wpAnyH_done (by kernel_rfl) ?_ _
   all_goals
    obtain⟨io,ic,hsh⟩:=NA.shape;subst hsh;obtain⟨y,hy⟩ : ∃y,y=Rt.rec k s (q,0):=⟨_,rfl⟩;have HY:=aa hy;rw[<- hy]at CV NA
    obtain⟨xn,sY⟩ : ∃xn,xn=y.aw.length:=⟨_,rfl⟩;rw[<- sY]at CV NA
    obtain⟨pq,hpq⟩ : ∃pq,pq=(Rt.f5 k s (q,0)).2:=⟨_,rfl⟩;rw[<- hpq]at yw Sm
    obtain⟨D,hD⟩ : ∃D,D=Rt.dn s:=⟨_,rfl⟩;have vX:=aa hD;have Ql:Hid (D=Cm.done s pq.1 pq.2):=hD.trans Sm.out;clear hy sY hpq hD hHeld
    (try clear K7);(try clear K8);(try clear K9);(try clear Zt);(try clear Zu);(try clear c6);(try clear q0);(try clear gV);(try clear VK);(try clear VL);(try clear Na);(try clear Pc);(try clear Tq);(try clear Tt);(try clear bw);(try clear cN);(try clear eY);(try clear mF);(try clear Aq);(try clear JM);(try clear E0);(try clear IZ);(try clear zK);(try clear Pe);(try clear Gi);(try clear dX);(try clear Gh);(try clear mh);(try clear pG);(try clear cy);(try clear jf);(try clear lZ);(try clear bK);(try clear CF);(try clear zV);(try clear j3);(try clear Nz);(try clear sW);(try clear bJ);(try clear ET);(try clear Gg);(try clear rY);(try clear Zs);(try clear I1);(try clear bh);(try clear WW);(try clear jz);(try clear pT);(try clear oH);(try clear Sm);(try clear Qb);(try clear HQ);(try clear Tm);(try clear Tn);(try clear To);(try clear k1);(try clear k4);(try clear d1);(try clear d2);(try clear e1);(try clear e2);(try clear e3);(try clear zJ)
    go_wp2;obtain⟨p0,p1,p2,p3,p4,p5,p6,p7,p8,p9,cG,cE⟩:=ai.all CV.out;have cg:jr.cell? ⟨w.heap.size,0,none⟩=some (.pointer (some ⟨o,0,none⟩)):=ub.cell 0 _ rfl;have Gk:Hid (Calls Tryz.prog 114 #[.pointer (some ⟨o,0,none⟩)] jr.drew (fun en w' => en = .returned (.int .i64 D)∧ai w' w5.heap.size y (.slice io xn ic)∧ai w' w1.heap.size Re.zero (.slice none 0 0)∧Below jr.heap.size jr w')):=by
     refine(js jr.drew B o u s _ _ (yw.kept (Below.refl _ _).drew)).mono ?_;rintro en w' ⟨rfl,q6,rfl⟩;have hd:Below jr.heap.size jr (jr.drew.drewN q6):=((Below.refl _ _).drew).trans (drawn jr.drew q6);exact⟨by rw[Ql.out];rfl,CV.below hd CV.lt,oO.below hd oO.lt,hd⟩
    obtain⟨z0,z1,z2,z3,z4,z5,z6,z7,z8,z9,tE,E3⟩:=ai.all oO.out;dsimp only [Re.zero,Bl.zero,Cm.zero,Cm.aL]at z0 z1 z2 z3 z4 z5 z6 z7 z8 z9 tE
    have f0:=oO.free 0;have f1:=oO.free 1;have f2:=oO.free 2;have f3:=oO.free 3;have f4:=oO.free 4;have f5:=oO.free 5;have f6:=oO.free 6;have f7:=oO.free 7;have f8:=oO.free 8;have f9:=oO.free 9;have f10:=oO.free 10;have f11:=oO.free 11
    go_region_with (first
     | (go_at_call 114
        with_reducible refine Gk.out.mono ?_
        rintro e12 E4 ⟨rfl,WY,pZ,WZ⟩;obtain⟨p0,p1,p2,p3,p4,p5,p6,p7,p8,p9,cG,cE⟩:=ai.all WY;have lq:Hid (ai E4 w1.heap.size Re.zero (.slice none 0 0)∧Below jr.heap.size jr E4):=⟨pZ,WZ⟩;obtain⟨z0,z1,z2,z3,z4,z5,z6,z7,z8,z9,tE,E3⟩:=ai.all pZ;dsimp only [Re.zero,Bl.zero,Cm.zero,Cm.aL]at z0 z1 z2 z3 z4 z5 z6 z7 z8 z9 tE
        have f0:=pZ.free 0;have f1:=pZ.free 1;have f2:=pZ.free 2;have f3:=pZ.free 3;have f4:=pZ.free 4;have f5:=pZ.free 5;have f6:=pZ.free 6;have f7:=pZ.free 7;have f8:=pZ.free 8;have f9:=pZ.free 9;have f10:=pZ.free 10;have f11:=pZ.free 11))
    all_goals
     refine jG lq.1 _ _ _ _ _ _ _ _ _ _ _ _ ?_;intro vY Tw ud
     clear p0 p1 p2 p3 p4 p5 p6 p7 p8 p9 cG cE z0 z1 z2 z3 z4 z5 z6 z7 z8 z9 tE E3 f0 f1 f2 f3 f4 f5 f6 f7 f8 f9 f10 f11;have Qm:Hid (ai vY w1.heap.size y (.slice io xn ic)):=Tw;have W4:=aa ((NA.below lq.2).fq lq.1 ud);have vZ:=aa ((tZ.trans (lq.2.mono (Nat.le_trans hB tZ.size))).grown ud (Nat.le_trans hB (Nat.le_trans tZ.size lq.2.size)) (by rintro x hx;cases hx;have:=vR.out;omega))
     clear Tw ud;go_wp2;refine cL rfl rfl Qm.out rfl ?_;exact⟨y, .slice io xn ic,by rw[<- vX.out];rfl,fun _=>HY.trans WU.symm,W4.out,vZ.out⟩
  ·have vX:=aa (Tn.out rfl (by simpa using hkn))
   obtain⟨D,hD⟩ : ∃D,D=Rt.dn s:=⟨_,rfl⟩;have Ql:=aa hD;have vT:k<1∨4<k:=by unfold Re.known at hkn;simp at hkn;omega
   clear hkn hD;rcases vT with vT | vT
   ·have d1:decide (k<1)=true:=by simp;omega
    go_wp2_with (first
     | (refine aY (by rfl) _ _ (by rfl) w1.heap.size Re.zero _ Re.zero (.slice none 0 0) (by rfl) (by rfl) rfl mh.out ?_
        intro w7 dH cr
        have bw:=aa (cy.grown cr (Nat.le_trans hB cy.size) (by rintro j hj;cases hj;have:=vR.out;omega)))
     | fail)
    refine cL rfl rfl dH rfl ?_;exact⟨Re.zero, .slice none 0 0,by rw[vX.out];rfl,fun h=>absurd (vX.symm.trans h) (by decide),bB.empty _,bw.out⟩
   ·have d1:decide (k<1)=false:=by simp;omega
    have d2:decide (4<k)=true:=by simp;omega
    go_wp2_with (first
     | (refine aY (by rfl) _ _ (by rfl) w1.heap.size Re.zero _ Re.zero (.slice none 0 0) (by rfl) (by rfl) rfl mh.out ?_
        intro w7 dH cr
        have bw:=aa (cy.grown cr (Nat.le_trans hB cy.size) (by rintro j hj;cases hj;have:=vR.out;omega)))
     | fail)
    refine cL rfl rfl dH rfl ?_;exact⟨Re.zero, .slice none 0 0,by rw[vX.out];rfl,fun h=>absurd (vX.symm.trans h) (by decide),bB.empty _,bw.out⟩
 ·have hne:(e != 0)=true:=by simpa using he
  have HE:=aa he;have vX:=aa (Tm.out he);clear he
  go_wp2_with (first
   | (refine aY (by rfl) _ _ (by rfl) w1.heap.size Re.zero _ Re.zero (.slice none 0 0) (by rfl) (by rfl) rfl mh.out ?_
      intro w7 dH cr
      have bw:=aa (cy.grown cr (Nat.le_trans hB cy.size) (by rintro j hj;cases hj;have:=vR.out;omega)))
   | fail)
  refine cL rfl rfl dH rfl ?_;exact⟨Re.zero, .slice none 0 0,by rw[vX.out];rfl,fun h=>absurd (vX.symm.trans h) HE.out,bB.empty _,bw.out⟩
theorem yx(u:Value)(s:List UInt8)(w:World)(hW:bE w)(hu:Reads w u s)(hb:s.length<=1000000) :
 Calls Tryz.prog 116 #[u] w (JN w (Rt.decode s)):=by
 obtain⟨w1,e1,aH,aq,hz1⟩:=bf w Re.zero (.slice none 0 0);dsimp only [Re.cells,Re.zero,Bl.zero,Cm.zero,Cm.aL]at e1
 have lr:=aa aH;have aG:=aa aq;have W5:=aa (hu.below aq);have HZ:=aa hz1;have HW:=aa (fun W (h:Below w.heap.size w W)=>hW.below h)
 obtain⟨r,hr⟩ : ∃r,r=Rt.decode s:=⟨_,rfl⟩;rw[<- hr];rw[Rt.Gf]at hr
 obtain⟨_,mG,_⟩:=Rt.nC s;obtain⟨t,ht⟩ : ∃t,t=Rt.jW s:=⟨_,rfl⟩;rw[<- ht]at hr mG
 have HT:=aa ht;have oq:=aa hr;have IY:Hid (t.cmd.aD 140737488355328):=⟨Nat.le_trans mG.1 (by omega),Nat.le_trans mG.2.1 (by omega),Nat.le_trans mG.2.2 (by omega)⟩
 clear aH aq hz1 hu hr ht hW mG
 go_enter Tryz.func116,Tryz.ntmps116
 go_wp2_with fail
 refine(kv u s _ w1.heap.size (Nat.le_refl _) W5.out (by omega)).mono ?_
 rintro e2 w2 ⟨o,rv,rfl,ho,hr2,hb2⟩;have sZ:=aa (lr.below hb2 lr.lt);have aR:=aa (aG.trans (hb2.mono aG.size));have bC:=aa hr2;have rh:=aa hb2;clear hr2 hb2
 go_wp2_with fail
 refine(CU _ w1.heap.size o rv s bC.out rh.size).mono ?_;rintro e3 w3 ⟨y,vi,rfl,hy,hi,hb3⟩;obtain⟨io,ic,rfl⟩:=hi.shape;obtain⟨xn,sY⟩ : ∃xn,xn=y.aw.length:=⟨_,rfl⟩;rw[<- sY]at hi ⊢
 have wP:=aa hi;have bh:=aa (aR.trans (hb3.mono (Nat.le_of_lt (by have:=HZ.out;omega))))
 have jz:=aa (sZ.below hb3 (by have:=HZ.out;omega))
 obtain⟨z,hz⟩ : ∃z,z=Rt.dn s:=⟨_,rfl⟩;rw[<- hz]at hy oq ⊢
 rw[<- HT.out]at hy
 have HY:=aa hy;clear hi hb3 sY hy hz;by_cases h0:z=0
 ·subst h0
  obtain rfl:y=t:=HY.out rfl;have lZ:=aa (oq.trans (if_neg (by simp)))
  have CW:=aa (fun W (h:Below w.heap.size w W) (h' : Reads W (.slice io xn ic) y.aw)=>iE y (.slice io xn ic) W (HW.out _ h) h' IY.out)
  obtain⟨v,hv⟩ : ∃v,v=Re.check y:=⟨_,rfl⟩;rw[<- hv]at CW lZ
  clear hv
  go_wp2_with (first
   | (refine aY (by rfl) _ _ (by rfl) w3.heap.size Re.zero _ y (.slice io xn ic) (by rfl) (by rfl) rfl (ae.new _ _ _) ?_
      intro w5 hl4 hg4
      have hb:=aJ hg4;have Qn:=aa (wP.below hb);have zV:=aa (jz.below hb jz.lt);have Au:=aa hl4;have bK:=aa (bh.trans (hb.mono bh.size));clear hl4 hg4 hb)
   | (refine cZ (by rfl) _ (by rfl) w3.heap.size y (.slice io xn ic) (by rfl) Au.out ?_)
   | fail)
  refine(CW.out _ bK.out Qn.out).mono ?_;rintro e6 w6 ⟨rfl,hb⟩;have tD:=aa (Qn.below hb);have mh:=aa (zV.below hb zV.lt);have W6:=aa (Au.below hb Au.lt);have cy:=aa (bK.trans (hb.mono bK.size));clear hb;by_cases hy0:v=0
  ·subst hy0
   have jE:Hid (r=(y,0)):=lZ.trans (if_neg (by simp))
   go_wp2_with (first
    | (refine cZ (by rfl) _ (by rfl) w3.heap.size y (.slice io xn ic) (by rfl) W6.out ?_)
    | (refine aY (by rfl) _ _ (by rfl) w.heap.size Re.zero _ y (.slice io xn ic) (by rfl) (by rfl) rfl mh.out ?_
       intro w7 dH cr
       have bw:=aa (cy.grown cr cy.size (by rintro j hj;cases hj;exact Nat.le_refl _))
       have Av:=aa (tD.fq mh.out cr))
    | fail)
   refine cL rfl rfl dH rfl ?_;rw[jE.out];exact⟨bw.out, .slice io xn ic,rfl,Av.out,rfl⟩
  ·have hne:(v != 0)=true:=by simpa using hy0
   have jE:Hid (r=(Re.zero,v)):=lZ.trans (if_pos hy0);clear hy0
   go_wp2_with (first
    | (refine aY (by rfl) _ _ (by rfl) w.heap.size Re.zero _ Re.zero (.slice none 0 0) (by rfl) (by rfl) rfl mh.out ?_
       intro w7 dH cr
       have bw:=aa (cy.grown cr cy.size (by rintro j hj;cases hj;exact Nat.le_refl _)))
    | fail)
   refine cL rfl rfl dH rfl ?_;rw[jE.out];exact⟨bw.out, .slice none 0 0,rfl,bB.empty _,rfl⟩
 ·have hne:(z != 0)=true:=by simpa using h0
  have heq:(z == 0)=false:=by simpa using h0
  have jE:Hid (r=(Re.zero,z)):=oq.trans (if_pos h0);clear h0
  go_wp2_with (first
   | (refine aY (by rfl) _ _ (by rfl) w3.heap.size Re.zero _ y (.slice io xn ic) (by rfl) (by rfl) rfl (ae.new _ _ _) ?_
      intro w5 hl4 hg4
      have hb:=aJ hg4;have Qn:=aa (wP.below hb);have zV:=aa (jz.below hb jz.lt);have Au:=aa hl4;have bK:=aa (bh.trans (hb.mono bh.size));clear hl4 hg4 hb)
   | (refine aY (by rfl) _ _ (by rfl) w.heap.size Re.zero _ Re.zero (.slice none 0 0) (by rfl) (by rfl) rfl zV.out ?_
      intro w7 dH cr
      have bw:=aa (bK.grown cr bK.size (by rintro j hj;cases hj;exact Nat.le_refl _)))
   | fail)
  refine cL rfl rfl dH rfl ?_;rw[jE.out];exact⟨bw.out, .slice none 0 0,rfl,bB.empty _,rfl⟩
def Rt.format(v:Int):Int:=if v=1∨v=2 then 0 else 8
theorem qa(v:Int)(w:World):Calls Tryz.prog 90 #[.int .i64 v] w (Says w (.int .i64 (Rt.format v))):=by
 have ho:=rj 2 v w;rw[show Vs.opens 2 v=Rt.format v by unfold Vs.opens Rt.format Vs.may;simp;omega]at ho
 have HO:=aa ho;clear ho
 go_enter Tryz.func90,Tryz.ntmps90
 go_wp2_with fail
 refine HO.mono ?_;rintro e1 w1 ⟨rfl,rfl⟩;go_wp2;go_ret;exact⟨rfl,rfl⟩
theorem Gl(v:Int)(m:Re.Rec)(vi:Value)(w:World)(hW:bE w)(hi:Reads w vi m.aw)(hf:m.Fits)(hs:m.cmd.aD 1000)(hk:m.aw.length<=100000) :
 Calls Tryz.prog 69 #[.int .i64 v, .agg (Re.cells m vi)] w (CS w (Rt.put v m)):=by
 obtain⟨w1,e1,aH,aq,hz1⟩:=bf w m vi;obtain⟨p0,p1,p2,p3,p4,p5,p6,p7,p8,p9,cG,cE⟩:=ai.all aH;have aG:=aa aq;have CX:=qa v w1;by_cases h12:v=1∨v=2
 ·have HR:Hid (Rt.put v m=if Re.aO v m≠0 then ([],Re.aO v m)else (Rt.aN v m,0)):=by show _=_;unfold Rt.put;rw[if_pos h12]
  rw[show Rt.format v=0 from if_pos h12]at CX
  have HF:=aa CX;rcases h12 with rfl | rfl
  ·have HC:=aa (yy m vi w1 (hW.below aq) (hi.below aq) hf hs hk)
   clear CX aH aq hz1 hW hi hf hs
   go_enter Tryz.func69,Tryz.ntmps69
   go_wp2_with fail
   refine HF.mono ?_;rintro e2 w2 ⟨rfl,rfl⟩
   go_wp2_with fail
   refine HC.mono ?_;rintro e3 w3 ⟨hb,u,rfl,hu⟩;have bh:=aa (aG.trans (hb.mono aG.size));have HU:=aa hu;clear hb hu p0 p1 p2 p3 p4 p5 p6 p7 p8 p9 cG cE;go_wp2
   go_ret2
   have hr:=HR.out;rw[show Re.aO 1 m=Re.older m from Re.mn m]at hr
   have hu:=HU.out;by_cases h0:Re.older m=0
   ·rw[if_neg (by simpa using h0)]at hr
    rw[if_pos h0]at hu
    rw[hr,h0];exact⟨bh.out,u,rfl,hu⟩
   ·rw[if_pos h0]at hr
    rw[if_neg h0]at hu
    rw[hr];exact⟨bh.out,u,rfl,hu⟩
  ·have HC:=aa (yl m vi w1 (hW.below aq) (hi.below aq) hf hs hk)
   clear CX aH aq hz1 hW hi hf hs
   go_enter Tryz.func69,Tryz.ntmps69
   go_wp2_with fail
   refine HF.mono ?_;rintro e2 w2 ⟨rfl,rfl⟩
   go_wp2_with fail
   refine HC.mono ?_;rintro e3 w3 ⟨hb,u,rfl,hu⟩;have bh:=aa (aG.trans (hb.mono aG.size));have HU:=aa hu;clear hb hu p0 p1 p2 p3 p4 p5 p6 p7 p8 p9 cG cE;go_wp2
   go_ret2
   have hr:Rt.put 2 m=Rt.encode m:=by rw[HR.out,Rt.nD];rfl
   rw[hr];exact⟨bh.out,u,rfl,HU.out⟩
 ·have HR:Hid (Rt.put v m=([],8)):=by show _=_;unfold Rt.put;rw[if_neg h12]
  rw[show Rt.format v=8 from if_neg h12]at CX
  have HF:=aa CX;clear CX aH aq hz1 hW hi hf hs hk h12
  go_enter Tryz.func69,Tryz.ntmps69
  go_wp2_with fail
  refine HF.mono ?_;rintro e2 w2 ⟨rfl,rfl⟩;go_wp2
  go_ret2
  rw[HR.out];exact⟨aG.out,_,rfl,Reads.empty _⟩
theorem Gm(v:Int)(u:Value)(s:List UInt8)(w:World)(hW:bE w)(hu:Reads w u s)(hb:s.length<=1000000) :
 Calls Tryz.prog 81 #[.int .i64 v,u] w (JN w (Rt.get v s)):=by
 obtain⟨w1,e1,aH,aq,hz1⟩:=bf w Re.zero (.slice none 0 0);dsimp only [Re.cells,Re.zero,Bl.zero,Cm.zero,Cm.aL]at e1
 have lr:=aa aH;have aG:=aa aq;have CX:=qa v w1;by_cases h12:v=1∨v=2
 ·rw[show Rt.format v=0 from if_pos h12]at CX
  have HF:=aa CX;rcases h12 with rfl | rfl
  ·have HC:=aa (yz u s w1 (hW.below aq) (hu.below aq) hb)
   have HR:Hid (Rt.get 1 s=Re.decode s):=by show _=_;unfold Rt.get;rw[if_pos rfl]
   clear CX aH aq hz1 hW hu
   go_enter Tryz.func81,Tryz.ntmps81
   go_wp2_with fail
   refine HF.mono ?_;rintro e2 w2 ⟨rfl,rfl⟩
   go_wp2_with fail
   refine HC.mono ?_;rintro e3 w3 ⟨hb3,vi,rfl,hi,h1⟩;rw[<- HR.out]at hi ⊢
   have wP:=aa hi;have H1:=aa h1;have bh:=aa (aG.trans (hb3.mono aG.size));have jz:=aa (lr.below hb3 lr.lt);obtain⟨io,ic,rfl⟩:=hi.shape;obtain⟨r,hr⟩ : ∃r,r=Rt.get 1 s:=⟨_,rfl⟩;have W7:=aa hr;rw[<- hr]at wP ⊢
   obtain⟨xn,sY⟩ : ∃xn,xn=r.1.aw.length:=⟨_,rfl⟩;rw[<- sY]at wP ⊢
   clear hb3 hi h1 hr sY
   go_wp2_with (first
    | (refine aY (by rfl) _ _ (by rfl) w.heap.size Re.zero _ r.1 (.slice io xn ic) (by rfl) (by rfl) rfl jz.out ?_
       intro w7 dH cr
       have bw:=aa (bh.grown cr bh.size (by rintro j hj;cases hj;exact Nat.le_refl _))
       have Av:=aa (wP.fq jz.out cr))
    | fail)
   refine cL rfl rfl dH rfl ?_;rw[<- W7.out];exact⟨bw.out, .slice io xn ic,rfl,Av.out,rfl⟩
  ·have HC:=aa (yx u s w1 (hW.below aq) (hu.below aq) hb)
   have HR:Hid (Rt.get 2 s=Rt.decode s):=by show _=_;unfold Rt.get;rw[if_neg (by decide),if_pos rfl]
   clear CX aH aq hz1 hW hu
   go_enter Tryz.func81,Tryz.ntmps81
   go_wp2_with fail
   refine HF.mono ?_;rintro e2 w2 ⟨rfl,rfl⟩
   go_wp2_with fail
   refine HC.mono ?_;rintro e3 w3 ⟨hb3,vi,rfl,hi,h1⟩;rw[<- HR.out]at hi ⊢
   have wP:=aa hi;have H1:=aa h1;have bh:=aa (aG.trans (hb3.mono aG.size));have jz:=aa (lr.below hb3 lr.lt);obtain⟨io,ic,rfl⟩:=hi.shape;obtain⟨r,hr⟩ : ∃r,r=Rt.get 2 s:=⟨_,rfl⟩;have W7:=aa hr;rw[<- hr]at wP ⊢
   obtain⟨xn,sY⟩ : ∃xn,xn=r.1.aw.length:=⟨_,rfl⟩;rw[<- sY]at wP ⊢
   clear hb3 hi h1 hr sY
   go_wp2_with (first
    | (refine aY (by rfl) _ _ (by rfl) w.heap.size Re.zero _ r.1 (.slice io xn ic) (by rfl) (by rfl) rfl jz.out ?_
       intro w7 dH cr
       have bw:=aa (bh.grown cr bh.size (by rintro j hj;cases hj;exact Nat.le_refl _))
       have Av:=aa (wP.fq jz.out cr))
    | fail)
   refine cL rfl rfl dH rfl ?_;rw[<- W7.out];exact⟨bw.out, .slice io xn ic,rfl,Av.out,rfl⟩
 ·have HR:Hid (Rt.get v s=(Re.zero,8)):=by show _=_;unfold Rt.get;rw[if_neg (by omega),if_neg (by omega)]
  rw[show Rt.format v=8 from if_neg h12]at CX
  have HF:=aa CX;clear CX aH aq hz1 hW hu h12
  go_enter Tryz.func81,Tryz.ntmps81
  go_wp2_with fail
  refine HF.mono ?_;rintro e2 w2 ⟨rfl,rfl⟩
  go_wp2_with (first
   | (refine aY (by rfl) _ _ (by rfl) w.heap.size Re.zero _ Re.zero (.slice none 0 0) (by rfl) (by rfl) rfl lr.out ?_
      intro w7 dH cr
      have bw:=aa (aG.grown cr aG.size (by rintro j hj;cases hj;exact Nat.le_refl _)))
   | fail)
  refine cL rfl rfl dH rfl ?_;rw[HR.out];exact⟨bw.out, .slice none 0 0,rfl,bB.empty _,rfl⟩
end Go.Proofs.YtdkdjofnnnljjaaGreatDoor
