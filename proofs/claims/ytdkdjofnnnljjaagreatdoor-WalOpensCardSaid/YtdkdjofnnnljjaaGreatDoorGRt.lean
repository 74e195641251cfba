/- Several texts of mine in one: RtLink RtPut RtEnc. -/
import Derived.Test.YtdkdjofnnnljjaaGreatDoorPEnMem
import Derived.Test.YtdkdjofnnnljjaaGreatDoorGMb
import Derived.Test.YtdkdjofnnnljjaaGreatDoorGRg
import Derived.Test.YtdkdjofnnnljjaaGreatDoorGRf
import Derived.Test.YtdkdjofnnnljjaaGreatDoorPRtMath
import Derived.Deep.RegionHeld3
namespace Go.Proofs.YtdkdjofnnnljjaaGreatDoor
open Go.RowKit
set_option maxHeartbeats 3200000
set_option maxRecDepth 4000
abbrev Fun2(w:World)(g f a b:Nat):Prop:=Lies w g 1 #[.func (.func f) #[] #[.pointer (some ⟨a,0,none⟩), .pointer (some ⟨b,0,none⟩)]]
abbrev Rt.link(g:Nat):Value := .func (.func 163) #[] #[.pointer (some ⟨g,0,none⟩)]
theorem rtWith_any(f a b:Nat)(w:World) :
 Calls Tryz.prog 132 #[.func (.func f) #[] #[.pointer (some ⟨a,0,none⟩), .pointer (some ⟨b,0,none⟩)]] w
  fun e w' => e = .returned (Rt.link w.heap.size)∧Fun2 w' w.heap.size f a b∧Below w.heap.size w w' ∧ w.heap.size<w'.heap.size:=by
 have hmf : ∀(fn:Fn) (first cap:Array Value) (w:World),(Instr.makeFunc fn first cap).run Tryz.prog w = .ok (.func fn first cap) w:=fun _ _ _ _=>rfl
 obtain⟨w1,e1,hl1,hb1⟩ : ∃w1,w.alloc (.cells #[.func (.func f) #[] #[.pointer (some ⟨a,0,none⟩), .pointer (some ⟨b,0,none⟩)]] 1)=w1∧Fun2 w1 w.heap.size f a b∧Below w.heap.size w w1 :=
  ⟨_,rfl,Lies.new _ _ _,(Below.refl _ w).alloc (Nat.le_refl _) _⟩
 have HL:=Lib.hid hl1;have HB:=Lib.hid hb1
 clear hl1 hb1
 go_enter Tryz.func132,Tryz.ntmps132
 go_wp2
 go_ret
 exact⟨rfl,HL.out,HB.out,HL.out.lt⟩
theorem rtWith_some(f a b:Nat)(w:World) :
 Calls Tryz.prog 132 #[.func (.func f) #[] #[.pointer (some ⟨a,0,none⟩), .pointer (some ⟨b,0,none⟩)]] w
  fun e w' => ∃g,e = .returned (Rt.link g)∧Fun2 w' g f a b∧w.heap.size≤g∧Below w.heap.size w w' := by
 refine(rtWith_any f a b w).mono ?_
 rintro e w' ⟨h1,h2,h3,_⟩
 exact⟨_,h1,h2,Nat.le_refl _,h3⟩
theorem rtLink_e1(t:Bool)(g a b:Nat)(w:World)(P:World→Prop)(hl:Fun2 w g 133 a b)
 (h1:t=true→Calls Tryz.prog 133 #[.pointer (some ⟨a,0,none⟩), .pointer (some ⟨b,0,none⟩)] w fun e w' => e = .returned (.tuple #[])∧P w') (h0:t=false→P w) :
 Calls Tryz.prog 163 #[.bool t, .pointer (some ⟨g,0,none⟩)] w fun e w' => e = .returned (.tuple #[])∧P w' := by
 have c0:=hl.cell 0 _ rfl
 cases t with
 | true =>
  have H1:=Lib.hid (h1 rfl)
  clear h1 h0 hl
  go_enter Tryz.func163,Tryz.ntmps163
  go_wp2_with fail
  refine H1.out.mono ?_
  rintro e1 w1 ⟨rfl,h⟩
  have H:=Lib.hid h
  clear h
  go_wp2
  go_end0
  exact⟨rfl,H.out⟩
 | false =>
  have H0:=Lib.hid (h0 rfl)
  clear h1 h0 hl
  go_enter Tryz.func163,Tryz.ntmps163
  go_wp2
  go_end0
  exact⟨rfl,H0.out⟩
theorem rtLink_e2(t:Bool)(g a b:Nat)(w:World)(P:World→Prop)(hl:Fun2 w g 134 a b)
 (h1:t=true→Calls Tryz.prog 134 #[.pointer (some ⟨a,0,none⟩), .pointer (some ⟨b,0,none⟩)] w fun e w' => e = .returned (.tuple #[])∧P w') (h0:t=false→P w) :
 Calls Tryz.prog 163 #[.bool t, .pointer (some ⟨g,0,none⟩)] w fun e w' => e = .returned (.tuple #[])∧P w' := by
 have c0:=hl.cell 0 _ rfl
 cases t with
 | true =>
  have H1:=Lib.hid (h1 rfl)
  clear h1 h0 hl
  go_enter Tryz.func163,Tryz.ntmps163
  go_wp2_with fail
  refine H1.out.mono ?_
  rintro e1 w1 ⟨rfl,h⟩
  have H:=Lib.hid h
  clear h
  go_wp2
  go_end0
  exact⟨rfl,H.out⟩
 | false =>
  have H0:=Lib.hid (h0 rfl)
  clear h1 h0 hl
  go_enter Tryz.func163,Tryz.ntmps163
  go_wp2
  go_end0
  exact⟨rfl,H0.out⟩
theorem rtLink_e3(t:Bool)(g a b:Nat)(w:World)(P:World→Prop)(hl:Fun2 w g 135 a b)
 (h1:t=true→Calls Tryz.prog 135 #[.pointer (some ⟨a,0,none⟩), .pointer (some ⟨b,0,none⟩)] w fun e w' => e = .returned (.tuple #[])∧P w') (h0:t=false→P w) :
 Calls Tryz.prog 163 #[.bool t, .pointer (some ⟨g,0,none⟩)] w fun e w' => e = .returned (.tuple #[])∧P w' := by
 have c0:=hl.cell 0 _ rfl
 cases t with
 | true =>
  have H1:=Lib.hid (h1 rfl)
  clear h1 h0 hl
  go_enter Tryz.func163,Tryz.ntmps163
  go_wp2_with fail
  refine H1.out.mono ?_
  rintro e1 w1 ⟨rfl,h⟩
  have H:=Lib.hid h
  clear h
  go_wp2
  go_end0
  exact⟨rfl,H.out⟩
 | false =>
  have H0:=Lib.hid (h0 rfl)
  clear h1 h0 hl
  go_enter Tryz.func163,Tryz.ntmps163
  go_wp2
  go_end0
  exact⟨rfl,H0.out⟩
theorem rtLink_e4(t:Bool)(g a b:Nat)(w:World)(P:World→Prop)(hl:Fun2 w g 136 a b)
 (h1:t=true→Calls Tryz.prog 136 #[.pointer (some ⟨a,0,none⟩), .pointer (some ⟨b,0,none⟩)] w fun e w' => e = .returned (.tuple #[])∧P w') (h0:t=false→P w) :
 Calls Tryz.prog 163 #[.bool t, .pointer (some ⟨g,0,none⟩)] w fun e w' => e = .returned (.tuple #[])∧P w' := by
 have c0:=hl.cell 0 _ rfl
 cases t with
 | true =>
  have H1:=Lib.hid (h1 rfl)
  clear h1 h0 hl
  go_enter Tryz.func163,Tryz.ntmps163
  go_wp2_with fail
  refine H1.out.mono ?_
  rintro e1 w1 ⟨rfl,h⟩
  have H:=Lib.hid h
  clear h
  go_wp2
  go_end0
  exact⟨rfl,H.out⟩
 | false =>
  have H0:=Lib.hid (h0 rfl)
  clear h1 h0 hl
  go_enter Tryz.func163,Tryz.ntmps163
  go_wp2
  go_end0
  exact⟨rfl,H0.out⟩
theorem rtLink_r2(t:Bool)(g a b:Nat)(w:World)(P:World→Prop)(hl:Fun2 w g 180 a b)
 (h1:t=true→Calls Tryz.prog 180 #[.pointer (some ⟨a,0,none⟩), .pointer (some ⟨b,0,none⟩)] w fun e w' => e = .returned (.tuple #[])∧P w') (h0:t=false→P w) :
 Calls Tryz.prog 163 #[.bool t, .pointer (some ⟨g,0,none⟩)] w fun e w' => e = .returned (.tuple #[])∧P w' := by
 have c0:=hl.cell 0 _ rfl
 cases t with
 | true =>
  have H1:=Lib.hid (h1 rfl)
  clear h1 h0 hl
  go_enter Tryz.func163,Tryz.ntmps163
  go_wp2_with fail
  refine H1.out.mono ?_
  rintro e1 w1 ⟨rfl,h⟩
  have H:=Lib.hid h
  clear h
  go_wp2
  go_end0
  exact⟨rfl,H.out⟩
 | false =>
  have H0:=Lib.hid (h0 rfl)
  clear h1 h0 hl
  go_enter Tryz.func163,Tryz.ntmps163
  go_wp2
  go_end0
  exact⟨rfl,H0.out⟩
theorem rtLink_r3(t:Bool)(g a b:Nat)(w:World)(P:World→Prop)(hl:Fun2 w g 181 a b)
 (h1:t=true→Calls Tryz.prog 181 #[.pointer (some ⟨a,0,none⟩), .pointer (some ⟨b,0,none⟩)] w fun e w' => e = .returned (.tuple #[])∧P w') (h0:t=false→P w) :
 Calls Tryz.prog 163 #[.bool t, .pointer (some ⟨g,0,none⟩)] w fun e w' => e = .returned (.tuple #[])∧P w' := by
 have c0:=hl.cell 0 _ rfl
 cases t with
 | true =>
  have H1:=Lib.hid (h1 rfl)
  clear h1 h0 hl
  go_enter Tryz.func163,Tryz.ntmps163
  go_wp2_with fail
  refine H1.out.mono ?_
  rintro e1 w1 ⟨rfl,h⟩
  have H:=Lib.hid h
  clear h
  go_wp2
  go_end0
  exact⟨rfl,H.out⟩
 | false =>
  have H0:=Lib.hid (h0 rfl)
  clear h1 h0 hl
  go_enter Tryz.func163,Tryz.ntmps163
  go_wp2
  go_end0
  exact⟨rfl,H0.out⟩
theorem rtLink_r4(t:Bool)(g a b:Nat)(w:World)(P:World→Prop)(hl:Fun2 w g 182 a b)
 (h1:t=true→Calls Tryz.prog 182 #[.pointer (some ⟨a,0,none⟩), .pointer (some ⟨b,0,none⟩)] w fun e w' => e = .returned (.tuple #[])∧P w') (h0:t=false→P w) :
 Calls Tryz.prog 163 #[.bool t, .pointer (some ⟨g,0,none⟩)] w fun e w' => e = .returned (.tuple #[])∧P w' := by
 have c0:=hl.cell 0 _ rfl
 cases t with
 | true =>
  have H1:=Lib.hid (h1 rfl)
  clear h1 h0 hl
  go_enter Tryz.func163,Tryz.ntmps163
  go_wp2_with fail
  refine H1.out.mono ?_
  rintro e1 w1 ⟨rfl,h⟩
  have H:=Lib.hid h
  clear h
  go_wp2
  go_end0
  exact⟨rfl,H.out⟩
 | false =>
  have H0:=Lib.hid (h0 rfl)
  clear h1 h0 hl
  go_enter Tryz.func163,Tryz.ntmps163
  go_wp2
  go_end0
  exact⟨rfl,H0.out⟩
theorem rtLink_r5(t:Bool)(g a b:Nat)(w:World)(P:World→Prop)(hl:Fun2 w g 183 a b)
 (h1:t=true→Calls Tryz.prog 183 #[.pointer (some ⟨a,0,none⟩), .pointer (some ⟨b,0,none⟩)] w fun e w' => e = .returned (.tuple #[])∧P w') (h0:t=false→P w) :
 Calls Tryz.prog 163 #[.bool t, .pointer (some ⟨g,0,none⟩)] w fun e w' => e = .returned (.tuple #[])∧P w' := by
 have c0:=hl.cell 0 _ rfl
 cases t with
 | true =>
  have H1:=Lib.hid (h1 rfl)
  clear h1 h0 hl
  go_enter Tryz.func163,Tryz.ntmps163
  go_wp2_with fail
  refine H1.out.mono ?_
  rintro e1 w1 ⟨rfl,h⟩
  have H:=Lib.hid h
  clear h
  go_wp2
  go_end0
  exact⟨rfl,H.out⟩
 | false =>
  have H0:=Lib.hid (h0 rfl)
  clear h1 h0 hl
  go_enter Tryz.func163,Tryz.ntmps163
  go_wp2
  go_end0
  exact⟨rfl,H0.out⟩
theorem rtPut_bal(m:Re.Rec)(vi:Value)(w:World)(B o gx:Nat)(u:Value)(pre:List UInt8)(hw:Wrt w B o u pre)(hp:pre.length≤200)(hB:B≤w.heap.size)(hl:Recs w gx m vi)(hgo:gx≠o)(hf:m.Fits) :
 Calls Tryz.prog 133 #[.pointer (some ⟨o,0,none⟩), .pointer (some ⟨gx,0,none⟩)] w (PutGot w B o (pre++(enc m.bal.round.toNat++enc m.bal.node.toNat))):=by
 have c1:=Recs.c1 hl
 have h1:=hf.n m.bal.round (by simp[Re.nums]);have h2:=hf.n m.bal.node (by simp[Re.nums])
 have h9:=enc_nine (n:=m.bal.round.toNat) (by omega)
 have HW:=Lib.hid hw;have HL:=Lib.hid hl;have H1:=Lib.hid h1;have H2:=Lib.hid h2;have H9:=Lib.hid h9
 clear hw hl hf h1 h2 h9
 go_enter Tryz.func133,Tryz.ntmps133
 go_wp2_with fail
 refine(wnum_any m.bal.round _ B o u pre HW.out hB (by omega) H1.out.1 H1.out.2).mono ?_
 rintro e1 w1 ⟨rfl,u1,hw1,hg1⟩
 have HS1:=Lib.hid (Spares.of_grew HW.out hg1);have HB1:=Lib.hid (HW.out.below hg1 hB)
 have hl1:=HS1.out _ _ _ hgo (by decide) HL.out
 have c2:=Recs.c2 hl1
 have HW1:=Lib.hid hw1
 clear hw1 hg1 hl1 c1
 go_wp2_with fail
 refine(wnum_any m.bal.node _ B o u1 _ HW1.out (Nat.le_trans hB HB1.out.size) (by rw[List.length_append];have:=H9.out;omega) H2.out.1 H2.out.2).mono ?_
 rintro e2 w2 ⟨rfl,u2,hw2,hg2⟩
 have HS2:=Lib.hid (Spares.of_grew HW1.out hg2);have HB2:=Lib.hid (HW1.out.below hg2 (Nat.le_trans hB HB1.out.size))
 have HW2:=Lib.hid hw2
 clear hw2 hg2 c2
 go_wp2
 go_end0
 refine⟨rfl,u2, ?_,HS1.out.trans HS2.out,HB1.out.trans HB2.out⟩
 rw[← List.append_assoc]
 exact HW2.out
theorem rtPut_index(m:Re.Rec)(vi:Value)(w:World)(B o gx:Nat)(u:Value)(pre:List UInt8)(hw:Wrt w B o u pre)(hp:pre.length≤200)(hB:B≤w.heap.size)(hl:Recs w gx m vi)(hf:m.Fits) :
 Calls Tryz.prog 134 #[.pointer (some ⟨o,0,none⟩), .pointer (some ⟨gx,0,none⟩)] w (PutGot w B o (pre++enc m.index.toNat)):=by
 have c3:=Recs.c3 hl
 have h1:=hf.n m.index (by simp[Re.nums])
 have HW:=Lib.hid hw;have H1:=Lib.hid h1
 clear hw hl hf h1
 go_enter Tryz.func134,Tryz.ntmps134
 go_wp2_with fail
 refine(wnum_any m.index _ B o u pre HW.out hB (by omega) H1.out.1 H1.out.2).mono ?_
 rintro e1 w1 ⟨rfl,u1,hw1,hg1⟩
 have HS1:=Lib.hid (Spares.of_grew HW.out hg1);have HB1:=Lib.hid (HW.out.below hg1 hB)
 have HW1:=Lib.hid hw1
 clear hw1 hg1 c3
 go_wp2
 go_end0
 exact⟨rfl,u1,HW1.out,HS1.out,HB1.out⟩
theorem rtPut_cmd(m:Re.Rec)(vi:Value)(w:World)(B o gx:Nat)(u:Value)(pre:List UInt8)(hw:Wrt w B o u pre)(hp:pre.length≤200)(hB:B≤w.heap.size)(hl:Recs w gx m vi)(hf:m.Fits)(hs:m.cmd.Short 1000) :
 Calls Tryz.prog 135 #[.pointer (some ⟨o,0,none⟩), .pointer (some ⟨gx,0,none⟩)] w (PutGot w B o (pre++Cm.bytes 2 m.cmd)):=by
 obtain⟨p0,p1,p2,p3,p4,p5,p6,p7,p8,p9,p10,p11⟩:=Recs.all hl
 have HW:=Lib.hid hw;have HC:=Lib.hid hf.c;have HS:=Lib.hid hs
 clear hw hl hf hs p0 p1 p2 p3 p11
 go_enter Tryz.func135,Tryz.ntmps135
 go_wp2_with fail
 refine(cput_at 2 m.cmd _ B o u pre rfl HW.out (by omega) hB HC.out HS.out).mono ?_
 rintro e1 w1 ⟨rfl,u1,hw1,hs1,hb1⟩
 have HW1:=Lib.hid hw1;have HS1:=Lib.hid hs1;have HB1:=Lib.hid hb1
 clear hw1 hs1 hb1 p4 p5 p6 p7 p8 p9 p10
 go_wp2
 go_end0
 exact⟨rfl,u1,HW1.out,HS1.out,HB1.out⟩
def PutIn(w:World)(B o:Nat)(m:List UInt8)(w' : World):Prop := ∃v', Wrt w' B o v' m∧Below B w w'
theorem rtPut_img(m:Re.Rec)(vi:Value)(w:World)(B o gx:Nat)(u:Value)(pre:List UInt8)(hw:Wrt w B o u pre)(hp:pre.length≤200000)(hB:B≤w.heap.size)(hl:Recs w gx m vi)(hk:m.img.length≤100000)
 (hi : ∀W,Below B w W→Reads W vi m.img) :
 Calls Tryz.prog 136 #[.pointer (some ⟨o,0,none⟩), .pointer (some ⟨gx,0,none⟩)] w fun e w' => e = .returned (.tuple #[])∧PutIn w B o (pre++Pk.text m.img) w' := by
 have c11:=Recs.c11 hl
 have HW:=Lib.hid hw;have HI:=Lib.hid hi
 obtain⟨io,ic,rfl⟩:=(hi w (Below.refl _ _)).shape
 clear hw hl hi
 go_enter Tryz.func136,Tryz.ntmps136
 go_wp2_with fail
 refine(wraw_out _ m.img _ B o u pre HW.out hB (by omega) (by omega) HI.out).mono ?_
 rintro e1 w1 ⟨rfl,u1,hw1,hb1⟩
 have HW1:=Lib.hid hw1;have HB1:=Lib.hid hb1
 clear hw1 hb1 c11
 go_wp2
 go_end0
 exact⟨rfl,u1,HW1.out,HB1.out⟩
section
def Rt.tail(x:Re.Rec):List UInt8:=Mt.part (Re.hb x.kind) (enc x.bal.round.toNat++enc x.bal.node.toNat)++(Mt.part (Re.hi x.kind) (enc x.index.toNat)++(Mt.part (Re.hc x.kind) (Cm.bytes 2 x.cmd)++Mt.part (Re.hm x.kind) (Pk.text x.img)))
theorem Mt.part_app(t:Bool)(a b:List UInt8):Mt.part t (a++b)=Mt.part t a++Mt.part t b:=by
 cases t
 ·rw[Mt.part_no,Mt.part_no,Mt.part_no];rfl
 ·rw[Mt.part_yes,Mt.part_yes,Mt.part_yes]
theorem Rt.bytes_tail(x:Re.Rec):Rt.bytes x=enc (x.kind+16).toNat++Rt.tail x:=by
 unfold Rt.bytes Rt.tail
 rw[Mt.part_app]
 simp only[List.append_assoc]
theorem Rt.bytes_len{m:Re.Rec}(hk:Re.known m.kind=true)(hf:m.Fits)(hs:m.cmd.Short 1000)(hm:m.img.length≤100000):(Rt.bytes m).length≤110000:=by
 have f1:=hf.n m.bal.round (by simp[Re.nums]);have f2:=hf.n m.bal.node (by simp[Re.nums]);have f3:=hf.n m.index (by simp[Re.nums])
 have q1:=enc_nine (n:=m.bal.round.toNat) (by omega);have q2:=enc_nine (n:=m.bal.node.toNat) (by omega);have q3:=enc_nine (n:=m.index.toNat) (by omega)
 have hk14:1≤m.kind∧m.kind≤4:=by unfold Re.known at hk;simpa using hk
 have q0:=enc_nine (n:=(m.kind+16).toNat) (by omega)
 have q4:=Cm.bytes_len 2 m.cmd hf.c hs
 have q5:=enc_nine (n:=m.img.length) (by omega)
 rw[Rt.bytes_tail]
 unfold Rt.tail
 have L1:=Mt.part_le (Re.hb m.kind) (enc m.bal.round.toNat++enc m.bal.node.toNat)
 have L2:=Mt.part_le (Re.hi m.kind) (enc m.index.toNat)
 have L3:=Mt.part_le (Re.hc m.kind) (Cm.bytes 2 m.cmd)
 have L4:=Mt.part_le (Re.hm m.kind) (Pk.text m.img)
 rw[show(Pk.text m.img).length=(enc m.img.length).length+m.img.length by simp[Pk.text]]at L4
 simp only[List.length_append]at L1 ⊢
 omega
structure Rt.Chain(w:World)(g1 g2 g3 g4 f1 f2 f3 f4 a c b:Nat):Prop where
 l1:Fun2 w g1 f1 a b
 l2:Fun2 w g2 f2 a b
 l3:Fun2 w g3 f3 c b
 l4:Fun2 w g4 f4 c b
theorem Rt.Chain.by{w w' : World}{g1 g2 g3 g4 f1 f2 f3 f4 a c b:Nat}(h:Rt.Chain w g1 g2 g3 g4 f1 f2 f3 f4 a c b)(k : ∀g f x y,g=g1∨g=g2∨g=g3∨g=g4→Fun2 w g f x y→Fun2 w' g f x y):Rt.Chain w' g1 g2 g3 g4 f1 f2 f3 f4 a c b :=
 ⟨k _ _ _ _ (.inl rfl) h.l1,k _ _ _ _ (.inr (.inl rfl)) h.l2,k _ _ _ _ (.inr (.inr (.inl rfl))) h.l3,k _ _ _ _ (.inr (.inr (.inr rfl))) h.l4⟩
section
variable (t : Bool) (g : Nat) (m : Re.Rec) (vi : Value) (w : World) (B o gx : Nat) (u : Value) (pre : List UInt8) (hw : Wrt w B o u pre) (hB : B ≤ w.heap.size) (hl : Recs w gx m vi)
include hw hB hl
theorem rtLinkPut_bal(hp:pre.length≤200)(hgo:gx≠o)(hf:m.Fits)(hc:Fun2 w g 133 o gx) :
 Calls Tryz.prog 163 #[.bool t, .pointer (some ⟨g,0,none⟩)] w (PutGot w B o (pre++Mt.part t (enc m.bal.round.toNat++enc m.bal.node.toNat))) :=
 rtLink_e1 t g o gx w (fun w' => ∃v', Wrt w' B o v' (pre++Mt.part t (enc m.bal.round.toNat++enc m.bal.node.toNat))∧Spares o w w' ∧ Below B w w') hc
  (fun h=>by subst h;rw[Mt.part_yes];exact rtPut_bal m vi w B o gx u pre hw hp hB hl hgo hf)
  (fun h=>by subst h;rw[Mt.part_no,List.append_nil];exact⟨u,hw,Spares.refl _ _,Below.refl _ _⟩)
theorem rtLinkPut_index(hp:pre.length≤200)(hf:m.Fits)(hc:Fun2 w g 134 o gx) :
 Calls Tryz.prog 163 #[.bool t, .pointer (some ⟨g,0,none⟩)] w (PutGot w B o (pre++Mt.part t (enc m.index.toNat))) :=
 rtLink_e2 t g o gx w (fun w' => ∃v', Wrt w' B o v' (pre++Mt.part t (enc m.index.toNat))∧Spares o w w' ∧ Below B w w') hc
  (fun h=>by subst h;rw[Mt.part_yes];exact rtPut_index m vi w B o gx u pre hw hp hB hl hf)
  (fun h=>by subst h;rw[Mt.part_no,List.append_nil];exact⟨u,hw,Spares.refl _ _,Below.refl _ _⟩)
theorem rtLinkPut_cmd(hp:pre.length≤200)(hf:m.Fits)(hs:m.cmd.Short 1000)(hc:Fun2 w g 135 o gx) :
 Calls Tryz.prog 163 #[.bool t, .pointer (some ⟨g,0,none⟩)] w (PutGot w B o (pre++Mt.part t (Cm.bytes 2 m.cmd))) :=
 rtLink_e3 t g o gx w (fun w' => ∃v', Wrt w' B o v' (pre++Mt.part t (Cm.bytes 2 m.cmd))∧Spares o w w' ∧ Below B w w') hc
  (fun h=>by subst h;rw[Mt.part_yes];exact rtPut_cmd m vi w B o gx u pre hw hp hB hl hf hs)
  (fun h=>by subst h;rw[Mt.part_no,List.append_nil];exact⟨u,hw,Spares.refl _ _,Below.refl _ _⟩)
theorem rtLinkPut_img(hp:pre.length≤200000)(hk:m.img.length≤100000)(hi : ∀W,Below B w W→Reads W vi m.img)(hc:Fun2 w g 136 o gx) :
 Calls Tryz.prog 163 #[.bool t, .pointer (some ⟨g,0,none⟩)] w (fun e w' => e = .returned (.tuple #[])∧PutIn w B o (pre++Mt.part t (Pk.text m.img)) w') :=
 rtLink_e4 t g o gx w (PutIn w B o (pre++Mt.part t (Pk.text m.img))) hc
  (fun h=>by subst h;rw[Mt.part_yes];exact rtPut_img m vi w B o gx u pre hw hp hB hl hk hi)
  (fun h=>by subst h;rw[Mt.part_no,List.append_nil];exact⟨u,hw,Below.refl _ _⟩)
end
theorem rtRunE_1(m:Re.Rec)(vi:Value)(w:World)(B o gx g1 g2 g3 g4:Nat)(u:Value)(pre:List UInt8)(hw:Wrt w B o u pre)(hp:pre.length≤10)(hB:B≤w.heap.size)(hl:Recs w gx m vi)(hgo:gx≠o)(hn:o≠g1∧o≠g2∧o≠g3∧o≠g4)(hc:Rt.Chain w g1 g2 g3 g4 133 134 135 136 o o gx)(hf:m.Fits)(hs:m.cmd.Short 1000)(hi : ∀W,Below B w W→Reads W vi m.img)(hm:m.img.length≤100000)(hk:m.kind=1) :
 Calls Tryz.prog 131 #[.int .i64 1,Rt.link g1,Rt.link g2,Rt.link g3,Rt.link g4] w (fun e w' => e = .returned (.tuple #[])∧PutIn w B o (pre++Rt.tail m) w'):=by
 have HT:Hid (Rt.tail m=Mt.part true (enc m.bal.round.toNat++enc m.bal.node.toNat)++(Mt.part false (enc m.index.toNat)++(Mt.part false (Cm.bytes 2 m.cmd)++Mt.part false (Pk.text m.img)))):=by
  show _=_
  unfold Rt.tail
  rw[hk]
  rfl
 have L1:=Mt.part_le true (enc m.bal.round.toNat++enc m.bal.node.toNat)
 have L2:=Mt.part_le false (enc m.index.toNat)
 have L3:=Mt.part_le false (Cm.bytes 2 m.cmd)
 have f1:=hf.n m.bal.round (by simp[Re.nums]);have f2:=hf.n m.bal.node (by simp[Re.nums]);have f3:=hf.n m.index (by simp[Re.nums])
 have q1:=enc_nine (n:=m.bal.round.toNat) (by omega);have q2:=enc_nine (n:=m.bal.node.toNat) (by omega);have q3:=enc_nine (n:=m.index.toNat) (by omega)
 have q4:=Cm.bytes_len 2 m.cmd hf.c hs
 have X1:Hid ((pre++Mt.part true (enc m.bal.round.toNat++enc m.bal.node.toNat)).length≤200):=by show _≤_;simp only[List.length_append]at L1 ⊢; omega
 have X2:Hid (((pre++Mt.part true (enc m.bal.round.toNat++enc m.bal.node.toNat))++Mt.part false (enc m.index.toNat)).length≤200):=by show _≤_;simp only[List.length_append]at L1 ⊢; omega
 have X3:Hid ((((pre++Mt.part true (enc m.bal.round.toNat++enc m.bal.node.toNat))++Mt.part false (enc m.index.toNat))++Mt.part false (Cm.bytes 2 m.cmd)).length≤200000):=by show _≤_;simp only[List.length_append]at L1 ⊢; omega
 have HW:=Lib.hid hw;have HL:=Lib.hid hl;have HC:=Lib.hid hc;have HF:=Lib.hid hf;have HS:=Lib.hid hs;have HI:=Lib.hid hi;have HN:=Lib.hid hn
 clear L1 L2 L3 f1 f2 f3 q1 q2 q3 q4 hw hl hc hf hs hi hk hn
 go_enter Tryz.func131,Tryz.ntmps131
 go_wp2_with fail
 refine(rtLinkPut_bal true g1 m vi _ B o gx u pre HW.out hB HL.out (by omega) hgo HF.out HC.out.l1).mono ?_
 rintro e1 w1 ⟨rfl,u1,hw1,hs1,hb1⟩
 have HW1:=Lib.hid hw1;have HB1:=Lib.hid hb1;have HL1:=Lib.hid (hs1 _ _ _ hgo (by decide) HL.out)
 have HC1:=Lib.hid (HC.out.by fun g f x y h k=>hs1 _ _ _ (by have:=HN.out;omega) (by decide) k)
 clear hw1 hs1 hb1
 go_wp2_with fail
 refine(rtLinkPut_index false g2 m vi _ B o gx u1 _ HW1.out (Nat.le_trans hB HB1.out.size) HL1.out X1.out HF.out HC1.out.l2).mono ?_
 rintro e2 w2 ⟨rfl,u2,hw2,hs2,hb2⟩
 have HW2:=Lib.hid hw2;have HB2:=Lib.hid (HB1.out.trans hb2);have HL2:=Lib.hid (hs2 _ _ _ hgo (by decide) HL1.out)
 have HC2:=Lib.hid (HC1.out.by fun g f x y h k=>hs2 _ _ _ (by have:=HN.out;omega) (by decide) k)
 clear hw2 hs2 hb2
 go_wp2_with fail
 refine(rtLinkPut_cmd false g3 m vi _ B o gx u2 _ HW2.out (Nat.le_trans hB HB2.out.size) HL2.out X2.out HF.out HS.out HC2.out.l3).mono ?_
 rintro e3 w3 ⟨rfl,u3,hw3,hs3,hb3⟩
 have HW3:=Lib.hid hw3;have HB3:=Lib.hid (HB2.out.trans hb3);have HL3:=Lib.hid (hs3 _ _ _ hgo (by decide) HL2.out)
 have HC3:=Lib.hid (HC2.out.by fun g f x y h k=>hs3 _ _ _ (by have:=HN.out;omega) (by decide) k)
 clear hw3 hs3 hb3
 go_wp2_with fail
 refine(rtLinkPut_img false g4 m vi _ B o gx u3 _ HW3.out (Nat.le_trans hB HB3.out.size) HL3.out X3.out hm (fun W h=>HI.out W (HB3.out.trans h)) HC3.out.l4).mono ?_
 rintro e4 w4 ⟨rfl,u4,hw4,hb4⟩
 have HW4:=Lib.hid hw4;have HB4:=Lib.hid (HB3.out.trans hb4)
 clear hw4 hb4
 go_wp2
 go_end0
 refine⟨rfl,u4, ?_,HB4.out⟩
 rw[HT.out]
 have hx:=HW4.out
 simp only[List.append_assoc]at hx ⊢
 exact hx
theorem rtRunE_2(m:Re.Rec)(vi:Value)(w:World)(B o gx g1 g2 g3 g4:Nat)(u:Value)(pre:List UInt8)(hw:Wrt w B o u pre)(hp:pre.length≤10)(hB:B≤w.heap.size)(hl:Recs w gx m vi)(hgo:gx≠o)(hn:o≠g1∧o≠g2∧o≠g3∧o≠g4)(hc:Rt.Chain w g1 g2 g3 g4 133 134 135 136 o o gx)(hf:m.Fits)(hs:m.cmd.Short 1000)(hi : ∀W,Below B w W→Reads W vi m.img)(hm:m.img.length≤100000)(hk:m.kind=2) :
 Calls Tryz.prog 131 #[.int .i64 2,Rt.link g1,Rt.link g2,Rt.link g3,Rt.link g4] w (fun e w' => e = .returned (.tuple #[])∧PutIn w B o (pre++Rt.tail m) w'):=by
 have HT:Hid (Rt.tail m=Mt.part true (enc m.bal.round.toNat++enc m.bal.node.toNat)++(Mt.part true (enc m.index.toNat)++(Mt.part true (Cm.bytes 2 m.cmd)++Mt.part false (Pk.text m.img)))):=by
  show _=_
  unfold Rt.tail
  rw[hk]
  rfl
 have L1:=Mt.part_le true (enc m.bal.round.toNat++enc m.bal.node.toNat)
 have L2:=Mt.part_le true (enc m.index.toNat)
 have L3:=Mt.part_le true (Cm.bytes 2 m.cmd)
 have f1:=hf.n m.bal.round (by simp[Re.nums]);have f2:=hf.n m.bal.node (by simp[Re.nums]);have f3:=hf.n m.index (by simp[Re.nums])
 have q1:=enc_nine (n:=m.bal.round.toNat) (by omega);have q2:=enc_nine (n:=m.bal.node.toNat) (by omega);have q3:=enc_nine (n:=m.index.toNat) (by omega)
 have q4:=Cm.bytes_len 2 m.cmd hf.c hs
 have X1:Hid ((pre++Mt.part true (enc m.bal.round.toNat++enc m.bal.node.toNat)).length≤200):=by show _≤_;simp only[List.length_append]at L1 ⊢; omega
 have X2:Hid (((pre++Mt.part true (enc m.bal.round.toNat++enc m.bal.node.toNat))++Mt.part true (enc m.index.toNat)).length≤200):=by show _≤_;simp only[List.length_append]at L1 ⊢; omega
 have X3:Hid ((((pre++Mt.part true (enc m.bal.round.toNat++enc m.bal.node.toNat))++Mt.part true (enc m.index.toNat))++Mt.part true (Cm.bytes 2 m.cmd)).length≤200000):=by show _≤_;simp only[List.length_append]at L1 ⊢; omega
 have HW:=Lib.hid hw;have HL:=Lib.hid hl;have HC:=Lib.hid hc;have HF:=Lib.hid hf;have HS:=Lib.hid hs;have HI:=Lib.hid hi;have HN:=Lib.hid hn
 clear L1 L2 L3 f1 f2 f3 q1 q2 q3 q4 hw hl hc hf hs hi hk hn
 go_enter Tryz.func131,Tryz.ntmps131
 go_wp2_with fail
 refine(rtLinkPut_bal true g1 m vi _ B o gx u pre HW.out hB HL.out (by omega) hgo HF.out HC.out.l1).mono ?_
 rintro e1 w1 ⟨rfl,u1,hw1,hs1,hb1⟩
 have HW1:=Lib.hid hw1;have HB1:=Lib.hid hb1;have HL1:=Lib.hid (hs1 _ _ _ hgo (by decide) HL.out)
 have HC1:=Lib.hid (HC.out.by fun g f x y h k=>hs1 _ _ _ (by have:=HN.out;omega) (by decide) k)
 clear hw1 hs1 hb1
 go_wp2_with fail
 refine(rtLinkPut_index true g2 m vi _ B o gx u1 _ HW1.out (Nat.le_trans hB HB1.out.size) HL1.out X1.out HF.out HC1.out.l2).mono ?_
 rintro e2 w2 ⟨rfl,u2,hw2,hs2,hb2⟩
 have HW2:=Lib.hid hw2;have HB2:=Lib.hid (HB1.out.trans hb2);have HL2:=Lib.hid (hs2 _ _ _ hgo (by decide) HL1.out)
 have HC2:=Lib.hid (HC1.out.by fun g f x y h k=>hs2 _ _ _ (by have:=HN.out;omega) (by decide) k)
 clear hw2 hs2 hb2
 go_wp2_with fail
 refine(rtLinkPut_cmd true g3 m vi _ B o gx u2 _ HW2.out (Nat.le_trans hB HB2.out.size) HL2.out X2.out HF.out HS.out HC2.out.l3).mono ?_
 rintro e3 w3 ⟨rfl,u3,hw3,hs3,hb3⟩
 have HW3:=Lib.hid hw3;have HB3:=Lib.hid (HB2.out.trans hb3);have HL3:=Lib.hid (hs3 _ _ _ hgo (by decide) HL2.out)
 have HC3:=Lib.hid (HC2.out.by fun g f x y h k=>hs3 _ _ _ (by have:=HN.out;omega) (by decide) k)
 clear hw3 hs3 hb3
 go_wp2_with fail
 refine(rtLinkPut_img false g4 m vi _ B o gx u3 _ HW3.out (Nat.le_trans hB HB3.out.size) HL3.out X3.out hm (fun W h=>HI.out W (HB3.out.trans h)) HC3.out.l4).mono ?_
 rintro e4 w4 ⟨rfl,u4,hw4,hb4⟩
 have HW4:=Lib.hid hw4;have HB4:=Lib.hid (HB3.out.trans hb4)
 clear hw4 hb4
 go_wp2
 go_end0
 refine⟨rfl,u4, ?_,HB4.out⟩
 rw[HT.out]
 have hx:=HW4.out
 simp only[List.append_assoc]at hx ⊢
 exact hx
theorem rtRunE_3(m:Re.Rec)(vi:Value)(w:World)(B o gx g1 g2 g3 g4:Nat)(u:Value)(pre:List UInt8)(hw:Wrt w B o u pre)(hp:pre.length≤10)(hB:B≤w.heap.size)(hl:Recs w gx m vi)(hgo:gx≠o)(hn:o≠g1∧o≠g2∧o≠g3∧o≠g4)(hc:Rt.Chain w g1 g2 g3 g4 133 134 135 136 o o gx)(hf:m.Fits)(hs:m.cmd.Short 1000)(hi : ∀W,Below B w W→Reads W vi m.img)(hm:m.img.length≤100000)(hk:m.kind=3) :
 Calls Tryz.prog 131 #[.int .i64 3,Rt.link g1,Rt.link g2,Rt.link g3,Rt.link g4] w (fun e w' => e = .returned (.tuple #[])∧PutIn w B o (pre++Rt.tail m) w'):=by
 have HT:Hid (Rt.tail m=Mt.part false (enc m.bal.round.toNat++enc m.bal.node.toNat)++(Mt.part true (enc m.index.toNat)++(Mt.part true (Cm.bytes 2 m.cmd)++Mt.part false (Pk.text m.img)))):=by
  show _=_
  unfold Rt.tail
  rw[hk]
  rfl
 have L1:=Mt.part_le false (enc m.bal.round.toNat++enc m.bal.node.toNat)
 have L2:=Mt.part_le true (enc m.index.toNat)
 have L3:=Mt.part_le true (Cm.bytes 2 m.cmd)
 have f1:=hf.n m.bal.round (by simp[Re.nums]);have f2:=hf.n m.bal.node (by simp[Re.nums]);have f3:=hf.n m.index (by simp[Re.nums])
 have q1:=enc_nine (n:=m.bal.round.toNat) (by omega);have q2:=enc_nine (n:=m.bal.node.toNat) (by omega);have q3:=enc_nine (n:=m.index.toNat) (by omega)
 have q4:=Cm.bytes_len 2 m.cmd hf.c hs
 have X1:Hid ((pre++Mt.part false (enc m.bal.round.toNat++enc m.bal.node.toNat)).length≤200):=by show _≤_;simp only[List.length_append]at L1 ⊢; omega
 have X2:Hid (((pre++Mt.part false (enc m.bal.round.toNat++enc m.bal.node.toNat))++Mt.part true (enc m.index.toNat)).length≤200):=by show _≤_;simp only[List.length_append]at L1 ⊢; omega
 have X3:Hid ((((pre++Mt.part false (enc m.bal.round.toNat++enc m.bal.node.toNat))++Mt.part true (enc m.index.toNat))++Mt.part true (Cm.bytes 2 m.cmd)).length≤200000):=by show _≤_;simp only[List.length_append]at L1 ⊢; omega
 have HW:=Lib.hid hw;have HL:=Lib.hid hl;have HC:=Lib.hid hc;have HF:=Lib.hid hf;have HS:=Lib.hid hs;have HI:=Lib.hid hi;have HN:=Lib.hid hn
 clear L1 L2 L3 f1 f2 f3 q1 q2 q3 q4 hw hl hc hf hs hi hk hn
 go_enter Tryz.func131,Tryz.ntmps131
 go_wp2_with fail
 refine(rtLinkPut_bal false g1 m vi _ B o gx u pre HW.out hB HL.out (by omega) hgo HF.out HC.out.l1).mono ?_
 rintro e1 w1 ⟨rfl,u1,hw1,hs1,hb1⟩
 have HW1:=Lib.hid hw1;have HB1:=Lib.hid hb1;have HL1:=Lib.hid (hs1 _ _ _ hgo (by decide) HL.out)
 have HC1:=Lib.hid (HC.out.by fun g f x y h k=>hs1 _ _ _ (by have:=HN.out;omega) (by decide) k)
 clear hw1 hs1 hb1
 go_wp2_with fail
 refine(rtLinkPut_index true g2 m vi _ B o gx u1 _ HW1.out (Nat.le_trans hB HB1.out.size) HL1.out X1.out HF.out HC1.out.l2).mono ?_
 rintro e2 w2 ⟨rfl,u2,hw2,hs2,hb2⟩
 have HW2:=Lib.hid hw2;have HB2:=Lib.hid (HB1.out.trans hb2);have HL2:=Lib.hid (hs2 _ _ _ hgo (by decide) HL1.out)
 have HC2:=Lib.hid (HC1.out.by fun g f x y h k=>hs2 _ _ _ (by have:=HN.out;omega) (by decide) k)
 clear hw2 hs2 hb2
 go_wp2_with fail
 refine(rtLinkPut_cmd true g3 m vi _ B o gx u2 _ HW2.out (Nat.le_trans hB HB2.out.size) HL2.out X2.out HF.out HS.out HC2.out.l3).mono ?_
 rintro e3 w3 ⟨rfl,u3,hw3,hs3,hb3⟩
 have HW3:=Lib.hid hw3;have HB3:=Lib.hid (HB2.out.trans hb3);have HL3:=Lib.hid (hs3 _ _ _ hgo (by decide) HL2.out)
 have HC3:=Lib.hid (HC2.out.by fun g f x y h k=>hs3 _ _ _ (by have:=HN.out;omega) (by decide) k)
 clear hw3 hs3 hb3
 go_wp2_with fail
 refine(rtLinkPut_img false g4 m vi _ B o gx u3 _ HW3.out (Nat.le_trans hB HB3.out.size) HL3.out X3.out hm (fun W h=>HI.out W (HB3.out.trans h)) HC3.out.l4).mono ?_
 rintro e4 w4 ⟨rfl,u4,hw4,hb4⟩
 have HW4:=Lib.hid hw4;have HB4:=Lib.hid (HB3.out.trans hb4)
 clear hw4 hb4
 go_wp2
 go_end0
 refine⟨rfl,u4, ?_,HB4.out⟩
 rw[HT.out]
 have hx:=HW4.out
 simp only[List.append_assoc]at hx ⊢
 exact hx
theorem rtRunE_4(m:Re.Rec)(vi:Value)(w:World)(B o gx g1 g2 g3 g4:Nat)(u:Value)(pre:List UInt8)(hw:Wrt w B o u pre)(hp:pre.length≤10)(hB:B≤w.heap.size)(hl:Recs w gx m vi)(hgo:gx≠o)(hn:o≠g1∧o≠g2∧o≠g3∧o≠g4)(hc:Rt.Chain w g1 g2 g3 g4 133 134 135 136 o o gx)(hf:m.Fits)(hs:m.cmd.Short 1000)(hi : ∀W,Below B w W→Reads W vi m.img)(hm:m.img.length≤100000)(hk:m.kind=4) :
 Calls Tryz.prog 131 #[.int .i64 4,Rt.link g1,Rt.link g2,Rt.link g3,Rt.link g4] w (fun e w' => e = .returned (.tuple #[])∧PutIn w B o (pre++Rt.tail m) w'):=by
 have HT:Hid (Rt.tail m=Mt.part false (enc m.bal.round.toNat++enc m.bal.node.toNat)++(Mt.part true (enc m.index.toNat)++(Mt.part false (Cm.bytes 2 m.cmd)++Mt.part true (Pk.text m.img)))):=by
  show _=_
  unfold Rt.tail
  rw[hk]
  rfl
 have L1:=Mt.part_le false (enc m.bal.round.toNat++enc m.bal.node.toNat)
 have L2:=Mt.part_le true (enc m.index.toNat)
 have L3:=Mt.part_le false (Cm.bytes 2 m.cmd)
 have f1:=hf.n m.bal.round (by simp[Re.nums]);have f2:=hf.n m.bal.node (by simp[Re.nums]);have f3:=hf.n m.index (by simp[Re.nums])
 have q1:=enc_nine (n:=m.bal.round.toNat) (by omega);have q2:=enc_nine (n:=m.bal.node.toNat) (by omega);have q3:=enc_nine (n:=m.index.toNat) (by omega)
 have q4:=Cm.bytes_len 2 m.cmd hf.c hs
 have X1:Hid ((pre++Mt.part false (enc m.bal.round.toNat++enc m.bal.node.toNat)).length≤200):=by show _≤_;simp only[List.length_append]at L1 ⊢; omega
 have X2:Hid (((pre++Mt.part false (enc m.bal.round.toNat++enc m.bal.node.toNat))++Mt.part true (enc m.index.toNat)).length≤200):=by show _≤_;simp only[List.length_append]at L1 ⊢; omega
 have X3:Hid ((((pre++Mt.part false (enc m.bal.round.toNat++enc m.bal.node.toNat))++Mt.part true (enc m.index.toNat))++Mt.part false (Cm.bytes 2 m.cmd)).length≤200000):=by show _≤_;simp only[List.length_append]at L1 ⊢; omega
 have HW:=Lib.hid hw;have HL:=Lib.hid hl;have HC:=Lib.hid hc;have HF:=Lib.hid hf;have HS:=Lib.hid hs;have HI:=Lib.hid hi;have HN:=Lib.hid hn
 clear L1 L2 L3 f1 f2 f3 q1 q2 q3 q4 hw hl hc hf hs hi hk hn
 go_enter Tryz.func131,Tryz.ntmps131
 go_wp2_with fail
 refine(rtLinkPut_bal false g1 m vi _ B o gx u pre HW.out hB HL.out (by omega) hgo HF.out HC.out.l1).mono ?_
 rintro e1 w1 ⟨rfl,u1,hw1,hs1,hb1⟩
 have HW1:=Lib.hid hw1;have HB1:=Lib.hid hb1;have HL1:=Lib.hid (hs1 _ _ _ hgo (by decide) HL.out)
 have HC1:=Lib.hid (HC.out.by fun g f x y h k=>hs1 _ _ _ (by have:=HN.out;omega) (by decide) k)
 clear hw1 hs1 hb1
 go_wp2_with fail
 refine(rtLinkPut_index true g2 m vi _ B o gx u1 _ HW1.out (Nat.le_trans hB HB1.out.size) HL1.out X1.out HF.out HC1.out.l2).mono ?_
 rintro e2 w2 ⟨rfl,u2,hw2,hs2,hb2⟩
 have HW2:=Lib.hid hw2;have HB2:=Lib.hid (HB1.out.trans hb2);have HL2:=Lib.hid (hs2 _ _ _ hgo (by decide) HL1.out)
 have HC2:=Lib.hid (HC1.out.by fun g f x y h k=>hs2 _ _ _ (by have:=HN.out;omega) (by decide) k)
 clear hw2 hs2 hb2
 go_wp2_with fail
 refine(rtLinkPut_cmd false g3 m vi _ B o gx u2 _ HW2.out (Nat.le_trans hB HB2.out.size) HL2.out X2.out HF.out HS.out HC2.out.l3).mono ?_
 rintro e3 w3 ⟨rfl,u3,hw3,hs3,hb3⟩
 have HW3:=Lib.hid hw3;have HB3:=Lib.hid (HB2.out.trans hb3);have HL3:=Lib.hid (hs3 _ _ _ hgo (by decide) HL2.out)
 have HC3:=Lib.hid (HC2.out.by fun g f x y h k=>hs3 _ _ _ (by have:=HN.out;omega) (by decide) k)
 clear hw3 hs3 hb3
 go_wp2_with fail
 refine(rtLinkPut_img true g4 m vi _ B o gx u3 _ HW3.out (Nat.le_trans hB HB3.out.size) HL3.out X3.out hm (fun W h=>HI.out W (HB3.out.trans h)) HC3.out.l4).mono ?_
 rintro e4 w4 ⟨rfl,u4,hw4,hb4⟩
 have HW4:=Lib.hid hw4;have HB4:=Lib.hid (HB3.out.trans hb4)
 clear hw4 hb4
 go_wp2
 go_end0
 refine⟨rfl,u4, ?_,HB4.out⟩
 rw[HT.out]
 have hx:=HW4.out
 simp only[List.append_assoc]at hx ⊢
 exact hx
theorem rtRunE_any(m:Re.Rec)(vi:Value)(w:World)(B o gx g1 g2 g3 g4:Nat)(u:Value)(pre:List UInt8)(hw:Wrt w B o u pre)(hp:pre.length≤10)(hB:B≤w.heap.size)(hl:Recs w gx m vi)(hgo:gx≠o)(hn:o≠g1∧o≠g2∧o≠g3∧o≠g4)(hc:Rt.Chain w g1 g2 g3 g4 133 134 135 136 o o gx)(hf:m.Fits)(hs:m.cmd.Short 1000)(hi : ∀W,Below B w W→Reads W vi m.img)(hm:m.img.length≤100000)(hk:Re.known m.kind=true) :
 Calls Tryz.prog 131 #[.int .i64 m.kind,Rt.link g1,Rt.link g2,Rt.link g3,Rt.link g4] w (fun e w' => e = .returned (.tuple #[])∧PutIn w B o (pre++Rt.tail m) w'):=by
 rcases Re.kinds m.kind with h | h | h | h | h
 ·have:=rtRunE_1 m vi w B o gx g1 g2 g3 g4 u pre hw hp hB hl hgo hn hc hf hs hi hm h;rw[h];exact this
 ·have:=rtRunE_2 m vi w B o gx g1 g2 g3 g4 u pre hw hp hB hl hgo hn hc hf hs hi hm h;rw[h];exact this
 ·have:=rtRunE_3 m vi w B o gx g1 g2 g3 g4 u pre hw hp hB hl hgo hn hc hf hs hi hm h;rw[h];exact this
 ·have:=rtRunE_4 m vi w B o gx g1 g2 g3 g4 u pre hw hp hB hl hgo hn hc hf hs hi hm h;rw[h];exact this
 ·rw[(Re.has_no h).2.2.2.2]at hk;cases hk
def RtMade(w:World)(r:List UInt8 × Int)(e:Ending)(w' : World):Prop :=
 Below w.heap.size w w' ∧ ∃u,e = .returned (.tuple #[u, .int .i64 r.2])∧Reads w' u r.1
def Rt.encode(x:Re.Rec):List UInt8 × Int:=if Re.check x≠0 then ([],Re.check x)else (Rt.bytes x,0)
theorem encodeRt_any(m:Re.Rec)(vi:Value)(w:World)(hW:WordsIn w)(hi:Reads w vi m.img)(hf:m.Fits)(hs:m.cmd.Short 1000)(hk:m.img.length≤100000) :
 Calls Tryz.prog 92 #[.agg (Re.cells m vi)] w (RtMade w (Rt.encode m)):=by
 have hmf : ∀(fn:Fn) (first cap:Array Value) (w:World),(Instr.makeFunc fn first cap).run Tryz.prog w = .ok (.func fn first cap) w:=fun _ _ _ _=>rfl
 obtain⟨w1,e1,hl1,hB1,hz1⟩:=box_rec w m vi
 obtain⟨p0,p1,p2,p3,p4,p5,p6,p7,p8,p9,p10,p11⟩:=Recs.all hl1
 have HM1:=Lib.hid hl1;have HB1:=Lib.hid hB1;have HS:=Lib.hid hz1
 have HI1:=Lib.hid (hi.below hB1)
 have HC1:=Lib.hid (checkRe_any m vi w1 (hW.below hB1) HI1.out ⟨Nat.le_trans hs.1 (by omega),Nat.le_trans hs.2.1 (by omega),Nat.le_trans hs.2.2 (by omega)⟩)
 have HFIT:=Lib.hid hf;have HSH:=Lib.hid hs;have HKK:=Lib.hid hk
 obtain⟨r,hr⟩ : ∃r,r=Rt.encode m:=⟨_,rfl⟩
 rw[← hr]
 unfold Rt.encode at hr
 have HKN:=Lib.hid (fun h:Re.check m=0=>(Re.check_good h).kind)
 unfold RtMade
 obtain⟨c,hc⟩ : ∃c,c=Re.check m:=⟨_,rfl⟩
 rw[← hc]at HC1 HKN hr
 have HR:=Lib.hid hr
 clear hl1 hB1 hz1 hW hi hs hf hk hc hr
 go_enter Tryz.func92,Tryz.ntmps92
 go_wp2_with fail
 refine HC1.out.mono ?_
 rintro e2 w2 ⟨rfl,hb⟩
 have HM2:=Lib.hid (HM1.out.below hb HM1.out.lt);have HB2:=Lib.hid hb
 have HX2:=Lib.hid (HB1.out.trans (hb.mono HB1.out.size))
 clear hb p0 p1 p2 p3 p4 p5 p6 p7 p8 p9 p10 p11
 by_cases h0:c=0
 ·subst h0
  have HR2:Hid (r=(Rt.bytes m,0)):=HR.out.trans (if_neg (by simp))
  have hkn:=HKN.out rfl
  have hk14:1≤m.kind∧m.kind≤4:=by unfold Re.known at hkn;simpa using hkn
  have HKN2:=Lib.hid hkn
  have hs1:=HS.out
  obtain⟨w3,e3,hw3,hB3⟩ : ∃w3,w2.alloc (.cells #[.slice none 0 0] 163)=w3∧Wrt w3 w1.heap.size w2.heap.size (.slice none 0 0) []∧Below w2.heap.size w2 w3 :=
   ⟨_,rfl,Wr.fresh _ _ _ _ HB2.out.size,(Below.refl _ _).alloc (Nat.le_refl _) _⟩
  have HM3:=Lib.hid (HM2.out.below hB3 HM2.out.lt);have HB3:=Lib.hid (HB2.out.trans (hB3.mono HB2.out.size));have HW3:=Lib.hid hw3
  have HZ3:Hid (w.heap.size<w2.heap.size∧w2.heap.size<w3.heap.size):=⟨by have:=HB2.out.size;omega,hw3.lies.lt⟩
  have q0:=Recs.c0 HM3.out
  obtain⟨k,hkk⟩ : ∃k,k=m.kind:=⟨_,rfl⟩
  have HKK2:=Lib.hid hkk
  rw[← hkk]at q0 hk14
  obtain⟨k1,k2⟩:=hk14
  clear hw3 hB3 hs1 hkn HKN HR hkk
  have h9:=enc_nine (n:=(k+16).toNat) (by omega)
  have H9:=Lib.hid h9
  clear h9
  go_wp2_with fail
  refine(wnum_any (k+16) _ w1.heap.size w2.heap.size _ [] HW3.out HB3.out.size (by simp) (by omega) (by omega)).mono ?_
  rintro e4 w4 ⟨rfl,u4,hw4,hg4⟩
  rw[List.nil_append]at hw4
  have HS4:=Lib.hid (Spares.of_grew HW3.out hg4);have HB4:=Lib.hid (HB3.out.trans (HW3.out.below hg4 HB3.out.size))
  have HM4:=Lib.hid (HS4.out _ _ _ (by have:=HZ3.out;omega) (by decide) HM3.out)
  have HW4:=Lib.hid hw4
  have HZ4:Hid (w2.heap.size<w4.heap.size):=hw4.lies.lt
  have q0:=Recs.c0 HM4.out
  rw[← HKK2.out]at q0
  clear hw4 hg4
  go_wp2
  have HM4d:=Lib.hid (HM4.out.below (Below.refl _ w4).drew HM4.out.lt)
  have hrun : ∀(W:World) (g1 g2 g3 g4:Nat),Below w4.heap.size w4 W→w4.heap.size≤g1→w4.heap.size≤g2→w4.heap.size≤g3→w4.heap.size≤g4 →
   Rt.Chain W g1 g2 g3 g4 133 134 135 136 w2.heap.size w2.heap.size w.heap.size →
   Calls Tryz.prog 131 #[.int .i64 k,Rt.link g1,Rt.link g2,Rt.link g3,Rt.link g4] W (fun e w' => e = .returned (.tuple #[])∧PutIn W w1.heap.size w2.heap.size (Rt.bytes m) w'):=by
   intro W g1 g2 g3 g4 hb h1 h2 h3 h4 hc
   rw[Rt.bytes_tail,HKK2.out]
   exact rtRunE_any m vi W w1.heap.size w2.heap.size w.heap.size g1 g2 g3 g4 u4 _ (by rw[← HKK2.out];exact HW4.out.grown hb) (by rw[← HKK2.out];have:=H9.out;omega) (Nat.le_trans HB4.out.size hb.size) (HM4.out.below hb HM4.out.lt)
    (by have:=HZ3.out;omega) (by have:=HZ4.out;omega) hc HFIT.out HSH.out (fun V h=>HI1.out.below (HB4.out.trans ((hb.mono HB4.out.size).trans h))) HKK.out HKN2.out
  have HRUN:=Lib.hid hrun
  have HBD:Hid (Below w4.heap.size w4 w4.drew):=(Below.refl _ w4).drew
  clear hrun
  refine wp_region_held_drew (S:=fun W=>W.cell? ⟨w.heap.size,0,none⟩=some (.int .i64 k)) (by kernel_rfl) (by first | go_keep | exact q0) (fun hHeld => ?_)
  refine wpAnyH_take (i:=0) (v := ?v0) rfl (by kernel_rfl) (by kernel_rfl) (by kernel_rfl) (fun _ _ _ h=>h) (Or.inl ⟨by rfl, ?hy0⟩) hHeld ?rest0
  case hy0=>(intro w hSw;(try dsimp only at hSw);go_simp;(try with_reducible rfl))
  refine wpAnyH_take (i:=1) (v := ?v1) rfl (by kernel_rfl) (by kernel_rfl) (by kernel_rfl) (fun _ _ _ h=>h) (Or.inl ⟨by rfl, ?hy1⟩) hHeld ?rest1
  case hy1=>(intro w hSw;(try dsimp only at hSw);go_simp;(try with_reducible rfl))
  refine wpAnyH_take (i:=2) (v := ?v2) rfl (by kernel_rfl) (by kernel_rfl) (by kernel_rfl) (fun _ _ _ h=>h) (Or.inl ⟨by rfl, ?hy2⟩) hHeld ?rest2
  case hy2=>(intro w hSw;(try dsimp only at hSw);go_simp;(try with_reducible rfl))
  refine wpAnyH_take (i:=4) (v := ?v4) rfl (by kernel_rfl) (by kernel_rfl) (by kernel_rfl) (fun _ _ _ h=>h) (Or.inl ⟨by rfl, ?hy4⟩) hHeld ?rest4
  case hy4=>(intro w hSw;(try dsimp only at hSw);go_simp;(try with_reducible rfl))
  refine wpAnyH_take (i:=6) (v := ?v6) rfl (by kernel_rfl) (by kernel_rfl) (by kernel_rfl) (fun _ _ _ h=>h) (Or.inl ⟨by rfl, ?hy6⟩) hHeld ?rest6
  case hy6=>(intro w hSw;(try dsimp only at hSw);go_simp;(try with_reducible rfl))
  refine wpAnyH_take (i:=8) (v := ?v8) rfl (by kernel_rfl) (by kernel_rfl) (by kernel_rfl) (fun _ _ _ h=>h) (Or.inl ⟨by rfl, ?hy8⟩) hHeld ?rest8
  case hy8=>(intro w hSw;(try dsimp only at hSw);go_simp;(try with_reducible rfl))
  refine wpAnyH_ready (rs := [3]) (by kernel_rfl) (by simp) ?_
  refine AllReadyH.cons rfl (fun K hK => ?_) AllReadyH.nil
  rw[if_pos (by rfl)]
  go_simp
  go_at_call 132
  with_reducible refine(rtWith_some 133 _ _ _).mono ?_
  rintro e5 w5 ⟨g5,rfl,hc5,hz5,hb5⟩
  have HC5:=Lib.hid hc5;have HB5:=Lib.hid (HBD.out.trans (hb5.mono (Nat.le_refl w4.heap.size)))
  have HZ5:Hid (w4.heap.size≤g5):=hz5
  have K5:w5.cell? ⟨w.heap.size,0,none⟩=some (.int .i64 k):=by rw[HKK2.out];exact Recs.c0 (HM4.out.below HB5.out HM4.out.lt)
  clear hc5 hz5 hb5
  refine hK.out _ _ K5 (fun hHeld => ?_)
  clear hK K
  refine wpAnyH_ready (rs := [5]) (by kernel_rfl) (by simp) ?_
  refine AllReadyH.cons rfl (fun K hK => ?_) AllReadyH.nil
  rw[if_pos (by rfl)]
  go_simp
  go_at_call 132
  with_reducible refine(rtWith_some 134 _ _ _).mono ?_
  rintro e6 w6 ⟨g6,rfl,hc6,hz6,hb6⟩
  have HC6:=Lib.hid hc6;have HB6:=Lib.hid (HB5.out.trans (hb6.mono HB5.out.size));have HB56:=Lib.hid hb6
  have HZ6:Hid (w4.heap.size≤g6):=Nat.le_trans HB5.out.size hz6
  have K6:w6.cell? ⟨w.heap.size,0,none⟩=some (.int .i64 k):=by rw[HKK2.out];exact Recs.c0 (HM4.out.below HB6.out HM4.out.lt)
  clear hc6 hz6 hb6
  refine hK.out _ _ K6 (fun hHeld => ?_)
  clear hK K
  refine wpAnyH_ready (rs := [7]) (by kernel_rfl) (by simp) ?_
  refine AllReadyH.cons rfl (fun K hK => ?_) AllReadyH.nil
  rw[if_pos (by rfl)]
  go_simp
  go_at_call 132
  with_reducible refine(rtWith_some 135 _ _ _).mono ?_
  rintro e7 w7 ⟨g7,rfl,hc7,hz7,hb7⟩
  have HC7:=Lib.hid hc7;have HB7:=Lib.hid (HB6.out.trans (hb7.mono HB6.out.size));have HB67:=Lib.hid hb7
  have HZ7:Hid (w4.heap.size≤g7):=Nat.le_trans HB6.out.size hz7
  have K7:w7.cell? ⟨w.heap.size,0,none⟩=some (.int .i64 k):=by rw[HKK2.out];exact Recs.c0 (HM4.out.below HB7.out HM4.out.lt)
  clear hc7 hz7 hb7
  refine hK.out _ _ K7 (fun hHeld => ?_)
  clear hK K
  refine wpAnyH_ready (rs := [9]) (by kernel_rfl) (by simp) ?_
  refine AllReadyH.cons rfl (fun K hK => ?_) AllReadyH.nil
  rw[if_pos (by rfl)]
  go_simp
  go_at_call 132
  with_reducible refine(rtWith_some 136 _ _ _).mono ?_
  rintro e8 w8 ⟨g8,rfl,hc8,hz8,hb8⟩
  have HC8:=Lib.hid hc8;have HB8:=Lib.hid (HB7.out.trans (hb8.mono HB7.out.size));have HB78:=Lib.hid hb8
  have HZ8:Hid (w4.heap.size≤g8):=Nat.le_trans HB7.out.size hz8
  have K8:w8.cell? ⟨w.heap.size,0,none⟩=some (.int .i64 k):=by rw[HKK2.out];exact Recs.c0 (HM4.out.below HB8.out HM4.out.lt)
  clear hc8 hz8 hb8
  refine hK.out _ _ K8 (fun hHeld => ?_)
  clear hK K
  refine wpAnyH_ready (rs := [10]) (by kernel_rfl) (by simp) ?_
  refine AllReadyH.cons rfl (fun K hK => ?_) AllReadyH.nil
  rw[if_pos (by rfl)]
  go_simp
  go_at_call 131
  have HCH:Hid (Rt.Chain w8 g5 g6 g7 g8 133 134 135 136 w2.heap.size w2.heap.size w.heap.size):=⟨((HC5.out.below HB56.out HC5.out.lt).below HB67.out (Nat.lt_of_lt_of_le HC5.out.lt HB56.out.size)).below HB78.out (Nat.lt_of_lt_of_le HC5.out.lt (Nat.le_trans HB56.out.size HB67.out.size)),(HC6.out.below HB67.out HC6.out.lt).below HB78.out (Nat.lt_of_lt_of_le HC6.out.lt HB67.out.size),HC7.out.below HB78.out HC7.out.lt,HC8.out⟩
  with_reducible refine(HRUN.out w8 g5 g6 g7 g8 HB8.out HZ5.out HZ6.out HZ7.out HZ8.out HCH.out).mono ?_
  rintro e9 w9 ⟨rfl,u9,hw9,hb9⟩
  have HW9:=Lib.hid hw9;have HB9:=Lib.hid ((HB4.out.trans (HB8.out.mono HB4.out.size)).trans hb9)
  have K9:w9.cell? ⟨w.heap.size,0,none⟩=some (.int .i64 k):=by rw[HKK2.out];exact Recs.c0 ((HM1.out.below HB9.out HM1.out.lt))
  clear hw9 hb9
  refine hK.out _ _ K9 (fun hHeld => ?_)
  clear hK K
  refine wpAnyH_done (by kernel_rfl) ?_ _
  all_goals
   go_wp2_with fail
   refine(wbytes_any _ w1.heap.size w2.heap.size u9 _ HW9.out (by have:=Rt.bytes_len HKN2.out HFIT.out HSH.out HKK.out;omega)).mono ?_
   rintro e8 w10 ⟨u8,rfl,ho8,hb8⟩
   have HO8:=Lib.hid ho8.reads;have HB10:=Lib.hid (HB1.out.trans ((HB9.out.trans (hb8.mono HB9.out.size)).mono HB1.out.size))
   clear ho8 hb8
   go_wp2
   go_ret2
   rw[HR2.out]
   exact⟨HB10.out,u8,rfl,HO8.out⟩
 ·have hne:(c != 0)=true:=by simpa using h0
  have HR2:Hid (r=([],c)):=HR.out.trans (if_pos h0)
  go_wp2
  go_ret2
  rw[HR2.out]
  exact⟨HX2.out,_,rfl,Reads.empty _⟩
end
end Go.Proofs.YtdkdjofnnnljjaaGreatDoor
