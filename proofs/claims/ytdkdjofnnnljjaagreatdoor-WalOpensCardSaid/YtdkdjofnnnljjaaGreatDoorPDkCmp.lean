/- Several texts of mine in one: WlAwake WlNobody WlPast WlSteps WlSts DkRef DkCmp. -/
import Derived.Test.YtdkdjofnnnljjaaGreatDoorPWlOk
import Derived.Test.YtdkdjofnnnljjaaGreatDoorPSgMem
import Derived.Test.YtdkdjofnnnljjaaGreatDoorPWlAdd
import Derived.Test.YtdkdjofnnnljjaaGreatDoorReCame
import Derived.Test.YtdkdjofnnnljjaaGreatDoorPDkMap
import Derived.Test.YtdkdjofnnnljjaaGreatDoorPWlBack
import Derived.Test.YtdkdjofnnnljjaaGreatDoorPGFs
import Derived.Test.YtdkdjofnnnljjaaGreatDoorPGRd
import Derived.Test.YtdkdjofnnnljjaaGreatDoorGMb
import Derived.Deep.RegionHeld
import Derived.Test.YtdkdjofnnnljjaaGreatDoorPPkMath
namespace Go.Proofs.YtdkdjofnnnljjaaGreatDoor
open Go.RowKit
set_option maxHeartbeats 3200000
set_option maxRecDepth 8000
theorem headWl_any{n0:Nat}{w:World}(E:Env n0 w){f:Int}(hf:f=1∨f=2){i:Nat}{k:Hd.Hard}(o:Wl.Ok f i k)(hi:i≤41)(W:World)(vi va vc:Value)(hb:Below w.heap.size w W)(hr:HardR W k vi va vc) :
 Calls Tryz.prog 65 #[.int .i64 f, .agg (Hd.cells k vi va vc)] W (SgMade W (Sg.file f k [],0)):=by
 have hrec:=o.recs
 have hl:=o.len
 have h:=headSg_any true f k vi va vc W (E.up hb).crc (E.up hb).words hr (by simp[o.valid]) (Hd.Valid.few o.valid (by have:=o.few.1;omega) (by have:=o.few.2;omega)) (by omega) (fun e he=>Short.up (Cm.check_short (o.accs e he).2) (by omega)) (fun e he=>Short.up (Cm.check_short (o.chss e he).2) (by omega))
  (fun x hx=>by obtain⟨h1,h2,h3⟩:=hrec x hx;exact⟨h2,(Sg.body_len h1 h2).1.2.2.1,by omega⟩)
 have e:Sg.head true f k=(Sg.file f k [],0):=by
  unfold Sg.head
  rw[Vs.opens_two,if_pos hf,if_neg (by simp),if_neg (by simp),Sg.hasAll_none fun x hx=>(hrec x hx).1,if_neg (by simp)]
 rw[e]at h
 exact h
theorem Wl.Ok.fews{f:Int}{i:Nat}{k:Hd.Hard}(o:Wl.Ok f i k)(hi:i≤41):k.Few:=Hd.Valid.few o.valid (by have:=o.few.1;omega) (by have:=o.few.2;omega)
theorem askWl_len : (Sg.file 1 Hd.zero []).length=7:=by
 unfold Sg.file Sg.bodies
 rw[show Hd.recs Hd.zero = []from rfl]
 have h1:Sg.first 1 0 = [1,0]:=by decide+kernel
 have h2:=Frm.frame_len [1,0]
 have h3:(enc ([1,0]:List UInt8).length).length=1:=by decide+kernel
 have e:Frm.flat [[1,0]]=Frm.frame [1,0]:=by simp[Frm.flat]
 have h4:([1,0]:List UInt8).length=2:=rfl
 show(Frm.flat [Sg.first 1 0]).length=7
 rw[h1,e]
 omega
theorem askWl_all(head:List UInt8):Dk.all [] ([]++Wl.begins (Wl.next [] []) head (Dk.all [] [])) = [(1,head)]:=by
 show Dk.done (Dk.done [] ⟨1,1, []⟩) ⟨2,1,head⟩=_
 rw[Wl.done_make (V := []) (fun q hq=>by simp at hq)]
 show Dk.done ([] ++ [(1, [])]) ⟨2,1,head⟩=_
 rw[Wl.done_add (V := []) (fun q hq=>by simp at hq)]
 rfl
theorem awakeWl_any{w:World}{n0:Nat}(E:Env n0 w):Calls Tryz.prog 7 #[] w (Looks w (.bool true)):=by
 have HN:=Lib.hid (new_any w);have HE:=Lib.hid E
 clear E
 go_enter Tryz.func7,Tryz.ntmps7
 go_wp2_with fail
 refine HN.out.mono ?_
 rintro e w1 ⟨rfl,hd1,hb1,hs1⟩
 obtain⟨d,hde⟩ : ∃d,d=w.heap.size:=⟨_,rfl⟩
 have HE1:=HE.out.up hb1
 have hop:=openWl_any HE1 hd1 Wl.Sane.nil (by omega) (by omega) (fun q hq=>by simp[Dk.all]at hq) 1 1 Hd.zero Wl.Peek.nil ((Wl.Ok.zero 1 0).fews (by omega)) (Sg.file 1 Hd.zero []) (fun W vi va vc hb hr=>headWl_any HE1 (.inl rfl) (Wl.Ok.zero 1 0) (by omega) W vi va vc hb hr) (by rw[askWl_len];omega)
 have HB1:=Lib.hid hb1
 rw[← hde]
 rw[← hde]at hop
 have HOP:=Lib.hid hop
 have HDE:=Lib.hid hde
 have hwd:w.heap.size≤d:=Nat.le_of_eq hde.symm
 have HWD:=Lib.hid hwd
 clear hd1 hb1 hs1 HE1 hop hde hwd HN
 go_wp2_with fail
 refine HOP.out.mono ?_
 rintro e w2 (⟨hno,_⟩ | ⟨_,gl,m,vi,va,vc,rfl,hm,hl2,hr2,hk2⟩)
 ·exact absurd (show Vs.opens 1 1=0 by decide) hno
 obtain⟨⟨io,ik,ic,rfl⟩,⟨ao,ak,ac,rfl⟩,⟨co,ck,cc,rfl⟩⟩:=hr2.rows.sl
 have hb2:Below w.heap.size w w2:=HB1.out.trans (hk2.below HB1.out.size fun b _ hb _ h=>by have:=HWD.out;omega)
 have s:=Wl.St.start
 have hw:=s.wt (by omega)
 have hal:=askWl_all (Sg.file 1 Hd.zero [])
 obtain⟨w3,e3,l3,hb3,hs3⟩:=box_six w2 33 Hd.zero (.slice io ik ic) (.slice ao ak ac) (.slice co ck cc) hr2.rows
 have hl3:=hl2.keep (Kp.all hb3)
 have hsy:=syncWl_any hl3 (s.sane.kinds (by omega)) (by have:=hw;show Dk.wt []+2*Dk.wtB (Wl.begins 1 (Sg.file 1 Hd.zero []) [])≤_;omega)
 rw[hal]at hsy
 have HSY:=Lib.hid hsy
 have HB3:Hid (Below w.heap.size w w3):=hb2.trans (hb3.mono hb2.size)
 have HNG:Hid (w.heap.size≤m):=Nat.le_trans HB1.out.size hm
 clear hm hl2 hr2 hk2 hb2 s hw hal hl3 hsy l3 hb3 hs3 HOP
 dsimp only [Hd.cells,Hd.zero,Bl.zero]at e3 ⊢
 go_wp2_with fail
 refine HSY.out.mono ?_
 rintro e w4 ⟨rfl,hl4,hk4⟩
 have HL4:=Lib.hid hl4
 have HB4:Hid (Below w.heap.size w w4):=HB3.out.trans (hk4.below HB3.out.size fun b _ hb _ h=>by
  have h1:=HNG.out
  have h2:=HWD.out
  have h3:=HDE.out
  rcases h with h | h
  ·rw[h]at hb;omega
  ·omega)
 have HFI:=Lib.hid (files_any hl4.disk (by rw[Dk.wt_cons,askWl_len];simp[Dk.wt]))
 clear hl4 hk4 e3 HSY
 go_wp2_with fail
 refine HFI.out.mono ?_
 rintro e w5 ⟨v5,rfl,hf5,hb5⟩
 have HB5:Hid (Below w.heap.size w w5):=HB4.out.trans (hb5.mono HB4.out.size)
 have HL5:=Lib.hid (HL4.out.keep (Kp.all hb5))
 obtain⟨fo,fc,rfl,hc5,hm5⟩:=hf5.shape
 obtain⟨fg,off,rfl,_,hc⟩:=ListP.places hf5 (fun a u=>⟨_,rfl⟩) (by simp)
 obtain⟨u,hu,hcell⟩:=hc 0 _ rfl
 obtain⟨uo,uc,rfl⟩:=hu.1.shape
 have HCW:=Lib.hid hcell
 have m0:w5.cell? ⟨fg,off,none⟩=some (.int .i64 1):=by have:=hcell w5 (Below.refl _ _) 0 (.int .i64 1) rfl;simpa using this
 have m1:w5.cell? ⟨fg,off+1,none⟩=some (.slice uo 7 uc):=by have:=hcell w5 (Below.refl _ _) 1 (.slice uo (Sg.file 1 Hd.zero []).length uc) rfl;rw[askWl_len]at this;simpa using this
 clear hf5 hb5 hc hu hcell HFI
 have HFO:=Lib.hid (formatWl_any HL5.out)
 have HDI:=Lib.hid (dirtyWl_any HL5.out (by simp[Dk.wtB]))
 go_wp2_with (first
  | (go_at_call 23;refine HFO.out.mono ?_;rintro e w6 ⟨rfl,rfl⟩)
  | (go_at_call 29;refine HDI.out.mono ?_;rintro e w7 ⟨rfl,hb7⟩;have HB7:=Lib.hid hb7;clear hb7))
 go_ret
 exact⟨rfl,HB5.out.trans (HB7.out.mono HB5.out.size)⟩
end Go.Proofs.YtdkdjofnnnljjaaGreatDoor

namespace Go.Proofs.YtdkdjofnnnljjaaGreatDoor
open Go.RowKit
theorem envWl{w:World}(hT:CrcTab w)(hW:WordsIn w):Env w.heap.size w:=⟨Nat.le_refl _,fun _ h=>⟨hT.below h,hW.below h⟩⟩
theorem HardR.zero' (w:World):HardR w Hd.zero Nil Nil Nil:=(HardQ.zero (fun _=>True) w).rows
theorem RecsP.sole{w:World}{g:Nat}{x:Re.Rec}{u:Value}(hl:Lies w g 42 (Re.cells x u))(hu:Reads w u x.img):RecsP (fun k _=>k<w.heap.size) w (.slice (some ⟨g,0,none⟩) 1 1) [x]:=by
 have h1:Lies w g 42 (flatR [Re.cells x u]).toArray:=by simpa[flatR] using hl
 have hs:Sized 12 [Re.cells x u]:=rowsOf_sized (ps := [(x,u)]) cellR_ok fun q hq=>by
  obtain rfl:q=(x,u):=by simpa using hq
  obtain⟨o,c,e⟩:=hu.shape
  rw[e]
  rfl
 refine⟨[(x,u)],rfl,RowP.of_reads (ReadsR.lit h1 hs (by simp)) (by omega) hs (fun b t hb=>hb),fun q hq => ?_⟩
 obtain rfl:q=(x,u):=by simpa using hq
 exact ReadsP.of_reads hu fun _ _ hb=>hb
theorem same_zero : decide (Hd.zero=Hd.zero)=true:=by simp
end Go.Proofs.YtdkdjofnnnljjaaGreatDoor

namespace Go.Proofs.YtdkdjofnnnljjaaGreatDoor
open Go.RowKit
section
structure Had where
 h:Hd.Hard
 f:Int
 vi:Value
 va:Value
 vc:Value
def Had.cells(q:Had):Array Value:=Hd.cells q.h q.vi q.va q.vc
def Had.num(q:Had):Array Value := #[.int .i64 q.f]
def Had.is(q:Had):Hd.Hard × Int:=(q.h,q.f)
structure PastS(O D:Nat→Prop)(w:World)(g:Nat)(vL vF:Value)(qs:List Had):Prop where
 lies:Lies w g 58 #[vL,vF]
 rowL:OwnsR w 0 33 6 vL (qs.map Had.cells)
 rowF:OwnsR w 0 3 1 vF (qs.map Had.num)
 here:O g
 inL : ∀b,vL.ownBlock=some b→O b
 inF : ∀b,vF.ownBlock=some b→O b
 apart : ∀b,O b → ¬D b
 data : ∀q∈qs,HardQ D w q.h q.vi q.va q.vc
def PastAt(O D:Nat→Prop)(w:World)(g:Nat)(ps:List (Hd.Hard × Int)):Prop := ∃vL vF qs,PastS O D w g vL vF qs∧ps=qs.map Had.is
section
variable {O D : Nat → Prop} {w w' : World} {g : Nat} {vL vF : Value} {qs : List Had} {ps : List (Hd.Hard × Int)}
theorem PastS.keep(p:PastS O D w g vL vF qs)(hk:Kp (fun b _=>O b∨D b) w w'):PastS O D w' g vL vF qs :=
 ⟨hk.lies p.lies fun _ => .inl p.here,p.rowL.stays fun b e=>hk.block (p.rowL.lt b e).2 fun _ => .inl (p.inL b e),p.rowF.stays fun b e=>hk.block (p.rowF.lt b e).2 fun _ => .inl (p.inF b e),p.here,p.inL,p.inF,p.apart,
  fun q hq=>(p.data q hq).keep (hk.keep fun _ _ _ _ _ hp => .inr hp)⟩
theorem PastAt.keep(p:PastAt O D w g ps)(hk:Kp (fun b _=>O b∨D b) w w'):PastAt O D w' g ps:=by
 obtain⟨vL,vF,qs,p,e⟩:=p
 exact⟨vL,vF,qs,p.keep hk,e⟩
theorem PastS.tight(p:PastS O D w g vL vF qs):PastS (fun b=>O b∧b<w.heap.size) (fun b=>D b∧b<w.heap.size) w g vL vF qs :=
 ⟨p.lies,p.rowL,p.rowF,⟨p.here,p.lies.lt⟩,fun b e=>⟨p.inL b e,(p.rowL.lt b e).2⟩,fun b e=>⟨p.inF b e,(p.rowF.lt b e).2⟩,fun b h h' => p.apart b h.1 h'.1,fun q hq=>(p.data q hq).tight⟩
end
structure PastM(O:Nat→Prop)(w:World)(g:Nat)(vL vF:Value)(ls fs:List (Array Value)):Prop where
 lies:Lies w g 58 #[vL,vF]
 rowL:OwnsR w 0 33 6 vL ls
 rowF:OwnsR w 0 3 1 vF fs
 here:O g
 inL : ∀b,vL.ownBlock=some b→O b
 inF : ∀b,vF.ownBlock=some b→O b
theorem PastS.bare{O D:Nat→Prop}{w:World}{g:Nat}{vL vF:Value}{qs:List Had}(p:PastS O D w g vL vF qs):PastM O w g vL vF (qs.map Had.cells) (qs.map Had.num):=⟨p.lies,p.rowL,p.rowF,p.here,p.inL,p.inF⟩
theorem PastM.imp{O O' : Nat→Prop}{w:World}{g:Nat}{vL vF:Value}{ls fs:List (Array Value)}(m:PastM O w g vL vF ls fs)(h : ∀b,O b→O' b):PastM O' w g vL vF ls fs:=⟨m.lies,m.rowL,m.rowF,h _ m.here,fun b e=>h b (m.inL b e),fun b e=>h b (m.inF b e)⟩
theorem PastS.put{O D X:Nat→Prop}{w w' : World}{g:Nat}{vL vF vL' vF' : Value}{qs:List Had}(p:PastS O D w g vL vF qs)(q:Had)(hX:HardQ X w q.h q.vi q.va q.vc)(hXO : ∀b,X b → ¬O b)
 (m:PastM (fun b=>O b∨w.heap.size≤b) w' g vL' vF' ((qs ++ [q]).map Had.cells) ((qs ++ [q]).map Had.num)) (hk:Kp (fun b _ => ¬O b) w w') :
 PastS (fun b=>O b∨w.heap.size≤b) (fun b=>(D b∨X b)∧b<w.heap.size) w' g vL' vF' (qs ++ [q]):=by
 refine⟨m.lies,m.rowL,m.rowF,m.here,m.inL,m.inF,fun b h1 h2 => ?_,fun x hx => ?_⟩
 ·rcases h1 with h1 | h1
  ·rcases h2.1 with h3 | h3
   ·exact p.apart b h1 h3
   ·exact hXO b h3 h1
  ·omega
 ·rcases List.mem_append.1 hx with hx | hx
  ·exact((p.data x hx).tight.imp fun b h=>(⟨.inl h.1,h.2⟩:(D b∨X b)∧b<w.heap.size)).keep (hk.keep fun b _ _ _ _ h h' => h.1.elim (p.apart b h') (hXO b · h'))
  ·obtain rfl:x=q:=by simpa using hx
   exact(hX.tight.imp fun b h=>(⟨.inr h.1,h.2⟩:(D b∨X b)∧b<w.heap.size)).keep (hk.keep fun b _ _ _ _ h h' => h.1.elim (p.apart b h') (hXO b · h'))
def Puts(O D X:Nat→Prop)(w:World)(g:Nat)(ps:List (Hd.Hard × Int))(w' : World):Prop:=PastAt (fun b=>O b∨w.heap.size≤b) (fun b=>(D b∨X b)∧b<w.heap.size) w' g ps∧Kp (fun b _ => ¬O b) w w'
section
variable {ops : Array Oper} {rest : List Oper} {op : Oper} {a : Act} {w : World} {Q : Exit → Act → World → Prop} {g : Nat} {vL vF : Value}
end
theorem PastS.only{O D:Nat→Prop}{w w' : World}{g:Nat}{vL vF vL' vF' : Value}{qs:List Had}{q:Had}(p:PastS O D w g vL vF (qs ++ [q]))(m:PastM (fun b=>O b∨w.heap.size≤b) w' g vL' vF' [q.cells] [q.num])(hk:Kp (fun b _ => ¬O b) w w') :
 Puts O D D w g [q.is] w' := by
 refine⟨⟨vL', vF', [q],⟨m.lies,m.rowL,m.rowF,m.here,m.inL,m.inF,fun b h1 h2 => ?_,fun x hx => ?_⟩,rfl⟩,hk⟩
 ·rcases h1 with h1 | h1
  ·exact h2.1.elim (p.apart b h1) (p.apart b h1)
  ·omega
 ·obtain rfl:x=q:=by simpa using hx
  exact((p.data x (by simp)).tight.imp fun b h=>(⟨.inl h.1,h.2⟩:(D b∨D b)∧b<w.heap.size)).keep (hk.keep fun b _ _ _ _ h h' => h.1.elim (p.apart b h') (p.apart b h'))
def PastTo(O D X:Nat→Prop)(w:World)(g:Nat)(ps:List (Hd.Hard × Int))(w' : World):Prop := ∃O' D', PastAt O' D' w' g ps∧(∀b,O' b→O b∨w.heap.size≤b)∧(∀b,D' b→D b∨X b∨w.heap.size≤b)∧Kp (fun b _ => ¬O b) w w'
theorem PastTo.same{O D X:Nat→Prop}{w w' : World}{g:Nat}{vL vF:Value}{qs:List Had}(p:PastS O D w g vL vF qs)(hb:Below w.heap.size w w'):PastTo O D X w g (qs.map Had.is) w' := ⟨O,D,⟨vL,vF,qs,p.keep (Kp.all hb),rfl⟩,fun _ h => .inl h,fun _ h => .inl h,Kp.all hb⟩
end
end Go.Proofs.YtdkdjofnnnljjaaGreatDoor

namespace Go.Proofs.YtdkdjofnnnljjaaGreatDoor
open Go.RowKit
section
structure Wl.Stp where
 kind:Int
 n:Int
 m:Int
 x:Re.Rec
def Wl.Stp.img(s:Wl.Stp):List UInt8:=s.x.img
section
variable {H : Type} {enc : TypeId × Value → H} {w : World} {b0 base : Nat} {held : Bool}
end
theorem refOpens21_any(v f:Int)(w:World):Calls Tryz.prog 26 #[.int .i64 v, .int .i64 f] w (Says w (.int .i64 (Vs.opens v f))):=by
 have HC:=Lib.hid (refOpens_any v f w)
 go_enter Tryz.func26,Tryz.ntmps26
 go_wp2_with (go_at_call 59;refine HC.out.mono ?_;rintro e w2 ⟨rfl,rfl⟩)
 go_ret
 exact⟨rfl,rfl⟩
end
end Go.Proofs.YtdkdjofnnnljjaaGreatDoor

namespace Go.Proofs.YtdkdjofnnnljjaaGreatDoor
open Go.RowKit
def AddsSt(T:Nat→Prop)(w:World)(g d:Nat)(F:Dk.Files)(n f:Int)(k:Hd.Hard)(ps:List (Hd.Hard × Int))(i:Nat)(x:Re.Rec)(e:Ending)(w' : World):Prop :=
 e = .returned (.int .i64 (Rt.put f x).2)∧Kp (fun j _ => ¬T j) w w' ∧ ∃B' k' ps', LogAt (fun j=>T j∨w.heap.size≤j) w' g d F B' n f k' ∧ Wl.St (i+1) F B' n f k' ps' ∧ (((Rt.put f x).2=0∧k' = Hd.apply k x∧ps' = ps ++ [(Hd.apply k x,f)])∨((Rt.put f x).2≠0∧k' = k∧ps' = ps))
theorem addSt_any{T:Nat→Prop}{w:World}{n0 g d:Nat}{F:Dk.Files}{B:List Dk.Op}{n f:Int}{k:Hd.Hard}{ps:List (Hd.Hard × Int)}{i:Nat}(E:Env n0 w)(hT : ∀j,T j→n0≤j)(l:LogAt T w g d F B n f k)(s:Wl.St i F B n f k ps)(hi:i≤41)
 (x:Re.Rec) (xi:Value) (hx:Reads w xi x.img) (hxp:InP (fun b => ¬T b) xi) (hf:x.Fits) (hlg:Re.large x=false) (him:x.img.length≤300) :
 Calls Tryz.prog 12 #[Wl.ptr g, .agg (Re.cells x xi)] w (AddsSt T w g d F n f k ps i x):=by
 have hsh:=(Re.small hlg).1
 have hfw:=s.ok.fews hi
 have hlen:(Sg.add f x).1.length≤1000000:=by
  unfold Sg.add
  by_cases h0:(Rt.put f x).2=0
  ·rw[if_neg (by simpa using h0)]
   have:=Wl.frame_few (Sg.put_ok h0).2.1 hf him
   show(Frm.frame (Rt.bytesIn f x)).length≤_
   omega
  ·rw[if_pos h0];simp
 have hn:=s.num
 have hw:=s.wt hi
 have hB:B.length≤1000000000:=by have:=Dk.len_wtB B;omega
 refine(addWl_any E hT l x xi hx hxp (Sg.add f x) (fun W hb=>addSg_any f x xi W (E.up hb).crc (E.up hb).words (hx.below hb) hf (Short.up hsh (by omega)) (by omega)) hlen hB (by omega) s.ok.valid (by have:=s.ok.few;omega) (Short.up hsh (by omega))).mono ?_
 rintro e w' ⟨he,h⟩
 have h2:(Sg.add f x).2=(Rt.put f x).2:=by
  unfold Sg.add
  by_cases h0:(Rt.put f x).2=0
  ·rw[if_neg (by simpa using h0),h0]
  ·rw[if_pos h0]
 rw[h2]at he h
 rcases h with ⟨h0,hl,hk⟩ | ⟨h0,hl,hk⟩
 ·have e1:(Sg.add f x).1=Frm.frame (Rt.bytesIn f x):=by unfold Sg.add;rw[if_neg (by simpa using h0)]
  rw[e1]at hl
  exact⟨he,hk,_,_,_,hl,s.add (Sg.put_ok h0).2.1 hf him, .inl ⟨h0,rfl,rfl⟩⟩
 ·exact⟨he,hk,_,_,_,hl,s.skip, .inr ⟨h0,rfl,rfl⟩⟩
def RenewsSt(T:Nat→Prop)(w:World)(g d:Nat)(ps:List (Hd.Hard × Int))(i:Nat)(f:Int)(h:Hd.Hard)(e:Ending)(w' : World):Prop :=
 e = .returned (.int .i64 0)∧Kp (fun j _ => ¬T j) w w' ∧ ∃F B n,LogAt (fun j=>T j∨w.heap.size≤j) w' g d F B n f h∧Wl.St (i+1) F B n f h (ps ++ [(h,f)])
theorem renewSt_any{T:Nat→Prop}{w:World}{n0 g d:Nat}{F:Dk.Files}{B:List Dk.Op}{n f0:Int}{k:Hd.Hard}{ps:List (Hd.Hard × Int)}{i:Nat}(E:Env n0 w)(l:LogAt T w g d F B n f0 k)(s:Wl.St i F B n f0 k ps)(hi:i≤40)
 (f:Int) (hf:f=1∨f=2) (h:Hd.Hard) (o:Wl.Ok f i h) (vi va vc:Value) (hr:HardQ (fun b => ¬T b) w h vi va vc) :
 Calls Tryz.prog 16 #[Wl.ptr g, .int .i64 f, .agg (Hd.cells h vi va vc)] w (RenewsSt T w g d ps i f h):=by
 have h2:=Wl.head_few hf o (by omega)
 have hM:(i+1)*54000≤1000000000:=by omega
 refine(renewWl_any l f h vi va vc hr (o.fews (by omega)) (Sg.file f h [],0) (fun W hb=>headWl_any E hf o (by omega) W vi va vc hb (hr.rows.below hb)) (by show(Sg.file f h []).length≤_;omega) s.sane (by omega) hM).mono ?_
 rintro e w' ⟨he,⟨_,hl,hk⟩ | ⟨h0,_⟩⟩
 ·exact⟨he,hk,_,_,_,hl,s.begin hi hf o⟩
 ·exact absurd rfl h0
end Go.Proofs.YtdkdjofnnnljjaaGreatDoor

namespace Go.Proofs.YtdkdjofnnnljjaaGreatDoor
open Go.RowKit
section
theorem cellF_first(a:Int × List UInt8)(u:Value) : ∃v,(Dk.cellF a u)[0]? = some v:=⟨_,rfl⟩
def Placed(F:Dk.Files)(n:Int)(r:Int):Prop:=(∃(j:Nat) (f:Int × List UInt8),r=(j:Int)∧F[j]? = some f∧f.1=n)∨(r = -1 ∧ ∀f∈F,f.1≠n)
theorem Placed.at{F:Dk.Files}{n r:Int}(h:Placed F n r)(ha:Dk.Asc F){i:Nat}{f:Int × List UInt8}(hf:F[i]? = some f):((i:Int)=r↔f.1=n):=by
 rcases h with ⟨j,g,rfl,hg,rfl⟩ | ⟨rfl,h⟩
 ·constructor
  ·intro e
   have:i=j:=by omega
   subst this
   rw[hf]at hg
   cases hg
   rfl
  ·intro e
   obtain⟨hi1,hi2⟩:=List.getElem?_eq_some_iff.1 hf
   obtain⟨hj1,hj2⟩:=List.getElem?_eq_some_iff.1 hg
   rcases Nat.lt_trichotomy i j with hlt | heq | hlt
   ·have:=List.pairwise_iff_getElem.1 ha i j hi1 hj1 hlt
    rw[hi2,hj2]at this
    omega
   ·omega
   ·have:=List.pairwise_iff_getElem.1 ha j i hj1 hi1 hlt
    rw[hi2,hj2]at this
    omega
 ·constructor
  ·intro e;omega
  ·intro e;exact absurd e (h f (List.mem_of_getElem? hf))
def upP(p:Nat→TypeId→Prop)(n0:Nat)(k:Nat)(t:TypeId):Prop:=(k<n0∧p k t)∨(t=5∧n0≤k)
theorem ReadsP.up{p:Nat→TypeId→Prop}{w W:World}{v:Value}{l:List UInt8}(h:ReadsP p w v l)(hb:Below w.heap.size w W):ReadsP (upP p w.heap.size) W v l :=
 (h.imp fun k _ t _ e hp=>show upP p w.heap.size k t from .inl ⟨lt_of_obj e,hp⟩).keep (Keep.of_below hb)
theorem ListP.up{α:Type}{k:Nat}{cells:α→Value→Array Value}{bytes:α→List UInt8}{p:Nat→TypeId→Prop}{w W:World}{v:Value}{l:List α}(h:ListP k cells bytes p w v l)(hb:Below w.heap.size w W):ListP k cells bytes (upP p w.heap.size) W v l :=
 (h.imp fun k _ t _ e hp=>show upP p w.heap.size k t from .inl ⟨lt_of_obj e,hp⟩).keep (Keep.of_below hb)
structure Outs(p:Nat→TypeId→Prop)(w:World)(x:Dk.Op)(dv:Value)(G:Dk.Files)(out:Value)(W:World):Prop where
 own:FilesO (upP p w.heap.size) W w.heap.size out G
 below:Below w.heap.size w W
 box:Lies W w.heap.size 91 (Dk.cellO x dv)
theorem Outs.behind{p:Nat→TypeId→Prop}{w W W' : World}{x:Dk.Op}{dv out:Value}{G:Dk.Files}(h:Outs p w x dv G out W)(hb:Below W.heap.size W W'):Outs p w x dv G out W' :=
 ⟨h.own.below hb,h.below.trans (hb.mono h.below.size),h.box.below hb h.box.lt⟩
theorem Outs.cell{p:Nat→TypeId→Prop}{w W W2:World}{x:Dk.Op}{dv out:Value}{G:Dk.Files}(h:Outs p w x dv G out W)(hg:W.grownBy W2 out.ownBlock){b j:Nat}{u:Value}(hb:b<w.heap.size)(hc:W.cell? ⟨b,j,none⟩=some u):W2.cell? ⟨b,j,none⟩=some u:=by
 rw[← hc]
 refine World.cell?_of_block (hg.block b (by have:=h.below.size;omega) fun e => ?_)
 obtain⟨cs,hc', hb'⟩:=h.own.blocks e.symm
 omega
structure DoneI(p:Nat→TypeId→Prop)(w:World)(F:Dk.Files)(x:Dk.Op)(dv:Value)(i:Nat)(d:Bool)(G:Dk.Files)(out:Value)(W:World):Prop where
 outs:Outs p w x dv G out W
 is:Dk.done F x=G++Dk.rest x d (F.drop i)
 len:G.length≤2*i
section
variable {x : Dk.Op} {f : Int × List UInt8} {d : Bool}
end
theorem rest_at{x:Dk.Op}{d:Bool}{F:Dk.Files}{i:Nat}{f:Int × List UInt8}(hf:F[i]? = some f) :
 Dk.rest x d (F.drop i)=(if !d && decide (f.1>x.no)then [(x.no, [])]else [])++(if f.1≠x.no then [f]else if x.kind=2 then [(x.no,f.2++x.data)]else if x.kind=1 then [f]else [])++Dk.rest x (d || decide (f.1>x.no)) (F.drop (i+1)):=by
 rw[List.drop_eq_getElem_cons (List.getElem?_eq_some_iff.1 hf).1,(List.getElem?_eq_some_iff.1 hf).2]
 rfl
theorem DoneI.next{p:Nat→TypeId→Prop}{w W W' : World}{F G:Dk.Files}{x:Dk.Op}{dv out out' : Value}{i:Nat}{d d' : Bool}(h:DoneI p w F x dv i d G out W){f:Int × List UInt8}(hf:F[i]? = some f)(add:Dk.Files)
 (hadd:(if !d && decide (f.1>x.no)then [(x.no, [])]else [])++(if f.1≠x.no then [f]else if x.kind=2 then [(x.no,f.2++x.data)]else if x.kind=1 then [f]else [])=add) (hd:(d || decide (f.1>x.no))=d') (ho:Outs p w x dv (G++add) out' W') (hl:add.length≤2):DoneI p w F x dv (i+1) d' (G++add) out' W' :=
 ⟨ho,by rw[h.is,rest_at hf,hadd,hd,List.append_assoc],by have:=h.len;rw[List.length_append];omega⟩
end
end Go.Proofs.YtdkdjofnnnljjaaGreatDoor

namespace Go.Proofs.YtdkdjofnnnljjaaGreatDoor
open Go.RowKit
set_option maxHeartbeats 1600000
set_option maxRecDepth 4000
theorem Tells.behind{P:Program}{f:FuncId}{args:Array Value}{w:World}{p:Behind w}{v:Value}(h:Calls P f args p.world (Tells p.world v)) :
 Calls P f args p.world fun e w'' => e = .returned v ∧ ∃q:Behind w,w'' = q.world :=
 h.mono fun _ w' ⟨he,n,hw⟩=>⟨he,⟨w', p.below.trans ((hw ▸ drawn p.world n:Below p.world.heap.size p.world w').mono p.below.size)⟩,rfl⟩
theorem same_ref{p p' : Nat→TypeId→Prop}{w:World}{v u:Value}{F:List (Int × List UInt8)}(h:FilesP p w v F)(h' : FilesP p' w u F)(hl:F.length≤1099511627776):Calls Tryz.prog 27 #[v,u] w (Looks w (.bool true)):=by
 obtain⟨ao,cap,rfl,hc1,hc2⟩:=h.shape
 obtain⟨bo,dap,rfl,hd1,hd2⟩:=h'.shape
 by_cases h0:F.length=0
 ·obtain rfl:F = []:=List.eq_nil_of_length_eq_zero h0
  clear h h'
  go_enter Tryz.func27,Tryz.ntmps27
  go_wp2
  refine wp_loop_rounds 1 ?_
  rw[rounds_succ]
  go_wp2
  go_ret
  exact⟨rfl,Below.refl _ _⟩
 ·obtain⟨b1,o1,rfl,_,hp1⟩:=h.places cellF_first (by omega)
  obtain⟨b2,o2,rfl,_,hp2⟩:=h'.places cellF_first (by omega)
  have HP1:=Lib.hid hp1;have HP2:=Lib.hid hp2
  obtain⟨m,hm⟩ : ∃m,m=F.length:=⟨_,rfl⟩
  rw[← hm]at hl hc1 hd1 ⊢
  have HM:=Lib.hid hm
  clear h h' hp1 hp2 hm h0
  go_enter Tryz.func27,Tryz.ntmps27
  go_wp2
  go_loopw [5] (fun x wr => ∃i:Nat,x = .int .i64 (i:Int)∧i≤m∧Below w.heap.size w wr) (fun x _=>m - (intOf x).toNat)
  case atStart=>exact⟨0,rfl,Nat.zero_le _,Below.refl _ _⟩
  case round =>
   obtain⟨i,rfl,him,hB⟩:=hrel
   have HB:=Lib.hid hB
   clear hB
   by_cases hlt:i<m
   ·have hint:((i:Nat):Int)<(m:Int):=by omega
    obtain⟨f,hf⟩ : ∃f,F[i]? = some f:=⟨_,List.getElem?_eq_getElem (by have:=HM.out;omega)⟩
    obtain⟨u1,hr1,c1⟩:=HP1.out i f hf
    obtain⟨u2,hr2,c2⟩:=HP2.out i f hf
    obtain⟨ax,cx,rfl⟩:=hr1.1.shape
    obtain⟨bx,dx,rfl⟩:=hr2.1.shape
    have r1 : ∀q:Behind wr,Reads q.world (.slice ax (f.2).length cx) (f.2):=fun q=>hr1.1.below (HB.out.trans (q.below.mono HB.out.size))
    have r2 : ∀q:Behind wr,Reads q.world (.slice bx (f.2).length dx) (f.2):=fun q=>hr2.1.below (HB.out.trans (q.below.mono HB.out.size))
    have k0 : ∀q:Behind wr,q.world.cell? ⟨b1,o1+i*2,none⟩=some (.int .i64 f.1):=fun q=>c1 _ (HB.out.trans (q.below.mono HB.out.size)) 0 _ rfl
    have k1 : ∀q:Behind wr,q.world.cell? ⟨b2,o2+i*2,none⟩=some (.int .i64 f.1):=fun q=>c2 _ (HB.out.trans (q.below.mono HB.out.size)) 0 _ rfl
    have k2 : ∀q:Behind wr,q.world.cell? ⟨b1,o1+i*2+1,none⟩=some (.slice ax (f.2).length cx):=fun q=>c1 _ (HB.out.trans (q.below.mono HB.out.size)) 1 _ rfl
    have k3 : ∀q:Behind wr,q.world.cell? ⟨b2,o2+i*2+1,none⟩=some (.slice bx (f.2).length dx):=fun q=>c2 _ (HB.out.trans (q.below.mono HB.out.size)) 1 _ rfl
    have R1:=Lib.hid r1;have R2:=Lib.hid r2
    clear hr1 hr2 c1 c2 r1 r2
    have e0:((f.1:Int) != f.1)=false:=by simp
    have hbb:((f.2) == (f.2))=true:=by simp
    have HBB:=Lib.hid hbb
    clear hbb
    go_wp2
    refine wp_region_behind (by kernel_rfl) (by kernel_rfl) ?_
    repeat (go_big_quiet_step ((go_at_call 54;exact Tells.behind (same_any _ _ (f.2) (f.2) _ (R1.out _) (R2.out _)))))
    refine wpQuiet_nil ?_
    rintro w5 ⟨⟨w5,hB5⟩,rfl⟩
    (try dsimp only)
    rw[HBB.out]
    have HB5:=Lib.hid (HB.out.trans (hB5.mono HB.out.size))
    clear hB5 k0 k1 k2 k3
    go_wp2
    go_roundw
    case rel=>exact⟨i+1,by simp,by omega,HB5.out⟩
    case measure=>simp[intOf];omega
   ·have hint : ¬((i:Nat):Int)<(m:Int):=by omega
    go_wp2
    go_ret
    exact⟨rfl,HB.out⟩
end Go.Proofs.YtdkdjofnnnljjaaGreatDoor
