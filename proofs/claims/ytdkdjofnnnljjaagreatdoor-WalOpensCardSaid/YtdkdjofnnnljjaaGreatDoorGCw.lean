/- Several texts of mine in one: PkWr CmdPack CmdCode. -/
import Derived.Test.YtdkdjofnnnljjaaGreatDoorRows
import Derived.Test.YtdkdjofnnnljjaaGreatDoorPGRd
import Derived.Test.YtdkdjofnnnljjaaGreatDoorPPkMath
import Derived.Deep.RegionHeld3
import Derived.Deep.RegionLaw
import Derived.Test.YtdkdjofnnnljjaaGreatDoorGCa
import Derived.Test.YtdkdjofnnnljjaaGreatDoorPCmdChk
namespace Go.Proofs.YtdkdjofnnnljjaaGreatDoor
open Go.RowKit
set_option maxHeartbeats 1600000
set_option maxRecDepth 4000
abbrev Wrt(w:World)(B o:Nat)(v:Value)(l:List UInt8):Prop:=Wr 163 5 w B o v l
theorem wnum_any(n:Int)(w:World)(B o:Nat)(v:Value)(l:List UInt8)(hw:Wrt w B o v l)(hB:B≤w.heap.size)(hlen:l.length≤140737488351232)(h0 : -9223372036854775808≤n)(h1:n≤9223372036854775807) :
 Calls Tryz.prog 125 #[.pointer (some ⟨o,0,none⟩), .int .i64 n] w fun e w' => e = .returned (.tuple #[]) ∧ ∃v', Wrt w' B o v' (l++enc n.toNat)∧Grew w w' o v:=by
 have hc:=hw.lies.cell 0 v rfl
 have hf:=hw.lies.free 0
 have h9:=enc_nine (n:=n.toNat) (by omega)
 obtain⟨ec,hec⟩ : ∃ec,ec=enc n.toNat:=⟨_,rfl⟩
 have HW:=Lib.hid hw
 go_enter Tryz.func125,Tryz.ntmps125
 go_wp2_with fail
 go_region_law (first
  | (refine step_append_bytes (by rfl) _ _ 30 5 (by rfl) Tryz.underlying30 info_u8 B l (enc n.toNat) v _ (by rfl) (by rfl) hW1.owns ho1.reads (by omega) (by omega) ?_;intro v2 w2 ho2 hg2;obtain⟨ao2,cap2,rfl⟩:=ho2.reads.shape
     have hl2:=hW1.lies.kept hg2 (hW1.lies.not_row (by decide) hW1.owns)
     have hc2:=hl2.cell 0 v rfl
     have hf2:=hl2.free 0)
  | (rw[if_pos (by rfl)];go_simp;go_at_call 95;refine(put_any _ [] n _ (Reads.empty _) (by simp) h0 h1).mono ?_;rintro e' w1 ⟨u,rfl,ho1,hb1⟩;rw[List.nil_append]at ho1
     have hB1:Below w.heap.size w w1:=on (drawn w 1) hb1
     have hW1:=HW.out.grown hB1
     have hc1:=hW1.lies.cell 0 v rfl
     have hz1:=hB1.size
     dsimp only))
 all_goals
  have hp:=hW1.put (by decide) ho2 hg2
  have hq:=Grew.on hB1 hp.2
  go_wp2
  go_end0
  simp only[List.length_append]at hp hq
  exact⟨rfl,_,hp.1,hq⟩
theorem wbytes_any(w:World)(B o:Nat)(v:Value)(l:List UInt8)(hw:Wrt w B o v l)(hlen:l.length≤70368744177664) :
 Calls Tryz.prog 126 #[.pointer (some ⟨o,0,none⟩)] w (Makes w 5 l):=by
 have hc:=hw.lies.cell 0 v rfl
 go_enter Tryz.func126,Tryz.ntmps126
 go_wp2_with fail
 refine(clone_any v l _ hw.owns.reads (by omega)).mono ?_
 rintro e1 w1 ⟨u,rfl,ho,hb⟩
 go_wp2
 go_ret
 exact⟨_,rfl,ho,hb⟩
def Spares(o:Nat)(w w' : World):Prop := ∀(k:Nat) (T:TypeId) (vs:Array Value),k≠o→T≠5→Lies w k T vs→Lies w' k T vs
theorem Spares.refl(o:Nat)(w:World):Spares o w w:=fun _ _ _ _ _ h=>h
theorem Spares.trans{o:Nat}{a b c:World}(h:Spares o a b)(k:Spares o b c):Spares o a c:=fun j T vs h1 h2 h3=>k j T vs h1 h2 (h j T vs h1 h2 h3)
theorem Spares.of_below{o:Nat}{w w' : World}(h:Below w.heap.size w w'):Spares o w w' := fun _ _ _ _ _ hl=>hl.below h hl.lt
theorem Spares.of_grew{o B:Nat}{w w' : World}{v:Value}{l:List UInt8}(hw:Wrt w B o v l)(h:Grew w w' o v):Spares o w w' :=
 fun k _ _ hk hT hl=>(h.block k hl.lt hk (hl.not_row hT hw.owns)).trans hl
theorem FRow.spares{w w' : World}{lo o:Nat}{v:Value}{b:Nat}{fs:List Cm.F}(h:FRow w lo v b fs)(hs:Spares o w w')(ho:o<lo):FRow w' lo v b fs:=by
 rcases h with ⟨rfl,rfl⟩ | ⟨g,h1,rfl,h2⟩
 ·exact .inl ⟨rfl,rfl⟩
 ·exact .inr ⟨g,h1,rfl,hs g _ _ (by omega) (by decide) h2⟩
def PutGot(w:World)(B o:Nat)(m:List UInt8)(e:Ending)(w' : World):Prop:=e = .returned (.tuple #[]) ∧ ∃v', Wrt w' B o v' m∧Spares o w w' ∧ Below B w w'
theorem wtext_spares(s:List UInt8)(w:World)(B o:Nat)(v:Value)(l:List UInt8)(hw:Wrt w B o v l)(hB:B≤w.heap.size)(hlen:l.length≤70368744177664)(hs:s.length≤1048576) :
 Calls Tryz.prog 192 #[.pointer (some ⟨o,0,none⟩), .string ⟨s.toArray⟩] w (PutGot w B o (l++Pk.text s)):=by
 have hsz:=str_size s
 have h9:=enc_nine (n:=s.length) (by omega)
 go_enter Tryz.func192,Tryz.ntmps192
 go_wp2_with fail
 refine(wnum_any (s.length:Int) _ B o v l hw hB (by omega) (by omega) (by omega)).mono ?_
 rintro e1 w1 ⟨rfl,v1,hw1,hg1⟩
 rw[Int.toNat_natCast]at hw1
 have hB1:=hw.below hg1 hB
 have hc1:=hw1.lies.cell 0 v1 rfl
 go_wp2_with (at_builtin;refine append_text rfl _ _ 30 9 5 rfl Tryz.underlying30 Tryz.underlying9 info_u8 B (l++enc s.length) s v1 rfl rfl hw1.owns (by simp;omega) (by have:=hB1.size;omega) ?_;intro v2 w2 ho2 hg2;obtain⟨ao2,cap2,rfl⟩:=ho2.reads.shape;have hl2:=hw1.lies.kept hg2 (hw1.lies.not_row (by decide) hw1.owns);have hc2:=hl2.cell 0 v1 rfl;have hf2:=hl2.free 0)
 have hp:=hw1.put (by decide) ho2 hg2
 have hq:=hB1.trans (hw1.below hp.2 (by have:=hB1.size;omega))
 have hsp:=(Spares.of_grew hw hg1).trans (Spares.of_grew hw1 hp.2)
 go_end0
 simp only[List.length_append,Nat.add_assoc]at hp hq hsp
 exact⟨rfl,_,by unfold Pk.text;rw[← List.append_assoc];exact hp.1,hsp,hq⟩
theorem put_num(b i:Nat)(most x:Int)(w:World)(B o:Nat)(v:Value)(l:List UInt8)(hw:Wrt w B o v l)(hB:B≤w.heap.size)(hlen:l.length≤70368744177664)(hc:w.cell? ⟨b,i,none⟩=some (.int .i64 x))(h0 : -9223372036854775808≤x)(h1:x≤9223372036854775807) :
 Calls Tryz.prog 162 #[.pointer (some ⟨o,0,none⟩), .iface 216 (.agg #[.pointer (some ⟨b,i,none⟩), .int .i64 most])] w (PutGot w B o (l++enc x.toNat)):=by
 have ha:=isNum_yes
 have hno:=isText_no
 have hst:=store_nilFunc
 obtain⟨w1,e1,c0,c1,cb,hB1⟩:=lay_pair w 216 (.pointer (some ⟨b,i,none⟩)) (.int .i64 most) b i _ hc
 have HB1:=Lib.hid hB1
 have HW1:=Lib.hid (hw.grown hB1)
 clear hB1 hw hc
 go_enter Tryz.func162,Tryz.ntmps162
 go_wp2_with fail
 refine(wnum_any x _ B o v l HW1.out (Nat.le_trans hB HB1.out.size) (by omega) h0 h1).mono ?_
 rintro e2 w2 ⟨rfl,v2,hw2,hg2⟩
 have hs2:=(Spares.of_below HB1.out).trans (Spares.of_grew HW1.out hg2)
 have hb2:=(HB1.out.mono hB).trans (HW1.out.below hg2 (Nat.le_trans hB HB1.out.size))
 go_wp2
 go_end0
 have ha2:=(Below.refl _ w2).alloc (Nat.le_refl _) (.cells #[.pointer none, .nilFunc] 221)
 exact⟨rfl,v2,hw2.grown ha2,hs2.trans (Spares.of_below ha2),hb2.trans (ha2.mono (Nat.le_trans hB hb2.size))⟩
theorem put_text(b i fn:Nat)(s:List UInt8)(w:World)(B o:Nat)(v:Value)(l:List UInt8)(hw:Wrt w B o v l)(hB:B≤w.heap.size)(hlen:l.length≤70368744177664)(hc:w.cell? ⟨b,i,none⟩=some (.string ⟨s.toArray⟩))(hs:s.length≤1048576) :
 Calls Tryz.prog 162 #[.pointer (some ⟨o,0,none⟩), .iface 221 (.agg #[.pointer (some ⟨b,i,none⟩), .func (.func fn) #[] #[]])] w (PutGot w B o (l++Pk.text s)):=by
 have ha:=isNum_no
 have hno:=isText_yes
 have hst:=store_func
 obtain⟨w1,e1,c0,c1,cb,hB1⟩:=lay_pair2 w (.cells #[.pointer none, .int .i64 0] 216) 221 (.pointer (some ⟨b,i,none⟩)) (.func (.func fn) #[] #[]) b i _ hc
 have HB1:=Lib.hid hB1
 have HW1:=Lib.hid (hw.grown hB1)
 clear hB1 hw hc
 go_enter Tryz.func162,Tryz.ntmps162
 go_wp2_with fail
 refine(wtext_spares s _ B o v l HW1.out (Nat.le_trans hB HB1.out.size) hlen hs).mono ?_
 rintro e2 w2 ⟨rfl,v2,hw2,hs2,hb2⟩
 go_wp2
 go_end0
 exact⟨rfl,v2,hw2,(Spares.of_below HB1.out).trans hs2,(HB1.out.mono hB).trans hb2⟩
theorem fput_any(b:Nat)(c:Cm.Cmd)(f:Cm.F)(w:World)(B o:Nat)(v:Value)(l:List UInt8)(hw:Wrt w B o v l)(hB:B≤w.heap.size)(hlen:l.length≤70368744177664)(hl:Cmds w b c)(hf:c.Fits)(hs:c.Short 1048576) :
 Calls Tryz.prog 162 #[.pointer (some ⟨o,0,none⟩),Cm.fv b f] w (PutGot w B o (l++Cm.fenc c f)):=by
 cases h:f.num with
 | true =>
  rw[show Cm.fv b f=_ from if_pos h,show Cm.fenc c f=enc (c.n f).toNat from if_pos h]
  exact put_num b f.at f.most (c.n f) w B o v l hw hB hlen (hl.cell _ _ (Cm.cells_num c f h)) (hf.n f).1 (hf.n f).2
 | false =>
  rw[show Cm.fv b f=_ from if_neg (by simp[h]),show Cm.fenc c f=Pk.text (c.s f)from if_neg (by simp[h])]
  exact put_text b f.at _ (c.s f) w B o v l hw hB hlen (hl.cell _ _ (Cm.cells_str c f h)) (hs.s f)
theorem rnumber_any(w:World)(B o:Nat)(v:Value)(b:List UInt8)(p:Nat)(er x:Int)(q:Nat)(e:Int)(hr:Rdr w B o v b p er)(hx:e≠0→x=0)(h:Hid (Cm.rnum b p er=(x,(q:Int),e))) :
 Calls Tryz.prog 113 #[.pointer (some ⟨o,0,none⟩), .int .i64 9223372036854775807] w (Gave w B o v b q e (.int .i64 x)):=by
 by_cases h0:er=0
 ·subst h0
  exact rnum_is 9223372036854775807 w B o v b p x q e hr hx h.out
 ·have h1:=h.out
  unfold Cm.rnum at h1
  rw[if_neg h0]at h1
  simp only[Prod.mk.injEq]at h1
  obtain⟨rfl,h2,rfl⟩:=h1
  obtain rfl:p=q:=by omega
  exact rnum_err _ er w B o v b p hr h0
theorem rtextual_any(w:World)(B o:Nat)(v:Value)(b:List UInt8)(p:Nat)(er:Int)(x:List UInt8)(q:Nat)(e:Int)(hr:Rdr w B o v b p er)(hx:e≠0→x = [])(h:Hid (Cm.rtxt b p er=(x,(q:Int),e))) :
 Calls Tryz.prog 219 #[.pointer (some ⟨o,0,none⟩), .int .i64 9223372036854775807] w (Gave w B o v b q e (.string ⟨x.toArray⟩)):=by
 by_cases h0:er=0
 ·subst h0
  exact rtext_is 9223372036854775807 w B o v b p x q e hr hx h.out
 ·have h1:=h.out
  unfold Cm.rtxt at h1
  rw[if_neg h0]at h1
  simp only[Prod.mk.injEq]at h1
  obtain⟨rfl,h2,rfl⟩:=h1
  obtain rfl:p=q:=by omega
  exact rtext_err _ er w B o v b p hr h0
def Saves(o b:Nat)(w w' : World):Prop := ∀(k:Nat) (T:TypeId) (vs:Array Value),k≠o→k≠b→Lies w k T vs→Lies w' k T vs
theorem Saves.refl(o b:Nat)(w:World):Saves o b w w:=fun _ _ _ _ _ h=>h
theorem Saves.trans{o b:Nat}{x y z:World}(h:Saves o b x y)(k:Saves o b y z):Saves o b x z:=fun j T vs h1 h2 h3=>k j T vs h1 h2 (h j T vs h1 h2 h3)
theorem Saves.of_below{o b:Nat}{w w' : World}(h:Below w.heap.size w w'):Saves o b w w' := fun _ _ _ _ _ hl=>hl.below h hl.lt
theorem Saves.of_grown{o b:Nat}{w w' : World}(h:w.grownBy w' (some o)):Saves o b w w' := fun _ _ _ h1 _ hl=>hl.kept h (by intro e;cases e;exact h1 rfl)
theorem Saves.of_grown2{o b:Nat}{w w' : World}(h:w.grownBy w' (some b)):Saves o b w w' := fun _ _ _ _ h2 hl=>hl.kept h (by intro e;cases e;exact h2 rfl)
theorem FRow.saves{w w' : World}{lo o b:Nat}{v:Value}{fs:List Cm.F}(h:FRow w lo v b fs)(hs:Saves o b w w')(ho:o<lo)(hb:b<lo):FRow w' lo v b fs:=by
 rcases h with ⟨rfl,rfl⟩ | ⟨g,h1,rfl,h2⟩
 ·exact .inl ⟨rfl,rfl⟩
 ·exact .inr ⟨g,h1,rfl,hs g _ _ (by omega) (by omega) h2⟩
def GetGot(w:World)(B o b:Nat)(v:Value)(by' : List UInt8)(vs:Array Value)(q:Nat)(er:Int)(e:Ending)(w' : World):Prop :=
 e = .returned (.tuple #[])∧Lies w' b 40 vs∧Rdr w' B o v by' q er∧Saves o b w w' ∧ Below B w w'
theorem Rdr.beside' {w w' : World}{B o j:Nat}{v:Value}{b:List UInt8}{p:Nat}{er:Int}(h:Rdr w B o v b p er)(hg:w.grownBy w' (some j))(hj:j≠o)(hv:v.ownBlock≠some j):Rdr w' B o v b p er :=
 ⟨h.base,h.lies.kept hg (by simp;omega),h.owns.grown hg (.inr hv),h.inn,h.small⟩
theorem got_end{w w1 w2:World}{B o b:Nat}{v:Value}{s:List UInt8}{q:Nat}{e:Int}{vs:Array Value}(i:Nat)(x:Value)(hb1:Below w.heap.size w w1)(hB:B≤b)(hlb:b<w.heap.size)(hbo:b≠o)(hg:w1.drew.grownBy w2 (some o))(hl:Lies w2 b 40 vs)(hr:Rdr w2 B o v s q e) :
 Lies (w2.setCell ⟨b,i,none⟩ x) b 40 (vs.setIfInBounds i x)∧Rdr (w2.setCell ⟨b,i,none⟩ x) B o v s q e∧Saves o b w (w2.setCell ⟨b,i,none⟩ x)∧Below B w (w2.setCell ⟨b,i,none⟩ x):=by
 refine⟨hl.set i x,hr.beside' (grown_set w2 b i x) hbo (fun h=>hl.not_row (by decide) hr.owns h.symm), ?_, ?_⟩
 ·exact(Saves.of_below hb1.drew).trans ((Saves.of_grown hg).trans (Saves.of_grown2 (grown_set w2 b i x)))
 ·have h1:=hb1.size
  have h2:Below B w w1.drew:=(hb1.mono (by omega)).drew
  have h3:=h2.grown hg (Nat.le_trans (by omega) h2.size) (by rintro k hk;cases hk;exact hr.base)
  exact h3.grown (grown_set w2 b i x) (Nat.le_trans (by omega) h3.size) (by rintro k hk;cases hk;exact hB)
theorem get_num(b i:Nat)(most z x:Int)(vs:Array Value)(w:World)(B o:Nat)(v:Value)(s:List UInt8)(p q:Nat)(er e:Int)(hr:Rdr w B o v s p er)(hl:Lies w b 40 vs)(hv:vs[i]? = some (.int .i64 z))(hbo:b≠o)(hB:B≤b)
 (hx:e≠0→x=0) (h:Hid (Cm.rnum s p er=(x,(q:Int),e))) :
 Calls Tryz.prog 202 #[.pointer (some ⟨o,0,none⟩), .iface 216 (.agg #[.pointer (some ⟨b,i,none⟩), .int .i64 most])] w (GetGot w B o b v s (vs.setIfInBounds i (.int .i64 x)) q e):=by
 have ha:=isNum_yes
 have hno:=isText_no
 have hst:=store_nilFunc
 obtain⟨w1,e1,c0,c1,cb,hB1⟩:=lay_pair w 216 (.pointer (some ⟨b,i,none⟩)) (.int .i64 most) b i _ (hl.cell i _ hv)
 have hlo:=hr.lies.lt
 have hlb:=hl.lt
 have HB1:=Lib.hid hB1
 have HR1:=Lib.hid (hr.kept hB1)
 have HL1:=Lib.hid (hl.below hB1 hl.lt)
 have HV:=Lib.hid hv
 clear hB1 hr hl hv
 go_enter Tryz.func202,Tryz.ntmps202
 go_wp2
 have hso:some w.heap.size≠some o:=by simp;omega
 have hsb:some w.heap.size≠some b:=by simp;omega
 have hs1:w.heap.size<w1.heap.size:=World.block_lt_of_cell? w1 _ c0
 go_region_held3 (fun w' => w'.cell? ⟨w.heap.size,0,none⟩=some (.pointer (some ⟨b,i,none⟩))) (first | go_keep | exact c2 | exact c3) (first
  | (go_at_call 113;refine(rnumber_any _ B o v s p er x q e (HR1.out.kept (Below.refl _ _).drew) hx h).mono ?_;rintro e2 w2 ⟨rfl,hr2,hg2⟩
     have hl2:=(HL1.out.below (Below.refl _ _).drew HL1.out.lt).kept hg2 (by intro e;cases e;exact hbo rfl)
     have cb2:=hl2.cell i _ HV.out
     have cf2:=hl2.free i
     have c2:w2.cell? ⟨w.heap.size,0,none⟩=some (.pointer (some ⟨b,i,none⟩)):=by rw[← c0];exact World.cell?_of_block (hg2.block w.heap.size hs1 hso)
     have c3:(w2.setCell ⟨b,i,none⟩ (.int .i64 x)).cell? ⟨w.heap.size,0,none⟩=some (.pointer (some ⟨b,i,none⟩)):=by rw[← c2];exact World.cell?_of_block ((grown_set w2 b i _).block w.heap.size (Nat.lt_of_lt_of_le hs1 hg2.size) hsb)))
 all_goals
  obtain⟨hl3,hr3,hs3,hb3⟩:=got_end i (.int .i64 x) HB1.out hB hlb hbo hg2 hl2 hr2
  generalize w2.setCell ⟨b,i,none⟩ (.int .i64 x)=w3 at hl3 hr3 hs3 hb3 ⊢
  clear hl2 hr2 hg2 c3 c2 cb2 cf2
  go_wp2
  go_end0
  have ha2:=(Below.refl _ w3).alloc (Nat.le_refl _) (.cells #[.pointer none, .nilFunc] 221)
  exact⟨rfl,hl3.below ha2 hl3.lt,hr3.kept ha2,hs3.trans (Saves.of_below ha2),hb3.trans (ha2.mono (Nat.le_trans (by omega) hb3.size))⟩
theorem get_text(b i fn:Nat)(z:ByteArray)(x:List UInt8)(vs:Array Value)(w:World)(B o:Nat)(v:Value)(s:List UInt8)(p q:Nat)(er e:Int)(hr:Rdr w B o v s p er)(hl:Lies w b 40 vs)(hv:vs[i]? = some (.string z))(hbo:b≠o)(hB:B≤b)
 (hx:e≠0→x = []) (h:Hid (Cm.rtxt s p er=(x,(q:Int),e))) :
 Calls Tryz.prog 202 #[.pointer (some ⟨o,0,none⟩), .iface 221 (.agg #[.pointer (some ⟨b,i,none⟩), .func (.func fn) #[] #[]])] w (GetGot w B o b v s (vs.setIfInBounds i (.string ⟨x.toArray⟩)) q e):=by
 have ha:=isNum_no
 have hno:=isText_yes
 have hst:=store_func
 obtain⟨w1,e1,c0,c1,cb,hB1⟩:=lay_pair2 w (.cells #[.pointer none, .int .i64 0] 216) 221 (.pointer (some ⟨b,i,none⟩)) (.func (.func fn) #[] #[]) b i _ (hl.cell i _ hv)
 have hlo:=hr.lies.lt
 have hlb:=hl.lt
 have HB1:=Lib.hid hB1
 have HR1:=Lib.hid (hr.kept hB1)
 have HL1:=Lib.hid (hl.below hB1 hl.lt)
 have HV:=Lib.hid hv
 clear hB1 hr hl hv
 go_enter Tryz.func202,Tryz.ntmps202
 go_wp2
 have hso:some (w.heap.size+1)≠some o:=by simp;omega
 have hsb:some (w.heap.size+1)≠some b:=by simp;omega
 have hs1:w.heap.size+1<w1.heap.size:=World.block_lt_of_cell? w1 _ c0
 go_region_held3 (fun w' => w'.cell? ⟨w.heap.size+1,0,none⟩=some (.pointer (some ⟨b,i,none⟩))) (first | go_keep | exact c2 | exact c3) (first
  | (go_at_call 219;refine(rtextual_any _ B o v s p er x q e (HR1.out.kept (Below.refl _ _).drew) hx h).mono ?_;rintro e2 w2 ⟨rfl,hr2,hg2⟩
     have hl2:=(HL1.out.below (Below.refl _ _).drew HL1.out.lt).kept hg2 (by intro e;cases e;exact hbo rfl)
     have cb2:=hl2.cell i _ HV.out
     have cf2:=hl2.free i
     have c2:w2.cell? ⟨w.heap.size+1,0,none⟩=some (.pointer (some ⟨b,i,none⟩)):=by rw[← c0];exact World.cell?_of_block (hg2.block (w.heap.size+1) hs1 hso)
     have c3:(w2.setCell ⟨b,i,none⟩ (.string ⟨x.toArray⟩)).cell? ⟨w.heap.size+1,0,none⟩=some (.pointer (some ⟨b,i,none⟩)):=by rw[← c2];exact World.cell?_of_block ((grown_set w2 b i _).block (w.heap.size+1) (Nat.lt_of_lt_of_le hs1 hg2.size) hsb)))
 all_goals
  obtain⟨hl3,hr3,hs3,hb3⟩:=got_end i (.string ⟨x.toArray⟩) HB1.out hB hlb hbo hg2 hl2 hr2
  generalize w2.setCell ⟨b,i,none⟩ (.string ⟨x.toArray⟩)=w3 at hl3 hr3 hs3 hb3 ⊢
  clear hl2 hr2 hg2 c3 c2 cb2 cf2
  go_wp2
  go_end0
  exact⟨rfl,hl3,hr3,hs3,hb3⟩
theorem Cm.rnum_res(b:List UInt8)(p:Nat)(er:Int) : ∃(n:Int) (q:Nat) (e:Int),Cm.rnum b p er=(n,(q:Int),e)∧(e≠0→n=0)∧0≤n∧n≤9223372036854775807:=by
 rcases Cm.rnum_cases b p er with ⟨e,he,hn⟩ | ⟨n,q,_,_,_,hb,hn,_⟩
 ·exact⟨_,_,_,hn,fun _=>rfl,by omega,by omega⟩
 ·exact⟨_,_,_,hn,fun h=>absurd rfl h,by omega,by omega⟩
theorem Cm.rtxt_res(b:List UInt8)(p:Nat)(er:Int)(hp:p≤b.length) : ∃(x:List UInt8) (q:Nat) (e:Int),Cm.rtxt b p er=(x,(q:Int),e)∧(e≠0→x = [])∧x.length≤b.length:=by
 rcases Cm.rtxt_cases b p er hp with ⟨e,q,he,hq,hn⟩ | ⟨s,q,_,_,_,hl,hn,_⟩
 ·exact⟨_,_,_,hn,fun _=>rfl,by simp⟩
 ·exact⟨_,_,_,hn,fun h=>absurd rfl h,hl⟩
def FGot(w:World)(B o b:Nat)(v:Value)(s:List UInt8)(t:Cm.Cmd × Nat × Int)(e:Ending)(w' : World):Prop :=
 e = .returned (.tuple #[])∧Cmds w' b t.1∧Rdr w' B o v s t.2.1 t.2.2∧Saves o b w w' ∧ Below B w w'
theorem fget_any(b:Nat)(t:Cm.Cmd × Nat × Int)(f:Cm.F)(w:World)(B o:Nat)(v:Value)(s:List UInt8)(hr:Rdr w B o v s t.2.1 t.2.2)(hl:Cmds w b t.1)(hbo:b≠o)(hB:B≤b) :
 Calls Tryz.prog 202 #[.pointer (some ⟨o,0,none⟩),Cm.fv b f] w (FGot w B o b v s (Cm.gstep s t f)):=by
 obtain⟨c,p,er⟩:=t
 dsimp only at hr hl
 have hp:=hr.inn
 cases h:f.num with
 | true =>
  obtain⟨n,q,e,hq,hx,_,_⟩:=Cm.rnum_res s p er
  have hg:Cm.gstep s (c,p,er) f=(c.setN n f,q,e):=by unfold Cm.gstep;rw[if_pos h];simp only;rw[hq];simp
  rw[hg,show Cm.fv b f=_ from if_pos h]
  refine(get_num b f.at f.most (c.n f) n (Cm.cells c) w B o v s p q er e hr hl (Cm.cells_num c f h) hbo hB hx hq).mono ?_
  rintro e1 w1 ⟨h1,h2,h3,h4,h5⟩
  rw[Cm.cells_setN c f n h]at h2
  exact⟨h1,h2,h3,h4,h5⟩
 | false =>
  obtain⟨x,q,e,hq,hx,_⟩:=Cm.rtxt_res s p er hp
  have hg:Cm.gstep s (c,p,er) f=(c.setS x f,q,e):=by unfold Cm.gstep;rw[if_neg (by simp[h])];simp only;rw[hq];simp
  rw[hg,show Cm.fv b f=_ from if_neg (by simp[h])]
  refine(get_text b f.at _ _ x (Cm.cells c) w B o v s p q er e hr hl (Cm.cells_str c f h) hbo hB hx hq).mono ?_
  rintro e1 w1 ⟨h1,h2,h3,h4,h5⟩
  rw[Cm.cells_setS c f x h]at h2
  exact⟨h1,h2,h3,h4,h5⟩
theorem Cmds.all{w:World}{b:Nat}{c:Cm.Cmd}(h:Cmds w b c):w.cell? ⟨b,0,none⟩=some (.int .i64 c.kind)∧w.cell? ⟨b,1,none⟩=some (.int .i64 c.client)∧w.cell? ⟨b,2,none⟩=some (.int .i64 c.seq)∧w.cell? ⟨b,3,none⟩=some (.string ⟨c.key.toArray⟩) ∧
 w.cell? ⟨b,4,none⟩=some (.string ⟨c.val.toArray⟩)∧w.cell? ⟨b,5,none⟩=some (.string ⟨c.old.toArray⟩)∧w.cell? ⟨b,6,none⟩=some (.int .i64 c.node) :=
 ⟨h.cell 0 _ rfl,h.cell 1 _ rfl,h.cell 2 _ rfl,h.cell 3 _ rfl,h.cell 4 _ rfl,h.cell 5 _ rfl,h.cell 6 _ rfl⟩
theorem Wr.fresh(T E:TypeId)(w:World)(B:Nat)(hB:B≤w.heap.size):Wr T E (w.alloc (.cells #[.slice none 0 0] T)) B w.heap.size (.slice none 0 0) [] :=
 ⟨hB,Lies.new _ _ _,Owns.empty _ _ _⟩
theorem Cm.fenc_len(c:Cm.Cmd)(hf:c.Fits)(hs:c.Short 1000)(f:Cm.F):(Cm.fenc c f).length≤1009:=by
 unfold Cm.fenc
 split
 ·have:=(hf.n f).2
  have:=enc_nine (n:=(c.n f).toNat) (by omega)
  omega
 ·have:=hs.s f
  have h9:=enc_nine (n:=(c.s f).length) (by omega)
  simp[Pk.text];omega
theorem Cm.flat_len(c:Cm.Cmd)(hf:c.Fits)(hs:c.Short 1000) : ∀fs:List Cm.F,(fs.flatMap (Cm.fenc c)).length≤1009*fs.length:=by
 intro fs
 induction fs with
 | nil=>simp
 | cons f fs ih=>rw[List.flatMap_cons,List.length_append,List.length_cons];have:=Cm.fenc_len c hf hs f;omega
theorem run_command(w:World)(g:Nat)(c:Cm.Cmd)(h:Cmds w g c):(loadVar 40 ⟨g,0,none⟩).run Tryz.prog w = .ok (.agg (Cm.cells c)) w :=
 run_loadVar_row w g _ _ (Cm.cells c) (0,0) _ h Tryz.underlying40 rfl (by kernel_rfl)
theorem ret_cmd1{fn:Func}{R:Ending→World→Prop}{a:Act}{w:World}{p:Tmp}{g:Nat}{c:Cm.Cmd}(h:fn.results = #[.cell p 40])(hp:a.tmps.getD p undef = .pointer (some ⟨g,0,none⟩))
 (hl:Cmds w g c) (hd:a.defers = []) (hR:R (.returned (.agg (Cm.cells c))) w):bodyPost Tryz.prog fn R .ret a w:=by
 refine bodyPost_ret ?_ hd hR
 rw[results_one h,hp]
 simp[asAddr,Result.andThen,run_command w g c hl]
theorem Cm.cells_one(c:Cm.Cmd):(Cm.cells c).all (·.oneCell')=true:=by simp[Cm.cells,Value.oneCell']
theorem Cm.cells_at(c:Cm.Cmd)(j:Nat)(hj:j<7) : ∃v,(Cm.cells c)[j]? = some v:=⟨_,Array.getElem?_eq_getElem (show j<(Cm.cells c).size from hj)⟩
theorem store_cmd{ops:Array Oper}{rest:List Oper}{op:Oper}{a:Act}{w:World}{Q:Exit→Act→World→Prop}(hgd:op.guard=none)(x y:Operand)(ho:op.op = .store 40 x y)
 (g:Nat) (c0 c:Cm.Cmd) (hx:a.eval x = .pointer (some ⟨g,0,none⟩)) (hy:a.eval y = .agg (Cm.cells c)) (hl:Cmds w g c0)
 (h : ∀w', Cmds w' g c→w.grownBy w' (some g)→wpList Tryz.prog ops Q rest (a.put op.dst undef) w'):wpList Tryz.prog ops Q (op :: rest) a w:=by
 have h0 : ∀j,j<7→(w.cell? ⟨g,j,none⟩).isSome=true:=by
  intro j hj
  obtain⟨v,hv⟩:=Cm.cells_at c0 j hj
  rw[hl.cell j v hv];rfl
 have hone:=Cm.cells_one c
 have hL:Cmds (((((((w.setCell ⟨g,0,none⟩ (.int .i64 c.kind)).setCell ⟨g,1,none⟩ (.int .i64 c.client)).setCell ⟨g,2,none⟩ (.int .i64 c.seq)).setCell ⟨g,3,none⟩ (.string ⟨c.key.toArray⟩)).setCell ⟨g,4,none⟩ (.string ⟨c.val.toArray⟩)).setCell ⟨g,5,none⟩ (.string ⟨c.old.toArray⟩)).setCell ⟨g,6,none⟩ (.int .i64 c.node)) g c :=
  ((((((hl.set 0 _).set 1 _).set 2 _).set 3 _).set 4 _).set 5 _).set 6 _
 have hG:w.grownBy (((((((w.setCell ⟨g,0,none⟩ (.int .i64 c.kind)).setCell ⟨g,1,none⟩ (.int .i64 c.client)).setCell ⟨g,2,none⟩ (.int .i64 c.seq)).setCell ⟨g,3,none⟩ (.string ⟨c.key.toArray⟩)).setCell ⟨g,4,none⟩ (.string ⟨c.val.toArray⟩)).setCell ⟨g,5,none⟩ (.string ⟨c.old.toArray⟩)).setCell ⟨g,6,none⟩ (.int .i64 c.node)) (some g) :=
  grown_on (grown_on (grown_on (grown_on (grown_on (grown_on (grown_set w g 0 _) (grown_set _ g 1 _)) (grown_set _ g 2 _)) (grown_set _ g 3 _)) (grown_set _ g 4 _)) (grown_set _ g 5 _)) (grown_set _ g 6 _)
 have hf:=hl.free
 refine wpList_store_mid hgd _ x y ho g 0 (Cm.cells c) hx hy (fun j hj => ?_) (by kernel_rfl) hone (h _ hL hG)
 rw[Nat.zero_add]
 exact⟨h0 j hj,hf j⟩
def CGot(w:World)(B o:Nat)(u:Value)(s:List UInt8)(t:Cm.Cmd × Nat × Int)(e:Ending)(w' : World):Prop :=
 e = .returned (.agg (Cm.cells t.1))∧Rdr w' B o u s t.2.1 t.2.2∧Below B w w'
theorem Cm.bytes_len(v:Int)(c:Cm.Cmd)(hf:c.Fits)(hs:c.Short 1000):(Cm.bytes v c).length≤6000:=by
 have h1:=enc_nine (n:=c.kind.toNat) (by have:=hf.k1;omega)
 have h2:=Cm.flat_len c hf hs (Cm.encoded v c.kind)
 have h3:=Cm.encoded_len v c.kind
 unfold Cm.bytes
 rw[List.length_append]
 omega
theorem Cm.gstep_inv(b:List UInt8)(t:Cm.Cmd × Nat × Int)(f:Cm.F)(hp:t.2.1≤b.length)(hs:t.1.Short b.length)(hf:t.1.Fits):(Cm.gstep b t f).2.1≤b.length∧(Cm.gstep b t f).1.Short b.length∧(Cm.gstep b t f).1.Fits:=by
 obtain⟨c,p,er⟩:=t
 dsimp only at hp hs hf
 unfold Cm.gstep
 cases h:f.num with
 | true =>
  rw[if_pos rfl]
  dsimp only
  rcases Cm.rnum_cases b p er with ⟨e,_,hn⟩ | ⟨n,q,_,_,hq,hb,hn,_⟩
  ·rw[hn];exact⟨by simpa using hp,hs.setN f _,hf.setN f (by omega) (by omega)⟩
  ·rw[hn];exact⟨by simpa using hq,hs.setN f _,hf.setN f (by simp only;omega) (by simp only;omega)⟩
 | false =>
  rw[if_neg (by simp)]
  dsimp only
  rcases Cm.rtxt_cases b p er hp with ⟨e,q,_,hq,hn⟩ | ⟨s,q,_,_,hq,hl,hn,_⟩
  ·rw[hn];exact⟨by simpa using hq,hs.setS f (by simp),hf.setS f _⟩
  ·rw[hn];exact⟨by simpa using hq,hs.setS f hl,hf.setS f _⟩
theorem Cm.fold_inv(b:List UInt8) : ∀(fs:List Cm.F) (t:Cm.Cmd × Nat × Int),t.2.1≤b.length→t.1.Short b.length→t.1.Fits→(fs.foldl (Cm.gstep b) t).2.1≤b.length∧(fs.foldl (Cm.gstep b) t).1.Short b.length∧(fs.foldl (Cm.gstep b) t).1.Fits:=by
 intro fs
 induction fs with
 | nil=>intro t h1 h2 h3;exact⟨h1,h2,h3⟩
 | cons f fs ih =>
  intro t h1 h2 h3
  obtain⟨h4,h5,h6⟩:=Cm.gstep_inv b t f h1 h2 h3
  exact ih _ h4 h5 h6
theorem Cm.get_inv(v:Int)(b:List UInt8):(Cm.get v b 0 0).2.1≤b.length∧(Cm.get v b 0 0).1.Short b.length∧(Cm.get v b 0 0).1.Fits:=by
 unfold Cm.get
 have hS : ∀n,(Cm.bareOf n).Short b.length:=fun n=>⟨by simp[Cm.bareOf],by simp[Cm.bareOf],by simp[Cm.bareOf]⟩
 rcases Cm.rnum_cases b 0 0 with ⟨e,_,hn⟩ | ⟨n,q,_,_,hq,hb,hn,_⟩
 ·rw[hn]
  exact Cm.fold_inv b _ _ (by simp) (hS _) (by constructor<;>simp[Cm.bareOf])
 ·rw[hn]
  exact Cm.fold_inv b _ _ (by simpa using hq) (hS _) (by constructor<;>simp[Cm.bareOf]<;>omega)
end Go.Proofs.YtdkdjofnnnljjaaGreatDoor
