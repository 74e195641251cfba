/- Several texts of mine in one: GHa MsCame. -/
import Derived.Test.YtdkdjofnnnljjaaGreatDoorHdMath
import Derived.Test.YtdkdjofnnnljjaaGreatDoorPGMp
import Derived.Test.YtdkdjofnnnljjaaGreatDoorGRe
import Derived.Test.YtdkdjofnnnljjaaGreatDoorPGBm
import Derived.Lib.LaidU8
namespace Go.Proofs.YtdkdjofnnnljjaaGreatDoor
open Go.RowKit
set_option maxHeartbeats 3200000
set_option maxRecDepth 4000
section
def Hd.cells(h:Hd.Hard)(vi va vc:Value):Array Value := #[.int .i64 h.prom.round, .int .i64 h.prom.node, .int .i64 h.base,vi,va,vc]
abbrev Hards(w:World)(g:Nat)(h:Hd.Hard)(vi va vc:Value):Prop:=Lies w g 33 (Hd.cells h vi va vc)
structure HardR(w:World)(h:Hd.Hard)(vi va vc:Value):Prop where
 img:Reads w vi h.img
 acc:ReadsE w va h.acc
 chs:ReadsE w vc h.chs
theorem HardR.below{w w' : World}{h:Hd.Hard}{vi va vc:Value}(r:HardR w h vi va vc)(hb:Below w.heap.size w w'):HardR w' h vi va vc:=⟨r.img.below hb,r.acc.below hb,r.chs.below hb⟩
def InP(q:Nat→Prop)(v:Value):Prop := ∀(x:Addr) (n c:Nat),v = .slice (some x) n c→0<n→q x.block
theorem InP.imp{q q' : Nat→Prop}{v:Value}(h:InP q v)(hq : ∀b,q b→q' b):InP q' v:=fun x n c e h0=>hq _ (h x n c e h0)
theorem InP.bare(q:Nat→Prop)(n c:Nat):InP q (.slice none n c):=fun x n c e=>by cases e
theorem InP.of_row{w:World}{base:Nat}{E:TypeId}{k n:Nat}{v:Value}{us:List Value}(h:w.ownsRow base E k v n us):InP (fun b=>base≤b) v:=by
 rcases h.2 with ⟨rfl,_⟩ | ⟨g,cap,cur,rfl,hb,_⟩
 ·exact InP.bare _ _ _
 ·intro x n c e _
  cases e
  exact hb
theorem ReadsP.inP{q:Nat→Prop}{w:World}{v:Value}{l:List UInt8}(h:ReadsP (fun b _=>q b) w v l):InP q v:=by
 intro x n c e h0
 subst e
 obtain⟨ao,cap,e2,_⟩:=h.1
 cases e2
 obtain⟨y,m,d,_,_,_,e3,_,hq⟩:=h.2 h0
 cases e3
 exact hq
theorem Reads.inP{q:Nat→Prop}{w:World}{v:Value}{l:List UInt8}(h:Reads w v l)(hq:InP q v):ReadsP (fun b _=>q b) w v l:=by
 refine⟨h,fun h0 => ?_⟩
 obtain⟨ao,cap,rfl⟩:=h.shape
 obtain⟨b,off,rfl,hc⟩:=h.place h0
 obtain⟨cs,t,fr,hb⟩:=block_of_cell (hc 0 _ (List.getElem?_eq_getElem h0))
 exact⟨_,_,_,cs,t,fr,rfl,hb,hq _ _ _ rfl h0⟩
structure ReadsQ(q:Nat→Prop)(w:World)(v:Value)(l:List UInt8):Prop where
 rd:Reads w v l
 pi:InP q v
theorem ReadsQ.below{q:Nat→Prop}{w w' : World}{v:Value}{l:List UInt8}(h:ReadsQ q w v l)(hb:Below w.heap.size w w'):ReadsQ q w' v l:=⟨h.rd.below hb,h.pi⟩
structure HardQ(q:Nat→Prop)(w:World)(h:Hd.Hard)(vi va vc:Value):Prop where
 rows:HardR w h vi va vc
 pi:InP q vi
 pa:InP q va
 pc:InP q vc
section
variable {q q' : Nat → Prop} {w w' : World} {h : Hd.Hard} {vi va vc : Value}
theorem HardQ.img(r:HardQ q w h vi va vc):Reads w vi h.img:=r.rows.img
theorem HardQ.acc(r:HardQ q w h vi va vc):ReadsE w va h.acc:=r.rows.acc
theorem HardQ.chs(r:HardQ q w h vi va vc):ReadsE w vc h.chs:=r.rows.chs
theorem HardQ.below(r:HardQ q w h vi va vc)(hb:Below w.heap.size w w'):HardQ q w' h vi va vc:=⟨r.rows.below hb,r.pi,r.pa,r.pc⟩
theorem HardQ.imp(r:HardQ q w h vi va vc)(hq : ∀b,q b→q' b):HardQ q' w h vi va vc:=⟨r.rows,r.pi.imp hq,r.pa.imp hq,r.pc.imp hq⟩
end
theorem box_hard(w:World)(h:Hd.Hard)(vi va vc:Value) : ∃w1,w.alloc (.cells (Hd.cells h vi va vc) 33)=w1∧Hards w1 w.heap.size h vi va vc∧Below w.heap.size w w1∧w1.heap.size=w.heap.size+1 :=
 ⟨_,rfl,Lies.new w _ _,(Below.refl _ w).alloc (Nat.le_refl _) _,by simp⟩
theorem box_hards(w:World)(h:Hd.Hard)(vi va vc:Value)(k:Hd.Hard)(ui ua uc:Value) : ∃w1,(w.alloc (.cells (Hd.cells h vi va vc) 33)).alloc (.cells (Hd.cells k ui ua uc) 33)=w1∧Hards w1 w.heap.size h vi va vc∧Hards w1 (w.heap.size+1) k ui ua uc∧Below w.heap.size w w1:=by
 obtain⟨w1,e1,h1,b1,s1⟩:=box_hard w h vi va vc
 obtain⟨w2,e2,h2,b2,s2⟩:=box_hard w1 k ui ua uc
 rw[s1]at h2
 exact⟨w2,by rw[e1,e2],h1.below b2 (by omega),h2,b1.trans (b2.mono b1.size)⟩
theorem sameH_any(h k:Hd.Hard)(vi va vc ui ua uc:Value)(w:World)(hr:HardR w h vi va vc)(kr:HardR w k ui ua uc) :
 Calls Tryz.prog 21 #[.agg (Hd.cells h vi va vc), .agg (Hd.cells k ui ua uc)] w (Looks w (.bool (decide (h=k)))):=by
 obtain⟨w1,e1,hl1,hl2,hB1⟩:=box_hards w h vi va vc k ui ua uc
 have c0:w1.cell? ⟨w.heap.size,0,none⟩=some (.int .i64 h.prom.round):=hl1.cell 0 _ rfl
 have c1:w1.cell? ⟨w.heap.size,1,none⟩=some (.int .i64 h.prom.node):=hl1.cell 1 _ rfl
 have c2:w1.cell? ⟨w.heap.size,2,none⟩=some (.int .i64 h.base):=hl1.cell 2 _ rfl
 have c3:w1.cell? ⟨w.heap.size,3,none⟩=some (vi):=hl1.cell 3 _ rfl
 have c4:w1.cell? ⟨w.heap.size,4,none⟩=some (va):=hl1.cell 4 _ rfl
 have c5:w1.cell? ⟨w.heap.size,5,none⟩=some (vc):=hl1.cell 5 _ rfl
 have d0:w1.cell? ⟨w.heap.size+1,0,none⟩=some (.int .i64 k.prom.round):=hl2.cell 0 _ rfl
 have d1:w1.cell? ⟨w.heap.size+1,1,none⟩=some (.int .i64 k.prom.node):=hl2.cell 1 _ rfl
 have d2:w1.cell? ⟨w.heap.size+1,2,none⟩=some (.int .i64 k.base):=hl2.cell 2 _ rfl
 have d3:w1.cell? ⟨w.heap.size+1,3,none⟩=some (ui):=hl2.cell 3 _ rfl
 have d4:w1.cell? ⟨w.heap.size+1,4,none⟩=some (ua):=hl2.cell 4 _ rfl
 have d5:w1.cell? ⟨w.heap.size+1,5,none⟩=some (uc):=hl2.cell 5 _ rfl
 have hgd:=guard_bal
 have heq:=fun W=>run_eql_bal W h.prom k.prom
 obtain⟨t,ht⟩ : ∃t,t=decide (h.prom=k.prom):=⟨_,rfl⟩
 rw[← ht]at heq
 obtain⟨r,hb⟩ : ∃r,(h.base == k.base)=r:=⟨_,rfl⟩
 obtain⟨q,hq⟩ : ∃q,(h.img == k.img)=q:=⟨_,rfl⟩
 obtain⟨s,hs⟩ : ∃s,decide (h.acc=k.acc)=s:=⟨_,rfl⟩
 obtain⟨u,hu⟩ : ∃u,decide (h.chs=k.chs)=u:=⟨_,rfl⟩
 have HM:Hid (decide (h=k)=(t && (r && (q && (s && u))))):=by
  show _=_
  rw[ht, ← hb, ← hq, ← hs, ← hu]
  obtain⟨p1,b1,i1,a1,x1⟩:=h
  obtain⟨p2,b2,i2,a2,x2⟩:=k
  rw[Bool.eq_iff_iff]
  simp
 have HL1:=Lib.hid hl1;have HL2:=Lib.hid hl2
 have HR:=Lib.hid (hr.below hB1);have KR:=Lib.hid (kr.below hB1);have HB:=Lib.hid hB1
 have HQ:=Lib.hid hq;have HS:=Lib.hid hs;have HU:=Lib.hid hu
 clear ht hq hs hu hl1 hl2 hB1 hr kr
 dsimp only [Bl.cells]at heq
 go_enter Tryz.func21,Tryz.ntmps21
 cases t with
 | false =>
  go_wp2
  go_ret
  exact⟨by rw[HM.out];rfl,HB.out⟩
 | true =>
  cases r with
  | false =>
   go_wp2
   go_ret
   exact⟨by rw[HM.out];rfl,HB.out⟩
  | true =>
   go_wp2_with fail
   refine(same_any _ _ h.img k.img _ HR.out.img KR.out.img).mono ?_
   rintro e w2 ⟨rfl,n2,rfl⟩
   rw[HQ.out]
   have HB2:Hid (Below w1.heap.size w1 (w1.drewN n2)):=drawn w1 n2
   obtain⟨w2,hw2⟩ : ∃w2,w2=w1.drewN n2:=⟨_,rfl⟩
   rw[← hw2]at HB2 ⊢
   clear hw2
   cases q with
   | false =>
    go_wp2
    go_ret
    exact⟨by rw[HM.out];rfl,HB.out.trans (HB2.out.mono HB.out.size)⟩
   | true =>
    have m4:w2.cell? ⟨w.heap.size,4,none⟩=some va:=(HL1.out.below HB2.out HL1.out.lt).cell 4 _ rfl
    have n4:w2.cell? ⟨w.heap.size+1,4,none⟩=some ua:=(HL2.out.below HB2.out HL2.out.lt).cell 4 _ rfl
    go_wp2_with fail
    refine(sameE_any _ _ h.acc k.acc _ (HR.out.acc.below HB2.out) (KR.out.acc.below HB2.out)).mono ?_
    rintro e w3 ⟨rfl,hb3⟩
    rw[HS.out]
    have HB3:=Lib.hid (HB2.out.trans (hb3.mono HB2.out.size))
    clear hb3
    cases s with
    | false =>
     go_wp2
     go_ret
     exact⟨by rw[HM.out];rfl,HB.out.trans (HB3.out.mono HB.out.size)⟩
    | true =>
     have m5:w3.cell? ⟨w.heap.size,5,none⟩=some vc:=(HL1.out.below HB3.out HL1.out.lt).cell 5 _ rfl
     have n5:w3.cell? ⟨w.heap.size+1,5,none⟩=some uc:=(HL2.out.below HB3.out HL2.out.lt).cell 5 _ rfl
     go_wp2_with fail
     refine(sameE_any _ _ h.chs k.chs _ (HR.out.chs.below HB3.out) (KR.out.chs.below HB3.out)).mono ?_
     rintro e w4 ⟨rfl,hb4⟩
     rw[HU.out]
     have HB4:=Lib.hid (HB3.out.trans (hb4.mono HB3.out.size))
     clear hb4
     go_wp2
     go_ret
     exact⟨by rw[HM.out];rfl,HB.out.trans (HB4.out.mono HB.out.size)⟩
end
section
def Hd.six(p:Bl.Bal)(b:Int)(vi va vc:Value):Array Value := #[.int .i64 p.round, .int .i64 p.node, .int .i64 b,vi,va,vc]
theorem Hd.six_ok(p:Bl.Bal)(b:Int){vi va vc:Value}(h1:vi.oneCell' = true)(h2:va.oneCell' = true)(h3:vc.oneCell' = true):(Hd.six p b vi va vc).toList.all (·.oneCell')=true:=by
 simp[Hd.six,h1,h2,h3]
 exact⟨rfl,rfl,rfl⟩
theorem Hd.six_no8(p:Bl.Bal)(b:Int)(io:Option Addr)(ik ic:Nat)(ao:Option Addr)(ak ac:Nat)(co:Option Addr)(ck cc:Nat)(x:Int) : ∀j:Nat,(Hd.six p b (.slice io ik ic) (.slice ao ak ac) (.slice co ck cc))[j]? ≠ some (.int .u8 x)
 | 0=>by simp[Hd.six]
 | 1=>by simp[Hd.six]
 | 2=>by simp[Hd.six]
 | 3=>by simp[Hd.six]
 | 4=>by simp[Hd.six]
 | 5=>by simp[Hd.six]
 | j+6=>by simp[Hd.six]
theorem Hd.six_nostr(p:Bl.Bal)(b:Int)(io:Option Addr)(ik ic:Nat)(ao:Option Addr)(ak ac:Nat)(co:Option Addr)(ck cc:Nat)(x:ByteArray) : ∀j:Nat,(Hd.six p b (.slice io ik ic) (.slice ao ak ac) (.slice co ck cc))[j]? ≠ some (.string x)
 | 0=>by simp[Hd.six]
 | 1=>by simp[Hd.six]
 | 2=>by simp[Hd.six]
 | 3=>by simp[Hd.six]
 | 4=>by simp[Hd.six]
 | 5=>by simp[Hd.six]
 | j+6=>by simp[Hd.six]
structure SixAt(w:World)(g:Nat)(T:TypeId)(p:Bl.Bal)(b:Int)(vi va vc:Value):Prop where
 lies:Lies w g T (Hd.six p b vi va vc)
 vi : ∃o k c,vi = .slice o k c
 va : ∃o k c,va = .slice o k c
 vc : ∃o k c,vc = .slice o k c
theorem HardR.sl{w:World}{h:Hd.Hard}{vi va vc:Value}(r:HardR w h vi va vc):(∃o k c,vi = .slice o k c)∧(∃o k c,va = .slice o k c)∧(∃o k c,vc = .slice o k c):=by
 obtain⟨io,ic,e1⟩:=r.img.shape
 obtain⟨ao,ac,e2,_⟩:=ReadsE.shape r.acc
 obtain⟨co,cc,e3,_⟩:=ReadsE.shape r.chs
 exact⟨⟨_,_,_,e1⟩,⟨_,_,_,e2⟩,⟨_,_,_,e3⟩⟩
theorem SixAt.of{w W:World}{g:Nat}{T:TypeId}{h:Hd.Hard}{vi va vc:Value}(hl:Lies W g T (Hd.cells h vi va vc))(r:HardR w h vi va vc):SixAt W g T h.prom h.base vi va vc:=⟨hl,r.sl.1,r.sl.2.1,r.sl.2.2⟩
theorem SixAt.no8{w:World}{g:Nat}{T:TypeId}{p:Bl.Bal}{b:Int}{vi va vc:Value}(h:SixAt w g T p b vi va vc)(j:Nat)(x:Int):(Hd.six p b vi va vc)[j]? ≠ some (.int .u8 x):=by
 obtain⟨_,_,_,rfl⟩:=h.vi
 obtain⟨_,_,_,rfl⟩:=h.va
 obtain⟨_,_,_,rfl⟩:=h.vc
 exact Hd.six_no8 _ _ _ _ _ _ _ _ _ _ _ _ _
theorem SixAt.nostr{w:World}{g:Nat}{T:TypeId}{p:Bl.Bal}{b:Int}{vi va vc:Value}(h:SixAt w g T p b vi va vc)(j:Nat)(x:ByteArray):(Hd.six p b vi va vc)[j]? ≠ some (.string x):=by
 obtain⟨_,_,_,rfl⟩:=h.vi
 obtain⟨_,_,_,rfl⟩:=h.va
 obtain⟨_,_,_,rfl⟩:=h.vc
 exact Hd.six_nostr _ _ _ _ _ _ _ _ _ _ _ _ _
theorem SixAt.ok{w:World}{g:Nat}{T:TypeId}{p:Bl.Bal}{b:Int}{vi va vc:Value}(h:SixAt w g T p b vi va vc):vi.oneCell' = true∧va.oneCell' = true∧vc.oneCell' = true:=by
 obtain⟨_,_,_,rfl⟩:=h.vi
 obtain⟨_,_,_,rfl⟩:=h.va
 obtain⟨_,_,_,rfl⟩:=h.vc
 exact⟨rfl,rfl,rfl⟩
theorem SixAt.below{w w' : World}{B g:Nat}{T:TypeId}{p:Bl.Bal}{b:Int}{vi va vc:Value}(h:SixAt w g T p b vi va vc)(hb:Below B w w')(hB:g<B):SixAt w' g T p b vi va vc:=⟨h.lies.below hb hB,h.vi,h.va,h.vc⟩
theorem SixAt.kept{w w' : World}{o:Nat}{g:Nat}{T:TypeId}{p:Bl.Bal}{b:Int}{vi va vc:Value}(h:SixAt w g T p b vi va vc)(hg:w.grownBy w' (some o))(hne:g≠o):SixAt w' g T p b vi va vc:=⟨h.lies.kept hg (by simpa using hne),h.vi,h.va,h.vc⟩
theorem SixAt.all{w:World}{g:Nat}{T:TypeId}{p:Bl.Bal}{b:Int}{vi va vc:Value}(h:SixAt w g T p b vi va vc):w.cell? ⟨g,0,none⟩=some (.int .i64 p.round)∧w.cell? ⟨g,1,none⟩=some (.int .i64 p.node)∧w.cell? ⟨g,2,none⟩=some (.int .i64 b)∧w.cell? ⟨g,3,none⟩=some vi∧w.cell? ⟨g,4,none⟩=some va∧w.cell? ⟨g,5,none⟩=some vc :=
 ⟨h.lies.cell 0 _ rfl,h.lies.cell 1 _ rfl,h.lies.cell 2 _ rfl,h.lies.cell 3 _ rfl,h.lies.cell 4 _ rfl,h.lies.cell 5 _ rfl⟩
theorem HardR.over{w w' : World}{h:Hd.Hard}{ui ua uc:Value}{g:Nat}{T:TypeId}{p:Bl.Bal}{b:Int}{vi va vc:Value}(r:HardR w h ui ua uc)(s:SixAt w g T p b vi va vc)(hg:w.grownBy w' (some g)):HardR w' h ui ua uc :=
 ⟨r.img.kept_of s.lies s.no8 hg,r.acc.kept_of s.lies s.nostr hg,r.chs.kept_of s.lies s.nostr hg⟩
theorem HardQ.over{q:Nat→Prop}{w w' : World}{h:Hd.Hard}{ui ua uc:Value}{g:Nat}{T:TypeId}{p:Bl.Bal}{b:Int}{vi va vc:Value}(r:HardQ q w h ui ua uc)(s:SixAt w g T p b vi va vc)(hg:w.grownBy w' (some g)):HardQ q w' h ui ua uc:=⟨r.rows.over s hg,r.pi,r.pa,r.pc⟩
theorem ReadsQ.kept_of{q:Nat→Prop}{w w' : World}{v:Value}{l:List UInt8}{g:Nat}{T:TypeId}{vs:Array Value}(h:ReadsQ q w v l)(hl:Lies w g T vs)(hno : ∀(j:Nat) (x:Int),vs[j]? ≠ some (.int .u8 x))(hg:w.grownBy w' (some g)):ReadsQ q w' v l:=⟨h.rd.kept_of hl hno hg,h.pi⟩
section
variable {T : TypeId} {ops : Array Oper} {rest : List Oper} {op : Oper} {a : Act} {w : World} {Q : Exit → Act → World → Prop} {g : Nat} {p : Bl.Bal} {b : Int} {vi va vc : Value}
theorem store_prom(hgd:op.guard=none)(x y:Operand)(ho:op.op = .store 29 x y)(q:Bl.Bal)(hx:a.eval x = .pointer (some ⟨g,0,none⟩))(hy:a.eval y = .agg (Bl.cells q))(hl:SixAt w g T p b vi va vc)
 (h : ∀w', SixAt w' g T q b vi va vc→w.grownBy w' (some g)→wpList Tryz.prog ops Q rest (a.put op.dst undef) w'):wpList Tryz.prog ops Q (op :: rest) a w :=
 store_part hgd _ x y ho g 0 T _ (Hd.six q b vi va vc) (.agg (Bl.cells q)) (Bl.cells q).toList hx hy rfl (by kernel_rfl) rfl hl.lies (Nat.le_of_ble_eq_true rfl) rfl fun w' h1 h2=>h w' ⟨h1,hl.vi,hl.va,hl.vc⟩ h2
theorem store_img(hgd:op.guard=none)(x y:Operand)(ho:op.op = .store 30 x y)(uo:Option Addr)(uk uc:Nat)(hx:a.eval x = .pointer (some ⟨g,3,none⟩))(hy:a.eval y = .slice uo uk uc)(hl:SixAt w g T p b vi va vc)
 (h : ∀w', SixAt w' g T p b (.slice uo uk uc) va vc→w.grownBy w' (some g)→wpList Tryz.prog ops Q rest (a.put op.dst undef) w'):wpList Tryz.prog ops Q (op :: rest) a w :=
 store_part hgd _ x y ho g 3 T _ (Hd.six p b (.slice uo uk uc) va vc) (.slice uo uk uc) [.slice uo uk uc] hx hy rfl (by kernel_rfl) rfl hl.lies (Nat.le_of_ble_eq_true rfl) rfl fun w' h1 h2=>h w' ⟨h1,⟨_,_,_,rfl⟩,hl.va,hl.vc⟩ h2
theorem store_acc(hgd:op.guard=none)(x y:Operand)(ho:op.op = .store 31 x y)(uo:Option Addr)(uk uc:Nat)(hx:a.eval x = .pointer (some ⟨g,4,none⟩))(hy:a.eval y = .slice uo uk uc)(hl:SixAt w g T p b vi va vc)
 (h : ∀w', SixAt w' g T p b vi (.slice uo uk uc) vc→w.grownBy w' (some g)→wpList Tryz.prog ops Q rest (a.put op.dst undef) w'):wpList Tryz.prog ops Q (op :: rest) a w :=
 store_part hgd _ x y ho g 4 T _ (Hd.six p b vi (.slice uo uk uc) vc) (.slice uo uk uc) [.slice uo uk uc] hx hy rfl (by kernel_rfl) rfl hl.lies (Nat.le_of_ble_eq_true rfl) rfl fun w' h1 h2=>h w' ⟨h1,hl.vi,⟨_,_,_,rfl⟩,hl.vc⟩ h2
theorem store_chs(hgd:op.guard=none)(x y:Operand)(ho:op.op = .store 31 x y)(uo:Option Addr)(uk uc:Nat)(hx:a.eval x = .pointer (some ⟨g,5,none⟩))(hy:a.eval y = .slice uo uk uc)(hl:SixAt w g T p b vi va vc)
 (h : ∀w', SixAt w' g T p b vi va (.slice uo uk uc)→w.grownBy w' (some g)→wpList Tryz.prog ops Q rest (a.put op.dst undef) w'):wpList Tryz.prog ops Q (op :: rest) a w :=
 store_part hgd _ x y ho g 5 T _ (Hd.six p b vi va (.slice uo uk uc)) (.slice uo uk uc) [.slice uo uk uc] hx hy rfl (by kernel_rfl) rfl hl.lies (Nat.le_of_ble_eq_true rfl) rfl fun w' h1 h2=>h w' ⟨h1,hl.vi,hl.va,⟨_,_,_,rfl⟩⟩ h2
variable {q : Bl.Bal} {c : Int} {ui ua uc : Value}
theorem store_hard(hgd:op.guard=none)(x y:Operand)(ho:op.op = .store 33 x y)(hx:a.eval x = .pointer (some ⟨g,0,none⟩))(hl:SixAt w g T p b vi va vc){w0:World}{g0:Nat}{T0:TypeId}(hu:SixAt w0 g0 T0 q c ui ua uc)(hy:a.eval y = .agg (Hd.six q c ui ua uc))
 (h : ∀w', SixAt w' g T q c ui ua uc→w.grownBy w' (some g)→wpList Tryz.prog ops Q rest (a.put op.dst undef) w'):wpList Tryz.prog ops Q (op :: rest) a w :=
 store_part hgd _ x y ho g 0 T _ (Hd.six q c ui ua uc) (.agg (Hd.six q c ui ua uc)) (Hd.six q c ui ua uc).toList hx hy rfl (by kernel_rfl) (Hd.six_ok q c hu.ok.1 hu.ok.2.1 hu.ok.2.2) hl.lies (Nat.le_of_ble_eq_true rfl) rfl fun w' h1 h2=>h w' ⟨h1,hu.vi,hu.va,hu.vc⟩ h2
theorem store_state(hgd:op.guard=none)(x y:Operand)(ho:op.op = .store 113 x y)(hx:a.eval x = .pointer (some ⟨g,0,none⟩))(hl:SixAt w g T p b vi va vc){w0:World}{g0:Nat}{T0:TypeId}(hu:SixAt w0 g0 T0 q c ui ua uc)(hy:a.eval y = .agg (Hd.six q c ui ua uc))
 (h : ∀w', SixAt w' g T q c ui ua uc→w.grownBy w' (some g)→wpList Tryz.prog ops Q rest (a.put op.dst undef) w'):wpList Tryz.prog ops Q (op :: rest) a w :=
 store_part hgd _ x y ho g 0 T _ (Hd.six q c ui ua uc) (.agg (Hd.six q c ui ua uc)) (Hd.six q c ui ua uc).toList hx hy rfl (by kernel_rfl) (Hd.six_ok q c hu.ok.1 hu.ok.2.1 hu.ok.2.2) hl.lies (Nat.le_of_ble_eq_true rfl) rfl fun w' h1 h2=>h w' ⟨h1,hu.vi,hu.va,hu.vc⟩ h2
theorem load_hard(hgd:op.guard=none)(x:Operand)(ho:op.op = .load 33 x)(hx:a.eval x = .pointer (some ⟨g,0,none⟩))(hl:SixAt w g T p b vi va vc)
 (h:wpList Tryz.prog ops Q rest (a.put op.dst (.agg (Hd.six p b vi va vc))) w):wpList Tryz.prog ops Q (op :: rest) a w :=
 wpList_load_mid hgd _ x ho g 0 hx (Hd.six p b vi va vc).toList _ (fun j v hv=>by rw[Nat.zero_add];exact hl.lies.cell j v (by simpa using hv)) Tryz.underlying33 rfl (by kernel_rfl) h
theorem load_state(hgd:op.guard=none)(x:Operand)(ho:op.op = .load 113 x)(hx:a.eval x = .pointer (some ⟨g,0,none⟩))(hl:SixAt w g T p b vi va vc)
 (h:wpList Tryz.prog ops Q rest (a.put op.dst (.agg (Hd.six p b vi va vc))) w):wpList Tryz.prog ops Q (op :: rest) a w :=
 wpList_load_mid hgd _ x ho g 0 hx (Hd.six p b vi va vc).toList _ (fun j v hv=>by rw[Nat.zero_add];exact hl.lies.cell j v (by simpa using hv)) Tryz.underlying113 rfl (by kernel_rfl) h
end
theorem run_hard(w:World)(g:Nat)(p:Bl.Bal)(b:Int)(vi va vc:Value)(h:SixAt w g 33 p b vi va vc):(loadVar 33 ⟨g,0,none⟩).run Tryz.prog w = .ok (.agg (Hd.six p b vi va vc)) w :=
 run_loadVar_row w g _ _ (Hd.six p b vi va vc) (0,0) _ h.lies Tryz.underlying33 rfl (by kernel_rfl)
theorem run_state(w:World)(g:Nat)(p:Bl.Bal)(b:Int)(vi va vc:Value)(h:SixAt w g 113 p b vi va vc):(loadVar 113 ⟨g,0,none⟩).run Tryz.prog w = .ok (.agg (Hd.six p b vi va vc)) w :=
 run_loadVar_row w g _ _ (Hd.six p b vi va vc) (0,0) _ h.lies Tryz.underlying113 rfl (by kernel_rfl)
theorem ret_hard1{fn:Func}{R:Ending→World→Prop}{a:Act}{w:World}{t:Tmp}{g:Nat}{p:Bl.Bal}{b:Int}{vi va vc:Value}(h:fn.results = #[.cell t 33])(hp:a.tmps.getD t undef = .pointer (some ⟨g,0,none⟩))
 (hl:SixAt w g 33 p b vi va vc) (hd:a.defers = []) (hR:R (.returned (.agg (Hd.six p b vi va vc))) w):bodyPost Tryz.prog fn R .ret a w:=by
 refine bodyPost_ret ?_ hd hR
 rw[results_one h,hp]
 simp[asAddr,Result.andThen,run_hard w g p b vi va vc hl]
theorem ret_state1{fn:Func}{R:Ending→World→Prop}{a:Act}{w:World}{t:Tmp}{g:Nat}{p:Bl.Bal}{b:Int}{vi va vc:Value}(h:fn.results = #[.cell t 113])(hp:a.tmps.getD t undef = .pointer (some ⟨g,0,none⟩))
 (hl:SixAt w g 113 p b vi va vc) (hd:a.defers = []) (hR:R (.returned (.agg (Hd.six p b vi va vc))) w):bodyPost Tryz.prog fn R .ret a w:=by
 refine bodyPost_ret ?_ hd hR
 rw[results_one h,hp]
 simp[asAddr,Result.andThen,run_state w g p b vi va vc hl]
def MadeH(w:World)(h:Hd.Hard)(e:Ending)(w' : World):Prop := ∃vi va vc,e = .returned (.agg (Hd.cells h vi va vc))∧HardR w' h vi va vc∧Below w.heap.size w w'
def MadeQ(q:Nat→Prop)(w:World)(h:Hd.Hard)(e:Ending)(w' : World):Prop := ∃vi va vc,e = .returned (.agg (Hd.cells h vi va vc))∧HardQ q w' h vi va vc∧Below w.heap.size w w'
theorem MadeQ.made{q:Nat→Prop}{w:World}{h:Hd.Hard}(e:Ending)(w' : World)(m:MadeQ q w h e w'):MadeH w h e w' := by
 obtain⟨vi,va,vc,e,r,b⟩:=m
 exact⟨vi,va,vc,e,r.rows,b⟩
theorem ReadsR.lit{w:World}{g k:Nat}{E:TypeId}{rs:List (Array Value)}(h:Lies w g E (flatR rs).toArray)(hs:Sized k rs)(hn:rs.length≤1000):ReadsR w (.slice (some ⟨g,0,none⟩) rs.length rs.length) k rs:=by
 refine⟨_,_,rfl,Nat.le_refl _,by unfold maxLen;omega,by simp,fun x hx i r hr j u hu => ?_⟩
 cases hx
 have hj:(flatR rs).toArray[i*k+j]? = some u:=by simpa using flatR_at hs hr hu
 have:=h.cell (i*k+j) u hj
 unfold Addr.add
 by_cases h0:i*k+j=0
 ·rw[if_pos h0]
  rw[h0]at this
  exact this
 ·rw[if_neg h0,Nat.zero_add]
  exact this
end
end Go.Proofs.YtdkdjofnnnljjaaGreatDoor

namespace Go.Proofs.YtdkdjofnnnljjaaGreatDoor
open Go.RowKit
set_option maxRecDepth 20000
section
section
variable {H : Type} {enc : TypeId × Value → H} {w : World} {b0 base : Nat} {held : Bool}
theorem el_bytes(m:Nat)(cs:List Value)(y:DataW H × List MemPlace)(h:DataW.trod enc Tryz.prog w base (fun _=>true) held m 30 cs=some y) : ∃u l,cs = [u]∧Reads w u l:=by
 rcases ChangeShapes.open_ints Tryz.underlying30 Tryz.underlying5 (by kernel_rfl) h with ⟨rfl,_⟩ | ⟨x,l,c,zs,rfl,_,hl,hm,hz,_,hcell,hwz⟩
 ·exact⟨_, [],rfl,Reads.empty w⟩
 ·exact⟨_,_,rfl,reads_row (zs:=zs) (.inr ⟨_,rfl,hl,hm,by simpa using hz,hcell,hwz⟩)⟩
end
end
end Go.Proofs.YtdkdjofnnnljjaaGreatDoor
