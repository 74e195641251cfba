/- Several texts of mine in one: DkMem WlMem WlTake GFs. -/
import Derived.Test.YtdkdjofnnnljjaaGreatDoorPDkMap
import Derived.Test.YtdkdjofnnnljjaaGreatDoorPDkList
import Derived.Test.YtdkdjofnnnljjaaGreatDoorGMb
import Derived.Test.YtdkdjofnnnljjaaGreatDoorPMsCame
import Derived.Test.YtdkdjofnnnljjaaGreatDoorPVers
import Derived.Test.YtdkdjofnnnljjaaGreatDoorRows
import Derived.Test.YtdkdjofnnnljjaaGreatDoorPMem
import Derived.Test.YtdkdjofnnnljjaaGreatDoorGFr
import Derived.Lib.LaidU8
import Derived.Test.YtdkdjofnnnljjaaGreatDoorPGRd
import Derived.Test.YtdkdjofnnnljjaaGreatDoorPPkMath
import Derived.Lib.AppendZerosOnto
import Derived.Lib.SliceRun
namespace Go.Proofs.YtdkdjofnnnljjaaGreatDoor
open Go.RowKit
def Dk.cellF(f:Int × List UInt8)(u:Value):Array Value := #[.int .i64 f.1,u]
def Dk.cellO(x:Dk.Op)(u:Value):Array Value := #[.int .i64 x.kind, .int .i64 x.no,u]
theorem Dk.cellF_ok(a:Int × List UInt8)(u:Value):(Dk.cellF a u).size=2∧(u.oneCell' = true→(Dk.cellF a u).all (·.oneCell')=true):=⟨rfl,fun h=>by simp[Dk.cellF,h];rfl⟩
theorem Dk.cellO_ok(a:Dk.Op)(u:Value):(Dk.cellO a u).size=3∧(u.oneCell' = true→(Dk.cellO a u).all (·.oneCell')=true):=⟨rfl,fun h=>by simp[Dk.cellO,h];exact⟨rfl,rfl⟩⟩
abbrev FilesP(p:Nat→TypeId→Prop)(w:World)(v:Value)(F:Dk.Files):Prop:=ListP 2 Dk.cellF (·.2) p w v F
abbrev FilesO(p:Nat→TypeId→Prop)(w:World)(base:Nat)(v:Value)(F:Dk.Files):Prop:=ListO 2 Dk.cellF (·.2) p w base 72 v F
abbrev OpsP(p:Nat→TypeId→Prop)(w:World)(v:Value)(B:List Dk.Op):Prop:=ListP 3 Dk.cellO Dk.Op.data p w v B
theorem info_file : (Tryz.prog.info? 72).map (fun i=>(i.zero,i.size,i.bytes))=some (some (.agg #[.int .i64 0, .slice none 0 0]),2,32):=by kernel_rfl
theorem info_op : (Tryz.prog.info? 91).map (fun i=>(i.zero,i.size,i.bytes))=some (some (.agg #[.int .i64 0, .int .i64 0, .slice none 0 0]),3,40):=by kernel_rfl
abbrev Row := Int × (Value × List UInt8)
def Bl(zs:List Row)(k:Nat):Prop := ∃z∈zs,z.2.1.ownBlock=some k
structure FilesIn(w:World)(b:Nat)(zs:List Row):Prop where
 map:MapAt w b (Dk.onto (·.1) zs)
 own : ∀z∈zs,Owns w 0 5 z.2.1 z.2.2
 apart : ∀x∈zs,∀y∈zs,x.1≠y.1 → ∀g,x.2.1.ownBlock=some g→y.2.1.ownBlock≠some g
 range : ∀z∈zs,1≤z.1∧z.1≤4294967296
theorem FilesIn.asc{w:World}{b:Nat}{zs:List Row}(h:FilesIn w b zs):Dk.Asc zs:=(Dk.asc_onto _).1 h.map.asc
theorem FilesIn.cells{w:World}{b:Nat}{zs:List Row}(h:FilesIn w b zs){k:Nat}(hk:Bl zs k) : ∃cs,w.heap[k]? = some (.cells cs 5 (0,0)):=by
 obtain⟨z,hz,e⟩:=hk
 obtain⟨cs,hc,_⟩:=(h.own z hz).cells e
 exact⟨cs,hc⟩
theorem FilesIn.lt{w:World}{b:Nat}{zs:List Row}(h:FilesIn w b zs){k:Nat}(hk:Bl zs k):k<w.heap.size:=by
 obtain⟨cs,hc⟩:=h.cells hk
 exact lt_of_obj hc
theorem FilesIn.not_map{w:World}{b:Nat}{zs:List Row}(h:FilesIn w b zs) : ¬Bl zs b:=fun hk=>by
 obtain⟨cs,hc⟩:=h.cells hk
 exact h.map.no_cells hc
theorem FilesIn.stays{w w' : World}{b:Nat}{zs:List Row}(h:FilesIn w b zs)(hb:w'.heap[b]? = w.heap[b]?)(hz : ∀k,Bl zs k→w'.heap[k]? = w.heap[k]?):FilesIn w' b zs :=
 ⟨h.map.of_block hb,fun z hz' => (h.own z hz').stays fun g e=>hz g ⟨z,hz', e⟩,h.apart,h.range⟩
theorem FilesIn.below{w w' : World}{b B:Nat}{zs:List Row}(h:FilesIn w b zs)(hb:Below B w w')(hB:w.heap.size≤B):FilesIn w' b zs :=
 h.stays (hb.block b (Nat.lt_of_lt_of_le h.map.lt hB)) fun k hk=>hb.block k (Nat.lt_of_lt_of_le (h.lt hk) hB)
theorem FilesIn.new(w:World):FilesIn (w.alloc (.map #[] 0)) w.heap.size []:=⟨MapAt.new w,fun z hz=>by simp at hz,fun x hx=>by simp at hx,fun z hz=>by simp at hz⟩
theorem FilesIn.len{w:World}{b:Nat}{zs:List Row}(_:FilesIn w b zs):(Dk.onto (·.1) zs).length=zs.length:=by simp[Dk.onto]
theorem FilesIn.put{w w1 w2:World}{b:Nat}{zs:List Row}(h:FilesIn w b zs)(n:Int)(hn:1≤n∧n≤4294967296)(v:Value)(d:List UInt8)(row:Option Nat)(hg1:w.grownBy w1 row)
 (hrow : ∀g,row=some g → ∃old,Dk.get zs n=some old∧old.1.ownBlock=some g) (hown:Owns w1 0 5 v d) (hv : ∀g,v.ownBlock=some g→row=some g∨w.heap.size≤g)
 (hm:MapAt w2 b (Dk.put (Dk.onto (·.1) zs) n v)) (hg2:w1.grownBy w2 (some b)) :
 FilesIn w2 b (Dk.put zs n (v,d))∧Kp (fun k _=>k≠b ∧ ¬Bl zs k) w w2 ∧ ∀k,Bl (Dk.put zs n (v,d)) k→Bl zs k∨w.heap.size≤k:=by
 have hrowB : ∀g,row=some g→Bl zs g:=fun g e=>by
  obtain⟨old,ho,eo⟩:=hrow g e
  exact⟨_,Dk.get_mem ho,eo⟩
 have hrb:some b≠row:=fun e=>h.not_map (hrowB b e.symm)
 have hm1:=h.map.kept hg1 hrb
 have hz : ∀z∈zs,z.1≠n→Owns w2 0 5 z.2.1 z.2.2:=fun z hz hne=>(h.own z hz).stays fun g e=>by
  obtain⟨cs,hc,_⟩:=(h.own z hz).cells e
  have hgb:g≠b:=fun e' => h.map.no_cells (e' ▸ hc)
  have hgr:some g≠row:=fun e' => by
   obtain⟨old,ho,eo⟩:=hrow g e'.symm
   exact h.apart (n,old) (Dk.get_mem ho) z hz (Ne.symm hne) g eo e
  rw[hg2.block g (Nat.lt_of_lt_of_le (lt_of_obj hc) hg1.size) (by simpa using hgb),hg1.block g (lt_of_obj hc) hgr]
 have hvy : ∀y∈zs,y.1≠n → ∀g,v.ownBlock=some g→y.2.1.ownBlock≠some g:=fun y hy hne g e e' => by
  rcases hv g e with hr | hr
  ·obtain⟨old,ho,eo⟩:=hrow g hr
   exact h.apart (n,old) (Dk.get_mem ho) y hy (Ne.symm hne) g eo e'
  ·have:=h.lt ⟨y,hy,e'⟩
   omega
 refine⟨⟨?_,fun z hz' => ?_,fun x hx y hy hne g e e' => ?_,fun z hz' => ?_⟩, ?_,fun k hk => ?_⟩
 ·rw[Dk.onto_put];exact hm
 ·rcases Dk.mem_put.1 hz' with rfl | ⟨hz', hne⟩
  ·refine hown.stays fun g e=>hg2.block g ?_ ?_
   ·obtain⟨cs,hc,_⟩:=hown.cells e;exact lt_of_obj hc
   ·intro e'
    obtain⟨cs,hc,_⟩:=hown.cells e
    simp only[Option.some.injEq]at e'
    subst e'
    exact hm1.no_cells hc
  ·exact hz z hz' hne
 ·rcases Dk.mem_put.1 hx with rfl | ⟨hx,hxn⟩<;>rcases Dk.mem_put.1 hy with rfl | ⟨hy,hyn⟩
  ·exact hne rfl
  ·exact hvy y hy hyn g e e'
  ·exact hvy x hx hxn g e' e
  ·exact h.apart x hx y hy hne g e e'
 ·rcases Dk.mem_put.1 hz' with rfl | ⟨hz', _⟩
  ·exact hn
  ·exact h.range z hz'
 ·exact(Kp.of_grown hg1 fun g o e _ hq=>hq.2 (hrowB g e)).trans (Kp.of_grown hg2 fun g o e _ hq=>hq.1 (by simpa using e.symm))
 ·obtain⟨z,hz', e⟩:=hk
  rcases Dk.mem_put.1 hz' with rfl | ⟨hz', _⟩
  ·rcases hv k e with hr | hr
   ·exact .inl (hrowB k hr)
   ·exact .inr hr
  ·exact .inl ⟨z,hz', e⟩
theorem FilesIn.del{w w2:World}{b:Nat}{zs:List Row}(h:FilesIn w b zs)(n:Int)(hm:MapAt w2 b (Dk.del (Dk.onto (·.1) zs) n))(hg2:w.grownBy w2 (some b)) :
 FilesIn w2 b (Dk.del zs n)∧Kp (fun k _=>k≠b ∧ ¬Bl zs k) w w2 ∧ ∀k,Bl (Dk.del zs n) k→Bl zs k∨w.heap.size≤k:=by
 refine⟨⟨by rw[Dk.onto_del];exact hm,fun z hz=>(h.own z (Dk.mem_del.1 hz).1).stays fun g e=>hg2.block g (h.lt ⟨z,(Dk.mem_del.1 hz).1,e⟩) (fun e' => h.not_map (by simp only[Option.some.injEq]at e'; subst e'; exact⟨z,(Dk.mem_del.1 hz).1,e⟩)),fun x hx y hy=>h.apart x (Dk.mem_del.1 hx).1 y (Dk.mem_del.1 hy).1,fun z hz=>h.range z (Dk.mem_del.1 hz).1⟩,Kp.of_grown hg2 fun g o e _ hq=>hq.1 (by simpa using e.symm),fun k hk => ?_⟩
 obtain⟨z,hz,e⟩:=hk
 exact .inl ⟨z,(Dk.mem_del.1 hz).1,e⟩
theorem FilesIn.keep{w w' : World}{b:Nat}{zs:List Row}(h:FilesIn w b zs)(hk:Kp (fun k _=>k≠b ∧ ¬Bl zs k) w w'):Keep (fun k _ => ¬Bl zs k) w w' :=
 hk.keep fun k cs t fr e hp=>⟨fun e' => by subst e'; exact h.map.no_cells e,hp⟩
def FilesOr(w:World)(mv:Option Nat)(zs:List Row):Prop:=(mv=none∧zs = []) ∨ ∃b,mv=some b∧FilesIn w b zs
theorem FilesOr.map{w:World}{mv:Option Nat}{zs:List Row}(h:FilesOr w mv zs):MapOr w (.map mv) (Dk.onto (·.1) zs):=by
 rcases h with ⟨rfl,rfl⟩ | ⟨b,rfl,h⟩
 ·exact .inl ⟨rfl,rfl⟩
 ·exact .inr ⟨b,rfl,h.map⟩
theorem FilesOr.below{w w' : World}{mv:Option Nat}{zs:List Row}(h:FilesOr w mv zs)(hb:Below w.heap.size w w'):FilesOr w' mv zs:=by
 rcases h with ⟨rfl,rfl⟩ | ⟨b,rfl,h⟩
 ·exact .inl ⟨rfl,rfl⟩
 ·exact .inr ⟨b,rfl,h.below hb (Nat.le_refl _)⟩
theorem FilesOr.own{w:World}{mv:Option Nat}{zs:List Row}(h:FilesOr w mv zs) : ∀z∈zs,Owns w 0 5 z.2.1 z.2.2:=by
 rcases h with ⟨rfl,rfl⟩ | ⟨b,rfl,h⟩
 ·intro z hz;simp at hz
 ·exact h.own
theorem FilesOr.asc{w:World}{mv:Option Nat}{zs:List Row}(h:FilesOr w mv zs):Dk.Asc zs:=by
 rcases h with ⟨rfl,rfl⟩ | ⟨b,rfl,h⟩
 ·exact Dk.Asc.nil
 ·exact h.asc
theorem FilesOr.range{w:World}{mv:Option Nat}{zs:List Row}(h:FilesOr w mv zs) : ∀z∈zs,1≤z.1∧z.1≤4294967296:=by
 rcases h with ⟨rfl,rfl⟩ | ⟨b,rfl,h⟩
 ·intro z hz;simp at hz
 ·exact h.range
structure DiskP(S:Nat→Prop)(w:World)(d:Nat)(mv:Option Nat)(bv:Value)(zs:List Row)(qs:List (Dk.Op × Value)):Prop where
 lies:Lies w d 76 #[.map mv,bv]
 here:S d
 map:(mv=none∧zs = []∧qs = []) ∨ ∃b,mv=some b∧S b∧FilesIn w b zs
 blk : ∀k,Bl zs k→S k
 row:OwnsR w 0 91 3 bv (rowsOf Dk.cellO qs)
 rowS : ∀g,bv.ownBlock=some g→S g
 data : ∀q∈qs,ReadsP (fun k t=>t=5∧S k ∧ ¬Bl zs k) w q.2 q.1.data
def DiskAt(S:Nat→Prop)(w:World)(d:Nat)(F:Dk.Files)(B:List Dk.Op):Prop :=
 ∃mv bv zs qs,DiskP S w d mv bv zs qs∧F=Dk.onto (·.2) zs∧B=qs.map (·.1)
theorem DiskP.files{S:Nat→Prop}{w:World}{d:Nat}{mv:Option Nat}{bv:Value}{zs:List Row}{qs:List (Dk.Op × Value)}(h:DiskP S w d mv bv zs qs):FilesOr w mv zs:=by
 rcases h.map with ⟨rfl,rfl,_⟩ | ⟨b,rfl,_,h⟩
 ·exact .inl ⟨rfl,rfl⟩
 ·exact .inr ⟨b,rfl,h⟩
theorem DiskP.sized{S:Nat→Prop}{w:World}{d:Nat}{mv:Option Nat}{bv:Value}{zs:List Row}{qs:List (Dk.Op × Value)}(h:DiskP S w d mv bv zs qs):Sized 3 (rowsOf Dk.cellO qs):=rowsOf_sized Dk.cellO_ok fun q hq=>(h.data q hq).one
theorem DiskP.keep{S:Nat→Prop}{w w' : World}{d:Nat}{mv:Option Nat}{bv:Value}{zs:List Row}{qs:List (Dk.Op × Value)}(h:DiskP S w d mv bv zs qs)(hk:Kp (fun k _=>S k) w w'):DiskP S w' d mv bv zs qs:=by
 have hb : ∀k,S k→k<w.heap.size→w'.heap[k]? = w.heap[k]? := fun k hs hlt=>hk.block hlt fun _=>hs
 refine⟨hk.lies h.lies fun _=>h.here,h.here, ?_,h.blk,h.row.stays fun g e => ?_,h.rowS,fun q hq=>(h.data q hq).keep (hk.keep fun k cs t fr e hp=>hp.2.1)⟩
 ·rcases h.map with h' | ⟨b,e,hs,h'⟩
  ·exact .inl h'
  ·exact .inr ⟨b,e,hs,h'.stays (hb b hs h'.map.lt) fun k hk' => hb k (h.blk k hk') (h'.lt hk')⟩
 ·obtain⟨cs,hc,_⟩:=h.row.cells e
  exact hb g (h.rowS g e) (lt_of_obj hc)
theorem DiskP.imp{S S' : Nat→Prop}{w:World}{d:Nat}{mv:Option Nat}{bv:Value}{zs:List Row}{qs:List (Dk.Op × Value)}(h:DiskP S w d mv bv zs qs)(hs : ∀k,k<w.heap.size→S k→S' k):DiskP S' w d mv bv zs qs:=by
 refine⟨h.lies,hs _ h.lies.lt h.here, ?_,fun k hk => ?_,h.row,fun g e => ?_,fun q hq=>(h.data q hq).imp fun k cs t fr e hp=>⟨hp.1,hs k (lt_of_obj e) hp.2.1,hp.2.2⟩⟩
 ·rcases h.map with h' | ⟨b,e,hb,h'⟩
  ·exact .inl h'
  ·exact .inr ⟨b,e,hs b h'.map.lt hb,h'⟩
 ·refine hs k ?_ (h.blk k hk)
  rcases h.map with ⟨_,rfl,_⟩ | ⟨b,e,_,h'⟩
  ·obtain⟨z,hz,_⟩:=hk;simp at hz
  ·exact h'.lt hk
 ·obtain⟨cs,hc,_⟩:=h.row.cells e
  exact hs g (lt_of_obj hc) (h.rowS g e)
theorem DiskAt.keep{S:Nat→Prop}{w w' : World}{d:Nat}{F:Dk.Files}{B:List Dk.Op}(h:DiskAt S w d F B)(hk:Kp (fun k _=>S k) w w'):DiskAt S w' d F B:=by
 obtain⟨mv,bv,zs,qs,h1,h2⟩:=h
 exact⟨mv,bv,zs,qs,h1.keep hk,h2⟩
theorem DiskAt.imp{S S' : Nat→Prop}{w:World}{d:Nat}{F:Dk.Files}{B:List Dk.Op}(h:DiskAt S w d F B)(hs : ∀k,k<w.heap.size→S k→S' k):DiskAt S' w d F B:=by
 obtain⟨mv,bv,zs,qs,h1,h2⟩:=h
 exact⟨mv,bv,zs,qs,h1.imp hs,h2⟩
theorem DiskAt.below{S:Nat→Prop}{w w' : World}{d:Nat}{F:Dk.Files}{B:List Dk.Op}(h:DiskAt S w d F B)(hb:Below w.heap.size w w'):DiskAt S w' d F B:=h.keep (Kp.all hb)
end Go.Proofs.YtdkdjofnnnljjaaGreatDoor

namespace Go.Proofs.YtdkdjofnnnljjaaGreatDoor
open Go.RowKit
theorem ReadsR.inP{q:Nat→Prop}{w:World}{v:Value}{k:Nat}{rs:List (Array Value)}(h:ReadsR w v k rs)(hk:0<k)(hs:Sized k rs)(hq:InP q v):RowP (fun b _=>q b) w v k rs:=by
 have h1:=RowP.of_reads (p:=fun _ _=>True) h hk hs (fun _ _ _=>trivial)
 refine⟨h,fun h0 => ?_⟩
 obtain⟨x,n,c,cs,t,fr,e,hb,_⟩:=h1.2 h0
 refine⟨x,n,c,cs,t,fr,e,hb,hq x n c e ?_⟩
 obtain⟨ao,cap,e2,_⟩:=h
 rw[e]at e2
 cases e2
 exact h0
theorem HardQ.keep{q:Nat→Prop}{w w' : World}{h:Hd.Hard}{vi va vc:Value}(r:HardQ q w h vi va vc)(hk:Keep (fun b _=>q b) w w'):HardQ q w' h vi va vc :=
 ⟨⟨((Reads.inP r.img r.pi).keep hk).1,((ReadsR.inP r.acc (by omega) (En.sized _) r.pa).keep hk).1,((ReadsR.inP r.chs (by omega) (En.sized _) r.pc).keep hk).1⟩,r.pi,r.pa,r.pc⟩
theorem HardQ.zero(q:Nat→Prop)(w:World):HardQ q w Hd.zero (.slice none 0 0) (.slice none 0 0) (.slice none 0 0):=⟨⟨Reads.empty w,ReadsR.empty _ 10,ReadsR.empty _ 10⟩,InP.bare _ _ _,InP.bare _ _ _,InP.bare _ _ _⟩
theorem keep_rowk{p:Nat→TypeId→Prop}{W W' : World}{row:Option Nat}(hg:W.grownBy W' row)(hr : ∀r,row=some r → ∃o:Obj,W.heap[r]? = some o∧o.isCells=false):Keep p W W' :=
 Keep.of_grown hg (fun g cs t fr e hc=>by obtain⟨o,ho,hc'⟩:=hr g e;rw[hc]at ho;cases ho;cases hc')
theorem lies_rowk{W W' : World}{row:Option Nat}{b:Nat}{t:TypeId}{vs:Array Value}(h:Lies W b t vs)(hg:W.grownBy W' row)(hr : ∀r,row=some r → ∃o:Obj,W.heap[r]? = some o∧o.isCells=false):Lies W' b t vs :=
 h.kept hg (fun e=>by obtain⟨o,ho,hc⟩:=hr b e.symm;rw[show W.heap[b]? = _ from h]at ho;cases ho;cases hc)
theorem below_rowk{B n0:Nat}{w W W' : World}{row:Option Nat}(hb:Below n0 w W)(hg:W.grownBy W' row)(hn:n0≤W.heap.size)(hr : ∀r,row=some r→B≤r)(hB:n0≤B):Below n0 w W' :=
 hb.grown hg hn fun k e=>Nat.le_trans hB (hr k e)
end Go.Proofs.YtdkdjofnnnljjaaGreatDoor

namespace Go.Proofs.YtdkdjofnnnljjaaGreatDoor
open Go.RowKit
set_option maxRecDepth 20000
theorem givenWl_any(b:Bool)(w:World):Calls Tryz.prog 32 #[.bool b] w (Says w (.int .i64 (if b=true then 0 else 10))):=by
 cases b with
 | true =>
  go_enter Tryz.func32,Tryz.ntmps32
  go_wp2
  go_ret
  exact⟨rfl,rfl⟩
 | false =>
  go_enter Tryz.func32,Tryz.ntmps32
  go_wp2
  go_ret
  exact⟨rfl,rfl⟩
abbrev Wl.take(k:Nat):Value := .func (.func 62) #[] #[.pointer (some ⟨k,0,none⟩)]
theorem stepsWl_any(w:World):Calls Tryz.prog 30 #[] w fun e w' => e = .returned (Wl.take w.heap.size)∧w' = w.alloc (.cells #[.int .i64 0] 34):=by
 have hmf : ∀(fn:Fn) (first cap:Array Value) (w:World),(Instr.makeFunc fn first cap).run Tryz.prog w = .ok (.func fn first cap) w:=fun _ _ _ _=>rfl
 go_enter Tryz.func30,Tryz.ntmps30
 go_wp2
 go_ret
 exact⟨rfl,rfl⟩
theorem takeWl_go{R:Ending→World→Prop}(fn:Nat)(caps:Array Value)(k:Nat)(w:World)(he : ∀w,(callFunc fn caps).run Tryz.prog w = .ok (.enter fn caps) w)(hl:Lies w k 34 #[.int .i64 0])
 (hc:Calls Tryz.prog fn caps w fun e w1 => ∃c:Int,e = .returned (.int .i64 c)∧Lies w1 k 34 #[.int .i64 0] ∧ ∀w2,Lies w2 k 34 #[.int .i64 c]→w1.grownBy w2 (some k)→R (.returned (.int .i64 c)) w2) :
 Calls Tryz.prog 62 #[.func (.func fn) #[] caps, .pointer (some ⟨k,0,none⟩)] w R:=by
 have c0:w.cell? ⟨k,0,none⟩=some (.int .i64 0):=hl.cell 0 _ rfl
 have HC:=Lib.hid hc
 clear hc hl
 go_enter Tryz.func62,Tryz.ntmps62
 go_wp2_with fail
 refine HC.out.mono ?_
 rintro e w1 ⟨c,rfl,hl1,hR⟩
 have d0:w1.cell? ⟨k,0,none⟩=some (.int .i64 0):=hl1.cell 0 _ rfl
 have f0:=hl1.free 0
 have HS:Hid (R (.returned (.int .i64 c)) (w1.setCell ⟨k,0,none⟩ (.int .i64 c))):=hR _ (hl1.set 0 _) (grown_set _ _ _ _)
 have e0:(w1.setCell ⟨k,0,none⟩ (.int .i64 c)).cell? ⟨k,0,none⟩=some (.int .i64 c):=(hl1.set 0 (.int .i64 c)).cell 0 _ rfl
 clear hR hl1 c0
 go_wp2
 exact HS.out
theorem takeWl_stop{R:Ending→World→Prop}(v:Value)(k:Nat)(w:World)(c:Int)(hn:c≠0)(hl:Lies w k 34 #[.int .i64 c])(hR:R (.returned (.int .i64 c)) w) :
 Calls Tryz.prog 62 #[v, .pointer (some ⟨k,0,none⟩)] w R:=by
 have c0:w.cell? ⟨k,0,none⟩=some (.int .i64 c):=hl.cell 0 _ rfl
 have hb:(c == 0)=false:=by simpa using hn
 have HR:=Lib.hid hR
 clear hR hl hn
 go_enter Tryz.func62,Tryz.ntmps62
 go_wp2
 exact HR.out
end Go.Proofs.YtdkdjofnnnljjaaGreatDoor

namespace Go.Proofs.YtdkdjofnnnljjaaGreatDoor
open Go.RowKit
set_option maxHeartbeats 800000
set_option maxRecDepth 4000
def CrcTab(w:World):Prop := ∀i,i<16→w.cell? ⟨0,i,none⟩=some (.int .u32 (Crc.tab.getD i 0))
theorem CrcTab.below{w w' : World}(h:CrcTab w)(hb:Below w.heap.size w w'):CrcTab w' := fun i hi=>by
 rw[hb.cell (World.block_lt_of_cell? w _ (h i hi))];exact h i hi
theorem crcAdd_any(s:Crc.R)(v:Value)(l:List UInt8)(w:World)(hv:Reads w v l)(hT:CrcTab w) :
 Calls Tryz.prog 164 #[.int .u32 (s.toNat:Int),v] w fun e w' => e = .returned (.int .u32 ((Crc.add s l).toNat:Int))∧w=w' := by
 obtain⟨ao,cap,rfl⟩:=hv.shape
 obtain⟨_,hl1,hl2,_⟩:=hv.len
 have hs:=s.isLt
 have HT:=Lib.hid hT;clear hT
 have hn:=Crc.not_is s
 obtain⟨s', hs'⟩ : ∃s', s' = ~~~ s:=⟨_,rfl⟩
 rw[← hs']at hn
 have HS:=Lib.hid hs'; clear hs'
 have hsl:=s'.isLt
 go_enter Tryz.func164,Tryz.ntmps164
 go_wp2
 clear hn
 go_loop [5,12] (fun x i => ∃(k:Nat) (r:Crc.R),k≤l.length∧i = .int .i64 (k:Int)∧x = .int .u32 (r.toNat:Int)∧Hid (r=Crc.run s' (l.take k))) (fun _ i=>l.length - (intOf i).toNat)
 case atStart=>exact⟨0,s', by omega,rfl,rfl,rfl⟩
 case round =>
  obtain⟨k,r,hk,rfl,rfl,HR⟩:=hrel
  have hrl:=r.isLt
  by_cases hlt:k<l.length
  ·obtain⟨b,off,rfl,hc⟩:=hv.place (by omega)
   obtain⟨c,hlc⟩ : ∃c,c=l[k]:=⟨_,rfl⟩
   have hc1:=hc k c (by rw[hlc];exact List.getElem?_eq_getElem hlt)
   have HC:=Lib.hid hlc
   clear hc hlc
   have hcb:=c.toNat_lt
   have e1:=Crc.byte_in r c
   obtain⟨r1,hr1⟩ : ∃r1,r1=r ^^^ Crc.wide c:=⟨_,rfl⟩
   rw[← hr1]at e1
   obtain⟨j1,hj1,e2,t1,ht1,hg1,e3⟩:=Crc.four_bits r1
   obtain⟨r2,hr2⟩ : ∃r2,r2=Crc.steps 4 r1:=⟨_,rfl⟩
   rw[← hr2]at e3
   obtain⟨j2,hj2,e4,t2,ht2,hg2,e5⟩:=Crc.four_bits r2
   obtain⟨r3,hr3⟩ : ∃r3,r3=Crc.steps 4 r2:=⟨_,rfl⟩
   rw[← hr3]at e5
   have c1:=HT.out j1 hj1
   have c2:=HT.out j2 hj2
   rw[hg1]at c1
   rw[hg2]at c2
   have b1:=r1.isLt
   have b2:=r2.isLt
   have b3:=r3.isLt
   have H3:Hid (r3=Crc.run s' (l.take (k+1))):=by
    show r3=_
    rw[Crc.run_take _ _ _ hlt, ← HR.out, ← HC.out,Crc.upd_eight, ← hr1, ← hr2, ← hr3]
   clear hg1 hg2 hr1 hr2 hr3
   go_wp2
   go_round
   case rel=>exact⟨k+1,r3,by omega,by go_num,rfl,H3⟩
   case measure=>simp[intOf];omega
  ·have hn:=Crc.not_is r
   obtain⟨r4,hr4⟩ : ∃r4,r4 = ~~~ r:=⟨_,rfl⟩
   rw[← hr4]at hn
   have H4:Hid (r4=Crc.add s l):=by
    have:=HR.out
    rw[List.take_of_length_le (by omega)]at this
    show _=_
    rw[hr4,this,HS.out];rfl
   clear hr4
   go_wp2
   go_ret
   exact⟨ret_int (by rw[H4.out]),rfl⟩
theorem crcSum_any(v:Value)(l:List UInt8)(w:World)(hv:Reads w v l)(hT:CrcTab w) :
 Calls Tryz.prog 139 #[v] w fun e w' => e = .returned (.int .u32 ((Crc.sum l).toNat:Int))∧w=w' := by
 go_enter Tryz.func139,Tryz.ntmps139
 go_wp2_with (go_at_call 164;refine(crcAdd_any 0#32 _ l _ hv hT).mono ?_;rintro e w' ⟨rfl,rfl⟩)
 go_ret
 exact⟨rfl,rfl⟩
theorem crcTab_of{W:World}(h:Lib.VarReads Tryz.prog W "changeover/crc.shifts" (Lib.tabData .u32 Crc.tab)):CrcTab W:=by
 obtain⟨g,t,cs,fuel,p,hg,ht,hvar,hd⟩:=h
 have hty:(Tryz.prog.globals[0]?).map (·.type)=some 227:=by kernel_rfl
 have hgn:Tryz.prog.globalNamed "changeover/crc.shifts"=some 0:=by kernel_rfl
 obtain rfl:=Option.some.inj (hgn.symm.trans hg)
 obtain rfl:=Option.some.inj (hty.symm.trans ht)
 have e:=Lib.cells_of_tab (n:=16) Tryz.underlying227 Tryz.underlying178 (by kernel_rfl) (by kernel_rfl) hd
 intro i hi
 have hT:Lib.TabIs Tryz.prog W "changeover/crc.shifts" .u32 Crc.tab:=by unfold Lib.TabIs;rw[hvar, ← e]
 exact hT.cell hgn i hi
def sizeErr(n:Int):Int:=if n<1 then 3 else if 65536<n then 2 else 0
theorem sizeError_any(n:Int)(w:World) :
 Calls Tryz.prog 93 #[.int .i64 n] w fun e w' => e = .returned (.int .i64 (sizeErr n))∧w=w' := by
 unfold sizeErr
 by_cases a:n<1
 ·rw[if_pos a]
  go_enter Tryz.func93,Tryz.ntmps93
  go_wp2
  all_goals (go_ret;exact⟨rfl,rfl⟩)
 ·rw[if_neg a]
  by_cases b:65536<n
  ·rw[if_pos b]
   go_enter Tryz.func93,Tryz.ntmps93
   go_wp2
   all_goals (go_ret;exact⟨rfl,rfl⟩)
  ·rw[if_neg b]
   go_enter Tryz.func93,Tryz.ntmps93
   go_wp2
   all_goals (go_ret;exact⟨rfl,rfl⟩)
theorem tail_any(v:Value)(l:List UInt8)(w:World)(hv:Reads w v l)(hT:CrcTab w) :
 Calls Tryz.prog 96 #[v] w (Makes w 5 (Frm.tail l)):=by
 obtain⟨s,hs⟩ : ∃s,s=(Crc.sum l).toNat:=⟨_,rfl⟩
 have hsl:s<4294967296:=by rw[hs];exact(Crc.sum l).isLt
 have ht:Frm.tail l=Frm.le s:=by rw[hs];rfl
 rw[ht]
 have HS:=Lib.hid hs;clear hs ht
 go_enter Tryz.func96,Tryz.ntmps96
 go_wp2_with fail
 refine(crcSum_any _ _ _ hv hT).mono ?_
 rintro e w1 ⟨rfl,rfl⟩
 rw[← HS.out]
 go_wp2_with fail
 go_ret
 refine⟨_,rfl,Owns.laid _ _ _ _ _ rfl ?_ (by decide),(Below.refl _ _).alloc (Nat.le_refl _) _⟩
 simp only[cellsOf,Frm.le,List.map_cons,List.map_nil,UInt8.toNat_ofNat']
 simp
 omega
theorem equal_any(v u:Value)(l m:List UInt8)(w:World)(hv:Reads w v l)(hu:Reads w u m) :
 Calls Tryz.prog 149 #[v,u] w fun e w' => e = .returned (.bool (l == m))∧w=w' := by
 obtain⟨ao,cap,rfl⟩:=hv.shape
 obtain⟨ao2,cap2,rfl⟩:=hu.shape
 have c1:=run_string_of (P:=Tryz.prog) l Tryz.underlying30 Tryz.underlying5 Tryz.underlying9 hv
 have c2:=run_string_of (P:=Tryz.prog) m Tryz.underlying30 Tryz.underlying5 Tryz.underlying9 hu
 go_enter Tryz.func149,Tryz.ntmps149
 go_wp2
 go_ret
 exact⟨ret_bool rfl,rfl⟩
theorem grow_any(n:Nat)(w:World)(h0:0<n)(hn:n≤140737488355328) :
 Calls Tryz.prog 137 #[.slice none 0 0, .int .i64 (n:Int)] w (Makes w 5 []):=by
 obtain⟨i,hi,hz,hs,hb⟩:=info_parts info_u8
 obtain⟨G,hG⟩ : ∃G,G=grownCap w n 0 5:=⟨_,rfl⟩
 have hG1:n≤G:=by rw[hG];exact grownCap_ge w _ _ _
 have hG2:G≤maxLen:=by rw[hG];exact grownCap_le_maxLen w _ _ _ (by unfold maxLen;omega)
 obtain⟨C,hC⟩ : ∃C:Array Value,C=(([]:List Value).toArray++Builtin.zeroCells (Value.int .u8 0).cells n++Builtin.zeroCells (Value.int .u8 0).cells (G - n)):=⟨_,rfl⟩
 have hCs:C.size=G:=by rw[hC];simp[size_zeroCells,Value.cells];omega
 have hrun : ∀ty,(Builtin.append_ #[30,3] ty #[.slice none 0 0, .int .i64 (n:Int)]).run Tryz.prog w = .ok (.slice (some ⟨w.heap.size,0,none⟩) n G) (w.drew.alloc (.cells C 5)):=by
  intro ty
  have h:=Lib.run_append_grow_zeros (P:=Tryz.prog) w 30 3 ty 5 i (.int .u8 0) .i64 .i64 Tryz.underlying30 Tryz.underlying3 hi hz none 0 0 [] (run_firstCells_none w.drew i.size 0 0 0) n h0 (by omega) (by omega) (by omega) (by rw[hb];omega) (by rw[Nat.zero_add,nextslicecap_zero (by omega),hb];omega)
  rw[Nat.zero_add, ← hG, ← hC]at h
  exact h
 clear hG hC
 have hG3:G≤9223372036854775807:=by unfold maxLen at hG2;omega
 have hfin:Owns (w.drew.alloc (.cells C 5)) w.heap.size 5 (.slice (some ⟨w.heap.size,0,none⟩) 0 G) []:=⟨by simp[cellsOf], .inr ⟨w.heap.size,G,C,rfl,Nat.le_refl _,heap_alloc_new w.drew _,by simp,hG2,by omega,by simp[cellsOf]⟩⟩
 clear hCs hG2
 go_enter Tryz.func137,Tryz.ntmps137
 go_wp2_with (at_builtin;refine Lib.wpList_append_run _ rfl _ _ _ _ rfl _ _ rfl rfl _ _ (hrun _) ?_)
 all_goals
  go_ret
  exact⟨_,rfl,hfin,(Below.refl _ _).drew.alloc (Nat.le_refl _) _⟩
end Go.Proofs.YtdkdjofnnnljjaaGreatDoor
