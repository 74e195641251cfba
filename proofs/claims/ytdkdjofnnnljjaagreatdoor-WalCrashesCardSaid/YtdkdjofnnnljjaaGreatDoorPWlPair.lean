/- Several texts of mine in one: WlPast WlSteps WlSts WlWas SgOne WlPair. -/
import Derived.Test.YtdkdjofnnnljjaaGreatDoorPWlRepl
import Derived.Test.YtdkdjofnnnljjaaGreatDoorPWlAdd
import Derived.Test.YtdkdjofnnnljjaaGreatDoorPGSc
import Derived.Test.YtdkdjofnnnljjaaGreatDoorPSgMem
import Derived.Test.YtdkdjofnnnljjaaGreatDoorReCame
import Derived.Test.YtdkdjofnnnljjaaGreatDoorPGFs
import Derived.Test.YtdkdjofnnnljjaaGreatDoorPSgRead
import Derived.Test.YtdkdjofnnnljjaaGreatDoorPDkMath
namespace Go.Proofs.YtdkdjofnnnljjaaGreatDoor
open Go.RowKit
set_option maxHeartbeats 6400000
set_option maxRecDepth 8000
section
structure eE where
 h:Hd.az
 f:Int
 vi:Value
 va:Value
 vc:Value
def eE.cells(q:eE):Array Value:=Hd.cells q.h q.vi q.va q.vc
def eE.num(q:eE):Array Value := #[.int .i64 q.f]
def eE.is(q:eE):Hd.az × Int:=(q.h,q.f)
structure fw(O D:Nat->Prop)(w:World)(g:Nat)(vL vF:Value)(qs:List eE):Prop where
 ag:ae w g 58 #[vL,vF]
 kW:aU w 0 33 6 vL (qs.map eE.cells)
 kC:aU w 0 3 1 vF (qs.map eE.num)
 here:O g
 Kv : ∀b,vL.ownBlock=some b->O b
 Kw : ∀b,vF.ownBlock=some b->O b
 apart : ∀b,O b -> ¬D b
 data : ∀q∈qs,bL D w q.h q.vi q.va q.vc
def gg(O D:Nat->Prop)(w:World)(g:Nat)(ps:List (Hd.az × Int)):Prop := ∃vL vF qs,fw O D w g vL vF qs∧ps=qs.map eE.is
theorem eE.Ky{q:Nat->Prop}{w:World}{qs:List eE}(h : ∀x∈qs,bL q w x.h x.vi x.va x.vc):dC 6 (qs.map eE.cells):=by
 intro r hr
 obtain⟨x,hx,rfl⟩:=List.mem_map.1 hr;obtain⟨⟨_,_,_,e1⟩,⟨_,_,_,e2⟩,⟨_,_,_,e3⟩⟩:=(h x hx).rows.sl;refine⟨rfl, ?_⟩;unfold eE.cells;rw[e1,e2,e3, <- Array.all_toList]
 rfl
theorem eE.Kz(qs:List eE):dC 1 (qs.map eE.num):=by
 intro r hr
 obtain⟨x,hx,rfl⟩:=List.mem_map.1 hr;exact⟨rfl,by rw[<- Array.all_toList];rfl⟩
section
variable {O D : Nat -> Prop} {w w' : World} {g : Nat} {vL vF : Value} {qs : List eE} {ps : List (Hd.az × Int)}
theorem fw.keep(p:fw O D w g vL vF qs)(hk:Kp (fun b _=>O b∨D b) w w'):fw O D w' g vL vF qs :=
 ⟨hk.ag p.ag fun _ => .inl p.here,p.kW.stays fun b e=>hk.block (p.kW.lt b e).2 fun _ => .inl (p.Kv b e),p.kC.stays fun b e=>hk.block (p.kC.lt b e).2 fun _ => .inl (p.Kw b e),p.here,p.Kv,p.Kw,p.apart,
  fun q hq=>(p.data q hq).keep (hk.keep fun _ _ _ _ _ hp => .inr hp)⟩
theorem gg.keep(p:gg O D w g ps)(hk:Kp (fun b _=>O b∨D b) w w'):gg O D w' g ps:=by
 obtain⟨vL,vF,qs,p,e⟩:=p;exact⟨vL,vF,qs,p.keep hk,e⟩
theorem fw.tight(p:fw O D w g vL vF qs):fw (fun b=>O b∧b<w.heap.size) (fun b=>D b∧b<w.heap.size) w g vL vF qs :=
 ⟨p.ag,p.kW,p.kC,⟨p.here,p.ag.lt⟩,fun b e=>⟨p.Kv b e,(p.kW.lt b e).2⟩,fun b e=>⟨p.Kw b e,(p.kC.lt b e).2⟩,fun b h h' => p.apart b h.1 h'.1,fun q hq=>(p.data q hq).tight⟩
end
theorem BB(w:World):Calls Tryz.prog 10 #[] w fun e w' => ∃g,e = .returned (Wl.ptr g)∧gg (fun b=>w.heap.size<=b) (fun _=>False) w' g [(Hd.zero,1)]∧Below w.heap.size w w' := by
 obtain⟨w1,e1,l1,hb1,hs1⟩:=bR w 33 #[.int .i64 0, .int .i64 0, .int .i64 0, .slice none 0 0, .slice none 0 0, .slice none 0 0];obtain⟨w2,e2,l2,hb2,hs2⟩:=bR w1 3 #[.int .i64 1];obtain⟨w3,e3,l3,hb3,hs3⟩:=bR w2 58 #[.slice (some ⟨w.heap.size,0,none⟩) 1 1, .slice (some ⟨w1.heap.size,0,none⟩) 1 1];have hP:gg (fun b=>w.heap.size<=b) (fun _=>False) w3 w2.heap.size [(Hd.zero,1)]:=by
  refine⟨.slice (some ⟨w.heap.size,0,none⟩) 1 1, .slice (some ⟨w1.heap.size,0,none⟩) 1 1, [⟨Hd.zero,1,Nil,Nil,Nil⟩],⟨l3,⟨rfl, .inr ⟨_,1,_,rfl,Nat.zero_le _,(l1.below hb2 (by omega)).below hb3 (by omega),by simp,by simp[maxLen],rfl,rfl⟩⟩,⟨rfl, .inr ⟨_,1,_,rfl,Nat.zero_le _,l2.below hb3 (by omega),by simp,by simp[maxLen],rfl,rfl⟩⟩,by show _<=_;omega,fun b e => ?_,fun b e => ?_,fun _ _ h=>h,fun q hq => ?_⟩,rfl⟩
  ·simp only[Value.ownBlock,Option.some.injEq]at e;omega
  ·simp only[Value.ownBlock,Option.some.injEq]at e;omega
  ·obtain rfl:q=⟨Hd.zero,1,Nil,Nil,Nil⟩:=by simpa using hq
   exact bL.zero _ _
 have HP:=aa hP;have HB:Hid (Below w.heap.size w w3):=(hb1.trans (hb2.mono hb1.size)).trans (hb3.mono (by omega))
 clear l1 l2 l3 hb1 hb2 hb3 hs1 hs2 hs3 hP
 go_enter Tryz.func10,Tryz.ntmps10
 go_wp2;go_ret;exact⟨_,rfl,HP.out,HB.out⟩
theorem yT{w:World}{E:TypeId}{k:Nat}{v:Value}{rs:List (Array Value)}(h:aU w 0 E k v rs)(hs:dC k rs)(h0:0<rs.length) :
 ∃g cap,v = .slice (some ⟨g,0,none⟩) rs.length cap∧rs.length<=cap ∧ ∀(i:Nat) r,rs[i]? = some r -> ∀(j:Nat) u,r[j]? = some u->w.cell? ⟨g,i*k+j,none⟩=some u:=by
 have hr:=h.reads hs;rcases h.2 with ⟨_,h1⟩ | ⟨g,cap,cur,hv,_,_,hc,_,_,_⟩
 ·omega
 ·obtain⟨ao,c2,e2,_,_,_,hcell⟩:=hr
  rw[hv]at e2
  cases e2;refine⟨g,cap,hv,hc,fun i r hi j u hj => ?_⟩
  have:=hcell _ rfl i r hi j u hj
  rwa[Addr.add_lit,Nat.zero_add]at this
def TM(w:World)(k:Hd.az)(f:Int)(vi va vc:Value)(e:Ending)(w' : World):Prop:=e = .returned (.tuple #[.agg (Hd.cells k vi va vc), .int .i64 f])∧Below w.heap.size w w'
theorem KA{fn:Func}{R:Ending->World->Prop}{a:Act}{w:World}{t u:Tmp}{g:Nat}{p:Bl.dM}{b:Int}{vi va vc:Value}(h:fn.results = #[.cell t 33, .tmp u])(hp:a.tmps.getD t undef = .pointer (some ⟨g,0,none⟩))
 (hl:aB w g 33 p b vi va vc) (hd:a.defers = []) (hR:R (.returned (.tuple #[.agg (Hd.fQ p b vi va vc),a.tmps.getD u undef])) w):bodyPost Tryz.prog fn R .ret a w:=by
 refine bodyPost_ret ?_ hd hR;rw[jZ h,hp];simp[asAddr,Result.andThen,qj w g p b vi va vc hl]
theorem jm{O D:Nat->Prop}{w:World}{g:Nat}{vL vF:Value}{qs:List eE}{q:eE}(p:fw O D w g vL vF (qs ++ [q]))(hn:qs.length<=1000) :
 Calls Tryz.prog 11 #[Wl.ptr g] w (TM w q.h q.f q.vi q.va q.vc):=by
 obtain⟨gl,cl,rfl,lW,hL⟩:=yT p.kW (eE.Ky p.data) (by simp)
 obtain⟨gf,cf,rfl,KB,hF⟩:=yT p.kC (eE.Kz _) (by simp)
 obtain⟨n,hne⟩ : ∃n,n=qs.length:=⟨_,rfl⟩;have N0:=hL n (eE.cells q) (by rw[hne];simp)
 have VQ:=hF n (eE.num q) (by rw[hne];simp)
 have hlen:((qs ++ [q]).map eE.cells).length=n+1:=by simp[hne]
 have Pm:((qs ++ [q]).map eE.num).length=n+1:=by simp[hne]
 obtain⟨⟨io,ik,ic,e1⟩,⟨ao,ak,ac,e2⟩,⟨co,ck,cc,e3⟩⟩:=(p.data q (by simp)).rows.sl
 rw[e1,e2,e3];have m0:w.drew.cell? ⟨gl,n*6,none⟩=some (.int .i64 q.h.aC.round):=N0 0 _ rfl;have m1:w.drew.cell? ⟨gl,n*6+1,none⟩=some (.int .i64 q.h.aC.node):=N0 1 _ rfl;have m2:w.drew.cell? ⟨gl,n*6+2,none⟩=some (.int .i64 q.h.base):=N0 2 _ rfl;have m3:w.drew.cell? ⟨gl,n*6+3,none⟩=some (.slice io ik ic):=by rw[<- e1];exact N0 3 _ rfl
 have m4:w.drew.cell? ⟨gl,n*6+4,none⟩=some (.slice ao ak ac):=by rw[<- e2];exact N0 4 _ rfl
 have m5:w.drew.cell? ⟨gl,n*6+5,none⟩=some (.slice co ck cc):=by rw[<- e3];exact N0 5 _ rfl
 have mf:w.drew.cell? ⟨gf,n,none⟩=some (.int .i64 q.f):=by have:=VQ 0 _ rfl;simpa[eE.num] using this
 rw[hlen]at p lW
 rw[Pm]at p KB
 obtain⟨w1,ea,hz1,hb1,hs1⟩:=eA w 33;have oC:Hid (aB w1.drew w.heap.size 33 Bl.zero 0 Nil Nil Nil):=hz1.below (drawn w1 1) hz1.ag.lt;have aG:Hid (Below w.heap.size w w1.drew):=hb1.drew;have hcell : ∀(a:Addr) u,w.cell? a=some u->w1.drew.cell? a=some u:=fun a u h=>by
  have hlt:=World.block_lt_of_cell? w a h;rw[show w1.drew.cell? a=w1.cell? a from rfl,World.cell?_of_block (hb1.block _ hlt)]
  exact h
 have HW:Hid (w.cell? ⟨g,0,none⟩=some (.slice (some ⟨gl,0,none⟩) (n+1) cl)∧w.cell? ⟨g,1,none⟩=some (.slice (some ⟨gf,0,none⟩) (n+1) cf)∧(∀j u,(Hd.cells q.h (.slice io ik ic) (.slice ao ak ac) (.slice co ck cc))[j]? = some u->w.cell? ⟨gl,n*6+j,none⟩=some u)∧w.cell? ⟨gf,n,none⟩=some (.int .i64 q.f)):=⟨p.ag.cell 0 _ rfl,p.ag.cell 1 _ rfl,fun j u hj=>N0 j u (by unfold eE.cells;rw[e1,e2,e3];exact hj),by have:=VQ 0 _ rfl;simpa[eE.num] using this⟩
 have HS:Hid (w1.drew.cell? ⟨g,0,none⟩=some (.slice (some ⟨gl,0,none⟩) (n+1) cl)∧w1.drew.cell? ⟨g,1,none⟩=some (.slice (some ⟨gf,0,none⟩) (n+1) cf)∧(∀j u,(Hd.cells q.h (.slice io ik ic) (.slice ao ak ac) (.slice co ck cc))[j]? = some u->w1.drew.cell? ⟨gl,n*6+j,none⟩=some u)∧w1.drew.cell? ⟨gf,n,none⟩=some (.int .i64 q.f)):=⟨hcell _ _ (p.ag.cell 0 _ rfl),hcell _ _ (p.ag.cell 1 _ rfl),fun j u hj=>hcell _ _ (N0 j u (by unfold eE.cells;rw[e1,e2,e3];exact hj)),hcell _ _ (by have:=VQ 0 _ rfl;simpa[eE.num] using this)⟩
 have QJ:Hid (g<w.heap.size∧gl<w.heap.size∧gf<w.heap.size):=⟨p.ag.lt,(p.kW.lt gl rfl).2,(p.kC.lt gf rfl).2⟩;have SZ:(n:Int)<=1000:=by omega
 have zG:(0:Int)<=(n:Int):=by omega
 have hwn:IntKind.i64.wrap (n:Int)=(n:Int):=by rw[IntKind.wrap_i64];omega
 clear hb1 hz1 hs1 m0 m1 m2 m3 m4 m5 mf hL hF N0 VQ hlen Pm e1 e2 e3 p hne hcell hn
 go_enter Tryz.func11,Tryz.ntmps11
 go_wp2;refine wp_region_held_drew (S:=fun W=>W.cell? ⟨g,0,none⟩=some (.slice (some ⟨gl,0,none⟩) (n+1) cl)∧W.cell? ⟨g,1,none⟩=some (.slice (some ⟨gf,0,none⟩) (n+1) cf)∧(∀j u,(Hd.cells q.h (.slice io ik ic) (.slice ao ak ac) (.slice co ck cc))[j]? = some u->W.cell? ⟨gl,n*6+j,none⟩=some u)∧W.cell? ⟨gf,n,none⟩=some (.int .i64 q.f)) (by kernel_rfl) HS.out (fun hHeld => ?_)
 refine bH 0 rfl hHeld ?_;refine bH 1 rfl hHeld ?_;refine bH 2 rfl hHeld ?_;refine bH 3 rfl hHeld ?_ (by intro W hSw;obtain⟨s1,s2,s3,s4⟩:=hSw;go_simp;(try with_reducible rfl))
 go_simp;refine bH 4 rfl hHeld ?_;refine bH 5 rfl hHeld ?_;refine bH 6 rfl hHeld ?_;refine bH 7 rfl hHeld ?_ (by intro W hSw;obtain⟨s1,s2,s3,s4⟩:=hSw;go_simp;(try with_reducible rfl))
 go_simp;refine bH 8 rfl hHeld ?_;refine bH 9 rfl hHeld ?_;refine bH 10 rfl hHeld ?_ (by intro W hSw;have hlt:(n:Int)<(n:Int)+1:=(by omega);go_simp;(try with_reducible rfl))
 refine bH 11 rfl hHeld ?_ (by intro W hSw;obtain⟨s1,s2,s3,s4⟩:=hSw;have q0:W.cell? ⟨gl,n*6,none⟩=some (.int .i64 q.h.aC.round):=s3 0 _ rfl;have q1:W.cell? ⟨gl,n*6+1,none⟩=some (.int .i64 q.h.aC.node):=s3 1 _ rfl;have q2:W.cell? ⟨gl,n*6+2,none⟩=some (.int .i64 q.h.base):=s3 2 _ rfl;have q3:W.cell? ⟨gl,n*6+3,none⟩=some (.slice io ik ic):=s3 3 _ rfl;have q4:W.cell? ⟨gl,n*6+4,none⟩=some (.slice ao ak ac):=s3 4 _ rfl;have q5:W.cell? ⟨gl,n*6+5,none⟩=some (.slice co ck cc):=s3 5 _ rfl;go_simp;(try with_reducible rfl))
 go_simp;refine bH 12 rfl hHeld ?_;refine bH 13 rfl hHeld ?_;refine bH 14 rfl hHeld ?_;refine bH 15 rfl hHeld ?_ (by intro W hSw;obtain⟨s1,s2,s3,s4⟩:=hSw;go_simp;(try with_reducible rfl))
 go_simp;refine bH 16 rfl hHeld ?_;refine bH 17 rfl hHeld ?_;refine bH 18 rfl hHeld ?_;refine bH 19 rfl hHeld ?_ (by intro W hSw;obtain⟨s1,s2,s3,s4⟩:=hSw;go_simp;(try with_reducible rfl))
 go_simp;refine bH 20 rfl hHeld ?_;refine bH 21 rfl hHeld ?_;refine bH 22 rfl hHeld ?_ (by intro W hSw;have hlt:(n:Int)<(n:Int)+1:=(by omega);go_simp;(try with_reducible rfl))
 refine bH 23 rfl hHeld ?_ (by intro W hSw;obtain⟨s1,s2,s3,s4⟩:=hSw;go_simp;(try with_reducible rfl))
 refine wpAnyH_ready (rs := [24]) (by kernel_rfl) (by simp) ?_
 refine bq 24 33 (.tmp 2) (.tmp 15) rfl rfl rfl w.heap.size 0 33 (Hd.fQ Bl.zero 0 Nil Nil Nil) (Hd.fQ q.h.aC q.h.base (.slice io ik ic) (.slice ao ak ac) (.slice co ck cc)) (.agg (Hd.fQ q.h.aC q.h.base (.slice io ik ic) (.slice ao ak ac) (.slice co ck cc))) (Hd.fQ q.h.aC q.h.base (.slice io ik ic) (.slice ao ak ac) (.slice co ck cc)).toList ?x24 ?y24 rfl (by kernel_rfl) rfl oC.ag (Nat.le_of_ble_eq_true rfl) rfl ?k24
 case x24=>kernel_rfl
 case y24=>kernel_rfl
 intro w2 hl2 hg2
 have hb2:Below w.heap.size w w2:=aG.grown hg2 aG.size (fun j e=>by cases e;exact Nat.le_refl _)
 have ej:=aa hl2;have aR:=aa hb2;clear hl2 hg2 hb2;have up : ∀(a:Addr) u,w.cell? a=some u->w2.cell? a=some u:=fun a u h=>(aR.cell (World.block_lt_of_cell? w a h)).trans h
 have kM:Hid (w2.cell? ⟨g,0,none⟩=some (.slice (some ⟨gl,0,none⟩) (n+1) cl)∧w2.cell? ⟨g,1,none⟩=some (.slice (some ⟨gf,0,none⟩) (n+1) cf)∧(∀j u,(Hd.cells q.h (.slice io ik ic) (.slice ao ak ac) (.slice co ck cc))[j]? = some u->w2.cell? ⟨gl,n*6+j,none⟩=some u)∧w2.cell? ⟨gf,n,none⟩=some (.int .i64 q.f)):=⟨up _ _ HW.1,up _ _ HW.2.1,fun j u hj=>up _ _ (HW.2.2.1 j u hj),up _ _ HW.2.2.2⟩
 clear up;refine⟨kM.out,fun hHeld => ?_⟩
 refine bH 25 rfl hHeld ?_;refine wpAnyH_done (by kernel_rfl) ?_ _
 clear hHeld;go_wp2;exact KA (g:=w.heap.size) rfl rfl (⟨ej.out,⟨_,_,_,rfl⟩,⟨_,_,_,rfl⟩,⟨_,_,_,rfl⟩⟩:aB w2 w.heap.size 33 q.h.aC q.h.base (.slice io ik ic) (.slice ao ak ac) (.slice co ck cc)) rfl ⟨rfl,aR.out⟩
structure kX(O:Nat->Prop)(w:World)(g:Nat)(vL vF:Value)(ls fs:List (Array Value)):Prop where
 ag:ae w g 58 #[vL,vF]
 kW:aU w 0 33 6 vL ls
 kC:aU w 0 3 1 vF fs
 here:O g
 Kv : ∀b,vL.ownBlock=some b->O b
 Kw : ∀b,vF.ownBlock=some b->O b
theorem fw.bare{O D:Nat->Prop}{w:World}{g:Nat}{vL vF:Value}{qs:List eE}(p:fw O D w g vL vF qs):kX O w g vL vF (qs.map eE.cells) (qs.map eE.num):=⟨p.ag,p.kW,p.kC,p.here,p.Kv,p.Kw⟩
theorem kX.imp{O O' : Nat->Prop}{w:World}{g:Nat}{vL vF:Value}{ls fs:List (Array Value)}(m:kX O w g vL vF ls fs)(h : ∀b,O b->O' b):kX O' w g vL vF ls fs:=⟨m.ag,m.kW,m.kC,h _ m.here,fun b e=>h b (m.Kv b e),fun b e=>h b (m.Kw b e)⟩
theorem KC{w:World}{b1 b2 k1 k2:Nat}{E1 E2:TypeId}{v1 v2:Value}{l1 l2:List (Array Value)}(h1:aU w b1 E1 k1 v1 l1)(h2:aU w b2 E2 k2 v2 l2)(hE:E1≠E2){b:Nat}(e1:v1.ownBlock=some b)(e2:v2.ownBlock=some b):False:=by
 obtain⟨c1,a1,_⟩:=h1.cells e1;obtain⟨c2,a2,_⟩:=h2.cells e2;rw[a1]at a2
 cases a2;exact hE rfl
theorem fH{w:World}{b1 k1 g:Nat}{E1 T:TypeId}{v1:Value}{l1:List (Array Value)}{vs:Array Value}(h1:aU w b1 E1 k1 v1 l1)(h2:ae w g T vs)(hE:E1≠T)(e1:v1.ownBlock=some g):False:=by
 obtain⟨c1,a1,_⟩:=h1.cells e1;rw[show w.heap[g]? = _ from h2]at a1
 cases a1;exact hE rfl
theorem kX.KD{O:Nat->Prop}{w w1 w2 w3:World}{g:Nat}{vL vF DA : Value}{ls fs ZM : List (Array Value)}(m:kX O w g vL vF ls fs)(hb:Below w.heap.size w w1)(hown:aU w2 0 33 6 DA ZM)(hg:w1.grownBy w2 vL.ownBlock)
 (ha:DA.ownBlock=vL.ownBlock∨DA.ownBlock=some w1.heap.size) (hl:ae w3 g 58 #[DA, vF]) (hg3:w2.grownBy w3 (some g)):kX (fun b=>O b∨w.heap.size<=b) w3 g DA vF ZM fs∧Kp (fun b _ => ¬O b) w w3:=by
 have l1:=m.ag.below hb m.ag.lt;have r1:aU w1 0 33 6 vL ls:=m.kW.stays fun b e=>hb.block _ (m.kW.lt b e).2
 have f1:aU w1 0 3 1 vF fs:=m.kC.stays fun b e=>hb.block _ (m.kC.lt b e).2
 have k2:Kp (fun b _=>vL.ownBlock≠some b) w1 w2:=Kp.aI hg fun b o e _ h=>h e
 have l2:=k2.ag l1 fun _ e=>fH r1 l1 (by decide) e
 have f2:aU w2 0 3 1 vF fs:=f1.stays fun b e=>k2.block (f1.lt b e).2 fun _ e' => KC r1 f1 (by decide) e' e
 have k3:Kp (fun b _=>b≠g) w2 w3:=Kp.aI hg3 fun b o e _ h=>h (by simpa using e.symm)
 refine⟨⟨hl,hown.stays fun b e=>k3.block (hown.lt b e).2 fun _ e' => fH hown l2 (by decide) (e' ▸ e),f2.stays fun b e=>k3.block (f2.lt b e).2 fun _ e' => fH f2 l2 (by decide) (e' ▸ e), .inl m.here,fun b e => ?_,fun b e => .inl (m.Kw b e)⟩, ?_⟩
 ·rcases ha with ha | ha
  ·exact .inl (m.Kv b (ha ▸ e))
  ·have:=hb.size
   rw[ha]at e
   simp only[Option.some.injEq]at e
   exact .inr (by omega)
 ·exact((Kp.all hb).trans (Kp.aI hg fun b o e _ h=>h (m.Kv b e))).trans (Kp.aI hg3 fun b o e _ h=>h (by simp only[Option.some.injEq]at e;exact e ▸ m.here))
theorem kX.KE{O:Nat->Prop}{w w1 w2 w3:World}{g:Nat}{vL vF DB : Value}{ls fs fs' : List (Array Value)}(m:kX O w g vL vF ls fs)(hb:Below w.heap.size w w1)(hown:aU w2 0 3 1 DB fs')(hg:w1.grownBy w2 vF.ownBlock)
 (ha:DB.ownBlock=vF.ownBlock∨DB.ownBlock=some w1.heap.size) (hl:ae w3 g 58 #[vL,DB]) (hg3:w2.grownBy w3 (some g)):kX (fun b=>O b∨w.heap.size<=b) w3 g vL DB ls fs' ∧ Kp (fun b _ => ¬O b) w w3:=by
 have l1:=m.ag.below hb m.ag.lt;have r1:aU w1 0 33 6 vL ls:=m.kW.stays fun b e=>hb.block _ (m.kW.lt b e).2
 have f1:aU w1 0 3 1 vF fs:=m.kC.stays fun b e=>hb.block _ (m.kC.lt b e).2
 have k2:Kp (fun b _=>vF.ownBlock≠some b) w1 w2:=Kp.aI hg fun b o e _ h=>h e
 have l2:=k2.ag l1 fun _ e=>fH f1 l1 (by decide) e
 have r2:aU w2 0 33 6 vL ls:=r1.stays fun b e=>k2.block (r1.lt b e).2 fun _ e' => KC r1 f1 (by decide) e e'
 have k3:Kp (fun b _=>b≠g) w2 w3:=Kp.aI hg3 fun b o e _ h=>h (by simpa using e.symm)
 refine⟨⟨hl,r2.stays fun b e=>k3.block (r2.lt b e).2 fun _ e' => fH r2 l2 (by decide) (e' ▸ e),hown.stays fun b e=>k3.block (hown.lt b e).2 fun _ e' => fH hown l2 (by decide) (e' ▸ e), .inl m.here,fun b e => .inl (m.Kv b e),fun b e => ?_⟩, ?_⟩
 ·rcases ha with ha | ha
  ·exact .inl (m.Kw b (ha ▸ e))
  ·have:=hb.size
   rw[ha]at e
   simp only[Option.some.injEq]at e
   exact .inr (by omega)
 ·exact((Kp.all hb).trans (Kp.aI hg fun b o e _ h=>h (m.Kw b e))).trans (Kp.aI hg3 fun b o e _ h=>h (by simp only[Option.some.injEq]at e;exact e ▸ m.here))
theorem fw.put{O D X:Nat->Prop}{w w' : World}{g:Nat}{vL vF DA DB : Value}{qs:List eE}(p:fw O D w g vL vF qs)(q:eE)(hX:bL X w q.h q.vi q.va q.vc)(Pn : ∀b,X b -> ¬O b)
 (m:kX (fun b=>O b∨w.heap.size<=b) w' g DA DB ((qs ++ [q]).map eE.cells) ((qs ++ [q]).map eE.num)) (hk:Kp (fun b _ => ¬O b) w w') :
 fw (fun b=>O b∨w.heap.size<=b) (fun b=>(D b∨X b)∧b<w.heap.size) w' g DA DB (qs ++ [q]):=by
 refine⟨m.ag,m.kW,m.kC,m.here,m.Kv,m.Kw,fun b h1 h2 => ?_,fun x hx => ?_⟩
 ·rcases h1 with h1 | h1
  ·rcases h2.1 with h3 | h3
   ·exact p.apart b h1 h3
   ·exact Pn b h3 h1
  ·omega
 ·rcases List.mem_append.1 hx with hx | hx
  ·exact((p.data x hx).tight.imp fun b h=>(⟨.inl h.1,h.2⟩:(D b∨X b)∧b<w.heap.size)).keep (hk.keep fun b _ _ _ _ h h' => h.1.elim (p.apart b h') (Pn b · h'))
  ·obtain rfl:x=q:=by simpa using hx
   exact(hX.tight.imp fun b h=>(⟨.inr h.1,h.2⟩:(D b∨X b)∧b<w.heap.size)).keep (hk.keep fun b _ _ _ _ h h' => h.1.elim (p.apart b h') (Pn b · h'))
def KF(O D X:Nat->Prop)(w:World)(g:Nat)(ps:List (Hd.az × Int))(w' : World):Prop:=gg (fun b=>O b∨w.heap.size<=b) (fun b=>(D b∨X b)∧b<w.heap.size) w' g ps∧Kp (fun b _ => ¬O b) w w'
theorem BC : (Tryz.prog.info? 3).map (fun i=>(i.zero,i.size,i.bytes))=some (some (.int .i64 0),1,8):=by kernel_rfl
theorem G8 : (Tryz.prog.info? 33).map (fun i=>(i.zero,i.size,i.bytes))=some (some (.agg #[.int .i64 0, .int .i64 0, .int .i64 0, .slice none 0 0, .slice none 0 0, .slice none 0 0]),6,96):=by kernel_rfl
theorem sG{O D X:Nat->Prop}{w:World}{g:Nat}{vL vF:Value}{qs:List eE}(q:eE)(p:fw O D w g vL vF qs)(hn:qs.length<=1000)(hX:bL X w q.h q.vi q.va q.vc)(Pn : ∀b,X b -> ¬O b) :
 Calls Tryz.prog 17 #[Wl.ptr g, .agg (Hd.cells q.h q.vi q.va q.vc), .int .i64 q.f] w (fun e w' => e = .returned (.tuple #[])∧KF O D X w g ((qs ++ [q]).map eE.is) w'):=by
 obtain⟨h,f,vi,va,vc⟩:=q;dsimp only at hX ⊢
 obtain⟨⟨io,ik,ic,rfl⟩,⟨ao,ak,ac,rfl⟩,⟨co,ck,cc,rfl⟩⟩:=hX.rows.sl;have lV:Hid (∀DA DB w', kX (fun b=>O b∨w.heap.size<=b) w' g DA DB (qs.map eE.cells ++ [(Hd.cells h (.slice io ik ic) (.slice ao ak ac) (.slice co ck cc))]) (qs.map eE.num ++ [#[.int .i64 f]])->Kp (fun b _ => ¬O b) w w' -> KF O D X w g ((qs ++ [(⟨h,f, .slice io ik ic, .slice ao ak ac, .slice co ck cc⟩:eE)]).map eE.is) w') :=
  aa fun DA DB w' m hk=>⟨⟨DA, DB, _,p.put ⟨h,f, .slice io ik ic, .slice ao ak ac, .slice co ck cc⟩ hX Pn (by simpa[eE.cells,eE.num] using m) hk,rfl⟩,hk⟩
 have HM:=aa p.bare;have hnL:(qs.map eE.cells).length<=1000:=by simpa using hn
 have hnF:(qs.map eE.num).length<=1000:=by simpa using hn
 obtain⟨ls,hls⟩ : ∃ls,ls=qs.map eE.cells:=⟨_,rfl⟩;obtain⟨fs,zE⟩ : ∃fs,fs=qs.map eE.num:=⟨_,rfl⟩;rw[<- hls]at lV HM hnL
 rw[<- zE]at lV HM hnF
 clear hX Pn p hn hls zE;obtain⟨ol,cl,rfl⟩:=aU.shape HM.kW;obtain⟨oF,cF,rfl⟩:=aU.shape HM.kC;obtain⟨w1,e1,l1,hb1,hs1⟩:=bR w 33 (Hd.cells h (.slice io ik ic) (.slice ao ak ac) (.slice co ck cc));have aG:Hid (Below w.heap.size w w1.drew):=hb1.drew;have lU:Hid (aB w1.drew w.heap.size 33 h.aC h.base (.slice io ik ic) (.slice ao ak ac) (.slice co ck cc)):=⟨l1.below (drawn w1 1) l1.lt,⟨_,_,_,rfl⟩,⟨_,_,_,rfl⟩,⟨_,_,_,rfl⟩⟩;have m0:w1.drew.cell? ⟨g,0,none⟩=some (.slice ol ls.length cl):=(HM.ag.below aG.out HM.ag.lt).cell 0 _ rfl;have aR:Hid (Below w.heap.size w (w1.alloc (.cells (Hd.cells h (.slice io ik ic) (.slice ao ak ac) (.slice co ck cc)) 33)).drew):=(hb1.alloc hb1.size _).drew;have jX:Hid (ae (w1.alloc (.cells (Hd.cells h (.slice io ik ic) (.slice ao ak ac) (.slice co ck cc)) 33)).drew w1.heap.size 33 (Hd.cells h (.slice io ik ic) (.slice ao ak ac) (.slice co ck cc))):=(ae.new w1 _ _).below (drawn _ 1) (ae.new w1 _ _).lt;have ej:Hid (ae (w1.alloc (.cells (Hd.cells h (.slice io ik ic) (.slice ao ak ac) (.slice co ck cc)) 33)).drew g 58 #[.slice ol ls.length cl, .slice oF fs.length cF]):=HM.ag.below aR.out HM.ag.lt;have bC:Hid (aU (w1.alloc (.cells (Hd.cells h (.slice io ik ic) (.slice ao ak ac) (.slice co ck cc)) 33)).drew 0 33 6 (.slice ol ls.length cl) ls):=HM.kW.stays fun b e=>aR.block _ (HM.kW.lt b e).2
 have kM:Hid (aB (w1.alloc (.cells (Hd.cells h (.slice io ik ic) (.slice ao ak ac) (.slice co ck cc)) 33)).drew w.heap.size 33 h.aC h.base (.slice io ik ic) (.slice ao ak ac) (.slice co ck cc)):=⟨l1.below ((Below.refl _ w1).alloc (Nat.le_refl _) _).drew l1.lt,⟨_,_,_,rfl⟩,⟨_,_,_,rfl⟩,⟨_,_,_,rfl⟩⟩;have VR:Hid (w.heap.size≠g):=aa (show w.heap.size≠g by have:=HM.ag.lt;omega)
 obtain⟨v3,w3,hrun,fM,hg3,ZN⟩:=bG (P:=Tryz.prog) (w:=(w1.alloc (.cells (Hd.cells h (.slice io ik ic) (.slice ao ak ac) (.slice co ck cc)) 33)).drew) 55 55 33 6 96 _ Tryz.underlying55 G8 rfl (by decide) 0 ls [(Hd.cells h (.slice io ik ic) (.slice ao ak ac) (.slice co ck cc))] (.slice ol ls.length cl) (.slice (some ⟨w1.heap.size,0,none⟩) 1 1) bC.out (aQ.single jX.out) (fun r hr=>by obtain rfl:=List.mem_singleton.1 hr;exact⟨rfl,by rw[<- Array.all_toList];rfl⟩) (by simp;omega) (by simp;omega) (Nat.zero_le _)
 obtain⟨o3,c3,rfl⟩:=aU.shape fM;have fY:Hid (ae w3 g 58 #[.slice ol ls.length cl, .slice oF fs.length cF]):=ej.kept hg3 fun e=>fH bC.out ej.out (by decide) e.symm
 have zU:Hid (aB w3 w.heap.size 33 h.aC h.base (.slice io ik ic) (.slice ao ak ac) (.slice co ck cc)):=⟨kM.ag.kept hg3 fun e=>by have:=(HM.kW.lt _ e.symm).2;omega,⟨_,_,_,rfl⟩,⟨_,_,_,rfl⟩,⟨_,_,_,rfl⟩⟩
 have gV:=aa hrun;have om:=aa fM;have pT:=aa hg3;have VS:=aa ZN;clear l1 hb1 hs1 hrun fM hg3 ZN
 go_enter Tryz.func17,Tryz.ntmps17
 go_wp2;refine wp_region_held_drew (S:=fun W=>aB W w.heap.size 33 h.aC h.base (.slice io ik ic) (.slice ao ak ac) (.slice co ck cc)) (by kernel_rfl) lU.out (fun hHeld => ?_)
 refine bH 0 rfl hHeld ?_;refine bH 1 rfl hHeld ?_;refine bH 2 rfl hHeld ?_;refine bH 3 rfl hHeld ?_;refine bH 5 rfl hHeld ?_ (by intro W hSw;obtain⟨q0,q1,q2,q3,q4,q5⟩:=hSw.all;go_simp;(try with_reducible rfl))
 refine wpAnyH_ready (rs := [4,6]) (by kernel_rfl) (by simp) ?_
 refine AllReadyH.cons rfl (fun K hK => ?_) (AllReadyH.cons rfl (fun K hK => ?_) AllReadyH.nil)
 ·rw[if_pos (by rfl)]
  go_simp;refine hK.out _ _ lU.out (fun hHeld => ?_)
  clear hK K;refine wpAnyH_ready (rs := [6]) (by kernel_rfl) (by simp) ?_
  refine AllReadyH.cons rfl (fun K hK => ?_) AllReadyH.nil
  rw[if_pos (by rfl)]
  go_simp;refine hK.out _ _ kM.out (fun hHeld => ?_)
  clear hK K;refine wpAnyH_ready (rs := [7]) (by kernel_rfl) (by simp) ?_
  refine bt 7 (.tmp 10) (.tmp 12) 55 rfl rfl rfl (.slice ol ls.length cl) (.slice (some ⟨w1.heap.size,0,none⟩) 1 1) (.slice o3 (ls ++ [(Hd.cells h (.slice io ik ic) (.slice ao ak ac) (.slice co ck cc))]).length c3) w3 ?s7a ?Xk gV.out ⟨zU.out,fun hHeld => ?_⟩
  case s7a=>kernel_rfl
  case Xk=>kernel_rfl
  refine bH 8 rfl hHeld ?_;refine bH 9 rfl hHeld ?_;refine wpAnyH_ready (rs := [10]) (by kernel_rfl) (by simp) ?_
  refine bq 10 55 (.tmp 15) (.tmp 13) rfl rfl rfl g 0 58 #[.slice ol ls.length cl, .slice oF fs.length cF] #[.slice o3 (ls ++ [(Hd.cells h (.slice io ik ic) (.slice ao ak ac) (.slice co ck cc))]).length c3, .slice oF fs.length cF] (.slice o3 (ls ++ [(Hd.cells h (.slice io ik ic) (.slice ao ak ac) (.slice co ck cc))]).length c3) [.slice o3 (ls ++ [(Hd.cells h (.slice io ik ic) (.slice ao ak ac) (.slice co ck cc))]).length c3] ?Xl ?Xm rfl (by kernel_rfl) rfl fY.out (Nat.le_of_ble_eq_true rfl) rfl ?ab6
  case Xl=>kernel_rfl
  case Xm=>kernel_rfl
  intro w4 hl4 hg4
  have tv:Hid (aB w4 w.heap.size 33 h.aC h.base (.slice io ik ic) (.slice ao ak ac) (.slice co ck cc)):=zU.kept hg4 VR.out;have j6:=aa (HM.KD aR.out om.out pT.out VS.out hl4 hg4);clear hl4 hg4;refine⟨tv.out,fun hHeld => ?_⟩
  refine wpAnyH_done (by kernel_rfl) ?_ _
  clear hHeld;clear tv;have m4:w4.cell? ⟨g,1,none⟩=some (.slice oF fs.length cF):=j6.1.ag.cell 1 _ rfl;obtain⟨v5,w5,uR,eW,bU,ra⟩:=bG (P:=Tryz.prog) (w:=w4.alloc (.cells #[.int .i64 f] 3)) 56 56 3 1 8 _ Tryz.underlying56 BC rfl (by decide) 0 fs [#[.int .i64 f]] (.slice oF fs.length cF) (.slice (some ⟨w4.heap.size,0,none⟩) 1 1) (j6.1.kC.alloc _) (aQ.single (ae.new w4 _ _)) (fun r hr=>by obtain rfl:=List.mem_singleton.1 hr;exact⟨rfl,by rw[<- Array.all_toList];rfl⟩) (by simp;omega) (by simp;omega) (Nat.zero_le _)
  obtain⟨o5,c5,rfl⟩:=aU.shape eW;rw[show(fs ++ [#[Value.int .i64 f]]).length=fs.length+1 by simp]at uR eW ra
  have bK:Hid (Below w4.heap.size w4 (w4.alloc (.cells #[.int .i64 f] 3))):=(Below.refl _ w4).alloc (Nat.le_refl _) _;have gQ:Hid (ae w5 g 58 #[.slice o3 (ls ++ [(Hd.cells h (.slice io ik ic) (.slice ao ak ac) (.slice co ck cc))]).length c3, .slice oF fs.length cF]):=(j6.1.ag.below bK.out j6.1.ag.lt).kept bU fun e=>fH (j6.1.kC.alloc (.cells #[.int .i64 f] 3)) (j6.1.ag.below bK.out j6.1.ag.lt) (by decide) e.symm
  have m5:w5.cell? ⟨g,1,none⟩=some (.slice oF fs.length cF):=gQ.cell 1 _ rfl;have d5:=gQ.free 1;have KG:=aa uR;have iW:=aa eW;have j3:=aa bU;have Ag:=aa ra;clear uR eW bU ra gV om pT VS zU fY kM bC ej jX aR
  go_wp2_with (at_builtin;refine step_append rfl _ _ 56 rfl (.slice oF fs.length cF) (.slice (some ⟨w4.heap.size,0,none⟩) 1 1) (.slice o5 (fs.length+1) c5) rfl rfl KG.out ?_)
  go_end0
  obtain⟨m6,k6⟩:=j6.1.KE bK.out iW.out j3.out Ag.out (gQ.set 1 (.slice o5 (fs.length+1) c5)) (au w5 g 1 _);have tY:=j6.2.size;exact⟨rfl,lV.out _ _ _ (m6.imp fun b h=>h.elim id fun h => .inr (by omega)) (j6.2.then k6 fun b o e h h' => h'.elim h fun h' => by have:=aK e;omega)⟩
 ·rw[if_pos (by rfl)]
  go_simp;refine hK.out _ _ kM.out (fun hHeld => ?_)
  clear hK K;have m2:(w1.alloc (.cells #[.int .i64 h.aC.round, .int .i64 h.aC.node, .int .i64 h.base, .slice io ik ic, .slice ao ak ac, .slice co ck cc] 33)).cell? ⟨g,0,none⟩=some (.slice ol ls.length cl):=ej.cell 0 _ rfl;refine wpAnyH_ready (rs := [4]) (by kernel_rfl) (by simp) ?_
  refine AllReadyH.cons rfl (fun K hK => ?_) AllReadyH.nil
  rw[if_pos (by rfl)]
  go_simp;clear m2;refine hK.out _ _ kM.out (fun hHeld => ?_)
  clear hK K;refine wpAnyH_ready (rs := [7]) (by kernel_rfl) (by simp) ?_
  refine bt 7 (.tmp 10) (.tmp 12) 55 rfl rfl rfl (.slice ol ls.length cl) (.slice (some ⟨w1.heap.size,0,none⟩) 1 1) (.slice o3 (ls ++ [(Hd.cells h (.slice io ik ic) (.slice ao ak ac) (.slice co ck cc))]).length c3) w3 ?s7b ?Xn gV.out ⟨zU.out,fun hHeld => ?_⟩
  case s7b=>kernel_rfl
  case Xn=>kernel_rfl
  refine bH 8 rfl hHeld ?_;refine bH 9 rfl hHeld ?_;refine wpAnyH_ready (rs := [10]) (by kernel_rfl) (by simp) ?_
  refine bq 10 55 (.tmp 15) (.tmp 13) rfl rfl rfl g 0 58 #[.slice ol ls.length cl, .slice oF fs.length cF] #[.slice o3 (ls ++ [(Hd.cells h (.slice io ik ic) (.slice ao ak ac) (.slice co ck cc))]).length c3, .slice oF fs.length cF] (.slice o3 (ls ++ [(Hd.cells h (.slice io ik ic) (.slice ao ak ac) (.slice co ck cc))]).length c3) [.slice o3 (ls ++ [(Hd.cells h (.slice io ik ic) (.slice ao ak ac) (.slice co ck cc))]).length c3] ?Xo ?Xp rfl (by kernel_rfl) rfl fY.out (Nat.le_of_ble_eq_true rfl) rfl ?ab8
  case Xo=>kernel_rfl
  case Xp=>kernel_rfl
  intro w4 hl4 hg4
  have tv:Hid (aB w4 w.heap.size 33 h.aC h.base (.slice io ik ic) (.slice ao ak ac) (.slice co ck cc)):=zU.kept hg4 VR.out;have j6:=aa (HM.KD aR.out om.out pT.out VS.out hl4 hg4);clear hl4 hg4;refine⟨tv.out,fun hHeld => ?_⟩
  refine wpAnyH_done (by kernel_rfl) ?_ _
  clear hHeld;clear tv;have m4:w4.cell? ⟨g,1,none⟩=some (.slice oF fs.length cF):=j6.1.ag.cell 1 _ rfl;obtain⟨v5,w5,uR,eW,bU,ra⟩:=bG (P:=Tryz.prog) (w:=w4.alloc (.cells #[.int .i64 f] 3)) 56 56 3 1 8 _ Tryz.underlying56 BC rfl (by decide) 0 fs [#[.int .i64 f]] (.slice oF fs.length cF) (.slice (some ⟨w4.heap.size,0,none⟩) 1 1) (j6.1.kC.alloc _) (aQ.single (ae.new w4 _ _)) (fun r hr=>by obtain rfl:=List.mem_singleton.1 hr;exact⟨rfl,by rw[<- Array.all_toList];rfl⟩) (by simp;omega) (by simp;omega) (Nat.zero_le _)
  obtain⟨o5,c5,rfl⟩:=aU.shape eW;rw[show(fs ++ [#[Value.int .i64 f]]).length=fs.length+1 by simp]at uR eW ra
  have bK:Hid (Below w4.heap.size w4 (w4.alloc (.cells #[.int .i64 f] 3))):=(Below.refl _ w4).alloc (Nat.le_refl _) _;have gQ:Hid (ae w5 g 58 #[.slice o3 (ls ++ [(Hd.cells h (.slice io ik ic) (.slice ao ak ac) (.slice co ck cc))]).length c3, .slice oF fs.length cF]):=(j6.1.ag.below bK.out j6.1.ag.lt).kept bU fun e=>fH (j6.1.kC.alloc (.cells #[.int .i64 f] 3)) (j6.1.ag.below bK.out j6.1.ag.lt) (by decide) e.symm
  have m5:w5.cell? ⟨g,1,none⟩=some (.slice oF fs.length cF):=gQ.cell 1 _ rfl;have d5:=gQ.free 1;have KG:=aa uR;have iW:=aa eW;have j3:=aa bU;have Ag:=aa ra;clear uR eW bU ra gV om pT VS zU fY kM bC ej jX aR
  go_wp2_with (at_builtin;refine step_append rfl _ _ 56 rfl (.slice oF fs.length cF) (.slice (some ⟨w4.heap.size,0,none⟩) 1 1) (.slice o5 (fs.length+1) c5) rfl rfl KG.out ?_)
  go_end0
  obtain⟨m6,k6⟩:=j6.1.KE bK.out iW.out j3.out Ag.out (gQ.set 1 (.slice o5 (fs.length+1) c5)) (au w5 g 1 _);have tY:=j6.2.size;exact⟨rfl,lV.out _ _ _ (m6.imp fun b h=>h.elim id fun h => .inr (by omega)) (j6.2.then k6 fun b o e h h' => h'.elim h fun h' => by have:=aK e;omega)⟩
section
variable {ops : Array Oper} {rest : List Oper} {op : Oper} {a : Act} {w : World} {Q : Exit -> Act -> World -> Prop} {g : Nat} {vL vF : Value}
theorem KH(hgd:op.guard=none)(x y:Operand)(ho:op.op = .store 55 x y)(o:Option Addr)(n c:Nat)(hx:a.eval x = .pointer (some ⟨g,0,none⟩))(hy:a.eval y = .slice o n c)(hl:ae w g 58 #[vL,vF])
 (hK : ∀w', ae w' g 58 #[.slice o n c,vF]->w.grownBy w' (some g)->wpList Tryz.prog ops Q rest (a.put op.dst undef) w'):wpList Tryz.prog ops Q (op :: rest) a w :=
 aP hgd _ x y ho g 0 _ _ #[.slice o n c,vF] (.slice o n c) [.slice o n c] hx hy rfl (by kernel_rfl) rfl hl (Nat.le_of_ble_eq_true rfl) rfl hK
theorem KI(hgd:op.guard=none)(x y:Operand)(ho:op.op = .store 56 x y)(o:Option Addr)(n c:Nat)(hx:a.eval x = .pointer (some ⟨g,1,none⟩))(hy:a.eval y = .slice o n c)(hl:ae w g 58 #[vL,vF])
 (hK : ∀w', ae w' g 58 #[vL, .slice o n c]->w.grownBy w' (some g)->wpList Tryz.prog ops Q rest (a.put op.dst undef) w'):wpList Tryz.prog ops Q (op :: rest) a w :=
 aP hgd _ x y ho g 1 _ _ #[vL, .slice o n c] (.slice o n c) [.slice o n c] hx hy rfl (by kernel_rfl) rfl hl (Nat.le_of_ble_eq_true rfl) rfl hK
end
theorem tI{w:World}{b k:Nat}{E:TypeId}{r:Array Value}(h:ae w b E r)(hk:r.size=k):aU w 0 E k (.slice (some ⟨b,0,none⟩) 1 1) [r]:=by
 refine⟨by simp[cV,hk], .inr ⟨b,1,r,rfl,Nat.zero_le _,h,by simp,by simp[maxLen],by simp[hk],by subst hk;simp[cV,List.take_of_length_le]⟩⟩
theorem fw.only{O D:Nat->Prop}{w w' : World}{g:Nat}{vL vF DA DB : Value}{qs:List eE}{q:eE}(p:fw O D w g vL vF (qs ++ [q]))(m:kX (fun b=>O b∨w.heap.size<=b) w' g DA DB [q.cells] [q.num])(hk:Kp (fun b _ => ¬O b) w w') :
 KF O D D w g [q.is] w' := by
 refine⟨⟨DA, DB, [q],⟨m.ag,m.kW,m.kC,m.here,m.Kv,m.Kw,fun b h1 h2 => ?_,fun x hx => ?_⟩,rfl⟩,hk⟩
 ·rcases h1 with h1 | h1
  ·exact h2.1.elim (p.apart b h1) (p.apart b h1)
  ·omega
 ·obtain rfl:x=q:=by simpa using hx
  exact((p.data x (by simp)).tight.imp fun b h=>(⟨.inl h.1,h.2⟩:(D b∨D b)∧b<w.heap.size)).keep (hk.keep fun b _ _ _ _ h h' => h.1.elim (p.apart b h') (p.apart b h'))
theorem yU{O D:Nat->Prop}{w:World}{g:Nat}{vL vF:Value}{qs:List eE}{q:eE}(p:fw O D w g vL vF (qs ++ [q]))(hn:qs.length<=1000) :
 Calls Tryz.prog 15 #[Wl.ptr g] w (fun e w' => e = .returned (.tuple #[])∧KF O D D w g [q.is] w'):=by
 obtain⟨h,f,vi,va,vc⟩:=q;obtain⟨⟨io,ik,ic,rfl⟩,⟨ao,ak,ac,rfl⟩,⟨co,ck,cc,rfl⟩⟩:=(p.data ⟨h,f,vi,va,vc⟩ (by simp)).rows.sl
 have HP:=aa p;have BD:=aa (jm p hn);clear p
 go_enter Tryz.func15,Tryz.ntmps15
 go_wp2_with (first
  | (go_at_call 11;refine BD.mono ?_;rintro e w2 ⟨rfl,hb2⟩;have aR:=aa hb2;clear hb2)
  | (refine cT (p:=Bl.zero) (b:=0) (vi:=Nil) (va:=Nil) (vc:=Nil) rfl _ _ rfl rfl ⟨ae.new w2 33 _,⟨_,_,_,rfl⟩,⟨_,_,_,rfl⟩,⟨_,_,_,rfl⟩⟩ (w0:=w2.alloc (.cells (Hd.fQ h.aC h.base (.slice io ik ic) (.slice ao ak ac) (.slice co ck cc)) 33)) (T0:=33) ⟨ae.new w2 33 _,⟨_,_,_,rfl⟩,⟨_,_,_,rfl⟩,⟨_,_,_,rfl⟩⟩ rfl ?_;intro w3 hx3 hg3;have bh:Hid (Below w.heap.size w w3):=aR.trans ((aJ hg3).mono aR.size);obtain⟨q0,q1,q2,q3,q4,q5⟩:=hx3.all;clear hx3 hg3)
  | (refine KH rfl _ _ rfl _ _ _ rfl rfl ((HP.ag.below bh.out HP.ag.lt).below ((Below.refl _ w3).alloc (Nat.le_refl _) _) (Nat.lt_of_lt_of_le HP.ag.lt bh.size)) ?_;intro w5 eN bU;have Au:=aa (HP.bare.KD bh.out (tI (ae.new w3 33 (Hd.cells h (.slice io ik ic) (.slice ao ak ac) (.slice co ck cc))) rfl) (World.grownBy_alloc w3 _ _) (.inr rfl) eN bU);clear eN bU)
  | (refine KI rfl _ _ rfl _ _ _ rfl rfl (Au.1.ag.below ((Below.refl _ w5).alloc (Nat.le_refl _) _) Au.1.ag.lt) ?_;intro w7 dH cr;have ZO:=aa (Au.1.KE (Below.refl _ w5) (tI (ae.new w5 3 #[.int .i64 f]) rfl) (World.grownBy_alloc w5 _ _) (.inr rfl) dH cr);clear dH cr))
 go_end0
 have hs5:=Au.2.size;exact⟨rfl,HP.only (ZO.1.imp fun b h=>h.elim id fun h => .inr (by omega)) (Au.2.then ZO.2 fun b o e h h' => h'.elim h fun h' => by have:=aK e;omega)⟩
theorem gS.lone{q:Nat->Prop}{w:World}{g:Nat}{x:Re.Rec}{u:Value}(hl:ae w g 42 (Re.cells x u))(hg:q g)(hu:Reads w u x.aw)(hp:jh q u):gS (fun k _=>q k) w (.slice (some ⟨g,0,none⟩) 1 1) [x]:=by
 have h1:ae w g 42 (cV [Re.cells x u]).toArray:=by simpa[cV] using hl
 have hs:dC 12 [Re.cells x u]:=eM (ps := [(x,u)]) gK fun q hq=>by
  obtain rfl:q=(x,u):=by simpa using hq
  obtain⟨o,c,e⟩:=hu.shape;rw[e]
  rfl
 refine⟨[(x,u)],rfl,(aQ.lit h1 hs (by simp)).AW (by omega) hs (fun a n c e _=>by cases e;exact hg),fun p hp' => ?_⟩
 obtain rfl:p=(x,u):=by simpa using hp'
 exact hu.AW hp
theorem Reads.inT{q:Nat->Prop}{w:World}{v:Value}{l:List UInt8}(h:Reads w v l)(hq:jh q v):jh (fun b=>q b∧b<w.heap.size) v:=fun a n c e h0=>by
 refine⟨hq a n c e h0, ?_⟩;subst e;have hn:n=l.length:=by obtain⟨o,k,e'⟩:=h.shape;cases e'; rfl
 obtain⟨b,off,e2,hc⟩:=h.place (by omega)
 cases e2;obtain⟨c0,hc0⟩ : ∃c0,l[0]? = some c0:=⟨_,List.getElem?_eq_getElem (by omega)⟩
 exact World.block_lt_of_cell? w _ (hc 0 c0 hc0)
theorem G9{O D X:Nat->Prop}{n n4 m:Nat}(hp : ∀b,O b -> ¬D b)(hx : ∀b,X b -> ¬O b)(h:n<=n4)(hm:n<=m) : ∀b,(((D b∨X b∨b=n4)∧b<n4+1)∨m<=b) -> ¬(O b∧b<n):=fun b hb ho=>by
 rcases hb with ⟨hb | hb | hb,_⟩ | hb
 ·exact hp b ho.1 hb
 ·exact hx b hb ho.1
 ·omega
 ·omega
def pw(O D X:Nat->Prop)(w:World)(g:Nat)(ps:List (Hd.az × Int))(w' : World):Prop := ∃O' D', gg O' D' w' g ps∧(∀b,O' b->O b∨w.heap.size<=b)∧(∀b,D' b->D b∨X b∨w.heap.size<=b)∧Kp (fun b _ => ¬O b) w w'
theorem pw.QK{O D X X' : Nat->Prop}{w w6 w7:World}{g:Nat}{ps:List (Hd.az × Int)}(hb:Below w.heap.size w w6)(h:KF (fun b=>O b∧b<w.heap.size) (fun b=>D b∧b<w.heap.size) X' w6 g ps w7)(hX : ∀b,X' b->D b∨X b∨w.heap.size<=b):pw O D X w g ps w7 :=
 ⟨_,_,h.1,fun _ hb' => hb'.elim (fun x => .inl x.1) (fun x => .inr (Nat.le_trans hb.size x)),fun b hb' => hb'.1.elim (fun x => .inl x.1) (hX b),(Kp.all hb).then h.2 fun _ _ _ h h' => h h'.1⟩
theorem pw.same{O D X:Nat->Prop}{w w' : World}{g:Nat}{vL vF:Value}{qs:List eE}(p:fw O D w g vL vF qs)(hb:Below w.heap.size w w'):pw O D X w g (qs.map eE.is) w' := ⟨O,D,⟨vL,vF,qs,p.keep (Kp.all hb),rfl⟩,fun _ h => .inl h,fun _ h => .inl h,Kp.all hb⟩
theorem BF{O D X:Nat->Prop}{w:World}{g:Nat}{vL vF:Value}{qs:List eE}{q:eE}(p:fw O D w g vL vF (qs ++ [q]))(hn:qs.length<=900)(x:Re.Rec)(xi:Value)(hx:Reads w xi x.aw)(Ha:jh X xi)(Pn : ∀b,X b -> ¬O b)
 (hv:Hd.Valid q.h) (hl:q.h.acc.length<=100∧q.h.bl.length<=100) (EY:(Hd.recs q.h).length<=500) (hs : ∀y∈Hd.recs q.h ++ [x],y.cmd.aD 140737488355328) :
 Calls Tryz.prog 13 #[Wl.ptr g, .agg (Re.cells x xi)] w (fun e w' => e = .returned (.int .i64 (Sg.has q.f [x]))∧pw O D X w g (((qs ++ [q]).map eE.is)++(if Sg.has q.f [x]=0 then [(Hd.apply q.h x,q.f)]else [])) w'):=by
 obtain⟨h,f,vi,va,vc⟩:=q;obtain⟨⟨io,ik,ic,rfl⟩,⟨ao,ak,ac,rfl⟩,⟨co,ck,cc,rfl⟩⟩:=(p.data ⟨h,f,vi,va,vc⟩ (by simp)).rows.sl
 dsimp only at hv hl EY hs ⊢
 obtain⟨xo,xc,rfl⟩:=hx.shape;obtain⟨w1,e1,l1,hb1,hs1⟩:=bf w x (.slice xo x.aw.length xc);have L1:=aa l1;have aG:=aa hb1;have HP:=aa p;have BD:=aa (jm (p.keep (Kp.all hb1)) (by omega))
 have EZ:=aa hs1;have HQ:Hid (bL (fun b=>D b∧b<w.heap.size) w h (.slice io ik ic) (.slice ao ak ac) (.slice co ck cc)):=(HP.data ⟨h,f, .slice io ik ic, .slice ao ak ac, .slice co ck cc⟩ (by simp)).tight
 clear p l1 hb1 hs1;obtain⟨rv,I5⟩ : ∃rv,rv=Sg.has f [x]:=⟨_,rfl⟩;rw[<- I5];have N1:=aa I5;have VT:=aa (hx.inT Ha);have Sv:=aa Pn;have HV:=aa hv;have HL:=aa hl;have Po:=aa EY;have TE:Hid (∀W,Below w1.heap.size w1 W->Reads W (.slice xo x.aw.length xc) x.aw):=fun W h=>(hx.below aG.out).below h
 have HS:=aa hs;clear I5 hs;by_cases hz:rv=0
 rotate_left
 ·go_enter Tryz.func13,Tryz.ntmps13
  go_wp2_with (first
   | (go_at_call 11;refine BD.mono ?_;rintro e w2 ⟨rfl,hb2⟩;have aR:=aa hb2;clear hb2)
   | (refine cT (p:=Bl.zero) (b:=0) (vi:=Nil) (va:=Nil) (vc:=Nil) rfl _ _ rfl rfl ⟨ae.new w2 33 _,⟨_,_,_,rfl⟩,⟨_,_,_,rfl⟩,⟨_,_,_,rfl⟩⟩ (w0:=w2.alloc (.cells (Hd.fQ h.aC h.base (.slice io ik ic) (.slice ao ak ac) (.slice co ck cc)) 33)) (T0:=33) ⟨ae.new w2 33 _,⟨_,_,_,rfl⟩,⟨_,_,_,rfl⟩,⟨_,_,_,rfl⟩⟩ rfl ?_;intro w3 hx3 hg3;have bh:Hid (Below w1.heap.size w1 w3):=aR.trans ((aJ hg3).mono aR.size);have vN:=aa hx3;clear hx3 hg3;have L3:Hid (ai w3 w.heap.size x (.slice xo x.aw.length xc)):=L1.out.below bh.out (by have:=EZ.out;omega);obtain⟨r0,r1,r2,r3,r4,r5,r6,r7,r8,r9,r10,r11⟩:=L3.out.all)
   | (go_at_call 43;go_loud (refine(qz f (.slice (some ⟨w3.heap.size,0,none⟩) 1 1) [x] _ (gS.lone (q:=fun _=>True) (ae.new w3 _ (Re.cells x (.slice xo x.aw.length xc))) trivial (TE.out _ (bh.alloc bh.size _)) (fun _ _ _ _ _=>trivial)) (fun y hy=>HS.out y (by simp at hy;simp[hy]))).mono ?_;(rintro e w4 ⟨rfl,hb4⟩;rw[<- N1.out];have bJ:Hid (Below w3.heap.size w3 w4):=(((Below.refl _ w3).alloc (Nat.le_refl _) _).trans (hb4.mono (by simp)));clear hb4;have L4:Hid (ai w4 w.heap.size x (.slice xo x.aw.length xc)):=L3.out.below bJ.out L3.out.lt;have QC:Hid (aB w4 w2.heap.size 33 h.aC h.base (.slice io ik ic) (.slice ao ak ac) (.slice co ck cc)):=vN.below bJ.out vN.ag.lt;obtain⟨s0,s1,s2,s3,s4,s5,s6,s7,s8,s9,s10,s11⟩:=L4.out.all;obtain⟨q0,q1,q2,q3,q4,q5⟩:=QC.all))))
  go_ret;refine⟨rfl, ?_⟩;have h9:=pw.same (X:=X) HP.out ((aG.trans (bh.mono aG.size)).trans (bJ.mono (Nat.le_trans aG.size bh.size)))
  simpa[eE.is] using h9
 go_enter Tryz.func13,Tryz.ntmps13
 go_wp2_with (first
  | (go_at_call 11;refine BD.mono ?_;rintro e w2 ⟨rfl,hb2⟩;have aR:=aa hb2;clear hb2)
  | (refine cT (p:=Bl.zero) (b:=0) (vi:=Nil) (va:=Nil) (vc:=Nil) rfl _ _ rfl rfl ⟨ae.new w2 33 _,⟨_,_,_,rfl⟩,⟨_,_,_,rfl⟩,⟨_,_,_,rfl⟩⟩ (w0:=w2.alloc (.cells (Hd.fQ h.aC h.base (.slice io ik ic) (.slice ao ak ac) (.slice co ck cc)) 33)) (T0:=33) ⟨ae.new w2 33 _,⟨_,_,_,rfl⟩,⟨_,_,_,rfl⟩,⟨_,_,_,rfl⟩⟩ rfl ?_;intro w3 hx3 hg3;have bh:Hid (Below w1.heap.size w1 w3):=aR.trans ((aJ hg3).mono aR.size);have vN:=aa hx3;clear hx3 hg3;have L3:Hid (ai w3 w.heap.size x (.slice xo x.aw.length xc)):=L1.out.below bh.out (by have:=EZ.out;omega);obtain⟨r0,r1,r2,r3,r4,r5,r6,r7,r8,r9,r10,r11⟩:=L3.out.all)
  | (go_at_call 43;go_loud (refine(qz f (.slice (some ⟨w3.heap.size,0,none⟩) 1 1) [x] _ (gS.lone (q:=fun _=>True) (ae.new w3 _ (Re.cells x (.slice xo x.aw.length xc))) trivial (TE.out _ (bh.alloc bh.size _)) (fun _ _ _ _ _=>trivial)) (fun y hy=>HS.out y (by simp at hy;simp[hy]))).mono ?_;(rintro e w4 ⟨rfl,hb4⟩;rw[<- N1.out];have bJ:Hid (Below w3.heap.size w3 w4):=(((Below.refl _ w3).alloc (Nat.le_refl _) _).trans (hb4.mono (by simp)));clear hb4;have L4:Hid (ai w4 w.heap.size x (.slice xo x.aw.length xc)):=L3.out.below bJ.out L3.out.lt;have QC:Hid (aB w4 w2.heap.size 33 h.aC h.base (.slice io ik ic) (.slice ao ak ac) (.slice co ck cc)):=vN.below bJ.out vN.ag.lt;obtain⟨s0,s1,s2,s3,s4,s5,s6,s7,s8,s9,s10,s11⟩:=L4.out.all;obtain⟨q0,q1,q2,q3,q4,q5⟩:=QC.all)))
  | (go_at_call 44;go_loud (have bK:Hid (Below w.heap.size w (w4.alloc (.cells (Re.cells x (.slice xo x.aw.length xc)) 42))):=(((aG.trans (bh.mono aG.size)).trans (bJ.mono (Nat.le_trans aG.size bh.size))).alloc (Nat.le_trans aG.size (Nat.le_trans bh.size bJ.size)) _);refine(BG (fun b=>(D b∨X b∨b=w4.heap.size)∧b<w4.heap.size+1) h _ _ _ _ [x] (w4.alloc (.cells (Re.cells x (.slice xo x.aw.length xc)) 42)) (HQ.pi.imp fun b hb=>⟨.inl hb.1,by have:=bK.size;simp at this;omega⟩) (fun b hb=>by simpa using hb.2) ((HP.keep (Kp.all bK.out)).data ⟨h,f, .slice io ik ic, .slice ao ak ac, .slice co ck cc⟩ (by simp)).rows HV.out HL.out (gS.lone (ae.new w4 _ _) ⟨.inr (.inr rfl),by simp⟩ (TE.out _ ((bh.trans (bJ.mono bh.size)).alloc (Nat.le_trans bh.size bJ.size) _)) (VT.imp fun b hb=>⟨.inr (.inl hb.1),by have:=bK.size;simp at this;omega⟩)) (by simp) Po.out HS.out).mono ?_;rintro e w6 ⟨ti,ta,tc,rfl,TN,fP⟩;have VU:=aa TN;have cy:=aa fP;clear TN fP))
  | (go_at_call 17;go_loud (refine(sG ⟨Hd.of (Hd.recs h ++ [x]),f,ti,ta,tc⟩ (HP.tight.keep (Kp.all (bK.trans (cy.mono bK.size)))) (by simp;omega) VU.out (G9 HP.apart Sv.out (Nat.le_trans (Nat.le_trans aG.size bh.size) bJ.size) bK.size)).mono ?_;rintro e w7 ⟨rfl,KJ⟩;have Fj:=aa KJ;clear KJ)))
 go_ret;refine⟨rfl, ?_⟩;have h9:=pw.QK (X:=X) (bK.trans (cy.mono bK.size)) Fj.out fun b hb=>by
  have h4:=Nat.le_trans (Nat.le_trans aG.size bh.size) bJ.size;have h5:=bK.size;rcases hb with ⟨hb | hb | hb,_⟩ | hb
  ·exact .inl hb
  ·exact .inr (.inl hb)
  ·exact .inr (.inr (by omega))
  ·exact .inr (.inr (by omega))
 rw[Hd.nN,Hd.nK HV.out]at h9
 simpa[eE.is] using h9
end
end Go.Proofs.YtdkdjofnnnljjaaGreatDoor

namespace Go.Proofs.YtdkdjofnnnljjaaGreatDoor
open Go.RowKit
set_option maxHeartbeats 3200000
set_option maxRecDepth 20000
section
structure Wl.DC where
 kind:Int
 n:Int
 m:Int
 x:Re.Rec
def Wl.DC.aw(s:Wl.DC):List UInt8:=s.x.aw
def Wl.kf(s:Wl.DC)(u:Value):Array Value := #[.int .i64 s.kind, .int .i64 s.n, .int .i64 s.m, .int .i64 s.x.kind, .int .i64 s.x.aF.round, .int .i64 s.x.aF.node, .int .i64 s.x.index, .int .i64 s.x.cmd.kind, .int .i64 s.x.cmd.bD, .int .i64 s.x.cmd.seq, .string ⟨s.x.cmd.key.toArray⟩, .string ⟨s.x.cmd.val.toArray⟩, .string ⟨s.x.cmd.old.toArray⟩, .int .i64 s.x.cmd.node,u]
abbrev KL(p:Nat->TypeId->Prop)(w:World)(v:Value)(l:List Wl.DC):Prop:=cJ 15 Wl.kf Wl.DC.aw p w v l
theorem sH(a:Wl.DC)(u:Value) : ∃v,(Wl.kf a u)[0]? = some v:=⟨_,rfl⟩
theorem KM(a:Wl.DC)(u:Value):(Wl.kf a u).size=15∧(u.oneCell' = true->(Wl.kf a u).all (·.oneCell')=true):=⟨rfl,fun h=>by simp[Wl.kf,h];repeat' (first | rfl | constructor)⟩
section
variable {H : Type} {enc : TypeId × Value -> H} {w : World} {b0 base : Nat} {held : Bool}
theorem KN(m:Nat)(cs:List Value)(y:DataW H × List MemPlace)(h:DataW.trod enc Tryz.prog w base (fun _=>true) held m 44 cs=some y) :
 ∃(a:Wl.DC) (vi:Value),cs=(Wl.kf a vi).toList∧Reads w vi a.aw∧a.x.Fits∧a.x.cmd.aD 9223372036854775807:=by
 obtain⟨ys,n,_,_,hl,hlen,hat⟩:=DataW.trod_struct Tryz.underlying44 h;have hce:Tryz.prog.cellsOf 44=15:=by kernel_rfl
 have Fs:Tryz.prog.cellsOf 3=1:=by kernel_rfl
 have TA:Tryz.prog.cellsOf 42=12:=by kernel_rfl
 have g0:=hat 0 _ rfl;have g1:=hat 1 _ rfl;have g2:=hat 2 _ rfl;have g3:=hat 3 _ rfl;rw[List.getElem?_eq_getElem (by rw[hlen];simp)]at g0 g1 g2 g3
 obtain⟨kd,e0,_,_⟩:=gL Tryz.underlying3 g0 Fs;obtain⟨k1,e1,_,_⟩:=gL Tryz.underlying3 g1 Fs;obtain⟨k2,e2,_,_⟩:=gL Tryz.underlying3 g2 Fs;have TP : DataW.trod enc Tryz.prog w base (fun _=>true) held n 42 ((cs.drop 3).take (Tryz.prog.cellsOf 42))=some _:=g3
 rw[TA]at TP
 obtain⟨x,vi,e3,Xq,hf,hs⟩:=QL _ _ _ TP;rw[hce]at hl
 obtain⟨c0,c1,c2,r,rfl⟩ : ∃c0 c1 c2 r,cs=c0 :: c1 :: c2 :: r:=by
  match cs,hl with
  | c0 :: c1 :: c2 :: r,_=>exact⟨_,_,_,_,rfl⟩
 have hr:r.length=12:=by simpa using hl
 refine⟨⟨kd,k1,k2,x⟩,vi, ?_,Xq,hf,hs⟩;have e3' : r=(Re.cells x vi).toList:=by
  rw[<- e3];simp[List.take_of_length_le,hr]
 simp at e0 e1 e2
 rw[e0,e1,e2,e3']
 rfl
theorem came_stepsW{v:Value}{d:DataW H}{p:List MemPlace}(hv:Value.okWide Tryz.prog w .any b0 22 v)(h:DataW.Trod enc Tryz.prog w base (fun _=>true) held 22 v d p) :
 ∃l:List Wl.DC,KL (fun k _=>k<w.heap.size) w v l ∧ ∀s∈l,s.x.Fits∧s.x.cmd.aD 9223372036854775807:=by
 obtain⟨l,hr,hf⟩:=Hb (fun a:Wl.DC × Value=>Wl.kf a.1 a.2) (fun a=>Reads w a.2 a.1.aw∧a.1.x.Fits∧a.1.x.cmd.aD 9223372036854775807) Tryz.underlying22 (by kernel_rfl) (fun m cs y hm=>by
  obtain⟨a,vi,h1,h2⟩:=KN m cs y hm;exact⟨(a,vi),h1,h2⟩) hv h
 refine⟨l.map (·.1),⟨l,rfl,gH.iL hr (by omega) (eM KM fun q hq => ?_) (fun b t hb=>hb),fun q hq=>aS.iL (hf q hq).1 (fun b t hb=>hb)⟩,fun x hx => ?_⟩
 ·obtain⟨ao,c,e⟩:=(hf q hq).1.shape
  rw[e]
  rfl
 ·obtain⟨q,hq,rfl⟩:=List.mem_map.1 hx
  exact(hf q hq).2
end
def QM(w:World)(l:List Wl.DC)(e:Ending)(w' : World):Prop := ∃b:Bool,e = .returned (.bool b)∧Below w.heap.size w w' ∧ (b=false->l.length<=40 ∧ ∀s∈l,Re.iU s.x=false∧s.x.aw.length<=300)
theorem DD{p:Nat->TypeId->Prop}(v:Value)(l:List Wl.DC)(w:World)(hv:KL p w v l)(hs : ∀s∈l,s.x.cmd.aD 9223372036854775807):Calls Tryz.prog 6 #[v] w (QM w l):=by
 obtain⟨ao,cap,rfl,hc1,hc2⟩:=cJ.shape hv;have HP:=aa (fun h=>cJ.places hv sH h)
 obtain⟨n,hn⟩ : ∃n,n=l.length:=⟨_,rfl⟩;rw[<- hn]at hc1 HP ⊢
 have HN:=aa hn;have HS:=aa hs;have hnb:n<9223372036854775808:=by omega
 clear hv hn hs
 go_enter Tryz.func6,Tryz.ntmps6
 go_wp2
 go_loopw [3] (fun i wr => ∃k:Nat,i = .int .i64 (k:Int)∧k<=n∧Hid (∀c∈l.take k,Re.iU c.x=false∧c.x.aw.length<=300)∧Hid (k<=40)∧Hid (Below w.heap.size w wr)) (fun i _=>n - (intOf i).toNat)
 case atStart=>exact⟨0,rfl,by omega,by show ∀c∈_,_;simp,by show 0<=40;omega,Below.refl _ _⟩
 case round =>
  obtain⟨k,rfl,hk,HI,HK,HB⟩:=hrel;by_cases hlt:k<n
  ·have d1:decide (k<n)=true:=decide_eq_true hlt
   by_cases h40:k<40
   ·have d2:decide ((k:Int)<40)=true:=decide_eq_true (by omega)
    have QN : (k:Int)<40:=by omega
    obtain⟨c,lW⟩ : ∃c,l[k]? = some c:=⟨_,List.getElem?_eq_getElem (by have:=HN.out;omega)⟩
    obtain⟨g,off,rfl,_,hc⟩:=HP.out (by have:=HN.out;omega)
    obtain⟨u,hu,hcell⟩:=hc k c lW;obtain⟨uo,uc,rfl⟩:=hu.1.shape;obtain⟨im,Nh⟩ : ∃im,im=c.aw.length:=⟨_,rfl⟩;rw[<- Nh]at hu hcell
    have hcw:=hcell wr HB.out;have m3:wr.cell? ⟨g,off+k*15+3,none⟩=some (.int .i64 c.x.kind):=hcw 3 _ rfl;have m4:wr.cell? ⟨g,off+k*15+4,none⟩=some (.int .i64 c.x.aF.round):=hcw 4 _ rfl;have m5:wr.cell? ⟨g,off+k*15+5,none⟩=some (.int .i64 c.x.aF.node):=hcw 5 _ rfl;have m6:wr.cell? ⟨g,off+k*15+6,none⟩=some (.int .i64 c.x.index):=hcw 6 _ rfl;have m7:wr.cell? ⟨g,off+k*15+7,none⟩=some (.int .i64 c.x.cmd.kind):=hcw 7 _ rfl;have m8:wr.cell? ⟨g,off+k*15+8,none⟩=some (.int .i64 c.x.cmd.bD):=hcw 8 _ rfl;have m9:wr.cell? ⟨g,off+k*15+9,none⟩=some (.int .i64 c.x.cmd.seq):=hcw 9 _ rfl;have TQ:wr.cell? ⟨g,off+k*15+10,none⟩=some (.string ⟨c.x.cmd.key.toArray⟩):=hcw 10 _ rfl;have QO:wr.cell? ⟨g,off+k*15+11,none⟩=some (.string ⟨c.x.cmd.val.toArray⟩):=hcw 11 _ rfl;have Xr:wr.cell? ⟨g,off+k*15+12,none⟩=some (.string ⟨c.x.cmd.old.toArray⟩):=hcw 12 _ rfl;have Xs:wr.cell? ⟨g,off+k*15+13,none⟩=some (.int .i64 c.x.cmd.node):=hcw 13 _ rfl;have Xt:wr.cell? ⟨g,off+k*15+14,none⟩=some (.slice uo im uc):=hcw 14 _ rfl;have TR:=DF (.slice (some ⟨wr.heap.size,0,none⟩) 1 1) [c.x] (wr.alloc (.cells (Re.cells c.x (.slice uo im uc)) 42)) (gS.lone (q:=fun _=>True) (ae.new wr _ _) trivial (hu.1.below (HB.alloc HB.size _)) (fun _ _ _ _ _=>trivial)) (fun y hy=>by
     obtain rfl:y=c.x:=by simpa using hy
     exact HS.out c (List.mem_of_getElem? lW))
    have Fq:=aa lW;have pS:Hid (Below w.heap.size w (wr.alloc (.cells (Re.cells c.x (.slice uo im uc)) 42))):=HB.alloc HB.size _;clear hc lW hcell hu hcw Nh
    go_wp2_with fail
    refine TR.mono ?_;rintro e w2 ⟨b,rfl,hb2,hb⟩;have aR:=aa (pS.trans (hb2.mono pS.size));have vM:=aa hb;clear TR hb2 hb m3 m4 m5 m6 m7 m8 m9 TQ QO Xr Xs Xt pS;cases b with
    | true =>
     go_wp2;go_ret;exact⟨true,rfl,aR.out,fun h=>by cases h⟩
    | false =>
     have QP:Hid (∀c∈l.take (k+1),Re.iU c.x=false∧c.x.aw.length<=300):=by
      intro d hd
      rw[List.take_add_one,Fq.out]at hd
      rcases List.mem_append.1 hd with hd | hd
      ·exact HI.out d hd
      ·simp at hd;subst hd;exact(vM.out rfl).2 _ (by simp)
     go_wp2
     go_roundw
     case rel=>exact⟨k+1,by go_num,by omega,QP.out,by show k+1<=40;omega,aR⟩
     case measure=>simp[intOf];omega
   ·have d2:decide ((k:Int)<40)=false:=decide_eq_false (by omega)
    have QN : ¬(k:Int)<40:=by omega
    have hb:40<n:=by have:=HK.out;omega
    go_wp2;go_ret;exact⟨true,by simp;omega,HB.out,fun h=>by cases h⟩
  ·obtain rfl:k=n:=by omega
   have hb : ¬ 40<k:=by have:=HK.out;omega
   go_wp2;go_ret;exact⟨false,by simp;omega,HB.out,fun _=>⟨by have:=HN.out;have:=HK.out;omega,fun x hx=>HI.out x (by rw[HN.out,List.take_length];exact hx)⟩⟩
end
end Go.Proofs.YtdkdjofnnnljjaaGreatDoor

namespace Go.Proofs.YtdkdjofnnnljjaaGreatDoor
open Go.RowKit
def QQ(T:Nat->Prop)(w:World)(g d:Nat)(F:Dk.av)(n f:Int)(k:Hd.az)(ps:List (Hd.az × Int))(i:Nat)(x:Re.Rec)(e:Ending)(w' : World):Prop :=
 e = .returned (.int .i64 (Rt.put f x).2)∧Kp (fun j _ => ¬T j) w w' ∧ ∃B' k' ps', cW (fun j=>T j∨w.heap.size<=j) w' g d F B' n f k' ∧ Wl.St (i+1) F B' n f k' ps' ∧ (((Rt.put f x).2=0∧k' = Hd.apply k x∧ps' = ps ++ [(Hd.apply k x,f)])∨((Rt.put f x).2≠0∧k' = k∧ps' = ps))
theorem Hc{T:Nat->Prop}{w:World}{n0 g d:Nat}{F:Dk.av}{B:List Dk.Op}{n f:Int}{k:Hd.az}{ps:List (Hd.az × Int)}{i:Nat}(E:Env n0 w)(hT : ∀j,T j->n0<=j)(l:cW T w g d F B n f k)(s:Wl.St i F B n f k ps)(hi:i<=41)
 (x:Re.Rec) (xi:Value) (hx:Reads w xi x.aw) (Ha:jh (fun b => ¬T b) xi) (hf:x.Fits) (N2:Re.iU x=false) (Nh:x.aw.length<=300) :
 Calls Tryz.prog 12 #[Wl.ptr g, .agg (Re.cells x xi)] w (QQ T w g d F n f k ps i x):=by
 have hsh:=(Re.small N2).1;have hfw:=s.ok.He hi;have hlen:(Sg.add f x).1.length<=1000000:=by
  unfold Sg.add;by_cases h0:(Rt.put f x).2=0
  ·rw[if_neg (by simpa using h0)]
   have:=Wl.rJ (Sg.yV h0).2.1 hf Nh;show(cK.frame (Rt.aN f x)).length<=_;omega
  ·rw[if_pos h0];simp
 have hn:=s.num;have hw:=s.wt hi;have hB:B.length<=1000000000:=by have:=Dk.j4 B;omega
 refine(Hf E hT l x xi hx Ha (Sg.add f x) (fun W hb=>xC f x xi W (E.up hb).crc (E.up hb).words (hx.below hb) hf (aD.up hsh (by omega)) (by omega)) hlen hB (by omega) s.ok.valid (by have:=s.ok.zN;omega) (aD.up hsh (by omega))).mono ?_
 rintro e w' ⟨he,h⟩;have h2:(Sg.add f x).2=(Rt.put f x).2:=by
  unfold Sg.add;by_cases h0:(Rt.put f x).2=0
  ·rw[if_neg (by simpa using h0),h0]
  ·rw[if_pos h0]
 rw[h2]at he h
 rcases h with ⟨h0,hl,hk⟩ | ⟨h0,hl,hk⟩
 ·have e1:(Sg.add f x).1=cK.frame (Rt.aN f x):=by unfold Sg.add;rw[if_neg (by simpa using h0)]
  rw[e1]at hl
  exact⟨he,hk,_,_,_,hl,s.add (Sg.yV h0).2.1 hf Nh, .inl ⟨h0,rfl,rfl⟩⟩
 ·exact⟨he,hk,_,_,_,hl,s.skip, .inr ⟨h0,rfl,rfl⟩⟩
def KO(T:Nat->Prop)(w:World)(g d:Nat)(ps:List (Hd.az × Int))(i:Nat)(f:Int)(h:Hd.az)(e:Ending)(w' : World):Prop :=
 e = .returned (.int .i64 0)∧Kp (fun j _ => ¬T j) w w' ∧ ∃F B n,cW (fun j=>T j∨w.heap.size<=j) w' g d F B n f h∧Wl.St (i+1) F B n f h (ps ++ [(h,f)])
theorem BH{T:Nat->Prop}{w:World}{n0 g d:Nat}{F:Dk.av}{B:List Dk.Op}{n f0:Int}{k:Hd.az}{ps:List (Hd.az × Int)}{i:Nat}(E:Env n0 w)(l:cW T w g d F B n f0 k)(s:Wl.St i F B n f0 k ps)(hi:i<=40)
 (f:Int) (hf:f=1∨f=2) (h:Hd.az) (o:Wl.Ok f i h) (vi va vc:Value) (hr:bL (fun b => ¬T b) w h vi va vc) :
 Calls Tryz.prog 16 #[Wl.ptr g, .int .i64 f, .agg (Hd.cells h vi va vc)] w (KO T w g d ps i f h):=by
 have h2:=Wl.mS hf o (by omega)
 have hM:(i+1)*54000<=1000000000:=by omega
 refine(BI l f h vi va vc hr (o.He (by omega)) (Sg.file f h [],0) (fun W hb=>lL E hf o (by omega) W vi va vc hb (hr.rows.below hb)) (by show(Sg.file f h []).length<=_;omega) s.uS (by omega) hM).mono ?_
 rintro e w' ⟨he,⟨_,hl,hk⟩ | ⟨h0,_⟩⟩
 ·exact⟨he,hk,_,_,_,hl,s.begin hi hf o⟩
 ·exact absurd rfl h0
end Go.Proofs.YtdkdjofnnnljjaaGreatDoor

namespace Go.Proofs.YtdkdjofnnnljjaaGreatDoor
open Go.RowKit
set_option maxHeartbeats 3200000
set_option maxRecDepth 8000
theorem BJ{O D:Nat->Prop}{w:World}{g:Nat}{vL vF:Value}{qs:List eE}(p:fw O D w g vL vF qs)(hn:qs.length<=1000)(h:Hd.az)(f:Int)(vi va vc:Value)(hr:cH w h vi va vc)(hm:(h,f)∈qs.map eE.is) :
 Calls Tryz.prog 20 #[Wl.ptr g, .agg (Hd.cells h vi va vc), .int .i64 f] w (Looks w (.bool true)):=by
 have h0:0<qs.length:=by cases qs with | nil=>simp at hm | cons _ _=>simp
 obtain⟨gl,cl,rfl,lW,hL⟩:=yT p.kW (eE.Ky p.data) (by simpa using h0)
 obtain⟨gf,cf,rfl,KB,hF⟩:=yT p.kC (eE.Kz _) (by simpa using h0)
 obtain⟨⟨io,ik,ic,rfl⟩,⟨ao,ak,ac,rfl⟩,⟨co,ck,cc,rfl⟩⟩:=hr.sl;obtain⟨w1,e1,l1,hb1,hs1⟩:=eL w 33 h (.slice io ik ic) (.slice ao ak ac) (.slice co ck cc) hr;obtain⟨n,hne⟩ : ∃n,n=qs.length:=⟨_,rfl⟩;have nR:=aa hne;have HM:=aa hm;have HP:=aa p;have aG:=aa hb1;have dh:=aa l1;have HHR:=aa hr;rw[show(qs.map eE.cells).length=n by simp[hne]]at lW p
 rw[show(qs.map eE.num).length=n by simp[hne]]at KB p
 have S1:Hid (∀W,Below w.heap.size w W->W.cell? ⟨g,0,none⟩=some (.slice (some ⟨gl,0,none⟩) n cl)∧W.cell? ⟨g,1,none⟩=some (.slice (some ⟨gf,0,none⟩) n cf)):=fun W hb=>⟨(p.ag.below hb p.ag.lt).cell 0 _ rfl,(p.ag.below hb p.ag.lt).cell 1 _ rfl⟩
 have lq:Hid (∀W,Below w.heap.size w W -> ∀(k:Nat) (q:eE),qs[k]? = some q->W.cell? ⟨gf,k,none⟩=some (.int .i64 q.f)∧cH W q.h q.vi q.va q.vc ∧ ∀j u,q.cells[j]? = some u->W.cell? ⟨gl,k*6+j,none⟩=some u):=fun W hb k q hk=>by
  have hc : ∀(a:Addr) u,w.cell? a=some u->W.cell? a=some u:=fun a u h=>(hb.cell (World.block_lt_of_cell? w a h)).trans h
  refine⟨hc _ _ (by have:=hF k q.num (by simp[hk]) 0 _ rfl;simpa[eE.num] using this),((p.data q (List.mem_of_getElem? hk)).rows.below hb),fun j u hj=>hc _ _ (hL k q.cells (by simp[hk]) j u hj)⟩
 have zG:(n:Int)<=1000:=by omega
 clear l1 hb1 hs1 p hm hr hL hF hne h0;dsimp only [Hd.cells]at e1 ⊢
 go_enter Tryz.func20,Tryz.ntmps20
 go_wp2
 go_loopw [7] (fun i wr => ∃k:Nat,i = .int .i64 (k:Int)∧k<=n∧Hid (Below w.heap.size w wr)∧Hid (aB wr w.heap.size 33 h.aC h.base (.slice io ik ic) (.slice ao ak ac) (.slice co ck cc))∧Hid ((h,f)∈(qs.drop k).map eE.is)) (fun i _=>n - (intOf i).toNat)
 case atStart=>exact⟨0,rfl,by omega,aG.out,dh.out,by rw[List.drop_zero];exact HM.out⟩
 case round =>
  obtain⟨k,rfl,hk,HB,HL,HI⟩:=hrel;have hlt:k<n:=by
   have h1:=HI.out;have h2:=nR.out;rcases Nat.lt_or_ge k n with h3 | h3
   ·exact h3
   ·rw[List.drop_eq_nil_of_le (by omega)]at h1;simp at h1
  have d1:decide ((k:Int)<(n:Int))=true:=decide_eq_true (by omega)
  have tK : (k:Int)<(n:Int):=by omega
  obtain⟨q,hq⟩ : ∃q,qs[k]? = some q:=⟨_,List.getElem?_eq_getElem (by have:=nR.out;omega)⟩
  obtain⟨b0,b1⟩:=S1.out wr HB.out;obtain⟨af,ar,al⟩:=lq.out wr HB.out k q hq;have HQ:=aa hq;have HAR:=aa ar;obtain⟨⟨xo,xk,xc,x1⟩,⟨yo,yk,yc,x2⟩,⟨zo,zk,zc,x3⟩⟩:=ar.sl;have a0:wr.cell? ⟨gl,k*6,none⟩=some (.int .i64 q.h.aC.round):=al 0 _ rfl;have a1:wr.cell? ⟨gl,k*6+1,none⟩=some (.int .i64 q.h.aC.node):=al 1 _ rfl;have a2:wr.cell? ⟨gl,k*6+2,none⟩=some (.int .i64 q.h.base):=al 2 _ rfl;have a3:wr.cell? ⟨gl,k*6+3,none⟩=some (.slice xo xk xc):=by rw[<- x1];exact al 3 _ rfl
  have a4:wr.cell? ⟨gl,k*6+4,none⟩=some (.slice yo yk yc):=by rw[<- x2];exact al 4 _ rfl
  have a5:wr.cell? ⟨gl,k*6+5,none⟩=some (.slice zo zk zc):=by rw[<- x3];exact al 5 _ rfl
  obtain⟨c0,c1,c2,c3,c4,c5⟩:=HL.all;rw[x1,x2,x3]at ar
  have N3:=aa (fun p:bP wr=>rE q.h h (.slice xo xk xc) (.slice yo yk yc) (.slice zo zk zc) (.slice io ik ic) (.slice ao ak ac) (.slice co ck cc) p.world (ar.below p.below) (HHR.below (HB.trans (p.below.mono HB.size))))
  have up : ∀ {a:Addr} {u:Value},wr.cell? a=some u -> ∀p:bP wr,p.world.cell? a=some u:=fun h p=>(p.below.cell (World.block_lt_of_cell? wr _ h)).trans h
  have n0:=up b0;have n1:=up b1;have nf:=up af;have y0:=up a0;have y1:=up a1;have y2:=up a2;have y3:=up a3;have y4:=up a4;have y5:=up a5;have z0:=up c0;have z1:=up c1;have z2:=up c2;have z3:=up c3;have z4:=up c4;have z5:=up c5;have uE:Hid (¬(q.h=h∧q.f=f)->(h,f)∈(qs.drop (k+1)).map eE.is):=fun hne=>by
   have h1:=HI.out;rw[List.drop_eq_getElem_cons (by have:=nR.out;omega),List.map_cons,List.mem_cons]at h1
   rcases h1 with h1 | h1
   ·exfalso
    have h2:qs[k]'(by have:=nR.out;omega)=q:=by
     have:=HQ.out;rw[List.getElem?_eq_getElem (by have:=nR.out;omega)]at this
     exact Option.some.inj this
    rw[h2]at h1
    exact hne ⟨(congrArg Prod.fst h1).symm,(congrArg Prod.snd h1).symm⟩
   ·exact h1
  clear ar al hq x1 x2 x3 up a0 a1 a2 a3 a4 a5 c0 c1 c2 c3 c4 c5 af;by_cases hf:q.f=f
  ·have d2:decide (q.f=f)=true:=decide_eq_true hf
   obtain⟨t,ht⟩ : ∃t,t=decide (q.h=h):=⟨_,rfl⟩;rw[<- ht]at N3
   have HT:=aa ht;clear ht
   go_wp2_with fail
   refine bn (by kernel_rfl) (by kernel_rfl) ?_
   repeat (go_big_quiet_step ((go_at_call 21;exact Looks.behind (N3.out _))))
   refine wpQuiet_nil ?_;rintro w5 ⟨⟨w5,qY⟩,rfl⟩
   (try dsimp only)
   have bK:=aa (HB.trans (qY.mono HB.size));have gQ:=aa (HL.below qY HL.ag.lt);clear n0 n1 nf y0 y1 y2 y3 y4 y5 z0 z1 z2 z3 z4 z5 qY;cases t with
   | true =>
    go_wp2;go_ret;exact⟨rfl,bK.out⟩
   | false =>
    go_wp2
    go_roundw
    case rel=>exact⟨k+1,by go_num,by omega,bK,gQ,uE.out fun h=>by have:=HT.out;simp[h.1]at this⟩
    case measure=>simp[intOf];omega
  ·have d2:(q.f == f)=false:=by simpa using hf
   go_wp2_with fail
   refine bn (by kernel_rfl) (by kernel_rfl) ?_
   repeat (go_big_quiet_step ((fail)))
   refine wpQuiet_nil ?_;rintro w5 ⟨⟨w5,qY⟩,rfl⟩
   (try dsimp only)
   have bK:=aa (HB.trans (qY.mono HB.size));have gQ:=aa (HL.below qY HL.ag.lt);clear n0 n1 nf y0 y1 y2 y3 y4 y5 z0 z1 z2 z3 z4 z5 qY;go_wp2
   go_roundw
   case rel=>exact⟨k+1,by go_num,by omega,bK,gQ,uE.out fun h=>hf h.2⟩
   case measure=>simp[intOf];omega
end Go.Proofs.YtdkdjofnnnljjaaGreatDoor

namespace Go.Proofs.YtdkdjofnnnljjaaGreatDoor
open Go.RowKit
theorem Sg.QR{f:Int}(hf:f=1∨f=2)(l:List Re.Rec):Sg.has f l=Sg.hasAll f l:=by
 unfold Sg.has;rw[if_neg (by omega)]
theorem Sg.N4(f:Int)(x:Re.Rec):Sg.has f [x]=(Rt.put f x).2:=by
 unfold Rt.put;by_cases hf:f=1∨f=2
 ·rw[if_pos hf,Sg.QR hf]
  unfold Sg.hasAll;by_cases h:Re.aO f x=0
  ·rw[if_neg (by simpa using h),if_neg (by simpa using h)];rfl
  ·rw[if_pos h,if_pos h]
 ·rw[if_neg hf]
  unfold Sg.has;rw[if_pos (by omega)]
end Go.Proofs.YtdkdjofnnnljjaaGreatDoor

namespace Go.Proofs.YtdkdjofnnnljjaaGreatDoor
open Go.RowKit
section
theorem gg.Fu{O D:Nat->Prop}{w:World}{g:Nat}{ps:List (Hd.az × Int)}{k:Hd.az}{f:Int}(p:gg O D w g ps)(h : ∃qs,ps=qs ++ [(k,f)]) : ∃vL vF qs vi va vc,fw O D w g vL vF (qs ++ [⟨k,f,vi,va,vc⟩])∧ps=(qs ++ [(⟨k,f,vi,va,vc⟩:eE)]).map eE.is:=by
 obtain⟨vL,vF,qs,p,e⟩:=p;obtain⟨qs', e'⟩:=h;rw[e']at e
 rcases List.eq_nil_or_concat qs with rfl | ⟨q0,q,rfl⟩
 ·simp at e
 ·obtain⟨h,f2,vi,va,vc⟩:=q
  have e2:qs' = q0.map eE.is∧k=h∧f=f2:=by simpa[eE.is] using e
  obtain⟨rfl,rfl,rfl⟩:=e2;rw[List.concat_eq_append]at p
  exact⟨vL,vF,q0,vi,va,vc,p,by rw[e'];simp[eE.is]⟩
structure px(m:Nat)(U:Nat->Prop)(W:World)(gl d gp:Nat)(f:Int)(k:Hd.az)(j:Nat)(T O D:Nat->Prop)(F:Dk.av)(B:List Dk.Op)(n:Int)(ps:List (Hd.az × Int)):Prop where
 log:cW T W gl d F B n f k
 past:gg O D W gp ps
 st:Wl.St j F B n f k ps
 len:ps.length<=j+1
 gi : ∀b,T b->m<=b ∧ ¬U b
 mU : ∀b,O b->m<=b ∧ ¬U b
 qA : ∀b,D b -> ¬U b
 apart : ∀b,T b -> ¬O b ∧ ¬D b
def uT(m:Nat)(U:Nat->Prop)(W:World)(gl d gp:Nat)(f:Int)(k:Hd.az)(j:Nat):Prop := ∃T O D F B n ps,px m U W gl d gp f k j T O D F B n ps
section
variable {m : Nat} {U T O D : Nat -> Prop} {W W' : World} {gl d gp : Nat} {f : Int} {k : Hd.az} {j : Nat} {F : Dk.av} {B : List Dk.Op} {n : Int} {ps : List (Hd.az × Int)}
theorem px.keep(p:px m U W gl d gp f k j T O D F B n ps)(hk:Kp (fun b _ => ¬U b) W W'):px m U W' gl d gp f k j T O D F B n ps :=
 ⟨p.log.keep (hk.imp fun b _ _ h=>(p.gi b h).2),p.past.keep (hk.imp fun b _ _ h=>h.elim (fun h=>(p.mU b h).2) (p.qA b)),p.st,p.len,p.gi,p.mU,p.qA,p.apart⟩
theorem px.below(p:px m U W gl d gp f k j T O D F B n ps)(hb:Below W.heap.size W W'):px m U W' gl d gp f k j T O D F B n ps:=p.keep (Kp.all hb)
theorem px.begin(p:px m U W gl d gp f k j T O D F B n ps) : ∃T O D,(∀N,px m (fun b=>W.heap.size<=b∧b<N) W gl d gp f k j T O D F B n ps)∧((∀b,T b->b<W.heap.size)∧(∀b,O b->b<W.heap.size) ∧ ∀b,D b->b<W.heap.size) ∧ ∃vL vF qs vi va vc,fw O D W gp vL vF (qs ++ [⟨k,f,vi,va,vc⟩])∧qs.length<=j∧ps=(qs ++ [(⟨k,f,vi,va,vc⟩:eE)]).map eE.is:=by
 obtain⟨vL,vF,qs,vi,va,vc,p1,e⟩:=p.past.Fu p.st.last;refine⟨fun b=>T b∧b<W.heap.size,fun b=>O b∧b<W.heap.size,fun b=>D b∧b<W.heap.size,fun N=>⟨p.log.tight,⟨vL,vF,_,p1.tight,e⟩,p.st,p.len,fun b h=>⟨(p.gi b h.1).1,fun h' => by omega⟩,fun b h=>⟨(p.mU b h.1).1,fun h' => by omega⟩,fun b h h' => by omega,fun b h=>⟨fun h' => (p.apart b h.1).1 h'.1,fun h' => (p.apart b h.1).2 h'.1⟩⟩,⟨fun b h=>h.2,fun b h=>h.2,fun b h=>h.2⟩,vL,vF,qs,vi,va,vc,p1.tight, ?_,e⟩
 have:=p.len;rw[e]at this
 simp at this
 omega
end
theorem Wl.Pp{W:World}{b:Nat}{t:TypeId}{s:Wl.DC}{u:Value}(h:ae W b t (Wl.kf s u)):W.cell? ⟨b,3,none⟩=some (.int .i64 s.x.kind)∧W.cell? ⟨b,4,none⟩=some (.int .i64 s.x.aF.round)∧W.cell? ⟨b,5,none⟩=some (.int .i64 s.x.aF.node)∧W.cell? ⟨b,6,none⟩=some (.int .i64 s.x.index)∧W.cell? ⟨b,7,none⟩=some (.int .i64 s.x.cmd.kind)∧W.cell? ⟨b,8,none⟩=some (.int .i64 s.x.cmd.bD)∧W.cell? ⟨b,9,none⟩=some (.int .i64 s.x.cmd.seq)∧W.cell? ⟨b,10,none⟩=some (.string ⟨s.x.cmd.key.toArray⟩)∧W.cell? ⟨b,11,none⟩=some (.string ⟨s.x.cmd.val.toArray⟩)∧W.cell? ⟨b,12,none⟩=some (.string ⟨s.x.cmd.old.toArray⟩)∧W.cell? ⟨b,13,none⟩=some (.int .i64 s.x.cmd.node)∧W.cell? ⟨b,14,none⟩=some u :=
 ⟨h.cell 3 _ rfl,h.cell 4 _ rfl,h.cell 5 _ rfl,h.cell 6 _ rfl,h.cell 7 _ rfl,h.cell 8 _ rfl,h.cell 9 _ rfl,h.cell 10 _ rfl,h.cell 11 _ rfl,h.cell 12 _ rfl,h.cell 13 _ rfl,h.cell 14 _ rfl⟩
abbrev xD(m:Nat)(U:Nat->Prop)(W W' : World):Prop:=Kp (fun b _=>b<m∨U b) W W'
structure KP(m:Nat)(U:Nat->Prop)(W:World)(gl d gp:Nat)(f:Int)(k:Hd.az)(j:Nat)(x:Re.Rec)(T O D:Nat->Prop)(F:Dk.av)(B:List Dk.Op)(n:Int)(k' : Hd.az)(ps ps' : List (Hd.az × Int)):Prop where
 log:cW T W gl d F B n f k'
 past:gg O D W gp ps
 st:Wl.St (j+1) F B n f k' ps'
 ok:Wl.Ok f j k
 last : ∃qs,ps=qs ++ [(k,f)]
 len:ps.length<=j+1
 is:ps' = ps++(if(Rt.put f x).2=0 then [(Hd.apply k x,f)]else [])
 gi : ∀b,T b->m<=b ∧ ¬U b∧b<W.heap.size
 mU : ∀b,O b->m<=b ∧ ¬U b
 qA : ∀b,D b -> ¬U b
 apart : ∀b,T b -> ¬O b ∧ ¬D b
section
variable {m n0 : Nat} {U T O D : Nat -> Prop} {W : World} {gl d gp : Nat} {f : Int} {k : Hd.az} {j : Nat} {F : Dk.av} {B : List Dk.Op} {n : Int} {ps : List (Hd.az × Int)}
theorem BK(E:Env n0 W)(hm:n0<=m)(hU : ∀b,U b->b<W.heap.size)(TS:m<=W.heap.size)(p:px m U W gl d gp f k j T O D F B n ps)(hO : ∀b,O b->b<W.heap.size)(hD : ∀b,D b->b<W.heap.size)(hj:j<=40)(x:Re.Rec)(xi:Value)(hx:Reads W xi x.aw)(Ha:jh (fun b=>b<m) xi)(hf:x.Fits)(N2:Re.iU x=false)(Nh:x.aw.length<=300) :
 Calls Tryz.prog 12 #[Wl.ptr gl, .agg (Re.cells x xi)] W (fun e W1=>e = .returned (.int .i64 (Rt.put f x).2)∧xD m U W W1∧W.heap.size<=W1.heap.size ∧ ∃T' B' k' ps', KP m U W1 gl d gp f k j x T' O D F B' n k' ps ps'):=by
 refine(Hc E (fun b h=>Nat.le_trans hm (p.gi b h).1) p.log p.st (by omega) x xi hx (Ha.imp fun b hb h=>by have:=(p.gi b h).1;omega) hf N2 Nh).mono ?_
 rintro e W1 ⟨he,hk,B', k', ps', hl,hs,hc⟩;refine⟨he,hk.imp fun b _ _ h h' => ?_,hk.size,_,B', k', ps', hl.tight,p.past.keep (hk.imp fun b _ _ h h' => ?_),hs,p.st.ok,p.st.last,p.len, ?_,fun b h => ?_,p.mU,p.qA,fun b h=>⟨fun h' => ?_,fun h' => ?_⟩⟩
 ·have h2:=p.gi b h'
  rcases h with h | h
  ·omega
  ·exact h2.2 h
 ·have h2:=p.apart b h'
  rcases h with h | h
  ·exact h2.1 h
  ·exact h2.2 h
 ·rcases hc with ⟨h0,_,e⟩ | ⟨h0,_,e⟩
  ·rw[if_pos h0];exact e
  ·rw[if_neg h0,List.append_nil];exact e
 ·rcases h.1 with h1 | h1
  ·exact⟨(p.gi b h1).1,(p.gi b h1).2,h.2⟩
  ·exact⟨by omega,fun h' => by have:=hU b h'; omega,h.2⟩
 ·rcases h.1 with h1 | h1
  ·exact(p.apart b h1).1 h'
  ·have:=hO b h'; omega
 ·rcases h.1 with h1 | h1
  ·exact(p.apart b h1).2 h'
  ·have:=hD b h'; omega
theorem Wl.Ok.QS{f:Int}{i:Nat}{k:Hd.az}(o:Wl.Ok f i k) : ∀y∈Hd.recs k,y.cmd.aD 140737488355328:=by
 intro y hy
 have h1:=Re.eG (Re.fR (o.recs y hy).1);cases hc:Re.hc y.kind with
 | true=>exact aD.up (Cm.gu (h1.cmd hc)) (by omega)
 | false =>
  rw[Re.jA h1 hc];exact⟨by simp[Cm.zero,Cm.aL],by simp[Cm.zero,Cm.aL],by simp[Cm.zero,Cm.aL]⟩
theorem yX{k' : Hd.az}{ps' : List (Hd.az × Int)}{x:Re.Rec}(hU : ∀b,U b->b<W.heap.size)(TS:m<=W.heap.size)(p:KP m U W gl d gp f k j x T O D F B n k' ps ps')(hj:j<=40)(hUm : ∀b,U b->m<=b)(xi:Value)(hx:Reads W xi x.aw)(Ha:jh (fun b=>b<m) xi)(N2:Re.iU x=false) :
 Calls Tryz.prog 13 #[Wl.ptr gp, .agg (Re.cells x xi)] W (fun e W1=>e = .returned (.int .i64 (Rt.put f x).2)∧xD m U W W1∧W.heap.size<=W1.heap.size∧uT m U W1 gl d gp f k' (j+1)):=by
 obtain⟨vL,vF,qs,vi,va,vc,p1,e1⟩:=p.past.Fu p.last;have hlen:qs.length<=900:=by
  have:=p.len;rw[e1]at this
  simp at this
  omega
 have ho:=p.ok;refine(BF (X:=fun b=>b<m) p1 hlen x xi hx Ha (fun b hb h=>by have:=(p.mU b h).1;omega) ho.valid ⟨by have:=ho.zN.1;show k.acc.length<=100;omega,by have:=ho.zN.2;show k.bl.length<=100;omega⟩ (by have:=ho.len;show(Hd.recs k).length<=500;omega) (fun y hy => ?_)).mono ?_
 ·rcases List.mem_append.1 hy with hy | hy
  ·exact ho.QS y hy
  ·obtain rfl:y=x:=by simpa using hy
   exact aD.up (Re.small N2).1 (by omega)
 rintro e W1 ⟨he,O', D', hp,h1,h2,hk⟩;rw[Sg.N4]at he hp
 refine⟨he,hk.imp fun b _ _ h h' => ?_,hk.size,T,O', D', F,B,n,ps', p.log.keep (hk.imp fun b _ _ h h' => (p.apart b h).1 h'), ?_,p.st, ?_,fun b h=>⟨(p.gi b h).1,(p.gi b h).2.1⟩,fun b h => ?_,fun b h h' => ?_,fun b h=>⟨fun h' => ?_,fun h' => ?_⟩⟩
 ·have h3:=p.mU b h'
  rcases h with h | h
  ·omega
  ·exact h3.2 h
 ·rw[p.is,e1]
  exact hp
 ·rw[p.is,List.length_append]
  have:=p.len;split
  ·simp;omega
  ·simp;omega
 ·rcases h1 b h with h3 | h3
  ·exact p.mU b h3
  ·exact⟨by omega,fun h' => by have:=hU b h'; omega⟩
 ·rcases h2 b h with h3 | h3 | h3
  ·exact p.qA b h3 h'
  ·have:=hUm b h'; omega
  ·have:=hU b h'; omega
 ·have h4:=p.gi b h
  rcases h1 b h' with h3 | h3
  ·exact(p.apart b h).1 h3
  ·omega
 ·have h4:=p.gi b h
  rcases h2 b h' with h3 | h3 | h3
  ·exact(p.apart b h).2 h3
  ·omega
  ·omega
theorem yY(hU : ∀b,U b->b<W.heap.size)(TS:m<=W.heap.size)(p:px m U W gl d gp f k j T O D F B n ps)(hO : ∀b,O b->b<W.heap.size)(hD : ∀b,D b->b<W.heap.size)(hj:j<=40) :
 Calls Tryz.prog 14 #[Wl.ptr gl] W (fun e W1=>e = .returned (.tuple #[])∧xD m U W W1∧W.heap.size<=W1.heap.size ∧ ∃T' F', cW T' W1 gl d F' [] n f k∧gg O D W1 gp ps∧Wl.St j F' [] n f k [(k,f)]∧(∀b,T' b->m<=b ∧ ¬U b∧b<W1.heap.size) ∧ ∀b,T' b -> ¬O b ∧ ¬D b):=by
 have hw:=p.st.wt (by omega)
 refine(uQ p.log (p.st.uS.kinds (by omega)) (by omega)).mono ?_
 rintro e W1 ⟨he,hl,hk⟩;refine⟨he,hk.imp fun b _ _ h h' => ?_,hk.size,_,_,hl.tight,p.past.keep (hk.imp fun b _ _ h h' => ?_),p.st.sync,fun b h => ?_,fun b h=>⟨fun h' => ?_,fun h' => ?_⟩⟩
 ·have h2:=p.gi b h'
  rcases h with h | h
  ·omega
  ·exact h2.2 h
 ·have h2:=p.apart b h'
  rcases h with h | h
  ·exact h2.1 h
  ·exact h2.2 h
 ·rcases h.1 with h1 | h1
  ·exact⟨(p.gi b h1).1,(p.gi b h1).2,h.2⟩
  ·exact⟨by omega,fun h' => by have:=hU b h'; omega,h.2⟩
 ·rcases h.1 with h1 | h1
  ·exact(p.apart b h1).1 h'
  ·have:=hO b h'; omega
 ·rcases h.1 with h1 | h1
  ·exact(p.apart b h1).2 h'
  ·have:=hD b h'; omega
theorem yZ(hU : ∀b,U b->b<W.heap.size)(TS:m<=W.heap.size)(hl:cW T W gl d F B n f k)(hp:gg O D W gp ps)(hs:Wl.St j F B n f k [(k,f)])(AM : ∃qs,ps=qs ++ [(k,f)])(hlen:ps.length<=900)
 (gi : ∀b,T b->m<=b ∧ ¬U b∧b<W.heap.size) (mU : ∀b,O b->m<=b ∧ ¬U b) (qA : ∀b,D b -> ¬U b) (apart : ∀b,T b -> ¬O b ∧ ¬D b) :
 Calls Tryz.prog 15 #[Wl.ptr gp] W (fun e W1=>e = .returned (.tuple #[])∧xD m U W W1∧W.heap.size<=W1.heap.size∧uT m U W1 gl d gp f k (j+1)):=by
 obtain⟨vL,vF,qs,vi,va,vc,p1,e1⟩:=hp.Fu AM;have Xu:qs.length<=1000:=by
  rw[e1]at hlen
  simp at hlen
  omega
 refine(yU p1 Xu).mono ?_;rintro e W1 ⟨he,hp1,hk⟩;refine⟨he,hk.imp fun b _ _ h h' => ?_,hk.size,T,_,_,F,B,n, [(k,f)],hl.keep (hk.imp fun b _ _ h h' => (apart b h).1 h'),hp1,hs.skip,by simp,fun b h=>⟨(gi b h).1,(gi b h).2.1⟩,fun b h => ?_,fun b h => ?_,fun b h=>⟨fun h' => ?_,fun h' => ?_⟩⟩
 ·have h3:=mU b h'
  rcases h with h | h
  ·omega
  ·exact h3.2 h
 ·rcases h with h3 | h3
  ·exact mU b h3
  ·exact⟨by omega,fun h' => by have:=hU b h'; omega⟩
 ·exact h.1.elim (qA b) (qA b)
 ·have h4:=gi b h
  rcases h' with h3 | h3
  ·exact(apart b h).1 h3
  ·omega
 ·exact h'.1.elim (apart b h).2 (apart b h).2
theorem wy(E:Env n0 W)(hU : ∀b,U b->b<W.heap.size)(TS:m<=W.heap.size)(p:px m U W gl d gp f k j T O D F B n ps)(hO : ∀b,O b->b<W.heap.size)(hD : ∀b,D b->b<W.heap.size)(hj:j<=40)(vi va vc:Value)(hr:bL D W k vi va vc) :
 Calls Tryz.prog 16 #[Wl.ptr gl, .int .i64 2, .agg (Hd.cells k vi va vc)] W (fun e W1=>e = .returned (.int .i64 0)∧xD m U W W1∧W.heap.size<=W1.heap.size ∧ ∃T' F' B' n', cW T' W1 gl d F' B' n' 2 k∧gg O D W1 gp ps∧Wl.St (j+1) F' B' n' 2 k (ps ++ [(k,2)])∧bL D W1 k vi va vc∧(∀b,T' b->m<=b ∧ ¬U b∧b<W1.heap.size) ∧ ∀b,T' b -> ¬O b ∧ ¬D b):=by
 refine(BH E p.log p.st (by omega) 2 (.inr rfl) k p.st.ok.two vi va vc (hr.imp fun b h h' => (p.apart b h').2 h)).mono ?_
 rintro e W1 ⟨he,hk,F', B', n', hl,hs⟩;refine⟨he,hk.imp fun b _ _ h h' => ?_,hk.size,_,F', B', n', hl.tight,p.past.keep (hk.imp fun b _ _ h h' => ?_),hs,hr.keep (hk.keep fun b _ _ _ _ h h' => (p.apart b h').2 h),fun b h => ?_,fun b h=>⟨fun h' => ?_,fun h' => ?_⟩⟩
 ·have h2:=p.gi b h'
  rcases h with h | h
  ·omega
  ·exact h2.2 h
 ·have h2:=p.apart b h'
  rcases h with h | h
  ·exact h2.1 h
  ·exact h2.2 h
 ·rcases h.1 with h1 | h1
  ·exact⟨(p.gi b h1).1,(p.gi b h1).2,h.2⟩
  ·exact⟨by omega,fun h' => by have:=hU b h'; omega,h.2⟩
 ·rcases h.1 with h1 | h1
  ·exact(p.apart b h1).1 h'
  ·have:=hO b h'; omega
 ·rcases h.1 with h1 | h1
  ·exact(p.apart b h1).2 h'
  ·have:=hD b h'; omega
theorem BL(hU : ∀b,U b->b<W.heap.size)(TS:m<=W.heap.size)(hl:cW T W gl d F B n 2 k)(hp:gg O D W gp ps)(hs:Wl.St (j+1) F B n 2 k (ps ++ [(k,2)]))(hlen:ps.length<=j+1)(hj:j<=40){vi va vc:Value}(hr:bL D W k vi va vc)
 (gi : ∀b,T b->m<=b ∧ ¬U b∧b<W.heap.size) (mU : ∀b,O b->m<=b ∧ ¬U b) (qA : ∀b,D b -> ¬U b) (apart : ∀b,T b -> ¬O b ∧ ¬D b) :
 Calls Tryz.prog 17 #[Wl.ptr gp, .agg (Hd.cells k vi va vc), .int .i64 2] W (fun e W1=>e = .returned (.tuple #[])∧xD m U W W1∧W.heap.size<=W1.heap.size∧uT m U W1 gl d gp 2 k (j+1)):=by
 obtain⟨vL,vF,qs,p1,e1⟩:=hp;have Xu:qs.length<=1000:=by
  rw[e1]at hlen
  simp at hlen
  omega
 refine(sG (X:=D) ⟨k,2,vi,va,vc⟩ p1 Xu hr (fun b h h' => p1.apart b h' h)).mono ?_
 rintro e W1 ⟨he,hp1,hk⟩;refine⟨he,hk.imp fun b _ _ h h' => ?_,hk.size,T,_,_,F,B,n,ps ++ [(k,2)],hl.keep (hk.imp fun b _ _ h h' => (apart b h).1 h'),by rw[e1];have h9:=hp1;rw[List.map_append]at h9;exact h9,hs,by rw[List.length_append];simp;omega,fun b h=>⟨(gi b h).1,(gi b h).2.1⟩,fun b h => ?_,fun b h => ?_,fun b h=>⟨fun h' => ?_,fun h' => ?_⟩⟩
 ·have h3:=mU b h'
  rcases h with h | h
  ·omega
  ·exact h3.2 h
 ·rcases h with h3 | h3
  ·exact mU b h3
  ·exact⟨by omega,fun h' => by have:=hU b h'; omega⟩
 ·exact h.1.elim (qA b) (qA b)
 ·have h4:=gi b h
  rcases h' with h3 | h3
  ·exact(apart b h).1 h3
  ·omega
 ·exact h'.1.elim (apart b h).2 (apart b h).2
end
end
end Go.Proofs.YtdkdjofnnnljjaaGreatDoor
