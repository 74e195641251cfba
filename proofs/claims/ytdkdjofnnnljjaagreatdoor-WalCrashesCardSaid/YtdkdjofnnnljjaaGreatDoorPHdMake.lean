/- Several texts of mine in one: GFt HdMake. -/
import Derived.Test.YtdkdjofnnnljjaaGreatDoorPGFs
import Derived.Test.YtdkdjofnnnljjaaGreatDoorPPkMath
import Derived.Deep.RegionWith
import Derived.Test.YtdkdjofnnnljjaaGreatDoorPWlRepl
namespace Go.Proofs.YtdkdjofnnnljjaaGreatDoor
open Go.RowKit
set_option maxHeartbeats 1600000
set_option maxRecDepth 4000
theorem rR{α:Type}{ls:List (List α)}{k:Nat}{l:List α}(h:ls[k]? = some l):(ls.take (k+1)).flatten=(ls.take k).flatten++l:=by
 rw[List.take_add_one,h];simp
theorem iy{α:Type}{ls:List (List α)}{k:Nat}{l:List α}(h:ls[k]? = some l):(ls.take k).flatten.length+l.length<=ls.flatten.length:=by
 have e:=congrArg (fun x:List (List α)=>x.flatten.length) (List.take_append_drop (k+1) ls)
 simp only[List.flatten_append,List.length_append,rR h]at e
 omega
theorem D9(v:Value)(ls:List (List UInt8))(w:World)(hv:lM w v ls)(h0:0<ls.flatten.length)(hlen:ls.flatten.length<=140737488351232) :
 Calls Tryz.prog 94 #[v] w (xH w 5 ls.flatten):=by
 obtain⟨ao,cap,rfl,hc1,hc2⟩:=hv.shape;have hpos:0<ls.length:=by
  cases ls with
  | nil=>simp at h0
  | cons _ _=>simp
 obtain⟨b,off,rfl,hcell⟩:=hv.place hpos;have HC:=aa hcell;clear hcell;have H0:=aa h0;clear h0
 go_enter Tryz.func94,Tryz.ntmps94
 go_wp2
 go_loop [3,11] (fun s i => ∃k S:Nat,i = .int .i64 (k:Int)∧s = .int .i64 (S:Int)∧k<=ls.length∧S<=140737488351232∧Hid (S=(ls.take k).flatten.length)) (fun _ i=>ls.length - (intOf i).toNat)
 case atStart=>exact⟨0,0,rfl,rfl,by omega,by omega,show 0=_ by simp⟩
 case round =>
  obtain⟨k,S,rfl,rfl,hk,hS,HS⟩:=hrel;by_cases hlt:k<ls.length
  ·obtain⟨l,hl⟩ : ∃l,ls[k]? = some l:=⟨_,List.getElem?_eq_getElem hlt⟩
   obtain⟨u,hu,hr⟩:=HC.out k l hl;obtain⟨uo,Ea,rfl⟩:=hr.shape;have hle:=iy hl;have H1:Hid (S+l.length=(ls.take (k+1)).flatten.length):=by show _=_;rw[rR hl,List.length_append,HS.out]
   have XN:S+l.length<=140737488351232:=by have:=HS.out;omega
   clear hr hl hle;go_wp2
   go_round
   case rel=>exact⟨k+1,S+l.length,by go_num,by go_num,by omega,XN,H1⟩
   case measure=>simp[intOf];omega
  ·have XO:Hid (S=ls.flatten.length):=by show _=_;rw[HS.out,List.take_of_length_le (by omega)]
   have XP:0<S:=by have:=XO.out;have:=H0.out;omega
   clear HS
   go_wp2_with fail
   refine(Mb S w XP (by omega)).mono ?_
   rintro e w1 ⟨v1,rfl,lj,hb1⟩
   go_wp2_with fail
   go_loopw [6,27] (fun x i wr => ∃k:Nat,i = .int .i64 (k:Int)∧k<=ls.length∧bF wr w.heap.size 5 x (ls.take k).flatten∧Below w.heap.size w wr) (fun _ i _=>ls.length - (intOf i).toNat)
   case atStart=>exact⟨0,rfl,by omega,by simpa using lj,hb1⟩
   case round =>
    clear lj hb1;obtain⟨k,rfl,hk,ho,hb⟩:=hrel;by_cases hlt:k<ls.length
    ·obtain⟨l,hl⟩ : ∃l,ls[k]? = some l:=⟨_,List.getElem?_eq_getElem hlt⟩
     obtain⟨u,hu,hr⟩:=HC.out k l hl;obtain⟨uo,Ea,rfl⟩:=hr.shape;have hle:=iy hl;have hu' : wr.cell? ⟨b,off+k,none⟩=some (.slice uo l.length Ea):=(hb.cell (p:=⟨b,off+k,none⟩) (World.block_lt_of_cell? w _ hu)).trans hu;have hr' := hr.below hb;have sK:(ls.take k).flatten.length+l.length<=140737488355328:=by omega
     have H2:Hid ((ls.take (k+1)).flatten=(ls.take k).flatten++l):=rR hl;clear hu hr hle hl
     go_wp2_with (at_builtin;refine fA rfl _ _ 30 5 rfl Tryz.underlying30 eV w.heap.size _ l _ _ rfl rfl ho hr' sK w hb (Nat.le_refl _) ?_;intro v' w' zr hb' _)
     go_roundw
     case rel=>exact⟨k+1,by go_num,by omega,by rw[H2.out];exact zr, hb'⟩
     case measure=>simp[intOf];omega
    ·rw[List.take_of_length_le (by omega)]at ho
     go_wp2;go_ret;exact⟨_,rfl,ho,hb⟩
theorem Mc(v u:Value)(l m:List UInt8)(w:World)(hv:Reads w v l)(hu:Reads w u m)(hT:eh w)(h0:1<=m.length)(h1:m.length<=65536)(hlen:l.length<=140737488000000) :
 Calls Tryz.prog 70 #[v,u] w fun e w' => ∃x,e = .returned (.tuple #[x, .int .i64 0])∧bF w' w.heap.size 5 x (l++cK.frame m)∧Below w.heap.size w w' := by
 obtain⟨ao,cap,rfl⟩:=hv.shape;obtain⟨uo,Ea,rfl⟩:=hu.shape;have hs:fX (m.length:Int)=0:=by unfold fX;rw[if_neg (by omega),if_neg (by omega)]
 have h9:=aA (n:=m.length) (by omega)
 obtain⟨n,hn⟩ : ∃n,n=m.length:=⟨_,rfl⟩;rw[<- hn]at h0 h1 hs
 have HS:=aa hs;clear hs;have HN:=aa hn;rw[<- hn]
 go_enter Tryz.func70,Tryz.ntmps70
 clear hn
 go_wp2_with fail
 refine(fS n _).mono ?_;rintro e w' ⟨rfl,rfl⟩;rw[HS.out]
 go_wp2_with fail
 refine(Fw _ [] n _ (Reads.empty _) (by simp) (by omega) (by omega)).mono ?_
 rintro e w1 ⟨x1,rfl,lj,hb1⟩;rw[List.nil_append,Int.toNat_natCast]at lj
 obtain⟨Z5,Z6,rfl⟩:=lj.reads.shape
 go_wp2_with fail
 refine(Ca _ m _ (by rw[HN.out];exact hu.below hb1) (hT.below hb1)).mono ?_
 rintro e w2 ⟨x2,rfl,lY,hb2⟩;obtain⟨x2o,x2c,rfl⟩:=lY.reads.shape;have vp:=on hb1 hb2;have hL:lM (w2.alloc (.cells #[.slice ao l.length cap, .slice Z5 (enc n).length Z6, .slice uo n Ea, .slice x2o (cK.tail m).length x2c] 30)) (.slice (some ⟨w2.heap.size,0,none⟩) 4 4) [l,enc n,m,cK.tail m]:=by
  refine lM.laid w2 _ _ _ 4 _ rfl rfl rfl (by omega) fun j a b ha hb => ?_
  match j with
  | 0=>simp at ha hb;subst ha hb;exact hv.below vp
  | 1=>simp at ha hb;subst ha hb;exact lj.reads.below hb2
  | 2=>simp at ha hb;subst ha hb;rw[HN.out];exact hu.below vp
  | 3=>simp at ha hb;subst ha hb;exact lY.reads
  | j+4=>simp at ha
 have Sx : [l,enc n,m,cK.tail m].flatten=l++cK.frame m:=by unfold cK.frame;rw[<- HN.out];simp
 have hfn:(l++cK.frame m).length=l.length+((enc n).length+n+4):=by rw[List.length_append,cK.eR, <- HN.out]
 have hle:(enc n).length<=9:=by rw[HN.out];exact h9
 have hc:=D9 _ _ _ hL (by rw[Sx,hfn];omega) (by rw[Sx,hfn];omega)
 rw[Sx]at hc
 clear Sx hfn hL
 go_wp2_with (go_at_call 94;refine hc.mono ?_;rintro e w3 ⟨x3,rfl,fM,hb3⟩)
 go_ret2
 exact⟨_,rfl,fM.mono (by have:=vp.size;simp;omega),on vp (on ((Below.refl _ _).alloc (Nat.le_refl _) _) hb3)⟩
theorem Reads.cut{w:World}{b off n cap:Nat}{l:List UInt8}(h:Reads w (.slice (some ⟨b,off,none⟩) n cap) l)(f k:Nat)(hk:f+k<=l.length):Reads w (.slice (some ⟨b,off+f,none⟩) k (cap - f)) ((l.drop f).take k):=by
 obtain⟨EX, cap', hv,h1,h2,h3,h4⟩:=h;simp only[Value.slice.injEq]at hv
 obtain⟨rfl,rfl,rfl⟩:=hv;have e:((l.drop f).take k).length=k:=by simp;omega
 refine⟨some ⟨b,off+f,none⟩,cap - f,by rw[e],by rw[e];omega,by omega,(fun h=>by cases h),fun x hx j u hu => ?_⟩
 cases hx;have:=h4 _ rfl (f+j) u (by
  simp only[cellsOf,List.getElem?_map,List.getElem?_take,List.getElem?_drop]at hu ⊢
  split at hu
  ·exact hu
  ·simp at hu)
 rw[Addr.add_lit]at this ⊢
 rw[Nat.add_assoc];exact this
def nt(w:World)(r:List UInt8 × Int × Int)(e:Ending)(w' : World):Prop :=
 ∃v,e = .returned (.tuple #[v, .int .i64 r.2.1, .int .i64 r.2.2])∧bF w' w.heap.size 5 v r.1∧Below w.heap.size w w'
theorem nt.none(w:World)(e:Int)(w' : World)(h:Below w.heap.size w w'):nt w ([],0,e) (.returned (.tuple #[.slice none 0 0, .int .i64 0, .int .i64 e])) w' :=
 ⟨_,rfl,bF.empty _ _ _,h⟩
theorem Cb(v:Value)(l:List UInt8)(pl:Int)(w:World)(hv:Reads w v l)(hT:eh w)(hlen:l.length<=140737487000000) :
 Calls Tryz.prog 111 #[v, .int .i64 pl] w (nt w (cK.next l pl)):=by
 obtain⟨ao,cap,rfl⟩:=hv.shape;obtain⟨_,hc1,hc2,_⟩:=hv.len;rcases cK.uI l pl with ⟨e,he,hg,hn⟩ | ⟨p,n,c,rfl,h2,h3,h4,hg,h5,FF⟩
 ·rw[hn]
  have HG:=aa hg;clear hg hn
  go_enter Tryz.func111,Tryz.ntmps111
  go_wp2_with fail
  refine(uW _ l pl _ _ _ _ hv HG).mono ?_;rintro e' w' ⟨rfl,rfl⟩
  go_wp2_with fail
  go_ret3
  exact nt.none _ _ _ (Below.refl _ _)
 ·have HG:=aa hg;clear hg h5
  obtain⟨f,hf⟩ : ∃f,f=p+c:=⟨_,rfl⟩;rw[<- hf]at h2 HG FF
  have hpf:p<f:=by omega
  clear hf;have hs0:fX (n:Int)=3∧n=0∨fX (n:Int)=2∧65536<n∨fX (n:Int)=0∧0<n∧n<=65536:=by unfold fX;split;omega;split<;>omega
  rcases FF with ⟨h0,hn⟩ | ⟨h0,hn⟩ | ⟨h0,h1,⟨hs,hn⟩ | ⟨hs,FF⟩⟩
  ·rw[hn];clear hn hs0
   subst h0;have HS:Hid (fX 0=3):=rfl
   go_enter Tryz.func111,Tryz.ntmps111
   go_wp2_with fail
   refine(uW _ l p _ _ _ _ hv HG).mono ?_;rintro e' w' ⟨rfl,rfl⟩
   go_wp2_with fail
   refine(fS _ _).mono ?_;rintro e' w' ⟨rfl,rfl⟩;rw[HS.out]
   go_wp2_with fail
   go_ret3
   exact nt.none _ _ _ (Below.refl _ _)
  ·rw[hn];clear hn
   have HS:Hid (fX (n:Int)=2):=by show _=_;omega
   clear hs0
   go_enter Tryz.func111,Tryz.ntmps111
   go_wp2_with fail
   refine(uW _ l p _ _ _ _ hv HG).mono ?_;rintro e' w' ⟨rfl,rfl⟩
   go_wp2_with fail
   refine(fS _ _).mono ?_;rintro e' w' ⟨rfl,rfl⟩;rw[HS.out]
   go_wp2_with fail
   go_ret3
   exact nt.none _ _ _ (Below.refl _ _)
  ·rw[hn];clear hn
   have HS:Hid (fX (n:Int)=0):=by show _=_;omega
   clear hs0
   go_enter Tryz.func111,Tryz.ntmps111
   go_wp2_with fail
   refine(uW _ l p _ _ _ _ hv HG).mono ?_;rintro e' w' ⟨rfl,rfl⟩
   go_wp2_with fail
   refine(fS _ _).mono ?_;rintro e' w' ⟨rfl,rfl⟩;rw[HS.out]
   go_wp2_with fail
   go_ret3
   exact nt.none _ _ _ (Below.refl _ _)
  ·obtain⟨b,off,rfl,_⟩:=hv.place (by omega)
   have hr1:=hv.cut f n (by omega)
   have hr2:=hv.cut (f+n) 4 (by omega)
   have hfc : ¬cap=f:=by omega
   have hfn : ¬cap=f+n:=by omega
   have aH:((l.drop f).take n).length<=140737488000000:=by simp;omega
   have HL:=aa aH;have HS:Hid (fX (n:Int)=0):=by show _=_;omega
   clear hs0 aH;have hw : ∀ {t:Bool} {r:List UInt8 × Int × Int},Hid (((l.drop (f+n)).take 4 == cK.tail ((l.drop f).take n))=t) ->
    (∀(w2:World),Below w.heap.size w w2->if t=true then ∀x,bF w2 w.heap.size 5 x ((l.drop f).take n)->nt w r (.returned (.tuple #[x, .int .i64 ((f:Int)+(n:Int)+4), .int .i64 0])) w2
      else nt w r (.returned (.tuple #[.slice none 0 0, .int .i64 0, .int .i64 4])) w2) ->
    Calls Tryz.prog 111 #[.slice (some ⟨b,off,none⟩) l.length cap, .int .i64 (p:Int)] w (nt w r):=by
    intro t r HT hP
    have HP:=aa hP;clear hP
    go_enter Tryz.func111,Tryz.ntmps111
    go_wp2_with fail
    refine(uW _ l p _ _ _ _ hv HG).mono ?_;rintro e' w' ⟨rfl,rfl⟩
    go_wp2_with fail
    refine(fS _ _).mono ?_;rintro e' w' ⟨rfl,rfl⟩;rw[HS.out]
    go_wp2_with fail
    go_region_with (first
     | (go_at_call 96;refine(Ca _ ((l.drop f).take n) _ ?h1 ?h2).mono ?_;(case h1=>exact hr1);(case h2=>exact hT);rintro e' w1 ⟨x1,rfl,lj,hb1⟩;obtain⟨Z5,Z6,rfl⟩:=lj.reads.shape)
     | (go_at_call 149;refine(Ij _ _ ((l.drop (f+n)).take 4) (cK.tail ((l.drop f).take n)) _ ?h1 ?h2).mono ?_;(case h1=>exact hr2.below (on (Below.refl _ w).drew hb1));(case h2=>exact lj.reads);rintro e' w2 ⟨rfl,rfl⟩;rw[HT.out]))
    all_goals
     have hB:=on (Below.refl w.heap.size w).drew hb1;cases t with
     | true =>
      go_wp2_with fail
      refine(di _ ((l.drop f).take n) _ (hr1.below hB) (by have:=HL.out;omega)).mono ?_
      rintro e' w3 ⟨x3,rfl,fM,hb3⟩
      go_wp2_with fail
      go_ret3
      have hP:=HP.out w3 (on hB hb3);simp only[if_true]at hP
      exact hP x3 (fM.mono hB.size)
     | false =>
      go_wp2_with fail
      go_ret3
      have hP:=HP.out _ hB;rw[if_neg (by simp)]at hP
      exact hP
   rcases FF with ⟨he,hn⟩ | ⟨he,hn⟩
   ·rw[hn]
    refine hw (t:=true) (by show _=_;simpa using he) fun w2 hb2 => ?_
    rw[if_pos rfl];exact fun x hx=>⟨x,by simp,hx,hb2⟩
   ·rw[hn]
    refine hw (t:=false) (by show _=_;simpa using he) fun w2 hb2 => ?_
    rw[if_neg (by simp)]
    exact nt.none _ _ _ hb2
end Go.Proofs.YtdkdjofnnnljjaaGreatDoor

namespace Go.Proofs.YtdkdjofnnnljjaaGreatDoor
open Go.RowKit
set_option maxHeartbeats 3200000
set_option maxRecDepth 8000
theorem Cc : (Tryz.prog.info? 42).map (fun i=>(i.zero,i.size,i.bytes))=some (some (.agg (Re.cells Re.zero Nil)),12,136):=by kernel_rfl
abbrev bM(w:World)(base:Nat)(v:Value)(l:List Re.Rec):Prop:=bb 12 Re.cells Re.Rec.aw (fun _ t=>t=5) w base 42 v l
theorem bM.reads{w:World}{base:Nat}{v:Value}{l:List Re.Rec}(h:bM w base v l):gS (fun k _=>k<w.heap.size) w v l :=
 bb.reads (bb.imp h fun b cs t fr e _=>aK e) gK fun g e=>by obtain⟨cs,hc,_⟩:=bb.blocks h e;exact aK hc
theorem bM.shape{w:World}{base:Nat}{v:Value}{l:List Re.Rec}(h:bM w base v l) : ∃o n c,v = .slice o n c:=by
 obtain⟨ps,_,h1,_⟩:=h;obtain⟨a,c,e⟩:=aU.shape h1;exact⟨a,_,c,e⟩
theorem fT{w:World}{ops:Array Oper}{rest:List Oper}{o:Oper}{a:Act}{Q:Exit->Act->World->Prop}(hg:o.guard=none)(s x:Operand)(ho:o.op = .call { callee := .builtin .append,args := #[s,x],argTypes := #[61,61] })
 (base:Nat) (out:Value) (G:List Re.Rec) (hs:a.eval s=out) (hown:bM w base out G) (f:Re.Rec) (u:Value) (g:Nat) (hx:a.eval x = .slice (some ⟨g,0,none⟩) 1 1) (hl:ae w g 42 (Re.cells f u)) (hu:aS (fun _ t=>t=5) w u f.aw)
 (hlen:G.length<=10000000) (hbase:base<=w.heap.size) (hK : ∀v' w', bM w' base v' (G ++ [f])->w.grownBy w' out.ownBlock->wpList Tryz.prog ops Q rest (a.put o.dst v') w'):wpList Tryz.prog ops Q (o :: rest) a w:=by
 obtain⟨v', w', hrun,h1,h2,_⟩:=hown.snoc (P:=Tryz.prog) (t:=61) o.type gK Tryz.underlying61 Cc rfl (by decide) hbase f u hl hu (by omega) (by omega) (fun _ _ h=>absurd h (by decide))
 exact step_append hg s x 61 ho out _ v' hs hx hrun (hK v' w' h1 h2)
theorem bM.behind{w w' W:World}{base:Nat}{v:Value}{l:List Re.Rec}(h:bM w base v l)(hb:Below base W w)(hs:base<=W.heap.size)(hg:w.grownBy w' v.ownBlock):Below base W w' :=
 hb.grown hg (Nat.le_trans hs hb.size) fun g e=>by obtain⟨_,_,h2⟩:=bb.blocks h e;exact h2
def Md(w:World)(l:List Re.Rec)(e:Ending)(w' : World):Prop := ∃v,e = .returned v∧gS (fun k _=>k<w'.heap.size) w' v l∧Below w.heap.size w w'
theorem Ce(h:Hd.az)(vi va vc:Value)(w:World)(hr:cH w h vi va vc)(hf:h.G2) :
 Calls Tryz.prog 86 #[.agg (Hd.cells h vi va vc)] w (Md w (Hd.recs h)):=by
 obtain⟨io,ic,rfl⟩:=hr.aw.shape;obtain⟨ao,ac,rfl,ha1,ha2⟩:=aW.shape hr.acc;obtain⟨co,cc,rfl,hc1,hc2⟩:=aW.shape hr.bl;obtain⟨w1,e1,aH,aq,hs1⟩:=kT w h (.slice io h.aw.length ic) (.slice ao h.acc.length ac) (.slice co h.bl.length cc);have HR:=aa (hr.below aq);have HB:=aa aq;have HL:=aa aH;have HF:=aa hf;have Fz:=aa (fun x=>aW.places (hr.below aq).acc x)
 have FA:=aa (fun x=>aW.places (hr.below aq).bl x)
 obtain⟨n,hn⟩ : ∃n,n=h.aw.length:=⟨_,rfl⟩;obtain⟨na,zL⟩ : ∃n,n=h.acc.length:=⟨_,rfl⟩;obtain⟨nc,sJ⟩ : ∃n,n=h.bl.length:=⟨_,rfl⟩;rw[<- hn, <- zL, <- sJ]at HR HL e1
 rw[<- zL]at Fz ha1
 rw[<- sJ]at FA hc1
 rw[<- hn, <- zL, <- sJ];have qC:=aa zL;have qD:=aa sJ;have T3:na<9223372036854775808:=by omega
 have T4:nc<9223372036854775808:=by omega
 have gq:Hid (∀W,Below w1.heap.size w1 W->AV W w.heap.size h (.slice io n ic) (.slice ao na ac) (.slice co nc cc)):=fun W hW=>HL.below hW HL.lt
 have HE:Hid (∀W v L,Below w1.heap.size w1 W->bM W w1.heap.size v L->L=Hd.recs h->Md w (Hd.recs h) (.returned v) W):=fun W v L hb ho e=>⟨v,rfl,by rw[<- e];exact bM.reads ho,HB.trans (hb.mono HB.size)⟩
 obtain⟨Q,hQ⟩ : ∃Q,Q=Md w (Hd.recs h):=⟨_,rfl⟩;rw[<- hQ]at HE ⊢
 have hgd:=jq;have vQ:=fun W=>sM W h.aC Bl.zero
 obtain⟨t,ht⟩ : ∃t,t=decide (h.aC=Bl.zero):=⟨_,rfl⟩;rw[<- ht]at vQ
 have HT:=aa ht;dsimp only [Bl.cells,Bl.zero]at vQ
 have c2:w1.cell? ⟨w.heap.size,2,none⟩=some (.int .i64 h.base):=HL.cell 2 _ rfl;clear hn zL sJ hr aH aq hf ha2 hc2 hQ ht hs1
 go_enter Tryz.func86,Tryz.ntmps86
 by_cases hb0:0<h.base
 ·have c3:w1.cell? ⟨w.heap.size,3,none⟩=some (.slice io n ic):=HL.cell 3 _ rfl
  have Ht:=aa hb0;go_wp2;refine wp_region_held_drew (S:=fun W=>W.cell? ⟨w.heap.size,2,none⟩=some (.int .i64 h.base)∧W.cell? ⟨w.heap.size,3,none⟩=some (.slice io n ic)) (by kernel_rfl) (⟨c2,c3⟩) (fun hHeld => ?_)
  refine wpAnyH_take (i:=0) (v := ?v0) rfl (by kernel_rfl) (by kernel_rfl) (by kernel_rfl) (fun _ _ _ h=>h) (Or.inl ⟨by kernel_rfl, ?hy0⟩) hHeld ?Jp
  case hy0=>(intro W hSw;obtain⟨s1,s2⟩:=hSw;go_simp;(try with_reducible rfl))
  refine wpAnyH_take (i:=1) (v := ?v1) rfl (by kernel_rfl) (by kernel_rfl) (by kernel_rfl) (fun _ _ _ h=>h) (Or.inl ⟨by kernel_rfl, ?wO⟩) hHeld ?Jq
  case wO=>(intro W hSw;obtain⟨s1,s2⟩:=hSw;go_simp;(try with_reducible rfl))
  refine wpAnyH_take (i:=2) (v := ?v2) rfl (by kernel_rfl) (by kernel_rfl) (by kernel_rfl) (fun _ _ _ h=>h) (Or.inl ⟨by kernel_rfl, ?IX⟩) hHeld ?Jr
  case IX=>(intro W hSw;obtain⟨s1,s2⟩:=hSw;go_simp;(try with_reducible rfl))
  refine wpAnyH_take (i:=3) (v := ?v3) rfl (by kernel_rfl) (by kernel_rfl) (by kernel_rfl) (fun _ _ _ h=>h) (Or.inl ⟨by kernel_rfl, ?WC⟩) hHeld ?S4
  case WC=>(intro W hSw;obtain⟨s1,s2⟩:=hSw;go_simp;(try with_reducible rfl))
  refine wpAnyH_take (i:=4) (v := ?v4) rfl (by kernel_rfl) (by kernel_rfl) (by kernel_rfl) (fun _ _ _ h=>h) (Or.inl ⟨by kernel_rfl, ?PR⟩) hHeld ?Js
  case PR=>(intro W hSw;obtain⟨s1,s2⟩:=hSw;go_simp;(try with_reducible rfl))
  refine wpAnyH_ready (rs := [5]) (by kernel_rfl) (by simp) ?_
  refine AllReadyH.cons rfl (fun K hK => ?_) AllReadyH.nil
  rw[if_pos (by kernel_rfl)]
  go_simp
  go_at_call 61
  refine(di (.slice io n ic) h.aw w1.drew (HR.aw.below (drawn w1 1)) HF.aw).mono ?_;rintro e w2 ⟨v2,rfl,lY,hb2⟩;obtain⟨uo,uc,rfl⟩:=lY.reads.shape;have aR:Hid (Below w1.heap.size w1 w2):=(drawn w1 1).trans (hb2.mono (drawn w1 1).size);have lR:=aa lY;clear lY hb2;dsimp only;refine hK.out _ _ ⟨(gq.out _ aR.out).cell 2 _ rfl,(gq.out _ aR.out).cell 3 _ rfl⟩ (fun hHeld => ?_)
  clear hK K;refine wpAnyH_ready (rs := [6]) (by kernel_rfl) (by simp) ?_
  refine AllReadyH.cons rfl (fun K hK => ?_) AllReadyH.nil
  rw[if_pos (by kernel_rfl)]
  go_simp
  go_at_call 124
  refine(xy h.base (.slice uo h.aw.length uc) h.aw w2 lR.reads).mono ?_;rintro e w3 ⟨rfl,hb3⟩;have bh:Hid (Below w1.heap.size w1 w3):=aR.trans (hb3.mono aR.size);have HU3:Hid (aS (fun _ t=>t=5) w3 (.slice uo h.aw.length uc) h.aw):=(aS.own (p:=fun _ t=>t=5) lR.out fun _ _=>rfl).keep (dS.bp hb3)
  clear hb3;dsimp only [Re.cells];refine hK.out _ _ ⟨(gq.out _ bh.out).cell 2 _ rfl,(gq.out _ bh.out).cell 3 _ rfl⟩ (fun hHeld => ?_)
  clear hK K;have bJ:Hid (Below w1.heap.size w1 (w3.alloc (.cells (Re.cells (Hd.bV h) (.slice uo h.aw.length uc)) 42))):=bh.alloc bh.size _;refine wpAnyH_ready (rs := [7]) (by kernel_rfl) (by simp) ?_
  refine AllReadyH.cons rfl (fun K hK => ?_) AllReadyH.nil
  rw[if_pos (by kernel_rfl)]
  go_simp;refine hK.out _ _ ⟨(gq.out _ bJ.out).cell 2 _ rfl,(gq.out _ bJ.out).cell 3 _ rfl⟩ (fun hHeld => ?_)
  clear hK K;obtain⟨v5,w5,hrun,eW,bU,_⟩:=bb.snoc (P:=Tryz.prog) (t:=61) 61 (bb.bare (k:=12) (cells:=Re.cells) (bytes:=Re.Rec.aw) (fun _ t=>t=5) (w3.alloc (.cells (Re.cells (Hd.bV h) (.slice uo h.aw.length uc)) 42)) w1.heap.size 42) gK Tryz.underlying61 Cc rfl (by decide) bJ.size (Hd.bV h) (.slice uo h.aw.length uc) (ae.new w3 42 (Re.cells (Hd.bV h) (.slice uo h.aw.length uc))) (HU3.keep (dS.alloc _ _ _)) (by simp) (by simp) (fun _ _ h=>absurd h (by decide))
  have iW:Hid (bM w5 w1.heap.size v5 [Hd.bV h]):=eW;have bK:Hid (Below w1.heap.size w1 w5):=bJ.grown bU bJ.size (by intro j hj;cases hj)
  clear eW bU;refine wpAnyH_ready (rs := [8]) (by kernel_rfl) (by simp) ?_
  refine bt 8 (.tmp 11) (.tmp 18) 61 rfl rfl rfl (.slice none 0 0) (.slice (some ⟨w3.heap.size,0,none⟩) 1 1) v5 w5 ?s8 ?x8 hrun ⟨⟨(gq.out _ bK.out).cell 2 _ rfl,(gq.out _ bK.out).cell 3 _ rfl⟩,fun hHeld => ?_⟩
  case s8=>kernel_rfl
  case x8=>kernel_rfl
  refine wpAnyH_take (i:=9) (v := ?v9) rfl (by kernel_rfl) (by kernel_rfl) (by kernel_rfl) (fun _ _ _ h=>h) (Or.inl ⟨by kernel_rfl, ?hy9⟩) hHeld ?Z7
  case hy9=>(intro W hSw;go_simp;(try with_reducible rfl))
  refine wpAnyH_done (by kernel_rfl) ?_ _
  clear hHeld c2 c3 hrun;obtain⟨p0,p1⟩:w5.cell? ⟨w.heap.size,0,none⟩=some (.int .i64 h.aC.round)∧w5.cell? ⟨w.heap.size,1,none⟩=some (.int .i64 h.aC.node):=⟨(gq.out _ bK.out).cell 0 _ rfl,(gq.out _ bK.out).cell 1 _ rfl⟩;cases t with
  | true =>
   have uX:Hid (([Hd.bV h]:List Re.Rec).length<=2):=by show _<=_;simp
   have b4:w5.cell? ⟨w.heap.size,4,none⟩=some (.slice ao na ac):=(gq.out _ bK.out).cell 4 _ rfl;go_wp2;clear b4
   go_loopw [3,33] (fun y i wr => ∃k:Nat,i = .int .i64 (k:Int)∧k<=na∧Hid (bM wr w1.heap.size y ([Hd.bV h]++(h.acc.take k).map Hd.aX))∧Hid (Below w1.heap.size w1 wr)) (fun _ i _=>na - (intOf i).toNat)
   case atStart=>exact⟨0,rfl,by omega,by have h1:=iW.out;show bM _ _ _ _;simpa using h1,bK⟩
   case round =>
    obtain⟨k,rfl,hk,HO,cj⟩:=hrel;obtain⟨yo,yn,yc,kK⟩:=bM.shape HO.out;subst kK;by_cases DZ:k<na
    ·obtain⟨x,hx⟩ : ∃x,h.acc[k]? = some x:=⟨_,List.getElem?_eq_getElem (by have:=qC.out;omega)⟩
     obtain⟨g,off,rfl,kH,hcell⟩:=Fz.out (by have:=qC.out;omega)
     have bj:Hid (df wr g (off+k*10) x):=hcell wr cj.out k x hx;have jX:Hid (([Hd.bV h]++(h.acc.take k).map Hd.aX).length<=10000000):=by
      show _<=_;have h1:=HF.acc;have h2:=HF.bl;have h3:(h.acc.take k).length<=h.acc.length:=List.length_take_le' _ _;have h4:=uX.out
      (try simp only[List.length_append]at h4)
      simp only[List.length_append,List.length_map];omega
     have lX:Hid ([Hd.bV h]++(h.acc.take k).map Hd.aX ++ [Hd.aX x] = [Hd.bV h]++(h.acc.take (k+1)).map Hd.aX):=by show _=_;rw[List.take_add_one,hx];simp
     clear hcell hx
     go_wp2_with (first
      | (refine cB rfl _ rfl g (off+k*10) x rfl bj.out ?_)
      | (refine cq rfl _ _ rfl wr.heap.size En.zero x rfl rfl (ae.new _ _ _) ?_;intro w7 dH cr;have bw:Hid (Below wr.heap.size wr w7):=aJ cr;obtain⟨d0,d1,d2,d3,d4,d5,d6,d7,d8,d9⟩:=dL.pK dH;clear dH cr)
      | (at_builtin;refine fT rfl _ _ rfl w1.heap.size (.slice yo yn yc) _ rfl (bb.below HO.out (bw.alloc bw.size _)) (Hd.aX x) Nil w7.heap.size rfl (ae.new w7 42 (Re.cells (Hd.aX x) Nil)) (aS.none _ _) jX.out (by have h1:=bw.size;have h2:=cj.size;simp;omega) ?_;intro v8 w8 eU fh;have fN:=aa eU;have cN:Hid (Below w1.heap.size w1 w8):=bM.behind (bb.below HO.out (bw.alloc bw.size _)) ((cj.trans (bw.mono cj.size)).alloc (Nat.le_trans cj.size bw.size) _) (Nat.le_refl _) fh;clear eU fh))
     rw[lX.out]at fN
     go_roundw
     case rel=>exact⟨k+1,by go_num,by omega,fN,cN⟩
     case measure=>simp[intOf];omega
    ·obtain rfl:k=na:=by omega
     have lR:Hid (bM wr w1.heap.size (.slice yo yn yc) ([Hd.bV h]++h.acc.map Hd.aX)):=by have h1:=HO.out;rw[List.take_of_length_le (by have:=qC.out;omega)]at h1;exact h1
     have b5:wr.cell? ⟨w.heap.size,5,none⟩=some (.slice co nc cc):=(gq.out _ cj.out).cell 5 _ rfl;clear HO;go_wp2;clear b5;obtain⟨wv,iZ⟩ : ∃wv,wv=wr:=⟨_,rfl⟩;rw[<- iZ];have bJ:Hid (Below w1.heap.size w1 wv):=by rw[iZ];exact cj
     have qQ:Hid (bM wv w1.heap.size (.slice yo yn yc) ([Hd.bV h]++h.acc.map Hd.aX)):=by rw[iZ];exact lR
     clear iZ cj lR
     go_loopw [3,51] (fun y i wr => ∃j:Nat,i = .int .i64 (j:Int)∧j<=nc∧Hid (bM wr w1.heap.size y ([Hd.bV h]++h.acc.map Hd.aX++(h.bl.take j).map Hd.recC))∧Hid (Below w1.heap.size w1 wr)) (fun _ i _=>nc - (intOf i).toNat)
     case atStart=>exact⟨0,rfl,by omega,by have h1:=qQ.out;show bM _ _ _ _;simpa using h1,bJ⟩
     case round =>
      obtain⟨j,rfl,hj,HO,cj⟩:=hrel;obtain⟨yo,yn,yc,kK⟩:=bM.shape HO.out;subst kK;by_cases D1:j<nc
      ·obtain⟨x,hx⟩ : ∃x,h.bl[j]? = some x:=⟨_,List.getElem?_eq_getElem (by have:=qD.out;omega)⟩
       obtain⟨g,off,rfl,kH,hcell⟩:=FA.out (by have:=qD.out;omega)
       have bj:Hid (df wr g (off+j*10) x):=hcell wr cj.out j x hx;have jX:Hid (([Hd.bV h]++h.acc.map Hd.aX++(h.bl.take j).map Hd.recC).length<=10000000):=by
        show _<=_;have h1:=HF.acc;have h2:=HF.bl;have h3:(h.bl.take j).length<=h.bl.length:=List.length_take_le' _ _;have h4:=uX.out
        (try simp only[List.length_append]at h4)
        simp only[List.length_append,List.length_map];omega
       have lX:Hid ([Hd.bV h]++h.acc.map Hd.aX++(h.bl.take j).map Hd.recC ++ [Hd.recC x] = [Hd.bV h]++h.acc.map Hd.aX++(h.bl.take (j+1)).map Hd.recC):=by show _=_;rw[List.take_add_one,hx];simp
       clear hcell hx
       go_wp2_with (first
        | (refine cB rfl _ rfl g (off+j*10) x rfl bj.out ?_)
        | (refine cq rfl _ _ rfl wr.heap.size En.zero x rfl rfl (ae.new _ _ _) ?_;intro w7 dH cr;have bw:Hid (Below wr.heap.size wr w7):=aJ cr;obtain⟨d0,d1,d2,d3,d4,d5,d6,d7,d8,d9⟩:=dL.pK dH;clear dH cr)
        | (at_builtin;refine fT rfl _ _ rfl w1.heap.size (.slice yo yn yc) _ rfl (bb.below HO.out (bw.alloc bw.size _)) (Hd.recC x) Nil w7.heap.size rfl (ae.new w7 42 (Re.cells (Hd.recC x) Nil)) (aS.none _ _) jX.out (by have h1:=bw.size;have h2:=cj.size;simp;omega) ?_;intro v8 w8 eU fh;have fN:=aa eU;have cN:Hid (Below w1.heap.size w1 w8):=bM.behind (bb.below HO.out (bw.alloc bw.size _)) ((cj.trans (bw.mono cj.size)).alloc (Nat.le_trans cj.size bw.size) _) (Nat.le_refl _) fh;clear eU fh))
       rw[lX.out]at fN
       go_roundw
       case rel=>exact⟨j+1,by go_num,by omega,fN,cN⟩
       case measure=>simp[intOf];omega
      ·obtain rfl:j=nc:=by omega
       have iW:Hid (bM wr w1.heap.size (.slice yo yn yc) ([Hd.bV h]++h.acc.map Hd.aX++h.bl.map Hd.recC)):=by have h1:=HO.out;rw[List.take_of_length_le (by have:=qD.out;omega)]at h1;exact h1
       go_wp2;exact HE.out _ _ _ cj.out iW.out (by unfold Hd.recs;rw[if_pos Ht.out,if_neg (show ¬h.aC≠Bl.zero from fun h1=>h1 (by have:=HT.out;simpa using this.symm))];first | done | simp)
  | false =>
   go_wp2_with (at_builtin;refine fT rfl _ _ rfl w1.heap.size v5 ([Hd.bV h]) rfl (bb.below iW.out ((Below.refl _ w5).alloc (Nat.le_refl _) _)) (Hd.cw h) Nil w5.heap.size rfl (ae.new w5 42 (Re.cells (Hd.cw h) Nil)) (aS.none _ _) (by simp) (Nat.le_trans bK.size (by simp)) ?_;intro v6 w6 sw dt;have Rg:=aa sw;have cy:Hid (Below w1.heap.size w1 w6):=bM.behind (bb.below iW.out ((Below.refl _ w5).alloc (Nat.le_refl _) _)) (bK.alloc bK.size _) (Nat.le_refl _) dt;have b4:w6.cell? ⟨w.heap.size,4,none⟩=some (.slice ao na ac):=(gq.out _ cy.out).cell 4 _ rfl;clear sw dt)
   clear b4 p0 p1;have uX:Hid (([Hd.bV h] ++ [Hd.cw h]:List Re.Rec).length<=2):=by show _<=_;simp
   have b4:w6.cell? ⟨w.heap.size,4,none⟩=some (.slice ao na ac):=(gq.out _ cy.out).cell 4 _ rfl;go_wp2;clear b4
   go_loopw [3,33] (fun y i wr => ∃k:Nat,i = .int .i64 (k:Int)∧k<=na∧Hid (bM wr w1.heap.size y ([Hd.bV h] ++ [Hd.cw h]++(h.acc.take k).map Hd.aX))∧Hid (Below w1.heap.size w1 wr)) (fun _ i _=>na - (intOf i).toNat)
   case atStart=>exact⟨0,rfl,by omega,by have h1:=Rg.out;show bM _ _ _ _;simpa using h1,cy⟩
   case round =>
    obtain⟨k,rfl,hk,HO,cj⟩:=hrel;obtain⟨yo,yn,yc,kK⟩:=bM.shape HO.out;subst kK;by_cases DZ:k<na
    ·obtain⟨x,hx⟩ : ∃x,h.acc[k]? = some x:=⟨_,List.getElem?_eq_getElem (by have:=qC.out;omega)⟩
     obtain⟨g,off,rfl,kH,hcell⟩:=Fz.out (by have:=qC.out;omega)
     have bj:Hid (df wr g (off+k*10) x):=hcell wr cj.out k x hx;have jX:Hid (([Hd.bV h] ++ [Hd.cw h]++(h.acc.take k).map Hd.aX).length<=10000000):=by
      show _<=_;have h1:=HF.acc;have h2:=HF.bl;have h3:(h.acc.take k).length<=h.acc.length:=List.length_take_le' _ _;have h4:=uX.out
      (try simp only[List.length_append]at h4)
      simp only[List.length_append,List.length_map];omega
     have lX:Hid ([Hd.bV h] ++ [Hd.cw h]++(h.acc.take k).map Hd.aX ++ [Hd.aX x] = [Hd.bV h] ++ [Hd.cw h]++(h.acc.take (k+1)).map Hd.aX):=by show _=_;rw[List.take_add_one,hx];simp
     clear hcell hx
     go_wp2_with (first
      | (refine cB rfl _ rfl g (off+k*10) x rfl bj.out ?_)
      | (refine cq rfl _ _ rfl wr.heap.size En.zero x rfl rfl (ae.new _ _ _) ?_;intro w7 dH cr;have bw:Hid (Below wr.heap.size wr w7):=aJ cr;obtain⟨d0,d1,d2,d3,d4,d5,d6,d7,d8,d9⟩:=dL.pK dH;clear dH cr)
      | (at_builtin;refine fT rfl _ _ rfl w1.heap.size (.slice yo yn yc) _ rfl (bb.below HO.out (bw.alloc bw.size _)) (Hd.aX x) Nil w7.heap.size rfl (ae.new w7 42 (Re.cells (Hd.aX x) Nil)) (aS.none _ _) jX.out (by have h1:=bw.size;have h2:=cj.size;simp;omega) ?_;intro v8 w8 eU fh;have fN:=aa eU;have cN:Hid (Below w1.heap.size w1 w8):=bM.behind (bb.below HO.out (bw.alloc bw.size _)) ((cj.trans (bw.mono cj.size)).alloc (Nat.le_trans cj.size bw.size) _) (Nat.le_refl _) fh;clear eU fh))
     rw[lX.out]at fN
     go_roundw
     case rel=>exact⟨k+1,by go_num,by omega,fN,cN⟩
     case measure=>simp[intOf];omega
    ·obtain rfl:k=na:=by omega
     have lR:Hid (bM wr w1.heap.size (.slice yo yn yc) ([Hd.bV h] ++ [Hd.cw h]++h.acc.map Hd.aX)):=by have h1:=HO.out;rw[List.take_of_length_le (by have:=qC.out;omega)]at h1;exact h1
     have b5:wr.cell? ⟨w.heap.size,5,none⟩=some (.slice co nc cc):=(gq.out _ cj.out).cell 5 _ rfl;clear HO;go_wp2;clear b5;obtain⟨wv,iZ⟩ : ∃wv,wv=wr:=⟨_,rfl⟩;rw[<- iZ];have bJ:Hid (Below w1.heap.size w1 wv):=by rw[iZ];exact cj
     have qQ:Hid (bM wv w1.heap.size (.slice yo yn yc) ([Hd.bV h] ++ [Hd.cw h]++h.acc.map Hd.aX)):=by rw[iZ];exact lR
     clear iZ cj lR
     go_loopw [3,51] (fun y i wr => ∃j:Nat,i = .int .i64 (j:Int)∧j<=nc∧Hid (bM wr w1.heap.size y ([Hd.bV h] ++ [Hd.cw h]++h.acc.map Hd.aX++(h.bl.take j).map Hd.recC))∧Hid (Below w1.heap.size w1 wr)) (fun _ i _=>nc - (intOf i).toNat)
     case atStart=>exact⟨0,rfl,by omega,by have h1:=qQ.out;show bM _ _ _ _;simpa using h1,bJ⟩
     case round =>
      obtain⟨j,rfl,hj,HO,cj⟩:=hrel;obtain⟨yo,yn,yc,kK⟩:=bM.shape HO.out;subst kK;by_cases D1:j<nc
      ·obtain⟨x,hx⟩ : ∃x,h.bl[j]? = some x:=⟨_,List.getElem?_eq_getElem (by have:=qD.out;omega)⟩
       obtain⟨g,off,rfl,kH,hcell⟩:=FA.out (by have:=qD.out;omega)
       have bj:Hid (df wr g (off+j*10) x):=hcell wr cj.out j x hx;have jX:Hid (([Hd.bV h] ++ [Hd.cw h]++h.acc.map Hd.aX++(h.bl.take j).map Hd.recC).length<=10000000):=by
        show _<=_;have h1:=HF.acc;have h2:=HF.bl;have h3:(h.bl.take j).length<=h.bl.length:=List.length_take_le' _ _;have h4:=uX.out
        (try simp only[List.length_append]at h4)
        simp only[List.length_append,List.length_map];omega
       have lX:Hid ([Hd.bV h] ++ [Hd.cw h]++h.acc.map Hd.aX++(h.bl.take j).map Hd.recC ++ [Hd.recC x] = [Hd.bV h] ++ [Hd.cw h]++h.acc.map Hd.aX++(h.bl.take (j+1)).map Hd.recC):=by show _=_;rw[List.take_add_one,hx];simp
       clear hcell hx
       go_wp2_with (first
        | (refine cB rfl _ rfl g (off+j*10) x rfl bj.out ?_)
        | (refine cq rfl _ _ rfl wr.heap.size En.zero x rfl rfl (ae.new _ _ _) ?_;intro w7 dH cr;have bw:Hid (Below wr.heap.size wr w7):=aJ cr;obtain⟨d0,d1,d2,d3,d4,d5,d6,d7,d8,d9⟩:=dL.pK dH;clear dH cr)
        | (at_builtin;refine fT rfl _ _ rfl w1.heap.size (.slice yo yn yc) _ rfl (bb.below HO.out (bw.alloc bw.size _)) (Hd.recC x) Nil w7.heap.size rfl (ae.new w7 42 (Re.cells (Hd.recC x) Nil)) (aS.none _ _) jX.out (by have h1:=bw.size;have h2:=cj.size;simp;omega) ?_;intro v8 w8 eU fh;have fN:=aa eU;have cN:Hid (Below w1.heap.size w1 w8):=bM.behind (bb.below HO.out (bw.alloc bw.size _)) ((cj.trans (bw.mono cj.size)).alloc (Nat.le_trans cj.size bw.size) _) (Nat.le_refl _) fh;clear eU fh))
       rw[lX.out]at fN
       go_roundw
       case rel=>exact⟨j+1,by go_num,by omega,fN,cN⟩
       case measure=>simp[intOf];omega
      ·obtain rfl:j=nc:=by omega
       have iW:Hid (bM wr w1.heap.size (.slice yo yn yc) ([Hd.bV h] ++ [Hd.cw h]++h.acc.map Hd.aX++h.bl.map Hd.recC)):=by have h1:=HO.out;rw[List.take_of_length_le (by have:=qD.out;omega)]at h1;exact h1
       go_wp2;exact HE.out _ _ _ cj.out iW.out (by unfold Hd.recs;rw[if_pos Ht.out,if_pos (show h.aC≠Bl.zero from by have:=HT.out;simpa using this.symm)];first | done | simp)
 ·have Ht:=aa hb0
  have zO:Hid (Below w1.heap.size w1 w1):=Below.refl _ _;have FB:Hid (bM w1 w1.heap.size Nil []):=bb.bare _ _ _ _;obtain⟨p0,p1⟩:w1.cell? ⟨w.heap.size,0,none⟩=some (.int .i64 h.aC.round)∧w1.cell? ⟨w.heap.size,1,none⟩=some (.int .i64 h.aC.node):=⟨(gq.out _ zO.out).cell 0 _ rfl,(gq.out _ zO.out).cell 1 _ rfl⟩;cases t with
  | true =>
   have uX:Hid (([]:List Re.Rec).length<=2):=by show _<=_;simp
   have b4:w1.cell? ⟨w.heap.size,4,none⟩=some (.slice ao na ac):=(gq.out _ zO.out).cell 4 _ rfl;go_wp2;clear b4
   go_loopw [3,33] (fun y i wr => ∃k:Nat,i = .int .i64 (k:Int)∧k<=na∧Hid (bM wr w1.heap.size y ([]++(h.acc.take k).map Hd.aX))∧Hid (Below w1.heap.size w1 wr)) (fun _ i _=>na - (intOf i).toNat)
   case atStart=>exact⟨0,rfl,by omega,by have h1:=FB.out;show bM _ _ _ _;simpa using h1,zO⟩
   case round =>
    obtain⟨k,rfl,hk,HO,cj⟩:=hrel;obtain⟨yo,yn,yc,kK⟩:=bM.shape HO.out;subst kK;by_cases DZ:k<na
    ·obtain⟨x,hx⟩ : ∃x,h.acc[k]? = some x:=⟨_,List.getElem?_eq_getElem (by have:=qC.out;omega)⟩
     obtain⟨g,off,rfl,kH,hcell⟩:=Fz.out (by have:=qC.out;omega)
     have bj:Hid (df wr g (off+k*10) x):=hcell wr cj.out k x hx;have jX:Hid (([]++(h.acc.take k).map Hd.aX).length<=10000000):=by
      show _<=_;have h1:=HF.acc;have h2:=HF.bl;have h3:(h.acc.take k).length<=h.acc.length:=List.length_take_le' _ _;have h4:=uX.out
      (try simp only[List.length_append]at h4)
      simp only[List.length_append,List.length_map];omega
     have lX:Hid ([]++(h.acc.take k).map Hd.aX ++ [Hd.aX x] = []++(h.acc.take (k+1)).map Hd.aX):=by show _=_;rw[List.take_add_one,hx];simp
     clear hcell hx
     go_wp2_with (first
      | (refine cB rfl _ rfl g (off+k*10) x rfl bj.out ?_)
      | (refine cq rfl _ _ rfl wr.heap.size En.zero x rfl rfl (ae.new _ _ _) ?_;intro w7 dH cr;have bw:Hid (Below wr.heap.size wr w7):=aJ cr;obtain⟨d0,d1,d2,d3,d4,d5,d6,d7,d8,d9⟩:=dL.pK dH;clear dH cr)
      | (at_builtin;refine fT rfl _ _ rfl w1.heap.size (.slice yo yn yc) _ rfl (bb.below HO.out (bw.alloc bw.size _)) (Hd.aX x) Nil w7.heap.size rfl (ae.new w7 42 (Re.cells (Hd.aX x) Nil)) (aS.none _ _) jX.out (by have h1:=bw.size;have h2:=cj.size;simp;omega) ?_;intro v8 w8 eU fh;have fN:=aa eU;have cN:Hid (Below w1.heap.size w1 w8):=bM.behind (bb.below HO.out (bw.alloc bw.size _)) ((cj.trans (bw.mono cj.size)).alloc (Nat.le_trans cj.size bw.size) _) (Nat.le_refl _) fh;clear eU fh))
     rw[lX.out]at fN
     go_roundw
     case rel=>exact⟨k+1,by go_num,by omega,fN,cN⟩
     case measure=>simp[intOf];omega
    ·obtain rfl:k=na:=by omega
     have lR:Hid (bM wr w1.heap.size (.slice yo yn yc) ([]++h.acc.map Hd.aX)):=by have h1:=HO.out;rw[List.take_of_length_le (by have:=qC.out;omega)]at h1;exact h1
     have b5:wr.cell? ⟨w.heap.size,5,none⟩=some (.slice co nc cc):=(gq.out _ cj.out).cell 5 _ rfl;clear HO;go_wp2;clear b5;obtain⟨wv,iZ⟩ : ∃wv,wv=wr:=⟨_,rfl⟩;rw[<- iZ];have bJ:Hid (Below w1.heap.size w1 wv):=by rw[iZ];exact cj
     have qQ:Hid (bM wv w1.heap.size (.slice yo yn yc) ([]++h.acc.map Hd.aX)):=by rw[iZ];exact lR
     clear iZ cj lR
     go_loopw [3,51] (fun y i wr => ∃j:Nat,i = .int .i64 (j:Int)∧j<=nc∧Hid (bM wr w1.heap.size y ([]++h.acc.map Hd.aX++(h.bl.take j).map Hd.recC))∧Hid (Below w1.heap.size w1 wr)) (fun _ i _=>nc - (intOf i).toNat)
     case atStart=>exact⟨0,rfl,by omega,by have h1:=qQ.out;show bM _ _ _ _;simpa using h1,bJ⟩
     case round =>
      obtain⟨j,rfl,hj,HO,cj⟩:=hrel;obtain⟨yo,yn,yc,kK⟩:=bM.shape HO.out;subst kK;by_cases D1:j<nc
      ·obtain⟨x,hx⟩ : ∃x,h.bl[j]? = some x:=⟨_,List.getElem?_eq_getElem (by have:=qD.out;omega)⟩
       obtain⟨g,off,rfl,kH,hcell⟩:=FA.out (by have:=qD.out;omega)
       have bj:Hid (df wr g (off+j*10) x):=hcell wr cj.out j x hx;have jX:Hid (([]++h.acc.map Hd.aX++(h.bl.take j).map Hd.recC).length<=10000000):=by
        show _<=_;have h1:=HF.acc;have h2:=HF.bl;have h3:(h.bl.take j).length<=h.bl.length:=List.length_take_le' _ _;have h4:=uX.out
        (try simp only[List.length_append]at h4)
        simp only[List.length_append,List.length_map];omega
       have lX:Hid ([]++h.acc.map Hd.aX++(h.bl.take j).map Hd.recC ++ [Hd.recC x] = []++h.acc.map Hd.aX++(h.bl.take (j+1)).map Hd.recC):=by show _=_;rw[List.take_add_one,hx];simp
       clear hcell hx
       go_wp2_with (first
        | (refine cB rfl _ rfl g (off+j*10) x rfl bj.out ?_)
        | (refine cq rfl _ _ rfl wr.heap.size En.zero x rfl rfl (ae.new _ _ _) ?_;intro w7 dH cr;have bw:Hid (Below wr.heap.size wr w7):=aJ cr;obtain⟨d0,d1,d2,d3,d4,d5,d6,d7,d8,d9⟩:=dL.pK dH;clear dH cr)
        | (at_builtin;refine fT rfl _ _ rfl w1.heap.size (.slice yo yn yc) _ rfl (bb.below HO.out (bw.alloc bw.size _)) (Hd.recC x) Nil w7.heap.size rfl (ae.new w7 42 (Re.cells (Hd.recC x) Nil)) (aS.none _ _) jX.out (by have h1:=bw.size;have h2:=cj.size;simp;omega) ?_;intro v8 w8 eU fh;have fN:=aa eU;have cN:Hid (Below w1.heap.size w1 w8):=bM.behind (bb.below HO.out (bw.alloc bw.size _)) ((cj.trans (bw.mono cj.size)).alloc (Nat.le_trans cj.size bw.size) _) (Nat.le_refl _) fh;clear eU fh))
       rw[lX.out]at fN
       go_roundw
       case rel=>exact⟨j+1,by go_num,by omega,fN,cN⟩
       case measure=>simp[intOf];omega
      ·obtain rfl:j=nc:=by omega
       have iW:Hid (bM wr w1.heap.size (.slice yo yn yc) ([]++h.acc.map Hd.aX++h.bl.map Hd.recC)):=by have h1:=HO.out;rw[List.take_of_length_le (by have:=qD.out;omega)]at h1;exact h1
       go_wp2;exact HE.out _ _ _ cj.out iW.out (by unfold Hd.recs;rw[if_neg (show ¬ 0<h.base from by have:=Ht.out;omega),if_neg (show ¬h.aC≠Bl.zero from fun h1=>h1 (by have:=HT.out;simpa using this.symm))];first | done | simp)
  | false =>
   go_wp2_with (at_builtin;refine fT rfl _ _ rfl w1.heap.size Nil ([]) rfl (bb.below FB.out ((Below.refl _ w1).alloc (Nat.le_refl _) _)) (Hd.cw h) Nil w1.heap.size rfl (ae.new w1 42 (Re.cells (Hd.cw h) Nil)) (aS.none _ _) (by simp) (Nat.le_trans zO.size (by simp)) ?_;intro v6 w6 sw dt;have Rg:=aa sw;have cy:Hid (Below w1.heap.size w1 w6):=bM.behind (bb.below FB.out ((Below.refl _ w1).alloc (Nat.le_refl _) _)) (zO.alloc zO.size _) (Nat.le_refl _) dt;have b4:w6.cell? ⟨w.heap.size,4,none⟩=some (.slice ao na ac):=(gq.out _ cy.out).cell 4 _ rfl;clear sw dt)
   clear b4 p0 p1;have uX:Hid (([] ++ [Hd.cw h]:List Re.Rec).length<=2):=by show _<=_;simp
   have b4:w6.cell? ⟨w.heap.size,4,none⟩=some (.slice ao na ac):=(gq.out _ cy.out).cell 4 _ rfl;go_wp2;clear b4
   go_loopw [3,33] (fun y i wr => ∃k:Nat,i = .int .i64 (k:Int)∧k<=na∧Hid (bM wr w1.heap.size y ([] ++ [Hd.cw h]++(h.acc.take k).map Hd.aX))∧Hid (Below w1.heap.size w1 wr)) (fun _ i _=>na - (intOf i).toNat)
   case atStart=>exact⟨0,rfl,by omega,by have h1:=Rg.out;show bM _ _ _ _;simpa using h1,cy⟩
   case round =>
    obtain⟨k,rfl,hk,HO,cj⟩:=hrel;obtain⟨yo,yn,yc,kK⟩:=bM.shape HO.out;subst kK;by_cases DZ:k<na
    ·obtain⟨x,hx⟩ : ∃x,h.acc[k]? = some x:=⟨_,List.getElem?_eq_getElem (by have:=qC.out;omega)⟩
     obtain⟨g,off,rfl,kH,hcell⟩:=Fz.out (by have:=qC.out;omega)
     have bj:Hid (df wr g (off+k*10) x):=hcell wr cj.out k x hx;have jX:Hid (([] ++ [Hd.cw h]++(h.acc.take k).map Hd.aX).length<=10000000):=by
      show _<=_;have h1:=HF.acc;have h2:=HF.bl;have h3:(h.acc.take k).length<=h.acc.length:=List.length_take_le' _ _;have h4:=uX.out
      (try simp only[List.length_append]at h4)
      simp only[List.length_append,List.length_map];omega
     have lX:Hid ([] ++ [Hd.cw h]++(h.acc.take k).map Hd.aX ++ [Hd.aX x] = [] ++ [Hd.cw h]++(h.acc.take (k+1)).map Hd.aX):=by show _=_;rw[List.take_add_one,hx];simp
     clear hcell hx
     go_wp2_with (first
      | (refine cB rfl _ rfl g (off+k*10) x rfl bj.out ?_)
      | (refine cq rfl _ _ rfl wr.heap.size En.zero x rfl rfl (ae.new _ _ _) ?_;intro w7 dH cr;have bw:Hid (Below wr.heap.size wr w7):=aJ cr;obtain⟨d0,d1,d2,d3,d4,d5,d6,d7,d8,d9⟩:=dL.pK dH;clear dH cr)
      | (at_builtin;refine fT rfl _ _ rfl w1.heap.size (.slice yo yn yc) _ rfl (bb.below HO.out (bw.alloc bw.size _)) (Hd.aX x) Nil w7.heap.size rfl (ae.new w7 42 (Re.cells (Hd.aX x) Nil)) (aS.none _ _) jX.out (by have h1:=bw.size;have h2:=cj.size;simp;omega) ?_;intro v8 w8 eU fh;have fN:=aa eU;have cN:Hid (Below w1.heap.size w1 w8):=bM.behind (bb.below HO.out (bw.alloc bw.size _)) ((cj.trans (bw.mono cj.size)).alloc (Nat.le_trans cj.size bw.size) _) (Nat.le_refl _) fh;clear eU fh))
     rw[lX.out]at fN
     go_roundw
     case rel=>exact⟨k+1,by go_num,by omega,fN,cN⟩
     case measure=>simp[intOf];omega
    ·obtain rfl:k=na:=by omega
     have lR:Hid (bM wr w1.heap.size (.slice yo yn yc) ([] ++ [Hd.cw h]++h.acc.map Hd.aX)):=by have h1:=HO.out;rw[List.take_of_length_le (by have:=qC.out;omega)]at h1;exact h1
     have b5:wr.cell? ⟨w.heap.size,5,none⟩=some (.slice co nc cc):=(gq.out _ cj.out).cell 5 _ rfl;clear HO;go_wp2;clear b5;obtain⟨wv,iZ⟩ : ∃wv,wv=wr:=⟨_,rfl⟩;rw[<- iZ];have bJ:Hid (Below w1.heap.size w1 wv):=by rw[iZ];exact cj
     have qQ:Hid (bM wv w1.heap.size (.slice yo yn yc) ([] ++ [Hd.cw h]++h.acc.map Hd.aX)):=by rw[iZ];exact lR
     clear iZ cj lR
     go_loopw [3,51] (fun y i wr => ∃j:Nat,i = .int .i64 (j:Int)∧j<=nc∧Hid (bM wr w1.heap.size y ([] ++ [Hd.cw h]++h.acc.map Hd.aX++(h.bl.take j).map Hd.recC))∧Hid (Below w1.heap.size w1 wr)) (fun _ i _=>nc - (intOf i).toNat)
     case atStart=>exact⟨0,rfl,by omega,by have h1:=qQ.out;show bM _ _ _ _;simpa using h1,bJ⟩
     case round =>
      obtain⟨j,rfl,hj,HO,cj⟩:=hrel;obtain⟨yo,yn,yc,kK⟩:=bM.shape HO.out;subst kK;by_cases D1:j<nc
      ·obtain⟨x,hx⟩ : ∃x,h.bl[j]? = some x:=⟨_,List.getElem?_eq_getElem (by have:=qD.out;omega)⟩
       obtain⟨g,off,rfl,kH,hcell⟩:=FA.out (by have:=qD.out;omega)
       have bj:Hid (df wr g (off+j*10) x):=hcell wr cj.out j x hx;have jX:Hid (([] ++ [Hd.cw h]++h.acc.map Hd.aX++(h.bl.take j).map Hd.recC).length<=10000000):=by
        show _<=_;have h1:=HF.acc;have h2:=HF.bl;have h3:(h.bl.take j).length<=h.bl.length:=List.length_take_le' _ _;have h4:=uX.out
        (try simp only[List.length_append]at h4)
        simp only[List.length_append,List.length_map];omega
       have lX:Hid ([] ++ [Hd.cw h]++h.acc.map Hd.aX++(h.bl.take j).map Hd.recC ++ [Hd.recC x] = [] ++ [Hd.cw h]++h.acc.map Hd.aX++(h.bl.take (j+1)).map Hd.recC):=by show _=_;rw[List.take_add_one,hx];simp
       clear hcell hx
       go_wp2_with (first
        | (refine cB rfl _ rfl g (off+j*10) x rfl bj.out ?_)
        | (refine cq rfl _ _ rfl wr.heap.size En.zero x rfl rfl (ae.new _ _ _) ?_;intro w7 dH cr;have bw:Hid (Below wr.heap.size wr w7):=aJ cr;obtain⟨d0,d1,d2,d3,d4,d5,d6,d7,d8,d9⟩:=dL.pK dH;clear dH cr)
        | (at_builtin;refine fT rfl _ _ rfl w1.heap.size (.slice yo yn yc) _ rfl (bb.below HO.out (bw.alloc bw.size _)) (Hd.recC x) Nil w7.heap.size rfl (ae.new w7 42 (Re.cells (Hd.recC x) Nil)) (aS.none _ _) jX.out (by have h1:=bw.size;have h2:=cj.size;simp;omega) ?_;intro v8 w8 eU fh;have fN:=aa eU;have cN:Hid (Below w1.heap.size w1 w8):=bM.behind (bb.below HO.out (bw.alloc bw.size _)) ((cj.trans (bw.mono cj.size)).alloc (Nat.le_trans cj.size bw.size) _) (Nat.le_refl _) fh;clear eU fh))
       rw[lX.out]at fN
       go_roundw
       case rel=>exact⟨j+1,by go_num,by omega,fN,cN⟩
       case measure=>simp[intOf];omega
      ·obtain rfl:j=nc:=by omega
       have iW:Hid (bM wr w1.heap.size (.slice yo yn yc) ([] ++ [Hd.cw h]++h.acc.map Hd.aX++h.bl.map Hd.recC)):=by have h1:=HO.out;rw[List.take_of_length_le (by have:=qD.out;omega)]at h1;exact h1
       go_wp2;exact HE.out _ _ _ cj.out iW.out (by unfold Hd.recs;rw[if_neg (show ¬ 0<h.base from by have:=Ht.out;omega),if_pos (show h.aC≠Bl.zero from by have:=HT.out;simpa using this.symm)];first | done | simp)
end Go.Proofs.YtdkdjofnnnljjaaGreatDoor
