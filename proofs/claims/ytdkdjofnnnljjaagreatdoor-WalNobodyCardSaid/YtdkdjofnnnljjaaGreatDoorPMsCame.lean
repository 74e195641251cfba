/- Several texts of mine in one: WlNext GBm GHa MsCame. -/
import Derived.Test.YtdkdjofnnnljjaaGreatDoorPWlMath
import Derived.Test.YtdkdjofnnnljjaaGreatDoorPEnChk
import Derived.Test.YtdkdjofnnnljjaaGreatDoorGMb
import Derived.Test.YtdkdjofnnnljjaaGreatDoorHdMath
import Derived.Test.YtdkdjofnnnljjaaGreatDoorPCmFew
import Derived.Test.YtdkdjofnnnljjaaGreatDoorGRe
import Derived.Test.YtdkdjofnnnljjaaGreatDoorGPl
import Derived.Lib.LaidU8
namespace Go.Proofs.YtdkdjofnnnljjaaGreatDoor
open Go.RowKit
section
namespace Wl
def lastF(F:Dk.Files):Int:=F.foldl (fun a q=>max a q.1) 0
def lastB(a:Int)(B:List Dk.Op):Int:=B.foldl (fun a x=>if x.kind=1 then max a x.no else a) a
def next(F:Dk.Files)(B:List Dk.Op):Int:=lastB (lastF F) B+1
theorem lastF_snoc(F:Dk.Files)(q:Int × List UInt8):lastF (F ++ [q])=max (lastF F) q.1:=by simp[lastF,List.foldl_append]
theorem lastB_snoc(a:Int)(B:List Dk.Op)(x:Dk.Op):lastB a (B ++ [x])=if x.kind=1 then max (lastB a B) x.no else lastB a B:=by simp[lastB,List.foldl_append]
theorem lastF_ge(F:Dk.Files):0≤lastF F ∧ ∀q∈F,q.1≤lastF F:=by
 induction F using Hd.snoc_ind with
 | h0=>exact⟨Int.le_refl _,fun q hq=>by simp at hq⟩
 | h1 l x ih =>
  rw[lastF_snoc]
  refine⟨by omega,fun q hq => ?_⟩
  rcases List.mem_append.1 hq with hq | hq
  ·have:=ih.2 q hq;omega
  ·obtain rfl:q=x:=by simpa using hq
   omega
theorem lastF_le{F:Dk.Files}{N:Int}(h0:0≤N)(h : ∀q∈F,q.1≤N):lastF F≤N:=by
 induction F using Hd.snoc_ind with
 | h0=>exact h0
 | h1 l x ih =>
  rw[lastF_snoc]
  have h1:=ih fun q hq=>h q (by simp[hq])
  have h2:=h x (by simp)
  omega
theorem lastB_ge(a:Int)(B:List Dk.Op):a≤lastB a B ∧ ∀x∈B,x.kind=1→x.no≤lastB a B:=by
 induction B using Hd.snoc_ind with
 | h0=>exact⟨Int.le_refl _,fun q hq=>by simp at hq⟩
 | h1 l x ih =>
  rw[lastB_snoc]
  by_cases hx:x.kind=1
  ·rw[if_pos hx]
   refine⟨by omega,fun q hq hk => ?_⟩
   rcases List.mem_append.1 hq with hq | hq
   ·have:=ih.2 q hq hk;omega
   ·obtain rfl:q=x:=by simpa using hq
    omega
  ·rw[if_neg hx]
   refine⟨ih.1,fun q hq hk => ?_⟩
   rcases List.mem_append.1 hq with hq | hq
   ·exact ih.2 q hq hk
   ·obtain rfl:q=x:=by simpa using hq
    exact absurd hk hx
theorem lastB_le{a N:Int}{B:List Dk.Op}(h0:a≤N)(h : ∀x∈B,x.no≤N):lastB a B≤N:=by
 induction B using Hd.snoc_ind with
 | h0=>exact h0
 | h1 l x ih =>
  rw[lastB_snoc]
  have h1:=ih fun q hq=>h q (by simp[hq])
  have h2:=h x (by simp)
  split<;>omega
theorem mem_done{V:Dk.Files}{x:Dk.Op}{q:Int × List UInt8}(h:q∈Dk.done V x):(∃p∈V,p.1=q.1)∨(x.kind=1∧q.1=x.no):=by
 unfold Dk.done at h
 split at h
 ·split at h
  ·rename_i hk
   rcases Dk.mem_put.1 h with rfl | ⟨h,_⟩
   ·exact .inr ⟨hk,rfl⟩
   ·exact .inl ⟨q,h,rfl⟩
  ·exact .inl ⟨q,h,rfl⟩
 ·rename_i d hg
  split at h
  ·rcases Dk.mem_put.1 h with rfl | ⟨h,_⟩
   ·exact .inl ⟨_,Dk.get_mem hg,rfl⟩
   ·exact .inl ⟨q,h,rfl⟩
  ·split at h
   ·exact .inl ⟨q,(Dk.mem_del.1 h).1,rfl⟩
   ·exact .inl ⟨q,h,rfl⟩
theorem mem_all{F:Dk.Files}{B:List Dk.Op}{q:Int × List UInt8}(h:q∈Dk.all F B):(∃p∈F,p.1=q.1) ∨ ∃x∈B,x.kind=1∧q.1=x.no:=by
 induction B using Hd.snoc_ind generalizing q with
 | h0=>exact .inl ⟨q,h,rfl⟩
 | h1 l x ih =>
  rw[Dk.all_snoc]at h
  rcases mem_done h with ⟨p,hp,e⟩ | ⟨hk,e⟩
  ·rcases ih hp with ⟨r,hr,e2⟩ | ⟨y,hy,hk,e2⟩
   ·exact .inl ⟨r,hr,e2.trans e⟩
   ·exact .inr ⟨y,by simp[hy],hk,e.symm.trans e2⟩
  ·exact .inr ⟨x,by simp,hk,e⟩
theorem next_pos(F:Dk.Files)(B:List Dk.Op):1≤next F B:=by
 have h1:=lastB_ge (lastF F) B
 have h2:=lastF_ge F
 unfold next
 omega
def begins(n:Int)(head:List UInt8)(V:Dk.Files):List Dk.Op := [⟨1,n, []⟩] ++ [⟨2,n,head⟩]++(V.map (·.1)).map fun m=>⟨3,m, []⟩
structure Sane(F:Dk.Files)(B:List Dk.Op)(N:Nat)(M:Nat):Prop where
 files : ∀q∈F,1≤q.1∧q.1≤(N:Int)
 ops : ∀x∈B,Dk.isKind x.kind∧1≤x.no∧x.no≤(N:Int)
 asc:Dk.Asc F
 wt:Dk.wt F+Dk.wtB B≤M
section
variable {F : Dk.Files} {B : List Dk.Op} {N M : Nat}
theorem Sane.nil : Sane [] [] 0 0:=⟨fun q hq=>by simp at hq,fun q hq=>by simp at hq,Dk.Asc.nil,by simp[Dk.wt,Dk.wtB]⟩
theorem Sane.kinds(s:Sane F B N M)(h:N≤1000):Dk.Kinds B:=fun x hx=>by
 obtain⟨h1,h2,h3⟩:=s.ops x hx
 exact⟨h1,h2,by omega⟩
theorem Sane.next(s:Sane F B N M):Wl.next F B≤(N:Int)+1:=by
 have h1:=lastF_le (N:=(N:Int)) (by omega) fun q hq=>(s.files q hq).2
 have h2:=lastB_le h1 fun x hx=>(s.ops x hx).2.2
 unfold Wl.next
 omega
theorem Sane.all(s:Sane F B N M):Sane (Dk.all F B) [] N M:=by
 refine⟨fun q hq => ?_,fun q hq=>by simp at hq,Dk.asc_all s.asc B, ?_⟩
 ·rcases mem_all hq with ⟨p,hp,e⟩ | ⟨x,hx,hk,e⟩
  ·rw[← e];exact s.files p hp
  ·rw[e];exact(s.ops x hx).2
 ·have h1:=Dk.wt_all B F
  have h2:=s.wt
  have h3:Dk.wtB []=0:=rfl
  omega
theorem Sane.more(s:Sane F B N M){N' M' : Nat}(hN:N≤N')(hM:M≤M'):Sane F B N' M' :=
 ⟨fun q hq=>by have:=s.files q hq;omega,fun x hx=>by obtain⟨h1,h2,h3⟩:=s.ops x hx;exact⟨h1,h2,by omega⟩,s.asc,Nat.le_trans s.wt hM⟩
theorem Sane.snoc(s:Sane F B N M){x:Dk.Op}(hx:Dk.isKind x.kind∧1≤x.no∧x.no≤(N:Int)){l:Nat}(hl:x.data.length≤l):Sane F (B ++ [x]) N (M+1+l):=by
 refine⟨s.files,fun y hy => ?_,s.asc, ?_⟩
 ·rcases List.mem_append.1 hy with hy | hy
  ·exact s.ops y hy
  ·obtain rfl:y=x:=by simpa using hy
   exact hx
 ·rw[Dk.wtB_app]
  have:=s.wt
  simp[Dk.wtB]at this ⊢
  omega
theorem asc_len : ∀ {V:Dk.Files} {a b:Int},Dk.Asc V→(∀q∈V,a≤q.1∧q.1≤b)→(V.length:Int)≤max 0 (b - a+1)
 | [],_,_,_,_=>by simp;omega
 | p :: r,a,b,h,hq=>by
  have h1:=hq p (by simp)
  have:=asc_len (a:=p.1+1) (b:=b) h.tail fun q hr=>⟨by have:=h.head q hr;omega,(hq q (by simp[hr])).2⟩
  simp only[List.length_cons]
  omega
theorem Sane.count(s:Sane F B N M):(Dk.all F B).length≤N:=by
 have:=asc_len (a:=1) (b:=(N:Int)) s.all.asc fun q hq=>s.all.files q hq
 omega
theorem Sane.drops(s:Sane F B N M) : ∀(ms:List Int),(∀m∈ms,1≤m∧m≤(N:Int))→Sane F (B++ms.map fun m=>⟨3,m, []⟩) N (M+ms.length):=by
 intro ms
 induction ms using Hd.snoc_ind with
 | h0=>intro _;simpa using s
 | h1 l m ih =>
  intro h
  have h1:=(ih fun q hq=>h q (by simp[hq])).snoc (x:=⟨3,m, []⟩) ⟨.inr (.inr rfl),h m (by simp)⟩ (l:=0) (Nat.le_refl _)
  rw[List.map_append, ← List.append_assoc,List.length_append]
  exact h1
theorem Sane.begins(s:Sane F B N M){head:List UInt8}{H:Nat}(hh:head.length≤H):Sane F (B++Wl.begins (Wl.next F B) head (Dk.all F B)) (N+1) (M+2+H+N):=by
 have hn1:=next_pos F B
 have hn2:=s.next
 have s1:=((s.more (N' := N+1) (M' := M) (by omega) (Nat.le_refl _)).snoc (x:=⟨1,Wl.next F B, []⟩) ⟨.inl rfl,hn1,by exact_mod_cast hn2⟩ (l:=0) (Nat.le_refl _)).snoc (x:=⟨2,Wl.next F B,head⟩) ⟨.inr (.inl rfl),hn1,by exact_mod_cast hn2⟩ hh
 have s2:=s1.drops ((Dk.all F B).map (·.1)) fun m hm=>by
  obtain⟨q,hq,rfl⟩:=List.mem_map.1 hm
  have:=s.all.files q hq
  omega
 have hc:=s.count
 unfold Wl.begins
 rw[← List.append_assoc, ← List.append_assoc]
 rw[List.length_map]at s2
 exact s2.more (Nat.le_refl _) (by omega)
end
end Wl
end
end Go.Proofs.YtdkdjofnnnljjaaGreatDoor

namespace Go.Proofs.YtdkdjofnnnljjaaGreatDoor
open Go.RowKit
set_option maxHeartbeats 1600000
set_option maxRecDepth 4000
theorem Bl.most_take{x c:Bl.Bal}{r:List Bl.Bal}{k:Nat}(h:r[k]? = some c):Bl.most (x :: r.take (k+1))=Bl.top (Bl.most (x :: r.take k)) c:=by
 rw[List.take_add_one,h]
 exact Bl.most_snoc x _ c
theorem bmax_any(v:Value)(l:List Bl.Bal)(w:World)(hv:ReadsB w v l):Calls Tryz.prog 98 #[v] w (Looks w (.agg (Bl.cells (Bl.most l)))):=by
 obtain⟨ao,cap,rfl,hc1,hc2⟩:=hv.shape
 rw[List.length_map]at hc1 ⊢
 cases l with
 | nil =>
  obtain⟨w1,e1,hl1,hB1,hz1⟩:=box_bal w Bl.zero
  have HL1:=Lib.hid hl1;have HB1:=Lib.hid hB1
  dsimp only [Bl.cells,Bl.zero]at e1
  clear hl1 hB1 hz1
  go_enter Tryz.func98,Tryz.ntmps98
  go_wp2_with (refine store_bal (by rfl) _ _ (by rfl) w.heap.size Bl.zero Bl.zero (by rfl) (by rfl) HL1.out ?_;intro w2 hl2 hg2)
  refine ret_bal1 rfl rfl hl2 rfl ?_
  exact⟨rfl,HB1.out.grown hg2 HB1.out.size (by rintro j hj;cases hj;omega)⟩
 | cons x r =>
  obtain⟨b,off,rfl,hlt,hc⟩:=ReadsB.places hv (by simp)
  obtain⟨n,hn⟩ : ∃n,n=r.length:=⟨_,rfl⟩
  rw[show(x :: r).length=n+1 by rw[hn];rfl]at hc1 ⊢
  have hv' : ReadsB w (.slice (some ⟨b,off,none⟩) (n+1) cap) (x :: r):=by rw[hn];simpa using hv
  obtain⟨ao2,hsl,hr⟩:=ReadsR.rest hv' 1 (by omega)
  rw[show n+1 - 1=n by omega]at hsl hr
  have hr' : ReadsB w (.slice ao2 n (cap - 1)) r:=hr
  have hslice : ∀W:World,(Instr.slice 182 (.slice (some ⟨b,off,none⟩) (n+1) cap) (some (.int .i64 1)) none none).run Tryz.prog W = .ok (.slice ao2 n (cap - 1)) W:=fun W=>(run_rest_bal W _ _ _ 1 (by omega)).trans (by rw[hsl])
  obtain⟨w1,e1,hl1,hk1,hB1,hz1⟩:=box_bals w Bl.zero x
  obtain⟨w0,e0⟩ : ∃w0,w.alloc (.cells #[.int .i64 0, .int .i64 0] 29)=w0:=⟨_,rfl⟩
  have hb0:Below w.heap.size w w0:=by rw[← e0];exact(Below.refl _ w).alloc (Nat.le_refl _) _
  have hs0:w0.heap.size=w.heap.size+1:=by rw[← e0];simp
  have hx0:=hc w0 hb0 0 x rfl
  rw[Nat.zero_mul,Nat.add_zero]at hx0
  obtain⟨hx0,hx1⟩:=hx0
  dsimp only [Bl.cells,Bl.zero]at e1
  rw[e0]at e1
  rw[← hs0]at hk1
  have hnb:n<9223372036854775807:=by omega
  have hsl0:w.heap.size<w0.heap.size:=by omega
  have HB1:=Lib.hid hB1
  have HL1:=Lib.hid hl1;have HK1:=Lib.hid hk1
  have HN:=Lib.hid hn
  obtain⟨m,hm⟩ : ∃m,m=n+1:=⟨_,rfl⟩
  have hm0:((m:Int) == 0)=false:=by simp;omega
  have hm1:0<m:=by omega
  rw[← hm]at hslice ⊢
  have HR:=Lib.hid hr'
  clear hv hv' hsl hr hr' hc hn hB1 hl1 hk1 hz1 hb0 hc2 hm hlt hc1 hs0
  go_enter Tryz.func98,Tryz.ntmps98
  go_wp2
  go_loopw [16] (fun y wr => ∃k:Nat,y = .int .i64 (k:Int)∧k≤n∧Bals wr w0.heap.size (Bl.most (x :: r.take k))∧Bals wr w.heap.size Bl.zero∧Below w.heap.size w wr) (fun y _=>n - (intOf y).toNat)
  case atStart=>exact⟨0,rfl,by omega,HK1.out,HL1.out,HB1.out⟩
  case round =>
   obtain⟨k,rfl,hk,hG,hO,hB⟩:=hrel
   have HG:=Lib.hid hG;have HO:=Lib.hid hO;have HB:=Lib.hid hB
   clear hG hO hB
   by_cases hlt:k<n
   ·obtain⟨c,hcr⟩ : ∃c,r[k]? = some c:=⟨_,List.getElem?_eq_getElem (by have:=HN.out;omega)⟩
    obtain⟨b2,off2,rfl,hblt,hc⟩:=ReadsB.places HR.out (by have:=HN.out;omega)
    obtain⟨c0,c1⟩:=hc wr HB.out k c hcr
    obtain⟨g,hg⟩ : ∃g,g=Bl.most (x :: r.take k):=⟨_,rfl⟩
    rw[← hg]at HG
    have HNX:Hid (Bl.most (x :: r.take (k+1))=Bl.top g c):=by show _=_;rw[hg];exact Bl.most_take hcr
    obtain⟨w3,e3,hl3,hB3,hz3⟩:=box_bal wr c
    have hG3:=HG.out.below hB3 HG.out.lt
    obtain⟨g0,g1⟩:=Bals.both hG3
    obtain⟨d0,d1⟩:=Bals.both hl3
    have HG3:=Lib.hid hG3;have HC3:=Lib.hid hl3
    have HO3:=Lib.hid (HO.out.below hB3 HO.out.lt)
    have HB3:=Lib.hid (HB.out.trans (hB3.mono HB.out.size))
    dsimp only [Bl.cells]at e3
    clear hcr hc hg hG3 hl3 hB3 hz3 hblt
    go_wp2_with fail
    refine(bless_any g c _).mono ?_
    rintro e w4 ⟨rfl,hB4⟩
    have hG4:=HG3.out.below hB4 HG3.out.lt
    have HC4:=Lib.hid (HC3.out.below hB4 HC3.out.lt)
    have HG4:=Lib.hid hG4
    have HO4:=Lib.hid (HO3.out.below hB4 HO3.out.lt)
    have HB4:=Lib.hid (HB3.out.trans (hB4.mono HB3.out.size))
    obtain⟨m0,m1⟩:=Bals.both HC4.out
    obtain⟨t,ht⟩ : ∃t,t=Bl.less g c:=⟨_,rfl⟩
    rw[← ht]
    have HT:=Lib.hid ht
    clear ht hG4 hB4 g0 g1 d0 d1 c0 c1
    cases t with
    | false =>
     have HTP:Hid (Bl.top g c=g):=by show _=_;rw[Bl.top, ← HT.out];rfl
     go_wp2
     go_roundw
     case rel=>exact⟨k+1,by go_num,by omega,by rw[HNX.out,HTP.out];exact HG4.out,HO4.out,HB4.out⟩
     case measure=>simp[intOf];omega
    | true =>
     have HTP:Hid (Bl.top g c=c):=by show _=_;rw[Bl.top, ← HT.out];rfl
     go_wp2_with (refine store_bal (by rfl) _ _ (by rfl) w0.heap.size g c (by rfl) (by rfl) HG4.out ?_;intro w5 hl5 hg5)
     have HO5:=Lib.hid (HO4.out.kept hg5 (by simp;omega))
     have HB5:=Lib.hid (HB4.out.grown hg5 HB4.out.size (by rintro j hj;cases hj;omega))
     go_roundw
     case rel=>exact⟨k+1,by go_num,by omega,by rw[HNX.out,HTP.out];exact hl5,HO5.out,HB5.out⟩
     case measure=>simp[intOf];omega
   ·obtain rfl:k=n:=by omega
    obtain⟨g,hg⟩ : ∃g,g=Bl.most (x :: r):=⟨_,rfl⟩
    have hgt:Bl.most (x :: r.take k)=g:=by rw[hg,HN.out,List.take_length]
    rw[hgt]at HG
    obtain⟨g0,g1⟩:=Bals.both HG.out
    have HGG:=Lib.hid hg
    clear hgt hg
    go_wp2_with (refine store_bal (by rfl) _ _ (by rfl) w.heap.size Bl.zero g (by rfl) (by rfl) HO.out ?_;intro w5 hl5 hg5)
    refine ret_bal1 rfl rfl hl5 rfl ?_
    exact⟨by rw[HGG.out],HB.out.grown hg5 HB.out.size (by rintro j hj;cases hj;omega)⟩
end Go.Proofs.YtdkdjofnnnljjaaGreatDoor

namespace Go.Proofs.YtdkdjofnnnljjaaGreatDoor
open Go.RowKit
set_option maxHeartbeats 3200000
set_option maxRecDepth 4000
section
def Hd.cells(h:Hd.Hard)(vi va vc:Value):Array Value := #[.int .i64 h.prom.round, .int .i64 h.prom.node, .int .i64 h.base,vi,va,vc]
abbrev Hards(w:World)(g:Nat)(h:Hd.Hard)(vi va vc:Value):Prop:=Lies w g 33 (Hd.cells h vi va vc)
structure HardR(w:World)(h:Hd.Hard)(vi va vc:Value):Prop where
 img:Reads w vi h.img
 acc:ReadsE w va h.acc
 chs:ReadsE w vc h.chs
theorem HardR.below{w w' : World}{h:Hd.Hard}{vi va vc:Value}(r:HardR w h vi va vc)(hb:Below w.heap.size w w'):HardR w' h vi va vc:=⟨r.img.below hb,r.acc.below hb,r.chs.below hb⟩
def InP(q:Nat→Prop)(v:Value):Prop := ∀(x:Addr) (n c:Nat),v = .slice (some x) n c→0<n→q x.block
theorem InP.imp{q q' : Nat→Prop}{v:Value}(h:InP q v)(hq : ∀b,q b→q' b):InP q' v:=fun x n c e h0=>hq _ (h x n c e h0)
theorem InP.bare(q:Nat→Prop)(n c:Nat):InP q (.slice none n c):=fun x n c e=>by cases e
theorem InP.of_row{w:World}{base:Nat}{E:TypeId}{k n:Nat}{v:Value}{us:List Value}(h:w.ownsRow base E k v n us):InP (fun b=>base≤b) v:=by
 rcases h.2 with ⟨rfl,_⟩ | ⟨g,cap,cur,rfl,hb,_⟩
 ·exact InP.bare _ _ _
 ·intro x n c e _
  cases e
  exact hb
theorem ReadsP.inP{q:Nat→Prop}{w:World}{v:Value}{l:List UInt8}(h:ReadsP (fun b _=>q b) w v l):InP q v:=by
 intro x n c e h0
 subst e
 obtain⟨ao,cap,e2,_⟩:=h.1
 cases e2
 obtain⟨y,m,d,_,_,_,e3,_,hq⟩:=h.2 h0
 cases e3
 exact hq
theorem Reads.inP{q:Nat→Prop}{w:World}{v:Value}{l:List UInt8}(h:Reads w v l)(hq:InP q v):ReadsP (fun b _=>q b) w v l:=by
 refine⟨h,fun h0 => ?_⟩
 obtain⟨ao,cap,rfl⟩:=h.shape
 obtain⟨b,off,rfl,hc⟩:=h.place h0
 obtain⟨cs,t,fr,hb⟩:=block_of_cell (hc 0 _ (List.getElem?_eq_getElem h0))
 exact⟨_,_,_,cs,t,fr,rfl,hb,hq _ _ _ rfl h0⟩
structure HardQ(q:Nat→Prop)(w:World)(h:Hd.Hard)(vi va vc:Value):Prop where
 rows:HardR w h vi va vc
 pi:InP q vi
 pa:InP q va
 pc:InP q vc
section
variable {q q' : Nat → Prop} {w w' : World} {h : Hd.Hard} {vi va vc : Value}
theorem HardQ.img(r:HardQ q w h vi va vc):Reads w vi h.img:=r.rows.img
theorem HardQ.acc(r:HardQ q w h vi va vc):ReadsE w va h.acc:=r.rows.acc
theorem HardQ.chs(r:HardQ q w h vi va vc):ReadsE w vc h.chs:=r.rows.chs
theorem HardQ.below(r:HardQ q w h vi va vc)(hb:Below w.heap.size w w'):HardQ q w' h vi va vc:=⟨r.rows.below hb,r.pi,r.pa,r.pc⟩
theorem HardQ.imp(r:HardQ q w h vi va vc)(hq : ∀b,q b→q' b):HardQ q' w h vi va vc:=⟨r.rows,r.pi.imp hq,r.pa.imp hq,r.pc.imp hq⟩
end
theorem box_hard(w:World)(h:Hd.Hard)(vi va vc:Value) : ∃w1,w.alloc (.cells (Hd.cells h vi va vc) 33)=w1∧Hards w1 w.heap.size h vi va vc∧Below w.heap.size w w1∧w1.heap.size=w.heap.size+1 :=
 ⟨_,rfl,Lies.new w _ _,(Below.refl _ w).alloc (Nat.le_refl _) _,by simp⟩
theorem box_hards(w:World)(h:Hd.Hard)(vi va vc:Value)(k:Hd.Hard)(ui ua uc:Value) : ∃w1,(w.alloc (.cells (Hd.cells h vi va vc) 33)).alloc (.cells (Hd.cells k ui ua uc) 33)=w1∧Hards w1 w.heap.size h vi va vc∧Hards w1 (w.heap.size+1) k ui ua uc∧Below w.heap.size w w1:=by
 obtain⟨w1,e1,h1,b1,s1⟩:=box_hard w h vi va vc
 obtain⟨w2,e2,h2,b2,s2⟩:=box_hard w1 k ui ua uc
 rw[s1]at h2
 exact⟨w2,by rw[e1,e2],h1.below b2 (by omega),h2,b1.trans (b2.mono b1.size)⟩
theorem sameH_any(h k:Hd.Hard)(vi va vc ui ua uc:Value)(w:World)(hr:HardR w h vi va vc)(kr:HardR w k ui ua uc) :
 Calls Tryz.prog 21 #[.agg (Hd.cells h vi va vc), .agg (Hd.cells k ui ua uc)] w (Looks w (.bool (decide (h=k)))):=by
 obtain⟨w1,e1,hl1,hl2,hB1⟩:=box_hards w h vi va vc k ui ua uc
 have c0:w1.cell? ⟨w.heap.size,0,none⟩=some (.int .i64 h.prom.round):=hl1.cell 0 _ rfl
 have c1:w1.cell? ⟨w.heap.size,1,none⟩=some (.int .i64 h.prom.node):=hl1.cell 1 _ rfl
 have c2:w1.cell? ⟨w.heap.size,2,none⟩=some (.int .i64 h.base):=hl1.cell 2 _ rfl
 have c3:w1.cell? ⟨w.heap.size,3,none⟩=some (vi):=hl1.cell 3 _ rfl
 have c4:w1.cell? ⟨w.heap.size,4,none⟩=some (va):=hl1.cell 4 _ rfl
 have c5:w1.cell? ⟨w.heap.size,5,none⟩=some (vc):=hl1.cell 5 _ rfl
 have d0:w1.cell? ⟨w.heap.size+1,0,none⟩=some (.int .i64 k.prom.round):=hl2.cell 0 _ rfl
 have d1:w1.cell? ⟨w.heap.size+1,1,none⟩=some (.int .i64 k.prom.node):=hl2.cell 1 _ rfl
 have d2:w1.cell? ⟨w.heap.size+1,2,none⟩=some (.int .i64 k.base):=hl2.cell 2 _ rfl
 have d3:w1.cell? ⟨w.heap.size+1,3,none⟩=some (ui):=hl2.cell 3 _ rfl
 have d4:w1.cell? ⟨w.heap.size+1,4,none⟩=some (ua):=hl2.cell 4 _ rfl
 have d5:w1.cell? ⟨w.heap.size+1,5,none⟩=some (uc):=hl2.cell 5 _ rfl
 have hgd:=guard_bal
 have heq:=fun W=>run_eql_bal W h.prom k.prom
 obtain⟨t,ht⟩ : ∃t,t=decide (h.prom=k.prom):=⟨_,rfl⟩
 rw[← ht]at heq
 obtain⟨r,hb⟩ : ∃r,(h.base == k.base)=r:=⟨_,rfl⟩
 obtain⟨q,hq⟩ : ∃q,(h.img == k.img)=q:=⟨_,rfl⟩
 obtain⟨s,hs⟩ : ∃s,decide (h.acc=k.acc)=s:=⟨_,rfl⟩
 obtain⟨u,hu⟩ : ∃u,decide (h.chs=k.chs)=u:=⟨_,rfl⟩
 have HM:Hid (decide (h=k)=(t && (r && (q && (s && u))))):=by
  show _=_
  rw[ht, ← hb, ← hq, ← hs, ← hu]
  obtain⟨p1,b1,i1,a1,x1⟩:=h
  obtain⟨p2,b2,i2,a2,x2⟩:=k
  rw[Bool.eq_iff_iff]
  simp
 have HL1:=Lib.hid hl1;have HL2:=Lib.hid hl2
 have HR:=Lib.hid (hr.below hB1);have KR:=Lib.hid (kr.below hB1);have HB:=Lib.hid hB1
 have HQ:=Lib.hid hq;have HS:=Lib.hid hs;have HU:=Lib.hid hu
 clear ht hq hs hu hl1 hl2 hB1 hr kr
 dsimp only [Bl.cells]at heq
 go_enter Tryz.func21,Tryz.ntmps21
 cases t with
 | false =>
  go_wp2
  go_ret
  exact⟨by rw[HM.out];rfl,HB.out⟩
 | true =>
  cases r with
  | false =>
   go_wp2
   go_ret
   exact⟨by rw[HM.out];rfl,HB.out⟩
  | true =>
   go_wp2_with fail
   refine(same_any _ _ h.img k.img _ HR.out.img KR.out.img).mono ?_
   rintro e w2 ⟨rfl,n2,rfl⟩
   rw[HQ.out]
   have HB2:Hid (Below w1.heap.size w1 (w1.drewN n2)):=drawn w1 n2
   obtain⟨w2,hw2⟩ : ∃w2,w2=w1.drewN n2:=⟨_,rfl⟩
   rw[← hw2]at HB2 ⊢
   clear hw2
   cases q with
   | false =>
    go_wp2
    go_ret
    exact⟨by rw[HM.out];rfl,HB.out.trans (HB2.out.mono HB.out.size)⟩
   | true =>
    have m4:w2.cell? ⟨w.heap.size,4,none⟩=some va:=(HL1.out.below HB2.out HL1.out.lt).cell 4 _ rfl
    have n4:w2.cell? ⟨w.heap.size+1,4,none⟩=some ua:=(HL2.out.below HB2.out HL2.out.lt).cell 4 _ rfl
    go_wp2_with fail
    refine(sameE_any _ _ h.acc k.acc _ (HR.out.acc.below HB2.out) (KR.out.acc.below HB2.out)).mono ?_
    rintro e w3 ⟨rfl,hb3⟩
    rw[HS.out]
    have HB3:=Lib.hid (HB2.out.trans (hb3.mono HB2.out.size))
    clear hb3
    cases s with
    | false =>
     go_wp2
     go_ret
     exact⟨by rw[HM.out];rfl,HB.out.trans (HB3.out.mono HB.out.size)⟩
    | true =>
     have m5:w3.cell? ⟨w.heap.size,5,none⟩=some vc:=(HL1.out.below HB3.out HL1.out.lt).cell 5 _ rfl
     have n5:w3.cell? ⟨w.heap.size+1,5,none⟩=some uc:=(HL2.out.below HB3.out HL2.out.lt).cell 5 _ rfl
     go_wp2_with fail
     refine(sameE_any _ _ h.chs k.chs _ (HR.out.chs.below HB3.out) (KR.out.chs.below HB3.out)).mono ?_
     rintro e w4 ⟨rfl,hb4⟩
     rw[HU.out]
     have HB4:=Lib.hid (HB3.out.trans (hb4.mono HB3.out.size))
     clear hb4
     go_wp2
     go_ret
     exact⟨by rw[HM.out];rfl,HB.out.trans (HB4.out.mono HB.out.size)⟩
end
section
def Hd.six(p:Bl.Bal)(b:Int)(vi va vc:Value):Array Value := #[.int .i64 p.round, .int .i64 p.node, .int .i64 b,vi,va,vc]
theorem Hd.six_ok(p:Bl.Bal)(b:Int){vi va vc:Value}(h1:vi.oneCell' = true)(h2:va.oneCell' = true)(h3:vc.oneCell' = true):(Hd.six p b vi va vc).toList.all (·.oneCell')=true:=by
 simp[Hd.six,h1,h2,h3]
 exact⟨rfl,rfl,rfl⟩
theorem Hd.six_no8(p:Bl.Bal)(b:Int)(io:Option Addr)(ik ic:Nat)(ao:Option Addr)(ak ac:Nat)(co:Option Addr)(ck cc:Nat)(x:Int) : ∀j:Nat,(Hd.six p b (.slice io ik ic) (.slice ao ak ac) (.slice co ck cc))[j]? ≠ some (.int .u8 x)
 | 0=>by simp[Hd.six]
 | 1=>by simp[Hd.six]
 | 2=>by simp[Hd.six]
 | 3=>by simp[Hd.six]
 | 4=>by simp[Hd.six]
 | 5=>by simp[Hd.six]
 | j+6=>by simp[Hd.six]
theorem Hd.six_nostr(p:Bl.Bal)(b:Int)(io:Option Addr)(ik ic:Nat)(ao:Option Addr)(ak ac:Nat)(co:Option Addr)(ck cc:Nat)(x:ByteArray) : ∀j:Nat,(Hd.six p b (.slice io ik ic) (.slice ao ak ac) (.slice co ck cc))[j]? ≠ some (.string x)
 | 0=>by simp[Hd.six]
 | 1=>by simp[Hd.six]
 | 2=>by simp[Hd.six]
 | 3=>by simp[Hd.six]
 | 4=>by simp[Hd.six]
 | 5=>by simp[Hd.six]
 | j+6=>by simp[Hd.six]
structure SixAt(w:World)(g:Nat)(T:TypeId)(p:Bl.Bal)(b:Int)(vi va vc:Value):Prop where
 lies:Lies w g T (Hd.six p b vi va vc)
 vi : ∃o k c,vi = .slice o k c
 va : ∃o k c,va = .slice o k c
 vc : ∃o k c,vc = .slice o k c
theorem HardR.sl{w:World}{h:Hd.Hard}{vi va vc:Value}(r:HardR w h vi va vc):(∃o k c,vi = .slice o k c)∧(∃o k c,va = .slice o k c)∧(∃o k c,vc = .slice o k c):=by
 obtain⟨io,ic,e1⟩:=r.img.shape
 obtain⟨ao,ac,e2,_⟩:=ReadsE.shape r.acc
 obtain⟨co,cc,e3,_⟩:=ReadsE.shape r.chs
 exact⟨⟨_,_,_,e1⟩,⟨_,_,_,e2⟩,⟨_,_,_,e3⟩⟩
theorem SixAt.no8{w:World}{g:Nat}{T:TypeId}{p:Bl.Bal}{b:Int}{vi va vc:Value}(h:SixAt w g T p b vi va vc)(j:Nat)(x:Int):(Hd.six p b vi va vc)[j]? ≠ some (.int .u8 x):=by
 obtain⟨_,_,_,rfl⟩:=h.vi
 obtain⟨_,_,_,rfl⟩:=h.va
 obtain⟨_,_,_,rfl⟩:=h.vc
 exact Hd.six_no8 _ _ _ _ _ _ _ _ _ _ _ _ _
theorem SixAt.nostr{w:World}{g:Nat}{T:TypeId}{p:Bl.Bal}{b:Int}{vi va vc:Value}(h:SixAt w g T p b vi va vc)(j:Nat)(x:ByteArray):(Hd.six p b vi va vc)[j]? ≠ some (.string x):=by
 obtain⟨_,_,_,rfl⟩:=h.vi
 obtain⟨_,_,_,rfl⟩:=h.va
 obtain⟨_,_,_,rfl⟩:=h.vc
 exact Hd.six_nostr _ _ _ _ _ _ _ _ _ _ _ _ _
theorem SixAt.ok{w:World}{g:Nat}{T:TypeId}{p:Bl.Bal}{b:Int}{vi va vc:Value}(h:SixAt w g T p b vi va vc):vi.oneCell' = true∧va.oneCell' = true∧vc.oneCell' = true:=by
 obtain⟨_,_,_,rfl⟩:=h.vi
 obtain⟨_,_,_,rfl⟩:=h.va
 obtain⟨_,_,_,rfl⟩:=h.vc
 exact⟨rfl,rfl,rfl⟩
theorem SixAt.below{w w' : World}{B g:Nat}{T:TypeId}{p:Bl.Bal}{b:Int}{vi va vc:Value}(h:SixAt w g T p b vi va vc)(hb:Below B w w')(hB:g<B):SixAt w' g T p b vi va vc:=⟨h.lies.below hb hB,h.vi,h.va,h.vc⟩
theorem SixAt.kept{w w' : World}{o:Nat}{g:Nat}{T:TypeId}{p:Bl.Bal}{b:Int}{vi va vc:Value}(h:SixAt w g T p b vi va vc)(hg:w.grownBy w' (some o))(hne:g≠o):SixAt w' g T p b vi va vc:=⟨h.lies.kept hg (by simpa using hne),h.vi,h.va,h.vc⟩
theorem SixAt.all{w:World}{g:Nat}{T:TypeId}{p:Bl.Bal}{b:Int}{vi va vc:Value}(h:SixAt w g T p b vi va vc):w.cell? ⟨g,0,none⟩=some (.int .i64 p.round)∧w.cell? ⟨g,1,none⟩=some (.int .i64 p.node)∧w.cell? ⟨g,2,none⟩=some (.int .i64 b)∧w.cell? ⟨g,3,none⟩=some vi∧w.cell? ⟨g,4,none⟩=some va∧w.cell? ⟨g,5,none⟩=some vc :=
 ⟨h.lies.cell 0 _ rfl,h.lies.cell 1 _ rfl,h.lies.cell 2 _ rfl,h.lies.cell 3 _ rfl,h.lies.cell 4 _ rfl,h.lies.cell 5 _ rfl⟩
theorem HardR.over{w w' : World}{h:Hd.Hard}{ui ua uc:Value}{g:Nat}{T:TypeId}{p:Bl.Bal}{b:Int}{vi va vc:Value}(r:HardR w h ui ua uc)(s:SixAt w g T p b vi va vc)(hg:w.grownBy w' (some g)):HardR w' h ui ua uc :=
 ⟨r.img.kept_of s.lies s.no8 hg,r.acc.kept_of s.lies s.nostr hg,r.chs.kept_of s.lies s.nostr hg⟩
theorem HardQ.over{q:Nat→Prop}{w w' : World}{h:Hd.Hard}{ui ua uc:Value}{g:Nat}{T:TypeId}{p:Bl.Bal}{b:Int}{vi va vc:Value}(r:HardQ q w h ui ua uc)(s:SixAt w g T p b vi va vc)(hg:w.grownBy w' (some g)):HardQ q w' h ui ua uc:=⟨r.rows.over s hg,r.pi,r.pa,r.pc⟩
section
variable {T : TypeId} {ops : Array Oper} {rest : List Oper} {op : Oper} {a : Act} {w : World} {Q : Exit → Act → World → Prop} {g : Nat} {p : Bl.Bal} {b : Int} {vi va vc : Value}
theorem store_prom(hgd:op.guard=none)(x y:Operand)(ho:op.op = .store 29 x y)(q:Bl.Bal)(hx:a.eval x = .pointer (some ⟨g,0,none⟩))(hy:a.eval y = .agg (Bl.cells q))(hl:SixAt w g T p b vi va vc)
 (h : ∀w', SixAt w' g T q b vi va vc→w.grownBy w' (some g)→wpList Tryz.prog ops Q rest (a.put op.dst undef) w'):wpList Tryz.prog ops Q (op :: rest) a w :=
 store_part hgd _ x y ho g 0 T _ (Hd.six q b vi va vc) (.agg (Bl.cells q)) (Bl.cells q).toList hx hy rfl (by kernel_rfl) rfl hl.lies (Nat.le_of_ble_eq_true rfl) rfl fun w' h1 h2=>h w' ⟨h1,hl.vi,hl.va,hl.vc⟩ h2
theorem store_img(hgd:op.guard=none)(x y:Operand)(ho:op.op = .store 30 x y)(uo:Option Addr)(uk uc:Nat)(hx:a.eval x = .pointer (some ⟨g,3,none⟩))(hy:a.eval y = .slice uo uk uc)(hl:SixAt w g T p b vi va vc)
 (h : ∀w', SixAt w' g T p b (.slice uo uk uc) va vc→w.grownBy w' (some g)→wpList Tryz.prog ops Q rest (a.put op.dst undef) w'):wpList Tryz.prog ops Q (op :: rest) a w :=
 store_part hgd _ x y ho g 3 T _ (Hd.six p b (.slice uo uk uc) va vc) (.slice uo uk uc) [.slice uo uk uc] hx hy rfl (by kernel_rfl) rfl hl.lies (Nat.le_of_ble_eq_true rfl) rfl fun w' h1 h2=>h w' ⟨h1,⟨_,_,_,rfl⟩,hl.va,hl.vc⟩ h2
theorem store_acc(hgd:op.guard=none)(x y:Operand)(ho:op.op = .store 31 x y)(uo:Option Addr)(uk uc:Nat)(hx:a.eval x = .pointer (some ⟨g,4,none⟩))(hy:a.eval y = .slice uo uk uc)(hl:SixAt w g T p b vi va vc)
 (h : ∀w', SixAt w' g T p b vi (.slice uo uk uc) vc→w.grownBy w' (some g)→wpList Tryz.prog ops Q rest (a.put op.dst undef) w'):wpList Tryz.prog ops Q (op :: rest) a w :=
 store_part hgd _ x y ho g 4 T _ (Hd.six p b vi (.slice uo uk uc) vc) (.slice uo uk uc) [.slice uo uk uc] hx hy rfl (by kernel_rfl) rfl hl.lies (Nat.le_of_ble_eq_true rfl) rfl fun w' h1 h2=>h w' ⟨h1,hl.vi,⟨_,_,_,rfl⟩,hl.vc⟩ h2
theorem store_chs(hgd:op.guard=none)(x y:Operand)(ho:op.op = .store 31 x y)(uo:Option Addr)(uk uc:Nat)(hx:a.eval x = .pointer (some ⟨g,5,none⟩))(hy:a.eval y = .slice uo uk uc)(hl:SixAt w g T p b vi va vc)
 (h : ∀w', SixAt w' g T p b vi va (.slice uo uk uc)→w.grownBy w' (some g)→wpList Tryz.prog ops Q rest (a.put op.dst undef) w'):wpList Tryz.prog ops Q (op :: rest) a w :=
 store_part hgd _ x y ho g 5 T _ (Hd.six p b vi va (.slice uo uk uc)) (.slice uo uk uc) [.slice uo uk uc] hx hy rfl (by kernel_rfl) rfl hl.lies (Nat.le_of_ble_eq_true rfl) rfl fun w' h1 h2=>h w' ⟨h1,hl.vi,hl.va,⟨_,_,_,rfl⟩⟩ h2
variable {q : Bl.Bal} {c : Int} {ui ua uc : Value}
theorem store_hard(hgd:op.guard=none)(x y:Operand)(ho:op.op = .store 33 x y)(hx:a.eval x = .pointer (some ⟨g,0,none⟩))(hl:SixAt w g T p b vi va vc){w0:World}{g0:Nat}{T0:TypeId}(hu:SixAt w0 g0 T0 q c ui ua uc)(hy:a.eval y = .agg (Hd.six q c ui ua uc))
 (h : ∀w', SixAt w' g T q c ui ua uc→w.grownBy w' (some g)→wpList Tryz.prog ops Q rest (a.put op.dst undef) w'):wpList Tryz.prog ops Q (op :: rest) a w :=
 store_part hgd _ x y ho g 0 T _ (Hd.six q c ui ua uc) (.agg (Hd.six q c ui ua uc)) (Hd.six q c ui ua uc).toList hx hy rfl (by kernel_rfl) (Hd.six_ok q c hu.ok.1 hu.ok.2.1 hu.ok.2.2) hl.lies (Nat.le_of_ble_eq_true rfl) rfl fun w' h1 h2=>h w' ⟨h1,hu.vi,hu.va,hu.vc⟩ h2
theorem store_state(hgd:op.guard=none)(x y:Operand)(ho:op.op = .store 113 x y)(hx:a.eval x = .pointer (some ⟨g,0,none⟩))(hl:SixAt w g T p b vi va vc){w0:World}{g0:Nat}{T0:TypeId}(hu:SixAt w0 g0 T0 q c ui ua uc)(hy:a.eval y = .agg (Hd.six q c ui ua uc))
 (h : ∀w', SixAt w' g T q c ui ua uc→w.grownBy w' (some g)→wpList Tryz.prog ops Q rest (a.put op.dst undef) w'):wpList Tryz.prog ops Q (op :: rest) a w :=
 store_part hgd _ x y ho g 0 T _ (Hd.six q c ui ua uc) (.agg (Hd.six q c ui ua uc)) (Hd.six q c ui ua uc).toList hx hy rfl (by kernel_rfl) (Hd.six_ok q c hu.ok.1 hu.ok.2.1 hu.ok.2.2) hl.lies (Nat.le_of_ble_eq_true rfl) rfl fun w' h1 h2=>h w' ⟨h1,hu.vi,hu.va,hu.vc⟩ h2
theorem load_hard(hgd:op.guard=none)(x:Operand)(ho:op.op = .load 33 x)(hx:a.eval x = .pointer (some ⟨g,0,none⟩))(hl:SixAt w g T p b vi va vc)
 (h:wpList Tryz.prog ops Q rest (a.put op.dst (.agg (Hd.six p b vi va vc))) w):wpList Tryz.prog ops Q (op :: rest) a w :=
 wpList_load_mid hgd _ x ho g 0 hx (Hd.six p b vi va vc).toList _ (fun j v hv=>by rw[Nat.zero_add];exact hl.lies.cell j v (by simpa using hv)) Tryz.underlying33 rfl (by kernel_rfl) h
theorem load_state(hgd:op.guard=none)(x:Operand)(ho:op.op = .load 113 x)(hx:a.eval x = .pointer (some ⟨g,0,none⟩))(hl:SixAt w g T p b vi va vc)
 (h:wpList Tryz.prog ops Q rest (a.put op.dst (.agg (Hd.six p b vi va vc))) w):wpList Tryz.prog ops Q (op :: rest) a w :=
 wpList_load_mid hgd _ x ho g 0 hx (Hd.six p b vi va vc).toList _ (fun j v hv=>by rw[Nat.zero_add];exact hl.lies.cell j v (by simpa using hv)) Tryz.underlying113 rfl (by kernel_rfl) h
end
theorem run_hard(w:World)(g:Nat)(p:Bl.Bal)(b:Int)(vi va vc:Value)(h:SixAt w g 33 p b vi va vc):(loadVar 33 ⟨g,0,none⟩).run Tryz.prog w = .ok (.agg (Hd.six p b vi va vc)) w :=
 run_loadVar_row w g _ _ (Hd.six p b vi va vc) (0,0) _ h.lies Tryz.underlying33 rfl (by kernel_rfl)
theorem run_state(w:World)(g:Nat)(p:Bl.Bal)(b:Int)(vi va vc:Value)(h:SixAt w g 113 p b vi va vc):(loadVar 113 ⟨g,0,none⟩).run Tryz.prog w = .ok (.agg (Hd.six p b vi va vc)) w :=
 run_loadVar_row w g _ _ (Hd.six p b vi va vc) (0,0) _ h.lies Tryz.underlying113 rfl (by kernel_rfl)
theorem ret_hard1{fn:Func}{R:Ending→World→Prop}{a:Act}{w:World}{t:Tmp}{g:Nat}{p:Bl.Bal}{b:Int}{vi va vc:Value}(h:fn.results = #[.cell t 33])(hp:a.tmps.getD t undef = .pointer (some ⟨g,0,none⟩))
 (hl:SixAt w g 33 p b vi va vc) (hd:a.defers = []) (hR:R (.returned (.agg (Hd.six p b vi va vc))) w):bodyPost Tryz.prog fn R .ret a w:=by
 refine bodyPost_ret ?_ hd hR
 rw[results_one h,hp]
 simp[asAddr,Result.andThen,run_hard w g p b vi va vc hl]
theorem ret_state1{fn:Func}{R:Ending→World→Prop}{a:Act}{w:World}{t:Tmp}{g:Nat}{p:Bl.Bal}{b:Int}{vi va vc:Value}(h:fn.results = #[.cell t 113])(hp:a.tmps.getD t undef = .pointer (some ⟨g,0,none⟩))
 (hl:SixAt w g 113 p b vi va vc) (hd:a.defers = []) (hR:R (.returned (.agg (Hd.six p b vi va vc))) w):bodyPost Tryz.prog fn R .ret a w:=by
 refine bodyPost_ret ?_ hd hR
 rw[results_one h,hp]
 simp[asAddr,Result.andThen,run_state w g p b vi va vc hl]
def MadeH(w:World)(h:Hd.Hard)(e:Ending)(w' : World):Prop := ∃vi va vc,e = .returned (.agg (Hd.cells h vi va vc))∧HardR w' h vi va vc∧Below w.heap.size w w'
def MadeQ(q:Nat→Prop)(w:World)(h:Hd.Hard)(e:Ending)(w' : World):Prop := ∃vi va vc,e = .returned (.agg (Hd.cells h vi va vc))∧HardQ q w' h vi va vc∧Below w.heap.size w w'
theorem ReadsR.lit{w:World}{g k:Nat}{E:TypeId}{rs:List (Array Value)}(h:Lies w g E (flatR rs).toArray)(hs:Sized k rs)(hn:rs.length≤1000):ReadsR w (.slice (some ⟨g,0,none⟩) rs.length rs.length) k rs:=by
 refine⟨_,_,rfl,Nat.le_refl _,by unfold maxLen;omega,by simp,fun x hx i r hr j u hu => ?_⟩
 cases hx
 have hj:(flatR rs).toArray[i*k+j]? = some u:=by simpa using flatR_at hs hr hu
 have:=h.cell (i*k+j) u hj
 unfold Addr.add
 by_cases h0:i*k+j=0
 ·rw[if_pos h0]
  rw[h0]at this
  exact this
 ·rw[if_neg h0,Nat.zero_add]
  exact this
end
end Go.Proofs.YtdkdjofnnnljjaaGreatDoor

namespace Go.Proofs.YtdkdjofnnnljjaaGreatDoor
open Go.RowKit
set_option maxRecDepth 20000
section
section
variable {H : Type} {enc : TypeId × Value → H} {w : World} {b0 base : Nat} {held : Bool}
theorem el_bytes(m:Nat)(cs:List Value)(y:DataW H × List MemPlace)(h:DataW.trod enc Tryz.prog w base (fun _=>true) held m 30 cs=some y) : ∃u l,cs = [u]∧Reads w u l:=by
 rcases ChangeShapes.open_ints Tryz.underlying30 Tryz.underlying5 (by kernel_rfl) h with ⟨rfl,_⟩ | ⟨x,l,c,zs,rfl,_,hl,hm,hz,_,hcell,hwz⟩
 ·exact⟨_, [],rfl,Reads.empty w⟩
 ·exact⟨_,_,rfl,reads_row (zs:=zs) (.inr ⟨_,rfl,hl,hm,by simpa using hz,hcell,hwz⟩)⟩
end
end
end Go.Proofs.YtdkdjofnnnljjaaGreatDoor
