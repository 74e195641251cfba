/- Several texts of mine in one: FrmAdd FrmRef FrmNext. -/
import Derived.Test.YtdkdjofnnnljjaaGreatDoorPGFs
import Derived.Test.YtdkdjofnnnljjaaGreatDoorPPkMath
import Derived.Deep.RegionWith
namespace Go.Proofs.YtdkdjofnnnljjaaGreatDoor
open Go.RowKit
set_option maxHeartbeats 1600000
set_option maxRecDepth 4000
theorem flat_take{α:Type}{ls:List (List α)}{k:Nat}{l:List α}(h:ls[k]? = some l):(ls.take (k+1)).flatten=(ls.take k).flatten++l:=by
 rw[List.take_add_one,h];simp
theorem flat_len{α:Type}{ls:List (List α)}{k:Nat}{l:List α}(h:ls[k]? = some l):(ls.take k).flatten.length+l.length≤ls.flatten.length:=by
 have e:=congrArg (fun x:List (List α)=>x.flatten.length) (List.take_append_drop (k+1) ls)
 simp only[List.flatten_append,List.length_append,flat_take h]at e
 omega
theorem concat_any(v:Value)(ls:List (List UInt8))(w:World)(hv:ReadsL w v ls)(h0:0<ls.flatten.length)(hlen:ls.flatten.length≤140737488351232) :
 Calls Tryz.prog 94 #[v] w (Makes w 5 ls.flatten):=by
 obtain⟨ao,cap,rfl,hc1,hc2⟩:=hv.shape
 have hpos:0<ls.length:=by
  cases ls with
  | nil=>simp at h0
  | cons _ _=>simp
 obtain⟨b,off,rfl,hcell⟩:=hv.place hpos
 have HC:=Lib.hid hcell
 clear hcell
 have H0:=Lib.hid h0;clear h0
 go_enter Tryz.func94,Tryz.ntmps94
 go_wp2
 go_loop [3,11] (fun s i => ∃k S:Nat,i = .int .i64 (k:Int)∧s = .int .i64 (S:Int)∧k≤ls.length∧S≤140737488351232∧Hid (S=(ls.take k).flatten.length)) (fun _ i=>ls.length - (intOf i).toNat)
 case atStart=>exact⟨0,0,rfl,rfl,by omega,by omega,show 0=_ by simp⟩
 case round =>
  obtain⟨k,S,rfl,rfl,hk,hS,HS⟩:=hrel
  by_cases hlt:k<ls.length
  ·obtain⟨l,hl⟩ : ∃l,ls[k]? = some l:=⟨_,List.getElem?_eq_getElem hlt⟩
   obtain⟨u,hu,hr⟩:=HC.out k l hl
   obtain⟨uo,ucap,rfl⟩:=hr.shape
   have hle:=flat_len hl
   have H1:Hid (S+l.length=(ls.take (k+1)).flatten.length):=by show _=_;rw[flat_take hl,List.length_append,HS.out]
   have hSl:S+l.length≤140737488351232:=by have:=HS.out;omega
   clear hr hl hle
   go_wp2
   go_round
   case rel=>exact⟨k+1,S+l.length,by go_num,by go_num,by omega,hSl,H1⟩
   case measure=>simp[intOf];omega
  ·have hSv:Hid (S=ls.flatten.length):=by show _=_;rw[HS.out,List.take_of_length_le (by omega)]
   have hS0:0<S:=by have:=hSv.out;have:=H0.out;omega
   clear HS
   go_wp2_with fail
   refine(grow_any S w hS0 (by omega)).mono ?_
   rintro e w1 ⟨v1,rfl,ho1,hb1⟩
   go_wp2_with fail
   go_loopw [6,27] (fun x i wr => ∃k:Nat,i = .int .i64 (k:Int)∧k≤ls.length∧Owns wr w.heap.size 5 x (ls.take k).flatten∧Below w.heap.size w wr) (fun _ i _=>ls.length - (intOf i).toNat)
   case atStart=>exact⟨0,rfl,by omega,by simpa using ho1,hb1⟩
   case round =>
    clear ho1 hb1
    obtain⟨k,rfl,hk,ho,hb⟩:=hrel
    by_cases hlt:k<ls.length
    ·obtain⟨l,hl⟩ : ∃l,ls[k]? = some l:=⟨_,List.getElem?_eq_getElem hlt⟩
     obtain⟨u,hu,hr⟩:=HC.out k l hl
     obtain⟨uo,ucap,rfl⟩:=hr.shape
     have hle:=flat_len hl
     have hu' : wr.cell? ⟨b,off+k,none⟩=some (.slice uo l.length ucap):=(hb.cell (p:=⟨b,off+k,none⟩) (World.block_lt_of_cell? w _ hu)).trans hu
     have hr' := hr.below hb
     have hlen2:(ls.take k).flatten.length+l.length≤140737488355328:=by omega
     have H2:Hid ((ls.take (k+1)).flatten=(ls.take k).flatten++l):=flat_take hl
     clear hu hr hle hl
     go_wp2_with (at_builtin;refine append_bytes rfl _ _ 30 5 rfl Tryz.underlying30 info_u8 w.heap.size _ l _ _ rfl rfl ho hr' hlen2 w hb (Nat.le_refl _) ?_;intro v' w' ho' hb' _)
     go_roundw
     case rel=>exact⟨k+1,by go_num,by omega,by rw[H2.out];exact ho', hb'⟩
     case measure=>simp[intOf];omega
    ·rw[List.take_of_length_le (by omega)]at ho
     go_wp2
     go_ret
     exact⟨_,rfl,ho,hb⟩
theorem add_ok(v u:Value)(l m:List UInt8)(w:World)(hv:Reads w v l)(hu:Reads w u m)(hT:CrcTab w)(h0:1≤m.length)(h1:m.length≤65536)(hlen:l.length≤140737488000000) :
 Calls Tryz.prog 70 #[v,u] w fun e w' => ∃x,e = .returned (.tuple #[x, .int .i64 0])∧Owns w' w.heap.size 5 x (l++Frm.frame m)∧Below w.heap.size w w' := by
 obtain⟨ao,cap,rfl⟩:=hv.shape
 obtain⟨uo,ucap,rfl⟩:=hu.shape
 have hs:sizeErr (m.length:Int)=0:=by unfold sizeErr;rw[if_neg (by omega),if_neg (by omega)]
 have h9:=enc_nine (n:=m.length) (by omega)
 obtain⟨n,hn⟩ : ∃n,n=m.length:=⟨_,rfl⟩
 rw[← hn]at h0 h1 hs
 have HS:=Lib.hid hs;clear hs
 have HN:=Lib.hid hn
 rw[← hn]
 go_enter Tryz.func70,Tryz.ntmps70
 clear hn
 go_wp2_with fail
 refine(sizeError_any n _).mono ?_
 rintro e w' ⟨rfl,rfl⟩
 rw[HS.out]
 go_wp2_with fail
 refine(put_any _ [] n _ (Reads.empty _) (by simp) (by omega) (by omega)).mono ?_
 rintro e w1 ⟨x1,rfl,ho1,hb1⟩
 rw[List.nil_append,Int.toNat_natCast]at ho1
 obtain⟨x1o,x1c,rfl⟩:=ho1.reads.shape
 go_wp2_with fail
 refine(tail_any _ m _ (by rw[HN.out];exact hu.below hb1) (hT.below hb1)).mono ?_
 rintro e w2 ⟨x2,rfl,ho2,hb2⟩
 obtain⟨x2o,x2c,rfl⟩:=ho2.reads.shape
 have hb12:=on hb1 hb2
 have hL:ReadsL (w2.alloc (.cells #[.slice ao l.length cap, .slice x1o (enc n).length x1c, .slice uo n ucap, .slice x2o (Frm.tail m).length x2c] 30)) (.slice (some ⟨w2.heap.size,0,none⟩) 4 4) [l,enc n,m,Frm.tail m]:=by
  refine ReadsL.laid w2 _ _ _ 4 _ rfl rfl rfl (by omega) fun j a b ha hb => ?_
  match j with
  | 0=>simp at ha hb;subst ha hb;exact hv.below hb12
  | 1=>simp at ha hb;subst ha hb;exact ho1.reads.below hb2
  | 2=>simp at ha hb;subst ha hb;rw[HN.out];exact hu.below hb12
  | 3=>simp at ha hb;subst ha hb;exact ho2.reads
  | j+4=>simp at ha
 have hfl : [l,enc n,m,Frm.tail m].flatten=l++Frm.frame m:=by unfold Frm.frame;rw[← HN.out];simp
 have hfn:(l++Frm.frame m).length=l.length+((enc n).length+n+4):=by rw[List.length_append,Frm.frame_len, ← HN.out]
 have hle:(enc n).length≤9:=by rw[HN.out];exact h9
 have hc:=concat_any _ _ _ hL (by rw[hfl,hfn];omega) (by rw[hfl,hfn];omega)
 rw[hfl]at hc
 clear hfl hfn hL
 go_wp2_with (go_at_call 94;refine hc.mono ?_;rintro e w3 ⟨x3,rfl,ho3,hb3⟩)
 go_ret2
 exact⟨_,rfl,ho3.mono (by have:=hb12.size;simp;omega),on hb12 (on ((Below.refl _ _).alloc (Nat.le_refl _) _) hb3)⟩
theorem Reads.cut{w:World}{b off n cap:Nat}{l:List UInt8}(h:Reads w (.slice (some ⟨b,off,none⟩) n cap) l)(f k:Nat)(hk:f+k≤l.length):Reads w (.slice (some ⟨b,off+f,none⟩) k (cap - f)) ((l.drop f).take k):=by
 obtain⟨ao', cap', hv,h1,h2,h3,h4⟩:=h
 simp only[Value.slice.injEq]at hv
 obtain⟨rfl,rfl,rfl⟩:=hv
 have e:((l.drop f).take k).length=k:=by simp;omega
 refine⟨some ⟨b,off+f,none⟩,cap - f,by rw[e],by rw[e];omega,by omega,(fun h=>by cases h),fun x hx j u hu => ?_⟩
 cases hx
 have:=h4 _ rfl (f+j) u (by
  simp only[cellsOf,List.getElem?_map,List.getElem?_take,List.getElem?_drop]at hu ⊢
  split at hu
  ·exact hu
  ·simp at hu)
 rw[Addr.add_lit]at this ⊢
 rw[Nat.add_assoc];exact this
def Parts(w:World)(vb:Value)(l:List UInt8)(r:List UInt8 × Int × Int)(e:Ending)(w' : World):Prop :=
 ∃v,e = .returned (.tuple #[v, .int .i64 r.2.1, .int .i64 r.2.2])∧(∀w0,Reads w0 vb l→Reads w0 v r.1)∧Below w.heap.size w w'
theorem Parts.none(w:World)(vb:Value)(l:List UInt8)(e:Int)(w' : World)(h:Below w.heap.size w w'):Parts w vb l ([],0,e) (.returned (.tuple #[.slice none 0 0, .int .i64 0, .int .i64 e])) w' :=
 ⟨_,rfl,fun w0 _=>Reads.empty w0,h⟩
def Fresh(w:World)(r:List UInt8 × Int × Int)(e:Ending)(w' : World):Prop :=
 ∃v,e = .returned (.tuple #[v, .int .i64 r.2.1, .int .i64 r.2.2])∧Owns w' w.heap.size 5 v r.1∧Below w.heap.size w w'
theorem Fresh.none(w:World)(e:Int)(w' : World)(h:Below w.heap.size w w'):Fresh w ([],0,e) (.returned (.tuple #[.slice none 0 0, .int .i64 0, .int .i64 e])) w' :=
 ⟨_,rfl,Owns.empty _ _ _,h⟩
theorem next_any(v:Value)(l:List UInt8)(pl:Int)(w:World)(hv:Reads w v l)(hT:CrcTab w)(hlen:l.length≤140737487000000) :
 Calls Tryz.prog 111 #[v, .int .i64 pl] w (Fresh w (Frm.next l pl)):=by
 obtain⟨ao,cap,rfl⟩:=hv.shape
 obtain⟨_,hc1,hc2,_⟩:=hv.len
 rcases Frm.next_cases l pl with ⟨e,he,hg,hn⟩ | ⟨p,n,c,rfl,h2,h3,h4,hg,h5,hcase⟩
 ·rw[hn]
  have HG:=Lib.hid hg;clear hg hn
  go_enter Tryz.func111,Tryz.ntmps111
  go_wp2_with fail
  refine(get_is _ l pl _ _ _ _ hv HG).mono ?_
  rintro e' w' ⟨rfl,rfl⟩
  go_wp2_with fail
  go_ret3
  exact Fresh.none _ _ _ (Below.refl _ _)
 ·have HG:=Lib.hid hg;clear hg h5
  obtain⟨f,hf⟩ : ∃f,f=p+c:=⟨_,rfl⟩
  rw[← hf]at h2 HG hcase
  have hpf:p<f:=by omega
  clear hf
  have hs0:sizeErr (n:Int)=3∧n=0∨sizeErr (n:Int)=2∧65536<n∨sizeErr (n:Int)=0∧0<n∧n≤65536:=by unfold sizeErr;split;omega;split<;>omega
  rcases hcase with ⟨h0,hn⟩ | ⟨h0,hn⟩ | ⟨h0,h1,⟨hs,hn⟩ | ⟨hs,hcase⟩⟩
  ·rw[hn];clear hn hs0
   subst h0
   have HS:Hid (sizeErr 0=3):=rfl
   go_enter Tryz.func111,Tryz.ntmps111
   go_wp2_with fail
   refine(get_is _ l p _ _ _ _ hv HG).mono ?_
   rintro e' w' ⟨rfl,rfl⟩
   go_wp2_with fail
   refine(sizeError_any _ _).mono ?_
   rintro e' w' ⟨rfl,rfl⟩
   rw[HS.out]
   go_wp2_with fail
   go_ret3
   exact Fresh.none _ _ _ (Below.refl _ _)
  ·rw[hn];clear hn
   have HS:Hid (sizeErr (n:Int)=2):=by show _=_;omega
   clear hs0
   go_enter Tryz.func111,Tryz.ntmps111
   go_wp2_with fail
   refine(get_is _ l p _ _ _ _ hv HG).mono ?_
   rintro e' w' ⟨rfl,rfl⟩
   go_wp2_with fail
   refine(sizeError_any _ _).mono ?_
   rintro e' w' ⟨rfl,rfl⟩
   rw[HS.out]
   go_wp2_with fail
   go_ret3
   exact Fresh.none _ _ _ (Below.refl _ _)
  ·rw[hn];clear hn
   have HS:Hid (sizeErr (n:Int)=0):=by show _=_;omega
   clear hs0
   go_enter Tryz.func111,Tryz.ntmps111
   go_wp2_with fail
   refine(get_is _ l p _ _ _ _ hv HG).mono ?_
   rintro e' w' ⟨rfl,rfl⟩
   go_wp2_with fail
   refine(sizeError_any _ _).mono ?_
   rintro e' w' ⟨rfl,rfl⟩
   rw[HS.out]
   go_wp2_with fail
   go_ret3
   exact Fresh.none _ _ _ (Below.refl _ _)
  ·obtain⟨b,off,rfl,_⟩:=hv.place (by omega)
   have hr1:=hv.cut f n (by omega)
   have hr2:=hv.cut (f+n) 4 (by omega)
   have hfc : ¬cap=f:=by omega
   have hfn : ¬cap=f+n:=by omega
   have hl1:((l.drop f).take n).length≤140737488000000:=by simp;omega
   have HL:=Lib.hid hl1
   have HS:Hid (sizeErr (n:Int)=0):=by show _=_;omega
   clear hs0 hl1
   have hw : ∀ {t:Bool} {r:List UInt8 × Int × Int},Hid (((l.drop (f+n)).take 4 == Frm.tail ((l.drop f).take n))=t) →
    (∀(w2:World),Below w.heap.size w w2→if t=true then ∀x,Owns w2 w.heap.size 5 x ((l.drop f).take n)→Fresh w r (.returned (.tuple #[x, .int .i64 ((f:Int)+(n:Int)+4), .int .i64 0])) w2
      else Fresh w r (.returned (.tuple #[.slice none 0 0, .int .i64 0, .int .i64 4])) w2) →
    Calls Tryz.prog 111 #[.slice (some ⟨b,off,none⟩) l.length cap, .int .i64 (p:Int)] w (Fresh w r):=by
    intro t r HT hP
    have HP:=Lib.hid hP;clear hP
    go_enter Tryz.func111,Tryz.ntmps111
    go_wp2_with fail
    refine(get_is _ l p _ _ _ _ hv HG).mono ?_
    rintro e' w' ⟨rfl,rfl⟩
    go_wp2_with fail
    refine(sizeError_any _ _).mono ?_
    rintro e' w' ⟨rfl,rfl⟩
    rw[HS.out]
    go_wp2_with fail
    go_region_with (first
     | (go_at_call 96;refine(tail_any _ ((l.drop f).take n) _ ?h1 ?h2).mono ?_;(case h1=>exact hr1);(case h2=>exact hT);rintro e' w1 ⟨x1,rfl,ho1,hb1⟩;obtain⟨x1o,x1c,rfl⟩:=ho1.reads.shape)
     | (go_at_call 149;refine(equal_any _ _ ((l.drop (f+n)).take 4) (Frm.tail ((l.drop f).take n)) _ ?h1 ?h2).mono ?_;(case h1=>exact hr2.below (on (Below.refl _ w).drew hb1));(case h2=>exact ho1.reads);rintro e' w2 ⟨rfl,rfl⟩;rw[HT.out]))
    all_goals
     have hB:=on (Below.refl w.heap.size w).drew hb1
     cases t with
     | true =>
      go_wp2_with fail
      refine(clone_any _ ((l.drop f).take n) _ (hr1.below hB) (by have:=HL.out;omega)).mono ?_
      rintro e' w3 ⟨x3,rfl,ho3,hb3⟩
      go_wp2_with fail
      go_ret3
      have hP:=HP.out w3 (on hB hb3)
      simp only[if_true]at hP
      exact hP x3 (ho3.mono hB.size)
     | false =>
      go_wp2_with fail
      go_ret3
      have hP:=HP.out _ hB
      rw[if_neg (by simp)]at hP
      exact hP
   rcases hcase with ⟨he,hn⟩ | ⟨he,hn⟩
   ·rw[hn]
    refine hw (t:=true) (by show _=_;simpa using he) fun w2 hb2 => ?_
    rw[if_pos rfl]
    exact fun x hx=>⟨x,by simp,hx,hb2⟩
   ·rw[hn]
    refine hw (t:=false) (by show _=_;simpa using he) fun w2 hb2 => ?_
    rw[if_neg (by simp)]
    exact Fresh.none _ _ _ hb2
end Go.Proofs.YtdkdjofnnnljjaaGreatDoor
