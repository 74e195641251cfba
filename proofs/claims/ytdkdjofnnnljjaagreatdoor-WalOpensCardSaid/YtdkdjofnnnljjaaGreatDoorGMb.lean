/- Several texts of mine in one: Lie Row Own Part Once. -/
import Derived.Test.YtdkdjofnnnljjaaGreatDoorPMem
import Derived.RangeFuncBox
import Derived.Sort.Grow
import Derived.Deep.Slices
import Derived.Deep.Fields
import Derived.ChangeSame
import Derived.Laws.AppendOwn
import Derived.Lib.SliceRun
import Derived.Deep.MidRow
import Derived.Deep.QuietTactic
import Derived.BigQuiet
namespace Go.Proofs.YtdkdjofnnnljjaaGreatDoor
open Go.RowKit
def Says(w:World)(v:Value)(e:Ending)(w' : World):Prop:=e = .returned v∧w=w'
def Finds(w:World)(v:Value)(e:Ending)(w' : World):Prop:=e = .returned v∧Below w.heap.size w w'
def Looks(w:World)(v:Value)(e:Ending)(w' : World):Prop:=e = .returned v∧Below w.heap.size w w'
def Lies(w:World)(o:Nat)(t:TypeId)(vs:Array Value):Prop:=w.heap[o]? = some (.cells vs t (0,0))
theorem Lies.lt{w:World}{o:Nat}{t:TypeId}{vs:Array Value}(h:Lies w o t vs):o<w.heap.size:=(Array.getElem?_eq_some_iff.1 h).1
theorem Lies.cell{w:World}{o:Nat}{t:TypeId}{vs:Array Value}(h:Lies w o t vs)(j:Nat)(v:Value)(hj:vs[j]? = some v):w.cell? ⟨o,j,none⟩=some v:=by
 simp[World.cell?,show w.heap[o]? = _ from h,hj]
theorem Lies.free{w:World}{o:Nat}{t:TypeId}{vs:Array Value}(h:Lies w o t vs)(j:Nat):w.frozen? ⟨o,j,none⟩=false:=by
 simp[World.frozen?,show w.heap[o]? = _ from h]
theorem Lies.new(w:World)(t:TypeId)(vs:Array Value):Lies (w.alloc (.cells vs t)) w.heap.size t vs:=World.alloc_heap_new w _
theorem Lies.kept{w w' : World}{row:Option Nat}{o:Nat}{t:TypeId}{vs:Array Value}(h:Lies w o t vs)(hg:w.grownBy w' row)(hne:some o≠row):Lies w' o t vs:=(hg.block o h.lt hne).trans h
theorem Lies.below{w w' : World}{B o:Nat}{t:TypeId}{vs:Array Value}(h:Lies w o t vs)(hb:Below B w w')(hB:o<B):Lies w' o t vs:=(hb.block o hB).trans h
theorem Lies.alloc{w:World}{o:Nat}{t:TypeId}{vs:Array Value}(h:Lies w o t vs)(x:Obj):Lies (w.alloc x) o t vs:=h.kept (World.grownBy_alloc w x none) (by simp)
theorem Lies.set{w:World}{o:Nat}{t:TypeId}{vs:Array Value}(h:Lies w o t vs)(j:Nat)(v:Value):Lies (w.setCell ⟨o,j,none⟩ v) o t (vs.setIfInBounds j v):=by
 obtain⟨hlt,hk⟩:=Array.getElem?_eq_some_iff.1 h
 show(w.heap.modify o _)[o]? = _
 rw[Array.getElem?_eq_getElem (by rw[Array.size_modify];exact hlt),Array.getElem_modify_self,hk]
 rfl
theorem grown_set(w:World)(o j:Nat)(v:Value):w.grownBy (w.setCell ⟨o,j,none⟩ v) (some o) :=
 ⟨rfl,rfl,rfl,(KeepsWalks.setCell w _ v).size,fun k _ hk=>Below.heap_setCell _ _ _ k (fun e=>hk (by rw[e]))⟩
theorem Lies.not_row{w:World}{o:Nat}{t e:TypeId}{vs:Array Value}(h:Lies w o t vs)(hte:t≠e){base size k:Nat}{v:Value}{xs:List Value}(hr:w.ownsRow base e size v k xs):some o≠v.ownBlock:=by
 rcases hr.2 with ⟨rfl,_⟩ | ⟨g,cap,cur,rfl,_,hgb,_⟩
 ·simp[Value.ownBlock]
 ·intro he
  obtain rfl:o=g:=by simpa[Value.ownBlock] using he
  have h' := h
  unfold Lies at h'
  rw[hgb]at h'
  simp only[Option.some.injEq,Obj.cells.injEq]at h'
  exact hte h'.2.1.symm
theorem grown_on{w w1 w2:World}{row:Option Nat}(h:w.grownBy w1 row)(k:w1.grownBy w2 row):w.grownBy w2 row :=
 ⟨k.os.trans h.os,k.tape.trans h.tape,k.output.trans h.output,Nat.le_trans h.size k.size,fun j hj hr=>(k.block j (Nat.lt_of_lt_of_le hj h.size) hr).trans (h.block j hj hr)⟩
theorem fresh_below{w w' : World}{x:Obj}(hg:(w.alloc x).grownBy w' (some w.heap.size)):Below w.heap.size w w' :=
 ((Below.refl _ w).alloc (Nat.le_refl _) x).grown hg (by simp) (by rintro j hj;cases hj;exact Nat.le_refl _)
theorem str_size(s:List UInt8):(ByteArray.mk s.toArray).size=s.length:=by simp[ByteArray.size]
theorem var_below{P:Program}{n:String}{cs:Array Value}{w w' : World}(h:w.var? P n=some cs)(hb:Below w.heap.size w w'):w'.var? P n=some cs:=by
 unfold World.var? at h ⊢
 cases hg:P.globalNamed n with
 | none=>simp[hg]at h
 | some g =>
  simp only[hg,Option.bind_some]at h ⊢
  have hlt:g<w.heap.size:=by
   rcases Nat.lt_or_ge g w.heap.size with hlt | hge
   ·exact hlt
   ·rw[Array.getElem?_eq_none hge]at h;simp at h
  rw[hb.block g hlt];exact h
theorem pick{α:Type}(q:Nat→α→Prop) : ∀n:Nat,(∀i,i<n → ∃a,q i a) → ∃xs:List α,xs.length=n ∧ ∀i a,xs[i]? = some a→q i a:=by
 intro n
 induction n with
 | zero=>intro _;exact⟨[],rfl,fun i a h=>by simp at h⟩
 | succ n ih =>
  intro h
  obtain⟨xs,h1,h2⟩:=ih (fun i hi=>h i (by omega))
  obtain⟨a,ha⟩:=h n (by omega)
  refine⟨xs ++ [a],by simp[h1],fun i x hx => ?_⟩
  rcases Nat.lt_or_ge i n with hi | hi
  ·rw[List.getElem?_append_left (by omega)]at hx;exact h2 i x hx
  ·rw[List.getElem?_append_right (by omega)]at hx
   have hi0:i - xs.length=0:=by have:=(List.getElem?_eq_some_iff.1 hx).1;simp at this;omega
   obtain rfl:i=n:=by omega
   rw[hi0]at hx
   simp at hx
   subst hx;exact ha
theorem results_one{fn:Func}{p:Tmp}{ty:TypeId}(h:fn.results = #[.cell p ty])(tmps:Array Value)(P:Program)(w:World) :
 (results fn tmps).run P w=((asAddr (tmps.getD p undef)).run P w).andThen fun a w₁=>(loadVar ty a).run P w₁:=by
 simp only[results,h]
 simp[Sem.run_bind,Result.andThen]
theorem results_two{fn:Func}{p u:Tmp}{ty:TypeId}(h:fn.results = #[.cell p ty, .tmp u])(tmps:Array Value)(P:Program)(w:World) :
 (results fn tmps).run P w=((asAddr (tmps.getD p undef)).run P w).andThen fun a w₁=>((loadVar ty a).run P w₁).andThen fun v w₂ => .ok (.tuple #[v,tmps.getD u undef]) w₂:=by
 simp only[results,h]
 simp[Sem.run_bind,Result.andThen]
section
def ReadsR(w:World)(v:Value)(k:Nat)(rs:List (Array Value)):Prop :=
 ∃(ao:Option Addr) (cap:Nat),v = .slice ao rs.length cap∧rs.length≤cap∧cap≤maxLen∧(ao=none→cap=0) ∧
  ∀x,ao=some x → ∀(i:Nat) (r:Array Value),rs[i]? = some r → ∀(j:Nat) (u:Value),r[j]? = some u→w.cell? (x.add (i*k+j))=some u
theorem ReadsR.shape{w:World}{v:Value}{k:Nat}{rs:List (Array Value)}(h:ReadsR w v k rs) : ∃ao cap,v = .slice ao rs.length cap∧rs.length≤cap∧cap≤9223372036854775807:=by
 obtain⟨ao,cap,rfl,h1,h2,_⟩:=h
 exact⟨ao,cap,rfl,h1,by unfold maxLen at h2;exact h2⟩
theorem ReadsR.empty(w:World)(k:Nat):ReadsR w (.slice none 0 0) k []:=⟨none,0,rfl,by simp,by simp[maxLen],fun _=>rfl,(fun x hx=>by cases hx)⟩
theorem ReadsR.below{w w' : World}{v:Value}{k:Nat}{rs:List (Array Value)}(h:ReadsR w v k rs)(hb:Below w.heap.size w w'):ReadsR w' v k rs:=by
 obtain⟨ao,cap,rfl,h1,h2,h3,h4⟩:=h
 refine⟨ao,cap,rfl,h1,h2,h3,fun x hx i r hr j u hu => ?_⟩
 have hc:=h4 x hx i r hr j u hu
 rw[← hc]
 exact hb.cell (World.block_lt_of_cell? w _ hc)
theorem ReadsR.places{w:World}{ao:Option Addr}{n cap k:Nat}{rs:List (Array Value)}(h:ReadsR w (.slice ao n cap) k rs){r0:Array Value}{u0:Value}(hr0:rs[0]? = some r0)(hu0:r0[0]? = some u0) :
 ∃b off,ao=some ⟨b,off,none⟩∧b<w.heap.size ∧ ∀w', Below w.heap.size w w' → ∀i r,rs[i]? = some r → ∀j u,r[j]? = some u→w'.cell? ⟨b,off+(i*k+j),none⟩=some u:=by
 have h' := h
 obtain⟨ao', cap', hv,h1,h2,h3,h4⟩:=h'
 simp only[Value.slice.injEq]at hv
 obtain⟨rfl,rfl,rfl⟩:=hv
 cases ao with
 | none=>have:=(List.getElem?_eq_some_iff.1 hr0).1;exact absurd (h3 rfl) (by omega)
 | some x =>
  obtain⟨b,off,spot⟩:=x
  have hc:=h4 _ rfl 0 _ hr0 0 _ hu0
  have hspot:spot=none:=by simpa[Addr.add] using World.cell?_spot hc
  subst hspot
  refine⟨b,off,rfl,by have:=World.block_lt_of_cell? w _ hc;simpa[Addr.add] using this,fun w' hb i r hr j u hu => ?_⟩
  obtain⟨ao2,cap2,hv2,_,_,_,k4⟩:=h.below hb
  simp only[Value.slice.injEq]at hv2
  obtain⟨rfl,_,_⟩:=hv2
  have:=k4 _ rfl i r hr j u hu
  rwa[Addr.add_lit]at this
theorem ReadsR.rest{w:World}{ao:Option Addr}{n cap k:Nat}{rs:List (Array Value)}(h:ReadsR w (.slice ao n cap) k rs)(f:Nat)(hf:f≤n) :
 ∃ao2,sliced ao f n cap k = .slice ao2 (n - f) (cap - f)∧ReadsR w (.slice ao2 (n - f) (cap - f)) k (rs.drop f):=by
 obtain⟨ao', cap', hv,h1,h2,h3,h4⟩:=h
 simp only[Value.slice.injEq]at hv
 obtain⟨rfl,rfl,rfl⟩:=hv
 have hlen:(rs.drop f).length=rs.length - f:=List.length_drop
 refine⟨_,rfl,_,_,by rw[hlen],by rw[hlen];omega,by omega, ?_, ?_⟩
 ·intro h0
  split at h0
  ·have:=h3 h0;omega
  ·cases ao with
   | none=>have:=h3 rfl;omega
   | some x=>simp at h0
 ·intro x hx i r hr j u hu
  have hlt:=(List.getElem?_eq_some_iff.1 hr).1
  rw[hlen]at hlt
  rw[if_neg (by omega)]at hx
  cases ao with
  | none=>simp at hx
  | some y =>
   simp only[Option.map_some,Option.some.injEq]at hx
   subst hx
   rw[List.getElem?_drop]at hr
   have:=h4 y rfl _ r hr j u hu
   rw[Deep.add_add, ← Nat.add_assoc, ← Nat.add_mul]
   exact this
theorem came_rows{α H:Type}{enc:TypeId × Value→H}{P:Program}{w:World}{b0 base:Nat}{held:Bool}{t e:TypeId}{k:Nat}{v:Value}{d:DataW H}{p:List MemPlace}(cells:α→Array Value)(fit:α→Prop)
 (ht:P.underlying t=some (.slice e)) (hce:P.cellsOf e=k)
 (hel : ∀(m:Nat) (cs:List Value) (y:DataW H × List MemPlace),DataW.trod enc P w base (fun _=>true) held m e cs=some y → ∃a,cs=(cells a).toList∧fit a)
 (hv:Value.okWide P w .any b0 t v) (h:DataW.Trod enc P w base (fun _=>true) held t v d p) : ∃l:List α,ReadsR w v k (l.map cells) ∧ ∀a∈l,fit a:=by
 obtain⟨a,len,cap,rfl⟩:=WideShapes.okWide_slice ht hv
 obtain⟨fuel,hf⟩:=h
 rcases Deep.open_slice ht hf with ⟨hcs,_⟩ | ⟨x,l,c,m,n,D,Pl,hcs,_,hl,hm,hmm,_,hi⟩
 ·simp[Value.cells]at hcs
  obtain⟨rfl,rfl,rfl⟩:=hcs
  exact⟨[],ReadsR.empty w k,fun a ha=>by simp at ha⟩
 ·simp[Value.cells]at hcs
  obtain⟨rfl,rfl,rfl⟩:=hcs
  have each : ∀i,i<len → ∃f:α,(∀(j:Nat) (u:Value),(cells f)[j]? = some u→w.cell? (x.add (i*k+j))=some u)∧fit f:=by
   intro i hil
   obtain⟨cs', hc,ht'⟩:=hi i (by rw[hmm];simp;omega)
   rw[hce]at hc
   obtain⟨f,rfl,hfit⟩:=hel _ _ _ ht'
   obtain⟨_,hcl,hat⟩:=World.cells?_some hc
   refine⟨f,fun j u hu => ?_,hfit⟩
   have hjl:j<k:=by have:=(Array.getElem?_eq_some_iff.1 hu).1;rw[Array.length_toList]at hcl;omega
   have:=hat j hjl
   rw[← Deep.add_add,this]
   simpa using hu
  obtain⟨fs,hfl,hfq⟩:=pick _ len each
  refine⟨fs,⟨some x,cap,by rw[List.length_map,hfl],by rw[List.length_map];omega,hm,(fun h=>by cases h),fun y hy i r hr j u hu => ?_⟩,fun f hf => ?_⟩
  ·cases hy
   rw[List.getElem?_map,Option.map_eq_some_iff]at hr
   obtain⟨f,hf,rfl⟩:=hr
   exact(hfq i f hf).1 j u hu
  ·obtain⟨i,hi⟩:=List.getElem?_of_mem hf
   exact(hfq i f hi).2
section
variable {H : Type} {enc : TypeId × Value → H} {P : Program} {w : World} {base : Nat} {sp : Nat → Bool} {held : Bool} {n : Nat} {t : TypeId} {o : Nat} {cs : List Value} {y : DataW H × List MemPlace}
theorem one_int(ht:P.underlying t=some (.int .i64))(h:DataW.trod enc P w base sp held n t ((cs.drop o).take (P.cellsOf t))=some y)(hc:P.cellsOf t=1) : ∃x:Int,cs[o]? = some (.int .i64 x) ∧ -9223372036854775808≤x∧x≤9223372036854775807:=by
 rw[hc]at h
 obtain⟨x,e,_,hw⟩:=DataW.trod_int ht h
 refine⟨x, ?_,i64_bounds hw⟩
 have h2:=congrArg (fun l=>l[0]?) e
 simpa[List.getElem?_take,List.getElem?_drop] using h2
theorem one_str(ht:P.underlying t=some .string)(h:DataW.trod enc P w base sp held n t ((cs.drop o).take (P.cellsOf t))=some y)(hc:P.cellsOf t=1) : ∃x:ByteArray,cs[o]? = some (.string x)∧x.size≤9223372036854775807:=by
 rw[hc]at h
 obtain⟨x,e,_,hw⟩:=DataW.trod_string ht h
 refine⟨x, ?_,by unfold maxLen at hw;exact hw⟩
 have h2:=congrArg (fun l=>l[0]?) e
 simpa[List.getElem?_take,List.getElem?_drop] using h2
end
end
def flatR(rs:List (Array Value)):List Value:=rs.flatMap (·.toList)
def Sized(k:Nat)(rs:List (Array Value)):Prop := ∀r∈rs,r.size=k∧r.all (·.oneCell')=true
theorem Sized.nil(k:Nat):Sized k []:=fun r h=>by simp at h
theorem Sized.tail{k:Nat}{r:Array Value}{rs:List (Array Value)}(h:Sized k (r :: rs)):Sized k rs:=fun x hx=>h x (List.mem_cons_of_mem _ hx)
theorem Sized.map{α:Type}{k:Nat}{f:α→Array Value}(h : ∀a,(f a).size=k∧(f a).all (·.oneCell')=true)(l:List α):Sized k (l.map f):=fun x hx=>by
 obtain⟨a,_,rfl⟩:=List.mem_map.1 hx
 exact h a
theorem Sized.take{k:Nat}{rs:List (Array Value)}(h:Sized k rs)(n:Nat):Sized k (rs.take n):=fun x hx=>h x (List.mem_of_mem_take hx)
theorem Sized.drop{k:Nat}{rs:List (Array Value)}(h:Sized k rs)(n:Nat):Sized k (rs.drop n):=fun x hx=>h x (List.mem_of_mem_drop hx)
theorem flatR_cons(r:Array Value)(rs:List (Array Value)):flatR (r :: rs)=r.toList++flatR rs:=rfl
theorem flatR_app(a b:List (Array Value)):flatR (a++b)=flatR a++flatR b:=by simp[flatR,List.flatMap_append]
theorem flatR_len{k:Nat} : ∀ {rs:List (Array Value)},Sized k rs→(flatR rs).length=rs.length*k
 | [],_=>by simp[flatR]
 | r :: rs,h=>by
  rw[flatR_cons,List.length_append,flatR_len h.tail,Array.length_toList,(h r (by simp)).1,List.length_cons,Nat.add_mul]
  omega
theorem flatR_at{k:Nat} : ∀ {rs:List (Array Value)},Sized k rs → ∀ {i:Nat} {r:Array Value} {j:Nat} {u:Value},rs[i]? = some r→r[j]? = some u→(flatR rs)[i*k+j]? = some u
 | [],_,i,r,j,u,h,_=>by simp at h
 | q :: rs,hs,i,r,j,u,h,hj=>by
  have hq:=(hs q (by simp)).1
  cases i with
  | zero =>
   simp at h
   subst h
   have:=(Array.getElem?_eq_some_iff.1 hj).1
   rw[flatR_cons,Nat.zero_mul,Nat.zero_add,List.getElem?_append_left (by simpa using this),Array.getElem?_toList,hj]
  | succ i =>
   rw[flatR_cons,Nat.add_mul,Nat.one_mul,List.getElem?_append_right (by rw[Array.length_toList,hq];omega),Array.length_toList,hq,show i*k+k+j - k=i*k+j by omega]
   exact flatR_at hs.tail (by simpa using h) hj
theorem flatR_back{k:Nat} : ∀ {rs:List (Array Value)},Sized k rs → ∀ {m:Nat} {u:Value},(flatR rs)[m]? = some u → ∃i r j,rs[i]? = some r∧r[j]? = some u∧m=i*k+j
 | [],_,m,u,h=>by simp[flatR]at h
 | q :: rs,hs,m,u,h=>by
  have hq:=(hs q (by simp)).1
  rw[flatR_cons]at h
  rcases Nat.lt_or_ge m k with hlt | hge
  ·rw[List.getElem?_append_left (by rw[Array.length_toList,hq];exact hlt),Array.getElem?_toList]at h
   exact⟨0,q,m,rfl,h,by omega⟩
  ·rw[List.getElem?_append_right (by rw[Array.length_toList,hq];exact hge),Array.length_toList,hq]at h
   obtain⟨i,r,j,h1,h2,h3⟩:=flatR_back hs.tail h
   exact⟨i+1,r,j,by simpa using h1,h2,by rw[Nat.add_mul,Nat.one_mul];omega⟩
theorem flatR_one_cell{k:Nat}{rs:List (Array Value)}(h:Sized k rs) : ∀u∈flatR rs,u.oneCell' = true:=fun u hu=>by
 obtain⟨r,hr,hu⟩:=List.mem_flatMap.1 hu
 exact Array.all_eq_true'.1 (h r hr).2 u (by simpa using hu)
def OwnsR(w:World)(base:Nat)(E:TypeId)(k:Nat)(v:Value)(rs:List (Array Value)):Prop:=w.ownsRow base E k v rs.length (flatR rs)
theorem OwnsR.empty(w:World)(base:Nat)(E:TypeId)(k:Nat):OwnsR w base E k (.slice none 0 0) []:=World.ownsRow_nil _ _ _ _
theorem OwnsR.shape{w:World}{base:Nat}{E:TypeId}{k:Nat}{v:Value}{rs:List (Array Value)}(h:OwnsR w base E k v rs) : ∃ao cap,v = .slice ao rs.length cap:=by
 rcases h.2 with ⟨rfl,h0⟩ | ⟨g,cap,cur,rfl,_⟩
 ·exact⟨none,0,by rw[h0]⟩
 ·exact⟨_,cap,rfl⟩
theorem OwnsR.reads{w:World}{base:Nat}{E:TypeId}{k:Nat}{v:Value}{rs:List (Array Value)}(h:OwnsR w base E k v rs)(hs:Sized k rs):ReadsR w v k rs:=by
 rcases h.2 with ⟨rfl,h0⟩ | ⟨g,cap,cur,rfl,_,hg,hc,hm,_,ht⟩
 ·obtain rfl:rs = []:=List.eq_nil_of_length_eq_zero h0
  exact ReadsR.empty w k
 ·refine⟨_,cap,rfl,hc,hm,(fun h=>by cases h),fun x hx i r hr j u hu => ?_⟩
  cases hx
  have h1:=flatR_at hs hr hu
  rw[← ht,List.getElem?_take]at h1
  split at h1
  ·rw[Array.getElem?_toList]at h1
   rw[Addr.add_lit,Nat.zero_add]
   simp[World.cell?,hg,h1]
  ·cases h1
theorem OwnsR.alloc{w:World}{base:Nat}{E:TypeId}{k:Nat}{v:Value}{rs:List (Array Value)}(h:OwnsR w base E k v rs)(o:Obj):OwnsR (w.alloc o) base E k v rs:=World.ownsRow.alloc h o
theorem OwnsR.lt{w:World}{base:Nat}{E:TypeId}{k:Nat}{v:Value}{rs:List (Array Value)}(h:OwnsR w base E k v rs) : ∀j,v.ownBlock=some j→base≤j∧j<w.heap.size:=fun j e=>World.ownsRow.lt h j e
theorem OwnsR.mono{w:World}{base B:Nat}{E:TypeId}{k:Nat}{v:Value}{rs:List (Array Value)}(h:OwnsR w B E k v rs)(hb:base≤B):OwnsR w base E k v rs:=by
 refine⟨h.1, ?_⟩
 rcases h.2 with hn | ⟨g,cap,cur,rfl,hb', rest⟩
 ·exact .inl hn
 ·exact .inr ⟨g,cap,cur,rfl,Nat.le_trans hb hb', rest⟩
theorem OwnsR.keep{w w' : World}{base B:Nat}{E:TypeId}{k:Nat}{v:Value}{rs:List (Array Value)}(h:OwnsR w base E k v rs)(hb:Below B w w')(hB:w.heap.size≤B):OwnsR w' base E k v rs:=by
 refine⟨h.1, ?_⟩
 rcases h.2 with hn | ⟨g,cap,cur,rfl,hb', hgg,rest⟩
 ·exact .inl hn
 ·refine .inr ⟨g,cap,cur,rfl,hb', ?_,rest⟩
  rw[hb.block g (by have:=(Array.getElem?_eq_some_iff.1 hgg).1;omega)]
  exact hgg
theorem ReadsR.held{w:World}{ao:Option Addr}{n cap k:Nat}{rs:List (Array Value)}(h:ReadsR w (.slice ao n cap) k rs)(hs:Sized k rs) : ∀b,ao=some b → ∀j u,(flatR rs)[j]? = some u→w.cell? (b.add j)=some u:=by
 obtain⟨ao', cap', hv,_,_,_,h4⟩:=h
 simp only[Value.slice.injEq]at hv
 obtain⟨rfl,_,rfl⟩:=hv
 intro b hb j u hu
 obtain⟨i,r,q,h1,h2,rfl⟩:=flatR_back hs hu
 exact h4 b hb i r h1 q u h2
theorem ReadsR.len{w:World}{ao:Option Addr}{n cap k:Nat}{rs:List (Array Value)}(h:ReadsR w (.slice ao n cap) k rs):n=rs.length∧n≤cap∧(ao=none→cap=0)∧cap≤9223372036854775807:=by
 obtain⟨ao', cap', hv,h1,h2,h3,_⟩:=h
 simp only[Value.slice.injEq]at hv
 obtain⟨rfl,rfl,rfl⟩:=hv
 exact⟨rfl,h1,h3,by unfold maxLen at h2;exact h2⟩
theorem ReadsR.part{w:World}{ao:Option Addr}{n cap k:Nat}{rs:List (Array Value)}(h:ReadsR w (.slice ao n cap) k rs)(a b c:Nat)(hab:a≤b)(hb:b≤n)(hbc:b≤c)(hc:c≤cap) :
 ∃ao2,sliced ao a b c k = .slice ao2 (b - a) (c - a)∧ReadsR w (.slice ao2 (b - a) (c - a)) k ((rs.take b).drop a):=by
 obtain⟨ao', cap', hv,h1,h2,h3,h4⟩:=h
 simp only[Value.slice.injEq]at hv
 obtain⟨rfl,rfl,rfl⟩:=hv
 have hlen:((rs.take b).drop a).length=b - a:=by rw[List.length_drop,List.length_take];omega
 refine⟨_,rfl,_,_,by rw[hlen],by rw[hlen];omega,by omega, ?_, ?_⟩
 ·intro h0
  split at h0
  ·omega
  ·cases ao with
   | none=>have:=h3 rfl;omega
   | some x=>simp at h0
 ·intro x hx i r hr j u hu
  have hlt:=(List.getElem?_eq_some_iff.1 hr).1
  rw[hlen]at hlt
  rw[if_neg (by omega)]at hx
  cases ao with
  | none=>simp at hx
  | some y =>
   simp only[Option.map_some,Option.some.injEq]at hx
   subst hx
   rw[List.getElem?_drop,List.getElem?_take]at hr
   split at hr
   ·have:=h4 y rfl _ r hr j u hu
    rw[Deep.add_add, ← Nat.add_assoc, ← Nat.add_mul]
    exact this
   ·cases hr
theorem ReadsR.single{w:World}{g k:Nat}{E:TypeId}{r:Array Value}(h:Lies w g E r):ReadsR w (.slice (some ⟨g,0,none⟩) 1 1) k [r]:=by
 refine⟨_,1,rfl,by simp,by simp[maxLen],(fun h=>by cases h),fun a ha i q hq j u hu => ?_⟩
 cases ha
 obtain⟨hi,e⟩:=List.getElem?_eq_some_iff.1 hq
 have hi0:i=0:=by simp at hi;omega
 subst hi0
 simp at e
 subst e
 rw[Addr.add_lit,Nat.zero_mul,Nat.zero_add,Nat.zero_add]
 exact h.cell j u hu
theorem append_rows{P:Program}{w:World}{ops:Array Oper}{rest:List Oper}{o:Oper}{a:Act}{Q:Exit→Act→World→Prop}(hgd:o.guard=none)(s x:Operand)(t E:TypeId)(k bytes:Nat)(z:Value)
 (ho:o.op = .call { callee := .builtin .append,args := #[s,x],argTypes := #[t,t] }) (ht:P.underlying t=some (.slice E))
 (hi:(P.info? E).map (fun i=>(i.zero,i.size,i.bytes))=some (some z,k,bytes)) (hzk:z.cells.size=k) (hk:0<k)
 (base:Nat) (l m:List (Array Value)) (v u:Value) (hs:a.eval s=v) (hx:a.eval x=u) (hown:OwnsR w base E k v l) (hr:ReadsR w u k m) (hm:Sized k m)
 (hlen:(l.length+m.length)*bytes≤140737488355328) (hlen2:l.length+m.length≤140737488355328) (w0:World) (hb:Below base w0 w) (hbase:base≤w0.heap.size)
 (h : ∀v' w', OwnsR w' base E k v' (l++m)→Below base w0 w' → w.grownBy w' v.ownBlock→wpList P ops Q rest (a.put o.dst v') w'):wpList P ops Q (o :: rest) a w:=by
 obtain⟨i,h1,h2,h3,h4⟩:=info_parts hi
 obtain⟨ao,cap,rfl⟩ : ∃ao cap,u = .slice ao m.length cap:=by obtain⟨ao,cap,e,_⟩:=hr.shape;exact⟨ao,cap,e⟩
 have hh:=hr.held hm
 obtain⟨_,hc1,hc3,_⟩:=hr.len
 have hsz:=hb.size
 cases ao with
 | none =>
  have h0:=hc3 rfl
  have hm0:m = []:=List.eq_nil_of_length_eq_zero (by omega)
  subst hm0
  refine wpList_plain hgd fun K hK => ?_
  have hrun:=run_append_owned_none (P:=P) w base t o.type E i k ht h1 v l.length (flatR l) hown
  subst h0
  unfold Oper.wp
  simp[execOp,ho,resolve,invoke,builtin,hs,hx,hrun,Result.andThen]
  exact hK _ _ (h _ _ (by simpa using hown) hb (World.grownBy.refl _ _))
 | some ad =>
  refine wpList_append_own w hgd s x t ho base E i z k bytes ht h1 h2 h3 h4 hzk hk v l.length (flatR l) hs hown ad m.length cap (flatR m) hx (flatR_len hm) (hh ad rfl) (flatR_one_cell hm) (by unfold maxLen;omega) hlen (by omega) ?_
  intro v' w' h5 h6 _
  refine h v' w' ?_ (hb.grown h6 (by omega) fun k hk=>(World.ownsRow.lt hown k hk).1) h6
  unfold OwnsR
  rw[List.length_append,flatR_app]
  exact h5
theorem Lies.sets{g:Nat}{T:TypeId} : ∀(vs:List Value) (o:Nat) (w:World) (cur:Array Value),Lies w g T cur→o+vs.length≤cur.size →
 ∃cur', Lies (w.setCells g o vs) g T cur' ∧ cur'.size=cur.size∧(∀j,j<o→cur'[j]? = cur[j]?) ∧ ∀j u,vs[j]? = some u→cur'[o+j]? = some u
 | [],_,_,cur,h,_=>⟨cur,h,rfl,fun _ _=>rfl,fun j u hu=>by simp at hu⟩
 | v :: r,o,w,cur,h,hs=>by
  rw[List.length_cons]at hs
  obtain⟨cur', h1,h2,h3,h4⟩:=Lies.sets r (o+1) _ _ (h.set o v) (by simp;omega)
  refine⟨cur', h1,by rw[h2];simp,fun j hj => ?_,fun j u hu => ?_⟩
  ·rw[h3 j (by omega),Array.getElem?_setIfInBounds,if_neg (by omega)]
  ·cases j with
   | zero =>
    simp at hu
    subst hu
    rw[Nat.add_zero,h3 o (by omega),Array.getElem?_setIfInBounds,if_pos rfl,if_pos (by omega)]
   | succ j =>
    have:=h4 j u (by simpa using hu)
    rw[show o+(j+1)=o+1+j by omega]
    exact this
theorem grown_sets(g:Nat) : ∀(vs:List Value) (o:Nat) (w:World),w.grownBy (w.setCells g o vs) (some g)
 | [],_,_=>World.grownBy.refl _ _
 | v :: r,o,w=>grown_on (grown_set w g o v) (grown_sets g r (o+1) _)
theorem Lies.whole{w:World}{g:Nat}{T:TypeId}{cur cells:Array Value}(h:Lies w g T cur)(hs:cells.size=cur.size):Lies (w.setCells g 0 cells.toList) g T cells:=by
 obtain⟨cur', h1,h2,_,h4⟩:=Lies.sets cells.toList 0 w cur h (by simp;omega)
 have e:cur' = cells:=by
  refine Array.ext_getElem? fun j => ?_
  by_cases hj:j<cells.size
  ·have:=h4 j cells[j] (by simp[hj])
   rw[Nat.zero_add]at this
   rw[this,Array.getElem?_eq_getElem hj]
  ·rw[Array.getElem?_eq_none (by omega),Array.getElem?_eq_none (by omega)]
 rw[e]at h1
 exact h1
theorem Lies.partly{g:Nat}{T:TypeId} : ∀(cs:List Value) (o:Nat) (w:World) (vs vs' : List Value),Lies w g T vs.toArray→o+cs.length≤vs.length→vs' = vs.take o++cs++vs.drop (o+cs.length)→Lies (w.setCells g o cs) g T vs'.toArray
 | [],o,w,vs,vs', h,hb,e=>by
  subst e
  simp only[List.append_nil,List.length_nil,Nat.add_zero,List.take_append_drop]
  exact h
 | c :: r,o,w,vs,vs', h,hb,e=>by
  rw[List.length_cons]at hb
  have h' : Lies (w.setCell ⟨g,o,none⟩ c) g T (vs.set o c).toArray:=by
   have:=h.set o c
   rwa[List.setIfInBounds_toArray]at this
  refine Lies.partly r (o+1) _ (vs.set o c) vs' h' (by rw[List.length_set];omega) ?_
  subst e
  have e1:(vs.set o c).take (o+1)=vs.take o ++ [c]:=by
   rw[List.take_add_one,List.take_set_of_le (Nat.le_refl _),List.getElem?_set_self (by omega)]
   rfl
  have e2:(vs.set o c).drop (o+1+r.length)=vs.drop (o+(c :: r).length):=by
   rw[List.drop_set_of_lt (by omega),List.length_cons,show o+1+r.length=o+(r.length+1) by omega]
  rw[e1,e2]
  simp
theorem grown_cells(g:Nat) : ∀(vs:List Value) (o:Nat) (w:World),w.grownBy (w.setCells g o vs) (some g)
 | [],_,_=>World.grownBy.refl _ _
 | v :: r,o,w=>grown_on (grown_set w g o v) (grown_cells g r (o+1) _)
theorem run_storeVar_any{P:Program}(w:World)(b o:Nat)(ty:TypeId)(u:Value)(ht:w.there b o u.cells.size)(hi:(P.info? ty).map (·.size)=some u.cells.size)(h1:u.cells.all (·.oneCell')=true) :
 (storeVar ty ⟨b,o,none⟩ u).run P w = .ok () (w.setCells b o u.cells.toList):=by
 have:=run_storeCells_cells (P:=P) b o u.cells.toList 0 w (fun j hj=>by simpa using (ht j (by simpa using hj)).1) (fun j hj=>by simpa using (ht j (by simpa using hj)).2)
  (fun v hv=>(Array.all_eq_true_iff_forall_mem.1 h1) v (by simpa using hv))
 cases hq:P.info? ty with
 | none=>simp[hq]at hi
 | some i =>
  have hs:u.cells.size=i.size:=by simp[hq]at hi;omega
  simp only[Nat.add_zero]at this
  simp[storeVar,sizeOf,typeInfo,hq,hs,this]
theorem store_part{P:Program}{ops:Array Oper}{rest:List Oper}{op:Oper}{a:Act}{w:World}{Q:Exit→Act→World→Prop}(hgd:op.guard=none)(ty:TypeId)(x y:Operand)(ho:op.op = .store ty x y)
 (g o:Nat) (T:TypeId) (vs vs' : Array Value) (u:Value) (cs:List Value) (hx:a.eval x = .pointer (some ⟨g,o,none⟩)) (hy:a.eval y=u) (hcs:u.cells.toList=cs)
 (hi:(P.info? ty).map (·.size)=some cs.length) (h1:cs.all (·.oneCell')=true) (hl:Lies w g T vs) (hb:o+cs.length≤vs.size)
 (hv:vs'.toList=vs.toList.take o++cs++vs.toList.drop (o+cs.length))
 (h : ∀w', Lies w' g T vs' → w.grownBy w' (some g)→wpList P ops Q rest (a.put op.dst undef) w'):wpList P ops Q (op :: rest) a w:=by
 have hn:u.cells.size=cs.length:=by rw[← hcs,Array.length_toList]
 have hall:u.cells.all (·.oneCell')=true:=by
  rw[← Array.all_toList,hcs];exact h1
 have ht:w.there g o u.cells.size:=fun j hj=>by
  refine⟨?_,hl.free (o+j)⟩
  obtain⟨v,hv⟩ : ∃v,vs[o+j]? = some v:=⟨_,Array.getElem?_eq_getElem (by omega)⟩
  rw[hl.cell (o+j) v hv]
  rfl
 have hrun:=run_storeVar_any (P:=P) w g o ty u ht (by rw[hi,hn]) hall
 have hlies:Lies (w.setCells g o u.cells.toList) g T vs' := by
  have:=Lies.partly cs o w vs.toList vs'.toList (by simpa using hl) (by simpa using hb) hv
  rw[hcs]
  simpa using this
 refine wpList_plain hgd fun _ hK => ?_
 unfold Oper.wp execOp
 simp only[ho,hx,hy,Instr.storeAt,Instr.sureAddr,Sem.run_bind,Sem.run_pure,Result.andThen_ok,hrun]
 exact hK _ _ (h _ hlies (grown_cells g _ _ _))
theorem Reads.kept_of{w w' : World}{b:Nat}{T:TypeId}{vs:Array Value}{v:Value}{l:List UInt8}(h:Reads w v l)(hl:Lies w b T vs)(hno : ∀(j:Nat) (x:Int),vs[j]? ≠ some (.int .u8 x))(hg:w.grownBy w' (some b)):Reads w' v l:=by
 obtain⟨ao,cap,rfl,h1,h2,h3,h4⟩:=h
 refine⟨ao,cap,rfl,h1,h2,h3,fun x hx j u hu => ?_⟩
 have hc:=h4 x hx j u hu
 rw[← hc]
 refine World.cell?_of_block ?_
 have hlt:=World.block_lt_of_cell? w _ hc
 rw[add_block]at hlt ⊢
 refine hg.block _ hlt ?_
 intro hb
 obtain⟨blk,off,spot⟩:=x
 obtain rfl:blk=b:=by simpa using hb
 have hadd:(Addr.add ⟨blk,off,spot⟩ j)=⟨blk,off+j,none⟩:=by
  have h:=World.cell?_spot hc
  by_cases h0:j=0
  ·subst h0
   simpa[Addr.add] using h
  ·simp[Addr.add,h0]
 rw[hadd]at hc
 obtain⟨c,hcm,rfl⟩:=List.mem_map.1 (List.mem_of_getElem? hu)
 have hl' : w.heap[blk]? = some (.cells vs T (0,0)):=hl
 simp only[World.cell?,hl']at hc
 exact hno _ _ (by simpa using hc)
structure Behind(w:World) where
 world:World
 below:Below w.heap.size w world
instance (w : World):Inhabited (Behind w):=⟨⟨w,Below.refl _ w⟩⟩
theorem wp_region_behind{P:Program}{id:Nat}{Q:Exit→Act→World→Prop}{a:Act}{w:World}{l:List Oper}(hm:P.follows .mixedOrders=true)(hB:Region.lexB .any l.toArray=true)
 (h:wpQuiet P l.toArray (fun w' => ∃p:Behind w,w' = p.world) (fun a' => ∀w', (∃p:Behind w,w' = p.world)→Q .normal a' w') l a):(Code.region id l.toArray true).wp P Q a w :=
 wp_region_quiet (C:=fun w' => ∃p:Behind w,w' = p.world) hm hB ⟨⟨w.drewN 1,drawn w 1⟩,rfl⟩ (by simpa using h)
theorem Looks.behind{P:Program}{f:FuncId}{args:Array Value}{w:World}{p:Behind w}{v:Value}(h:Calls P f args p.world (Looks p.world v)) :
 Calls P f args p.world fun e w'' => e = .returned v ∧ ∃q:Behind w,w'' = q.world :=
 h.mono fun _ w' ⟨he,hb⟩=>⟨he,⟨w', p.below.trans (hb.mono p.below.size)⟩,rfl⟩
theorem Truly.behind{P:Program}{f:FuncId}{args:Array Value}{w:World}{p:Behind w}(h:Calls P f args p.world (Truly p.world)) :
 Calls P f args p.world fun e w'' => e = .returned (.bool true) ∧ ∃q:Behind w,w'' = q.world :=
 h.mono fun _ w' ⟨he,hb⟩=>⟨he,⟨w', p.below.trans (hb.mono p.below.size)⟩,rfl⟩
theorem Says.behind{P:Program}{f:FuncId}{args:Array Value}{w:World}{p:Behind w}{v:Value}(h:Calls P f args p.world (Says p.world v)) :
 Calls P f args p.world fun e w'' => e = .returned v ∧ ∃q:Behind w,w'' = q.world :=
 h.mono fun _ _ ⟨he,hb⟩=>⟨he,p,hb.symm⟩
end Go.Proofs.YtdkdjofnnnljjaaGreatDoor
