/- Several texts of mine in one: CmdLeaf CmdFlds CmdAll. -/
import Derived.Test.YtdkdjofnnnljjaaGreatDoorPGRd
import Derived.Test.YtdkdjofnnnljjaaGreatDoorPVers
import Derived.Deep.QuietTactic
import Derived.BigQuiet
import Derived.Test.YtdkdjofnnnljjaaGreatDoorGPl
namespace Go.Proofs.YtdkdjofnnnljjaaGreatDoor
open Go.RowKit
set_option maxHeartbeats 1600000
set_option maxRecDepth 4000
theorem isNum_yes(v:Value)(W:World):(Instr.typeAssert (.iface 216 v) 20 216 true).run Tryz.prog W = .ok (.tuple #[v, .bool true]) W:=by kernel_rfl
theorem isNum_no(v:Value)(W:World):(Instr.typeAssert (.iface 221 v) 20 216 true).run Tryz.prog W = .ok (.tuple #[.agg #[.pointer none, .int .i64 0], .bool false]) W:=by kernel_rfl
theorem isText_yes(v:Value)(W:World):(Instr.typeAssert (.iface 221 v) 20 221 true).run Tryz.prog W = .ok (.tuple #[v, .bool true]) W:=by kernel_rfl
theorem isText_no(v:Value)(W:World):(Instr.typeAssert (.iface 216 v) 20 221 true).run Tryz.prog W = .ok (.tuple #[.agg #[.pointer none, .nilFunc], .bool false]) W:=by kernel_rfl
theorem store_func(fn:Fn)(x y:Array Value)(a:Addr)(W:World)(m:Mode):(store a (.func fn x y) m).run Tryz.prog W=stored Tryz.prog W a (.func fn x y) m:=run_store Tryz.prog W a _ m rfl
theorem store_nilFunc(a:Addr)(W:World)(m:Mode):(store a .nilFunc m).run Tryz.prog W=stored Tryz.prog W a .nilFunc m:=run_store Tryz.prog W a _ m rfl
theorem lay_pair(w:World)(T:TypeId)(x y:Value)(b i:Nat)(v:Value)(hc:w.cell? ⟨b,i,none⟩=some v) :
 ∃w1,w.alloc (.cells #[x,y] T)=w1∧w1.cell? ⟨w.heap.size,0,none⟩=some x∧w1.cell? ⟨w.heap.size,1,none⟩=some y∧w1.cell? ⟨b,i,none⟩=some v∧Below w.heap.size w w1:=by
 refine⟨_,rfl,(Lies.new w T #[x,y]).cell 0 x rfl,(Lies.new w T #[x,y]).cell 1 y rfl, ?_,(Below.refl _ w).alloc (Nat.le_refl _) _⟩
 rw[← hc]
 exact World.cell?_alloc_lt w _ _ (World.block_lt_of_cell? w _ hc)
theorem lay_pair2(w:World)(A:Obj)(T:TypeId)(x y:Value)(b i:Nat)(v:Value)(hc:w.cell? ⟨b,i,none⟩=some v) :
 ∃w1,(w.alloc A).alloc (.cells #[x,y] T)=w1∧w1.cell? ⟨w.heap.size+1,0,none⟩=some x∧w1.cell? ⟨w.heap.size+1,1,none⟩=some y∧w1.cell? ⟨b,i,none⟩=some v∧Below w.heap.size w w1:=by
 have hc' : (w.alloc A).cell? ⟨b,i,none⟩=some v:=by rw[← hc];exact World.cell?_alloc_lt w _ _ (World.block_lt_of_cell? w _ hc)
 obtain⟨w1,e1,c0,c1,cb,hB⟩:=lay_pair (w.alloc A) T x y b i v hc'
 have e:(w.alloc A).heap.size=w.heap.size+1:=by simp
 rw[e]at c0 c1 hB
 exact⟨w1,e1,c0,c1,cb,((Below.refl _ w).alloc (Nat.le_refl _) A).trans (hB.mono (by omega))⟩
theorem within_num(b i:Nat)(most x:Int)(w:World)(hc:w.cell? ⟨b,i,none⟩=some (.int .i64 x)) :
 Calls Tryz.prog 195 #[.iface 216 (.agg #[.pointer (some ⟨b,i,none⟩), .int .i64 most])] w
  fun e w' => e = .returned (.bool (decide (1≤x) && decide (x≤most)))∧Below w.heap.size w w' := by
 have ha:=isNum_yes
 obtain⟨w1,e1,c0,c1,cb,hB⟩:=lay_pair w 216 (.pointer (some ⟨b,i,none⟩)) (.int .i64 most) b i _ hc
 have HB:=Lib.hid hB
 clear hB hc
 by_cases h1:1≤x
 ·have d1:decide (1≤x)=true:=decide_eq_true h1
  by_cases h2:x≤most
  ·have d2:decide (x≤most)=true:=decide_eq_true h2
   go_enter Tryz.func195,Tryz.ntmps195
   go_wp2
   go_quiet (fail)
   go_wp2
   go_ret
   exact⟨by rw[d1,d2];rfl,on HB.out (drawn _ _)⟩
  ·have d2:decide (x≤most)=false:=decide_eq_false h2
   go_enter Tryz.func195,Tryz.ntmps195
   go_wp2
   go_quiet (fail)
   go_wp2
   go_ret
   exact⟨by rw[d1,d2];rfl,on HB.out (drawn _ _)⟩
 ·have d1:decide (1≤x)=false:=decide_eq_false h1
  go_enter Tryz.func195,Tryz.ntmps195
  go_wp2
  go_quiet (fail)
  go_wp2
  go_ret
  exact⟨by rw[d1];rfl,on HB.out (drawn _ _)⟩
theorem within_text(u v:Value)(w:World) :
 Calls Tryz.prog 195 #[.iface 221 (.agg #[u,v])] w fun e w' => e = .returned (.bool true)∧Below w.heap.size w w' := by
 have ha:=isNum_no
 go_enter Tryz.func195,Tryz.ntmps195
 go_wp2
 go_quiet (fail)
 go_wp2
 go_ret
 exact⟨rfl,on ((Below.refl _ w).alloc (Nat.le_refl _) _) (drawn _ _)⟩
theorem spelt_num(u v:Value)(w:World) :
 Calls Tryz.prog 196 #[.iface 216 (.agg #[u,v])] w fun e w' => e = .returned (.bool true)∧Below w.heap.size w w' := by
 have ha:=isText_no
 have hst:=store_nilFunc
 go_enter Tryz.func196,Tryz.ntmps196
 go_wp2
 go_quiet (fail)
 go_wp2
 go_ret
 exact⟨rfl,on ((Below.refl _ w).alloc (Nat.le_refl _) _) (drawn _ _)⟩
theorem spelt_key(b i:Nat)(s:List UInt8)(w:World)(hc:w.cell? ⟨b,i,none⟩=some (.string ⟨s.toArray⟩))(hs:s.length≤140737488355328) :
 Calls Tryz.prog 196 #[.iface 221 (.agg #[.pointer (some ⟨b,i,none⟩), .func (.func 216) #[] #[]])] w
  fun e w' => e = .returned (.bool (Rn.key ⟨s.toArray⟩))∧Below w.heap.size w w' := by
 have ha:=isText_yes
 have hst:=store_func
 have hsz:(ByteArray.mk s.toArray).size≤140737488355328:=by rw[str_size];exact hs
 obtain⟨S,hS⟩ : ∃S,S=ByteArray.mk s.toArray:=⟨_,rfl⟩
 rw[← hS]at hc hsz ⊢
 clear hS
 obtain⟨w1,e1,c0,c1,cb,hB⟩:=lay_pair w 221 (.pointer (some ⟨b,i,none⟩)) (.func (.func 216) #[] #[]) b i _ hc
 have HB:=Lib.hid hB
 clear hB hc
 go_enter Tryz.func196,Tryz.ntmps196
 go_wp2
 first
  | (go_region_with (first
      | (go_at_call 216;refine(key_any _ _ hsz).mono ?_;rintro e2 w2 ⟨rfl,hb2⟩)))
  | fail
 all_goals
  go_wp2
  go_ret
  exact⟨rfl,HB.out.drew.trans (hb2.mono HB.out.drew.size)⟩
theorem spelt_val(b i:Nat)(s:List UInt8)(w:World)(hc:w.cell? ⟨b,i,none⟩=some (.string ⟨s.toArray⟩))(hs:s.length≤140737488355328) :
 Calls Tryz.prog 196 #[.iface 221 (.agg #[.pointer (some ⟨b,i,none⟩), .func (.func 217) #[] #[]])] w
  fun e w' => e = .returned (.bool (Rn.val ⟨s.toArray⟩))∧Below w.heap.size w w' := by
 have ha:=isText_yes
 have hst:=store_func
 have hsz:(ByteArray.mk s.toArray).size≤140737488355328:=by rw[str_size];exact hs
 obtain⟨S,hS⟩ : ∃S,S=ByteArray.mk s.toArray:=⟨_,rfl⟩
 rw[← hS]at hc hsz ⊢
 clear hS
 obtain⟨w1,e1,c0,c1,cb,hB⟩:=lay_pair w 221 (.pointer (some ⟨b,i,none⟩)) (.func (.func 217) #[] #[]) b i _ hc
 have HB:=Lib.hid hB
 clear hB hc
 go_enter Tryz.func196,Tryz.ntmps196
 go_wp2
 first
  | (go_region_with (first
      | (go_at_call 217;refine(val_any _ _ hsz).mono ?_;rintro e2 w2 ⟨rfl,hb2⟩)))
  | fail
 all_goals
  go_wp2
  go_ret
  exact⟨rfl,HB.out.drew.trans (hb2.mono HB.out.drew.size)⟩
def Turned(w:World)(b:Nat)(T:TypeId)(vs:Array Value)(e:Ending)(w' : World):Prop:=e = .returned (.tuple #[])∧Lies w' b T vs∧w.grownBy w' (some b)
theorem grown_of{w w' : World}(h:Below w.heap.size w w')(row:Option Nat):w.grownBy w' row:=⟨h.os,h.tape,h.output,h.size,fun k hk _=>h.block k hk⟩
theorem wipe_num(b i:Nat)(most x:Int)(T:TypeId)(vs:Array Value)(w:World)(hl:Lies w b T vs)(hv:vs[i]? = some (.int .i64 x)) :
 Calls Tryz.prog 218 #[.iface 216 (.agg #[.pointer (some ⟨b,i,none⟩), .int .i64 most])] w (Turned w b T (vs.setIfInBounds i (.int .i64 0))):=by
 have ha:=isNum_yes
 have hno:=isText_no
 have hst:=store_nilFunc
 obtain⟨w1,e1,c0,c1,cb,hB⟩:=lay_pair w 216 (.pointer (some ⟨b,i,none⟩)) (.int .i64 most) b i _ (hl.cell i _ hv)
 have hl1:=hl.below hB hl.lt
 have hf:=hl1.free i
 have hl2:=hl1.set i (.int .i64 0)
 have hg:=grown_on (grown_of hB (some b)) (grown_set w1 b i (.int .i64 0))
 obtain⟨w2,e2⟩ : ∃w2,w1.setCell ⟨b,i,none⟩ (.int .i64 0)=w2:=⟨_,rfl⟩
 rw[e2]at hl2 hg
 have HL:=Lib.hid hl2;have HG:=Lib.hid hg
 clear hl1 hl2 hg hB hl hv
 go_enter Tryz.func218,Tryz.ntmps218
 go_wp2
 go_end0
 exact⟨rfl,HL.out.alloc _,grown_on HG.out (World.grownBy_alloc _ _ _)⟩
theorem wipe_text(b i:Nat)(s:ByteArray)(fn:Nat)(T:TypeId)(vs:Array Value)(w:World)(hl:Lies w b T vs)(hv:vs[i]? = some (.string s)) :
 Calls Tryz.prog 218 #[.iface 221 (.agg #[.pointer (some ⟨b,i,none⟩), .func (.func fn) #[] #[]])] w (Turned w b T (vs.setIfInBounds i (.string ⟨#[]⟩))):=by
 have ha:=isNum_no
 have hno:=isText_yes
 have hst:=store_func
 obtain⟨w1,e1,c0,c1,cb,hB⟩:=lay_pair2 w (.cells #[.pointer none, .int .i64 0] 216) 221 (.pointer (some ⟨b,i,none⟩)) (.func (.func fn) #[] #[]) b i _ (hl.cell i _ hv)
 have hl1:=hl.below hB hl.lt
 have hf:=hl1.free i
 have hl2:=hl1.set i (.string ⟨#[]⟩)
 have hg:=grown_on (grown_of hB (some b)) (grown_set w1 b i (.string ⟨#[]⟩))
 obtain⟨w2,e2⟩ : ∃w2,w1.setCell ⟨b,i,none⟩ (.string ⟨#[]⟩)=w2:=⟨_,rfl⟩
 rw[e2]at hl2 hg
 have HL:=Lib.hid hl2;have HG:=Lib.hid hg
 clear hl1 hl2 hg hB hl hv
 go_enter Tryz.func218,Tryz.ntmps218
 go_wp2
 go_end0
 exact⟨rfl,HL.out,HG.out⟩
theorem run_number(w:World)(g:Nat)(x y:Value)(h:Lies w g 216 #[x,y]):(loadVar 216 ⟨g,0,none⟩).run Tryz.prog w = .ok (.agg #[x,y]) w :=
 run_loadVar_row w g _ _ #[x,y] (0,0) _ h Tryz.underlying216 rfl (by kernel_rfl)
theorem run_textual(w:World)(g:Nat)(x y:Value)(h:Lies w g 221 #[x,y]):(loadVar 221 ⟨g,0,none⟩).run Tryz.prog w = .ok (.agg #[x,y]) w :=
 run_loadVar_row w g _ _ #[x,y] (0,0) _ h Tryz.underlying221 rfl (by kernel_rfl)
theorem results_cells3{fn:Func}{p q r:Tmp}{ty:TypeId}(h:fn.results = #[.cell p ty, .cell q ty, .cell r ty])(tmps:Array Value)(P:Program)(w:World) :
 (results fn tmps).run P w=((asAddr (tmps.getD p undef)).run P w).andThen fun a w₁=>((loadVar ty a).run P w₁).andThen fun v w₂=>((asAddr (tmps.getD q undef)).run P w₂).andThen fun a' w₃=>((loadVar ty a').run P w₃).andThen fun v' w₄ =>
   ((asAddr (tmps.getD r undef)).run P w₄).andThen fun a'' w₅=>((loadVar ty a'').run P w₅).andThen fun v'' w₆ => .ok (.tuple #[v,v', v'']) w₆:=by
 simp only[results,h]
 simp[Sem.run_bind,Result.andThen]
theorem ret_numbers{fn:Func}{R:Ending→World→Prop}{a:Act}{w:World}{p q r:Tmp}{g g' g'' : Nat}{x y x' y' x'' y'' : Value}(h:fn.results = #[.cell p 216, .cell q 216, .cell r 216])
 (hp:a.tmps.getD p undef = .pointer (some ⟨g,0,none⟩)) (hq:a.tmps.getD q undef = .pointer (some ⟨g', 0,none⟩)) (hr:a.tmps.getD r undef = .pointer (some ⟨g'', 0,none⟩))
 (hl:Lies w g 216 #[x,y]) (hl' : Lies w g' 216 #[x', y']) (hl'' : Lies w g'' 216 #[x'', y'']) (hd:a.defers = [])
 (hR:R (.returned (.tuple #[.agg #[x,y], .agg #[x', y'], .agg #[x'', y'']])) w):bodyPost Tryz.prog fn R .ret a w:=by
 refine bodyPost_ret ?_ hd hR
 rw[results_cells3 h,hp,hq,hr]
 simp[asAddr,Result.andThen,run_number w g x y hl,run_number w g' x' y' hl', run_number w g'' x'' y'' hl'']
theorem ret_texts{fn:Func}{R:Ending→World→Prop}{a:Act}{w:World}{p q r:Tmp}{g g' g'' : Nat}{x y x' y' x'' y'' : Value}(h:fn.results = #[.cell p 221, .cell q 221, .cell r 221])
 (hp:a.tmps.getD p undef = .pointer (some ⟨g,0,none⟩)) (hq:a.tmps.getD q undef = .pointer (some ⟨g', 0,none⟩)) (hr:a.tmps.getD r undef = .pointer (some ⟨g'', 0,none⟩))
 (hl:Lies w g 221 #[x,y]) (hl' : Lies w g' 221 #[x', y']) (hl'' : Lies w g'' 221 #[x'', y'']) (hd:a.defers = [])
 (hR:R (.returned (.tuple #[.agg #[x,y], .agg #[x', y'], .agg #[x'', y'']])) w):bodyPost Tryz.prog fn R .ret a w:=by
 refine bodyPost_ret ?_ hd hR
 rw[results_cells3 h,hp,hq,hr]
 simp[asAddr,Result.andThen,run_textual w g x y hl,run_textual w g' x' y' hl', run_textual w g'' x'' y'' hl'']
theorem lay_three(w:World)(T:TypeId)(x y x' y' x'' y'' : Value) :
 ∃w3,((w.alloc (.cells #[x,y] T)).alloc (.cells #[x', y'] T)).alloc (.cells #[x'', y''] T)=w3∧Lies w3 w.heap.size T #[x,y]∧Lies w3 (w.heap.size+1) T #[x', y']∧Lies w3 (w.heap.size+1+1) T #[x'', y'']∧Below w.heap.size w w3:=by
 refine⟨_,rfl,((Lies.new w T _).alloc _).alloc _, ?_, ?_,(((Below.refl _ w).alloc (Nat.le_refl _) _).alloc (by simp) _).alloc (by simp;omega) _⟩
 ·have:=(Lies.new (w.alloc (.cells #[x,y] T)) T #[x', y']).alloc (.cells #[x'', y''] T)
  simpa using this
 ·have:=Lies.new ((w.alloc (.cells #[x,y] T)).alloc (.cells #[x', y'] T)) T #[x'', y'']
  simpa using this
theorem numbers_any(b:Nat)(w:World) :
 Calls Tryz.prog 190 #[.pointer (some ⟨b,0,none⟩)] w
  fun e w' => e = .returned (.tuple #[.agg #[.pointer (some ⟨b,1,none⟩), .int .i64 8], .agg #[.pointer (some ⟨b,2,none⟩), .int .i64 4294967296], .agg #[.pointer (some ⟨b,6,none⟩), .int .i64 9]])∧Below w.heap.size w w' := by
 obtain⟨w3,e3,h0,h1,h2,hB⟩:=lay_three w 216 (.pointer (some ⟨b,1,none⟩)) (.int .i64 8) (.pointer (some ⟨b,2,none⟩)) (.int .i64 4294967296) (.pointer (some ⟨b,6,none⟩)) (.int .i64 9)
 have HB:=Lib.hid hB
 clear hB
 go_enter Tryz.func190,Tryz.ntmps190
 go_wp2
 go_region
 go_wp2
 refine ret_numbers rfl rfl rfl rfl (h0.kept (grown_of (drawn _ _) none) (by simp)) (h1.kept (grown_of (drawn _ _) none) (by simp)) (h2.kept (grown_of (drawn _ _) none) (by simp)) rfl ?_
 exact⟨rfl,on HB.out (drawn _ _)⟩
theorem texts_any(b:Nat)(w:World) :
 Calls Tryz.prog 191 #[.pointer (some ⟨b,0,none⟩)] w
  fun e w' => e = .returned (.tuple #[.agg #[.pointer (some ⟨b,3,none⟩), .func (.func 216) #[] #[]], .agg #[.pointer (some ⟨b,5,none⟩), .func (.func 217) #[] #[]],
   .agg #[.pointer (some ⟨b,4,none⟩), .func (.func 217) #[] #[]]])∧Below w.heap.size w w' := by
 obtain⟨w3,e3,h0,h1,h2,hB⟩:=lay_three w 221 (.pointer (some ⟨b,3,none⟩)) (.func (.func 216) #[] #[]) (.pointer (some ⟨b,5,none⟩)) (.func (.func 217) #[] #[]) (.pointer (some ⟨b,4,none⟩)) (.func (.func 217) #[] #[])
 have HB:=Lib.hid hB
 have hst:=store_func
 clear hB
 go_enter Tryz.func191,Tryz.ntmps191
 go_wp2
 go_region
 go_wp2
 refine ret_texts rfl rfl rfl rfl (h0.kept (grown_of (drawn _ _) none) (by simp)) (h1.kept (grown_of (drawn _ _) none) (by simp)) (h2.kept (grown_of (drawn _ _) none) (by simp)) rfl ?_
 exact⟨rfl,on HB.out (drawn _ _)⟩
def Cm.fv(b:Nat)(f:Cm.F):Value :=
 if f.num=true then .iface 216 (.agg #[.pointer (some ⟨b,f.at,none⟩), .int .i64 f.most])
 else .iface 221 (.agg #[.pointer (some ⟨b,f.at,none⟩), .func (.func (if f = .key then 216 else 217)) #[] #[]])
def FRow(w:World)(lo:Nat)(v:Value)(b:Nat)(fs:List Cm.F):Prop :=
 (fs = []∧v = .slice none 0 0) ∨ ∃g,lo≤g∧v = .slice (some ⟨g,0,none⟩) fs.length fs.length∧Lies w g 20 (fs.map (Cm.fv b)).toArray
def Rowed(w:World)(b:Nat)(fs:List Cm.F)(e:Ending)(w' : World):Prop := ∃v,e = .returned v∧FRow w' w.heap.size v b fs∧Below w.heap.size w w'
theorem fields_any(b:Nat)(k:Int)(w:World)(hc:w.cell? ⟨b,0,none⟩=some (.int .i64 k)) :
 Calls Tryz.prog 189 #[.pointer (some ⟨b,0,none⟩)] w (Rowed w b (Cm.fields k)):=by
 have hst:=store_func
 have hbl:=World.block_lt_of_cell? w _ hc
 go_enter Tryz.func189,Tryz.ntmps189
 go_wp2_with fail
 refine(numbers_any b _).mono ?_
 rintro e w1 ⟨rfl,hB1⟩
 obtain⟨w3,e3,h0,h1,h2,hB3⟩:=lay_three w1 216 (.pointer (some ⟨b,1,none⟩)) (.int .i64 8) (.pointer (some ⟨b,2,none⟩)) (.int .i64 4294967296) (.pointer (some ⟨b,6,none⟩)) (.int .i64 9)
 have hB13:=hB1.trans (hB3.mono hB1.size)
 have H0:=Lib.hid h0;have H1:=Lib.hid h1;have H2:=Lib.hid h2;have HB13:=Lib.hid hB13
 clear h0 h1 h2 hB13 hB3
 go_wp2_with fail
 refine(texts_any b _).mono ?_
 rintro e w4 ⟨rfl,hB4⟩
 obtain⟨w5,e5,k0,k1,k2,hB5⟩:=lay_three w4 221 (.pointer (some ⟨b,3,none⟩)) (.func (.func 216) #[] #[]) (.pointer (some ⟨b,5,none⟩)) (.func (.func 217) #[] #[]) (.pointer (some ⟨b,4,none⟩)) (.func (.func 217) #[] #[])
 have hB35:=hB4.trans (hB5.mono hB4.size)
 have hB:=HB13.out.trans (hB35.mono HB13.out.size)
 have h0:=H0.out.below hB35 H0.out.lt
 have h1:=H1.out.below hB35 H1.out.lt
 have h2:=H2.out.below hB35 H2.out.lt
 have a0:=h0.cell 0 _ rfl;have a1:=h0.cell 1 _ rfl
 have a2:=h1.cell 0 _ rfl;have a3:=h1.cell 1 _ rfl
 have a4:=h2.cell 0 _ rfl;have a5:=h2.cell 1 _ rfl
 have b0:=k0.cell 0 _ rfl;have b1:=k0.cell 1 _ rfl
 have b2:=k1.cell 0 _ rfl;have b3:=k1.cell 1 _ rfl
 have b4:=k2.cell 0 _ rfl;have b5:=k2.cell 1 _ rfl
 have hk:w5.cell? ⟨b,0,none⟩=some (.int .i64 k):=by rw[← hc];exact World.cell?_of_block (hB.block b hbl)
 have HB:=Lib.hid hB
 clear h0 h1 h2 k0 k1 k2 hB35 hB4 hB5 hB1 hB hc
 have hsz:=HB.out.size
 rcases Vs.kinds k with rfl | rfl | rfl | rfl | rfl | rfl | rfl | rfl | h
 ·go_wp2
  go_ret
  exact⟨_,rfl, .inl ⟨rfl,rfl⟩,HB.out⟩
 ·go_wp2
  go_ret
  exact⟨_,rfl, .inr ⟨w5.heap.size,hsz,rfl,Lies.new _ _ _⟩,HB.out.alloc hsz _⟩
 ·go_wp2
  go_ret
  exact⟨_,rfl, .inr ⟨w5.heap.size,hsz,rfl,Lies.new _ _ _⟩,HB.out.alloc hsz _⟩
 ·go_wp2
  go_ret
  exact⟨_,rfl, .inr ⟨w5.heap.size,hsz,rfl,Lies.new _ _ _⟩,HB.out.alloc hsz _⟩
 ·go_wp2
  go_ret
  exact⟨_,rfl, .inr ⟨w5.heap.size,hsz,rfl,Lies.new _ _ _⟩,HB.out.alloc hsz _⟩
 ·go_wp2
  go_ret
  exact⟨_,rfl, .inl ⟨rfl,rfl⟩,HB.out⟩
 ·go_wp2
  go_ret
  exact⟨_,rfl, .inr ⟨w5.heap.size,hsz,rfl,Lies.new _ _ _⟩,HB.out.alloc hsz _⟩
 ·go_wp2
  go_ret
  exact⟨_,rfl, .inr ⟨w5.heap.size,hsz,rfl,Lies.new _ _ _⟩,HB.out.alloc hsz _⟩
 ·have n2:(k == 2)=false:=by simp;omega
  have n3:(k == 3)=false:=by simp;omega
  have n4:(k == 4)=false:=by simp;omega
  have n5:(k == 5)=false:=by simp;omega
  have n7:(k == 7)=false:=by simp;omega
  have n8:(k == 8)=false:=by simp;omega
  go_wp2
  go_ret
  exact⟨_,rfl, .inl ⟨Cm.fields_no (by omega) (by omega) (by omega) (by omega) (by omega) (by omega),rfl⟩,HB.out⟩
theorem encoded_any(v:Int)(b:Nat)(k:Int)(w:World)(hc:w.cell? ⟨b,0,none⟩=some (.int .i64 k)) :
 Calls Tryz.prog 161 #[.int .i64 v, .pointer (some ⟨b,0,none⟩)] w (Rowed w b (Cm.encoded v k)):=by
 have hst:=store_func
 by_cases h1:v=1
 ·subst h1
  go_enter Tryz.func161,Tryz.ntmps161
  go_wp2_with fail
  refine(numbers_any b _).mono ?_
  rintro e w1 ⟨rfl,hB1⟩
  obtain⟨w3,e3,h0,h1,h2,hB3⟩:=lay_three w1 216 (.pointer (some ⟨b,1,none⟩)) (.int .i64 8) (.pointer (some ⟨b,2,none⟩)) (.int .i64 4294967296) (.pointer (some ⟨b,6,none⟩)) (.int .i64 9)
  have hB13:=hB1.trans (hB3.mono hB1.size)
  have H0:=Lib.hid h0;have H1:=Lib.hid h1;have H2:=Lib.hid h2;have HB13:=Lib.hid hB13
  clear h0 h1 h2 hB13 hB3
  go_wp2_with fail
  refine(texts_any b _).mono ?_
  rintro e w4 ⟨rfl,hB4⟩
  obtain⟨w5,e5,k0,k1,k2,hB5⟩:=lay_three w4 221 (.pointer (some ⟨b,3,none⟩)) (.func (.func 216) #[] #[]) (.pointer (some ⟨b,5,none⟩)) (.func (.func 217) #[] #[]) (.pointer (some ⟨b,4,none⟩)) (.func (.func 217) #[] #[])
  have hB35:=hB4.trans (hB5.mono hB4.size)
  have hB:=HB13.out.trans (hB35.mono HB13.out.size)
  have h0:=H0.out.below hB35 H0.out.lt
  have h1:=H1.out.below hB35 H1.out.lt
  have h2:=H2.out.below hB35 H2.out.lt
  have a0:=h0.cell 0 _ rfl;have a1:=h0.cell 1 _ rfl
  have a2:=h1.cell 0 _ rfl;have a3:=h1.cell 1 _ rfl
  have a4:=h2.cell 0 _ rfl;have a5:=h2.cell 1 _ rfl
  have b0:=k0.cell 0 _ rfl;have b1:=k0.cell 1 _ rfl
  have b2:=k1.cell 0 _ rfl;have b3:=k1.cell 1 _ rfl
  have b4:=k2.cell 0 _ rfl;have b5:=k2.cell 1 _ rfl
  have HB:=Lib.hid hB
  clear h0 h1 h2 k0 k1 k2 hB35 hB4 hB5 hB1 hB hc
  have hsz:=HB.out.size
  go_wp2
  go_ret
  exact⟨_,rfl, .inr ⟨w5.heap.size,hsz,rfl,Lies.new _ _ _⟩,HB.out.alloc hsz _⟩
 ·have hn:(v != 1)=true:=by simpa using h1
  have he:Cm.encoded v k=Cm.fields k:=by simp[Cm.encoded,h1]
  rw[he]
  go_enter Tryz.func161,Tryz.ntmps161
  go_wp2_with fail
  refine(fields_any b k _ hc).mono ?_
  rintro e w1 ⟨u,rfl,hr,hB⟩
  go_wp2
  go_ret
  exact⟨_,rfl,hr,hB⟩
def Cm.cells(c:Cm.Cmd):Array Value := #[.int .i64 c.kind, .int .i64 c.client, .int .i64 c.seq, .string ⟨c.key.toArray⟩, .string ⟨c.val.toArray⟩, .string ⟨c.old.toArray⟩, .int .i64 c.node]
abbrev Cmds(w:World)(b:Nat)(c:Cm.Cmd):Prop:=Lies w b 40 (Cm.cells c)
theorem Cm.cells_num(c:Cm.Cmd)(f:Cm.F)(h:f.num=true):(Cm.cells c)[f.at]? = some (.int .i64 (c.n f)):=by
 cases f<;>first | rfl | cases h
theorem Cm.cells_str(c:Cm.Cmd)(f:Cm.F)(h:f.num=false):(Cm.cells c)[f.at]? = some (.string ⟨(c.s f).toArray⟩):=by
 cases f<;>first | rfl | cases h
theorem Cm.cells_setN(c:Cm.Cmd)(f:Cm.F)(n:Int)(h:f.num=true):(Cm.cells c).setIfInBounds f.at (.int .i64 n)=Cm.cells (c.setN n f):=by
 cases f<;>first | rfl | cases h
theorem Cm.cells_setS(c:Cm.Cmd)(f:Cm.F)(s:List UInt8)(h:f.num=false):(Cm.cells c).setIfInBounds f.at (.string ⟨s.toArray⟩)=Cm.cells (c.setS s f):=by
 cases f<;>first | rfl | cases h
theorem FRow.kept{w w' : World}{lo:Nat}{v:Value}{b:Nat}{fs:List Cm.F}(h:FRow w lo v b fs){row:Option Nat}(hg:w.grownBy w' row)(hne : ∀g,lo≤g→some g≠row):FRow w' lo v b fs:=by
 rcases h with ⟨rfl,rfl⟩ | ⟨g,h1,rfl,h2⟩
 ·exact .inl ⟨rfl,rfl⟩
 ·exact .inr ⟨g,h1,rfl,h2.kept hg (hne g h1)⟩
theorem FRow.below{w w' : World}{lo:Nat}{v:Value}{b:Nat}{fs:List Cm.F}(h:FRow w lo v b fs)(hb:Below w.heap.size w w'):FRow w' lo v b fs:=h.kept (grown_of hb none) (by simp)
theorem FRow.shape{w:World}{lo:Nat}{v:Value}{b:Nat}{fs:List Cm.F}(h:FRow w lo v b fs) : ∃ao,v = .slice ao fs.length fs.length:=by
 rcases h with ⟨rfl,rfl⟩ | ⟨g,h1,rfl,h2⟩
 ·exact⟨_,rfl⟩
 ·exact⟨_,rfl⟩
theorem FRow.cell{w:World}{lo:Nat}{ao:Option Addr}{n m:Nat}{b:Nat}{fs:List Cm.F}(h:FRow w lo (.slice ao n m) b fs){k:Nat}{f:Cm.F}(hk:fs[k]? = some f) :
 ∃g,ao=some ⟨g,0,none⟩∧w.cell? ⟨g,k,none⟩=some (Cm.fv b f):=by
 rcases h with ⟨rfl,_⟩ | ⟨g,h1,hv,h2⟩
 ·simp at hk
 ·cases hv
  exact⟨g,rfl,h2.cell k _ (by simp[hk])⟩
theorem fwithin_any(b:Nat)(c:Cm.Cmd)(f:Cm.F)(w:World)(hl:Cmds w b c):Calls Tryz.prog 195 #[Cm.fv b f] w (Looks w (.bool (Cm.within c f))):=by
 cases h:f.num with
 | true =>
  rw[show Cm.fv b f=_ from if_pos h,show Cm.within c f=(decide (1≤c.n f) && decide (c.n f≤f.most)) by simp[Cm.within,h]]
  exact within_num b f.at f.most (c.n f) w (hl.cell _ _ (Cm.cells_num c f h))
 | false =>
  rw[show Cm.fv b f=_ from if_neg (by simp[h]),show Cm.within c f=true by simp[Cm.within,h]]
  exact within_text _ _ w
theorem fspelt_any(b:Nat)(c:Cm.Cmd)(f:Cm.F)(w:World)(hl:Cmds w b c)(hs:c.Short 140737488355328):Calls Tryz.prog 196 #[Cm.fv b f] w (Looks w (.bool (Cm.spelt c f))):=by
 cases h:f.num with
 | true =>
  rw[show Cm.fv b f=_ from if_pos h,show Cm.spelt c f=true by simp[Cm.spelt,h]]
  exact spelt_num _ _ w
 | false =>
  rw[show Cm.fv b f=_ from if_neg (by simp[h]),show Cm.spelt c f=Cm.okS f (c.s f) by simp[Cm.spelt,h]]
  by_cases hk:f = .key
  ·subst hk
   exact spelt_key b _ (c.s .key) w (hl.cell _ _ (Cm.cells_str c _ h)) (hs.s _)
  ·rw[if_neg hk,show Cm.okS f (c.s f)=Rn.val ⟨(c.s f).toArray⟩from if_neg hk]
   exact spelt_val b _ (c.s f) w (hl.cell _ _ (Cm.cells_str c _ h)) (hs.s _)
theorem fwipe_any(b:Nat)(c:Cm.Cmd)(f:Cm.F)(w:World)(hl:Cmds w b c):Calls Tryz.prog 218 #[Cm.fv b f] w (Turned w b 40 (Cm.cells (Cm.wipe c f))):=by
 cases h:f.num with
 | true =>
  rw[show Cm.fv b f=_ from if_pos h,show Cm.wipe c f=c.setN 0 f by simp[Cm.wipe,h], ← Cm.cells_setN c f 0 h]
  exact wipe_num b _ _ _ _ _ w hl (Cm.cells_num c f h)
 | false =>
  rw[show Cm.fv b f=_ from if_neg (by simp[h]),show Cm.wipe c f=c.setS [] f by simp[Cm.wipe,h], ← Cm.cells_setS c f [] h]
  exact wipe_text b _ _ _ _ _ w hl (Cm.cells_str c f h)
theorem all_within(c:Cm.Cmd)(b lo:Nat)(fs:List Cm.F)(v:Value)(w:World)(hr:FRow w lo v b fs)(hn:fs.length≤5)(hl:Cmds w b c) :
 Calls Tryz.prog 194 #[v, .func (.func 195) #[] #[]] w (Looks w (.bool (fs.all (Cm.within c)))):=by
 obtain⟨ao,rfl⟩:=hr.shape
 obtain⟨r,hr'⟩ : ∃r,r=fs.all (Cm.within c):=⟨_,rfl⟩
 rw[← hr']
 have HRES:=Lib.hid hr'
 have HR:=Lib.hid hr
 have HL:=Lib.hid hl
 clear hr hr' hl
 go_enter Tryz.func194,Tryz.ntmps194
 go_wp2
 go_loopw [6,9] (fun _ i wr => ∃k:Nat,i = .int .i64 (k:Int)∧k≤fs.length∧Below w.heap.size w wr∧Hid ((fs.take k).all (Cm.within c)=true)) (fun _ i _=>fs.length - (intOf i).toNat)
 case atStart=>exact⟨0,rfl,by omega,Below.refl _ _,rfl⟩
 case round =>
  obtain⟨k,rfl,hk,hb,HQ⟩:=hrel
  by_cases hlt:k<fs.length
  ·have hlt' : (k:Int)<(fs.length:Int):=by omega
   obtain⟨f,hf⟩ : ∃f,fs[k]? = some f:=⟨_,List.getElem?_eq_getElem hlt⟩
   obtain⟨g,rfl,hcell⟩:=(HR.out.below hb).cell hf
   obtain⟨t,ht⟩ : ∃t,t=Cm.within c f:=⟨_,rfl⟩
   have HT:=Lib.hid ht
   have HF:=Lib.hid hf
   have HLW:=Lib.hid (HL.out.below hb HL.out.lt)
   clear ht hf
   go_wp2_with fail
   refine(fwithin_any b c f _ HLW.out).mono ?_
   rintro e w2 ⟨rfl,hb2⟩
   rw[← HT.out]
   have hb3:=on hb hb2
   cases t with
   | true =>
    go_wp2
    go_roundw
    case rel =>
     refine⟨k+1,by go_num,by omega,hb3, ?_⟩
     show _=_
     rw[List.take_add_one,HF.out,List.all_append,HQ.out,Option.toList_some,List.all_cons,List.all_nil, ← HT.out]
     rfl
    case measure=>simp[intOf];omega
   | false =>
    have HZ:Hid (r=false):=by
     show _=_
     rw[HRES.out,List.all_eq_false]
     exact⟨f,List.mem_of_getElem? HF.out,by rw[← HT.out];simp⟩
    go_wp2
    go_ret
    exact⟨by rw[HZ.out];rfl,hb3⟩
  ·have hlt' : ¬(k:Int)<(fs.length:Int):=by omega
   have HZ:Hid (r=true):=by
    show _=_
    have:=HQ.out
    rw[List.take_of_length_le (by omega)]at this
    rw[HRES.out,this]
   go_wp2
   go_ret
   exact⟨by rw[HZ.out];rfl,hb⟩
theorem all_spelt(c:Cm.Cmd)(b lo:Nat)(fs:List Cm.F)(v:Value)(w:World)(hr:FRow w lo v b fs)(hn:fs.length≤5)(hl:Cmds w b c)(hs:c.Short 140737488355328) :
 Calls Tryz.prog 194 #[v, .func (.func 196) #[] #[]] w (Looks w (.bool (fs.all (Cm.spelt c)))):=by
 obtain⟨ao,rfl⟩:=hr.shape
 obtain⟨r,hr'⟩ : ∃r,r=fs.all (Cm.spelt c):=⟨_,rfl⟩
 rw[← hr']
 have HRES:=Lib.hid hr'
 have HR:=Lib.hid hr
 have HL:=Lib.hid hl
 clear hr hr' hl
 go_enter Tryz.func194,Tryz.ntmps194
 go_wp2
 go_loopw [6,9] (fun _ i wr => ∃k:Nat,i = .int .i64 (k:Int)∧k≤fs.length∧Below w.heap.size w wr∧Hid ((fs.take k).all (Cm.spelt c)=true)) (fun _ i _=>fs.length - (intOf i).toNat)
 case atStart=>exact⟨0,rfl,by omega,Below.refl _ _,rfl⟩
 case round =>
  obtain⟨k,rfl,hk,hb,HQ⟩:=hrel
  by_cases hlt:k<fs.length
  ·have hlt' : (k:Int)<(fs.length:Int):=by omega
   obtain⟨f,hf⟩ : ∃f,fs[k]? = some f:=⟨_,List.getElem?_eq_getElem hlt⟩
   obtain⟨g,rfl,hcell⟩:=(HR.out.below hb).cell hf
   obtain⟨t,ht⟩ : ∃t,t=Cm.spelt c f:=⟨_,rfl⟩
   have HT:=Lib.hid ht
   have HF:=Lib.hid hf
   have HLW:=Lib.hid (HL.out.below hb HL.out.lt)
   clear ht hf
   go_wp2_with fail
   refine(fspelt_any b c f _ HLW.out hs).mono ?_
   rintro e w2 ⟨rfl,hb2⟩
   rw[← HT.out]
   have hb3:=on hb hb2
   cases t with
   | true =>
    go_wp2
    go_roundw
    case rel =>
     refine⟨k+1,by go_num,by omega,hb3, ?_⟩
     show _=_
     rw[List.take_add_one,HF.out,List.all_append,HQ.out,Option.toList_some,List.all_cons,List.all_nil, ← HT.out]
     rfl
    case measure=>simp[intOf];omega
   | false =>
    have HZ:Hid (r=false):=by
     show _=_
     rw[HRES.out,List.all_eq_false]
     exact⟨f,List.mem_of_getElem? HF.out,by rw[← HT.out];simp⟩
    go_wp2
    go_ret
    exact⟨by rw[HZ.out];rfl,hb3⟩
  ·have hlt' : ¬(k:Int)<(fs.length:Int):=by omega
   have HZ:Hid (r=true):=by
    show _=_
    have:=HQ.out
    rw[List.take_of_length_le (by omega)]at this
    rw[HRES.out,this]
   go_wp2
   go_ret
   exact⟨by rw[HZ.out];rfl,hb⟩
end Go.Proofs.YtdkdjofnnnljjaaGreatDoor
