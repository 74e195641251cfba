/- Which fields a command has, as a row of interface values. -/
import Derived.Test.YtdbiplicmdnblaaDoorCmdLeaf
import Derived.Test.YtdbiplicmdnblaaDoorCmdMath
namespace Go.Proofs.YtdbiplicmdnblaaDoor
open Go.RowKit

/-! Structs that lie in blocks of their own, read whole. -/
theorem run_number (w : World) (g : Nat) (x y : Value) (h : Lies w g 69 #[x, y]) : (loadVar 69 ⟨g, 0, none⟩).run Tryd.prog w = .ok (.agg #[x, y]) w :=
  run_loadVar_row w g _ _ #[x, y] (0, 0) _ h Tryd.underlying69 rfl (by kernel_rfl)
theorem run_textual (w : World) (g : Nat) (x y : Value) (h : Lies w g 74 #[x, y]) : (loadVar 74 ⟨g, 0, none⟩).run Tryd.prog w = .ok (.agg #[x, y]) w :=
  run_loadVar_row w g _ _ #[x, y] (0, 0) _ h Tryd.underlying74 rfl (by kernel_rfl)
theorem results_cells3 {fn : Func} {p q r : Tmp} {ty : TypeId} (h : fn.results = #[.cell p ty, .cell q ty, .cell r ty]) (tmps : Array Value) (P : Program) (w : World) :
    (results fn tmps).run P w = ((asAddr (tmps.getD p undef)).run P w).andThen fun a w₁ => ((loadVar ty a).run P w₁).andThen fun v w₂ => ((asAddr (tmps.getD q undef)).run P w₂).andThen fun a' w₃ => ((loadVar ty a').run P w₃).andThen fun v' w₄ =>
      ((asAddr (tmps.getD r undef)).run P w₄).andThen fun a'' w₅ => ((loadVar ty a'').run P w₅).andThen fun v'' w₆ => .ok (.tuple #[v, v', v'']) w₆ := by
  simp only [results, h]
  simp [Sem.run_bind, Result.andThen]
theorem ret_numbers {fn : Func} {R : Ending → World → Prop} {a : Act} {w : World} {p q r : Tmp} {g g' g'' : Nat} {x y x' y' x'' y'' : Value} (h : fn.results = #[.cell p 69, .cell q 69, .cell r 69])
    (hp : a.tmps.getD p undef = .pointer (some ⟨g, 0, none⟩)) (hq : a.tmps.getD q undef = .pointer (some ⟨g', 0, none⟩)) (hr : a.tmps.getD r undef = .pointer (some ⟨g'', 0, none⟩))
    (hl : Lies w g 69 #[x, y]) (hl' : Lies w g' 69 #[x', y']) (hl'' : Lies w g'' 69 #[x'', y'']) (hd : a.defers = [])
    (hR : R (.returned (.tuple #[.agg #[x, y], .agg #[x', y'], .agg #[x'', y'']])) w) : bodyPost Tryd.prog fn R .ret a w := by
  refine bodyPost_ret ?_ hd hR
  rw [results_cells3 h, hp, hq, hr]
  simp [asAddr, Result.andThen, run_number w g x y hl, run_number w g' x' y' hl', run_number w g'' x'' y'' hl'']
theorem ret_texts {fn : Func} {R : Ending → World → Prop} {a : Act} {w : World} {p q r : Tmp} {g g' g'' : Nat} {x y x' y' x'' y'' : Value} (h : fn.results = #[.cell p 74, .cell q 74, .cell r 74])
    (hp : a.tmps.getD p undef = .pointer (some ⟨g, 0, none⟩)) (hq : a.tmps.getD q undef = .pointer (some ⟨g', 0, none⟩)) (hr : a.tmps.getD r undef = .pointer (some ⟨g'', 0, none⟩))
    (hl : Lies w g 74 #[x, y]) (hl' : Lies w g' 74 #[x', y']) (hl'' : Lies w g'' 74 #[x'', y'']) (hd : a.defers = [])
    (hR : R (.returned (.tuple #[.agg #[x, y], .agg #[x', y'], .agg #[x'', y'']])) w) : bodyPost Tryd.prog fn R .ret a w := by
  refine bodyPost_ret ?_ hd hR
  rw [results_cells3 h, hp, hq, hr]
  simp [asAddr, Result.andThen, run_textual w g x y hl, run_textual w g' x' y' hl', run_textual w g'' x'' y'' hl'']

/-- Three pairs laid. -/
theorem lay_three (w : World) (T : TypeId) (x y x' y' x'' y'' : Value) :
    ∃ w3, ((w.alloc (.cells #[x, y] T)).alloc (.cells #[x', y'] T)).alloc (.cells #[x'', y''] T) = w3 ∧ Lies w3 w.heap.size T #[x, y] ∧ Lies w3 (w.heap.size + 1) T #[x', y'] ∧ Lies w3 (w.heap.size + 1 + 1) T #[x'', y''] ∧ Below w.heap.size w w3 := by
  refine ⟨_, rfl, ((Lies.new w T _).alloc _).alloc _, ?_, ?_, (((Below.refl _ w).alloc (Nat.le_refl _) _).alloc (by simp) _).alloc (by simp; omega) _⟩
  · have := (Lies.new (w.alloc (.cells #[x, y] T)) T #[x', y']).alloc (.cells #[x'', y''] T)
    simpa using this
  · have := Lies.new ((w.alloc (.cells #[x, y] T)).alloc (.cells #[x', y'] T)) T #[x'', y'']
    simpa using this

theorem numbers_any (b : Nat) (w : World) :
    Calls Tryd.prog 50 #[.pointer (some ⟨b, 0, none⟩)] w
      fun e w' => e = .returned (.tuple #[.agg #[.pointer (some ⟨b, 1, none⟩), .int .i64 8], .agg #[.pointer (some ⟨b, 2, none⟩), .int .i64 4294967296], .agg #[.pointer (some ⟨b, 6, none⟩), .int .i64 9]]) ∧ Below w.heap.size w w' := by
  obtain ⟨w3, e3, h0, h1, h2, hB⟩ := lay_three w 69 (.pointer (some ⟨b, 1, none⟩)) (.int .i64 8) (.pointer (some ⟨b, 2, none⟩)) (.int .i64 4294967296) (.pointer (some ⟨b, 6, none⟩)) (.int .i64 9)
  have HB := Lib.hid hB
  clear hB
  go_enter Tryd.func50, Tryd.ntmps50
  go_wp2
  go_region
  go_wp2
  refine ret_numbers rfl rfl rfl rfl (h0.kept (grown_of (drawn _ _) none) (by simp)) (h1.kept (grown_of (drawn _ _) none) (by simp)) (h2.kept (grown_of (drawn _ _) none) (by simp)) rfl ?_
  exact ⟨rfl, on HB.out (drawn _ _)⟩

theorem texts_any (b : Nat) (w : World) :
    Calls Tryd.prog 51 #[.pointer (some ⟨b, 0, none⟩)] w
      fun e w' => e = .returned (.tuple #[.agg #[.pointer (some ⟨b, 3, none⟩), .func (.func 53) #[] #[]], .agg #[.pointer (some ⟨b, 5, none⟩), .func (.func 54) #[] #[]],
        .agg #[.pointer (some ⟨b, 4, none⟩), .func (.func 54) #[] #[]]]) ∧ Below w.heap.size w w' := by
  obtain ⟨w3, e3, h0, h1, h2, hB⟩ := lay_three w 74 (.pointer (some ⟨b, 3, none⟩)) (.func (.func 53) #[] #[]) (.pointer (some ⟨b, 5, none⟩)) (.func (.func 54) #[] #[]) (.pointer (some ⟨b, 4, none⟩)) (.func (.func 54) #[] #[])
  have HB := Lib.hid hB
  have hst := store_func
  clear hB
  go_enter Tryd.func51, Tryd.ntmps51
  go_wp2
  go_region
  go_wp2
  refine ret_texts rfl rfl rfl rfl (h0.kept (grown_of (drawn _ _) none) (by simp)) (h1.kept (grown_of (drawn _ _) none) (by simp)) (h2.kept (grown_of (drawn _ _) none) (by simp)) rfl ?_
  exact ⟨rfl, on HB.out (drawn _ _)⟩

/-- A field's value. -/
def Cm.fv (b : Nat) (f : Cm.F) : Value :=
  if f.num = true then .iface 69 (.agg #[.pointer (some ⟨b, f.at, none⟩), .int .i64 f.most])
  else .iface 74 (.agg #[.pointer (some ⟨b, f.at, none⟩), .func (.func (if f = .key then 53 else 54)) #[] #[]])
/-- A row of fields' values, laid behind lo. -/
def FRow (w : World) (lo : Nat) (v : Value) (b : Nat) (fs : List Cm.F) : Prop :=
  (fs = [] ∧ v = .slice none 0 0) ∨ ∃ g, lo ≤ g ∧ v = .slice (some ⟨g, 0, none⟩) fs.length fs.length ∧ Lies w g 20 (fs.map (Cm.fv b)).toArray
def Rowed (w : World) (b : Nat) (fs : List Cm.F) (e : Ending) (w' : World) : Prop := ∃ v, e = .returned v ∧ FRow w' w.heap.size v b fs ∧ Below w.heap.size w w'

set_option maxHeartbeats 1600000 in
theorem fields_any (b : Nat) (k : Int) (w : World) (hc : w.cell? ⟨b, 0, none⟩ = some (.int .i64 k)) :
    Calls Tryd.prog 40 #[.pointer (some ⟨b, 0, none⟩)] w (Rowed w b (Cm.fields k)) := by
  have hst := store_func
  have hbl := World.block_lt_of_cell? w _ hc
  go_enter Tryd.func40, Tryd.ntmps40
  go_wp2_with fail
  refine (numbers_any b _).mono ?_
  rintro e w1 ⟨rfl, hB1⟩
  obtain ⟨w3, e3, h0, h1, h2, hB3⟩ := lay_three w1 69 (.pointer (some ⟨b, 1, none⟩)) (.int .i64 8) (.pointer (some ⟨b, 2, none⟩)) (.int .i64 4294967296) (.pointer (some ⟨b, 6, none⟩)) (.int .i64 9)
  have hB13 := hB1.trans (hB3.mono hB1.size)
  have H0 := Lib.hid h0; have H1 := Lib.hid h1; have H2 := Lib.hid h2; have HB13 := Lib.hid hB13
  clear h0 h1 h2 hB13 hB3
  go_wp2_with fail
  refine (texts_any b _).mono ?_
  rintro e w4 ⟨rfl, hB4⟩
  obtain ⟨w5, e5, k0, k1, k2, hB5⟩ := lay_three w4 74 (.pointer (some ⟨b, 3, none⟩)) (.func (.func 53) #[] #[]) (.pointer (some ⟨b, 5, none⟩)) (.func (.func 54) #[] #[]) (.pointer (some ⟨b, 4, none⟩)) (.func (.func 54) #[] #[])
  have hB35 := hB4.trans (hB5.mono hB4.size)
  have hB := HB13.out.trans (hB35.mono HB13.out.size)
  have h0 := H0.out.below hB35 H0.out.lt
  have h1 := H1.out.below hB35 H1.out.lt
  have h2 := H2.out.below hB35 H2.out.lt
  have a0 := h0.cell 0 _ rfl; have a1 := h0.cell 1 _ rfl
  have a2 := h1.cell 0 _ rfl; have a3 := h1.cell 1 _ rfl
  have a4 := h2.cell 0 _ rfl; have a5 := h2.cell 1 _ rfl
  have b0 := k0.cell 0 _ rfl; have b1 := k0.cell 1 _ rfl
  have b2 := k1.cell 0 _ rfl; have b3 := k1.cell 1 _ rfl
  have b4 := k2.cell 0 _ rfl; have b5 := k2.cell 1 _ rfl
  have hk : w5.cell? ⟨b, 0, none⟩ = some (.int .i64 k) := by rw [← hc]; exact World.cell?_of_block (hB.block b hbl)
  have HB := Lib.hid hB
  clear h0 h1 h2 k0 k1 k2 hB35 hB4 hB5 hB1 hB hc
  have hsz := HB.out.size
  rcases Vs.kinds k with rfl | rfl | rfl | rfl | rfl | rfl | rfl | rfl | h
  · go_wp2
    go_ret
    exact ⟨_, rfl, .inl ⟨rfl, rfl⟩, HB.out⟩
  · go_wp2
    go_ret
    exact ⟨_, rfl, .inr ⟨w5.heap.size, hsz, rfl, Lies.new _ _ _⟩, HB.out.alloc hsz _⟩
  · go_wp2
    go_ret
    exact ⟨_, rfl, .inr ⟨w5.heap.size, hsz, rfl, Lies.new _ _ _⟩, HB.out.alloc hsz _⟩
  · go_wp2
    go_ret
    exact ⟨_, rfl, .inr ⟨w5.heap.size, hsz, rfl, Lies.new _ _ _⟩, HB.out.alloc hsz _⟩
  · go_wp2
    go_ret
    exact ⟨_, rfl, .inr ⟨w5.heap.size, hsz, rfl, Lies.new _ _ _⟩, HB.out.alloc hsz _⟩
  · go_wp2
    go_ret
    exact ⟨_, rfl, .inl ⟨rfl, rfl⟩, HB.out⟩
  · go_wp2
    go_ret
    exact ⟨_, rfl, .inr ⟨w5.heap.size, hsz, rfl, Lies.new _ _ _⟩, HB.out.alloc hsz _⟩
  · go_wp2
    go_ret
    exact ⟨_, rfl, .inr ⟨w5.heap.size, hsz, rfl, Lies.new _ _ _⟩, HB.out.alloc hsz _⟩
  · have n2 : (k == 2) = false := by simp; omega
    have n3 : (k == 3) = false := by simp; omega
    have n4 : (k == 4) = false := by simp; omega
    have n5 : (k == 5) = false := by simp; omega
    have n7 : (k == 7) = false := by simp; omega
    have n8 : (k == 8) = false := by simp; omega
    go_wp2
    go_ret
    exact ⟨_, rfl, .inl ⟨Cm.fields_no (by omega) (by omega) (by omega) (by omega) (by omega) (by omega), rfl⟩, HB.out⟩

end Go.Proofs.YtdbiplicmdnblaaDoor
