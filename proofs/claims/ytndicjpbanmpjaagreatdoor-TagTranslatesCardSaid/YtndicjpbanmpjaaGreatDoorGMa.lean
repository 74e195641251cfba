/- Several texts of mine in one: MsMem MsOwn MsLeaf MsRange. -/
import Derived.Test.YtndicjpbanmpjaaGreatDoorGPl
import Derived.Test.YtndicjpbanmpjaaGreatDoorEnMem
import Derived.Test.YtndicjpbanmpjaaGreatDoorGMb
import Derived.Test.YtndicjpbanmpjaaGreatDoorGBl
import Derived.Test.YtndicjpbanmpjaaGreatDoorVers
namespace Go.Proofs.YtndicjpbanmpjaaGreatDoor
open Go.RowKit

/-- A message lies in a block: its entries at ve, its image at vi. -/
abbrev Msgs (w : World) (g : Nat) (m : Ms.Msg) (ve vi : Value) : Prop := Lies w g 27 (Ms.cells m ve vi)
theorem Msgs.ten {w : World} {g : Nat} {m : Ms.Msg} {ve vi : Value} (h : Msgs w g m ve vi) : w.cell? ⟨g, 0, none⟩ = some (.int .i64 m.kind) ∧ w.cell? ⟨g, 1, none⟩ = some (.int .i64 m.frm) ∧ w.cell? ⟨g, 2, none⟩ = some (.int .i64 m.dst) ∧ w.cell? ⟨g, 3, none⟩ = some (.int .i64 m.bal.round) ∧ w.cell? ⟨g, 4, none⟩ = some (.int .i64 m.bal.node) ∧ w.cell? ⟨g, 5, none⟩ = some (.int .i64 m.index) ∧ w.cell? ⟨g, 6, none⟩ = some (.int .i64 m.commit) ∧ w.cell? ⟨g, 7, none⟩ = some (.int .i64 m.version) ∧ w.cell? ⟨g, 8, none⟩ = some ve ∧ w.cell? ⟨g, 9, none⟩ = some vi :=
  ⟨h.cell 0 _ rfl, h.cell 1 _ rfl, h.cell 2 _ rfl, h.cell 3 _ rfl, h.cell 4 _ rfl, h.cell 5 _ rfl, h.cell 6 _ rfl, h.cell 7 _ rfl, h.cell 8 _ rfl, h.cell 9 _ rfl⟩
theorem box_msg (w : World) (m : Ms.Msg) (ve vi : Value) : ∃ w1, w.alloc (.cells (Ms.cells m ve vi) 27) = w1 ∧ Msgs w1 w.heap.size m ve vi ∧ Below w.heap.size w w1 ∧ w1.heap.size = w.heap.size + 1 :=
  ⟨_, rfl, Lies.new w _ _, (Below.refl _ w).alloc (Nat.le_refl _) _, by simp⟩
/-- Two messages boxed. -/
theorem box_msgs (w : World) (m : Ms.Msg) (ve vi : Value) (m' : Ms.Msg) (ve' vi' : Value) : ∃ w1, (w.alloc (.cells (Ms.cells m ve vi) 27)).alloc (.cells (Ms.cells m' ve' vi') 27) = w1 ∧ Msgs w1 w.heap.size m ve vi ∧ Msgs w1 (w.heap.size + 1) m' ve' vi' ∧ Below w.heap.size w w1 ∧ w1.heap.size = w.heap.size + 2 := by
  refine ⟨_, rfl, (Lies.new w _ _).alloc _, ?_, ((Below.refl _ w).alloc (Nat.le_refl _) _).alloc (by simp) _, by simp⟩
  have := Lies.new (w.alloc (.cells (Ms.cells m ve vi) 27)) 27 (Ms.cells m' ve' vi')
  simpa using this
theorem Ms.cells_one (m : Ms.Msg) {ve vi : Value} (h : ve.oneCell' = true) (h' : vi.oneCell' = true) : (Ms.cells m ve vi).all (·.oneCell') = true := by
  have hi : ∀ x : Int, (Value.int .i64 x).oneCell' = true := fun _ => rfl
  simp [Ms.cells, hi, h, h']
theorem Ms.cells_at (m : Ms.Msg) (ve vi : Value) (j : Nat) (h : j < 10) : ∃ v, (Ms.cells m ve vi)[j]? = some v := ⟨_, Array.getElem?_eq_getElem (show j < (Ms.cells m ve vi).size from h)⟩
theorem run_msg (w : World) (g : Nat) (m : Ms.Msg) (ve vi : Value) (h : Msgs w g m ve vi) : (loadVar 27 ⟨g, 0, none⟩).run Tryz.prog w = .ok (.agg (Ms.cells m ve vi)) w :=
  run_loadVar_row w g _ _ (Ms.cells m ve vi) (0, 0) _ h Tryz.underlying27 rfl (by kernel_rfl)
theorem ret_msg1 {fn : Func} {R : Ending → World → Prop} {a : Act} {w : World} {p : Tmp} {g : Nat} {m : Ms.Msg} {ve vi : Value} (h : fn.results = #[.cell p 27]) (hp : a.tmps.getD p undef = .pointer (some ⟨g, 0, none⟩))
    (hl : Msgs w g m ve vi) (hd : a.defers = []) (hR : R (.returned (.agg (Ms.cells m ve vi))) w) : bodyPost Tryz.prog fn R .ret a w := by
  refine bodyPost_ret ?_ hd hR
  rw [results_one h, hp]
  simp [asAddr, Result.andThen, run_msg w g m ve vi hl]
theorem ret_msg2 {fn : Func} {R : Ending → World → Prop} {a : Act} {w : World} {p u : Tmp} {g : Nat} {m : Ms.Msg} {ve vi : Value} (h : fn.results = #[.cell p 27, .tmp u]) (hp : a.tmps.getD p undef = .pointer (some ⟨g, 0, none⟩))
    (hl : Msgs w g m ve vi) (hd : a.defers = []) (hR : R (.returned (.tuple #[.agg (Ms.cells m ve vi), a.tmps.getD u undef])) w) : bodyPost Tryz.prog fn R .ret a w := by
  refine bodyPost_ret ?_ hd hR
  rw [results_two h, hp]
  simp [asAddr, Result.andThen, run_msg w g m ve vi hl]
set_option maxHeartbeats 1600000 in
/-- A whole message stored into a block of ten cells. -/
theorem store_msg {ops : Array Oper} {rest : List Oper} {op : Oper} {a : Act} {w : World} {Q : Exit → Act → World → Prop} (hgd : op.guard = none) (x y : Operand) (ho : op.op = .store 27 x y)
    (g : Nat) (m0 : Ms.Msg) (ve0 vi0 : Value) (m : Ms.Msg) (ve vi : Value) (hx : a.eval x = .pointer (some ⟨g, 0, none⟩)) (hy : a.eval y = .agg (Ms.cells m ve vi)) (he : ve.oneCell' = true) (hi : vi.oneCell' = true) (hl : Msgs w g m0 ve0 vi0)
    (h : ∀ w', Msgs w' g m ve vi → w.grownBy w' (some g) → wpList Tryz.prog ops Q rest (a.put op.dst undef) w') : wpList Tryz.prog ops Q (op :: rest) a w :=
  store_part hgd _ x y ho g 0 _ _ (Ms.cells m ve vi) (.agg (Ms.cells m ve vi)) (Ms.cells m ve vi).toList hx hy rfl (by kernel_rfl) (by rw [Array.all_toList]; exact Ms.cells_one m he hi) hl (Nat.le_refl 10) (by simp [Ms.cells]) h
/-! Which fields a kind has. -/
/-- The sets of fields that there are. -/
theorem Ms.sets (k : Int) : (Ms.hv k = false ∧ Ms.hb k = false ∧ Ms.hi k = false ∧ Ms.hc k = false ∧ Ms.he k = false ∧ Ms.hm k = false) ∨ (Ms.hv k = true ∧ Ms.hb k = false ∧ Ms.hi k = false ∧ Ms.hc k = false ∧ Ms.he k = false ∧ Ms.hm k = false) ∨ (Ms.hv k = false ∧ Ms.hb k = true ∧ Ms.hi k = true ∧ Ms.hc k = false ∧ Ms.he k = false ∧ Ms.hm k = false) ∨ (Ms.hv k = false ∧ Ms.hb k = true ∧ Ms.hi k = true ∧ Ms.hc k = true ∧ Ms.he k = true ∧ Ms.hm k = false) ∨ (Ms.hv k = false ∧ Ms.hb k = true ∧ Ms.hi k = false ∧ Ms.hc k = false ∧ Ms.he k = true ∧ Ms.hm k = false) ∨ (Ms.hv k = false ∧ Ms.hb k = true ∧ Ms.hi k = false ∧ Ms.hc k = false ∧ Ms.he k = false ∧ Ms.hm k = false) ∨ (Ms.hv k = false ∧ Ms.hb k = true ∧ Ms.hi k = false ∧ Ms.hc k = true ∧ Ms.he k = false ∧ Ms.hm k = false) ∨ (Ms.hv k = false ∧ Ms.hb k = false ∧ Ms.hi k = true ∧ Ms.hc k = false ∧ Ms.he k = false ∧ Ms.hm k = false) ∨ (Ms.hv k = false ∧ Ms.hb k = false ∧ Ms.hi k = false ∧ Ms.hc k = true ∧ Ms.he k = true ∧ Ms.hm k = false) ∨ (Ms.hv k = false ∧ Ms.hb k = false ∧ Ms.hi k = false ∧ Ms.hc k = false ∧ Ms.he k = false ∧ Ms.hm k = true) := by
  rcases Ms.kinds k with rfl | rfl | rfl | rfl | rfl | rfl | rfl | rfl | rfl | rfl | rfl | h
  rotate_right
  · obtain ⟨h1, h2, h3, h4, h5, h6, _⟩ := Ms.has_no h
    exact .inl ⟨h1, h2, h3, h4, h5, h6⟩
  all_goals decide +kernel
def FieldsIn (w : World) : Prop := w.var? Tryz.prog "changeover/msgone.fields" = some (Ms.tab.map fun n => Value.int .i64 n).toArray
theorem FieldsIn.below {w w' : World} (h : FieldsIn w) (hb : Below w.heap.size w w') : FieldsIn w' := var_below h hb
theorem FieldsIn.cell {w : World} (h : FieldsIn w) (i : Nat) : w.cell? ⟨0, i, none⟩ = (Ms.tab.map fun n => Value.int .i64 n).toArray[i]? := World.var?_cell (by kernel_rfl) h i
theorem field_cell (k : Int) (n : Nat) (hk : k = (n : Int)) (hn : n < 12) (w : World) (hv : FieldsIn w) : w.cell? ⟨0, n, none⟩ = some (.int .i64 (Ms.mask k)) := by
  rw [hv.cell n]
  unfold Ms.mask
  rw [if_pos (by omega), hk, Int.toNat_natCast]
  have : n = 0 ∨ n = 1 ∨ n = 2 ∨ n = 3 ∨ n = 4 ∨ n = 5 ∨ n = 6 ∨ n = 7 ∨ n = 8 ∨ n = 9 ∨ n = 10 ∨ n = 11 := by omega
  rcases this with rfl | rfl | rfl | rfl | rfl | rfl | rfl | rfl | rfl | rfl | rfl | rfl <;> rfl

set_option maxRecDepth 4000 in
set_option maxHeartbeats 800000 in
theorem fieldsOf_any (k : Int) (w : World) (hv : FieldsIn w) : Calls Tryz.prog 78 #[.int .i64 k] w (Says w (.int .i64 (Ms.mask k))) := by
  by_cases h0 : k < 0
  · have e : Hid (Ms.mask k = 0) := Ms.mask_no (by omega)
    have d0 : decide (k < 0) = true := decide_eq_true h0
    go_enter Tryz.func78, Tryz.ntmps78
    go_wp2
    go_ret
    exact ⟨by rw [e.out]; rfl, rfl⟩
  · have d0 : decide (k < 0) = false := decide_eq_false h0
    by_cases h9 : k ≥ 12
    · have e : Hid (Ms.mask k = 0) := Ms.mask_no (by omega)
      have d9 : decide (12 ≤ k) = true := decide_eq_true h9
      go_enter Tryz.func78, Tryz.ntmps78
      go_wp2
      go_ret
      exact ⟨by rw [e.out]; rfl, rfl⟩
    · have d9 : decide (12 ≤ k) = false := decide_eq_false (by omega)
      obtain ⟨n, rfl⟩ := Int.eq_ofNat_of_zero_le (show 0 ≤ k by omega)
      have hn : n < 12 := by omega
      have hc := field_cell (n : Int) n rfl hn w hv
      obtain ⟨S, hS⟩ : ∃ S, S = Ms.mask (n : Int) := ⟨_, rfl⟩
      rw [← hS] at hc ⊢
      clear hS hv
      go_enter Tryz.func78, Tryz.ntmps78
      go_wp2
      go_ret
      exact ⟨rfl, rfl⟩

/-- A bit of a kind's fields. -/
def Ms.bit (k f : Int) : Bool := bits .and .i64 (Ms.mask k) f != 0
theorem Ms.bits (k : Int) : Ms.bit k 1 = Ms.hv k ∧ Ms.bit k 2 = Ms.hb k ∧ Ms.bit k 4 = Ms.hi k ∧ Ms.bit k 8 = Ms.hc k ∧ Ms.bit k 16 = Ms.he k ∧ Ms.bit k 32 = Ms.hm k := by
  rcases Ms.kinds k with rfl | rfl | rfl | rfl | rfl | rfl | rfl | rfl | rfl | rfl | rfl | h
  rotate_right
  · obtain ⟨h1, h2, h3, h4, h5, h6, _⟩ := Ms.has_no h
    unfold Ms.bit
    rw [Ms.mask_no h, h1, h2, h3, h4, h5, h6]
    decide +kernel
  all_goals decide +kernel

set_option maxRecDepth 4000 in
set_option maxHeartbeats 800000 in
theorem hasM_any (m : Ms.Msg) (ve vi : Value) (f : Int) (b : Bool) (w : World) (hF : FieldsIn w) (hb : Ms.bit m.kind f = b) :
    Calls Tryz.prog 74 #[.agg (Ms.cells m ve vi), .int .i64 f] w (Looks w (.bool b)) := by
  obtain ⟨w1, e1, hl1, hB1, hz1⟩ := box_msg w m ve vi
  have p0 : w1.cell? ⟨w.heap.size, 0, none⟩ = some (.int .i64 m.kind) := hl1.cell 0 _ rfl
  have HB1 := Lib.hid hB1
  have HF1 := Lib.hid (hF.below hB1)
  unfold Ms.bit at hb
  obtain ⟨x, hx⟩ : ∃ x, x = bits .and .i64 (Ms.mask m.kind) f := ⟨_, rfl⟩
  rw [← hx] at hb
  have hx' := hx.symm
  clear hl1 hB1 hz1 hF hx
  go_enter Tryz.func74, Tryz.ntmps74
  go_wp2_with fail
  refine (fieldsOf_any m.kind _ HF1.out).mono ?_
  rintro e w2 ⟨rfl, rfl⟩
  go_wp2
  go_ret
  exact ⟨rfl, HB1.out⟩

end Go.Proofs.YtndicjpbanmpjaaGreatDoor


namespace Go.Proofs.YtndicjpbanmpjaaGreatDoor
open Go.RowKit

/-- A message boxed, and a block for another one. -/
theorem box_msg0 (w : World) (m : Ms.Msg) (ve vi : Value) : ∃ w1, (w.alloc (.cells (Ms.cells m ve vi) 27)).alloc (.cells #[.int .i64 0, .int .i64 0, .int .i64 0, .int .i64 0, .int .i64 0, .int .i64 0, .int .i64 0, .int .i64 0, .slice none 0 0, .slice none 0 0] 27) = w1 ∧ Msgs w1 w.heap.size m ve vi ∧ Msgs w1 (w.heap.size + 1) Ms.zero (.slice none 0 0) (.slice none 0 0) ∧ Below w.heap.size w w1 ∧ w1.heap.size = w.heap.size + 2 :=
  box_msgs w m ve vi Ms.zero (.slice none 0 0) (.slice none 0 0)

set_option maxRecDepth 4000 in
set_option maxHeartbeats 1600000 in
theorem own_000000 (m : Ms.Msg) (eo : Option Addr) (en ec : Nat) (io : Option Addr) (ik ic : Nat) (w : World) (hF : FieldsIn w) (h0 : Ms.bit m.kind 1 = false) (h1 : Ms.bit m.kind 2 = false) (h2 : Ms.bit m.kind 4 = false) (h3 : Ms.bit m.kind 8 = false) (h4 : Ms.bit m.kind 16 = false) (h5 : Ms.bit m.kind 32 = false) :
    Calls Tryz.prog 77 #[.agg (Ms.cells m (.slice eo en ec) (.slice io ik ic))] w (Looks w (.agg (Ms.cells (⟨m.kind, m.frm, m.dst, Bl.zero, 0, 0, 0, [], []⟩ : Ms.Msg) (.slice none 0 0) (.slice none 0 0)))) := by
  obtain ⟨w1, e1, hl1, hl0, hB1, hz1⟩ := box_msg0 w m (.slice eo en ec) (.slice io ik ic)
  obtain ⟨p0, p1, p2, p3, p4, p5, p6, p7, p8, p9⟩ := Msgs.ten hl1
  have HM1 := Lib.hid hl1; have HZ1 := Lib.hid hl0; have HB1 := Lib.hid hB1; have HS := Lib.hid hz1
  have HF0 := Lib.hid hF; have HF1 := Lib.hid (hF.below hB1)
  clear hl1 hl0 hB1 hz1 hF
  go_enter Tryz.func77, Tryz.ntmps77
  go_wp2_with (first
    | (refine store_msg (by rfl) _ _ (by rfl) w1.heap.size Ms.zero _ _ (⟨m.kind, m.frm, m.dst, Bl.zero, 0, 0, 0, [], []⟩ : Ms.Msg) (.slice none 0 0) (.slice none 0 0) (by rfl) (by rfl) rfl rfl (Lies.new _ _ _) ?_
       intro w2 hl2 hg2
       have hb2 := fresh_below hg2
       have HM2 := Lib.hid (HM1.out.below hb2 HM1.out.lt); have HZ2 := Lib.hid (HZ1.out.below hb2 HZ1.out.lt); have HO2 := Lib.hid hl2
       have HF2 := Lib.hid (HF1.out.below hb2); have HB2 := Lib.hid (HB1.out.trans (hb2.mono HB1.out.size))
       clear hl2 hg2 hb2 p0 p1 p2 p3 p4 p5 p6 p7 p8 p9
       obtain ⟨p0, p1, p2, p3, p4, p5, p6, p7, p8, p9⟩ := Msgs.ten HM2.out)
    | fail)
  refine (hasM_any m (.slice eo en ec) (.slice io ik ic) 1 false _ HF2.out h0).mono ?_
  rintro e3 w3 ⟨rfl, hb⟩
  have HM3 := Lib.hid (HM2.out.below hb HM2.out.lt); have HZ3 := Lib.hid (HZ2.out.below hb HZ2.out.lt); have HO3 := Lib.hid (HO2.out.below hb HO2.out.lt)
  have HF3 := Lib.hid (HF2.out.below hb); have HB3 := Lib.hid (HB2.out.trans (hb.mono HB2.out.size))
  clear hb p0 p1 p2 p3 p4 p5 p6 p7 p8 p9
  obtain ⟨p0, p1, p2, p3, p4, p5, p6, p7, p8, p9⟩ := Msgs.ten HM3.out
  go_wp2_with fail
  refine (hasM_any m (.slice eo en ec) (.slice io ik ic) 2 false _ HF3.out h1).mono ?_
  rintro e4 w4 ⟨rfl, hb⟩
  have HM4 := Lib.hid (HM3.out.below hb HM3.out.lt); have HZ4 := Lib.hid (HZ3.out.below hb HZ3.out.lt); have HO4 := Lib.hid (HO3.out.below hb HO3.out.lt)
  have HF4 := Lib.hid (HF3.out.below hb); have HB4 := Lib.hid (HB3.out.trans (hb.mono HB3.out.size))
  clear hb p0 p1 p2 p3 p4 p5 p6 p7 p8 p9
  obtain ⟨p0, p1, p2, p3, p4, p5, p6, p7, p8, p9⟩ := Msgs.ten HM4.out
  go_wp2_with fail
  refine (hasM_any m (.slice eo en ec) (.slice io ik ic) 4 false _ HF4.out h2).mono ?_
  rintro e5 w5 ⟨rfl, hb⟩
  have HM5 := Lib.hid (HM4.out.below hb HM4.out.lt); have HZ5 := Lib.hid (HZ4.out.below hb HZ4.out.lt); have HO5 := Lib.hid (HO4.out.below hb HO4.out.lt)
  have HF5 := Lib.hid (HF4.out.below hb); have HB5 := Lib.hid (HB4.out.trans (hb.mono HB4.out.size))
  clear hb p0 p1 p2 p3 p4 p5 p6 p7 p8 p9
  obtain ⟨p0, p1, p2, p3, p4, p5, p6, p7, p8, p9⟩ := Msgs.ten HM5.out
  go_wp2_with fail
  refine (hasM_any m (.slice eo en ec) (.slice io ik ic) 8 false _ HF5.out h3).mono ?_
  rintro e6 w6 ⟨rfl, hb⟩
  have HM6 := Lib.hid (HM5.out.below hb HM5.out.lt); have HZ6 := Lib.hid (HZ5.out.below hb HZ5.out.lt); have HO6 := Lib.hid (HO5.out.below hb HO5.out.lt)
  have HF6 := Lib.hid (HF5.out.below hb); have HB6 := Lib.hid (HB5.out.trans (hb.mono HB5.out.size))
  clear hb p0 p1 p2 p3 p4 p5 p6 p7 p8 p9
  obtain ⟨p0, p1, p2, p3, p4, p5, p6, p7, p8, p9⟩ := Msgs.ten HM6.out
  go_wp2_with fail
  refine (hasM_any m (.slice eo en ec) (.slice io ik ic) 16 false _ HF6.out h4).mono ?_
  rintro e7 w7 ⟨rfl, hb⟩
  have HM7 := Lib.hid (HM6.out.below hb HM6.out.lt); have HZ7 := Lib.hid (HZ6.out.below hb HZ6.out.lt); have HO7 := Lib.hid (HO6.out.below hb HO6.out.lt)
  have HF7 := Lib.hid (HF6.out.below hb); have HB7 := Lib.hid (HB6.out.trans (hb.mono HB6.out.size))
  clear hb p0 p1 p2 p3 p4 p5 p6 p7 p8 p9
  obtain ⟨p0, p1, p2, p3, p4, p5, p6, p7, p8, p9⟩ := Msgs.ten HM7.out
  go_wp2_with fail
  refine (hasM_any m (.slice eo en ec) (.slice io ik ic) 32 false _ HF7.out h5).mono ?_
  rintro e8 w8 ⟨rfl, hb⟩
  have HM8 := Lib.hid (HM7.out.below hb HM7.out.lt); have HZ8 := Lib.hid (HZ7.out.below hb HZ7.out.lt); have HO8 := Lib.hid (HO7.out.below hb HO7.out.lt)
  have HF8 := Lib.hid (HF7.out.below hb); have HB8 := Lib.hid (HB7.out.trans (hb.mono HB7.out.size))
  clear hb p0 p1 p2 p3 p4 p5 p6 p7 p8 p9
  obtain ⟨p0, p1, p2, p3, p4, p5, p6, p7, p8, p9⟩ := Msgs.ten HM8.out
  obtain ⟨q0, q1, q2, q3, q4, q5, q6, q7, q8, q9⟩ := Msgs.ten HO8.out
  go_wp2_with (first
    | (refine store_msg (by rfl) _ _ (by rfl) (w.heap.size + 1) Ms.zero _ _ (⟨m.kind, m.frm, m.dst, Bl.zero, 0, 0, 0, [], []⟩ : Ms.Msg) (.slice none 0 0) (.slice none 0 0) (by rfl) (by rfl) rfl rfl HZ8.out ?_; intro w99 hl hg)
    | fail)
  refine ret_msg1 rfl rfl hl rfl ?_
  exact ⟨rfl, HB8.out.grown hg HB8.out.size (by rintro x hx; cases hx; omega)⟩

set_option maxRecDepth 4000 in
set_option maxHeartbeats 1600000 in
theorem own_100000 (m : Ms.Msg) (eo : Option Addr) (en ec : Nat) (io : Option Addr) (ik ic : Nat) (w : World) (hF : FieldsIn w) (h0 : Ms.bit m.kind 1 = true) (h1 : Ms.bit m.kind 2 = false) (h2 : Ms.bit m.kind 4 = false) (h3 : Ms.bit m.kind 8 = false) (h4 : Ms.bit m.kind 16 = false) (h5 : Ms.bit m.kind 32 = false) :
    Calls Tryz.prog 77 #[.agg (Ms.cells m (.slice eo en ec) (.slice io ik ic))] w (Looks w (.agg (Ms.cells (⟨m.kind, m.frm, m.dst, Bl.zero, 0, 0, m.version, [], []⟩ : Ms.Msg) (.slice none 0 0) (.slice none 0 0)))) := by
  obtain ⟨w1, e1, hl1, hl0, hB1, hz1⟩ := box_msg0 w m (.slice eo en ec) (.slice io ik ic)
  obtain ⟨p0, p1, p2, p3, p4, p5, p6, p7, p8, p9⟩ := Msgs.ten hl1
  have HM1 := Lib.hid hl1; have HZ1 := Lib.hid hl0; have HB1 := Lib.hid hB1; have HS := Lib.hid hz1
  have HF0 := Lib.hid hF; have HF1 := Lib.hid (hF.below hB1)
  clear hl1 hl0 hB1 hz1 hF
  go_enter Tryz.func77, Tryz.ntmps77
  go_wp2_with (first
    | (refine store_msg (by rfl) _ _ (by rfl) w1.heap.size Ms.zero _ _ (⟨m.kind, m.frm, m.dst, Bl.zero, 0, 0, 0, [], []⟩ : Ms.Msg) (.slice none 0 0) (.slice none 0 0) (by rfl) (by rfl) rfl rfl (Lies.new _ _ _) ?_
       intro w2 hl2 hg2
       have hb2 := fresh_below hg2
       have HM2 := Lib.hid (HM1.out.below hb2 HM1.out.lt); have HZ2 := Lib.hid (HZ1.out.below hb2 HZ1.out.lt); have HO2 := Lib.hid hl2
       have HF2 := Lib.hid (HF1.out.below hb2); have HB2 := Lib.hid (HB1.out.trans (hb2.mono HB1.out.size))
       clear hl2 hg2 hb2 p0 p1 p2 p3 p4 p5 p6 p7 p8 p9
       obtain ⟨p0, p1, p2, p3, p4, p5, p6, p7, p8, p9⟩ := Msgs.ten HM2.out)
    | fail)
  refine (hasM_any m (.slice eo en ec) (.slice io ik ic) 1 true _ HF2.out h0).mono ?_
  rintro e3 w3 ⟨rfl, hb⟩
  have HM3 := Lib.hid (HM2.out.below hb HM2.out.lt); have HZ3 := Lib.hid (HZ2.out.below hb HZ2.out.lt); have HO3 := Lib.hid (HO2.out.below hb HO2.out.lt)
  have HF3 := Lib.hid (HF2.out.below hb); have HB3 := Lib.hid (HB2.out.trans (hb.mono HB2.out.size))
  clear hb p0 p1 p2 p3 p4 p5 p6 p7 p8 p9
  obtain ⟨p0, p1, p2, p3, p4, p5, p6, p7, p8, p9⟩ := Msgs.ten HM3.out
  go_wp2_with (first
    | (refine store_part (by rfl) _ _ _ (by rfl) w1.heap.size 7 _ _ (Ms.cells (⟨m.kind, m.frm, m.dst, Bl.zero, 0, 0, m.version, [], []⟩ : Ms.Msg) (.slice none 0 0) (.slice none 0 0)) (.int .i64 m.version) [.int .i64 m.version] (by rfl) (by rfl) (by rfl) (by kernel_rfl) (by rfl) HO3.out (Nat.le_of_ble_eq_true rfl) (by rfl) ?_
       intro w4 hl hg
       have HM4 := Lib.hid (HM3.out.kept hg (by have := HS.out; simp; omega)); have HZ4 := Lib.hid (HZ3.out.kept hg (by have := HS.out; simp; omega)); have HO4 := Lib.hid hl
       have hb := HB3.out.grown hg HB3.out.size (by rintro x hx; cases hx; have := HS.out; omega)
       have HF4 := Lib.hid (HF0.out.below hb); have HB4 := Lib.hid hb
       clear hl hg hb p0 p1 p2 p3 p4 p5 p6 p7 p8 p9
       obtain ⟨p0, p1, p2, p3, p4, p5, p6, p7, p8, p9⟩ := Msgs.ten HM4.out)
    | fail)
  refine (hasM_any m (.slice eo en ec) (.slice io ik ic) 2 false _ HF4.out h1).mono ?_
  rintro e5 w5 ⟨rfl, hb⟩
  have HM5 := Lib.hid (HM4.out.below hb HM4.out.lt); have HZ5 := Lib.hid (HZ4.out.below hb HZ4.out.lt); have HO5 := Lib.hid (HO4.out.below hb HO4.out.lt)
  have HF5 := Lib.hid (HF4.out.below hb); have HB5 := Lib.hid (HB4.out.trans (hb.mono HB4.out.size))
  clear hb p0 p1 p2 p3 p4 p5 p6 p7 p8 p9
  obtain ⟨p0, p1, p2, p3, p4, p5, p6, p7, p8, p9⟩ := Msgs.ten HM5.out
  go_wp2_with fail
  refine (hasM_any m (.slice eo en ec) (.slice io ik ic) 4 false _ HF5.out h2).mono ?_
  rintro e6 w6 ⟨rfl, hb⟩
  have HM6 := Lib.hid (HM5.out.below hb HM5.out.lt); have HZ6 := Lib.hid (HZ5.out.below hb HZ5.out.lt); have HO6 := Lib.hid (HO5.out.below hb HO5.out.lt)
  have HF6 := Lib.hid (HF5.out.below hb); have HB6 := Lib.hid (HB5.out.trans (hb.mono HB5.out.size))
  clear hb p0 p1 p2 p3 p4 p5 p6 p7 p8 p9
  obtain ⟨p0, p1, p2, p3, p4, p5, p6, p7, p8, p9⟩ := Msgs.ten HM6.out
  go_wp2_with fail
  refine (hasM_any m (.slice eo en ec) (.slice io ik ic) 8 false _ HF6.out h3).mono ?_
  rintro e7 w7 ⟨rfl, hb⟩
  have HM7 := Lib.hid (HM6.out.below hb HM6.out.lt); have HZ7 := Lib.hid (HZ6.out.below hb HZ6.out.lt); have HO7 := Lib.hid (HO6.out.below hb HO6.out.lt)
  have HF7 := Lib.hid (HF6.out.below hb); have HB7 := Lib.hid (HB6.out.trans (hb.mono HB6.out.size))
  clear hb p0 p1 p2 p3 p4 p5 p6 p7 p8 p9
  obtain ⟨p0, p1, p2, p3, p4, p5, p6, p7, p8, p9⟩ := Msgs.ten HM7.out
  go_wp2_with fail
  refine (hasM_any m (.slice eo en ec) (.slice io ik ic) 16 false _ HF7.out h4).mono ?_
  rintro e8 w8 ⟨rfl, hb⟩
  have HM8 := Lib.hid (HM7.out.below hb HM7.out.lt); have HZ8 := Lib.hid (HZ7.out.below hb HZ7.out.lt); have HO8 := Lib.hid (HO7.out.below hb HO7.out.lt)
  have HF8 := Lib.hid (HF7.out.below hb); have HB8 := Lib.hid (HB7.out.trans (hb.mono HB7.out.size))
  clear hb p0 p1 p2 p3 p4 p5 p6 p7 p8 p9
  obtain ⟨p0, p1, p2, p3, p4, p5, p6, p7, p8, p9⟩ := Msgs.ten HM8.out
  go_wp2_with fail
  refine (hasM_any m (.slice eo en ec) (.slice io ik ic) 32 false _ HF8.out h5).mono ?_
  rintro e9 w9 ⟨rfl, hb⟩
  have HM9 := Lib.hid (HM8.out.below hb HM8.out.lt); have HZ9 := Lib.hid (HZ8.out.below hb HZ8.out.lt); have HO9 := Lib.hid (HO8.out.below hb HO8.out.lt)
  have HF9 := Lib.hid (HF8.out.below hb); have HB9 := Lib.hid (HB8.out.trans (hb.mono HB8.out.size))
  clear hb p0 p1 p2 p3 p4 p5 p6 p7 p8 p9
  obtain ⟨p0, p1, p2, p3, p4, p5, p6, p7, p8, p9⟩ := Msgs.ten HM9.out
  obtain ⟨q0, q1, q2, q3, q4, q5, q6, q7, q8, q9⟩ := Msgs.ten HO9.out
  go_wp2_with (first
    | (refine store_msg (by rfl) _ _ (by rfl) (w.heap.size + 1) Ms.zero _ _ (⟨m.kind, m.frm, m.dst, Bl.zero, 0, 0, m.version, [], []⟩ : Ms.Msg) (.slice none 0 0) (.slice none 0 0) (by rfl) (by rfl) rfl rfl HZ9.out ?_; intro w99 hl hg)
    | fail)
  refine ret_msg1 rfl rfl hl rfl ?_
  exact ⟨rfl, HB9.out.grown hg HB9.out.size (by rintro x hx; cases hx; omega)⟩

set_option maxRecDepth 4000 in
set_option maxHeartbeats 1600000 in
theorem own_011000 (m : Ms.Msg) (eo : Option Addr) (en ec : Nat) (io : Option Addr) (ik ic : Nat) (w : World) (hF : FieldsIn w) (h0 : Ms.bit m.kind 1 = false) (h1 : Ms.bit m.kind 2 = true) (h2 : Ms.bit m.kind 4 = true) (h3 : Ms.bit m.kind 8 = false) (h4 : Ms.bit m.kind 16 = false) (h5 : Ms.bit m.kind 32 = false) :
    Calls Tryz.prog 77 #[.agg (Ms.cells m (.slice eo en ec) (.slice io ik ic))] w (Looks w (.agg (Ms.cells (⟨m.kind, m.frm, m.dst, m.bal, m.index, 0, 0, [], []⟩ : Ms.Msg) (.slice none 0 0) (.slice none 0 0)))) := by
  obtain ⟨w1, e1, hl1, hl0, hB1, hz1⟩ := box_msg0 w m (.slice eo en ec) (.slice io ik ic)
  obtain ⟨p0, p1, p2, p3, p4, p5, p6, p7, p8, p9⟩ := Msgs.ten hl1
  have HM1 := Lib.hid hl1; have HZ1 := Lib.hid hl0; have HB1 := Lib.hid hB1; have HS := Lib.hid hz1
  have HF0 := Lib.hid hF; have HF1 := Lib.hid (hF.below hB1)
  clear hl1 hl0 hB1 hz1 hF
  go_enter Tryz.func77, Tryz.ntmps77
  go_wp2_with (first
    | (refine store_msg (by rfl) _ _ (by rfl) w1.heap.size Ms.zero _ _ (⟨m.kind, m.frm, m.dst, Bl.zero, 0, 0, 0, [], []⟩ : Ms.Msg) (.slice none 0 0) (.slice none 0 0) (by rfl) (by rfl) rfl rfl (Lies.new _ _ _) ?_
       intro w2 hl2 hg2
       have hb2 := fresh_below hg2
       have HM2 := Lib.hid (HM1.out.below hb2 HM1.out.lt); have HZ2 := Lib.hid (HZ1.out.below hb2 HZ1.out.lt); have HO2 := Lib.hid hl2
       have HF2 := Lib.hid (HF1.out.below hb2); have HB2 := Lib.hid (HB1.out.trans (hb2.mono HB1.out.size))
       clear hl2 hg2 hb2 p0 p1 p2 p3 p4 p5 p6 p7 p8 p9
       obtain ⟨p0, p1, p2, p3, p4, p5, p6, p7, p8, p9⟩ := Msgs.ten HM2.out)
    | fail)
  refine (hasM_any m (.slice eo en ec) (.slice io ik ic) 1 false _ HF2.out h0).mono ?_
  rintro e3 w3 ⟨rfl, hb⟩
  have HM3 := Lib.hid (HM2.out.below hb HM2.out.lt); have HZ3 := Lib.hid (HZ2.out.below hb HZ2.out.lt); have HO3 := Lib.hid (HO2.out.below hb HO2.out.lt)
  have HF3 := Lib.hid (HF2.out.below hb); have HB3 := Lib.hid (HB2.out.trans (hb.mono HB2.out.size))
  clear hb p0 p1 p2 p3 p4 p5 p6 p7 p8 p9
  obtain ⟨p0, p1, p2, p3, p4, p5, p6, p7, p8, p9⟩ := Msgs.ten HM3.out
  go_wp2_with fail
  refine (hasM_any m (.slice eo en ec) (.slice io ik ic) 2 true _ HF3.out h1).mono ?_
  rintro e4 w4 ⟨rfl, hb⟩
  have HM4 := Lib.hid (HM3.out.below hb HM3.out.lt); have HZ4 := Lib.hid (HZ3.out.below hb HZ3.out.lt); have HO4 := Lib.hid (HO3.out.below hb HO3.out.lt)
  have HF4 := Lib.hid (HF3.out.below hb); have HB4 := Lib.hid (HB3.out.trans (hb.mono HB3.out.size))
  clear hb p0 p1 p2 p3 p4 p5 p6 p7 p8 p9
  obtain ⟨p0, p1, p2, p3, p4, p5, p6, p7, p8, p9⟩ := Msgs.ten HM4.out
  go_wp2_with (first
    | (refine store_part (by rfl) _ _ _ (by rfl) w1.heap.size 3 _ _ (Ms.cells (⟨m.kind, m.frm, m.dst, m.bal, 0, 0, 0, [], []⟩ : Ms.Msg) (.slice none 0 0) (.slice none 0 0)) (.agg (Bl.cells m.bal)) [.int .i64 m.bal.round, .int .i64 m.bal.node] (by rfl) (by rfl) (by rfl) (by kernel_rfl) (by rfl) HO4.out (Nat.le_of_ble_eq_true rfl) (by rfl) ?_
       intro w5 hl hg
       have HM5 := Lib.hid (HM4.out.kept hg (by have := HS.out; simp; omega)); have HZ5 := Lib.hid (HZ4.out.kept hg (by have := HS.out; simp; omega)); have HO5 := Lib.hid hl
       have hb := HB4.out.grown hg HB4.out.size (by rintro x hx; cases hx; have := HS.out; omega)
       have HF5 := Lib.hid (HF0.out.below hb); have HB5 := Lib.hid hb
       clear hl hg hb p0 p1 p2 p3 p4 p5 p6 p7 p8 p9
       obtain ⟨p0, p1, p2, p3, p4, p5, p6, p7, p8, p9⟩ := Msgs.ten HM5.out)
    | fail)
  refine (hasM_any m (.slice eo en ec) (.slice io ik ic) 4 true _ HF5.out h2).mono ?_
  rintro e6 w6 ⟨rfl, hb⟩
  have HM6 := Lib.hid (HM5.out.below hb HM5.out.lt); have HZ6 := Lib.hid (HZ5.out.below hb HZ5.out.lt); have HO6 := Lib.hid (HO5.out.below hb HO5.out.lt)
  have HF6 := Lib.hid (HF5.out.below hb); have HB6 := Lib.hid (HB5.out.trans (hb.mono HB5.out.size))
  clear hb p0 p1 p2 p3 p4 p5 p6 p7 p8 p9
  obtain ⟨p0, p1, p2, p3, p4, p5, p6, p7, p8, p9⟩ := Msgs.ten HM6.out
  go_wp2_with (first
    | (refine store_part (by rfl) _ _ _ (by rfl) w1.heap.size 5 _ _ (Ms.cells (⟨m.kind, m.frm, m.dst, m.bal, m.index, 0, 0, [], []⟩ : Ms.Msg) (.slice none 0 0) (.slice none 0 0)) (.int .i64 m.index) [.int .i64 m.index] (by rfl) (by rfl) (by rfl) (by kernel_rfl) (by rfl) HO6.out (Nat.le_of_ble_eq_true rfl) (by rfl) ?_
       intro w7 hl hg
       have HM7 := Lib.hid (HM6.out.kept hg (by have := HS.out; simp; omega)); have HZ7 := Lib.hid (HZ6.out.kept hg (by have := HS.out; simp; omega)); have HO7 := Lib.hid hl
       have hb := HB6.out.grown hg HB6.out.size (by rintro x hx; cases hx; have := HS.out; omega)
       have HF7 := Lib.hid (HF0.out.below hb); have HB7 := Lib.hid hb
       clear hl hg hb p0 p1 p2 p3 p4 p5 p6 p7 p8 p9
       obtain ⟨p0, p1, p2, p3, p4, p5, p6, p7, p8, p9⟩ := Msgs.ten HM7.out)
    | fail)
  refine (hasM_any m (.slice eo en ec) (.slice io ik ic) 8 false _ HF7.out h3).mono ?_
  rintro e8 w8 ⟨rfl, hb⟩
  have HM8 := Lib.hid (HM7.out.below hb HM7.out.lt); have HZ8 := Lib.hid (HZ7.out.below hb HZ7.out.lt); have HO8 := Lib.hid (HO7.out.below hb HO7.out.lt)
  have HF8 := Lib.hid (HF7.out.below hb); have HB8 := Lib.hid (HB7.out.trans (hb.mono HB7.out.size))
  clear hb p0 p1 p2 p3 p4 p5 p6 p7 p8 p9
  obtain ⟨p0, p1, p2, p3, p4, p5, p6, p7, p8, p9⟩ := Msgs.ten HM8.out
  go_wp2_with fail
  refine (hasM_any m (.slice eo en ec) (.slice io ik ic) 16 false _ HF8.out h4).mono ?_
  rintro e9 w9 ⟨rfl, hb⟩
  have HM9 := Lib.hid (HM8.out.below hb HM8.out.lt); have HZ9 := Lib.hid (HZ8.out.below hb HZ8.out.lt); have HO9 := Lib.hid (HO8.out.below hb HO8.out.lt)
  have HF9 := Lib.hid (HF8.out.below hb); have HB9 := Lib.hid (HB8.out.trans (hb.mono HB8.out.size))
  clear hb p0 p1 p2 p3 p4 p5 p6 p7 p8 p9
  obtain ⟨p0, p1, p2, p3, p4, p5, p6, p7, p8, p9⟩ := Msgs.ten HM9.out
  go_wp2_with fail
  refine (hasM_any m (.slice eo en ec) (.slice io ik ic) 32 false _ HF9.out h5).mono ?_
  rintro e10 w10 ⟨rfl, hb⟩
  have HM10 := Lib.hid (HM9.out.below hb HM9.out.lt); have HZ10 := Lib.hid (HZ9.out.below hb HZ9.out.lt); have HO10 := Lib.hid (HO9.out.below hb HO9.out.lt)
  have HF10 := Lib.hid (HF9.out.below hb); have HB10 := Lib.hid (HB9.out.trans (hb.mono HB9.out.size))
  clear hb p0 p1 p2 p3 p4 p5 p6 p7 p8 p9
  obtain ⟨p0, p1, p2, p3, p4, p5, p6, p7, p8, p9⟩ := Msgs.ten HM10.out
  obtain ⟨q0, q1, q2, q3, q4, q5, q6, q7, q8, q9⟩ := Msgs.ten HO10.out
  go_wp2_with (first
    | (refine store_msg (by rfl) _ _ (by rfl) (w.heap.size + 1) Ms.zero _ _ (⟨m.kind, m.frm, m.dst, m.bal, m.index, 0, 0, [], []⟩ : Ms.Msg) (.slice none 0 0) (.slice none 0 0) (by rfl) (by rfl) rfl rfl HZ10.out ?_; intro w99 hl hg)
    | fail)
  refine ret_msg1 rfl rfl hl rfl ?_
  exact ⟨rfl, HB10.out.grown hg HB10.out.size (by rintro x hx; cases hx; omega)⟩

set_option maxRecDepth 4000 in
set_option maxHeartbeats 1600000 in
theorem own_011110 (m : Ms.Msg) (eo : Option Addr) (en ec : Nat) (io : Option Addr) (ik ic : Nat) (w : World) (hF : FieldsIn w) (h0 : Ms.bit m.kind 1 = false) (h1 : Ms.bit m.kind 2 = true) (h2 : Ms.bit m.kind 4 = true) (h3 : Ms.bit m.kind 8 = true) (h4 : Ms.bit m.kind 16 = true) (h5 : Ms.bit m.kind 32 = false) :
    Calls Tryz.prog 77 #[.agg (Ms.cells m (.slice eo en ec) (.slice io ik ic))] w (Looks w (.agg (Ms.cells (⟨m.kind, m.frm, m.dst, m.bal, m.index, m.commit, 0, m.ents, []⟩ : Ms.Msg) (.slice eo en ec) (.slice none 0 0)))) := by
  obtain ⟨w1, e1, hl1, hl0, hB1, hz1⟩ := box_msg0 w m (.slice eo en ec) (.slice io ik ic)
  obtain ⟨p0, p1, p2, p3, p4, p5, p6, p7, p8, p9⟩ := Msgs.ten hl1
  have HM1 := Lib.hid hl1; have HZ1 := Lib.hid hl0; have HB1 := Lib.hid hB1; have HS := Lib.hid hz1
  have HF0 := Lib.hid hF; have HF1 := Lib.hid (hF.below hB1)
  clear hl1 hl0 hB1 hz1 hF
  go_enter Tryz.func77, Tryz.ntmps77
  go_wp2_with (first
    | (refine store_msg (by rfl) _ _ (by rfl) w1.heap.size Ms.zero _ _ (⟨m.kind, m.frm, m.dst, Bl.zero, 0, 0, 0, [], []⟩ : Ms.Msg) (.slice none 0 0) (.slice none 0 0) (by rfl) (by rfl) rfl rfl (Lies.new _ _ _) ?_
       intro w2 hl2 hg2
       have hb2 := fresh_below hg2
       have HM2 := Lib.hid (HM1.out.below hb2 HM1.out.lt); have HZ2 := Lib.hid (HZ1.out.below hb2 HZ1.out.lt); have HO2 := Lib.hid hl2
       have HF2 := Lib.hid (HF1.out.below hb2); have HB2 := Lib.hid (HB1.out.trans (hb2.mono HB1.out.size))
       clear hl2 hg2 hb2 p0 p1 p2 p3 p4 p5 p6 p7 p8 p9
       obtain ⟨p0, p1, p2, p3, p4, p5, p6, p7, p8, p9⟩ := Msgs.ten HM2.out)
    | fail)
  refine (hasM_any m (.slice eo en ec) (.slice io ik ic) 1 false _ HF2.out h0).mono ?_
  rintro e3 w3 ⟨rfl, hb⟩
  have HM3 := Lib.hid (HM2.out.below hb HM2.out.lt); have HZ3 := Lib.hid (HZ2.out.below hb HZ2.out.lt); have HO3 := Lib.hid (HO2.out.below hb HO2.out.lt)
  have HF3 := Lib.hid (HF2.out.below hb); have HB3 := Lib.hid (HB2.out.trans (hb.mono HB2.out.size))
  clear hb p0 p1 p2 p3 p4 p5 p6 p7 p8 p9
  obtain ⟨p0, p1, p2, p3, p4, p5, p6, p7, p8, p9⟩ := Msgs.ten HM3.out
  go_wp2_with fail
  refine (hasM_any m (.slice eo en ec) (.slice io ik ic) 2 true _ HF3.out h1).mono ?_
  rintro e4 w4 ⟨rfl, hb⟩
  have HM4 := Lib.hid (HM3.out.below hb HM3.out.lt); have HZ4 := Lib.hid (HZ3.out.below hb HZ3.out.lt); have HO4 := Lib.hid (HO3.out.below hb HO3.out.lt)
  have HF4 := Lib.hid (HF3.out.below hb); have HB4 := Lib.hid (HB3.out.trans (hb.mono HB3.out.size))
  clear hb p0 p1 p2 p3 p4 p5 p6 p7 p8 p9
  obtain ⟨p0, p1, p2, p3, p4, p5, p6, p7, p8, p9⟩ := Msgs.ten HM4.out
  go_wp2_with (first
    | (refine store_part (by rfl) _ _ _ (by rfl) w1.heap.size 3 _ _ (Ms.cells (⟨m.kind, m.frm, m.dst, m.bal, 0, 0, 0, [], []⟩ : Ms.Msg) (.slice none 0 0) (.slice none 0 0)) (.agg (Bl.cells m.bal)) [.int .i64 m.bal.round, .int .i64 m.bal.node] (by rfl) (by rfl) (by rfl) (by kernel_rfl) (by rfl) HO4.out (Nat.le_of_ble_eq_true rfl) (by rfl) ?_
       intro w5 hl hg
       have HM5 := Lib.hid (HM4.out.kept hg (by have := HS.out; simp; omega)); have HZ5 := Lib.hid (HZ4.out.kept hg (by have := HS.out; simp; omega)); have HO5 := Lib.hid hl
       have hb := HB4.out.grown hg HB4.out.size (by rintro x hx; cases hx; have := HS.out; omega)
       have HF5 := Lib.hid (HF0.out.below hb); have HB5 := Lib.hid hb
       clear hl hg hb p0 p1 p2 p3 p4 p5 p6 p7 p8 p9
       obtain ⟨p0, p1, p2, p3, p4, p5, p6, p7, p8, p9⟩ := Msgs.ten HM5.out)
    | fail)
  refine (hasM_any m (.slice eo en ec) (.slice io ik ic) 4 true _ HF5.out h2).mono ?_
  rintro e6 w6 ⟨rfl, hb⟩
  have HM6 := Lib.hid (HM5.out.below hb HM5.out.lt); have HZ6 := Lib.hid (HZ5.out.below hb HZ5.out.lt); have HO6 := Lib.hid (HO5.out.below hb HO5.out.lt)
  have HF6 := Lib.hid (HF5.out.below hb); have HB6 := Lib.hid (HB5.out.trans (hb.mono HB5.out.size))
  clear hb p0 p1 p2 p3 p4 p5 p6 p7 p8 p9
  obtain ⟨p0, p1, p2, p3, p4, p5, p6, p7, p8, p9⟩ := Msgs.ten HM6.out
  go_wp2_with (first
    | (refine store_part (by rfl) _ _ _ (by rfl) w1.heap.size 5 _ _ (Ms.cells (⟨m.kind, m.frm, m.dst, m.bal, m.index, 0, 0, [], []⟩ : Ms.Msg) (.slice none 0 0) (.slice none 0 0)) (.int .i64 m.index) [.int .i64 m.index] (by rfl) (by rfl) (by rfl) (by kernel_rfl) (by rfl) HO6.out (Nat.le_of_ble_eq_true rfl) (by rfl) ?_
       intro w7 hl hg
       have HM7 := Lib.hid (HM6.out.kept hg (by have := HS.out; simp; omega)); have HZ7 := Lib.hid (HZ6.out.kept hg (by have := HS.out; simp; omega)); have HO7 := Lib.hid hl
       have hb := HB6.out.grown hg HB6.out.size (by rintro x hx; cases hx; have := HS.out; omega)
       have HF7 := Lib.hid (HF0.out.below hb); have HB7 := Lib.hid hb
       clear hl hg hb p0 p1 p2 p3 p4 p5 p6 p7 p8 p9
       obtain ⟨p0, p1, p2, p3, p4, p5, p6, p7, p8, p9⟩ := Msgs.ten HM7.out)
    | fail)
  refine (hasM_any m (.slice eo en ec) (.slice io ik ic) 8 true _ HF7.out h3).mono ?_
  rintro e8 w8 ⟨rfl, hb⟩
  have HM8 := Lib.hid (HM7.out.below hb HM7.out.lt); have HZ8 := Lib.hid (HZ7.out.below hb HZ7.out.lt); have HO8 := Lib.hid (HO7.out.below hb HO7.out.lt)
  have HF8 := Lib.hid (HF7.out.below hb); have HB8 := Lib.hid (HB7.out.trans (hb.mono HB7.out.size))
  clear hb p0 p1 p2 p3 p4 p5 p6 p7 p8 p9
  obtain ⟨p0, p1, p2, p3, p4, p5, p6, p7, p8, p9⟩ := Msgs.ten HM8.out
  go_wp2_with (first
    | (refine store_part (by rfl) _ _ _ (by rfl) w1.heap.size 6 _ _ (Ms.cells (⟨m.kind, m.frm, m.dst, m.bal, m.index, m.commit, 0, [], []⟩ : Ms.Msg) (.slice none 0 0) (.slice none 0 0)) (.int .i64 m.commit) [.int .i64 m.commit] (by rfl) (by rfl) (by rfl) (by kernel_rfl) (by rfl) HO8.out (Nat.le_of_ble_eq_true rfl) (by rfl) ?_
       intro w9 hl hg
       have HM9 := Lib.hid (HM8.out.kept hg (by have := HS.out; simp; omega)); have HZ9 := Lib.hid (HZ8.out.kept hg (by have := HS.out; simp; omega)); have HO9 := Lib.hid hl
       have hb := HB8.out.grown hg HB8.out.size (by rintro x hx; cases hx; have := HS.out; omega)
       have HF9 := Lib.hid (HF0.out.below hb); have HB9 := Lib.hid hb
       clear hl hg hb p0 p1 p2 p3 p4 p5 p6 p7 p8 p9
       obtain ⟨p0, p1, p2, p3, p4, p5, p6, p7, p8, p9⟩ := Msgs.ten HM9.out)
    | fail)
  refine (hasM_any m (.slice eo en ec) (.slice io ik ic) 16 true _ HF9.out h4).mono ?_
  rintro e10 w10 ⟨rfl, hb⟩
  have HM10 := Lib.hid (HM9.out.below hb HM9.out.lt); have HZ10 := Lib.hid (HZ9.out.below hb HZ9.out.lt); have HO10 := Lib.hid (HO9.out.below hb HO9.out.lt)
  have HF10 := Lib.hid (HF9.out.below hb); have HB10 := Lib.hid (HB9.out.trans (hb.mono HB9.out.size))
  clear hb p0 p1 p2 p3 p4 p5 p6 p7 p8 p9
  obtain ⟨p0, p1, p2, p3, p4, p5, p6, p7, p8, p9⟩ := Msgs.ten HM10.out
  go_wp2_with (first
    | (refine store_part (by rfl) _ _ _ (by rfl) w1.heap.size 8 _ _ (Ms.cells (⟨m.kind, m.frm, m.dst, m.bal, m.index, m.commit, 0, m.ents, []⟩ : Ms.Msg) (.slice eo en ec) (.slice none 0 0)) (.slice eo en ec) [.slice eo en ec] (by rfl) (by rfl) (by rfl) (by kernel_rfl) (by rfl) HO10.out (Nat.le_of_ble_eq_true rfl) (by rfl) ?_
       intro w11 hl hg
       have HM11 := Lib.hid (HM10.out.kept hg (by have := HS.out; simp; omega)); have HZ11 := Lib.hid (HZ10.out.kept hg (by have := HS.out; simp; omega)); have HO11 := Lib.hid hl
       have hb := HB10.out.grown hg HB10.out.size (by rintro x hx; cases hx; have := HS.out; omega)
       have HF11 := Lib.hid (HF0.out.below hb); have HB11 := Lib.hid hb
       clear hl hg hb p0 p1 p2 p3 p4 p5 p6 p7 p8 p9
       obtain ⟨p0, p1, p2, p3, p4, p5, p6, p7, p8, p9⟩ := Msgs.ten HM11.out)
    | fail)
  refine (hasM_any m (.slice eo en ec) (.slice io ik ic) 32 false _ HF11.out h5).mono ?_
  rintro e12 w12 ⟨rfl, hb⟩
  have HM12 := Lib.hid (HM11.out.below hb HM11.out.lt); have HZ12 := Lib.hid (HZ11.out.below hb HZ11.out.lt); have HO12 := Lib.hid (HO11.out.below hb HO11.out.lt)
  have HF12 := Lib.hid (HF11.out.below hb); have HB12 := Lib.hid (HB11.out.trans (hb.mono HB11.out.size))
  clear hb p0 p1 p2 p3 p4 p5 p6 p7 p8 p9
  obtain ⟨p0, p1, p2, p3, p4, p5, p6, p7, p8, p9⟩ := Msgs.ten HM12.out
  obtain ⟨q0, q1, q2, q3, q4, q5, q6, q7, q8, q9⟩ := Msgs.ten HO12.out
  go_wp2_with (first
    | (refine store_msg (by rfl) _ _ (by rfl) (w.heap.size + 1) Ms.zero _ _ (⟨m.kind, m.frm, m.dst, m.bal, m.index, m.commit, 0, m.ents, []⟩ : Ms.Msg) (.slice eo en ec) (.slice none 0 0) (by rfl) (by rfl) rfl rfl HZ12.out ?_; intro w99 hl hg)
    | fail)
  refine ret_msg1 rfl rfl hl rfl ?_
  exact ⟨rfl, HB12.out.grown hg HB12.out.size (by rintro x hx; cases hx; omega)⟩

set_option maxRecDepth 4000 in
set_option maxHeartbeats 1600000 in
theorem own_010010 (m : Ms.Msg) (eo : Option Addr) (en ec : Nat) (io : Option Addr) (ik ic : Nat) (w : World) (hF : FieldsIn w) (h0 : Ms.bit m.kind 1 = false) (h1 : Ms.bit m.kind 2 = true) (h2 : Ms.bit m.kind 4 = false) (h3 : Ms.bit m.kind 8 = false) (h4 : Ms.bit m.kind 16 = true) (h5 : Ms.bit m.kind 32 = false) :
    Calls Tryz.prog 77 #[.agg (Ms.cells m (.slice eo en ec) (.slice io ik ic))] w (Looks w (.agg (Ms.cells (⟨m.kind, m.frm, m.dst, m.bal, 0, 0, 0, m.ents, []⟩ : Ms.Msg) (.slice eo en ec) (.slice none 0 0)))) := by
  obtain ⟨w1, e1, hl1, hl0, hB1, hz1⟩ := box_msg0 w m (.slice eo en ec) (.slice io ik ic)
  obtain ⟨p0, p1, p2, p3, p4, p5, p6, p7, p8, p9⟩ := Msgs.ten hl1
  have HM1 := Lib.hid hl1; have HZ1 := Lib.hid hl0; have HB1 := Lib.hid hB1; have HS := Lib.hid hz1
  have HF0 := Lib.hid hF; have HF1 := Lib.hid (hF.below hB1)
  clear hl1 hl0 hB1 hz1 hF
  go_enter Tryz.func77, Tryz.ntmps77
  go_wp2_with (first
    | (refine store_msg (by rfl) _ _ (by rfl) w1.heap.size Ms.zero _ _ (⟨m.kind, m.frm, m.dst, Bl.zero, 0, 0, 0, [], []⟩ : Ms.Msg) (.slice none 0 0) (.slice none 0 0) (by rfl) (by rfl) rfl rfl (Lies.new _ _ _) ?_
       intro w2 hl2 hg2
       have hb2 := fresh_below hg2
       have HM2 := Lib.hid (HM1.out.below hb2 HM1.out.lt); have HZ2 := Lib.hid (HZ1.out.below hb2 HZ1.out.lt); have HO2 := Lib.hid hl2
       have HF2 := Lib.hid (HF1.out.below hb2); have HB2 := Lib.hid (HB1.out.trans (hb2.mono HB1.out.size))
       clear hl2 hg2 hb2 p0 p1 p2 p3 p4 p5 p6 p7 p8 p9
       obtain ⟨p0, p1, p2, p3, p4, p5, p6, p7, p8, p9⟩ := Msgs.ten HM2.out)
    | fail)
  refine (hasM_any m (.slice eo en ec) (.slice io ik ic) 1 false _ HF2.out h0).mono ?_
  rintro e3 w3 ⟨rfl, hb⟩
  have HM3 := Lib.hid (HM2.out.below hb HM2.out.lt); have HZ3 := Lib.hid (HZ2.out.below hb HZ2.out.lt); have HO3 := Lib.hid (HO2.out.below hb HO2.out.lt)
  have HF3 := Lib.hid (HF2.out.below hb); have HB3 := Lib.hid (HB2.out.trans (hb.mono HB2.out.size))
  clear hb p0 p1 p2 p3 p4 p5 p6 p7 p8 p9
  obtain ⟨p0, p1, p2, p3, p4, p5, p6, p7, p8, p9⟩ := Msgs.ten HM3.out
  go_wp2_with fail
  refine (hasM_any m (.slice eo en ec) (.slice io ik ic) 2 true _ HF3.out h1).mono ?_
  rintro e4 w4 ⟨rfl, hb⟩
  have HM4 := Lib.hid (HM3.out.below hb HM3.out.lt); have HZ4 := Lib.hid (HZ3.out.below hb HZ3.out.lt); have HO4 := Lib.hid (HO3.out.below hb HO3.out.lt)
  have HF4 := Lib.hid (HF3.out.below hb); have HB4 := Lib.hid (HB3.out.trans (hb.mono HB3.out.size))
  clear hb p0 p1 p2 p3 p4 p5 p6 p7 p8 p9
  obtain ⟨p0, p1, p2, p3, p4, p5, p6, p7, p8, p9⟩ := Msgs.ten HM4.out
  go_wp2_with (first
    | (refine store_part (by rfl) _ _ _ (by rfl) w1.heap.size 3 _ _ (Ms.cells (⟨m.kind, m.frm, m.dst, m.bal, 0, 0, 0, [], []⟩ : Ms.Msg) (.slice none 0 0) (.slice none 0 0)) (.agg (Bl.cells m.bal)) [.int .i64 m.bal.round, .int .i64 m.bal.node] (by rfl) (by rfl) (by rfl) (by kernel_rfl) (by rfl) HO4.out (Nat.le_of_ble_eq_true rfl) (by rfl) ?_
       intro w5 hl hg
       have HM5 := Lib.hid (HM4.out.kept hg (by have := HS.out; simp; omega)); have HZ5 := Lib.hid (HZ4.out.kept hg (by have := HS.out; simp; omega)); have HO5 := Lib.hid hl
       have hb := HB4.out.grown hg HB4.out.size (by rintro x hx; cases hx; have := HS.out; omega)
       have HF5 := Lib.hid (HF0.out.below hb); have HB5 := Lib.hid hb
       clear hl hg hb p0 p1 p2 p3 p4 p5 p6 p7 p8 p9
       obtain ⟨p0, p1, p2, p3, p4, p5, p6, p7, p8, p9⟩ := Msgs.ten HM5.out)
    | fail)
  refine (hasM_any m (.slice eo en ec) (.slice io ik ic) 4 false _ HF5.out h2).mono ?_
  rintro e6 w6 ⟨rfl, hb⟩
  have HM6 := Lib.hid (HM5.out.below hb HM5.out.lt); have HZ6 := Lib.hid (HZ5.out.below hb HZ5.out.lt); have HO6 := Lib.hid (HO5.out.below hb HO5.out.lt)
  have HF6 := Lib.hid (HF5.out.below hb); have HB6 := Lib.hid (HB5.out.trans (hb.mono HB5.out.size))
  clear hb p0 p1 p2 p3 p4 p5 p6 p7 p8 p9
  obtain ⟨p0, p1, p2, p3, p4, p5, p6, p7, p8, p9⟩ := Msgs.ten HM6.out
  go_wp2_with fail
  refine (hasM_any m (.slice eo en ec) (.slice io ik ic) 8 false _ HF6.out h3).mono ?_
  rintro e7 w7 ⟨rfl, hb⟩
  have HM7 := Lib.hid (HM6.out.below hb HM6.out.lt); have HZ7 := Lib.hid (HZ6.out.below hb HZ6.out.lt); have HO7 := Lib.hid (HO6.out.below hb HO6.out.lt)
  have HF7 := Lib.hid (HF6.out.below hb); have HB7 := Lib.hid (HB6.out.trans (hb.mono HB6.out.size))
  clear hb p0 p1 p2 p3 p4 p5 p6 p7 p8 p9
  obtain ⟨p0, p1, p2, p3, p4, p5, p6, p7, p8, p9⟩ := Msgs.ten HM7.out
  go_wp2_with fail
  refine (hasM_any m (.slice eo en ec) (.slice io ik ic) 16 true _ HF7.out h4).mono ?_
  rintro e8 w8 ⟨rfl, hb⟩
  have HM8 := Lib.hid (HM7.out.below hb HM7.out.lt); have HZ8 := Lib.hid (HZ7.out.below hb HZ7.out.lt); have HO8 := Lib.hid (HO7.out.below hb HO7.out.lt)
  have HF8 := Lib.hid (HF7.out.below hb); have HB8 := Lib.hid (HB7.out.trans (hb.mono HB7.out.size))
  clear hb p0 p1 p2 p3 p4 p5 p6 p7 p8 p9
  obtain ⟨p0, p1, p2, p3, p4, p5, p6, p7, p8, p9⟩ := Msgs.ten HM8.out
  go_wp2_with (first
    | (refine store_part (by rfl) _ _ _ (by rfl) w1.heap.size 8 _ _ (Ms.cells (⟨m.kind, m.frm, m.dst, m.bal, 0, 0, 0, m.ents, []⟩ : Ms.Msg) (.slice eo en ec) (.slice none 0 0)) (.slice eo en ec) [.slice eo en ec] (by rfl) (by rfl) (by rfl) (by kernel_rfl) (by rfl) HO8.out (Nat.le_of_ble_eq_true rfl) (by rfl) ?_
       intro w9 hl hg
       have HM9 := Lib.hid (HM8.out.kept hg (by have := HS.out; simp; omega)); have HZ9 := Lib.hid (HZ8.out.kept hg (by have := HS.out; simp; omega)); have HO9 := Lib.hid hl
       have hb := HB8.out.grown hg HB8.out.size (by rintro x hx; cases hx; have := HS.out; omega)
       have HF9 := Lib.hid (HF0.out.below hb); have HB9 := Lib.hid hb
       clear hl hg hb p0 p1 p2 p3 p4 p5 p6 p7 p8 p9
       obtain ⟨p0, p1, p2, p3, p4, p5, p6, p7, p8, p9⟩ := Msgs.ten HM9.out)
    | fail)
  refine (hasM_any m (.slice eo en ec) (.slice io ik ic) 32 false _ HF9.out h5).mono ?_
  rintro e10 w10 ⟨rfl, hb⟩
  have HM10 := Lib.hid (HM9.out.below hb HM9.out.lt); have HZ10 := Lib.hid (HZ9.out.below hb HZ9.out.lt); have HO10 := Lib.hid (HO9.out.below hb HO9.out.lt)
  have HF10 := Lib.hid (HF9.out.below hb); have HB10 := Lib.hid (HB9.out.trans (hb.mono HB9.out.size))
  clear hb p0 p1 p2 p3 p4 p5 p6 p7 p8 p9
  obtain ⟨p0, p1, p2, p3, p4, p5, p6, p7, p8, p9⟩ := Msgs.ten HM10.out
  obtain ⟨q0, q1, q2, q3, q4, q5, q6, q7, q8, q9⟩ := Msgs.ten HO10.out
  go_wp2_with (first
    | (refine store_msg (by rfl) _ _ (by rfl) (w.heap.size + 1) Ms.zero _ _ (⟨m.kind, m.frm, m.dst, m.bal, 0, 0, 0, m.ents, []⟩ : Ms.Msg) (.slice eo en ec) (.slice none 0 0) (by rfl) (by rfl) rfl rfl HZ10.out ?_; intro w99 hl hg)
    | fail)
  refine ret_msg1 rfl rfl hl rfl ?_
  exact ⟨rfl, HB10.out.grown hg HB10.out.size (by rintro x hx; cases hx; omega)⟩

set_option maxRecDepth 4000 in
set_option maxHeartbeats 1600000 in
theorem own_010000 (m : Ms.Msg) (eo : Option Addr) (en ec : Nat) (io : Option Addr) (ik ic : Nat) (w : World) (hF : FieldsIn w) (h0 : Ms.bit m.kind 1 = false) (h1 : Ms.bit m.kind 2 = true) (h2 : Ms.bit m.kind 4 = false) (h3 : Ms.bit m.kind 8 = false) (h4 : Ms.bit m.kind 16 = false) (h5 : Ms.bit m.kind 32 = false) :
    Calls Tryz.prog 77 #[.agg (Ms.cells m (.slice eo en ec) (.slice io ik ic))] w (Looks w (.agg (Ms.cells (⟨m.kind, m.frm, m.dst, m.bal, 0, 0, 0, [], []⟩ : Ms.Msg) (.slice none 0 0) (.slice none 0 0)))) := by
  obtain ⟨w1, e1, hl1, hl0, hB1, hz1⟩ := box_msg0 w m (.slice eo en ec) (.slice io ik ic)
  obtain ⟨p0, p1, p2, p3, p4, p5, p6, p7, p8, p9⟩ := Msgs.ten hl1
  have HM1 := Lib.hid hl1; have HZ1 := Lib.hid hl0; have HB1 := Lib.hid hB1; have HS := Lib.hid hz1
  have HF0 := Lib.hid hF; have HF1 := Lib.hid (hF.below hB1)
  clear hl1 hl0 hB1 hz1 hF
  go_enter Tryz.func77, Tryz.ntmps77
  go_wp2_with (first
    | (refine store_msg (by rfl) _ _ (by rfl) w1.heap.size Ms.zero _ _ (⟨m.kind, m.frm, m.dst, Bl.zero, 0, 0, 0, [], []⟩ : Ms.Msg) (.slice none 0 0) (.slice none 0 0) (by rfl) (by rfl) rfl rfl (Lies.new _ _ _) ?_
       intro w2 hl2 hg2
       have hb2 := fresh_below hg2
       have HM2 := Lib.hid (HM1.out.below hb2 HM1.out.lt); have HZ2 := Lib.hid (HZ1.out.below hb2 HZ1.out.lt); have HO2 := Lib.hid hl2
       have HF2 := Lib.hid (HF1.out.below hb2); have HB2 := Lib.hid (HB1.out.trans (hb2.mono HB1.out.size))
       clear hl2 hg2 hb2 p0 p1 p2 p3 p4 p5 p6 p7 p8 p9
       obtain ⟨p0, p1, p2, p3, p4, p5, p6, p7, p8, p9⟩ := Msgs.ten HM2.out)
    | fail)
  refine (hasM_any m (.slice eo en ec) (.slice io ik ic) 1 false _ HF2.out h0).mono ?_
  rintro e3 w3 ⟨rfl, hb⟩
  have HM3 := Lib.hid (HM2.out.below hb HM2.out.lt); have HZ3 := Lib.hid (HZ2.out.below hb HZ2.out.lt); have HO3 := Lib.hid (HO2.out.below hb HO2.out.lt)
  have HF3 := Lib.hid (HF2.out.below hb); have HB3 := Lib.hid (HB2.out.trans (hb.mono HB2.out.size))
  clear hb p0 p1 p2 p3 p4 p5 p6 p7 p8 p9
  obtain ⟨p0, p1, p2, p3, p4, p5, p6, p7, p8, p9⟩ := Msgs.ten HM3.out
  go_wp2_with fail
  refine (hasM_any m (.slice eo en ec) (.slice io ik ic) 2 true _ HF3.out h1).mono ?_
  rintro e4 w4 ⟨rfl, hb⟩
  have HM4 := Lib.hid (HM3.out.below hb HM3.out.lt); have HZ4 := Lib.hid (HZ3.out.below hb HZ3.out.lt); have HO4 := Lib.hid (HO3.out.below hb HO3.out.lt)
  have HF4 := Lib.hid (HF3.out.below hb); have HB4 := Lib.hid (HB3.out.trans (hb.mono HB3.out.size))
  clear hb p0 p1 p2 p3 p4 p5 p6 p7 p8 p9
  obtain ⟨p0, p1, p2, p3, p4, p5, p6, p7, p8, p9⟩ := Msgs.ten HM4.out
  go_wp2_with (first
    | (refine store_part (by rfl) _ _ _ (by rfl) w1.heap.size 3 _ _ (Ms.cells (⟨m.kind, m.frm, m.dst, m.bal, 0, 0, 0, [], []⟩ : Ms.Msg) (.slice none 0 0) (.slice none 0 0)) (.agg (Bl.cells m.bal)) [.int .i64 m.bal.round, .int .i64 m.bal.node] (by rfl) (by rfl) (by rfl) (by kernel_rfl) (by rfl) HO4.out (Nat.le_of_ble_eq_true rfl) (by rfl) ?_
       intro w5 hl hg
       have HM5 := Lib.hid (HM4.out.kept hg (by have := HS.out; simp; omega)); have HZ5 := Lib.hid (HZ4.out.kept hg (by have := HS.out; simp; omega)); have HO5 := Lib.hid hl
       have hb := HB4.out.grown hg HB4.out.size (by rintro x hx; cases hx; have := HS.out; omega)
       have HF5 := Lib.hid (HF0.out.below hb); have HB5 := Lib.hid hb
       clear hl hg hb p0 p1 p2 p3 p4 p5 p6 p7 p8 p9
       obtain ⟨p0, p1, p2, p3, p4, p5, p6, p7, p8, p9⟩ := Msgs.ten HM5.out)
    | fail)
  refine (hasM_any m (.slice eo en ec) (.slice io ik ic) 4 false _ HF5.out h2).mono ?_
  rintro e6 w6 ⟨rfl, hb⟩
  have HM6 := Lib.hid (HM5.out.below hb HM5.out.lt); have HZ6 := Lib.hid (HZ5.out.below hb HZ5.out.lt); have HO6 := Lib.hid (HO5.out.below hb HO5.out.lt)
  have HF6 := Lib.hid (HF5.out.below hb); have HB6 := Lib.hid (HB5.out.trans (hb.mono HB5.out.size))
  clear hb p0 p1 p2 p3 p4 p5 p6 p7 p8 p9
  obtain ⟨p0, p1, p2, p3, p4, p5, p6, p7, p8, p9⟩ := Msgs.ten HM6.out
  go_wp2_with fail
  refine (hasM_any m (.slice eo en ec) (.slice io ik ic) 8 false _ HF6.out h3).mono ?_
  rintro e7 w7 ⟨rfl, hb⟩
  have HM7 := Lib.hid (HM6.out.below hb HM6.out.lt); have HZ7 := Lib.hid (HZ6.out.below hb HZ6.out.lt); have HO7 := Lib.hid (HO6.out.below hb HO6.out.lt)
  have HF7 := Lib.hid (HF6.out.below hb); have HB7 := Lib.hid (HB6.out.trans (hb.mono HB6.out.size))
  clear hb p0 p1 p2 p3 p4 p5 p6 p7 p8 p9
  obtain ⟨p0, p1, p2, p3, p4, p5, p6, p7, p8, p9⟩ := Msgs.ten HM7.out
  go_wp2_with fail
  refine (hasM_any m (.slice eo en ec) (.slice io ik ic) 16 false _ HF7.out h4).mono ?_
  rintro e8 w8 ⟨rfl, hb⟩
  have HM8 := Lib.hid (HM7.out.below hb HM7.out.lt); have HZ8 := Lib.hid (HZ7.out.below hb HZ7.out.lt); have HO8 := Lib.hid (HO7.out.below hb HO7.out.lt)
  have HF8 := Lib.hid (HF7.out.below hb); have HB8 := Lib.hid (HB7.out.trans (hb.mono HB7.out.size))
  clear hb p0 p1 p2 p3 p4 p5 p6 p7 p8 p9
  obtain ⟨p0, p1, p2, p3, p4, p5, p6, p7, p8, p9⟩ := Msgs.ten HM8.out
  go_wp2_with fail
  refine (hasM_any m (.slice eo en ec) (.slice io ik ic) 32 false _ HF8.out h5).mono ?_
  rintro e9 w9 ⟨rfl, hb⟩
  have HM9 := Lib.hid (HM8.out.below hb HM8.out.lt); have HZ9 := Lib.hid (HZ8.out.below hb HZ8.out.lt); have HO9 := Lib.hid (HO8.out.below hb HO8.out.lt)
  have HF9 := Lib.hid (HF8.out.below hb); have HB9 := Lib.hid (HB8.out.trans (hb.mono HB8.out.size))
  clear hb p0 p1 p2 p3 p4 p5 p6 p7 p8 p9
  obtain ⟨p0, p1, p2, p3, p4, p5, p6, p7, p8, p9⟩ := Msgs.ten HM9.out
  obtain ⟨q0, q1, q2, q3, q4, q5, q6, q7, q8, q9⟩ := Msgs.ten HO9.out
  go_wp2_with (first
    | (refine store_msg (by rfl) _ _ (by rfl) (w.heap.size + 1) Ms.zero _ _ (⟨m.kind, m.frm, m.dst, m.bal, 0, 0, 0, [], []⟩ : Ms.Msg) (.slice none 0 0) (.slice none 0 0) (by rfl) (by rfl) rfl rfl HZ9.out ?_; intro w99 hl hg)
    | fail)
  refine ret_msg1 rfl rfl hl rfl ?_
  exact ⟨rfl, HB9.out.grown hg HB9.out.size (by rintro x hx; cases hx; omega)⟩

set_option maxRecDepth 4000 in
set_option maxHeartbeats 1600000 in
theorem own_010100 (m : Ms.Msg) (eo : Option Addr) (en ec : Nat) (io : Option Addr) (ik ic : Nat) (w : World) (hF : FieldsIn w) (h0 : Ms.bit m.kind 1 = false) (h1 : Ms.bit m.kind 2 = true) (h2 : Ms.bit m.kind 4 = false) (h3 : Ms.bit m.kind 8 = true) (h4 : Ms.bit m.kind 16 = false) (h5 : Ms.bit m.kind 32 = false) :
    Calls Tryz.prog 77 #[.agg (Ms.cells m (.slice eo en ec) (.slice io ik ic))] w (Looks w (.agg (Ms.cells (⟨m.kind, m.frm, m.dst, m.bal, 0, m.commit, 0, [], []⟩ : Ms.Msg) (.slice none 0 0) (.slice none 0 0)))) := by
  obtain ⟨w1, e1, hl1, hl0, hB1, hz1⟩ := box_msg0 w m (.slice eo en ec) (.slice io ik ic)
  obtain ⟨p0, p1, p2, p3, p4, p5, p6, p7, p8, p9⟩ := Msgs.ten hl1
  have HM1 := Lib.hid hl1; have HZ1 := Lib.hid hl0; have HB1 := Lib.hid hB1; have HS := Lib.hid hz1
  have HF0 := Lib.hid hF; have HF1 := Lib.hid (hF.below hB1)
  clear hl1 hl0 hB1 hz1 hF
  go_enter Tryz.func77, Tryz.ntmps77
  go_wp2_with (first
    | (refine store_msg (by rfl) _ _ (by rfl) w1.heap.size Ms.zero _ _ (⟨m.kind, m.frm, m.dst, Bl.zero, 0, 0, 0, [], []⟩ : Ms.Msg) (.slice none 0 0) (.slice none 0 0) (by rfl) (by rfl) rfl rfl (Lies.new _ _ _) ?_
       intro w2 hl2 hg2
       have hb2 := fresh_below hg2
       have HM2 := Lib.hid (HM1.out.below hb2 HM1.out.lt); have HZ2 := Lib.hid (HZ1.out.below hb2 HZ1.out.lt); have HO2 := Lib.hid hl2
       have HF2 := Lib.hid (HF1.out.below hb2); have HB2 := Lib.hid (HB1.out.trans (hb2.mono HB1.out.size))
       clear hl2 hg2 hb2 p0 p1 p2 p3 p4 p5 p6 p7 p8 p9
       obtain ⟨p0, p1, p2, p3, p4, p5, p6, p7, p8, p9⟩ := Msgs.ten HM2.out)
    | fail)
  refine (hasM_any m (.slice eo en ec) (.slice io ik ic) 1 false _ HF2.out h0).mono ?_
  rintro e3 w3 ⟨rfl, hb⟩
  have HM3 := Lib.hid (HM2.out.below hb HM2.out.lt); have HZ3 := Lib.hid (HZ2.out.below hb HZ2.out.lt); have HO3 := Lib.hid (HO2.out.below hb HO2.out.lt)
  have HF3 := Lib.hid (HF2.out.below hb); have HB3 := Lib.hid (HB2.out.trans (hb.mono HB2.out.size))
  clear hb p0 p1 p2 p3 p4 p5 p6 p7 p8 p9
  obtain ⟨p0, p1, p2, p3, p4, p5, p6, p7, p8, p9⟩ := Msgs.ten HM3.out
  go_wp2_with fail
  refine (hasM_any m (.slice eo en ec) (.slice io ik ic) 2 true _ HF3.out h1).mono ?_
  rintro e4 w4 ⟨rfl, hb⟩
  have HM4 := Lib.hid (HM3.out.below hb HM3.out.lt); have HZ4 := Lib.hid (HZ3.out.below hb HZ3.out.lt); have HO4 := Lib.hid (HO3.out.below hb HO3.out.lt)
  have HF4 := Lib.hid (HF3.out.below hb); have HB4 := Lib.hid (HB3.out.trans (hb.mono HB3.out.size))
  clear hb p0 p1 p2 p3 p4 p5 p6 p7 p8 p9
  obtain ⟨p0, p1, p2, p3, p4, p5, p6, p7, p8, p9⟩ := Msgs.ten HM4.out
  go_wp2_with (first
    | (refine store_part (by rfl) _ _ _ (by rfl) w1.heap.size 3 _ _ (Ms.cells (⟨m.kind, m.frm, m.dst, m.bal, 0, 0, 0, [], []⟩ : Ms.Msg) (.slice none 0 0) (.slice none 0 0)) (.agg (Bl.cells m.bal)) [.int .i64 m.bal.round, .int .i64 m.bal.node] (by rfl) (by rfl) (by rfl) (by kernel_rfl) (by rfl) HO4.out (Nat.le_of_ble_eq_true rfl) (by rfl) ?_
       intro w5 hl hg
       have HM5 := Lib.hid (HM4.out.kept hg (by have := HS.out; simp; omega)); have HZ5 := Lib.hid (HZ4.out.kept hg (by have := HS.out; simp; omega)); have HO5 := Lib.hid hl
       have hb := HB4.out.grown hg HB4.out.size (by rintro x hx; cases hx; have := HS.out; omega)
       have HF5 := Lib.hid (HF0.out.below hb); have HB5 := Lib.hid hb
       clear hl hg hb p0 p1 p2 p3 p4 p5 p6 p7 p8 p9
       obtain ⟨p0, p1, p2, p3, p4, p5, p6, p7, p8, p9⟩ := Msgs.ten HM5.out)
    | fail)
  refine (hasM_any m (.slice eo en ec) (.slice io ik ic) 4 false _ HF5.out h2).mono ?_
  rintro e6 w6 ⟨rfl, hb⟩
  have HM6 := Lib.hid (HM5.out.below hb HM5.out.lt); have HZ6 := Lib.hid (HZ5.out.below hb HZ5.out.lt); have HO6 := Lib.hid (HO5.out.below hb HO5.out.lt)
  have HF6 := Lib.hid (HF5.out.below hb); have HB6 := Lib.hid (HB5.out.trans (hb.mono HB5.out.size))
  clear hb p0 p1 p2 p3 p4 p5 p6 p7 p8 p9
  obtain ⟨p0, p1, p2, p3, p4, p5, p6, p7, p8, p9⟩ := Msgs.ten HM6.out
  go_wp2_with fail
  refine (hasM_any m (.slice eo en ec) (.slice io ik ic) 8 true _ HF6.out h3).mono ?_
  rintro e7 w7 ⟨rfl, hb⟩
  have HM7 := Lib.hid (HM6.out.below hb HM6.out.lt); have HZ7 := Lib.hid (HZ6.out.below hb HZ6.out.lt); have HO7 := Lib.hid (HO6.out.below hb HO6.out.lt)
  have HF7 := Lib.hid (HF6.out.below hb); have HB7 := Lib.hid (HB6.out.trans (hb.mono HB6.out.size))
  clear hb p0 p1 p2 p3 p4 p5 p6 p7 p8 p9
  obtain ⟨p0, p1, p2, p3, p4, p5, p6, p7, p8, p9⟩ := Msgs.ten HM7.out
  go_wp2_with (first
    | (refine store_part (by rfl) _ _ _ (by rfl) w1.heap.size 6 _ _ (Ms.cells (⟨m.kind, m.frm, m.dst, m.bal, 0, m.commit, 0, [], []⟩ : Ms.Msg) (.slice none 0 0) (.slice none 0 0)) (.int .i64 m.commit) [.int .i64 m.commit] (by rfl) (by rfl) (by rfl) (by kernel_rfl) (by rfl) HO7.out (Nat.le_of_ble_eq_true rfl) (by rfl) ?_
       intro w8 hl hg
       have HM8 := Lib.hid (HM7.out.kept hg (by have := HS.out; simp; omega)); have HZ8 := Lib.hid (HZ7.out.kept hg (by have := HS.out; simp; omega)); have HO8 := Lib.hid hl
       have hb := HB7.out.grown hg HB7.out.size (by rintro x hx; cases hx; have := HS.out; omega)
       have HF8 := Lib.hid (HF0.out.below hb); have HB8 := Lib.hid hb
       clear hl hg hb p0 p1 p2 p3 p4 p5 p6 p7 p8 p9
       obtain ⟨p0, p1, p2, p3, p4, p5, p6, p7, p8, p9⟩ := Msgs.ten HM8.out)
    | fail)
  refine (hasM_any m (.slice eo en ec) (.slice io ik ic) 16 false _ HF8.out h4).mono ?_
  rintro e9 w9 ⟨rfl, hb⟩
  have HM9 := Lib.hid (HM8.out.below hb HM8.out.lt); have HZ9 := Lib.hid (HZ8.out.below hb HZ8.out.lt); have HO9 := Lib.hid (HO8.out.below hb HO8.out.lt)
  have HF9 := Lib.hid (HF8.out.below hb); have HB9 := Lib.hid (HB8.out.trans (hb.mono HB8.out.size))
  clear hb p0 p1 p2 p3 p4 p5 p6 p7 p8 p9
  obtain ⟨p0, p1, p2, p3, p4, p5, p6, p7, p8, p9⟩ := Msgs.ten HM9.out
  go_wp2_with fail
  refine (hasM_any m (.slice eo en ec) (.slice io ik ic) 32 false _ HF9.out h5).mono ?_
  rintro e10 w10 ⟨rfl, hb⟩
  have HM10 := Lib.hid (HM9.out.below hb HM9.out.lt); have HZ10 := Lib.hid (HZ9.out.below hb HZ9.out.lt); have HO10 := Lib.hid (HO9.out.below hb HO9.out.lt)
  have HF10 := Lib.hid (HF9.out.below hb); have HB10 := Lib.hid (HB9.out.trans (hb.mono HB9.out.size))
  clear hb p0 p1 p2 p3 p4 p5 p6 p7 p8 p9
  obtain ⟨p0, p1, p2, p3, p4, p5, p6, p7, p8, p9⟩ := Msgs.ten HM10.out
  obtain ⟨q0, q1, q2, q3, q4, q5, q6, q7, q8, q9⟩ := Msgs.ten HO10.out
  go_wp2_with (first
    | (refine store_msg (by rfl) _ _ (by rfl) (w.heap.size + 1) Ms.zero _ _ (⟨m.kind, m.frm, m.dst, m.bal, 0, m.commit, 0, [], []⟩ : Ms.Msg) (.slice none 0 0) (.slice none 0 0) (by rfl) (by rfl) rfl rfl HZ10.out ?_; intro w99 hl hg)
    | fail)
  refine ret_msg1 rfl rfl hl rfl ?_
  exact ⟨rfl, HB10.out.grown hg HB10.out.size (by rintro x hx; cases hx; omega)⟩

set_option maxRecDepth 4000 in
set_option maxHeartbeats 1600000 in
theorem own_001000 (m : Ms.Msg) (eo : Option Addr) (en ec : Nat) (io : Option Addr) (ik ic : Nat) (w : World) (hF : FieldsIn w) (h0 : Ms.bit m.kind 1 = false) (h1 : Ms.bit m.kind 2 = false) (h2 : Ms.bit m.kind 4 = true) (h3 : Ms.bit m.kind 8 = false) (h4 : Ms.bit m.kind 16 = false) (h5 : Ms.bit m.kind 32 = false) :
    Calls Tryz.prog 77 #[.agg (Ms.cells m (.slice eo en ec) (.slice io ik ic))] w (Looks w (.agg (Ms.cells (⟨m.kind, m.frm, m.dst, Bl.zero, m.index, 0, 0, [], []⟩ : Ms.Msg) (.slice none 0 0) (.slice none 0 0)))) := by
  obtain ⟨w1, e1, hl1, hl0, hB1, hz1⟩ := box_msg0 w m (.slice eo en ec) (.slice io ik ic)
  obtain ⟨p0, p1, p2, p3, p4, p5, p6, p7, p8, p9⟩ := Msgs.ten hl1
  have HM1 := Lib.hid hl1; have HZ1 := Lib.hid hl0; have HB1 := Lib.hid hB1; have HS := Lib.hid hz1
  have HF0 := Lib.hid hF; have HF1 := Lib.hid (hF.below hB1)
  clear hl1 hl0 hB1 hz1 hF
  go_enter Tryz.func77, Tryz.ntmps77
  go_wp2_with (first
    | (refine store_msg (by rfl) _ _ (by rfl) w1.heap.size Ms.zero _ _ (⟨m.kind, m.frm, m.dst, Bl.zero, 0, 0, 0, [], []⟩ : Ms.Msg) (.slice none 0 0) (.slice none 0 0) (by rfl) (by rfl) rfl rfl (Lies.new _ _ _) ?_
       intro w2 hl2 hg2
       have hb2 := fresh_below hg2
       have HM2 := Lib.hid (HM1.out.below hb2 HM1.out.lt); have HZ2 := Lib.hid (HZ1.out.below hb2 HZ1.out.lt); have HO2 := Lib.hid hl2
       have HF2 := Lib.hid (HF1.out.below hb2); have HB2 := Lib.hid (HB1.out.trans (hb2.mono HB1.out.size))
       clear hl2 hg2 hb2 p0 p1 p2 p3 p4 p5 p6 p7 p8 p9
       obtain ⟨p0, p1, p2, p3, p4, p5, p6, p7, p8, p9⟩ := Msgs.ten HM2.out)
    | fail)
  refine (hasM_any m (.slice eo en ec) (.slice io ik ic) 1 false _ HF2.out h0).mono ?_
  rintro e3 w3 ⟨rfl, hb⟩
  have HM3 := Lib.hid (HM2.out.below hb HM2.out.lt); have HZ3 := Lib.hid (HZ2.out.below hb HZ2.out.lt); have HO3 := Lib.hid (HO2.out.below hb HO2.out.lt)
  have HF3 := Lib.hid (HF2.out.below hb); have HB3 := Lib.hid (HB2.out.trans (hb.mono HB2.out.size))
  clear hb p0 p1 p2 p3 p4 p5 p6 p7 p8 p9
  obtain ⟨p0, p1, p2, p3, p4, p5, p6, p7, p8, p9⟩ := Msgs.ten HM3.out
  go_wp2_with fail
  refine (hasM_any m (.slice eo en ec) (.slice io ik ic) 2 false _ HF3.out h1).mono ?_
  rintro e4 w4 ⟨rfl, hb⟩
  have HM4 := Lib.hid (HM3.out.below hb HM3.out.lt); have HZ4 := Lib.hid (HZ3.out.below hb HZ3.out.lt); have HO4 := Lib.hid (HO3.out.below hb HO3.out.lt)
  have HF4 := Lib.hid (HF3.out.below hb); have HB4 := Lib.hid (HB3.out.trans (hb.mono HB3.out.size))
  clear hb p0 p1 p2 p3 p4 p5 p6 p7 p8 p9
  obtain ⟨p0, p1, p2, p3, p4, p5, p6, p7, p8, p9⟩ := Msgs.ten HM4.out
  go_wp2_with fail
  refine (hasM_any m (.slice eo en ec) (.slice io ik ic) 4 true _ HF4.out h2).mono ?_
  rintro e5 w5 ⟨rfl, hb⟩
  have HM5 := Lib.hid (HM4.out.below hb HM4.out.lt); have HZ5 := Lib.hid (HZ4.out.below hb HZ4.out.lt); have HO5 := Lib.hid (HO4.out.below hb HO4.out.lt)
  have HF5 := Lib.hid (HF4.out.below hb); have HB5 := Lib.hid (HB4.out.trans (hb.mono HB4.out.size))
  clear hb p0 p1 p2 p3 p4 p5 p6 p7 p8 p9
  obtain ⟨p0, p1, p2, p3, p4, p5, p6, p7, p8, p9⟩ := Msgs.ten HM5.out
  go_wp2_with (first
    | (refine store_part (by rfl) _ _ _ (by rfl) w1.heap.size 5 _ _ (Ms.cells (⟨m.kind, m.frm, m.dst, Bl.zero, m.index, 0, 0, [], []⟩ : Ms.Msg) (.slice none 0 0) (.slice none 0 0)) (.int .i64 m.index) [.int .i64 m.index] (by rfl) (by rfl) (by rfl) (by kernel_rfl) (by rfl) HO5.out (Nat.le_of_ble_eq_true rfl) (by rfl) ?_
       intro w6 hl hg
       have HM6 := Lib.hid (HM5.out.kept hg (by have := HS.out; simp; omega)); have HZ6 := Lib.hid (HZ5.out.kept hg (by have := HS.out; simp; omega)); have HO6 := Lib.hid hl
       have hb := HB5.out.grown hg HB5.out.size (by rintro x hx; cases hx; have := HS.out; omega)
       have HF6 := Lib.hid (HF0.out.below hb); have HB6 := Lib.hid hb
       clear hl hg hb p0 p1 p2 p3 p4 p5 p6 p7 p8 p9
       obtain ⟨p0, p1, p2, p3, p4, p5, p6, p7, p8, p9⟩ := Msgs.ten HM6.out)
    | fail)
  refine (hasM_any m (.slice eo en ec) (.slice io ik ic) 8 false _ HF6.out h3).mono ?_
  rintro e7 w7 ⟨rfl, hb⟩
  have HM7 := Lib.hid (HM6.out.below hb HM6.out.lt); have HZ7 := Lib.hid (HZ6.out.below hb HZ6.out.lt); have HO7 := Lib.hid (HO6.out.below hb HO6.out.lt)
  have HF7 := Lib.hid (HF6.out.below hb); have HB7 := Lib.hid (HB6.out.trans (hb.mono HB6.out.size))
  clear hb p0 p1 p2 p3 p4 p5 p6 p7 p8 p9
  obtain ⟨p0, p1, p2, p3, p4, p5, p6, p7, p8, p9⟩ := Msgs.ten HM7.out
  go_wp2_with fail
  refine (hasM_any m (.slice eo en ec) (.slice io ik ic) 16 false _ HF7.out h4).mono ?_
  rintro e8 w8 ⟨rfl, hb⟩
  have HM8 := Lib.hid (HM7.out.below hb HM7.out.lt); have HZ8 := Lib.hid (HZ7.out.below hb HZ7.out.lt); have HO8 := Lib.hid (HO7.out.below hb HO7.out.lt)
  have HF8 := Lib.hid (HF7.out.below hb); have HB8 := Lib.hid (HB7.out.trans (hb.mono HB7.out.size))
  clear hb p0 p1 p2 p3 p4 p5 p6 p7 p8 p9
  obtain ⟨p0, p1, p2, p3, p4, p5, p6, p7, p8, p9⟩ := Msgs.ten HM8.out
  go_wp2_with fail
  refine (hasM_any m (.slice eo en ec) (.slice io ik ic) 32 false _ HF8.out h5).mono ?_
  rintro e9 w9 ⟨rfl, hb⟩
  have HM9 := Lib.hid (HM8.out.below hb HM8.out.lt); have HZ9 := Lib.hid (HZ8.out.below hb HZ8.out.lt); have HO9 := Lib.hid (HO8.out.below hb HO8.out.lt)
  have HF9 := Lib.hid (HF8.out.below hb); have HB9 := Lib.hid (HB8.out.trans (hb.mono HB8.out.size))
  clear hb p0 p1 p2 p3 p4 p5 p6 p7 p8 p9
  obtain ⟨p0, p1, p2, p3, p4, p5, p6, p7, p8, p9⟩ := Msgs.ten HM9.out
  obtain ⟨q0, q1, q2, q3, q4, q5, q6, q7, q8, q9⟩ := Msgs.ten HO9.out
  go_wp2_with (first
    | (refine store_msg (by rfl) _ _ (by rfl) (w.heap.size + 1) Ms.zero _ _ (⟨m.kind, m.frm, m.dst, Bl.zero, m.index, 0, 0, [], []⟩ : Ms.Msg) (.slice none 0 0) (.slice none 0 0) (by rfl) (by rfl) rfl rfl HZ9.out ?_; intro w99 hl hg)
    | fail)
  refine ret_msg1 rfl rfl hl rfl ?_
  exact ⟨rfl, HB9.out.grown hg HB9.out.size (by rintro x hx; cases hx; omega)⟩

set_option maxRecDepth 4000 in
set_option maxHeartbeats 1600000 in
theorem own_000110 (m : Ms.Msg) (eo : Option Addr) (en ec : Nat) (io : Option Addr) (ik ic : Nat) (w : World) (hF : FieldsIn w) (h0 : Ms.bit m.kind 1 = false) (h1 : Ms.bit m.kind 2 = false) (h2 : Ms.bit m.kind 4 = false) (h3 : Ms.bit m.kind 8 = true) (h4 : Ms.bit m.kind 16 = true) (h5 : Ms.bit m.kind 32 = false) :
    Calls Tryz.prog 77 #[.agg (Ms.cells m (.slice eo en ec) (.slice io ik ic))] w (Looks w (.agg (Ms.cells (⟨m.kind, m.frm, m.dst, Bl.zero, 0, m.commit, 0, m.ents, []⟩ : Ms.Msg) (.slice eo en ec) (.slice none 0 0)))) := by
  obtain ⟨w1, e1, hl1, hl0, hB1, hz1⟩ := box_msg0 w m (.slice eo en ec) (.slice io ik ic)
  obtain ⟨p0, p1, p2, p3, p4, p5, p6, p7, p8, p9⟩ := Msgs.ten hl1
  have HM1 := Lib.hid hl1; have HZ1 := Lib.hid hl0; have HB1 := Lib.hid hB1; have HS := Lib.hid hz1
  have HF0 := Lib.hid hF; have HF1 := Lib.hid (hF.below hB1)
  clear hl1 hl0 hB1 hz1 hF
  go_enter Tryz.func77, Tryz.ntmps77
  go_wp2_with (first
    | (refine store_msg (by rfl) _ _ (by rfl) w1.heap.size Ms.zero _ _ (⟨m.kind, m.frm, m.dst, Bl.zero, 0, 0, 0, [], []⟩ : Ms.Msg) (.slice none 0 0) (.slice none 0 0) (by rfl) (by rfl) rfl rfl (Lies.new _ _ _) ?_
       intro w2 hl2 hg2
       have hb2 := fresh_below hg2
       have HM2 := Lib.hid (HM1.out.below hb2 HM1.out.lt); have HZ2 := Lib.hid (HZ1.out.below hb2 HZ1.out.lt); have HO2 := Lib.hid hl2
       have HF2 := Lib.hid (HF1.out.below hb2); have HB2 := Lib.hid (HB1.out.trans (hb2.mono HB1.out.size))
       clear hl2 hg2 hb2 p0 p1 p2 p3 p4 p5 p6 p7 p8 p9
       obtain ⟨p0, p1, p2, p3, p4, p5, p6, p7, p8, p9⟩ := Msgs.ten HM2.out)
    | fail)
  refine (hasM_any m (.slice eo en ec) (.slice io ik ic) 1 false _ HF2.out h0).mono ?_
  rintro e3 w3 ⟨rfl, hb⟩
  have HM3 := Lib.hid (HM2.out.below hb HM2.out.lt); have HZ3 := Lib.hid (HZ2.out.below hb HZ2.out.lt); have HO3 := Lib.hid (HO2.out.below hb HO2.out.lt)
  have HF3 := Lib.hid (HF2.out.below hb); have HB3 := Lib.hid (HB2.out.trans (hb.mono HB2.out.size))
  clear hb p0 p1 p2 p3 p4 p5 p6 p7 p8 p9
  obtain ⟨p0, p1, p2, p3, p4, p5, p6, p7, p8, p9⟩ := Msgs.ten HM3.out
  go_wp2_with fail
  refine (hasM_any m (.slice eo en ec) (.slice io ik ic) 2 false _ HF3.out h1).mono ?_
  rintro e4 w4 ⟨rfl, hb⟩
  have HM4 := Lib.hid (HM3.out.below hb HM3.out.lt); have HZ4 := Lib.hid (HZ3.out.below hb HZ3.out.lt); have HO4 := Lib.hid (HO3.out.below hb HO3.out.lt)
  have HF4 := Lib.hid (HF3.out.below hb); have HB4 := Lib.hid (HB3.out.trans (hb.mono HB3.out.size))
  clear hb p0 p1 p2 p3 p4 p5 p6 p7 p8 p9
  obtain ⟨p0, p1, p2, p3, p4, p5, p6, p7, p8, p9⟩ := Msgs.ten HM4.out
  go_wp2_with fail
  refine (hasM_any m (.slice eo en ec) (.slice io ik ic) 4 false _ HF4.out h2).mono ?_
  rintro e5 w5 ⟨rfl, hb⟩
  have HM5 := Lib.hid (HM4.out.below hb HM4.out.lt); have HZ5 := Lib.hid (HZ4.out.below hb HZ4.out.lt); have HO5 := Lib.hid (HO4.out.below hb HO4.out.lt)
  have HF5 := Lib.hid (HF4.out.below hb); have HB5 := Lib.hid (HB4.out.trans (hb.mono HB4.out.size))
  clear hb p0 p1 p2 p3 p4 p5 p6 p7 p8 p9
  obtain ⟨p0, p1, p2, p3, p4, p5, p6, p7, p8, p9⟩ := Msgs.ten HM5.out
  go_wp2_with fail
  refine (hasM_any m (.slice eo en ec) (.slice io ik ic) 8 true _ HF5.out h3).mono ?_
  rintro e6 w6 ⟨rfl, hb⟩
  have HM6 := Lib.hid (HM5.out.below hb HM5.out.lt); have HZ6 := Lib.hid (HZ5.out.below hb HZ5.out.lt); have HO6 := Lib.hid (HO5.out.below hb HO5.out.lt)
  have HF6 := Lib.hid (HF5.out.below hb); have HB6 := Lib.hid (HB5.out.trans (hb.mono HB5.out.size))
  clear hb p0 p1 p2 p3 p4 p5 p6 p7 p8 p9
  obtain ⟨p0, p1, p2, p3, p4, p5, p6, p7, p8, p9⟩ := Msgs.ten HM6.out
  go_wp2_with (first
    | (refine store_part (by rfl) _ _ _ (by rfl) w1.heap.size 6 _ _ (Ms.cells (⟨m.kind, m.frm, m.dst, Bl.zero, 0, m.commit, 0, [], []⟩ : Ms.Msg) (.slice none 0 0) (.slice none 0 0)) (.int .i64 m.commit) [.int .i64 m.commit] (by rfl) (by rfl) (by rfl) (by kernel_rfl) (by rfl) HO6.out (Nat.le_of_ble_eq_true rfl) (by rfl) ?_
       intro w7 hl hg
       have HM7 := Lib.hid (HM6.out.kept hg (by have := HS.out; simp; omega)); have HZ7 := Lib.hid (HZ6.out.kept hg (by have := HS.out; simp; omega)); have HO7 := Lib.hid hl
       have hb := HB6.out.grown hg HB6.out.size (by rintro x hx; cases hx; have := HS.out; omega)
       have HF7 := Lib.hid (HF0.out.below hb); have HB7 := Lib.hid hb
       clear hl hg hb p0 p1 p2 p3 p4 p5 p6 p7 p8 p9
       obtain ⟨p0, p1, p2, p3, p4, p5, p6, p7, p8, p9⟩ := Msgs.ten HM7.out)
    | fail)
  refine (hasM_any m (.slice eo en ec) (.slice io ik ic) 16 true _ HF7.out h4).mono ?_
  rintro e8 w8 ⟨rfl, hb⟩
  have HM8 := Lib.hid (HM7.out.below hb HM7.out.lt); have HZ8 := Lib.hid (HZ7.out.below hb HZ7.out.lt); have HO8 := Lib.hid (HO7.out.below hb HO7.out.lt)
  have HF8 := Lib.hid (HF7.out.below hb); have HB8 := Lib.hid (HB7.out.trans (hb.mono HB7.out.size))
  clear hb p0 p1 p2 p3 p4 p5 p6 p7 p8 p9
  obtain ⟨p0, p1, p2, p3, p4, p5, p6, p7, p8, p9⟩ := Msgs.ten HM8.out
  go_wp2_with (first
    | (refine store_part (by rfl) _ _ _ (by rfl) w1.heap.size 8 _ _ (Ms.cells (⟨m.kind, m.frm, m.dst, Bl.zero, 0, m.commit, 0, m.ents, []⟩ : Ms.Msg) (.slice eo en ec) (.slice none 0 0)) (.slice eo en ec) [.slice eo en ec] (by rfl) (by rfl) (by rfl) (by kernel_rfl) (by rfl) HO8.out (Nat.le_of_ble_eq_true rfl) (by rfl) ?_
       intro w9 hl hg
       have HM9 := Lib.hid (HM8.out.kept hg (by have := HS.out; simp; omega)); have HZ9 := Lib.hid (HZ8.out.kept hg (by have := HS.out; simp; omega)); have HO9 := Lib.hid hl
       have hb := HB8.out.grown hg HB8.out.size (by rintro x hx; cases hx; have := HS.out; omega)
       have HF9 := Lib.hid (HF0.out.below hb); have HB9 := Lib.hid hb
       clear hl hg hb p0 p1 p2 p3 p4 p5 p6 p7 p8 p9
       obtain ⟨p0, p1, p2, p3, p4, p5, p6, p7, p8, p9⟩ := Msgs.ten HM9.out)
    | fail)
  refine (hasM_any m (.slice eo en ec) (.slice io ik ic) 32 false _ HF9.out h5).mono ?_
  rintro e10 w10 ⟨rfl, hb⟩
  have HM10 := Lib.hid (HM9.out.below hb HM9.out.lt); have HZ10 := Lib.hid (HZ9.out.below hb HZ9.out.lt); have HO10 := Lib.hid (HO9.out.below hb HO9.out.lt)
  have HF10 := Lib.hid (HF9.out.below hb); have HB10 := Lib.hid (HB9.out.trans (hb.mono HB9.out.size))
  clear hb p0 p1 p2 p3 p4 p5 p6 p7 p8 p9
  obtain ⟨p0, p1, p2, p3, p4, p5, p6, p7, p8, p9⟩ := Msgs.ten HM10.out
  obtain ⟨q0, q1, q2, q3, q4, q5, q6, q7, q8, q9⟩ := Msgs.ten HO10.out
  go_wp2_with (first
    | (refine store_msg (by rfl) _ _ (by rfl) (w.heap.size + 1) Ms.zero _ _ (⟨m.kind, m.frm, m.dst, Bl.zero, 0, m.commit, 0, m.ents, []⟩ : Ms.Msg) (.slice eo en ec) (.slice none 0 0) (by rfl) (by rfl) rfl rfl HZ10.out ?_; intro w99 hl hg)
    | fail)
  refine ret_msg1 rfl rfl hl rfl ?_
  exact ⟨rfl, HB10.out.grown hg HB10.out.size (by rintro x hx; cases hx; omega)⟩

set_option maxRecDepth 4000 in
set_option maxHeartbeats 1600000 in
theorem own_000001 (m : Ms.Msg) (eo : Option Addr) (en ec : Nat) (io : Option Addr) (ik ic : Nat) (w : World) (hF : FieldsIn w) (h0 : Ms.bit m.kind 1 = false) (h1 : Ms.bit m.kind 2 = false) (h2 : Ms.bit m.kind 4 = false) (h3 : Ms.bit m.kind 8 = false) (h4 : Ms.bit m.kind 16 = false) (h5 : Ms.bit m.kind 32 = true) :
    Calls Tryz.prog 77 #[.agg (Ms.cells m (.slice eo en ec) (.slice io ik ic))] w (Looks w (.agg (Ms.cells (⟨m.kind, m.frm, m.dst, Bl.zero, 0, 0, 0, [], m.img⟩ : Ms.Msg) (.slice none 0 0) (.slice io ik ic)))) := by
  obtain ⟨w1, e1, hl1, hl0, hB1, hz1⟩ := box_msg0 w m (.slice eo en ec) (.slice io ik ic)
  obtain ⟨p0, p1, p2, p3, p4, p5, p6, p7, p8, p9⟩ := Msgs.ten hl1
  have HM1 := Lib.hid hl1; have HZ1 := Lib.hid hl0; have HB1 := Lib.hid hB1; have HS := Lib.hid hz1
  have HF0 := Lib.hid hF; have HF1 := Lib.hid (hF.below hB1)
  clear hl1 hl0 hB1 hz1 hF
  go_enter Tryz.func77, Tryz.ntmps77
  go_wp2_with (first
    | (refine store_msg (by rfl) _ _ (by rfl) w1.heap.size Ms.zero _ _ (⟨m.kind, m.frm, m.dst, Bl.zero, 0, 0, 0, [], []⟩ : Ms.Msg) (.slice none 0 0) (.slice none 0 0) (by rfl) (by rfl) rfl rfl (Lies.new _ _ _) ?_
       intro w2 hl2 hg2
       have hb2 := fresh_below hg2
       have HM2 := Lib.hid (HM1.out.below hb2 HM1.out.lt); have HZ2 := Lib.hid (HZ1.out.below hb2 HZ1.out.lt); have HO2 := Lib.hid hl2
       have HF2 := Lib.hid (HF1.out.below hb2); have HB2 := Lib.hid (HB1.out.trans (hb2.mono HB1.out.size))
       clear hl2 hg2 hb2 p0 p1 p2 p3 p4 p5 p6 p7 p8 p9
       obtain ⟨p0, p1, p2, p3, p4, p5, p6, p7, p8, p9⟩ := Msgs.ten HM2.out)
    | fail)
  refine (hasM_any m (.slice eo en ec) (.slice io ik ic) 1 false _ HF2.out h0).mono ?_
  rintro e3 w3 ⟨rfl, hb⟩
  have HM3 := Lib.hid (HM2.out.below hb HM2.out.lt); have HZ3 := Lib.hid (HZ2.out.below hb HZ2.out.lt); have HO3 := Lib.hid (HO2.out.below hb HO2.out.lt)
  have HF3 := Lib.hid (HF2.out.below hb); have HB3 := Lib.hid (HB2.out.trans (hb.mono HB2.out.size))
  clear hb p0 p1 p2 p3 p4 p5 p6 p7 p8 p9
  obtain ⟨p0, p1, p2, p3, p4, p5, p6, p7, p8, p9⟩ := Msgs.ten HM3.out
  go_wp2_with fail
  refine (hasM_any m (.slice eo en ec) (.slice io ik ic) 2 false _ HF3.out h1).mono ?_
  rintro e4 w4 ⟨rfl, hb⟩
  have HM4 := Lib.hid (HM3.out.below hb HM3.out.lt); have HZ4 := Lib.hid (HZ3.out.below hb HZ3.out.lt); have HO4 := Lib.hid (HO3.out.below hb HO3.out.lt)
  have HF4 := Lib.hid (HF3.out.below hb); have HB4 := Lib.hid (HB3.out.trans (hb.mono HB3.out.size))
  clear hb p0 p1 p2 p3 p4 p5 p6 p7 p8 p9
  obtain ⟨p0, p1, p2, p3, p4, p5, p6, p7, p8, p9⟩ := Msgs.ten HM4.out
  go_wp2_with fail
  refine (hasM_any m (.slice eo en ec) (.slice io ik ic) 4 false _ HF4.out h2).mono ?_
  rintro e5 w5 ⟨rfl, hb⟩
  have HM5 := Lib.hid (HM4.out.below hb HM4.out.lt); have HZ5 := Lib.hid (HZ4.out.below hb HZ4.out.lt); have HO5 := Lib.hid (HO4.out.below hb HO4.out.lt)
  have HF5 := Lib.hid (HF4.out.below hb); have HB5 := Lib.hid (HB4.out.trans (hb.mono HB4.out.size))
  clear hb p0 p1 p2 p3 p4 p5 p6 p7 p8 p9
  obtain ⟨p0, p1, p2, p3, p4, p5, p6, p7, p8, p9⟩ := Msgs.ten HM5.out
  go_wp2_with fail
  refine (hasM_any m (.slice eo en ec) (.slice io ik ic) 8 false _ HF5.out h3).mono ?_
  rintro e6 w6 ⟨rfl, hb⟩
  have HM6 := Lib.hid (HM5.out.below hb HM5.out.lt); have HZ6 := Lib.hid (HZ5.out.below hb HZ5.out.lt); have HO6 := Lib.hid (HO5.out.below hb HO5.out.lt)
  have HF6 := Lib.hid (HF5.out.below hb); have HB6 := Lib.hid (HB5.out.trans (hb.mono HB5.out.size))
  clear hb p0 p1 p2 p3 p4 p5 p6 p7 p8 p9
  obtain ⟨p0, p1, p2, p3, p4, p5, p6, p7, p8, p9⟩ := Msgs.ten HM6.out
  go_wp2_with fail
  refine (hasM_any m (.slice eo en ec) (.slice io ik ic) 16 false _ HF6.out h4).mono ?_
  rintro e7 w7 ⟨rfl, hb⟩
  have HM7 := Lib.hid (HM6.out.below hb HM6.out.lt); have HZ7 := Lib.hid (HZ6.out.below hb HZ6.out.lt); have HO7 := Lib.hid (HO6.out.below hb HO6.out.lt)
  have HF7 := Lib.hid (HF6.out.below hb); have HB7 := Lib.hid (HB6.out.trans (hb.mono HB6.out.size))
  clear hb p0 p1 p2 p3 p4 p5 p6 p7 p8 p9
  obtain ⟨p0, p1, p2, p3, p4, p5, p6, p7, p8, p9⟩ := Msgs.ten HM7.out
  go_wp2_with fail
  refine (hasM_any m (.slice eo en ec) (.slice io ik ic) 32 true _ HF7.out h5).mono ?_
  rintro e8 w8 ⟨rfl, hb⟩
  have HM8 := Lib.hid (HM7.out.below hb HM7.out.lt); have HZ8 := Lib.hid (HZ7.out.below hb HZ7.out.lt); have HO8 := Lib.hid (HO7.out.below hb HO7.out.lt)
  have HF8 := Lib.hid (HF7.out.below hb); have HB8 := Lib.hid (HB7.out.trans (hb.mono HB7.out.size))
  clear hb p0 p1 p2 p3 p4 p5 p6 p7 p8 p9
  obtain ⟨p0, p1, p2, p3, p4, p5, p6, p7, p8, p9⟩ := Msgs.ten HM8.out
  go_wp2_with (first
    | (refine store_part (by rfl) _ _ _ (by rfl) w1.heap.size 9 _ _ (Ms.cells (⟨m.kind, m.frm, m.dst, Bl.zero, 0, 0, 0, [], m.img⟩ : Ms.Msg) (.slice none 0 0) (.slice io ik ic)) (.slice io ik ic) [.slice io ik ic] (by rfl) (by rfl) (by rfl) (by kernel_rfl) (by rfl) HO8.out (Nat.le_of_ble_eq_true rfl) (by rfl) ?_
       intro w9 hl hg
       have HM9 := Lib.hid (HM8.out.kept hg (by have := HS.out; simp; omega)); have HZ9 := Lib.hid (HZ8.out.kept hg (by have := HS.out; simp; omega)); have HO9 := Lib.hid hl
       have hb := HB8.out.grown hg HB8.out.size (by rintro x hx; cases hx; have := HS.out; omega)
       have HF9 := Lib.hid (HF0.out.below hb); have HB9 := Lib.hid hb
       clear hl hg hb p0 p1 p2 p3 p4 p5 p6 p7 p8 p9
       obtain ⟨p0, p1, p2, p3, p4, p5, p6, p7, p8, p9⟩ := Msgs.ten HM9.out; obtain ⟨q0, q1, q2, q3, q4, q5, q6, q7, q8, q9⟩ := Msgs.ten HO9.out)
    | (refine store_msg (by rfl) _ _ (by rfl) (w.heap.size + 1) Ms.zero _ _ (⟨m.kind, m.frm, m.dst, Bl.zero, 0, 0, 0, [], m.img⟩ : Ms.Msg) (.slice none 0 0) (.slice io ik ic) (by rfl) (by rfl) rfl rfl HZ9.out ?_; intro w99 hl hg)
    | fail)
  refine ret_msg1 rfl rfl hl rfl ?_
  exact ⟨rfl, HB9.out.grown hg HB9.out.size (by rintro x hx; cases hx; omega)⟩

/-- own: the entries and the image where the kind has them. -/
theorem own_any (m : Ms.Msg) (eo : Option Addr) (en ec : Nat) (io : Option Addr) (ik ic : Nat) (w : World) (hF : FieldsIn w) :
    Calls Tryz.prog 77 #[.agg (Ms.cells m (.slice eo en ec) (.slice io ik ic))] w (Looks w (.agg (Ms.cells (Ms.own m) (if Ms.he m.kind = true then (.slice eo en ec) else (.slice none 0 0)) (if Ms.hm m.kind = true then (.slice io ik ic) else (.slice none 0 0))))) := by
  obtain ⟨b1, b2, b3, b4, b5, b6⟩ := Ms.bits m.kind
  unfold Ms.own
  rcases Ms.sets m.kind with ⟨g1, g2, g3, g4, g5, g6⟩ | ⟨g1, g2, g3, g4, g5, g6⟩ | ⟨g1, g2, g3, g4, g5, g6⟩ | ⟨g1, g2, g3, g4, g5, g6⟩ | ⟨g1, g2, g3, g4, g5, g6⟩ | ⟨g1, g2, g3, g4, g5, g6⟩ | ⟨g1, g2, g3, g4, g5, g6⟩ | ⟨g1, g2, g3, g4, g5, g6⟩ | ⟨g1, g2, g3, g4, g5, g6⟩ | ⟨g1, g2, g3, g4, g5, g6⟩

  · rw [g1] at b1; rw [g2] at b2; rw [g3] at b3; rw [g4] at b4; rw [g5] at b5; rw [g6] at b6
    have h := own_000000 m eo en ec io ik ic w hF b1 b2 b3 b4 b5 b6
    simp only [g1, g2, g3, g4, g5, g6, Bool.false_eq_true, if_false]
    exact h
  · rw [g1] at b1; rw [g2] at b2; rw [g3] at b3; rw [g4] at b4; rw [g5] at b5; rw [g6] at b6
    have h := own_100000 m eo en ec io ik ic w hF b1 b2 b3 b4 b5 b6
    simp only [g1, g2, g3, g4, g5, g6, if_true, Bool.false_eq_true, if_false]
    exact h
  · rw [g1] at b1; rw [g2] at b2; rw [g3] at b3; rw [g4] at b4; rw [g5] at b5; rw [g6] at b6
    have h := own_011000 m eo en ec io ik ic w hF b1 b2 b3 b4 b5 b6
    simp only [g1, g2, g3, g4, g5, g6, if_true, Bool.false_eq_true, if_false]
    exact h
  · rw [g1] at b1; rw [g2] at b2; rw [g3] at b3; rw [g4] at b4; rw [g5] at b5; rw [g6] at b6
    have h := own_011110 m eo en ec io ik ic w hF b1 b2 b3 b4 b5 b6
    simp only [g1, g2, g3, g4, g5, g6, if_true, Bool.false_eq_true, if_false]
    exact h
  · rw [g1] at b1; rw [g2] at b2; rw [g3] at b3; rw [g4] at b4; rw [g5] at b5; rw [g6] at b6
    have h := own_010010 m eo en ec io ik ic w hF b1 b2 b3 b4 b5 b6
    simp only [g1, g2, g3, g4, g5, g6, if_true, Bool.false_eq_true, if_false]
    exact h
  · rw [g1] at b1; rw [g2] at b2; rw [g3] at b3; rw [g4] at b4; rw [g5] at b5; rw [g6] at b6
    have h := own_010000 m eo en ec io ik ic w hF b1 b2 b3 b4 b5 b6
    simp only [g1, g2, g3, g4, g5, g6, if_true, Bool.false_eq_true, if_false]
    exact h
  · rw [g1] at b1; rw [g2] at b2; rw [g3] at b3; rw [g4] at b4; rw [g5] at b5; rw [g6] at b6
    have h := own_010100 m eo en ec io ik ic w hF b1 b2 b3 b4 b5 b6
    simp only [g1, g2, g3, g4, g5, g6, if_true, Bool.false_eq_true, if_false]
    exact h
  · rw [g1] at b1; rw [g2] at b2; rw [g3] at b3; rw [g4] at b4; rw [g5] at b5; rw [g6] at b6
    have h := own_001000 m eo en ec io ik ic w hF b1 b2 b3 b4 b5 b6
    simp only [g1, g2, g3, g4, g5, g6, if_true, Bool.false_eq_true, if_false]
    exact h
  · rw [g1] at b1; rw [g2] at b2; rw [g3] at b3; rw [g4] at b4; rw [g5] at b5; rw [g6] at b6
    have h := own_000110 m eo en ec io ik ic w hF b1 b2 b3 b4 b5 b6
    simp only [g1, g2, g3, g4, g5, g6, if_true, Bool.false_eq_true, if_false]
    exact h
  · rw [g1] at b1; rw [g2] at b2; rw [g3] at b3; rw [g4] at b4; rw [g5] at b5; rw [g6] at b6
    have h := own_000001 m eo en ec io ik ic w hF b1 b2 b3 b4 b5 b6
    simp only [g1, g2, g3, g4, g5, g6, if_true, Bool.false_eq_true, if_false]
    exact h

end Go.Proofs.YtndicjpbanmpjaaGreatDoor


namespace Go.Proofs.YtndicjpbanmpjaaGreatDoor
open Go.RowKit

theorem Msgs.c0 {w : World} {g : Nat} {m : Ms.Msg} {ve vi : Value} (h : Msgs w g m ve vi) : w.cell? ⟨g, 0, none⟩ = some (.int .i64 m.kind) := h.cell 0 _ rfl
theorem Msgs.c1 {w : World} {g : Nat} {m : Ms.Msg} {ve vi : Value} (h : Msgs w g m ve vi) : w.cell? ⟨g, 1, none⟩ = some (.int .i64 m.frm) := h.cell 1 _ rfl
theorem Msgs.c2 {w : World} {g : Nat} {m : Ms.Msg} {ve vi : Value} (h : Msgs w g m ve vi) : w.cell? ⟨g, 2, none⟩ = some (.int .i64 m.dst) := h.cell 2 _ rfl
theorem Msgs.c3 {w : World} {g : Nat} {m : Ms.Msg} {ve vi : Value} (h : Msgs w g m ve vi) : w.cell? ⟨g, 3, none⟩ = some (.int .i64 m.bal.round) := h.cell 3 _ rfl
theorem Msgs.c4 {w : World} {g : Nat} {m : Ms.Msg} {ve vi : Value} (h : Msgs w g m ve vi) : w.cell? ⟨g, 4, none⟩ = some (.int .i64 m.bal.node) := h.cell 4 _ rfl
theorem Msgs.c5 {w : World} {g : Nat} {m : Ms.Msg} {ve vi : Value} (h : Msgs w g m ve vi) : w.cell? ⟨g, 5, none⟩ = some (.int .i64 m.index) := h.cell 5 _ rfl
theorem Msgs.c6 {w : World} {g : Nat} {m : Ms.Msg} {ve vi : Value} (h : Msgs w g m ve vi) : w.cell? ⟨g, 6, none⟩ = some (.int .i64 m.commit) := h.cell 6 _ rfl
theorem Msgs.c7 {w : World} {g : Nat} {m : Ms.Msg} {ve vi : Value} (h : Msgs w g m ve vi) : w.cell? ⟨g, 7, none⟩ = some (.int .i64 m.version) := h.cell 7 _ rfl
theorem Msgs.c8 {w : World} {g : Nat} {m : Ms.Msg} {ve vi : Value} (h : Msgs w g m ve vi) : w.cell? ⟨g, 8, none⟩ = some (ve) := h.cell 8 _ rfl
theorem Msgs.c9 {w : World} {g : Nat} {m : Ms.Msg} {ve vi : Value} (h : Msgs w g m ve vi) : w.cell? ⟨g, 9, none⟩ = some (vi) := h.cell 9 _ rfl

set_option maxRecDepth 4000 in
set_option maxHeartbeats 800000 in
theorem withinM_any (n a b : Int) (w : World) : Calls Tryz.prog 95 #[.int .i64 n, .int .i64 a, .int .i64 b] w (Says w (.bool (Ms.within n a b))) := by
  obtain ⟨r, hr⟩ : ∃ r, r = Ms.within n a b := ⟨_, rfl⟩
  rw [← hr]
  unfold Ms.within at hr
  by_cases h1 : a ≤ n
  · have d1 : decide (a ≤ n) = true := decide_eq_true h1
    rw [d1, Bool.true_and] at hr
    have HR := Lib.hid hr
    clear hr
    go_enter Tryz.func95, Tryz.ntmps95
    go_wp2
    go_ret
    exact ⟨by rw [HR.out]; rfl, rfl⟩
  · have d1 : decide (a ≤ n) = false := decide_eq_false h1
    rw [d1, Bool.false_and] at hr
    have HR := Lib.hid hr
    clear hr
    go_enter Tryz.func95, Tryz.ntmps95
    go_wp2
    go_ret
    exact ⟨by rw [HR.out]; rfl, rfl⟩

set_option maxRecDepth 4000 in
set_option maxHeartbeats 800000 in
theorem nodesM_any (a b : Int) (w : World) : Calls Tryz.prog 79 #[.int .i64 a, .int .i64 b] w (Says w (.bool (Ms.nodes a b))) := by
  obtain ⟨r, hr⟩ : ∃ r, r = Ms.nodes a b := ⟨_, rfl⟩
  rw [← hr]
  unfold Ms.nodes at hr
  have hA := withinM_any a 1 9
  have hBB := withinM_any b 1 9
  obtain ⟨x, hx⟩ : ∃ x, x = Ms.within a 1 9 := ⟨_, rfl⟩
  obtain ⟨y, hy⟩ : ∃ y, y = Ms.within b 1 9 := ⟨_, rfl⟩
  rw [← hx, ← hy] at hr
  rw [← hx] at hA
  rw [← hy] at hBB
  have HA := Lib.hid hA; have HBB := Lib.hid hBB
  clear hx hy hA hBB
  cases x with
  | false =>
    have HR : Hid (r = false) := hr
    clear hr
    go_enter Tryz.func79, Tryz.ntmps79
    go_wp2_with fail
    refine (HA.out _).mono ?_
    rintro e w1 ⟨rfl, rfl⟩
    go_wp2
    go_ret
    exact ⟨by rw [HR.out]; rfl, rfl⟩
  | true =>
    cases y with
    | false =>
      have HR : Hid (r = false) := hr
      clear hr
      go_enter Tryz.func79, Tryz.ntmps79
      go_wp2_with fail
      refine (HA.out _).mono ?_
      rintro e w1 ⟨rfl, rfl⟩
      go_wp2_with fail
      refine (HBB.out _).mono ?_
      rintro e w1 ⟨rfl, rfl⟩
      go_wp2
      go_ret
      exact ⟨by rw [HR.out]; rfl, rfl⟩
    | true =>
      have HR : Hid (r = (a != b)) := by
        show _ = _
        rw [hr]
        by_cases h : a = b <;> simp [h]
      clear hr
      go_enter Tryz.func79, Tryz.ntmps79
      go_wp2_with fail
      refine (HA.out _).mono ?_
      rintro e w1 ⟨rfl, rfl⟩
      go_wp2_with fail
      refine (HBB.out _).mono ?_
      rintro e w1 ⟨rfl, rfl⟩
      go_wp2
      go_ret
      exact ⟨by rw [HR.out]; rfl, rfl⟩

set_option maxRecDepth 4000 in
set_option maxHeartbeats 800000 in
theorem ownedM_any (b : Bl.Bal) (w : World) : Calls Tryz.prog 96 #[.agg (Bl.cells b)] w (Looks w (.bool (Ms.owned b))) := by
  obtain ⟨w1, e1, hl1, hB1, hz1⟩ := box_bal w b
  obtain ⟨p0, p1⟩ := Bals.both hl1
  have HL1 := Lib.hid hl1; have HB1 := Lib.hid hB1
  obtain ⟨r, hr⟩ : ∃ r, r = Ms.owned b := ⟨_, rfl⟩
  rw [← hr]
  unfold Ms.owned at hr
  have hmay := bmay_any b w1
  obtain ⟨t, ht⟩ : ∃ t, t = Bl.may b := ⟨_, rfl⟩
  rw [← ht] at hr hmay
  have hg := guard_bal
  have hneq := fun W => run_neq_bal W b Bl.zero
  obtain ⟨z, hz⟩ : ∃ z, z = !decide (b = Bl.zero) := ⟨_, rfl⟩
  rw [← hz] at hneq
  rw [show decide (b ≠ Bl.zero) = z by rw [hz, decide_not]] at hr
  dsimp only [Bl.cells, Bl.zero] at hneq
  clear hl1 hB1 hz1 ht hz
  cases t with
  | false =>
    have HR : Hid (r = false) := hr
    clear hr
    go_enter Tryz.func96, Tryz.ntmps96
    go_wp2_with fail
    refine hmay.mono ?_
    rintro e w2 ⟨rfl, hB2⟩
    go_wp2
    go_ret
    exact ⟨by rw [HR.out]; rfl, HB1.out.trans (hB2.mono HB1.out.size)⟩
  | true =>
    have HR : Hid (r = z) := hr
    clear hr
    go_enter Tryz.func96, Tryz.ntmps96
    go_wp2_with fail
    refine hmay.mono ?_
    rintro e w2 ⟨rfl, hB2⟩
    obtain ⟨q0, q1⟩ := Bals.both (HL1.out.below hB2 HL1.out.lt)
    have HB2 := Lib.hid (HB1.out.trans (hB2.mono HB1.out.size))
    clear hB2 p0 p1
    go_wp2
    go_ret
    exact ⟨by rw [HR.out]; rfl, HB2.out⟩

set_option maxRecDepth 4000 in
set_option maxHeartbeats 1600000 in
theorem wholeM_any (m : Ms.Msg) (ve vi : Value) (w : World) (he : ReadsE w ve m.ents) (hi : Reads w vi m.img) :
    Calls Tryz.prog 83 #[.agg (Ms.cells m ve vi)] w (Looks w (.bool (Ms.whole m))) := by
  obtain ⟨w1, e1, hl1, hB1, hz1⟩ := box_msg w m ve vi
  have he1 := he.below hB1
  obtain ⟨eo, ec, rfl, hc1, hc2⟩ := ReadsE.shape he
  obtain ⟨io, ic, rfl⟩ := hi.shape
  have hic := hi.len
  have HP := Lib.hid (fun h => ReadsE.places he1 h)
  have HB1 := Lib.hid hB1
  obtain ⟨r, hr⟩ : ∃ r, r = Ms.whole m := ⟨_, rfl⟩
  rw [← hr]
  unfold Ms.whole at hr
  obtain ⟨n, hn⟩ : ∃ n, n = m.ents.length := ⟨_, rfl⟩
  obtain ⟨k, hk⟩ : ∃ k, k = m.img.length := ⟨_, rfl⟩
  rw [← hn] at hl1 hc1 HP e1 ⊢
  rw [← hk] at hr hl1 e1 hic ⊢
  obtain ⟨p0, p1, p2, p3, p4, p5, p6, p7, p8, p9⟩ := Msgs.ten hl1
  have HL1 := Lib.hid hl1
  have HN := Lib.hid hn; have HR := Lib.hid hr
  clear he hi he1 hl1 hB1 hz1 hr hn hk
  by_cases h5 : m.kind = 5
  · have d5 : (m.kind == 5) = true := by simpa using h5
    by_cases hn1 : n = 1
    · subst hn1
      obtain ⟨e, hme⟩ : ∃ e, m.ents = [e] := by
        have := HN.out
        match hm : m.ents, this with
        | [e], _ => exact ⟨e, rfl⟩
      have h0 : m.ents[0]? = some e := by rw [hme]; rfl
      obtain ⟨g, off, rfl, hgl, hcell⟩ := HP.out (by omega)
      have HC := Lib.hid (fun W h => hcell W h 0 e h0)
      have hgb := guard_bal
      have heq := fun W => run_eql_bal W e.bal m.bal
      obtain ⟨z, hz⟩ : ∃ z, z = decide (e.bal = m.bal) := ⟨_, rfl⟩
      rw [← hz] at heq
      have HZ : Hid (r = z) := by
        show _ = _
        rw [HR.out, if_pos h5, hz]
        unfold Ms.sole
        rw [hme]
      dsimp only [Bl.cells] at heq
      clear h5 hme h0 hz hcell
      have k1 := fun p : Behind w1 => (HC.out p.world p.below).c1
      have k2 := fun p : Behind w1 => (HC.out p.world p.below).c2
      simp only [Nat.zero_mul, Nat.add_zero] at k1 k2
      have k3 := fun p : Behind w1 => Msgs.c3 (HL1.out.below p.below HL1.out.lt)
      have k4 := fun p : Behind w1 => Msgs.c4 (HL1.out.below p.below HL1.out.lt)
      have k8 := fun p : Behind w1 => Msgs.c8 (HL1.out.below p.below HL1.out.lt)
      go_enter Tryz.func83, Tryz.ntmps83
      go_wp2
      refine wp_region_behind (by kernel_rfl) (by kernel_rfl) ?_
      repeat (go_big_quiet_step (fail))
      refine wpQuiet_nil ?_
      rintro w5 ⟨⟨w5, hB5⟩, rfl⟩
      (try dsimp only)
      clear k1 k2 k3 k4 k8
      all_goals
        go_wp2
        go_ret
        exact ⟨by rw [HZ.out]; rfl, HB1.out.trans (hB5.mono HB1.out.size)⟩
    · have dn : ((n : Int) == 1) = false := by simp; omega
      have HZ : Hid (r = false) := by
        show _ = _
        rw [HR.out, if_pos h5]
        unfold Ms.sole
        match hm : m.ents with
        | [] => rfl
        | [e] => have := HN.out; rw [hm] at this; simp at this; exact absurd this hn1
        | a :: b :: c => rfl
      clear h5
      have k8 := fun p : Behind w1 => Msgs.c8 (HL1.out.below p.below HL1.out.lt)
      go_enter Tryz.func83, Tryz.ntmps83
      go_wp2
      refine wp_region_behind (by kernel_rfl) (by kernel_rfl) ?_
      repeat (go_big_quiet_step (fail))
      refine wpQuiet_nil ?_
      rintro w5 ⟨⟨w5, hB5⟩, rfl⟩
      (try dsimp only)
      clear k8
      all_goals
        go_wp2
        go_ret
        exact ⟨by rw [HZ.out]; rfl, HB1.out.trans (hB5.mono HB1.out.size)⟩
  · have d5 : (m.kind == 5) = false := by simpa using h5
    have HR := Lib.hid (HR.out.trans (if_neg h5))
    by_cases h11 : m.kind = 11
    · have d11 : (m.kind == 11) = true := by simpa using h11
      have HZ : Hid (r = decide (0 < k)) := by
        show _ = _
        rw [HR.out, if_pos h11]
      clear h5 h11
      go_enter Tryz.func83, Tryz.ntmps83
      go_wp2
      go_ret
      exact ⟨by rw [HZ.out]; rfl, HB1.out⟩
    · have d11 : (m.kind == 11) = false := by simpa using h11
      have HZ : Hid (r = true) := by show _ = _; rw [HR.out, if_neg h11]
      clear h5 h11
      go_enter Tryz.func83, Tryz.ntmps83
      go_wp2
      go_ret
      exact ⟨by rw [HZ.out]; rfl, HB1.out⟩

end Go.Proofs.YtndicjpbanmpjaaGreatDoor


namespace Go.Proofs.YtndicjpbanmpjaaGreatDoor
open Go.RowKit

set_option maxRecDepth 4000 in
set_option maxHeartbeats 1600000 in
theorem range_0000 (m : Ms.Msg) (ve vi : Value) (w : World) (hF : FieldsIn w) (h0 : Ms.bit m.kind 1 = false) (h1 : Ms.bit m.kind 2 = false) (h2 : Ms.bit m.kind 4 = false) (h3 : Ms.bit m.kind 8 = false) (r : Bool) (hr : r = true) :
    Calls Tryz.prog 80 #[.agg (Ms.cells m ve vi)] w (Looks w (.bool r)) := by
  obtain ⟨w1, e1, hl1, hB1, hz1⟩ := box_msg w m ve vi
  obtain ⟨p0, p1, p2, p3, p4, p5, p6, p7, p8, p9⟩ := Msgs.ten hl1
  have HM1 := Lib.hid hl1; have HB1 := Lib.hid hB1
  have HF1 := Lib.hid (hF.below hB1)
  have HR := Lib.hid hr
  clear hl1 hB1 hz1 hF hr
  go_enter Tryz.func80, Tryz.ntmps80
  go_wp2_with fail
  refine (hasM_any m ve vi 1 false _ HF1.out h0).mono ?_
  rintro e2 w2 ⟨rfl, hb⟩
  have HM2 := Lib.hid (HM1.out.below hb HM1.out.lt)
  have HF2 := Lib.hid (HF1.out.below hb); have HB2 := Lib.hid (HB1.out.trans (hb.mono HB1.out.size))
  clear hb p0 p1 p2 p3 p4 p5 p6 p7 p8 p9
  obtain ⟨p0, p1, p2, p3, p4, p5, p6, p7, p8, p9⟩ := Msgs.ten HM2.out
  go_wp2_with fail
  refine (hasM_any m ve vi 2 false _ HF2.out h1).mono ?_
  rintro e3 w3 ⟨rfl, hb⟩
  have HM3 := Lib.hid (HM2.out.below hb HM2.out.lt)
  have HF3 := Lib.hid (HF2.out.below hb); have HB3 := Lib.hid (HB2.out.trans (hb.mono HB2.out.size))
  clear hb p0 p1 p2 p3 p4 p5 p6 p7 p8 p9
  obtain ⟨p0, p1, p2, p3, p4, p5, p6, p7, p8, p9⟩ := Msgs.ten HM3.out
  go_wp2_with fail
  refine (hasM_any m ve vi 4 false _ HF3.out h2).mono ?_
  rintro e4 w4 ⟨rfl, hb⟩
  have HM4 := Lib.hid (HM3.out.below hb HM3.out.lt)
  have HF4 := Lib.hid (HF3.out.below hb); have HB4 := Lib.hid (HB3.out.trans (hb.mono HB3.out.size))
  clear hb p0 p1 p2 p3 p4 p5 p6 p7 p8 p9
  obtain ⟨p0, p1, p2, p3, p4, p5, p6, p7, p8, p9⟩ := Msgs.ten HM4.out
  go_wp2_with fail
  refine (hasM_any m ve vi 8 false _ HF4.out h3).mono ?_
  rintro e5 w5 ⟨rfl, hb⟩
  have HM5 := Lib.hid (HM4.out.below hb HM4.out.lt)
  have HF5 := Lib.hid (HF4.out.below hb); have HB5 := Lib.hid (HB4.out.trans (hb.mono HB4.out.size))
  clear hb p0 p1 p2 p3 p4 p5 p6 p7 p8 p9
  obtain ⟨p0, p1, p2, p3, p4, p5, p6, p7, p8, p9⟩ := Msgs.ten HM5.out
  go_wp2
  have HZ : Hid (r = true) := HR.out.trans (by simp)
  go_ret
  exact ⟨by rw [HZ.out]; rfl, HB5.out⟩

set_option maxRecDepth 4000 in
set_option maxHeartbeats 1600000 in
theorem range_1000 (m : Ms.Msg) (ve vi : Value) (w : World) (hF : FieldsIn w) (h0 : Ms.bit m.kind 1 = true) (h1 : Ms.bit m.kind 2 = false) (h2 : Ms.bit m.kind 4 = false) (h3 : Ms.bit m.kind 8 = false) (r : Bool) (hr : r = Vs.may m.version) :
    Calls Tryz.prog 80 #[.agg (Ms.cells m ve vi)] w (Looks w (.bool r)) := by
  obtain ⟨w1, e1, hl1, hB1, hz1⟩ := box_msg w m ve vi
  obtain ⟨p0, p1, p2, p3, p4, p5, p6, p7, p8, p9⟩ := Msgs.ten hl1
  have HM1 := Lib.hid hl1; have HB1 := Lib.hid hB1
  have HF1 := Lib.hid (hF.below hB1)
  have hT0 := fun W => may_any m.version W
  obtain ⟨x0, hx0⟩ : ∃ x, x = Vs.may m.version := ⟨_, rfl⟩
  rw [← hx0] at hr hT0
  have HT0 := Lib.hid hT0
  have HR := Lib.hid hr
  clear hl1 hB1 hz1 hF hr hx0 hT0
  go_enter Tryz.func80, Tryz.ntmps80
  go_wp2_with fail
  refine (hasM_any m ve vi 1 true _ HF1.out h0).mono ?_
  rintro e2 w2 ⟨rfl, hb⟩
  have HM2 := Lib.hid (HM1.out.below hb HM1.out.lt)
  have HF2 := Lib.hid (HF1.out.below hb); have HB2 := Lib.hid (HB1.out.trans (hb.mono HB1.out.size))
  clear hb p0 p1 p2 p3 p4 p5 p6 p7 p8 p9
  obtain ⟨p0, p1, p2, p3, p4, p5, p6, p7, p8, p9⟩ := Msgs.ten HM2.out
  go_wp2_with fail
  refine (HT0.out _).mono ?_
  rintro e99 w99 ⟨rfl, rfl⟩
  cases x0 with
  | false =>
    have HZ : Hid (r = false) := HR.out.trans (by simp)
    go_wp2
    go_ret
    exact ⟨by rw [HZ.out]; rfl, HB2.out⟩
  | true =>
    go_wp2_with fail
    refine (hasM_any m ve vi 2 false _ HF2.out h1).mono ?_
    rintro e3 w3 ⟨rfl, hb⟩
    have HM3 := Lib.hid (HM2.out.below hb HM2.out.lt)
    have HF3 := Lib.hid (HF2.out.below hb); have HB3 := Lib.hid (HB2.out.trans (hb.mono HB2.out.size))
    clear hb p0 p1 p2 p3 p4 p5 p6 p7 p8 p9
    obtain ⟨p0, p1, p2, p3, p4, p5, p6, p7, p8, p9⟩ := Msgs.ten HM3.out
    go_wp2_with fail
    refine (hasM_any m ve vi 4 false _ HF3.out h2).mono ?_
    rintro e4 w4 ⟨rfl, hb⟩
    have HM4 := Lib.hid (HM3.out.below hb HM3.out.lt)
    have HF4 := Lib.hid (HF3.out.below hb); have HB4 := Lib.hid (HB3.out.trans (hb.mono HB3.out.size))
    clear hb p0 p1 p2 p3 p4 p5 p6 p7 p8 p9
    obtain ⟨p0, p1, p2, p3, p4, p5, p6, p7, p8, p9⟩ := Msgs.ten HM4.out
    go_wp2_with fail
    refine (hasM_any m ve vi 8 false _ HF4.out h3).mono ?_
    rintro e5 w5 ⟨rfl, hb⟩
    have HM5 := Lib.hid (HM4.out.below hb HM4.out.lt)
    have HF5 := Lib.hid (HF4.out.below hb); have HB5 := Lib.hid (HB4.out.trans (hb.mono HB4.out.size))
    clear hb p0 p1 p2 p3 p4 p5 p6 p7 p8 p9
    obtain ⟨p0, p1, p2, p3, p4, p5, p6, p7, p8, p9⟩ := Msgs.ten HM5.out
    go_wp2
    have HZ : Hid (r = true) := HR.out.trans (by simp)
    go_ret
    exact ⟨by rw [HZ.out]; rfl, HB5.out⟩

set_option maxRecDepth 4000 in
set_option maxHeartbeats 1600000 in
theorem range_0110 (m : Ms.Msg) (ve vi : Value) (w : World) (hF : FieldsIn w) (h0 : Ms.bit m.kind 1 = false) (h1 : Ms.bit m.kind 2 = true) (h2 : Ms.bit m.kind 4 = true) (h3 : Ms.bit m.kind 8 = false) (r : Bool) (hr : r = (Ms.owned m.bal && Ms.within m.index 1 4294967296)) :
    Calls Tryz.prog 80 #[.agg (Ms.cells m ve vi)] w (Looks w (.bool r)) := by
  obtain ⟨w1, e1, hl1, hB1, hz1⟩ := box_msg w m ve vi
  obtain ⟨p0, p1, p2, p3, p4, p5, p6, p7, p8, p9⟩ := Msgs.ten hl1
  have HM1 := Lib.hid hl1; have HB1 := Lib.hid hB1
  have HF1 := Lib.hid (hF.below hB1)
  have hT1 := fun W => ownedM_any m.bal W
  obtain ⟨x1, hx1⟩ : ∃ x, x = Ms.owned m.bal := ⟨_, rfl⟩
  rw [← hx1] at hr hT1
  have HT1 := Lib.hid hT1
  have hT2 := fun W => withinM_any m.index 1 4294967296 W
  obtain ⟨x2, hx2⟩ : ∃ x, x = Ms.within m.index 1 4294967296 := ⟨_, rfl⟩
  rw [← hx2] at hr hT2
  have HT2 := Lib.hid hT2
  have HR := Lib.hid hr
  clear hl1 hB1 hz1 hF hr hx1 hT1 hx2 hT2
  go_enter Tryz.func80, Tryz.ntmps80
  go_wp2_with fail
  refine (hasM_any m ve vi 1 false _ HF1.out h0).mono ?_
  rintro e2 w2 ⟨rfl, hb⟩
  have HM2 := Lib.hid (HM1.out.below hb HM1.out.lt)
  have HF2 := Lib.hid (HF1.out.below hb); have HB2 := Lib.hid (HB1.out.trans (hb.mono HB1.out.size))
  clear hb p0 p1 p2 p3 p4 p5 p6 p7 p8 p9
  obtain ⟨p0, p1, p2, p3, p4, p5, p6, p7, p8, p9⟩ := Msgs.ten HM2.out
  go_wp2_with fail
  refine (hasM_any m ve vi 2 true _ HF2.out h1).mono ?_
  rintro e3 w3 ⟨rfl, hb⟩
  have HM3 := Lib.hid (HM2.out.below hb HM2.out.lt)
  have HF3 := Lib.hid (HF2.out.below hb); have HB3 := Lib.hid (HB2.out.trans (hb.mono HB2.out.size))
  clear hb p0 p1 p2 p3 p4 p5 p6 p7 p8 p9
  obtain ⟨p0, p1, p2, p3, p4, p5, p6, p7, p8, p9⟩ := Msgs.ten HM3.out
  go_wp2_with fail
  refine (HT1.out _).mono ?_
  rintro e4 w4 ⟨rfl, hb⟩
  have HM4 := Lib.hid (HM3.out.below hb HM3.out.lt)
  have HF4 := Lib.hid (HF3.out.below hb); have HB4 := Lib.hid (HB3.out.trans (hb.mono HB3.out.size))
  clear hb p0 p1 p2 p3 p4 p5 p6 p7 p8 p9
  obtain ⟨p0, p1, p2, p3, p4, p5, p6, p7, p8, p9⟩ := Msgs.ten HM4.out
  cases x1 with
  | false =>
    have HZ : Hid (r = false) := HR.out.trans (by simp)
    go_wp2
    go_ret
    exact ⟨by rw [HZ.out]; rfl, HB4.out⟩
  | true =>
    go_wp2_with fail
    refine (hasM_any m ve vi 4 true _ HF4.out h2).mono ?_
    rintro e5 w5 ⟨rfl, hb⟩
    have HM5 := Lib.hid (HM4.out.below hb HM4.out.lt)
    have HF5 := Lib.hid (HF4.out.below hb); have HB5 := Lib.hid (HB4.out.trans (hb.mono HB4.out.size))
    clear hb p0 p1 p2 p3 p4 p5 p6 p7 p8 p9
    obtain ⟨p0, p1, p2, p3, p4, p5, p6, p7, p8, p9⟩ := Msgs.ten HM5.out
    go_wp2_with fail
    refine (HT2.out _).mono ?_
    rintro e99 w99 ⟨rfl, rfl⟩
    cases x2 with
    | false =>
      have HZ : Hid (r = false) := HR.out.trans (by simp)
      go_wp2
      go_ret
      exact ⟨by rw [HZ.out]; rfl, HB5.out⟩
    | true =>
      go_wp2_with fail
      refine (hasM_any m ve vi 8 false _ HF5.out h3).mono ?_
      rintro e6 w6 ⟨rfl, hb⟩
      have HM6 := Lib.hid (HM5.out.below hb HM5.out.lt)
      have HF6 := Lib.hid (HF5.out.below hb); have HB6 := Lib.hid (HB5.out.trans (hb.mono HB5.out.size))
      clear hb p0 p1 p2 p3 p4 p5 p6 p7 p8 p9
      obtain ⟨p0, p1, p2, p3, p4, p5, p6, p7, p8, p9⟩ := Msgs.ten HM6.out
      go_wp2
      have HZ : Hid (r = true) := HR.out.trans (by simp)
      go_ret
      exact ⟨by rw [HZ.out]; rfl, HB6.out⟩

set_option maxRecDepth 4000 in
set_option maxHeartbeats 1600000 in
theorem range_0111 (m : Ms.Msg) (ve vi : Value) (w : World) (hF : FieldsIn w) (h0 : Ms.bit m.kind 1 = false) (h1 : Ms.bit m.kind 2 = true) (h2 : Ms.bit m.kind 4 = true) (h3 : Ms.bit m.kind 8 = true) (r : Bool) (hr : r = (Ms.owned m.bal && (Ms.within m.index 1 4294967296 && Ms.within m.commit 0 4294967296))) :
    Calls Tryz.prog 80 #[.agg (Ms.cells m ve vi)] w (Looks w (.bool r)) := by
  obtain ⟨w1, e1, hl1, hB1, hz1⟩ := box_msg w m ve vi
  obtain ⟨p0, p1, p2, p3, p4, p5, p6, p7, p8, p9⟩ := Msgs.ten hl1
  have HM1 := Lib.hid hl1; have HB1 := Lib.hid hB1
  have HF1 := Lib.hid (hF.below hB1)
  have hT1 := fun W => ownedM_any m.bal W
  obtain ⟨x1, hx1⟩ : ∃ x, x = Ms.owned m.bal := ⟨_, rfl⟩
  rw [← hx1] at hr hT1
  have HT1 := Lib.hid hT1
  have hT2 := fun W => withinM_any m.index 1 4294967296 W
  obtain ⟨x2, hx2⟩ : ∃ x, x = Ms.within m.index 1 4294967296 := ⟨_, rfl⟩
  rw [← hx2] at hr hT2
  have HT2 := Lib.hid hT2
  have hT3 := fun W => withinM_any m.commit 0 4294967296 W
  obtain ⟨x3, hx3⟩ : ∃ x, x = Ms.within m.commit 0 4294967296 := ⟨_, rfl⟩
  rw [← hx3] at hr hT3
  have HT3 := Lib.hid hT3
  have HR := Lib.hid hr
  clear hl1 hB1 hz1 hF hr hx1 hT1 hx2 hT2 hx3 hT3
  go_enter Tryz.func80, Tryz.ntmps80
  go_wp2_with fail
  refine (hasM_any m ve vi 1 false _ HF1.out h0).mono ?_
  rintro e2 w2 ⟨rfl, hb⟩
  have HM2 := Lib.hid (HM1.out.below hb HM1.out.lt)
  have HF2 := Lib.hid (HF1.out.below hb); have HB2 := Lib.hid (HB1.out.trans (hb.mono HB1.out.size))
  clear hb p0 p1 p2 p3 p4 p5 p6 p7 p8 p9
  obtain ⟨p0, p1, p2, p3, p4, p5, p6, p7, p8, p9⟩ := Msgs.ten HM2.out
  go_wp2_with fail
  refine (hasM_any m ve vi 2 true _ HF2.out h1).mono ?_
  rintro e3 w3 ⟨rfl, hb⟩
  have HM3 := Lib.hid (HM2.out.below hb HM2.out.lt)
  have HF3 := Lib.hid (HF2.out.below hb); have HB3 := Lib.hid (HB2.out.trans (hb.mono HB2.out.size))
  clear hb p0 p1 p2 p3 p4 p5 p6 p7 p8 p9
  obtain ⟨p0, p1, p2, p3, p4, p5, p6, p7, p8, p9⟩ := Msgs.ten HM3.out
  go_wp2_with fail
  refine (HT1.out _).mono ?_
  rintro e4 w4 ⟨rfl, hb⟩
  have HM4 := Lib.hid (HM3.out.below hb HM3.out.lt)
  have HF4 := Lib.hid (HF3.out.below hb); have HB4 := Lib.hid (HB3.out.trans (hb.mono HB3.out.size))
  clear hb p0 p1 p2 p3 p4 p5 p6 p7 p8 p9
  obtain ⟨p0, p1, p2, p3, p4, p5, p6, p7, p8, p9⟩ := Msgs.ten HM4.out
  cases x1 with
  | false =>
    have HZ : Hid (r = false) := HR.out.trans (by simp)
    go_wp2
    go_ret
    exact ⟨by rw [HZ.out]; rfl, HB4.out⟩
  | true =>
    go_wp2_with fail
    refine (hasM_any m ve vi 4 true _ HF4.out h2).mono ?_
    rintro e5 w5 ⟨rfl, hb⟩
    have HM5 := Lib.hid (HM4.out.below hb HM4.out.lt)
    have HF5 := Lib.hid (HF4.out.below hb); have HB5 := Lib.hid (HB4.out.trans (hb.mono HB4.out.size))
    clear hb p0 p1 p2 p3 p4 p5 p6 p7 p8 p9
    obtain ⟨p0, p1, p2, p3, p4, p5, p6, p7, p8, p9⟩ := Msgs.ten HM5.out
    go_wp2_with fail
    refine (HT2.out _).mono ?_
    rintro e99 w99 ⟨rfl, rfl⟩
    cases x2 with
    | false =>
      have HZ : Hid (r = false) := HR.out.trans (by simp)
      go_wp2
      go_ret
      exact ⟨by rw [HZ.out]; rfl, HB5.out⟩
    | true =>
      go_wp2_with fail
      refine (hasM_any m ve vi 8 true _ HF5.out h3).mono ?_
      rintro e6 w6 ⟨rfl, hb⟩
      have HM6 := Lib.hid (HM5.out.below hb HM5.out.lt)
      have HF6 := Lib.hid (HF5.out.below hb); have HB6 := Lib.hid (HB5.out.trans (hb.mono HB5.out.size))
      clear hb p0 p1 p2 p3 p4 p5 p6 p7 p8 p9
      obtain ⟨p0, p1, p2, p3, p4, p5, p6, p7, p8, p9⟩ := Msgs.ten HM6.out
      go_wp2_with fail
      refine (HT3.out _).mono ?_
      rintro e99 w99 ⟨rfl, rfl⟩
      cases x3 with
      | false =>
        have HZ : Hid (r = false) := HR.out.trans (by simp)
        go_wp2
        go_ret
        exact ⟨by rw [HZ.out]; rfl, HB6.out⟩
      | true =>
        go_wp2
        have HZ : Hid (r = true) := HR.out.trans (by simp)
        go_ret
        exact ⟨by rw [HZ.out]; rfl, HB6.out⟩

set_option maxRecDepth 4000 in
set_option maxHeartbeats 1600000 in
theorem range_0100 (m : Ms.Msg) (ve vi : Value) (w : World) (hF : FieldsIn w) (h0 : Ms.bit m.kind 1 = false) (h1 : Ms.bit m.kind 2 = true) (h2 : Ms.bit m.kind 4 = false) (h3 : Ms.bit m.kind 8 = false) (r : Bool) (hr : r = Ms.owned m.bal) :
    Calls Tryz.prog 80 #[.agg (Ms.cells m ve vi)] w (Looks w (.bool r)) := by
  obtain ⟨w1, e1, hl1, hB1, hz1⟩ := box_msg w m ve vi
  obtain ⟨p0, p1, p2, p3, p4, p5, p6, p7, p8, p9⟩ := Msgs.ten hl1
  have HM1 := Lib.hid hl1; have HB1 := Lib.hid hB1
  have HF1 := Lib.hid (hF.below hB1)
  have hT1 := fun W => ownedM_any m.bal W
  obtain ⟨x1, hx1⟩ : ∃ x, x = Ms.owned m.bal := ⟨_, rfl⟩
  rw [← hx1] at hr hT1
  have HT1 := Lib.hid hT1
  have HR := Lib.hid hr
  clear hl1 hB1 hz1 hF hr hx1 hT1
  go_enter Tryz.func80, Tryz.ntmps80
  go_wp2_with fail
  refine (hasM_any m ve vi 1 false _ HF1.out h0).mono ?_
  rintro e2 w2 ⟨rfl, hb⟩
  have HM2 := Lib.hid (HM1.out.below hb HM1.out.lt)
  have HF2 := Lib.hid (HF1.out.below hb); have HB2 := Lib.hid (HB1.out.trans (hb.mono HB1.out.size))
  clear hb p0 p1 p2 p3 p4 p5 p6 p7 p8 p9
  obtain ⟨p0, p1, p2, p3, p4, p5, p6, p7, p8, p9⟩ := Msgs.ten HM2.out
  go_wp2_with fail
  refine (hasM_any m ve vi 2 true _ HF2.out h1).mono ?_
  rintro e3 w3 ⟨rfl, hb⟩
  have HM3 := Lib.hid (HM2.out.below hb HM2.out.lt)
  have HF3 := Lib.hid (HF2.out.below hb); have HB3 := Lib.hid (HB2.out.trans (hb.mono HB2.out.size))
  clear hb p0 p1 p2 p3 p4 p5 p6 p7 p8 p9
  obtain ⟨p0, p1, p2, p3, p4, p5, p6, p7, p8, p9⟩ := Msgs.ten HM3.out
  go_wp2_with fail
  refine (HT1.out _).mono ?_
  rintro e4 w4 ⟨rfl, hb⟩
  have HM4 := Lib.hid (HM3.out.below hb HM3.out.lt)
  have HF4 := Lib.hid (HF3.out.below hb); have HB4 := Lib.hid (HB3.out.trans (hb.mono HB3.out.size))
  clear hb p0 p1 p2 p3 p4 p5 p6 p7 p8 p9
  obtain ⟨p0, p1, p2, p3, p4, p5, p6, p7, p8, p9⟩ := Msgs.ten HM4.out
  cases x1 with
  | false =>
    have HZ : Hid (r = false) := HR.out.trans (by simp)
    go_wp2
    go_ret
    exact ⟨by rw [HZ.out]; rfl, HB4.out⟩
  | true =>
    go_wp2_with fail
    refine (hasM_any m ve vi 4 false _ HF4.out h2).mono ?_
    rintro e5 w5 ⟨rfl, hb⟩
    have HM5 := Lib.hid (HM4.out.below hb HM4.out.lt)
    have HF5 := Lib.hid (HF4.out.below hb); have HB5 := Lib.hid (HB4.out.trans (hb.mono HB4.out.size))
    clear hb p0 p1 p2 p3 p4 p5 p6 p7 p8 p9
    obtain ⟨p0, p1, p2, p3, p4, p5, p6, p7, p8, p9⟩ := Msgs.ten HM5.out
    go_wp2_with fail
    refine (hasM_any m ve vi 8 false _ HF5.out h3).mono ?_
    rintro e6 w6 ⟨rfl, hb⟩
    have HM6 := Lib.hid (HM5.out.below hb HM5.out.lt)
    have HF6 := Lib.hid (HF5.out.below hb); have HB6 := Lib.hid (HB5.out.trans (hb.mono HB5.out.size))
    clear hb p0 p1 p2 p3 p4 p5 p6 p7 p8 p9
    obtain ⟨p0, p1, p2, p3, p4, p5, p6, p7, p8, p9⟩ := Msgs.ten HM6.out
    go_wp2
    have HZ : Hid (r = true) := HR.out.trans (by simp)
    go_ret
    exact ⟨by rw [HZ.out]; rfl, HB6.out⟩

set_option maxRecDepth 4000 in
set_option maxHeartbeats 1600000 in
theorem range_0101 (m : Ms.Msg) (ve vi : Value) (w : World) (hF : FieldsIn w) (h0 : Ms.bit m.kind 1 = false) (h1 : Ms.bit m.kind 2 = true) (h2 : Ms.bit m.kind 4 = false) (h3 : Ms.bit m.kind 8 = true) (r : Bool) (hr : r = (Ms.owned m.bal && Ms.within m.commit 0 4294967296)) :
    Calls Tryz.prog 80 #[.agg (Ms.cells m ve vi)] w (Looks w (.bool r)) := by
  obtain ⟨w1, e1, hl1, hB1, hz1⟩ := box_msg w m ve vi
  obtain ⟨p0, p1, p2, p3, p4, p5, p6, p7, p8, p9⟩ := Msgs.ten hl1
  have HM1 := Lib.hid hl1; have HB1 := Lib.hid hB1
  have HF1 := Lib.hid (hF.below hB1)
  have hT1 := fun W => ownedM_any m.bal W
  obtain ⟨x1, hx1⟩ : ∃ x, x = Ms.owned m.bal := ⟨_, rfl⟩
  rw [← hx1] at hr hT1
  have HT1 := Lib.hid hT1
  have hT3 := fun W => withinM_any m.commit 0 4294967296 W
  obtain ⟨x3, hx3⟩ : ∃ x, x = Ms.within m.commit 0 4294967296 := ⟨_, rfl⟩
  rw [← hx3] at hr hT3
  have HT3 := Lib.hid hT3
  have HR := Lib.hid hr
  clear hl1 hB1 hz1 hF hr hx1 hT1 hx3 hT3
  go_enter Tryz.func80, Tryz.ntmps80
  go_wp2_with fail
  refine (hasM_any m ve vi 1 false _ HF1.out h0).mono ?_
  rintro e2 w2 ⟨rfl, hb⟩
  have HM2 := Lib.hid (HM1.out.below hb HM1.out.lt)
  have HF2 := Lib.hid (HF1.out.below hb); have HB2 := Lib.hid (HB1.out.trans (hb.mono HB1.out.size))
  clear hb p0 p1 p2 p3 p4 p5 p6 p7 p8 p9
  obtain ⟨p0, p1, p2, p3, p4, p5, p6, p7, p8, p9⟩ := Msgs.ten HM2.out
  go_wp2_with fail
  refine (hasM_any m ve vi 2 true _ HF2.out h1).mono ?_
  rintro e3 w3 ⟨rfl, hb⟩
  have HM3 := Lib.hid (HM2.out.below hb HM2.out.lt)
  have HF3 := Lib.hid (HF2.out.below hb); have HB3 := Lib.hid (HB2.out.trans (hb.mono HB2.out.size))
  clear hb p0 p1 p2 p3 p4 p5 p6 p7 p8 p9
  obtain ⟨p0, p1, p2, p3, p4, p5, p6, p7, p8, p9⟩ := Msgs.ten HM3.out
  go_wp2_with fail
  refine (HT1.out _).mono ?_
  rintro e4 w4 ⟨rfl, hb⟩
  have HM4 := Lib.hid (HM3.out.below hb HM3.out.lt)
  have HF4 := Lib.hid (HF3.out.below hb); have HB4 := Lib.hid (HB3.out.trans (hb.mono HB3.out.size))
  clear hb p0 p1 p2 p3 p4 p5 p6 p7 p8 p9
  obtain ⟨p0, p1, p2, p3, p4, p5, p6, p7, p8, p9⟩ := Msgs.ten HM4.out
  cases x1 with
  | false =>
    have HZ : Hid (r = false) := HR.out.trans (by simp)
    go_wp2
    go_ret
    exact ⟨by rw [HZ.out]; rfl, HB4.out⟩
  | true =>
    go_wp2_with fail
    refine (hasM_any m ve vi 4 false _ HF4.out h2).mono ?_
    rintro e5 w5 ⟨rfl, hb⟩
    have HM5 := Lib.hid (HM4.out.below hb HM4.out.lt)
    have HF5 := Lib.hid (HF4.out.below hb); have HB5 := Lib.hid (HB4.out.trans (hb.mono HB4.out.size))
    clear hb p0 p1 p2 p3 p4 p5 p6 p7 p8 p9
    obtain ⟨p0, p1, p2, p3, p4, p5, p6, p7, p8, p9⟩ := Msgs.ten HM5.out
    go_wp2_with fail
    refine (hasM_any m ve vi 8 true _ HF5.out h3).mono ?_
    rintro e6 w6 ⟨rfl, hb⟩
    have HM6 := Lib.hid (HM5.out.below hb HM5.out.lt)
    have HF6 := Lib.hid (HF5.out.below hb); have HB6 := Lib.hid (HB5.out.trans (hb.mono HB5.out.size))
    clear hb p0 p1 p2 p3 p4 p5 p6 p7 p8 p9
    obtain ⟨p0, p1, p2, p3, p4, p5, p6, p7, p8, p9⟩ := Msgs.ten HM6.out
    go_wp2_with fail
    refine (HT3.out _).mono ?_
    rintro e99 w99 ⟨rfl, rfl⟩
    cases x3 with
    | false =>
      have HZ : Hid (r = false) := HR.out.trans (by simp)
      go_wp2
      go_ret
      exact ⟨by rw [HZ.out]; rfl, HB6.out⟩
    | true =>
      go_wp2
      have HZ : Hid (r = true) := HR.out.trans (by simp)
      go_ret
      exact ⟨by rw [HZ.out]; rfl, HB6.out⟩

set_option maxRecDepth 4000 in
set_option maxHeartbeats 1600000 in
theorem range_0010 (m : Ms.Msg) (ve vi : Value) (w : World) (hF : FieldsIn w) (h0 : Ms.bit m.kind 1 = false) (h1 : Ms.bit m.kind 2 = false) (h2 : Ms.bit m.kind 4 = true) (h3 : Ms.bit m.kind 8 = false) (r : Bool) (hr : r = Ms.within m.index 1 4294967296) :
    Calls Tryz.prog 80 #[.agg (Ms.cells m ve vi)] w (Looks w (.bool r)) := by
  obtain ⟨w1, e1, hl1, hB1, hz1⟩ := box_msg w m ve vi
  obtain ⟨p0, p1, p2, p3, p4, p5, p6, p7, p8, p9⟩ := Msgs.ten hl1
  have HM1 := Lib.hid hl1; have HB1 := Lib.hid hB1
  have HF1 := Lib.hid (hF.below hB1)
  have hT2 := fun W => withinM_any m.index 1 4294967296 W
  obtain ⟨x2, hx2⟩ : ∃ x, x = Ms.within m.index 1 4294967296 := ⟨_, rfl⟩
  rw [← hx2] at hr hT2
  have HT2 := Lib.hid hT2
  have HR := Lib.hid hr
  clear hl1 hB1 hz1 hF hr hx2 hT2
  go_enter Tryz.func80, Tryz.ntmps80
  go_wp2_with fail
  refine (hasM_any m ve vi 1 false _ HF1.out h0).mono ?_
  rintro e2 w2 ⟨rfl, hb⟩
  have HM2 := Lib.hid (HM1.out.below hb HM1.out.lt)
  have HF2 := Lib.hid (HF1.out.below hb); have HB2 := Lib.hid (HB1.out.trans (hb.mono HB1.out.size))
  clear hb p0 p1 p2 p3 p4 p5 p6 p7 p8 p9
  obtain ⟨p0, p1, p2, p3, p4, p5, p6, p7, p8, p9⟩ := Msgs.ten HM2.out
  go_wp2_with fail
  refine (hasM_any m ve vi 2 false _ HF2.out h1).mono ?_
  rintro e3 w3 ⟨rfl, hb⟩
  have HM3 := Lib.hid (HM2.out.below hb HM2.out.lt)
  have HF3 := Lib.hid (HF2.out.below hb); have HB3 := Lib.hid (HB2.out.trans (hb.mono HB2.out.size))
  clear hb p0 p1 p2 p3 p4 p5 p6 p7 p8 p9
  obtain ⟨p0, p1, p2, p3, p4, p5, p6, p7, p8, p9⟩ := Msgs.ten HM3.out
  go_wp2_with fail
  refine (hasM_any m ve vi 4 true _ HF3.out h2).mono ?_
  rintro e4 w4 ⟨rfl, hb⟩
  have HM4 := Lib.hid (HM3.out.below hb HM3.out.lt)
  have HF4 := Lib.hid (HF3.out.below hb); have HB4 := Lib.hid (HB3.out.trans (hb.mono HB3.out.size))
  clear hb p0 p1 p2 p3 p4 p5 p6 p7 p8 p9
  obtain ⟨p0, p1, p2, p3, p4, p5, p6, p7, p8, p9⟩ := Msgs.ten HM4.out
  go_wp2_with fail
  refine (HT2.out _).mono ?_
  rintro e99 w99 ⟨rfl, rfl⟩
  cases x2 with
  | false =>
    have HZ : Hid (r = false) := HR.out.trans (by simp)
    go_wp2
    go_ret
    exact ⟨by rw [HZ.out]; rfl, HB4.out⟩
  | true =>
    go_wp2_with fail
    refine (hasM_any m ve vi 8 false _ HF4.out h3).mono ?_
    rintro e5 w5 ⟨rfl, hb⟩
    have HM5 := Lib.hid (HM4.out.below hb HM4.out.lt)
    have HF5 := Lib.hid (HF4.out.below hb); have HB5 := Lib.hid (HB4.out.trans (hb.mono HB4.out.size))
    clear hb p0 p1 p2 p3 p4 p5 p6 p7 p8 p9
    obtain ⟨p0, p1, p2, p3, p4, p5, p6, p7, p8, p9⟩ := Msgs.ten HM5.out
    go_wp2
    have HZ : Hid (r = true) := HR.out.trans (by simp)
    go_ret
    exact ⟨by rw [HZ.out]; rfl, HB5.out⟩

set_option maxRecDepth 4000 in
set_option maxHeartbeats 1600000 in
theorem range_0001 (m : Ms.Msg) (ve vi : Value) (w : World) (hF : FieldsIn w) (h0 : Ms.bit m.kind 1 = false) (h1 : Ms.bit m.kind 2 = false) (h2 : Ms.bit m.kind 4 = false) (h3 : Ms.bit m.kind 8 = true) (r : Bool) (hr : r = Ms.within m.commit 0 4294967296) :
    Calls Tryz.prog 80 #[.agg (Ms.cells m ve vi)] w (Looks w (.bool r)) := by
  obtain ⟨w1, e1, hl1, hB1, hz1⟩ := box_msg w m ve vi
  obtain ⟨p0, p1, p2, p3, p4, p5, p6, p7, p8, p9⟩ := Msgs.ten hl1
  have HM1 := Lib.hid hl1; have HB1 := Lib.hid hB1
  have HF1 := Lib.hid (hF.below hB1)
  have hT3 := fun W => withinM_any m.commit 0 4294967296 W
  obtain ⟨x3, hx3⟩ : ∃ x, x = Ms.within m.commit 0 4294967296 := ⟨_, rfl⟩
  rw [← hx3] at hr hT3
  have HT3 := Lib.hid hT3
  have HR := Lib.hid hr
  clear hl1 hB1 hz1 hF hr hx3 hT3
  go_enter Tryz.func80, Tryz.ntmps80
  go_wp2_with fail
  refine (hasM_any m ve vi 1 false _ HF1.out h0).mono ?_
  rintro e2 w2 ⟨rfl, hb⟩
  have HM2 := Lib.hid (HM1.out.below hb HM1.out.lt)
  have HF2 := Lib.hid (HF1.out.below hb); have HB2 := Lib.hid (HB1.out.trans (hb.mono HB1.out.size))
  clear hb p0 p1 p2 p3 p4 p5 p6 p7 p8 p9
  obtain ⟨p0, p1, p2, p3, p4, p5, p6, p7, p8, p9⟩ := Msgs.ten HM2.out
  go_wp2_with fail
  refine (hasM_any m ve vi 2 false _ HF2.out h1).mono ?_
  rintro e3 w3 ⟨rfl, hb⟩
  have HM3 := Lib.hid (HM2.out.below hb HM2.out.lt)
  have HF3 := Lib.hid (HF2.out.below hb); have HB3 := Lib.hid (HB2.out.trans (hb.mono HB2.out.size))
  clear hb p0 p1 p2 p3 p4 p5 p6 p7 p8 p9
  obtain ⟨p0, p1, p2, p3, p4, p5, p6, p7, p8, p9⟩ := Msgs.ten HM3.out
  go_wp2_with fail
  refine (hasM_any m ve vi 4 false _ HF3.out h2).mono ?_
  rintro e4 w4 ⟨rfl, hb⟩
  have HM4 := Lib.hid (HM3.out.below hb HM3.out.lt)
  have HF4 := Lib.hid (HF3.out.below hb); have HB4 := Lib.hid (HB3.out.trans (hb.mono HB3.out.size))
  clear hb p0 p1 p2 p3 p4 p5 p6 p7 p8 p9
  obtain ⟨p0, p1, p2, p3, p4, p5, p6, p7, p8, p9⟩ := Msgs.ten HM4.out
  go_wp2_with fail
  refine (hasM_any m ve vi 8 true _ HF4.out h3).mono ?_
  rintro e5 w5 ⟨rfl, hb⟩
  have HM5 := Lib.hid (HM4.out.below hb HM4.out.lt)
  have HF5 := Lib.hid (HF4.out.below hb); have HB5 := Lib.hid (HB4.out.trans (hb.mono HB4.out.size))
  clear hb p0 p1 p2 p3 p4 p5 p6 p7 p8 p9
  obtain ⟨p0, p1, p2, p3, p4, p5, p6, p7, p8, p9⟩ := Msgs.ten HM5.out
  go_wp2_with fail
  refine (HT3.out _).mono ?_
  rintro e99 w99 ⟨rfl, rfl⟩
  cases x3 with
  | false =>
    have HZ : Hid (r = false) := HR.out.trans (by simp)
    go_wp2
    go_ret
    exact ⟨by rw [HZ.out]; rfl, HB5.out⟩
  | true =>
    go_wp2
    have HZ : Hid (r = true) := HR.out.trans (by simp)
    go_ret
    exact ⟨by rw [HZ.out]; rfl, HB5.out⟩

theorem rangedM_any (m : Ms.Msg) (ve vi : Value) (w : World) (hF : FieldsIn w) : Calls Tryz.prog 80 #[.agg (Ms.cells m ve vi)] w (Looks w (.bool (Ms.ranged m))) := by
  obtain ⟨b1, b2, b3, b4, _, _⟩ := Ms.bits m.kind
  have hs : (Ms.hv m.kind = false ∧ Ms.hb m.kind = false ∧ Ms.hi m.kind = false ∧ Ms.hc m.kind = false) ∨ (Ms.hv m.kind = true ∧ Ms.hb m.kind = false ∧ Ms.hi m.kind = false ∧ Ms.hc m.kind = false) ∨ (Ms.hv m.kind = false ∧ Ms.hb m.kind = true ∧ Ms.hi m.kind = true ∧ Ms.hc m.kind = false) ∨ (Ms.hv m.kind = false ∧ Ms.hb m.kind = true ∧ Ms.hi m.kind = true ∧ Ms.hc m.kind = true) ∨ (Ms.hv m.kind = false ∧ Ms.hb m.kind = true ∧ Ms.hi m.kind = false ∧ Ms.hc m.kind = false) ∨ (Ms.hv m.kind = false ∧ Ms.hb m.kind = true ∧ Ms.hi m.kind = false ∧ Ms.hc m.kind = true) ∨ (Ms.hv m.kind = false ∧ Ms.hb m.kind = false ∧ Ms.hi m.kind = true ∧ Ms.hc m.kind = false) ∨ (Ms.hv m.kind = false ∧ Ms.hb m.kind = false ∧ Ms.hi m.kind = false ∧ Ms.hc m.kind = true) := by
    rcases Ms.sets m.kind with h | h | h | h | h | h | h | h | h | h <;> obtain ⟨g1, g2, g3, g4, _, _⟩ := h <;> simp [g1, g2, g3, g4]
  rcases hs with ⟨g1, g2, g3, g4⟩ | ⟨g1, g2, g3, g4⟩ | ⟨g1, g2, g3, g4⟩ | ⟨g1, g2, g3, g4⟩ | ⟨g1, g2, g3, g4⟩ | ⟨g1, g2, g3, g4⟩ | ⟨g1, g2, g3, g4⟩ | ⟨g1, g2, g3, g4⟩
  · rw [g1] at b1; rw [g2] at b2; rw [g3] at b3; rw [g4] at b4
    exact range_0000 m ve vi w hF b1 b2 b3 b4 _ (by simp [Ms.ranged, g1, g2, g3, g4])
  · rw [g1] at b1; rw [g2] at b2; rw [g3] at b3; rw [g4] at b4
    exact range_1000 m ve vi w hF b1 b2 b3 b4 _ (by simp [Ms.ranged, g1, g2, g3, g4])
  · rw [g1] at b1; rw [g2] at b2; rw [g3] at b3; rw [g4] at b4
    exact range_0110 m ve vi w hF b1 b2 b3 b4 _ (by simp [Ms.ranged, g1, g2, g3, g4])
  · rw [g1] at b1; rw [g2] at b2; rw [g3] at b3; rw [g4] at b4
    exact range_0111 m ve vi w hF b1 b2 b3 b4 _ (by simp [Ms.ranged, g1, g2, g3, g4])
  · rw [g1] at b1; rw [g2] at b2; rw [g3] at b3; rw [g4] at b4
    exact range_0100 m ve vi w hF b1 b2 b3 b4 _ (by simp [Ms.ranged, g1, g2, g3, g4])
  · rw [g1] at b1; rw [g2] at b2; rw [g3] at b3; rw [g4] at b4
    exact range_0101 m ve vi w hF b1 b2 b3 b4 _ (by simp [Ms.ranged, g1, g2, g3, g4])
  · rw [g1] at b1; rw [g2] at b2; rw [g3] at b3; rw [g4] at b4
    exact range_0010 m ve vi w hF b1 b2 b3 b4 _ (by simp [Ms.ranged, g1, g2, g3, g4])
  · rw [g1] at b1; rw [g2] at b2; rw [g3] at b3; rw [g4] at b4
    exact range_0001 m ve vi w hF b1 b2 b3 b4 _ (by simp [Ms.ranged, g1, g2, g3, g4])

end Go.Proofs.YtndicjpbanmpjaaGreatDoor
