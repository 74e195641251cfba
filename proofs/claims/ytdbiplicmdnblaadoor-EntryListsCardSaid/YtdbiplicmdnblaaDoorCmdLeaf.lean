/- Commands' fields as values: the functions that look at one, or change it. -/
import Derived.Test.YtdbiplicmdnblaaDoorGRd
import Derived.Test.YtdbiplicmdnblaaDoorGRune
import Derived.Deep.QuietTactic
import Derived.BigQuiet
namespace Go.Proofs.YtdbiplicmdnblaaDoor
open Go.RowKit

/-! Type assertions on a field. -/
theorem isNum_yes (v : Value) (W : World) : (Instr.typeAssert (.iface 69 v) 20 69 true).run Tryd.prog W = .ok (.tuple #[v, .bool true]) W := by kernel_rfl
theorem isNum_no (v : Value) (W : World) : (Instr.typeAssert (.iface 74 v) 20 69 true).run Tryd.prog W = .ok (.tuple #[.agg #[.pointer none, .int .i64 0], .bool false]) W := by kernel_rfl
theorem isText_yes (v : Value) (W : World) : (Instr.typeAssert (.iface 74 v) 20 74 true).run Tryd.prog W = .ok (.tuple #[v, .bool true]) W := by kernel_rfl
theorem isText_no (v : Value) (W : World) : (Instr.typeAssert (.iface 69 v) 20 74 true).run Tryd.prog W = .ok (.tuple #[.agg #[.pointer none, .nilFunc], .bool false]) W := by kernel_rfl

/-- A function's value is stored as one cell. -/
theorem store_func (fn : Fn) (x y : Array Value) (a : Addr) (W : World) (m : Mode) : (store a (.func fn x y) m).run Tryd.prog W = stored Tryd.prog W a (.func fn x y) m := run_store Tryd.prog W a _ m rfl
theorem store_nilFunc (a : Addr) (W : World) (m : Mode) : (store a .nilFunc m).run Tryd.prog W = stored Tryd.prog W a .nilFunc m := run_store Tryd.prog W a _ m rfl

/-- A pair laid in a block of its own. -/
theorem lay_pair (w : World) (T : TypeId) (x y : Value) (b i : Nat) (v : Value) (hc : w.cell? ⟨b, i, none⟩ = some v) :
    ∃ w1, w.alloc (.cells #[x, y] T) = w1 ∧ w1.cell? ⟨w.heap.size, 0, none⟩ = some x ∧ w1.cell? ⟨w.heap.size, 1, none⟩ = some y ∧ w1.cell? ⟨b, i, none⟩ = some v ∧ Below w.heap.size w w1 := by
  refine ⟨_, rfl, (Lies.new w T #[x, y]).cell 0 x rfl, (Lies.new w T #[x, y]).cell 1 y rfl, ?_, (Below.refl _ w).alloc (Nat.le_refl _) _⟩
  rw [← hc]
  exact World.cell?_alloc_lt w _ _ (World.block_lt_of_cell? w _ hc)

/-- The same behind another block. -/
theorem lay_pair2 (w : World) (A : Obj) (T : TypeId) (x y : Value) (b i : Nat) (v : Value) (hc : w.cell? ⟨b, i, none⟩ = some v) :
    ∃ w1, (w.alloc A).alloc (.cells #[x, y] T) = w1 ∧ w1.cell? ⟨w.heap.size + 1, 0, none⟩ = some x ∧ w1.cell? ⟨w.heap.size + 1, 1, none⟩ = some y ∧ w1.cell? ⟨b, i, none⟩ = some v ∧ Below w.heap.size w w1 := by
  have hc' : (w.alloc A).cell? ⟨b, i, none⟩ = some v := by rw [← hc]; exact World.cell?_alloc_lt w _ _ (World.block_lt_of_cell? w _ hc)
  obtain ⟨w1, e1, c0, c1, cb, hB⟩ := lay_pair (w.alloc A) T x y b i v hc'
  have e : (w.alloc A).heap.size = w.heap.size + 1 := by simp
  rw [e] at c0 c1 hB
  exact ⟨w1, e1, c0, c1, cb, ((Below.refl _ w).alloc (Nat.le_refl _) A).trans (hB.mono (by omega))⟩

theorem within_num (b i : Nat) (most x : Int) (w : World) (hc : w.cell? ⟨b, i, none⟩ = some (.int .i64 x)) :
    Calls Tryd.prog 43 #[.iface 69 (.agg #[.pointer (some ⟨b, i, none⟩), .int .i64 most])] w
      fun e w' => e = .returned (.bool (decide (1 ≤ x) && decide (x ≤ most))) ∧ Below w.heap.size w w' := by
  have ha := isNum_yes
  obtain ⟨w1, e1, c0, c1, cb, hB⟩ := lay_pair w 69 (.pointer (some ⟨b, i, none⟩)) (.int .i64 most) b i _ hc
  have HB := Lib.hid hB
  clear hB hc
  by_cases h1 : 1 ≤ x
  · have d1 : decide (1 ≤ x) = true := decide_eq_true h1
    by_cases h2 : x ≤ most
    · have d2 : decide (x ≤ most) = true := decide_eq_true h2
      go_enter Tryd.func43, Tryd.ntmps43
      go_wp2
      go_quiet (fail)
      go_wp2
      go_ret
      exact ⟨by rw [d1, d2]; rfl, on HB.out (drawn _ _)⟩
    · have d2 : decide (x ≤ most) = false := decide_eq_false h2
      go_enter Tryd.func43, Tryd.ntmps43
      go_wp2
      go_quiet (fail)
      go_wp2
      go_ret
      exact ⟨by rw [d1, d2]; rfl, on HB.out (drawn _ _)⟩
  · have d1 : decide (1 ≤ x) = false := decide_eq_false h1
    go_enter Tryd.func43, Tryd.ntmps43
    go_wp2
    go_quiet (fail)
    go_wp2
    go_ret
    exact ⟨by rw [d1]; rfl, on HB.out (drawn _ _)⟩

theorem within_text (u v : Value) (w : World) :
    Calls Tryd.prog 43 #[.iface 74 (.agg #[u, v])] w fun e w' => e = .returned (.bool true) ∧ Below w.heap.size w w' := by
  have ha := isNum_no
  go_enter Tryd.func43, Tryd.ntmps43
  go_wp2
  go_quiet (fail)
  go_wp2
  go_ret
  exact ⟨rfl, on ((Below.refl _ w).alloc (Nat.le_refl _) _) (drawn _ _)⟩

theorem spelt_num (u v : Value) (w : World) :
    Calls Tryd.prog 44 #[.iface 69 (.agg #[u, v])] w fun e w' => e = .returned (.bool true) ∧ Below w.heap.size w w' := by
  have ha := isText_no
  have hst := store_nilFunc
  go_enter Tryd.func44, Tryd.ntmps44
  go_wp2
  go_quiet (fail)
  go_wp2
  go_ret
  exact ⟨rfl, on ((Below.refl _ w).alloc (Nat.le_refl _) _) (drawn _ _)⟩

theorem spelt_key (b i : Nat) (s : List UInt8) (w : World) (hc : w.cell? ⟨b, i, none⟩ = some (.string ⟨s.toArray⟩)) (hs : s.length ≤ 140737488355328) :
    Calls Tryd.prog 44 #[.iface 74 (.agg #[.pointer (some ⟨b, i, none⟩), .func (.func 53) #[] #[]])] w
      fun e w' => e = .returned (.bool (Rn.key ⟨s.toArray⟩)) ∧ Below w.heap.size w w' := by
  have ha := isText_yes
  have hst := store_func
  have hsz : (ByteArray.mk s.toArray).size ≤ 140737488355328 := by rw [str_size]; exact hs
  obtain ⟨S, hS⟩ : ∃ S, S = ByteArray.mk s.toArray := ⟨_, rfl⟩
  rw [← hS] at hc hsz ⊢
  clear hS
  obtain ⟨w1, e1, c0, c1, cb, hB⟩ := lay_pair w 74 (.pointer (some ⟨b, i, none⟩)) (.func (.func 53) #[] #[]) b i _ hc
  have HB := Lib.hid hB
  clear hB hc
  go_enter Tryd.func44, Tryd.ntmps44
  go_wp2
  first
    | (go_region_with (first
        | (go_at_call 53; refine (key_any _ _ hsz).mono ?_; rintro e2 w2 ⟨rfl, hb2⟩)))
    | fail
  all_goals
    go_wp2
    go_ret
    exact ⟨rfl, HB.out.drew.trans (hb2.mono HB.out.drew.size)⟩

theorem spelt_val (b i : Nat) (s : List UInt8) (w : World) (hc : w.cell? ⟨b, i, none⟩ = some (.string ⟨s.toArray⟩)) (hs : s.length ≤ 140737488355328) :
    Calls Tryd.prog 44 #[.iface 74 (.agg #[.pointer (some ⟨b, i, none⟩), .func (.func 54) #[] #[]])] w
      fun e w' => e = .returned (.bool (Rn.val ⟨s.toArray⟩)) ∧ Below w.heap.size w w' := by
  have ha := isText_yes
  have hst := store_func
  have hsz : (ByteArray.mk s.toArray).size ≤ 140737488355328 := by rw [str_size]; exact hs
  obtain ⟨S, hS⟩ : ∃ S, S = ByteArray.mk s.toArray := ⟨_, rfl⟩
  rw [← hS] at hc hsz ⊢
  clear hS
  obtain ⟨w1, e1, c0, c1, cb, hB⟩ := lay_pair w 74 (.pointer (some ⟨b, i, none⟩)) (.func (.func 54) #[] #[]) b i _ hc
  have HB := Lib.hid hB
  clear hB hc
  go_enter Tryd.func44, Tryd.ntmps44
  go_wp2
  first
    | (go_region_with (first
        | (go_at_call 54; refine (val_any _ _ hsz).mono ?_; rintro e2 w2 ⟨rfl, hb2⟩)))
    | fail
  all_goals
    go_wp2
    go_ret
    exact ⟨rfl, HB.out.drew.trans (hb2.mono HB.out.drew.size)⟩

/-- The block has turned, and nothing else that there was. -/
def Turned (w : World) (b : Nat) (T : TypeId) (vs : Array Value) (e : Ending) (w' : World) : Prop := e = .returned (.tuple #[]) ∧ Lies w' b T vs ∧ w.grownBy w' (some b)
theorem grown_of {w w' : World} (h : Below w.heap.size w w') (row : Option Nat) : w.grownBy w' row := ⟨h.os, h.tape, h.output, h.size, fun k hk _ => h.block k hk⟩

set_option maxHeartbeats 400000 in
theorem wipe_num (b i : Nat) (most x : Int) (T : TypeId) (vs : Array Value) (w : World) (hl : Lies w b T vs) (hv : vs[i]? = some (.int .i64 x)) :
    Calls Tryd.prog 52 #[.iface 69 (.agg #[.pointer (some ⟨b, i, none⟩), .int .i64 most])] w (Turned w b T (vs.setIfInBounds i (.int .i64 0))) := by
  have ha := isNum_yes
  have hno := isText_no
  have hst := store_nilFunc
  obtain ⟨w1, e1, c0, c1, cb, hB⟩ := lay_pair w 69 (.pointer (some ⟨b, i, none⟩)) (.int .i64 most) b i _ (hl.cell i _ hv)
  have hl1 := hl.below hB hl.lt
  have hf := hl1.free i
  have hl2 := hl1.set i (.int .i64 0)
  have hg := grown_on (grown_of hB (some b)) (grown_set w1 b i (.int .i64 0))
  obtain ⟨w2, e2⟩ : ∃ w2, w1.setCell ⟨b, i, none⟩ (.int .i64 0) = w2 := ⟨_, rfl⟩
  rw [e2] at hl2 hg
  have HL := Lib.hid hl2; have HG := Lib.hid hg
  clear hl1 hl2 hg hB hl hv
  go_enter Tryd.func52, Tryd.ntmps52
  go_wp2
  go_end0
  exact ⟨rfl, HL.out.alloc _, grown_on HG.out (World.grownBy_alloc _ _ _)⟩

set_option maxHeartbeats 400000 in
theorem wipe_text (b i : Nat) (s : ByteArray) (fn : Nat) (T : TypeId) (vs : Array Value) (w : World) (hl : Lies w b T vs) (hv : vs[i]? = some (.string s)) :
    Calls Tryd.prog 52 #[.iface 74 (.agg #[.pointer (some ⟨b, i, none⟩), .func (.func fn) #[] #[]])] w (Turned w b T (vs.setIfInBounds i (.string ⟨#[]⟩))) := by
  have ha := isNum_no
  have hno := isText_yes
  have hst := store_func
  obtain ⟨w1, e1, c0, c1, cb, hB⟩ := lay_pair2 w (.cells #[.pointer none, .int .i64 0] 69) 74 (.pointer (some ⟨b, i, none⟩)) (.func (.func fn) #[] #[]) b i _ (hl.cell i _ hv)
  have hl1 := hl.below hB hl.lt
  have hf := hl1.free i
  have hl2 := hl1.set i (.string ⟨#[]⟩)
  have hg := grown_on (grown_of hB (some b)) (grown_set w1 b i (.string ⟨#[]⟩))
  obtain ⟨w2, e2⟩ : ∃ w2, w1.setCell ⟨b, i, none⟩ (.string ⟨#[]⟩) = w2 := ⟨_, rfl⟩
  rw [e2] at hl2 hg
  have HL := Lib.hid hl2; have HG := Lib.hid hg
  clear hl1 hl2 hg hB hl hv
  go_enter Tryd.func52, Tryd.ntmps52
  go_wp2
  go_end0
  exact ⟨rfl, HL.out, HG.out⟩

end Go.Proofs.YtdbiplicmdnblaaDoor
