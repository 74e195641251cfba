/- slices.Clone of a slice of bytes. -/
import Derived.Test.YtammfmmpldahhaaGreatRows
import Derived.Test.YtammfmmpldahhaaGreatGNum
import Derived.Lib.SliceRun
namespace Go.Proofs.YtammfmmpldahhaaGreat
open Go.RowKit

set_option maxRecDepth 4000 in
set_option maxHeartbeats 400000 in
theorem clone_any (v : Value) (l : List UInt8) (w : World) (hv : Reads w v l) (hlen : l.length ≤ 140737488351232) :
    Calls Tryz.prog 49 #[v] w (Makes w 5 l) := by
  have hq : ∀ (w : World) (a : Option Addr) (n c n' c' : Nat), (binOp .eql 28 (.slice a n c) (.slice none n' c')).run Tryz.prog w = .ok (.bool a.isNone) w := fun w a n c n' c' => Lib.run_eql_slice_nil w _ _ a n c n' c' Tryz.underlying28
  obtain ⟨ao, cap, rfl⟩ := hv.shape
  have hnil := hv.len.2.2.2
  have hcap := hv.len.2.1
  have hv0 := hv.below ((Below.refl w.heap.size w).alloc (Nat.le_refl _) (.cells #[] 5))
  cases ao with
  | none =>
    obtain rfl : cap = 0 := hnil rfl
    obtain rfl : l = [] := List.eq_nil_of_length_eq_zero (by omega)
    go_enter Tryz.func49, Tryz.ntmps49
    go_wp2
    go_ret
    exact ⟨_, rfl, Owns.empty _ _ _, Below.refl _ _⟩
  | some x =>
    go_enter Tryz.func49, Tryz.ntmps49
    go_wp2_with (at_builtin; refine append_bytes rfl _ _ 28 5 rfl Tryz.underlying28 info_u8 w.heap.size [] l _ _ rfl rfl (Owns.lit0 w _) hv0 (by simp; omega) w ((Below.refl w.heap.size w).alloc (Nat.le_refl _) _) (Nat.le_refl _) ?_; intro v1 w1 ho1 hb1 _; rw [List.nil_append] at ho1)
    go_ret
    exact ⟨_, rfl, ho1, hb1⟩

end Go.Proofs.YtammfmmpldahhaaGreat
