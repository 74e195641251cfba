/- Slices of pairs: grown, put together; cut; copied. Written by a program. -/
import Derived.Test.YtgcjjlkjlabneaaKvMem
import Derived.Lib.AppendZerosOnto
import Derived.ArgAppend
namespace Go.Proofs.Ytgcjjlkjlabneaa
open Go.RowKit

/-- What a call leaves that makes a slice of pairs. -/
def MadeK (w : World) (l : List Kv.Item) (e : Ending) (w' : World) : Prop := ∃ v, e = .returned v ∧ OwnsR w' w.heap.size 38 3 v (l.map Kv.cells) ∧ Below w.heap.size w w'
theorem run_rest_kv (w : World) (ao : Option Addr) (n cap f : Nat) (hf : f ≤ n) :
    (Instr.slice 22 (.slice ao n cap) (some (.int .i64 (f : Int))) none none).run Try.prog w = .ok (sliced ao f n cap 3) w := by
  have he : Try.prog.elem 22 = 38 := by kernel_rfl
  have hi : (Try.prog.info? 38).isSome = true := by kernel_rfl
  obtain ⟨i, hi⟩ := Option.isSome_iff_exists.1 hi
  have hrun := run_slice_l (P := Try.prog) (w := w) 22 ao n cap (by rw [he]; exact Try.underlying22) .i64 (f : Int) (by omega) (by omega)
  rw [he] at hrun
  refine hrun.trans ?_
  rw [run_sizeOf _ hi, show Try.prog.cellsOf 38 = 3 by kernel_rfl]
  simp only [Result.andThen, Int.toNat_natCast]
theorem run_first_kv (w : World) (ao : Option Addr) (n cap f : Nat) (hf : f ≤ cap) :
    (Instr.slice 22 (.slice ao n cap) none (some (.int .i64 (f : Int))) none).run Try.prog w = .ok (sliced ao 0 f cap 3) w := by
  have he : Try.prog.elem 22 = 38 := by kernel_rfl
  have hi : (Try.prog.info? 38).isSome = true := by kernel_rfl
  obtain ⟨i, hi⟩ := Option.isSome_iff_exists.1 hi
  have hrun := run_slice_h (P := Try.prog) (w := w) 22 ao n cap (by rw [he]; exact Try.underlying22) .i64 (f : Int) (by omega) (by omega)
  rw [he] at hrun
  refine hrun.trans ?_
  rw [run_sizeOf _ hi, show Try.prog.cellsOf 38 = 3 by kernel_rfl]
  simp only [Result.andThen, Int.toNat_natCast]

set_option maxRecDepth 4000 in
set_option maxHeartbeats 800000 in
theorem clone_kvs (v : Value) (rs : List (Array Value)) (w : World) (hv : ReadsR w v 3 rs) (hz : Sized 3 rs) (hn : rs.length ≤ 1099511627776) :
    Calls Try.prog 25 #[v] w fun e w' => ∃ v', e = .returned v' ∧ OwnsR w' w.heap.size 38 3 v' rs ∧ Below w.heap.size w w' := by
  have hq : ∀ (w : World) (a : Option Addr) (n c n' c' : Nat), (binOp .eql 22 (.slice a n c) (.slice none n' c')).run Try.prog w = .ok (.bool a.isNone) w := fun w a n c n' c' => Lib.run_eql_slice_nil w _ _ a n c n' c' Try.underlying22
  obtain ⟨ao, cap, rfl, hc1, hc2⟩ := hv.shape
  cases ao with
  | none =>
    obtain ⟨_, h1, h2, _⟩ := ReadsR.len hv
    have h3 := h2 rfl
    obtain rfl : rs = [] := List.eq_nil_of_length_eq_zero (by omega)
    go_enter Try.func25, Try.ntmps25
    go_wp2
    go_ret
    exact ⟨_, rfl, OwnsR.empty _ _ _ _, Below.refl _ _⟩
  | some a =>
    have HV : Hid (ReadsR (w.alloc (.cells #[] 38)) (.slice (some a) rs.length cap) 3 rs) := ReadsR.below hv ((Below.refl _ w).alloc (Nat.le_refl _) _)
    obtain ⟨n, hnn⟩ : ∃ n, n = rs.length := ⟨_, rfl⟩
    rw [← hnn] at hn HV ⊢
    have HN := Lib.hid hnn; have HZ := Lib.hid hz
    clear hv hc1 hnn hz
    go_enter Try.func25, Try.ntmps25
    go_wp2_with (at_builtin; refine append_rows rfl _ _ 22 38 3 40 _ rfl Try.underlying22 info_kv rfl (by decide) w.heap.size [] rs _ _ rfl rfl (World.ownsRow_made w #[] 0 (Nat.le_refl _) (Nat.zero_le _) (by simp)) HV.out HZ.out (by rw [← HN.out]; simp; omega) (by rw [← HN.out]; simp; omega) w ((Below.refl _ w).alloc (Nat.le_refl _) _) (Nat.le_refl _) ?_; intro v' w' ho' hb' _)
    all_goals
      rw [List.nil_append] at ho'
      obtain ⟨ao', cap', hs'⟩ := ho'.shape
      have HO := Lib.hid ho'
      rw [← HN.out] at hs'
      clear ho'
      subst hs'
      go_wp2
      go_ret
      exact ⟨_, rfl, HO.out, hb'⟩

theorem cloneKv_any (v : Value) (l : List Kv.Item) (w : World) (hv : ReadsK w v l) (hn : l.length ≤ 1048576) : Calls Try.prog 25 #[v] w (MadeK w l) :=
  clone_kvs v (l.map Kv.cells) w hv (Kv.sized l) (by rw [List.length_map]; omega)

/-- Three slices of pairs, one behind the other in a block. -/
def ThreeK (w : World) (H : Nat) (ls : List (List Kv.Item)) : Prop := ∀ k l, ls[k]? = some l → ∃ u, w.cell? ⟨H, k, none⟩ = some u ∧ ReadsK w u l
theorem flatK_take {ls : List (List Kv.Item)} {k : Nat} {l : List Kv.Item} (h : ls[k]? = some l) : (ls.take (k + 1)).flatten = (ls.take k).flatten ++ l := by
  rw [List.take_add_one, h, List.flatten_append]; simp
theorem flatK_len {ls : List (List Kv.Item)} {k : Nat} {l : List Kv.Item} (h : ls[k]? = some l) : (ls.take k).flatten.length + l.length ≤ ls.flatten.length := by
  have e : ls.flatten = (ls.take (k + 1)).flatten ++ (ls.drop (k + 1)).flatten := by rw [← List.flatten_append, List.take_append_drop]
  rw [e, List.length_append, flatK_take h, List.length_append]
  omega

end Go.Proofs.Ytgcjjlkjlabneaa
