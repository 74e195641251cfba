/- Slices of sessions: grown, put together; cut. -/
import Derived.Test.YtgcjjlkjlabneaaSeMem
import Derived.Lib.AppendZerosOnto
import Derived.ArgAppend
namespace Go.Proofs.Ytgcjjlkjlabneaa
open Go.RowKit

/-- What a call leaves that makes a slice of sessions. -/
def MadeN (w : World) (l : List Se.Ses) (e : Ending) (w' : World) : Prop := ∃ v, e = .returned v ∧ OwnsR w' w.heap.size 43 8 v (l.map Se.cells) ∧ Below w.heap.size w w'
theorem run_rest_ses (w : World) (ao : Option Addr) (n cap f : Nat) (hf : f ≤ n) :
    (Instr.slice 23 (.slice ao n cap) (some (.int .i64 (f : Int))) none none).run Try.prog w = .ok (sliced ao f n cap 8) w := by
  have he : Try.prog.elem 23 = 43 := by kernel_rfl
  have hi : (Try.prog.info? 43).isSome = true := by kernel_rfl
  obtain ⟨i, hi⟩ := Option.isSome_iff_exists.1 hi
  have hrun := run_slice_l (P := Try.prog) (w := w) 23 ao n cap (by rw [he]; exact Try.underlying23) .i64 (f : Int) (by omega) (by omega)
  rw [he] at hrun
  refine hrun.trans ?_
  rw [run_sizeOf _ hi, show Try.prog.cellsOf 43 = 8 by kernel_rfl]
  simp only [Result.andThen, Int.toNat_natCast]
theorem run_first_ses (w : World) (ao : Option Addr) (n cap f : Nat) (hf : f ≤ cap) :
    (Instr.slice 23 (.slice ao n cap) none (some (.int .i64 (f : Int))) none).run Try.prog w = .ok (sliced ao 0 f cap 8) w := by
  have he : Try.prog.elem 23 = 43 := by kernel_rfl
  have hi : (Try.prog.info? 43).isSome = true := by kernel_rfl
  obtain ⟨i, hi⟩ := Option.isSome_iff_exists.1 hi
  have hrun := run_slice_h (P := Try.prog) (w := w) 23 ao n cap (by rw [he]; exact Try.underlying23) .i64 (f : Int) (by omega) (by omega)
  rw [he] at hrun
  refine hrun.trans ?_
  rw [run_sizeOf _ hi, show Try.prog.cellsOf 43 = 8 by kernel_rfl]
  simp only [Result.andThen, Int.toNat_natCast]

/-- Three slices of sessions, one behind the other in a block. -/
def ThreeN (w : World) (H : Nat) (ls : List (List Se.Ses)) : Prop := ∀ k l, ls[k]? = some l → ∃ u, w.cell? ⟨H, k, none⟩ = some u ∧ ReadsN w u l
theorem flatN_take {ls : List (List Se.Ses)} {k : Nat} {l : List Se.Ses} (h : ls[k]? = some l) : (ls.take (k + 1)).flatten = (ls.take k).flatten ++ l := by
  rw [List.take_add_one, h, List.flatten_append]; simp
theorem flatN_len {ls : List (List Se.Ses)} {k : Nat} {l : List Se.Ses} (h : ls[k]? = some l) : (ls.take k).flatten.length + l.length ≤ ls.flatten.length := by
  have e : ls.flatten = (ls.take (k + 1)).flatten ++ (ls.drop (k + 1)).flatten := by rw [← List.flatten_append, List.take_append_drop]
  rw [e, List.length_append, flatN_take h, List.length_append]
  omega

end Go.Proofs.Ytgcjjlkjlabneaa
