/- Several texts of mine in one: EnPack MsPut. -/
import Derived.Test.YtfdnmmmjaipgoaaDoorGPl
import Derived.Test.YtfdnmmmjaipgoaaDoorEnChk
import Derived.Test.YtfdnmmmjaipgoaaDoorGCw
import Derived.Test.YtfdnmmmjaipgoaaDoorGMc
import Derived.BigRegion
namespace Go.Proofs.YtfdnmmmjaipgoaaDoor
open Go.RowKit

theorem En.ebytes_len (v : Int) (e : En.Ent) (hf : e.Fits) (hs : e.cmd.Short 1000) : (En.ebytes v e).length ≤ 6027 := by
  have h1 := enc_nine (n := e.index.toNat) (by have := hf.i1; omega)
  have h2 := enc_nine (n := e.bal.round.toNat) (by have := hf.bal.r1; omega)
  have h3 := enc_nine (n := e.bal.node.toNat) (by have := hf.bal.n1; omega)
  have h4 := Cm.bytes_len v e.cmd hf.cmd hs
  unfold En.ebytes
  simp only [List.length_append]
  omega
theorem En.flat_len (v : Int) : ∀ (l : List En.Ent), (∀ e ∈ l, e.Fits ∧ e.cmd.Short 1000) → (l.flatMap (En.ebytes v)).length ≤ 6027 * l.length
  | [], _ => by simp
  | e :: r, h => by
    have h1 := En.ebytes_len v e (h e (by simp)).1 (h e (by simp)).2
    have h2 := En.flat_len v r fun x hx => h x (by simp [hx])
    rw [List.flatMap_cons, List.length_append, List.length_cons]
    omega

end Go.Proofs.YtfdnmmmjaipgoaaDoor


namespace Go.Proofs.YtfdnmmmjaipgoaaDoor
open Go.RowKit

/-- Where the seven numbers of a message are that lies in block g. -/
abbrev Ptrs (w : World) (h g : Nat) : Prop := Lies w h 98 #[.pointer (some ⟨g, 0, none⟩), .pointer (some ⟨g, 1, none⟩), .pointer (some ⟨g, 2, none⟩), .pointer (some ⟨g, 3, none⟩), .pointer (some ⟨g, 4, none⟩), .pointer (some ⟨g, 5, none⟩), .pointer (some ⟨g, 6, none⟩)]
theorem Ptrs.at {w : World} {h g : Nat} (hp : Ptrs w h g) (k : Nat) (hk : k < 7) : w.cell? ⟨h, k, none⟩ = some (.pointer (some ⟨g, k, none⟩)) := by
  have : k = 0 ∨ k = 1 ∨ k = 2 ∨ k = 3 ∨ k = 4 ∨ k = 5 ∨ k = 6 := by omega
  rcases this with rfl | rfl | rfl | rfl | rfl | rfl | rfl <;> exact hp.cell _ _ rfl
/-- What an encoding gives. -/
def MEncd (w : World) (m : Ms.Msg) (e : Ending) (w' : World) : Prop :=
  Below w.heap.size w w' ∧ ∃ u, e = .returned (.tuple #[u, .int .i64 (Ms.older m)]) ∧ Reads w' u (if Ms.older m = 0 then Ms.bytes m else [])

theorem Ms.nums_at (m : Ms.Msg) (k : Nat) (hk : k < 7) : Ms.nbytes ((Ms.nums m).take (k + 1)) = Ms.nbytes ((Ms.nums m).take k) ++ enc (Ms.nth (Ms.nums m) k).toNat := by
  have h : (Ms.nums m)[k]? = some (Ms.nth (Ms.nums m) k) := by
    unfold Ms.nth
    rw [List.getD_eq_getElem?_getD, List.getElem?_eq_getElem (show k < (Ms.nums m).length from hk)]
    rfl
  rw [List.take_add_one, h, Ms.nbytes_app]
  show _ ++ Ms.nbytes [_] = _
  rw [Ms.nbytes_one]

end Go.Proofs.YtfdnmmmjaipgoaaDoor
