/- Up to four bytes changed, one behind the other: the plain part of CrcChanges. No program is spoken of. -/
import Derived.Test.YtmhabcabbefncaaDoorCrcU32
namespace Go.Proofs.YtmhabcabbefncaaDoor
namespace Crc

theorem bits_xor_u8 (a b : UInt8) : bits .xor .u8 (a.toNat : Int) (b.toNat : Int) = ((a ^^^ b).toNat : Int) := by
  have h1 : ∀ c : UInt8, BitVec.ofInt 8 (c.toNat : Int) = c.toBitVec := by
    intro c; rw [BitVec.ofInt_natCast]; simp
  show IntKind.u8.wrap ((BitVec.ofInt 8 (a.toNat : Int) ^^^ BitVec.ofInt 8 (b.toNat : Int)).toNat : Int) = _
  rw [h1, h1, IntKind.wrap_u8, ← UInt8.toBitVec_xor]
  have := (a ^^^ b).toNat_lt
  show (((a ^^^ b).toNat : Nat) : Int) % 256 = _
  omega

/-- What the law's loop has done after k rounds. -/
structure Chg (l cur : List UInt8) (p k : Nat) (xs : List UInt8) (o : Bool) : Prop where
  len : cur.length = l.length
  out : ∀ j, j < p ∨ p + k ≤ j → cur[j]? = l[j]?
  inn : ∀ j, j < k → cur[p + j]? = (l[p + j]?).map (· ^^^ xs.getD j 0)
  any : o = (xs.take k).any (· != 0)

theorem Chg.zero (l : List UInt8) (p : Nat) (xs : List UInt8) : Chg l l p 0 xs false := ⟨rfl, fun _ _ => rfl, fun _ h => absurd h (by omega), by simp⟩

theorem Chg.at {l cur : List UInt8} {p k : Nat} {xs : List UInt8} {o : Bool} (h : Chg l cur p k xs o) : cur[p + k]? = l[p + k]? := h.out _ (.inr (Nat.le_refl _))

theorem Chg.next {l cur : List UInt8} {p k : Nat} {xs : List UInt8} {o : Bool} {c x : UInt8} (h : Chg l cur p k xs o) (hk : k < xs.length) (hc : cur[p + k]? = some c) (hx : x = xs.getD k 0) : Chg l (cur.set (p + k) (c ^^^ x)) p (k + 1) xs (o || x != 0) := by
  refine ⟨by simp [h.len], fun j hj => ?_, fun j hj => ?_, ?_⟩
  · rw [List.getElem?_set_ne (by omega)]; exact h.out j (by omega)
  · by_cases e : j = k
    · subst e
      rw [List.getElem?_set_self (by have := (List.getElem?_eq_some_iff.1 hc).1; exact this), ← h.at, hc, ← hx]; rfl
    · rw [List.getElem?_set_ne (by omega)]; exact h.inn j (by omega)
  · rw [List.take_succ_eq_append_getElem hk, List.any_append, ← h.any, hx]
    simp [List.getD, List.getElem?_eq_getElem hk]

theorem xor_self_zero {c x : UInt8} (h : c ^^^ x = c) : x = 0 := by
  have := congrArg (fun y => c ^^^ y) h
  simpa [← UInt8.xor_assoc] using this

theorem Chg.sum_eq {l cur : List UInt8} {p k : Nat} {xs : List UInt8} {o : Bool} (h : Chg l cur p k xs o) (hk : k ≤ 4) (hkx : k ≤ xs.length) (hp : p + k ≤ l.length) : (((sum l).toNat : Int) != ((sum cur).toNat : Int)) = o := by
  cases o with
  | false =>
    have hz : ∀ j, j < k → xs.getD j 0 = 0 := by
      intro j hj
      have h0 := h.any.symm
      rw [List.any_eq_false] at h0
      have hm : xs.getD j 0 ∈ xs.take k := by
        rw [List.getD_eq_getElem?_getD, List.getElem?_eq_getElem (by omega), Option.getD_some]
        exact List.mem_take_iff_getElem.2 ⟨j, by omega, rfl⟩
      simpa using h0 _ hm
    have e : cur = l := by
      apply List.ext_getElem?
      intro j
      by_cases hj : j < p ∨ p + k ≤ j
      · exact h.out j hj
      · have := h.inn (j - p) (by omega)
        rw [show p + (j - p) = j by omega, hz _ (by omega)] at this
        rw [this]
        cases l[j]? <;> simp
    rw [e]; simp
  | true =>
    have hne : cur ≠ l := by
      intro e
      obtain ⟨x, hx, hx0⟩ := List.any_eq_true.1 h.any.symm
      obtain ⟨j, hj, rfl⟩ := List.mem_take_iff_getElem.1 hx
      have hj4 : j < k := by omega
      have := h.inn j hj4
      have hg : xs.getD j 0 = xs[j] := by rw [List.getD_eq_getElem?_getD, List.getElem?_eq_getElem (by omega), Option.getD_some]
      rw [e, hg] at this
      rw [List.getElem?_eq_getElem (show p + j < l.length by omega)] at this
      simp only [Option.map_some, Option.some.injEq] at this
      have := xor_self_zero this.symm
      simp [this] at hx0
    have : sum l ≠ sum cur := fun e => hne (sum_window h.len p (fun j hj => h.out j (by omega)) e.symm)
    rw [bne_iff_ne]
    intro e
    apply this
    apply BitVec.eq_of_toNat_eq
    omega
end Crc
end Go.Proofs.YtmhabcabbefncaaDoor
