/- Numbers' digits: Go's, the document's; Go's powers of ten. -/
import Derived.Test.YtjdohnadgdeaiaaDoorLie
import Derived.Test.YtjdohnadgdeaiaaDoorShelf
import Derived.Lib.ItoaNum
import Derived.Lib.LaidU8
import Derived.OpenShut
namespace Go.Proofs.YtjdohnadgdeaiaaDoor
open Go.RowKit

namespace Cm
theorem nDigits_le : ∀ (k u : Nat), u < 10 ^ (k + 1) → Lib.nDigits u ≤ k + 1 := by
  intro k
  induction k with
  | zero => intro u h; rw [Lib.nDigits_small (by simpa using h)]; omega
  | succ k ih =>
    intro u h
    by_cases h10 : u < 10
    · rw [Lib.nDigits_small h10]; omega
    · rw [Lib.nDigits_big h10]
      have := ih (u / 10) (by rw [Nat.pow_succ] at h; omega)
      omega
theorem itoa_len (n : Int) (h0 : -9223372036854775808 ≤ n) (h1 : n ≤ 9223372036854775807) : (Lib.itoa n).length ≤ 21 := by
  unfold Lib.itoa
  split
  · rw [List.length_cons, Lib.decDigits_length]
    have := nDigits_le 19 n.natAbs (by omega)
    omega
  · rw [Lib.decDigits_length]
    have := nDigits_le 19 n.toNat (by omega)
    omega
end Cm

abbrev PowIn (w : World) : Prop := Lib.TabIs Tryd.prog w "internal/strconv.uint64pow10" .u64 Lib.pow10Tab

theorem PowIn.below {w w' : World} (h : PowIn w) (hb : Below w.heap.size w w') : PowIn w' := var_below h hb

theorem pow_of {W : World} (h : Lib.VarReads Tryd.prog W "internal/strconv.uint64pow10" (Lib.tabData .u64 Lib.pow10Tab)) : PowIn W := by
  obtain ⟨g, t, cs, fuel, p, hg, ht, hvar, hd⟩ := h
  have hty : (Tryd.prog.globals[0]?).map (·.type) = some 49 := by kernel_rfl
  have hgn : Tryd.prog.globalNamed "internal/strconv.uint64pow10" = some 0 := by kernel_rfl
  obtain rfl := Option.some.inj (hgn.symm.trans hg)
  obtain rfl := Option.some.inj (hty.symm.trans ht)
  have e := Lib.cells_of_tab (n := 20) Tryd.underlying49 Tryd.underlying41 (by kernel_rfl) (by kernel_rfl) hd
  unfold PowIn Lib.TabIs
  rw [hvar, ← e]

theorem str_lit {A : ByteArray} {l : List UInt8} (h : A.data.toList = l) : Ending.returned (.string A) = .returned (.string ⟨l.toArray⟩) := by subst h; rfl

theorem run_dig (w : World) (j : Nat) (h : j < 10) :
    (Instr.slice 9 (.string ⟨#[48, 49, 50, 51, 52, 53, 54, 55, 56, 57]⟩) (some (.int .i64 (j : Int))) (some (.int .i64 ((j : Int) + 1))) none).run Tryd.prog w = .ok (.string ⟨#[UInt8.ofNat (48 + j)]⟩) w := by
  rw [run_slice_string w 9 _ _ _ _ _ Tryd.underlying9 (by omega) (by omega) (by show (j : Int) + 1 ≤ ((10 : Nat) : Int); omega)]
  congr 2
  have : ∀ j : Fin 10, (⟨#[48, 49, 50, 51, 52, 53, 54, 55, 56, 57]⟩ : ByteArray).extract (j.1 : Int).toNat ((j.1 : Int) + 1).toNat = ⟨#[UInt8.ofNat (48 + j.1)]⟩ := by decide
  exact this ⟨j, h⟩

set_option maxRecDepth 4000 in
set_option maxHeartbeats 1600000 in
theorem refDigits_any (n : Int) (w : World) (h : 0 ≤ n ∧ n < 1000000000000000) :
    Calls Tryd.prog 16 #[.int .i64 n] w (Says w (.string ⟨(Lib.itoa n).toArray⟩)) := by
  obtain ⟨u, rfl⟩ := Int.eq_ofNat_of_zero_le h.1
  have e : Lib.itoa (u : Int) = Lib.decDigits u := by unfold Lib.itoa; rw [if_neg (by omega), Int.toNat_natCast]
  rw [e]
  have hu : u < 1000000000000000 := by omega
  clear h e
  go_enter Tryd.func16, Tryd.ntmps16
  go_wp2
  go_loopw [0, 3] (fun n s wr => ∃ (m : Nat) (A : ByteArray), n = .int .i64 (m : Int) ∧ s = .string A ∧ m ≤ u ∧ wr = w ∧ A.size ≤ 100 ∧ Hid (Lib.decDigits m ++ A.data.toList = Lib.decDigits u)) (fun n _ _ => (intOf n).toNat)
  case atStart => exact ⟨u, ⟨#[]⟩, rfl, rfl, by omega, rfl, by decide, by show _ = _; simp⟩
  case round =>
    obtain ⟨m, A, rfl, rfl, hm, rfl, hA, HQ⟩ := hrel
    obtain ⟨c, hc⟩ : ∃ c, c = UInt8.ofNat (48 + m % 10) := ⟨_, rfl⟩
    have HC := Lib.hid hc
    have hdig : ∀ w : World, (Instr.slice 9 (.string ⟨#[48, 49, 50, 51, 52, 53, 54, 55, 56, 57]⟩) (some (.int .i64 ((m : Int) % 10))) (some (.int .i64 ((m : Int) % 10 + 1))) none).run Tryd.prog w = .ok (.string ⟨#[c]⟩) w := by
      intro w
      have := run_dig w (m % 10) (by omega)
      rw [show ((m % 10 : Nat) : Int) = (m : Int) % 10 by omega, ← hc] at this
      exact this
    clear hc
    have hlen : A.size ≤ 20 := by
      have h1 := congrArg List.length HQ.out
      rw [List.length_append, Lib.decDigits_length, Lib.decDigits_length] at h1
      have h2 : Lib.nDigits u ≤ 16 := Cm.nDigits_le 15 u (by omega)
      have h3 : A.data.toList.length = A.size := rfl
      omega
    by_cases h10 : m < 10
    · have hle : (m : Int) / 10 ≤ 0 := by omega
      have HF : Hid (Lib.decDigits u = c :: A.data.toList) := by
        show _ = _
        rw [← HQ.out, Lib.decDigits_one h10, HC.out, show m % 10 = m by omega]
        rfl
      go_wp2
      go_ret
      refine ⟨?_, rfl⟩
      rw [HF.out]
      apply str_lit
      simp
    · have hle : ¬ (m : Int) / 10 ≤ 0 := by omega
      have HF : Hid (Lib.decDigits (m / 10) ++ (c :: A.data.toList) = Lib.decDigits u) := by
        show _ = _
        rw [← HQ.out]
        conv => rhs; rw [Lib.decDigits, dif_neg h10]
        rw [HC.out, List.append_assoc]
        rfl
      go_wp2
      go_roundw
      case rel =>
        refine ⟨m / 10, _, by rw [show ((m / 10 : Nat) : Int) = (m : Int) / 10 by omega], rfl, by omega, (by first | rfl | trivial), ?_, ?_⟩
        · rw [ByteArray.size_append]
          have : (ByteArray.mk #[c]).size = 1 := rfl
          omega
        · show _ = _
          rw [show ∀ a b : ByteArray, (a ++ b).data.toList = a.data.toList ++ b.data.toList from fun a b => by simp]
          exact HF.out
      case measure =>
        simp [intOf]
        omega

theorem itoa_any (x : Int) (w : World) (hp : PowIn w) (h0 : -9223372036854775808 ≤ x) (h1 : x ≤ 9223372036854775807) : Calls Tryd.prog 18 #[.int .i64 x] w (Looks w (.string ⟨(Lib.itoa x).toArray⟩)) := by
  refine (Tryd.strconv_Itoa x h0 h1 w hp).mono ?_
  rintro e w2 ⟨h, k, os, hw⟩
  exact ⟨h, by rw [hw]; exact grow_below _ _ _⟩

end Go.Proofs.YtjdohnadgdeaiaaDoor
