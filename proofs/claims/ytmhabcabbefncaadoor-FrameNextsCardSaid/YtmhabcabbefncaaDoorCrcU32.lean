/- CRC-32: the plain function in numbers as the walks spell them: four bits at a time by the table, bit by bit by halves. No program is spoken of. -/
import Derived.Test.YtmhabcabbefncaaDoorCrcMath
import Derived.Laws.Bits64
namespace Go.Proofs.YtmhabcabbefncaaDoor
namespace Crc

theorem bits_xor_u32 (a b : R) : bits .xor .u32 (a.toNat : Int) (b.toNat : Int) = ((a ^^^ b).toNat : Int) := by
  have h1 : ∀ c : R, BitVec.ofInt 32 (c.toNat : Int) = c := by
    intro c; rw [BitVec.ofInt_natCast]; simp
  show IntKind.u32.wrap ((BitVec.ofInt 32 (a.toNat : Int) ^^^ BitVec.ofInt 32 (b.toNat : Int)).toNat : Int) = _
  rw [h1, h1, IntKind.wrap_u32]
  have := (a ^^^ b).isLt
  omega

theorem bits_and_u32 (a b : R) : bits .and .u32 (a.toNat : Int) (b.toNat : Int) = ((a &&& b).toNat : Int) := by
  have h1 : ∀ c : R, BitVec.ofInt 32 (c.toNat : Int) = c := by
    intro c; rw [BitVec.ofInt_natCast]; simp
  show IntKind.u32.wrap ((BitVec.ofInt 32 (a.toNat : Int) &&& BitVec.ofInt 32 (b.toNat : Int)).toNat : Int) = _
  rw [h1, h1, IntKind.wrap_u32]
  have := (a &&& b).isLt
  omega

/-- The sixteen constants. -/
def tab : List Int := [0, 498536548, 997073096, 651767980, 1994146192, 1802195444, 1303535960, 1342533948, 3988292384, 4027552580, 3604390888, 3412177804, 2607071920, 2262029012, 2685067896, 3183342108]

theorem tab_is (i : Nat) (h : i < 16) : tab.getD i 0 = ((steps 4 (BitVec.ofNat 32 i)).toNat : Int) := by
  have : ∀ i : Fin 16, tab.getD i.1 0 = ((steps 4 (BitVec.ofNat 32 i.1)).toNat : Int) := by decide
  exact this ⟨i, h⟩

/-- Four bits of a register, as the program takes them. -/
theorem four_bits (r : R) : ∃ j : Nat, j < 16 ∧ bits .and .u32 (r.toNat : Int) 15 = (j : Int) ∧ ∃ t : Nat, t < 4294967296 ∧ tab.getD j 0 = (t : Int) ∧ bits .xor .u32 ((r.toNat : Int) / 16) (t : Int) = ((steps 4 r).toNat : Int) := by
  have hlt : (r &&& 15#32).toNat < 16 := by
    rw [BitVec.toNat_and]; exact Nat.lt_of_le_of_lt Nat.and_le_right (by decide)
  refine ⟨(r &&& 15#32).toNat, hlt, bits_and_u32 r 15#32, (steps 4 (r &&& 15#32)).toNat, (steps 4 (r &&& 15#32)).isLt, ?_, ?_⟩
  · rw [tab_is _ hlt]; simp
  · have e : (r.toNat : Int) / (16 : Int) = ((r >>> 4).toNat : Int) := by
      rw [BitVec.toNat_ushiftRight, Nat.shiftRight_eq_div_pow]; omega
    rw [e, bits_xor_u32, ← nibble]

theorem byte_in (r : R) (c : UInt8) : bits .xor .u32 (r.toNat : Int) (c.toNat : Int) = ((r ^^^ wide c).toNat : Int) := by
  rw [← bits_xor_u32]
  have := c.toNat_lt
  rw [show ((wide c).toNat : Int) = (c.toNat : Int) by simp [wide]]

theorem upd_eight (r : R) (c : UInt8) : upd r c = steps 4 (steps 4 (r ^^^ wide c)) := by
  unfold upd; exact steps_add 4 4 _

theorem not_in (r : R) : 4294967295 - (r.toNat : Int) = ((~~~ r).toNat : Int) := by
  rw [BitVec.toNat_not]; have := r.isLt; omega

theorem not_is (r : R) : bits .xor .u32 IntKind.u32.max (r.toNat : Int) = ((~~~ r).toNat : Int) := by
  have := bits_xor_u32 (~~~ 0#32) r
  have e : (~~~ 0#32) ^^^ r = ~~~ r := by
    rw [← BitVec.not_xor_left, BitVec.zero_xor]
  rw [e] at this
  exact this

theorem run_take (r : R) (l : List UInt8) (k : Nat) (h : k < l.length) : run r (l.take (k + 1)) = upd (run r (l.take k)) l[k] := by
  rw [List.take_succ_eq_append_getElem h, run_app]; rfl

/-- The checksum, continued. -/
def add (s : R) (l : List UInt8) : R := ~~~ (run (~~~ s) l)
theorem sum_add (l : List UInt8) : sum l = add 0#32 l := rfl
theorem add_sum (l m : List UInt8) : add (sum l) m = sum (l ++ m) := by simp [add, sum, run_app]

theorem low_four (x : Nat) (hx : x < 4294967296) : bits .and .u32 (x : Int) 15 = ((x % 16 : Nat) : Int) := by
  have h := bits_and_u32 (BitVec.ofNat 32 x) 15#32
  rw [show (BitVec.ofNat 32 x).toNat = x by rw [BitVec.toNat_ofNat]; omega] at h
  have e : (BitVec.ofNat 32 x &&& 15#32).toNat = x % 16 := by
    rw [BitVec.toNat_and, BitVec.toNat_ofNat, show x % 2 ^ 32 = x by omega]
    exact Nat.and_two_pow_sub_one_eq_mod x 4
  rw [e] at h
  exact h

/-- One bit, by halves. -/
theorem step_odd (r : R) (h : r.toNat % 2 = 1) : bits .xor .u32 ((r.toNat : Int) / 2) 3988292384 = ((step r).toNat : Int) := by
  have e : (r.toNat : Int) / (2 : Int) = ((r >>> 1).toNat : Int) := by
    rw [BitVec.toNat_ushiftRight, Nat.shiftRight_eq_div_pow]; omega
  have hb : r.getLsbD 0 = true := by simp [BitVec.getLsbD, Nat.testBit_zero, h]
  rw [e]
  have := bits_xor_u32 (r >>> 1) poly
  unfold step
  rw [hb, if_pos rfl, ← this]; rfl
theorem step_evn (r : R) (h : r.toNat % 2 = 0) : (r.toNat : Int) / 2 = ((step r).toNat : Int) := by
  have hb : r.getLsbD 0 = false := by simp [BitVec.getLsbD, Nat.testBit_zero, h]
  unfold step
  rw [hb]
  simp only [Bool.false_eq_true, if_false, BitVec.xor_zero]
  rw [BitVec.toNat_ushiftRight, Nat.shiftRight_eq_div_pow]; omega
theorem steps_snoc (k : Nat) (r : R) : steps (k + 1) r = step (steps k r) := steps_add k 1 r
end Crc
end Go.Proofs.YtmhabcabbefncaaDoor
