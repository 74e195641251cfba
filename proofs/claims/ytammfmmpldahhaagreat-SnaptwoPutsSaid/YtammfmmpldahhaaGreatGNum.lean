/- Several texts of mine in one: Math Len Bytes Put Same Get Getp. -/
import Derived.WalkKit
import Derived.Test.YtammfmmpldahhaaGreatRows
import Derived.Test.YtammfmmpldahhaaGreatKit
import Derived.Deep.QuietTactic
import Derived.BigQuiet
namespace Go.Proofs.YtammfmmpldahhaaGreat

/-- The bytes of a number. -/
def enc (n : Nat) : List UInt8 := if n < 128 then [UInt8.ofNat n] else UInt8.ofNat (128 + n % 128) :: enc (n / 128)
termination_by n
decreasing_by omega

theorem enc_lt {n : Nat} (h : n < 128) : enc n = [UInt8.ofNat n] := by rw [enc, if_pos h]
theorem enc_ge {n : Nat} (h : 128 ≤ n) : enc n = UInt8.ofNat (128 + n % 128) :: enc (n / 128) := by rw [enc, if_neg (by omega)]

theorem enc_pos (n : Nat) : 0 < (enc n).length := by
  by_cases h : n < 128
  · rw [enc_lt h]; simp
  · rw [enc_ge (by omega)]; simp

theorem enc_len (k : Nat) : ∀ n, n < 128 ^ (k + 1) → (enc n).length ≤ k + 1 := by
  induction k with
  | zero => intro n h; rw [enc_lt (by simpa using h)]; simp
  | succ k ih =>
    intro n h
    by_cases h1 : n < 128
    · rw [enc_lt h1]; simp
    · rw [enc_ge (by omega)]
      have := ih (n / 128) (by rw [Nat.pow_succ] at h; exact Nat.div_lt_of_lt_mul (by omega))
      simp; omega

theorem enc_nine {n : Nat} (h : n ≤ 9223372036854775807) : (enc n).length ≤ 9 := enc_len 8 n (by omega)

theorem low {n : Nat} (h : n < 128) : (UInt8.ofNat n).toNat = n := by rw [UInt8.toNat_ofNat']; omega
theorem high (n : Nat) : (UInt8.ofNat (128 + n % 128)).toNat = 128 + n % 128 := by rw [UInt8.toNat_ofNat']; omega

/-- What is read from the front of a list: the number, how many bytes it has, and the error (0, 1: too short, 3: no such form). -/
def getv (k acc : Nat) : List UInt8 → Nat × Nat × Nat
  | [] => (0, 0, 1)
  | c :: r => if k = 9 ∨ (0 < k ∧ c.toNat = 0) then (0, 0, 3) else if c.toNat < 128 then (acc + c.toNat * 128 ^ k, k + 1, 0) else getv (k + 1) (acc + (c.toNat - 128) * 128 ^ k) r

theorem getv_enc (post : List UInt8) : ∀ (n k acc : Nat), (0 < k → 0 < n) → k + (enc n).length ≤ 9 → getv k acc (enc n ++ post) = (acc + n * 128 ^ k, k + (enc n).length, 0) := by
  intro n
  induction n using Nat.strongRecOn with
  | ind n ih =>
    intro k acc h0 h9
    by_cases h : n < 128
    · rw [enc_lt h] at h9 ⊢
      have e := low h
      simp at h9
      simp only [List.cons_append, List.nil_append, getv, e]
      rw [if_neg (by omega), if_pos h]; simp
    · rw [enc_ge (by omega)] at h9 ⊢
      have e := high n
      simp at h9
      have := enc_pos (n / 128)
      simp only [List.cons_append, getv, e]
      rw [if_neg (by omega), if_neg (by omega), ih (n / 128) (by omega) (k + 1) _ (by omega) (by omega)]
      simp only [List.length_cons, Prod.mk.injEq]
      refine ⟨?_, by omega, trivial⟩
      have hd : n = n % 128 + 128 * (n / 128) := by omega
      rw [show 128 + n % 128 - 128 = n % 128 by omega, Nat.pow_succ]
      have : n * 128 ^ k = (n % 128) * 128 ^ k + n / 128 * (128 ^ k * 128) := by
        conv => lhs; rw [hd]
        rw [Nat.add_mul, Nat.mul_comm (128 ^ k) 128, ← Nat.mul_assoc, Nat.mul_comm 128 (n / 128)]
      omega

/-- No number's bytes begin another one's. -/
theorem enc_apart {a b : Nat} (ha : a ≤ 9223372036854775807) (hb : b ≤ 9223372036854775807) (t : List UInt8) (h : enc b = enc a ++ t) : a = b := by
  have h1 := getv_enc t a 0 0 (by omega) (by have := enc_nine ha; omega)
  have h2 := getv_enc [] b 0 0 (by omega) (by have := enc_nine hb; omega)
  rw [List.append_nil, h, h1] at h2
  simpa using congrArg Prod.fst h2

theorem getv_bound : ∀ (l : List UInt8) (k acc : Nat), acc < 128 ^ k → k ≤ 9 → (getv k acc l).1 < 128 ^ 9 := by
  intro l
  induction l with
  | nil => intro k acc _ _; simp [getv]
  | cons c r ih =>
    intro k acc ha hk
    have hc : c.toNat < 256 := c.toNat_lt
    unfold getv
    split
    · simp
    · rename_i h1
      have hk9 : k < 9 := by omega
      split
      · rename_i h2
        show acc + c.toNat * 128 ^ k < 128 ^ 9
        have h3 : acc + c.toNat * 128 ^ k < 128 ^ (k + 1) := by
          rw [Nat.pow_succ]
          have : c.toNat * 128 ^ k ≤ 127 * 128 ^ k := Nat.mul_le_mul_right _ (by omega)
          omega
        exact Nat.lt_of_lt_of_le h3 (Nat.pow_le_pow_right (by omega) (by omega))
      · rename_i h2
        refine ih _ _ ?_ (by omega)
        rw [Nat.pow_succ]
        have : (c.toNat - 128) * 128 ^ k ≤ 127 * 128 ^ k := Nat.mul_le_mul_right _ (by omega)
        omega

theorem getv_count : ∀ (l : List UInt8) (k acc : Nat), (getv k acc l).2.1 ≤ k + l.length := by
  intro l
  induction l with
  | nil => intro k acc; simp [getv]
  | cons c r ih =>
    intro k acc
    unfold getv
    split
    · simp
    · split
      · simp
      · have := ih (k + 1) (acc + (c.toNat - 128) * 128 ^ k)
        simp; omega

theorem or128 : ∀ x : Fin 256, x.val ||| 128 = 128 + x.val % 128 := by decide +kernel

/-- byte(m)|128. -/
theorem more_byte (m : Nat) (x : Int) (h : x = IntKind.u8.wrap (m : Int)) : bits .or .u8 x 128 = ((UInt8.ofNat (128 + m % 128)).toNat : Int) := by
  subst h
  rw [IntKind.wrap_u8, u8_or _ _ (by omega) (by omega) (by omega) (by omega), high]
  have h := or128 ⟨m % 256, by omega⟩
  rw [show ((m : Int) % 256).toNat = m % 256 by omega]
  show ((m % 256 ||| 128 : Nat) : Int) = _
  simp only at h
  rw [h]
  omega


theorem wraps_i64 (n : Int) (h₀ : 0 ≤ n) (h₁ : n < 2 ^ 63) : IntKind.i64.wrap n = n := by rw [IntKind.wrap_i64]; omega

theorem pow7 (k : Nat) : 2 ^ (7 * k) = 128 ^ k := by rw [Nat.pow_mul]

/-- acc | d << 7*k, where acc has k groups. -/
theorem or_group (acc k d : Nat) (x : Int) (hx : x = (d : Int)) (ha : acc < 128 ^ k) (hk : k ≤ 8) (hd : d < 128) :
    bits .or .i64 (acc : Int) (RowKit.wrap64 (x * 2 ^ (7 * k))) = ((acc + d * 128 ^ k : Nat) : Int) := by
  subst hx
  have h9 : 128 ^ (k + 1) ≤ 128 ^ 9 := Nat.pow_le_pow_right (by omega) (by omega)
  rw [Nat.pow_succ] at h9
  have h1 : d * 128 ^ k ≤ 127 * 128 ^ k := Nat.mul_le_mul_right _ (by omega)
  have e : ((d : Int) * 2 ^ (7 * k)) = ((d * 128 ^ k : Nat) : Int) := by
    rw [← pow7]; simp
  rw [e, IntWalk.wrap64_in _ ⟨by omega, by omega⟩]
  rw [(bits_nat .i64 63 (by decide) wraps_i64 acc (d * 128 ^ k) (by omega) (by omega)).2]
  rw [← pow7] at ha ⊢
  rw [Nat.or_comm, Nat.mul_comm d, ← Nat.two_pow_add_eq_or_of_lt ha d, Nat.add_comm]

/-- The ways through one round of reading. -/
theorem getv_nine {acc : Nat} {c : UInt8} {r : List UInt8} : getv 9 acc (c :: r) = (0, 0, 3) := by simp [getv]
theorem getv_zero {k acc : Nat} {c : UInt8} {r : List UInt8} (h : 0 < k) (hc : c.toNat = 0) : getv k acc (c :: r) = (0, 0, 3) := by rw [getv, if_pos (Or.inr ⟨h, hc⟩)]
theorem getv_last {k acc : Nat} {c : UInt8} {r : List UInt8} (h9 : k ≠ 9) (h : k = 0 ∨ 0 < c.toNat) (hc : c.toNat < 128) : getv k acc (c :: r) = (acc + c.toNat * 128 ^ k, k + 1, 0) := by
  rw [getv, if_neg (by omega), if_pos hc]
theorem getv_more {k acc : Nat} {c : UInt8} {r : List UInt8} (h9 : k ≠ 9) (hc : ¬ c.toNat < 128) : getv k acc (c :: r) = getv (k + 1) (acc + (c.toNat - 128) * 128 ^ k) r := by
  rw [getv, if_neg (by omega), if_neg hc]
theorem acc_more {k acc d : Nat} (h : acc < 128 ^ k) (hd : d < 128) : acc + d * 128 ^ k < 128 ^ (k + 1) := by
  rw [Nat.pow_succ]
  have : d * 128 ^ k ≤ 127 * 128 ^ k := Nat.mul_le_mul_right _ (by omega)
  omega
theorem drop_at {α : Type} {l : List α} {j : Nat} {c : α} (h : l[j]? = some c) : l.drop j = c :: l.drop (j + 1) := by
  obtain ⟨hj, rfl⟩ := List.getElem?_eq_some_iff.1 h
  exact List.drop_eq_getElem_cons hj

end Go.Proofs.YtammfmmpldahhaaGreat


namespace Go.Proofs.YtammfmmpldahhaaGreat
open Go.RowKit

set_option maxRecDepth 4000 in
set_option maxHeartbeats 400000 in
theorem len_any (n : Nat) (w : World) (h1 : n ≤ 9223372036854775807) :
    Calls Tryz.prog 76 #[.int .i64 (n : Int)] w fun e w' => e = .returned (.int .i64 ((enc n).length : Int)) ∧ w = w' := by
  have h9 := enc_nine h1
  go_enter Tryz.func76, Tryz.ntmps76
  go_wp2
  go_loop [0, 3] (fun x s => ∃ m k : Nat, x = .int .i64 (m : Int) ∧ s = .int .i64 (k : Int) ∧ m ≤ n ∧ k + (enc m).length = (enc n).length + 1) (fun x _ => (intOf x).toNat)
  case atStart => exact ⟨n, 1, rfl, rfl, by omega, by omega⟩
  case round =>
    obtain ⟨m, k, rfl, rfl, hm, hk⟩ := hrel
    have hp := enc_pos m
    have hk9 : k ≤ 9 := by omega
    have HK := Lib.hid hk; clear hk hp h9
    by_cases hlt : m < 128
    · go_wp2
      go_ret
      have h := HK.out
      rw [enc_lt hlt] at h
      simp at h
      exact ⟨ret_int (by omega), rfl⟩
    · have hs := HK.out
      rw [enc_ge (by omega)] at hs
      simp at hs
      have HS := Lib.hid hs; clear hs
      go_wp2
      go_round
      case rel => exact ⟨m / 128, k + 1, by go_num, by go_num, by omega, by have := HS.out; omega⟩
      case measure => simp [intOf]; omega

set_option maxRecDepth 4000 in
set_option maxHeartbeats 400000 in
theorem len_neg (n : Int) (w : World) (h0 : n < 0) (h1 : -9223372036854775808 ≤ n) :
    Calls Tryz.prog 76 #[.int .i64 n] w fun e w' => e = .returned (.int .i64 ((enc 0).length : Int)) ∧ w = w' := by
  have e0 : (enc 0).length = 1 := by rw [enc_lt (by omega)]; rfl
  have E0 := Lib.hid e0; clear e0
  go_enter Tryz.func76, Tryz.ntmps76
  go_wp2
  refine wp_loop_rounds 1 ?_
  rw [rounds_succ]
  go_wp2
  go_ret
  exact ⟨ret_int (by rw [E0.out]; rfl), rfl⟩

/-- Len at every number. -/
theorem len_all (n : Int) (w : World) (h0 : -9223372036854775808 ≤ n) (h1 : n ≤ 9223372036854775807) :
    Calls Tryz.prog 76 #[.int .i64 n] w fun e w' => e = .returned (.int .i64 ((enc n.toNat).length : Int)) ∧ w = w' := by
  by_cases h : n < 0
  · rw [show n.toNat = 0 by omega]
    exact len_neg n w h h0
  · obtain ⟨k, rfl⟩ := Int.eq_ofNat_of_zero_le (show 0 ≤ n by omega)
    exact len_any k w (by omega)

/-- Len, where the argument and the result have names of their own. -/
theorem len_is (n : Int) (w : World) (N k : Nat) (hn : n = (N : Int)) (h1 : n ≤ 9223372036854775807) (hk : Hid (k = (enc N).length)) :
    Calls Tryz.prog 76 #[.int .i64 n] w fun e w' => e = .returned (.int .i64 (k : Int)) ∧ w = w' := by
  subst hn
  rw [hk.out]
  exact len_any N w (by omega)
end Go.Proofs.YtammfmmpldahhaaGreat


namespace Go.Proofs.YtammfmmpldahhaaGreat
open Go.RowKit

theorem info_u8 : (Tryz.prog.info? 5).map (fun i => (i.zero, i.size, i.bytes)) = some (some (.int .u8 0), 1, 1) := by kernel_rfl

set_option maxRecDepth 4000 in
set_option maxHeartbeats 400000 in
theorem bytes_any (n : Int) (w : World) (h0 : -9223372036854775808 ≤ n) (h1 : n ≤ 9223372036854775807) :
    Calls Tryz.prog 31 #[.int .i64 n] w (Makes w 5 (enc n.toNat)) := by
  go_enter Tryz.func31, Tryz.ntmps31
  by_cases hn : n < 0
  all_goals
    go_wp2
    go_loopw [0, 3] (fun x v wr => ∃ (m : Nat) (pre : List UInt8), x = .int .i64 (m : Int) ∧ Owns wr w.heap.size 5 v pre ∧ m ≤ n.toNat ∧ pre ++ enc m = enc n.toNat ∧ Below w.heap.size w wr) (fun x _ _ => (intOf x).toNat)
    case atStart => exact ⟨n.toNat, [], by go_num, Owns.empty _ _ _, by omega, rfl, Below.refl _ _⟩
    case round =>
      obtain ⟨m, pre, rfl, hown, hm, he, hb⟩ := hrel
      have hl : pre.length ≤ 9 := by have := congrArg List.length he; have := enc_nine (n := n.toNat) (by omega); simp at *; omega
      have HE := Lib.hid he; clear he
      have hsz := hb.size
      by_cases hlt : m < 128
      · go_wp2_with (at_builtin; refine append_bytes rfl _ _ 28 5 rfl Tryz.underlying28 info_u8 w.heap.size pre [UInt8.ofNat m] _ _ rfl rfl (hown.alloc _) (Reads.one _ _ _ _ (by rw [low hlt])) (by simp; omega) w (hb.alloc (by omega) _) (Nat.le_refl _) ?_; intro v' w' ho hb' hg)
        go_ret
        exact ⟨v', rfl, by have := HE.out; rw [enc_lt hlt] at this; rw [← this]; exact ho, hb'⟩
      · go_wp2_with (at_builtin; refine append_bytes rfl _ _ 28 5 rfl Tryz.underlying28 info_u8 w.heap.size pre [UInt8.ofNat (128 + m % 128)] _ _ rfl rfl (hown.alloc _) (Reads.one _ _ _ _ (by rw [high]; omega)) (by simp; omega) w (hb.alloc (by omega) _) (Nat.le_refl _) ?_; intro v' w' ho hb' hg)
        all_goals
          go_roundw
          case rel => exact ⟨m / 128, _, by go_num, ho, by omega, by have := HE.out; rw [enc_ge (by omega)] at this; simpa using this, hb'⟩
          case measure => simp [intOf]; omega
end Go.Proofs.YtammfmmpldahhaaGreat


namespace Go.Proofs.YtammfmmpldahhaaGreat
open Go.RowKit

set_option maxRecDepth 4000 in
set_option maxHeartbeats 800000 in
theorem put_any (v : Value) (l : List UInt8) (n : Int) (w : World) (hr : Reads w v l) (hlen : l.length ≤ 140737488351232) (h0 : -9223372036854775808 ≤ n) (h1 : n ≤ 9223372036854775807) :
    Calls Tryz.prog 46 #[v, .int .i64 n] w (Makes w 5 (l ++ enc n.toNat)) := by
  obtain ⟨N, hN⟩ : ∃ N : Nat, N = n.toNat := ⟨_, rfl⟩
  have hN9 : N ≤ 9223372036854775807 := by omega
  obtain ⟨k, hk⟩ : ∃ k : Nat, k = (enc N).length := ⟨_, rfl⟩
  have hk9 : k ≤ 9 := by rw [hk]; exact enc_nine hN9
  have HK : Hid (k = (enc N).length) := hk
  clear hk
  obtain ⟨ao, cap, rfl⟩ := hr.shape
  rw [← hN]
  rcases (show n < 0 ∧ N ≤ 0 ∨ 0 ≤ n ∧ n = (N : Int) by omega) with ⟨hn, hn0⟩ | ⟨hn, rfl⟩
  all_goals
    clear hN
    go_enter Tryz.func46, Tryz.ntmps46
    go_wp2_with (first
      | (go_at_call 76; refine (len_is _ _ _ k (by first | rfl | omega) (by omega) HK).mono ?_; rintro e w' ⟨rfl, rfl⟩)
      | (at_make; refine make_bytes rfl _ _ 28 5 rfl Tryz.underlying28 info_u8 w.heap.size l.length (l.length + k) _ _ _ _ rfl rfl rfl (by omega) (by omega) (by omega) w (Below.refl _ _) (Nat.le_refl _) ?_; intro w1 ho1 hb1)
      | (with_reducible show wpList _ _ _ _ _ _; refine copy_bytes rfl (.tmp 16) (.tmp 17) 28 28 5 rfl Tryz.underlying28 info_u8 w.heap.size _ l w.heap.size l.length (l.length + k) (.slice ao l.length cap) rfl rfl ho1 (hr.below hb1) (by simp) w hb1 (Nat.le_refl _) ?_; intro w2 ho2 hb2 _))
    have ho3 : Owns w2 w.heap.size 5 (.slice (some ⟨w.heap.size, 0, none⟩) l.length (l.length + k)) l := by simpa using ho2
    clear ho1 ho2 hb1
    simp only [goInt, Act.put, List.setIfInBounds_toArray, List.set_cons_succ, List.set_cons_zero]
    go_loopw [1, 5] (fun x v wr => ∃ (m : Nat) (pre : List UInt8), x = .int .i64 (m : Int) ∧ Owns wr w.heap.size 5 v (l ++ pre) ∧ m ≤ 9223372036854775807 ∧ Hid (pre ++ enc m = enc N) ∧ Below w.heap.size w wr) (fun x _ _ => (intOf x).toNat)
    case atStart => exact ⟨N, [], by go_num, by simpa using ho3, hN9, rfl, hb2⟩
    case round =>
      clear ho3 hb2
      obtain ⟨m, pre, rfl, hown, hm, HE, hb⟩ := hrel
      have hl9 : pre.length ≤ 9 := by have := congrArg List.length HE.out; simp at this; have := HK.out; omega
      have hsz := hb.size
      by_cases hlt : m < 128
      · go_wp2_with (at_builtin; refine append_bytes rfl _ _ 28 5 rfl Tryz.underlying28 info_u8 w.heap.size (l ++ pre) [UInt8.ofNat m] _ _ rfl rfl (hown.alloc _) (Reads.one _ _ _ _ (by rw [low hlt])) (by simp; omega) w (hb.alloc (by omega) _) (Nat.le_refl _) ?_; intro v' w' ho hb' hg)
        go_ret
        exact ⟨v', rfl, by have := HE.out; rw [enc_lt hlt] at this; rw [← this, ← List.append_assoc]; exact ho, hb'⟩
      · go_wp2_with (at_builtin; refine append_bytes rfl _ _ 28 5 rfl Tryz.underlying28 info_u8 w.heap.size (l ++ pre) [UInt8.ofNat (128 + m % 128)] _ _ rfl rfl (hown.alloc _) (Reads.one _ _ _ _ (more_byte _ _ (by first | rfl | simp [IntKind.wrap_u8]))) (by simp; omega) w (hb.alloc (by omega) _) (Nat.le_refl _) ?_; intro v' w' ho hb' hg)
        go_roundw
        case rel => exact ⟨m / 128, pre ++ [_], by go_num, by rw [← List.append_assoc]; exact ho, by omega, by have := HE.out; rw [enc_ge (by omega)] at this; show _ = _; simpa using this, hb'⟩
        case measure => simp [intOf]; omega
end Go.Proofs.YtammfmmpldahhaaGreat


namespace Go.Proofs.YtammfmmpldahhaaGreat
open Go.RowKit

/-- What a call leaves that only reads: the value, and a world in which orders have been drawn. -/
def Tells (w : World) (v : Value) (e : Ending) (w' : World) : Prop := e = .returned v ∧ ∃ n, w' = w.drewN n

theorem take_next {l m : List UInt8} {i : Nat} {c d : UInt8} (h : l.take i = m.take i) (hl : l[i]? = some c) (hm : m[i]? = some d) (hcd : c = d) : l.take (i + 1) = m.take (i + 1) := by
  rw [List.take_add_one, List.take_add_one, hl, hm, h, hcd]

set_option maxRecDepth 4000 in
set_option maxHeartbeats 800000 in
theorem same_any (v u : Value) (l m : List UInt8) (w : World) (hv : Reads w v l) (hu : Reads w u m) :
    Calls Tryz.prog 12 #[v, u] w (Tells w (.bool (l == m))) := by
  by_cases hlen : l.length = m.length
  · by_cases h0 : l.length = 0
    · obtain rfl : l = [] := List.eq_nil_of_length_eq_zero h0
      obtain rfl : m = [] := List.eq_nil_of_length_eq_zero (by omega)
      obtain ⟨ao, cap, rfl⟩ := hv.shape
      obtain ⟨bo, dap, rfl⟩ := hu.shape
      clear hv hu hlen h0
      go_enter Tryz.func12, Tryz.ntmps12
      go_wp2
      refine wp_loop_rounds 1 ?_
      rw [rounds_succ]
      go_wp2
      go_ret
      exact ⟨rfl, 0, rfl⟩
    · obtain ⟨ao, cap, rfl⟩ := hv.shape
      obtain ⟨bo, dap, rfl⟩ := hu.shape
      have hl := hv.len
      have hm := hu.len
      obtain ⟨b, off, rfl, hc⟩ := hv.place (by omega)
      obtain ⟨b', off', rfl, hd⟩ := hu.place (by omega)
      obtain ⟨n, hn⟩ : ∃ n, n = l.length := ⟨_, rfl⟩
      have hn' : m.length = n := by omega
      rw [← hn, hn']
      have hn9 : n ≤ 9223372036854775807 := by omega
      have HN := Lib.hid hn; have HM := Lib.hid hn'
      have HC := Lib.hid hc; have HD := Lib.hid hd
      clear hl hm hn hn' hlen hc hd
      go_enter Tryz.func12, Tryz.ntmps12
      go_wp2
      go_loopw [5] (fun x wr => ∃ i : Nat, x = .int .i64 (i : Int) ∧ i ≤ n ∧ Hid (l.take i = m.take i) ∧ ∃ q, wr = w.drewN q) (fun x _ => n - (intOf x).toNat)
      case atStart => exact ⟨0, rfl, by omega, rfl, 0, rfl⟩
      case round =>
        obtain ⟨i, rfl, hi, HE, q, rfl⟩ := hrel
        by_cases hlt : i < n
        · obtain ⟨c, hlc⟩ : ∃ c, l[i]? = some c := ⟨_, List.getElem?_eq_getElem (by have := HN.out; omega)⟩
          obtain ⟨d, hmd⟩ : ∃ d, m[i]? = some d := ⟨_, List.getElem?_eq_getElem (by have := HM.out; omega)⟩
          have hc := HC.out i c hlc
          have hd := HD.out i d hmd
          have HLC := Lib.hid hlc; have HMD := Lib.hid hmd
          clear hlc hmd
          go_wp2
          go_quiet (fail)
          by_cases hcd : c = d
          · subst hcd
            go_wp2
            go_roundw
            case rel => exact ⟨i + 1, by go_num, by omega, take_next HE.out HLC.out HMD.out rfl, _, rfl⟩
            case measure => simp [intOf]; omega
          · have hne : ((c.toNat : Int) != (d.toNat : Int)) = true := by simp; exact fun h => hcd (UInt8.toNat_inj.1 (by omega))
            go_wp2
            go_ret
            exact ⟨ret_bool (by simp; exact fun h => hcd (by have h1 := HLC.out; have h2 := HMD.out; rw [h, h2] at h1; simpa using h1.symm)), _, World.drewN_drewN _ _ _⟩
        · go_wp2
          go_ret
          exact ⟨ret_bool (by simp; have h := HE.out; rwa [List.take_of_length_le (by have := HN.out; omega), List.take_of_length_le (by have := HM.out; omega)] at h), _, rfl⟩
  · obtain ⟨ao, cap, rfl⟩ := hv.shape
    obtain ⟨bo, dap, rfl⟩ := hu.shape
    have h1 : ((l.length : Int) == (m.length : Int)) = false := by simp; omega
    have h2 : ((l.length : Int) != (m.length : Int)) = true := by simp; omega
    go_enter Tryz.func12, Tryz.ntmps12
    go_wp2
    go_ret
    exact ⟨ret_bool (by simp; exact fun h => hlen (by rw [h])), 0, rfl⟩
end Go.Proofs.YtammfmmpldahhaaGreat


namespace Go.Proofs.YtammfmmpldahhaaGreat
open Go.RowKit

/-- What Get tells: the number, the place behind it, the error. -/
def getp (l : List UInt8) (pl : Int) : Int × Int × Int :=
  if pl < 0 ∨ (l.length : Int) < pl then (0, 0, 6) else
    let r := getv 0 0 (l.drop pl.toNat)
    if r.2.2 = 0 then (r.1, pl + r.2.1, 0) else (0, 0, r.2.2)

/-- The three results of Get. -/
def Three (w : World) (r : Int × Int × Int) (e : Ending) (w' : World) : Prop := e = .returned (.tuple #[.int .i64 r.1, .int .i64 r.2.1, .int .i64 r.2.2]) ∧ w = w'

theorem getp_ok {l : List UInt8} {p n c : Nat} (hp : p ≤ l.length) (h : getv 0 0 (l.drop p) = (n, c, 0)) : getp l p = ((n : Int), (p : Int) + (c : Int), 0) := by
  unfold getp
  rw [if_neg (by omega), Int.toNat_natCast, h]
  simp
theorem getp_err {l : List UInt8} {p e : Nat} (hp : p ≤ l.length) (he : e ≠ 0) (h : getv 0 0 (l.drop p) = (0, 0, e)) : getp l p = (0, 0, (e : Int)) := by
  unfold getp
  rw [if_neg (by omega), Int.toNat_natCast, h]
  simp [he]
theorem three {a b c : Int} {r : Int × Int × Int} (h : r = (a, b, c)) : Ending.returned (.tuple #[.int .i64 a, .int .i64 b, .int .i64 c]) = .returned (.tuple #[.int .i64 r.1, .int .i64 r.2.1, .int .i64 r.2.2]) := by rw [h]

set_option maxRecDepth 4000 in
set_option maxHeartbeats 800000 in
theorem get_in (v : Value) (l : List UInt8) (p : Nat) (w : World) (hv : Reads w v l) (hp : p < l.length) :
    Calls Tryz.prog 82 #[v, .int .i64 (p : Int)] w (Three w (getp l p)) := by
  obtain ⟨ao, cap, rfl⟩ := hv.shape
  have hl := hv.len
  obtain ⟨b, off, rfl, hc⟩ := hv.place (by omega)
  obtain ⟨n, hn⟩ : ∃ n, n = l.length := ⟨_, rfl⟩
  rw [← hn]
  have hpn : p < n := by omega
  have hnc : n ≤ cap := by omega
  have hc9 : cap ≤ 9223372036854775807 := by omega
  have hpc : ¬ cap = p := by omega
  have HN := Lib.hid hn
  have HC := Lib.hid hc
  have hb1 : decide ((p : Int) < 0) = false := by simp
  have hb2 : decide (n < p) = false := by simp; omega
  clear hl hn hc hp
  go_enter Tryz.func82, Tryz.ntmps82
  go_wp2
  go_step3
  go_wp2
  go_step3
  go_wp2
  go_loop [24, 7, 9] (fun x y z => z = .int .i64 1 ∧ ∃ k acc : Nat, x = .int .i64 (k : Int) ∧ y = .int .i64 (acc : Int) ∧ k ≤ n - p ∧ k ≤ 9 ∧ Hid (acc < 128 ^ k) ∧ Hid (getv k acc (l.drop (p + k)) = getv 0 0 (l.drop p))) (fun x _ _ => n - (intOf x).toNat)
  case atStart => exact ⟨rfl, 0, 0, rfl, rfl, by omega, by omega, show 0 < 128 ^ 0 by simp, rfl⟩
  case round =>
    obtain ⟨rfl, k, acc, rfl, rfl, hk, hk9, HA, HE⟩ := hrel
    by_cases hlt : k < n - p
    · obtain ⟨c, hlc⟩ : ∃ c, l[p + k]? = some c := ⟨_, List.getElem?_eq_getElem (by have := HN.out; omega)⟩
      have hc := HC.out (p + k) c hlc
      rw [← Nat.add_assoc] at hc
      have HLC := Lib.hid hlc; clear hlc
      have hc256 := c.toNat_lt
      by_cases h9 : k = 9
      · subst h9
        go_wp2
        go_ret3
        exact ⟨three (getp_err (e := 3) (by have := HN.out; omega) (by omega) (by rw [← HE.out, drop_at HLC.out, getv_nine])), rfl⟩
      · by_cases hz : 0 < k ∧ c.toNat = 0
        · obtain ⟨hz1, hz2⟩ := hz
          go_wp2
          go_ret3
          exact ⟨three (getp_err (e := 3) (by have := HN.out; omega) (by omega) (by rw [← HE.out, drop_at HLC.out, getv_zero hz1 hz2])), rfl⟩
        · by_cases h128 : c.toNat < 128
          · have hz' : k = 0 ∨ 0 < c.toNat := by omega
            have hor := or_group acc k c.toNat c.toNat rfl HA.out (by omega) h128
            obtain ⟨r, hr⟩ : ∃ r : Nat, r = acc + c.toNat * 128 ^ k := ⟨_, rfl⟩
            rw [← hr] at hor
            have HR := Lib.hid hr
            clear hz hr
            go_wp2
            all_goals
              go_ret3
              exact ⟨three (by rw [getp_ok (n := r) (c := k + 1) (by have := HN.out; omega) (by rw [← HE.out, drop_at HLC.out, getv_last h9 hz' h128, HR.out])]; simp; omega), rfl⟩
          · have hor := or_group acc k (c.toNat - 128) ((c.toNat : Int) - 128) (by omega) HA.out (by omega) (by omega)
            obtain ⟨r, hr⟩ : ∃ r : Nat, r = acc + (c.toNat - 128) * 128 ^ k := ⟨_, rfl⟩
            rw [← hr] at hor
            have HR := Lib.hid hr
            clear hz hr
            go_wp2
            all_goals
              go_round
              case rel =>
                refine ⟨rfl, k + 1, r, by go_num, by go_num, by omega, by omega, ?_, ?_⟩
                · show r < _; rw [HR.out]; exact acc_more HA.out (by omega)
                · show getv _ _ _ = _; rw [← HE.out, drop_at HLC.out, getv_more h9 h128, HR.out, Nat.add_assoc]
              case measure => simp [intOf]; omega
    · go_wp2
      go_ret3
      exact ⟨three (getp_err (e := 1) (by have := HN.out; omega) (by omega) (by rw [← HE.out, List.drop_eq_nil_of_le (by have := HN.out; omega)]; rfl)), rfl⟩

set_option maxRecDepth 4000 in
set_option maxHeartbeats 800000 in
theorem get_end (v : Value) (l : List UInt8) (w : World) (hv : Reads w v l) :
    Calls Tryz.prog 82 #[v, .int .i64 (l.length : Int)] w (Three w (getp l l.length)) := by
  obtain ⟨ao, cap, rfl⟩ := hv.shape
  have hl := hv.len
  have hr : getp l l.length = (0, 0, 1) := getp_err (e := 1) (Nat.le_refl _) (by omega) (by rw [List.drop_eq_nil_of_le (Nat.le_refl _)]; rfl)
  rw [hr]
  obtain ⟨n, hn⟩ : ∃ n, n = l.length := ⟨_, rfl⟩
  rw [← hn]
  have hnc : n ≤ cap := by omega
  have hc9 : cap ≤ 9223372036854775807 := by omega
  have hb1 : decide ((n : Int) < 0) = false := by simp
  have hnil := hl.2.2.2
  clear hl hr hn hv
  cases ao with
  | none =>
    obtain rfl : cap = 0 := hnil rfl
    obtain rfl : n = 0 := by omega
    go_enter Tryz.func82, Tryz.ntmps82
    go_wp2
    go_step3
    go_wp2
    go_step3
    go_wp2
    refine wp_loop_rounds 1 ?_
    rw [rounds_succ]
    go_wp2
    go_ret3
    exact ⟨rfl, rfl⟩
  | some x =>
    by_cases hcn : cap = n
    all_goals
      go_enter Tryz.func82, Tryz.ntmps82
      go_wp2
      go_step3
      go_wp2
      go_step3
      go_wp2
      refine wp_loop_rounds 1 ?_
      rw [rounds_succ]
      go_wp2
      go_ret3
      exact ⟨rfl, rfl⟩

set_option maxRecDepth 4000 in
set_option maxHeartbeats 800000 in
theorem get_out (v : Value) (l : List UInt8) (pl : Int) (w : World) (hv : Reads w v l) (h : pl < 0 ∨ (l.length : Int) < pl) :
    Calls Tryz.prog 82 #[v, .int .i64 pl] w (Three w (getp l pl)) := by
  obtain ⟨ao, cap, rfl⟩ := hv.shape
  have hr : getp l pl = (0, 0, 6) := by unfold getp; rw [if_pos h]
  rw [hr]
  obtain ⟨n, hn⟩ : ∃ n, n = l.length := ⟨_, rfl⟩
  rw [← hn] at h ⊢
  clear hr hn hv
  by_cases h1 : pl < 0
  · clear h
    go_enter Tryz.func82, Tryz.ntmps82
    go_wp2
    go_step3
    go_wp2
    go_ret3
    exact ⟨rfl, rfl⟩
  · have h2 : (n : Int) < pl := by omega
    clear h
    go_enter Tryz.func82, Tryz.ntmps82
    go_wp2
    go_step3
    go_wp2
    go_ret3
    exact ⟨rfl, rfl⟩

/-- Get, at any bytes and any place. -/
theorem get_any (v : Value) (l : List UInt8) (pl : Int) (w : World) (hv : Reads w v l) :
    Calls Tryz.prog 82 #[v, .int .i64 pl] w (Three w (getp l pl)) := by
  by_cases h : pl < 0 ∨ (l.length : Int) < pl
  · exact get_out v l pl w hv h
  · obtain ⟨p, rfl⟩ := Int.eq_ofNat_of_zero_le (show 0 ≤ pl by omega)
    by_cases hp : p = l.length
    · subst hp; exact get_end v l w hv
    · exact get_in v l p w hv (by omega)

/-- Get, where the three results have names of their own. -/
theorem get_is (v : Value) (l : List UInt8) (pl : Int) (w : World) (a b c : Int) (hv : Reads w v l) (h : Hid (getp l pl = (a, b, c))) :
    Calls Tryz.prog 82 #[v, .int .i64 pl] w fun e w' => e = .returned (.tuple #[.int .i64 a, .int .i64 b, .int .i64 c]) ∧ w = w' := by
  have hg := get_any v l pl w hv
  rw [h.out] at hg
  exact hg
end Go.Proofs.YtammfmmpldahhaaGreat


namespace Go.Proofs.YtammfmmpldahhaaGreat

/-- What is read from the front is the very encoding of the number. -/
theorem getv_canon : ∀ (l : List UInt8) (k acc n c : Nat), getv k acc l = (n, c, 0) → ∃ m, n = acc + m * 128 ^ k ∧ c = k + (enc m).length ∧ l.take (enc m).length = enc m ∧ (0 < k → 0 < m) := by
  intro l
  induction l with
  | nil => intro k acc n c h; simp [getv] at h
  | cons b r ih =>
    intro k acc n c h
    have hb := b.toNat_lt
    unfold getv at h
    split at h
    · simp at h
    · rename_i h1
      split at h
      · rename_i h2
        simp only [Prod.mk.injEq] at h
        refine ⟨b.toNat, h.1.symm, ?_, ?_, by omega⟩
        · rw [enc_lt h2]; simp; omega
        · rw [enc_lt h2]; simp
      · rename_i h2
        obtain ⟨m, e1, e2, e3, e4⟩ := ih _ _ _ _ h
        have hm := e4 (by omega)
        refine ⟨b.toNat - 128 + 128 * m, ?_, ?_, ?_, by omega⟩
        · rw [e1, Nat.pow_succ, Nat.add_mul, Nat.mul_comm 128 m, Nat.mul_assoc m 128, Nat.mul_comm 128 (128 ^ k)]; omega
        · rw [enc_ge (by omega), show (b.toNat - 128 + 128 * m) / 128 = m by omega, e2]; simp; omega
        · rw [enc_ge (by omega), show (b.toNat - 128 + 128 * m) / 128 = m by omega]
          simp only [List.length_cons, List.take_succ_cons, e3, List.cons.injEq, and_true]
          apply UInt8.toNat_inj.1
          rw [high]; omega

/-- What Get may tell. -/
theorem getp_cases (l : List UInt8) (pl : Int) :
    (∃ e : Int, e ≠ 0 ∧ getp l pl = (0, 0, e)) ∨
    (∃ p n c : Nat, pl = (p : Int) ∧ p + c ≤ l.length ∧ 0 < c ∧ n ≤ 9223372036854775807 ∧ getp l pl = ((n : Int), ((p + c : Nat) : Int), 0) ∧ (l.drop p).take c = enc n) := by
  unfold getp
  by_cases h : pl < 0 ∨ (l.length : Int) < pl
  · rw [if_pos h]; exact .inl ⟨6, by omega, rfl⟩
  · rw [if_neg h]
    obtain ⟨p, rfl⟩ := Int.eq_ofNat_of_zero_le (show 0 ≤ pl by omega)
    have hp : p ≤ l.length := by omega
    simp only [Int.toNat_natCast]
    obtain ⟨r, hr⟩ : ∃ r, r = getv 0 0 (l.drop p) := ⟨_, rfl⟩
    rw [← hr]
    by_cases h0 : r.2.2 = 0
    · right
      rw [if_pos h0]
      obtain ⟨n, c, e⟩ := r
      simp only at h0
      subst h0
      obtain ⟨m, e1, e2, e3, _⟩ := getv_canon _ _ _ _ _ hr.symm
      have hb := getv_bound (l.drop p) 0 0 (by simp) (by omega)
      have hk := getv_count (l.drop p) 0 0
      rw [← hr] at hb hk
      simp at e1 e2
      subst e1
      have := enc_pos n
      refine ⟨p, n, c, rfl, ?_, by omega, by simp at hb; omega, by simp, by rw [e2]; exact e3⟩
      simp at hk; omega
    · rw [if_neg h0]
      exact .inl ⟨_, by omega, rfl⟩

end Go.Proofs.YtammfmmpldahhaaGreat
