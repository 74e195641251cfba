/- CRC-32 as a plain function on 32 bits, and what is true of it. No program is spoken of. -/
import Derived.WalkKit
namespace Go.Proofs.YtmhabcabbefncaaDoor
namespace Crc

abbrev R := BitVec 32
/-- The constant that a bit shifted out brings in. -/
def poly : R := 0xedb88320
/-- One bit. -/
def step (r : R) : R := (r >>> 1) ^^^ (if r.getLsbD 0 then poly else 0#32)
/-- n bits. -/
def steps : Nat → R → R
  | 0, r => r
  | n + 1, r => steps n (step r)
/-- A byte as 32 bits. -/
def wide (c : UInt8) : R := BitVec.ofNat 32 c.toNat
/-- One byte. -/
def upd (r : R) (c : UInt8) : R := steps 8 (r ^^^ wide c)
/-- Many bytes. -/
def run (r : R) (l : List UInt8) : R := l.foldl upd r
/-- The checksum. -/
def sum (l : List UInt8) : R := ~~~ (run (~~~ 0#32) l)

theorem run_app (r : R) (l m : List UInt8) : run r (l ++ m) = run (run r l) m := by simp [run]

theorem step_xor (a b : R) : step (a ^^^ b) = step a ^^^ step b := by
  unfold step
  rw [BitVec.ushiftRight_xor_distrib, BitVec.getLsbD_xor]
  cases a.getLsbD 0 <;> cases b.getLsbD 0 <;> simp
  · rw [BitVec.xor_assoc]
  · rw [BitVec.xor_assoc, BitVec.xor_comm (b >>> 1), BitVec.xor_assoc]
  · rw [BitVec.xor_assoc, BitVec.xor_comm poly, BitVec.xor_assoc, BitVec.xor_self, BitVec.xor_zero]

theorem steps_xor (n : Nat) : ∀ a b : R, steps n (a ^^^ b) = steps n a ^^^ steps n b := by
  induction n with
  | zero => intro a b; rfl
  | succ n ih => intro a b; show steps n (step (a ^^^ b)) = _; rw [step_xor, ih]; rfl

theorem steps_zero (n : Nat) : steps n 0#32 = 0#32 := by
  induction n with
  | zero => rfl
  | succ n ih => show steps n (step 0#32) = 0#32; rw [show step 0#32 = 0#32 by decide, ih]

theorem step_zero {a : R} (h : step a = 0#32) : a = 0#32 := by
  unfold step at h
  cases hb : a.getLsbD 0 with
  | true =>
    rw [hb] at h
    exfalso
    have h31 := congrArg (fun x : R => x.getLsbD 31) h
    simp [poly] at h31
  | false =>
    rw [hb] at h
    simp only [Bool.false_eq_true, if_false, BitVec.xor_zero] at h
    apply BitVec.eq_of_getLsbD_eq
    intro i hi
    match i, hi with
    | 0, _ => simpa using hb
    | i + 1, hi =>
      have := congrArg (fun x : R => x.getLsbD i) h
      simpa [BitVec.getLsbD_ushiftRight, Nat.add_comm] using this

theorem steps_inj0 (n : Nat) : ∀ a : R, steps n a = 0#32 → a = 0#32 := by
  induction n with
  | zero => intro a h; exact h
  | succ n ih => intro a h; exact step_zero (ih _ h)

theorem xor_eq_zero {a b : R} (h : a ^^^ b = 0#32) : a = b := by
  have := congrArg (fun x => x ^^^ b) h
  simpa [BitVec.xor_assoc] using this

theorem steps_inj {n : Nat} {a b : R} (h : steps n a = steps n b) : a = b := by
  apply xor_eq_zero
  apply steps_inj0 n
  rw [steps_xor, h, BitVec.xor_self]

theorem upd_inj {a b : R} {c : UInt8} (h : upd a c = upd b c) : a = b := by
  have := steps_inj h
  have h2 := congrArg (fun x => x ^^^ wide c) this
  simpa [BitVec.xor_assoc] using h2

theorem run_inj (l : List UInt8) : ∀ a b : R, run a l = run b l → a = b := by
  induction l with
  | nil => intro a b h; exact h
  | cons c r ih => intro a b h; exact upd_inj (ih _ _ h)

/-- A zero bit goes out of an even number: half of it is left. -/
theorem step_even (v : R) (h : v.toNat < 2 ^ 31) : step (v <<< 1) = v := by
  unfold step
  have h0 : (v <<< 1).getLsbD 0 = false := by simp
  rw [h0]
  simp only [Bool.false_eq_true, if_false, BitVec.xor_zero]
  apply BitVec.eq_of_toNat_eq
  rw [BitVec.toNat_ushiftRight, BitVec.toNat_shiftLeft, Nat.shiftLeft_eq, Nat.shiftRight_eq_div_pow]
  omega

theorem steps_even (n : Nat) : ∀ v : R, v.toNat < 2 ^ (32 - n) → n ≤ 32 → steps n (v <<< n) = v := by
  induction n with
  | zero => intro v _ _; simp [steps]
  | succ n ih =>
    intro v h hn
    show steps n (step (v <<< (n + 1))) = v
    have e : v <<< (n + 1) = (v <<< n) <<< 1 := by rw [BitVec.shiftLeft_add]
    have hv : (v <<< n).toNat < 2 ^ 31 := by
      rw [BitVec.toNat_shiftLeft, Nat.shiftLeft_eq]
      have h1 : v.toNat * 2 ^ n < 2 ^ (32 - (n + 1)) * 2 ^ n := Nat.mul_lt_mul_of_pos_right h (Nat.two_pow_pos n)
      rw [← Nat.pow_add, show 32 - (n + 1) + n = 31 by omega] at h1
      rw [Nat.mod_eq_of_lt (by omega)]
      exact h1
    rw [e, step_even _ hv]
    refine ih v (Nat.lt_of_lt_of_le h (Nat.pow_le_pow_right (by omega) (by omega))) (by omega)

theorem wide_lt (c : UInt8) : (wide c).toNat < 2 ^ 8 := by
  have := c.toNat_lt
  simp [wide]; omega

/-- Where a byte's steps leave a small number, they came from it, a byte higher. -/
theorem back {a v : R} (h : steps 8 a = v) (hv : v.toNat < 2 ^ 24) : a = v <<< 8 := by
  apply steps_inj (n := 8)
  rw [h, steps_even 8 v (by simpa using hv) (by omega)]

theorem wide_xor (a b : UInt8) : wide (a ^^^ b) = wide a ^^^ wide b := by
  apply BitVec.eq_of_toNat_eq
  have ha := a.toNat_lt
  have hb := b.toNat_lt
  have h : a.toNat ^^^ b.toNat < 2 ^ 8 := Nat.xor_lt_two_pow ha hb
  simp [wide, UInt8.toNat_xor]

theorem wide_zero {c : UInt8} (h : wide c = 0#32) : c = 0 := by
  have := congrArg BitVec.toNat h
  have hc := c.toNat_lt
  simp [wide] at this
  apply UInt8.toNat_inj.1
  simp; omega

theorem shl8 {d : R} (hd : d.toNat < 2 ^ 24) : (d <<< 8).toNat = d.toNat * 256 := by
  rw [BitVec.toNat_shiftLeft, Nat.shiftLeft_eq]; omega

theorem shl_eq_wide {d : R} {c : UInt8} (h : d <<< 8 = wide c) (hd : d.toNat < 2 ^ 24) : d = 0#32 ∧ c = 0 := by
  have h1 := congrArg BitVec.toNat h
  rw [shl8 hd] at h1
  have h2 := wide_lt c
  have h3 : d.toNat = 0 := by omega
  have h4 : d = 0#32 := BitVec.eq_of_toNat_eq (by simpa using h3)
  refine ⟨h4, wide_zero ?_⟩
  rw [← h, h4]; simp

theorem xor_swap {a b c : R} (h : a ^^^ b = c) : a = c ^^^ b := by
  rw [← h, BitVec.xor_assoc, BitVec.xor_self, BitVec.xor_zero]

theorem xor_small {a b : R} {n : Nat} (ha : a.toNat < 2 ^ n) (hb : b.toNat < 2 ^ n) : (a ^^^ b).toNat < 2 ^ n := by
  rw [BitVec.toNat_xor]; exact Nat.xor_lt_two_pow ha hb

/-- Four bytes that lead from nothing to nothing are zeros. -/
theorem four (x0 x1 x2 x3 : UInt8) (h : run 0#32 [x0, x1, x2, x3] = 0#32) : x0 = 0 ∧ x1 = 0 ∧ x2 = 0 ∧ x3 = 0 := by
  obtain ⟨d1, h1⟩ : ∃ d, upd 0#32 x0 = d := ⟨_, rfl⟩
  obtain ⟨d2, h2⟩ : ∃ d, upd d1 x1 = d := ⟨_, rfl⟩
  obtain ⟨d3, h3⟩ : ∃ d, upd d2 x2 = d := ⟨_, rfl⟩
  have h4 : upd d3 x3 = 0#32 := by rw [← h3, ← h2, ← h1]; exact h
  unfold upd at h1 h2 h3 h4
  have w0 := wide_lt x0
  have w1 := wide_lt x1
  have w2 := wide_lt x2
  have w3 := wide_lt x3
  have e3 : d3 = wide x3 := xor_eq_zero (steps_inj0 8 _ h4)
  have b3 : d3.toNat < 2 ^ 8 := by rw [e3]; exact w3
  have e2 := xor_swap (back h3 (by omega))
  have b2 : d2.toNat < 2 ^ 16 := by rw [e2]; exact xor_small (by rw [shl8 (by omega)]; omega) (by omega)
  have e1 := xor_swap (back h2 (by omega))
  have b1 : d1.toNat < 2 ^ 24 := by rw [e1]; exact xor_small (by rw [shl8 (by omega)]; omega) (by omega)
  have e0 := back h1 b1
  rw [BitVec.zero_xor] at e0
  obtain ⟨z1, y0⟩ := shl_eq_wide e0.symm b1
  have f1 := e1.symm.trans z1
  have g1 := xor_eq_zero f1
  obtain ⟨z2, y1⟩ := shl_eq_wide g1 (by omega)
  have g2 := xor_eq_zero (e2.symm.trans z2)
  obtain ⟨z3, y2⟩ := shl_eq_wide g2 (by omega)
  exact ⟨y0, y1, y2, wide_zero (by rw [← e3, z3])⟩

theorem run_zeros (n : Nat) : run 0#32 (List.replicate n 0) = 0#32 := by
  induction n with
  | zero => rfl
  | succ n ih =>
    rw [List.replicate_succ]
    have e : upd 0#32 0 = 0#32 := by decide
    show run (upd 0#32 0) (List.replicate n 0) = _
    rw [e]
    exact ih

theorem window0 (w : List UInt8) (hw : w.length ≤ 4) (h : run 0#32 w = 0#32) : ∀ c ∈ w, c = 0 := by
  have hp : run 0#32 (w ++ List.replicate (4 - w.length) 0) = 0#32 := by rw [run_app, h, run_zeros]
  match w, hw with
  | [], _ => simp
  | [a], _ => have := four a 0 0 0 hp; simp [this]
  | [a, b], _ => have := four a b 0 0 hp; simp [this]
  | [a, b, c], _ => have := four a b c 0 hp; simp [this]
  | [a, b, c, d], _ => have := four a b c d hp; simp [this]
  | a :: b :: c :: d :: e :: r, hw => simp at hw

theorem run_diff : ∀ (l m : List UInt8) (r s : R), l.length = m.length → run r l ^^^ run s m = run (r ^^^ s) (List.zipWith (· ^^^ ·) l m) := by
  intro l
  induction l with
  | nil => intro m r s h; cases m with
    | nil => rfl
    | cons c t => simp at h
  | cons a l ih =>
    intro m r s h
    cases m with
    | nil => simp at h
    | cons b m =>
      show run (upd r a) l ^^^ run (upd s b) m = run (upd (r ^^^ s) (a ^^^ b)) (List.zipWith (· ^^^ ·) l m)
      rw [ih m _ _ (by simpa using h)]
      congr 1
      unfold upd
      rw [← steps_xor, wide_xor]
      congr 1
      rw [BitVec.xor_assoc, ← BitVec.xor_assoc (wide a), BitVec.xor_comm (wide a) s, BitVec.xor_assoc, ← BitVec.xor_assoc r, ← BitVec.xor_assoc]

theorem window (r : R) (v w : List UInt8) (hv : v.length ≤ 4) (hl : v.length = w.length) (h : run r v = run r w) : v = w := by
  have h0 := run_diff v w r r hl
  rw [h, BitVec.xor_self, BitVec.xor_self] at h0
  have hz := window0 (List.zipWith (· ^^^ ·) v w) (by simp; omega) h0.symm
  apply List.ext_getElem hl
  intro i h1 h2
  have hm : v[i] ^^^ w[i] ∈ List.zipWith (· ^^^ ·) v w := by
    have : (List.zipWith (· ^^^ ·) v w)[i]'(by simp; omega) = v[i] ^^^ w[i] := by simp
    rw [← this]; exact List.getElem_mem _
  have h3 := hz _ hm
  have h4 := congrArg (fun x => x ^^^ w[i]) h3
  simpa [UInt8.xor_assoc] using h4

/-- P2.3: bytes of one length that differ within four places alone have one sum only if they are the same. -/
theorem sum_window {l m : List UInt8} (hl : l.length = m.length) (p : Nat) (h : ∀ j, j < p ∨ p + 4 ≤ j → l[j]? = m[j]?) (hs : sum l = sum m) : l = m := by
  have hA : l.take p = m.take p := by
    apply List.ext_getElem?
    intro j
    rw [List.getElem?_take, List.getElem?_take]
    split
    · exact h j (by omega)
    · rfl
  have hB : (l.drop p).drop 4 = (m.drop p).drop 4 := by
    apply List.ext_getElem?
    intro j
    rw [List.getElem?_drop, List.getElem?_drop, List.getElem?_drop, List.getElem?_drop]
    exact h _ (by omega)
  have el : l = l.take p ++ ((l.drop p).take 4 ++ (l.drop p).drop 4) := by rw [List.take_append_drop, List.take_append_drop]
  have em : m = l.take p ++ ((m.drop p).take 4 ++ (l.drop p).drop 4) := by rw [hB, hA, List.take_append_drop, List.take_append_drop]
  have hr : run (~~~ 0#32) l = run (~~~ 0#32) m := by
    have := congrArg (fun x => ~~~ x) hs
    simpa [sum] using this
  rw [el, em, run_app, run_app, run_app, run_app] at hr
  have hw := window _ _ _ (by simp; omega) (by simp; omega) (run_inj _ _ _ hr)
  rw [el, em, hw]

theorem split4 (r : R) : r = ((r >>> 4) <<< 4) ^^^ (r &&& 15#32) := by
  apply BitVec.eq_of_getLsbD_eq
  intro i hi
  by_cases h : i < 4
  · match i, h with
    | 0, _ => simp
    | 1, _ => simp
    | 2, _ => simp
    | 3, _ => simp
  · have h15 : (15#32).getLsbD i = false := by
      rw [BitVec.getLsbD_ofNat]
      simp only [hi, decide_true, Bool.true_and]
      exact Nat.testBit_lt_two_pow (Nat.lt_of_lt_of_le (show 15 < 2 ^ 4 by omega) (Nat.pow_le_pow_right (by omega) (by omega)))
    simp only [BitVec.getLsbD_xor, BitVec.getLsbD_and, h15, Bool.and_false, Bool.xor_false, BitVec.getLsbD_shiftLeft, BitVec.getLsbD_ushiftRight, hi, h]
    simp [show 4 + (i - 4) = i by omega]

/-- Four bits at once, by a table of the sixteen lowest ones. -/
theorem nibble (r : R) : steps 4 r = (r >>> 4) ^^^ steps 4 (r &&& 15#32) := by
  conv => lhs; rw [split4 r]
  rw [steps_xor, steps_even 4 (r >>> 4) _ (by omega)]
  rw [BitVec.toNat_ushiftRight, Nat.shiftRight_eq_div_pow]
  have := r.isLt
  omega

theorem steps_add (n m : Nat) : ∀ r : R, steps (n + m) r = steps m (steps n r) := by
  induction n with
  | zero => intro r; rw [Nat.zero_add]; rfl
  | succ n ih => intro r; rw [Nat.succ_add]; exact ih (step r)

end Crc
end Go.Proofs.YtmhabcabbefncaaDoor
