/- Several texts of mine in one: CrcMath CrcU32 CrcChg FrmMath. -/
import Derived.WalkKit
import Derived.Laws.Bits64
import Derived.Test.YtndicjpbanmpjaaGreatDoorGNum
namespace Go.Proofs.YtndicjpbanmpjaaGreatDoor
namespace Crc

abbrev R := BitVec 32
/-- The constant that a bit shifted out brings in. -/
def poly : R := 0xedb88320
/-- One bit. -/
def step (r : R) : R := (r >>> 1) ^^^ (if r.getLsbD 0 then poly else 0#32)
/-- n bits. -/
def steps : Nat → R → R
  | 0, r => r
  | n + 1, r => steps n (step r)
/-- A byte as 32 bits. -/
def wide (c : UInt8) : R := BitVec.ofNat 32 c.toNat
/-- One byte. -/
def upd (r : R) (c : UInt8) : R := steps 8 (r ^^^ wide c)
/-- Many bytes. -/
def run (r : R) (l : List UInt8) : R := l.foldl upd r
/-- The checksum. -/
def sum (l : List UInt8) : R := ~~~ (run (~~~ 0#32) l)

theorem run_app (r : R) (l m : List UInt8) : run r (l ++ m) = run (run r l) m := by simp [run]

theorem step_xor (a b : R) : step (a ^^^ b) = step a ^^^ step b := by
  unfold step
  rw [BitVec.ushiftRight_xor_distrib, BitVec.getLsbD_xor]
  cases a.getLsbD 0 <;> cases b.getLsbD 0 <;> simp
  · rw [BitVec.xor_assoc]
  · rw [BitVec.xor_assoc, BitVec.xor_comm (b >>> 1), BitVec.xor_assoc]
  · rw [BitVec.xor_assoc, BitVec.xor_comm poly, BitVec.xor_assoc, BitVec.xor_self, BitVec.xor_zero]

theorem steps_xor (n : Nat) : ∀ a b : R, steps n (a ^^^ b) = steps n a ^^^ steps n b := by
  induction n with
  | zero => intro a b; rfl
  | succ n ih => intro a b; show steps n (step (a ^^^ b)) = _; rw [step_xor, ih]; rfl

/-- A zero bit goes out of an even number: half of it is left. -/
theorem step_even (v : R) (h : v.toNat < 2 ^ 31) : step (v <<< 1) = v := by
  unfold step
  have h0 : (v <<< 1).getLsbD 0 = false := by simp
  rw [h0]
  simp only [Bool.false_eq_true, if_false, BitVec.xor_zero]
  apply BitVec.eq_of_toNat_eq
  rw [BitVec.toNat_ushiftRight, BitVec.toNat_shiftLeft, Nat.shiftLeft_eq, Nat.shiftRight_eq_div_pow]
  omega

theorem steps_even (n : Nat) : ∀ v : R, v.toNat < 2 ^ (32 - n) → n ≤ 32 → steps n (v <<< n) = v := by
  induction n with
  | zero => intro v _ _; simp [steps]
  | succ n ih =>
    intro v h hn
    show steps n (step (v <<< (n + 1))) = v
    have e : v <<< (n + 1) = (v <<< n) <<< 1 := by rw [BitVec.shiftLeft_add]
    have hv : (v <<< n).toNat < 2 ^ 31 := by
      rw [BitVec.toNat_shiftLeft, Nat.shiftLeft_eq]
      have h1 : v.toNat * 2 ^ n < 2 ^ (32 - (n + 1)) * 2 ^ n := Nat.mul_lt_mul_of_pos_right h (Nat.two_pow_pos n)
      rw [← Nat.pow_add, show 32 - (n + 1) + n = 31 by omega] at h1
      rw [Nat.mod_eq_of_lt (by omega)]
      exact h1
    rw [e, step_even _ hv]
    refine ih v (Nat.lt_of_lt_of_le h (Nat.pow_le_pow_right (by omega) (by omega))) (by omega)

theorem split4 (r : R) : r = ((r >>> 4) <<< 4) ^^^ (r &&& 15#32) := by
  apply BitVec.eq_of_getLsbD_eq
  intro i hi
  by_cases h : i < 4
  · match i, h with
    | 0, _ => simp
    | 1, _ => simp
    | 2, _ => simp
    | 3, _ => simp
  · have h15 : (15#32).getLsbD i = false := by
      rw [BitVec.getLsbD_ofNat]
      simp only [hi, decide_true, Bool.true_and]
      exact Nat.testBit_lt_two_pow (Nat.lt_of_lt_of_le (show 15 < 2 ^ 4 by omega) (Nat.pow_le_pow_right (by omega) (by omega)))
    simp only [BitVec.getLsbD_xor, BitVec.getLsbD_and, h15, Bool.and_false, Bool.xor_false, BitVec.getLsbD_shiftLeft, BitVec.getLsbD_ushiftRight, hi, h]
    simp [show 4 + (i - 4) = i by omega]

/-- Four bits at once, by a table of the sixteen lowest ones. -/
theorem nibble (r : R) : steps 4 r = (r >>> 4) ^^^ steps 4 (r &&& 15#32) := by
  conv => lhs; rw [split4 r]
  rw [steps_xor, steps_even 4 (r >>> 4) _ (by omega)]
  rw [BitVec.toNat_ushiftRight, Nat.shiftRight_eq_div_pow]
  have := r.isLt
  omega

theorem steps_add (n m : Nat) : ∀ r : R, steps (n + m) r = steps m (steps n r) := by
  induction n with
  | zero => intro r; rw [Nat.zero_add]; rfl
  | succ n ih => intro r; rw [Nat.succ_add]; exact ih (step r)

end Crc
end Go.Proofs.YtndicjpbanmpjaaGreatDoor


namespace Go.Proofs.YtndicjpbanmpjaaGreatDoor
namespace Crc

theorem bits_xor_u32 (a b : R) : bits .xor .u32 (a.toNat : Int) (b.toNat : Int) = ((a ^^^ b).toNat : Int) := by
  have h1 : ∀ c : R, BitVec.ofInt 32 (c.toNat : Int) = c := by
    intro c; rw [BitVec.ofInt_natCast]; simp
  show IntKind.u32.wrap ((BitVec.ofInt 32 (a.toNat : Int) ^^^ BitVec.ofInt 32 (b.toNat : Int)).toNat : Int) = _
  rw [h1, h1, IntKind.wrap_u32]
  have := (a ^^^ b).isLt
  omega

theorem bits_and_u32 (a b : R) : bits .and .u32 (a.toNat : Int) (b.toNat : Int) = ((a &&& b).toNat : Int) := by
  have h1 : ∀ c : R, BitVec.ofInt 32 (c.toNat : Int) = c := by
    intro c; rw [BitVec.ofInt_natCast]; simp
  show IntKind.u32.wrap ((BitVec.ofInt 32 (a.toNat : Int) &&& BitVec.ofInt 32 (b.toNat : Int)).toNat : Int) = _
  rw [h1, h1, IntKind.wrap_u32]
  have := (a &&& b).isLt
  omega

/-- The sixteen constants. -/
def tab : List Int := [0, 498536548, 997073096, 651767980, 1994146192, 1802195444, 1303535960, 1342533948, 3988292384, 4027552580, 3604390888, 3412177804, 2607071920, 2262029012, 2685067896, 3183342108]

theorem tab_is (i : Nat) (h : i < 16) : tab.getD i 0 = ((steps 4 (BitVec.ofNat 32 i)).toNat : Int) := by
  have : ∀ i : Fin 16, tab.getD i.1 0 = ((steps 4 (BitVec.ofNat 32 i.1)).toNat : Int) := by decide
  exact this ⟨i, h⟩

/-- Four bits of a register, as the program takes them. -/
theorem four_bits (r : R) : ∃ j : Nat, j < 16 ∧ bits .and .u32 (r.toNat : Int) 15 = (j : Int) ∧ ∃ t : Nat, t < 4294967296 ∧ tab.getD j 0 = (t : Int) ∧ bits .xor .u32 ((r.toNat : Int) / 16) (t : Int) = ((steps 4 r).toNat : Int) := by
  have hlt : (r &&& 15#32).toNat < 16 := by
    rw [BitVec.toNat_and]; exact Nat.lt_of_le_of_lt Nat.and_le_right (by decide)
  refine ⟨(r &&& 15#32).toNat, hlt, bits_and_u32 r 15#32, (steps 4 (r &&& 15#32)).toNat, (steps 4 (r &&& 15#32)).isLt, ?_, ?_⟩
  · rw [tab_is _ hlt]; simp
  · have e : (r.toNat : Int) / (16 : Int) = ((r >>> 4).toNat : Int) := by
      rw [BitVec.toNat_ushiftRight, Nat.shiftRight_eq_div_pow]; omega
    rw [e, bits_xor_u32, ← nibble]

theorem byte_in (r : R) (c : UInt8) : bits .xor .u32 (r.toNat : Int) (c.toNat : Int) = ((r ^^^ wide c).toNat : Int) := by
  rw [← bits_xor_u32]
  have := c.toNat_lt
  rw [show ((wide c).toNat : Int) = (c.toNat : Int) by simp [wide]]

theorem upd_eight (r : R) (c : UInt8) : upd r c = steps 4 (steps 4 (r ^^^ wide c)) := by
  unfold upd; exact steps_add 4 4 _

theorem not_in (r : R) : 4294967295 - (r.toNat : Int) = ((~~~ r).toNat : Int) := by
  rw [BitVec.toNat_not]; have := r.isLt; omega

theorem not_is (r : R) : bits .xor .u32 IntKind.u32.max (r.toNat : Int) = ((~~~ r).toNat : Int) := by
  have := bits_xor_u32 (~~~ 0#32) r
  have e : (~~~ 0#32) ^^^ r = ~~~ r := by
    rw [← BitVec.not_xor_left, BitVec.zero_xor]
  rw [e] at this
  exact this

theorem run_take (r : R) (l : List UInt8) (k : Nat) (h : k < l.length) : run r (l.take (k + 1)) = upd (run r (l.take k)) l[k] := by
  rw [List.take_succ_eq_append_getElem h, run_app]; rfl

/-- The checksum, continued. -/
def add (s : R) (l : List UInt8) : R := ~~~ (run (~~~ s) l)
/-- One bit, by halves. -/
theorem step_odd (r : R) (h : r.toNat % 2 = 1) : bits .xor .u32 ((r.toNat : Int) / 2) 3988292384 = ((step r).toNat : Int) := by
  have e : (r.toNat : Int) / (2 : Int) = ((r >>> 1).toNat : Int) := by
    rw [BitVec.toNat_ushiftRight, Nat.shiftRight_eq_div_pow]; omega
  have hb : r.getLsbD 0 = true := by simp [BitVec.getLsbD, Nat.testBit_zero, h]
  rw [e]
  have := bits_xor_u32 (r >>> 1) poly
  unfold step
  rw [hb, if_pos rfl, ← this]; rfl
theorem step_evn (r : R) (h : r.toNat % 2 = 0) : (r.toNat : Int) / 2 = ((step r).toNat : Int) := by
  have hb : r.getLsbD 0 = false := by simp [BitVec.getLsbD, Nat.testBit_zero, h]
  unfold step
  rw [hb]
  simp only [Bool.false_eq_true, if_false, BitVec.xor_zero]
  rw [BitVec.toNat_ushiftRight, Nat.shiftRight_eq_div_pow]; omega
theorem steps_snoc (k : Nat) (r : R) : steps (k + 1) r = step (steps k r) := steps_add k 1 r
end Crc
end Go.Proofs.YtndicjpbanmpjaaGreatDoor


namespace Go.Proofs.YtndicjpbanmpjaaGreatDoor
namespace Crc

/-- What the law's loop has done after k rounds. -/
structure Chg (l cur : List UInt8) (p k : Nat) (xs : List UInt8) (o : Bool) : Prop where
  len : cur.length = l.length
  out : ∀ j, j < p ∨ p + k ≤ j → cur[j]? = l[j]?
  inn : ∀ j, j < k → cur[p + j]? = (l[p + j]?).map (· ^^^ xs.getD j 0)
  any : o = (xs.take k).any (· != 0)

theorem Chg.zero (l : List UInt8) (p : Nat) (xs : List UInt8) : Chg l l p 0 xs false := ⟨rfl, fun _ _ => rfl, fun _ h => absurd h (by omega), by simp⟩

theorem Chg.at {l cur : List UInt8} {p k : Nat} {xs : List UInt8} {o : Bool} (h : Chg l cur p k xs o) : cur[p + k]? = l[p + k]? := h.out _ (.inr (Nat.le_refl _))

theorem Chg.next {l cur : List UInt8} {p k : Nat} {xs : List UInt8} {o : Bool} {c x : UInt8} (h : Chg l cur p k xs o) (hk : k < xs.length) (hc : cur[p + k]? = some c) (hx : x = xs.getD k 0) : Chg l (cur.set (p + k) (c ^^^ x)) p (k + 1) xs (o || x != 0) := by
  refine ⟨by simp [h.len], fun j hj => ?_, fun j hj => ?_, ?_⟩
  · rw [List.getElem?_set_ne (by omega)]; exact h.out j (by omega)
  · by_cases e : j = k
    · subst e
      rw [List.getElem?_set_self (by have := (List.getElem?_eq_some_iff.1 hc).1; exact this), ← h.at, hc, ← hx]; rfl
    · rw [List.getElem?_set_ne (by omega)]; exact h.inn j (by omega)
  · rw [List.take_succ_eq_append_getElem hk, List.any_append, ← h.any, hx]
    simp [List.getD, List.getElem?_eq_getElem hk]

end Crc
end Go.Proofs.YtndicjpbanmpjaaGreatDoor


namespace Go.Proofs.YtndicjpbanmpjaaGreatDoor


namespace Frm

/-- The four bytes of a number, least significant first. -/
def le (s : Nat) : List UInt8 := [UInt8.ofNat s, UInt8.ofNat (s / 256), UInt8.ofNat (s / 65536), UInt8.ofNat (s / 16777216)]
theorem le_len (s : Nat) : (le s).length = 4 := rfl
/-- The sum's four bytes. -/
def tail (l : List UInt8) : List UInt8 := le (Crc.sum l).toNat
theorem tail_len (l : List UInt8) : (tail l).length = 4 := rfl
/-- A frame. -/
def frame (l : List UInt8) : List UInt8 := enc l.length ++ l ++ tail l
theorem frame_len (l : List UInt8) : (frame l).length = (enc l.length).length + l.length + 4 := by simp [frame, tail_len]; omega

/-- What Next tells: the body, the place behind, the error. -/
def next (l : List UInt8) (pl : Int) : List UInt8 × Int × Int :=
  if (getp l pl).2.2 ≠ 0 then ([], 0, (getp l pl).2.2)
  else if (getp l pl).1 < 1 then ([], 0, 3)
  else if 65536 < (getp l pl).1 then ([], 0, 2)
  else if (l.length : Int) - (getp l pl).2.1 < (getp l pl).1 + 4 then ([], 0, 1)
  else if (l.drop ((getp l pl).2.1.toNat + (getp l pl).1.toNat)).take 4 = tail ((l.drop (getp l pl).2.1.toNat).take (getp l pl).1.toNat)
    then ((l.drop (getp l pl).2.1.toNat).take (getp l pl).1.toNat, (getp l pl).2.1 + (getp l pl).1 + 4, 0)
    else ([], 0, 4)

/-- The ways in which Next ends. -/
theorem next_cases (l : List UInt8) (pl : Int) :
    (∃ e : Int, e ≠ 0 ∧ getp l pl = (0, 0, e) ∧ next l pl = ([], 0, e)) ∨
    (∃ p n c : Nat, pl = (p : Int) ∧ p + c ≤ l.length ∧ 0 < c ∧ n ≤ 9223372036854775807 ∧ getp l pl = ((n : Int), ((p + c : Nat) : Int), 0) ∧ (l.drop p).take c = enc n ∧
      ((n = 0 ∧ next l pl = ([], 0, 3)) ∨ (65536 < n ∧ next l pl = ([], 0, 2)) ∨
       (0 < n ∧ n ≤ 65536 ∧ ((l.length < p + c + n + 4 ∧ next l pl = ([], 0, 1)) ∨
        (p + c + n + 4 ≤ l.length ∧
          (((l.drop (p + c + n)).take 4 = tail ((l.drop (p + c)).take n) ∧ next l pl = ((l.drop (p + c)).take n, ((p + c + n + 4 : Nat) : Int), 0)) ∨
           ((l.drop (p + c + n)).take 4 ≠ tail ((l.drop (p + c)).take n) ∧ next l pl = ([], 0, 4)))))))) := by
  rcases getp_cases l pl with ⟨e, he, hg⟩ | ⟨p, n, c, h1, h2, h3, h4, hg, h5⟩
  · exact .inl ⟨e, he, hg, by unfold next; rw [hg, if_pos (by simpa using he)]⟩
  · refine .inr ⟨p, n, c, h1, h2, h3, h4, hg, h5, ?_⟩
    unfold next
    rw [hg]
    simp only [ne_eq, not_true_eq_false, if_false, Int.toNat_natCast]
    by_cases a : n = 0
    · rw [if_pos (by omega)]; exact .inl ⟨a, rfl⟩
    rw [if_neg (by omega)]
    by_cases b : 65536 < n
    · rw [if_pos (by omega)]; exact .inr (.inl ⟨b, rfl⟩)
    rw [if_neg (by omega)]
    refine .inr (.inr ⟨by omega, by omega, ?_⟩)
    by_cases d : l.length < p + c + n + 4
    · rw [if_pos (by omega)]; exact .inl ⟨d, rfl⟩
    rw [if_neg (by omega)]
    refine .inr ⟨by omega, ?_⟩
    by_cases f : (l.drop (p + c + n)).take 4 = tail ((l.drop (p + c)).take n)
    · rw [if_pos f]; exact .inl ⟨f, by simp⟩
    · rw [if_neg f]; exact .inr ⟨f, rfl⟩

/-- A place at which a frame is told. -/
theorem next_ok {l : List UInt8} {a : Nat} {x : List UInt8} {e : Int} (h : next l a = (x, e, 0)) : ∃ c : Nat, e = (c : Int) ∧ a + 6 ≤ c ∧ c ≤ l.length ∧ 0 < x.length ∧ x.length ≤ 65536 := by
  rcases next_cases l a with ⟨e', he, _, hn⟩ | ⟨p, n, c, h1, h2, h3, h4, hg, h5, ⟨_, hn⟩ | ⟨_, hn⟩ | ⟨hn0, hn1, ⟨_, hn⟩ | ⟨hl, ⟨_, hn⟩ | ⟨_, hn⟩⟩⟩⟩
  all_goals rw [h] at hn; simp only [Prod.mk.injEq] at hn
  · exact absurd hn.2.2.symm he
  · omega
  · omega
  · omega
  · obtain ⟨rfl, rfl, _⟩ := hn
    exact ⟨_, rfl, by omega, hl, by simp; omega, by simp; omega⟩
  · omega

/-- The reference's comparison is that of the sums. -/
theorem frame_there {l : List UInt8} {p n c : Nat} (h : p + c + n + 4 ≤ l.length) (he : (l.drop p).take c = enc n) :
    (frame ((l.drop (p + c)).take n) == (l.drop p).take (c + n + 4)) = decide ((l.drop (p + c + n)).take 4 = tail ((l.drop (p + c)).take n)) := by
  have hn : ((l.drop (p + c)).take n).length = n := by simp; omega
  have e : (l.drop p).take (c + n + 4) = enc n ++ (l.drop (p + c)).take n ++ (l.drop (p + c + n)).take 4 := by
    rw [← he, List.take_add, List.take_add, List.drop_drop, List.drop_drop, Nat.add_assoc]
  rw [e, Bool.eq_iff_iff, beq_iff_eq, decide_eq_true_iff]
  unfold frame
  rw [hn, List.append_cancel_left_eq]
  exact ⟨fun h => h.symm, fun h => h.symm⟩

/-- Frames from a place to another one. -/
inductive Path (l : List UInt8) : Nat → List (List UInt8) → Nat → Prop
  | nil (a : Nat) : Path l a [] a
  | cons {a c b : Nat} {x : List UInt8} {t : List (List UInt8)} : next l a = (x, (c : Int), 0) → Path l c t b → Path l a (x :: t) b

theorem Path.one {l : List UInt8} {a b b' : Nat} {t t' : List (List UInt8)} (h : Path l a t b) (hs : (next l b).2.2 ≠ 0) (h' : Path l a t' b') (hs' : (next l b').2.2 ≠ 0) : t = t' ∧ b = b' := by
  induction h generalizing t' with
  | nil a =>
    cases h' with
    | nil => exact ⟨rfl, rfl⟩
    | cons hn _ => rw [hn] at hs; exact absurd rfl hs
  | cons hn hp ih =>
    cases h' with
    | nil => rw [hn] at hs'; exact absurd rfl hs'
    | cons hn' hp' =>
      rw [hn] at hn'
      simp only [Prod.mk.injEq, Int.natCast_inj, and_true] at hn'
      obtain ⟨rfl, rfl⟩ := hn'
      obtain ⟨rfl, rfl⟩ := ih hs hp'
      exact ⟨rfl, rfl⟩

/-- At a whole frame. -/
theorem next_frame {l post y : List UInt8} {a : Nat} (h : l.drop a = frame y ++ post) (ha : a ≤ l.length) (h0 : 0 < y.length) (h1 : y.length ≤ 65536) : next l a = (y, ((a + (frame y).length : Nat) : Int), 0) := by
  have hg : getv 0 0 (l.drop a) = (y.length, (enc y.length).length, 0) := by
    have := getv_enc (y ++ tail y ++ post) y.length 0 0 (by omega) (by have := enc_nine (n := y.length) (by omega); omega)
    rw [h]; unfold frame
    rw [List.append_assoc, List.append_assoc]
    simpa [List.append_assoc] using this
  have hgp := getp_ok ha hg
  have hd := congrArg List.length h
  rw [List.length_append, frame_len, List.length_drop] at hd
  obtain ⟨c, hc⟩ : ∃ c, c = (enc y.length).length := ⟨_, rfl⟩
  have e1 : l.drop (a + c) = y ++ tail y ++ post := by
    rw [← List.drop_drop, h]; unfold frame
    rw [List.append_assoc, List.append_assoc, List.drop_append, hc]; simp [List.append_assoc]
  have e2 : (l.drop (a + c)).take y.length = y := by rw [e1, List.append_assoc]; simp
  have e3 : (l.drop (a + c + y.length)).take 4 = tail y := by
    rw [← List.drop_drop, e1, List.append_assoc, List.drop_append]
    simp [← tail_len y]
  unfold next
  rw [hgp]
  simp only [ne_eq, not_true_eq_false, if_false, ← hc]
  rw [if_neg (by omega), if_neg (by omega), if_neg (by omega), show ((a : Int) + (c : Int)).toNat = a + c by omega, Int.toNat_natCast, e2, e3, if_pos rfl]
  simp only [Prod.mk.injEq, and_true, true_and]
  rw [frame_len]; omega

/-- Frames, one behind the other. -/
def flat (fs : List (List UInt8)) : List UInt8 := (fs.map frame).flatten
theorem flat_snoc (fs : List (List UInt8)) (x : List UInt8) : flat (fs ++ [x]) = flat fs ++ frame x := by simp [flat]
theorem flat_app (fs gs : List (List UInt8)) : flat (fs ++ gs) = flat fs ++ flat gs := by simp [flat]

/-- What the law's loop knows, n being where the bytes are cut off. -/
structure Cut (n : Nat) (fs want : List (List UInt8)) (a : Nat) : Prop where
  at_ : a = (flat want).length
  le : a ≤ n
  rest : ∃ t, fs = want ++ t ∧ ∀ y s, t = y :: s → n < a + (frame y).length

theorem Cut.zero (n : Nat) : Cut n [] [] 0 := ⟨rfl, by omega, [], rfl, fun y s h => by cases h⟩
theorem Cut.in {n : Nat} {fs want : List (List UInt8)} {a : Nat} (h : Cut n fs want a) (x : List UInt8) (hx : (flat (fs ++ [x])).length ≤ n) : Cut n (fs ++ [x]) (want ++ [x]) (flat (fs ++ [x])).length := by
  obtain ⟨t, ht, hr⟩ := h.rest
  cases t with
  | nil =>
    rw [List.append_nil] at ht
    subst ht
    exact ⟨rfl, hx, [], by simp, fun y s h => by cases h⟩
  | cons y s =>
    have := hr y s rfl
    have hf : (flat fs).length = (flat want).length + ((frame y).length + (flat s).length) := by rw [ht, flat_app]; simp [flat]
    rw [flat_snoc, List.length_append] at hx
    have := h.at_
    omega
theorem Cut.out {n : Nat} {fs want : List (List UInt8)} {a : Nat} (h : Cut n fs want a) (x : List UInt8) (hx : n < (flat (fs ++ [x])).length) : Cut n (fs ++ [x]) want a := by
  obtain ⟨t, ht, hr⟩ := h.rest
  refine ⟨h.at_, h.le, t ++ [x], by rw [ht]; simp, fun y s e => ?_⟩
  cases t with
  | nil =>
    simp at e
    obtain ⟨rfl, _⟩ := e
    rw [List.append_nil] at ht
    subst ht
    rw [flat_snoc, List.length_append] at hx
    have := h.at_
    omega
  | cons z r =>
    simp at e
    obtain ⟨rfl, _⟩ := e
    exact hr _ _ rfl

end Frm
end Go.Proofs.YtndicjpbanmpjaaGreatDoor
