/- Quoted strings, plain: what stands within quotes, read as the program does (by runes) and as the document does (by bytes): of a quoted form both tell its string. No program is spoken of. -/
import Derived.Test.YtgnjbbedeeiemaaQtMath
namespace Go.Proofs.Ytgnjbbedeeiemaa.Qt
open Go Rn

def digits : List UInt8 := [48, 49, 50, 51, 52, 53, 54, 55, 56, 57, 97, 98, 99, 100, 101, 102]
/-- The program's value of a digit (255: it is none). -/
def hv (c : UInt8) : Nat := (Lib.indexByte digits c % 256).toNat
/-- Two digits' byte. -/
def mix (a b : UInt8) : UInt8 := UInt8.ofNat (((hv a * 16) % 256) ||| hv b)

/-- Within quotes, by runes: how far an escape is, what was read. -/
def plFrom (s : ByteArray) : Nat → Nat → Nat → List UInt8 → List UInt8
  | 0, _, _, out => out
  | b + 1, i, k, out => if i < s.size then
      (if (k = 0 ∧ (Utf8.decode s i).1 = 92) ∨ (k = 1 ∧ (Utf8.decode s i).1 = 120) ∨ k = 2 then plFrom s b (i + (Utf8.decode s i).2) (k + 1) out
       else if k = 3 then plFrom s b (i + (Utf8.decode s i).2) 0 (out ++ [mix (s.get! (i - 1)) (s.get! i)])
       else plFrom s b (i + (Utf8.decode s i).2) 0 (out ++ Lib.encodeRune ((Utf8.decode s i).1 : Int)))
    else out
def plAt (s : ByteArray) (i k : Nat) (out : List UInt8) : List UInt8 := plFrom s (s.size - i) i k out
theorem plFrom_any (s : ByteArray) : ∀ (b b' i k : Nat) (out : List UInt8), s.size - i ≤ b → s.size - i ≤ b' → plFrom s b i k out = plFrom s b' i k out := by
  intro b
  induction b with
  | zero =>
    intro b' i k out h h'
    cases b' with
    | zero => rfl
    | succ b' => simp only [plFrom]; rw [if_neg (by omega)]
  | succ b ih =>
    intro b' i k out h h'
    cases b' with
    | zero => simp only [plFrom]; rw [if_neg (by omega)]
    | succ b' =>
      have := width_pos s i
      have e : ∀ k out, plFrom s b (i + (Utf8.decode s i).2) k out = plFrom s b' (i + (Utf8.decode s i).2) k out := fun k out => ih b' _ k out (by omega) (by omega)
      simp only [plFrom, e]
theorem plAt_eq (s : ByteArray) (i k : Nat) (out : List UInt8) (h : i < s.size) : plAt s i k out =
    (if (k = 0 ∧ (Utf8.decode s i).1 = 92) ∨ (k = 1 ∧ (Utf8.decode s i).1 = 120) ∨ k = 2 then plAt s (i + (Utf8.decode s i).2) (k + 1) out
     else if k = 3 then plAt s (i + (Utf8.decode s i).2) 0 (out ++ [mix (s.get! (i - 1)) (s.get! i)])
     else plAt s (i + (Utf8.decode s i).2) 0 (out ++ Lib.encodeRune ((Utf8.decode s i).1 : Int))) := by
  unfold plAt
  obtain ⟨b, hb⟩ : ∃ b, s.size - i = b + 1 := ⟨s.size - i - 1, by omega⟩
  have := width_pos s i
  have e : ∀ k out, plFrom s (s.size - (i + (Utf8.decode s i).2)) (i + (Utf8.decode s i).2) k out = plFrom s b (i + (Utf8.decode s i).2) k out := fun k out => plFrom_any s _ _ _ _ _ (by omega) (by omega)
  rw [hb]
  simp only [plFrom, e]
  rw [if_pos h]
theorem plAt_end (s : ByteArray) (i k : Nat) (out : List UInt8) (h : ¬ i < s.size) : plAt s i k out = out := by
  unfold plAt; rw [show s.size - i = 0 by omega]; rfl
def pl (s : ByteArray) : List UInt8 := plAt s 0 0 []

/-- The document's value of a digit (below 0: it is none). -/
def val (c : UInt8) : Int := if 48 ≤ c.toNat ∧ c.toNat ≤ 57 then (c.toNat : Int) - 48 else if 97 ≤ c.toNat ∧ c.toNat ≤ 102 then (c.toNat : Int) - 97 + 10 else -1
def two (a b : UInt8) : UInt8 := UInt8.ofNat (16 * val a + val b).toNat
/-- Within quotes, by bytes, up to e. -/
def prFrom (s : ByteArray) (e : Nat) : Nat → Nat → List UInt8 → Option (List UInt8)
  | 0, _, out => some out
  | b + 1, i, out => if i < e then
      (if byteAt s i ≠ 92 then prFrom s e b (i + 1) (out ++ [s.get! i])
       else if i + 1 < e ∧ (byteAt s (i + 1) = 34 ∨ byteAt s (i + 1) = 92) then prFrom s e b (i + 2) (out ++ [s.get! (i + 1)])
       else if e ≤ i + 3 ∨ byteAt s (i + 1) ≠ 120 ∨ val (s.get! (i + 2)) < 0 ∨ val (s.get! (i + 3)) < 0 then none
       else prFrom s e b (i + 4) (out ++ [two (s.get! (i + 2)) (s.get! (i + 3))]))
    else some out
def prAt (s : ByteArray) (e i : Nat) (out : List UInt8) : Option (List UInt8) := prFrom s e (e - i) i out
theorem prFrom_any (s : ByteArray) (e : Nat) : ∀ (b b' i : Nat) (out : List UInt8), e - i ≤ b → e - i ≤ b' → prFrom s e b i out = prFrom s e b' i out := by
  intro b
  induction b with
  | zero =>
    intro b' i out h h'
    cases b' with
    | zero => rfl
    | succ b' => simp only [prFrom]; rw [if_neg (by omega)]
  | succ b ih =>
    intro b' i out h h'
    cases b' with
    | zero => simp only [prFrom]; rw [if_neg (by omega)]
    | succ b' =>
      have e1 : ∀ d out, 1 ≤ d → prFrom s e b (i + d) out = prFrom s e b' (i + d) out := fun d out hd => ih b' _ out (by omega) (by omega)
      simp only [prFrom]
      rw [e1 1 _ (by omega), e1 2 _ (by omega), e1 4 _ (by omega)]
theorem prAt_eq (s : ByteArray) (e i : Nat) (out : List UInt8) (h : i < e) : prAt s e i out =
    (if byteAt s i ≠ 92 then prAt s e (i + 1) (out ++ [s.get! i])
     else if i + 1 < e ∧ (byteAt s (i + 1) = 34 ∨ byteAt s (i + 1) = 92) then prAt s e (i + 2) (out ++ [s.get! (i + 1)])
     else if e ≤ i + 3 ∨ byteAt s (i + 1) ≠ 120 ∨ val (s.get! (i + 2)) < 0 ∨ val (s.get! (i + 3)) < 0 then none
     else prAt s e (i + 4) (out ++ [two (s.get! (i + 2)) (s.get! (i + 3))])) := by
  unfold prAt
  obtain ⟨b, hb⟩ : ∃ b, e - i = b + 1 := ⟨e - i - 1, by omega⟩
  have e1 : ∀ d out, 1 ≤ d → prFrom s e (e - (i + d)) (i + d) out = prFrom s e b (i + d) out := fun d out hd => prFrom_any s e _ _ _ _ (by omega) (by omega)
  rw [hb, e1 1 _ (by omega), e1 2 _ (by omega), e1 4 _ (by omega)]
  simp only [prFrom]
  rw [if_pos h]
theorem prAt_end (s : ByteArray) (e i : Nat) (out : List UInt8) (h : ¬ i < e) : prAt s e i out = some out := by
  unfold prAt; rw [show e - i = 0 by omega]; rfl

/-- A string's byte, where its list is told in two parts. -/
theorem byte_of (s : ByteArray) (pre rest : List UInt8) (c : UInt8) (h : s.data.toList = pre ++ c :: rest) : pre.length < s.size ∧ s.get! pre.length = c ∧ byteAt s pre.length = c.toNat := by
  have hsz : s.size = (pre ++ c :: rest).length := by rw [← h]; rfl
  have hlt : pre.length < s.size := by rw [hsz]; simp
  have h1 := list_at s pre.length hlt
  rw [h, List.getElem?_append_right (Nat.le_refl _), Nat.sub_self] at h1
  have h2 : c = s.get! pre.length := by simpa using h1
  exact ⟨hlt, h2.symm, by rw [h2]; rfl⟩

theorem hex_low (n : Nat) (h : n < 16) : (hex n).toNat < 128 ∧ (hex n).toNat ≠ 92 ∧ (hex n).toNat ≠ 34 := by
  have : ∀ n : Fin 16, (hex n.val).toNat < 128 ∧ (hex n.val).toNat ≠ 92 ∧ (hex n.val).toNat ≠ 34 := by decide
  exact this ⟨n, h⟩
theorem hex_val (n : Nat) (h : n < 16) : val (hex n) = n := by
  have : ∀ n : Fin 16, val (hex n.val) = n.val := by decide
  exact this ⟨n, h⟩
theorem hex_hv (n : Nat) (h : n < 16) : hv (hex n) = n := by
  have : ∀ n : Fin 16, hv (hex n.val) = n.val := by decide
  exact this ⟨n, h⟩
theorem mix_esc (c : UInt8) : mix (hex (c.toNat / 16)) (hex (c.toNat % 16)) = c := by
  have hc : c.toNat < 256 := c.toNat_lt
  unfold mix
  rw [hex_hv _ (by omega), hex_hv _ (by omega)]
  have h : ∀ n : Fin 256, UInt8.ofNat ((n.val / 16 * 16) % 256 ||| n.val % 16) = UInt8.ofNat n.val := by decide +kernel
  rw [h ⟨c.toNat, hc⟩, UInt8.ofNat_toNat]
theorem two_esc (c : UInt8) : two (hex (c.toNat / 16)) (hex (c.toNat % 16)) = c := by
  have hc : c.toNat < 256 := c.toNat_lt
  unfold two
  rw [hex_val _ (by omega), hex_val _ (by omega)]
  have : (16 * ((c.toNat / 16 : Nat) : Int) + ((c.toNat % 16 : Nat) : Int)).toNat = c.toNat := by omega
  rw [this, UInt8.ofNat_toNat]

theorem drop_eq (x : ByteArray) (i : Nat) (h : i < x.size) : x.data.toList.drop i = x.get! i :: x.data.toList.drop (i + 1) := by
  have h1 := list_at x i h
  have hlt : i < x.data.toList.length := by simpa using h
  rw [List.drop_eq_getElem_cons hlt]
  rw [List.getElem?_eq_getElem hlt] at h1
  rw [Option.some.inj h1]

/-- By runes: the body of a quoted form tells its string. -/
theorem pl_body (x : ByteArray) (Y : ByteArray) : ∀ (b i : Nat) (pre out : List UInt8), x.size - i ≤ b → Y.data.toList = pre ++ bodyAt x i → plAt Y pre.length 0 out = out ++ x.data.toList.drop i := by
  intro b
  induction b with
  | zero =>
    intro i pre out hb hY
    rw [bodyAt_end x i (by omega), List.append_nil] at hY
    have hsz : Y.size = pre.length := by rw [← hY]; rfl
    rw [plAt_end Y _ _ _ (by omega), List.drop_eq_nil_of_le (by simpa using (by omega : x.size ≤ i)), List.append_nil]
  | succ b ih =>
    intro i pre out hb hY
    by_cases hi : i < x.size
    · rw [bodyAt_eq x i hi] at hY
      have hw := width_pos x i
      rcases piece_cases x i with ⟨hc, hp, hd⟩ | ⟨hc, hp, hd⟩ | ⟨hbad, n1, n2, hp, hlow⟩
      · rw [hp, hd] at hY
        have hY2 : Y.data.toList = (pre ++ [92, x.get! i]) ++ bodyAt x (i + 1) := by rw [hY]; simp
        obtain ⟨a1, a2, a3⟩ := byte_of Y pre _ _ hY
        obtain ⟨b1, b2, b3⟩ := byte_of Y (pre ++ [92]) (bodyAt x (i + 1)) (x.get! i) (by rw [hY]; simp)
        have bb : (x.get! i).toNat = byteAt x i := rfl
        have d1 := low_one Y pre.length (by rw [a3]; decide)
        have d2 := low_one Y (pre ++ [92]).length (by rw [b3, bb]; omega)
        rw [a3] at d1
        rw [b3, bb] at d2
        rw [plAt_eq Y _ _ _ a1, d1, if_pos (.inl ⟨rfl, rfl⟩)]
        rw [show (pre ++ [(92 : UInt8)]).length = pre.length + 1 by simp] at b1 d2
        have d2' : (Utf8.decode Y (pre.length + 1)) = (byteAt x i, 1) := d2
        show plAt Y (pre.length + 1) (0 + 1) out = _
        rw [plAt_eq Y _ _ _ b1, d2', if_neg (by simp only; omega), if_neg (by omega)]
        have hE : Lib.encodeRune ((byteAt x i : Nat) : Int) = [x.get! i] := by
          unfold Lib.encodeRune
          rw [Lib.encodeRuneZ_one (by omega) (by omega)]
          simp only [List.map_cons, List.map_nil, Int.toNat_natCast, ← bb]
          congr 1
          exact UInt8.ofNat_toNat
        show plAt Y (pre.length + 1 + 1) 0 (out ++ Lib.encodeRune ((byteAt x i : Nat) : Int)) = _
        rw [hE]
        have := ih (i + 1) (pre ++ [92, x.get! i]) (out ++ [x.get! i]) (by omega) hY2
        rw [show (pre ++ [(92 : UInt8), x.get! i]).length = pre.length + 1 + 1 by simp] at this
        rw [this, drop_eq x i hi]; simp
      · rw [hp, hd] at hY
        unfold esc at hY
        obtain ⟨h1, hh1⟩ : ∃ h1, h1 = hex ((x.get! i).toNat / 16) := ⟨_, rfl⟩
        obtain ⟨h2, hh2⟩ : ∃ h2, h2 = hex ((x.get! i).toNat % 16) := ⟨_, rfl⟩
        have hmx := mix_esc (x.get! i)
        have hc256 : (x.get! i).toNat < 256 := (x.get! i).toNat_lt
        have l1 := hex_low ((x.get! i).toNat / 16) (by omega)
        have l2 := hex_low ((x.get! i).toNat % 16) (by omega)
        rw [← hh1, ← hh2] at hmx hY
        rw [← hh1] at l1
        rw [← hh2] at l2
        have hY2 : Y.data.toList = (pre ++ [92, 120, h1, h2]) ++ bodyAt x (i + 1) := by rw [hY]; simp
        obtain ⟨a1, a2, a3⟩ := byte_of Y pre _ _ hY
        obtain ⟨b1, b2, b3⟩ := byte_of Y (pre ++ [92]) ([h1, h2] ++ bodyAt x (i + 1)) 120 (by rw [hY]; simp)
        obtain ⟨c1, c2, c3⟩ := byte_of Y (pre ++ [92, 120]) ([h2] ++ bodyAt x (i + 1)) h1 (by rw [hY]; simp)
        obtain ⟨e1, e2, e3⟩ := byte_of Y (pre ++ [92, 120, h1]) (bodyAt x (i + 1)) h2 (by rw [hY]; simp)
        rw [show (pre ++ [(92 : UInt8)]).length = pre.length + 1 by simp] at b1 b2 b3
        rw [show (pre ++ [(92 : UInt8), 120]).length = pre.length + 1 + 1 by simp] at c1 c2 c3
        rw [show (pre ++ [(92 : UInt8), 120, h1]).length = pre.length + 1 + 1 + 1 by simp] at e1 e2 e3
        have d1 := low_one Y _ (show byteAt Y pre.length < 128 by rw [a3]; decide)
        have d2 := low_one Y _ (show byteAt Y (pre.length + 1) < 128 by rw [b3]; decide)
        have d3 := low_one Y _ (show byteAt Y (pre.length + 1 + 1) < 128 by rw [c3]; exact l1.1)
        have d4 := low_one Y _ (show byteAt Y (pre.length + 1 + 1 + 1) < 128 by rw [e3]; exact l2.1)
        rw [a3] at d1
        rw [b3] at d2
        rw [plAt_eq Y _ _ _ a1, d1, if_pos (.inl ⟨rfl, rfl⟩)]
        show plAt Y (pre.length + 1) (0 + 1) out = _
        rw [plAt_eq Y _ _ _ b1, d2, if_pos (.inr (.inl ⟨rfl, rfl⟩))]
        show plAt Y (pre.length + 1 + 1) (0 + 1 + 1) out = _
        rw [plAt_eq Y _ _ _ c1, d3, if_pos (.inr (.inr rfl))]
        show plAt Y (pre.length + 1 + 1 + 1) (0 + 1 + 1 + 1) out = _
        rw [plAt_eq Y _ _ _ e1, d4, if_neg (by omega), if_pos rfl]
        show plAt Y (pre.length + 1 + 1 + 1 + 1) 0 (out ++ [mix (Y.get! (pre.length + 1 + 1 + 1 - 1)) (Y.get! (pre.length + 1 + 1 + 1))]) = _
        rw [Nat.add_sub_cancel, c2, e2, hmx]
        have := ih (i + 1) (pre ++ [92, 120, h1, h2]) (out ++ [x.get! i]) (by omega) hY2
        rw [show (pre ++ [(92 : UInt8), 120, h1, h2]).length = pre.length + 1 + 1 + 1 + 1 by simp] at this
        rw [this, drop_eq x i hi]; simp
      · have hwl := width_le x i hi
        have hE := enc_piece x i hi hbad
        have htk := take_get x i _ hwl
        obtain ⟨d, hdd⟩ : ∃ d, d = (Utf8.decode x i).2 := ⟨_, rfl⟩
        have hget : ∀ k, k < d → pre.length + k < Y.size ∧ byteAt Y (pre.length + k) = byteAt x (i + k) := by
          intro k hk
          have hsp : Y.data.toList = (pre ++ (List.range k).map (fun j => x.get! (i + j))) ++ x.get! (i + k) :: ((piece x i).drop (k + 1) ++ bodyAt x (i + (Utf8.decode x i).2)) := by
            rw [hY, hp, htk, ← hdd]
            have : (List.range d).map (fun j => x.get! (i + j)) = (List.range k).map (fun j => x.get! (i + j)) ++ x.get! (i + k) :: ((List.range d).map (fun j => x.get! (i + j))).drop (k + 1) := by
              apply List.ext_getElem?
              intro j
              by_cases h1 : j < k
              · rw [List.getElem?_append_left (by simpa using h1)]
                simp [h1, (by omega : j < d)]
              · rw [List.getElem?_append_right (by simpa using h1)]
                simp only [List.length_map, List.length_range]
                by_cases h2 : j = k
                · subst h2; simp [hk]
                · obtain ⟨m, hm⟩ : ∃ m, j - k = m + 1 := ⟨j - k - 1, by omega⟩
                  rw [hm, List.getElem?_cons_succ, List.getElem?_drop, show k + 1 + m = j by omega]
            conv => lhs; rw [this]
            simp [List.append_assoc]
          obtain ⟨q1, _, q3⟩ := byte_of Y _ _ _ hsp
          rw [show (pre ++ (List.range k).map (fun j => x.get! (i + j))).length = pre.length + k by simp] at q1 q3
          exact ⟨q1, q3⟩
        have hdec := dec_same x i Y pre.length hbad (by rw [← hdd]; exact hget)
        have hlt := (hget 0 (by omega)).1
        rw [Nat.add_zero] at hlt
        rw [plAt_eq Y _ _ _ hlt, hdec, if_neg (by omega), if_neg (by omega), ← hE]
        have := ih (i + (Utf8.decode x i).2) (pre ++ piece x i) (out ++ piece x i) (by omega) (by rw [hY]; simp)
        rw [hp] at this
        have hlen : (pre ++ (x.data.toList.drop i).take (Utf8.decode x i).2).length = pre.length + (Utf8.decode x i).2 := by
          have : x.data.toList.length = x.size := rfl
          simp; omega
        rw [hlen] at this
        rw [this, List.append_assoc]
        congr 1
        rw [← List.drop_drop]
        exact List.take_append_drop _ _
    · rw [bodyAt_end x i hi, List.append_nil] at hY
      have hsz : Y.size = pre.length := by rw [← hY]; rfl
      rw [plAt_end Y _ _ _ (by omega), List.drop_eq_nil_of_le (by simpa using (by omega : x.size ≤ i)), List.append_nil]
theorem pl_quote (x : ByteArray) : pl ⟨(bodyAt x 0).toArray⟩ = x.data.toList := by
  have := pl_body x ⟨(bodyAt x 0).toArray⟩ _ 0 [] [] (Nat.le_refl _) (by simp)
  simpa [pl] using this
end Go.Proofs.Ytgnjbbedeeiemaa.Qt
