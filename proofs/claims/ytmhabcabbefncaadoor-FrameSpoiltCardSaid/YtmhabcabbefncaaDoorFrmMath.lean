/- Frames as plain functions on lists of bytes, and what is true of them. No program is spoken of. -/
import Derived.Test.YtmhabcabbefncaaDoorGet
import Derived.Test.YtmhabcabbefncaaDoorCrcChg
namespace Go.Proofs.YtmhabcabbefncaaDoor

/-- What is read from the front is the very encoding of the number. -/
theorem getv_canon : ∀ (l : List UInt8) (k acc n c : Nat), getv k acc l = (n, c, 0) → ∃ m, n = acc + m * 128 ^ k ∧ c = k + (enc m).length ∧ l.take (enc m).length = enc m ∧ (0 < k → 0 < m) := by
  intro l
  induction l with
  | nil => intro k acc n c h; simp [getv] at h
  | cons b r ih =>
    intro k acc n c h
    have hb := b.toNat_lt
    unfold getv at h
    split at h
    · simp at h
    · rename_i h1
      split at h
      · rename_i h2
        simp only [Prod.mk.injEq] at h
        refine ⟨b.toNat, h.1.symm, ?_, ?_, by omega⟩
        · rw [enc_lt h2]; simp; omega
        · rw [enc_lt h2]; simp
      · rename_i h2
        obtain ⟨m, e1, e2, e3, e4⟩ := ih _ _ _ _ h
        have hm := e4 (by omega)
        refine ⟨b.toNat - 128 + 128 * m, ?_, ?_, ?_, by omega⟩
        · rw [e1, Nat.pow_succ, Nat.add_mul, Nat.mul_comm 128 m, Nat.mul_assoc m 128, Nat.mul_comm 128 (128 ^ k)]; omega
        · rw [enc_ge (by omega), show (b.toNat - 128 + 128 * m) / 128 = m by omega, e2]; simp; omega
        · rw [enc_ge (by omega), show (b.toNat - 128 + 128 * m) / 128 = m by omega]
          simp only [List.length_cons, List.take_succ_cons, e3, List.cons.injEq, and_true]
          apply UInt8.toNat_inj.1
          rw [high]; omega

/-- What is cut off is too short. -/
theorem getv_cut : ∀ (n k acc j : Nat), k + (enc n).length ≤ 9 → (0 < k → 0 < n) → j < (enc n).length → getv k acc ((enc n).take j) = (0, 0, 1) := by
  intro n
  induction n using Nat.strongRecOn with
  | ind n ih =>
    intro k acc j h9 h0 hj
    by_cases h : n < 128
    · rw [enc_lt h] at hj ⊢
      simp at hj
      subst hj
      rfl
    · rw [enc_ge (by omega)] at h9 hj ⊢
      simp at h9 hj
      cases j with
      | zero => rfl
      | succ j =>
        simp only [List.take_succ_cons]
        have e := high n
        unfold getv
        rw [if_neg (by omega), if_neg (by omega)]
        exact ih (n / 128) (by omega) _ _ _ (by omega) (by omega) (by omega)

namespace Frm

/-- The four bytes of a number, least significant first. -/
def le (s : Nat) : List UInt8 := [UInt8.ofNat s, UInt8.ofNat (s / 256), UInt8.ofNat (s / 65536), UInt8.ofNat (s / 16777216)]
theorem le_len (s : Nat) : (le s).length = 4 := rfl
theorem le_inj {s t : Nat} (hs : s < 4294967296) (ht : t < 4294967296) (h : le s = le t) : s = t := by
  simp only [le, List.cons.injEq, and_true] at h
  obtain ⟨h0, h1, h2, h3⟩ := h
  have f : ∀ x y : Nat, UInt8.ofNat x = UInt8.ofNat y → x % 256 = y % 256 := by
    intro x y h
    have := congrArg UInt8.toNat h
    rwa [UInt8.toNat_ofNat', UInt8.toNat_ofNat'] at this
  have e0 := f _ _ h0
  have e1 := f _ _ h1
  have e2 := f _ _ h2
  have e3 := f _ _ h3
  omega

/-- The sum's four bytes. -/
def tail (l : List UInt8) : List UInt8 := le (Crc.sum l).toNat
theorem tail_len (l : List UInt8) : (tail l).length = 4 := rfl
theorem tail_inj {l m : List UInt8} (h : tail l = tail m) : Crc.sum l = Crc.sum m :=
  BitVec.eq_of_toNat_eq (le_inj (Crc.sum l).isLt (Crc.sum m).isLt h)

/-- A frame. -/
def frame (l : List UInt8) : List UInt8 := enc l.length ++ l ++ tail l
theorem frame_len (l : List UInt8) : (frame l).length = (enc l.length).length + l.length + 4 := by simp [frame, tail_len]; omega

/-- What Next tells: the body, the place behind, the error. -/
def next (l : List UInt8) (pl : Int) : List UInt8 × Int × Int :=
  if (getp l pl).2.2 ≠ 0 then ([], 0, (getp l pl).2.2)
  else if (getp l pl).1 < 1 then ([], 0, 3)
  else if 65536 < (getp l pl).1 then ([], 0, 2)
  else if (l.length : Int) - (getp l pl).2.1 < (getp l pl).1 + 4 then ([], 0, 1)
  else if (l.drop ((getp l pl).2.1.toNat + (getp l pl).1.toNat)).take 4 = tail ((l.drop (getp l pl).2.1.toNat).take (getp l pl).1.toNat)
    then ((l.drop (getp l pl).2.1.toNat).take (getp l pl).1.toNat, (getp l pl).2.1 + (getp l pl).1 + 4, 0)
    else ([], 0, 4)

/-- What Get may tell. -/
theorem getp_cases (l : List UInt8) (pl : Int) :
    (∃ e : Int, e ≠ 0 ∧ getp l pl = (0, 0, e)) ∨
    (∃ p n c : Nat, pl = (p : Int) ∧ p + c ≤ l.length ∧ 0 < c ∧ n ≤ 9223372036854775807 ∧ getp l pl = ((n : Int), ((p + c : Nat) : Int), 0) ∧ (l.drop p).take c = enc n) := by
  unfold getp
  by_cases h : pl < 0 ∨ (l.length : Int) < pl
  · rw [if_pos h]; exact .inl ⟨6, by omega, rfl⟩
  · rw [if_neg h]
    obtain ⟨p, rfl⟩ := Int.eq_ofNat_of_zero_le (show 0 ≤ pl by omega)
    have hp : p ≤ l.length := by omega
    simp only [Int.toNat_natCast]
    obtain ⟨r, hr⟩ : ∃ r, r = getv 0 0 (l.drop p) := ⟨_, rfl⟩
    rw [← hr]
    by_cases h0 : r.2.2 = 0
    · right
      rw [if_pos h0]
      obtain ⟨n, c, e⟩ := r
      simp only at h0
      subst h0
      obtain ⟨m, e1, e2, e3, _⟩ := getv_canon _ _ _ _ _ hr.symm
      have hb := getv_bound (l.drop p) 0 0 (by simp) (by omega)
      have hk := getv_count (l.drop p) 0 0
      rw [← hr] at hb hk
      simp at e1 e2
      subst e1
      have := enc_pos n
      refine ⟨p, n, c, rfl, ?_, by omega, by simp at hb; omega, by simp, by rw [e2]; exact e3⟩
      simp at hk; omega
    · rw [if_neg h0]
      exact .inl ⟨_, by omega, rfl⟩

/-- The ways in which Next ends. -/
theorem next_cases (l : List UInt8) (pl : Int) :
    (∃ e : Int, e ≠ 0 ∧ getp l pl = (0, 0, e) ∧ next l pl = ([], 0, e)) ∨
    (∃ p n c : Nat, pl = (p : Int) ∧ p + c ≤ l.length ∧ 0 < c ∧ n ≤ 9223372036854775807 ∧ getp l pl = ((n : Int), ((p + c : Nat) : Int), 0) ∧ (l.drop p).take c = enc n ∧
      ((n = 0 ∧ next l pl = ([], 0, 3)) ∨ (65536 < n ∧ next l pl = ([], 0, 2)) ∨
       (0 < n ∧ n ≤ 65536 ∧ ((l.length < p + c + n + 4 ∧ next l pl = ([], 0, 1)) ∨
        (p + c + n + 4 ≤ l.length ∧
          (((l.drop (p + c + n)).take 4 = tail ((l.drop (p + c)).take n) ∧ next l pl = ((l.drop (p + c)).take n, ((p + c + n + 4 : Nat) : Int), 0)) ∨
           ((l.drop (p + c + n)).take 4 ≠ tail ((l.drop (p + c)).take n) ∧ next l pl = ([], 0, 4)))))))) := by
  rcases getp_cases l pl with ⟨e, he, hg⟩ | ⟨p, n, c, h1, h2, h3, h4, hg, h5⟩
  · exact .inl ⟨e, he, hg, by unfold next; rw [hg, if_pos (by simpa using he)]⟩
  · refine .inr ⟨p, n, c, h1, h2, h3, h4, hg, h5, ?_⟩
    unfold next
    rw [hg]
    simp only [ne_eq, not_true_eq_false, if_false, Int.toNat_natCast]
    by_cases a : n = 0
    · rw [if_pos (by omega)]; exact .inl ⟨a, rfl⟩
    rw [if_neg (by omega)]
    by_cases b : 65536 < n
    · rw [if_pos (by omega)]; exact .inr (.inl ⟨b, rfl⟩)
    rw [if_neg (by omega)]
    refine .inr (.inr ⟨by omega, by omega, ?_⟩)
    by_cases d : l.length < p + c + n + 4
    · rw [if_pos (by omega)]; exact .inl ⟨d, rfl⟩
    rw [if_neg (by omega)]
    refine .inr ⟨by omega, ?_⟩
    by_cases f : (l.drop (p + c + n)).take 4 = tail ((l.drop (p + c)).take n)
    · rw [if_pos f]; exact .inl ⟨f, by simp⟩
    · rw [if_neg f]; exact .inr ⟨f, rfl⟩

/-- A place at which a frame is told. -/
theorem next_ok {l : List UInt8} {a : Nat} {x : List UInt8} {e : Int} (h : next l a = (x, e, 0)) : ∃ c : Nat, e = (c : Int) ∧ a + 6 ≤ c ∧ c ≤ l.length ∧ 0 < x.length ∧ x.length ≤ 65536 := by
  rcases next_cases l a with ⟨e', he, _, hn⟩ | ⟨p, n, c, h1, h2, h3, h4, hg, h5, ⟨_, hn⟩ | ⟨_, hn⟩ | ⟨hn0, hn1, ⟨_, hn⟩ | ⟨hl, ⟨_, hn⟩ | ⟨_, hn⟩⟩⟩⟩
  all_goals rw [h] at hn; simp only [Prod.mk.injEq] at hn
  · exact absurd hn.2.2.symm he
  · omega
  · omega
  · omega
  · obtain ⟨rfl, rfl, _⟩ := hn
    exact ⟨_, rfl, by omega, hl, by simp; omega, by simp; omega⟩
  · omega

/-- The reference's comparison is that of the sums. -/
theorem frame_there {l : List UInt8} {p n c : Nat} (h : p + c + n + 4 ≤ l.length) (he : (l.drop p).take c = enc n) :
    (frame ((l.drop (p + c)).take n) == (l.drop p).take (c + n + 4)) = decide ((l.drop (p + c + n)).take 4 = tail ((l.drop (p + c)).take n)) := by
  have hn : ((l.drop (p + c)).take n).length = n := by simp; omega
  have e : (l.drop p).take (c + n + 4) = enc n ++ (l.drop (p + c)).take n ++ (l.drop (p + c + n)).take 4 := by
    rw [← he, List.take_add, List.take_add, List.drop_drop, List.drop_drop, Nat.add_assoc]
  rw [e, Bool.eq_iff_iff, beq_iff_eq, decide_eq_true_iff]
  unfold frame
  rw [hn, List.append_cancel_left_eq]
  exact ⟨fun h => h.symm, fun h => h.symm⟩

/-- Frames from a place to another one. -/
inductive Path (l : List UInt8) : Nat → List (List UInt8) → Nat → Prop
  | nil (a : Nat) : Path l a [] a
  | cons {a c b : Nat} {x : List UInt8} {t : List (List UInt8)} : next l a = (x, (c : Int), 0) → Path l c t b → Path l a (x :: t) b

theorem Path.snoc {l : List UInt8} {a b : Nat} {t : List (List UInt8)} (h : Path l a t b) : ∀ {x : List UInt8} {c : Nat}, next l b = (x, (c : Int), 0) → Path l a (t ++ [x]) c := by
  induction h with
  | nil a => intro x c hn; exact .cons hn (.nil c)
  | cons hn _ ih => intro x c h'; exact .cons hn (ih h')

theorem Path.bound {l : List UInt8} {a b : Nat} {t : List (List UInt8)} (h : Path l a t b) : a + 6 * t.length ≤ b ∧ (t ≠ [] → b ≤ l.length) := by
  induction h with
  | nil a => simp
  | cons hn hp ih =>
    obtain ⟨c', hc, h1, h2, _⟩ := next_ok hn
    have : c' = _ := Int.ofNat.inj hc.symm
    subst this
    refine ⟨by simp; omega, fun _ => ?_⟩
    cases hp with
    | nil => exact h2
    | cons _ _ => exact ih.2 (by simp)

theorem Path.one {l : List UInt8} {a b b' : Nat} {t t' : List (List UInt8)} (h : Path l a t b) (hs : (next l b).2.2 ≠ 0) (h' : Path l a t' b') (hs' : (next l b').2.2 ≠ 0) : t = t' ∧ b = b' := by
  induction h generalizing t' with
  | nil a =>
    cases h' with
    | nil => exact ⟨rfl, rfl⟩
    | cons hn _ => rw [hn] at hs; exact absurd rfl hs
  | cons hn hp ih =>
    cases h' with
    | nil => rw [hn] at hs'; exact absurd rfl hs'
    | cons hn' hp' =>
      rw [hn] at hn'
      simp only [Prod.mk.injEq, Int.natCast_inj, and_true] at hn'
      obtain ⟨rfl, rfl⟩ := hn'
      obtain ⟨rfl, rfl⟩ := ih hs hp'
      exact ⟨rfl, rfl⟩

/-- At a whole frame. -/
theorem next_frame {l post y : List UInt8} {a : Nat} (h : l.drop a = frame y ++ post) (ha : a ≤ l.length) (h0 : 0 < y.length) (h1 : y.length ≤ 65536) : next l a = (y, ((a + (frame y).length : Nat) : Int), 0) := by
  have hg : getv 0 0 (l.drop a) = (y.length, (enc y.length).length, 0) := by
    have := getv_enc (y ++ tail y ++ post) y.length 0 0 (by omega) (by have := enc_nine (n := y.length) (by omega); omega)
    rw [h]; unfold frame
    rw [List.append_assoc, List.append_assoc]
    simpa [List.append_assoc] using this
  have hgp := getp_ok ha hg
  have hd := congrArg List.length h
  rw [List.length_append, frame_len, List.length_drop] at hd
  obtain ⟨c, hc⟩ : ∃ c, c = (enc y.length).length := ⟨_, rfl⟩
  have e1 : l.drop (a + c) = y ++ tail y ++ post := by
    rw [← List.drop_drop, h]; unfold frame
    rw [List.append_assoc, List.append_assoc, List.drop_append, hc]; simp [List.append_assoc]
  have e2 : (l.drop (a + c)).take y.length = y := by rw [e1, List.append_assoc]; simp
  have e3 : (l.drop (a + c + y.length)).take 4 = tail y := by
    rw [← List.drop_drop, e1, List.append_assoc, List.drop_append]
    simp [← tail_len y]
  unfold next
  rw [hgp]
  simp only [ne_eq, not_true_eq_false, if_false, ← hc]
  rw [if_neg (by omega), if_neg (by omega), if_neg (by omega), show ((a : Int) + (c : Int)).toNat = a + c by omega, Int.toNat_natCast, e2, e3, if_pos rfl]
  simp only [Prod.mk.injEq, and_true, true_and]
  rw [frame_len]; omega

/-- At a frame that is cut off. -/
theorem next_cut {l y : List UInt8} {a k : Nat} (h : l.drop a = (frame y).take k) (ha : a ≤ l.length) (hk : k < (frame y).length) (h0 : 0 < y.length) (h1 : y.length ≤ 65536) : (next l a).2.2 ≠ 0 := by
  have h9 := enc_nine (n := y.length) (by omega)
  have hd := congrArg List.length h
  rw [List.length_drop, List.length_take] at hd
  by_cases hc : k < (enc y.length).length
  · have hg : getv 0 0 (l.drop a) = (0, 0, 1) := by
      rw [h]; unfold frame
      rw [List.append_assoc, List.take_append_of_le_length (by omega)]
      exact getv_cut _ _ _ _ (by omega) (by omega) hc
    have hgp := getp_err (e := 1) ha (by omega) hg
    unfold next
    rw [hgp]; simp
  · have hg : getv 0 0 (l.drop a) = (y.length, (enc y.length).length, 0) := by
      have := getv_enc ((y ++ tail y).take (k - (enc y.length).length)) y.length 0 0 (by omega) (by omega)
      rw [h]; unfold frame
      rw [List.append_assoc, List.take_append, List.take_of_length_le (by omega)]
      simpa using this
    have hgp := getp_ok ha hg
    rw [frame_len] at hk hd
    unfold next
    rw [hgp]
    simp only [ne_eq, not_true_eq_false, if_false]
    rw [if_neg (by omega), if_neg (by omega), if_pos (by omega)]
    simp

/-- Frames, one behind the other. -/
def flat (fs : List (List UInt8)) : List UInt8 := (fs.map frame).flatten
theorem flat_snoc (fs : List (List UInt8)) (x : List UInt8) : flat (fs ++ [x]) = flat fs ++ frame x := by simp [flat]
theorem flat_app (fs gs : List (List UInt8)) : flat (fs ++ gs) = flat fs ++ flat gs := by simp [flat]

theorem path_flat (l post : List UInt8) : ∀ (fs : List (List UInt8)) (a : Nat), (∀ y ∈ fs, 0 < y.length ∧ y.length ≤ 65536) → a ≤ l.length → l.drop a = flat fs ++ post → Path l a fs (a + (flat fs).length) := by
  intro fs
  induction fs with
  | nil => intro a _ _ _; exact .nil a
  | cons y t ih =>
    intro a hy ha h
    obtain ⟨h0, h1⟩ := hy y (by simp)
    have h' : l.drop a = frame y ++ (flat t ++ post) := by rw [h]; simp [flat]
    have hd := congrArg List.length h'
    rw [List.length_append, List.length_drop] at hd
    refine .cons (next_frame h' ha h0 h1) ?_
    have := ih (a + (frame y).length) (fun z hz => hy z (by simp [hz])) (by omega) (by rw [← List.drop_drop, h']; simp)
    have e : a + (flat (y :: t)).length = a + (frame y).length + (flat t).length := by simp [flat]; omega
    rw [e]; exact this

/-- What the law's loop knows, n being where the bytes are cut off. -/
structure Cut (n : Nat) (fs want : List (List UInt8)) (a : Nat) : Prop where
  at_ : a = (flat want).length
  le : a ≤ n
  rest : ∃ t, fs = want ++ t ∧ ∀ y s, t = y :: s → n < a + (frame y).length

theorem Cut.zero (n : Nat) : Cut n [] [] 0 := ⟨rfl, by omega, [], rfl, fun y s h => by cases h⟩
theorem Cut.in {n : Nat} {fs want : List (List UInt8)} {a : Nat} (h : Cut n fs want a) (x : List UInt8) (hx : (flat (fs ++ [x])).length ≤ n) : Cut n (fs ++ [x]) (want ++ [x]) (flat (fs ++ [x])).length := by
  obtain ⟨t, ht, hr⟩ := h.rest
  cases t with
  | nil =>
    rw [List.append_nil] at ht
    subst ht
    exact ⟨rfl, hx, [], by simp, fun y s h => by cases h⟩
  | cons y s =>
    have := hr y s rfl
    have hf : (flat fs).length = (flat want).length + ((frame y).length + (flat s).length) := by rw [ht, flat_app]; simp [flat]
    rw [flat_snoc, List.length_append] at hx
    have := h.at_
    omega
theorem Cut.out {n : Nat} {fs want : List (List UInt8)} {a : Nat} (h : Cut n fs want a) (x : List UInt8) (hx : n < (flat (fs ++ [x])).length) : Cut n (fs ++ [x]) want a := by
  obtain ⟨t, ht, hr⟩ := h.rest
  refine ⟨h.at_, h.le, t ++ [x], by rw [ht]; simp, fun y s e => ?_⟩
  cases t with
  | nil =>
    simp at e
    obtain ⟨rfl, _⟩ := e
    rw [List.append_nil] at ht
    subst ht
    rw [flat_snoc, List.length_append] at hx
    have := h.at_
    omega
  | cons z r =>
    simp at e
    obtain ⟨rfl, _⟩ := e
    exact hr _ _ rfl

/-- P3.3: of frames of which a beginning is there just those are told that are whole. -/
theorem Cut.path {n : Nat} {fs want : List (List UInt8)} {a : Nat} (h : Cut n fs want a) (hn : n ≤ (flat fs).length) (hy : ∀ y ∈ fs, 0 < y.length ∧ y.length ≤ 65536) : Path ((flat fs).take n) 0 want a ∧ (next ((flat fs).take n) a).2.2 ≠ 0 := by
  obtain ⟨t, ht, hr⟩ := h.rest
  have ha := h.at_
  have hle := h.le
  have hf : flat fs = flat want ++ flat t := by rw [ht, flat_app]
  have hlen : ((flat fs).take n).length = n := by simp; omega
  have e1 : (flat fs).take n = flat want ++ (flat t).take (n - a) := by rw [hf, List.take_append, ← ha, List.take_of_length_le (by omega)]
  have e2 : ((flat fs).take n).drop a = (flat t).take (n - a) := by rw [e1, List.drop_append, ← ha, Nat.sub_self, List.drop_of_length_le (by omega)]; simp
  constructor
  · have := path_flat ((flat fs).take n) ((flat t).take (n - a)) want 0 (fun y hm => hy y (by rw [ht]; simp [hm])) (by omega) (by rw [List.drop_zero, e1])
    rwa [Nat.zero_add, ← ha] at this
  · cases t with
    | nil =>
      have hna : n = a := by rw [hf] at hn; simp [flat] at hn; simp [flat] at ha; omega
      have hgp : getp ((flat fs).take n) (a : Int) = (0, 0, 1) := getp_err (e := 1) (by omega) (by omega) (by rw [e2]; simp [flat]; rfl)
      unfold next
      rw [hgp]; simp
    | cons y s =>
      have hlt := hr y s rfl
      obtain ⟨h0, h1⟩ := hy y (by rw [ht]; simp)
      refine next_cut (y := y) (k := n - a) ?_ (by omega) (by omega) h0 h1
      rw [e2, show flat (y :: s) = frame y ++ flat s by simp [flat], List.take_append_of_le_length (by omega)]

/-- P3.4: up to four bytes of the body, one behind the other, are others. -/
theorem spoilt {body cur : List UInt8} {p : Nat} {xs : List UInt8} (h0 : 0 < body.length) (h1 : body.length ≤ 65536) (hp : p + 4 ≤ body.length) (hx : xs.length = 4)
    (h : Crc.Chg (frame body) cur ((enc body.length).length + p) 4 xs true) : (next cur 0).2.2 = 4 := by
  obtain ⟨c, hc⟩ : ∃ c, c = (enc body.length).length := ⟨_, rfl⟩
  rw [← hc] at h
  have h9 := enc_nine (n := body.length) (by omega)
  have hfl := frame_len body
  have hcl := h.len
  rw [hfl, ← hc] at hcl
  have fat : ∀ j, j < body.length → (frame body)[c + j]? = body[j]? := by
    intro j hj
    unfold frame
    rw [List.append_assoc, List.getElem?_append_right (by omega), ← hc, Nat.add_sub_cancel_left, List.getElem?_append_left hj]
  have head : cur.take c = enc body.length := by
    have e : (frame body).take c = enc body.length := by unfold frame; rw [List.append_assoc, hc, List.take_left']; rfl
    rw [← e]
    apply List.ext_getElem?
    intro j
    rw [List.getElem?_take, List.getElem?_take]
    split
    · exact h.out j (by omega)
    · rfl
  have hb : ((cur.drop c).take body.length).length = body.length := by simp; omega
  have hch : Crc.Chg body ((cur.drop c).take body.length) p 4 xs true := by
    refine ⟨hb, fun j hj => ?_, fun j hj => ?_, h.any⟩
    · rw [List.getElem?_take, List.getElem?_drop]
      split
      · rename_i hlt
        rw [h.out (c + j) (by omega), fat j hlt]
      · rw [List.getElem?_eq_none (by omega)]
    · rw [List.getElem?_take, List.getElem?_drop, if_pos (by omega), show c + (p + j) = c + p + j by omega, h.inn j hj, show c + p + j = c + (p + j) by omega, fat (p + j) (by omega)]
  have hne := hch.sum_eq (by omega) (by omega) hp
  have tl : (cur.drop (c + body.length)).take 4 = tail body := by
    have e : ((frame body).drop (c + body.length)).take 4 = tail body := by
      unfold frame
      rw [List.drop_append, List.drop_of_length_le (by simp; omega)]
      simp [← hc]
      rfl
    rw [← e]
    apply List.ext_getElem?
    intro j
    rw [List.getElem?_take, List.getElem?_take, List.getElem?_drop, List.getElem?_drop]
    split
    · exact h.out _ (by omega)
    · rfl
  have hg : getv 0 0 (cur.drop 0) = (body.length, c, 0) := by
    have := getv_enc (cur.drop c) body.length 0 0 (by omega) (by omega)
    rw [List.drop_zero, ← List.take_append_drop c cur, head]
    simpa [← hc] using this
  have hgp : getp cur 0 = ((body.length : Int), (c : Int), 0) := by simpa using getp_ok (l := cur) (p := 0) (by omega) hg
  unfold next
  rw [hgp]
  simp only [ne_eq, not_true_eq_false, if_false]
  rw [if_neg (by omega), if_neg (by omega), if_neg (by omega), Int.toNat_natCast, Int.toNat_natCast, tl, if_neg]
  intro e
  have := tail_inj e
  rw [this] at hne
  simp at hne

end Frm
end Go.Proofs.YtmhabcabbefncaaDoor
