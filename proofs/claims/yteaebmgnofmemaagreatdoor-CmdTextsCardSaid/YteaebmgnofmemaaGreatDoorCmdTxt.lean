/- A command comes back from its text; what is parsed has that text. No program is spoken of. -/
import Derived.Test.YteaebmgnofmemaaGreatDoorCmdParse
import Derived.Test.YteaebmgnofmemaaGreatDoorCmdBack
import Derived.Test.YteaebmgnofmemaaGreatDoorQtLaws
namespace Go.Proofs.YteaebmgnofmemaaGreatDoor

namespace Cm
theorem dig_byte (d : Nat) (h : d < 10) : (UInt8.ofNat (48 + d)).toNat = 48 + d := by rw [UInt8.toNat_ofNat']; omega
theorem dec_bytes : ∀ u : Nat, ∀ c ∈ Lib.decDigits u, 48 ≤ c.toNat ∧ c.toNat ≤ 57 := by
  intro u
  induction u using Nat.strongRecOn with
  | ind u ih =>
    intro c hc
    rw [Lib.decDigits] at hc
    split at hc
    · rename_i h
      simp only [List.mem_singleton] at hc
      subst hc
      rw [dig_byte u h]; omega
    · rename_i h
      rcases List.mem_append.1 hc with h1 | h1
      · exact ih (u / 10) (by omega) c h1
      · simp only [List.mem_singleton] at h1
        subst h1
        rw [dig_byte (u % 10) (by omega)]; omega
theorem dec_ne (u : Nat) : Lib.decDigits u ≠ [] := by
  rw [Lib.decDigits]
  split
  · simp
  · simp
theorem parse_dec : ∀ (u : Nat) (rest : List UInt8), u < 1000000000000000 → Lib.parseUint10 0 (Lib.decDigits u ++ rest) = Lib.parseUint10 u rest := by
  intro u
  induction u using Nat.strongRecOn with
  | ind u ih =>
    intro rest hu
    rw [Lib.decDigits]
    split
    · rename_i h
      have hd := dig_byte u h
      rw [List.singleton_append, Lib.parseUint10, hd, if_pos (by omega), if_neg (by omega), if_neg (by omega)]
      congr 1
      omega
    · rename_i h
      rw [List.append_assoc, ih (u / 10) (by omega) _ (by omega), List.singleton_append]
      have hd := dig_byte (u % 10) (by omega)
      rw [Lib.parseUint10, hd, if_pos (by omega), if_neg (by omega), if_neg (by omega)]
      congr 1
      omega
theorem heardN_itoa (n : Int) (h0 : 0 ≤ n) (h1 : n < 1000000000000000) : heardN (Lib.itoa n) = n := by
  obtain ⟨u, rfl⟩ := Int.eq_ofNat_of_zero_le h0
  have e : Lib.itoa (u : Int) = Lib.decDigits u := by unfold Lib.itoa; rw [if_neg (by omega), Int.toNat_natCast]
  have hp := parse_dec u [] (by omega)
  rw [List.append_nil] at hp
  have hm : Lib.parseMag (Lib.decDigits u) = .ok u := by unfold Lib.parseMag; rw [if_neg (dec_ne u), hp]; rfl
  have ha : Lib.atoiAll (Lib.decDigits u) = .ok (u : Int) := by
    have hb := dec_bytes u
    cases hl : Lib.decDigits u with
    | nil => exact absurd hl (dec_ne u)
    | cons c r =>
      rw [hl] at hm hb
      have hc := hb c (by simp)
      unfold Lib.atoiAll
      dsimp only
      rw [if_neg (show ¬ (c.toNat = 43 ∨ c.toNat = 45) by omega), hm]
      dsimp only
      rw [if_neg (by omega), if_neg (by omega), if_neg (by omega)]
  unfold heardN
  rw [e, ha]
theorem heardS_quote (s : List UInt8) : heardS (Qt.quote ⟨s.toArray⟩) = s := by
  unfold heardS
  rw [Qt.unq_quote ⟨s.toArray⟩ _ rfl]
theorem kindOf_word (k : Int) (h : known k = true) : kindOf (word k) = k := by
  rcases Vs.kinds k with rfl | rfl | rfl | rfl | rfl | rfl | rfl | rfl | hk
  rotate_right
  · simp [known] at h; omega
  all_goals decide
theorem zip_fold (g : F → List UInt8) : ∀ (fs : List F) (a : Cmd), heardOf a (fs.zip (fs.map g)) = fs.foldl (fun a f => hear a f (g f)) a := by
  intro fs
  induction fs with
  | nil => intro a; rfl
  | cons f fs ih =>
    intro a
    rw [List.map_cons, List.zip_cons_cons]
    show heardOf (hear a f (g f)) _ = _
    rw [ih]
    rfl
theorem hear_told (c a : Cmd) (f : F) (h0 : 0 ≤ c.n f) (h1 : c.n f < 1000000000000000) : hear a f (told c f) = copy c a f := by
  unfold hear told copy
  cases h : f.num with
  | true => rw [if_pos rfl, if_pos rfl, if_pos rfl, heardN_itoa _ h0 h1]
  | false => rw [if_neg (by simp), if_neg (by simp), if_neg (by simp), heardS_quote]
theorem fold_told (c : Cmd) : ∀ (fs : List F) (a : Cmd), (∀ f, 0 ≤ c.n f ∧ c.n f < 1000000000000000) → fs.foldl (fun a f => hear a f (told c f)) a = fs.foldl (copy c) a := by
  intro fs
  induction fs with
  | nil => intro a _; rfl
  | cons f fs ih =>
    intro a h
    rw [List.foldl_cons, List.foldl_cons, hear_told c a f (h f).1 (h f).2, ih _ h]
/-- A command that may be has numbers not too large. -/
theorem check_small {c : Cmd} (h : check c = 0) (f : F) : 0 ≤ c.n f ∧ c.n f < 1000000000000000 := by
  refine ⟨(check_pos h).n f, ?_⟩
  obtain ⟨hk, ha⟩ := check_ok h
  unfold check at h
  rw [hk, if_neg (by simp)] at h
  by_cases h6 : (fields c.kind).all (within c) = false
  · rw [if_pos h6] at h; omega
  · have hw : ∀ g ∈ fields c.kind, within c g = true := List.all_eq_true.1 (by simpa using h6)
    by_cases hf : f ∈ fields c.kind
    · have := hw f hf
      unfold within at this
      cases hn : f.num with
      | false => cases f <;> first | (simp [Cmd.n]; done) | cases hn
      | true =>
        rw [hn] at this
        simp only [Bool.not_true, Bool.false_or, Bool.and_eq_true, decide_eq_true_eq] at this
        have hm : f.most ≤ 4294967296 := by cases f <;> decide
        omega
    · have h' := of_decide_eq_true ha
      have hz : c.n f = 0 := by
        clear h ha h6 hw
        obtain ⟨k, cl, sq, nd, ky, od, vl⟩ := c
        dsimp only at hk h' hf
        rcases Vs.kinds k with rfl | rfl | rfl | rfl | rfl | rfl | rfl | rfl | h
        rotate_right
        · simp [known] at hk; omega
        all_goals
          simp [fields, wipe, F.num, Cmd.setN, Cmd.setS, bareOf] at h'
          cases f <;> simp [fields] at hf <;> simp [Cmd.n, h']
      omega

theorem parse_words (c : Cmd) (h : check c = 0) : parseWords (ws c) = c := by
  obtain ⟨hk, ha⟩ := check_ok h
  unfold parseWords ws
  simp only [List.headD_cons, List.tail_cons]
  rw [kindOf_word _ hk, zip_fold, fold_told c _ _ (check_small h)]
  have := restrict_alone 2 (by omega) c ha
  unfold restrict encoded at this
  rw [if_neg (by omega)] at this
  exact this

theorem word_words (c : Cmd) (h : check c = 0) : ∀ x ∈ bl (ws c), Qt.word x = true := by
  intro x hx
  unfold bl ws at hx
  rw [List.map_cons, List.map_map] at hx
  rcases List.mem_cons.1 hx with rfl | hx
  · rcases Vs.kinds c.kind with e | e | e | e | e | e | e | e | hk
    rotate_right
    · have := (check_ok h).1
      simp [known] at this; omega
    all_goals rw [e]; decide +kernel
  · obtain ⟨f, _, rfl⟩ := List.mem_map.1 hx
    show Qt.word ⟨(told c f).toArray⟩ = true
    unfold told
    cases hn : f.num with
    | true =>
      rw [if_pos rfl]
      obtain ⟨u, hu⟩ := Int.eq_ofNat_of_zero_le (check_small h f).1
      have e : Lib.itoa (c.n f) = Lib.decDigits u := by unfold Lib.itoa; rw [if_neg (by omega), hu, Int.toNat_natCast]
      rw [e]
      have hb := dec_bytes u
      unfold Qt.word
      cases hl : Lib.decDigits u with
      | nil => exact absurd hl (dec_ne u)
      | cons a r =>
        rw [hl] at hb
        have ha := hb a (by simp)
        rw [if_neg (by rw [str_size]; simp), if_neg (show ¬ Rn.byteAt ⟨(a :: r).toArray⟩ 0 = 34 from by show ¬ a.toNat = 34; omega)]
        unfold Qt.bare
        rw [List.all_eq_true]
        intro z hz
        have := hb z hz
        simp; omega
    | false =>
      rw [if_neg (by simp)]
      unfold Qt.word
      rw [if_neg (by rw [str_size]; unfold Qt.quote; simp), if_pos (show Rn.byteAt ⟨(Qt.quote ⟨(c.s f).toArray⟩).toArray⟩ 0 = 34 from rfl), Qt.unq_quote ⟨(c.s f).toArray⟩ _ rfl]
      rfl

/-- A command's text is parsed as it. -/
theorem parse_text (c : Cmd) (h : check c = 0) : parse ⟨(text c).toArray⟩ = (c, 0) := by
  have ht : text c = line c := by unfold text; rw [if_pos h]
  have hj : (ByteArray.mk (text c).toArray) = ⟨(Lib.join ((bl (ws c)).map (·.data.toList)) [32]).toArray⟩ := by rw [ht, bl_back]; rfl
  have hok := Qt.lineOk_join (bl (ws c)) (word_words c h)
  have hw := Qt.words_join (bl (ws c)) (word_words c h)
  rw [← hj] at hok hw
  rw [bl_back] at hw
  unfold parse
  rw [if_pos ⟨hok, by rw [hw]; simp [ws]⟩, hw, parse_words c h, if_pos rfl]
theorem text_ne (c : Cmd) (h : check c = 0) : text c ≠ [] := by
  unfold text line ws
  rw [if_pos h, Lib.join_cons]
  intro e
  have := (List.append_eq_nil_iff.1 e).1
  rcases Vs.kinds c.kind with k | k | k | k | k | k | k | k | hk
  rotate_right
  · have := (check_ok h).1
    simp [known] at this; omega
  all_goals
    rw [k] at this
    exact absurd this (by decide)
theorem parse_empty : parse ⟨#[]⟩ = (zero, 3) := by
  unfold parse
  rw [if_neg]
  rintro ⟨_, h⟩
  exact h rfl
/-- What is parsed may be, and has that text. -/
theorem parse_ok (s : ByteArray) (h : (parse s).2 = 0) : check (parse s).1 = 0 ∧ text (parse s).1 = s.data.toList := by
  unfold parse at h ⊢
  by_cases h1 : Qt.lineOk s = true ∧ Qt.words s ≠ []
  · rw [if_pos h1] at h ⊢
    by_cases h2 : text (parseWords (Qt.words s)) = s.data.toList
    · rw [if_pos h2]
      refine ⟨?_, h2⟩
      by_cases hc : check (parseWords (Qt.words s)) = 0
      · exact hc
      · exfalso
        have h3 : text (parseWords (Qt.words s)) = [] := by unfold text; rw [if_neg hc]
        rw [h3] at h2
        apply h1.2
        unfold Qt.words
        rw [if_pos (show s.size = 0 by have := congrArg List.length h2; exact this.symm)]
    · rw [if_neg h2] at h; cases h
  · rw [if_neg h1] at h; cases h
theorem parse_none (s : ByteArray) (h : (parse s).2 ≠ 0) : parse s = (zero, 3) := by
  unfold parse at h ⊢
  by_cases h1 : Qt.lineOk s = true ∧ Qt.words s ≠ []
  · rw [if_pos h1] at h ⊢
    by_cases h2 : text (parseWords (Qt.words s)) = s.data.toList
    · rw [if_pos h2] at h; exact absurd rfl h
    · rw [if_neg h2]
  · rw [if_neg h1]

theorem words_small (s : ByteArray) : ∀ x ∈ Qt.words s, x.length ≤ s.size := by
  intro x hx
  have h2 : Qt.words s = Qt.split s.data.toList := by
    unfold Qt.words at hx ⊢
    split at hx
    · cases hx
    · rename_i h0; rw [if_neg h0]
  rw [h2] at hx
  have := Qt.mem_join [32] _ _ hx
  rw [Qt.split_join] at this
  exact this
theorem heardOf_inv (m : Nat) : ∀ (l : List (F × List UInt8)) (a : Cmd), a.Fits → a.Short m → (∀ p ∈ l, 4 * p.2.length ≤ m) → (heardOf a l).Fits ∧ (heardOf a l).Short m := by
  intro l
  induction l with
  | nil => intro a h1 h2 _; exact ⟨h1, h2⟩
  | cons p l ih =>
    intro a h1 h2 h
    exact ih (hear a p.1 p.2) (hear_fits h1 _ _) (hear_short h2 _ _ (h p (by simp))) fun q hq => h q (by simp [hq])
theorem parse_inv (s : ByteArray) : (parse s).1.Fits ∧ (parse s).1.Short (4 * s.size) := by
  have hz : zero.Fits ∧ zero.Short (4 * s.size) := ⟨by constructor <;> simp [zero, bareOf], by simp [zero, bareOf], by simp [zero, bareOf], by simp [zero, bareOf]⟩
  unfold parse
  split
  · split
    · unfold parseWords
      refine heardOf_inv _ _ _ (bareOf_fits _) ⟨by simp [bareOf], by simp [bareOf], by simp [bareOf]⟩ fun p hp => ?_
      have h1 := (List.of_mem_zip hp).2
      have := words_small s _ (List.mem_of_mem_tail h1)
      omega
    · exact hz
  · exact hz
end Cm
end Go.Proofs.YteaebmgnofmemaaGreatDoor
