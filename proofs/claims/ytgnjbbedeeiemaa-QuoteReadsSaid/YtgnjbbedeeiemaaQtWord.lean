/- Quoted strings: which strings are words, by the program and by the document. -/
import Derived.Test.YtgnjbbedeeiemaaQtRefU
namespace Go.Proofs.Ytgnjbbedeeiemaa
open Go.RowKit

namespace Qt
/-- All runes above 32 from i on. -/
theorem bare_all (s : ByteArray) : ∀ (b i : Nat), s.size - i ≤ b → (Rn.allFrom (fun r => decide (32 < r)) s b i = true ↔ ∀ j, i ≤ j → j < s.size → 32 < Rn.byteAt s j) := by
  intro b
  induction b with
  | zero => intro i h; simp only [Rn.allFrom, true_iff]; intro j h1 h2; omega
  | succ b ih =>
    intro i h
    simp only [Rn.allFrom]
    by_cases hi : i < s.size
    · rw [if_pos hi, Bool.and_eq_true]
      have hw := Rn.width_pos s i
      have hw2 := Rn.width_le s i hi
      rw [ih (i + (Utf8.decode s i).2) (by omega)]
      by_cases h128 : Rn.byteAt s i < 128
      · rw [Rn.low_one s i h128]
        constructor
        · rintro ⟨h1, h2⟩ j hj1 hj2
          by_cases e : j = i
          · subst e
            simp at h1; omega
          · exact h2 j (by simp only; omega) hj2
        · intro h1
          have := h1 i (Nat.le_refl _) hi
          exact ⟨by simp; omega, fun j hj1 hj2 => h1 j (by simp only at hj1; omega) hj2⟩
      · have hh := Rn.high_high s i (by omega)
        constructor
        · rintro ⟨h1, h2⟩ j hj1 hj2
          by_cases e : j < i + (Utf8.decode s i).2
          · by_cases e2 : j = i
            · subst e2; omega
            · have := (Rn.inner_high s i j (by omega) e).2; omega
          · exact h2 j (by omega) hj2
        · intro h1
          exact ⟨by simp; omega, fun j hj1 hj2 => h1 j (by omega) hj2⟩
    · rw [if_neg hi]; simp only [true_iff]; intro j h1 h2; omega
theorem bare_bytes (s : ByteArray) : bare s.data.toList = true ↔ ∀ j, j < s.size → 32 < Rn.byteAt s j := by
  unfold bare
  rw [List.all_eq_true]
  constructor
  · intro h j hj
    have h1 := Rn.list_at s j hj
    have := h _ (List.mem_of_getElem? h1)
    exact of_decide_eq_true this
  · intro h c hc
    obtain ⟨j, hj, rfl⟩ := List.mem_iff_getElem.1 hc
    have hj' : j < s.size := hj
    have h1 := Rn.list_at s j hj'
    rw [List.getElem?_eq_getElem hj] at h1
    rw [Option.some.inj h1]
    exact decide_eq_true (h j hj')
def above (r : Int) : Bool := decide (32 < r)
theorem bare_eq (s : ByteArray) : bare s.data.toList = Rn.all above s := by
  rw [Bool.eq_iff_iff, bare_bytes]
  unfold Rn.all
  rw [show above = fun r => decide (32 < r) from rfl, bare_all s s.size 0 (by omega)]
  exact ⟨fun h j _ hj => h j hj, fun h j hj => h j (Nat.zero_le _) hj⟩
theorem empty_eq (s : ByteArray) : s.toList.isEmpty = decide (s.size = 0) := by
  rw [ByteArray.toList_eq, Bool.eq_iff_iff, List.isEmpty_iff_length_eq_zero, decide_eq_true_eq]
  exact Iff.rfl
theorem pre_quote (s : ByteArray) : Rn.pre s ⟨#[34]⟩ = (decide (0 < s.size) && (Rn.byteAt s 0 == 34)) := by
  unfold Rn.pre
  have hz : (ByteArray.mk #[34]).size = 1 := rfl
  rw [hz]
  by_cases h : 0 < s.size
  · have e : (s.extract 0 1).toList = [s.get! 0] := by
      rw [ByteArray.toList_eq, ext_list, drop_eq s 0 h]; rfl
    have e2 : (ByteArray.mk #[34]).toList = [34] := ByteArray.toList_mk [34]
    rw [e, e2, Bool.eq_iff_iff]
    have e3 : (s.get! 0).toNat = Rn.byteAt s 0 := rfl
    simp only [Bool.and_eq_true, decide_eq_true_eq, beq_iff_eq, List.cons.injEq, and_true, ← UInt8.toNat_inj, e3]
    constructor
    · rintro ⟨_, h2⟩; exact ⟨h, h2⟩
    · rintro ⟨_, h2⟩; exact ⟨by omega, h2⟩
  · simp [show ¬ 1 ≤ s.size by omega, h]
end Qt

set_option maxRecDepth 4000 in
set_option maxHeartbeats 1600000 in
theorem word_any (s : ByteArray) (w : World) (hs : s.size ≤ 200000000000) :
    Calls Try.prog 24 #[.string s] w (Finds w (.bool (Qt.word s))) := by
  have hp := Qt.pre_quote s
  by_cases hq : 0 < s.size ∧ Rn.byteAt s 0 = 34
  · have hp1 : Rn.pre s ⟨#[34]⟩ = true := by rw [hp]; simp [hq.1, hq.2]
    have HW : Hid (Qt.word s = (Qt.unq s).isSome) := by show _ = _; unfold Qt.word; rw [if_neg (by omega), if_pos hq.2]
    have HP := Lib.hid hp1
    clear hp hp1 hq
    go_enter Try.func24, Try.ntmps24
    go_wp2_with fail
    refine (prefix_any _ _ _).mono ?_
    rintro e w1 ⟨rfl, rfl⟩
    rw [HP.out]
    go_wp2_with fail
    refine (unquote_any _ _ hs).mono ?_
    rintro e w1 ⟨rfl, hb1⟩
    have HU : Hid (Qt.told s = Qt.told s) := rfl
    unfold Qt.told
    cases hu : Qt.unq s with
    | none =>
      rw [hu] at HW
      dsimp only
      go_wp2
      go_ret
      exact ⟨ret_bool (by rw [HW.out]; rfl), hb1⟩
    | some o =>
      rw [hu] at HW
      dsimp only
      go_wp2
      go_ret
      exact ⟨ret_bool (by rw [HW.out]; rfl), hb1⟩
  · have hp1 : Rn.pre s ⟨#[34]⟩ = false := by
      rw [hp]
      cases h : (decide (0 < s.size) && (Rn.byteAt s 0 == 34)) with
      | false => rfl
      | true => simp at h; exact absurd h hq
    have HW : Hid (Qt.word s = (decide (0 < s.size) && Rn.all Qt.above s)) := by
      show _ = _
      unfold Qt.word
      by_cases h0 : s.size = 0
      · rw [if_pos h0]; simp [h0]
      · rw [if_neg h0, if_neg (by omega), Qt.bare_eq]; simp [show 0 < s.size by omega]
    have HP := Lib.hid hp1
    clear hp hp1 hq
    obtain ⟨B, hB⟩ : ∃ B, B = w.heap.size := ⟨_, rfl⟩
    have h0 : It w.heap.size w (w.iter s 0) B s 0 := hB ▸ It.new s (Below.refl _ w) (Nat.le_refl _)
    go_enter Try.func24, Try.ntmps24
    go_wp2_with fail
    refine (prefix_any _ _ _).mono ?_
    rintro e w1 ⟨rfl, rfl⟩
    rw [HP.out]
    go_wp2
    rw [← hB]
    clear hB
    go_loopw [6] (fun r wr => ∃ q : Nat, It w.heap.size w wr B s q ∧ q ≤ s.size ∧ Hid (Rn.allAt Qt.above s q = Rn.all Qt.above s)) (fun _ wr => s.size - stands B wr)
    case atStart => exact ⟨0, h0, by omega, rfl⟩
    case round =>
      obtain ⟨q, hit, hq, HQ⟩ := hrel
      by_cases hlt : q < s.size
      · have hnx := fun ty => next_at (P := Try.prog) hit.iter hlt ty
        have hit2 := hit.set (q + (Utf8.decode s q).2)
        have hstep := Rn.allAt_eq Qt.above s q hlt
        have hw1 := Rn.width_pos s q
        have hw2 := Rn.width_le s q hlt
        obtain ⟨r, hr⟩ : ∃ r, r = (Utf8.decode s q).1 := ⟨_, rfl⟩
        obtain ⟨d, hd⟩ : ∃ d, d = (Utf8.decode s q).2 := ⟨_, rfl⟩
        rw [← hr, ← hd] at hnx
        rw [← hd] at hit2 hw1 hw2
        rw [← hr, ← hd] at hstep
        clear hr hd
        by_cases h32 : 32 < r
        · have hb : Qt.above (r : Int) = true := by unfold Qt.above; simp; omega
          have HS : Hid (Rn.all Qt.above s = Rn.allAt Qt.above s (q + d)) := by show _ = _; rw [← HQ.out, hstep, hb]; rfl
          have n32 : ¬ (r : Int) ≤ 32 := by omega
          clear hstep hb
          go_wp2
          go_roundw
          case rel => exact ⟨q + d, hit2, hw2, by show _ = _; rw [HS.out]⟩
          case measure => rw [hit2.stands, hit.stands]; omega
        · have hb : Qt.above (r : Int) = false := by unfold Qt.above; simp; omega
          have HS : Hid (Rn.all Qt.above s = false) := by show _ = _; rw [← HQ.out, hstep, hb]; rfl
          have n32 : (r : Int) ≤ 32 := by omega
          clear hstep hb
          go_wp2
          go_ret
          exact ⟨ret_bool (by rw [HW.out, HS.out]; simp), hit2.below⟩
      · have hnx := fun ty => next_end (P := Try.prog) hit.iter hlt ty
        have HA : Hid (Rn.all Qt.above s = true) := by show _ = _; rw [← HQ.out, Rn.allAt_end Qt.above s q hlt]
        obtain ⟨b, hb⟩ : ∃ b, s.toList.isEmpty = b := ⟨_, rfl⟩
        have hbv : Hid (decide (0 < s.size) = !b) := by
          show _ = _
          rw [← hb, Qt.empty_eq]
          by_cases h0 : s.size = 0
          · simp [h0]
          · simp [h0]; omega
        go_wp2
        go_ret
        exact ⟨ret_bool (by rw [HW.out, HA.out, hbv.out]; simp), hit.below⟩


set_option maxRecDepth 4000 in
set_option maxHeartbeats 1600000 in
theorem refWord_any (s : ByteArray) (w : World) (hs : s.size ≤ 200000000000) :
    Calls Try.prog 13 #[.string s] w (Finds w (.bool (Qt.word s))) := by
  by_cases h0 : s.size = 0
  · have HW : Hid (Qt.word s = false) := by show _ = _; unfold Qt.word; rw [if_pos h0]
    have hE : s.toList.isEmpty = true := by rw [Qt.empty_eq]; simp [h0]
    go_enter Try.func13, Try.ntmps13
    go_wp2
    go_ret
    exact ⟨ret_bool (by rw [HW.out]), Below.refl _ _⟩
  · have hE : s.toList.isEmpty = false := by rw [Qt.empty_eq]; simp [h0]
    have hat0 : ∀ h, (s[0]'h).toNat = Rn.byteAt s 0 := fun h => Rn.byteAt_get s 0 h
    have hz : (0 : Int) < (s.size : Int) := by omega
    have HWd : Hid (Qt.word s = if Rn.byteAt s 0 = 34 then (Qt.unq s).isSome else Qt.bare s.data.toList) := by show _ = _; unfold Qt.word; rw [if_neg h0]
    obtain ⟨x, hx⟩ : ∃ x, x = Rn.byteAt s 0 := ⟨_, rfl⟩
    rw [← hx] at hat0 HWd
    have h256 : x < 256 := by rw [hx]; exact Rn.byteAt_lt s 0
    clear hx
    by_cases h34 : x = 34
    · have HW : Hid (Qt.word s = (Qt.unq s).isSome) := by show _ = _; rw [HWd.out, if_pos h34]
      subst h34
      go_enter Try.func13, Try.ntmps13
      go_wp2_with fail
      refine (refUnquote_any _ _ (by omega)).mono ?_
      rintro e w1 ⟨X, b, rfl, hb1, hX⟩
      have HB : Hid (Qt.word s = b) := by
        show _ = _
        rw [HW.out]
        cases b with
        | true => rw [if_pos rfl] at hX; rw [hX]; rfl
        | false => rw [if_neg (by simp)] at hX; rw [hX]; rfl
      clear hX
      go_wp2
      go_ret
      exact ⟨ret_bool HB.out.symm, hb1⟩
    · have HW : Hid (Qt.word s = Qt.bare s.data.toList) := by show _ = _; rw [HWd.out, if_neg h34]
      have e34 : ((x : Int) == 34) = false := by simp; omega
      clear HWd
      go_enter Try.func13, Try.ntmps13
      go_wp2
      go_loop [5] (fun i => ∃ q : Nat, i = .int .i64 (q : Int) ∧ q ≤ s.size ∧ Hid (∀ j, j < q → 32 < Rn.byteAt s j)) (fun i => s.size - (intOf i).toNat)
      case atStart => exact ⟨0, rfl, by omega, fun j hj => by omega⟩
      case round =>
        obtain ⟨q, rfl, hq, HQ⟩ := hrel
        by_cases hlt : q < s.size
        · have hat : ∀ h, (s[q]'h).toNat = Rn.byteAt s q := fun h => Rn.byteAt_get s q h
          have hy256 := Rn.byteAt_lt s q
          obtain ⟨y, hy⟩ : ∃ y, y = Rn.byteAt s q := ⟨_, rfl⟩
          rw [← hy] at hat hy256
          have HY := Lib.hid hy; clear hy
          by_cases h32 : y ≤ 32
          · have HF : Hid (Qt.bare s.data.toList = false) := by
              show _ = _
              cases h : Qt.bare s.data.toList with
              | false => rfl
              | true => have := (Qt.bare_bytes s).1 h q hlt; rw [← HY.out] at this; omega
            go_wp2
            go_ret
            exact ⟨ret_bool (by rw [HW.out, HF.out]), Below.refl _ _⟩
          · have HN : Hid (∀ j, j < q + 1 → 32 < Rn.byteAt s j) := by
              intro j hj
              by_cases e : j = q
              · subst e; rw [← HY.out]; omega
              · exact HQ.out j (by omega)
            go_wp2
            go_round
            case rel => exact ⟨q + 1, by go_num, by omega, HN.out⟩
            case measure => simp [intOf]; omega
        · have HF : Hid (Qt.bare s.data.toList = true) := by
            show _ = _
            rw [Qt.bare_bytes]; exact fun j hj => HQ.out j (by omega)
          go_wp2
          go_ret
          exact ⟨ret_bool (by rw [HW.out, HF.out]), Below.refl _ _⟩
end Go.Proofs.Ytgnjbbedeeiemaa
