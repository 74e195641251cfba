/- Quoted strings: awake; the laws QuoteTexts, QuoteReads, QuoteLines, QuoteWords. -/
import Derived.Test.YtgnjbbedeeiemaaQtLine
namespace Go.Proofs.Ytgnjbbedeeiemaa
open Go.RowKit

namespace Qt
theorem map_back : ∀ (us : List ByteArray) (ls : List (List UInt8)), us.map (·.data.toList) = ls → us = ls.map fun l => ⟨l.toArray⟩ := by
  intro us
  induction us with
  | nil => intro ls h; rw [← h]; rfl
  | cons u us ih =>
    intro ls h
    rw [← h, List.map_cons, List.map_cons, ← ih _ rfl]
theorem map_same {us ls : List ByteArray} (h : us.map (·.data.toList) = ls.map (·.data.toList)) : us = ls := by
  rw [map_back us _ h]
  exact (map_back ls _ rfl).symm
theorem ok1 : lineOk ⟨#[97, 32, 34, 98, 32, 99, 34]⟩ = true := by decide +kernel
theorem ok2 : words ⟨#[97, 32, 34, 98, 32, 99, 34]⟩ = [[97], [34, 98, 32, 99, 34]] := by decide +kernel
theorem ok3 : (ByteArray.mk #[97, 32, 34, 98, 32, 99, 34]).size ≤ 200000000000 := by decide +kernel
theorem words_join (ls : List ByteArray) (h : ∀ s ∈ ls, word s = true) : words ⟨(Lib.join (ls.map (·.data.toList)) [32]).toArray⟩ = ls.map (·.data.toList) := by
  unfold words
  cases ls with
  | nil => rfl
  | cons x r =>
    have hx := word_long x (h x (by simp))
    have hm := mem_join [32] ((x :: r).map (·.data.toList)) x.data.toList (by simp)
    have hl : x.data.toList.length = x.size := rfl
    rw [if_neg (by
      show ¬ (Lib.join ((x :: r).map (·.data.toList)) [32]).toArray.size = 0
      rw [List.size_toArray]; omega), back]
    have := split_words (x :: r) [] (by simp) h
    exact this
theorem lineOk_join (ls : List ByteArray) (h : ∀ s ∈ ls, word s = true) : lineOk ⟨(Lib.join (ls.map (·.data.toList)) [32]).toArray⟩ = true := by
  unfold lineOk
  rw [words_join ls h, List.all_map, List.all_eq_true]
  intro s hs
  exact h s hs
theorem words_back (s : ByteArray) : Lib.join (words s) [32] = s.data.toList := by
  unfold words
  split
  · rename_i h0
    have : s.data.toList = [] := List.eq_nil_of_length_eq_zero h0
    rw [this]; rfl
  · exact split_join _
theorem told_quote (s : ByteArray) : told ⟨(quote s).toArray⟩ = .tuple #[.string s, .int .i64 0] := by
  unfold told
  rw [unq_quote s _ (back _)]
end Qt

theorem ReadsS.fresh (w : World) (T : TypeId) (ls : List ByteArray) (n : Nat) (cs : Array Value) (hn : n = ls.length) (hc : cs.toList = ls.map Value.string) (hm : n ≤ 9223372036854775807) : ReadsS (w.alloc (.cells cs T)) (.slice (some ⟨w.heap.size, 0, none⟩) n n) ls := by
  subst hn
  refine ⟨_, _, rfl, Nat.le_refl _, by unfold maxLen; omega, (fun h => by cases h), fun a ha j s hs => ?_⟩
  cases ha
  rw [Addr.add_lit, Nat.zero_add, World.cell?_alloc_mark, ← Array.getElem?_toList, hc, List.getElem?_map, hs]
  rfl

set_option maxRecDepth 4000 in
set_option maxHeartbeats 1600000 in
theorem awake_any (w : World) : Calls Try.prog 7 #[] w (Truly w) := by
  go_enter Try.func7, Try.ntmps7
  go_wp2_with fail
  refine (words_any _ _ Qt.ok3).mono ?_
  rintro e w1 ⟨hb1, hX⟩
  rw [if_pos Qt.ok1, Qt.ok2] at hX
  obtain ⟨v, us, rfl, hr, hus⟩ := hX
  obtain rfl := Qt.map_back us _ hus
  obtain ⟨ao, cap, rfl⟩ := hr.shape
  obtain ⟨b, off, rfl, _, hcap, hcm, hbl, hcells⟩ := hr.place (by simp)
  have hcell := hcells 1 ⟨#[34, 98, 32, 99, 34]⟩ rfl
  have hL := fun w1 : World => line_any [⟨#[97]⟩, ⟨#[98]⟩] (.slice (some ⟨w1.heap.size, 0, none⟩) 2 2) (w1.alloc (.cells #[.string ⟨#[97]⟩, .string ⟨#[98]⟩] 9)) (ReadsS.fresh w1 _ _ 2 _ rfl rfl (by decide)) (by decide) (by decide)
  clear hcells hr hus
  go_wp2_with fail
  refine (hL _).mono ?_
  rintro e w2 ⟨rfl, hb2⟩
  go_wp2
  go_ret
  exact ⟨rfl, on (on hb1 ((Below.refl _ _).alloc (Nat.le_refl _) _)) hb2⟩

set_option maxRecDepth 4000 in
set_option maxHeartbeats 1600000 in
theorem quoteTexts_any (s : ByteArray) (w : World) : Calls Try.prog 3 #[.string s] w (Truly w) := by
  by_cases hl : 300 < s.size
  · have hl' : (300 : Int) < (s.size : Int) := by omega
    go_enter Try.func3, Try.ntmps3
    go_wp2_with fail
    refine (awake_any _).mono ?_
    rintro e w1 ⟨rfl, hb⟩
    go_wp2
    go_ret
    exact ⟨rfl, hb⟩
  · have hl' : ¬ (300 : Int) < (s.size : Int) := by omega
    have hz : (ByteArray.mk (Qt.quote s).toArray).size ≤ 200000000000 := by
      have := Qt.quote_len s
      simp [ByteArray.size]; omega
    have hT := Qt.told_quote s
    obtain ⟨Y, hY⟩ : ∃ Y, Y = ByteArray.mk (Qt.quote s).toArray := ⟨_, rfl⟩
    have hq := fun w => quote_any s w (by omega)
    have hrq := fun w => refQuote_any s w (by omega)
    have hu := fun w => unquote_any _ w hz
    rw [← hY] at hq hrq hT
    rw [← hY, hT] at hu
    clear hY hT hz
    go_enter Try.func3, Try.ntmps3
    go_wp2_with fail
    refine (hq _).mono ?_
    rintro e w1 ⟨rfl, hb1⟩
    go_wp2_with fail
    refine (hu _).mono ?_
    rintro e w2 ⟨rfl, hb2⟩
    go_wp2_with fail
    refine (hrq _).mono ?_
    rintro e w3 ⟨rfl, hb3⟩
    go_wp2_with fail
    refine (awake_any _).mono ?_
    rintro e w4 ⟨rfl, hb4⟩
    go_wp2
    go_ret
    exact ⟨rfl, on (on (on hb1 hb2) hb3) hb4⟩

set_option maxRecDepth 4000 in
set_option maxHeartbeats 1600000 in
theorem quoteReads_any (s : ByteArray) (w : World) : Calls Try.prog 4 #[.string s] w (Truly w) := by
  by_cases hl : 300 < s.size
  · have hl' : (300 : Int) < (s.size : Int) := by omega
    go_enter Try.func4, Try.ntmps4
    go_wp2_with fail
    refine (awake_any _).mono ?_
    rintro e w1 ⟨rfl, hb⟩
    go_wp2
    go_ret
    exact ⟨rfl, hb⟩
  · have hl' : ¬ (300 : Int) < (s.size : Int) := by omega
    have hu := fun w => unquote_any s w (by omega)
    have hrf := fun w => refUnquote_any s w (by omega)
    unfold Qt.told at hu
    go_enter Try.func4, Try.ntmps4
    go_wp2_with fail
    refine (hu _).mono ?_
    rintro e w1 ⟨rfl, hb1⟩
    cases hq : Qt.unq s with
    | none =>
      dsimp only
      go_wp2_with fail
      refine (hrf _).mono ?_
      rintro e w2 ⟨X, b, rfl, hb2, hX⟩
      cases b with
      | true => rw [if_pos rfl, hq] at hX; cases hX
      | false =>
        clear hX hu hrf
        go_wp2_with fail
        refine (awake_any _).mono ?_
        rintro e w3 ⟨rfl, hb3⟩
        go_wp2
        go_ret
        exact ⟨rfl, on (on hb1 hb2) hb3⟩
    | some o =>
      dsimp only
      go_wp2_with fail
      refine (hrf _).mono ?_
      rintro e w2 ⟨X, b, rfl, hb2, hX⟩
      cases b with
      | false => rw [if_neg (by simp), hq] at hX; cases hX
      | true =>
        rw [if_pos rfl, hq] at hX
        cases hX
        clear hu hrf
        go_wp2_with fail
        refine (awake_any _).mono ?_
        rintro e w3 ⟨rfl, hb3⟩
        go_wp2
        go_ret
        exact ⟨rfl, on (on hb1 hb2) hb3⟩
end Go.Proofs.Ytgnjbbedeeiemaa
