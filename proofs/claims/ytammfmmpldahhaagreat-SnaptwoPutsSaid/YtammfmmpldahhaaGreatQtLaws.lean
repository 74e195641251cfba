/- Quoted strings: awake; the laws QuoteTexts, QuoteReads, QuoteLines, QuoteWords. -/
import Derived.Test.YtammfmmpldahhaaGreatGQw
namespace Go.Proofs.YtammfmmpldahhaaGreat
open Go.RowKit

namespace Qt
theorem map_back : ∀ (us : List ByteArray) (ls : List (List UInt8)), us.map (·.data.toList) = ls → us = ls.map fun l => ⟨l.toArray⟩ := by
  intro us
  induction us with
  | nil => intro ls h; rw [← h]; rfl
  | cons u us ih =>
    intro ls h
    rw [← h, List.map_cons, List.map_cons, ← ih _ rfl]
theorem map_same {us ls : List ByteArray} (h : us.map (·.data.toList) = ls.map (·.data.toList)) : us = ls := by
  rw [map_back us _ h]
  exact (map_back ls _ rfl).symm
theorem ok1 : lineOk ⟨#[97, 32, 34, 98, 32, 99, 34]⟩ = true := by decide +kernel
theorem ok2 : words ⟨#[97, 32, 34, 98, 32, 99, 34]⟩ = [[97], [34, 98, 32, 99, 34]] := by decide +kernel
theorem ok3 : (ByteArray.mk #[97, 32, 34, 98, 32, 99, 34]).size ≤ 200000000000 := by decide +kernel
theorem words_join (ls : List ByteArray) (h : ∀ s ∈ ls, word s = true) : words ⟨(Lib.join (ls.map (·.data.toList)) [32]).toArray⟩ = ls.map (·.data.toList) := by
  unfold words
  cases ls with
  | nil => rfl
  | cons x r =>
    have hx := word_long x (h x (by simp))
    have hm := mem_join [32] ((x :: r).map (·.data.toList)) x.data.toList (by simp)
    have hl : x.data.toList.length = x.size := rfl
    rw [if_neg (by
      show ¬ (Lib.join ((x :: r).map (·.data.toList)) [32]).toArray.size = 0
      rw [List.size_toArray]; omega), back]
    have := split_words (x :: r) [] (by simp) h
    exact this
theorem lineOk_join (ls : List ByteArray) (h : ∀ s ∈ ls, word s = true) : lineOk ⟨(Lib.join (ls.map (·.data.toList)) [32]).toArray⟩ = true := by
  unfold lineOk
  rw [words_join ls h, List.all_map, List.all_eq_true]
  intro s hs
  exact h s hs
theorem words_back (s : ByteArray) : Lib.join (words s) [32] = s.data.toList := by
  unfold words
  split
  · rename_i h0
    have : s.data.toList = [] := List.eq_nil_of_length_eq_zero h0
    rw [this]; rfl
  · exact split_join _
theorem told_quote (s : ByteArray) : told ⟨(quote s).toArray⟩ = .tuple #[.string s, .int .i64 0] := by
  unfold told
  rw [unq_quote s _ (back _)]
end Qt

theorem ReadsS.fresh (w : World) (T : TypeId) (ls : List ByteArray) (n : Nat) (cs : Array Value) (hn : n = ls.length) (hc : cs.toList = ls.map Value.string) (hm : n ≤ 9223372036854775807) : ReadsS (w.alloc (.cells cs T)) (.slice (some ⟨w.heap.size, 0, none⟩) n n) ls := by
  subst hn
  refine ⟨_, _, rfl, Nat.le_refl _, by unfold maxLen; omega, (fun h => by cases h), fun a ha j s hs => ?_⟩
  cases ha
  rw [Addr.add_lit, Nat.zero_add, World.cell?_alloc_mark, ← Array.getElem?_toList, hc, List.getElem?_map, hs]
  rfl

end Go.Proofs.YtammfmmpldahhaaGreat
