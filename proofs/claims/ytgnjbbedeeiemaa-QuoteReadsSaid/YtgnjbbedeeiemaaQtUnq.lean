/- Quoted strings: Unquote, word. -/
import Derived.Test.YtgnjbbedeeiemaaQtQuote
import Derived.Test.YtgnjbbedeeiemaaQtPlain
namespace Go.Proofs.Ytgnjbbedeeiemaa
open Go.RowKit

namespace Qt
theorem plFrom_len (s : ByteArray) : ∀ (b i k : Nat) (out : List UInt8), (plFrom s b i k out).length ≤ out.length + 4 * b := by
  intro b
  induction b with
  | zero => intro i k out; simp [plFrom]
  | succ b ih =>
    intro i k out
    simp only [plFrom]
    split
    · split
      · have := ih (i + (Utf8.decode s i).2) (k + 1) out; omega
      · split
        · have := ih (i + (Utf8.decode s i).2) 0 (out ++ [mix (s.get! (i - 1)) (s.get! i)])
          simp at this; omega
        · have := ih (i + (Utf8.decode s i).2) 0 (out ++ Lib.encodeRune ((Utf8.decode s i).1 : Int))
          have h2 := enc_len (Utf8.decode s i).1
          rw [List.length_append] at this; omega
    · omega
theorem trimmed_len (s : ByteArray) : (trimmed s).length ≤ s.size := by
  have h0 : s.data.toList.length = s.size := rfl
  have h1 : (Lib.trimSuffix s.data.toList [34]).length ≤ s.size := by
    unfold Lib.trimSuffix
    split
    · rw [List.length_take]; omega
    · omega
  unfold trimmed
  generalize Lib.trimSuffix s.data.toList [34] = t at h1 ⊢
  unfold Lib.trimPrefix
  split
  · rw [List.length_drop]; omega
  · exact h1
theorem got_len (s : ByteArray) : (got s).length ≤ 4 * s.size := by
  have h1 := plFrom_len ⟨(trimmed s).toArray⟩ ((ByteArray.mk (trimmed s).toArray).size - 0) 0 0 []
  have h2 := trimmed_len s
  have h3 : (ByteArray.mk (trimmed s).toArray).size = (trimmed s).length := by simp [ByteArray.size]
  rw [h3] at h1
  unfold got pl plAt
  rw [h3]
  simp at h1 ⊢
  omega
theorem ne_list {s t : ByteArray} (h : ¬ s = t) : (s.toList == t.toList) = false := by
  rw [beq_eq_false_iff_ne]
  intro e
  rw [ByteArray.toList_eq, ByteArray.toList_eq] at e
  exact h (same_list e)
/-- What Unquote tells. -/
def told (s : ByteArray) : Value := match unq s with
  | some o => .tuple #[.string ⟨o.toArray⟩, .int .i64 0]
  | none => .tuple #[.string ⟨#[]⟩, .int .i64 3]
end Qt

set_option maxRecDepth 4000 in
set_option maxHeartbeats 800000 in
theorem unquote_any (s : ByteArray) (w : World) (hs : s.size ≤ 200000000000) :
    Calls Try.prog 9 #[.string s] w (Finds w (Qt.told s)) := by
  have h1 := Qt.trimmed_len s
  have h2 := Qt.got_len s
  have z1 : (ByteArray.mk (Qt.trimmed s).toArray).size ≤ 1000000000000 := by simp [ByteArray.size]; omega
  have z2 : (ByteArray.mk (Qt.got s).toArray).size ≤ 1000000000000 := by simp [ByteArray.size]; omega
  have e1 : Hid (Lib.trimPrefix (ByteArray.mk (Lib.trimSuffix s.data.toList (ByteArray.mk #[34]).data.toList).toArray).data.toList (ByteArray.mk #[34]).data.toList = Qt.trimmed s) := by show _ = _; simp [Qt.trimmed]
  have e2 : Hid (Qt.pl ⟨(Qt.trimmed s).toArray⟩ = Qt.got s) := by show _ = _; rfl
  have e3 : Hid (Qt.told s = if ByteArray.mk (Qt.quote ⟨(Qt.got s).toArray⟩).toArray = s then .tuple #[.string ⟨(Qt.got s).toArray⟩, .int .i64 0] else .tuple #[.string ⟨#[]⟩, .int .i64 3]) := by
    show _ = _
    unfold Qt.told Qt.unq
    by_cases h : Qt.quote ⟨(Qt.got s).toArray⟩ = s.data.toList
    · rw [if_pos h, if_pos]
      exact Qt.same_list (by rw [Qt.back]; exact h)
    · rw [if_neg h, if_neg]
      intro h'
      exact h ((Qt.back _).symm.trans (congrArg (fun t : ByteArray => t.data.toList) h'))
  clear h1 h2
  go_enter Try.func9, Try.ntmps9
  go_wp2_with fail
  refine (Try.strings_TrimSuffix _ _ _ (by omega)).mono ?_
  rintro e w1 ⟨rfl, rfl⟩
  go_wp2_with fail
  refine (Try.strings_TrimPrefix _ _ _).mono ?_
  rintro e w1 ⟨rfl, rfl⟩
  rw [e1.out]
  go_wp2_with fail
  refine (plainOf_any _ _ z1).mono ?_
  rintro e w1 ⟨rfl, hb1⟩
  rw [e2.out]
  go_wp2_with fail
  refine (quote_any _ _ z2).mono ?_
  rintro e w2 ⟨rfl, hb2⟩
  have E3 := e3.out
  clear e1 e2 e3 z1 z2
  generalize ByteArray.mk (Qt.quote ⟨(Qt.got s).toArray⟩).toArray = Y at E3 ⊢
  by_cases hy : Y = s
  · subst hy
    rw [if_pos rfl] at E3
    have HE := Lib.hid E3; clear E3
    go_wp2
    go_ret2
    exact ⟨by rw [HE.out]; rfl, on hb1 hb2⟩
  · rw [if_neg hy] at E3
    have HE := Lib.hid E3; clear E3
    have hyy := Qt.ne_list hy
    clear hy
    go_wp2
    go_ret2
    exact ⟨by rw [HE.out]; rfl, on hb1 hb2⟩
end Go.Proofs.Ytgnjbbedeeiemaa
