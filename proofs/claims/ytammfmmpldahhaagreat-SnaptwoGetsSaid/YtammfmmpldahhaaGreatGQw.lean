/- Several texts of mine in one: QtLeaf QtRef QtQuote QtPlain QtUnq QtRefU QtWord QtStrs QtParts QtLine. -/
import Derived.Test.YtammfmmpldahhaaGreatGQm
import Derived.Test.YtammfmmpldahhaaGreatApp
import Derived.Test.YtammfmmpldahhaaGreatShelf
import Derived.WalkLawsBesides
import Derived.Laws.BitsAllLaws
import Derived.SliceStrings
import Derived.Maps.AppendAt
namespace Go.Proofs.YtammfmmpldahhaaGreat
open Go.RowKit

theorem info_byteQ : (Tryz.prog.info? 5).map (fun i => (i.zero, i.size, i.bytes)) = some (some (.int .u8 0), 1, 1) := by kernel_rfl

end Go.Proofs.YtammfmmpldahhaaGreat


namespace Go.Proofs.YtammfmmpldahhaaGreat
open Go.RowKit

theorem run_hex (w : World) (j : Nat) (h : j < 16) :
    (Instr.slice 9 (.string ⟨#[48, 49, 50, 51, 52, 53, 54, 55, 56, 57, 97, 98, 99, 100, 101, 102]⟩) (some (.int .u8 (j : Int))) (some (.int .u8 ((j : Int) + 1))) none).run Tryz.prog w = .ok (.string ⟨#[Qt.hex j]⟩) w := by
  rw [run_slice_string w 9 _ _ _ _ _ Tryz.underlying9 (by omega) (by omega) (by show (j : Int) + 1 ≤ ((16 : Nat) : Int); omega)]
  congr 2
  have : ∀ j : Fin 16, (⟨#[48, 49, 50, 51, 52, 53, 54, 55, 56, 57, 97, 98, 99, 100, 101, 102]⟩ : ByteArray).extract (j.1 : Int).toNat ((j.1 : Int) + 1).toNat = ⟨#[Qt.hex j.1]⟩ := by decide
  exact this ⟨j, h⟩
theorem run_cut (s : ByteArray) (q e : Nat) (z : Int) (hz : z = (e : Int)) (h1 : q ≤ e) (h2 : e ≤ s.size) (w : World) :
    (Instr.slice 9 (.string s) (some (.int .i64 (q : Int))) (some (.int .i64 z)) none).run Tryz.prog w = .ok (.string (s.extract q e)) w := by
  subst hz
  rw [run_slice_string w 9 _ _ _ _ _ Tryz.underlying9 (by omega) (by omega) (by omega)]
  rw [Int.toNat_natCast, Int.toNat_natCast]
theorem Qt.ext_list (s : ByteArray) (i j : Nat) : (s.extract i j).data.toList = (s.data.toList.drop i).take (j - i) := by
  simp only [ByteArray.data_extract, Array.toList_extract, List.extract_eq_take_drop]
theorem Qt.app_list (a b : ByteArray) : (a ++ b).data.toList = a.data.toList ++ b.data.toList := by simp

end Go.Proofs.YtammfmmpldahhaaGreat


namespace Go.Proofs.YtammfmmpldahhaaGreat
open Go.RowKit

theorem Qt.acc_len (s : ByteArray) (l : List UInt8) (q : Nat) (h : l ++ Qt.bodyAt s q = 34 :: Qt.bodyAt s 0) : l.length ≤ 4 * s.size + 1 := by
  have h1 := congrArg List.length h
  have h2 := Qt.bodyAt_len s 0
  simp at h1
  omega

theorem Qt.digit_at (k : Nat) (hk : k < 16) : ∀ h, ((ByteArray.mk #[48, 49, 50, 51, 52, 53, 54, 55, 56, 57, 97, 98, 99, 100, 101, 102])[k]'h).toNat = (Qt.hex k).toNat := by
  have h : ∀ k : Fin 16, ∀ h, ((ByteArray.mk #[48, 49, 50, 51, 52, 53, 54, 55, 56, 57, 97, 98, 99, 100, 101, 102])[k.val]'h).toNat = (Qt.hex k.val).toNat := by decide
  exact h ⟨k, hk⟩
theorem Qt.and15 (n : Nat) (h : n < 256) : bits .and .u8 (n : Int) 15 = ((n % 16 : Nat) : Int) := by
  have h0 : ∀ n : Fin 256, bits .and .u8 (n.val : Int) 15 = ((n.val % 16 : Nat) : Int) := by decide +kernel
  exact h0 ⟨n, h⟩

end Go.Proofs.YtammfmmpldahhaaGreat


namespace Go.Proofs.YtammfmmpldahhaaGreat
open Go.RowKit

theorem Qt.enc_len (r : Nat) : (Lib.encodeRune (r : Int)).length ≤ 4 := by
  unfold Lib.encodeRune
  rw [List.length_map]
  exact (Lib.encodeRuneZ_length _).2
theorem Qt.wrap8 (n : Int) : IntKind.u8.wrap n = n % 256 := by simp [IntKind.wrap, IntKind.signed, IntKind.bits]
theorem Qt.hv_lt (c : UInt8) : Qt.hv c < 256 := by unfold Qt.hv; omega

end Go.Proofs.YtammfmmpldahhaaGreat


namespace Go.Proofs.YtammfmmpldahhaaGreat
open Go.RowKit

namespace Qt
theorem plFrom_len (s : ByteArray) : ∀ (b i k : Nat) (out : List UInt8), (plFrom s b i k out).length ≤ out.length + 4 * b := by
  intro b
  induction b with
  | zero => intro i k out; simp [plFrom]
  | succ b ih =>
    intro i k out
    simp only [plFrom]
    split
    · split
      · have := ih (i + (Utf8.decode s i).2) (k + 1) out; omega
      · split
        · have := ih (i + (Utf8.decode s i).2) 0 (out ++ [mix (s.get! (i - 1)) (s.get! i)])
          simp at this; omega
        · have := ih (i + (Utf8.decode s i).2) 0 (out ++ Lib.encodeRune ((Utf8.decode s i).1 : Int))
          have h2 := enc_len (Utf8.decode s i).1
          rw [List.length_append] at this; omega
    · omega
theorem trimmed_len (s : ByteArray) : (trimmed s).length ≤ s.size := by
  have h0 : s.data.toList.length = s.size := rfl
  have h1 : (Lib.trimSuffix s.data.toList [34]).length ≤ s.size := by
    unfold Lib.trimSuffix
    split
    · rw [List.length_take]; omega
    · omega
  unfold trimmed
  generalize Lib.trimSuffix s.data.toList [34] = t at h1 ⊢
  unfold Lib.trimPrefix
  split
  · rw [List.length_drop]; omega
  · exact h1
theorem got_len (s : ByteArray) : (got s).length ≤ 4 * s.size := by
  have h1 := plFrom_len ⟨(trimmed s).toArray⟩ ((ByteArray.mk (trimmed s).toArray).size - 0) 0 0 []
  have h2 := trimmed_len s
  have h3 : (ByteArray.mk (trimmed s).toArray).size = (trimmed s).length := by simp [ByteArray.size]
  rw [h3] at h1
  unfold got pl plAt
  rw [h3]
  simp at h1 ⊢
  omega
theorem ne_list {s t : ByteArray} (h : ¬ s = t) : (s.toList == t.toList) = false := by
  rw [beq_eq_false_iff_ne]
  intro e
  rw [ByteArray.toList_eq, ByteArray.toList_eq] at e
  exact h (same_list e)
/-- What Unquote tells. -/
def told (s : ByteArray) : Value := match unq s with
  | some o => .tuple #[.string ⟨o.toArray⟩, .int .i64 0]
  | none => .tuple #[.string ⟨#[]⟩, .int .i64 3]
end Qt

end Go.Proofs.YtammfmmpldahhaaGreat


namespace Go.Proofs.YtammfmmpldahhaaGreat
open Go.RowKit

/-- What the document's Unquote tells. -/
def RefGot (w : World) (s : ByteArray) (e : Ending) (w' : World) : Prop :=
  ∃ (X : ByteArray) (b : Bool), e = .returned (.tuple #[.string X, .bool b]) ∧ Below w.heap.size w w' ∧ (if b = true then Qt.unq s = some X.data.toList else Qt.unq s = none)

theorem Qt.unq_none {s : ByteArray} (h : Qt.rd s = none) : Qt.unq s = none := by
  rw [← Qt.unq_same]; unfold Qt.refUnq; rw [h]
theorem Qt.unq_of {s : ByteArray} {o : List UInt8} (h : Qt.rd s = some o) : Qt.unq s = if (ByteArray.mk (Qt.quote ⟨o.toArray⟩).toArray) = s then some o else none := by
  rw [← Qt.unq_same]; unfold Qt.refUnq; rw [h]
  simp only
  by_cases h2 : Qt.quote ⟨o.toArray⟩ = s.data.toList
  · rw [if_pos h2, if_pos]
    exact Qt.same_list (by rw [Qt.back]; exact h2)
  · rw [if_neg h2, if_neg]
    intro h'
    exact h2 ((Qt.back _).symm.trans (congrArg (fun t : ByteArray => t.data.toList) h'))
theorem Qt.val_le (c : UInt8) : Qt.val c ≤ 15 := by
  unfold Qt.val
  split
  · omega
  · split <;> omega

end Go.Proofs.YtammfmmpldahhaaGreat


namespace Go.Proofs.YtammfmmpldahhaaGreat
open Go.RowKit

namespace Qt
/-- All runes above 32 from i on. -/
theorem bare_all (s : ByteArray) : ∀ (b i : Nat), s.size - i ≤ b → (Rn.allFrom (fun r => decide (32 < r)) s b i = true ↔ ∀ j, i ≤ j → j < s.size → 32 < Rn.byteAt s j) := by
  intro b
  induction b with
  | zero => intro i h; simp only [Rn.allFrom, true_iff]; intro j h1 h2; omega
  | succ b ih =>
    intro i h
    simp only [Rn.allFrom]
    by_cases hi : i < s.size
    · rw [if_pos hi, Bool.and_eq_true]
      have hw := Rn.width_pos s i
      have hw2 := Rn.width_le s i hi
      rw [ih (i + (Utf8.decode s i).2) (by omega)]
      by_cases h128 : Rn.byteAt s i < 128
      · rw [Rn.low_one s i h128]
        constructor
        · rintro ⟨h1, h2⟩ j hj1 hj2
          by_cases e : j = i
          · subst e
            simp at h1; omega
          · exact h2 j (by simp only; omega) hj2
        · intro h1
          have := h1 i (Nat.le_refl _) hi
          exact ⟨by simp; omega, fun j hj1 hj2 => h1 j (by simp only at hj1; omega) hj2⟩
      · have hh := Rn.high_high s i (by omega)
        constructor
        · rintro ⟨h1, h2⟩ j hj1 hj2
          by_cases e : j < i + (Utf8.decode s i).2
          · by_cases e2 : j = i
            · subst e2; omega
            · have := (Rn.inner_high s i j (by omega) e).2; omega
          · exact h2 j (by omega) hj2
        · intro h1
          exact ⟨by simp; omega, fun j hj1 hj2 => h1 j (by omega) hj2⟩
    · rw [if_neg hi]; simp only [true_iff]; intro j h1 h2; omega
theorem bare_bytes (s : ByteArray) : bare s.data.toList = true ↔ ∀ j, j < s.size → 32 < Rn.byteAt s j := by
  unfold bare
  rw [List.all_eq_true]
  constructor
  · intro h j hj
    have h1 := Rn.list_at s j hj
    have := h _ (List.mem_of_getElem? h1)
    exact of_decide_eq_true this
  · intro h c hc
    obtain ⟨j, hj, rfl⟩ := List.mem_iff_getElem.1 hc
    have hj' : j < s.size := hj
    have h1 := Rn.list_at s j hj'
    rw [List.getElem?_eq_getElem hj] at h1
    rw [Option.some.inj h1]
    exact decide_eq_true (h j hj')
def above (r : Int) : Bool := decide (32 < r)
theorem bare_eq (s : ByteArray) : bare s.data.toList = Rn.all above s := by
  rw [Bool.eq_iff_iff, bare_bytes]
  unfold Rn.all
  rw [show above = fun r => decide (32 < r) from rfl, bare_all s s.size 0 (by omega)]
  exact ⟨fun h j _ hj => h j hj, fun h j hj => h j (Nat.zero_le _) hj⟩
theorem empty_eq (s : ByteArray) : s.toList.isEmpty = decide (s.size = 0) := by
  rw [ByteArray.toList_eq, Bool.eq_iff_iff, List.isEmpty_iff_length_eq_zero, decide_eq_true_eq]
  exact Iff.rfl
theorem pre_quote (s : ByteArray) : Rn.pre s ⟨#[34]⟩ = (decide (0 < s.size) && (Rn.byteAt s 0 == 34)) := by
  unfold Rn.pre
  have hz : (ByteArray.mk #[34]).size = 1 := rfl
  rw [hz]
  by_cases h : 0 < s.size
  · have e : (s.extract 0 1).toList = [s.get! 0] := by
      rw [ByteArray.toList_eq, ext_list, drop_eq s 0 h]; rfl
    have e2 : (ByteArray.mk #[34]).toList = [34] := ByteArray.toList_mk [34]
    rw [e, e2, Bool.eq_iff_iff]
    have e3 : (s.get! 0).toNat = Rn.byteAt s 0 := rfl
    simp only [Bool.and_eq_true, decide_eq_true_eq, beq_iff_eq, List.cons.injEq, and_true, ← UInt8.toNat_inj, e3]
    constructor
    · rintro ⟨_, h2⟩; exact ⟨h, h2⟩
    · rintro ⟨_, h2⟩; exact ⟨by omega, h2⟩
  · simp [show ¬ 1 ≤ s.size by omega, h]
end Qt

end Go.Proofs.YtammfmmpldahhaaGreat


namespace Go.Proofs.YtammfmmpldahhaaGreat
open Go.RowKit

/-- The slice value v reads as the strings ls. -/
def ReadsS (w : World) (v : Value) (ls : List ByteArray) : Prop :=
  ∃ (ao : Option Addr) (cap : Nat), v = .slice ao ls.length cap ∧ ls.length ≤ cap ∧ cap ≤ maxLen ∧ (ao = none → cap = 0) ∧ ∀ x, ao = some x → ∀ j s, ls[j]? = some s → w.cell? (x.add j) = some (.string s)
/-- A row of strings of the call's own. -/
def OwnsS (w : World) (base : Nat) (E : TypeId) (v : Value) (ls : List ByteArray) : Prop := w.ownsRow base E 1 v ls.length (ls.map Value.string)

theorem OwnsS.empty (w : World) (base : Nat) (E : TypeId) : OwnsS w base E (.slice none 0 0) [] := World.ownsRow_nil _ _ _ _
theorem OwnsS.reads {w : World} {base : Nat} {E : TypeId} {v : Value} {ls : List ByteArray} (h : OwnsS w base E v ls) : ReadsS w v ls := by
  rcases h.2 with ⟨rfl, h0⟩ | ⟨g, cap, cur, rfl, hb, hg, hc, hm, _, _⟩
  · exact ⟨none, 0, by rw [h0], by omega, by simp [maxLen], fun _ => rfl, (fun x hx => by cases hx)⟩
  · refine ⟨_, cap, rfl, hc, hm, (fun h => by cases h), fun x hx j s hs => ?_⟩
    cases hx
    exact World.ownsRow.cells h (g := g) rfl j _ (by rw [List.getElem?_map, hs]; rfl)
theorem ReadsS.below {w w' : World} {v : Value} {ls : List ByteArray} (h : ReadsS w v ls) (hb : Below w.heap.size w w') : ReadsS w' v ls := by
  obtain ⟨ao, cap, rfl, h1, h2, h3, h4⟩ := h
  refine ⟨ao, cap, rfl, h1, h2, h3, fun x hx j u hu => ?_⟩
  have hc := h4 x hx j u hu
  rw [← hc]
  exact hb.cell (World.block_lt_of_cell? w _ hc)
theorem ReadsS.shape {w : World} {v : Value} {ls : List ByteArray} (h : ReadsS w v ls) : ∃ ao cap, v = .slice ao ls.length cap := by
  obtain ⟨ao, cap, rfl, _⟩ := h; exact ⟨ao, cap, rfl⟩
/-- Where there is a string: the address is a place in a block of cells. -/
theorem ReadsS.place {w : World} {ao : Option Addr} {n cap : Nat} {ls : List ByteArray} (h : ReadsS w (.slice ao n cap) ls) (hl : 0 < ls.length) :
    ∃ b off, ao = some ⟨b, off, none⟩ ∧ n = ls.length ∧ ls.length ≤ cap ∧ cap ≤ maxLen ∧ b < w.heap.size ∧ ∀ j s, ls[j]? = some s → w.cell? ⟨b, off + j, none⟩ = some (.string s) := by
  obtain ⟨ao', cap', hv, h1, h2, h3, h4⟩ := h
  simp only [Value.slice.injEq] at hv
  obtain ⟨rfl, rfl, rfl⟩ := hv
  cases ao with
  | none => exact absurd (h3 rfl) (by omega)
  | some x =>
    obtain ⟨b, off, spot⟩ := x
    have hc := h4 _ rfl 0 _ (List.getElem?_eq_getElem hl)
    have hspot : spot = none := by simpa [Addr.add] using World.cell?_spot hc
    subst hspot
    refine ⟨b, off, rfl, rfl, h1, h2, ?_, fun j c hj => ?_⟩
    · have := World.block_lt_of_cell? w _ hc
      rwa [Addr.add_lit] at this
    · have := h4 _ rfl j _ hj
      rwa [Addr.add_lit] at this

/-- append(l, u), u laid just now. -/
theorem append_string {P : Program} {w : World} {ops : Array Oper} {rest : List Oper} {o : Oper} {a : Act} {Q : Exit → Act → World → Prop} (hgd : o.guard = none) (s x : Operand) (t E : TypeId)
    (ho : o.op = .call { callee := .builtin .append, args := #[s, x], argTypes := #[t, t] }) (ht : P.underlying t = some (.slice E))
    (hi : (P.info? E).map (fun i => (i.zero, i.size, i.bytes)) = some (some (.string ⟨#[]⟩), 1, 16))
    (base : Nat) (ls : List ByteArray) (u : ByteArray) (v : Value) (hs : a.eval s = v) (hx : a.eval x = .slice (some ⟨w.heap.size, 0, none⟩) 1 1) (hown : OwnsS w base E v ls)
    (hlen : ls.length ≤ 1000000000000) (hbase : base ≤ w.heap.size)
    (h : ∀ v' w', OwnsS w' base E v' (ls ++ [u]) → (w.alloc (.cells #[.string u] E)).grownBy w' v.ownBlock → wpList P ops Q rest (a.put o.dst v') w') : wpList P ops Q (o :: rest) a (w.alloc (.cells #[.string u] E)) := by
  obtain ⟨i, h1, h2, h3, h4⟩ := info_parts hi
  refine wpList_append_own _ hgd s x t ho base E i (.string ⟨#[]⟩) 1 16 ht h1 h2 h3 h4 rfl (by decide) v ls.length (ls.map Value.string) hs (World.ownsRow.alloc hown _) ⟨w.heap.size, 0, none⟩ 1 1 [.string u] hx rfl (cell_one_new _ _ _) (by simp [Value.oneCell']) (by unfold maxLen; omega) (by omega) (by simp; omega) fun v' w' h5 h6 _ => ?_
  refine h v' w' ?_ h6
  unfold OwnsS
  rw [List.length_append, List.map_append]
  exact h5

theorem strs_small {H : Type} (P : Program) (e : TypeId) : ∀ (ss : List ByteArray), (DataW.weightsAll (H := H) P e (ChangeShapes.strs ss)).all (· ≤ reachBytes) = true → ∀ s ∈ ss, s.size ≤ reachBytes := by
  intro ss
  induction ss with
  | nil => intro _ s hs; cases hs
  | cons x ss ih =>
    intro h s hs
    have h' : ((x.data.toList.length :: []) ++ DataW.weightsAll (H := H) P e (ChangeShapes.strs ss)).all (· ≤ reachBytes) = true := h
    rw [List.all_append, Bool.and_eq_true] at h'
    rcases List.mem_cons.1 hs with rfl | hs
    · have := h'.1
      simp only [List.all_cons, List.all_nil, Bool.and_true, decide_eq_true_eq] at this
      exact this
    · exact ih h'.2 s hs
/-- A slice of strings that came in: none is longer than what the form reaches. -/
theorem came_strings {H : Type} {enc : TypeId × Value → H} {P : Program} {w : World} {b0 base : Nat} {held : Bool} {t e : TypeId} {v : Value} {d : DataW H} {p : List MemPlace} (ht : P.underlying t = some (.slice e)) (he : P.underlying e = some .string) (hc : P.cellsOf e = 1)
    (hv : Value.okWide P w .any b0 t v) (h : DataW.Trod enc P w base (fun _ => true) held t v d p) (hw : (d.weights P t).all (· ≤ reachBytes) = true) : ∃ ls, ReadsS w v ls ∧ ∀ s ∈ ls, s.size ≤ reachBytes := by
  obtain ⟨a, len, cap, rfl⟩ := WideShapes.okWide_slice ht hv
  obtain ⟨fuel, hf⟩ := h
  rcases ChangeShapes.open_strings ht he hc hf with ⟨hcs, _⟩ | ⟨x, l, c, ss, hcs, _, hl, hm, hz, hx, hcell, _⟩
  · simp [Value.cells] at hcs
    obtain ⟨rfl, rfl, rfl⟩ := hcs
    exact ⟨[], ⟨none, 0, rfl, by simp, by simp [maxLen], fun _ => rfl, (fun x hx => by cases hx)⟩, fun s hs => by cases hs⟩
  · simp [Value.cells] at hcs
    obtain ⟨rfl, rfl, rfl⟩ := hcs
    have e1 : (ss.take len).length = len := by
      rw [List.length_take]; split at hz <;> omega
    refine ⟨ss.take len, ⟨some x, cap, by rw [e1], by omega, hm, (fun h => by cases h), fun y hy j u hu => ?_⟩, ?_⟩
    · cases hy
      have hj : j < len := by have := (List.getElem?_eq_some_iff.1 hu).1; omega
      rw [List.getElem?_take, if_pos hj] at hu
      have hjs := (List.getElem?_eq_some_iff.1 hu).1
      rw [hcell j hjs, List.getD_eq_getElem?_getD, hu]; rfl
    · obtain ⟨rfl, _⟩ := Prod.mk.inj hx
      simp only [DataW.weights, ht, List.all_cons, List.all_append, Bool.and_eq_true] at hw
      exact strs_small P e _ hw.2.1

theorem info_str : (Tryz.prog.info? 9).map (fun i => (i.zero, i.size, i.bytes)) = some (some (.string ⟨#[]⟩), 1, 16) := by kernel_rfl

namespace Qt
open Rn
theorem cur_next (s : List UInt8) (p q d : Nat) (h : p ≤ q) : (s.drop p).take (q - p) ++ (s.drop q).take d = (s.drop p).take (q + d - p) := by
  rw [show q + d - p = (q - p) + d by omega, List.take_add, List.drop_drop, show p + (q - p) = q by omega]
theorem cur_nil (s : ByteArray) (p q : Nat) (h : p ≤ q) (hq : q < s.size) : (s.data.toList.drop p).take (q - p) = [] ↔ q = p := by
  have hl : s.data.toList.length = s.size := rfl
  constructor
  · intro h1
    have := congrArg List.length h1
    rw [List.length_take, List.length_drop, hl, List.length_nil] at this
    omega
  · rintro rfl; simp
/-- A rune's bytes behind the first, where nothing is escaped. -/
theorem sp_rune (s : ByteArray) (p q : Nat) (bq : Bool) (l : List (List UInt8)) (hpq : p ≤ q) (hq : q < s.size) :
    sp (s.data.toList.drop (q + 1)) ((s.data.toList.drop p).take (q - p) ++ [s.get! q]) bq false l = sp (s.data.toList.drop (q + (Utf8.decode s q).2)) ((s.data.toList.drop p).take (q + (Utf8.decode s q).2 - p)) bq false l := by
  have hw1 := Rn.width_pos s q
  have hw2 := Rn.width_le s q hq
  obtain ⟨d, hd⟩ : ∃ d, d = (Utf8.decode s q).2 := ⟨_, rfl⟩
  have hin := fun j h1 h2 => (Rn.inner_high s q j h1 h2).2
  rw [← hd] at hw1 hw2 hin ⊢
  have e1 : s.data.toList.drop (q + 1) = (s.data.toList.drop (q + 1)).take (d - 1) ++ s.data.toList.drop (q + d) := by
    have e0 : s.data.toList.drop (q + d) = (s.data.toList.drop (q + 1)).drop (d - 1) := by
      rw [List.drop_drop, show q + 1 + (d - 1) = q + d by omega]
    rw [e0]
    exact (List.take_append_drop _ _).symm
  rw [e1, sp_high]
  · congr 1
    rw [← cur_next _ p q d hpq, drop_eq s q hq, show d = (d - 1) + 1 by omega, List.take_succ_cons]
    simp
  · rw [take_get s (q + 1) (d - 1) (by omega)]
    intro c hc
    obtain ⟨k, hk, rfl⟩ := List.mem_map.1 hc
    rw [List.mem_range] at hk
    exact hin (q + 1 + k) (by omega) (by omega)
theorem cur_one (s : ByteArray) (p q : Nat) (hpq : p ≤ q) (hq : q < s.size) : (s.data.toList.drop p).take (q - p) ++ [s.get! q] = (s.data.toList.drop p).take (q + 1 - p) := by
  rw [← cur_next _ p q 1 hpq, drop_eq s q hq]; rfl
/-- The place q of a line: what is to come. -/
def spAt (s : ByteArray) (q p : Nat) (bq be : Bool) (l : List (List UInt8)) : List (List UInt8) := sp (s.data.toList.drop q) ((s.data.toList.drop p).take (q - p)) bq be l
theorem spAt_es (s : ByteArray) (q p : Nat) (bq : Bool) (l : List (List UInt8)) (hpq : p ≤ q) (hq : q < s.size) : spAt s q p bq true l = spAt s (q + (Utf8.decode s q).2) p bq false l := by
  unfold spAt
  rw [drop_eq s q hq]
  simp only [sp]
  rw [if_pos trivial]
  exact sp_rune s p q bq l hpq hq
theorem spAt_back (s : ByteArray) (q p : Nat) (bq : Bool) (l : List (List UInt8)) (hpq : p ≤ q) (hq : q < s.size) (hc : byteAt s q = 92) : spAt s q p bq false l = spAt s (q + 1) p bq bq l := by
  unfold spAt
  have e : (s.get! q).toNat = byteAt s q := rfl
  rw [drop_eq s q hq]
  simp only [sp]
  rw [if_neg (by simp), if_pos (by rw [e, hc]), cur_one s p q hpq hq]
theorem spAt_quote (s : ByteArray) (q p : Nat) (bq : Bool) (l : List (List UInt8)) (hpq : p ≤ q) (hq : q < s.size) (hc : byteAt s q = 34) (hb : bq = true ∨ q = p) : spAt s q p bq false l = spAt s (q + 1) p (!bq) false l := by
  unfold spAt
  have e : (s.get! q).toNat = byteAt s q := rfl
  have hcn := cur_nil s p q hpq hq
  rw [drop_eq s q hq]
  simp only [sp]
  rw [if_neg (by simp), if_neg (by rw [e, hc]; decide), if_pos ⟨by rw [e, hc], hb.imp id hcn.2⟩, cur_one s p q hpq hq]
theorem spAt_cut (s : ByteArray) (q p : Nat) (l : List (List UInt8)) (hq : q < s.size) (hc : byteAt s q = 32) : spAt s q p false false l = spAt s (q + 1) (q + 1) false false (l ++ [(s.data.toList.drop p).take (q - p)]) := by
  unfold spAt
  have e : (s.get! q).toNat = byteAt s q := rfl
  rw [drop_eq s q hq]
  simp only [sp]
  rw [if_neg (by simp), if_neg (by rw [e, hc]; decide), if_neg (by rw [e, hc]; simp), if_pos ⟨by rw [e, hc], trivial⟩, Nat.sub_self, List.take_zero]
theorem spAt_rest (s : ByteArray) (q p : Nat) (bq : Bool) (l : List (List UInt8)) (hpq : p ≤ q) (hq : q < s.size) (h1 : (Utf8.decode s q).1 ≠ 92) (h2 : ¬ ((Utf8.decode s q).1 = 34 ∧ (bq = true ∨ q = p))) (h3 : ¬ ((Utf8.decode s q).1 = 32 ∧ bq = false)) : spAt s q p bq false l = spAt s (q + (Utf8.decode s q).2) p bq false l := by
  have e : (s.get! q).toNat = byteAt s q := rfl
  have hcn := cur_nil s p q hpq hq
  have hr : byteAt s q < 128 → (Utf8.decode s q).1 = byteAt s q := fun h => by rw [Rn.low_one s q h]
  have main : spAt s q p bq false l = sp (s.data.toList.drop (q + 1)) ((s.data.toList.drop p).take (q - p) ++ [s.get! q]) bq false l := by
    unfold spAt
    rw [drop_eq s q hq]
    simp only [sp]
    by_cases h128 : byteAt s q < 128
    · rw [hr h128] at h1 h2 h3
      rw [if_neg (by simp), if_neg (by rw [e]; exact h1), if_neg (by rw [e]; exact fun ⟨a, b⟩ => h2 ⟨a, b.imp id hcn.1⟩), if_neg (by rw [e]; exact h3)]
    · rw [if_neg (by simp), if_neg (by rw [e]; omega), if_neg (by rw [e]; omega), if_neg (by rw [e]; omega)]
  rw [main]
  exact sp_rune s p q bq l hpq hq
theorem spAt_end (s : ByteArray) (q p : Nat) (bq be : Bool) (l : List (List UInt8)) (hq : q = s.size) : spAt s q p bq be l = l ++ [s.data.toList.drop p] := by
  have hl : s.data.toList.length = s.size := rfl
  unfold spAt
  rw [List.drop_eq_nil_of_le (by omega)]
  simp only [sp]
  rw [List.take_of_length_le (by rw [List.length_drop]; omega)]
theorem spAt_start (s : ByteArray) : spAt s 0 0 false false [] = split s.data.toList := rfl
end Qt
end Go.Proofs.YtammfmmpldahhaaGreat


namespace Go.Proofs.YtammfmmpldahhaaGreat
open Go.RowKit

/-- A row of strings that is made. -/
def MakesS (w : World) (E : TypeId) (ls : List (List UInt8)) (e : Ending) (w' : World) : Prop :=
  ∃ v us, e = .returned v ∧ OwnsS w' w.heap.size E v us ∧ us.map (·.data.toList) = ls ∧ Below w.heap.size w w'

theorem run_rest (s : ByteArray) (q : Nat) (h : q ≤ s.size) (w : World) :
    (Instr.slice 9 (.string s) (some (.int .i64 (q : Int))) none none).run Tryz.prog w = .ok (.string (s.extract q s.size)) w := by
  have := run_slice_string_l (P := Tryz.prog) w 9 s Tryz.underlying9 .i64 (q : Int) (by omega) (by omega)
  rw [Int.toNat_natCast] at this
  exact this

end Go.Proofs.YtammfmmpldahhaaGreat


namespace Go.Proofs.YtammfmmpldahhaaGreat
open Go.RowKit

namespace Qt
theorem mem_join (sep : List UInt8) : ∀ (l : List (List UInt8)) (x : List UInt8), x ∈ l → x.length ≤ (Lib.join l sep).length := by
  intro l x hx
  cases l with
  | nil => cases hx
  | cons y r =>
    rw [Lib.join_cons, List.length_append]
    rcases List.mem_cons.1 hx with rfl | h
    · omega
    · have : ∀ (r : List (List UInt8)), x ∈ r → x.length ≤ (Lib.joinTail sep r).length := by
        intro r
        induction r with
        | nil => intro h; cases h
        | cons z r ih =>
          intro h
          rw [Lib.joinTail_length, Lib.lens, List.map_cons, List.sum_cons]
          rcases List.mem_cons.1 h with rfl | h
          · omega
          · have := ih h
            rw [Lib.joinTail_length, Lib.lens] at this
            simp only [List.length_cons]
            have h2 : sep.length * r.length ≤ sep.length * (r.length + 1) := Nat.mul_le_mul_left _ (by omega)
            omega
      have := this r h
      omega
theorem sp_some : ∀ (r cur : List UInt8) (qd es : Bool) (l : List (List UInt8)), 1 ≤ (sp r cur qd es l).length := by
  intro r
  induction r with
  | nil => intro cur qd es l; simp [sp]
  | cons c r ih =>
    intro cur qd es l
    simp only [sp]
    repeat' split
    all_goals exact ih _ _ _ _
/-- The words of a line, and whether it is one. -/
def words (s : ByteArray) : List (List UInt8) := if s.size = 0 then [] else split s.data.toList
def lineOk (s : ByteArray) : Bool := (words s).all fun l => word ⟨l.toArray⟩
end Qt

/-- What Words tells. -/
def WordsGot (w : World) (s : ByteArray) (e : Ending) (w' : World) : Prop :=
  Below w.heap.size w w' ∧ (if Qt.lineOk s = true then ∃ v us, e = .returned (.tuple #[v, .int .i64 0]) ∧ ReadsS w' v us ∧ us.map (·.data.toList) = Qt.words s else e = .returned (.tuple #[.slice none 0 0, .int .i64 3]))

theorem Qt.word_of (u : ByteArray) : Qt.word ⟨u.data.toList.toArray⟩ = Qt.word u := by
  congr 1

end Go.Proofs.YtammfmmpldahhaaGreat
