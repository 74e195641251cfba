/- Rows of strings: what they read as, append to a row of the call's own, rows that came in; one step of a line's parts. -/
import Derived.Test.YtgnjbbedeeiemaaQtWord
import Derived.SliceStrings
import Derived.Maps.AppendAt
namespace Go.Proofs.Ytgnjbbedeeiemaa
open Go.RowKit

/-- The slice value v reads as the strings ls. -/
def ReadsS (w : World) (v : Value) (ls : List ByteArray) : Prop :=
  ∃ (ao : Option Addr) (cap : Nat), v = .slice ao ls.length cap ∧ ls.length ≤ cap ∧ cap ≤ maxLen ∧ (ao = none → cap = 0) ∧ ∀ x, ao = some x → ∀ j s, ls[j]? = some s → w.cell? (x.add j) = some (.string s)
/-- A row of strings of the call's own. -/
def OwnsS (w : World) (base : Nat) (E : TypeId) (v : Value) (ls : List ByteArray) : Prop := w.ownsRow base E 1 v ls.length (ls.map Value.string)

theorem OwnsS.empty (w : World) (base : Nat) (E : TypeId) : OwnsS w base E (.slice none 0 0) [] := World.ownsRow_nil _ _ _ _
theorem OwnsS.reads {w : World} {base : Nat} {E : TypeId} {v : Value} {ls : List ByteArray} (h : OwnsS w base E v ls) : ReadsS w v ls := by
  rcases h.2 with ⟨rfl, h0⟩ | ⟨g, cap, cur, rfl, hb, hg, hc, hm, _, _⟩
  · exact ⟨none, 0, by rw [h0], by omega, by simp [maxLen], fun _ => rfl, (fun x hx => by cases hx)⟩
  · refine ⟨_, cap, rfl, hc, hm, (fun h => by cases h), fun x hx j s hs => ?_⟩
    cases hx
    exact World.ownsRow.cells h (g := g) rfl j _ (by rw [List.getElem?_map, hs]; rfl)
theorem ReadsS.below {w w' : World} {v : Value} {ls : List ByteArray} (h : ReadsS w v ls) (hb : Below w.heap.size w w') : ReadsS w' v ls := by
  obtain ⟨ao, cap, rfl, h1, h2, h3, h4⟩ := h
  refine ⟨ao, cap, rfl, h1, h2, h3, fun x hx j u hu => ?_⟩
  have hc := h4 x hx j u hu
  rw [← hc]
  exact hb.cell (World.block_lt_of_cell? w _ hc)
theorem ReadsS.shape {w : World} {v : Value} {ls : List ByteArray} (h : ReadsS w v ls) : ∃ ao cap, v = .slice ao ls.length cap := by
  obtain ⟨ao, cap, rfl, _⟩ := h; exact ⟨ao, cap, rfl⟩
/-- Where there is a string: the address is a place in a block of cells. -/
theorem ReadsS.place {w : World} {ao : Option Addr} {n cap : Nat} {ls : List ByteArray} (h : ReadsS w (.slice ao n cap) ls) (hl : 0 < ls.length) :
    ∃ b off, ao = some ⟨b, off, none⟩ ∧ n = ls.length ∧ ls.length ≤ cap ∧ cap ≤ maxLen ∧ b < w.heap.size ∧ ∀ j s, ls[j]? = some s → w.cell? ⟨b, off + j, none⟩ = some (.string s) := by
  obtain ⟨ao', cap', hv, h1, h2, h3, h4⟩ := h
  simp only [Value.slice.injEq] at hv
  obtain ⟨rfl, rfl, rfl⟩ := hv
  cases ao with
  | none => exact absurd (h3 rfl) (by omega)
  | some x =>
    obtain ⟨b, off, spot⟩ := x
    have hc := h4 _ rfl 0 _ (List.getElem?_eq_getElem hl)
    have hspot : spot = none := by simpa [Addr.add] using World.cell?_spot hc
    subst hspot
    refine ⟨b, off, rfl, rfl, h1, h2, ?_, fun j c hj => ?_⟩
    · have := World.block_lt_of_cell? w _ hc
      rwa [Addr.add_lit] at this
    · have := h4 _ rfl j _ hj
      rwa [Addr.add_lit] at this

/-- append(l, u), u laid just now. -/
theorem append_string {P : Program} {w : World} {ops : Array Oper} {rest : List Oper} {o : Oper} {a : Act} {Q : Exit → Act → World → Prop} (hgd : o.guard = none) (s x : Operand) (t E : TypeId)
    (ho : o.op = .call { callee := .builtin .append, args := #[s, x], argTypes := #[t, t] }) (ht : P.underlying t = some (.slice E))
    (hi : (P.info? E).map (fun i => (i.zero, i.size, i.bytes)) = some (some (.string ⟨#[]⟩), 1, 16))
    (base : Nat) (ls : List ByteArray) (u : ByteArray) (v : Value) (hs : a.eval s = v) (hx : a.eval x = .slice (some ⟨w.heap.size, 0, none⟩) 1 1) (hown : OwnsS w base E v ls)
    (hlen : ls.length ≤ 1000000000000) (hbase : base ≤ w.heap.size)
    (h : ∀ v' w', OwnsS w' base E v' (ls ++ [u]) → (w.alloc (.cells #[.string u] E)).grownBy w' v.ownBlock → wpList P ops Q rest (a.put o.dst v') w') : wpList P ops Q (o :: rest) a (w.alloc (.cells #[.string u] E)) := by
  obtain ⟨i, h1, h2, h3, h4⟩ := info_parts hi
  refine wpList_append_own _ hgd s x t ho base E i (.string ⟨#[]⟩) 1 16 ht h1 h2 h3 h4 rfl (by decide) v ls.length (ls.map Value.string) hs (World.ownsRow.alloc hown _) ⟨w.heap.size, 0, none⟩ 1 1 [.string u] hx rfl (cell_one_new _ _ _) (by simp [Value.oneCell']) (by unfold maxLen; omega) (by omega) (by simp; omega) fun v' w' h5 h6 _ => ?_
  refine h v' w' ?_ h6
  unfold OwnsS
  rw [List.length_append, List.map_append]
  exact h5

theorem strs_small {H : Type} (P : Program) (e : TypeId) : ∀ (ss : List ByteArray), (DataW.weightsAll (H := H) P e (ChangeShapes.strs ss)).all (· ≤ reachBytes) = true → ∀ s ∈ ss, s.size ≤ reachBytes := by
  intro ss
  induction ss with
  | nil => intro _ s hs; cases hs
  | cons x ss ih =>
    intro h s hs
    have h' : ((x.data.toList.length :: []) ++ DataW.weightsAll (H := H) P e (ChangeShapes.strs ss)).all (· ≤ reachBytes) = true := h
    rw [List.all_append, Bool.and_eq_true] at h'
    rcases List.mem_cons.1 hs with rfl | hs
    · have := h'.1
      simp only [List.all_cons, List.all_nil, Bool.and_true, decide_eq_true_eq] at this
      exact this
    · exact ih h'.2 s hs
/-- A slice of strings that came in: none is longer than what the form reaches. -/
theorem came_strings {H : Type} {enc : TypeId × Value → H} {P : Program} {w : World} {b0 base : Nat} {held : Bool} {t e : TypeId} {v : Value} {d : DataW H} {p : List MemPlace} (ht : P.underlying t = some (.slice e)) (he : P.underlying e = some .string) (hc : P.cellsOf e = 1)
    (hv : Value.okWide P w .any b0 t v) (h : DataW.Trod enc P w base (fun _ => true) held t v d p) (hw : (d.weights P t).all (· ≤ reachBytes) = true) : ∃ ls, ReadsS w v ls ∧ ∀ s ∈ ls, s.size ≤ reachBytes := by
  obtain ⟨a, len, cap, rfl⟩ := WideShapes.okWide_slice ht hv
  obtain ⟨fuel, hf⟩ := h
  rcases ChangeShapes.open_strings ht he hc hf with ⟨hcs, _⟩ | ⟨x, l, c, ss, hcs, _, hl, hm, hz, hx, hcell, _⟩
  · simp [Value.cells] at hcs
    obtain ⟨rfl, rfl, rfl⟩ := hcs
    exact ⟨[], ⟨none, 0, rfl, by simp, by simp [maxLen], fun _ => rfl, (fun x hx => by cases hx)⟩, fun s hs => by cases hs⟩
  · simp [Value.cells] at hcs
    obtain ⟨rfl, rfl, rfl⟩ := hcs
    have e1 : (ss.take len).length = len := by
      rw [List.length_take]; split at hz <;> omega
    refine ⟨ss.take len, ⟨some x, cap, by rw [e1], by omega, hm, (fun h => by cases h), fun y hy j u hu => ?_⟩, ?_⟩
    · cases hy
      have hj : j < len := by have := (List.getElem?_eq_some_iff.1 hu).1; omega
      rw [List.getElem?_take, if_pos hj] at hu
      have hjs := (List.getElem?_eq_some_iff.1 hu).1
      rw [hcell j hjs, List.getD_eq_getElem?_getD, hu]; rfl
    · obtain ⟨rfl, _⟩ := Prod.mk.inj hx
      simp only [DataW.weights, ht, List.all_cons, List.all_append, Bool.and_eq_true] at hw
      exact strs_small P e _ hw.2.1

theorem info_str : (Try.prog.info? 9).map (fun i => (i.zero, i.size, i.bytes)) = some (some (.string ⟨#[]⟩), 1, 16) := by kernel_rfl

namespace Qt
open Rn
theorem cur_next (s : List UInt8) (p q d : Nat) (h : p ≤ q) : (s.drop p).take (q - p) ++ (s.drop q).take d = (s.drop p).take (q + d - p) := by
  rw [show q + d - p = (q - p) + d by omega, List.take_add, List.drop_drop, show p + (q - p) = q by omega]
theorem cur_nil (s : ByteArray) (p q : Nat) (h : p ≤ q) (hq : q < s.size) : (s.data.toList.drop p).take (q - p) = [] ↔ q = p := by
  have hl : s.data.toList.length = s.size := rfl
  constructor
  · intro h1
    have := congrArg List.length h1
    rw [List.length_take, List.length_drop, hl, List.length_nil] at this
    omega
  · rintro rfl; simp
/-- A rune's bytes behind the first, where nothing is escaped. -/
theorem sp_rune (s : ByteArray) (p q : Nat) (bq : Bool) (l : List (List UInt8)) (hpq : p ≤ q) (hq : q < s.size) :
    sp (s.data.toList.drop (q + 1)) ((s.data.toList.drop p).take (q - p) ++ [s.get! q]) bq false l = sp (s.data.toList.drop (q + (Utf8.decode s q).2)) ((s.data.toList.drop p).take (q + (Utf8.decode s q).2 - p)) bq false l := by
  have hw1 := Rn.width_pos s q
  have hw2 := Rn.width_le s q hq
  obtain ⟨d, hd⟩ : ∃ d, d = (Utf8.decode s q).2 := ⟨_, rfl⟩
  have hin := fun j h1 h2 => (Rn.inner_high s q j h1 h2).2
  rw [← hd] at hw1 hw2 hin ⊢
  have e1 : s.data.toList.drop (q + 1) = (s.data.toList.drop (q + 1)).take (d - 1) ++ s.data.toList.drop (q + d) := by
    have e0 : s.data.toList.drop (q + d) = (s.data.toList.drop (q + 1)).drop (d - 1) := by
      rw [List.drop_drop, show q + 1 + (d - 1) = q + d by omega]
    rw [e0]
    exact (List.take_append_drop _ _).symm
  rw [e1, sp_high]
  · congr 1
    rw [← cur_next _ p q d hpq, drop_eq s q hq, show d = (d - 1) + 1 by omega, List.take_succ_cons]
    simp
  · rw [take_get s (q + 1) (d - 1) (by omega)]
    intro c hc
    obtain ⟨k, hk, rfl⟩ := List.mem_map.1 hc
    rw [List.mem_range] at hk
    exact hin (q + 1 + k) (by omega) (by omega)
theorem cur_one (s : ByteArray) (p q : Nat) (hpq : p ≤ q) (hq : q < s.size) : (s.data.toList.drop p).take (q - p) ++ [s.get! q] = (s.data.toList.drop p).take (q + 1 - p) := by
  rw [← cur_next _ p q 1 hpq, drop_eq s q hq]; rfl
/-- The place q of a line: what is to come. -/
def spAt (s : ByteArray) (q p : Nat) (bq be : Bool) (l : List (List UInt8)) : List (List UInt8) := sp (s.data.toList.drop q) ((s.data.toList.drop p).take (q - p)) bq be l
theorem spAt_es (s : ByteArray) (q p : Nat) (bq : Bool) (l : List (List UInt8)) (hpq : p ≤ q) (hq : q < s.size) : spAt s q p bq true l = spAt s (q + (Utf8.decode s q).2) p bq false l := by
  unfold spAt
  rw [drop_eq s q hq]
  simp only [sp]
  rw [if_pos trivial]
  exact sp_rune s p q bq l hpq hq
theorem spAt_back (s : ByteArray) (q p : Nat) (bq : Bool) (l : List (List UInt8)) (hpq : p ≤ q) (hq : q < s.size) (hc : byteAt s q = 92) : spAt s q p bq false l = spAt s (q + 1) p bq bq l := by
  unfold spAt
  have e : (s.get! q).toNat = byteAt s q := rfl
  rw [drop_eq s q hq]
  simp only [sp]
  rw [if_neg (by simp), if_pos (by rw [e, hc]), cur_one s p q hpq hq]
theorem spAt_quote (s : ByteArray) (q p : Nat) (bq : Bool) (l : List (List UInt8)) (hpq : p ≤ q) (hq : q < s.size) (hc : byteAt s q = 34) (hb : bq = true ∨ q = p) : spAt s q p bq false l = spAt s (q + 1) p (!bq) false l := by
  unfold spAt
  have e : (s.get! q).toNat = byteAt s q := rfl
  have hcn := cur_nil s p q hpq hq
  rw [drop_eq s q hq]
  simp only [sp]
  rw [if_neg (by simp), if_neg (by rw [e, hc]; decide), if_pos ⟨by rw [e, hc], hb.imp id hcn.2⟩, cur_one s p q hpq hq]
theorem spAt_cut (s : ByteArray) (q p : Nat) (l : List (List UInt8)) (hq : q < s.size) (hc : byteAt s q = 32) : spAt s q p false false l = spAt s (q + 1) (q + 1) false false (l ++ [(s.data.toList.drop p).take (q - p)]) := by
  unfold spAt
  have e : (s.get! q).toNat = byteAt s q := rfl
  rw [drop_eq s q hq]
  simp only [sp]
  rw [if_neg (by simp), if_neg (by rw [e, hc]; decide), if_neg (by rw [e, hc]; simp), if_pos ⟨by rw [e, hc], trivial⟩, Nat.sub_self, List.take_zero]
theorem spAt_rest (s : ByteArray) (q p : Nat) (bq : Bool) (l : List (List UInt8)) (hpq : p ≤ q) (hq : q < s.size) (h1 : (Utf8.decode s q).1 ≠ 92) (h2 : ¬ ((Utf8.decode s q).1 = 34 ∧ (bq = true ∨ q = p))) (h3 : ¬ ((Utf8.decode s q).1 = 32 ∧ bq = false)) : spAt s q p bq false l = spAt s (q + (Utf8.decode s q).2) p bq false l := by
  have e : (s.get! q).toNat = byteAt s q := rfl
  have hcn := cur_nil s p q hpq hq
  have hr : byteAt s q < 128 → (Utf8.decode s q).1 = byteAt s q := fun h => by rw [Rn.low_one s q h]
  have main : spAt s q p bq false l = sp (s.data.toList.drop (q + 1)) ((s.data.toList.drop p).take (q - p) ++ [s.get! q]) bq false l := by
    unfold spAt
    rw [drop_eq s q hq]
    simp only [sp]
    by_cases h128 : byteAt s q < 128
    · rw [hr h128] at h1 h2 h3
      rw [if_neg (by simp), if_neg (by rw [e]; exact h1), if_neg (by rw [e]; exact fun ⟨a, b⟩ => h2 ⟨a, b.imp id hcn.1⟩), if_neg (by rw [e]; exact h3)]
    · rw [if_neg (by simp), if_neg (by rw [e]; omega), if_neg (by rw [e]; omega), if_neg (by rw [e]; omega)]
  rw [main]
  exact sp_rune s p q bq l hpq hq
theorem spAt_end (s : ByteArray) (q p : Nat) (bq be : Bool) (l : List (List UInt8)) (hq : q = s.size) : spAt s q p bq be l = l ++ [s.data.toList.drop p] := by
  have hl : s.data.toList.length = s.size := rfl
  unfold spAt
  rw [List.drop_eq_nil_of_le (by omega)]
  simp only [sp]
  rw [List.take_of_length_le (by rw [List.length_drop]; omega)]
theorem spAt_start (s : ByteArray) : spAt s 0 0 false false [] = split s.data.toList := rfl
end Qt
end Go.Proofs.Ytgnjbbedeeiemaa
