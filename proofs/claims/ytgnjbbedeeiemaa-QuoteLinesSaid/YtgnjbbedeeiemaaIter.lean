/- A range over a string: the iterator's block, in any world. Strings by bytes: loops over runes, plain. No program is spoken of. -/
import Derived.Test.YtgnjbbedeeiemaaRnMath
namespace Go.Proofs.Ytgnjbbedeeiemaa
open Go.RowKit

/-- The iterator has gone on. -/
def iterSet (w : World) (k : Nat) (s : ByteArray) (p : Nat) : World := { w with heap := w.heap.setIfInBounds k (.stringIter s p) }

/-- The iterator over s lies in block k, and stands at p; all below B is as it was in w. -/
structure It (B : Nat) (w w' : World) (k : Nat) (s : ByteArray) (p : Nat) : Prop where
  iter : w'.heap[k]? = some (.stringIter s p)
  below : Below B w w'
  base : B ≤ k

theorem It.lt {B : Nat} {w w' : World} {k : Nat} {s : ByteArray} {p : Nat} (h : It B w w' k s p) : k < w'.heap.size := (Array.getElem?_eq_some_iff.1 h.iter).1
theorem It.new {B : Nat} {w w' : World} (s : ByteArray) (hb : Below B w w') (hB : B ≤ w'.heap.size) : It B w (w'.iter s 0) w'.heap.size s 0 :=
  ⟨World.iter_heap w' s 0, hb.alloc hB _, hB⟩
theorem It.set {B : Nat} {w w' : World} {k : Nat} {s : ByteArray} {p : Nat} (h : It B w w' k s p) (q : Nat) : It B w (iterSet w' k s q) k s q := by
  refine ⟨?_, ⟨h.below.os, h.below.tape, h.below.output, ?_, fun j hj => ?_⟩, h.base⟩
  · show (w'.heap.setIfInBounds k _)[k]? = _
    rw [Array.getElem?_setIfInBounds_self_of_lt h.lt]
  · show w.heap.size ≤ (w'.heap.setIfInBounds k _).size
    rw [Array.size_setIfInBounds]; exact h.below.size
  · show (w'.heap.setIfInBounds k _)[j]? = _
    rw [Array.getElem?_setIfInBounds_ne (by have := h.base; omega)]
    exact h.below.block j hj
theorem It.on {B : Nat} {w w' w'' : World} {k : Nat} {s : ByteArray} {p : Nat} (h : It B w w' k s p) (hb : Below w'.heap.size w' w'') : It B w w'' k s p :=
  ⟨(hb.block k h.lt).trans h.iter, h.below.trans (hb.mono (by have := h.base; have := h.lt; omega)), h.base⟩
theorem It.drew {B : Nat} {w w' : World} {k : Nat} {s : ByteArray} {p : Nat} (h : It B w w' k s p) (n : Nat) : It B w (w'.drewN n) k s p := h.on (drawn w' n)
/-- Other blocks are as they were. -/
theorem iterSet_other (w : World) (k j : Nat) (s : ByteArray) (p : Nat) (h : j ≠ k) : (iterSet w k s p).heap[j]? = w.heap[j]? := by
  show (w.heap.setIfInBounds k _)[j]? = _
  rw [Array.getElem?_setIfInBounds_ne (by omega)]

section
variable {P : Program}
theorem next_at {w : World} {k : Nat} {s : ByteArray} {p : Nat} (hk : w.heap[k]? = some (.stringIter s p)) (h : p < s.size) (ty : TypeId) :
    (Instr.next (.pointer (some ⟨k, 0, none⟩)) true ty).run P w =
      .ok (.tuple #[.bool true, .int .i64 (p : Int), .int .i32 ((Utf8.decode s p).1 : Int)]) (iterSet w k s (p + (Utf8.decode s p).2)) := by
  simp only [Instr.next, getObj, setObj, Sem.run_bind, Sem.run, hk, Result.andThen, h, if_true]
  simp [goInt, iterSet]
theorem next_end {w : World} {k : Nat} {s : ByteArray} {p : Nat} (hk : w.heap[k]? = some (.stringIter s p)) (h : ¬ p < s.size) (ty : TypeId) :
    (Instr.next (.pointer (some ⟨k, 0, none⟩)) true ty).run P w = .ok (.tuple #[.bool false]) w := by
  simp [Instr.next, getObj, Sem.run, hk, h]
end

/-- Where the iterator stands. -/
def stands (k : Nat) (w : World) : Nat := match w.heap[k]? with | some (.stringIter _ p) => p | _ => 0
theorem It.stands {B : Nat} {w w' : World} {k : Nat} {s : ByteArray} {p : Nat} (h : It B w w' k s p) : stands k w' = p := by
  unfold Proofs.Ytgnjbbedeeiemaa.stands; rw [h.iter]

/-- []byte(s): a block of the call's own, that reads as l, and may be stored into. -/
def Made (w : World) (g : Nat) (E : TypeId) (l : List UInt8) : Prop :=
  ∃ (cs : Array Value) (f : Nat), w.heap[g]? = some (.cells cs E (f, f + 1)) ∧ l.length ≤ f ∧ ∀ (j : Nat) (c : UInt8), l[j]? = some c → cs[j]? = some (Value.int .u8 (c.toNat : Int))
theorem Made.cell {w : World} {g : Nat} {E : TypeId} {l : List UInt8} (h : Made w g E l) (j : Nat) (c : UInt8) (hj : l[j]? = some c) : w.cell? ⟨g, j, none⟩ = some (.int .u8 (c.toNat : Int)) := by
  obtain ⟨cs, f, h1, _, h3⟩ := h
  simp [World.cell?, h1, h3 j c hj]
theorem Made.free {w : World} {g : Nat} {E : TypeId} {l : List UInt8} (h : Made w g E l) (j : Nat) (hj : j < l.length) : w.frozen? ⟨g, j, none⟩ = false := by
  obtain ⟨cs, f, h1, h2, _⟩ := h
  simp [World.frozen?, h1]
  omega
theorem Made.lt {w : World} {g : Nat} {E : TypeId} {l : List UInt8} (h : Made w g E l) : g < w.heap.size := by
  obtain ⟨cs, f, h1, _⟩ := h
  exact (Array.getElem?_eq_some_iff.1 h1).1
theorem Made.store {w : World} {g : Nat} {E : TypeId} {l : List UInt8} (h : Made w g E l) (j : Nat) (c : UInt8) (x : Int) (hx : x = (c.toNat : Int)) : Made (w.setCell ⟨g, j, none⟩ (.int .u8 x)) g E (l.set j c) := by
  subst hx
  obtain ⟨cs, f, h1, h2, h3⟩ := h
  refine ⟨cs.setIfInBounds j (.int .u8 (c.toNat : Int)), f, ?_, by simpa using h2, fun i d hd => ?_⟩
  · obtain ⟨hlt, hk⟩ := Array.getElem?_eq_some_iff.1 h1
    show (w.heap.modify g _)[g]? = _
    rw [Array.getElem?_eq_getElem (by rw [Array.size_modify]; exact hlt), Array.getElem_modify_self, hk]
    rfl
  · rw [List.getElem?_set] at hd
    by_cases e : j = i
    · subst e
      rw [if_pos rfl] at hd
      split at hd
      · rename_i hj
        have := h3 j _ (List.getElem?_eq_getElem hj)
        have hjc := (Array.getElem?_eq_some_iff.1 this).1
        simp only [Option.some.injEq] at hd
        subst hd
        rw [Array.getElem?_setIfInBounds_self_of_lt hjc]
      · cases hd
    · rw [if_neg e] at hd
      rw [Array.getElem?_setIfInBounds_ne e]
      exact h3 i d hd
theorem Made.same {w w' : World} {g : Nat} {E : TypeId} {l : List UInt8} (h : Made w g E l) (he : w'.heap[g]? = w.heap[g]?) : Made w' g E l := by
  obtain ⟨cs, f, h1, h2, h3⟩ := h
  exact ⟨cs, f, he.trans h1, h2, h3⟩
theorem Made.reads {w : World} {g : Nat} {E : TypeId} {l : List UInt8} (h : Made w g E l) (cap : Nat) (h1 : l.length ≤ cap) (h2 : cap ≤ maxLen) : Reads w (.slice (some ⟨g, 0, none⟩) l.length cap) l := by
  refine ⟨_, cap, rfl, h1, h2, (fun h => by cases h), fun x hx j u hu => ?_⟩
  cases hx
  simp only [cellsOf, List.getElem?_map] at hu
  cases hc : l[j]? with
  | none => rw [hc] at hu; cases hu
  | some c =>
    rw [hc] at hu
    cases hu
    rw [Addr.add_lit, Nat.zero_add]
    exact h.cell j c hc
theorem It.store {B : Nat} {w w' : World} {k : Nat} {s : ByteArray} {p : Nat} (h : It B w w' k s p) (g j : Nat) (v : Value) (hg : B ≤ g) (hk : g ≠ k) : It B w (w'.setCell ⟨g, j, none⟩ v) k s p :=
  ⟨(Below.heap_setCell _ _ _ k (by simpa using fun e => hk e.symm)).trans h.iter,
    ⟨h.below.os, h.below.tape, h.below.output, by show w.heap.size ≤ (w'.heap.modify g _).size; rw [Array.size_modify]; exact h.below.size, fun i hi => (Below.heap_setCell _ _ _ i (by simp; omega)).trans (h.below.block i hi)⟩, h.base⟩

namespace Rn

def badFrom (s : ByteArray) : Nat → Nat → Int
  | 0, _ => -1
  | b + 1, i => if i < s.size then (if isBad s i then (i : Int) else badFrom s b (i + (Utf8.decode s i).2)) else -1
def badAt (s : ByteArray) (i : Nat) : Int := badFrom s (s.size - i) i
def bad (s : ByteArray) : Int := badFrom s s.size 0

theorem badFrom_any (s : ByteArray) : ∀ (b b' i : Nat), s.size - i ≤ b → s.size - i ≤ b' → badFrom s b i = badFrom s b' i := by
  intro b
  induction b with
  | zero =>
    intro b' i h h'
    cases b' with
    | zero => rfl
    | succ b' => simp only [badFrom]; rw [if_neg (by omega)]
  | succ b ih =>
    intro b' i h h'
    cases b' with
    | zero => simp only [badFrom]; rw [if_neg (by omega)]
    | succ b' =>
      simp only [badFrom]
      have := width_pos s i
      rw [ih b' (i + (Utf8.decode s i).2) (by omega) (by omega)]
theorem badAt_eq (s : ByteArray) (i : Nat) (h : i < s.size) : badAt s i = if isBad s i then (i : Int) else badAt s (i + (Utf8.decode s i).2) := by
  unfold badAt
  obtain ⟨b, hb⟩ : ∃ b, s.size - i = b + 1 := ⟨s.size - i - 1, by omega⟩
  have := width_pos s i
  rw [hb]
  simp only [badFrom]
  rw [if_pos h, badFrom_any s b (s.size - (i + (Utf8.decode s i).2)) _ (by omega) (by omega)]
theorem badAt_end (s : ByteArray) (i : Nat) (h : ¬ i < s.size) : badAt s i = -1 := by
  unfold badAt; rw [show s.size - i = 0 by omega]; rfl
theorem bad_range (s : ByteArray) : ∀ (b i : Nat), i ≤ s.size → -1 ≤ badFrom s b i ∧ badFrom s b i ≤ (s.size : Int) := by
  intro b
  induction b with
  | zero => intro i _; simp [badFrom]
  | succ b ih =>
    intro i hi
    simp only [badFrom]
    split
    · rename_i h
      split
      · omega
      · exact ih _ (width_le s i h)
    · omega

def allFrom (p : Int → Bool) (s : ByteArray) : Nat → Nat → Bool
  | 0, _ => true
  | b + 1, i => if i < s.size then p ((Utf8.decode s i).1 : Int) && allFrom p s b (i + (Utf8.decode s i).2) else true
def allAt (p : Int → Bool) (s : ByteArray) (i : Nat) : Bool := allFrom p s (s.size - i) i
def all (p : Int → Bool) (s : ByteArray) : Bool := allFrom p s s.size 0
theorem allFrom_any (p : Int → Bool) (s : ByteArray) : ∀ (b b' i : Nat), s.size - i ≤ b → s.size - i ≤ b' → allFrom p s b i = allFrom p s b' i := by
  intro b
  induction b with
  | zero =>
    intro b' i h h'
    cases b' with
    | zero => rfl
    | succ b' => simp only [allFrom]; rw [if_neg (by omega)]
  | succ b ih =>
    intro b' i h h'
    cases b' with
    | zero => simp only [allFrom]; rw [if_neg (by omega)]
    | succ b' =>
      simp only [allFrom]
      have := width_pos s i
      rw [ih b' (i + (Utf8.decode s i).2) (by omega) (by omega)]
theorem allAt_eq (p : Int → Bool) (s : ByteArray) (i : Nat) (h : i < s.size) : allAt p s i = (p ((Utf8.decode s i).1 : Int) && allAt p s (i + (Utf8.decode s i).2)) := by
  unfold allAt
  obtain ⟨b, hb⟩ : ∃ b, s.size - i = b + 1 := ⟨s.size - i - 1, by omega⟩
  have := width_pos s i
  rw [hb]
  simp only [allFrom]
  rw [if_pos h, allFrom_any p s b (s.size - (i + (Utf8.decode s i).2)) _ (by omega) (by omega)]
theorem allAt_end (p : Int → Bool) (s : ByteArray) (i : Nat) (h : ¬ i < s.size) : allAt p s i = true := by
  unfold allAt; rw [show s.size - i = 0 by omega]; rfl

/-- At most n runes on from i: where that leads, and how many there were. -/
def steps (s : ByteArray) : Nat → Nat → Nat × Nat
  | 0, i => (i, 0)
  | n + 1, i => if i < s.size then ((steps s n (i + (Utf8.decode s i).2)).1, (steps s n (i + (Utf8.decode s i).2)).2 + 1) else (i, 0)
theorem steps_succ (s : ByteArray) (n i : Nat) (h : i < s.size) : steps s (n + 1) i = ((steps s n (i + (Utf8.decode s i).2)).1, (steps s n (i + (Utf8.decode s i).2)).2 + 1) := by
  simp only [steps]; rw [if_pos h]
theorem steps_end (s : ByteArray) (n i : Nat) (h : ¬ i < s.size) : steps s n i = (i, 0) := by
  cases n with
  | zero => rfl
  | succ n => simp only [steps]; rw [if_neg h]
theorem steps_le (s : ByteArray) : ∀ (n i : Nat), i ≤ s.size → (steps s n i).1 ≤ s.size ∧ i + (steps s n i).2 ≤ (steps s n i).1 ∧ (steps s n i).2 ≤ n := by
  intro n
  induction n with
  | zero => intro i h; exact ⟨h, Nat.le_refl _, Nat.le_refl _⟩
  | succ n ih =>
    intro i h
    by_cases hi : i < s.size
    · rw [steps_succ s n i hi]
      have h1 := width_le s i hi
      have h2 := width_pos s i
      have := ih _ h1
      exact ⟨this.1, by simp only; omega, by simp only; omega⟩
    · rw [steps_end s (n + 1) i hi]; exact ⟨h, Nat.le_refl _, Nat.zero_le _⟩
theorem steps_any (s : ByteArray) : ∀ (n m i : Nat), s.size - i ≤ n → s.size - i ≤ m → steps s n i = steps s m i := by
  intro n
  induction n with
  | zero => intro m i h _; rw [steps_end s _ i (by omega), steps_end s _ i (by omega)]
  | succ n ih =>
    intro m i h h'
    by_cases hi : i < s.size
    · cases m with
      | zero => omega
      | succ m =>
        have := width_pos s i
        rw [steps_succ s n i hi, steps_succ s m i hi, ih m _ (by omega) (by omega)]
    · rw [steps_end s _ i hi, steps_end s _ i hi]
theorem steps_whole (s : ByteArray) : ∀ (n i : Nat), s.size - i ≤ n → i ≤ s.size → (steps s n i).1 = s.size := by
  intro n
  induction n with
  | zero => intro i h hi; rw [steps_end s _ i (by omega)]; show i = _; omega
  | succ n ih =>
    intro i h hi
    by_cases hlt : i < s.size
    · have := width_pos s i
      rw [steps_succ s n i hlt]
      exact ih _ (by omega) (width_le s i hlt)
    · rw [steps_end s _ i hlt]; show i = _; omega
def count (s : ByteArray) : Nat := (steps s s.size 0).2
def cut (s : ByteArray) (n : Int) : ByteArray := s.extract 0 (steps s n.toNat 0).1

/-- A byte with small letters. -/
def lowB (c : UInt8) : UInt8 := if 65 ≤ c.toNat ∧ c.toNat ≤ 90 then UInt8.ofNat (c.toNat + 32) else c
def lowTo (l : List UInt8) (p : Nat) : List UInt8 := (l.take p).map lowB ++ l.drop p
theorem lowTo_len (l : List UInt8) (p : Nat) : (lowTo l p).length = l.length := by simp [lowTo]; omega
theorem lowTo_at (l : List UInt8) (p j : Nat) : (lowTo l p)[j]? = (l[j]?).map (fun c => if j < p then lowB c else c) := by
  unfold lowTo
  by_cases h : j < p
  · by_cases hl : j < l.length
    · rw [List.getElem?_append_left (by simp; omega)]
      simp [h]
    · rw [List.getElem?_eq_none (by simp; omega), List.getElem?_eq_none (by omega)]; rfl
  · by_cases hl : j < l.length
    · rw [List.getElem?_append_right (by simp; omega)]
      simp only [List.length_map, List.length_take, List.getElem?_drop]
      rw [show p + (j - min p l.length) = j by omega]
      simp [h]
    · rw [List.getElem?_eq_none (by simp; omega), List.getElem?_eq_none (by omega)]; rfl
theorem lowTo_skip (l : List UInt8) (p q : Nat) (hpq : p ≤ q) (h : ∀ j, p ≤ j → j < q → ∀ c, l[j]? = some c → lowB c = c) : lowTo l q = lowTo l p := by
  apply List.ext_getElem?
  intro j
  rw [lowTo_at, lowTo_at]
  cases hc : l[j]? with
  | none => rfl
  | some c =>
    simp only [Option.map_some, Option.some.injEq]
    by_cases h1 : j < p
    · rw [if_pos h1, if_pos (by omega)]
    · by_cases h2 : j < q
      · rw [if_pos h2, if_neg h1]; exact h j (by omega) h2 c hc
      · rw [if_neg h1, if_neg h2]
theorem lowTo_set (l : List UInt8) (p : Nat) (c : UInt8) (h : l[p]? = some c) : (lowTo l p).set p (lowB c) = lowTo l (p + 1) := by
  apply List.ext_getElem?
  intro j
  rw [lowTo_at, List.getElem?_set, lowTo_at]
  have hp : p < l.length := (List.getElem?_eq_some_iff.1 h).1
  by_cases e : p = j
  · subst e
    rw [if_pos rfl, if_pos (by rw [lowTo_len]; exact hp), h]
    simp
  · rw [if_neg e]
    cases hc : l[j]? with
    | none => rfl
    | some d =>
      simp only [Option.map_some, Option.some.injEq]
      by_cases h1 : j < p
      · rw [if_pos h1, if_pos (by omega)]
      · rw [if_neg h1, if_neg (by omega)]
theorem lowTo_zero (l : List UInt8) : lowTo l 0 = l := by simp [lowTo]
theorem lowTo_all (l : List UInt8) (p : Nat) (h : l.length ≤ p) : lowTo l p = l.map lowB := by
  unfold lowTo; rw [List.take_of_length_le h, List.drop_eq_nil_of_le h, List.append_nil]
def lower (s : List UInt8) : List UInt8 := s.map lowB
theorem lowB_nat (c : UInt8) : (lowB c).toNat = if 65 ≤ c.toNat ∧ c.toNat ≤ 90 then c.toNat + 32 else c.toNat := by
  unfold lowB
  split
  · rw [UInt8.toNat_ofNat']; omega
  · rfl
theorem lowB_twice (c : UInt8) : lowB (lowB c) = lowB c := by
  have h := lowB_nat c
  apply UInt8.toNat_inj.1
  rw [lowB_nat (lowB c), if_neg]
  intro hc
  split at h <;> omega
theorem lower_twice (s : List UInt8) : lower (lower s) = lower s := by
  unfold lower; rw [List.map_map]; exact List.map_congr_left fun c _ => lowB_twice c
theorem lowB_high (c : UInt8) (h : ¬ (65 ≤ c.toNat ∧ c.toNat ≤ 90)) : lowB c = c := by unfold lowB; rw [if_neg h]

end Rn
end Go.Proofs.Ytgnjbbedeeiemaa
