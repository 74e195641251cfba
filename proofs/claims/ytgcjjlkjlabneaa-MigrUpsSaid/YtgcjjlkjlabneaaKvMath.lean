/- Pairs, plain: the order of strings, which pairs may be, where a key stands, what a command does. No program is spoken of. -/
import Derived.Test.YtgcjjlkjlabneaaCmdOne
import Derived.Test.YtgcjjlkjlabneaaAnsOne
import Derived.Test.YtgcjjlkjlabneaaGRune
namespace Go.Proofs.Ytgcjjlkjlabneaa

/-- A pair. -/
structure Kv.Item where
  key : List UInt8
  val : List UInt8
  rev : Int
  deriving DecidableEq
namespace Kv

def zero : Item := ⟨[], [], 0⟩
def cells (p : Item) : Array Value := #[.string ⟨p.key.toArray⟩, .string ⟨p.val.toArray⟩, .int .i64 p.rev]

/-! The order of strings. -/
theorem less_eq : ∀ (x y : List UInt8), Op.bytesLess x y = decide (x < y)
  | [], [] => by simp [Op.bytesLess]
  | _ :: _, [] => by simp [Op.bytesLess]
  | [], _ :: _ => by simp [Op.bytesLess]
  | a :: x, b :: y => by
    rw [Op.bytesLess, less_eq x y]
    simp only [List.cons_lt_cons_iff]
    by_cases h1 : a < b <;> by_cases h2 : a = b <;> by_cases h3 : x < y <;> simp [h1, h2, h3]
theorem irr (a : List UInt8) : ¬ a < a := List.lt_irrefl a
theorem tr {a b c : List UInt8} (h1 : a < b) (h2 : b < c) : a < c := List.lt_trans h1 h2
theorem asy {a b : List UInt8} (h1 : a < b) : ¬ b < a := fun h2 => irr a (tr h1 h2)
theorem ne_of {a b : List UInt8} (h1 : a < b) : a ≠ b := fun h => irr b (by rw [h] at h1; exact h1)
theorem eq_of {a b : List UInt8} (h : ¬ a < b) (h2 : ¬ b < a) : a = b := List.le_antisymm h2 h
theorem nil_lt {a : List UInt8} (h : a ≠ []) : [] < a := by
  cases a with
  | nil => exact absurd rfl h
  | cons x r => exact List.nil_lt_cons _ _
theorem le_eq (x y : List UInt8) : (Op.bytesLess x y || x == y) = !decide (y < x) := by
  rw [less_eq]
  by_cases h1 : x < y
  · simp [h1, asy h1]
  · by_cases h2 : y < x
    · simp [h1, h2, (ne_of h2).symm]
    · simp [eq_of h1 h2, irr]
/-- cmp.Compare at strings: -1, 0, 1. -/
def cmp (x y : List UInt8) : Int := if x < y then -1 else if y < x then 1 else 0
theorem cmp_neg (x y : List UInt8) : cmp x y < 0 ↔ x < y := by
  unfold cmp
  by_cases h1 : x < y
  · simp [h1]
  · by_cases h2 : y < x <;> simp [h1, h2]
theorem cmp_zero (x y : List UInt8) : cmp x y = 0 ↔ x = y := by
  unfold cmp
  by_cases h1 : x < y
  · simp [h1, ne_of h1]
  · by_cases h2 : y < x
    · simp [h1, h2, (ne_of h2).symm]
    · simp [eq_of h1 h2, irr]

/-! Where a key stands. -/
def Asc (l : List Item) : Prop := l.Pairwise fun a b => a.key < b.key
instance (l : List Item) : Decidable (Asc l) := inferInstanceAs (Decidable (l.Pairwise fun a b => a.key < b.key))
def rises (l : List Item) : Bool := decide (Asc l)
def is (x : List UInt8) (p : Item) : Bool := decide (p.key = x)
def look (l : List Item) (x : List UInt8) : Option Item := l.find? (is x)
/-- The place that is told. -/
def ix (l : List Item) (x : List UInt8) : Int := if l.findIdx (is x) < l.length then (l.findIdx (is x) : Int) else -1
def below (l : List Item) (x : List UInt8) : Nat := l.countP fun p => decide (p.key < x)
def found (l : List Item) (x : List UInt8) : Bool := (l[below l x]?).any fun p => decide (p.key = x)
def upto (l : List Item) (x : List UInt8) : Nat := below l x + (if found l x then 1 else 0)
def find (l : List Item) (x : List UInt8) : Item := if found l x then (l[below l x]?).getD zero else zero
/-- Others in the place of the one with the key. -/
def swap (b : List Item) (l : List Item) (x : List UInt8) : List Item := l.take (below l x) ++ b ++ l.drop (upto l x)

theorem below_le (l : List Item) (x : List UInt8) : below l x ≤ l.length := List.countP_le_length
theorem below_less {a : Item} {x : List UInt8} (r : List Item) (h : a.key < x) : below (a :: r) x = below r x + 1 := by
  unfold below
  rw [List.countP_cons_of_pos (by simpa using h)]
theorem below_none {a : Item} {x : List UInt8} {r : List Item} (hp : Asc (a :: r)) (h : ¬ a.key < x) : below (a :: r) x = 0 := by
  unfold below
  rw [List.countP_cons_of_neg (by simpa using h), List.countP_eq_zero]
  intro e he
  have := (List.pairwise_cons.1 hp).1 e he
  exact fun hc => h (tr this (of_decide_eq_true hc))
theorem found_less {a : Item} {x : List UInt8} (r : List Item) (h : a.key < x) : found (a :: r) x = found r x := by
  unfold found
  rw [below_less r h, List.getElem?_cons_succ]
theorem found_none {a : Item} {x : List UInt8} {r : List Item} (hp : Asc (a :: r)) (h : ¬ a.key < x) : found (a :: r) x = decide (a.key = x) := by
  unfold found
  rw [below_none hp h]
  simp
theorem upto_less {a : Item} {x : List UInt8} (r : List Item) (h : a.key < x) : upto (a :: r) x = upto r x + 1 := by
  unfold upto
  rw [below_less r h, found_less r h]
  omega
theorem upto_same {a : Item} {x : List UInt8} {r : List Item} (hp : Asc (a :: r)) (h : a.key = x) : upto (a :: r) x = 1 := by
  unfold upto
  have hn : ¬ a.key < x := by rw [h]; exact irr x
  rw [below_none hp hn, found_none hp hn, decide_eq_true h]
  rfl
theorem upto_more {a : Item} {x : List UInt8} {r : List Item} (hp : Asc (a :: r)) (h : x < a.key) : upto (a :: r) x = 0 := by
  unfold upto
  rw [below_none hp (asy h), found_none hp (asy h), decide_eq_false (ne_of h).symm]
  rfl
theorem below_iff : ∀ (l : List Item) (x : List UInt8), Asc l → ∀ (k : Nat) (e : Item), l[k]? = some e → (e.key < x ↔ k < below l x)
  | [], x, _, k, e, h => by simp at h
  | a :: r, x, hp, k, e, h => by
    obtain ⟨h1, h2⟩ := List.pairwise_cons.1 hp
    by_cases ha : a.key < x
    · rw [below_less r ha]
      cases k with
      | zero => simp at h; subst h; exact ⟨fun _ => by omega, fun _ => ha⟩
      | succ k => rw [below_iff r x h2 k e (by simpa using h)]; omega
    · rw [below_none hp ha]
      refine ⟨fun hc => ?_, fun h => by omega⟩
      cases k with
      | zero => simp at h; subst h; exact absurd hc ha
      | succ k => exact absurd (tr (h1 e (List.mem_of_getElem? (show r[k]? = some e by simpa using h))) hc) ha
theorem upto_le (l : List Item) (x : List UInt8) : upto l x ≤ l.length := by
  have hb := below_le l x
  unfold upto
  cases hf : found l x with
  | false => simpa using hb
  | true =>
    unfold found at hf
    cases hk : l[below l x]? with
    | none => rw [hk] at hf; simp at hf
    | some e => have := (List.getElem?_eq_some_iff.1 hk).1; simp; omega
theorem below_upto (l : List Item) (x : List UInt8) : below l x ≤ upto l x := by unfold upto; omega
theorem find_yes {l : List Item} {x : List UInt8} {e : Item} (h : found l x = true) (he : l[below l x]? = some e) : find l x = e := by unfold find; rw [if_pos h, he]; rfl
theorem find_no {l : List Item} {x : List UInt8} (h : found l x = false) : find l x = zero := by unfold find; rw [h]; rfl
theorem found_lt {l : List Item} {x : List UInt8} (h : found l x = true) : below l x < l.length := by
  have := upto_le l x
  unfold upto at this
  rw [if_pos h] at this
  omega

theorem pair_lt {l : List Item} (hp : Asc l) {i j : Nat} {a b : Item} (h : i < j) (ha : l[i]? = some a) (hb : l[j]? = some b) : a.key < b.key := by
  obtain ⟨h1, rfl⟩ := List.getElem?_eq_some_iff.1 ha
  obtain ⟨h2, rfl⟩ := List.getElem?_eq_some_iff.1 hb
  exact List.pairwise_iff_getElem.1 hp i j h1 h2 h
theorem rises_no {l : List Item} {k : Nat} {a b : Item} (ha : l[k]? = some a) (hb : l[k + 1]? = some b) (h : ¬ a.key < b.key) : rises l = false :=
  decide_eq_false fun hp => h (pair_lt hp (Nat.lt_succ_self k) ha hb)
theorem rises_yes {l : List Item} (h : ∀ (k : Nat) (a b : Item), l[k]? = some a → l[k + 1]? = some b → a.key < b.key) : rises l = true := by
  refine decide_eq_true ?_
  unfold Asc
  rw [List.pairwise_iff_getElem]
  have key : ∀ d i (h1 : i < l.length) (h2 : i + d + 1 < l.length), l[i].key < l[i + d + 1].key := by
    intro d
    induction d with
    | zero => intro i h1 h2; exact h i _ _ (List.getElem?_eq_getElem h1) (List.getElem?_eq_getElem h2)
    | succ d ih =>
      intro i h1 h2
      have a := ih i h1 (by omega)
      have b := h (i + d + 1) _ _ (List.getElem?_eq_getElem (by omega)) (List.getElem?_eq_getElem h2)
      exact tr a b
  intro i j hi hj hij
  have := key (j - i - 1) i hi (by omega)
  simpa [show i + (j - i - 1) + 1 = j by omega] using this

/-! The pair with a key. -/
theorem look_cons (a : Item) (r : List Item) (x : List UInt8) : look (a :: r) x = if a.key = x then some a else look r x := by
  unfold look
  rw [List.find?_cons]
  unfold is
  by_cases h : a.key = x <;> simp [h]
theorem look_above {l : List Item} {x : List UInt8} (h : ∀ e ∈ l, x < e.key) : look l x = none := by
  unfold look
  rw [List.find?_eq_none]
  intro e he
  have := (ne_of (h e he)).symm
  simp [is, this]
theorem look_eq : ∀ (l : List Item) (x : List UInt8), Asc l → found l x = (look l x).isSome ∧ find l x = (look l x).getD zero
  | [], x, _ => by simp [found, find, look]
  | a :: r, x, hp => by
    obtain ⟨h1, h2⟩ := List.pairwise_cons.1 hp
    rw [look_cons]
    by_cases ha : a.key < x
    · rw [if_neg (ne_of ha)]
      obtain ⟨e1, e2⟩ := look_eq r x h2
      unfold find at e2 ⊢
      rw [found_less r ha, below_less r ha, List.getElem?_cons_succ]
      exact ⟨e1, e2⟩
    · unfold find
      rw [found_none hp ha, below_none hp ha]
      by_cases hx : a.key = x
      · rw [if_pos hx, decide_eq_true hx]; exact ⟨rfl, rfl⟩
      · have hlt : x < a.key := Classical.byContradiction fun hc => hx (eq_of ha hc)
        rw [if_neg hx, look_above fun e he => tr hlt (h1 e he), decide_eq_false hx]
        exact ⟨rfl, rfl⟩
theorem ix_look (l : List Item) (x : List UInt8) : (ix l x < 0 ∧ look l x = none) ∨ (∃ (k : Nat) (e : Item), ix l x = (k : Int) ∧ l[k]? = some e ∧ look l x = some e) := by
  unfold ix look
  rw [List.find?_eq_getElem?_findIdx]
  by_cases h : l.findIdx (is x) < l.length
  · rw [if_pos h]
    exact .inr ⟨_, _, rfl, List.getElem?_eq_getElem h, List.getElem?_eq_getElem h⟩
  · rw [if_neg h]
    exact .inl ⟨by omega, List.getElem?_eq_none (by omega)⟩
theorem ix_found {l : List Item} {x : List UInt8} {k : Nat} {e : Item} (h : l[k]? = some e) (hp : e.key = x) (hb : ∀ (j : Nat) (d : Item), j < k → l[j]? = some d → d.key ≠ x) : ix l x = (k : Int) := by
  obtain ⟨hk, rfl⟩ := List.getElem?_eq_some_iff.1 h
  have e : l.findIdx (is x) = k := (List.findIdx_eq hk).2 ⟨by simp [is, hp], fun j hj => by simpa [is] using hb j _ hj (List.getElem?_eq_getElem (by omega))⟩
  unfold ix
  rw [e, if_pos hk]
theorem ix_none {l : List Item} {x : List UInt8} (hb : ∀ (j : Nat) (d : Item), l[j]? = some d → d.key ≠ x) : ix l x = -1 := by
  have e : l.findIdx (is x) = l.length := List.findIdx_eq_length.2 fun d hd => by obtain ⟨j, hj⟩ := List.getElem?_of_mem hd; simpa [is] using hb j d hj
  unfold ix
  rw [e, if_neg (Nat.lt_irrefl _)]

/-! Others in the place of one. -/
theorem swap_less {a : Item} {x : List UInt8} (b r : List Item) (h : a.key < x) : swap b (a :: r) x = a :: swap b r x := by
  unfold swap
  rw [below_less r h, upto_less r h]
  rfl
theorem swap_same {a : Item} {x : List UInt8} (b : List Item) {r : List Item} (hp : Asc (a :: r)) (h : a.key = x) : swap b (a :: r) x = b ++ r := by
  unfold swap
  rw [below_none hp (by rw [h]; exact irr x), upto_same hp h]
  rfl
theorem swap_more {a : Item} {x : List UInt8} (b : List Item) {r : List Item} (hp : Asc (a :: r)) (h : x < a.key) : swap b (a :: r) x = b ++ a :: r := by
  unfold swap
  rw [below_none hp (asy h), upto_more hp h]
  rfl
theorem swap_nil (b : List Item) (x : List UInt8) : swap b [] x = b := by simp [swap]
/-- Three ways: the first is less, the same, more. -/
theorem three (x y : List UInt8) : x < y ∨ x = y ∨ y < x := by
  by_cases h1 : x < y
  · exact .inl h1
  · by_cases h2 : y < x
    · exact .inr (.inr h2)
    · exact .inr (.inl (eq_of h1 h2))
theorem swap_mem {b : List Item} {x : List UInt8} {e : Item} (l : List Item) (h : e ∈ swap b l x) : e ∈ b ∨ e ∈ l := by
  unfold swap at h
  rw [List.mem_append, List.mem_append] at h
  rcases h with (h | h) | h
  · exact .inr (List.mem_of_mem_take h)
  · exact .inl h
  · exact .inr (List.mem_of_mem_drop h)
theorem swap_asc {b : List Item} {x : List UInt8} (hb : ∀ e ∈ b, e.key = x) (h1 : b.length ≤ 1) : ∀ l : List Item, Asc l → Asc (swap b l x)
  | [], _ => by
    rw [swap_nil]
    match b, h1 with
    | [], _ => exact List.Pairwise.nil
    | [p], _ => exact List.pairwise_singleton _ _
  | a :: r, hp => by
    obtain ⟨p1, p2⟩ := List.pairwise_cons.1 hp
    rcases three a.key x with h | h | h
    · rw [swap_less b r h]
      refine List.pairwise_cons.2 ⟨fun e he => ?_, swap_asc hb h1 r p2⟩
      rcases swap_mem r he with he | he
      · rw [hb e he]; exact h
      · exact p1 e he
    · rw [swap_same b hp h]
      match b, hb, h1 with
      | [], _, _ => exact p2
      | [p], hb, _ => exact List.pairwise_cons.2 ⟨fun e he => by rw [hb p (by simp), ← h]; exact p1 e he, p2⟩
    · rw [swap_more b hp h]
      match b, hb, h1 with
      | [], _, _ => exact hp
      | [p], hb, _ => exact List.pairwise_cons.2 ⟨fun e he => by
          rw [hb p (by simp)]
          rcases List.mem_cons.1 he with rfl | he
          · exact h
          · exact tr h (p1 e he), hp⟩
theorem look_app (b l : List Item) (x : List UInt8) : look (b ++ l) x = (look b x).or (look l x) := by unfold look; rw [List.find?_append]
theorem look_not {b : List Item} {x y : List UInt8} (hb : ∀ e ∈ b, e.key = x) (h : y ≠ x) : look b y = none := by
  unfold look
  rw [List.find?_eq_none]
  intro e he
  have := hb e he
  simp only [is, decide_eq_true_eq]
  exact fun hc => h (by rw [← hc, this])
/-- Other keys stay. -/
theorem look_other {b : List Item} {x y : List UInt8} (hb : ∀ e ∈ b, e.key = x) (h : y ≠ x) : ∀ l : List Item, Asc l → look (swap b l x) y = look l y
  | [], _ => by rw [swap_nil, look_not hb h]; rfl
  | a :: r, hp => by
    obtain ⟨p1, p2⟩ := List.pairwise_cons.1 hp
    rcases three a.key x with h' | h' | h'
    · rw [swap_less b r h', look_cons, look_cons, look_other hb h r p2]
    · rw [swap_same b hp h', look_app, look_not hb h, look_cons, if_neg (by rw [h']; exact h.symm)]; rfl
    · rw [swap_more b hp h', look_app, look_not hb h]; rfl
/-- The one that took the place is found. -/
theorem look_put {p : Item} {x : List UInt8} (hb : p.key = x) : ∀ l : List Item, Asc l → look (swap [p] l x) x = some p
  | [], _ => by rw [swap_nil, look_cons, if_pos hb]
  | a :: r, hp => by
    obtain ⟨p1, p2⟩ := List.pairwise_cons.1 hp
    rcases three a.key x with h' | h' | h'
    · rw [swap_less _ r h', look_cons, if_neg (ne_of h'), look_put hb r p2]
    · rw [swap_same _ hp h', List.singleton_append, look_cons, if_pos hb]
    · rw [swap_more _ hp h', List.singleton_append, look_cons, if_pos hb]
theorem look_del {x : List UInt8} : ∀ l : List Item, Asc l → look (swap [] l x) x = none
  | [], _ => by rw [swap_nil]; rfl
  | a :: r, hp => by
    obtain ⟨p1, p2⟩ := List.pairwise_cons.1 hp
    rcases three a.key x with h' | h' | h'
    · rw [swap_less _ r h', look_cons, if_neg (ne_of h'), look_del r p2]
    · rw [swap_same _ hp h', List.nil_append]
      exact look_above fun e he => by rw [← h']; exact p1 e he
    · rw [swap_more _ hp h', List.nil_append]
      refine look_above fun e he => ?_
      rcases List.mem_cons.1 he with rfl | he
      · exact h'
      · exact tr h' (p1 e he)
theorem swap_len (b l : List Item) (x : List UInt8) : (swap b l x).length = b.length + l.length - (if found l x then 1 else 0) := by
  have h1 := below_le l x
  have h2 := upto_le l x
  have h3 : upto l x = below l x + (if found l x then 1 else 0) := rfl
  unfold swap
  simp only [List.length_append, List.length_take, List.length_drop]
  omega

/-! Which may be. -/
def valid (p : Item) : Bool := Rn.key ⟨p.key.toArray⟩ && (Rn.val ⟨p.val.toArray⟩ && p.rev == 0)
def check : List UInt8 → List Item → Bool
  | _, [] => true
  | b, p :: r => if b < p.key then (if valid p = false then false else check p.key r) else false
theorem drop_at {l : List Item} {k : Nat} {s : Item} (h : l[k]? = some s) : l.drop k = s :: l.drop (k + 1) := by
  obtain ⟨hk, rfl⟩ := List.getElem?_eq_some_iff.1 h
  exact List.drop_eq_getElem_cons hk
theorem check_step {l : List Item} {k : Nat} {s : Item} (h : l[k]? = some s) (b : List UInt8) : check b (l.drop k) = if b < s.key then (if valid s = false then false else check s.key (l.drop (k + 1))) else false := by rw [drop_at h]; rfl
theorem check_iff : ∀ (l : List Item) (b : List UInt8), check b l = true ↔ (∀ s ∈ l, valid s = true) ∧ Asc l ∧ ∀ s ∈ l, b < s.key
  | [], b => by simp [check, Asc]
  | s :: r, b => by
    have ih := check_iff r s.key
    unfold check
    by_cases h1 : b < s.key
    · rw [if_pos h1]
      by_cases h2 : valid s = false
      · rw [if_pos h2]
        refine ⟨fun h => (by cases h), fun h => ?_⟩
        have := h.1 s (by simp); rw [h2] at this; cases this
      · rw [if_neg h2, ih]
        have h2' : valid s = true := by simpa using h2
        constructor
        · rintro ⟨a, p, q⟩
          refine ⟨fun x hx => ?_, List.pairwise_cons.2 ⟨q, p⟩, fun x hx => ?_⟩
          · rcases List.mem_cons.1 hx with rfl | hx
            · exact h2'
            · exact a x hx
          · rcases List.mem_cons.1 hx with rfl | hx
            · exact h1
            · exact tr h1 (q x hx)
        · rintro ⟨a, p, q⟩
          obtain ⟨p1, p2⟩ := List.pairwise_cons.1 p
          exact ⟨fun x hx => a x (List.mem_cons_of_mem _ hx), p2, p1⟩
    · rw [if_neg h1]
      exact ⟨fun h => (by cases h), fun h => absurd (h.2.2 s (by simp)) h1⟩
theorem valid_key {p : Item} (h : valid p = true) : [] < p.key := by
  refine nil_lt fun hk => ?_
  unfold valid Rn.key at h
  rw [hk] at h
  simp [ByteArray.size] at h
/-- As the document says it. -/
def refCheck (l : List Item) : Bool := if l.all valid = true then (decide (l.length ≤ 64) && rises l) else false
theorem check_ref (l : List Item) (h64 : l.length ≤ 64) : check [] l = refCheck l := by
  rw [Bool.eq_iff_iff, check_iff]
  unfold refCheck rises
  rw [decide_eq_true h64, Bool.true_and]
  by_cases h : l.all valid = true
  · rw [if_pos h]
    have h' := List.all_eq_true.1 h
    exact ⟨fun x => decide_eq_true x.2.1, fun x => ⟨h', of_decide_eq_true x, fun s hs => valid_key (h' s hs)⟩⟩
  · rw [if_neg h]
    exact ⟨fun x => absurd (List.all_eq_true.2 x.1) h, fun x => by cases x⟩
theorem check_long {l : List Item} (h64 : 64 < l.length) : refCheck l = false := by
  unfold refCheck
  rw [decide_eq_false (by omega), Bool.false_and, ite_self]
theorem refCheck_iff (l : List Item) : refCheck l = true ↔ (∀ s ∈ l, valid s = true) ∧ l.length ≤ 64 ∧ Asc l := by
  unfold refCheck rises
  by_cases h : l.all valid = true
  · rw [if_pos h, Bool.and_eq_true, decide_eq_true_eq, decide_eq_true_eq]
    exact ⟨fun x => ⟨List.all_eq_true.1 h, x⟩, fun x => x.2⟩
  · rw [if_neg h]
    exact ⟨fun x => (by cases x), fun x => absurd (List.all_eq_true.2 x.1) h⟩
theorem all_no {l : List Item} {k : Nat} {s : Item} (h : l[k]? = some s) (hv : valid s = false) : refCheck l = false := by
  unfold refCheck
  rw [if_neg]
  intro ha
  rw [List.all_eq_true.1 ha s (List.mem_of_getElem? h)] at hv
  cases hv
theorem all_yes {l : List Item} (h : ∀ (j : Nat) (e : Item), l[j]? = some e → valid e = true) : refCheck l = (decide (l.length ≤ 64) && rises l) := by
  unfold refCheck
  rw [if_pos (List.all_eq_true.2 fun s hs => by obtain ⟨j, hj⟩ := List.getElem?_of_mem hs; exact h j s hj)]

/-! What a command does. -/
def full (l : List Item) (c : Cm.Cmd) : Bool := !found l c.key && decide (64 ≤ l.length)
def next (l : List Item) (c : Cm.Cmd) : Item := ⟨c.key, c.val, (find l c.key).rev⟩
def pairs (l : List Item) (c : Cm.Cmd) : List Item :=
  if c.kind = 2 then (if full l c = true then l else swap [next l c] l c.key) else if c.kind = 4 then swap [] l c.key else l
def told (l : List Item) (c : Cm.Cmd) : An.Ans := ⟨c.client, c.seq, 0, found l c.key, (find l c.key).val, 0⟩
def refused (c : Cm.Cmd) (e : Int) : An.Ans := ⟨c.client, c.seq, e, false, [], 0⟩
def ans (l : List Item) (c : Cm.Cmd) : An.Ans :=
  if c.kind = 2 then (if full l c = true then refused c 11 else told l c) else if c.kind = 3 then told l c else if c.kind = 4 then told l c else refused c 8

theorem pairs_asc {l : List Item} (c : Cm.Cmd) (hp : Asc l) : Asc (pairs l c) := by
  unfold pairs
  split
  · split
    · exact hp
    · exact swap_asc (by simp [next]) (by simp) l hp
  · split
    · exact swap_asc (by simp) (by simp) l hp
    · exact hp
theorem pairs_len (l : List Item) (c : Cm.Cmd) : (pairs l c).length ≤ l.length + 1 := by
  unfold pairs
  split
  · split
    · omega
    · rw [swap_len]; simp; omega
  · split
    · rw [swap_len]; simp; omega
    · omega
theorem pairs_other {l : List Item} (c : Cm.Cmd) (hp : Asc l) {y : List UInt8} (h : y ≠ c.key) : look (pairs l c) y = look l y := by
  unfold pairs
  split
  · split
    · rfl
    · exact look_other (by simp [next]) h l hp
  · split
    · exact look_other (by simp) h l hp
    · rfl
theorem pairs_put {l : List Item} (c : Cm.Cmd) (hp : Asc l) (hk : c.kind = 2) (ha : (ans l c).err = 0) : look (pairs l c) c.key = some (next l c) := by
  unfold ans at ha
  unfold pairs
  rw [if_pos hk] at ha ⊢
  by_cases hf : full l c = true
  · rw [if_pos hf] at ha; simp [refused] at ha
  · rw [if_neg hf]; exact look_put rfl l hp
theorem pairs_del {l : List Item} (c : Cm.Cmd) (hp : Asc l) (hk : c.kind = 4) : look (pairs l c) c.key = none := by
  unfold pairs
  rw [if_neg (by omega), if_pos hk]; exact look_del l hp
theorem find_mem {l : List Item} {x : List UInt8} (h : found l x = true) : find l x ∈ l := by
  have hlt := found_lt h
  rw [find_yes h (List.getElem?_eq_getElem hlt)]
  exact List.getElem_mem _
theorem pairs_check {l : List Item} (c : Cm.Cmd) (hl : refCheck l = true) (hc : c.kind = 2 → refCheck [⟨c.key, c.val, 0⟩] = true) : refCheck (pairs l c) = true := by
  have hl' := (refCheck_iff l).1 hl
  obtain ⟨h1, h2, h3⟩ := hl'
  rw [refCheck_iff]
  refine ⟨fun s hs => ?_, ?_, pairs_asc c h3⟩
  · unfold pairs at hs
    split at hs
    · rename_i hk
      split at hs
      · exact h1 s hs
      · rcases swap_mem l hs with hs | hs
        · have he : s = next l c := by simpa using hs
          have hr : (find l c.key).rev = 0 := by
            by_cases hf : found l c.key = true
            · have := h1 _ (find_mem hf)
              unfold valid at this
              simp only [Bool.and_eq_true, beq_iff_eq] at this
              exact this.2.2
            · rw [find_no (by simpa using hf)]; rfl
          rw [he]
          unfold next
          rw [hr]
          exact ((refCheck_iff _).1 (hc hk)).1 _ (by simp)
        · exact h1 s hs
    · split at hs
      · rcases swap_mem l hs with hs | hs
        · simp at hs
        · exact h1 s hs
      · exact h1 s hs
  · unfold pairs
    split
    · split
      · exact h2
      · rename_i hf
        rw [swap_len]
        unfold full at hf
        by_cases hx : found l c.key = true
        · rw [if_pos hx]; simp; omega
        · have hx' : found l c.key = false := by simpa using hx
          rw [hx'] at hf ⊢
          simp at hf ⊢
          omega
    · split
      · rw [swap_len]; simp; omega
      · exact h2

/-! Whether there are too many, or too long ones. -/
def long (p : Item) : Bool := decide (200 < p.key.length) || decide (200 < p.val.length)
def large (l : List Item) : Bool := (l.take 80).any long || decide (80 < l.length)
theorem large_yes {l : List Item} {k : Nat} {s : Item} (he : l[k]? = some s) (hk : k < 80) (h : long s = true) : large l = true := by
  unfold large
  rw [show (l.take 80).any long = true from List.any_eq_true.2 ⟨s, List.mem_of_getElem? (by rw [List.getElem?_take, if_pos hk]; exact he), h⟩]
  rfl
theorem large_no {l : List Item} (h : ∀ (k : Nat) (e : Item), k < 80 → l[k]? = some e → long e = false) : large l = decide (80 < l.length) := by
  unfold large
  rw [show (l.take 80).any long = false from List.any_eq_false.2 fun e he => by
    obtain ⟨k, hk⟩ := List.getElem?_of_mem he
    rw [List.getElem?_take] at hk
    split at hk
    · rename_i h40; rw [h k e h40 hk]; simp
    · cases hk]
  rfl
theorem small {l : List Item} (h : large l = false) : l.length ≤ 80 ∧ ∀ e ∈ l, e.key.length ≤ 200 ∧ e.val.length ≤ 200 := by
  unfold large at h
  rw [Bool.or_eq_false_iff] at h
  have h40 : l.length ≤ 80 := by have := of_decide_eq_false h.2; omega
  refine ⟨h40, fun e he => ?_⟩
  have := List.any_eq_false.1 h.1 e (by rw [List.take_of_length_le h40]; exact he)
  unfold long at this
  simpa using this

end Kv
end Go.Proofs.Ytgcjjlkjlabneaa
