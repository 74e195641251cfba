/- Several texts of mine in one: KvMath KwMath SeMath MgMath. -/
import Derived.Test.YtammfmmpldahhaaGreatCmdOne
import Derived.Test.YtammfmmpldahhaaGreatAnsOne
import Derived.Test.YtammfmmpldahhaaGreatGRune
namespace Go.Proofs.YtammfmmpldahhaaGreat

/-- A pair. -/
structure Kv.Item where
  key : List UInt8
  val : List UInt8
  rev : Int
  deriving DecidableEq
namespace Kv

def zero : Item := ⟨[], [], 0⟩
def cells (p : Item) : Array Value := #[.string ⟨p.key.toArray⟩, .string ⟨p.val.toArray⟩, .int .i64 p.rev]

/-! The order of strings. -/
theorem less_eq : ∀ (x y : List UInt8), Op.bytesLess x y = decide (x < y)
  | [], [] => by simp [Op.bytesLess]
  | _ :: _, [] => by simp [Op.bytesLess]
  | [], _ :: _ => by simp [Op.bytesLess]
  | a :: x, b :: y => by
    rw [Op.bytesLess, less_eq x y]
    simp only [List.cons_lt_cons_iff]
    by_cases h1 : a < b <;> by_cases h2 : a = b <;> by_cases h3 : x < y <;> simp [h1, h2, h3]
theorem irr (a : List UInt8) : ¬ a < a := List.lt_irrefl a
theorem tr {a b c : List UInt8} (h1 : a < b) (h2 : b < c) : a < c := List.lt_trans h1 h2
theorem asy {a b : List UInt8} (h1 : a < b) : ¬ b < a := fun h2 => irr a (tr h1 h2)
theorem ne_of {a b : List UInt8} (h1 : a < b) : a ≠ b := fun h => irr b (by rw [h] at h1; exact h1)
theorem eq_of {a b : List UInt8} (h : ¬ a < b) (h2 : ¬ b < a) : a = b := List.le_antisymm h2 h
theorem nil_lt {a : List UInt8} (h : a ≠ []) : [] < a := by
  cases a with
  | nil => exact absurd rfl h
  | cons x r => exact List.nil_lt_cons _ _
theorem le_eq (x y : List UInt8) : (Op.bytesLess x y || x == y) = !decide (y < x) := by
  rw [less_eq]
  by_cases h1 : x < y
  · simp [h1, asy h1]
  · by_cases h2 : y < x
    · simp [h1, h2, (ne_of h2).symm]
    · simp [eq_of h1 h2, irr]
/-- cmp.Compare at strings: -1, 0, 1. -/
def cmp (x y : List UInt8) : Int := if x < y then -1 else if y < x then 1 else 0
theorem cmp_neg (x y : List UInt8) : cmp x y < 0 ↔ x < y := by
  unfold cmp
  by_cases h1 : x < y
  · simp [h1]
  · by_cases h2 : y < x <;> simp [h1, h2]
theorem cmp_zero (x y : List UInt8) : cmp x y = 0 ↔ x = y := by
  unfold cmp
  by_cases h1 : x < y
  · simp [h1, ne_of h1]
  · by_cases h2 : y < x
    · simp [h1, h2, (ne_of h2).symm]
    · simp [eq_of h1 h2, irr]

/-! Where a key stands. -/
def Asc (l : List Item) : Prop := l.Pairwise fun a b => a.key < b.key
instance (l : List Item) : Decidable (Asc l) := inferInstanceAs (Decidable (l.Pairwise fun a b => a.key < b.key))
def rises (l : List Item) : Bool := decide (Asc l)
def is (x : List UInt8) (p : Item) : Bool := decide (p.key = x)
def look (l : List Item) (x : List UInt8) : Option Item := l.find? (is x)
/-- The place that is told. -/
def ix (l : List Item) (x : List UInt8) : Int := if l.findIdx (is x) < l.length then (l.findIdx (is x) : Int) else -1
def below (l : List Item) (x : List UInt8) : Nat := l.countP fun p => decide (p.key < x)
def found (l : List Item) (x : List UInt8) : Bool := (l[below l x]?).any fun p => decide (p.key = x)
def upto (l : List Item) (x : List UInt8) : Nat := below l x + (if found l x then 1 else 0)
def find (l : List Item) (x : List UInt8) : Item := if found l x then (l[below l x]?).getD zero else zero
/-- Others in the place of the one with the key. -/
def swap (b : List Item) (l : List Item) (x : List UInt8) : List Item := l.take (below l x) ++ b ++ l.drop (upto l x)

theorem below_le (l : List Item) (x : List UInt8) : below l x ≤ l.length := List.countP_le_length
theorem below_less {a : Item} {x : List UInt8} (r : List Item) (h : a.key < x) : below (a :: r) x = below r x + 1 := by
  unfold below
  rw [List.countP_cons_of_pos (by simpa using h)]
theorem below_none {a : Item} {x : List UInt8} {r : List Item} (hp : Asc (a :: r)) (h : ¬ a.key < x) : below (a :: r) x = 0 := by
  unfold below
  rw [List.countP_cons_of_neg (by simpa using h), List.countP_eq_zero]
  intro e he
  have := (List.pairwise_cons.1 hp).1 e he
  exact fun hc => h (tr this (of_decide_eq_true hc))
theorem found_less {a : Item} {x : List UInt8} (r : List Item) (h : a.key < x) : found (a :: r) x = found r x := by
  unfold found
  rw [below_less r h, List.getElem?_cons_succ]
theorem found_none {a : Item} {x : List UInt8} {r : List Item} (hp : Asc (a :: r)) (h : ¬ a.key < x) : found (a :: r) x = decide (a.key = x) := by
  unfold found
  rw [below_none hp h]
  simp
theorem upto_less {a : Item} {x : List UInt8} (r : List Item) (h : a.key < x) : upto (a :: r) x = upto r x + 1 := by
  unfold upto
  rw [below_less r h, found_less r h]
  omega
theorem upto_same {a : Item} {x : List UInt8} {r : List Item} (hp : Asc (a :: r)) (h : a.key = x) : upto (a :: r) x = 1 := by
  unfold upto
  have hn : ¬ a.key < x := by rw [h]; exact irr x
  rw [below_none hp hn, found_none hp hn, decide_eq_true h]
  rfl
theorem upto_more {a : Item} {x : List UInt8} {r : List Item} (hp : Asc (a :: r)) (h : x < a.key) : upto (a :: r) x = 0 := by
  unfold upto
  rw [below_none hp (asy h), found_none hp (asy h), decide_eq_false (ne_of h).symm]
  rfl
theorem below_iff : ∀ (l : List Item) (x : List UInt8), Asc l → ∀ (k : Nat) (e : Item), l[k]? = some e → (e.key < x ↔ k < below l x)
  | [], x, _, k, e, h => by simp at h
  | a :: r, x, hp, k, e, h => by
    obtain ⟨h1, h2⟩ := List.pairwise_cons.1 hp
    by_cases ha : a.key < x
    · rw [below_less r ha]
      cases k with
      | zero => simp at h; subst h; exact ⟨fun _ => by omega, fun _ => ha⟩
      | succ k => rw [below_iff r x h2 k e (by simpa using h)]; omega
    · rw [below_none hp ha]
      refine ⟨fun hc => ?_, fun h => by omega⟩
      cases k with
      | zero => simp at h; subst h; exact absurd hc ha
      | succ k => exact absurd (tr (h1 e (List.mem_of_getElem? (show r[k]? = some e by simpa using h))) hc) ha
theorem upto_le (l : List Item) (x : List UInt8) : upto l x ≤ l.length := by
  have hb := below_le l x
  unfold upto
  cases hf : found l x with
  | false => simpa using hb
  | true =>
    unfold found at hf
    cases hk : l[below l x]? with
    | none => rw [hk] at hf; simp at hf
    | some e => have := (List.getElem?_eq_some_iff.1 hk).1; simp; omega
theorem below_upto (l : List Item) (x : List UInt8) : below l x ≤ upto l x := by unfold upto; omega
theorem find_yes {l : List Item} {x : List UInt8} {e : Item} (h : found l x = true) (he : l[below l x]? = some e) : find l x = e := by unfold find; rw [if_pos h, he]; rfl
theorem find_no {l : List Item} {x : List UInt8} (h : found l x = false) : find l x = zero := by unfold find; rw [h]; rfl
theorem found_lt {l : List Item} {x : List UInt8} (h : found l x = true) : below l x < l.length := by
  have := upto_le l x
  unfold upto at this
  rw [if_pos h] at this
  omega

theorem pair_lt {l : List Item} (hp : Asc l) {i j : Nat} {a b : Item} (h : i < j) (ha : l[i]? = some a) (hb : l[j]? = some b) : a.key < b.key := by
  obtain ⟨h1, rfl⟩ := List.getElem?_eq_some_iff.1 ha
  obtain ⟨h2, rfl⟩ := List.getElem?_eq_some_iff.1 hb
  exact List.pairwise_iff_getElem.1 hp i j h1 h2 h
theorem rises_no {l : List Item} {k : Nat} {a b : Item} (ha : l[k]? = some a) (hb : l[k + 1]? = some b) (h : ¬ a.key < b.key) : rises l = false :=
  decide_eq_false fun hp => h (pair_lt hp (Nat.lt_succ_self k) ha hb)
theorem rises_yes {l : List Item} (h : ∀ (k : Nat) (a b : Item), l[k]? = some a → l[k + 1]? = some b → a.key < b.key) : rises l = true := by
  refine decide_eq_true ?_
  unfold Asc
  rw [List.pairwise_iff_getElem]
  have key : ∀ d i (h1 : i < l.length) (h2 : i + d + 1 < l.length), l[i].key < l[i + d + 1].key := by
    intro d
    induction d with
    | zero => intro i h1 h2; exact h i _ _ (List.getElem?_eq_getElem h1) (List.getElem?_eq_getElem h2)
    | succ d ih =>
      intro i h1 h2
      have a := ih i h1 (by omega)
      have b := h (i + d + 1) _ _ (List.getElem?_eq_getElem (by omega)) (List.getElem?_eq_getElem h2)
      exact tr a b
  intro i j hi hj hij
  have := key (j - i - 1) i hi (by omega)
  simpa [show i + (j - i - 1) + 1 = j by omega] using this

/-! The pair with a key. -/
theorem look_cons (a : Item) (r : List Item) (x : List UInt8) : look (a :: r) x = if a.key = x then some a else look r x := by
  unfold look
  rw [List.find?_cons]
  unfold is
  by_cases h : a.key = x <;> simp [h]
theorem look_above {l : List Item} {x : List UInt8} (h : ∀ e ∈ l, x < e.key) : look l x = none := by
  unfold look
  rw [List.find?_eq_none]
  intro e he
  have := (ne_of (h e he)).symm
  simp [is, this]
theorem look_eq : ∀ (l : List Item) (x : List UInt8), Asc l → found l x = (look l x).isSome ∧ find l x = (look l x).getD zero
  | [], x, _ => by simp [found, find, look]
  | a :: r, x, hp => by
    obtain ⟨h1, h2⟩ := List.pairwise_cons.1 hp
    rw [look_cons]
    by_cases ha : a.key < x
    · rw [if_neg (ne_of ha)]
      obtain ⟨e1, e2⟩ := look_eq r x h2
      unfold find at e2 ⊢
      rw [found_less r ha, below_less r ha, List.getElem?_cons_succ]
      exact ⟨e1, e2⟩
    · unfold find
      rw [found_none hp ha, below_none hp ha]
      by_cases hx : a.key = x
      · rw [if_pos hx, decide_eq_true hx]; exact ⟨rfl, rfl⟩
      · have hlt : x < a.key := Classical.byContradiction fun hc => hx (eq_of ha hc)
        rw [if_neg hx, look_above fun e he => tr hlt (h1 e he), decide_eq_false hx]
        exact ⟨rfl, rfl⟩
theorem ix_look (l : List Item) (x : List UInt8) : (ix l x < 0 ∧ look l x = none) ∨ (∃ (k : Nat) (e : Item), ix l x = (k : Int) ∧ l[k]? = some e ∧ look l x = some e) := by
  unfold ix look
  rw [List.find?_eq_getElem?_findIdx]
  by_cases h : l.findIdx (is x) < l.length
  · rw [if_pos h]
    exact .inr ⟨_, _, rfl, List.getElem?_eq_getElem h, List.getElem?_eq_getElem h⟩
  · rw [if_neg h]
    exact .inl ⟨by omega, List.getElem?_eq_none (by omega)⟩
theorem ix_found {l : List Item} {x : List UInt8} {k : Nat} {e : Item} (h : l[k]? = some e) (hp : e.key = x) (hb : ∀ (j : Nat) (d : Item), j < k → l[j]? = some d → d.key ≠ x) : ix l x = (k : Int) := by
  obtain ⟨hk, rfl⟩ := List.getElem?_eq_some_iff.1 h
  have e : l.findIdx (is x) = k := (List.findIdx_eq hk).2 ⟨by simp [is, hp], fun j hj => by simpa [is] using hb j _ hj (List.getElem?_eq_getElem (by omega))⟩
  unfold ix
  rw [e, if_pos hk]
theorem ix_none {l : List Item} {x : List UInt8} (hb : ∀ (j : Nat) (d : Item), l[j]? = some d → d.key ≠ x) : ix l x = -1 := by
  have e : l.findIdx (is x) = l.length := List.findIdx_eq_length.2 fun d hd => by obtain ⟨j, hj⟩ := List.getElem?_of_mem hd; simpa [is] using hb j d hj
  unfold ix
  rw [e, if_neg (Nat.lt_irrefl _)]

/-! Others in the place of one. -/
theorem swap_less {a : Item} {x : List UInt8} (b r : List Item) (h : a.key < x) : swap b (a :: r) x = a :: swap b r x := by
  unfold swap
  rw [below_less r h, upto_less r h]
  rfl
theorem swap_same {a : Item} {x : List UInt8} (b : List Item) {r : List Item} (hp : Asc (a :: r)) (h : a.key = x) : swap b (a :: r) x = b ++ r := by
  unfold swap
  rw [below_none hp (by rw [h]; exact irr x), upto_same hp h]
  rfl
theorem swap_more {a : Item} {x : List UInt8} (b : List Item) {r : List Item} (hp : Asc (a :: r)) (h : x < a.key) : swap b (a :: r) x = b ++ a :: r := by
  unfold swap
  rw [below_none hp (asy h), upto_more hp h]
  rfl
theorem swap_nil (b : List Item) (x : List UInt8) : swap b [] x = b := by simp [swap]
/-- Three ways: the first is less, the same, more. -/
theorem three (x y : List UInt8) : x < y ∨ x = y ∨ y < x := by
  by_cases h1 : x < y
  · exact .inl h1
  · by_cases h2 : y < x
    · exact .inr (.inr h2)
    · exact .inr (.inl (eq_of h1 h2))
theorem swap_mem {b : List Item} {x : List UInt8} {e : Item} (l : List Item) (h : e ∈ swap b l x) : e ∈ b ∨ e ∈ l := by
  unfold swap at h
  rw [List.mem_append, List.mem_append] at h
  rcases h with (h | h) | h
  · exact .inr (List.mem_of_mem_take h)
  · exact .inl h
  · exact .inr (List.mem_of_mem_drop h)
theorem swap_asc {b : List Item} {x : List UInt8} (hb : ∀ e ∈ b, e.key = x) (h1 : b.length ≤ 1) : ∀ l : List Item, Asc l → Asc (swap b l x)
  | [], _ => by
    rw [swap_nil]
    match b, h1 with
    | [], _ => exact List.Pairwise.nil
    | [p], _ => exact List.pairwise_singleton _ _
  | a :: r, hp => by
    obtain ⟨p1, p2⟩ := List.pairwise_cons.1 hp
    rcases three a.key x with h | h | h
    · rw [swap_less b r h]
      refine List.pairwise_cons.2 ⟨fun e he => ?_, swap_asc hb h1 r p2⟩
      rcases swap_mem r he with he | he
      · rw [hb e he]; exact h
      · exact p1 e he
    · rw [swap_same b hp h]
      match b, hb, h1 with
      | [], _, _ => exact p2
      | [p], hb, _ => exact List.pairwise_cons.2 ⟨fun e he => by rw [hb p (by simp), ← h]; exact p1 e he, p2⟩
    · rw [swap_more b hp h]
      match b, hb, h1 with
      | [], _, _ => exact hp
      | [p], hb, _ => exact List.pairwise_cons.2 ⟨fun e he => by
          rw [hb p (by simp)]
          rcases List.mem_cons.1 he with rfl | he
          · exact h
          · exact tr h (p1 e he), hp⟩
theorem look_app (b l : List Item) (x : List UInt8) : look (b ++ l) x = (look b x).or (look l x) := by unfold look; rw [List.find?_append]
theorem look_not {b : List Item} {x y : List UInt8} (hb : ∀ e ∈ b, e.key = x) (h : y ≠ x) : look b y = none := by
  unfold look
  rw [List.find?_eq_none]
  intro e he
  have := hb e he
  simp only [is, decide_eq_true_eq]
  exact fun hc => h (by rw [← hc, this])
/-- Other keys stay. -/
theorem look_other {b : List Item} {x y : List UInt8} (hb : ∀ e ∈ b, e.key = x) (h : y ≠ x) : ∀ l : List Item, Asc l → look (swap b l x) y = look l y
  | [], _ => by rw [swap_nil, look_not hb h]; rfl
  | a :: r, hp => by
    obtain ⟨p1, p2⟩ := List.pairwise_cons.1 hp
    rcases three a.key x with h' | h' | h'
    · rw [swap_less b r h', look_cons, look_cons, look_other hb h r p2]
    · rw [swap_same b hp h', look_app, look_not hb h, look_cons, if_neg (by rw [h']; exact h.symm)]; rfl
    · rw [swap_more b hp h', look_app, look_not hb h]; rfl
/-- The one that took the place is found. -/
theorem look_put {p : Item} {x : List UInt8} (hb : p.key = x) : ∀ l : List Item, Asc l → look (swap [p] l x) x = some p
  | [], _ => by rw [swap_nil, look_cons, if_pos hb]
  | a :: r, hp => by
    obtain ⟨p1, p2⟩ := List.pairwise_cons.1 hp
    rcases three a.key x with h' | h' | h'
    · rw [swap_less _ r h', look_cons, if_neg (ne_of h'), look_put hb r p2]
    · rw [swap_same _ hp h', List.singleton_append, look_cons, if_pos hb]
    · rw [swap_more _ hp h', List.singleton_append, look_cons, if_pos hb]
theorem look_del {x : List UInt8} : ∀ l : List Item, Asc l → look (swap [] l x) x = none
  | [], _ => by rw [swap_nil]; rfl
  | a :: r, hp => by
    obtain ⟨p1, p2⟩ := List.pairwise_cons.1 hp
    rcases three a.key x with h' | h' | h'
    · rw [swap_less _ r h', look_cons, if_neg (ne_of h'), look_del r p2]
    · rw [swap_same _ hp h', List.nil_append]
      exact look_above fun e he => by rw [← h']; exact p1 e he
    · rw [swap_more _ hp h', List.nil_append]
      refine look_above fun e he => ?_
      rcases List.mem_cons.1 he with rfl | he
      · exact h'
      · exact tr h' (p1 e he)
theorem swap_len (b l : List Item) (x : List UInt8) : (swap b l x).length = b.length + l.length - (if found l x then 1 else 0) := by
  have h1 := below_le l x
  have h2 := upto_le l x
  have h3 : upto l x = below l x + (if found l x then 1 else 0) := rfl
  unfold swap
  simp only [List.length_append, List.length_take, List.length_drop]
  omega

/-! Which may be. -/
def valid (p : Item) : Bool := Rn.key ⟨p.key.toArray⟩ && (Rn.val ⟨p.val.toArray⟩ && p.rev == 0)
def check : List UInt8 → List Item → Bool
  | _, [] => true
  | b, p :: r => if b < p.key then (if valid p = false then false else check p.key r) else false
theorem drop_at {l : List Item} {k : Nat} {s : Item} (h : l[k]? = some s) : l.drop k = s :: l.drop (k + 1) := by
  obtain ⟨hk, rfl⟩ := List.getElem?_eq_some_iff.1 h
  exact List.drop_eq_getElem_cons hk
theorem check_step {l : List Item} {k : Nat} {s : Item} (h : l[k]? = some s) (b : List UInt8) : check b (l.drop k) = if b < s.key then (if valid s = false then false else check s.key (l.drop (k + 1))) else false := by rw [drop_at h]; rfl
theorem check_iff : ∀ (l : List Item) (b : List UInt8), check b l = true ↔ (∀ s ∈ l, valid s = true) ∧ Asc l ∧ ∀ s ∈ l, b < s.key
  | [], b => by simp [check, Asc]
  | s :: r, b => by
    have ih := check_iff r s.key
    unfold check
    by_cases h1 : b < s.key
    · rw [if_pos h1]
      by_cases h2 : valid s = false
      · rw [if_pos h2]
        refine ⟨fun h => (by cases h), fun h => ?_⟩
        have := h.1 s (by simp); rw [h2] at this; cases this
      · rw [if_neg h2, ih]
        have h2' : valid s = true := by simpa using h2
        constructor
        · rintro ⟨a, p, q⟩
          refine ⟨fun x hx => ?_, List.pairwise_cons.2 ⟨q, p⟩, fun x hx => ?_⟩
          · rcases List.mem_cons.1 hx with rfl | hx
            · exact h2'
            · exact a x hx
          · rcases List.mem_cons.1 hx with rfl | hx
            · exact h1
            · exact tr h1 (q x hx)
        · rintro ⟨a, p, q⟩
          obtain ⟨p1, p2⟩ := List.pairwise_cons.1 p
          exact ⟨fun x hx => a x (List.mem_cons_of_mem _ hx), p2, p1⟩
    · rw [if_neg h1]
      exact ⟨fun h => (by cases h), fun h => absurd (h.2.2 s (by simp)) h1⟩
theorem valid_key {p : Item} (h : valid p = true) : [] < p.key := by
  refine nil_lt fun hk => ?_
  unfold valid Rn.key at h
  rw [hk] at h
  simp [ByteArray.size] at h
/-- As the document says it. -/
def refCheck (l : List Item) : Bool := if l.all valid = true then (decide (l.length ≤ 64) && rises l) else false
theorem check_ref (l : List Item) (h64 : l.length ≤ 64) : check [] l = refCheck l := by
  rw [Bool.eq_iff_iff, check_iff]
  unfold refCheck rises
  rw [decide_eq_true h64, Bool.true_and]
  by_cases h : l.all valid = true
  · rw [if_pos h]
    have h' := List.all_eq_true.1 h
    exact ⟨fun x => decide_eq_true x.2.1, fun x => ⟨h', of_decide_eq_true x, fun s hs => valid_key (h' s hs)⟩⟩
  · rw [if_neg h]
    exact ⟨fun x => absurd (List.all_eq_true.2 x.1) h, fun x => by cases x⟩
theorem check_long {l : List Item} (h64 : 64 < l.length) : refCheck l = false := by
  unfold refCheck
  rw [decide_eq_false (by omega), Bool.false_and, ite_self]
theorem refCheck_iff (l : List Item) : refCheck l = true ↔ (∀ s ∈ l, valid s = true) ∧ l.length ≤ 64 ∧ Asc l := by
  unfold refCheck rises
  by_cases h : l.all valid = true
  · rw [if_pos h, Bool.and_eq_true, decide_eq_true_eq, decide_eq_true_eq]
    exact ⟨fun x => ⟨List.all_eq_true.1 h, x⟩, fun x => x.2⟩
  · rw [if_neg h]
    exact ⟨fun x => (by cases x), fun x => absurd (List.all_eq_true.2 x.1) h⟩
theorem all_no {l : List Item} {k : Nat} {s : Item} (h : l[k]? = some s) (hv : valid s = false) : refCheck l = false := by
  unfold refCheck
  rw [if_neg]
  intro ha
  rw [List.all_eq_true.1 ha s (List.mem_of_getElem? h)] at hv
  cases hv
theorem all_yes {l : List Item} (h : ∀ (j : Nat) (e : Item), l[j]? = some e → valid e = true) : refCheck l = (decide (l.length ≤ 64) && rises l) := by
  unfold refCheck
  rw [if_pos (List.all_eq_true.2 fun s hs => by obtain ⟨j, hj⟩ := List.getElem?_of_mem hs; exact h j s hj)]

/-! What a command does. -/
def full (l : List Item) (c : Cm.Cmd) : Bool := !found l c.key && decide (64 ≤ l.length)
def next (l : List Item) (c : Cm.Cmd) : Item := ⟨c.key, c.val, (find l c.key).rev⟩
def pairs (l : List Item) (c : Cm.Cmd) : List Item :=
  if c.kind = 2 then (if full l c = true then l else swap [next l c] l c.key) else if c.kind = 4 then swap [] l c.key else l
def told (l : List Item) (c : Cm.Cmd) : An.Ans := ⟨c.client, c.seq, 0, found l c.key, (find l c.key).val, 0⟩
def refused (c : Cm.Cmd) (e : Int) : An.Ans := ⟨c.client, c.seq, e, false, [], 0⟩
def ans (l : List Item) (c : Cm.Cmd) : An.Ans :=
  if c.kind = 2 then (if full l c = true then refused c 11 else told l c) else if c.kind = 3 then told l c else if c.kind = 4 then told l c else refused c 8

theorem pairs_asc {l : List Item} (c : Cm.Cmd) (hp : Asc l) : Asc (pairs l c) := by
  unfold pairs
  split
  · split
    · exact hp
    · exact swap_asc (by simp [next]) (by simp) l hp
  · split
    · exact swap_asc (by simp) (by simp) l hp
    · exact hp
theorem pairs_len (l : List Item) (c : Cm.Cmd) : (pairs l c).length ≤ l.length + 1 := by
  unfold pairs
  split
  · split
    · omega
    · rw [swap_len]; simp; omega
  · split
    · rw [swap_len]; simp; omega
    · omega
theorem pairs_other {l : List Item} (c : Cm.Cmd) (hp : Asc l) {y : List UInt8} (h : y ≠ c.key) : look (pairs l c) y = look l y := by
  unfold pairs
  split
  · split
    · rfl
    · exact look_other (by simp [next]) h l hp
  · split
    · exact look_other (by simp) h l hp
    · rfl
theorem pairs_put {l : List Item} (c : Cm.Cmd) (hp : Asc l) (hk : c.kind = 2) (ha : (ans l c).err = 0) : look (pairs l c) c.key = some (next l c) := by
  unfold ans at ha
  unfold pairs
  rw [if_pos hk] at ha ⊢
  by_cases hf : full l c = true
  · rw [if_pos hf] at ha; simp [refused] at ha
  · rw [if_neg hf]; exact look_put rfl l hp
theorem pairs_del {l : List Item} (c : Cm.Cmd) (hp : Asc l) (hk : c.kind = 4) : look (pairs l c) c.key = none := by
  unfold pairs
  rw [if_neg (by omega), if_pos hk]; exact look_del l hp
theorem find_mem {l : List Item} {x : List UInt8} (h : found l x = true) : find l x ∈ l := by
  have hlt := found_lt h
  rw [find_yes h (List.getElem?_eq_getElem hlt)]
  exact List.getElem_mem _
theorem pairs_check {l : List Item} (c : Cm.Cmd) (hl : refCheck l = true) (hc : c.kind = 2 → refCheck [⟨c.key, c.val, 0⟩] = true) : refCheck (pairs l c) = true := by
  have hl' := (refCheck_iff l).1 hl
  obtain ⟨h1, h2, h3⟩ := hl'
  rw [refCheck_iff]
  refine ⟨fun s hs => ?_, ?_, pairs_asc c h3⟩
  · unfold pairs at hs
    split at hs
    · rename_i hk
      split at hs
      · exact h1 s hs
      · rcases swap_mem l hs with hs | hs
        · have he : s = next l c := by simpa using hs
          have hr : (find l c.key).rev = 0 := by
            by_cases hf : found l c.key = true
            · have := h1 _ (find_mem hf)
              unfold valid at this
              simp only [Bool.and_eq_true, beq_iff_eq] at this
              exact this.2.2
            · rw [find_no (by simpa using hf)]; rfl
          rw [he]
          unfold next
          rw [hr]
          exact ((refCheck_iff _).1 (hc hk)).1 _ (by simp)
        · exact h1 s hs
    · split at hs
      · rcases swap_mem l hs with hs | hs
        · simp at hs
        · exact h1 s hs
      · exact h1 s hs
  · unfold pairs
    split
    · split
      · exact h2
      · rename_i hf
        rw [swap_len]
        unfold full at hf
        by_cases hx : found l c.key = true
        · rw [if_pos hx]; simp; omega
        · have hx' : found l c.key = false := by simpa using hx
          rw [hx'] at hf ⊢
          simp at hf ⊢
          omega
    · split
      · rw [swap_len]; simp; omega
      · exact h2

/-! Whether there are too many, or too long ones. -/
def long (p : Item) : Bool := decide (200 < p.key.length) || decide (200 < p.val.length)
def large (l : List Item) : Bool := (l.take 80).any long || decide (80 < l.length)
theorem large_yes {l : List Item} {k : Nat} {s : Item} (he : l[k]? = some s) (hk : k < 80) (h : long s = true) : large l = true := by
  unfold large
  rw [show (l.take 80).any long = true from List.any_eq_true.2 ⟨s, List.mem_of_getElem? (by rw [List.getElem?_take, if_pos hk]; exact he), h⟩]
  rfl
theorem large_no {l : List Item} (h : ∀ (k : Nat) (e : Item), k < 80 → l[k]? = some e → long e = false) : large l = decide (80 < l.length) := by
  unfold large
  rw [show (l.take 80).any long = false from List.any_eq_false.2 fun e he => by
    obtain ⟨k, hk⟩ := List.getElem?_of_mem he
    rw [List.getElem?_take] at hk
    split at hk
    · rename_i h40; rw [h k e h40 hk]; simp
    · cases hk]
  rfl
theorem small {l : List Item} (h : large l = false) : l.length ≤ 80 ∧ ∀ e ∈ l, e.key.length ≤ 200 ∧ e.val.length ≤ 200 := by
  unfold large at h
  rw [Bool.or_eq_false_iff] at h
  have h40 : l.length ≤ 80 := by have := of_decide_eq_false h.2; omega
  refine ⟨h40, fun e he => ?_⟩
  have := List.any_eq_false.1 h.1 e (by rw [List.take_of_length_le h40]; exact he)
  unfold long at this
  simpa using this

end Kv
end Go.Proofs.YtammfmmpldahhaaGreat


namespace Go.Proofs.YtammfmmpldahhaaGreat
namespace Kv

/-! Without revisions. -/
def bare (p : Item) : Item := ⟨p.key, p.val, 0⟩
def plain (l : List Item) : List Item := l.map bare
theorem plain_len (l : List Item) : (plain l).length = l.length := List.length_map _
theorem plain_at (l : List Item) (k : Nat) : (plain l)[k]? = (l[k]?).map bare := List.getElem?_map
theorem plain_asc {l : List Item} : Asc (plain l) ↔ Asc l := by unfold Asc plain; rw [List.pairwise_map]; rfl
theorem plain_rises (l : List Item) : rises (plain l) = rises l := decide_eq_decide.2 plain_asc
theorem plain_below (l : List Item) (x : List UInt8) : below (plain l) x = below l x := by unfold below plain; rw [List.countP_map]; rfl
theorem plain_found (l : List Item) (x : List UInt8) : found (plain l) x = found l x := by
  unfold found
  rw [plain_below, plain_at]
  cases l[below l x]? <;> rfl
theorem plain_upto (l : List Item) (x : List UInt8) : upto (plain l) x = upto l x := by unfold upto; rw [plain_below, plain_found]
theorem plain_find (l : List Item) (x : List UInt8) : find (plain l) x = bare (find l x) := by
  unfold find
  rw [plain_found, plain_below, plain_at]
  split
  · cases l[below l x]? <;> rfl
  · rfl
theorem plain_swap (b l : List Item) (x : List UInt8) : plain (swap b l x) = swap (plain b) (plain l) x := by
  unfold swap
  rw [plain_below, plain_upto]
  unfold plain
  rw [List.map_append, List.map_append, List.map_take, List.map_drop]
theorem plain_full (l : List Item) (c : Cm.Cmd) : full (plain l) c = full l c := by unfold full; rw [plain_found, plain_len]
theorem plain_pairs (l : List Item) (c : Cm.Cmd) : plain (pairs l c) = pairs (plain l) c := by
  unfold pairs
  rw [plain_full]
  split
  · split
    · rfl
    · rw [plain_swap]; unfold next; rw [plain_find]; rfl
  · split
    · rw [plain_swap]; rfl
    · rfl
theorem plain_ans (l : List Item) (c : Cm.Cmd) : ans (plain l) c = ans l c := by
  unfold ans told
  rw [plain_full, plain_found, plain_find]
  rfl

/-! Which may be. -/
def inRev (p : Item) : Bool := decide (1 ≤ p.rev) && decide (p.rev ≤ 4294967296)
def valid2 (p : Item) : Bool := Rn.key ⟨p.key.toArray⟩ && (Rn.val ⟨p.val.toArray⟩ && inRev p)
def refCheck2 (l : List Item) : Bool := if l.all valid2 = true then (decide (l.length ≤ 64) && rises l) else false
/-- As the program goes. -/
def check2 (l : List Item) : Bool := if l.all inRev = true then refCheck (plain l) else false
theorem valid2_eq (p : Item) : valid2 p = (valid (bare p) && inRev p) := by
  unfold valid2 valid bare
  simp [Bool.and_assoc]
theorem check2_ref (l : List Item) : check2 l = refCheck2 l := by
  unfold check2 refCheck2 refCheck
  rw [plain_rises, plain_len]
  have h : l.all valid2 = ((plain l).all valid && l.all inRev) := by
    unfold plain
    rw [List.all_map]
    induction l with
    | nil => rfl
    | cons a r ih =>
      simp only [List.all_cons, ih, valid2_eq, Function.comp]
      cases valid (bare a) <;> cases inRev a <;> simp
  rw [h]
  cases (plain l).all valid <;> cases l.all inRev <;> simp
theorem inRev_no {l : List Item} {k : Nat} {s : Item} (h : l[k]? = some s) (hv : inRev s = false) : refCheck2 l = false := by
  rw [← check2_ref]
  unfold check2
  rw [if_neg]
  intro ha
  rw [List.all_eq_true.1 ha s (List.mem_of_getElem? h)] at hv
  cases hv
theorem inRev_yes {l : List Item} (h : ∀ (j : Nat) (e : Item), j < l.length → l[j]? = some e → inRev e = true) : refCheck2 l = refCheck (plain l) := by
  rw [← check2_ref]
  unfold check2
  rw [if_pos (List.all_eq_true.2 fun s hs => by obtain ⟨j, hj⟩ := List.getElem?_of_mem hs; exact h j s (List.getElem?_eq_some_iff.1 hj).1 hj)]
theorem all_no2 {l : List Item} {k : Nat} {s : Item} (h : l[k]? = some s) (hv : valid2 s = false) : refCheck2 l = false := by
  unfold refCheck2
  rw [if_neg]
  intro ha
  rw [List.all_eq_true.1 ha s (List.mem_of_getElem? h)] at hv
  cases hv
theorem all_yes2 {l : List Item} (h : ∀ (j : Nat) (e : Item), l[j]? = some e → valid2 e = true) : refCheck2 l = (decide (l.length ≤ 64) && rises l) := by
  unfold refCheck2
  rw [if_pos (List.all_eq_true.2 fun s hs => by obtain ⟨j, hj⟩ := List.getElem?_of_mem hs; exact h j s hj)]
theorem refCheck2_asc {l : List Item} (h : refCheck2 l = true) : Asc l := by
  unfold refCheck2 rises at h
  split at h
  · rw [Bool.and_eq_true, decide_eq_true_eq, decide_eq_true_eq] at h; exact h.2
  · cases h

/-! What a command does. -/
def nxt (r : Int) : Int := if 4294967296 ≤ r then r else IntKind.i64.wrap (r + 1)
theorem nxt_le {r : Int} (h : 1 ≤ r) : r ≤ nxt r := by
  unfold nxt
  split
  · omega
  · rw [IntKind.wrap_i64]
    omega
/-- A pair, with a revision if the key is that one. -/
def rai (x : List UInt8) (r : Int) (p : Item) : Item := if p.key = x then ⟨p.key, p.val, r⟩ else p
def lift (x : List UInt8) (r : Int) (l : List Item) : List Item := l.map (rai x r)
def asPut (c : Cm.Cmd) : Cm.Cmd := { c with kind := 2 }
def put2 (l : List Item) (c : Cm.Cmd) : List Item := lift c.key (nxt (find l c.key).rev) (pairs l c)
def hit (l : List Item) (c : Cm.Cmd) : Bool := found l c.key && decide ((find l c.key).val = c.old)
def none2 (c : Cm.Cmd) : An.Ans := ⟨c.client, c.seq, 10, false, [], 0⟩
def stale2 (l : List Item) (c : Cm.Cmd) : An.Ans := ⟨c.client, c.seq, 15, true, (find l c.key).val, (find l c.key).rev⟩
def cas2 (l : List Item) (c : Cm.Cmd) : An.Ans := ⟨c.client, c.seq, 0, true, (find l c.key).val, nxt (find l c.key).rev⟩
def pairs2 (l : List Item) (c : Cm.Cmd) : List Item :=
  if c.kind = 2 then put2 l c else if c.kind = 5 then (if hit l c = true then put2 l (asPut c) else l) else pairs l c
def ans2 (l : List Item) (c : Cm.Cmd) : An.Ans :=
  if c.kind = 5 then (if found l c.key = false then none2 c else if hit l c = true then cas2 l c else stale2 l c) else ans l c
/-- What a swap's put answers, before it is told the revision. -/
theorem ans_hit {l : List Item} {c : Cm.Cmd} (h : found l c.key = true) : ans l (asPut c) = ⟨c.client, c.seq, 0, true, (find l c.key).val, 0⟩ := by
  unfold ans asPut full told
  simp [h]

theorem rai_plain (x : List UInt8) (r : Int) (p : Item) : bare (rai x r p) = bare p := by unfold rai; split <;> rfl
theorem lift_plain (x : List UInt8) (r : Int) (l : List Item) : plain (lift x r l) = plain l := by
  unfold plain lift
  rw [List.map_map]
  exact List.map_congr_left fun p _ => rai_plain x r p
/-- What the older schema does, but for revisions. -/
theorem older_pairs {l : List Item} {c : Cm.Cmd} (h : c.kind ≠ 5) : plain (pairs2 l c) = pairs (plain l) c := by
  unfold pairs2
  rw [← plain_pairs]
  split
  · unfold put2; rw [lift_plain]
  · first | rfl | rw [if_neg h]
theorem older_ans {l : List Item} {c : Cm.Cmd} (h : c.kind ≠ 5) : ans2 l c = ans (plain l) c := by
  unfold ans2
  rw [if_neg h, plain_ans]
theorem pairs2_len (l : List Item) (c : Cm.Cmd) : (pairs2 l c).length ≤ l.length + 1 := by
  unfold pairs2
  split
  · unfold put2 lift; rw [List.length_map]; exact pairs_len l c
  · split
    · split
      · unfold put2 lift; rw [List.length_map]; exact pairs_len l _
      · omega
    · exact pairs_len l c

/-! A compare and swap. -/
theorem swap_set (q : Item) (l : List Item) (x : List UInt8) (h : found l x = true) : swap [q] l x = l.set (below l x) q := by
  unfold swap upto
  rw [if_pos h, List.set_eq_take_append_cons_drop, if_pos (found_lt h)]
  simp
theorem found_key {l : List Item} {x : List UInt8} {p : Item} (h : found l x = true) (hp : l[below l x]? = some p) : p.key = x := by
  unfold found at h
  rw [hp] at h
  simpa using h
theorem ix_below {l : List Item} {x : List UInt8} (hp : Asc l) : (found l x = true ∧ ix l x = (below l x : Int) ∧ l[below l x]? = some (find l x) ∧ (find l x).key = x) ∨ (found l x = false ∧ ix l x < 0) := by
  have hl := look_eq l x hp
  rcases ix_look l x with ⟨h1, h2⟩ | ⟨k, e, h1, h2, h3⟩
  · right; rw [h2] at hl; exact ⟨hl.1, h1⟩
  · left
    rw [h3] at hl
    have hf : found l x = true := hl.1
    have hfi : find l x = e := hl.2
    have hlt := found_lt hf
    have hg := List.getElem?_eq_getElem hlt
    have hk := found_key hf hg
    have hek : e.key = x := by
      have := List.find?_some h3
      simpa [is] using this
    have hkb : k = below l x := by
      rcases Nat.lt_trichotomy k (below l x) with h | h | h
      · exact absurd (pair_lt hp h h2 hg) (by rw [hk, hek]; exact irr x)
      · exact h
      · exact absurd (pair_lt hp h hg h2) (by rw [hk, hek]; exact irr x)
    subst hkb
    rw [hfi]
    exact ⟨hf, h1, h2, hek⟩
theorem hit_put {l : List Item} {c : Cm.Cmd} (hp : Asc l) (h : found l c.key = true) : put2 l (asPut c) = l.set (below l c.key) ⟨c.key, c.val, nxt (find l c.key).rev⟩ := by
  have hlt := found_lt h
  have hfull : full l (asPut c) = false := by unfold full asPut; simp [h]
  unfold put2 pairs
  rw [hfull, if_pos (show (asPut c).kind = 2 from rfl), if_neg (by simp)]
  show lift c.key _ (swap [next l (asPut c)] l c.key) = _
  rw [swap_set _ l _ h]
  show lift c.key (nxt (find l c.key).rev) (l.set (below l c.key) ⟨c.key, c.val, _⟩) = _
  unfold lift
  apply List.ext_getElem?
  intro i
  rw [List.getElem?_map, List.getElem?_set, List.getElem?_set]
  by_cases hi : below l c.key = i
  · rw [if_pos hi, if_pos hi, if_pos (by omega), if_pos (by omega)]
    simp [rai]
  · rw [if_neg hi, if_neg hi]
    cases hli : l[i]? with
    | none => rfl
    | some e =>
      have hg := List.getElem?_eq_getElem hlt
      have hk := found_key h hg
      have hne : e.key ≠ c.key := by
        rcases Nat.lt_or_gt_of_ne hi with h' | h'
        · have := pair_lt hp h' hg hli; rw [hk] at this; exact (ne_of this).symm
        · have := pair_lt hp h' hli hg; rw [hk] at this; exact ne_of this
      simp [rai, hne]

end Kv
end Go.Proofs.YtammfmmpldahhaaGreat


namespace Go.Proofs.YtammfmmpldahhaaGreat

/-- A session. -/
structure Se.Ses where
  client : Int
  seq : Int
  last : An.Ans
deriving DecidableEq
namespace Se

/-- The fields of the machine's numbers. -/
structure Ses.Fits (s : Ses) : Prop where
  c0 : -9223372036854775808 ≤ s.client
  c1 : s.client ≤ 9223372036854775807
  q0 : -9223372036854775808 ≤ s.seq
  q1 : s.seq ≤ 9223372036854775807
  last : s.last.Fits

def zero : Ses := ⟨0, 0, An.zero⟩
def cells (s : Ses) : Array Value := #[.int .i64 s.client, .int .i64 s.seq, .int .i64 s.last.client, .int .i64 s.last.seq, .int .i64 s.last.err, .bool s.last.found, .string ⟨s.last.val.toArray⟩, .int .i64 s.last.rev]
/-- The session of an answer. -/
def of (a : An.Ans) : Ses := ⟨a.client, a.seq, a⟩

/-! Where a client's stands. -/
def is (c : Int) (s : Ses) : Bool := s.client == c
def past (c : Int) (s : Ses) : Bool := decide (c < s.client)
/-- The place that is told. -/
def ix (p : Ses → Bool) (l : List Ses) : Int := if l.findIdx p < l.length then (l.findIdx p : Int) else -1
def has (l : List Ses) (c : Int) : Bool := decide (l.findIdx (is c) < l.length)
def get (l : List Ses) (c : Int) : Ses := (l[l.findIdx (is c)]?).getD zero
/-- What a command is. -/
def which (l : List Ses) (c q : Int) : Int × An.Ans := if has l c = false ∨ (get l c).seq < q then (0, An.zero) else if q = (get l c).seq then (1, (get l c).last) else (2, An.zero)
def fro (l : List Ses) (c : Int) : Nat := if l.findIdx (is c) < l.length then l.findIdx (is c) else l.findIdx (past c)
def upto (l : List Ses) (c : Int) : Nat := if l.findIdx (is c) < l.length then l.findIdx (is c) + 1 else l.findIdx (past c)
def put (l : List Ses) (a : An.Ans) : List Ses := l.take (fro l a.client) ++ [of a] ++ l.drop (upto l a.client)

theorem ix_found {p : Ses → Bool} {l : List Ses} {k : Nat} {s : Ses} (h : l[k]? = some s) (hp : p s = true) (hb : ∀ (j : Nat) (e : Ses), j < k → l[j]? = some e → p e = false) : ix p l = (k : Int) ∧ l.findIdx p = k := by
  obtain ⟨hk, rfl⟩ := List.getElem?_eq_some_iff.1 h
  have e : l.findIdx p = k := (List.findIdx_eq hk).2 ⟨hp, fun j hj => hb j _ hj (List.getElem?_eq_getElem (by omega))⟩
  exact ⟨by unfold ix; rw [e, if_pos hk], e⟩
theorem ix_none {p : Ses → Bool} {l : List Ses} (hb : ∀ (j : Nat) (e : Ses), l[j]? = some e → p e = false) : ix p l = -1 ∧ l.findIdx p = l.length := by
  have e : l.findIdx p = l.length := List.findIdx_eq_length.2 fun x hx => by obtain ⟨j, hj⟩ := List.getElem?_of_mem hx; exact hb j x hj
  exact ⟨by unfold ix; rw [e, if_neg (Nat.lt_irrefl _)], e⟩
theorem idx_le (p : Ses → Bool) (l : List Ses) : l.findIdx p ≤ l.length := List.findIdx_le_length
theorem ix_yes {p : Ses → Bool} {l : List Ses} (h : l.findIdx p < l.length) : ix p l = (l.findIdx p : Int) := if_pos h
theorem ix_no {p : Ses → Bool} {l : List Ses} (h : ¬ l.findIdx p < l.length) : ix p l = -1 := if_neg h
theorem get_no {l : List Ses} {c : Int} (h : ¬ l.findIdx (is c) < l.length) : get l c = zero := by
  unfold get
  rw [List.getElem?_eq_none (by omega)]; rfl
theorem fro_le (l : List Ses) (c : Int) : fro l c ≤ upto l c := by unfold fro upto; split <;> omega
theorem upto_le (l : List Ses) (c : Int) : upto l c ≤ l.length := by
  have := idx_le (past c) l
  unfold upto; split <;> omega

/-! The sessions whose clients rise. -/
def Asc (l : List Ses) : Prop := l.Pairwise fun a b => a.client < b.client
instance (l : List Ses) : Decidable (Asc l) := inferInstanceAs (Decidable (l.Pairwise fun a b => a.client < b.client))
def rises (l : List Ses) : Bool := decide (Asc l)
theorem pair_lt {l : List Ses} (hp : Asc l) {i j : Nat} {a b : Ses} (h : i < j) (ha : l[i]? = some a) (hb : l[j]? = some b) : a.client < b.client := by
  obtain ⟨h1, rfl⟩ := List.getElem?_eq_some_iff.1 ha
  obtain ⟨h2, rfl⟩ := List.getElem?_eq_some_iff.1 hb
  exact List.pairwise_iff_getElem.1 hp i j h1 h2 h
theorem rises_no {l : List Ses} {k : Nat} {a b : Ses} (ha : l[k]? = some a) (hb : l[k + 1]? = some b) (h : b.client ≤ a.client) : rises l = false := by
  refine decide_eq_false fun hp => ?_
  have := pair_lt hp (Nat.lt_succ_self k) ha hb
  omega
theorem rises_yes {l : List Ses} (h : ∀ (k : Nat) (a b : Ses), l[k]? = some a → l[k + 1]? = some b → a.client < b.client) : rises l = true := by
  refine decide_eq_true ?_
  unfold Asc
  rw [List.pairwise_iff_getElem]
  have key : ∀ d i (h1 : i < l.length) (h2 : i + d + 1 < l.length), l[i].client < l[i + d + 1].client := by
    intro d
    induction d with
    | zero => intro i h1 h2; exact h i _ _ (List.getElem?_eq_getElem h1) (List.getElem?_eq_getElem h2)
    | succ d ih =>
      intro i h1 h2
      have a := ih i h1 (by omega)
      have b := h (i + d + 1) _ _ (List.getElem?_eq_getElem (by omega)) (List.getElem?_eq_getElem h2)
      exact Int.lt_trans a b
  intro i j hi hj hij
  have := key (j - i - 1) i hi (by omega)
  simpa [show i + (j - i - 1) + 1 = j by omega] using this

/-! Which may be. -/
def valid (s : Ses) : Bool := s.last.client == s.client && (s.last.seq == s.seq && An.check s.last == 0)
def check : Int → List Ses → Bool
  | _, [] => true
  | b, s :: r => if s.client ≤ b then false else if valid s = false then false else check s.client r
theorem drop_at {l : List Ses} {k : Nat} {s : Ses} (h : l[k]? = some s) : l.drop k = s :: l.drop (k + 1) := by
  obtain ⟨hk, rfl⟩ := List.getElem?_eq_some_iff.1 h
  exact List.drop_eq_getElem_cons hk
theorem check_step {l : List Ses} {k : Nat} {s : Ses} (h : l[k]? = some s) (b : Int) : check b (l.drop k) = if s.client ≤ b then false else if valid s = false then false else check s.client (l.drop (k + 1)) := by rw [drop_at h]; rfl
theorem check_iff : ∀ (l : List Ses) (b : Int), check b l = true ↔ (∀ s ∈ l, valid s = true) ∧ Asc l ∧ ∀ s ∈ l, b < s.client
  | [], b => by simp [check, Asc]
  | s :: r, b => by
    have ih := check_iff r s.client
    unfold check
    by_cases h1 : s.client ≤ b
    · rw [if_pos h1]
      refine ⟨fun h => (by cases h), fun h => ?_⟩
      have := h.2.2 s (by simp); omega
    · rw [if_neg h1]
      by_cases h2 : valid s = false
      · rw [if_pos h2]
        refine ⟨fun h => (by cases h), fun h => ?_⟩
        have := h.1 s (by simp); rw [h2] at this; cases this
      · rw [if_neg h2, ih]
        have h2' : valid s = true := by simpa using h2
        constructor
        · rintro ⟨a, p, q⟩
          refine ⟨fun x hx => ?_, List.pairwise_cons.2 ⟨q, p⟩, fun x hx => ?_⟩
          · rcases List.mem_cons.1 hx with rfl | hx
            · exact h2'
            · exact a x hx
          · rcases List.mem_cons.1 hx with rfl | hx
            · omega
            · have := q x hx; omega
        · rintro ⟨a, p, q⟩
          obtain ⟨p1, p2⟩ := List.pairwise_cons.1 p
          exact ⟨fun x hx => a x (List.mem_cons_of_mem _ hx), p2, p1⟩
theorem valid_client {s : Ses} (h : valid s = true) : 0 < s.client := by
  unfold valid at h
  simp only [Bool.and_eq_true, beq_iff_eq] at h
  have := An.check_num h.2.2
  omega
/-- As the document says it. -/
def refCheck (l : List Ses) : Bool := if l.all valid = true then rises l else false
theorem check_ref (l : List Ses) : check 0 l = refCheck l := by
  rw [Bool.eq_iff_iff, check_iff]
  unfold refCheck rises
  by_cases h : l.all valid = true
  · rw [if_pos h]
    have h' := List.all_eq_true.1 h
    exact ⟨fun x => decide_eq_true x.2.1, fun x => ⟨h', of_decide_eq_true x, fun s hs => valid_client (h' s hs)⟩⟩
  · rw [if_neg h]
    exact ⟨fun x => absurd (List.all_eq_true.2 x.1) h, fun x => by cases x⟩
theorem all_no {l : List Ses} {k : Nat} {s : Ses} (h : l[k]? = some s) (hv : valid s = false) : refCheck l = false := by
  unfold refCheck
  rw [if_neg]
  intro ha
  rw [List.all_eq_true.1 ha s (List.mem_of_getElem? h)] at hv
  cases hv
theorem all_yes {l : List Ses} (h : ∀ (j : Nat) (e : Ses), l[j]? = some e → valid e = true) : refCheck l = rises l := by
  unfold refCheck
  rw [if_pos (List.all_eq_true.2 fun s hs => by obtain ⟨j, hj⟩ := List.getElem?_of_mem hs; exact h j s hj)]

/-! One more, as the document's answer makes it. -/
def ahead (a : An.Ans) (s : List Ses × Bool) (x : Ses) : List Ses × Bool := if s.2 = false ∧ a.client ≤ x.client then (s.1 ++ [of a], true) else s
def wstep (a : An.Ans) (s : List Ses × Bool) (x : Ses) : List Ses × Bool := if x.client ≠ a.client then ((ahead a s x).1 ++ [x], (ahead a s x).2) else ahead a s x
def wend (a : An.Ans) (s : List Ses × Bool) : List Ses := if s.2 = true then s.1 else s.1 ++ [of a]
def refPut (l : List Ses) (a : An.Ans) : List Ses := wend a (l.foldl (wstep a) ([], false))
theorem wstep_take {l : List Ses} {k : Nat} {x : Ses} (h : l[k]? = some x) (a : An.Ans) : (l.take (k + 1)).foldl (wstep a) ([], false) = wstep a ((l.take k).foldl (wstep a) ([], false)) x := by
  rw [List.take_add_one, h, List.foldl_append]; rfl
theorem w1 (s : List Ses) (a : An.Ans) (x : Ses) (h : x.client = a.client) : wstep a (s, true) x = (s, true) := by unfold wstep ahead; simp [h]
theorem w2 (s : List Ses) (a : An.Ans) (x : Ses) (h : ¬ x.client = a.client) : wstep a (s, true) x = (s ++ [x], true) := by unfold wstep ahead; simp [h]
theorem w3 (s : List Ses) (a : An.Ans) (x : Ses) (h : x.client = a.client) : wstep a (s, false) x = (s ++ [of a], true) := by unfold wstep ahead; simp [h]
theorem w4 (s : List Ses) (a : An.Ans) (x : Ses) (h1 : a.client ≤ x.client) (h : ¬ x.client = a.client) : wstep a (s, false) x = (s ++ [of a] ++ [x], true) := by unfold wstep ahead; simp [h, h1]
theorem w5 (s : List Ses) (a : An.Ans) (x : Ses) (h1 : ¬ a.client ≤ x.client) : wstep a (s, false) x = (s ++ [x], false) := by unfold wstep ahead; rw [if_pos (by omega), if_neg (fun h => h1 h.2)]

theorem fro_less {s : Ses} {c : Int} (r : List Ses) (h : s.client < c) : fro (s :: r) c = fro r c + 1 ∧ upto (s :: r) c = upto r c + 1 := by
  have h1 : is c s = false := by unfold is; simp; omega
  have h2 : past c s = false := by unfold past; simp; omega
  unfold fro upto
  rw [List.findIdx_cons, List.findIdx_cons, h1, h2, cond_false, cond_false, List.length_cons]
  by_cases hh : r.findIdx (is c) < r.length
  · rw [if_pos hh, if_pos (by omega), if_pos hh, if_pos (by omega)]; exact ⟨rfl, rfl⟩
  · rw [if_neg hh, if_neg (by omega), if_neg hh, if_neg (by omega)]; exact ⟨rfl, rfl⟩
theorem fro_same {s : Ses} {c : Int} (r : List Ses) (h : s.client = c) : fro (s :: r) c = 0 ∧ upto (s :: r) c = 1 := by
  have h1 : is c s = true := by unfold is; simp [h]
  unfold fro upto
  rw [List.findIdx_cons, h1, cond_true, List.length_cons, if_pos (by omega), if_pos (by omega)]
  exact ⟨rfl, rfl⟩
theorem fro_more {s : Ses} {c : Int} {r : List Ses} (hp : Asc (s :: r)) (h : c < s.client) : fro (s :: r) c = 0 ∧ upto (s :: r) c = 0 := by
  have h2 : past c s = true := by unfold past; simp [h]
  have h3 := (ix_none (p := is c) (l := s :: r) fun j e he => by
    have hm := List.mem_of_getElem? he
    unfold is
    rcases List.mem_cons.1 hm with rfl | hm
    · simp; omega
    · have := (List.pairwise_cons.1 hp).1 e hm; simp; omega).2
  unfold fro upto
  rw [h3, if_neg (by omega), if_neg (by omega), List.findIdx_cons, h2]
  exact ⟨rfl, rfl⟩
theorem put_less {s : Ses} {a : An.Ans} (r : List Ses) (h : s.client < a.client) : put (s :: r) a = s :: put r a := by
  unfold put
  rw [(fro_less r h).1, (fro_less r h).2]
  rfl
theorem wstep_done (a : An.Ans) : ∀ (l out : List Ses), (∀ x ∈ l, a.client < x.client) → l.foldl (wstep a) (out, true) = (out ++ l, true)
  | [], out, _ => by simp
  | x :: r, out, h => by
    have hx := h x (by simp)
    rw [List.foldl_cons, w2 _ _ _ (by omega), wstep_done a r _ fun b hb => h b (List.mem_cons_of_mem _ hb)]
    simp
theorem wstep_put (a : An.Ans) : ∀ (l out : List Ses), Asc l → wend a (l.foldl (wstep a) (out, false)) = out ++ put l a
  | [], out, _ => by simp [wend, put]
  | x :: r, out, hp => by
    obtain ⟨h1, h2⟩ := List.pairwise_cons.1 hp
    rw [List.foldl_cons]
    by_cases ha : x.client < a.client
    · rw [w5 _ _ _ (by omega), wstep_put a r _ h2, put_less r ha]
      simp
    · by_cases hx : x.client = a.client
      · rw [w3 _ _ _ hx, wstep_done a r _ fun b hb => by have := h1 b hb; omega]
        unfold wend put
        rw [(fro_same r hx).1, (fro_same r hx).2]
        simp
      · rw [w4 _ _ _ (by omega) hx, wstep_done a r _ fun b hb => by have := h1 b hb; omega]
        unfold wend put
        rw [(fro_more hp (by omega)).1, (fro_more hp (by omega)).2]
        simp
theorem refPut_eq (l : List Ses) (a : An.Ans) (hp : Asc l) : refPut l a = put l a := by
  have := wstep_put a l [] hp
  simpa [refPut] using this

/-! What was put is found. -/
theorem put_found (l : List Ses) (a : An.Ans) : has (put l a) a.client = true ∧ get (put l a) a.client = of a := by
  have hle : fro l a.client ≤ l.length := Nat.le_trans (fro_le l a.client) (upto_le l a.client)
  have hlen : (l.take (fro l a.client)).length = fro l a.client := by rw [List.length_take]; omega
  have hat : (put l a)[fro l a.client]? = some (of a) := by
    unfold put
    rw [List.append_assoc, List.getElem?_append_right (by omega), hlen, Nat.sub_self]
    rfl
  have hb : ∀ (j : Nat) (e : Ses), j < fro l a.client → (put l a)[j]? = some e → is a.client e = false := by
    intro j e hj he
    unfold put at he
    rw [List.append_assoc, List.getElem?_append_left (by omega), List.getElem?_take, if_pos hj] at he
    obtain ⟨hlt, rfl⟩ := List.getElem?_eq_some_iff.1 he
    unfold fro at hj
    split at hj
    · simpa using List.not_of_lt_findIdx hj
    · rename_i hn
      have h2 : l.findIdx (is a.client) = l.length := Nat.le_antisymm (idx_le _ _) (by omega)
      exact List.findIdx_eq_length.1 h2 _ (List.getElem_mem hlt)
  have hix := (ix_found hat (by simp [is, of]) hb).2
  refine ⟨?_, ?_⟩
  · unfold has
    rw [hix]
    exact decide_eq_true (List.getElem?_eq_some_iff.1 hat).1
  · unfold get
    rw [hix, hat]
    rfl
theorem put_len (l : List Ses) (a : An.Ans) : (put l a).length ≤ l.length + 1 := by
  have h1 := fro_le l a.client
  have h2 := upto_le l a.client
  unfold put
  simp
  omega
theorem which_put (l : List Ses) (a : An.Ans) : which (put l a) a.client a.seq = (1, a) := by
  obtain ⟨h1, h2⟩ := put_found l a
  unfold which
  rw [h1, h2, if_neg (by simp [of]), if_pos (show a.seq = (of a).seq from rfl)]
  rfl
theorem which_less (l : List Ses) (a : An.Ans) (q : Int) (h : q < a.seq) : which (put l a) a.client q = (2, An.zero) := by
  obtain ⟨h1, h2⟩ := put_found l a
  unfold which
  rw [h1, h2, if_neg (by simp [of]; omega), if_neg (by simp [of]; omega)]

/-! Whether there are too many, or too long ones. -/
def long (s : Ses) : Bool := decide (200 < s.last.val.length)
def large (l : List Ses) : Bool := (l.take 40).any long || decide (40 < l.length)
theorem large_yes {l : List Ses} {k : Nat} {s : Ses} (he : l[k]? = some s) (hk : k < 40) (h : long s = true) : large l = true := by
  unfold large
  rw [show (l.take 40).any long = true from List.any_eq_true.2 ⟨s, List.mem_of_getElem? (by rw [List.getElem?_take, if_pos hk]; exact he), h⟩]
  rfl
theorem large_no {l : List Ses} (h : ∀ (k : Nat) (e : Ses), k < 40 → l[k]? = some e → long e = false) : large l = decide (40 < l.length) := by
  unfold large
  rw [show (l.take 40).any long = false from List.any_eq_false.2 fun e he => by
    obtain ⟨k, hk⟩ := List.getElem?_of_mem he
    rw [List.getElem?_take] at hk
    split at hk
    · rename_i h40; rw [h k e h40 hk]; simp
    · cases hk]
  rfl
theorem small {l : List Ses} (h : large l = false) : l.length ≤ 40 ∧ ∀ e ∈ l, e.last.val.length ≤ 200 := by
  unfold large at h
  rw [Bool.or_eq_false_iff] at h
  have h40 : l.length ≤ 40 := by have := of_decide_eq_false h.2; omega
  refine ⟨h40, fun e he => ?_⟩
  have := List.any_eq_false.1 h.1 e (by rw [List.take_of_length_le h40]; exact he)
  unfold long at this
  simpa using this

end Se
end Go.Proofs.YtammfmmpldahhaaGreat


namespace Go.Proofs.YtammfmmpldahhaaGreat

/-- A state. -/
structure Mg.St where
  schema : Int
  pairs : List Kv.Item
  sess : List Se.Ses
deriving DecidableEq
namespace Mg

def zero : St := ⟨0, [], []⟩
/-- An answer tells a revision. -/
def tells (s : Se.Ses) : Bool := s.last.rev != 0
def pairsOk (schema : Int) (l : List Kv.Item) : Bool := if schema = 1 then Kv.refCheck l else if schema = 2 then Kv.refCheck2 l else false
def sessOk (schema : Int) (l : List Se.Ses) : Bool := if schema = 1 ∧ l.any tells = true then false else Se.refCheck l
def check (s : St) : Bool := pairsOk s.schema s.pairs && sessOk s.schema s.sess
/-- A pair with that revision; a state all of whose pairs have it, in a schema. -/
def rev (r : Int) (p : Kv.Item) : Kv.Item := ⟨p.key, p.val, r⟩
def revd (s : St) (schema r : Int) : St := ⟨schema, s.pairs.map (rev r), s.sess⟩
def up (s : St) : St × Int := if check s = false then (zero, 3) else if s.schema = 2 then (zero, 12) else (revd s 2 1, 0)
def large (s : St) : Bool := Se.large s.sess || Kv.large s.pairs

theorem plain_rev (r : Int) (l : List Kv.Item) : Kv.plain (l.map (rev r)) = Kv.plain l := by
  unfold Kv.plain
  rw [List.map_map]
  rfl
theorem plain_old {l : List Kv.Item} (h : Kv.refCheck l = true) : Kv.plain l = l := by
  unfold Kv.refCheck at h
  split at h
  · rename_i ha
    unfold Kv.plain
    conv => rhs; rw [← List.map_id l]
    refine List.map_congr_left fun p hp => ?_
    have hv := List.all_eq_true.1 ha p hp
    unfold Kv.valid at hv
    simp only [Bool.and_eq_true, beq_iff_eq] at hv
    obtain ⟨k, v, r⟩ := p
    have h0 : r = 0 := hv.2.2
    subst h0
    rfl
  · cases h
/-- A migrated list of pairs may be. -/
theorem pairs_up {l : List Kv.Item} (h : Kv.refCheck l = true) : Kv.refCheck2 (l.map (rev 1)) = true := by
  rw [Kv.inRev_yes, plain_rev, plain_old h]
  · exact h
  · intro j e _ he
    obtain ⟨p, _, rfl⟩ := List.mem_map.1 (List.mem_of_getElem? he)
    rfl
theorem schema_of {s : St} (h : check s = true) : s.schema = 1 ∨ s.schema = 2 := by
  by_cases h1 : s.schema = 1
  · exact .inl h1
  · by_cases h2 : s.schema = 2
    · exact .inr h2
    · unfold check pairsOk at h
      rw [if_neg h1, if_neg h2] at h
      cases h
/-- A migrated state may be. -/
theorem check_up {s : St} (h : check s = true) (h2 : s.schema ≠ 2) : check (revd s 2 1) = true := by
  obtain h1 : s.schema = 1 := (schema_of h).resolve_right h2
  unfold check pairsOk sessOk at h
  rw [h1, if_pos rfl, Bool.and_eq_true] at h
  have hp := pairs_up h.1
  have hs : Se.refCheck s.sess = true := by
    have := h.2
    split at this
    · cases this
    · exact this
  unfold check pairsOk sessOk
  rw [show (revd s 2 1).schema = 2 from rfl, if_neg (by decide), if_pos rfl, show (revd s 2 1).pairs = s.pairs.map (rev 1) from rfl, show (revd s 2 1).sess = s.sess from rfl, hp, if_neg (fun h => absurd h.1 (by decide)), hs]
  rfl
theorem up_no {s : St} (h : check s = false) : up s = (zero, 3) := if_pos h
theorem up_late {s : St} (h : check s = true) (h2 : s.schema = 2) : up s = (zero, 12) := by
  unfold up
  rw [if_neg (by rw [h]; decide), if_pos h2]
theorem up_yes {s : St} (h : check s = true) (h2 : s.schema ≠ 2) : up s = (revd s 2 1, 0) := by
  unfold up
  rw [if_neg (by rw [h]; decide), if_neg h2]
/-- .. and it cannot be migrated again. -/
theorem up_again {s : St} (h : check s = true) (h2 : s.schema ≠ 2) : up (revd s 2 1) = (zero, 12) := up_late (check_up h h2) rfl
theorem revd_revd (s : St) (a b c d : Int) : revd (revd s a b) c d = revd s c d := by
  unfold revd
  simp only [List.map_map]
  rfl
/-- As the document goes: the sessions one by one, behind the others. -/
theorem tells_no {l : List Se.Ses} {k : Nat} {e : Se.Ses} (h : l[k]? = some e) (ht : tells e = true) : l.any tells = true := List.any_eq_true.2 ⟨e, List.mem_of_getElem? h, ht⟩
theorem tells_yes {l : List Se.Ses} (h : ∀ (j : Nat) (e : Se.Ses), l[j]? = some e → tells e = false) : l.any tells = false := by
  rw [List.any_eq_false]
  intro e he
  obtain ⟨j, hj⟩ := List.getElem?_of_mem he
  rw [h j e hj]
  decide
theorem large_no {s : St} (h : large s = false) : Se.large s.sess = false ∧ Kv.large s.pairs = false := by
  unfold large at h
  rwa [Bool.or_eq_false_iff] at h

end Mg
end Go.Proofs.YtammfmmpldahhaaGreat
