/- Configurations, plain: what may be, who is a member at an index, majorities, changes, trimming. No program is spoken of. -/
namespace Go.Proofs.Ytimlfiomoalieaa

/-- A configuration: the index that it begins at, and its members. -/
structure Cf.Conf where
  frm : Int
  mem : List Int
deriving DecidableEq
namespace Cf

/-- Numbers above b, strictly ascending, up to 9. -/
def asc : Int → List Int → Bool
  | _, [] => true
  | b, x :: r => decide (b < x) && decide (x ≤ 9) && asc x r
def mems (l : List Int) : Bool := decide (0 < l.length) && asc 0 l
/-- Configurations that begin above b, strictly ascending. -/
def ascC : Int → List Conf → Bool
  | _, [] => true
  | b, c :: r => decide (b < c.frm) && decide (c.frm ≤ 4294967296) && mems c.mem && ascC c.frm r
def check : List Conf → Bool
  | [] => false
  | c :: r => decide (c.frm = 1) && ascC 0 (c :: r)

/-- Members, by the definition. -/
structure Mems (l : List Int) : Prop where
  some : l ≠ []
  up : l.Pairwise (· < ·)
  low : ∀ x ∈ l, 1 ≤ x
  high : ∀ x ∈ l, x ≤ 9
/-- Valid configurations, by the definition. -/
structure Valid (l : List Conf) : Prop where
  first : ∃ c r, l = c :: r ∧ c.frm = 1
  up : l.Pairwise fun a b => a.frm < b.frm
  high : ∀ c ∈ l, c.frm ≤ 4294967296
  mems : ∀ c ∈ l, Mems c.mem

theorem asc_iff : ∀ (l : List Int) (b : Int), asc b l = true ↔ (∀ x ∈ l, b < x) ∧ (∀ x ∈ l, x ≤ 9) ∧ l.Pairwise (· < ·)
  | [], b => by simp [asc]
  | x :: r, b => by
    have ih := asc_iff r x
    simp only [asc, Bool.and_eq_true, decide_eq_true_eq, List.mem_cons, forall_eq_or_imp, List.pairwise_cons]
    rw [ih]
    constructor
    · rintro ⟨⟨h1, h2⟩, h3, h4, h5⟩
      exact ⟨⟨h1, fun y hy => by have := h3 y hy; omega⟩, ⟨h2, h4⟩, h3, h5⟩
    · rintro ⟨⟨h1, _⟩, ⟨h2, h4⟩, h3, h5⟩
      exact ⟨⟨h1, h2⟩, h3, h4, h5⟩
theorem mems_iff (l : List Int) : mems l = true ↔ Mems l := by
  simp only [mems, Bool.and_eq_true, decide_eq_true_eq, asc_iff]
  constructor
  · rintro ⟨h0, h1, h2, h3⟩
    exact ⟨by intro h; simp [h] at h0, h3, fun x hx => by have := h1 x hx; omega, h2⟩
  · rintro ⟨h0, h3, h1, h2⟩
    exact ⟨List.length_pos_iff.2 h0, fun x hx => by have := h1 x hx; omega, h2, h3⟩
theorem ascC_iff : ∀ (l : List Conf) (b : Int), ascC b l = true ↔ (∀ c ∈ l, b < c.frm) ∧ (∀ c ∈ l, c.frm ≤ 4294967296) ∧ (∀ c ∈ l, Mems c.mem) ∧ l.Pairwise fun a b => a.frm < b.frm
  | [], b => by simp [ascC]
  | x :: r, b => by
    have ih := ascC_iff r x.frm
    simp only [ascC, Bool.and_eq_true, decide_eq_true_eq, List.mem_cons, forall_eq_or_imp, List.pairwise_cons, mems_iff]
    rw [ih]
    constructor
    · rintro ⟨⟨⟨h1, h2⟩, h6⟩, h3, h4, h7, h5⟩
      exact ⟨⟨h1, fun y hy => by have := h3 y hy; omega⟩, ⟨h2, h4⟩, ⟨h6, h7⟩, h3, h5⟩
    · rintro ⟨⟨h1, _⟩, ⟨h2, h4⟩, ⟨h6, h7⟩, h3, h5⟩
      exact ⟨⟨⟨h1, h2⟩, h6⟩, h3, h4, h7, h5⟩
theorem check_iff (l : List Conf) : check l = true ↔ Valid l := by
  cases l with
  | nil => simp only [check, Bool.false_eq_true, false_iff]; rintro ⟨⟨c, r, h, _⟩, _⟩; cases h
  | cons c r =>
    simp only [check, Bool.and_eq_true, decide_eq_true_eq, ascC_iff]
    constructor
    · rintro ⟨h0, _, h2, h3, h4⟩
      exact ⟨⟨c, r, rfl, h0⟩, h4, h2, h3⟩
    · rintro ⟨⟨c', r', he, h0⟩, h4, h2, h3⟩
      simp only [List.cons.injEq] at he
      obtain ⟨rfl, rfl⟩ := he
      refine ⟨h0, fun x hx => ?_, h2, h3, h4⟩
      rcases List.mem_cons.1 hx with rfl | hx
      · omega
      · have := (List.pairwise_cons.1 h4).1 x hx; omega

/-- The members at an index: the last that begins at most there. -/
def atFrom (o : List Int) (l : List Conf) (i : Int) : List Int := l.foldl (fun o c => if c.frm ≤ i then c.mem else o) o
def at' (l : List Conf) (i : Int) : List Int := atFrom [] l i
/-- How many begin at most at i. -/
def cnt (l : List Conf) (i : Int) : Nat := l.countP fun c => decide (c.frm ≤ i)
def below (l : List Conf) (i : Int) : Nat := l.countP fun c => decide (c.frm < i)

theorem cnt_le (l : List Conf) (i : Int) : cnt l i ≤ l.length := List.countP_le_length
theorem below_le (l : List Conf) (i : Int) : below l i ≤ l.length := List.countP_le_length
theorem cnt_iff : ∀ (l : List Conf) (i : Int), (l.Pairwise fun a b => a.frm < b.frm) → ∀ (k : Nat) (c : Conf), l[k]? = some c → (c.frm ≤ i ↔ k < cnt l i)
  | [], i, _, k, c, h => by simp at h
  | a :: r, i, hp, k, c, h => by
    obtain ⟨h1, h2⟩ := List.pairwise_cons.1 hp
    by_cases ha : a.frm ≤ i
    · have e : cnt (a :: r) i = cnt r i + 1 := by unfold cnt; rw [List.countP_cons_of_pos (by simpa using ha)]
      cases k with
      | zero => simp at h; subst h; rw [e]; exact ⟨fun _ => by omega, fun _ => ha⟩
      | succ k => rw [e, cnt_iff r i h2 k c (by simpa using h)]; omega
    · have e0 : cnt r i = 0 := by
        unfold cnt
        rw [List.countP_eq_zero]
        intro x hx
        have := h1 x hx
        simp; omega
      have e : cnt (a :: r) i = 0 := by unfold cnt; rw [List.countP_cons_of_neg (by simpa using ha)]; exact e0
      rw [e]
      refine ⟨fun hc => ?_, fun h => by omega⟩
      cases k with
      | zero => simp at h; subst h; omega
      | succ k => have := (cnt_iff r i h2 k c (by simpa using h)).1 hc; omega
theorem below_iff (l : List Conf) (i : Int) (hp : l.Pairwise fun a b => a.frm < b.frm) (k : Nat) (c : Conf) (h : l[k]? = some c) : (c.frm < i ↔ k < below l i) := by
  have e : below l i = cnt l (i - 1) := by
    unfold below cnt
    congr 1
    funext c
    exact decide_eq_decide.2 (by omega)
  rw [e, ← cnt_iff l (i - 1) hp k c h]
  omega
/-- What BinarySearchFunc finds, and where the configuration at an index stands. -/
def found (l : List Conf) (i : Int) : Bool := (l[below l i]?).any fun c => decide (c.frm = i)
theorem found_cnt (l : List Conf) (i : Int) (hp : l.Pairwise fun a b => a.frm < b.frm) : cnt l i = below l i + (if found l i then 1 else 0) := by
  have hb := below_le l i
  have hc := cnt_le l i
  have hbc : below l i ≤ cnt l i := by
    rcases Nat.lt_or_ge (cnt l i) (below l i) with h | h
    · obtain ⟨c, hk⟩ : ∃ c, l[cnt l i]? = some c := ⟨_, List.getElem?_eq_getElem (by omega)⟩
      have := (below_iff l i hp _ c hk).2 h
      have := (cnt_iff l i hp _ c hk).1 (by omega)
      omega
    · exact h
  unfold found
  cases hk : l[below l i]? with
  | none => have := List.getElem?_eq_none_iff.1 hk; simp; omega
  | some c =>
    have h1 := below_iff l i hp _ c hk
    have h2 := cnt_iff l i hp _ c hk
    by_cases he : c.frm = i
    · simp only [Option.any_some, he, decide_true, if_true]
      have h3 := h2.1 (by omega)
      rcases Nat.lt_or_ge (below l i + 1) (cnt l i) with h | h
      · obtain ⟨d, hd⟩ : ∃ d, l[below l i + 1]? = some d := ⟨_, List.getElem?_eq_getElem (by omega)⟩
        have h4 := (cnt_iff l i hp _ d hd).2 h
        obtain ⟨q1, e1⟩ := List.getElem?_eq_some_iff.1 hk
        obtain ⟨q2, e2⟩ := List.getElem?_eq_some_iff.1 hd
        have := List.pairwise_iff_getElem.1 hp _ _ q1 q2 (Nat.lt_succ_self _)
        rw [e1, e2] at this
        omega
      · omega
    · simp only [Option.any_some, he, decide_false, Bool.false_eq_true, if_false]
      have h3 : ¬ c.frm < i := fun h => by have := h1.1 h; omega
      have h4 : ¬ below l i < cnt l i := fun h => by have := h2.2 h; omega
      omega

theorem at_eq : ∀ (l : List Conf) (i : Int) (o : List Int), (l.Pairwise fun a b => a.frm < b.frm) → atFrom o l i = if cnt l i = 0 then o else ((l[cnt l i - 1]?).map (·.mem)).getD []
  | [], i, o, _ => by simp [atFrom, cnt]
  | a :: r, i, o, hp => by
    obtain ⟨h1, h2⟩ := List.pairwise_cons.1 hp
    by_cases ha : a.frm ≤ i
    · have e : cnt (a :: r) i = cnt r i + 1 := by unfold cnt; rw [List.countP_cons_of_pos (by simpa using ha)]
      show atFrom (if a.frm ≤ i then a.mem else o) r i = _
      rw [if_pos ha, at_eq r i a.mem h2, e, if_neg (show ¬ cnt r i + 1 = 0 by omega), Nat.add_sub_cancel]
      by_cases h0 : cnt r i = 0
      · rw [if_pos h0, h0]; rfl
      · rw [if_neg h0]
        obtain ⟨k, hk⟩ : ∃ k, cnt r i = k + 1 := ⟨cnt r i - 1, by omega⟩
        rw [hk]; rfl
    · have e0 : cnt r i = 0 := by
        unfold cnt
        rw [List.countP_eq_zero]
        intro x hx
        have := h1 x hx
        simp; omega
      have e : cnt (a :: r) i = 0 := by unfold cnt; rw [List.countP_cons_of_neg (by simpa using ha)]; exact e0
      show atFrom (if a.frm ≤ i then a.mem else o) r i = _
      rw [if_neg ha, at_eq r i o h2, e0, e, if_pos rfl, if_pos rfl]

theorem Valid.cnt_pos {l : List Conf} (h : Valid l) {i : Int} (hi : 1 ≤ i) : 0 < cnt l i := by
  obtain ⟨c, r, rfl, h1⟩ := h.first
  exact (cnt_iff _ i h.up 0 c rfl).1 (by omega)
/-- The configuration at an index. -/
theorem Valid.at {l : List Conf} (h : Valid l) {i : Int} (hi : 1 ≤ i) : ∃ c, l[cnt l i - 1]? = some c ∧ at' l i = c.mem := by
  have h0 := h.cnt_pos hi
  have h1 := cnt_le l i
  obtain ⟨c, hc⟩ : ∃ c, l[cnt l i - 1]? = some c := ⟨_, List.getElem?_eq_getElem (by omega)⟩
  refine ⟨c, hc, ?_⟩
  unfold at'
  rw [at_eq l i [] h.up, if_neg (by omega), hc]
  rfl
theorem Valid.frm_pos {l : List Conf} (h : Valid l) (c : Conf) (hc : c ∈ l) : 1 ≤ c.frm := by
  obtain ⟨d, r, rfl, h1⟩ := h.first
  rcases List.mem_cons.1 hc with rfl | hc
  · omega
  · have := (List.pairwise_cons.1 h.up).1 c hc; omega

/-- What Trim leaves. -/
def one : List Conf → List Conf
  | [] => []
  | c :: r => ⟨1, c.mem⟩ :: r
def trim (l : List Conf) (i : Int) : List Conf := one (l.drop (cnt l i - 1))
theorem atFrom_append (o : List Int) (l m : List Conf) (i : Int) : atFrom o (l ++ m) i = atFrom (atFrom o l i) m i := by unfold atFrom; rw [List.foldl_append]
theorem Valid.trim {l : List Conf} (h : Valid l) {i : Int} (hi : 1 ≤ i) :
    Valid (trim l i) ∧ (trim l i).length ≤ l.length ∧ (∀ c, (trim l i)[1]? = some c → i < c.frm) ∧ ∀ j, i ≤ j → at' (trim l i) j = at' l j := by
  obtain ⟨c, hc, _⟩ := h.at hi
  have h0 := h.cnt_pos hi
  obtain ⟨q, eq⟩ := List.getElem?_eq_some_iff.1 hc
  have hd : l.drop (cnt l i - 1) = c :: l.drop (cnt l i) := by
    rw [List.drop_eq_getElem_cons q, eq]
    congr 2
    omega
  have e : Cf.trim l i = ⟨1, c.mem⟩ :: l.drop (cnt l i) := by unfold Cf.trim; rw [hd]; rfl
  have hcm : c ∈ l := List.mem_of_getElem? hc
  have hci : c.frm ≤ i := (cnt_iff l i h.up _ c hc).2 (by omega)
  have hpd : (c :: l.drop (cnt l i)).Pairwise fun a b => a.frm < b.frm := by rw [← hd]; exact h.up.sublist (List.drop_sublist _ _)
  obtain ⟨hp1, hp2⟩ := List.pairwise_cons.1 hpd
  have hc1 := h.frm_pos c hcm
  rw [e]
  refine ⟨⟨⟨_, _, rfl, rfl⟩, List.pairwise_cons.2 ⟨fun d hd => by have := hp1 d hd; simp only; omega, hp2⟩, fun d hd => ?_, fun d hd => ?_⟩, ?_, ?_, ?_⟩
  · rcases List.mem_cons.1 hd with rfl | hd
    · simp
    · exact h.high d (List.mem_of_mem_drop hd)
  · rcases List.mem_cons.1 hd with rfl | hd
    · exact h.mems c hcm
    · exact h.mems d (List.mem_of_mem_drop hd)
  · have := cnt_le l i
    simp only [List.length_cons, List.length_drop]
    omega
  · intro d hd
    rw [List.getElem?_cons_succ, List.getElem?_drop, Nat.add_zero] at hd
    have := cnt_iff l i h.up _ d hd
    omega
  · intro j hj
    have e2 : at' l j = atFrom c.mem (l.drop (cnt l i)) j := by
      unfold at'
      conv => lhs; rw [← List.take_append_drop (cnt l i - 1) l, hd, atFrom_append]
      show atFrom (if c.frm ≤ j then c.mem else _) _ j = _
      rw [if_pos (by omega)]
    rw [e2]
    show atFrom (if (1 : Int) ≤ j then c.mem else _) _ j = _
    rw [if_pos (by omega)]

/-- Two strictly ascending lists of the same numbers are one. -/
theorem sorted_ext : ∀ l m : List Int, l.Pairwise (· < ·) → m.Pairwise (· < ·) → (∀ x, x ∈ l ↔ x ∈ m) → l = m
  | [], [], _, _, _ => rfl
  | [], y :: m, _, _, h => by have := (h y).2 (by simp); simp at this
  | x :: l, [], _, _, h => by have := (h x).1 (by simp); simp at this
  | x :: l, y :: m, hl, hm, h => by
    obtain ⟨a1, a2⟩ := List.pairwise_cons.1 hl
    obtain ⟨b1, b2⟩ := List.pairwise_cons.1 hm
    have e : x = y := by
      rcases List.mem_cons.1 ((h x).1 (by simp)) with e | e
      · exact e
      · rcases List.mem_cons.1 ((h y).2 (by simp)) with f | f
        · exact f.symm
        · have := b1 x e; have := a1 y f; omega
    subst e
    rw [sorted_ext l m a2 b2 fun z => ?_]
    constructor
    · intro hz
      rcases List.mem_cons.1 ((h z).1 (List.mem_cons_of_mem _ hz)) with e | e
      · have := a1 z hz; omega
      · exact e
    · intro hz
      rcases List.mem_cons.1 ((h z).2 (List.mem_cons_of_mem _ hz)) with e | e
      · have := b1 z hz; omega
      · exact e

/-- The numbers 1 to k. -/
def upTo (k : Nat) : List Int := (List.range k).map fun i : Nat => (i : Int) + 1
theorem upTo_succ (k : Nat) : upTo (k + 1) = upTo k ++ [(k : Int) + 1] := by simp [upTo, List.range_succ]
theorem mem_upTo (k : Nat) (x : Int) : x ∈ upTo k ↔ 1 ≤ x ∧ x ≤ k := by
  simp only [upTo, List.mem_map, List.mem_range]
  constructor
  · rintro ⟨i, hi, rfl⟩; omega
  · rintro ⟨h1, h2⟩; exact ⟨(x - 1).toNat, by omega, by omega⟩
theorem upTo_up (k : Nat) : (upTo k).Pairwise (· < ·) := by
  unfold upTo
  rw [List.pairwise_map]
  exact (List.pairwise_lt_range).imp fun h => by omega

/-- How many members are less than a number: where it is searched. -/
def place (l : List Int) (x : Int) : Nat := l.countP fun y => decide (y < x)
theorem place_iff : ∀ (l : List Int) (x : Int), l.Pairwise (· < ·) → ∀ (k : Nat) (y : Int), l[k]? = some y → (y < x ↔ k < place l x)
  | [], x, _, k, y, h => by simp at h
  | a :: r, x, hp, k, y, h => by
    obtain ⟨h1, h2⟩ := List.pairwise_cons.1 hp
    by_cases ha : a < x
    · have e : place (a :: r) x = place r x + 1 := by unfold place; rw [List.countP_cons_of_pos (by simpa using ha)]
      cases k with
      | zero => simp at h; subst h; rw [e]; exact ⟨fun _ => by omega, fun _ => ha⟩
      | succ k => rw [e, place_iff r x h2 k y (by simpa using h)]; omega
    · have e0 : place r x = 0 := by
        unfold place
        rw [List.countP_eq_zero]
        intro z hz
        have := h1 z hz
        simp; omega
      have e : place (a :: r) x = 0 := by unfold place; rw [List.countP_cons_of_neg (by simpa using ha)]; exact e0
      rw [e]
      refine ⟨fun hc => ?_, fun h => by omega⟩
      cases k with
      | zero => simp at h; subst h; omega
      | succ k => have := (place_iff r x h2 k y (by simpa using h)).1 hc; omega
theorem place_le (l : List Int) (x : Int) : place l x ≤ l.length := List.countP_le_length
theorem place_at {l : List Int} (hp : l.Pairwise (· < ·)) {x : Int} (hx : x ∈ l) : l[place l x]? = some x := by
  obtain ⟨k, hk⟩ := List.getElem?_of_mem hx
  have h1 := place_iff l x hp k x hk
  obtain ⟨q, e⟩ := List.getElem?_eq_some_iff.1 hk
  have h2 : place l x ≤ k := by omega
  rcases Nat.lt_or_eq_of_le h2 with h3 | h3
  · obtain ⟨y, hy⟩ : ∃ y, l[place l x]? = some y := ⟨_, List.getElem?_eq_getElem (by omega)⟩
    have h4 := place_iff l x hp _ y hy
    obtain ⟨q2, e2⟩ := List.getElem?_eq_some_iff.1 hy
    have := List.pairwise_iff_getElem.1 hp _ _ q2 q h3
    rw [e, e2] at this
    omega
  · rw [h3]; exact hk
theorem take_lt {l : List Int} (hp : l.Pairwise (· < ·)) {x y : Int} (hy : y ∈ l.take (place l x)) : y < x := by
  obtain ⟨k, hk⟩ := List.getElem?_of_mem hy
  rw [List.getElem?_take] at hk
  split at hk
  · rename_i h; exact (place_iff l x hp k y hk).2 h
  · cases hk
theorem drop_ge {l : List Int} (hp : l.Pairwise (· < ·)) {x y : Int} (hy : y ∈ l.drop (place l x)) : x ≤ y := by
  obtain ⟨k, hk⟩ := List.getElem?_of_mem hy
  rw [List.getElem?_drop] at hk
  have := place_iff l x hp _ y hk
  omega

def added (l : List Int) (node : Int) : List Int := (upTo 9).filter fun n => n == node || l.contains n
def dropped (l : List Int) (node : Int) : List Int := l.filter fun n => n != node
/-- The members with a change; none: it may not be. -/
def changed (l : List Int) (kind node : Int) : List Int :=
  if kind = 7 ∧ 1 ≤ node ∧ node ≤ 9 ∧ node ∉ l then added l node else if kind = 8 ∧ node ∈ l then dropped l node else []

theorem insert_eq {l : List Int} (h : Mems l) {x : Int} (h1 : 1 ≤ x) (h2 : x ≤ 9) (h3 : x ∉ l) : l.take (place l x) ++ x :: l.drop (place l x) = added l x := by
  have hge : ∀ y ∈ l.drop (place l x), x < y := fun y hy => by
    have := drop_ge h.up hy
    have : y ≠ x := fun e => h3 (e ▸ List.mem_of_mem_drop hy)
    omega
  refine sorted_ext _ _ ?_ ((upTo_up 9).filter _) fun y => ?_
  · rw [List.pairwise_append, List.pairwise_cons]
    refine ⟨h.up.sublist (List.take_sublist _ _), ⟨hge, h.up.sublist (List.drop_sublist _ _)⟩, fun a ha b hb => ?_⟩
    have ha' := take_lt h.up ha
    rcases List.mem_cons.1 hb with rfl | hb
    · exact ha'
    · have := hge b hb; omega
  · have hm : y ∈ l ↔ y ∈ l.take (place l x) ∨ y ∈ l.drop (place l x) := by rw [← List.mem_append, List.take_append_drop]
    simp only [added, List.mem_append, List.mem_cons, List.mem_filter, mem_upTo, Bool.or_eq_true, beq_iff_eq, List.contains_iff_mem]
    rw [hm]
    constructor
    · intro hy
      refine ⟨?_, by rcases hy with h | h | h <;> simp [h]⟩
      rcases hy with h' | h' | h'
      · exact ⟨h.low y (hm.2 (.inl h')), h.high y (hm.2 (.inl h'))⟩
      · subst h'; exact ⟨h1, h2⟩
      · exact ⟨h.low y (hm.2 (.inr h')), h.high y (hm.2 (.inr h'))⟩
    · rintro ⟨_, hy⟩
      rcases hy with h | h | h <;> simp [h]
theorem delete_eq {l : List Int} (hp : l.Pairwise (· < ·)) {x : Int} (hx : x ∈ l) : l.take (place l x) ++ l.drop (place l x + 1) = dropped l x := by
  have hat := place_at hp hx
  obtain ⟨q, e⟩ := List.getElem?_eq_some_iff.1 hat
  have hl : l = l.take (place l x) ++ x :: l.drop (place l x + 1) := by
    conv => lhs; rw [← List.take_append_drop (place l x) l, List.drop_eq_getElem_cons q, e]
  have hp' := hp
  rw [hl] at hp'
  obtain ⟨p1, p2, p3⟩ := List.pairwise_append.1 hp'
  obtain ⟨p4, p5⟩ := List.pairwise_cons.1 p2
  unfold dropped
  conv => rhs; rw [hl]
  rw [List.filter_append, List.filter_cons_of_neg (by simp), List.filter_eq_self.2, List.filter_eq_self.2]
  · intro y hy
    have := p4 y hy
    simp; omega
  · intro y hy
    have := take_lt hp hy
    simp; omega

/-- What a change of valid members leaves, if anything, are members. -/
theorem Mems.changed {l : List Int} (h : Mems l) (kind node : Int) (hne : changed l kind node ≠ []) : Mems (changed l kind node) := by
  unfold Cf.changed at hne ⊢
  split
  · rename_i hc
    rw [if_pos hc] at hne
    refine ⟨hne, (upTo_up 9).filter _, fun x hx => ?_, fun x hx => ?_⟩ <;> have := (mem_upTo 9 x).1 (List.mem_filter.1 hx).1 <;> omega
  · rename_i hc
    rw [if_neg hc] at hne
    split
    · rename_i hd
      rw [if_pos hd] at hne
      exact ⟨hne, h.up.filter _, fun x hx => h.low x (List.mem_filter.1 hx).1, fun x hx => h.high x (List.mem_filter.1 hx).1⟩
    · rename_i hd
      rw [if_neg hd] at hne
      exact absurd rfl hne

/-- The configurations with a change; z: the last one. -/
def from' (z : Conf) (i : Int) : Int := max (i + 4) z.frm
def change (l : List Conf) (z : Conf) (i : Int) (m : List Int) : List Conf := (l.filter fun c => decide (c.frm < from' z i)) ++ [⟨from' z i, m⟩]
theorem atFrom_filter (f j : Int) (hj : j < f) : ∀ (l : List Conf) (o : List Int), atFrom o (l.filter fun c => decide (c.frm < f)) j = atFrom o l j
  | [], o => rfl
  | c :: r, o => by
    by_cases hc : c.frm < f
    · rw [List.filter_cons_of_pos (by simpa using hc)]
      exact atFrom_filter f j hj r _
    · rw [List.filter_cons_of_neg (by simpa using hc), atFrom_filter f j hj r o]
      show _ = atFrom (if c.frm ≤ j then c.mem else o) r j
      rw [if_neg (by omega)]
theorem Valid.change {l : List Conf} (h : Valid l) {z : Conf} (hz : z ∈ l) {i : Int} (h1 : 1 ≤ i) (h2 : i ≤ 4294967292) {m : List Int} (hm : Mems m) :
    Valid (change l z i m) ∧ ∀ j, i < j → j < i + 4 → at' (change l z i m) j = at' l j := by
  have hf : i + 4 ≤ from' z i := by unfold from'; omega
  have hf2 : from' z i ≤ 4294967296 := by unfold from'; have := h.high z hz; omega
  unfold Cf.change
  refine ⟨⟨?_, ?_, ?_, ?_⟩, fun j hj1 hj2 => ?_⟩
  · obtain ⟨c, r, rfl, hc⟩ := h.first
    rw [List.filter_cons_of_pos (by simp; omega)]
    exact ⟨c, _, rfl, hc⟩
  · rw [List.pairwise_append]
    refine ⟨h.up.filter _, by simp, fun a ha b hb => ?_⟩
    have := (List.mem_filter.1 ha).2
    simp at hb this
    subst hb
    exact this
  · intro c hc
    rcases List.mem_append.1 hc with hc | hc
    · exact h.high c ((List.mem_filter.1 hc).1)
    · simp at hc; subst hc; exact hf2
  · intro c hc
    rcases List.mem_append.1 hc with hc | hc
    · exact h.mems c ((List.mem_filter.1 hc).1)
    · simp at hc; subst hc; exact hm
  · unfold at'
    rw [atFrom_append, atFrom_filter _ _ (by omega)]
    show (if from' z i ≤ j then m else _) = _
    rw [if_neg (by omega)]
/-- What the program cuts: all, or all but the last. -/
theorem cut_eq {l : List Conf} (h : Valid l) {z : Conf} (hz : l[l.length - 1]? = some z) (i : Int) :
    (l.filter fun c => decide (c.frm < from' z i)) = l.take (if from' z i = z.frm then l.length - 1 else l.length) := by
  obtain ⟨q, e⟩ := List.getElem?_eq_some_iff.1 hz
  have hl : l = l.take (l.length - 1) ++ [z] := by
    conv => lhs; rw [← List.take_append_drop (l.length - 1) l, List.drop_eq_getElem_cons q, e]
    rw [List.drop_of_length_le (by omega)]
  have hp := h.up
  rw [hl] at hp
  have hlt : ∀ a ∈ l.take (l.length - 1), a.frm < z.frm := fun a ha => (List.pairwise_append.1 hp).2.2 a ha z (by simp)
  have hge : z.frm ≤ from' z i := by unfold from'; omega
  conv => lhs; rw [hl]
  rw [List.filter_append, List.filter_eq_self.2 (fun a ha => by have := hlt a ha; simp; omega)]
  by_cases he : from' z i = z.frm
  · rw [if_pos he, List.filter_cons_of_neg (by simp; omega)]; simp
  · rw [if_neg he, List.filter_cons_of_pos (by simp; omega), List.take_length]
    conv => rhs; rw [hl]
    rfl

/-- Each number once: the first of its kind. -/
def firsts (l : List Int) : List Int := l.foldl (fun acc x => if x ∈ acc then acc else acc ++ [x]) []
theorem firsts_snoc (l : List Int) (x : Int) : firsts (l ++ [x]) = if x ∈ firsts l then firsts l else firsts l ++ [x] := by unfold firsts; rw [List.foldl_append]; rfl
theorem mem_firsts (l : List Int) (x : Int) : x ∈ firsts l ↔ x ∈ l := by
  suffices h : ∀ (l acc : List Int), x ∈ l.foldl (fun acc x => if x ∈ acc then acc else acc ++ [x]) acc ↔ x ∈ acc ∨ x ∈ l by simpa [firsts] using h l []
  intro l
  induction l with
  | nil => intro acc; simp
  | cons y r ih =>
    intro acc
    rw [List.foldl_cons, ih]
    by_cases hy : y ∈ acc
    · rw [if_pos hy]
      simp only [List.mem_cons]
      constructor
      · rintro (h | h); exact .inl h; exact .inr (.inr h)
      · rintro (h | h | h); exact .inl h; exact .inl (h ▸ hy); exact .inr h
    · rw [if_neg hy]
      simp only [List.mem_append, List.mem_cons, List.not_mem_nil, or_false]
      constructor
      · rintro ((h | h) | h); exact .inl h; exact .inr (.inl h); exact .inr (.inr h)
      · rintro (h | h | h); exact .inl (.inl h); exact .inl (.inr h); exact .inr h
theorem nodup_firsts (l : List Int) : (firsts l).Nodup := by
  suffices h : ∀ (l acc : List Int), acc.Nodup → (l.foldl (fun acc x => if x ∈ acc then acc else acc ++ [x]) acc).Nodup from h l [] List.nodup_nil
  intro l
  induction l with
  | nil => intro acc h; exact h
  | cons y r ih =>
    intro acc h
    rw [List.foldl_cons]
    refine ih _ ?_
    by_cases hy : y ∈ acc
    · rw [if_pos hy]; exact h
    · rw [if_neg hy]
      unfold List.Nodup at h ⊢
      rw [List.pairwise_append]
      exact ⟨h, by simp, fun a ha b hb => by simp at hb; subst hb; intro e; exact hy (e ▸ ha)⟩

theorem nodup_up {l : List Int} (h : l.Pairwise (· < ·)) : l.Nodup := h.imp fun h => by omega
/-- Lists of the same numbers, each once, are alike in number and in how many meet p. -/
theorem same_counts {l m : List Int} (hl : l.Nodup) (hm : m.Nodup) (h : ∀ x, x ∈ l ↔ x ∈ m) (p : Int → Bool) : l.length = m.length ∧ l.countP p = m.countP p := by
  have hp : l.Perm m := (List.perm_ext_iff_of_nodup hl hm).2 h
  exact ⟨hp.length_eq, hp.countP_eq p⟩

/-- Majority, by the definition. -/
def maj (l of : List Int) : Bool := decide ((firsts l).length < 2 * (firsts l).countP fun x => of.contains x)
/-- Two majorities have a member in common. -/
theorem two_common (p q : Int → Bool) : ∀ l : List Int, l.length < l.countP p + l.countP q → ∃ x ∈ l, p x = true ∧ q x = true
  | [], h => by simp at h
  | x :: l, h => by
    by_cases hx : p x = true ∧ q x = true
    · exact ⟨x, by simp, hx⟩
    · have h2 : (x :: l).countP p + (x :: l).countP q ≤ l.countP p + l.countP q + 1 := by
        rw [List.countP_cons, List.countP_cons]
        by_cases h1 : p x = true
        · have : ¬ q x = true := fun h => hx ⟨h1, h⟩
          rw [if_pos h1, if_neg this]; omega
        · rw [if_neg h1]; split <;> omega
      obtain ⟨y, hy, hh⟩ := two_common p q l (by simp at h; omega)
      exact ⟨y, List.mem_cons_of_mem _ hy, hh⟩
theorem maj_common {l a b : List Int} (ha : maj l a = true) (hb : maj l b = true) : (l.any fun x => a.contains x && b.contains x) = true := by
  unfold maj at ha hb
  rw [decide_eq_true_eq] at ha hb
  obtain ⟨x, hx, h1, h2⟩ := two_common _ _ (firsts l) (by omega : (firsts l).length < (firsts l).countP (fun x => a.contains x) + (firsts l).countP fun x => b.contains x)
  rw [List.any_eq_true]
  exact ⟨x, (mem_firsts l x).1 hx, by rw [h1, h2]; rfl⟩
/-- Majority as the program counts: over strictly ascending lists. -/
theorem maj_up {l of d f : List Int} (hd : d.Pairwise (· < ·)) (hdl : ∀ x, x ∈ d ↔ x ∈ l) (hf : ∀ x, x ∈ f ↔ x ∈ of) : decide (d.length < 2 * d.countP fun x => f.contains x) = maj l of := by
  have h := same_counts (nodup_up hd) (nodup_firsts l) (fun x => (hdl x).trans (mem_firsts l x).symm) (fun x => f.contains x)
  have e : (fun x => f.contains x) = fun x => of.contains x := by
    funext x
    rw [Bool.eq_iff_iff, List.contains_iff_mem, List.contains_iff_mem, hf x]
  unfold maj
  rw [h.1, h.2, e]
end Cf
end Go.Proofs.Ytimlfiomoalieaa
