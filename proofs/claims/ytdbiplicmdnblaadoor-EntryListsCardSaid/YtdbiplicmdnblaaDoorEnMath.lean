/- Entries, plain: what is wrong with them, whether a version has them, where an index stands, one more, those from an index on, up to it. No program is spoken of. -/
import Derived.Test.YtdbiplicmdnblaaDoorBalMath
import Derived.Test.YtdbiplicmdnblaaDoorCmdMath
namespace Go.Proofs.YtdbiplicmdnblaaDoor

/-- An entry. -/
structure En.Ent where
  index : Int
  bal : Bl.Bal
  cmd : Cm.Cmd
deriving DecidableEq
namespace En

/-- The fields of the machine's numbers. -/
structure Ent.Fits (e : Ent) : Prop where
  i0 : -9223372036854775808 ≤ e.index
  i1 : e.index ≤ 9223372036854775807
  bal : e.bal.Fits
  cmd : e.cmd.Fits

def zero : Ent := ⟨0, Bl.zero, Cm.zero⟩
def cells (e : Ent) : Array Value := #[.int .i64 e.index, .int .i64 e.bal.round, .int .i64 e.bal.node, .int .i64 e.cmd.kind, .int .i64 e.cmd.client, .int .i64 e.cmd.seq, .string ⟨e.cmd.key.toArray⟩, .string ⟨e.cmd.val.toArray⟩, .string ⟨e.cmd.old.toArray⟩, .int .i64 e.cmd.node]

/-- Whether index and ballot may be. -/
def ranged (e : Ent) : Bool := decide (1 ≤ e.index) && decide (e.index ≤ 4294967296) && Bl.may e.bal
/-- What is wrong with an entry behind an index. -/
def one (b : Int) (e : Ent) : Int := if ranged e = false then 6 else if Cm.check e.cmd ≠ 0 then Cm.check e.cmd else if e.index ≤ b then 12 else 0
def check : Int → List Ent → Int
  | _, [] => 0
  | b, e :: r => if one b e ≠ 0 then one b e else check e.index r
def has (v : Int) (l : List Ent) : Bool := l.all fun e => Vs.has v e.cmd.kind

theorem drop_at {α : Type} {l : List α} {k : Nat} {e : α} (h : l[k]? = some e) : l.drop k = e :: l.drop (k + 1) := by
  obtain ⟨hk, rfl⟩ := List.getElem?_eq_some_iff.1 h
  exact List.drop_eq_getElem_cons hk
theorem check_step {l : List Ent} {k : Nat} {e : Ent} (h : l[k]? = some e) (b : Int) : check b (l.drop k) = if one b e ≠ 0 then one b e else check e.index (l.drop (k + 1)) := by rw [drop_at h]; rfl
theorem has_no {l : List Ent} {k : Nat} {e : Ent} (h : l[k]? = some e) {v : Int} (hv : Vs.has v e.cmd.kind = false) : has v l = false := by
  unfold has
  rw [List.all_eq_false]
  exact ⟨e, List.mem_of_getElem? h, by rw [hv]; simp⟩
theorem has_step {l : List Ent} {k : Nat} {e : Ent} (h : l[k]? = some e) (v : Int) : has v (l.take (k + 1)) = (has v (l.take k) && Vs.has v e.cmd.kind) := by
  unfold has
  rw [List.take_add_one, h, List.all_append]
  simp

/-! Where an index stands. -/
def Asc (l : List Ent) : Prop := l.Pairwise fun a b => a.index < b.index
instance (l : List Ent) : Decidable (Asc l) := inferInstanceAs (Decidable (l.Pairwise fun a b => a.index < b.index))
def rises (l : List Ent) : Bool := decide (Asc l)
def below (l : List Ent) (x : Int) : Nat := l.countP fun e => decide (e.index < x)
def found (l : List Ent) (x : Int) : Bool := (l[below l x]?).any fun e => decide (e.index = x)
def upto (l : List Ent) (x : Int) : Nat := below l x + (if found l x then 1 else 0)
/-- The place that is told. -/
def pos (l : List Ent) (x : Int) : Int := if found l x then (below l x : Int) else -1
def find (l : List Ent) (x : Int) : Ent := if found l x then (l[below l x]?).getD zero else zero
def put (l : List Ent) (e : Ent) : List Ent := l.take (below l e.index) ++ [e] ++ l.drop (upto l e.index)
def between (l : List Ent) (a b : Int) : List Ent := l.filter fun e => decide (a ≤ e.index) && decide (e.index ≤ b)

theorem below_le (l : List Ent) (x : Int) : below l x ≤ l.length := List.countP_le_length
theorem below_nil (x : Int) : below [] x = 0 := rfl
theorem below_less {a : Ent} {x : Int} (r : List Ent) (h : a.index < x) : below (a :: r) x = below r x + 1 := by
  unfold below
  rw [List.countP_cons_of_pos (by simpa using h)]
theorem below_none {a : Ent} {x : Int} {r : List Ent} (hp : Asc (a :: r)) (h : ¬ a.index < x) : below (a :: r) x = 0 := by
  unfold below
  rw [List.countP_cons_of_neg (by simpa using h), List.countP_eq_zero]
  intro e he
  have := (List.pairwise_cons.1 hp).1 e he
  simp; omega
theorem found_less {a : Ent} {x : Int} (r : List Ent) (h : a.index < x) : found (a :: r) x = found r x := by
  unfold found
  rw [below_less r h, List.getElem?_cons_succ]
theorem found_none {a : Ent} {x : Int} {r : List Ent} (hp : Asc (a :: r)) (h : ¬ a.index < x) : found (a :: r) x = decide (a.index = x) := by
  unfold found
  rw [below_none hp h]
  simp
theorem upto_less {a : Ent} {x : Int} (r : List Ent) (h : a.index < x) : upto (a :: r) x = upto r x + 1 := by
  unfold upto
  rw [below_less r h, found_less r h]
  omega
theorem upto_same {a : Ent} {x : Int} {r : List Ent} (hp : Asc (a :: r)) (h : a.index = x) : upto (a :: r) x = 1 := by
  unfold upto
  rw [below_none hp (by omega), found_none hp (by omega), decide_eq_true h]
  rfl
theorem upto_more {a : Ent} {x : Int} {r : List Ent} (hp : Asc (a :: r)) (h : x < a.index) : upto (a :: r) x = 0 := by
  unfold upto
  rw [below_none hp (by omega), found_none hp (by omega), decide_eq_false (by omega)]
  rfl
theorem below_iff : ∀ (l : List Ent) (x : Int), Asc l → ∀ (k : Nat) (e : Ent), l[k]? = some e → (e.index < x ↔ k < below l x)
  | [], x, _, k, e, h => by simp at h
  | a :: r, x, hp, k, e, h => by
    obtain ⟨h1, h2⟩ := List.pairwise_cons.1 hp
    by_cases ha : a.index < x
    · rw [below_less r ha]
      cases k with
      | zero => simp at h; subst h; exact ⟨fun _ => by omega, fun _ => ha⟩
      | succ k => rw [below_iff r x h2 k e (by simpa using h)]; omega
    · rw [below_none hp ha]
      refine ⟨fun hc => ?_, fun h => by omega⟩
      cases k with
      | zero => simp at h; subst h; omega
      | succ k => have := h1 e (List.mem_of_getElem? (show r[k]? = some e by simpa using h)); omega
theorem upto_le (l : List Ent) (x : Int) : upto l x ≤ l.length := by
  have hb := below_le l x
  unfold upto
  cases hf : found l x with
  | false => simpa using hb
  | true =>
    unfold found at hf
    cases hk : l[below l x]? with
    | none => rw [hk] at hf; simp at hf
    | some e => have := (List.getElem?_eq_some_iff.1 hk).1; simp; omega
theorem below_upto (l : List Ent) (x : Int) : below l x ≤ upto l x := by unfold upto; omega

theorem pair_lt {l : List Ent} (hp : Asc l) {i j : Nat} {a b : Ent} (h : i < j) (ha : l[i]? = some a) (hb : l[j]? = some b) : a.index < b.index := by
  obtain ⟨h1, rfl⟩ := List.getElem?_eq_some_iff.1 ha
  obtain ⟨h2, rfl⟩ := List.getElem?_eq_some_iff.1 hb
  exact List.pairwise_iff_getElem.1 hp i j h1 h2 h
theorem rises_no {l : List Ent} {k : Nat} {a b : Ent} (ha : l[k]? = some a) (hb : l[k + 1]? = some b) (h : b.index ≤ a.index) : rises l = false := by
  refine decide_eq_false fun hp => ?_
  have := pair_lt hp (Nat.lt_succ_self k) ha hb
  omega
theorem rises_yes {l : List Ent} (h : ∀ (k : Nat) (a b : Ent), l[k]? = some a → l[k + 1]? = some b → a.index < b.index) : rises l = true := by
  refine decide_eq_true ?_
  unfold Asc
  rw [List.pairwise_iff_getElem]
  have key : ∀ d i (h1 : i < l.length) (h2 : i + d + 1 < l.length), l[i].index < l[i + d + 1].index := by
    intro d
    induction d with
    | zero => intro i h1 h2; exact h i _ _ (List.getElem?_eq_getElem h1) (List.getElem?_eq_getElem h2)
    | succ d ih =>
      intro i h1 h2
      have a := ih i h1 (by omega)
      have b := h (i + d + 1) _ _ (List.getElem?_eq_getElem (by omega)) (List.getElem?_eq_getElem h2)
      exact Int.lt_trans a b
  intro i j hi hj hij
  have := key (j - i - 1) i hi (by omega)
  simpa [show i + (j - i - 1) + 1 = j by omega] using this

/-- Where an entry has the index, it stands there. -/
theorem at_found {l : List Ent} (hp : Asc l) {k : Nat} {e : Ent} (h : l[k]? = some e) : found l e.index = true ∧ below l e.index = k := by
  have hb : below l e.index = k := by
    have h1 : ¬ k < below l e.index := fun hk => by have := (below_iff l e.index hp k e h).2 hk; omega
    rcases Nat.lt_or_ge (below l e.index) k with hlt | hge
    · have hk := (List.getElem?_eq_some_iff.1 h).1
      obtain ⟨a, ha⟩ : ∃ a, l[below l e.index]? = some a := ⟨_, List.getElem?_eq_getElem (by omega)⟩
      have h2 := pair_lt hp hlt ha h
      have h3 := (below_iff l e.index hp _ a ha).1 h2
      omega
    · omega
  refine ⟨?_, hb⟩
  unfold found
  rw [hb, h]
  simp
theorem found_at {l : List Ent} {x : Int} (h : found l x = true) : ∃ e, l[below l x]? = some e ∧ e.index = x := by
  unfold found at h
  cases hk : l[below l x]? with
  | none => rw [hk] at h; simp at h
  | some e => rw [hk] at h; exact ⟨e, rfl, by simpa using h⟩
theorem not_found {l : List Ent} {x : Int} (h : ∀ (k : Nat) (e : Ent), l[k]? = some e → e.index ≠ x) : found l x = false := by
  cases hf : found l x with
  | false => rfl
  | true => obtain ⟨e, he, hx⟩ := found_at hf; exact absurd hx (h _ e he)

/-! Those from an index on, up to it. -/
theorem between_from : ∀ (l : List Ent) (x : Int), Asc l → (∀ e ∈ l, e.index ≤ 9223372036854775807) → between l x 9223372036854775807 = l.drop (below l x)
  | [], x, _, _ => rfl
  | a :: r, x, hp, hb => by
    obtain ⟨h1, h2⟩ := List.pairwise_cons.1 hp
    by_cases ha : a.index < x
    · rw [below_less r ha, List.drop_succ_cons, ← between_from r x h2 fun e he => hb e (List.mem_cons_of_mem _ he)]
      unfold between
      rw [List.filter_cons_of_neg (by simp; omega)]
    · rw [below_none hp ha, List.drop_zero]
      unfold between
      rw [List.filter_eq_self]
      intro e he
      have := hb e he
      rcases List.mem_cons.1 he with rfl | he
      · simp; omega
      · have := h1 e he; simp; omega
theorem between_until : ∀ (l : List Ent) (x : Int), Asc l → (∀ e ∈ l, -9223372036854775808 ≤ e.index) → between l (-9223372036854775808) x = l.take (upto l x)
  | [], x, _, _ => by simp [between]
  | a :: r, x, hp, hb => by
    obtain ⟨h1, h2⟩ := List.pairwise_cons.1 hp
    have h0 := hb a (by simp)
    by_cases ha : a.index < x
    · rw [upto_less r ha, List.take_succ_cons, ← between_until r x h2 fun e he => hb e (List.mem_cons_of_mem _ he)]
      unfold between
      rw [List.filter_cons_of_pos (by simp; omega)]
    · have hr : ∀ e ∈ r, ¬ (decide (-9223372036854775808 ≤ e.index) && decide (e.index ≤ x)) = true := by
        intro e he
        have := h1 e he
        simp; omega
      by_cases hx : a.index = x
      · rw [upto_same hp hx]
        unfold between
        rw [List.filter_cons_of_pos (by simp; omega), List.filter_eq_nil_iff.2 hr]
        simp
      · rw [upto_more hp (by omega)]
        unfold between
        rw [List.filter_cons_of_neg (by simp; omega), List.filter_eq_nil_iff.2 hr]
        simp

/-! One more, as the document's answer makes it. -/
def ahead (e : Ent) (s : List Ent × Bool) (a : Ent) : List Ent × Bool := if s.2 = false ∧ e.index ≤ a.index then (s.1 ++ [e], true) else s
def wstep (e : Ent) (s : List Ent × Bool) (a : Ent) : List Ent × Bool := if a.index ≠ e.index then ((ahead e s a).1 ++ [a], (ahead e s a).2) else ahead e s a
def wend (e : Ent) (s : List Ent × Bool) : List Ent := if s.2 = true then s.1 else s.1 ++ [e]
def refPut (l : List Ent) (e : Ent) : List Ent := wend e (l.foldl (wstep e) ([], false))

theorem wstep_done (e : Ent) : ∀ (l : List Ent) (out : List Ent), (∀ a ∈ l, e.index < a.index) → l.foldl (wstep e) (out, true) = (out ++ l, true)
  | [], out, _ => by simp
  | a :: r, out, h => by
    have ha := h a (by simp)
    rw [List.foldl_cons]
    have : wstep e (out, true) a = (out ++ [a], true) := by
      unfold wstep ahead
      rw [if_pos (by omega)]
      simp
    rw [this, wstep_done e r _ fun b hb => h b (List.mem_cons_of_mem _ hb)]
    simp
theorem put_less {a e : Ent} (r : List Ent) (h : a.index < e.index) : put (a :: r) e = a :: put r e := by
  unfold put
  rw [below_less r h, upto_less r h]
  rfl
theorem wstep_put (e : Ent) : ∀ (l : List Ent) (out : List Ent), Asc l → wend e (l.foldl (wstep e) (out, false)) = out ++ put l e
  | [], out, _ => by simp [wend, put]
  | a :: r, out, hp => by
    obtain ⟨h1, h2⟩ := List.pairwise_cons.1 hp
    rw [List.foldl_cons]
    by_cases ha : a.index < e.index
    · have : wstep e (out, false) a = (out ++ [a], false) := by
        unfold wstep ahead
        rw [if_pos (by omega), if_neg (by simp; omega)]
      rw [this, wstep_put e r _ h2, put_less r ha]
      simp
    · by_cases hx : a.index = e.index
      · have : wstep e (out, false) a = (out ++ [e], true) := by
          unfold wstep ahead
          rw [if_neg (by simpa using hx), if_pos (by simp; omega)]
        rw [this, wstep_done e r _ fun b hb => by have := h1 b hb; omega]
        unfold wend put
        rw [upto_same hp hx, below_none hp ha]
        simp
      · have : wstep e (out, false) a = (out ++ [e] ++ [a], true) := by
          unfold wstep ahead
          rw [if_pos hx, if_pos (by simp; omega)]
        rw [this, wstep_done e r _ fun b hb => by have := h1 b hb; omega]
        unfold wend put
        rw [upto_more hp (by omega), below_none hp ha]
        simp
theorem refPut_eq (l : List Ent) (e : Ent) (hp : Asc l) : refPut l e = put l e := by
  have := wstep_put e l [] hp
  simpa [refPut] using this

/-! What was put is found. -/
theorem below_put (l : List Ent) (e : Ent) (hp : Asc l) : ∀ k a, (put l e)[k]? = some a → k < below l e.index → a.index < e.index := by
  intro k a h hk
  have hl := below_le l e.index
  have hlen : (l.take (below l e.index)).length = below l e.index := by rw [List.length_take]; omega
  unfold put at h
  rw [List.append_assoc, List.getElem?_append_left (by omega), List.getElem?_take, if_pos hk] at h
  exact (below_iff l e.index hp k a h).2 hk
theorem put_at (l : List Ent) (e : Ent) : (put l e)[below l e.index]? = some e := by
  have hl := below_le l e.index
  have hlen : (l.take (below l e.index)).length = below l e.index := by rw [List.length_take]; omega
  unfold put
  rw [List.append_assoc, List.getElem?_append_right (by omega), hlen, Nat.sub_self]
  rfl
theorem put_asc : ∀ (l : List Ent) (e : Ent), Asc l → Asc (put l e)
  | [], e, _ => by show List.Pairwise _ [e]; simp
  | a :: r, e, hp => by
    obtain ⟨h1, h2⟩ := List.pairwise_cons.1 hp
    by_cases ha : a.index < e.index
    · rw [put_less r ha]
      refine List.pairwise_cons.2 ⟨fun b hb => ?_, put_asc r e h2⟩
      unfold put at hb
      rw [List.mem_append, List.mem_append] at hb
      rcases hb with (hb | hb) | hb
      · exact h1 b (List.mem_of_mem_take hb)
      · simp at hb; subst hb; exact ha
      · exact h1 b (List.mem_of_mem_drop hb)
    · have hr : Asc (e :: r) := List.pairwise_cons.2 ⟨fun b hb => by have := h1 b hb; omega, h2⟩
      by_cases hx : a.index = e.index
      · have : put (a :: r) e = e :: r := by unfold put; rw [upto_same hp hx, below_none hp ha]; rfl
        rw [this]; exact hr
      · have : put (a :: r) e = e :: a :: r := by unfold put; rw [upto_more hp (by omega), below_none hp ha]; rfl
        rw [this]
        refine List.pairwise_cons.2 ⟨fun b hb => ?_, hp⟩
        rcases List.mem_cons.1 hb with rfl | hb
        · omega
        · have := h1 b hb; omega
theorem put_found (l : List Ent) (e : Ent) (hp : Asc l) : found (put l e) e.index = true ∧ below (put l e) e.index = below l e.index ∧ find (put l e) e.index = e := by
  obtain ⟨h1, h2⟩ := at_found (put_asc l e hp) (put_at l e)
  refine ⟨h1, h2, ?_⟩
  unfold find
  rw [if_pos h1, h2, put_at]
  rfl
theorem put_len (l : List Ent) (e : Ent) : (put l e).length ≤ l.length + 1 := by
  have h1 := below_le l e.index
  have h2 := upto_le l e.index
  have h3 := below_upto l e.index
  unfold put
  simp
  omega
theorem find_yes {l : List Ent} {x : Int} {e : Ent} (h : found l x = true) (he : l[below l x]? = some e) : find l x = e := by unfold find; rw [if_pos h, he]; rfl
theorem find_no {l : List Ent} {x : Int} (h : found l x = false) : find l x = zero := by unfold find; rw [h]; rfl

end En
end Go.Proofs.YtdbiplicmdnblaaDoor
