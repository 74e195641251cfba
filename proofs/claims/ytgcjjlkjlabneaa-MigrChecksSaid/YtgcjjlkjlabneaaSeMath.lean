/- Sessions, plain: which may be, where a client's stands, what a command is, one more. No program is spoken of. -/
import Derived.Test.YtgcjjlkjlabneaaAnsOne
namespace Go.Proofs.Ytgcjjlkjlabneaa

/-- A session. -/
structure Se.Ses where
  client : Int
  seq : Int
  last : An.Ans
deriving DecidableEq
namespace Se

/-- The fields of the machine's numbers. -/
structure Ses.Fits (s : Ses) : Prop where
  c0 : -9223372036854775808 ≤ s.client
  c1 : s.client ≤ 9223372036854775807
  q0 : -9223372036854775808 ≤ s.seq
  q1 : s.seq ≤ 9223372036854775807
  last : s.last.Fits

def zero : Ses := ⟨0, 0, An.zero⟩
def cells (s : Ses) : Array Value := #[.int .i64 s.client, .int .i64 s.seq, .int .i64 s.last.client, .int .i64 s.last.seq, .int .i64 s.last.err, .bool s.last.found, .string ⟨s.last.val.toArray⟩, .int .i64 s.last.rev]
/-- The session of an answer. -/
def of (a : An.Ans) : Ses := ⟨a.client, a.seq, a⟩

/-! Where a client's stands. -/
def is (c : Int) (s : Ses) : Bool := s.client == c
def past (c : Int) (s : Ses) : Bool := decide (c < s.client)
/-- The place that is told. -/
def ix (p : Ses → Bool) (l : List Ses) : Int := if l.findIdx p < l.length then (l.findIdx p : Int) else -1
def has (l : List Ses) (c : Int) : Bool := decide (l.findIdx (is c) < l.length)
def get (l : List Ses) (c : Int) : Ses := (l[l.findIdx (is c)]?).getD zero
/-- What a command is. -/
def which (l : List Ses) (c q : Int) : Int × An.Ans := if has l c = false ∨ (get l c).seq < q then (0, An.zero) else if q = (get l c).seq then (1, (get l c).last) else (2, An.zero)
def fro (l : List Ses) (c : Int) : Nat := if l.findIdx (is c) < l.length then l.findIdx (is c) else l.findIdx (past c)
def upto (l : List Ses) (c : Int) : Nat := if l.findIdx (is c) < l.length then l.findIdx (is c) + 1 else l.findIdx (past c)
def put (l : List Ses) (a : An.Ans) : List Ses := l.take (fro l a.client) ++ [of a] ++ l.drop (upto l a.client)

theorem ix_found {p : Ses → Bool} {l : List Ses} {k : Nat} {s : Ses} (h : l[k]? = some s) (hp : p s = true) (hb : ∀ (j : Nat) (e : Ses), j < k → l[j]? = some e → p e = false) : ix p l = (k : Int) ∧ l.findIdx p = k := by
  obtain ⟨hk, rfl⟩ := List.getElem?_eq_some_iff.1 h
  have e : l.findIdx p = k := (List.findIdx_eq hk).2 ⟨hp, fun j hj => hb j _ hj (List.getElem?_eq_getElem (by omega))⟩
  exact ⟨by unfold ix; rw [e, if_pos hk], e⟩
theorem ix_none {p : Ses → Bool} {l : List Ses} (hb : ∀ (j : Nat) (e : Ses), l[j]? = some e → p e = false) : ix p l = -1 ∧ l.findIdx p = l.length := by
  have e : l.findIdx p = l.length := List.findIdx_eq_length.2 fun x hx => by obtain ⟨j, hj⟩ := List.getElem?_of_mem hx; exact hb j x hj
  exact ⟨by unfold ix; rw [e, if_neg (Nat.lt_irrefl _)], e⟩
theorem idx_le (p : Ses → Bool) (l : List Ses) : l.findIdx p ≤ l.length := List.findIdx_le_length
theorem ix_yes {p : Ses → Bool} {l : List Ses} (h : l.findIdx p < l.length) : ix p l = (l.findIdx p : Int) := if_pos h
theorem ix_no {p : Ses → Bool} {l : List Ses} (h : ¬ l.findIdx p < l.length) : ix p l = -1 := if_neg h
theorem get_no {l : List Ses} {c : Int} (h : ¬ l.findIdx (is c) < l.length) : get l c = zero := by
  unfold get
  rw [List.getElem?_eq_none (by omega)]; rfl
theorem fro_le (l : List Ses) (c : Int) : fro l c ≤ upto l c := by unfold fro upto; split <;> omega
theorem upto_le (l : List Ses) (c : Int) : upto l c ≤ l.length := by
  have := idx_le (past c) l
  unfold upto; split <;> omega

/-! The sessions whose clients rise. -/
def Asc (l : List Ses) : Prop := l.Pairwise fun a b => a.client < b.client
instance (l : List Ses) : Decidable (Asc l) := inferInstanceAs (Decidable (l.Pairwise fun a b => a.client < b.client))
def rises (l : List Ses) : Bool := decide (Asc l)
theorem pair_lt {l : List Ses} (hp : Asc l) {i j : Nat} {a b : Ses} (h : i < j) (ha : l[i]? = some a) (hb : l[j]? = some b) : a.client < b.client := by
  obtain ⟨h1, rfl⟩ := List.getElem?_eq_some_iff.1 ha
  obtain ⟨h2, rfl⟩ := List.getElem?_eq_some_iff.1 hb
  exact List.pairwise_iff_getElem.1 hp i j h1 h2 h
theorem rises_no {l : List Ses} {k : Nat} {a b : Ses} (ha : l[k]? = some a) (hb : l[k + 1]? = some b) (h : b.client ≤ a.client) : rises l = false := by
  refine decide_eq_false fun hp => ?_
  have := pair_lt hp (Nat.lt_succ_self k) ha hb
  omega
theorem rises_yes {l : List Ses} (h : ∀ (k : Nat) (a b : Ses), l[k]? = some a → l[k + 1]? = some b → a.client < b.client) : rises l = true := by
  refine decide_eq_true ?_
  unfold Asc
  rw [List.pairwise_iff_getElem]
  have key : ∀ d i (h1 : i < l.length) (h2 : i + d + 1 < l.length), l[i].client < l[i + d + 1].client := by
    intro d
    induction d with
    | zero => intro i h1 h2; exact h i _ _ (List.getElem?_eq_getElem h1) (List.getElem?_eq_getElem h2)
    | succ d ih =>
      intro i h1 h2
      have a := ih i h1 (by omega)
      have b := h (i + d + 1) _ _ (List.getElem?_eq_getElem (by omega)) (List.getElem?_eq_getElem h2)
      exact Int.lt_trans a b
  intro i j hi hj hij
  have := key (j - i - 1) i hi (by omega)
  simpa [show i + (j - i - 1) + 1 = j by omega] using this

/-! Which may be. -/
def valid (s : Ses) : Bool := s.last.client == s.client && (s.last.seq == s.seq && An.check s.last == 0)
def check : Int → List Ses → Bool
  | _, [] => true
  | b, s :: r => if s.client ≤ b then false else if valid s = false then false else check s.client r
theorem drop_at {l : List Ses} {k : Nat} {s : Ses} (h : l[k]? = some s) : l.drop k = s :: l.drop (k + 1) := by
  obtain ⟨hk, rfl⟩ := List.getElem?_eq_some_iff.1 h
  exact List.drop_eq_getElem_cons hk
theorem check_step {l : List Ses} {k : Nat} {s : Ses} (h : l[k]? = some s) (b : Int) : check b (l.drop k) = if s.client ≤ b then false else if valid s = false then false else check s.client (l.drop (k + 1)) := by rw [drop_at h]; rfl
theorem check_iff : ∀ (l : List Ses) (b : Int), check b l = true ↔ (∀ s ∈ l, valid s = true) ∧ Asc l ∧ ∀ s ∈ l, b < s.client
  | [], b => by simp [check, Asc]
  | s :: r, b => by
    have ih := check_iff r s.client
    unfold check
    by_cases h1 : s.client ≤ b
    · rw [if_pos h1]
      refine ⟨fun h => (by cases h), fun h => ?_⟩
      have := h.2.2 s (by simp); omega
    · rw [if_neg h1]
      by_cases h2 : valid s = false
      · rw [if_pos h2]
        refine ⟨fun h => (by cases h), fun h => ?_⟩
        have := h.1 s (by simp); rw [h2] at this; cases this
      · rw [if_neg h2, ih]
        have h2' : valid s = true := by simpa using h2
        constructor
        · rintro ⟨a, p, q⟩
          refine ⟨fun x hx => ?_, List.pairwise_cons.2 ⟨q, p⟩, fun x hx => ?_⟩
          · rcases List.mem_cons.1 hx with rfl | hx
            · exact h2'
            · exact a x hx
          · rcases List.mem_cons.1 hx with rfl | hx
            · omega
            · have := q x hx; omega
        · rintro ⟨a, p, q⟩
          obtain ⟨p1, p2⟩ := List.pairwise_cons.1 p
          exact ⟨fun x hx => a x (List.mem_cons_of_mem _ hx), p2, p1⟩
theorem valid_client {s : Ses} (h : valid s = true) : 0 < s.client := by
  unfold valid at h
  simp only [Bool.and_eq_true, beq_iff_eq] at h
  have := An.check_num h.2.2
  omega
/-- As the document says it. -/
def refCheck (l : List Ses) : Bool := if l.all valid = true then rises l else false
theorem check_ref (l : List Ses) : check 0 l = refCheck l := by
  rw [Bool.eq_iff_iff, check_iff]
  unfold refCheck rises
  by_cases h : l.all valid = true
  · rw [if_pos h]
    have h' := List.all_eq_true.1 h
    exact ⟨fun x => decide_eq_true x.2.1, fun x => ⟨h', of_decide_eq_true x, fun s hs => valid_client (h' s hs)⟩⟩
  · rw [if_neg h]
    exact ⟨fun x => absurd (List.all_eq_true.2 x.1) h, fun x => by cases x⟩
theorem all_no {l : List Ses} {k : Nat} {s : Ses} (h : l[k]? = some s) (hv : valid s = false) : refCheck l = false := by
  unfold refCheck
  rw [if_neg]
  intro ha
  rw [List.all_eq_true.1 ha s (List.mem_of_getElem? h)] at hv
  cases hv
theorem all_yes {l : List Ses} (h : ∀ (j : Nat) (e : Ses), l[j]? = some e → valid e = true) : refCheck l = rises l := by
  unfold refCheck
  rw [if_pos (List.all_eq_true.2 fun s hs => by obtain ⟨j, hj⟩ := List.getElem?_of_mem hs; exact h j s hj)]

/-! One more, as the document's answer makes it. -/
def ahead (a : An.Ans) (s : List Ses × Bool) (x : Ses) : List Ses × Bool := if s.2 = false ∧ a.client ≤ x.client then (s.1 ++ [of a], true) else s
def wstep (a : An.Ans) (s : List Ses × Bool) (x : Ses) : List Ses × Bool := if x.client ≠ a.client then ((ahead a s x).1 ++ [x], (ahead a s x).2) else ahead a s x
def wend (a : An.Ans) (s : List Ses × Bool) : List Ses := if s.2 = true then s.1 else s.1 ++ [of a]
def refPut (l : List Ses) (a : An.Ans) : List Ses := wend a (l.foldl (wstep a) ([], false))
theorem wstep_take {l : List Ses} {k : Nat} {x : Ses} (h : l[k]? = some x) (a : An.Ans) : (l.take (k + 1)).foldl (wstep a) ([], false) = wstep a ((l.take k).foldl (wstep a) ([], false)) x := by
  rw [List.take_add_one, h, List.foldl_append]; rfl
theorem w1 (s : List Ses) (a : An.Ans) (x : Ses) (h : x.client = a.client) : wstep a (s, true) x = (s, true) := by unfold wstep ahead; simp [h]
theorem w2 (s : List Ses) (a : An.Ans) (x : Ses) (h : ¬ x.client = a.client) : wstep a (s, true) x = (s ++ [x], true) := by unfold wstep ahead; simp [h]
theorem w3 (s : List Ses) (a : An.Ans) (x : Ses) (h : x.client = a.client) : wstep a (s, false) x = (s ++ [of a], true) := by unfold wstep ahead; simp [h]
theorem w4 (s : List Ses) (a : An.Ans) (x : Ses) (h1 : a.client ≤ x.client) (h : ¬ x.client = a.client) : wstep a (s, false) x = (s ++ [of a] ++ [x], true) := by unfold wstep ahead; simp [h, h1]
theorem w5 (s : List Ses) (a : An.Ans) (x : Ses) (h1 : ¬ a.client ≤ x.client) : wstep a (s, false) x = (s ++ [x], false) := by unfold wstep ahead; rw [if_pos (by omega), if_neg (fun h => h1 h.2)]

theorem fro_less {s : Ses} {c : Int} (r : List Ses) (h : s.client < c) : fro (s :: r) c = fro r c + 1 ∧ upto (s :: r) c = upto r c + 1 := by
  have h1 : is c s = false := by unfold is; simp; omega
  have h2 : past c s = false := by unfold past; simp; omega
  unfold fro upto
  rw [List.findIdx_cons, List.findIdx_cons, h1, h2, cond_false, cond_false, List.length_cons]
  by_cases hh : r.findIdx (is c) < r.length
  · rw [if_pos hh, if_pos (by omega), if_pos hh, if_pos (by omega)]; exact ⟨rfl, rfl⟩
  · rw [if_neg hh, if_neg (by omega), if_neg hh, if_neg (by omega)]; exact ⟨rfl, rfl⟩
theorem fro_same {s : Ses} {c : Int} (r : List Ses) (h : s.client = c) : fro (s :: r) c = 0 ∧ upto (s :: r) c = 1 := by
  have h1 : is c s = true := by unfold is; simp [h]
  unfold fro upto
  rw [List.findIdx_cons, h1, cond_true, List.length_cons, if_pos (by omega), if_pos (by omega)]
  exact ⟨rfl, rfl⟩
theorem fro_more {s : Ses} {c : Int} {r : List Ses} (hp : Asc (s :: r)) (h : c < s.client) : fro (s :: r) c = 0 ∧ upto (s :: r) c = 0 := by
  have h2 : past c s = true := by unfold past; simp [h]
  have h3 := (ix_none (p := is c) (l := s :: r) fun j e he => by
    have hm := List.mem_of_getElem? he
    unfold is
    rcases List.mem_cons.1 hm with rfl | hm
    · simp; omega
    · have := (List.pairwise_cons.1 hp).1 e hm; simp; omega).2
  unfold fro upto
  rw [h3, if_neg (by omega), if_neg (by omega), List.findIdx_cons, h2]
  exact ⟨rfl, rfl⟩
theorem put_less {s : Ses} {a : An.Ans} (r : List Ses) (h : s.client < a.client) : put (s :: r) a = s :: put r a := by
  unfold put
  rw [(fro_less r h).1, (fro_less r h).2]
  rfl
theorem wstep_done (a : An.Ans) : ∀ (l out : List Ses), (∀ x ∈ l, a.client < x.client) → l.foldl (wstep a) (out, true) = (out ++ l, true)
  | [], out, _ => by simp
  | x :: r, out, h => by
    have hx := h x (by simp)
    rw [List.foldl_cons, w2 _ _ _ (by omega), wstep_done a r _ fun b hb => h b (List.mem_cons_of_mem _ hb)]
    simp
theorem wstep_put (a : An.Ans) : ∀ (l out : List Ses), Asc l → wend a (l.foldl (wstep a) (out, false)) = out ++ put l a
  | [], out, _ => by simp [wend, put]
  | x :: r, out, hp => by
    obtain ⟨h1, h2⟩ := List.pairwise_cons.1 hp
    rw [List.foldl_cons]
    by_cases ha : x.client < a.client
    · rw [w5 _ _ _ (by omega), wstep_put a r _ h2, put_less r ha]
      simp
    · by_cases hx : x.client = a.client
      · rw [w3 _ _ _ hx, wstep_done a r _ fun b hb => by have := h1 b hb; omega]
        unfold wend put
        rw [(fro_same r hx).1, (fro_same r hx).2]
        simp
      · rw [w4 _ _ _ (by omega) hx, wstep_done a r _ fun b hb => by have := h1 b hb; omega]
        unfold wend put
        rw [(fro_more hp (by omega)).1, (fro_more hp (by omega)).2]
        simp
theorem refPut_eq (l : List Ses) (a : An.Ans) (hp : Asc l) : refPut l a = put l a := by
  have := wstep_put a l [] hp
  simpa [refPut] using this

/-! What was put is found. -/
theorem put_found (l : List Ses) (a : An.Ans) : has (put l a) a.client = true ∧ get (put l a) a.client = of a := by
  have hle : fro l a.client ≤ l.length := Nat.le_trans (fro_le l a.client) (upto_le l a.client)
  have hlen : (l.take (fro l a.client)).length = fro l a.client := by rw [List.length_take]; omega
  have hat : (put l a)[fro l a.client]? = some (of a) := by
    unfold put
    rw [List.append_assoc, List.getElem?_append_right (by omega), hlen, Nat.sub_self]
    rfl
  have hb : ∀ (j : Nat) (e : Ses), j < fro l a.client → (put l a)[j]? = some e → is a.client e = false := by
    intro j e hj he
    unfold put at he
    rw [List.append_assoc, List.getElem?_append_left (by omega), List.getElem?_take, if_pos hj] at he
    obtain ⟨hlt, rfl⟩ := List.getElem?_eq_some_iff.1 he
    unfold fro at hj
    split at hj
    · simpa using List.not_of_lt_findIdx hj
    · rename_i hn
      have h2 : l.findIdx (is a.client) = l.length := Nat.le_antisymm (idx_le _ _) (by omega)
      exact List.findIdx_eq_length.1 h2 _ (List.getElem_mem hlt)
  have hix := (ix_found hat (by simp [is, of]) hb).2
  refine ⟨?_, ?_⟩
  · unfold has
    rw [hix]
    exact decide_eq_true (List.getElem?_eq_some_iff.1 hat).1
  · unfold get
    rw [hix, hat]
    rfl
theorem put_len (l : List Ses) (a : An.Ans) : (put l a).length ≤ l.length + 1 := by
  have h1 := fro_le l a.client
  have h2 := upto_le l a.client
  unfold put
  simp
  omega
theorem which_put (l : List Ses) (a : An.Ans) : which (put l a) a.client a.seq = (1, a) := by
  obtain ⟨h1, h2⟩ := put_found l a
  unfold which
  rw [h1, h2, if_neg (by simp [of]), if_pos (show a.seq = (of a).seq from rfl)]
  rfl
theorem which_less (l : List Ses) (a : An.Ans) (q : Int) (h : q < a.seq) : which (put l a) a.client q = (2, An.zero) := by
  obtain ⟨h1, h2⟩ := put_found l a
  unfold which
  rw [h1, h2, if_neg (by simp [of]; omega), if_neg (by simp [of]; omega)]

/-! Whether there are too many, or too long ones. -/
def long (s : Ses) : Bool := decide (200 < s.last.val.length)
def large (l : List Ses) : Bool := (l.take 40).any long || decide (40 < l.length)
theorem large_yes {l : List Ses} {k : Nat} {s : Ses} (he : l[k]? = some s) (hk : k < 40) (h : long s = true) : large l = true := by
  unfold large
  rw [show (l.take 40).any long = true from List.any_eq_true.2 ⟨s, List.mem_of_getElem? (by rw [List.getElem?_take, if_pos hk]; exact he), h⟩]
  rfl
theorem large_no {l : List Ses} (h : ∀ (k : Nat) (e : Ses), k < 40 → l[k]? = some e → long e = false) : large l = decide (40 < l.length) := by
  unfold large
  rw [show (l.take 40).any long = false from List.any_eq_false.2 fun e he => by
    obtain ⟨k, hk⟩ := List.getElem?_of_mem he
    rw [List.getElem?_take] at hk
    split at hk
    · rename_i h40; rw [h k e h40 hk]; simp
    · cases hk]
  rfl
theorem small {l : List Ses} (h : large l = false) : l.length ≤ 40 ∧ ∀ e ∈ l, e.last.val.length ≤ 200 := by
  unfold large at h
  rw [Bool.or_eq_false_iff] at h
  have h40 : l.length ≤ 40 := by have := of_decide_eq_false h.2; omega
  refine ⟨h40, fun e he => ?_⟩
  have := List.any_eq_false.1 h.1 e (by rw [List.take_of_length_le h40]; exact he)
  unfold long at this
  simpa using this

end Se
end Go.Proofs.Ytgcjjlkjlabneaa
