/- States, plain: pairs and sessions under a schema; which may be, and one migrated. No program is spoken of. -/
import Derived.Test.YtgcjjlkjlabneaaKwMath
import Derived.Test.YtgcjjlkjlabneaaSeMath
namespace Go.Proofs.Ytgcjjlkjlabneaa

/-- A state. -/
structure Mg.St where
  schema : Int
  pairs : List Kv.Item
  sess : List Se.Ses
deriving DecidableEq
namespace Mg

def zero : St := ⟨0, [], []⟩
/-- An answer tells a revision. -/
def tells (s : Se.Ses) : Bool := s.last.rev != 0
def pairsOk (schema : Int) (l : List Kv.Item) : Bool := if schema = 1 then Kv.refCheck l else if schema = 2 then Kv.refCheck2 l else false
def sessOk (schema : Int) (l : List Se.Ses) : Bool := if schema = 1 ∧ l.any tells = true then false else Se.refCheck l
def check (s : St) : Bool := pairsOk s.schema s.pairs && sessOk s.schema s.sess
/-- A pair with that revision; a state all of whose pairs have it, in a schema. -/
def rev (r : Int) (p : Kv.Item) : Kv.Item := ⟨p.key, p.val, r⟩
def revd (s : St) (schema r : Int) : St := ⟨schema, s.pairs.map (rev r), s.sess⟩
def up (s : St) : St × Int := if check s = false then (zero, 3) else if s.schema = 2 then (zero, 12) else (revd s 2 1, 0)
def large (s : St) : Bool := Se.large s.sess || Kv.large s.pairs

theorem plain_rev (r : Int) (l : List Kv.Item) : Kv.plain (l.map (rev r)) = Kv.plain l := by
  unfold Kv.plain
  rw [List.map_map]
  rfl
theorem plain_old {l : List Kv.Item} (h : Kv.refCheck l = true) : Kv.plain l = l := by
  unfold Kv.refCheck at h
  split at h
  · rename_i ha
    unfold Kv.plain
    conv => rhs; rw [← List.map_id l]
    refine List.map_congr_left fun p hp => ?_
    have hv := List.all_eq_true.1 ha p hp
    unfold Kv.valid at hv
    simp only [Bool.and_eq_true, beq_iff_eq] at hv
    obtain ⟨k, v, r⟩ := p
    have h0 : r = 0 := hv.2.2
    subst h0
    rfl
  · cases h
/-- A migrated list of pairs may be. -/
theorem pairs_up {l : List Kv.Item} (h : Kv.refCheck l = true) : Kv.refCheck2 (l.map (rev 1)) = true := by
  rw [Kv.inRev_yes, plain_rev, plain_old h]
  · exact h
  · intro j e _ he
    obtain ⟨p, _, rfl⟩ := List.mem_map.1 (List.mem_of_getElem? he)
    rfl
theorem schema_of {s : St} (h : check s = true) : s.schema = 1 ∨ s.schema = 2 := by
  by_cases h1 : s.schema = 1
  · exact .inl h1
  · by_cases h2 : s.schema = 2
    · exact .inr h2
    · unfold check pairsOk at h
      rw [if_neg h1, if_neg h2] at h
      cases h
/-- A migrated state may be. -/
theorem check_up {s : St} (h : check s = true) (h2 : s.schema ≠ 2) : check (revd s 2 1) = true := by
  obtain h1 : s.schema = 1 := (schema_of h).resolve_right h2
  unfold check pairsOk sessOk at h
  rw [h1, if_pos rfl, Bool.and_eq_true] at h
  have hp := pairs_up h.1
  have hs : Se.refCheck s.sess = true := by
    have := h.2
    split at this
    · cases this
    · exact this
  unfold check pairsOk sessOk
  rw [show (revd s 2 1).schema = 2 from rfl, if_neg (by decide), if_pos rfl, show (revd s 2 1).pairs = s.pairs.map (rev 1) from rfl, show (revd s 2 1).sess = s.sess from rfl, hp, if_neg (fun h => absurd h.1 (by decide)), hs]
  rfl
theorem up_no {s : St} (h : check s = false) : up s = (zero, 3) := if_pos h
theorem up_late {s : St} (h : check s = true) (h2 : s.schema = 2) : up s = (zero, 12) := by
  unfold up
  rw [if_neg (by rw [h]; decide), if_pos h2]
theorem up_yes {s : St} (h : check s = true) (h2 : s.schema ≠ 2) : up s = (revd s 2 1, 0) := by
  unfold up
  rw [if_neg (by rw [h]; decide), if_neg h2]
/-- .. and it cannot be migrated again. -/
theorem up_again {s : St} (h : check s = true) (h2 : s.schema ≠ 2) : up (revd s 2 1) = (zero, 12) := up_late (check_up h h2) rfl
theorem revd_revd (s : St) (a b c d : Int) : revd (revd s a b) c d = revd s c d := by
  unfold revd
  simp only [List.map_map]
  rfl
/-- As the document goes: the sessions one by one, behind the others. -/
theorem tells_no {l : List Se.Ses} {k : Nat} {e : Se.Ses} (h : l[k]? = some e) (ht : tells e = true) : l.any tells = true := List.any_eq_true.2 ⟨e, List.mem_of_getElem? h, ht⟩
theorem tells_yes {l : List Se.Ses} (h : ∀ (j : Nat) (e : Se.Ses), l[j]? = some e → tells e = false) : l.any tells = false := by
  rw [List.any_eq_false]
  intro e he
  obtain ⟨j, hj⟩ := List.getElem?_of_mem he
  rw [h j e hj]
  decide
theorem large_no {s : St} (h : large s = false) : Se.large s.sess = false ∧ Kv.large s.pairs = false := by
  unfold large at h
  rwa [Bool.or_eq_false_iff] at h

end Mg
end Go.Proofs.Ytgcjjlkjlabneaa
