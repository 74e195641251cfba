/- Pairs with revisions, plain: which may be in schema 2, those without revisions, what a command does. No program is spoken of. -/
import Derived.Test.YtgcjjlkjlabneaaKvMath
namespace Go.Proofs.Ytgcjjlkjlabneaa
namespace Kv

/-! Without revisions. -/
def bare (p : Item) : Item := ⟨p.key, p.val, 0⟩
def plain (l : List Item) : List Item := l.map bare
theorem plain_len (l : List Item) : (plain l).length = l.length := List.length_map _
theorem plain_at (l : List Item) (k : Nat) : (plain l)[k]? = (l[k]?).map bare := List.getElem?_map
theorem plain_asc {l : List Item} : Asc (plain l) ↔ Asc l := by unfold Asc plain; rw [List.pairwise_map]; rfl
theorem plain_rises (l : List Item) : rises (plain l) = rises l := decide_eq_decide.2 plain_asc
theorem plain_below (l : List Item) (x : List UInt8) : below (plain l) x = below l x := by unfold below plain; rw [List.countP_map]; rfl
theorem plain_found (l : List Item) (x : List UInt8) : found (plain l) x = found l x := by
  unfold found
  rw [plain_below, plain_at]
  cases l[below l x]? <;> rfl
theorem plain_upto (l : List Item) (x : List UInt8) : upto (plain l) x = upto l x := by unfold upto; rw [plain_below, plain_found]
theorem plain_find (l : List Item) (x : List UInt8) : find (plain l) x = bare (find l x) := by
  unfold find
  rw [plain_found, plain_below, plain_at]
  split
  · cases l[below l x]? <;> rfl
  · rfl
theorem plain_swap (b l : List Item) (x : List UInt8) : plain (swap b l x) = swap (plain b) (plain l) x := by
  unfold swap
  rw [plain_below, plain_upto]
  unfold plain
  rw [List.map_append, List.map_append, List.map_take, List.map_drop]
theorem plain_full (l : List Item) (c : Cm.Cmd) : full (plain l) c = full l c := by unfold full; rw [plain_found, plain_len]
theorem plain_pairs (l : List Item) (c : Cm.Cmd) : plain (pairs l c) = pairs (plain l) c := by
  unfold pairs
  rw [plain_full]
  split
  · split
    · rfl
    · rw [plain_swap]; unfold next; rw [plain_find]; rfl
  · split
    · rw [plain_swap]; rfl
    · rfl
theorem plain_ans (l : List Item) (c : Cm.Cmd) : ans (plain l) c = ans l c := by
  unfold ans told
  rw [plain_full, plain_found, plain_find]
  rfl

/-! Which may be. -/
def inRev (p : Item) : Bool := decide (1 ≤ p.rev) && decide (p.rev ≤ 4294967296)
def valid2 (p : Item) : Bool := Rn.key ⟨p.key.toArray⟩ && (Rn.val ⟨p.val.toArray⟩ && inRev p)
def refCheck2 (l : List Item) : Bool := if l.all valid2 = true then (decide (l.length ≤ 64) && rises l) else false
/-- As the program goes. -/
def check2 (l : List Item) : Bool := if l.all inRev = true then refCheck (plain l) else false
theorem valid2_eq (p : Item) : valid2 p = (valid (bare p) && inRev p) := by
  unfold valid2 valid bare
  simp [Bool.and_assoc]
theorem check2_ref (l : List Item) : check2 l = refCheck2 l := by
  unfold check2 refCheck2 refCheck
  rw [plain_rises, plain_len]
  have h : l.all valid2 = ((plain l).all valid && l.all inRev) := by
    unfold plain
    rw [List.all_map]
    induction l with
    | nil => rfl
    | cons a r ih =>
      simp only [List.all_cons, ih, valid2_eq, Function.comp]
      cases valid (bare a) <;> cases inRev a <;> simp
  rw [h]
  cases (plain l).all valid <;> cases l.all inRev <;> simp
theorem inRev_no {l : List Item} {k : Nat} {s : Item} (h : l[k]? = some s) (hv : inRev s = false) : refCheck2 l = false := by
  rw [← check2_ref]
  unfold check2
  rw [if_neg]
  intro ha
  rw [List.all_eq_true.1 ha s (List.mem_of_getElem? h)] at hv
  cases hv
theorem inRev_yes {l : List Item} (h : ∀ (j : Nat) (e : Item), j < l.length → l[j]? = some e → inRev e = true) : refCheck2 l = refCheck (plain l) := by
  rw [← check2_ref]
  unfold check2
  rw [if_pos (List.all_eq_true.2 fun s hs => by obtain ⟨j, hj⟩ := List.getElem?_of_mem hs; exact h j s (List.getElem?_eq_some_iff.1 hj).1 hj)]
theorem all_no2 {l : List Item} {k : Nat} {s : Item} (h : l[k]? = some s) (hv : valid2 s = false) : refCheck2 l = false := by
  unfold refCheck2
  rw [if_neg]
  intro ha
  rw [List.all_eq_true.1 ha s (List.mem_of_getElem? h)] at hv
  cases hv
theorem all_yes2 {l : List Item} (h : ∀ (j : Nat) (e : Item), l[j]? = some e → valid2 e = true) : refCheck2 l = (decide (l.length ≤ 64) && rises l) := by
  unfold refCheck2
  rw [if_pos (List.all_eq_true.2 fun s hs => by obtain ⟨j, hj⟩ := List.getElem?_of_mem hs; exact h j s hj)]
theorem refCheck2_asc {l : List Item} (h : refCheck2 l = true) : Asc l := by
  unfold refCheck2 rises at h
  split at h
  · rw [Bool.and_eq_true, decide_eq_true_eq, decide_eq_true_eq] at h; exact h.2
  · cases h

/-! What a command does. -/
def nxt (r : Int) : Int := if 4294967296 ≤ r then r else IntKind.i64.wrap (r + 1)
theorem nxt_le {r : Int} (h : 1 ≤ r) : r ≤ nxt r := by
  unfold nxt
  split
  · omega
  · rw [IntKind.wrap_i64]
    omega
/-- A pair, with a revision if the key is that one. -/
def rai (x : List UInt8) (r : Int) (p : Item) : Item := if p.key = x then ⟨p.key, p.val, r⟩ else p
def lift (x : List UInt8) (r : Int) (l : List Item) : List Item := l.map (rai x r)
def asPut (c : Cm.Cmd) : Cm.Cmd := { c with kind := 2 }
def put2 (l : List Item) (c : Cm.Cmd) : List Item := lift c.key (nxt (find l c.key).rev) (pairs l c)
def hit (l : List Item) (c : Cm.Cmd) : Bool := found l c.key && decide ((find l c.key).val = c.old)
def none2 (c : Cm.Cmd) : An.Ans := ⟨c.client, c.seq, 10, false, [], 0⟩
def stale2 (l : List Item) (c : Cm.Cmd) : An.Ans := ⟨c.client, c.seq, 15, true, (find l c.key).val, (find l c.key).rev⟩
def cas2 (l : List Item) (c : Cm.Cmd) : An.Ans := ⟨c.client, c.seq, 0, true, (find l c.key).val, nxt (find l c.key).rev⟩
def pairs2 (l : List Item) (c : Cm.Cmd) : List Item :=
  if c.kind = 2 then put2 l c else if c.kind = 5 then (if hit l c = true then put2 l (asPut c) else l) else pairs l c
def ans2 (l : List Item) (c : Cm.Cmd) : An.Ans :=
  if c.kind = 5 then (if found l c.key = false then none2 c else if hit l c = true then cas2 l c else stale2 l c) else ans l c
/-- What a swap's put answers, before it is told the revision. -/
theorem ans_hit {l : List Item} {c : Cm.Cmd} (h : found l c.key = true) : ans l (asPut c) = ⟨c.client, c.seq, 0, true, (find l c.key).val, 0⟩ := by
  unfold ans asPut full told
  simp [h]

theorem rai_plain (x : List UInt8) (r : Int) (p : Item) : bare (rai x r p) = bare p := by unfold rai; split <;> rfl
theorem lift_plain (x : List UInt8) (r : Int) (l : List Item) : plain (lift x r l) = plain l := by
  unfold plain lift
  rw [List.map_map]
  exact List.map_congr_left fun p _ => rai_plain x r p
/-- What the older schema does, but for revisions. -/
theorem older_pairs {l : List Item} {c : Cm.Cmd} (h : c.kind ≠ 5) : plain (pairs2 l c) = pairs (plain l) c := by
  unfold pairs2
  rw [← plain_pairs]
  split
  · unfold put2; rw [lift_plain]
  · first | rfl | rw [if_neg h]
theorem older_ans {l : List Item} {c : Cm.Cmd} (h : c.kind ≠ 5) : ans2 l c = ans (plain l) c := by
  unfold ans2
  rw [if_neg h, plain_ans]
theorem pairs2_len (l : List Item) (c : Cm.Cmd) : (pairs2 l c).length ≤ l.length + 1 := by
  unfold pairs2
  split
  · unfold put2 lift; rw [List.length_map]; exact pairs_len l c
  · split
    · split
      · unfold put2 lift; rw [List.length_map]; exact pairs_len l _
      · omega
    · exact pairs_len l c

/-! A compare and swap. -/
theorem swap_set (q : Item) (l : List Item) (x : List UInt8) (h : found l x = true) : swap [q] l x = l.set (below l x) q := by
  unfold swap upto
  rw [if_pos h, List.set_eq_take_append_cons_drop, if_pos (found_lt h)]
  simp
theorem found_key {l : List Item} {x : List UInt8} {p : Item} (h : found l x = true) (hp : l[below l x]? = some p) : p.key = x := by
  unfold found at h
  rw [hp] at h
  simpa using h
theorem ix_below {l : List Item} {x : List UInt8} (hp : Asc l) : (found l x = true ∧ ix l x = (below l x : Int) ∧ l[below l x]? = some (find l x) ∧ (find l x).key = x) ∨ (found l x = false ∧ ix l x < 0) := by
  have hl := look_eq l x hp
  rcases ix_look l x with ⟨h1, h2⟩ | ⟨k, e, h1, h2, h3⟩
  · right; rw [h2] at hl; exact ⟨hl.1, h1⟩
  · left
    rw [h3] at hl
    have hf : found l x = true := hl.1
    have hfi : find l x = e := hl.2
    have hlt := found_lt hf
    have hg := List.getElem?_eq_getElem hlt
    have hk := found_key hf hg
    have hek : e.key = x := by
      have := List.find?_some h3
      simpa [is] using this
    have hkb : k = below l x := by
      rcases Nat.lt_trichotomy k (below l x) with h | h | h
      · exact absurd (pair_lt hp h h2 hg) (by rw [hk, hek]; exact irr x)
      · exact h
      · exact absurd (pair_lt hp h hg h2) (by rw [hk, hek]; exact irr x)
    subst hkb
    rw [hfi]
    exact ⟨hf, h1, h2, hek⟩
theorem hit_put {l : List Item} {c : Cm.Cmd} (hp : Asc l) (h : found l c.key = true) : put2 l (asPut c) = l.set (below l c.key) ⟨c.key, c.val, nxt (find l c.key).rev⟩ := by
  have hlt := found_lt h
  have hfull : full l (asPut c) = false := by unfold full asPut; simp [h]
  unfold put2 pairs
  rw [hfull, if_pos (show (asPut c).kind = 2 from rfl), if_neg (by simp)]
  show lift c.key _ (swap [next l (asPut c)] l c.key) = _
  rw [swap_set _ l _ h]
  show lift c.key (nxt (find l c.key).rev) (l.set (below l c.key) ⟨c.key, c.val, _⟩) = _
  unfold lift
  apply List.ext_getElem?
  intro i
  rw [List.getElem?_map, List.getElem?_set, List.getElem?_set]
  by_cases hi : below l c.key = i
  · rw [if_pos hi, if_pos hi, if_pos (by omega), if_pos (by omega)]
    simp [rai]
  · rw [if_neg hi, if_neg hi]
    cases hli : l[i]? with
    | none => rfl
    | some e =>
      have hg := List.getElem?_eq_getElem hlt
      have hk := found_key h hg
      have hne : e.key ≠ c.key := by
        rcases Nat.lt_or_gt_of_ne hi with h' | h'
        · have := pair_lt hp h' hg hli; rw [hk] at this; exact (ne_of this).symm
        · have := pair_lt hp h' hli hg; rw [hk] at this; exact ne_of this
      simp [rai, hne]

end Kv
end Go.Proofs.Ytgcjjlkjlabneaa
