/- Files by their numbers, what is buffered, and what a crash leaves: plain. No program is spoken of. -/
import Derived.Test.YtffgfjfeoinnfaaKit
namespace Go.Proofs.Ytffgfjfeoinnfaa
open Go.RowKit

namespace Dk

structure Op where
  kind : Int
  no : Int
  data : List UInt8

/-- Files, by their numbers. -/
abbrev Files := List (Int × List UInt8)

section
variable {α β : Type}
def Asc (l : List (Int × α)) : Prop := l.Pairwise fun a b => a.1 < b.1
def get : List (Int × α) → Int → Option α
  | [], _ => none
  | p :: r, n => if p.1 = n then some p.2 else get r n
def ins (n : Int) (x : α) : List (Int × α) → List (Int × α)
  | [] => [(n, x)]
  | p :: r => if n < p.1 then (n, x) :: p :: r else p :: ins n x r
def del (l : List (Int × α)) (n : Int) : List (Int × α) := l.filter fun p => p.1 != n
def put (l : List (Int × α)) (n : Int) (x : α) : List (Int × α) := ins n x (del l n)
def onto (f : α → β) (l : List (Int × α)) : List (Int × β) := l.map fun p => (p.1, f p.2)

theorem Asc.tail {p : Int × α} {r : List (Int × α)} (h : Asc (p :: r)) : Asc r := (List.pairwise_cons.1 h).2
theorem Asc.head {p : Int × α} {r : List (Int × α)} (h : Asc (p :: r)) : ∀ q ∈ r, p.1 < q.1 := (List.pairwise_cons.1 h).1
theorem Asc.nil : Asc ([] : List (Int × α)) := List.Pairwise.nil

theorem mem_ins {n : Int} {x : α} {q : Int × α} : ∀ {l : List (Int × α)}, q ∈ ins n x l ↔ q = (n, x) ∨ q ∈ l
  | [] => by simp [ins]
  | p :: r => by
    unfold ins
    split
    · simp
    · rw [List.mem_cons, mem_ins (l := r), List.mem_cons]
      constructor
      · rintro (h | h | h) <;> simp [h]
      · rintro (h | h | h) <;> simp [h]
theorem mem_del {n : Int} {q : Int × α} {l : List (Int × α)} : q ∈ del l n ↔ q ∈ l ∧ q.1 ≠ n := by
  unfold del
  rw [List.mem_filter]
  simp
theorem mem_put {n : Int} {x : α} {q : Int × α} {l : List (Int × α)} : q ∈ put l n x ↔ q = (n, x) ∨ (q ∈ l ∧ q.1 ≠ n) := by
  unfold put
  rw [mem_ins, mem_del]
theorem asc_ins {n : Int} {x : α} : ∀ {l : List (Int × α)}, Asc l → (∀ q ∈ l, q.1 ≠ n) → Asc (ins n x l)
  | [], _, _ => by simp [ins, Asc]
  | p :: r, h, hn => by
    unfold ins
    split
    · rename_i hlt
      refine List.pairwise_cons.2 ⟨fun q hq => ?_, h⟩
      rcases List.mem_cons.1 hq with rfl | hq
      · exact hlt
      · have := h.head q hq
        show n < q.1
        omega
    · rename_i hge
      have hp := hn p (by simp)
      refine List.pairwise_cons.2 ⟨fun q hq => ?_, asc_ins h.tail (fun _ hq => hn _ (List.mem_cons_of_mem _ hq))⟩
      rcases mem_ins.1 hq with rfl | hq
      · show p.1 < n
        omega
      · exact h.head q hq
theorem asc_del {n : Int} {l : List (Int × α)} (h : Asc l) : Asc (del l n) := List.Pairwise.filter _ h
theorem asc_put {n : Int} {x : α} {l : List (Int × α)} (h : Asc l) : Asc (put l n x) := asc_ins (asc_del h) fun _ hq => (mem_del.1 hq).2
theorem get_none {n : Int} : ∀ {l : List (Int × α)}, get l n = none ↔ ∀ q ∈ l, q.1 ≠ n
  | [] => by simp [get]
  | p :: r => by
    unfold get
    split
    · rename_i h
      constructor
      · intro e; cases e
      · intro e; exact absurd h (e p (by simp))
    · rename_i h
      rw [get_none (l := r)]
      constructor
      · intro e q hq
        rcases List.mem_cons.1 hq with rfl | hq
        · exact h
        · exact e q hq
      · intro e q hq
        exact e q (List.mem_cons_of_mem _ hq)
theorem get_mem {n : Int} {x : α} : ∀ {l : List (Int × α)}, get l n = some x → (n, x) ∈ l
  | [], h => by simp [get] at h
  | p :: r, h => by
    unfold get at h
    split at h
    · rename_i hp
      simp only [Option.some.injEq] at h
      subst hp h
      exact List.mem_cons_self
    · exact List.mem_cons_of_mem _ (get_mem h)
theorem get_of_mem {n : Int} {x : α} : ∀ {l : List (Int × α)}, Asc l → (n, x) ∈ l → get l n = some x
  | [], _, h => by simp at h
  | p :: r, ha, h => by
    unfold get
    rcases List.mem_cons.1 h with rfl | h
    · simp
    · have := ha.head _ h
      rw [if_neg (by simp only at this; omega)]
      exact get_of_mem ha.tail h
theorem del_none {n : Int} {l : List (Int × α)} (h : get l n = none) : del l n = l := by
  unfold del
  refine List.filter_eq_self.2 fun q hq => ?_
  have := get_none.1 h q hq
  simpa using this
theorem onto_ins (f : α → β) (n : Int) (x : α) : ∀ l : List (Int × α), onto f (ins n x l) = ins n (f x) (onto f l)
  | [] => rfl
  | p :: r => by
    show onto f (if n < p.1 then _ else _) = if n < p.1 then _ else _
    split
    · rfl
    · show (p.1, f p.2) :: onto f (ins n x r) = _
      rw [onto_ins f n x r]
      rfl
theorem onto_del (f : α → β) (l : List (Int × α)) (n : Int) : onto f (del l n) = del (onto f l) n := by
  unfold onto del
  rw [List.filter_map]
  rfl
theorem onto_put (f : α → β) (l : List (Int × α)) (n : Int) (x : α) : onto f (put l n x) = put (onto f l) n (f x) := by
  unfold put
  rw [onto_ins, onto_del]
theorem onto_get (f : α → β) (n : Int) : ∀ l : List (Int × α), get (onto f l) n = (get l n).map f
  | [] => rfl
  | p :: r => by
    show (if p.1 = n then _ else get (onto f r) n) = ((if p.1 = n then _ else get r n) : Option α).map f
    split
    · rfl
    · exact onto_get f n r
theorem onto_keys (f : α → β) (l : List (Int × α)) : (onto f l).map (·.1) = l.map (·.1) := by simp [onto, Function.comp_def]
theorem asc_onto (f : α → β) {l : List (Int × α)} : Asc (onto f l) ↔ Asc l := by
  unfold Asc onto
  rw [List.pairwise_map]
theorem len_ins (n : Int) (x : α) : ∀ l : List (Int × α), (ins n x l).length = l.length + 1
  | [] => rfl
  | p :: r => by
    unfold ins
    split
    · rfl
    · rw [List.length_cons, len_ins n x r, List.length_cons]
theorem len_put (l : List (Int × α)) (n : Int) (x : α) : (put l n x).length ≤ l.length + 1 := by
  unfold put del
  rw [len_ins]
  have := List.length_filter_le (fun p : Int × α => p.1 != n) l
  omega
/-- What is stored at its own number again. -/
theorem put_same {n : Int} {x : α} : ∀ {l : List (Int × α)}, Asc l → get l n = some x → put l n x = l
  | [], _, h => by simp [get] at h
  | p :: r, ha, h => by
    unfold get at h
    unfold put del
    rw [List.filter_cons]
    split at h
    · rename_i hp
      simp only [Option.some.injEq] at h
      subst hp h
      rw [if_neg (by simp)]
      have hr : r.filter (fun q => q.1 != p.1) = r := List.filter_eq_self.2 fun q hq => by have := ha.head q hq; simp; omega
      rw [hr]
      cases r with
      | nil => rfl
      | cons q r =>
        unfold ins
        rw [if_pos (ha.head q (by simp))]
    · rename_i hp
      rw [if_pos (by simpa using hp)]
      have hlt : p.1 < n := ha.head _ (get_mem h)
      show (if n < p.1 then _ else _) = _
      rw [if_neg (by omega)]
      exact congrArg _ (put_same ha.tail h)
end

/-- An operation carried out. -/
def done (F : Files) (x : Op) : Files :=
  match get F x.no with
  | none => if x.kind = 1 then put F x.no [] else F
  | some d => if x.kind = 2 then put F x.no (d ++ x.data) else if x.kind = 3 then del F x.no else F
def all (F : Files) (B : List Op) : Files := B.foldl done F
def clamp (n : Int) (most : Nat) : Nat := min n.toNat most
/-- An operation of which so much is there. -/
def torn (x : Op) (n : Int) : Op := ⟨x.kind, x.no, x.data.take (clamp n x.data.length)⟩
def crash (F : Files) (B : List Op) (keep cut : Int) : Files :=
  match B[clamp keep B.length]? with
  | none => all F B
  | some x => if x.kind = 2 then done (all F (B.take (clamp keep B.length))) (torn x cut) else all F (B.take (clamp keep B.length))

def isKind (k : Int) : Prop := k = 1 ∨ k = 2 ∨ k = 3
def Kinds (B : List Op) : Prop := ∀ x ∈ B, isKind x.kind ∧ 1 ≤ x.no ∧ x.no ≤ 4294967296

theorem asc_done {F : Files} (h : Asc F) (x : Op) : Asc (done F x) := by
  unfold done
  split
  · split
    · exact asc_put h
    · exact h
  · split
    · exact asc_put h
    · split
      · exact asc_del h
      · exact h
theorem asc_all {F : Files} (h : Asc F) (B : List Op) : Asc (all F B) := by
  unfold all
  induction B generalizing F with
  | nil => exact h
  | cons x r ih => exact ih (asc_done h x)
theorem all_snoc (F : Files) (B : List Op) (x : Op) : all F (B ++ [x]) = done (all F B) x := by simp [all, List.foldl_append]
theorem all_step {F : Files} {B : List Op} {i : Nat} {x : Op} (h : B[i]? = some x) : all F (B.take (i + 1)) = done (all F (B.take i)) x := by
  rw [List.take_add_one, h]
  exact all_snoc _ _ _
theorem crash_asc {F : Files} (h : Asc F) (B : List Op) (k n : Int) : Asc (crash F B k n) := by
  unfold crash
  split
  · exact asc_all h _
  · split
    · exact asc_done (asc_all h _) _
    · exact asc_all h _

/-! How much there is. -/
def wt (F : Files) : Nat := (F.map fun f => 1 + f.2.length).sum
def wtB (B : List Op) : Nat := (B.map fun x => 1 + x.data.length).sum
theorem wt_cons (f : Int × List UInt8) (F : Files) : wt (f :: F) = 1 + f.2.length + wt F := by simp [wt]
theorem wtB_cons (x : Op) (B : List Op) : wtB (x :: B) = 1 + x.data.length + wtB B := by simp [wtB]
theorem wtB_app (A B : List Op) : wtB (A ++ B) = wtB A + wtB B := by simp [wtB]
theorem wt_mem {f : Int × List UInt8} : ∀ {F : Files}, f ∈ F → 1 + f.2.length ≤ wt F
  | [], h => by simp at h
  | g :: r, h => by
    rw [wt_cons]
    rcases List.mem_cons.1 h with rfl | h
    · omega
    · have := wt_mem h; omega
theorem wtB_mem {x : Op} : ∀ {B : List Op}, x ∈ B → 1 + x.data.length ≤ wtB B
  | [], h => by simp at h
  | g :: r, h => by
    rw [wtB_cons]
    rcases List.mem_cons.1 h with rfl | h
    · omega
    · have := wtB_mem h; omega
theorem len_wt : ∀ F : Files, F.length ≤ wt F
  | [] => by simp
  | f :: r => by have := len_wt r; rw [wt_cons, List.length_cons]; omega
theorem len_wtB : ∀ B : List Op, B.length ≤ wtB B
  | [] => by simp
  | f :: r => by have := len_wtB r; rw [wtB_cons, List.length_cons]; omega
theorem wt_ins (n : Int) (d : List UInt8) : ∀ F : Files, wt (ins n d F) = wt F + 1 + d.length
  | [] => by simp [ins, wt]
  | f :: r => by
    unfold ins
    split
    · rw [wt_cons]; simp only; omega
    · rw [wt_cons, wt_ins n d r, wt_cons]; omega
theorem wt_del_le (n : Int) : ∀ F : Files, wt (del F n) ≤ wt F
  | [] => by simp [del]
  | f :: r => by
    have := wt_del_le n r
    unfold del at this ⊢
    rw [List.filter_cons]
    split <;> simp only [wt_cons] <;> omega
theorem wt_del {n : Int} {d : List UInt8} : ∀ {F : Files}, (n, d) ∈ F → wt (del F n) + (1 + d.length) ≤ wt F
  | [], h => by simp at h
  | f :: r, h => by
    rw [wt_cons]
    have h2 := wt_del_le n r
    unfold del at h2 ⊢
    rw [List.filter_cons]
    rcases List.mem_cons.1 h with rfl | h
    · rw [if_neg (by simp)]
      simp only
      omega
    · have := wt_del h
      unfold del at this
      split
      · rw [wt_cons]; omega
      · omega
theorem wt_done (F : Files) (x : Op) : wt (done F x) ≤ wt F + (1 + x.data.length) := by
  unfold done
  split
  · split
    · unfold put
      rw [wt_ins]
      have := wt_del_le x.no F
      simp
      omega
    · omega
  · rename_i d hd
    split
    · unfold put
      rw [wt_ins]
      have := wt_del (get_mem hd)
      simp
      omega
    · split
      · have := wt_del_le x.no F; omega
      · omega
theorem wt_all (B : List Op) : ∀ F : Files, wt (all F B) ≤ wt F + wtB B := by
  induction B with
  | nil => intro F; simp [all, wtB]
  | cons x r ih =>
    intro F
    have h1 := ih (done F x)
    have h2 := wt_done F x
    rw [wtB_cons]
    show wt (all (done F x) r) ≤ _
    omega
theorem wtB_split (B : List Op) (i : Nat) : wtB (B.take i) + wtB (B.drop i) = wtB B := by rw [← wtB_app, List.take_append_drop]
theorem wt_crash (F : Files) (B : List Op) (k n : Int) : wt (crash F B k n) ≤ wt F + wtB B := by
  have h1 := wtB_split B (clamp k B.length)
  unfold crash
  split
  · exact wt_all B F
  · rename_i x hx
    have h2 := wt_all (B.take (clamp k B.length)) F
    split
    · have h3 := wt_done (all F (B.take (clamp k B.length))) (torn x n)
      have h4 : x ∈ B.drop (clamp k B.length) := by
        obtain ⟨hlt, e⟩ := List.getElem?_eq_some_iff.1 hx
        rw [List.mem_iff_getElem?]
        exact ⟨0, by simpa using hx⟩
      have h5 := wtB_mem h4
      have h6 : (torn x n).data.length ≤ x.data.length := by simp [torn]; omega
      omega
    · omega

/-! The document's way: one file behind the other. -/
def rest (x : Op) : Bool → Files → Files
  | d, [] => if d then [] else [(x.no, [])]
  | d, f :: r => (if !d && decide (f.1 > x.no) then [(x.no, [])] else []) ++ (if f.1 ≠ x.no then [f] else if x.kind = 2 then [(x.no, f.2 ++ x.data)] else if x.kind = 1 then [f] else []) ++ rest x (d || decide (f.1 > x.no)) r
theorem rest_done (x : Op) : ∀ {F : Files}, (∀ q ∈ F, q.1 ≠ x.no) → rest x true F = F
  | [], _ => rfl
  | f :: r, h => by
    unfold rest
    rw [if_neg (by simp), if_pos (h f (by simp)), Bool.true_or, rest_done x fun q hq => h q (List.mem_cons_of_mem _ hq)]
    rfl
theorem rest_ins (x : Op) : ∀ {F : Files}, Asc F → (∀ q ∈ F, q.1 ≠ x.no) → rest x false F = ins x.no [] F
  | [], _, _ => rfl
  | f :: r, ha, h => by
    have hf := h f (by simp)
    unfold rest ins
    rw [Bool.false_or, if_pos hf]
    by_cases hlt : f.1 > x.no
    · rw [if_pos (by simpa using hlt), if_pos hlt, decide_eq_true hlt, rest_done x fun q hq => h q (List.mem_cons_of_mem _ hq)]
      rfl
    · rw [if_neg (by simpa using hlt), if_neg hlt, decide_eq_false hlt, rest_ins x ha.tail fun q hq => h q (List.mem_cons_of_mem _ hq)]
      rfl
theorem rest_some (x : Op) {d : List UInt8} : ∀ {F : Files}, Asc F → get F x.no = some d → isKind x.kind →
    rest x true F = if x.kind = 2 then put F x.no (d ++ x.data) else if x.kind = 3 then del F x.no else F
  | [], _, h, _ => by simp [get] at h
  | f :: r, ha, h, hk => by
    unfold rest
    rw [if_neg (by simp), Bool.true_or]
    unfold get at h
    split at h
    · rename_i hf
      simp only [Option.some.injEq] at h
      subst h
      have hr : ∀ q ∈ r, q.1 ≠ x.no := fun q hq => by have := ha.head q hq; omega
      rw [if_neg (by simpa using hf), rest_done x hr]
      have hd : del (f :: r) x.no = r := by
        unfold del
        rw [List.filter_cons, if_neg (by simpa using hf)]
        exact List.filter_eq_self.2 fun q hq => by simpa using hr q hq
      have hi : ∀ y, ins x.no y r = (x.no, y) :: r := fun y => by
        cases r with
        | nil => rfl
        | cons q r =>
          unfold ins
          rw [if_pos (by have := ha.head q (by simp); omega)]
      rcases hk with e | e | e
      · simp [e]
      · simp only [e, if_true]
        unfold put
        rw [hd, hi]
        rfl
      · simp [e, hd]
    · rename_i hf
      have hlt : f.1 < x.no := ha.head _ (get_mem h)
      rw [if_pos hf, rest_some x ha.tail h hk]
      have hdel : del (f :: r) x.no = f :: del r x.no := by
        unfold del
        rw [List.filter_cons, if_pos (by simpa using hf)]
      split
      · unfold put
        rw [hdel]
        show _ = if x.no < f.1 then _ else _
        rw [if_neg (by omega)]
        rfl
      · split
        · rw [hdel]; rfl
        · rfl
/-- What the document's loop comes to. -/
theorem rest_is (x : Op) {F : Files} (ha : Asc F) (hk : isKind x.kind) : rest x (decide (x.kind ≠ 1) || (get F x.no).isSome) F = done F x := by
  unfold done
  cases hg : get F x.no with
  | none =>
    have hn := get_none.1 hg
    simp only [Option.isSome_none, Bool.or_false]
    by_cases h1 : x.kind = 1
    · rw [if_pos h1, decide_eq_false (by simpa using h1), rest_ins x ha hn]
      unfold put
      rw [del_none hg]
    · rw [if_neg h1, decide_eq_true (by simpa using h1), rest_done x hn]
  | some d =>
    simp only [Option.isSome_some, Bool.or_true]
    exact rest_some x ha hg hk

/-! Beginnings. -/
def begins (a b : Files) : Prop := a.length = b.length ∧ ∀ (i : Nat) (f g : Int × List UInt8), a[i]? = some f → b[i]? = some g → f.1 = g.1 ∧ f.2 <+: g.2
theorem begins_refl (a : Files) : begins a a := ⟨rfl, fun i f g h1 h2 => by rw [h1] at h2; cases h2; exact ⟨rfl, List.prefix_refl _⟩⟩
theorem begins_cons {f g : Int × List UInt8} {a b : Files} (h1 : f.1 = g.1) (h2 : f.2 <+: g.2) (h : begins a b) : begins (f :: a) (g :: b) := by
  refine ⟨by simp [h.1], fun i x y hx hy => ?_⟩
  cases i with
  | zero => simp at hx hy; subst hx hy; exact ⟨h1, h2⟩
  | succ i => exact h.2 i x y (by simpa using hx) (by simpa using hy)
theorem begins_ins (n : Int) {d e : List UInt8} (h : d <+: e) : ∀ F : Files, begins (ins n d F) (ins n e F)
  | [] => begins_cons rfl h (begins_refl _)
  | f :: r => by
    unfold ins
    split
    · exact begins_cons rfl h (begins_refl _)
    · exact begins_cons rfl (List.prefix_refl _) (begins_ins n h r)
theorem begins_torn (F : Files) (x : Op) (n : Int) (h2 : x.kind = 2) : begins (done F (torn x n)) (done F x) := by
  unfold done torn
  simp only [h2]
  split
  · exact begins_refl _
  · exact begins_ins _ (List.prefix_append_right_inj _ |>.2 (List.take_prefix _ _)) _
theorem crash_begins (F : Files) (B : List Op) (k n : Int) : ∃ i, i ≤ B.length ∧ begins (crash F B k n) (all F (B.take i)) := by
  unfold crash
  split
  · exact ⟨B.length, Nat.le_refl _, by rw [List.take_length]; exact begins_refl _⟩
  · rename_i x hx
    have hlt := (List.getElem?_eq_some_iff.1 hx).1
    split
    · rename_i h2
      refine ⟨clamp k B.length + 1, by omega, ?_⟩
      rw [all_step hx]
      exact begins_torn _ _ _ h2
    · exact ⟨_, by omega, begins_refl _⟩
theorem done_nothing {F : Files} (h : Asc F) (k no : Int) (h2 : k = 2) : done F ⟨k, no, []⟩ = F := by
  unfold done
  subst h2
  simp only [List.append_nil]
  split
  · rfl
  · rename_i d hd
    exact put_same h hd
theorem crash_none {F : Files} (h : Asc F) (B : List Op) : crash F B 0 0 = F := by
  unfold crash
  have e : clamp 0 B.length = 0 := by simp [clamp]
  rw [e]
  cases B with
  | nil => rfl
  | cons x r =>
    simp only [List.getElem?_cons_zero, List.take_zero]
    split
    · rename_i h2
      have : torn x 0 = ⟨x.kind, x.no, []⟩ := by simp [torn, clamp]
      rw [this]
      exact done_nothing h _ _ h2
    · rfl
/-- Everything is kept. -/
theorem crash_all (F : Files) (B : List Op) (k n : Int) (h : (B.length : Int) ≤ k) : crash F B k n = all F B := by
  unfold crash
  have e : clamp k B.length = B.length := by unfold clamp; omega
  rw [e, List.getElem?_eq_none (Nat.le_refl _)]

/-! Steps. -/
structure Step where
  kind : Int
  no : Int
  n : Int
  data : List UInt8
def takes (s : Step) : Bool := decide (1 ≤ s.kind ∧ s.kind ≤ 3 ∧ 1 ≤ s.no ∧ s.no ≤ 4294967296)
def opOf (s : Step) : Op := ⟨s.kind, s.no, if s.kind = 2 then s.data else []⟩
def step (x : Files × List Op) (s : Step) : Files × List Op :=
  if s.kind = 4 then (all x.1 x.2, []) else if s.kind = 5 then (crash x.1 x.2 s.no s.n, []) else if takes s then (x.1, x.2 ++ [opOf s]) else x
structure Good (x : Files × List Op) (n : Nat) : Prop where
  asc : Asc x.1
  kinds : Kinds x.2
  small : wt x.1 + wtB x.2 ≤ n
theorem good_nil : Good ([], []) 0 := ⟨Asc.nil, fun x h => by simp at h, by simp [wt, wtB]⟩
theorem good_step {x : Files × List Op} {n : Nat} (h : Good x n) (s : Step) (hs : s.data.length ≤ 100) : Good (step x s) (n + 101) := by
  have h3 := h.small
  unfold step
  split
  · refine ⟨asc_all h.asc _, fun x h => by simp at h, ?_⟩
    have := wt_all x.2 x.1
    show wt (all x.1 x.2) + 0 ≤ _
    omega
  · split
    · refine ⟨crash_asc h.asc _ _ _, fun x h => by simp at h, ?_⟩
      have := wt_crash x.1 x.2 s.no s.n
      show wt (crash x.1 x.2 s.no s.n) + 0 ≤ _
      omega
    · split
      · rename_i ht
        have ht' : 1 ≤ s.kind ∧ s.kind ≤ 3 ∧ 1 ≤ s.no ∧ s.no ≤ 4294967296 := by simpa [takes] using ht
        refine ⟨h.asc, fun y hy => ?_, ?_⟩
        · rcases List.mem_append.1 hy with hy | hy
          · exact h.kinds y hy
          · simp at hy
            subst hy
            refine ⟨?_, ht'.2.2⟩
            show s.kind = 1 ∨ s.kind = 2 ∨ s.kind = 3
            omega
        · simp only [wtB_app]
          have : wtB [opOf s] ≤ 101 := by
            simp only [wtB, opOf, List.map_cons, List.map_nil, List.sum_cons, List.sum_nil]
            split <;> simp <;> omega
          omega
      · exact ⟨h.asc, h.kinds, by omega⟩
def Large (l : List Step) : Bool := (l.take 60).any (fun s => decide (100 < s.data.length)) || decide (60 < l.length)
theorem large_not {l : List Step} (h : Large l = false) : l.length ≤ 60 ∧ ∀ s ∈ l, s.data.length ≤ 100 := by
  unfold Large at h
  simp only [Bool.or_eq_false_iff, decide_eq_false_iff_not, List.any_eq_false, decide_eq_true_eq] at h
  refine ⟨by omega, fun s hs => ?_⟩
  rw [List.take_of_length_le (by omega)] at h
  have := h.1 s hs
  omega
def after (l : List Step) : Files × List Op := l.foldl step ([], [])
theorem after_snoc (l : List Step) (s : Step) : after (l ++ [s]) = step (after l) s := by simp [after, List.foldl_append]
theorem after_step {l : List Step} {i : Nat} {s : Step} (h : l[i]? = some s) : after (l.take (i + 1)) = step (after (l.take i)) s := by
  rw [List.take_add_one, h]
  exact after_snoc _ _
theorem good_after {l : List Step} (h : ∀ s ∈ l, s.data.length ≤ 100) : Good (after l) (101 * l.length) := by
  have : ∀ (l : List Step) (x : Files × List Op) (n : Nat), Good x n → (∀ s ∈ l, s.data.length ≤ 100) → Good (l.foldl step x) (n + 101 * l.length) := by
    intro l
    induction l with
    | nil => intro x n h _; simpa using h
    | cons s r ih =>
      intro x n h hs
      have h1 := ih (step x s) (n + 101) (good_step h s (hs s (by simp))) (fun y hy => hs y (List.mem_cons_of_mem _ hy))
      rw [List.length_cons]
      rw [show n + 101 * (r.length + 1) = n + 101 + 101 * r.length by omega]
      exact h1
  have := this l _ 0 good_nil h
  simpa [after] using this
end Dk

end Go.Proofs.Ytffgfjfeoinnfaa
