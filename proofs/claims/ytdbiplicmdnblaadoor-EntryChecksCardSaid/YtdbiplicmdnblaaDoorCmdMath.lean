/- Commands, as plain values: which fields a kind has, what is wrong with a command, its encodings, how they are read, its text. -/
import Derived.Test.YtdbiplicmdnblaaDoorPkMath
import Derived.Test.YtdbiplicmdnblaaDoorGRune
import Derived.Test.YtdbiplicmdnblaaDoorGQm
import Derived.Test.YtdbiplicmdnblaaDoorVers
namespace Go.Proofs.YtdbiplicmdnblaaDoor

namespace Cm

/-- A command. -/
structure Cmd where
  kind : Int
  client : Int
  seq : Int
  node : Int
  key : List UInt8
  old : List UInt8
  val : List UInt8
  deriving DecidableEq

/-- A field but the kind. -/
inductive F where
  | client | seq | key | old | val | node
  deriving DecidableEq

def F.num : F → Bool
  | .client => true | .seq => true | .node => true | .key => false | .old => false | .val => false
def F.most : F → Int
  | .client => 8 | .seq => 4294967296 | .node => 9 | .key => 0 | .old => 0 | .val => 0
def F.at : F → Nat
  | .client => 1 | .seq => 2 | .key => 3 | .val => 4 | .old => 5 | .node => 6
def Cmd.n (c : Cmd) : F → Int
  | .client => c.client | .seq => c.seq | .node => c.node | .key => 0 | .old => 0 | .val => 0
def Cmd.s (c : Cmd) : F → List UInt8
  | .client => [] | .seq => [] | .node => [] | .key => c.key | .old => c.old | .val => c.val
def Cmd.setN (c : Cmd) (n : Int) : F → Cmd
  | .client => { c with client := n } | .seq => { c with seq := n } | .node => { c with node := n } | .key => c | .old => c | .val => c
def Cmd.setS (c : Cmd) (s : List UInt8) : F → Cmd
  | .client => c | .seq => c | .node => c | .key => { c with key := s } | .old => { c with old := s } | .val => { c with val := s }
/-- The fields of the machine's numbers. -/
structure Cmd.Fits (c : Cmd) : Prop where
  k0 : -9223372036854775808 ≤ c.kind
  k1 : c.kind ≤ 9223372036854775807
  c0 : -9223372036854775808 ≤ c.client
  c1 : c.client ≤ 9223372036854775807
  q0 : -9223372036854775808 ≤ c.seq
  q1 : c.seq ≤ 9223372036854775807
  n0 : -9223372036854775808 ≤ c.node
  n1 : c.node ≤ 9223372036854775807
/-- No string is longer than that. -/
def Cmd.Short (c : Cmd) (m : Nat) : Prop := c.key.length ≤ m ∧ c.old.length ≤ m ∧ c.val.length ≤ m

theorem Cmd.Fits.n {c : Cmd} (h : c.Fits) (f : F) : -9223372036854775808 ≤ c.n f ∧ c.n f ≤ 9223372036854775807 := by
  obtain ⟨_, _, _, _, _, _, _, _⟩ := h
  cases f <;> simp [Cmd.n] <;> omega
theorem Cmd.Fits.setN {c : Cmd} (h : c.Fits) (f : F) {n : Int} (h0 : -9223372036854775808 ≤ n) (h1 : n ≤ 9223372036854775807) : (c.setN n f).Fits := by
  obtain ⟨_, _, _, _, _, _, _, _⟩ := h
  cases f <;> constructor <;> simp [Cmd.setN] <;> omega
theorem Cmd.Fits.setS {c : Cmd} (h : c.Fits) (f : F) (s : List UInt8) : (c.setS s f).Fits := by
  obtain ⟨_, _, _, _, _, _, _, _⟩ := h
  cases f <;> constructor <;> simp [Cmd.setS] <;> omega
theorem Cmd.Short.s {c : Cmd} {m : Nat} (h : c.Short m) (f : F) : (c.s f).length ≤ m := by
  obtain ⟨h1, h2, h3⟩ := h
  cases f <;> simp [Cmd.s, h1, h2, h3]
theorem Cmd.Short.setN {c : Cmd} {m : Nat} (h : c.Short m) (f : F) (n : Int) : (c.setN n f).Short m := by
  obtain ⟨h1, h2, h3⟩ := h
  cases f <;> exact ⟨h1, h2, h3⟩
theorem Cmd.Short.setS {c : Cmd} {m : Nat} (h : c.Short m) (f : F) {s : List UInt8} (hs : s.length ≤ m) : (c.setS s f).Short m := by
  obtain ⟨h1, h2, h3⟩ := h
  cases f <;> refine ⟨?_, ?_, ?_⟩ <;> first | exact h1 | exact h2 | exact h3 | exact hs
theorem Cmd.setN_kind (c : Cmd) (n : Int) (f : F) : (c.setN n f).kind = c.kind := by cases f <;> rfl
theorem Cmd.setS_kind (c : Cmd) (s : List UInt8) (f : F) : (c.setS s f).kind = c.kind := by cases f <;> rfl

/-- The fields that a kind has, and those that its encoding in a version has. -/
def fields (k : Int) : List F :=
  if k = 2 then [.client, .seq, .key, .val] else if k = 3 ∨ k = 4 then [.client, .seq, .key] else if k = 5 then [.client, .seq, .key, .old, .val]
  else if k = 7 ∨ k = 8 then [.node] else []
def encoded (v k : Int) : List F := if v = 1 then [.client, .seq, .key, .val, .node] else fields k

theorem fields_2 : fields 2 = [.client, .seq, .key, .val] := rfl
theorem fields_3 : fields 3 = [.client, .seq, .key] := rfl
theorem fields_4 : fields 4 = [.client, .seq, .key] := rfl
theorem fields_5 : fields 5 = [.client, .seq, .key, .old, .val] := rfl
theorem fields_7 : fields 7 = [.node] := rfl
theorem fields_8 : fields 8 = [.node] := rfl
theorem fields_no {k : Int} (h2 : k ≠ 2) (h3 : k ≠ 3) (h4 : k ≠ 4) (h5 : k ≠ 5) (h7 : k ≠ 7) (h8 : k ≠ 8) : fields k = [] := by simp [fields, h2, h3, h4, h5, h7, h8]
theorem fields_len (k : Int) : (fields k).length ≤ 5 := by
  unfold fields
  repeat' split
  all_goals decide
theorem encoded_len (v k : Int) : (encoded v k).length ≤ 5 := by
  unfold encoded
  split
  · decide
  · exact fields_len k
theorem fields_once (k : Int) : (fields k).Nodup := by
  unfold fields
  repeat' split
  all_goals decide
theorem encoded_once (v k : Int) : (encoded v k).Nodup := by
  unfold encoded
  split
  · decide
  · exact fields_once k

/-! What is wrong with a command. -/
def within (c : Cmd) (f : F) : Bool := !f.num || (decide (1 ≤ c.n f) && decide (c.n f ≤ f.most))
def okS (f : F) (s : List UInt8) : Bool := if f = .key then Rn.key ⟨s.toArray⟩ else Rn.val ⟨s.toArray⟩
def spelt (c : Cmd) (f : F) : Bool := f.num || okS f (c.s f)
def wipe (c : Cmd) (f : F) : Cmd := if f.num = true then c.setN 0 f else c.setS [] f
def bareOf (k : Int) : Cmd := ⟨k, 0, 0, 0, [], [], []⟩
def zero : Cmd := bareOf 0
def alone (c : Cmd) : Bool := decide ((fields c.kind).foldl wipe c = bareOf c.kind)
def known (k : Int) : Bool := decide (1 ≤ k) && decide (k ≤ 8)
def check (c : Cmd) : Int :=
  if known c.kind = false then 5 else if (fields c.kind).all (within c) = false then 6 else if (fields c.kind).all (spelt c) = false then 7 else if alone c = false then 3 else 0
def owned (k : Int) : Bool := decide (2 ≤ k) && decide (k ≤ 5)
def member (k : Int) : Bool := (k == 7) || (k == 8)
def valued (k : Int) : Bool := (k == 2) || (k == 5)
def checkIn (v : Int) (c : Cmd) : Int := if Vs.may v = false then 8 else if check c ≠ 0 then check c else if Vs.has v c.kind = false then 8 else 0

/-! Its encodings. -/
def fenc (c : Cmd) (f : F) : List UInt8 := if f.num = true then enc (c.n f).toNat else Pk.text (c.s f)
def bytes (v : Int) (c : Cmd) : List UInt8 := enc c.kind.toNat ++ (encoded v c.kind).flatMap (fenc c)

/-- How they are read: a number, a text, a field, all of it. -/
def big : Int := 9223372036854775807
def rnum (b : List UInt8) (p : Nat) (er : Int) : Int × Int × Int := if er = 0 then Pk.num b p big else (0, (p : Int), er)
def rtxt (b : List UInt8) (p : Nat) (er : Int) : List UInt8 × Int × Int := if er = 0 then Pk.txt b p big else ([], (p : Int), er)
def gstep (b : List UInt8) (t : Cmd × Nat × Int) (f : F) : Cmd × Nat × Int :=
  if f.num = true then (t.1.setN (rnum b t.2.1 t.2.2).1 f, (rnum b t.2.1 t.2.2).2.1.toNat, (rnum b t.2.1 t.2.2).2.2)
  else (t.1.setS (rtxt b t.2.1 t.2.2).1 f, (rtxt b t.2.1 t.2.2).2.1.toNat, (rtxt b t.2.1 t.2.2).2.2)
def get (v : Int) (b : List UInt8) (p : Nat) (er : Int) : Cmd × Nat × Int :=
  (encoded v (rnum b p er).1).foldl (gstep b) (bareOf (rnum b p er).1, (rnum b p er).2.1.toNat, (rnum b p er).2.2)
/-- What Done tells. -/
def done (b : List UInt8) (p : Nat) (er : Int) : Int := if er ≠ 0 then er else if p < b.length then 3 else 0
/-- What a decoding gives: the command, the error. -/
def decode (v : Int) (b : List UInt8) : Cmd × Int :=
  if Vs.may v = false then (zero, 8)
  else if done b (get v b 0 0).2.1 (get v b 0 0).2.2 ≠ 0 then (zero, done b (get v b 0 0).2.1 (get v b 0 0).2.2)
  else if checkIn v (get v b 0 0).1 ≠ 0 then (zero, checkIn v (get v b 0 0).1) else ((get v b 0 0).1, 0)

theorem rnum_cases (b : List UInt8) (p : Nat) (er : Int) :
    (∃ e : Int, e ≠ 0 ∧ rnum b p er = (0, (p : Int), e)) ∨
    (∃ n q : Nat, er = 0 ∧ p < q ∧ q ≤ b.length ∧ n ≤ 9223372036854775807 ∧ rnum b p er = ((n : Int), (q : Int), 0) ∧ b.take q = b.take p ++ enc n) := by
  unfold rnum
  by_cases he : er = 0
  · rw [if_pos he]
    rcases getp_cases b p with ⟨e, he, hg⟩ | ⟨p', n, c, hp, hc, h0, hn, hg, ht⟩
    · left; exact ⟨e, he, by unfold Pk.num; rw [hg]; simp [he]⟩
    · right
      obtain rfl : p = p' := by omega
      refine ⟨n, p + c, he, by omega, hc, hn, ?_, ?_⟩
      · unfold Pk.num
        rw [hg, if_neg (by simp), if_neg (by unfold big; simp; omega)]
      · rw [← ht, List.take_add]
  · rw [if_neg he]; left; exact ⟨er, he, rfl⟩

theorem rtxt_cases (b : List UInt8) (p : Nat) (er : Int) (hp : p ≤ b.length) :
    (∃ (e : Int) (q : Nat), e ≠ 0 ∧ q ≤ b.length ∧ rtxt b p er = ([], (q : Int), e)) ∨
    (∃ (s : List UInt8) (q : Nat), er = 0 ∧ p < q ∧ q ≤ b.length ∧ s.length ≤ b.length ∧ rtxt b p er = (s, (q : Int), 0) ∧ b.take q = b.take p ++ Pk.text s) := by
  unfold rtxt
  by_cases he : er = 0
  · rw [if_pos he]
    rcases Pk.txt_cases b p big hp with ⟨e, q, he, hq, _, hg⟩ | ⟨n, q, hc, hq, hg⟩
    · left; exact ⟨e, q, he, hq, hg⟩
    · right
      have hl : ((b.drop q).take n).length = n := by simp; omega
      refine ⟨(b.drop q).take n, q + n, he, ?_, hq, by rw [hl]; omega, hg, ?_⟩
      all_goals
        rcases Pk.cnt_cases b p big with ⟨e, he, _, h2⟩ | ⟨n2, q2, _, _, _, _, h2⟩ | ⟨n2, q2, h1, _, h2⟩
        · rw [h2] at hc; simp at hc; omega
        · rw [h2] at hc; simp at hc
        · rw [h2] at hc
          simp at hc
          obtain ⟨rfl, rfl⟩ : n2 = n ∧ q2 = q := by omega
          have h3 := rnum_cases b p 0
          unfold rnum at h3
          rw [if_pos rfl, h1] at h3
          rcases h3 with ⟨e, he, h3⟩ | ⟨n3, q3, _, h4, h5, _, h3, h6⟩
          · simp at h3; omega
          · simp at h3
            obtain ⟨rfl, rfl⟩ : n2 = n3 ∧ q2 = q3 := by omega
            first
              | omega
              | (rw [List.take_add, h6, Pk.text, hl, List.append_assoc])
  · rw [if_neg he]; left; exact ⟨er, p, he, hp, rfl⟩

end Cm
end Go.Proofs.YtdbiplicmdnblaaDoor
