/- Packing, as plain functions on lists of bytes, and what is true of them. No program is spoken of. -/
import Derived.Test.YtammfmmpldahhaaGreatGNum
namespace Go.Proofs.YtammfmmpldahhaaGreat

/-- What is put: a number (1), a text (2), a flag (3). -/
structure Fld where
  kind : Int
  n : Int
  s : List UInt8
  is : Bool

/-- The cells of such a one. -/
def Fld.cells (f : Fld) : List Value := [.int .i64 f.kind, .int .i64 f.n, .string ⟨f.s.toArray⟩, .bool f.is]
/-- Its two numbers are the machine's. -/
structure Fld.Fits (f : Fld) : Prop where
  k0 : -9223372036854775808 ≤ f.kind
  k1 : f.kind ≤ 9223372036854775807
  n0 : -9223372036854775808 ≤ f.n
  n1 : f.n ≤ 9223372036854775807
  s1 : f.s.length ≤ 9223372036854775807

namespace Pk

def text (s : List UInt8) : List UInt8 := enc s.length ++ s
def flag (b : Bool) : List UInt8 := [if b then 1 else 0]
def one (f : Fld) : List UInt8 := if f.kind = 1 then enc f.n.toNat else if f.kind = 2 then text f.s else if f.kind = 3 then flag f.is else []
def all (l : List Fld) : List UInt8 := l.flatMap one

theorem all_nil : all [] = [] := rfl
theorem all_snoc (l : List Fld) (f : Fld) : all (l ++ [f]) = all l ++ one f := by simp [all]
theorem all_cons (f : Fld) (l : List Fld) : all (f :: l) = one f ++ all l := by simp [all]

theorem one_len {f : Fld} (hn : f.n ≤ 9223372036854775807) (hs : f.s.length ≤ 200) : (one f).length ≤ 209 := by
  unfold one
  split
  · have := enc_nine (n := f.n.toNat) (by omega); omega
  · split
    · have := enc_nine (n := f.s.length) (by omega); simp [text]; omega
    · split
      · simp [flag]
      · simp

theorem all_len : ∀ {l : List Fld}, (∀ f ∈ l, f.n ≤ 9223372036854775807 ∧ f.s.length ≤ 200) → (all l).length ≤ 209 * l.length := by
  intro l
  induction l with
  | nil => intro _; simp [all]
  | cons f l ih =>
    intro h
    have h1 := one_len (h f (by simp)).1 (h f (by simp)).2
    have h2 := ih fun g hg => h g (by simp [hg])
    rw [all_cons]
    simp; omega

/-- A number of at most most, at a place: the number, the place behind it, the error. -/
def num (b : List UInt8) (p most : Int) : Int × Int × Int := if (getp b p).2.2 ≠ 0 then (0, p, (getp b p).2.2) else if most < (getp b p).1 then (0, p, 2) else getp b p
/-- A count: as many bytes are left behind it. -/
def cnt (b : List UInt8) (p most : Int) : Int × Int × Int := if (num b p most).2.2 = 0 ∧ (b.length : Int) - (num b p most).2.1 < (num b p most).1 then (0, (num b p most).2.1, 1) else num b p most
/-- A text. -/
def txt (b : List UInt8) (p most : Int) : List UInt8 × Int × Int :=
  if (cnt b p most).2.2 ≠ 0 then ([], (cnt b p most).2.1, (cnt b p most).2.2) else ((b.drop (cnt b p most).2.1.toNat).take (cnt b p most).1.toNat, (cnt b p most).2.1 + (cnt b p most).1, 0)
/-- A flag. -/
def flg (b : List UInt8) (p : Int) : Bool × Int × Int := match b[p.toNat]? with
  | none => (false, p, 1)
  | some c => if 1 < c.toNat then (false, p + 1, 3) else (c.toNat == 1, p + 1, 0)

theorem num_cases (b : List UInt8) (p : Nat) (most : Int) :
    (∃ e : Int, e ≠ 0 ∧ getp b p = (0, 0, e) ∧ num b p most = (0, (p : Int), e)) ∨
    (∃ n q : Nat, getp b p = ((n : Int), (q : Int), 0) ∧ p < q ∧ q ≤ b.length ∧ n ≤ 9223372036854775807 ∧ most < (n : Int) ∧ num b p most = (0, (p : Int), 2)) ∨
    (∃ n q : Nat, getp b p = ((n : Int), (q : Int), 0) ∧ p < q ∧ q ≤ b.length ∧ n ≤ 9223372036854775807 ∧ (n : Int) ≤ most ∧ num b p most = ((n : Int), (q : Int), 0)) := by
  rcases getp_cases b p with ⟨e, he, hg⟩ | ⟨p', n, c, hp, hc, h0, hn, hg, _⟩
  · left; exact ⟨e, he, hg, by unfold num; rw [hg]; simp [he]⟩
  · right
    obtain rfl : p = p' := by omega
    by_cases hm : most < (n : Int)
    · left; exact ⟨n, p + c, hg, by omega, hc, hn, hm, by unfold num; rw [hg]; simp [hm]⟩
    · right; exact ⟨n, p + c, hg, by omega, hc, hn, by omega, by unfold num; rw [hg]; simp [hm]⟩

theorem cnt_cases (b : List UInt8) (p : Nat) (most : Int) :
    (∃ e : Int, e ≠ 0 ∧ num b p most = (0, (p : Int), e) ∧ cnt b p most = (0, (p : Int), e)) ∨
    (∃ n q : Nat, num b p most = ((n : Int), (q : Int), 0) ∧ q ≤ b.length ∧ n ≤ 9223372036854775807 ∧ (b.length : Int) - q < n ∧ cnt b p most = (0, (q : Int), 1)) ∨
    (∃ n q : Nat, num b p most = ((n : Int), (q : Int), 0) ∧ q + n ≤ b.length ∧ cnt b p most = ((n : Int), (q : Int), 0)) := by
  rcases num_cases b p most with ⟨e, he, _, hg⟩ | ⟨n, q, _, _, _, _, _, hg⟩ | ⟨n, q, _, _, hq, hn, _, hg⟩
  · left; exact ⟨e, he, hg, by unfold cnt; rw [hg]; simp [he]⟩
  · left; exact ⟨2, by omega, hg, by unfold cnt; rw [hg]; simp⟩
  · right
    by_cases h : (b.length : Int) - q < n
    · left; exact ⟨n, q, hg, hq, hn, h, by unfold cnt; rw [hg]; simp [h]⟩
    · right; exact ⟨n, q, hg, by omega, by unfold cnt; rw [hg]; simp [h]⟩

theorem txt_cases (b : List UInt8) (p : Nat) (most : Int) (hp : p ≤ b.length) :
    (∃ (e : Int) (q : Nat), e ≠ 0 ∧ q ≤ b.length ∧ cnt b p most = (0, (q : Int), e) ∧ txt b p most = ([], (q : Int), e)) ∨
    (∃ n q : Nat, cnt b p most = ((n : Int), (q : Int), 0) ∧ q + n ≤ b.length ∧ txt b p most = ((b.drop q).take n, ((q + n : Nat) : Int), 0)) := by
  rcases cnt_cases b p most with ⟨e, he, _, hg⟩ | ⟨n, q, _, hq, _, _, hg⟩ | ⟨n, q, _, hq, hg⟩
  · left; exact ⟨e, p, he, hp, hg, by unfold txt; rw [hg]; simp [he]⟩
  · left; exact ⟨1, q, by omega, hq, hg, by unfold txt; rw [hg]; simp⟩
  · right; exact ⟨n, q, hg, hq, by unfold txt; rw [hg]; simp⟩

theorem flg_end (b : List UInt8) : flg b (b.length : Nat) = (false, ((b.length : Nat) : Int), 1) := by simp [flg]
theorem flg_at {b : List UInt8} {p : Nat} {c : UInt8} (h : b[p]? = some c) : flg b p = if 1 < c.toNat then (false, ((p + 1 : Nat) : Int), 3) else (c.toNat == 1, ((p + 1 : Nat) : Int), 0) := by
  unfold flg
  rw [Int.toNat_natCast, h]
  simp

/-- What the document's answer reads: a field of a kind (others than 1, 3, 4: a text), where it ends, the error. -/
def zero : Fld := ⟨0, 0, [], false⟩
def read (b : List UInt8) (p k most : Int) : Fld × Int × Int :=
  if k = 3 then (if (flg b p).2.2 ≠ 0 then (zero, 0, (flg b p).2.2) else (⟨3, 0, [], (flg b p).1⟩, (flg b p).2.1, 0))
  else if k = 1 then (if (num b p most).2.2 ≠ 0 then (zero, 0, (num b p most).2.2) else (⟨1, (num b p most).1, [], false⟩, (num b p most).2.1, 0))
  else if k = 4 then (if (cnt b p most).2.2 ≠ 0 then (zero, 0, (cnt b p most).2.2) else (⟨4, (cnt b p most).1, [], false⟩, (cnt b p most).2.1, 0))
  else (if (txt b p most).2.2 ≠ 0 then (zero, 0, (txt b p most).2.2) else (⟨2, 0, (txt b p most).1, false⟩, (txt b p most).2.1, 0))

/-- What was put is got. -/
theorem getp_enc (pre post : List UInt8) {N : Nat} (hN : N ≤ 9223372036854775807) : getp (pre ++ (enc N ++ post)) (pre.length : Nat) = ((N : Int), ((pre.length + (enc N).length : Nat) : Int), 0) := by
  have h := getv_enc post N 0 0 (by omega) (by have := enc_nine hN; omega)
  rw [getp_ok (n := N) (c := (enc N).length) (by simp) (by rw [List.drop_left, h]; simp)]
  simp
theorem num_enc (pre post : List UInt8) {N : Nat} {most : Int} (hN : N ≤ 9223372036854775807) (hm : (N : Int) ≤ most) :
    num (pre ++ (enc N ++ post)) (pre.length : Nat) most = ((N : Int), ((pre.length + (enc N).length : Nat) : Int), 0) := by
  unfold num
  rw [getp_enc pre post hN]
  simp; omega
theorem txt_text (pre post : List UInt8) {s : List UInt8} {most : Int} (hN : s.length ≤ 9223372036854775807) (hm : (s.length : Int) ≤ most) :
    txt (pre ++ (text s ++ post)) (pre.length : Nat) most = (s, ((pre.length + (text s).length : Nat) : Int), 0) := by
  have hn : num (pre ++ (text s ++ post)) (pre.length : Nat) most = ((s.length : Int), ((pre.length + (enc s.length).length : Nat) : Int), 0) := by
    rw [show text s ++ post = enc s.length ++ (s ++ post) by simp [text]]
    exact num_enc pre (s ++ post) hN hm
  have hc : cnt (pre ++ (text s ++ post)) (pre.length : Nat) most = ((s.length : Int), ((pre.length + (enc s.length).length : Nat) : Int), 0) := by
    unfold cnt
    rw [hn, if_neg]
    simp [text]; omega
  unfold txt
  rw [hc]
  simp only [ne_eq, not_true, if_false, Int.toNat_natCast, Prod.mk.injEq]
  refine ⟨?_, by simp [text]; omega, trivial⟩
  have e : pre ++ (text s ++ post) = (pre ++ enc s.length) ++ (s ++ post) := by simp [text]
  rw [e, show pre.length + (enc s.length).length = (pre ++ enc s.length).length by simp, List.drop_left, List.take_left]
theorem flg_flag (pre post : List UInt8) (x : Bool) : flg (pre ++ (flag x ++ post)) (pre.length : Nat) = (x, ((pre.length + 1 : Nat) : Int), 0) := by
  rw [flg_at (c := if x then 1 else 0) (by simp [flag])]
  cases x <;> simp

end Pk
end Go.Proofs.YtammfmmpldahhaaGreat
