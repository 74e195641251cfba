/- Several texts of mine in one: CmdMath CmNum CmdLeaf CmdFlds CmdAll CmdChk CmdPack CmdCode CmdText CmdHear CmdKind CmdParse CmdBack CmdTxt CmdDig CmdErrs CmdVars CmdAwake CmdCame. -/
import Derived.Test.YtammfmmpldahhaaGreatPkMath
import Derived.Test.YtammfmmpldahhaaGreatCmdOne
import Derived.Test.YtammfmmpldahhaaGreatGRune
import Derived.Test.YtammfmmpldahhaaGreatGQm
import Derived.Test.YtammfmmpldahhaaGreatVers
import Derived.Test.YtammfmmpldahhaaGreatGRd
import Derived.Deep.QuietTactic
import Derived.BigQuiet
import Derived.Test.YtammfmmpldahhaaGreatCmdCell
import Derived.Test.YtammfmmpldahhaaGreatGQw
import Derived.Deep.MidRow
import Derived.Test.YtammfmmpldahhaaGreatPkWr
import Derived.Deep.RegionHeld3
import Derived.Test.YtammfmmpldahhaaGreatDig
import Derived.Lib.ItoaNum
import Derived.Lib.AtoiAll
import Derived.Test.YtammfmmpldahhaaGreatQtLaws
import Derived.Lib.LaidU8
import Derived.OpenShut
import Derived.Test.YtammfmmpldahhaaGreatRows
import Derived.ChangeSame
namespace Go.Proofs.YtammfmmpldahhaaGreat

namespace Cm

/-- A field but the kind. -/
inductive F where
  | client | seq | key | old | val | node
  deriving DecidableEq

def F.num : F → Bool
  | .client => true | .seq => true | .node => true | .key => false | .old => false | .val => false
def F.most : F → Int
  | .client => 8 | .seq => 4294967296 | .node => 9 | .key => 0 | .old => 0 | .val => 0
def F.at : F → Nat
  | .client => 1 | .seq => 2 | .key => 3 | .val => 4 | .old => 5 | .node => 6
def Cmd.n (c : Cmd) : F → Int
  | .client => c.client | .seq => c.seq | .node => c.node | .key => 0 | .old => 0 | .val => 0
def Cmd.s (c : Cmd) : F → List UInt8
  | .client => [] | .seq => [] | .node => [] | .key => c.key | .old => c.old | .val => c.val
def Cmd.setN (c : Cmd) (n : Int) : F → Cmd
  | .client => { c with client := n } | .seq => { c with seq := n } | .node => { c with node := n } | .key => c | .old => c | .val => c
def Cmd.setS (c : Cmd) (s : List UInt8) : F → Cmd
  | .client => c | .seq => c | .node => c | .key => { c with key := s } | .old => { c with old := s } | .val => { c with val := s }
theorem Cmd.Fits.n {c : Cmd} (h : c.Fits) (f : F) : -9223372036854775808 ≤ c.n f ∧ c.n f ≤ 9223372036854775807 := by
  obtain ⟨_, _, _, _, _, _, _, _⟩ := h
  cases f <;> simp [Cmd.n] <;> omega
theorem Cmd.Fits.setN {c : Cmd} (h : c.Fits) (f : F) {n : Int} (h0 : -9223372036854775808 ≤ n) (h1 : n ≤ 9223372036854775807) : (c.setN n f).Fits := by
  obtain ⟨_, _, _, _, _, _, _, _⟩ := h
  cases f <;> constructor <;> simp [Cmd.setN] <;> omega
theorem Cmd.Fits.setS {c : Cmd} (h : c.Fits) (f : F) (s : List UInt8) : (c.setS s f).Fits := by
  obtain ⟨_, _, _, _, _, _, _, _⟩ := h
  cases f <;> constructor <;> simp [Cmd.setS] <;> omega
theorem Cmd.Short.s {c : Cmd} {m : Nat} (h : c.Short m) (f : F) : (c.s f).length ≤ m := by
  obtain ⟨h1, h2, h3⟩ := h
  cases f <;> simp [Cmd.s, h1, h2, h3]
theorem Cmd.Short.setN {c : Cmd} {m : Nat} (h : c.Short m) (f : F) (n : Int) : (c.setN n f).Short m := by
  obtain ⟨h1, h2, h3⟩ := h
  cases f <;> exact ⟨h1, h2, h3⟩
theorem Cmd.Short.setS {c : Cmd} {m : Nat} (h : c.Short m) (f : F) {s : List UInt8} (hs : s.length ≤ m) : (c.setS s f).Short m := by
  obtain ⟨h1, h2, h3⟩ := h
  cases f <;> refine ⟨?_, ?_, ?_⟩ <;> first | exact h1 | exact h2 | exact h3 | exact hs
theorem Cmd.setN_kind (c : Cmd) (n : Int) (f : F) : (c.setN n f).kind = c.kind := by cases f <;> rfl
theorem Cmd.setS_kind (c : Cmd) (s : List UInt8) (f : F) : (c.setS s f).kind = c.kind := by cases f <;> rfl

/-- The fields that a kind has, and those that its encoding in a version has. -/
def fields (k : Int) : List F :=
  if k = 2 then [.client, .seq, .key, .val] else if k = 3 ∨ k = 4 then [.client, .seq, .key] else if k = 5 then [.client, .seq, .key, .old, .val]
  else if k = 7 ∨ k = 8 then [.node] else []
def encoded (v k : Int) : List F := if v = 1 then [.client, .seq, .key, .val, .node] else fields k

theorem fields_2 : fields 2 = [.client, .seq, .key, .val] := rfl
theorem fields_3 : fields 3 = [.client, .seq, .key] := rfl
theorem fields_4 : fields 4 = [.client, .seq, .key] := rfl
theorem fields_5 : fields 5 = [.client, .seq, .key, .old, .val] := rfl
theorem fields_7 : fields 7 = [.node] := rfl
theorem fields_8 : fields 8 = [.node] := rfl
theorem fields_no {k : Int} (h2 : k ≠ 2) (h3 : k ≠ 3) (h4 : k ≠ 4) (h5 : k ≠ 5) (h7 : k ≠ 7) (h8 : k ≠ 8) : fields k = [] := by simp [fields, h2, h3, h4, h5, h7, h8]
theorem fields_len (k : Int) : (fields k).length ≤ 5 := by
  unfold fields
  repeat' split
  all_goals decide
theorem encoded_len (v k : Int) : (encoded v k).length ≤ 5 := by
  unfold encoded
  split
  · decide
  · exact fields_len k
theorem fields_once (k : Int) : (fields k).Nodup := by
  unfold fields
  repeat' split
  all_goals decide
theorem encoded_once (v k : Int) : (encoded v k).Nodup := by
  unfold encoded
  split
  · decide
  · exact fields_once k

/-! What is wrong with a command. -/
def within (c : Cmd) (f : F) : Bool := !f.num || (decide (1 ≤ c.n f) && decide (c.n f ≤ f.most))
def okS (f : F) (s : List UInt8) : Bool := if f = .key then Rn.key ⟨s.toArray⟩ else Rn.val ⟨s.toArray⟩
def spelt (c : Cmd) (f : F) : Bool := f.num || okS f (c.s f)
def wipe (c : Cmd) (f : F) : Cmd := if f.num = true then c.setN 0 f else c.setS [] f
def bareOf (k : Int) : Cmd := ⟨k, 0, 0, 0, [], [], []⟩
def zero : Cmd := bareOf 0
def alone (c : Cmd) : Bool := decide ((fields c.kind).foldl wipe c = bareOf c.kind)
def known (k : Int) : Bool := decide (1 ≤ k) && decide (k ≤ 8)
def check (c : Cmd) : Int :=
  if known c.kind = false then 5 else if (fields c.kind).all (within c) = false then 6 else if (fields c.kind).all (spelt c) = false then 7 else if alone c = false then 3 else 0
def owned (k : Int) : Bool := decide (2 ≤ k) && decide (k ≤ 5)
def member (k : Int) : Bool := (k == 7) || (k == 8)
def valued (k : Int) : Bool := (k == 2) || (k == 5)
def checkIn (v : Int) (c : Cmd) : Int := if Vs.may v = false then 8 else if check c ≠ 0 then check c else if Vs.has v c.kind = false then 8 else 0

/-! Its encodings. -/
def fenc (c : Cmd) (f : F) : List UInt8 := if f.num = true then enc (c.n f).toNat else Pk.text (c.s f)
def bytes (v : Int) (c : Cmd) : List UInt8 := enc c.kind.toNat ++ (encoded v c.kind).flatMap (fenc c)

/-- How they are read: a number, a text, a field, all of it. -/
def big : Int := 9223372036854775807
def rnum (b : List UInt8) (p : Nat) (er : Int) : Int × Int × Int := if er = 0 then Pk.num b p big else (0, (p : Int), er)
def rtxt (b : List UInt8) (p : Nat) (er : Int) : List UInt8 × Int × Int := if er = 0 then Pk.txt b p big else ([], (p : Int), er)
def gstep (b : List UInt8) (t : Cmd × Nat × Int) (f : F) : Cmd × Nat × Int :=
  if f.num = true then (t.1.setN (rnum b t.2.1 t.2.2).1 f, (rnum b t.2.1 t.2.2).2.1.toNat, (rnum b t.2.1 t.2.2).2.2)
  else (t.1.setS (rtxt b t.2.1 t.2.2).1 f, (rtxt b t.2.1 t.2.2).2.1.toNat, (rtxt b t.2.1 t.2.2).2.2)
def get (v : Int) (b : List UInt8) (p : Nat) (er : Int) : Cmd × Nat × Int :=
  (encoded v (rnum b p er).1).foldl (gstep b) (bareOf (rnum b p er).1, (rnum b p er).2.1.toNat, (rnum b p er).2.2)
/-- What Done tells. -/
def done (b : List UInt8) (p : Nat) (er : Int) : Int := if er ≠ 0 then er else if p < b.length then 3 else 0
/-- What a decoding gives: the command, the error. -/
def decode (v : Int) (b : List UInt8) : Cmd × Int :=
  if Vs.may v = false then (zero, 8)
  else if done b (get v b 0 0).2.1 (get v b 0 0).2.2 ≠ 0 then (zero, done b (get v b 0 0).2.1 (get v b 0 0).2.2)
  else if checkIn v (get v b 0 0).1 ≠ 0 then (zero, checkIn v (get v b 0 0).1) else ((get v b 0 0).1, 0)

theorem rnum_cases (b : List UInt8) (p : Nat) (er : Int) :
    (∃ e : Int, e ≠ 0 ∧ rnum b p er = (0, (p : Int), e)) ∨
    (∃ n q : Nat, er = 0 ∧ p < q ∧ q ≤ b.length ∧ n ≤ 9223372036854775807 ∧ rnum b p er = ((n : Int), (q : Int), 0) ∧ b.take q = b.take p ++ enc n) := by
  unfold rnum
  by_cases he : er = 0
  · rw [if_pos he]
    rcases getp_cases b p with ⟨e, he, hg⟩ | ⟨p', n, c, hp, hc, h0, hn, hg, ht⟩
    · left; exact ⟨e, he, by unfold Pk.num; rw [hg]; simp [he]⟩
    · right
      obtain rfl : p = p' := by omega
      refine ⟨n, p + c, he, by omega, hc, hn, ?_, ?_⟩
      · unfold Pk.num
        rw [hg, if_neg (by simp), if_neg (by unfold big; simp; omega)]
      · rw [← ht, List.take_add]
  · rw [if_neg he]; left; exact ⟨er, he, rfl⟩

theorem rtxt_cases (b : List UInt8) (p : Nat) (er : Int) (hp : p ≤ b.length) :
    (∃ (e : Int) (q : Nat), e ≠ 0 ∧ q ≤ b.length ∧ rtxt b p er = ([], (q : Int), e)) ∨
    (∃ (s : List UInt8) (q : Nat), er = 0 ∧ p < q ∧ q ≤ b.length ∧ s.length ≤ b.length ∧ rtxt b p er = (s, (q : Int), 0) ∧ b.take q = b.take p ++ Pk.text s) := by
  unfold rtxt
  by_cases he : er = 0
  · rw [if_pos he]
    rcases Pk.txt_cases b p big hp with ⟨e, q, he, hq, _, hg⟩ | ⟨n, q, hc, hq, hg⟩
    · left; exact ⟨e, q, he, hq, hg⟩
    · right
      have hl : ((b.drop q).take n).length = n := by simp; omega
      refine ⟨(b.drop q).take n, q + n, he, ?_, hq, by rw [hl]; omega, hg, ?_⟩
      all_goals
        rcases Pk.cnt_cases b p big with ⟨e, he, _, h2⟩ | ⟨n2, q2, _, _, _, _, h2⟩ | ⟨n2, q2, h1, _, h2⟩
        · rw [h2] at hc; simp at hc; omega
        · rw [h2] at hc; simp at hc
        · rw [h2] at hc
          simp at hc
          obtain ⟨rfl, rfl⟩ : n2 = n ∧ q2 = q := by omega
          have h3 := rnum_cases b p 0
          unfold rnum at h3
          rw [if_pos rfl, h1] at h3
          rcases h3 with ⟨e, he, h3⟩ | ⟨n3, q3, _, h4, h5, _, h3, h6⟩
          · simp at h3; omega
          · simp at h3
            obtain ⟨rfl, rfl⟩ : n2 = n3 ∧ q2 = q3 := by omega
            first
              | omega
              | (rw [List.take_add, h6, Pk.text, hl, List.append_assoc])
  · rw [if_neg he]; left; exact ⟨er, p, he, hp, rfl⟩

end Cm
end Go.Proofs.YtammfmmpldahhaaGreat


namespace Go.Proofs.YtammfmmpldahhaaGreat

namespace Cm
/-- A number is read where it lies. -/
theorem rnum_at (pre post : List UInt8) {n : Nat} (h : n ≤ 9223372036854775807) : rnum (pre ++ (enc n ++ post)) pre.length 0 = ((n : Int), (((pre ++ enc n).length : Nat) : Int), 0) := by
  have := Pk.num_enc pre post (N := n) (most := big) h (by unfold big; omega)
  unfold rnum
  rw [if_pos rfl, this, List.length_append]
theorem rnum_le (b : List UInt8) (p : Nat) (er : Int) (hp : p ≤ b.length) : (rnum b p er).2.1.toNat ≤ b.length := by
  rcases rnum_cases b p er with ⟨e, _, hr⟩ | ⟨n, q, _, _, hq, _, hr, _⟩
  · rw [hr]; simpa using hp
  · rw [hr]; simpa using hq
/-- A number that was read without an error. -/
theorem rnum_ok (b : List UInt8) (p : Nat) (er : Int) (h : (rnum b p er).2.2 = 0) : er = 0 ∧ 0 ≤ (rnum b p er).1 ∧ (rnum b p er).1 ≤ 9223372036854775807 ∧ (rnum b p er).2.1.toNat ≤ b.length ∧ b.take (rnum b p er).2.1.toNat = b.take p ++ enc (rnum b p er).1.toNat := by
  rcases rnum_cases b p er with ⟨e, he, hr⟩ | ⟨n, q, h0, _, hq, hn, hr, ht⟩
  · rw [hr] at h; exact absurd h he
  · rw [hr]
    simp only [Int.toNat_natCast]
    exact ⟨h0, by omega, by omega, hq, ht⟩
end Cm
end Go.Proofs.YtammfmmpldahhaaGreat


namespace Go.Proofs.YtammfmmpldahhaaGreat
open Go.RowKit

/-! Type assertions on a field. -/
/-- A function's value is stored as one cell. -/
theorem store_func (fn : Fn) (x y : Array Value) (a : Addr) (W : World) (m : Mode) : (store a (.func fn x y) m).run Tryz.prog W = stored Tryz.prog W a (.func fn x y) m := run_store Tryz.prog W a _ m rfl
theorem store_nilFunc (a : Addr) (W : World) (m : Mode) : (store a .nilFunc m).run Tryz.prog W = stored Tryz.prog W a .nilFunc m := run_store Tryz.prog W a _ m rfl

/-- A pair laid in a block of its own. -/
theorem lay_pair (w : World) (T : TypeId) (x y : Value) (b i : Nat) (v : Value) (hc : w.cell? ⟨b, i, none⟩ = some v) :
    ∃ w1, w.alloc (.cells #[x, y] T) = w1 ∧ w1.cell? ⟨w.heap.size, 0, none⟩ = some x ∧ w1.cell? ⟨w.heap.size, 1, none⟩ = some y ∧ w1.cell? ⟨b, i, none⟩ = some v ∧ Below w.heap.size w w1 := by
  refine ⟨_, rfl, (Lies.new w T #[x, y]).cell 0 x rfl, (Lies.new w T #[x, y]).cell 1 y rfl, ?_, (Below.refl _ w).alloc (Nat.le_refl _) _⟩
  rw [← hc]
  exact World.cell?_alloc_lt w _ _ (World.block_lt_of_cell? w _ hc)

/-- The same behind another block. -/
theorem lay_pair2 (w : World) (A : Obj) (T : TypeId) (x y : Value) (b i : Nat) (v : Value) (hc : w.cell? ⟨b, i, none⟩ = some v) :
    ∃ w1, (w.alloc A).alloc (.cells #[x, y] T) = w1 ∧ w1.cell? ⟨w.heap.size + 1, 0, none⟩ = some x ∧ w1.cell? ⟨w.heap.size + 1, 1, none⟩ = some y ∧ w1.cell? ⟨b, i, none⟩ = some v ∧ Below w.heap.size w w1 := by
  have hc' : (w.alloc A).cell? ⟨b, i, none⟩ = some v := by rw [← hc]; exact World.cell?_alloc_lt w _ _ (World.block_lt_of_cell? w _ hc)
  obtain ⟨w1, e1, c0, c1, cb, hB⟩ := lay_pair (w.alloc A) T x y b i v hc'
  have e : (w.alloc A).heap.size = w.heap.size + 1 := by simp
  rw [e] at c0 c1 hB
  exact ⟨w1, e1, c0, c1, cb, ((Below.refl _ w).alloc (Nat.le_refl _) A).trans (hB.mono (by omega))⟩

/-- The block has turned, and nothing else that there was. -/
def Turned (w : World) (b : Nat) (T : TypeId) (vs : Array Value) (e : Ending) (w' : World) : Prop := e = .returned (.tuple #[]) ∧ Lies w' b T vs ∧ w.grownBy w' (some b)
theorem grown_of {w w' : World} (h : Below w.heap.size w w') (row : Option Nat) : w.grownBy w' row := ⟨h.os, h.tape, h.output, h.size, fun k hk _ => h.block k hk⟩

end Go.Proofs.YtammfmmpldahhaaGreat


namespace Go.Proofs.YtammfmmpldahhaaGreat
open Go.RowKit

/-! Structs that lie in blocks of their own, read whole. -/
theorem results_cells3 {fn : Func} {p q r : Tmp} {ty : TypeId} (h : fn.results = #[.cell p ty, .cell q ty, .cell r ty]) (tmps : Array Value) (P : Program) (w : World) :
    (results fn tmps).run P w = ((asAddr (tmps.getD p undef)).run P w).andThen fun a w₁ => ((loadVar ty a).run P w₁).andThen fun v w₂ => ((asAddr (tmps.getD q undef)).run P w₂).andThen fun a' w₃ => ((loadVar ty a').run P w₃).andThen fun v' w₄ =>
      ((asAddr (tmps.getD r undef)).run P w₄).andThen fun a'' w₅ => ((loadVar ty a'').run P w₅).andThen fun v'' w₆ => .ok (.tuple #[v, v', v'']) w₆ := by
  simp only [results, h]
  simp [Sem.run_bind, Result.andThen]
/-- Three pairs laid. -/
theorem lay_three (w : World) (T : TypeId) (x y x' y' x'' y'' : Value) :
    ∃ w3, ((w.alloc (.cells #[x, y] T)).alloc (.cells #[x', y'] T)).alloc (.cells #[x'', y''] T) = w3 ∧ Lies w3 w.heap.size T #[x, y] ∧ Lies w3 (w.heap.size + 1) T #[x', y'] ∧ Lies w3 (w.heap.size + 1 + 1) T #[x'', y''] ∧ Below w.heap.size w w3 := by
  refine ⟨_, rfl, ((Lies.new w T _).alloc _).alloc _, ?_, ?_, (((Below.refl _ w).alloc (Nat.le_refl _) _).alloc (by simp) _).alloc (by simp; omega) _⟩
  · have := (Lies.new (w.alloc (.cells #[x, y] T)) T #[x', y']).alloc (.cells #[x'', y''] T)
    simpa using this
  · have := Lies.new ((w.alloc (.cells #[x, y] T)).alloc (.cells #[x', y'] T)) T #[x'', y'']
    simpa using this

end Go.Proofs.YtammfmmpldahhaaGreat


namespace Go.Proofs.YtammfmmpldahhaaGreat
open Go.RowKit

theorem Cm.cells_num (c : Cm.Cmd) (f : Cm.F) (h : f.num = true) : (Cm.cells c)[f.at]? = some (.int .i64 (c.n f)) := by
  cases f <;> first | rfl | cases h
theorem Cm.cells_str (c : Cm.Cmd) (f : Cm.F) (h : f.num = false) : (Cm.cells c)[f.at]? = some (.string ⟨(c.s f).toArray⟩) := by
  cases f <;> first | rfl | cases h
theorem Cm.cells_setN (c : Cm.Cmd) (f : Cm.F) (n : Int) (h : f.num = true) : (Cm.cells c).setIfInBounds f.at (.int .i64 n) = Cm.cells (c.setN n f) := by
  cases f <;> first | rfl | cases h
theorem Cm.cells_setS (c : Cm.Cmd) (f : Cm.F) (s : List UInt8) (h : f.num = false) : (Cm.cells c).setIfInBounds f.at (.string ⟨s.toArray⟩) = Cm.cells (c.setS s f) := by
  cases f <;> first | rfl | cases h

end Go.Proofs.YtammfmmpldahhaaGreat


namespace Go.Proofs.YtammfmmpldahhaaGreat
open Go.RowKit

theorem str_empty (s : List UInt8) : (ByteArray.mk s.toArray).toList.isEmpty = decide (s = []) := by
  rw [Qt.empty_eq, str_size]
  simp

theorem Cm.foldl_kind (fs : List Cm.F) : ∀ c : Cm.Cmd, (fs.foldl Cm.wipe c).kind = c.kind := by
  induction fs with
  | nil => intro c; rfl
  | cons f fs ih =>
    intro c
    rw [List.foldl_cons, ih]
    unfold Cm.wipe
    split
    · exact Cm.Cmd.setN_kind _ _ _
    · exact Cm.Cmd.setS_kind _ _ _

/-! The words. -/
def Cm.wordList : List (List UInt8) := [[], [110, 111, 112], [112, 117, 116], [103, 101, 116], [100, 101, 108], [99, 97, 115], [97, 99, 116, 105, 118, 97, 116, 101], [97, 100, 100], [100, 114, 111, 112]]
def Cm.word (k : Int) : List UInt8 := if k < 0 then [] else Cm.wordList.getD k.toNat []
def WordsIn (w : World) : Prop := w.var? Tryz.prog "changeover/cmd.words" = some (Cm.wordList.map fun l => Value.string ⟨l.toArray⟩).toArray

theorem WordsIn.below {w w' : World} (h : WordsIn w) (hb : Below w.heap.size w w') : WordsIn w' := var_below h hb
theorem Cm.word_no {k : Int} (h : k < 1 ∨ 8 < k) : Cm.word k = [] := by
  unfold Cm.word
  by_cases h0 : k < 0
  · rw [if_pos h0]
  · rw [if_neg h0]
    by_cases h1 : k = 0
    · subst h1; rfl
    · obtain ⟨n, rfl⟩ := Int.eq_ofNat_of_zero_le (show 0 ≤ k by omega)
      rw [Int.toNat_natCast, List.getD_eq_getElem?_getD, List.getElem?_eq_none (by simp [Cm.wordList]; omega)]
      rfl
theorem Cm.word_known (k : Int) : (ByteArray.mk (Cm.word k).toArray).toList.isEmpty = !Cm.known k := by
  rw [Qt.empty_eq, str_size]
  rcases Vs.kinds k with rfl | rfl | rfl | rfl | rfl | rfl | rfl | rfl | h
  rotate_right
  · rw [Cm.word_no h]
    have : Cm.known k = false := by simp [Cm.known]; omega
    rw [this]
    rfl
  all_goals decide

end Go.Proofs.YtammfmmpldahhaaGreat


namespace Go.Proofs.YtammfmmpldahhaaGreat
open Go.RowKit

/-- Blocks of structs, but the writer's, lie as they lay. -/
def Spares (o : Nat) (w w' : World) : Prop := ∀ (k : Nat) (T : TypeId) (vs : Array Value), k ≠ o → T ≠ 5 → Lies w k T vs → Lies w' k T vs
theorem Spares.refl (o : Nat) (w : World) : Spares o w w := fun _ _ _ _ _ h => h
theorem Spares.trans {o : Nat} {a b c : World} (h : Spares o a b) (k : Spares o b c) : Spares o a c := fun j T vs h1 h2 h3 => k j T vs h1 h2 (h j T vs h1 h2 h3)
theorem Spares.of_below {o : Nat} {w w' : World} (h : Below w.heap.size w w') : Spares o w w' := fun _ _ _ _ _ hl => hl.below h hl.lt
theorem Spares.of_grew {o B : Nat} {w w' : World} {v : Value} {l : List UInt8} (hw : Wrt w B o v l) (h : Grew w w' o v) : Spares o w w' :=
  fun k _ _ hk hT hl => (h.block k hl.lt hk (hl.not_row hT hw.owns)).trans hl
def PutGot (w : World) (B o : Nat) (m : List UInt8) (e : Ending) (w' : World) : Prop := e = .returned (.tuple #[]) ∧ ∃ v', Wrt w' B o v' m ∧ Spares o w w' ∧ Below B w w'

set_option maxRecDepth 4000 in
set_option maxHeartbeats 800000 in
theorem wtext_spares (s : List UInt8) (w : World) (B o : Nat) (v : Value) (l : List UInt8) (hw : Wrt w B o v l) (hB : B ≤ w.heap.size) (hlen : l.length ≤ 70368744177664) (hs : s.length ≤ 1048576) :
    Calls Tryz.prog 47 #[.pointer (some ⟨o, 0, none⟩), .string ⟨s.toArray⟩] w (PutGot w B o (l ++ Pk.text s)) := by
  have hsz := str_size s
  have h9 := enc_nine (n := s.length) (by omega)
  go_enter Tryz.func47, Tryz.ntmps47
  go_wp2_with fail
  refine (wnum_any (s.length : Int) _ B o v l hw hB (by omega) (by omega) (by omega)).mono ?_
  rintro e1 w1 ⟨rfl, v1, hw1, hg1⟩
  rw [Int.toNat_natCast] at hw1
  have hB1 := hw.below hg1 hB
  have hc1 := hw1.lies.cell 0 v1 rfl
  go_wp2_with (at_builtin; refine append_text rfl _ _ 28 9 5 rfl Tryz.underlying28 Tryz.underlying9 info_u8 B (l ++ enc s.length) s v1 rfl rfl hw1.owns (by simp; omega) (by have := hB1.size; omega) ?_; intro v2 w2 ho2 hg2; obtain ⟨ao2, cap2, rfl⟩ := ho2.reads.shape; have hl2 := hw1.lies.kept hg2 (hw1.lies.not_row (by decide) hw1.owns); have hc2 := hl2.cell 0 v1 rfl; have hf2 := hl2.free 0)
  have hp := hw1.put (by decide) ho2 hg2
  have hq := hB1.trans (hw1.below hp.2 (by have := hB1.size; omega))
  have hsp := (Spares.of_grew hw hg1).trans (Spares.of_grew hw1 hp.2)
  go_end0
  simp only [List.length_append, Nat.add_assoc] at hp hq hsp
  exact ⟨rfl, _, by unfold Pk.text; rw [← List.append_assoc]; exact hp.1, hsp, hq⟩

/-! A field got. -/
theorem rnumber_any (w : World) (B o : Nat) (v : Value) (b : List UInt8) (p : Nat) (er x : Int) (q : Nat) (e : Int) (hr : Rdr w B o v b p er) (hx : e ≠ 0 → x = 0) (h : Hid (Cm.rnum b p er = (x, (q : Int), e))) :
    Calls Tryz.prog 30 #[.pointer (some ⟨o, 0, none⟩), .int .i64 9223372036854775807] w (Gave w B o v b q e (.int .i64 x)) := by
  by_cases h0 : er = 0
  · subst h0
    exact rnum_is 9223372036854775807 w B o v b p x q e hr hx h.out
  · have h1 := h.out
    unfold Cm.rnum at h1
    rw [if_neg h0] at h1
    simp only [Prod.mk.injEq] at h1
    obtain ⟨rfl, h2, rfl⟩ := h1
    obtain rfl : p = q := by omega
    exact rnum_err _ er w B o v b p hr h0
theorem rtextual_any (w : World) (B o : Nat) (v : Value) (b : List UInt8) (p : Nat) (er : Int) (x : List UInt8) (q : Nat) (e : Int) (hr : Rdr w B o v b p er) (hx : e ≠ 0 → x = []) (h : Hid (Cm.rtxt b p er = (x, (q : Int), e))) :
    Calls Tryz.prog 62 #[.pointer (some ⟨o, 0, none⟩), .int .i64 9223372036854775807] w (Gave w B o v b q e (.string ⟨x.toArray⟩)) := by
  by_cases h0 : er = 0
  · subst h0
    exact rtext_is 9223372036854775807 w B o v b p x q e hr hx h.out
  · have h1 := h.out
    unfold Cm.rtxt at h1
    rw [if_neg h0] at h1
    simp only [Prod.mk.injEq] at h1
    obtain ⟨rfl, h2, rfl⟩ := h1
    obtain rfl : p = q := by omega
    exact rtext_err _ er w B o v b p hr h0

/-- All blocks of structs but two lie as they lay. -/
def Saves (o b : Nat) (w w' : World) : Prop := ∀ (k : Nat) (T : TypeId) (vs : Array Value), k ≠ o → k ≠ b → Lies w k T vs → Lies w' k T vs
theorem Saves.refl (o b : Nat) (w : World) : Saves o b w w := fun _ _ _ _ _ h => h
theorem Saves.trans {o b : Nat} {x y z : World} (h : Saves o b x y) (k : Saves o b y z) : Saves o b x z := fun j T vs h1 h2 h3 => k j T vs h1 h2 (h j T vs h1 h2 h3)
theorem Saves.of_below {o b : Nat} {w w' : World} (h : Below w.heap.size w w') : Saves o b w w' := fun _ _ _ _ _ hl => hl.below h hl.lt
theorem Saves.of_grown {o b : Nat} {w w' : World} (h : w.grownBy w' (some o)) : Saves o b w w' := fun _ _ _ h1 _ hl => hl.kept h (by intro e; cases e; exact h1 rfl)
theorem Saves.of_grown2 {o b : Nat} {w w' : World} (h : w.grownBy w' (some b)) : Saves o b w w' := fun _ _ _ _ h2 hl => hl.kept h (by intro e; cases e; exact h2 rfl)
theorem Rdr.beside' {w w' : World} {B o j : Nat} {v : Value} {b : List UInt8} {p : Nat} {er : Int} (h : Rdr w B o v b p er) (hg : w.grownBy w' (some j)) (hj : j ≠ o) (hv : v.ownBlock ≠ some j) : Rdr w' B o v b p er :=
  ⟨h.base, h.lies.kept hg (by simp; omega), h.owns.grown hg (.inr hv), h.inn, h.small⟩
theorem Cm.rnum_res (b : List UInt8) (p : Nat) (er : Int) : ∃ (n : Int) (q : Nat) (e : Int), Cm.rnum b p er = (n, (q : Int), e) ∧ (e ≠ 0 → n = 0) ∧ 0 ≤ n ∧ n ≤ 9223372036854775807 := by
  rcases Cm.rnum_cases b p er with ⟨e, he, hn⟩ | ⟨n, q, _, _, _, hb, hn, _⟩
  · exact ⟨_, _, _, hn, fun _ => rfl, by omega, by omega⟩
  · exact ⟨_, _, _, hn, fun h => absurd rfl h, by omega, by omega⟩
theorem Cm.rtxt_res (b : List UInt8) (p : Nat) (er : Int) (hp : p ≤ b.length) : ∃ (x : List UInt8) (q : Nat) (e : Int), Cm.rtxt b p er = (x, (q : Int), e) ∧ (e ≠ 0 → x = []) ∧ x.length ≤ b.length := by
  rcases Cm.rtxt_cases b p er hp with ⟨e, q, he, hq, hn⟩ | ⟨s, q, _, _, _, hl, hn, _⟩
  · exact ⟨_, _, _, hn, fun _ => rfl, by simp⟩
  · exact ⟨_, _, _, hn, fun h => absurd rfl h, hl⟩

end Go.Proofs.YtammfmmpldahhaaGreat


namespace Go.Proofs.YtammfmmpldahhaaGreat
open Go.RowKit

theorem Wr.fresh (T E : TypeId) (w : World) (B : Nat) (hB : B ≤ w.heap.size) : Wr T E (w.alloc (.cells #[.slice none 0 0] T)) B w.heap.size (.slice none 0 0) [] :=
  ⟨hB, Lies.new _ _ _, Owns.empty _ _ _⟩
theorem Cm.fenc_len (c : Cm.Cmd) (hf : c.Fits) (hs : c.Short 1000) (f : Cm.F) : (Cm.fenc c f).length ≤ 1009 := by
  unfold Cm.fenc
  split
  · have := (hf.n f).2
    have := enc_nine (n := (c.n f).toNat) (by omega)
    omega
  · have := hs.s f
    have h9 := enc_nine (n := (c.s f).length) (by omega)
    simp [Pk.text]; omega
theorem Cm.flat_len (c : Cm.Cmd) (hf : c.Fits) (hs : c.Short 1000) : ∀ fs : List Cm.F, (fs.flatMap (Cm.fenc c)).length ≤ 1009 * fs.length := by
  intro fs
  induction fs with
  | nil => simp
  | cons f fs ih => rw [List.flatMap_cons, List.length_append, List.length_cons]; have := Cm.fenc_len c hf hs f; omega

/-! A command that lies in a block, read and stored whole. -/
theorem Cm.cells_one (c : Cm.Cmd) : (Cm.cells c).all (·.oneCell') = true := by simp [Cm.cells, Value.oneCell']
theorem Cm.cells_at (c : Cm.Cmd) (j : Nat) (hj : j < 7) : ∃ v, (Cm.cells c)[j]? = some v := ⟨_, Array.getElem?_eq_getElem (show j < (Cm.cells c).size from hj)⟩
/-- What a Get gives. -/
def CGot (w : World) (B o : Nat) (u : Value) (s : List UInt8) (t : Cm.Cmd × Nat × Int) (e : Ending) (w' : World) : Prop :=
  e = .returned (.agg (Cm.cells t.1)) ∧ Rdr w' B o u s t.2.1 t.2.2 ∧ Below B w w'

theorem Cm.checkIn_may {v : Int} {c : Cm.Cmd} (h : Cm.checkIn v c = 0) : Vs.may v = true := by
  unfold Cm.checkIn at h
  cases hm : Vs.may v with
  | true => rfl
  | false => rw [if_pos hm] at h; omega
theorem Cm.bytes_len (v : Int) (c : Cm.Cmd) (hf : c.Fits) (hs : c.Short 1000) : (Cm.bytes v c).length ≤ 6000 := by
  have h1 := enc_nine (n := c.kind.toNat) (by have := hf.k1; omega)
  have h2 := Cm.flat_len c hf hs (Cm.encoded v c.kind)
  have h3 := Cm.encoded_len v c.kind
  unfold Cm.bytes
  rw [List.length_append]
  omega

/-- What an encoding gives. -/
def Encd (w : World) (v : Int) (c : Cm.Cmd) (e : Ending) (w' : World) : Prop :=
  Below w.heap.size w w' ∧ ∃ u, e = .returned (.tuple #[u, .int .i64 (Cm.checkIn v c)]) ∧ Reads w' u (if Cm.checkIn v c = 0 then Cm.bytes v c else [])

theorem Cm.gstep_inv (b : List UInt8) (t : Cm.Cmd × Nat × Int) (f : Cm.F) (hp : t.2.1 ≤ b.length) (hs : t.1.Short b.length) (hf : t.1.Fits) : (Cm.gstep b t f).2.1 ≤ b.length ∧ (Cm.gstep b t f).1.Short b.length ∧ (Cm.gstep b t f).1.Fits := by
  obtain ⟨c, p, er⟩ := t
  dsimp only at hp hs hf
  unfold Cm.gstep
  cases h : f.num with
  | true =>
    rw [if_pos rfl]
    dsimp only
    rcases Cm.rnum_cases b p er with ⟨e, _, hn⟩ | ⟨n, q, _, _, hq, hb, hn, _⟩
    · rw [hn]; exact ⟨by simpa using hp, hs.setN f _, hf.setN f (by omega) (by omega)⟩
    · rw [hn]; exact ⟨by simpa using hq, hs.setN f _, hf.setN f (by simp only; omega) (by simp only; omega)⟩
  | false =>
    rw [if_neg (by simp)]
    dsimp only
    rcases Cm.rtxt_cases b p er hp with ⟨e, q, _, hq, hn⟩ | ⟨s, q, _, _, hq, hl, hn, _⟩
    · rw [hn]; exact ⟨by simpa using hq, hs.setS f (by simp), hf.setS f _⟩
    · rw [hn]; exact ⟨by simpa using hq, hs.setS f hl, hf.setS f _⟩
theorem Cm.fold_inv (b : List UInt8) : ∀ (fs : List Cm.F) (t : Cm.Cmd × Nat × Int), t.2.1 ≤ b.length → t.1.Short b.length → t.1.Fits → (fs.foldl (Cm.gstep b) t).2.1 ≤ b.length ∧ (fs.foldl (Cm.gstep b) t).1.Short b.length ∧ (fs.foldl (Cm.gstep b) t).1.Fits := by
  intro fs
  induction fs with
  | nil => intro t h1 h2 h3; exact ⟨h1, h2, h3⟩
  | cons f fs ih =>
    intro t h1 h2 h3
    obtain ⟨h4, h5, h6⟩ := Cm.gstep_inv b t f h1 h2 h3
    exact ih _ h4 h5 h6
theorem Cm.get_inv (v : Int) (b : List UInt8) : (Cm.get v b 0 0).2.1 ≤ b.length ∧ (Cm.get v b 0 0).1.Short b.length ∧ (Cm.get v b 0 0).1.Fits := by
  unfold Cm.get
  have hS : ∀ n, (Cm.bareOf n).Short b.length := fun n => ⟨by simp [Cm.bareOf], by simp [Cm.bareOf], by simp [Cm.bareOf]⟩
  rcases Cm.rnum_cases b 0 0 with ⟨e, _, hn⟩ | ⟨n, q, _, _, hq, hb, hn, _⟩
  · rw [hn]
    exact Cm.fold_inv b _ _ (by simp) (hS _) (by constructor <;> simp [Cm.bareOf])
  · rw [hn]
    exact Cm.fold_inv b _ _ (by simpa using hq) (hS _) (by constructor <;> simp [Cm.bareOf] <;> omega)

/-- What a decoding gives. -/
def Decd (w : World) (r : Cm.Cmd × Int) (e : Ending) (w' : World) : Prop := e = .returned (.tuple #[.agg (Cm.cells r.1), .int .i64 r.2]) ∧ Below w.heap.size w w'

end Go.Proofs.YtammfmmpldahhaaGreat


namespace Go.Proofs.YtammfmmpldahhaaGreat
open Go.RowKit

namespace Cm
/-- A field as a word of a line; the words of a command's line; its text. -/
def told (c : Cmd) (f : F) : List UInt8 := if f.num = true then Lib.itoa (c.n f) else Qt.quote ⟨(c.s f).toArray⟩
def ws (c : Cmd) : List (List UInt8) := word c.kind :: (fields c.kind).map (told c)
def line (c : Cmd) : List UInt8 := Lib.join (ws c) [32]
def text (c : Cmd) : List UInt8 := if check c = 0 then line c else []

theorem told_len (c : Cmd) (hf : c.Fits) {m : Nat} (hs : c.Short m) (f : F) : (told c f).length ≤ 4 * m + 21 := by
  unfold told
  split
  · have := itoa_len (c.n f) (hf.n f).1 (hf.n f).2; omega
  · have := hs.s f
    have h2 := Qt.quote_len ⟨(c.s f).toArray⟩
    rw [str_size] at h2
    omega
theorem word_len (k : Int) : (word k).length ≤ 8 := by
  rcases Vs.kinds k with rfl | rfl | rfl | rfl | rfl | rfl | rfl | rfl | h
  rotate_right
  · rw [word_no h]; simp
  all_goals decide
theorem lens_le (m : Nat) : ∀ l : List (List UInt8), (∀ x ∈ l, x.length ≤ m) → Lib.lens l ≤ m * l.length := by
  intro l
  induction l with
  | nil => intro _; simp [Lib.lens]
  | cons x l ih =>
    intro h
    have h1 := h x (by simp)
    have h2 := ih fun y hy => h y (by simp [hy])
    have h3 : Lib.lens (x :: l) = x.length + Lib.lens l := by simp [Lib.lens]
    rw [h3, List.length_cons, Nat.mul_add, Nat.mul_one]
    omega
theorem line_len (c : Cmd) (hf : c.Fits) {m : Nat} (hs : c.Short m) : (line c).length ≤ 20 * m + 200 := by
  unfold line ws
  rw [Lib.join_cons, List.length_append, Lib.joinTail_length]
  have h1 := word_len c.kind
  have h2 := fields_len c.kind
  have h3 := lens_le (4 * m + 21) ((fields c.kind).map (told c)) (by
    intro x hx
    obtain ⟨f, _, rfl⟩ := List.mem_map.1 hx
    exact told_len c hf hs f)
  rw [List.length_map] at h3 ⊢
  have h4 : (4 * m + 21) * (fields c.kind).length ≤ (4 * m + 21) * 5 := Nat.mul_le_mul_left _ h2
  simp only [List.length_cons, List.length_nil]
  omega
end Cm

/-- A row of one string, laid. -/
theorem OwnsS.one (w : World) (B : Nat) (hB : B ≤ w.heap.size) (E : TypeId) (u : ByteArray) : OwnsS (w.alloc (.cells #[.string u] E)) B E (.slice (some ⟨w.heap.size, 0, none⟩) 1 1) [u] := by
  refine ⟨by simp, .inr ⟨w.heap.size, 1, #[.string u], rfl, hB, heap_alloc_new w _, by simp, by unfold maxLen; omega, by simp, ?_⟩⟩
  simp
def Cm.bl (ls : List (List UInt8)) : List ByteArray := ls.map fun l => ⟨l.toArray⟩
theorem Cm.bl_back (ls : List (List UInt8)) : (Cm.bl ls).map (·.data.toList) = ls := by
  unfold Cm.bl
  rw [List.map_map]
  induction ls with
  | nil => rfl
  | cons l ls ih => rw [List.map_cons, ih]; rfl

theorem OwnsS.kept {w w' : World} {B : Nat} {E : TypeId} {v : Value} {ls : List ByteArray} (h : OwnsS w B E v ls) (hb : Below w.heap.size w w') : OwnsS w' B E v ls := by
  refine World.ownsRow.kept h (grown_of hb none) ?_
  cases v.ownBlock with
  | none => exact .inl rfl
  | some k => exact .inr (by simp)
theorem Cm.bl_next (c : Cm.Cmd) (fs : List Cm.F) (k : Nat) (f : Cm.F) (h : fs[k]? = some f) : Cm.bl ((fs.take (k + 1)).map (Cm.told c)) = Cm.bl ((fs.take k).map (Cm.told c)) ++ [⟨(Cm.told c f).toArray⟩] := by
  rw [List.take_add_one, h, List.map_append]
  unfold Cm.bl
  rw [List.map_append]
  rfl
theorem Cm.bl_len (ls : List (List UInt8)) : (Cm.bl ls).length = ls.length := by simp [Cm.bl]

end Go.Proofs.YtammfmmpldahhaaGreat


namespace Go.Proofs.YtammfmmpldahhaaGreat
open Go.RowKit

namespace Cm
def heardN (w : List UInt8) : Int := match Lib.atoiAll w with | .ok v => v | .range => Lib.atoiSat w | _ => 0
def heardS (w : List UInt8) : List UInt8 := match Qt.unq ⟨w.toArray⟩ with | some o => o | none => []
def hear (c : Cmd) (f : F) (w : List UInt8) : Cmd := if f.num = true then c.setN (heardN w) f else c.setS (heardS w) f

theorem heardN_fits (w : List UInt8) : -9223372036854775808 ≤ heardN w ∧ heardN w ≤ 9223372036854775807 := by
  unfold heardN
  split
  · rename_i v h
    unfold Lib.atoiAll at h
    split at h
    · cases h
    · dsimp only at h
      split at h
      · cases h
      · cases h
      · split at h
        · cases h
        · split at h
          · cases h
          · injection h with h
            subst h
            split <;> omega
  · unfold Lib.atoiSat; split <;> omega
  · omega
theorem heardS_len (w : List UInt8) : (heardS w).length ≤ 4 * w.length := by
  unfold heardS
  split
  · rename_i o h
    unfold Qt.unq at h
    split at h
    · injection h with h
      subst h
      have := Qt.got_len ⟨w.toArray⟩
      rw [str_size] at this
      exact this
    · cases h
  · simp
theorem told_tuple (s : ByteArray) : ∃ e : Int, Qt.told s = .tuple #[.string ⟨(heardS s.data.toList).toArray⟩, .int .i64 e] := by
  unfold Qt.told heardS
  rw [show (ByteArray.mk s.data.toList.toArray) = s from rfl]
  cases Qt.unq s with
  | some o => exact ⟨0, rfl⟩
  | none => exact ⟨3, rfl⟩
end Cm

/-- Go's own errors lie there. -/
def ErrsIn (w : World) : Prop := (∃ tp p, w.var? Tryz.prog "strconv.ErrSyntax" = some #[.iface tp p]) ∧ ∃ tp p, w.var? Tryz.prog "strconv.ErrRange" = some #[.iface tp p]
theorem ErrsIn.below {w w' : World} (h : ErrsIn w) (hb : Below w.heap.size w w') : ErrsIn w' := by
  obtain ⟨⟨t1, p1, h1⟩, t2, p2, h2⟩ := h
  exact ⟨⟨t1, p1, var_below h1 hb⟩, t2, p2, var_below h2 hb⟩

/-- The store behind a word's reading. -/
theorem heard_end {w w1 w2 : World} {b : Nat} {T : TypeId} {vs : Array Value} (i : Nat) (x : Value) (hb1 : w.grownBy w1 (some b)) (hg : Below w1.drew.heap.size w1.drew w2) (hl : Lies w2 b T vs) :
    Lies (w2.setCell ⟨b, i, none⟩ x) b T (vs.setIfInBounds i x) ∧ w.grownBy (w2.setCell ⟨b, i, none⟩ x) (some b) :=
  ⟨hl.set i x, grown_on (grown_on (grown_on hb1 (grown_drewN w1 1 _)) (grown_of hg _)) (grown_set w2 b i x)⟩

end Go.Proofs.YtammfmmpldahhaaGreat


namespace Go.Proofs.YtammfmmpldahhaaGreat
open Go.RowKit

def Cm.kindOf (w : List UInt8) : Int :=
  if w = [] then 0 else if w = [110, 111, 112] then 1 else if w = [112, 117, 116] then 2 else if w = [103, 101, 116] then 3 else if w = [100, 101, 108] then 4 else if w = [99, 97, 115] then 5
  else if w = [97, 99, 116, 105, 118, 97, 116, 101] then 6 else if w = [97, 100, 100] then 7 else if w = [100, 114, 111, 112] then 8 else 0

theorem eq_const (a : List UInt8) (s : ByteArray) : (a == s.toList) = decide (s.data.toList = a) := by
  rw [ByteArray.toList_eq]
  by_cases h : s.data.toList = a
  · rw [decide_eq_true h, h]; simp
  · rw [decide_eq_false h, beq_eq_false_iff_ne]; exact fun e => h e.symm

end Go.Proofs.YtammfmmpldahhaaGreat


namespace Go.Proofs.YtammfmmpldahhaaGreat
open Go.RowKit

namespace Cm
def heardOf (c : Cmd) (l : List (F × List UInt8)) : Cmd := l.foldl (fun a p => hear a p.1 p.2) c
def parseWords (l : List (List UInt8)) : Cmd := heardOf (bareOf (kindOf (l.headD []))) ((fields (kindOf (l.headD []))).zip l.tail)
/-- What Parse gives: the command, the error. -/
def parse (s : ByteArray) : Cmd × Int :=
  if Qt.lineOk s = true ∧ Qt.words s ≠ [] then (if text (parseWords (Qt.words s)) = s.data.toList then (parseWords (Qt.words s), 0) else (zero, 3)) else (zero, 3)

theorem kindOf_small (w : List UInt8) : 0 ≤ kindOf w ∧ kindOf w ≤ 8 := by
  unfold kindOf
  repeat' split
  all_goals decide
theorem bareOf_fits (w : List UInt8) : (bareOf (kindOf w)).Fits := by
  have := kindOf_small w
  constructor <;> simp [bareOf] <;> omega
theorem hear_fits {c : Cmd} (h : c.Fits) (f : F) (w : List UInt8) : (hear c f w).Fits := by
  unfold hear
  split
  · exact h.setN f (heardN_fits w).1 (heardN_fits w).2
  · exact h.setS f _
theorem hear_short {c : Cmd} {m : Nat} (h : c.Short m) (f : F) (w : List UInt8) (hw : 4 * w.length ≤ m) : (hear c f w).Short m := by
  unfold hear
  split
  · exact h.setN f _
  · exact h.setS f (Nat.le_trans (heardS_len w) hw)
theorem hear_kind (c : Cmd) (f : F) (w : List UInt8) : (hear c f w).kind = c.kind := by
  unfold hear
  split
  · exact Cmd.setN_kind _ _ _
  · exact Cmd.setS_kind _ _ _
end Cm

/-- What Parse tells. -/
def Parsed (w : World) (r : Cm.Cmd × Int) (e : Ending) (w' : World) : Prop := e = .returned (.tuple #[.agg (Cm.cells r.1), .int .i64 r.2]) ∧ Below w.heap.size w w'

end Go.Proofs.YtammfmmpldahhaaGreat


namespace Go.Proofs.YtammfmmpldahhaaGreat

namespace Cm
/-- No number is below nothing. -/
def Cmd.Pos (c : Cmd) : Prop := 0 ≤ c.kind ∧ 0 ≤ c.client ∧ 0 ≤ c.seq ∧ 0 ≤ c.node
theorem Cmd.Pos.n {c : Cmd} (h : c.Pos) (f : F) : 0 ≤ c.n f := by
  obtain ⟨_, _, _, _⟩ := h
  cases f <;> simp [Cmd.n] <;> omega
def copy (c a : Cmd) (f : F) : Cmd := if f.num = true then a.setN (c.n f) f else a.setS (c.s f) f
def restrict (v : Int) (c : Cmd) : Cmd := (encoded v c.kind).foldl (copy c) (bareOf c.kind)

theorem gstep_back (c a : Cmd) (hp : c.Pos) (hf : c.Fits) {m : Nat} (hs : c.Short m) (hm : m ≤ 9223372036854775807) (pre post : List UInt8) (f : F) :
    gstep (pre ++ (fenc c f ++ post)) (a, pre.length, 0) f = (copy c a f, (pre ++ fenc c f).length, 0) := by
  unfold gstep copy fenc
  cases h : f.num with
  | true =>
    rw [if_pos rfl, if_pos rfl, if_pos rfl]
    have h0 := hp.n f
    have h1 := (hf.n f).2
    have hn := Pk.num_enc pre post (N := (c.n f).toNat) (most := big) (by omega) (by unfold big; omega)
    have e : rnum (pre ++ (enc (c.n f).toNat ++ post)) pre.length 0 = (((c.n f).toNat : Int), ((pre.length + (enc (c.n f).toNat).length : Nat) : Int), 0) := by unfold rnum; rw [if_pos rfl]; exact hn
    dsimp only
    rw [e]
    simp only [Int.toNat_natCast, List.length_append, Prod.mk.injEq, and_true]
    rw [Int.toNat_of_nonneg h0]
  | false =>
    rw [if_neg (by simp), if_neg (by simp), if_neg (by simp)]
    have h1 := hs.s f
    have hn := Pk.txt_text pre post (s := c.s f) (most := big) (by omega) (by unfold big; omega)
    have e : rtxt (pre ++ (Pk.text (c.s f) ++ post)) pre.length 0 = (c.s f, ((pre.length + (Pk.text (c.s f)).length : Nat) : Int), 0) := by unfold rtxt; rw [if_pos rfl]; exact hn
    dsimp only
    rw [e]
    simp only [Int.toNat_natCast, List.length_append]

theorem fold_back (c : Cmd) (hp : c.Pos) (hf : c.Fits) {m : Nat} (hs : c.Short m) (hm : m ≤ 9223372036854775807) (b : List UInt8) : ∀ (fs : List F) (a : Cmd) (pre post : List UInt8), b = pre ++ (fs.flatMap (fenc c) ++ post) →
    fs.foldl (gstep b) (a, pre.length, 0) = (fs.foldl (copy c) a, (pre ++ fs.flatMap (fenc c)).length, 0) := by
  intro fs
  induction fs with
  | nil => intro a pre post _; simp
  | cons f fs ih =>
    intro a pre post hb
    rw [List.foldl_cons, List.foldl_cons]
    have h1 : gstep b (a, pre.length, 0) f = (copy c a f, (pre ++ fenc c f).length, 0) := by
      rw [hb, List.flatMap_cons, List.append_assoc]
      exact gstep_back c a hp hf hs hm pre _ f
    rw [h1, ih (copy c a f) (pre ++ fenc c f) post (by rw [hb]; simp)]
    simp

theorem get_back (v : Int) (c : Cmd) (hp : c.Pos) (hf : c.Fits) {m : Nat} (hs : c.Short m) (hm : m ≤ 9223372036854775807) : get v (bytes v c) 0 0 = (restrict v c, (bytes v c).length, 0) := by
  have hk : rnum (bytes v c) 0 0 = (c.kind, (((enc c.kind.toNat).length : Nat) : Int), 0) := by
    unfold rnum bytes
    rw [if_pos rfl]
    have h1 := hf.k1
    have h0 := hp.1
    have := Pk.num_enc [] ((encoded v c.kind).flatMap (fenc c)) (N := c.kind.toNat) (most := big) (by omega) (by unfold big; omega)
    simp only [List.nil_append, List.length_nil, Nat.zero_add] at this
    rw [this, Int.toNat_of_nonneg h0]
  unfold get
  rw [hk]
  simp only [Int.toNat_natCast]
  rw [fold_back c hp hf hs hm (bytes v c) (encoded v c.kind) (bareOf c.kind) (enc c.kind.toNat) [] (by simp [bytes])]
  rfl

theorem restrict_flat (c : Cmd) (h : c.old = []) : restrict 1 c = c := by
  obtain ⟨k, cl, sq, nd, ky, od, vl⟩ := c
  dsimp only at h
  subst h
  rfl
theorem restrict_alone (v : Int) (hv : v ≠ 1) (c : Cmd) (h : alone c = true) : restrict v c = c := by
  obtain ⟨k, cl, sq, nd, ky, od, vl⟩ := c
  have h' := of_decide_eq_true h
  unfold restrict encoded
  rw [if_neg hv]
  dsimp only at h' ⊢
  rcases Vs.kinds k with rfl | rfl | rfl | rfl | rfl | rfl | rfl | rfl | hk
  rotate_right
  · have hf : fields k = [] := fields_no (by omega) (by omega) (by omega) (by omega) (by omega) (by omega)
    rw [hf] at h' ⊢
    exact h'.symm
  all_goals
    simp [fields, wipe, F.num, Cmd.setN, Cmd.setS, bareOf] at h'
    simp [fields, copy, F.num, Cmd.setN, Cmd.setS, Cmd.n, Cmd.s, bareOf, h']
theorem all_same (p q : F → Bool) : ∀ l : List F, (∀ f ∈ l, p f = q f) → l.all p = l.all q := by
  intro l
  induction l with
  | nil => intro _; rfl
  | cons f l ih => intro h; rw [List.all_cons, List.all_cons, h f (by simp), ih fun g hg => h g (by simp [hg])]
theorem check_restrict (v : Int) (hv : v ≠ 1) (c : Cmd) (hk : known c.kind = true) (h0 : check c ≠ 0) (h3 : check c ≠ 3) : check (restrict v c) ≠ 0 := by
  have e : restrict v c = (fields c.kind).foldl (copy c) (bareOf c.kind) := by unfold restrict encoded; rw [if_neg hv]
  have hk2 : (restrict v c).kind = c.kind := by
    rw [e]
    obtain ⟨k, cl, sq, nd, ky, od, vl⟩ := c
    dsimp only
    rcases Vs.kinds k with rfl | rfl | rfl | rfl | rfl | rfl | rfl | rfl | hk
    rotate_right
    · rw [fields_no (by omega) (by omega) (by omega) (by omega) (by omega) (by omega)]; rfl
    all_goals rfl
  have hsame : ∀ f ∈ fields c.kind, (restrict v c).n f = c.n f ∧ (restrict v c).s f = c.s f := by
    rw [e]
    clear hk2 e hk h0 h3
    obtain ⟨k, cl, sq, nd, ky, od, vl⟩ := c
    dsimp only
    rcases Vs.kinds k with rfl | rfl | rfl | rfl | rfl | rfl | rfl | rfl | hk
    rotate_right
    · rw [fields_no (by omega) (by omega) (by omega) (by omega) (by omega) (by omega)]
      intro f hf
      cases hf
    all_goals
      intro f hf
      cases f <;> first | exact ⟨rfl, rfl⟩ | (simp [fields] at hf)
  have hw : (fields c.kind).all (within (restrict v c)) = (fields c.kind).all (within c) := all_same _ _ _ fun f hf => by unfold within; rw [(hsame f hf).1]
  have hq : (fields c.kind).all (spelt (restrict v c)) = (fields c.kind).all (spelt c) := all_same _ _ _ fun f hf => by unfold spelt; rw [(hsame f hf).2]
  unfold check at h0 h3 ⊢
  rw [hk2, hw, hq]
  rw [hk, if_neg (by simp)] at h0 h3 ⊢
  by_cases h6 : (fields c.kind).all (within c) = false
  · rw [if_pos h6]; omega
  · rw [if_neg h6] at h0 h3 ⊢
    by_cases h7 : (fields c.kind).all (spelt c) = false
    · rw [if_pos h7]; omega
    · rw [if_neg h7] at h0 h3
      by_cases ha : alone c = false
      · rw [if_pos ha] at h3; omega
      · rw [if_neg ha] at h0; omega

theorem check_ok {c : Cmd} (h : check c = 0) : known c.kind = true ∧ alone c = true := by
  unfold check at h
  cases hk : known c.kind with
  | false => rw [if_pos hk] at h; omega
  | true =>
    rw [if_neg (by rw [hk]; simp)] at h
    split at h
    · omega
    · split at h
      · omega
      · split at h
        · omega
        · rename_i ha
          exact ⟨rfl, by simpa using ha⟩
theorem check_pos {c : Cmd} (h : check c = 0) : c.Pos := by
  obtain ⟨hk, ha⟩ := check_ok h
  unfold check at h
  rw [hk, if_neg (by simp)] at h
  by_cases h6 : (fields c.kind).all (within c) = false
  · rw [if_pos h6] at h; omega
  · have hw : (fields c.kind).all (within c) = true := by simpa using h6
    have h' := of_decide_eq_true ha
    clear h ha h6
    obtain ⟨k, cl, sq, nd, ky, od, vl⟩ := c
    dsimp only at hk hw h'
    rcases Vs.kinds k with rfl | rfl | rfl | rfl | rfl | rfl | rfl | rfl | h
    rotate_right
    · simp [known] at hk; omega
    all_goals
      simp [fields, wipe, F.num, Cmd.setN, Cmd.setS, bareOf] at h'
      simp [fields, within, F.num, F.most, Cmd.n] at hw
      refine ⟨?_, ?_, ?_, ?_⟩ <;> dsimp only <;> first | omega | grind
theorem checkIn_ok {v : Int} {c : Cmd} (h : checkIn v c = 0) : Vs.may v = true ∧ check c = 0 ∧ Vs.has v c.kind = true := by
  unfold checkIn at h
  by_cases h1 : Vs.may v = false
  · rw [if_pos h1] at h; omega
  · rw [if_neg h1] at h
    by_cases h2 : check c = 0
    · rw [if_neg (by simpa using h2)] at h
      by_cases h3 : Vs.has v c.kind = false
      · rw [if_pos h3] at h; omega
      · exact ⟨by simpa using h1, h2, by simpa using h3⟩
    · rw [if_pos h2] at h; omega
theorem restrict_ok (v : Int) (c : Cmd) (h : checkIn v c = 0) : restrict v c = c := by
  obtain ⟨_, hc, hh⟩ := checkIn_ok h
  obtain ⟨hk, ha⟩ := check_ok hc
  by_cases hv : v = 1
  · subst hv
    apply restrict_flat
    have h' := of_decide_eq_true ha
    clear h hc ha
    obtain ⟨k, cl, sq, nd, ky, od, vl⟩ := c
    dsimp only at hk hh h' ⊢
    rcases Vs.kinds k with rfl | rfl | rfl | rfl | rfl | rfl | rfl | rfl | h
    rotate_right
    · simp [known] at hk; omega
    all_goals first | (simp [Vs.has, Vs.common] at hh; done) | skip
    all_goals
      simp [fields, wipe, F.num, Cmd.setN, Cmd.setS, bareOf] at h'
      simp [h']
  · exact restrict_alone v hv c ha

theorem done_end (b : List UInt8) : done b b.length 0 = 0 := by unfold done; simp
/-- What decoding makes of a command's own bytes. -/
theorem decode_own (v : Int) (c : Cmd) (hm : Vs.may v = true) (hp : c.Pos) (hf : c.Fits) {m : Nat} (hs : c.Short m) (hm2 : m ≤ 9223372036854775807) :
    decode v (bytes v c) = if checkIn v (restrict v c) ≠ 0 then (zero, checkIn v (restrict v c)) else (restrict v c, 0) := by
  unfold decode
  rw [get_back v c hp hf hs hm2, if_neg (by rw [hm]; simp)]
  dsimp only
  rw [done_end, if_neg (by simp)]
theorem decode_bytes (v : Int) (c : Cmd) (h : checkIn v c = 0) (hf : c.Fits) {m : Nat} (hs : c.Short m) (hm : m ≤ 9223372036854775807) : decode v (bytes v c) = (c, 0) := by
  obtain ⟨hmay, hc, _⟩ := checkIn_ok h
  rw [decode_own v c hmay (check_pos hc) hf hs hm, restrict_ok v c h, h]
  simp

/-! What is decoded has these bytes. -/
theorem gstep_other (b : List UInt8) (t : Cmd × Nat × Int) (f g : F) (h : g ≠ f) : (gstep b t f).1.n g = t.1.n g ∧ (gstep b t f).1.s g = t.1.s g := by
  unfold gstep
  split
  · dsimp only
    cases f <;> cases g <;> first | exact ⟨rfl, rfl⟩ | exact absurd rfl h
  · dsimp only
    cases f <;> cases g <;> first | exact ⟨rfl, rfl⟩ | exact absurd rfl h
theorem fold_other (b : List UInt8) : ∀ (fs : List F) (t : Cmd × Nat × Int) (g : F), g ∉ fs → (fs.foldl (gstep b) t).1.n g = t.1.n g ∧ (fs.foldl (gstep b) t).1.s g = t.1.s g := by
  intro fs
  induction fs with
  | nil => intro t g _; exact ⟨rfl, rfl⟩
  | cons f fs ih =>
    intro t g hg
    have h1 := ih (gstep b t f) g (fun h => hg (List.mem_cons_of_mem _ h))
    have h2 := gstep_other b t f g (fun h => hg (by rw [h]; simp))
    rw [List.foldl_cons, h1.1, h1.2, h2.1, h2.2]
    exact ⟨rfl, rfl⟩
theorem gstep_kind (b : List UInt8) (t : Cmd × Nat × Int) (f : F) : (gstep b t f).1.kind = t.1.kind := by
  unfold gstep
  split
  · exact Cmd.setN_kind _ _ _
  · exact Cmd.setS_kind _ _ _
theorem foldg_kind (b : List UInt8) : ∀ (fs : List F) (t : Cmd × Nat × Int), (fs.foldl (gstep b) t).1.kind = t.1.kind := by
  intro fs
  induction fs with
  | nil => intro t; rfl
  | cons f fs ih => intro t; rw [List.foldl_cons, ih, gstep_kind]
theorem fenc_same (c d : Cmd) (f : F) (h : c.n f = d.n f ∧ c.s f = d.s f) : fenc c f = fenc d f := by unfold fenc; rw [h.1, h.2]

/-- One step that goes well. -/
theorem gstep_ok (b : List UInt8) (c : Cmd) (p : Nat) (er : Int) (f : F) (hp : p ≤ b.length) (h : (gstep b (c, p, er) f).2.2 = 0) :
    er = 0 ∧ (gstep b (c, p, er) f).2.1 ≤ b.length ∧ b.take (gstep b (c, p, er) f).2.1 = b.take p ++ fenc (gstep b (c, p, er) f).1 f := by
  unfold gstep at h ⊢
  cases hn : f.num with
  | true =>
    rw [hn, if_pos rfl] at h
    rw [if_pos rfl]
    dsimp only at h ⊢
    rcases rnum_cases b p er with ⟨e, he, hr⟩ | ⟨n, q, h0, _, hq, _, hr, ht⟩
    · rw [hr] at h; exact absurd h he
    · rw [hr]
      simp only [Int.toNat_natCast]
      refine ⟨h0, hq, ?_⟩
      rw [ht]
      unfold fenc
      rw [if_pos hn]
      cases f <;> first | rfl | cases hn
  | false =>
    rw [hn, if_neg (by simp)] at h
    rw [if_neg (by simp)]
    dsimp only at h ⊢
    rcases rtxt_cases b p er hp with ⟨e, q, he, _, hr⟩ | ⟨s, q, h0, _, hq, _, hr, ht⟩
    · rw [hr] at h; exact absurd h he
    · rw [hr]
      simp only [Int.toNat_natCast]
      refine ⟨h0, hq, ?_⟩
      rw [ht]
      unfold fenc
      rw [if_neg (by rw [hn]; simp)]
      cases f <;> first | rfl | cases hn

theorem gstep_err (b : List UInt8) (c : Cmd) (p : Nat) (er : Int) (f : F) (hp : p ≤ b.length) : (gstep b (c, p, er) f).2.1 ≤ b.length := by
  unfold gstep
  split
  · dsimp only
    rcases rnum_cases b p er with ⟨e, _, hr⟩ | ⟨n, q, _, _, hq, _, hr, _⟩
    · rw [hr]; simpa using hp
    · rw [hr]; simpa using hq
  · dsimp only
    rcases rtxt_cases b p er hp with ⟨e, q, _, hq, hr⟩ | ⟨s, q, _, _, hq, _, hr, _⟩
    · rw [hr]; simpa using hq
    · rw [hr]; simpa using hq

theorem fold_bytes (b : List UInt8) : ∀ (fs : List F) (t : Cmd × Nat × Int), fs.Nodup → t.2.1 ≤ b.length → (fs.foldl (gstep b) t).2.2 = 0 →
    t.2.2 = 0 ∧ (fs.foldl (gstep b) t).2.1 ≤ b.length ∧ b.take (fs.foldl (gstep b) t).2.1 = b.take t.2.1 ++ fs.flatMap (fenc (fs.foldl (gstep b) t).1) := by
  intro fs
  induction fs with
  | nil => intro t _ hp h; exact ⟨h, hp, by simp⟩
  | cons f fs ih =>
    intro t hn hp h
    obtain ⟨c, p, er⟩ := t
    have hn' := List.nodup_cons.1 hn
    rw [List.foldl_cons] at h ⊢
    obtain ⟨h1, h2, h3⟩ := ih (gstep b (c, p, er) f) hn'.2 (gstep_err b c p er f hp) h
    obtain ⟨h4, _, h6⟩ := gstep_ok b c p er f hp h1
    refine ⟨h4, h2, ?_⟩
    rw [h3, h6, List.flatMap_cons, List.append_assoc, fenc_same _ _ f (fold_other b fs (gstep b (c, p, er) f) f hn'.1)]

theorem decode_ok (v : Int) (b : List UInt8) (h : (decode v b).2 = 0) : (v = 1 ∨ v = 2) ∧ check (decode v b).1 = 0 ∧ Vs.has v (decode v b).1.kind = true ∧ bytes v (decode v b).1 = b := by
  unfold decode at h ⊢
  by_cases h1 : Vs.may v = false
  · rw [if_pos h1] at h; cases h
  · rw [if_neg h1] at h ⊢
    by_cases h2 : done b (get v b 0 0).2.1 (get v b 0 0).2.2 = 0
    · rw [if_neg (by simpa using h2)] at h ⊢
      by_cases h3 : checkIn v (get v b 0 0).1 = 0
      · rw [if_neg (by simpa using h3)] at h ⊢
        dsimp only
        obtain ⟨hm, hc, hh⟩ := checkIn_ok h3
        refine ⟨(Vs.may_or v).elim (fun x => x.2) (fun x => by rw [hm] at x; cases x.1), hc, hh, ?_⟩
        have her : (get v b 0 0).2.2 = 0 := by
          unfold done at h2
          split at h2
          · rename_i hne; exact absurd h2 hne
          · rename_i hne; simpa using hne
        have hpl : ¬ (get v b 0 0).2.1 < b.length := by
          unfold done at h2
          rw [if_neg (by simpa using her)] at h2
          intro hlt
          rw [if_pos hlt] at h2
          omega
        unfold get at her hpl ⊢
        rcases rnum_cases b 0 0 with ⟨e, he, hr⟩ | ⟨n, q, _, _, hq, hnb, hr, ht⟩
        · rw [hr] at her
          have := (fold_bytes b _ _ (encoded_once v 0) (by simp) her).1
          exact absurd this he
        · rw [hr] at her hpl ⊢
          simp only [Int.toNat_natCast] at her hpl ⊢
          obtain ⟨_, h5, h6⟩ := fold_bytes b _ _ (encoded_once v (n : Int)) (by exact hq) her
          rw [List.take_of_length_le (by omega)] at h6
          unfold bytes
          rw [foldg_kind]
          show enc (n : Int).toNat ++ (encoded v (n : Int)).flatMap _ = b
          rw [Int.toNat_natCast]
          conv => rhs; rw [h6]
          dsimp only
          rw [ht]
          simp
      · rw [if_pos h3] at h; exact absurd h h3
    · rw [if_pos h2] at h; exact absurd h h2
theorem decode_none (v : Int) (b : List UInt8) (h : (decode v b).2 ≠ 0) : (decode v b).1 = zero := by
  unfold decode at h ⊢
  by_cases h1 : Vs.may v = false
  · rw [if_pos h1]
  · rw [if_neg h1] at h ⊢
    by_cases h2 : done b (get v b 0 0).2.1 (get v b 0 0).2.2 = 0
    · rw [if_neg (by simpa using h2)] at h ⊢
      by_cases h3 : checkIn v (get v b 0 0).1 = 0
      · rw [if_neg (by simpa using h3)] at h; exact absurd rfl h
      · rw [if_pos h3]
    · rw [if_pos h2]
end Cm
end Go.Proofs.YtammfmmpldahhaaGreat


namespace Go.Proofs.YtammfmmpldahhaaGreat

namespace Cm
theorem dig_byte (d : Nat) (h : d < 10) : (UInt8.ofNat (48 + d)).toNat = 48 + d := by rw [UInt8.toNat_ofNat']; omega
theorem dec_bytes : ∀ u : Nat, ∀ c ∈ Lib.decDigits u, 48 ≤ c.toNat ∧ c.toNat ≤ 57 := by
  intro u
  induction u using Nat.strongRecOn with
  | ind u ih =>
    intro c hc
    rw [Lib.decDigits] at hc
    split at hc
    · rename_i h
      simp only [List.mem_singleton] at hc
      subst hc
      rw [dig_byte u h]; omega
    · rename_i h
      rcases List.mem_append.1 hc with h1 | h1
      · exact ih (u / 10) (by omega) c h1
      · simp only [List.mem_singleton] at h1
        subst h1
        rw [dig_byte (u % 10) (by omega)]; omega
theorem dec_ne (u : Nat) : Lib.decDigits u ≠ [] := by
  rw [Lib.decDigits]
  split
  · simp
  · simp
theorem parse_dec : ∀ (u : Nat) (rest : List UInt8), u < 1000000000000000 → Lib.parseUint10 0 (Lib.decDigits u ++ rest) = Lib.parseUint10 u rest := by
  intro u
  induction u using Nat.strongRecOn with
  | ind u ih =>
    intro rest hu
    rw [Lib.decDigits]
    split
    · rename_i h
      have hd := dig_byte u h
      rw [List.singleton_append, Lib.parseUint10, hd, if_pos (by omega), if_neg (by omega), if_neg (by omega)]
      congr 1
      omega
    · rename_i h
      rw [List.append_assoc, ih (u / 10) (by omega) _ (by omega), List.singleton_append]
      have hd := dig_byte (u % 10) (by omega)
      rw [Lib.parseUint10, hd, if_pos (by omega), if_neg (by omega), if_neg (by omega)]
      congr 1
      omega
theorem heardN_itoa (n : Int) (h0 : 0 ≤ n) (h1 : n < 1000000000000000) : heardN (Lib.itoa n) = n := by
  obtain ⟨u, rfl⟩ := Int.eq_ofNat_of_zero_le h0
  have e : Lib.itoa (u : Int) = Lib.decDigits u := by unfold Lib.itoa; rw [if_neg (by omega), Int.toNat_natCast]
  have hp := parse_dec u [] (by omega)
  rw [List.append_nil] at hp
  have hm : Lib.parseMag (Lib.decDigits u) = .ok u := by unfold Lib.parseMag; rw [if_neg (dec_ne u), hp]; rfl
  have ha : Lib.atoiAll (Lib.decDigits u) = .ok (u : Int) := by
    have hb := dec_bytes u
    cases hl : Lib.decDigits u with
    | nil => exact absurd hl (dec_ne u)
    | cons c r =>
      rw [hl] at hm hb
      have hc := hb c (by simp)
      unfold Lib.atoiAll
      dsimp only
      rw [if_neg (show ¬ (c.toNat = 43 ∨ c.toNat = 45) by omega), hm]
      dsimp only
      rw [if_neg (by omega), if_neg (by omega), if_neg (by omega)]
  unfold heardN
  rw [e, ha]
theorem heardS_quote (s : List UInt8) : heardS (Qt.quote ⟨s.toArray⟩) = s := by
  unfold heardS
  rw [Qt.unq_quote ⟨s.toArray⟩ _ rfl]
theorem kindOf_word (k : Int) (h : known k = true) : kindOf (word k) = k := by
  rcases Vs.kinds k with rfl | rfl | rfl | rfl | rfl | rfl | rfl | rfl | hk
  rotate_right
  · simp [known] at h; omega
  all_goals decide
theorem zip_fold (g : F → List UInt8) : ∀ (fs : List F) (a : Cmd), heardOf a (fs.zip (fs.map g)) = fs.foldl (fun a f => hear a f (g f)) a := by
  intro fs
  induction fs with
  | nil => intro a; rfl
  | cons f fs ih =>
    intro a
    rw [List.map_cons, List.zip_cons_cons]
    show heardOf (hear a f (g f)) _ = _
    rw [ih]
    rfl
theorem hear_told (c a : Cmd) (f : F) (h0 : 0 ≤ c.n f) (h1 : c.n f < 1000000000000000) : hear a f (told c f) = copy c a f := by
  unfold hear told copy
  cases h : f.num with
  | true => rw [if_pos rfl, if_pos rfl, if_pos rfl, heardN_itoa _ h0 h1]
  | false => rw [if_neg (by simp), if_neg (by simp), if_neg (by simp), heardS_quote]
theorem fold_told (c : Cmd) : ∀ (fs : List F) (a : Cmd), (∀ f, 0 ≤ c.n f ∧ c.n f < 1000000000000000) → fs.foldl (fun a f => hear a f (told c f)) a = fs.foldl (copy c) a := by
  intro fs
  induction fs with
  | nil => intro a _; rfl
  | cons f fs ih =>
    intro a h
    rw [List.foldl_cons, List.foldl_cons, hear_told c a f (h f).1 (h f).2, ih _ h]
/-- A command that may be has numbers not too large. -/
theorem check_small {c : Cmd} (h : check c = 0) (f : F) : 0 ≤ c.n f ∧ c.n f < 1000000000000000 := by
  refine ⟨(check_pos h).n f, ?_⟩
  obtain ⟨hk, ha⟩ := check_ok h
  unfold check at h
  rw [hk, if_neg (by simp)] at h
  by_cases h6 : (fields c.kind).all (within c) = false
  · rw [if_pos h6] at h; omega
  · have hw : ∀ g ∈ fields c.kind, within c g = true := List.all_eq_true.1 (by simpa using h6)
    by_cases hf : f ∈ fields c.kind
    · have := hw f hf
      unfold within at this
      cases hn : f.num with
      | false => cases f <;> first | (simp [Cmd.n]; done) | cases hn
      | true =>
        rw [hn] at this
        simp only [Bool.not_true, Bool.false_or, Bool.and_eq_true, decide_eq_true_eq] at this
        have hm : f.most ≤ 4294967296 := by cases f <;> decide
        omega
    · have h' := of_decide_eq_true ha
      have hz : c.n f = 0 := by
        clear h ha h6 hw
        obtain ⟨k, cl, sq, nd, ky, od, vl⟩ := c
        dsimp only at hk h' hf
        rcases Vs.kinds k with rfl | rfl | rfl | rfl | rfl | rfl | rfl | rfl | h
        rotate_right
        · simp [known] at hk; omega
        all_goals
          simp [fields, wipe, F.num, Cmd.setN, Cmd.setS, bareOf] at h'
          cases f <;> simp [fields] at hf <;> simp [Cmd.n, h']
      omega

theorem parse_words (c : Cmd) (h : check c = 0) : parseWords (ws c) = c := by
  obtain ⟨hk, ha⟩ := check_ok h
  unfold parseWords ws
  simp only [List.headD_cons, List.tail_cons]
  rw [kindOf_word _ hk, zip_fold, fold_told c _ _ (check_small h)]
  have := restrict_alone 2 (by omega) c ha
  unfold restrict encoded at this
  rw [if_neg (by omega)] at this
  exact this

theorem word_words (c : Cmd) (h : check c = 0) : ∀ x ∈ bl (ws c), Qt.word x = true := by
  intro x hx
  unfold bl ws at hx
  rw [List.map_cons, List.map_map] at hx
  rcases List.mem_cons.1 hx with rfl | hx
  · rcases Vs.kinds c.kind with e | e | e | e | e | e | e | e | hk
    rotate_right
    · have := (check_ok h).1
      simp [known] at this; omega
    all_goals rw [e]; decide +kernel
  · obtain ⟨f, _, rfl⟩ := List.mem_map.1 hx
    show Qt.word ⟨(told c f).toArray⟩ = true
    unfold told
    cases hn : f.num with
    | true =>
      rw [if_pos rfl]
      obtain ⟨u, hu⟩ := Int.eq_ofNat_of_zero_le (check_small h f).1
      have e : Lib.itoa (c.n f) = Lib.decDigits u := by unfold Lib.itoa; rw [if_neg (by omega), hu, Int.toNat_natCast]
      rw [e]
      have hb := dec_bytes u
      unfold Qt.word
      cases hl : Lib.decDigits u with
      | nil => exact absurd hl (dec_ne u)
      | cons a r =>
        rw [hl] at hb
        have ha := hb a (by simp)
        rw [if_neg (by rw [str_size]; simp), if_neg (show ¬ Rn.byteAt ⟨(a :: r).toArray⟩ 0 = 34 from by show ¬ a.toNat = 34; omega)]
        unfold Qt.bare
        rw [List.all_eq_true]
        intro z hz
        have := hb z hz
        simp; omega
    | false =>
      rw [if_neg (by simp)]
      unfold Qt.word
      rw [if_neg (by rw [str_size]; unfold Qt.quote; simp), if_pos (show Rn.byteAt ⟨(Qt.quote ⟨(c.s f).toArray⟩).toArray⟩ 0 = 34 from rfl), Qt.unq_quote ⟨(c.s f).toArray⟩ _ rfl]
      rfl

/-- A command's text is parsed as it. -/
theorem parse_text (c : Cmd) (h : check c = 0) : parse ⟨(text c).toArray⟩ = (c, 0) := by
  have ht : text c = line c := by unfold text; rw [if_pos h]
  have hj : (ByteArray.mk (text c).toArray) = ⟨(Lib.join ((bl (ws c)).map (·.data.toList)) [32]).toArray⟩ := by rw [ht, bl_back]; rfl
  have hok := Qt.lineOk_join (bl (ws c)) (word_words c h)
  have hw := Qt.words_join (bl (ws c)) (word_words c h)
  rw [← hj] at hok hw
  rw [bl_back] at hw
  unfold parse
  rw [if_pos ⟨hok, by rw [hw]; simp [ws]⟩, hw, parse_words c h, if_pos rfl]
theorem text_ne (c : Cmd) (h : check c = 0) : text c ≠ [] := by
  unfold text line ws
  rw [if_pos h, Lib.join_cons]
  intro e
  have := (List.append_eq_nil_iff.1 e).1
  rcases Vs.kinds c.kind with k | k | k | k | k | k | k | k | hk
  rotate_right
  · have := (check_ok h).1
    simp [known] at this; omega
  all_goals
    rw [k] at this
    exact absurd this (by decide)
theorem parse_empty : parse ⟨#[]⟩ = (zero, 3) := by
  unfold parse
  rw [if_neg]
  rintro ⟨_, h⟩
  exact h rfl
/-- What is parsed may be, and has that text. -/
theorem parse_ok (s : ByteArray) (h : (parse s).2 = 0) : check (parse s).1 = 0 ∧ text (parse s).1 = s.data.toList := by
  unfold parse at h ⊢
  by_cases h1 : Qt.lineOk s = true ∧ Qt.words s ≠ []
  · rw [if_pos h1] at h ⊢
    by_cases h2 : text (parseWords (Qt.words s)) = s.data.toList
    · rw [if_pos h2]
      refine ⟨?_, h2⟩
      by_cases hc : check (parseWords (Qt.words s)) = 0
      · exact hc
      · exfalso
        have h3 : text (parseWords (Qt.words s)) = [] := by unfold text; rw [if_neg hc]
        rw [h3] at h2
        apply h1.2
        unfold Qt.words
        rw [if_pos (show s.size = 0 by have := congrArg List.length h2; exact this.symm)]
    · rw [if_neg h2] at h; cases h
  · rw [if_neg h1] at h; cases h
theorem parse_none (s : ByteArray) (h : (parse s).2 ≠ 0) : parse s = (zero, 3) := by
  unfold parse at h ⊢
  by_cases h1 : Qt.lineOk s = true ∧ Qt.words s ≠ []
  · rw [if_pos h1] at h ⊢
    by_cases h2 : text (parseWords (Qt.words s)) = s.data.toList
    · rw [if_pos h2] at h; exact absurd rfl h
    · rw [if_neg h2]
  · rw [if_neg h1]

theorem words_small (s : ByteArray) : ∀ x ∈ Qt.words s, x.length ≤ s.size := by
  intro x hx
  have h2 : Qt.words s = Qt.split s.data.toList := by
    unfold Qt.words at hx ⊢
    split at hx
    · cases hx
    · rename_i h0; rw [if_neg h0]
  rw [h2] at hx
  have := Qt.mem_join [32] _ _ hx
  rw [Qt.split_join] at this
  exact this
theorem heardOf_inv (m : Nat) : ∀ (l : List (F × List UInt8)) (a : Cmd), a.Fits → a.Short m → (∀ p ∈ l, 4 * p.2.length ≤ m) → (heardOf a l).Fits ∧ (heardOf a l).Short m := by
  intro l
  induction l with
  | nil => intro a h1 h2 _; exact ⟨h1, h2⟩
  | cons p l ih =>
    intro a h1 h2 h
    exact ih (hear a p.1 p.2) (hear_fits h1 _ _) (hear_short h2 _ _ (h p (by simp))) fun q hq => h q (by simp [hq])
theorem parse_inv (s : ByteArray) : (parse s).1.Fits ∧ (parse s).1.Short (4 * s.size) := by
  have hz : zero.Fits ∧ zero.Short (4 * s.size) := ⟨by constructor <;> simp [zero, bareOf], by simp [zero, bareOf], by simp [zero, bareOf], by simp [zero, bareOf]⟩
  unfold parse
  split
  · split
    · unfold parseWords
      refine heardOf_inv _ _ _ (bareOf_fits _) ⟨by simp [bareOf], by simp [bareOf], by simp [bareOf]⟩ fun p hp => ?_
      have h1 := (List.of_mem_zip hp).2
      have := words_small s _ (List.mem_of_mem_tail h1)
      omega
    · exact hz
  · exact hz
end Cm
end Go.Proofs.YtammfmmpldahhaaGreat


namespace Go.Proofs.YtammfmmpldahhaaGreat
open Go.RowKit

end Go.Proofs.YtammfmmpldahhaaGreat


namespace Go.Proofs.YtammfmmpldahhaaGreat
open Go.RowKit

theorem iface_of {H : Type} {enc : TypeId × Value → H} {P : Program} {w : World} {base : Nat} {sp : Nat → Bool} {held : Bool} {fuel : Nat} {t : TypeId} {ms : Array (String × TypeId)} {cs : List Value} {nm : String} {d : DataW H} {p : List MemPlace}
    (ht : P.underlying t = some (.interface ms)) (h : DataW.trod enc P w base sp held fuel t cs = some (.iface nm d, p)) : ∃ u v, cs = [.iface u v] := by
  cases fuel with
  | zero => simp [DataW.trod] at h
  | succ n =>
    unfold DataW.trod at h
    rw [ht] at h
    match cs, h with
    | [.iface u v], _ => exact ⟨u, v, rfl⟩
    | [.nilIface], h => simp at h
    | [], h => simp at h
    | [.bool _], h => simp at h
    | [.int _ _], h => simp at h
    | [.float _ _], h => simp at h
    | [.complex _ _ _], h => simp at h
    | [.string _], h => simp at h
    | [.pointer _], h => simp at h
    | [.slice _ _ _], h => simp at h
    | [.map _], h => simp at h
    | [.chan _], h => simp at h
    | [.func _ _ _], h => simp at h
    | [.nilFunc], h => simp at h
    | [.agg _], h => simp at h
    | [.tuple _], h => simp at h
    | _ :: _ :: _, h => simp at h

set_option maxRecDepth 20000 in
theorem err_of {W : World} {n nm : String} {d : DataW Unit} {g : Nat} {t : TypeId} {ms : Array (String × TypeId)} (hgn : Tryz.prog.globalNamed n = some g) (hty : (Tryz.prog.globals[g]?).map (·.type) = some t) (hu : Tryz.prog.underlying t = some (.interface ms))
    (h : Lib.VarReads Tryz.prog W n (.iface nm d)) : ∃ tp p, W.var? Tryz.prog n = some #[.iface tp p] := by
  obtain ⟨g', t', cs, fuel, p, hg, ht, hvar, hd⟩ := h
  obtain rfl := Option.some.inj (hgn.symm.trans hg)
  obtain rfl := Option.some.inj (hty.symm.trans ht)
  obtain ⟨u, v, e⟩ := iface_of hu hd
  exact ⟨u, v, by rw [hvar]; congr 1; exact Array.toList_inj.1 e⟩

end Go.Proofs.YtammfmmpldahhaaGreat


namespace Go.Proofs.YtammfmmpldahhaaGreat
open Go.RowKit

theorem cells_of_strs {H : Type} {enc : TypeId × Value → H} {P : Program} {w : World} {base : Nat} {sp : Nat → Bool} {held : Bool} {fuel : Nat} {t e : TypeId} {n : Nat} {cs : List Value} {ls : List (List UInt8)} {p : List MemPlace}
    (ht : P.underlying t = some (.array n e)) (he : P.underlying e = some .string) (hce : P.cellsOf e = 1) (hct : P.cellsOf t = n)
    (h : DataW.trod enc P w base sp held fuel t cs = some (.agg (ls.map fun l => .lit (.string l)), p)) : cs = ls.map fun l => Value.string ⟨l.toArray⟩ := by
  obtain ⟨xs, m, _, hx, hl, hn, hel⟩ := DataW.trod_array ht h
  have hxs : (ls.map fun l => (DataW.lit (.string l) : DataW H)) = xs.map (·.1) := by
    have := congrArg Prod.fst hx
    simpa using this
  have hll : ls.length = n := by
    have := congrArg List.length hxs
    simp at this
    omega
  apply List.ext_getElem?
  intro i
  by_cases hi : i < n
  · have h1 := hel i hi
    rw [hce, Nat.mul_one, List.getElem?_eq_getElem (by omega)] at h1
    obtain ⟨s, e1, e2, _⟩ := DataW.trod_string he h1
    have h2 : cs[i]? = some (.string s) := by
      have := congrArg (·[0]?) e1
      simpa [List.getElem?_take, List.getElem?_drop] using this
    have h3 : (xs.map (·.1))[i]? = some (DataW.lit (.string s.data.toList) : DataW H) := by
      rw [List.getElem?_map, List.getElem?_eq_getElem (by omega), e2]; rfl
    rw [← hxs] at h3
    simp only [List.getElem?_map, Option.map_eq_some_iff, DataW.lit.injEq, Lit.string.injEq] at h3
    obtain ⟨l, hl1, rfl⟩ := h3
    rw [h2, List.getElem?_map, hl1]
    rfl
  · rw [List.getElem?_eq_none (by omega), List.getElem?_eq_none (by simp; omega)]

end Go.Proofs.YtammfmmpldahhaaGreat


namespace Go.Proofs.YtammfmmpldahhaaGreat
open Go.RowKit

/-- The law's own command. -/
def Cm.first : Cm.Cmd := ⟨2, 1, 2, 0, [107], [], [118]⟩
theorem Cm.first_fits : Cm.first.Fits := by constructor <;> simp [Cm.first]
theorem Cm.first_short (m : Nat) (h : 1 ≤ m) : Cm.first.Short m := ⟨by simpa [Cm.first] using h, by simp [Cm.first], by simpa [Cm.first] using h⟩
theorem Cm.first_check : Cm.check Cm.first = 0 := by
  decide +kernel
theorem Cm.first_in : Cm.checkIn 2 Cm.first = 0 := by
  unfold Cm.checkIn
  rw [Cm.first_check]
  rfl
theorem Cm.first_bytes : (Cm.bytes 2 Cm.first).length = 7 := by
  decide +kernel
theorem Cm.first_text : Cm.text Cm.first = [112, 117, 116, 32, 49, 32, 50, 32, 34, 107, 34, 32, 34, 118, 34] := by
  decide +kernel

end Go.Proofs.YtammfmmpldahhaaGreat


namespace Go.Proofs.YtammfmmpldahhaaGreat
open Go.RowKit

/-- A command not too large. -/
theorem Cm.short_of {c : Cm.Cmd} (h : (decide (300 < c.key.length) || (decide (300 < c.old.length) || decide (300 < c.val.length))) = false) : c.Short 300 := by
  simp only [Bool.or_eq_false_iff, decide_eq_false_iff_not] at h
  exact ⟨by omega, by omega, by omega⟩

end Go.Proofs.YtammfmmpldahhaaGreat
