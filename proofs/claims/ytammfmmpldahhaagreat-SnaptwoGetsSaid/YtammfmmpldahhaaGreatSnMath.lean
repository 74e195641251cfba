/- Snapshots, plain: a state's bytes in either schema, how lists of elements are read, and that they come back. No program is spoken of. -/
import Derived.Test.YtammfmmpldahhaaGreatAnsMath
import Derived.Test.YtammfmmpldahhaaGreatGCm
import Derived.Test.YtammfmmpldahhaaGreatGSt
namespace Go.Proofs.YtammfmmpldahhaaGreat

/-! Elements in the midst of bytes: how each is put (e), how it is read (g). -/
namespace Lc
variable {α : Type}
abbrev Get (α : Type) := List UInt8 → Nat → Int → α × Nat × Int
/-- Elements of which P speaks come back; what was read without an error are these bytes. -/
structure Codes (P : α → Prop) (g : Get α) (e : α → List UInt8) : Prop where
  back : ∀ a, P a → ∀ pre post, g (pre ++ (e a ++ post)) pre.length 0 = (a, (pre ++ e a).length, 0)
  le : ∀ b p er, p ≤ b.length → (g b p er).2.1 ≤ b.length
  ok : ∀ b p er, (g b p er).2.2 = 0 → p ≤ b.length → er = 0 ∧ b.take (g b p er).2.1 = b.take p ++ e (g b p er).1
  pos : ∀ a, 0 < (e a).length

def gets (g : Get α) (b : List UInt8) (p : Nat) (er : Int) : Nat → List α × Nat × Int
  | 0 => ([], p, er)
  | k + 1 => ((gets g b p er k).1 ++ [(g b (gets g b p er k).2.1 (gets g b p er k).2.2).1], (g b (gets g b p er k).2.1 (gets g b p er k).2.2).2)
def count (b : List UInt8) (p : Nat) (er most : Int) : Int × Int × Int := if er = 0 then Pk.cnt b p most else (0, (p : Int), er)
/-- A list, its length ahead of it. -/
def get (g : Get α) (most : Int) (b : List UInt8) (p : Nat) (er : Int) : List α × Nat × Int := gets g b (count b p er most).2.1.toNat (count b p er most).2.2 (count b p er most).1.toNat
def bytes (e : α → List UInt8) (l : List α) : List UInt8 := enc l.length ++ l.flatMap e

theorem gets_len (g : Get α) (b : List UInt8) (p : Nat) (er : Int) : ∀ k, (gets g b p er k).1.length = k
  | 0 => rfl
  | k + 1 => by unfold gets; simp [gets_len g b p er k]
section
variable {P : α → Prop} {g : Get α} {e : α → List UInt8} (h : Codes P g e)
include h
theorem flat_ge (l : List α) : l.length ≤ (l.flatMap e).length := by
  induction l with
  | nil => simp
  | cons a r ih => have := h.pos a; rw [List.flatMap_cons, List.length_append, List.length_cons]; omega
theorem gets_le (b : List UInt8) (p : Nat) (er : Int) (hp : p ≤ b.length) : ∀ k, (gets g b p er k).2.1 ≤ b.length
  | 0 => hp
  | k + 1 => h.le b _ _ (gets_le b p er hp k)
theorem gets_ok (b : List UInt8) (p : Nat) (er : Int) (hp : p ≤ b.length) : ∀ k, (gets g b p er k).2.2 = 0 → er = 0 ∧ b.take (gets g b p er k).2.1 = b.take p ++ (gets g b p er k).1.flatMap e
  | 0, h0 => ⟨h0, by simp [gets]⟩
  | k + 1, h0 => by
    have hk := gets_le h b p er hp k
    obtain ⟨h1, h2⟩ := h.ok b _ _ h0 hk
    obtain ⟨h3, h4⟩ := gets_ok b p er hp k h1
    refine ⟨h3, ?_⟩
    show b.take (g b _ _).2.1 = _
    rw [h2, h4, show (gets g b p er (k + 1)).1 = (gets g b p er k).1 ++ [(g b (gets g b p er k).2.1 (gets g b p er k).2.2).1] from rfl]
    simp [List.flatMap_append]
theorem gets_at (l : List α) (hl : ∀ a ∈ l, P a) (b pre post : List UInt8) (hb : b = pre ++ (l.flatMap e ++ post)) : ∀ k, k ≤ l.length → gets g b pre.length 0 k = (l.take k, (pre ++ (l.take k).flatMap e).length, 0)
  | 0, _ => by simp [gets]
  | k + 1, hk => by
    have ih := gets_at l hl b pre post hb k (by omega)
    obtain ⟨a, ha⟩ : ∃ a, l[k]? = some a := ⟨_, List.getElem?_eq_getElem (by omega)⟩
    have ht : l.take (k + 1) = l.take k ++ [a] := by rw [List.take_add_one, ha]; rfl
    have hsp : l.flatMap e = (l.take k).flatMap e ++ (e a ++ (l.drop (k + 1)).flatMap e) := by
      conv => lhs; rw [← List.take_append_drop (k + 1) l, ht]
      simp [List.flatMap_append]
    have h1 := h.back a (hl a (List.mem_of_getElem? ha)) (pre ++ (l.take k).flatMap e) ((l.drop (k + 1)).flatMap e ++ post)
    have e1 : b = pre ++ (l.take k).flatMap e ++ (e a ++ ((l.drop (k + 1)).flatMap e ++ post)) := by rw [hb, hsp]; simp
    rw [← e1] at h1
    unfold gets
    rw [ih]
    dsimp only
    rw [h1, ht]
    simp [List.flatMap_append]
end
theorem count_at (pre post : List UInt8) {n : Nat} {most : Int} (h : (n : Int) ≤ most) (hm : n ≤ 9223372036854775807) (hr : n ≤ post.length) : count (pre ++ (enc n ++ post)) pre.length 0 most = ((n : Int), (((pre ++ enc n).length : Nat) : Int), 0) := by
  have hn := Pk.num_enc pre post (N := n) (most := most) hm h
  unfold count Pk.cnt
  rw [if_pos rfl, hn, if_neg (by simp; omega), List.length_append]
theorem count_cases (b : List UInt8) (p : Nat) (er most : Int) (hp : p ≤ b.length) :
    (∃ (e : Int) (q : Nat), e ≠ 0 ∧ q ≤ b.length ∧ count b p er most = (0, (q : Int), e)) ∨ (∃ n q : Nat, er = 0 ∧ q ≤ b.length ∧ (n : Int) ≤ most ∧ count b p er most = ((n : Int), (q : Int), 0) ∧ b.take q = b.take p ++ enc n) := by
  unfold count
  by_cases he : er = 0
  · rw [if_pos he]
    rcases Pk.cnt_cases b p most with ⟨e, h, _, hg⟩ | ⟨n, q, _, hq, _, _, hg⟩ | ⟨n, q, hn, hq, hg⟩
    · left; exact ⟨e, p, h, hp, hg⟩
    · left; exact ⟨1, q, by omega, hq, hg⟩
    · right
      rcases Pk.num_cases b p most with ⟨e, h, _, hg2⟩ | ⟨n2, q2, _, _, _, _, _, hg2⟩ | ⟨n2, q2, hgp, _, hq2, hn2, hmo, hg2⟩
      · rw [hg2] at hn; simp at hn; omega
      · rw [hg2] at hn; simp at hn
      · rw [hg2] at hn
        simp at hn
        obtain ⟨rfl, rfl⟩ : n2 = n ∧ q2 = q := by omega
        refine ⟨n2, q2, he, hq2, hmo, hg, ?_⟩
        have h3 := Cm.rnum_ok b p 0
        unfold Cm.rnum Pk.num at h3
        rw [if_pos rfl, hgp, if_neg (by simp), if_neg (by unfold Cm.big; simp; omega)] at h3
        simpa using (h3 rfl).2.2.2.2
  · rw [if_neg he]; left; exact ⟨er, p, he, hp, rfl⟩
section
variable {P : α → Prop} {g : Get α} {e : α → List UInt8} (h : Codes P g e)
include h
/-- A list comes back from its bytes, wherever they lie. -/
theorem get_at {most : Int} (l : List α) (hl : ∀ a ∈ l, P a) (hn : (l.length : Int) ≤ most) (hm : l.length ≤ 9223372036854775807) (pre post : List UInt8) : get g most (pre ++ (bytes e l ++ post)) pre.length 0 = (l, (pre ++ bytes e l).length, 0) := by
  have hc := count_at pre (l.flatMap e ++ post) (n := l.length) hn hm (by have := flat_ge h l; rw [List.length_append]; omega)
  have e1 : pre ++ (bytes e l ++ post) = pre ++ (enc l.length ++ (l.flatMap e ++ post)) := by simp [bytes]
  have hg := gets_at h l hl (pre ++ (enc l.length ++ (l.flatMap e ++ post))) (pre ++ enc l.length) post (by simp) l.length (Nat.le_refl _)
  rw [List.take_length] at hg
  unfold get
  rw [e1, hc]
  simp only [Int.toNat_natCast]
  rw [hg]
  simp [bytes]
theorem get_le {most : Int} (b : List UInt8) (p : Nat) (er : Int) (hp : p ≤ b.length) : (get g most b p er).2.1 ≤ b.length := by
  unfold get
  rcases count_cases b p er most hp with ⟨e, q, _, hq, hc⟩ | ⟨n, q, _, hq, _, hc, _⟩
  · rw [hc]; exact gets_le h b _ _ (by simpa using hq) _
  · rw [hc]; exact gets_le h b _ _ (by simpa using hq) _
/-- What was read without an error are these bytes. -/
theorem get_ok {most : Int} (b : List UInt8) (p : Nat) (er : Int) (h0 : (get g most b p er).2.2 = 0) (hp : p ≤ b.length) :
    er = 0 ∧ ((get g most b p er).1.length : Int) ≤ most ∧ b.take (get g most b p er).2.1 = b.take p ++ bytes e (get g most b p er).1 := by
  unfold get at h0 ⊢
  rcases count_cases b p er most hp with ⟨er', q, he, hq, hc⟩ | ⟨n, q, hz, hq, hn, hc, ht⟩
  · rw [hc] at h0
    exact absurd (gets_ok h b _ _ (by simpa using hq) _ h0).1 he
  · rw [hc] at h0 ⊢
    simp only [Int.toNat_natCast] at h0 ⊢
    obtain ⟨_, h2⟩ := gets_ok h b q 0 hq n h0
    have hl := gets_len g b q 0 n
    refine ⟨hz, by omega, ?_⟩
    rw [h2, ht, bytes, hl, List.append_assoc]
end
end Lc

namespace An
/-- An answer is read where it lies. -/
theorem rflg_at (pre post : List UInt8) (x : Bool) : rflg (pre ++ (Pk.flag x ++ post)) pre.length 0 = (x, (((pre ++ Pk.flag x).length : Nat) : Int), 0) := by
  rw [rflg_flag, List.length_append]
theorem rtxt_at (pre post : List UInt8) {s : List UInt8} (h : s.length ≤ 9223372036854775807) : Cm.rtxt (pre ++ (Pk.text s ++ post)) pre.length 0 = (s, (((pre ++ Pk.text s).length : Nat) : Int), 0) := by
  rw [rtxt_text pre post h, List.length_append]
theorem get_at (v : Int) (a : Ans) (hf : a.Fits) (hs : a.val.length ≤ 9223372036854775807) (h0 : 0 ≤ a.client ∧ 0 ≤ a.seq ∧ 0 ≤ a.err ∧ 0 ≤ a.rev) (hr : v ≠ 2 → a.rev = 0) (pre post : List UInt8) :
    get v (pre ++ (bytes v a ++ post)) pre.length 0 = (a, (pre ++ bytes v a).length, 0) := by
  obtain ⟨c0, c1, q0, q1, e0, e1, r0, r1⟩ := hf
  have n1 : ((a.client.toNat : Nat) : Int) = a.client := by omega
  have n2 : ((a.seq.toNat : Nat) : Int) = a.seq := by omega
  have n3 : ((a.err.toNat : Nat) : Int) = a.err := by omega
  have n6 : ((a.rev.toNat : Nat) : Int) = a.rev := by omega
  have h1 := Cm.rnum_at pre (enc a.seq.toNat ++ enc a.err.toNat ++ Pk.flag a.found ++ Pk.text a.val ++ tail v a ++ post) (n := a.client.toNat) (by omega)
  have h2 := Cm.rnum_at (pre ++ enc a.client.toNat) (enc a.err.toNat ++ Pk.flag a.found ++ Pk.text a.val ++ tail v a ++ post) (n := a.seq.toNat) (by omega)
  have h3 := Cm.rnum_at (pre ++ enc a.client.toNat ++ enc a.seq.toNat) (Pk.flag a.found ++ Pk.text a.val ++ tail v a ++ post) (n := a.err.toNat) (by omega)
  have h4 := rflg_at (pre ++ enc a.client.toNat ++ enc a.seq.toNat ++ enc a.err.toNat) (Pk.text a.val ++ tail v a ++ post) a.found
  have h5 := rtxt_at (pre ++ enc a.client.toNat ++ enc a.seq.toNat ++ enc a.err.toNat ++ Pk.flag a.found) (tail v a ++ post) (s := a.val) hs
  have hb : pre ++ (bytes v a ++ post) = pre ++ enc a.client.toNat ++ enc a.seq.toNat ++ enc a.err.toNat ++ Pk.flag a.found ++ Pk.text a.val ++ tail v a ++ post := by unfold bytes; simp only [List.append_assoc]
  simp only [n1, ← List.append_assoc] at h1
  simp only [n2, ← List.append_assoc] at h2
  simp only [n3, ← List.append_assoc] at h3
  simp only [← List.append_assoc] at h4 h5
  rw [← hb] at h1 h2 h3 h4 h5
  have h := get5_eq (b := pre ++ (bytes v a ++ post)) (p := pre.length) (er := 0) h1 h2 h3 h4 h5
  by_cases hv : v = 2
  · subst hv
    have h6 := Cm.rnum_at (pre ++ enc a.client.toNat ++ enc a.seq.toNat ++ enc a.err.toNat ++ Pk.flag a.found ++ Pk.text a.val) post (n := a.rev.toNat) (by omega)
    have hb2 : bytes 2 a = enc a.client.toNat ++ enc a.seq.toNat ++ enc a.err.toNat ++ Pk.flag a.found ++ Pk.text a.val ++ enc a.rev.toNat := by unfold bytes tail; rw [if_pos rfl]
    have hb3 : pre ++ (bytes 2 a ++ post) = pre ++ enc a.client.toNat ++ enc a.seq.toNat ++ enc a.err.toNat ++ Pk.flag a.found ++ Pk.text a.val ++ (enc a.rev.toNat ++ post) := by rw [hb2]; simp only [List.append_assoc]
    rw [← hb3, n6] at h6
    rw [get_two h h6, hb2]
    simp only [List.append_assoc]
  · rw [get_one hv h]
    have hz := hr hv
    have hb2 : bytes v a = enc a.client.toNat ++ enc a.seq.toNat ++ enc a.err.toNat ++ Pk.flag a.found ++ Pk.text a.val := by unfold bytes tail; rw [if_neg hv, List.append_nil]
    rw [hb2]
    obtain ⟨_, _, _, _, _, _⟩ := a
    dsimp only at hz
    rw [hz]
    simp only [List.append_assoc]
theorem get_le (v : Int) (b : List UInt8) (p : Nat) (er : Int) (hp : p ≤ b.length) : (get v b p er).2.1 ≤ b.length := by
  obtain ⟨a, q, e, hg, hq, _⟩ := get_all v b p er hp
  rw [hg]
  exact hq
theorem get_ok (v : Int) (b : List UInt8) (p : Nat) (er : Int) (h : (get v b p er).2.2 = 0) (hp : p ≤ b.length) : er = 0 ∧ b.take (get v b p er).2.1 = b.take p ++ bytes v (get v b p er).1 := by
  obtain ⟨a, q, e, hg, _, _, _, _, ht⟩ := get_all v b p er hp
  rw [hg] at h ⊢
  exact ht h
end An

namespace Sn
/-! A state's bytes. -/
def pmid (v : Int) (p : Kv.Item) : List UInt8 := if v = 2 then enc p.rev.toNat else []
def pbytes (v : Int) (p : Kv.Item) : List UInt8 := Pk.text p.key ++ (pmid v p ++ Pk.text p.val)
def sbytes (v : Int) (s : Se.Ses) : List UInt8 := An.bytes v s.last
def body (v : Int) (l : List Kv.Item) (m : List Se.Ses) : List UInt8 := Lc.bytes (pbytes v) l ++ Lc.bytes (sbytes v) m
def bytes (s : Mg.St) : List UInt8 := enc s.schema.toNat ++ body s.schema s.pairs s.sess
/-! How they are read. -/
/-- A text, a number, each with its limit. -/
def rtx (most : Int) (b : List UInt8) (p : Nat) (er : Int) : List UInt8 × Int × Int := if er = 0 then Pk.txt b p most else ([], (p : Int), er)
def rnm (most : Int) (b : List UInt8) (p : Nat) (er : Int) : Int × Int × Int := if er = 0 then Pk.num b p most else (0, (p : Int), er)
def getK (most : Int) (b : List UInt8) (p : Nat) (er : Int) : List UInt8 × Nat × Int := ((rtx most b p er).1, (rtx most b p er).2.1.toNat, (rtx most b p er).2.2)
def getN (v most : Int) (b : List UInt8) (p : Nat) (er : Int) : Int × Nat × Int := if v = 2 then ((rnm most b p er).1, (rnm most b p er).2.1.toNat, (rnm most b p er).2.2) else (0, p, er)
/-- The limits of a pair's fields. -/
structure Lim where
  k : Int
  v : Int
  r : Int
def getP (v : Int) (m : Lim) (b : List UInt8) (p : Nat) (er : Int) : Kv.Item × Nat × Int :=
  let k := getK m.k b p er
  let n := getN v m.r b k.2.1 k.2.2
  let x := getK m.v b n.2.1 n.2.2
  (⟨k.1, x.1, n.1⟩, x.2)
def getS (v : Int) (b : List UInt8) (p : Nat) (er : Int) : Se.Ses × Nat × Int := (Se.of (An.get v b p er).1, (An.get v b p er).2)

theorem rtx_res (most : Int) (b : List UInt8) (p : Nat) (er : Int) (hp : p ≤ b.length) : ∃ (x : List UInt8) (q : Nat) (e : Int), rtx most b p er = (x, (q : Int), e) ∧ (e ≠ 0 → x = []) ∧ x.length ≤ b.length ∧ q ≤ b.length ∧ (e = 0 → er = 0 ∧ b.take q = b.take p ++ Pk.text x) := by
  unfold rtx
  by_cases he : er = 0
  · rw [if_pos he]
    rcases Pk.txt_cases b p most hp with ⟨e, q, h0, hq, _, hg⟩ | ⟨n, q, hc, hq, hg⟩
    · exact ⟨_, _, _, hg, fun _ => rfl, by simp, hq, fun h => absurd h h0⟩
    · have hl : ((b.drop q).take n).length = n := by simp; omega
      refine ⟨_, _, _, hg, fun h => absurd rfl h, by rw [hl]; omega, hq, fun _ => ⟨he, ?_⟩⟩
      rcases Lc.count_cases b p 0 most hp with ⟨e, q2, h0, _, h2⟩ | ⟨n2, q2, _, _, _, h2, ht⟩
      · unfold Lc.count at h2
        rw [if_pos rfl, hc] at h2
        simp at h2
        exact absurd h2.2.2.symm h0
      · unfold Lc.count at h2
        rw [if_pos rfl, hc] at h2
        simp at h2
        obtain ⟨rfl, rfl⟩ : n2 = n ∧ q2 = q := by omega
        rw [List.take_add, ht, Pk.text, hl, List.append_assoc]
  · rw [if_neg he]
    exact ⟨_, _, _, rfl, fun _ => rfl, by simp, hp, fun h => absurd h he⟩
theorem rnm_res (most : Int) (b : List UInt8) (p : Nat) (er : Int) (hp : p ≤ b.length) : ∃ (n : Int) (q : Nat) (e : Int), rnm most b p er = (n, (q : Int), e) ∧ (e ≠ 0 → n = 0) ∧ 0 ≤ n ∧ n ≤ 9223372036854775807 ∧ q ≤ b.length ∧ (e = 0 → er = 0 ∧ b.take q = b.take p ++ enc n.toNat) := by
  unfold rnm
  by_cases he : er = 0
  · rw [if_pos he]
    rcases Pk.num_cases b p most with ⟨e, h0, _, hg⟩ | ⟨n, q, _, _, _, _, _, hg⟩ | ⟨n, q, hgp, _, hq, hn, hmo, hg⟩
    · exact ⟨_, _, _, hg, fun _ => rfl, by omega, by omega, hp, fun h => absurd h h0⟩
    · exact ⟨_, _, _, hg, fun _ => rfl, by omega, by omega, hp, fun h => absurd h (by omega)⟩
    · refine ⟨_, _, _, hg, fun h => absurd rfl h, by omega, by omega, hq, fun _ => ⟨he, ?_⟩⟩
      have h3 := Cm.rnum_ok b p 0
      unfold Cm.rnum Pk.num at h3
      rw [if_pos rfl, hgp, if_neg (by simp), if_neg (by unfold Cm.big; simp; omega)] at h3
      simpa using (h3 rfl).2.2.2.2
  · rw [if_neg he]
    exact ⟨_, _, _, rfl, fun _ => rfl, by omega, by omega, hp, fun h => absurd h he⟩
theorem getK_le (most : Int) (b : List UInt8) (p : Nat) (er : Int) (hp : p ≤ b.length) : (getK most b p er).2.1 ≤ b.length := by
  obtain ⟨x, q, e, h, _, _, hq, _⟩ := rtx_res most b p er hp
  unfold getK
  rw [h]
  simpa using hq
theorem getK_ok (most : Int) (b : List UInt8) (p : Nat) (er : Int) (h0 : (getK most b p er).2.2 = 0) (hp : p ≤ b.length) : er = 0 ∧ b.take (getK most b p er).2.1 = b.take p ++ Pk.text (getK most b p er).1 := by
  obtain ⟨x, q, e, h, _, _, hq, ht⟩ := rtx_res most b p er hp
  unfold getK at h0 ⊢
  rw [h] at h0 ⊢
  simpa using ht h0
theorem getK_at (pre post : List UInt8) {s : List UInt8} {most : Int} (h : s.length ≤ 9223372036854775807) (hm : (s.length : Int) ≤ most) : getK most (pre ++ (Pk.text s ++ post)) pre.length 0 = (s, (pre ++ Pk.text s).length, 0) := by
  unfold getK rtx
  rw [if_pos rfl, Pk.txt_text pre post h hm]
  simp only [Int.toNat_natCast, List.length_append]
theorem getN_le (v most : Int) (b : List UInt8) (p : Nat) (er : Int) (hp : p ≤ b.length) : (getN v most b p er).2.1 ≤ b.length := by
  unfold getN
  split
  · obtain ⟨x, q, e, h, _, _, _, hq, _⟩ := rnm_res most b p er hp
    rw [h]
    simpa using hq
  · exact hp
theorem getN_ok (v most : Int) (b : List UInt8) (p : Nat) (er : Int) (h0 : (getN v most b p er).2.2 = 0) (hp : p ≤ b.length) : er = 0 ∧ b.take (getN v most b p er).2.1 = b.take p ++ (if v = 2 then enc (getN v most b p er).1.toNat else []) := by
  unfold getN at h0 ⊢
  by_cases hv : v = 2
  · simp only [if_pos hv] at h0 ⊢
    obtain ⟨x, q, e, h, _, _, _, hq, ht⟩ := rnm_res most b p er hp
    rw [h] at h0 ⊢
    simpa using ht h0
  · simp only [if_neg hv] at h0 ⊢
    exact ⟨h0, by simp⟩
theorem getN_at (v : Int) (pre post : List UInt8) {r most : Int} (h : 0 ≤ r ∧ r ≤ 9223372036854775807) (hm : r ≤ most) (h1 : v ≠ 2 → r = 0) : getN v most (pre ++ ((if v = 2 then enc r.toNat else []) ++ post)) pre.length 0 = (r, (pre ++ (if v = 2 then enc r.toNat else [])).length, 0) := by
  unfold getN
  by_cases hv : v = 2
  · simp only [if_pos hv]
    have hn := Pk.num_enc pre post (N := r.toNat) (most := most) (by omega) (by omega)
    unfold rnm
    rw [if_pos rfl, hn]
    simp only [Int.toNat_natCast, List.length_append]
    rw [Int.toNat_of_nonneg h.1]
  · simp only [if_neg hv]
    rw [h1 hv]
    simp

/-- Which pairs come back. -/
structure PairOk (v : Int) (m : Lim) (p : Kv.Item) : Prop where
  key : p.key.length ≤ 9223372036854775807 ∧ (p.key.length : Int) ≤ m.k
  val : p.val.length ≤ 9223372036854775807 ∧ (p.val.length : Int) ≤ m.v
  rev : (0 ≤ p.rev ∧ p.rev ≤ 9223372036854775807) ∧ p.rev ≤ m.r
  one : v ≠ 2 → p.rev = 0
theorem pair_codes (v : Int) (m : Lim) : Lc.Codes (PairOk v m) (getP v m) (pbytes v) where
  back p hp pre post := by
    have a1 := getK_at pre (pmid v p ++ (Pk.text p.val ++ post)) hp.key.1 hp.key.2
    have a2 := getN_at v (pre ++ Pk.text p.key) (Pk.text p.val ++ post) hp.rev.1 hp.rev.2 hp.one
    have a3 := getK_at (pre ++ Pk.text p.key ++ pmid v p) post hp.val.1 hp.val.2
    have e1 : pre ++ (pbytes v p ++ post) = pre ++ (Pk.text p.key ++ (pmid v p ++ (Pk.text p.val ++ post))) := by simp [pbytes]
    have e2 : pre ++ Pk.text p.key ++ ((if v = 2 then enc p.rev.toNat else []) ++ (Pk.text p.val ++ post)) = pre ++ (Pk.text p.key ++ (pmid v p ++ (Pk.text p.val ++ post))) := by simp [pmid]
    have e3 : pre ++ Pk.text p.key ++ pmid v p ++ (Pk.text p.val ++ post) = pre ++ (Pk.text p.key ++ (pmid v p ++ (Pk.text p.val ++ post))) := by simp
    rw [e2] at a2
    rw [e3] at a3
    rw [e1]
    unfold getP
    dsimp only
    rw [a1]
    dsimp only
    rw [a2]
    dsimp only
    rw [show (if v = 2 then enc p.rev.toNat else []) = pmid v p from rfl, a3]
    unfold pbytes
    simp
  le b p er hp := getK_le m.v b _ _ (getN_le v m.r b _ _ (getK_le m.k b p er hp))
  ok b p er h0 hp := by
    unfold getP at h0 ⊢
    dsimp only at h0 ⊢
    have l1 := getK_le m.k b p er hp
    have k1 := getK_ok m.k b p er
    obtain ⟨r, hr⟩ : ∃ r, r = getK m.k b p er := ⟨_, rfl⟩
    rw [← hr] at h0 l1 k1 ⊢
    have l2 := getN_le v m.r b r.2.1 r.2.2 l1
    have k2 := getN_ok v m.r b r.2.1 r.2.2
    obtain ⟨s, hs⟩ : ∃ s, s = getN v m.r b r.2.1 r.2.2 := ⟨_, rfl⟩
    rw [← hs] at h0 l2 k2 ⊢
    obtain ⟨z3, b3⟩ := getK_ok m.v b s.2.1 s.2.2 h0 l2
    obtain ⟨z2, b2⟩ := k2 z3 l1
    obtain ⟨z1, b1⟩ := k1 z2 hp
    refine ⟨z1, ?_⟩
    rw [b3, b2, b1]
    unfold pbytes pmid
    simp only [List.append_assoc]
  pos p := by
    unfold pbytes Pk.text
    have := enc_pos p.key.length
    simp only [List.length_append]
    omega

/-- Which sessions come back. -/
structure SesOk (v : Int) (s : Se.Ses) : Prop where
  of : s = Se.of s.last
  fits : s.last.Fits
  val : s.last.val.length ≤ 9223372036854775807
  num : 0 ≤ s.last.client ∧ 0 ≤ s.last.seq ∧ 0 ≤ s.last.err ∧ 0 ≤ s.last.rev
  one : v ≠ 2 → s.last.rev = 0
theorem ses_codes (v : Int) : Lc.Codes (SesOk v) (getS v) (sbytes v) where
  back s hs pre post := by
    unfold getS sbytes
    rw [An.get_at v s.last hs.fits hs.val hs.num hs.one pre post]
    dsimp only
    rw [← hs.of]
  le b p er hp := An.get_le v b p er hp
  ok b p er h0 hp := An.get_ok v b p er h0 hp
  pos s := by
    unfold sbytes An.bytes
    have := enc_pos s.last.client.toNat
    simp only [List.length_append]
    omega

/-! The whole. -/
def read (v : Int) (m : Lim) (b : List UInt8) (p : Nat) (er : Int) : (List Kv.Item × List Se.Ses) × Nat × Int :=
  let k := Lc.get (getP v m) 64 b p er
  let s := Lc.get (getS v) 8 b k.2.1 k.2.2
  ((k.1, s.1), s.2)
theorem read_at (v : Int) (i : Lim) (l : List Kv.Item) (m : List Se.Ses) (hl : ∀ p ∈ l, PairOk v i p) (hm : ∀ s ∈ m, SesOk v s) (h64 : l.length ≤ 64) (h8 : m.length ≤ 8) (pre post : List UInt8) : read v i (pre ++ (body v l m ++ post)) pre.length 0 = ((l, m), (pre ++ body v l m).length, 0) := by
  have a1 := Lc.get_at (pair_codes v i) (most := 64) l hl (by omega) (by omega) pre (Lc.bytes (sbytes v) m ++ post)
  have a2 := Lc.get_at (ses_codes v) (most := 8) m hm (by omega) (by omega) (pre ++ Lc.bytes (pbytes v) l) post
  have e1 : pre ++ (body v l m ++ post) = pre ++ (Lc.bytes (pbytes v) l ++ (Lc.bytes (sbytes v) m ++ post)) := by simp [body]
  have e2 : pre ++ Lc.bytes (pbytes v) l ++ (Lc.bytes (sbytes v) m ++ post) = pre ++ (Lc.bytes (pbytes v) l ++ (Lc.bytes (sbytes v) m ++ post)) := by simp
  rw [e2] at a2
  unfold read
  dsimp only
  rw [e1, a1]
  dsimp only
  rw [a2]
  simp [body]
theorem read_le (v : Int) (i : Lim) (b : List UInt8) (p : Nat) (er : Int) (hp : p ≤ b.length) : (read v i b p er).2.1 ≤ b.length :=
  Lc.get_le (ses_codes v) b _ _ (Lc.get_le (pair_codes v i) b p er hp)
theorem read_ok (v : Int) (i : Lim) (b : List UInt8) (p : Nat) (er : Int) (h0 : (read v i b p er).2.2 = 0) (hp : p ≤ b.length) :
    er = 0 ∧ (read v i b p er).1.1.length ≤ 64 ∧ (read v i b p er).1.2.length ≤ 8 ∧ b.take (read v i b p er).2.1 = b.take p ++ body v (read v i b p er).1.1 (read v i b p er).1.2 := by
  unfold read at h0 ⊢
  dsimp only at h0 ⊢
  have l1 := Lc.get_le (pair_codes v i) (most := 64) b p er hp
  obtain ⟨z2, n2, b2⟩ := Lc.get_ok (ses_codes v) b _ _ h0 l1
  obtain ⟨z1, n1, b1⟩ := Lc.get_ok (pair_codes v i) b p er z2 hp
  refine ⟨z1, by omega, by omega, ?_⟩
  rw [b2, b1]
  unfold body
  simp only [List.append_assoc]

/-! A state that may be. -/
theorem clients_few : ∀ (l : List Se.Ses) (b : Int), (∀ s ∈ l, b < s.client ∧ s.client ≤ 8) → Se.Asc l → (l.length : Int) ≤ max 0 (8 - b)
  | [], b, _, _ => by simp; omega
  | s :: r, b, h, ha => by
    have h1 := h s (by simp)
    have hp := List.pairwise_cons.1 ha
    have := clients_few r s.client (fun x hx => ⟨hp.1 x hx, (h x (List.mem_cons_of_mem _ hx)).2⟩) hp.2
    rw [List.length_cons]
    omega
theorem ok_of {s : Mg.St} {m : Lim} (hm : 4294967296 ≤ m.r) (h : Mg.check s = true) (hk : ∀ e ∈ s.pairs, (e.key.length ≤ 9223372036854775807 ∧ (e.key.length : Int) ≤ m.k) ∧ e.val.length ≤ 9223372036854775807 ∧ (e.val.length : Int) ≤ m.v) (hv : ∀ e ∈ s.sess, e.last.val.length ≤ 9223372036854775807) :
    (∀ p ∈ s.pairs, PairOk s.schema m p) ∧ (∀ x ∈ s.sess, SesOk s.schema x) ∧ s.pairs.length ≤ 64 ∧ s.sess.length ≤ 8 := by
  have hsch := Mg.schema_of h
  unfold Mg.check at h
  rw [Bool.and_eq_true] at h
  obtain ⟨hp, hs⟩ := h
  have hP : (∀ p ∈ s.pairs, PairOk s.schema m p) ∧ s.pairs.length ≤ 64 := by
    unfold Mg.pairsOk at hp
    rcases hsch with h1 | h2
    · rw [if_pos h1] at hp
      unfold Kv.refCheck at hp
      split at hp
      · rename_i ha
        rw [Bool.and_eq_true, decide_eq_true_eq] at hp
        refine ⟨fun p hp' => ?_, hp.1⟩
        have hval := List.all_eq_true.1 ha p hp'
        unfold Kv.valid at hval
        simp only [Bool.and_eq_true, beq_iff_eq] at hval
        exact ⟨(hk p hp').1, (hk p hp').2, by omega, fun _ => hval.2.2⟩
      · cases hp
    · rw [if_neg (by omega), if_pos h2] at hp
      unfold Kv.refCheck2 at hp
      split at hp
      · rename_i ha
        rw [Bool.and_eq_true, decide_eq_true_eq] at hp
        refine ⟨fun p hp' => ?_, hp.1⟩
        have hval := List.all_eq_true.1 ha p hp'
        unfold Kv.valid2 Kv.inRev at hval
        simp only [Bool.and_eq_true, decide_eq_true_eq] at hval
        exact ⟨(hk p hp').1, (hk p hp').2, by omega, fun hn => absurd h2 hn⟩
      · cases hp
  have hS : Se.refCheck s.sess = true ∧ (s.schema = 1 → s.sess.any Mg.tells = false) := by
    unfold Mg.sessOk at hs
    split at hs
    · cases hs
    · rename_i hn
      refine ⟨hs, fun h1 => ?_⟩
      cases hany : s.sess.any Mg.tells
      · rfl
      · exact absurd ⟨h1, hany⟩ hn
  obtain ⟨hS1, hS2⟩ := hS
  unfold Se.refCheck at hS1
  split at hS1
  · rename_i ha
    have hall : ∀ x ∈ s.sess, x.last.client = x.client ∧ x.last.seq = x.seq ∧ An.check x.last = 0 := fun x hx => by
      have := List.all_eq_true.1 ha x hx
      unfold Se.valid at this
      simpa only [Bool.and_eq_true, beq_iff_eq] using this
    refine ⟨hP.1, fun x hx => ?_, hP.2, ?_⟩
    · obtain ⟨e1, e2, e3⟩ := hall x hx
      have hn := An.check_num e3
      refine ⟨?_, An.check_fits e3, hv x hx, by omega, fun hne => ?_⟩
      · obtain ⟨c, q, a⟩ := x
        dsimp only at e1 e2
        unfold Se.of
        dsimp only
        rw [e1, e2]
      · have h1 : s.schema = 1 := by omega
        have := List.any_eq_false.1 (hS2 h1) x hx
        unfold Mg.tells at this
        simpa using this
    · have hasc : Se.Asc s.sess := of_decide_eq_true hS1
      have := clients_few s.sess 0 (fun x hx => by
        obtain ⟨e1, _, e3⟩ := hall x hx
        have := An.check_num e3
        omega) hasc
      omega
  · cases hS1
theorem first_ok {b : List UInt8} {n : Int} {q : Nat} (h : Pk.num b 0 2 = (n, (q : Int), 0)) : 0 ≤ n ∧ n ≤ 2 ∧ q ≤ b.length ∧ b.take q = enc n.toNat := by
  rcases Pk.num_cases b 0 2 with ⟨e, he, _, hg⟩ | ⟨n2, q2, _, _, _, _, _, hg⟩ | ⟨n2, q2, hgp, _, hq2, hn2, hmo, hg⟩
  · rw [show ((0 : Nat) : Int) = 0 from rfl] at hg; rw [hg] at h; simp at h; exact absurd h.2.2 he
  · rw [show ((0 : Nat) : Int) = 0 from rfl] at hg; rw [hg] at h; simp at h
  · rw [show ((0 : Nat) : Int) = 0 from rfl] at hg hgp
    rw [hg] at h
    simp at h
    obtain ⟨h1, h2⟩ := h
    have h2' : q2 = q := by omega
    subst h2'
    have h3 := Cm.rnum_ok b 0 0
    unfold Cm.rnum Pk.num at h3
    rw [if_pos rfl, show ((0 : Nat) : Int) = 0 from rfl, hgp, if_neg (by simp), if_neg (by unfold Cm.big; simp; omega)] at h3
    have h4 := (h3 rfl).2.2.2.2
    simp at h4
    refine ⟨by omega, by omega, hq2, ?_⟩
    rw [h4]
    congr 1
    omega
/-- What was read to the end without an error is these bytes. -/
theorem whole_ok {v : Int} {i : Lim} {b : List UInt8} {q : Nat} (hq : q ≤ b.length) (hv : b.take q = enc v.toNat) (h0 : (read v i b q 0).2.2 = 0) (hd : (read v i b q 0).2.1 = b.length) : bytes ⟨v, (read v i b q 0).1.1, (read v i b q 0).1.2⟩ = b := by
  obtain ⟨_, _, _, ht⟩ := read_ok v i b q 0 h0 hq
  rw [hd, List.take_length, hv] at ht
  unfold bytes
  exact ht.symm
/-- A state that may be is read out of its bytes. -/
theorem whole_at {s : Mg.St} {m : Lim} (hm : 4294967296 ≤ m.r) (h : Mg.check s = true) (hk : ∀ e ∈ s.pairs, (e.key.length ≤ 9223372036854775807 ∧ (e.key.length : Int) ≤ m.k) ∧ e.val.length ≤ 9223372036854775807 ∧ (e.val.length : Int) ≤ m.v) (hv : ∀ e ∈ s.sess, e.last.val.length ≤ 9223372036854775807) :
    Pk.num (bytes s) 0 2 = (s.schema, (((enc s.schema.toNat).length : Nat) : Int), 0) ∧ read s.schema m (bytes s) (enc s.schema.toNat).length 0 = ((s.pairs, s.sess), (bytes s).length, 0) := by
  obtain ⟨h1, h2, h3, h4⟩ := ok_of hm h hk hv
  have hs := Mg.schema_of h
  refine ⟨?_, ?_⟩
  · have := Pk.num_enc [] (body s.schema s.pairs s.sess) (N := s.schema.toNat) (most := 2) (by omega) (by omega)
    simp only [List.nil_append, List.length_nil, Nat.zero_add] at this
    unfold bytes
    rw [show ((0 : Nat) : Int) = 0 from rfl] at this
    rw [this, Int.toNat_of_nonneg (by omega)]
  · have := read_at s.schema m s.pairs s.sess h1 h2 h3 h4 (enc s.schema.toNat) []
    rw [List.append_nil] at this
    exact this
end Sn
end Go.Proofs.YtammfmmpldahhaaGreat
