/- Answers, as plain values: their encodings, how they are read, its text, how it is heard. No program is spoken of. -/
import Derived.Test.YtammfmmpldahhaaGreatAnsOne
import Derived.Test.YtammfmmpldahhaaGreatGCm
namespace Go.Proofs.YtammfmmpldahhaaGreat

namespace An

/-! Its encodings. -/
def tail (v : Int) (a : Ans) : List UInt8 := if v = 2 then enc a.rev.toNat else []
def bytes (v : Int) (a : Ans) : List UInt8 := enc a.client.toNat ++ enc a.seq.toNat ++ enc a.err.toNat ++ Pk.flag a.found ++ Pk.text a.val ++ tail v a

theorem bytes_len (v : Int) (a : Ans) (hf : a.Fits) {m : Nat} (hs : a.val.length ≤ m) (hm : m ≤ 9223372036854775807) : (bytes v a).length ≤ m + 50 := by
  have h1 := enc_nine (n := a.client.toNat) (by have := hf.c1; omega)
  have h2 := enc_nine (n := a.seq.toNat) (by have := hf.q1; omega)
  have h3 := enc_nine (n := a.err.toNat) (by have := hf.e1; omega)
  have h4 := enc_nine (n := a.val.length) (by omega)
  have h5 : (tail v a).length ≤ 9 := by
    unfold tail
    split
    · exact enc_nine (by have := hf.r1; omega)
    · simp
  simp only [bytes, Pk.flag, Pk.text, List.length_append, List.length_cons, List.length_nil]
  omega

/-! How they are read. -/
def rflg (b : List UInt8) (p : Nat) (er : Int) : Bool × Int × Int := if er = 0 then Pk.flg b p else (false, (p : Int), er)
def getC (b : List UInt8) (t : Ans × Nat × Int) : Ans × Nat × Int := ({ t.1 with client := (Cm.rnum b t.2.1 t.2.2).1 }, (Cm.rnum b t.2.1 t.2.2).2.1.toNat, (Cm.rnum b t.2.1 t.2.2).2.2)
def getS (b : List UInt8) (t : Ans × Nat × Int) : Ans × Nat × Int := ({ t.1 with seq := (Cm.rnum b t.2.1 t.2.2).1 }, (Cm.rnum b t.2.1 t.2.2).2.1.toNat, (Cm.rnum b t.2.1 t.2.2).2.2)
def getE (b : List UInt8) (t : Ans × Nat × Int) : Ans × Nat × Int := ({ t.1 with err := (Cm.rnum b t.2.1 t.2.2).1 }, (Cm.rnum b t.2.1 t.2.2).2.1.toNat, (Cm.rnum b t.2.1 t.2.2).2.2)
def getF (b : List UInt8) (t : Ans × Nat × Int) : Ans × Nat × Int := ({ t.1 with found := (rflg b t.2.1 t.2.2).1 }, (rflg b t.2.1 t.2.2).2.1.toNat, (rflg b t.2.1 t.2.2).2.2)
def getV (b : List UInt8) (t : Ans × Nat × Int) : Ans × Nat × Int := ({ t.1 with val := (Cm.rtxt b t.2.1 t.2.2).1 }, (Cm.rtxt b t.2.1 t.2.2).2.1.toNat, (Cm.rtxt b t.2.1 t.2.2).2.2)
def getR (b : List UInt8) (t : Ans × Nat × Int) : Ans × Nat × Int := ({ t.1 with rev := (Cm.rnum b t.2.1 t.2.2).1 }, (Cm.rnum b t.2.1 t.2.2).2.1.toNat, (Cm.rnum b t.2.1 t.2.2).2.2)
def get5 (b : List UInt8) (p : Nat) (er : Int) : Ans × Nat × Int := getV b (getF b (getE b (getS b (getC b (zero, p, er)))))
def get (v : Int) (b : List UInt8) (p : Nat) (er : Int) : Ans × Nat × Int := if v = 2 then getR b (get5 b p er) else get5 b p er
/-- What a decoding gives: the answer, the error. -/
def decode (v : Int) (b : List UInt8) : Ans × Int :=
  if Vs.may v = false then (zero, 8)
  else if Cm.done b (get v b 0 0).2.1 (get v b 0 0).2.2 ≠ 0 then (zero, Cm.done b (get v b 0 0).2.1 (get v b 0 0).2.2)
  else if check (get v b 0 0).1 ≠ 0 then (zero, check (get v b 0 0).1) else ((get v b 0 0).1, 0)

theorem rflg_cases (b : List UInt8) (p : Nat) (er : Int) (hp : p ≤ b.length) :
    (∃ (e : Int) (q : Nat), e ≠ 0 ∧ q ≤ b.length ∧ rflg b p er = (false, (q : Int), e)) ∨
    (∃ (x : Bool) (q : Nat), er = 0 ∧ p < q ∧ q ≤ b.length ∧ rflg b p er = (x, (q : Int), 0) ∧ b.take q = b.take p ++ Pk.flag x) := by
  unfold rflg
  by_cases he : er = 0
  · rw [if_pos he]
    by_cases hq : p < b.length
    · have hc : b[p]? = some b[p] := List.getElem?_eq_getElem hq
      have hf := Pk.flg_at hc
      by_cases h1 : 1 < b[p].toNat
      · left
        rw [if_pos h1] at hf
        exact ⟨3, p + 1, by omega, by omega, hf⟩
      · right
        rw [if_neg h1] at hf
        refine ⟨_, p + 1, he, by omega, by omega, hf, ?_⟩
        rw [List.take_add_one, hc]
        congr 1
        unfold Pk.flag
        have h2 : b[p].toNat = 0 ∨ b[p].toNat = 1 := by omega
        rcases h2 with h2 | h2
        · rw [h2]
          have : b[p] = 0 := UInt8.toNat_inj.1 h2
          simp [this]
        · rw [h2]
          have : b[p] = 1 := UInt8.toNat_inj.1 h2
          simp [this]
    · left
      obtain rfl : p = b.length := by omega
      exact ⟨1, b.length, by omega, by omega, Pk.flg_end b⟩
  · rw [if_neg he]; left; exact ⟨er, p, he, hp, rfl⟩
theorem rflg_res (b : List UInt8) (p : Nat) (er : Int) (hp : p ≤ b.length) : ∃ (x : Bool) (q : Nat) (e : Int), rflg b p er = (x, (q : Int), e) ∧ (e ≠ 0 → x = false) ∧ q ≤ b.length := by
  rcases rflg_cases b p er hp with ⟨e, q, he, hq, hn⟩ | ⟨x, q, _, _, hq, hn, _⟩
  · exact ⟨_, _, _, hn, fun _ => rfl, hq⟩
  · exact ⟨_, _, _, hn, fun h => absurd rfl h, hq⟩
theorem rnum_res' (b : List UInt8) (p : Nat) (er : Int) (hp : p ≤ b.length) : ∃ (n : Int) (q : Nat) (e : Int), Cm.rnum b p er = (n, (q : Int), e) ∧ (e ≠ 0 → n = 0) ∧ 0 ≤ n ∧ n ≤ 9223372036854775807 ∧ q ≤ b.length ∧ (e = 0 → er = 0 ∧ b.take q = b.take p ++ enc n.toNat) := by
  rcases Cm.rnum_cases b p er with ⟨e, he, hn⟩ | ⟨n, q, h0, _, hq, hb, hn, ht⟩
  · exact ⟨_, _, _, hn, fun _ => rfl, by omega, by omega, hp, fun h => absurd h he⟩
  · exact ⟨_, _, _, hn, fun h => absurd rfl h, by omega, by omega, hq, fun _ => ⟨h0, by rw [Int.toNat_natCast]; exact ht⟩⟩
theorem rtxt_res' (b : List UInt8) (p : Nat) (er : Int) (hp : p ≤ b.length) : ∃ (x : List UInt8) (q : Nat) (e : Int), Cm.rtxt b p er = (x, (q : Int), e) ∧ (e ≠ 0 → x = []) ∧ x.length ≤ b.length ∧ q ≤ b.length ∧ (e = 0 → er = 0 ∧ b.take q = b.take p ++ Pk.text x) := by
  rcases Cm.rtxt_cases b p er hp with ⟨e, q, he, hq, hn⟩ | ⟨s, q, h0, _, hq, hl, hn, ht⟩
  · exact ⟨_, _, _, hn, fun _ => rfl, by simp, hq, fun h => absurd h he⟩
  · exact ⟨_, _, _, hn, fun h => absurd rfl h, hl, hq, fun _ => ⟨h0, ht⟩⟩
theorem rflg_res' (b : List UInt8) (p : Nat) (er : Int) (hp : p ≤ b.length) : ∃ (x : Bool) (q : Nat) (e : Int), rflg b p er = (x, (q : Int), e) ∧ (e ≠ 0 → x = false) ∧ q ≤ b.length ∧ (e = 0 → er = 0 ∧ b.take q = b.take p ++ Pk.flag x) := by
  rcases rflg_cases b p er hp with ⟨e, q, he, hq, hn⟩ | ⟨x, q, h0, _, hq, hn, ht⟩
  · exact ⟨_, _, _, hn, fun _ => rfl, hq, fun h => absurd h he⟩
  · exact ⟨_, _, _, hn, fun h => absurd rfl h, hq, fun _ => ⟨h0, ht⟩⟩

/-- Where the readings are known, so is what is got. -/
theorem get5_eq {b : List UInt8} {p p1 p2 p3 p4 p5 : Nat} {er e1 e2 e3 e4 e5 n1 n2 n3 : Int} {f : Bool} {s : List UInt8} (h1 : Cm.rnum b p er = (n1, (p1 : Int), e1)) (h2 : Cm.rnum b p1 e1 = (n2, (p2 : Int), e2)) (h3 : Cm.rnum b p2 e2 = (n3, (p3 : Int), e3))
    (h4 : rflg b p3 e3 = (f, (p4 : Int), e4)) (h5 : Cm.rtxt b p4 e4 = (s, (p5 : Int), e5)) : get5 b p er = (⟨n1, n2, n3, f, s, 0⟩, p5, e5) := by
  simp only [get5, getC, getS, getE, getF, getV, h1, h2, h3, h4, h5, Int.toNat_natCast, zero]
theorem get_one {v : Int} {b : List UInt8} {p p5 : Nat} {er e5 : Int} {a : Ans} (hv : v ≠ 2) (h5 : get5 b p er = (a, p5, e5)) : get v b p er = (a, p5, e5) := by unfold get; rw [if_neg hv]; exact h5
theorem get_two {b : List UInt8} {p p5 p6 : Nat} {er e5 e6 n6 : Int} {a : Ans} (h5 : get5 b p er = (a, p5, e5)) (h6 : Cm.rnum b p5 e5 = (n6, (p6 : Int), e6)) : get 2 b p er = ({ a with rev := n6 }, p6, e6) := by
  unfold get
  rw [if_pos rfl, h5]
  simp only [getR, h6, Int.toNat_natCast]

theorem get5_all (b : List UInt8) (p : Nat) (er : Int) (hp : p ≤ b.length) : ∃ (a : Ans) (q : Nat) (e : Int), get5 b p er = (a, q, e) ∧ q ≤ b.length ∧ a.Fits ∧ a.val.length ≤ b.length ∧ a.rev = 0 ∧
    (e = 0 → er = 0 ∧ b.take q = b.take p ++ (enc a.client.toNat ++ enc a.seq.toNat ++ enc a.err.toNat ++ Pk.flag a.found ++ Pk.text a.val)) := by
  obtain ⟨n1, p1, e1, h1, _, a1, b1, q1, t1⟩ := rnum_res' b p er hp
  obtain ⟨n2, p2, e2, h2, _, a2, b2, q2, t2⟩ := rnum_res' b p1 e1 q1
  obtain ⟨n3, p3, e3, h3, _, a3, b3, q3, t3⟩ := rnum_res' b p2 e2 q2
  obtain ⟨f, p4, e4, h4, _, q4, t4⟩ := rflg_res' b p3 e3 q3
  obtain ⟨s, p5, e5, h5, _, l5, q5, t5⟩ := rtxt_res' b p4 e4 q4
  refine ⟨_, _, _, get5_eq h1 h2 h3 h4 h5, q5, ?_, l5, rfl, fun h => ?_⟩
  · constructor <;> simp only <;> omega
  · obtain ⟨k4, u5⟩ := t5 h
    obtain ⟨k3, u4⟩ := t4 k4
    obtain ⟨k2, u3⟩ := t3 k3
    obtain ⟨k1, u2⟩ := t2 k2
    obtain ⟨k0, u1⟩ := t1 k1
    refine ⟨k0, ?_⟩
    rw [u5, u4, u3, u2, u1]
    simp only [List.append_assoc]
theorem get_all (v : Int) (b : List UInt8) (p : Nat) (er : Int) (hp : p ≤ b.length) : ∃ (a : Ans) (q : Nat) (e : Int), get v b p er = (a, q, e) ∧ q ≤ b.length ∧ a.Fits ∧ a.val.length ≤ b.length ∧ (v ≠ 2 → a.rev = 0) ∧
    (e = 0 → er = 0 ∧ b.take q = b.take p ++ bytes v a) := by
  obtain ⟨a, q, e, hg, hq, hf, hl, hr, ht⟩ := get5_all b p er hp
  by_cases hv : v = 2
  · subst hv
    obtain ⟨n6, p6, e6, h6, _, a6, b6, q6, t6⟩ := rnum_res' b q e hq
    refine ⟨_, _, _, get_two hg h6, q6, ?_, hl, fun h => absurd rfl h, fun h => ?_⟩
    · constructor <;> simp only
      · exact hf.c0
      · exact hf.c1
      · exact hf.q0
      · exact hf.q1
      · exact hf.e0
      · exact hf.e1
      · omega
      · omega
    · obtain ⟨k5, u6⟩ := t6 h
      obtain ⟨k0, u5⟩ := ht k5
      refine ⟨k0, ?_⟩
      rw [u6, u5]
      simp only [bytes, tail, if_pos, List.append_assoc]
  · refine ⟨_, _, _, get_one hv hg, hq, hf, hl, fun _ => hr, fun h => ?_⟩
    obtain ⟨k0, u5⟩ := ht h
    refine ⟨k0, ?_⟩
    rw [u5]
    simp only [bytes, tail, if_neg hv, List.append_nil]

theorem get_inv (v : Int) (b : List UInt8) : (get v b 0 0).2.1 ≤ b.length ∧ (get v b 0 0).1.Fits ∧ (get v b 0 0).1.val.length ≤ b.length := by
  obtain ⟨a, q, e, hg, hq, hf, hl, _, _⟩ := get_all v b 0 0 (by omega)
  rw [hg]
  exact ⟨hq, hf, hl⟩

/-- What is decoded may be, and has these bytes. -/
theorem decode_ok (v : Int) (b : List UInt8) (h : (decode v b).2 = 0) : (v = 1 ∨ v = 2) ∧ check (decode v b).1 = 0 ∧ bytes v (decode v b).1 = b ∧ (decode v b).1.Fits ∧ (decode v b).1.val.length ≤ b.length ∧ (v ≠ 2 → (decode v b).1.rev = 0) := by
  unfold decode at h ⊢
  by_cases h1 : Vs.may v = false
  · rw [if_pos h1] at h; cases h
  · rw [if_neg h1] at h ⊢
    obtain ⟨a, q, e, hg, hq, hf, hl, hr, ht⟩ := get_all v b 0 0 (by omega)
    rw [hg] at h ⊢
    dsimp only at h ⊢
    by_cases h2 : Cm.done b q e = 0
    · rw [if_neg (by simpa using h2)] at h ⊢
      by_cases h3 : check a = 0
      · rw [if_neg (by simpa using h3)]
        have he : e = 0 := by
          unfold Cm.done at h2
          by_cases he : e = 0
          · exact he
          · rw [if_pos he] at h2; exact h2
        have hqe : q = b.length := by
          unfold Cm.done at h2
          rw [if_neg (by simpa using he)] at h2
          by_cases hlt : q < b.length
          · rw [if_pos hlt] at h2; omega
          · omega
        obtain ⟨_, u⟩ := ht he
        rw [hqe, List.take_length, List.take_zero, List.nil_append] at u
        exact ⟨(Vs.may_or v).elim (fun x => x.2) (fun x => absurd x.1 h1), h3, u.symm, hf, hl, hr⟩
      · rw [if_pos h3] at h; exact absurd h h3
    · rw [if_pos h2] at h; exact absurd h h2
theorem decode_none (v : Int) (b : List UInt8) (h : (decode v b).2 ≠ 0) : (decode v b).1 = zero := by
  unfold decode at h ⊢
  by_cases h1 : Vs.may v = false
  · rw [if_pos h1]
  · rw [if_neg h1] at h ⊢
    by_cases h2 : Cm.done b (get v b 0 0).2.1 (get v b 0 0).2.2 ≠ 0
    · rw [if_pos h2]
    · rw [if_neg h2] at h ⊢
      by_cases h3 : check (get v b 0 0).1 ≠ 0
      · rw [if_pos h3]
      · rw [if_neg h3] at h; exact absurd rfl h

/-! What was put is got. -/
theorem rnum_enc (pre post : List UInt8) {N : Nat} (hN : N ≤ 9223372036854775807) : Cm.rnum (pre ++ (enc N ++ post)) pre.length 0 = ((N : Int), ((pre.length + (enc N).length : Nat) : Int), 0) := by
  unfold Cm.rnum
  rw [if_pos rfl]
  exact Pk.num_enc pre post hN (by unfold Cm.big; omega)
theorem rtxt_text (pre post : List UInt8) {s : List UInt8} (hN : s.length ≤ 9223372036854775807) : Cm.rtxt (pre ++ (Pk.text s ++ post)) pre.length 0 = (s, ((pre.length + (Pk.text s).length : Nat) : Int), 0) := by
  unfold Cm.rtxt
  rw [if_pos rfl]
  exact Pk.txt_text pre post hN (by unfold Cm.big; omega)
theorem rflg_flag (pre post : List UInt8) (x : Bool) : rflg (pre ++ (Pk.flag x ++ post)) pre.length 0 = (x, ((pre.length + (Pk.flag x).length : Nat) : Int), 0) := by
  unfold rflg
  rw [if_pos rfl]
  exact Pk.flg_flag pre post x
theorem get_back (v : Int) (a : Ans) (hf : a.Fits) (hs : a.val.length ≤ 9223372036854775807) (h0 : 0 ≤ a.client ∧ 0 ≤ a.seq ∧ 0 ≤ a.err ∧ 0 ≤ a.rev) (hr : v ≠ 2 → a.rev = 0) : get v (bytes v a) 0 0 = (a, (bytes v a).length, 0) := by
  obtain ⟨c0, c1, q0, q1, e0, e1, r0, r1⟩ := hf
  have n1 : ((a.client.toNat : Nat) : Int) = a.client := by omega
  have n2 : ((a.seq.toNat : Nat) : Int) = a.seq := by omega
  have n3 : ((a.err.toNat : Nat) : Int) = a.err := by omega
  have n6 : ((a.rev.toNat : Nat) : Int) = a.rev := by omega
  have h1 := rnum_enc [] (enc a.seq.toNat ++ enc a.err.toNat ++ Pk.flag a.found ++ Pk.text a.val ++ tail v a) (N := a.client.toNat) (by omega)
  have h2 := rnum_enc (enc a.client.toNat) (enc a.err.toNat ++ Pk.flag a.found ++ Pk.text a.val ++ tail v a) (N := a.seq.toNat) (by omega)
  have h3 := rnum_enc (enc a.client.toNat ++ enc a.seq.toNat) (Pk.flag a.found ++ Pk.text a.val ++ tail v a) (N := a.err.toNat) (by omega)
  have h4 := rflg_flag (enc a.client.toNat ++ enc a.seq.toNat ++ enc a.err.toNat) (Pk.text a.val ++ tail v a) a.found
  have h5 := rtxt_text (enc a.client.toNat ++ enc a.seq.toNat ++ enc a.err.toNat ++ Pk.flag a.found) (tail v a) (s := a.val) hs
  simp only [List.nil_append, List.length_nil, Nat.zero_add, n1, ← List.append_assoc] at h1
  simp only [n2, ← List.append_assoc] at h2
  simp only [n3, ← List.append_assoc] at h3
  simp only [← List.append_assoc] at h4 h5
  rw [List.length_append] at h3
  rw [List.length_append, List.length_append] at h4
  rw [List.length_append, List.length_append, List.length_append] at h5
  have h := get5_eq (b := bytes v a) (p := 0) (er := 0) h1 h2 h3 h4 h5
  by_cases hv : v = 2
  · subst hv
    have h6 := rnum_enc (enc a.client.toNat ++ enc a.seq.toNat ++ enc a.err.toNat ++ Pk.flag a.found ++ Pk.text a.val) [] (N := a.rev.toNat) (by omega)
    rw [List.append_nil, n6] at h6
    rw [List.length_append, List.length_append, List.length_append, List.length_append] at h6
    have hb : bytes 2 a = enc a.client.toNat ++ enc a.seq.toNat ++ enc a.err.toNat ++ Pk.flag a.found ++ Pk.text a.val ++ enc a.rev.toNat := by unfold bytes tail; rw [if_pos rfl]
    rw [← hb] at h6
    rw [get_two h h6, hb]
    simp only [List.length_append]
  · rw [get_one hv h]
    have hz := hr hv
    have hb : bytes v a = enc a.client.toNat ++ enc a.seq.toNat ++ enc a.err.toNat ++ Pk.flag a.found ++ Pk.text a.val := by unfold bytes tail; rw [if_neg hv, List.append_nil]
    rw [hb]
    simp only [List.length_append]
    obtain ⟨_, _, _, _, _, _⟩ := a
    dsimp only at hz
    rw [hz]
theorem decode_bytes (v : Int) (a : Ans) (h : checkIn v a = 0) (hs : a.val.length ≤ 9223372036854775807) : decode v (bytes v a) = (a, 0) ∧ get v (bytes v a) 0 0 = (a, (bytes v a).length, 0) := by
  obtain ⟨hm, hc, hr⟩ := checkIn_ok h
  have hn := check_num hc
  have hg := get_back v a (check_fits hc) hs ⟨by omega, by omega, by omega, by omega⟩ hr
  refine ⟨?_, hg⟩
  unfold decode
  rw [if_neg (by rw [hm]; simp), hg]
  dsimp only
  rw [if_neg (by rw [Cm.done_end]; simp), if_neg (by simpa using hc)]

/-! Its text. -/
def yes (b : Bool) : List UInt8 := if b then [121, 101, 115] else [110, 111]
def ws (a : Ans) : List (List UInt8) := [Lib.itoa a.client, Lib.itoa a.seq, Lib.itoa a.err, Lib.itoa a.rev, yes a.found, Qt.quote ⟨a.val.toArray⟩]
def line (a : Ans) : List UInt8 := Lib.join (ws a) [32]
def text (a : Ans) : List UInt8 := if check a = 0 then line a else []
def hear (l : List (List UInt8)) : Ans := ⟨Cm.heardN (l.getD 0 []), Cm.heardN (l.getD 1 []), Cm.heardN (l.getD 2 []), decide (l.getD 4 [] = [121, 101, 115]), Cm.heardS (l.getD 5 []), Cm.heardN (l.getD 3 [])⟩
/-- What Parse gives: the answer, the error. -/
def parse (s : ByteArray) : Ans × Int :=
  if Qt.lineOk s = true ∧ (Qt.words s).length = 6 then (if text (hear (Qt.words s)) = s.data.toList then (hear (Qt.words s), 0) else (zero, 3)) else (zero, 3)

theorem yes_len (b : Bool) : (yes b).length ≤ 3 := by cases b <;> simp [yes]
theorem line_flat (a : Ans) : line a = Lib.itoa a.client ++ [32] ++ Lib.itoa a.seq ++ [32] ++ Lib.itoa a.err ++ [32] ++ Lib.itoa a.rev ++ [32] ++ yes a.found ++ [32] ++ Qt.quote ⟨a.val.toArray⟩ := by
  unfold line ws
  rw [Lib.join_cons]
  simp [Lib.joinTail]
theorem line_len (a : Ans) (hf : a.Fits) {m : Nat} (hs : a.val.length ≤ m) : (line a).length ≤ 4 * m + 200 := by
  have h1 := Cm.itoa_len a.client hf.c0 hf.c1
  have h2 := Cm.itoa_len a.seq hf.q0 hf.q1
  have h3 := Cm.itoa_len a.err hf.e0 hf.e1
  have h4 := Cm.itoa_len a.rev hf.r0 hf.r1
  have h5 := Qt.quote_len ⟨a.val.toArray⟩
  have h6 := yes_len a.found
  rw [str_size] at h5
  rw [line_flat]
  simp only [List.length_append, List.length_cons, List.length_nil]
  omega
theorem hear_ws (a : Ans) (h : check a = 0) : hear (ws a) = a := by
  have hn := check_num h
  obtain ⟨c, q, e, f, s, r⟩ := a
  dsimp only at hn
  unfold hear ws
  dsimp only
  simp only [List.getD_cons_zero, List.getD_cons_succ]
  rw [Cm.heardN_itoa _ (by omega) (by omega), Cm.heardN_itoa _ (by omega) (by omega), Cm.heardN_itoa _ (by omega) (by omega), Cm.heardN_itoa _ (by omega) (by omega), Cm.heardS_quote]
  cases f <;> simp [yes]
theorem hear_fits (l : List (List UInt8)) : (hear l).Fits := by
  constructor <;> first | exact (Cm.heardN_fits _).1 | exact (Cm.heardN_fits _).2

theorem num_word (n : Int) (h0 : 0 ≤ n) : Qt.word ⟨(Lib.itoa n).toArray⟩ = true := by
  obtain ⟨u, hu⟩ := Int.eq_ofNat_of_zero_le h0
  have e : Lib.itoa n = Lib.decDigits u := by unfold Lib.itoa; rw [if_neg (by omega), hu, Int.toNat_natCast]
  rw [e]
  have hb := Cm.dec_bytes u
  unfold Qt.word
  cases hl : Lib.decDigits u with
  | nil => exact absurd hl (Cm.dec_ne u)
  | cons a r =>
    rw [hl] at hb
    have ha := hb a (by simp)
    rw [if_neg (by rw [str_size]; simp), if_neg (show ¬ Rn.byteAt ⟨(a :: r).toArray⟩ 0 = 34 from by show ¬ a.toNat = 34; omega)]
    unfold Qt.bare
    rw [List.all_eq_true]
    intro z hz
    have := hb z hz
    simp; omega
theorem quote_word (s : List UInt8) : Qt.word ⟨(Qt.quote ⟨s.toArray⟩).toArray⟩ = true := by
  unfold Qt.word
  rw [if_neg (by rw [str_size]; unfold Qt.quote; simp), if_pos (show Rn.byteAt ⟨(Qt.quote ⟨s.toArray⟩).toArray⟩ 0 = 34 from rfl), Qt.unq_quote ⟨s.toArray⟩ _ rfl]
  rfl
theorem yes_word (b : Bool) : Qt.word ⟨(yes b).toArray⟩ = true := by cases b <;> decide +kernel
theorem word_words (a : Ans) (h : check a = 0) : ∀ x ∈ Cm.bl (ws a), Qt.word x = true := by
  have hn := check_num h
  intro x hx
  unfold Cm.bl ws at hx
  simp only [List.map_cons, List.map_nil, List.mem_cons, List.not_mem_nil, or_false] at hx
  rcases hx with rfl | rfl | rfl | rfl | rfl | rfl
  · exact num_word _ (by omega)
  · exact num_word _ (by omega)
  · exact num_word _ (by omega)
  · exact num_word _ (by omega)
  · exact yes_word _
  · exact quote_word _

/-- An answer's text is parsed as it. -/
theorem parse_text (a : Ans) (h : check a = 0) : parse ⟨(text a).toArray⟩ = (a, 0) := by
  have ht : text a = line a := by unfold text; rw [if_pos h]
  have hj : (ByteArray.mk (text a).toArray) = ⟨(Lib.join ((Cm.bl (ws a)).map (·.data.toList)) [32]).toArray⟩ := by rw [ht, Cm.bl_back]; rfl
  have hok := Qt.lineOk_join (Cm.bl (ws a)) (word_words a h)
  have hw := Qt.words_join (Cm.bl (ws a)) (word_words a h)
  rw [← hj] at hok hw
  rw [Cm.bl_back] at hw
  unfold parse
  rw [if_pos ⟨hok, by rw [hw]; rfl⟩, hw, hear_ws a h, if_pos rfl]
theorem text_ne (a : Ans) (h : check a = 0) : text a ≠ [] := by
  unfold text
  rw [if_pos h, line_flat]
  simp
theorem parse_empty : parse ⟨#[]⟩ = (zero, 3) := by
  unfold parse
  rw [if_neg]
  rintro ⟨_, h⟩
  exact absurd h (by decide)
theorem parse_ok (s : ByteArray) (h : (parse s).2 = 0) : check (parse s).1 = 0 ∧ text (parse s).1 = s.data.toList := by
  unfold parse at h ⊢
  by_cases h1 : Qt.lineOk s = true ∧ (Qt.words s).length = 6
  · rw [if_pos h1] at h ⊢
    by_cases h2 : text (hear (Qt.words s)) = s.data.toList
    · rw [if_pos h2]
      refine ⟨?_, h2⟩
      by_cases hc : check (hear (Qt.words s)) = 0
      · exact hc
      · exfalso
        have h3 : text (hear (Qt.words s)) = [] := by unfold text; rw [if_neg hc]
        rw [h3] at h2
        have h4 := h1.2
        unfold Qt.words at h4
        rw [if_pos (show s.size = 0 by have := congrArg List.length h2; exact this.symm)] at h4
        cases h4
    · rw [if_neg h2] at h; cases h
  · rw [if_neg h1] at h; cases h
theorem parse_none (s : ByteArray) (h : (parse s).2 ≠ 0) : parse s = (zero, 3) := by
  unfold parse at h ⊢
  by_cases h1 : Qt.lineOk s = true ∧ (Qt.words s).length = 6
  · rw [if_pos h1] at h ⊢
    by_cases h2 : text (hear (Qt.words s)) = s.data.toList
    · rw [if_pos h2] at h; exact absurd rfl h
    · rw [if_neg h2]
  · rw [if_neg h1]
theorem getD_small (s : ByteArray) (i : Nat) : ((Qt.words s).getD i []).length ≤ s.size := by
  rw [List.getD_eq_getElem?_getD]
  cases h : (Qt.words s)[i]? with
  | none => simp
  | some x => exact Cm.words_small s x (List.mem_of_getElem? h)
theorem hear_len (s : ByteArray) : (hear (Qt.words s)).val.length ≤ 4 * s.size := by
  have := getD_small s 5
  have := Cm.heardS_len ((Qt.words s).getD 5 [])
  show (Cm.heardS ((Qt.words s).getD 5 [])).length ≤ _
  omega
theorem parse_inv (s : ByteArray) : (parse s).1.Fits ∧ (parse s).1.val.length ≤ 4 * s.size := by
  have hz : zero.Fits ∧ zero.val.length ≤ 4 * s.size := ⟨zero_fits, by simp [zero]⟩
  unfold parse
  split
  · split
    · exact ⟨hear_fits _, hear_len s⟩
    · exact hz
  · exact hz

end An
end Go.Proofs.YtammfmmpldahhaaGreat
