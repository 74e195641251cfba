/- Several texts of mine in one: RtPlain SgMath. -/
import Derived.Test.YteboceekcmchkaaGreatDoorPRtMath
import Derived.Test.YteboceekcmchkaaGreatDoorPGMg
import Derived.Test.YteboceekcmchkaaGreatDoorPGBm
import Derived.Test.YteboceekcmchkaaGreatDoorGFr
namespace Go.Proofs.YteboceekcmchkaaGreatDoor
open Go.RowKit
theorem Re.decoded_small {s : List UInt8} (h : (Re.decode s).2 = 0) : (Re.decode s).1.Fits ∧ (Re.decode s).1.cmd.Short 1000 ∧ (Re.decode s).1.img.length ≤ 32768 ∧ Re.check (Re.decode s).1 = 0 := by
 obtain ⟨h1, h2, _⟩ := Re.decode_ok s h
 have hc := (Re.older_good h2).1
 have hg := Re.check_good hc
 rw [h1]
 refine ⟨(Re.got_inv s).1, ?_, Re.good_len hg, hc⟩
 by_cases hk : Re.hc (Re.got s).1.kind = true
 ·exact Short.up (Cm.check_short (hg.cmd hk)) (by omega)
 ·rw [Re.good_cmd hg (by simpa using hk)]
  exact ⟨by simp [Cm.zero, Cm.bareOf], by simp [Cm.zero, Cm.bareOf], by simp [Cm.zero, Cm.bareOf]⟩
theorem Rt.in_1 : (1 : Int) = 1 ∨ (1 : Int) = 2 := .inl rfl
theorem Rt.in_2 : (2 : Int) = 1 ∨ (2 : Int) = 2 := .inr rfl
theorem Rt.get_back {v : Int} (hv : v = 1 ∨ v = 2) {x : Re.Rec} (h : Re.olderIn v x = 0) (hf : x.Fits) {s : Nat} (hs : x.cmd.Short s) (hs2 : s ≤ 9223372036854775807) : Rt.get v (Rt.bytesIn v x) = (x, 0) := by
 rcases hv with rfl | rfl
 ·rw [show Re.olderIn 1 x = Re.older x from Re.olderIn_one x] at h
  exact Re.decode_back h hf hs hs2
 ·rw [Rt.older_two] at h
  exact Rt.decode_back h hf hs hs2
theorem Re.olderIn_check {v : Int} {x : Re.Rec} (h : Re.olderIn v x = 0) : Re.check x = 0 := by
 unfold Re.olderIn at h
 by_cases hc : Re.check x = 0
 ·exact hc
 ·rw [if_pos hc] at h; exact absurd h hc
theorem Rt.get_none {v : Int} (hv : v = 1 ∨ v = 2) {s : List UInt8} (h : (Rt.get v s).2 ≠ 0) : (Rt.get v s).1 = Re.zero := by
 rcases hv with rfl | rfl
 ·exact Re.decode_none s h
 ·exact Rt.decode_none s h
theorem Rt.get_ok {v : Int} (hv : v = 1 ∨ v = 2) {s : List UInt8} (h : (Rt.get v s).2 = 0) :
 Re.olderIn v (Rt.get v s).1 = 0 ∧ Rt.bytesIn v (Rt.get v s).1 = s ∧ (Rt.get v s).1.Fits ∧ (Rt.get v s).1.cmd.Short 1000 ∧ (Rt.get v s).1.img.length ≤ 32768 := by
 rcases hv with rfl | rfl
 ·have h' : (Re.decode s).2 = 0 := h
  obtain ⟨h1, h2, h3⟩ := Re.decode_ok s h'
  obtain ⟨s1, s2, s3, _⟩ := Re.decoded_small h'
  refine ⟨?_, ?_, s1, s2, s3⟩
  ·rw [show Re.olderIn 1 _ = Re.older _ from Re.olderIn_one _]
   show Re.older (Re.decode s).1 = 0
   rw [h1]; exact h2
  ·show Re.bytes (Re.decode s).1 = s
   rw [h1]; exact h3
 ·have h' : (Rt.decode s).2 = 0 := h
  obtain ⟨h1, h2, h3⟩ := Rt.decode_ok s h'
  have hg := Re.check_good h2
  obtain ⟨s1, _, _⟩ := Rt.got_inv s
  have hM : (Rt.get 2 s).1 = Rt.gotR s := h1
  rw [hM]
  refine ⟨by rw [Rt.older_two]; exact h2, h3, s1, ?_, Re.good_len hg⟩
  by_cases hk : Re.hc (Rt.gotR s).kind = true
  ·exact Short.up (Cm.check_short (hg.cmd hk)) (by omega)
  ·rw [Re.good_cmd hg (by simpa using hk)]
   exact ⟨by simp [Cm.zero, Cm.bareOf], by simp [Cm.zero, Cm.bareOf], by simp [Cm.zero, Cm.bareOf]⟩
namespace Frm
theorem next_drop {l y : List UInt8} {a : Nat} {e : Int} (h : next l a = (y, e, 0)) : ∃ c : Nat, e = (c : Int) ∧ l.drop a = frame y ++ l.drop c ∧ a + (frame y).length = c ∧ c ≤ l.length ∧ 0 < y.length ∧ y.length ≤ 65536 := by
 obtain ⟨c0, hc0, _, hc2, h0, h1⟩ := next_ok h
 rcases next_cases l a with ⟨e', he', _, hn⟩ | ⟨p, n, c, hp, hpl, _, _, _, henc, hcase⟩
 ·rw [hn] at h
  simp only [Prod.mk.injEq] at h
  exact absurd h.2.2 he'
 ·obtain rfl : p = a := by omega
  rcases hcase with ⟨_, hn⟩ | ⟨_, hn⟩ | ⟨hn0, hn1, ⟨_, hn⟩ | ⟨hlen, ⟨htail, hn⟩ | ⟨_, hn⟩⟩⟩
  ·rw [hn] at h; simp at h
  ·rw [hn] at h; simp at h
  ·rw [hn] at h; simp at h
  ·rw [hn] at h
   simp only [Prod.mk.injEq, and_true] at h
   obtain ⟨rfl, rfl⟩ := h
   have hy : ((l.drop (p + c)).take n).length = n := by rw [List.length_take, List.length_drop]; omega
   have hf : frame ((l.drop (p + c)).take n) = (l.drop p).take (c + n + 4) := by
    have := frame_there hlen henc
    rw [decide_eq_true htail, beq_iff_eq] at this
    exact this
   refine ⟨p + c + n + 4, rfl, ?_, ?_, hlen, h0, h1⟩
   ·rw [hf, show p + c + n + 4 = p + (c + n + 4) by omega, ← List.drop_drop, List.take_append_drop]
   ·rw [hf, List.length_take, List.length_drop]; omega
  ·rw [hn] at h; simp at h
theorem next_take {l y : List UInt8} {a c m : Nat} (h : next l a = (y, (c : Int), 0)) (hm : c ≤ m) : next (l.take m) a = (y, (c : Int), 0) := by
 obtain ⟨c', e, h1, h2, h3, h4, h5⟩ := next_drop h
 obtain rfl : c = c' := by omega
 have hd : (l.take m).drop a = frame y ++ (l.take m).drop c := by
  rw [List.drop_take, h1, List.take_append, List.take_of_length_le (by omega), List.drop_take]
  congr 2
  omega
 have := next_frame hd (by rw [List.length_take]; omega) h4 h5
 rw [this, h2]
theorem next_end {l : List UInt8} {a : Nat} (h : l.length ≤ a) : (next l a).2.2 ≠ 0 := by
 intro h0
 obtain ⟨y, e, e0, hn⟩ : ∃ y e e0, next l a = (y, e, e0) := ⟨_, _, _, rfl⟩
 rw [hn] at h0
 obtain rfl : e0 = 0 := h0
 obtain ⟨c, _, h1, h2, _⟩ := next_ok hn
 omega
theorem flat_one (y : List UInt8) (fs : List (List UInt8)) : flat (y :: fs) = frame y ++ flat fs := by simp [flat]
theorem cut_is (n : Nat) (fs : List (List UInt8)) : ∃ want a, Cut n fs want a := by
 induction fs using Hd.snoc_ind with
 | h0 => exact ⟨[], 0, Cut.zero n⟩
 | h1 l x ih =>
  obtain ⟨want, a, hc⟩ := ih
  by_cases hx : (flat (l ++ [x])).length ≤ n
  ·by_cases hl : l = want
   ·subst hl; exact ⟨_, _, hc.in x hx⟩
   ·refine absurd hx ?_
    obtain ⟨t, ht, hr⟩ := hc.rest
    cases t with
    | nil => exact absurd (by simpa using ht) hl
    | cons y s =>
     have := hr y s rfl
     have ha := hc.at_
     rw [flat_snoc, ht, flat_app, flat_one]
     simp only [List.length_append]
     omega
  ·exact ⟨_, _, hc.out x (by omega)⟩
def ends (fs : List (List UInt8)) (i : Nat) : Nat := (flat (fs.take (i + 1))).length
theorem flat_take_le (fs : List (List UInt8)) {i j : Nat} (h : i ≤ j) : (flat (fs.take i)).length ≤ (flat (fs.take j)).length := by
 have e : fs.take j = fs.take i ++ (fs.drop i).take (j - i) := by
  rw [← List.take_add]; congr 1; omega
 rw [e, flat_app, List.length_append]
 omega
theorem Cut.want_take {n : Nat} {fs want : List (List UInt8)} {a : Nat} (h : Cut n fs want a) : want = fs.take want.length ∧ want.length ≤ fs.length := by
 obtain ⟨t, ht, _⟩ := h.rest
 rw [ht]
 simp
theorem Cut.iff {n : Nat} {fs want : List (List UInt8)} {a : Nat} (h : Cut n fs want a) {i : Nat} (hi : i < fs.length) : ends fs i ≤ n ↔ i < want.length := by
 obtain ⟨hw, hl⟩ := h.want_take
 have ha := h.at_
 have hle := h.le
 constructor
 ·intro he
  refine Decidable.byContradiction fun hx => ?_
  obtain ⟨t, ht, hr⟩ := h.rest
  cases t with
  | nil =>
   rw [List.append_nil] at ht
   subst ht
   omega
  | cons y s =>
   have h1 := hr y s rfl
   have h2 : (flat (fs.take (want.length + 1))).length ≤ ends fs i := flat_take_le fs (by omega)
   have h3 : fs.take (want.length + 1) = want ++ [y] := by rw [ht, List.take_append, List.take_of_length_le (by omega)]; simp
   rw [h3, flat_snoc, List.length_append] at h2
   omega
 ·intro hx
  have h2 : ends fs i ≤ (flat (fs.take want.length)).length := flat_take_le fs (by omega)
  rw [← hw] at h2
  omega
end Frm
namespace Sg
inductive Run (f : Int) (b : List UInt8) : Nat → List Re.Rec → Nat → Prop
 | nil (a : Nat) : Run f b a [] a
 | cons {a c e : Nat} {x : List UInt8} {r : Re.Rec} {t : List Re.Rec} : Frm.next b a = (x, (c : Int), 0) → Rt.get f x = (r, 0) → Run f b c t e → Run f b a (r :: t) e
def Stops (f : Int) (b : List UInt8) (a : Nat) : Prop := (Frm.next b a).2.2 ≠ 0 ∨ (Rt.get f (Frm.next b a).1).2 ≠ 0
theorem Run.snoc {f : Int} {b : List UInt8} {a e : Nat} {t : List Re.Rec} (h : Run f b a t e) : ∀ {x : List UInt8} {r : Re.Rec} {c : Nat}, Frm.next b e = (x, (c : Int), 0) → Rt.get f x = (r, 0) → Run f b a (t ++ [r]) c := by
 induction h with
 | nil a => intro x r c h1 h2; exact .cons h1 h2 (.nil c)
 | cons h1 h2 _ ih => intro x r c h3 h4; exact .cons h1 h2 (ih h3 h4)
theorem Run.bound {f : Int} {b : List UInt8} {a e : Nat} {t : List Re.Rec} (h : Run f b a t e) (ha : a ≤ b.length) : a + 6 * t.length ≤ e ∧ e ≤ b.length := by
 induction h with
 | nil a => simp; exact ha
 | cons h1 _ _ ih =>
  obtain ⟨c', hc, h3, h4, _⟩ := Frm.next_ok h1
  have : c' = _ := Int.ofNat.inj hc.symm
  subst this
  have := ih h4
  simp
  omega
theorem Run.one {f : Int} {b : List UInt8} {a e e' : Nat} {t t' : List Re.Rec} (h : Run f b a t e) (hs : Stops f b e) (h' : Run f b a t' e') (hs' : Stops f b e') : t = t' ∧ e = e' := by
 induction h generalizing t' with
 | nil a =>
  cases h' with
  | nil => exact ⟨rfl, rfl⟩
  | cons h1 h2 _ =>
   rcases hs with hs | hs
   ·rw [h1] at hs; exact absurd rfl hs
   ·rw [h1] at hs; exact absurd (by rw [h2]) hs
 | cons h1 h2 _ ih =>
  cases h' with
  | nil =>
   rcases hs' with hs | hs
   ·rw [h1] at hs; exact absurd rfl hs
   ·rw [h1] at hs; exact absurd (by rw [h2]) hs
  | cons h3 h4 h5 =>
   rw [h1] at h3
   simp only [Prod.mk.injEq, Int.natCast_inj, and_true] at h3
   obtain ⟨rfl, rfl⟩ := h3
   rw [h2] at h4
   simp only [Prod.mk.injEq, and_true] at h4
   subst h4
   obtain ⟨rfl, rfl⟩ := ih hs h5
   exact ⟨rfl, rfl⟩
theorem Run.cut {f : Int} {b : List UInt8} {a e m : Nat} {t : List Re.Rec} (h : Run f b a t e) (ha : a ≤ b.length) (hm : e ≤ m) : Run f (b.take m) a t e := by
 induction h with
 | nil a => exact .nil a
 | cons h1 h2 h3 ih =>
  obtain ⟨c', hc, _, h4, _⟩ := Frm.next_ok h1
  have : c' = _ := Int.ofNat.inj hc.symm
  subst this
  have := h3.bound h4
  exact .cons (Frm.next_take h1 (by omega)) h2 (ih h4 hm)
theorem Run.good {f : Int} (hf : f = 1 ∨ f = 2) {b : List UInt8} {a e : Nat} {t : List Re.Rec} (h : Run f b a t e) : ∀ r ∈ t, Re.olderIn f r = 0 ∧ r.Fits ∧ r.cmd.Short 1000 ∧ r.img.length ≤ 32768 := by
 induction h with
 | nil a => intro r hr; simp at hr
 | @cons a c e x r t h1 h2 _ ih =>
  intro q hq
  rcases List.mem_cons.1 hq with rfl | hq
  ·have h3 := Rt.get_ok hf (s := x) (by rw [h2])
   rw [h2] at h3
   exact ⟨h3.1, h3.2.2.1, h3.2.2.2.1, h3.2.2.2.2⟩
  ·exact ih q hq
theorem run_path {f : Int} (hf : f = 1 ∨ f = 2) {b : List UInt8} : ∀ (l : List Re.Rec) (a e : Nat), (∀ x ∈ l, Re.olderIn f x = 0 ∧ x.Fits ∧ x.cmd.Short 1000) → Frm.Path b a (l.map (Rt.bytesIn f)) e → Run f b a l e
 | [], a, e, _, h => by cases h; exact .nil a
 | x :: r, a, e, hl, h => by
  cases h with
  | cons h1 h2 =>
   obtain ⟨g1, g2, g3⟩ := hl x (by simp)
   exact .cons h1 (Rt.get_back hf g1 g2 g3 (by omega)) (run_path hf r _ _ (fun q hq => hl q (by simp [hq])) h2)
end Sg
def Sg.first (f : Int) (n : Nat) : List UInt8 := enc f.toNat ++ enc n
def Sg.bodies (f : Int) (h : Hd.Hard) (more : List Re.Rec) : List (List UInt8) := Sg.first f (Hd.recs h).length :: (Hd.recs h ++ more).map (Rt.bytesIn f)
def Sg.file (f : Int) (h : Hd.Hard) (more : List Re.Rec) : List UInt8 := Frm.flat (Sg.bodies f h more)
def Sg.Ok (f : Int) (x : Re.Rec) : Prop := Re.olderIn f x = 0 ∧ x.Fits ∧ x.cmd.Short 1000 ∧ x.img.length ≤ 100000 ∧ (Rt.bytesIn f x).length ≤ 110000
theorem Sg.flat_len {f : Int} (y : List UInt8) : ∀ l : List Re.Rec, (∀ x ∈ l, Sg.Ok f x) → (Frm.flat (y :: l.map (Rt.bytesIn f))).length ≤ (Frm.frame y).length + 120000 * l.length := by
 intro l
 induction l using Hd.snoc_ind with
 | h0 => intro _; simp [Frm.flat]
 | h1 l x ih =>
  intro h
  have h1 := ih fun c hc => h c (by simp [hc])
  have h2 := (h x (by simp)).2.2.2.2
  have h3 := Frm.frame_len (Rt.bytesIn f x)
  have h4 := enc_nine (n := (Rt.bytesIn f x).length) (by omega)
  have e : Frm.flat (y :: (l ++ [x]).map (Rt.bytesIn f)) = Frm.flat (y :: l.map (Rt.bytesIn f)) ++ Frm.frame (Rt.bytesIn f x) := by simp [Frm.flat]
  rw [e, List.length_append, List.length_append]
  simp
  omega
theorem Sg.cut {f : Int} (hf : f = 1 ∨ f = 2) (h : Hd.Hard) (more : List Re.Rec) (hok : ∀ x ∈ Hd.recs h ++ more, Sg.Ok f x) (hb : ∀ y ∈ Sg.bodies f h more, 0 < y.length ∧ y.length ≤ 65536) {n : Nat} (hn : n ≤ (Sg.file f h more).length) :
 ∃ k, k ≤ (Sg.bodies f h more).length ∧ (∀ i, i < (Sg.bodies f h more).length → (Frm.ends (Sg.bodies f h more) i ≤ n ↔ i < k)) ∧
  (k = 0 → (Frm.next ((Sg.file f h more).take n) (0 : Nat)).2.2 ≠ 0) ∧
  ∀ j, k = j + 1 → ∃ c e : Nat, Frm.next ((Sg.file f h more).take n) (0 : Nat) = (Sg.first f (Hd.recs h).length, (c : Int), 0) ∧ Sg.Run f ((Sg.file f h more).take n) c ((Hd.recs h ++ more).take j) e ∧ e = Frm.ends (Sg.bodies f h more) j ∧ (Frm.next ((Sg.file f h more).take n) (e : Nat)).2.2 ≠ 0 := by
 obtain ⟨want, a, hc⟩ := Frm.cut_is n (Sg.bodies f h more)
 obtain ⟨hp, hs⟩ := hc.path hn hb
 obtain ⟨hw, hl⟩ := hc.want_take
 refine ⟨want.length, hl, fun i hi => hc.iff hi, fun h0 => ?_, fun j hj => ?_⟩
 ·have : want = [] := List.eq_nil_of_length_eq_zero h0
  subst this
  have ha := hc.at_
  have : a = 0 := by rw [ha]; rfl
  subst this
  exact hs
 ·have ha := hc.at_
  rw [hj] at hw
  have e1 : want = Sg.first f (Hd.recs h).length :: ((Hd.recs h ++ more).take j).map (Rt.bytesIn f) := by
   rw [hw]
   show (Sg.first f (Hd.recs h).length :: (Hd.recs h ++ more).map (Rt.bytesIn f)).take (j + 1) = _
   rw [List.take_succ_cons, List.map_take]
  rw [e1] at hp
  have hp' : Frm.Path ((Sg.file f h more).take n) 0 (Sg.first f (Hd.recs h).length :: ((Hd.recs h ++ more).take j).map (Rt.bytesIn f)) a := hp
  cases hp' with
  | @cons _ c _ _ _ h1 h2 =>
   refine ⟨c, a, h1, Sg.run_path hf _ _ _ (fun x hx => ?_) h2, ?_, hs⟩
   ·have := hok x (List.mem_of_mem_take hx)
    exact ⟨this.1, this.2.1, this.2.2.1⟩
   ·rw [ha, hw]
    rfl
end Go.Proofs.YteboceekcmchkaaGreatDoor
