/- Records in F2, plain: their bytes, how these are read, that F2 has no more of them than F1, that no bytes are a record's in both. No program is spoken of. -/
import Derived.Test.YteboceekcmchkaaGreatDoorGRe
import Derived.Test.YteboceekcmchkaaGreatDoorPMtMath
namespace Go.Proofs.YteboceekcmchkaaGreatDoor
open Go.RowKit
namespace Rt
def bytes (x : Re.Rec) : List UInt8 :=
 enc (x.kind + 16).toNat ++ (Mt.part (Re.hb x.kind) (enc x.bal.round.toNat) ++ (Mt.part (Re.hb x.kind) (enc x.bal.node.toNat) ++ (Mt.part (Re.hi x.kind) (enc x.index.toNat) ++ (Mt.part (Re.hc x.kind) (Cm.bytes 2 x.cmd) ++ Mt.part (Re.hm x.kind) (Pk.text x.img)))))
def cmd (t : Bool) (b : List UInt8) (s : Nat × Int) : Cm.Cmd × Nat × Int := if t = true then Cm.get 2 b s.1 s.2 else (Cm.zero, s)
def r0 (b : List UInt8) := Mt.num true b (0, 0)
def kindOf (b : List UInt8) : Int := (r0 b).1 - 16
def r1 (b : List UInt8) := Mt.num (Re.hb (kindOf b)) b (r0 b).2
def r2 (b : List UInt8) := Mt.num (Re.hb (kindOf b)) b (r1 b).2
def r3 (b : List UInt8) := Mt.num (Re.hi (kindOf b)) b (r2 b).2
def r4 (b : List UInt8) := cmd (Re.hc (kindOf b)) b (r3 b).2
def r5 (b : List UInt8) := Mt.img (Re.hm (kindOf b)) b (r4 b).2
def gotR (b : List UInt8) : Re.Rec := ⟨kindOf b, ⟨(r1 b).1, (r2 b).1⟩, (r3 b).1, (r4 b).1, (r5 b).1⟩
def decode (b : List UInt8) : Re.Rec × Int :=
 if (r0 b).2.2 ≠ 0 then (Re.zero, (r0 b).2.2)
 else if Re.known (kindOf b) = false then (Re.zero, 3)
 else if Cm.done b (r5 b).2.1 (r5 b).2.2 ≠ 0 then (Re.zero, Cm.done b (r5 b).2.1 (r5 b).2.2)
 else if Re.check (gotR b) ≠ 0 then (Re.zero, Re.check (gotR b)) else (gotR b, 0)
theorem older_two (x : Re.Rec) : Re.olderIn 2 x = Re.check x := by
 unfold Re.olderIn
 by_cases h : Re.check x = 0
 ·rw [if_neg (by simpa using h), h]
  refine if_neg ?_
  cases hk : Re.hc x.kind with
  | false => simp
  | true => rw [Mt.has_two (Cm.check_ok ((Re.check_good h).cmd hk)).1]; simp
 ·rw [if_pos h]
def bytesIn (v : Int) (x : Re.Rec) : List UInt8 := if v = 2 then bytes x else Re.bytes x
def put (v : Int) (x : Re.Rec) : List UInt8 × Int :=
 if v = 1 ∨ v = 2 then (if Re.olderIn v x ≠ 0 then ([], Re.olderIn v x) else (bytesIn v x, 0)) else ([], 8)
def get (v : Int) (b : List UInt8) : Re.Rec × Int := if v = 1 then Re.decode b else if v = 2 then decode b else (Re.zero, 8)
theorem cmd_at (t : Bool) (pre post : List UInt8) {c : Cm.Cmd} (h : t = true → Cm.check c = 0) (hf : c.Fits) {s : Nat} (hs : c.Short s) (hs2 : s ≤ 9223372036854775807) (hz : t = false → c = Cm.zero) :
 cmd t (pre ++ (Mt.part t (Cm.bytes 2 c) ++ post)) (pre.length, 0) = (c, (pre ++ Mt.part t (Cm.bytes 2 c)).length, 0) := by
 cases t with
 | true =>
  rw [Mt.part_yes]
  unfold cmd
  rw [if_pos rfl]
  have := Cm.get_at 2 c (Cm.check_pos (h rfl)) hf hs hs2 pre post
  rw [Mt.cmd_two (h rfl)] at this
  exact this
 | false =>
  rw [Mt.part_no, hz rfl]
  simp [cmd]
theorem cmd_ok (t : Bool) (b : List UInt8) (s : Nat × Int) (hs : s.1 ≤ b.length) (h : (cmd t b s).2.2 = 0) :
 s.2 = 0 ∧ (cmd t b s).2.1 ≤ b.length ∧ b.take (cmd t b s).2.1 = b.take s.1 ++ Mt.part t (Cm.bytes 2 (cmd t b s).1) := by
 cases t with
 | true =>
  unfold cmd at h ⊢
  rw [if_pos rfl] at h ⊢
  exact Cm.get_ok 2 b s.1 s.2 h hs
 | false =>
  unfold cmd at h ⊢
  rw [if_neg (by simp)] at h ⊢
  exact ⟨h, hs, by rw [Mt.part_no, List.append_nil]⟩
theorem cmd_le (t : Bool) (b : List UInt8) (s : Nat × Int) (hs : s.1 ≤ b.length) : (cmd t b s).2.1 ≤ b.length := by
 unfold cmd
 split
 ·exact Cm.get_le 2 b s.1 s.2 hs
 ·exact hs
theorem decode_back {x : Re.Rec} (h : Re.check x = 0) (hf : x.Fits) {s : Nat} (hs : x.cmd.Short s) (hs2 : s ≤ 9223372036854775807) : decode (bytes x) = (x, 0) := by
 have hg := Re.check_good h
 have hpos := Re.good_pos hg
 have hl2 := Re.good_len hg
 have hown := hg.own
 have zb : Re.hb x.kind = false → x.bal = Bl.zero := fun q => by have := congrArg Re.Rec.bal hown; rw [← this]; exact if_neg (by rw [q]; simp)
 have zi : Re.hi x.kind = false → x.index = 0 := fun q => by have := congrArg Re.Rec.index hown; rw [← this]; exact if_neg (by rw [q]; simp)
 have hkn : 1 ≤ x.kind ∧ x.kind ≤ 4 := by have := hg.kind; unfold Re.known at this; simpa using this
 have q3 := hpos x.bal.round (by simp [Re.nums]); have q4 := hpos x.bal.node (by simp [Re.nums]); have q5 := hpos x.index (by simp [Re.nums])
 obtain ⟨B, hB⟩ : ∃ B, B = bytes x := ⟨_, rfl⟩
 obtain ⟨A0, hA0⟩ : ∃ A, A = enc (x.kind + 16).toNat := ⟨_, rfl⟩
 obtain ⟨A1, hA1⟩ : ∃ A, A = Mt.part (Re.hb x.kind) (enc x.bal.round.toNat) := ⟨_, rfl⟩
 obtain ⟨A2, hA2⟩ : ∃ A, A = Mt.part (Re.hb x.kind) (enc x.bal.node.toNat) := ⟨_, rfl⟩
 obtain ⟨A3, hA3⟩ : ∃ A, A = Mt.part (Re.hi x.kind) (enc x.index.toNat) := ⟨_, rfl⟩
 obtain ⟨A4, hA4⟩ : ∃ A, A = Mt.part (Re.hc x.kind) (Cm.bytes 2 x.cmd) := ⟨_, rfl⟩
 obtain ⟨A5, hA5⟩ : ∃ A, A = Mt.part (Re.hm x.kind) (Pk.text x.img) := ⟨_, rfl⟩
 have hBB : B = A0 ++ (A1 ++ (A2 ++ (A3 ++ (A4 ++ A5)))) := by rw [hB, hA0, hA1, hA2, hA3, hA4, hA5]; rfl
 have g0 : r0 B = (x.kind + 16, A0.length, 0) := by
  have := Mt.num_at true [] (A1 ++ (A2 ++ (A3 ++ (A4 ++ A5)))) (n := x.kind + 16) (by omega) (by omega) (fun q => by cases q)
  rw [Mt.part_yes, ← hA0, List.nil_append, ← hBB, List.nil_append] at this
  exact this
 have hk : kindOf B = x.kind := by unfold kindOf; rw [g0]; show x.kind + 16 - 16 = _; omega
 have g1 : r1 B = (x.bal.round, (A0 ++ A1).length, 0) := by
  have := Mt.num_at (Re.hb x.kind) A0 (A2 ++ (A3 ++ (A4 ++ A5))) q3.1 q3.2 (fun q => by rw [zb q]; rfl)
  rw [← hA1, ← hBB] at this
  unfold r1; rw [hk, g0]; exact this
 have g2 : r2 B = (x.bal.node, (A0 ++ A1 ++ A2).length, 0) := by
  have := Mt.num_at (Re.hb x.kind) (A0 ++ A1) (A3 ++ (A4 ++ A5)) q4.1 q4.2 (fun q => by rw [zb q]; rfl)
  rw [← hA2, show A0 ++ A1 ++ (A2 ++ (A3 ++ (A4 ++ A5))) = B by rw [hBB]; simp] at this
  unfold r2; rw [hk, g1]; exact this
 have g3 : r3 B = (x.index, (A0 ++ A1 ++ A2 ++ A3).length, 0) := by
  have := Mt.num_at (Re.hi x.kind) (A0 ++ A1 ++ A2) (A4 ++ A5) q5.1 q5.2 zi
  rw [← hA3, show A0 ++ A1 ++ A2 ++ (A3 ++ (A4 ++ A5)) = B by rw [hBB]; simp] at this
  unfold r3; rw [hk, g2]; exact this
 have g4 : r4 B = (x.cmd, (A0 ++ A1 ++ A2 ++ A3 ++ A4).length, 0) := by
  have := cmd_at (Re.hc x.kind) (A0 ++ A1 ++ A2 ++ A3) A5 hg.cmd hf.c hs hs2 (Re.good_cmd hg)
  rw [← hA4, show A0 ++ A1 ++ A2 ++ A3 ++ (A4 ++ A5) = B by rw [hBB]; simp] at this
  unfold r4; rw [hk, g3]; exact this
 have g5 : r5 B = (x.img, B.length, 0) := by
  have := Mt.img_at (Re.hm x.kind) (A0 ++ A1 ++ A2 ++ A3 ++ A4) [] hl2 (Re.good_img hg)
  rw [← hA5, List.append_nil, show A0 ++ A1 ++ A2 ++ A3 ++ A4 ++ A5 = B by rw [hBB]; simp] at this
  unfold r5; rw [hk, g4]; exact this
 have gm : gotR B = x := by
  unfold gotR
  rw [hk, g1, g2, g3, g4, g5]
 rw [← hB]
 unfold decode
 rw [hk, gm, g5, if_neg (by rw [g0]; simp), if_neg (by rw [hg.kind]; simp)]
 dsimp only
 rw [Cm.done_end, if_neg (by simp), if_neg (by simpa using h)]
theorem r0_le (b : List UInt8) : (r0 b).2.1 ≤ b.length := Mt.num_le true b (0, 0) (Nat.zero_le _)
theorem decode_ok (b : List UInt8) (h : (decode b).2 = 0) : (decode b).1 = gotR b ∧ Re.check (gotR b) = 0 ∧ bytes (gotR b) = b := by
 unfold decode at h ⊢
 by_cases h1 : (r0 b).2.2 = 0
 ·rw [if_neg (by simpa using h1)] at h ⊢
  by_cases h2 : Re.known (kindOf b) = false
  ·rw [if_pos h2] at h; simp at h
  ·rw [if_neg h2] at h ⊢
   by_cases h3 : Cm.done b (r5 b).2.1 (r5 b).2.2 = 0
   ·rw [if_neg (by simpa using h3)] at h ⊢
    by_cases h4 : Re.check (gotR b) = 0
    ·rw [if_neg (by simpa using h4)]
     refine ⟨rfl, h4, ?_⟩
     have her : (r5 b).2.2 = 0 := by
      unfold Cm.done at h3
      split at h3
      ·rename_i hne; exact absurd h3 hne
      ·rename_i hne; simpa using hne
     have hpl : ¬ (r5 b).2.1 < b.length := by
      unfold Cm.done at h3
      rw [if_neg (by simpa using her)] at h3
      intro hlt
      rw [if_pos hlt] at h3
      omega
     have l0 := r0_le b
     have l1 := Mt.num_le (Re.hb (kindOf b)) b (r0 b).2 l0
     have l2 := Mt.num_le (Re.hb (kindOf b)) b (r1 b).2 l1
     have l3 := Mt.num_le (Re.hi (kindOf b)) b (r2 b).2 l2
     have l4 := cmd_le (Re.hc (kindOf b)) b (r3 b).2 l3
     obtain ⟨z4, _, t5⟩ := Mt.img_ok (Re.hm (kindOf b)) b (r4 b).2 l4 her
     obtain ⟨z3, _, t4⟩ := cmd_ok (Re.hc (kindOf b)) b (r3 b).2 l3 z4
     obtain ⟨z2, _, t3⟩ := Mt.num_ok (Re.hi (kindOf b)) b (r2 b).2 l2 z3
     obtain ⟨z1, _, t2⟩ := Mt.num_ok (Re.hb (kindOf b)) b (r1 b).2 l1 z2
     obtain ⟨z0, _, t1⟩ := Mt.num_ok (Re.hb (kindOf b)) b (r0 b).2 l0 z1
     obtain ⟨_, _, t0⟩ := Mt.num_ok true b (0, 0) (Nat.zero_le _) h1
     rw [Mt.part_yes, List.take_zero, List.nil_append] at t0
     have hn0 : (kindOf b + 16) = (r0 b).1 := by unfold kindOf; omega
     have hb : b = b.take (r5 b).2.1 := (List.take_of_length_le (by omega)).symm
     conv => rhs; rw [hb]
     rw [show b.take (r5 b).2.1 = b.take (r4 b).2.1 ++ Mt.part (Re.hm (kindOf b)) (Pk.text (r5 b).1) from t5]
     rw [show b.take (r4 b).2.1 = b.take (r3 b).2.1 ++ Mt.part (Re.hc (kindOf b)) (Cm.bytes 2 (r4 b).1) from t4]
     rw [show b.take (r3 b).2.1 = b.take (r2 b).2.1 ++ Mt.part (Re.hi (kindOf b)) (enc (r3 b).1.toNat) from t3]
     rw [show b.take (r2 b).2.1 = b.take (r1 b).2.1 ++ Mt.part (Re.hb (kindOf b)) (enc (r2 b).1.toNat) from t2]
     rw [show b.take (r1 b).2.1 = b.take (r0 b).2.1 ++ Mt.part (Re.hb (kindOf b)) (enc (r1 b).1.toNat) from t1]
     rw [show b.take (r0 b).2.1 = enc (r0 b).1.toNat from t0]
     unfold bytes
     rw [show (gotR b).kind = kindOf b from rfl, hn0]
     simp only [List.append_assoc]
     rfl
    ·rw [if_pos h4] at h; exact absurd h h4
   ·rw [if_pos h3] at h; exact absurd h h3
 ·rw [if_pos h1] at h; exact absurd h h1
theorem less {x : Re.Rec} (h : Re.older x = 0) : (bytes x).length ≤ (Re.bytes x).length := by
 obtain ⟨hc, hn⟩ := Re.older_good h
 have hg := Re.check_good hc
 have hkn : 1 ≤ x.kind ∧ x.kind ≤ 4 := by have := hg.kind; unfold Re.known at this; simpa using this
 have p1 := Mt.part_le (Re.hb x.kind) (enc x.bal.round.toNat); have p2 := Mt.part_le (Re.hb x.kind) (enc x.bal.node.toNat)
 have p3 := Mt.part_le (Re.hi x.kind) (enc x.index.toNat)
 have hone : ∀ n : Int, 1 ≤ n → n ≤ 4 → (enc (n + 16).toNat).length = (enc n.toNat).length := fun n h1 h2 => by
  have : n = 1 ∨ n = 2 ∨ n = 3 ∨ n = 4 := by omega
  rcases this with rfl | rfl | rfl | rfl <;> decide +kernel
 have p0 := hone x.kind hkn.1 hkn.2
 have p4 : (Mt.part (Re.hc x.kind) (Cm.bytes 2 x.cmd) ++ Mt.part (Re.hm x.kind) (Pk.text x.img)).length ≤ (Re.tail x).length := by
  unfold Re.tail
  cases hk : Re.hc x.kind with
  | true =>
   have hm : Re.hm x.kind = false := by unfold Re.hc at hk; unfold Re.hm; simp at hk ⊢; omega
   rw [hm, Mt.part_yes, Mt.part_no, List.append_nil, if_pos rfl]
   refine Mt.cmd_less ?_
   unfold Re.newer at hn
   rw [hk] at hn
   simpa using hn
  | false =>
   rw [Mt.part_no, List.nil_append, if_neg (by simp)]
   cases hm : Re.hm x.kind with
   | true => rw [Mt.part_yes, if_pos rfl]; exact Nat.le_refl _
   | false => rw [Mt.part_no]; simp
 unfold bytes Re.bytes
 rw [show Ms.nbytes (Re.nums x) = enc x.kind.toNat ++ (enc x.bal.round.toNat ++ (enc x.bal.node.toNat ++ enc x.index.toNat)) by simp [Ms.nbytes, Re.nums]]
 simp only [List.length_append] at p4 ⊢
 omega
theorem got_inv (b : List UInt8) : (gotR b).Fits ∧ (gotR b).cmd.Short b.length ∧ (gotR b).img.length ≤ b.length := by
 have hz : Cm.zero.Fits ∧ Cm.zero.Short b.length := ⟨by constructor <;> simp [Cm.zero, Cm.bareOf], by simp [Cm.zero, Cm.bareOf], by simp [Cm.zero, Cm.bareOf], by simp [Cm.zero, Cm.bareOf]⟩
 have hnum : ∀ (t : Bool) (s : Nat × Int), -9223372036854775808 ≤ (Mt.num t b s).1 ∧ (Mt.num t b s).1 ≤ 9223372036854775807 := fun t s => by
  unfold Mt.num
  split
  ·have := Ms.rnum_num b s.1 s.2
   dsimp only
   omega
  ·dsimp only; omega
 have l0 := r0_le b
 have l1 := Mt.num_le (Re.hb (kindOf b)) b (r0 b).2 l0
 have l2 := Mt.num_le (Re.hb (kindOf b)) b (r1 b).2 l1
 have l3 := Mt.num_le (Re.hi (kindOf b)) b (r2 b).2 l2
 have l4 := cmd_le (Re.hc (kindOf b)) b (r3 b).2 l3
 have hcmd : (r4 b).1.Fits ∧ (r4 b).1.Short b.length := by
  unfold r4 cmd
  split
  ·obtain ⟨_, h2, h3⟩ := Cm.get_inv_at 2 b _ (r3 b).2.2 l3
   exact ⟨h3, h2⟩
  ·exact hz
 have hk : -9223372036854775808 ≤ kindOf b ∧ kindOf b ≤ 9223372036854775807 := by
  have := Ms.rnum_num b 0 0
  rw [show kindOf b = (Cm.rnum b 0 0).1 - 16 from rfl]
  omega
 refine ⟨⟨fun z hz => ?_, hcmd.1⟩, hcmd.2, ?_⟩
 ·simp only [Re.nums, List.mem_cons, List.not_mem_nil, or_false] at hz
  rcases hz with rfl | rfl | rfl | rfl
  ·exact hk
  ·exact hnum _ _
  ·exact hnum _ _
  ·exact hnum _ _
 ·show (r5 b).1.length ≤ _
  unfold r5 Mt.img
  split
  ·rcases Ms.raw_cases b (r4 b).2.1 (r4 b).2.2 l4 with ⟨e, q, _, _, hr⟩ | ⟨s, q, _, _, hs, hr, _⟩
   ·rw [hr]; simp
   ·rw [hr]; exact hs
  ·simp
end Rt
end Go.Proofs.YteboceekcmchkaaGreatDoor
