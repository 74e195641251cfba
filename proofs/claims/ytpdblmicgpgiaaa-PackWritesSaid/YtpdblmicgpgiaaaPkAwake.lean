/- The law's own: does the program answer at all; writers and readers that are nil. -/
import Derived.Test.YtpdblmicgpgiaaaPkWr
import Derived.Test.YtpdblmicgpgiaaaPkRd3
namespace Go.Proofs.Ytpdblmicgpgiaaa
open Go.RowKit

/-- A struct's first cells, new. -/
theorem Wr.new (T E : TypeId) (w : World) (B : Nat) (hB : B ≤ w.heap.size) : Wr T E (w.alloc (.cells #[.slice none 0 0] T)) B w.heap.size (.slice none 0 0) [] :=
  ⟨hB, Lies.new _ _ _, Owns.empty _ _ _⟩

theorem awake_bytes : [] ++ enc (300 : Int).toNat ++ Pk.text [104, 105] ++ Pk.flag true = [172, 2, 2, 104, 105, 1] := by
  rw [show (300 : Int).toNat = 300 by rfl, enc_ge (by omega), enc_lt (by omega)]
  unfold Pk.text
  rw [enc_lt (by simp)]
  rfl

set_option maxRecDepth 4000 in
set_option maxHeartbeats 1600000 in
theorem awake_any (w : World) : Calls Try.prog 8 #[] w (Truly w) := by
  have hn : Hid (Pk.num [172, 2, 2, 104, 105, 1] (0 : Nat) 300 = (300, ((2 : Nat) : Int), 0)) := by show _ = _; decide
  have ht : Hid (Pk.txt [172, 2, 2, 104, 105, 1] (2 : Nat) 2 = ([104, 105], ((5 : Nat) : Int), 0)) := by show _ = _; decide
  have hf : Hid (Pk.flg [172, 2, 2, 104, 105, 1] (5 : Nat) = (true, ((6 : Nat) : Int), 0)) := by show _ = _; decide
  have hd : Hid (Pk.done [172, 2, 2, 104, 105, 1] 6 0 = 0) := by show _ = _; decide
  have hb0 : Below w.heap.size w (w.alloc (.cells #[.slice none 0 0] 49)) := (Below.refl _ w).alloc (Nat.le_refl _) _
  go_enter Try.func8, Try.ntmps8
  go_wp2_with fail
  refine (wnum_any 300 _ w.heap.size w.heap.size _ [] (Wr.new _ _ w _ (Nat.le_refl _)) hb0.size (by simp) (by omega) (by omega)).mono ?_
  rintro e1 w1 ⟨rfl, v1, hw1, hg1⟩
  have hb1 := hb0.trans ((Wr.new 49 5 w _ (Nat.le_refl _)).below hg1 hb0.size)
  have h9 : (enc 300).length ≤ 9 := enc_nine (by omega)
  go_wp2_with fail
  refine (wtext_any [104, 105] _ w.heap.size w.heap.size v1 _ hw1 hb1.size (by simp; omega) (by simp)).mono ?_
  rintro e2 w2 ⟨rfl, v2, hw2, hb2⟩
  have hb2 := hb1.trans hb2
  have h1 := enc_nine (n := 2) (by decide)
  go_wp2_with fail
  refine (wflag_any true _ w.heap.size w.heap.size v2 _ hw2 hb2.size (by simp [Pk.text]; omega)).mono ?_
  rintro e3 w3 ⟨rfl, v3, hw3, hb3⟩
  rw [awake_bytes] at hw3
  have hb3 := hb2.trans hb3
  go_wp2_with fail
  refine (wbytes_any _ w.heap.size w.heap.size v3 _ hw3 (by simp)).mono ?_
  rintro e4 w4 ⟨u4, rfl, ho4, hb4⟩
  have hw4 := hw3.grown hb4
  have hb4 := hb3.trans (hb4.mono hb3.size)
  go_wp2_with fail
  refine (newreader_any u4 _ _ w.heap.size hb4.size ho4.reads (by simp)).mono ?_
  rintro e5 w5 ⟨o, v5, rfl, ho5, hr5, hb5⟩
  have hw5 := hw4.grown hb5
  have hb5 := hb4.trans (hb5.mono hb4.size)
  go_wp2_with fail
  refine (wbytes_any _ w.heap.size w.heap.size v3 _ hw5 (by simp)).mono ?_
  rintro e6 w6 ⟨u6, rfl, ho6, hb6⟩
  have hr6 := hr5.kept hb6
  have hb6 := hb5.trans (hb6.mono hb5.size)
  obtain ⟨uo, uc, rfl⟩ := ho6.reads.shape
  go_wp2_with fail
  refine (rnum_is 300 _ w.heap.size o v5 _ 0 300 2 0 hr6 (by simp) hn).mono ?_
  rintro e7 w7 ⟨rfl, hr7, hg7⟩
  have hb7 := hb6.grown hg7 hb6.size (by rintro k hk; cases hk; exact hr6.base)
  go_wp2_with fail
  refine (rtext_is 2 _ w.heap.size o v5 _ 2 [104, 105] 5 0 hr7 (by simp) ht).mono ?_
  rintro e8 w8 ⟨rfl, hr8, hg8⟩
  have hb8 := hb7.grown hg8 hb7.size (by rintro k hk; cases hk; exact hr6.base)
  go_wp2_with fail
  refine (rflag_is _ w.heap.size o v5 _ 5 true 6 0 hr8 (by simp) hf).mono ?_
  rintro e9 w9 ⟨rfl, hr9, hg9⟩
  have hb9 := hb8.grown hg9 hb8.size (by rintro k hk; cases hk; exact hr6.base)
  go_wp2_with fail
  refine (rdone_any _ w.heap.size o v5 _ 6 0 hr9).mono ?_
  rintro e10 w10 ⟨rfl, q, rfl⟩
  rw [hd.out]
  go_wp2
  go_ret
  exact ⟨rfl, hb9.trans ((drawn _ _).mono hb9.size)⟩
end Go.Proofs.Ytpdblmicgpgiaaa
