/- The laws FrameAdds and FrameNexts, walked: each returns true and changes nothing that was there. -/
import Derived.Test.YtmhabcabbefncaaDoorFrmAdd
import Derived.Test.YtmhabcabbefncaaDoorFrmScan
import Derived.Test.YtmhabcabbefncaaDoorCrcTab
import Derived.Lib.SlBytesConst
namespace Go.Proofs.YtmhabcabbefncaaDoor
open Go.RowKit

theorem frame_a : Frm.frame [97] = [1, 97, 67, 190, 183, 232] := by
  unfold Frm.frame
  rw [show ([97] : List UInt8).length = 1 from rfl, enc_lt (by omega)]
  decide +kernel
theorem frmLen_one : frmLen 1 = 6 := by
  unfold frmLen
  rw [if_neg (by omega), enc_lt (by omega)]; rfl

set_option maxRecDepth 4000 in
set_option maxHeartbeats 800000 in
theorem frmAwake_any (w : World) (hT : CrcTab w) : Calls Tryd.prog 7 #[] w (Truly w) := by
  have hr := Reads.fresh w 5 [97] 1 #[.int .u8 97] rfl rfl (by omega) (1, 2)
  have hb0 := (Below.refl w.heap.size w).alloc (Nat.le_refl _) (.cells #[.int .u8 97] 5 (1, 2))
  have hT1 := hT.below hb0
  have kc := fun (w : World) (C : Array Value) (n c : Nat) => Lib.run_convert_bytes_const (P := Tryd.prog) w 22 5 C n c Tryd.underlying22 Tryd.underlying5
  go_enter Tryd.func7, Tryd.ntmps7
  go_wp2_with fail
  refine (add_ok _ _ [] [97] _ (Reads.empty _) hr hT1 (by simp) (by simp) (by simp)).mono ?_
  rintro e w1 ⟨x, rfl, ho, hb⟩
  rw [List.nil_append, frame_a] at ho
  obtain ⟨g, cap, rfl, hg, hgl⟩ := ho.form (by simp)
  have c0 : w1.cell? ⟨g, 0, none⟩ = some (.int .u8 1) := ho.cell 0 1 rfl
  have c5 : w1.cell? ⟨g, 5, none⟩ = some (.int .u8 232) := ho.cell 5 232 rfl
  go_wp2_with fail
  refine (frmLen_any 1 _ (by omega)).mono ?_
  rintro e w2 ⟨rfl, rfl⟩
  rw [frmLen_one]
  go_wp2_with fail
  go_ret
  exact ⟨rfl, on hb0 hb⟩

set_option maxRecDepth 4000 in
set_option maxHeartbeats 1600000 in
theorem frameAdds_any (v u : Value) (l m : List UInt8) (w : World) (hv : Reads w v l) (hu : Reads w u m) (hT : CrcTab w) : Calls Tryd.prog 3 #[v, u] w (Truly w) := by
  have hadd := add_none v u m w hu
  have hok := add_ok v u l m w hv hu hT
  obtain ⟨ao, cap, rfl⟩ := hv.shape
  obtain ⟨uo, ucap, rfl⟩ := hu.shape
  obtain ⟨_, hl1, hl2, _⟩ := hv.len
  obtain ⟨_, hm1, hm2, _⟩ := hu.len
  obtain ⟨n, hn⟩ : ∃ n, n = m.length := ⟨_, rfl⟩
  have HN := Lib.hid hn
  rw [← hn] at hm1 hadd hok ⊢
  clear hn
  by_cases hd : 500 < l.length ∨ (500 < n ∧ n < 65536) ∨ 65540 < n
  · have HD := Lib.hid hd
    rcases (show 500 < l.length ∨ (l.length ≤ 500 ∧ 500 < n ∧ n < 65536) ∨ (l.length ≤ 500 ∧ 65540 < n) by omega) with h | ⟨h, h1, h2⟩ | ⟨h, h1⟩
    all_goals
      clear hd hadd hok
      go_enter Tryd.func3, Tryd.ntmps3
      go_wp2_with (go_at_call 7; refine (frmAwake_any _ hT).mono ?_; rintro e w' ⟨rfl, hb⟩)
      go_ret
      exact ⟨rfl, hb⟩
  · have hl500 : l.length ≤ 500 := by omega
    rcases (show n = 0 ∨ (65536 < n ∧ n ≤ 65540) ∨ (0 < n ∧ n ≤ 500) ∨ (65536 ≤ n ∧ n ≤ 65536) by omega) with h0 | ⟨h1, h2⟩ | ⟨h0, h1⟩ | ⟨h0, h1⟩
    · have hc := hadd (by omega)
      subst h0
      have HS : sizeErr ((0 : Nat) : Int) = 3 := rfl
      rw [HS] at hc
      have hf : frmLen 0 = 0 := rfl
      clear hd hadd hok HS
      go_enter Tryd.func3, Tryd.ntmps3
      go_wp2_with (go_at_call 8; refine hc.mono ?_; rintro e w' ⟨rfl, rfl⟩)
      refine (frmLen_any 0 _ (by omega)).mono ?_
      rintro e w2 ⟨rfl, rfl⟩
      rw [hf]
      go_wp2_with fail
      refine (frmAwake_any _ hT).mono ?_
      rintro e w' ⟨rfl, hb⟩
      go_wp2_with fail
      go_ret
      exact ⟨rfl, hb⟩
    · have hc := hadd (by omega)
      have HS : sizeErr (n : Int) = 2 := by unfold sizeErr; rw [if_neg (by omega), if_pos (by omega)]
      rw [HS] at hc
      have hf : frmLen n = 0 := by unfold frmLen; rw [if_pos (by omega)]
      have HF := Lib.hid hf
      clear hd hadd hok HS hf
      go_enter Tryd.func3, Tryd.ntmps3
      go_wp2_with (go_at_call 8; refine hc.mono ?_; rintro e w' ⟨rfl, rfl⟩)
      refine (frmLen_any n _ (by omega)).mono ?_
      rintro e w2 ⟨rfl, rfl⟩
      rw [HF.out]
      go_wp2_with fail
      refine (frmAwake_any _ hT).mono ?_
      rintro e w' ⟨rfl, hb⟩
      go_wp2_with fail
      go_ret
      exact ⟨rfl, hb⟩
    all_goals
      have hn1 : 1 ≤ n := by omega
      have hn2 : n ≤ 65536 := by omega
      have h9 := enc_nine (n := m.length) (by have := HN.out; omega)
      have hf : frmLen n = (Frm.frame m).length := by unfold frmLen; rw [if_neg (by omega), Frm.frame_len, ← HN.out]
      have hfl : (Frm.frame m).length ≤ 65549 := by rw [Frm.frame_len, ← HN.out]; rw [← HN.out] at h9; omega
      have hc := hok hn1 hn2 (by omega)
      obtain ⟨k, hk⟩ : ∃ k, k = (Frm.frame m).length := ⟨_, rfl⟩
      rw [← hk] at hf hfl
      have HF := Lib.hid hf
      have HK := Lib.hid hk
      have hv0 := hv.below ((Below.refl w.heap.size w).alloc (Nat.le_refl _) (.cells #[] 5))
      clear hd hadd hok hf hk h9
      go_enter Tryd.func3, Tryd.ntmps3
      go_wp2_with fail
      refine hc.mono ?_
      rintro e w1 ⟨x1, rfl, ho1, hb1⟩
      obtain ⟨x1o, x1c, hx1⟩ := ho1.reads.shape
      obtain ⟨S, hS⟩ : ∃ S, S = l.length + k := ⟨_, rfl⟩
      rw [List.length_append, ← HK.out, ← hS] at hx1
      subst hx1
      have hS1 : S ≤ 70000 := by omega
      have hS2 : (S : Int) - (l.length : Int) = (k : Int) := by omega
      have HS2 := Lib.hid hS2
      clear hS hS2
      have hT1 := hT.below hb1
      have hv1 := hv.below (hb1.alloc hb1.size (.cells #[] 5))
      go_wp2_with (at_builtin; refine append_bytes rfl _ _ 22 5 rfl Tryd.underlying22 info_u8 w1.heap.size [] l _ _ rfl rfl (Owns.lit0 w1 _) hv1 (by simp; omega) w1 ((Below.refl _ w1).alloc (Nat.le_refl _) _) (Nat.le_refl _) ?_; intro v2 w2 ho2 hb2 hgw; clear hgw; rw [List.nil_append] at ho2)
      refine (refFrame_any _ m _ (by rw [HN.out]; exact hu.below (on hb1 hb2)) (by have := HN.out; omega)).mono ?_
      rintro e w3 ⟨x3, rfl, ho3, hb3⟩
      obtain ⟨x3o, x3c, hx3⟩ := ho3.reads.shape
      rw [← HK.out] at hx3
      subst hx3
      have hb23 : Below w1.heap.size w1 w3 := hb2.trans (hb3.mono hb2.size)
      have hlk : l.length + (Frm.frame m).length ≤ 140737488355328 := by have := HK.out; omega
      go_wp2_with (at_builtin; refine append_bytes rfl _ _ 22 5 rfl Tryd.underlying22 info_u8 w1.heap.size l (Frm.frame m) v2 _ rfl rfl (ho2.keep hb3 (Nat.le_refl _)) ho3.reads hlk w1 hb23 (Nat.le_refl _) ?_; intro v4 w4 ho4 hb4 hgw; clear hgw)
      refine (same_any _ _ (l ++ Frm.frame m) (l ++ Frm.frame m) _ (ho1.reads.below hb4) ho4.reads).mono ?_
      rintro e w5 ⟨rfl, q, rfl⟩
      rw [beq_self_eq_true]
      have hB := hb1.trans (hb4.mono hb1.size)
      clear hc hv1 ho1 ho2 ho3 ho4 hb1 hb2 hb3 hb4 hb23 hlk hv0 hT1
      have hB5 := hB.trans (drawn w4 q |>.mono hB.size)
      generalize w4.drewN q = w5 at hB5 ⊢
      clear hB hu hv HN HK hl500 hfl hm1 hm2 hl1 hl2
      go_wp2_with fail
      refine (frmLen_any n _ (by omega)).mono ?_
      rintro e w6 ⟨rfl, rfl⟩
      rw [HF.out]
      have hS2 := HS2.out
      go_wp2_with fail
      refine (frmAwake_any _ (hT.below hB5)).mono ?_
      rintro e w7 ⟨rfl, hb7⟩
      go_wp2_with fail
      go_ret
      exact ⟨rfl, on hB5 hb7⟩

set_option maxRecDepth 4000 in
set_option maxHeartbeats 1600000 in
theorem frameNexts_any (v : Value) (l : List UInt8) (pl : Int) (w : World) (hv : Reads w v l) (hT : CrcTab w) : Calls Tryd.prog 4 #[v, .int .i64 pl] w (Truly w) := by
  obtain ⟨ao, cap, rfl⟩ := hv.shape
  by_cases hbig : 1000 < l.length
  · clear hv
    go_enter Tryd.func4, Tryd.ntmps4
    go_wp2_with (go_at_call 7; refine (frmAwake_any _ hT).mono ?_; rintro e w' ⟨rfl, hb⟩)
    go_ret
    exact ⟨rfl, hb⟩
  · obtain ⟨q, hq⟩ : ∃ q, q = Frm.next l pl := ⟨_, rfl⟩
    have hn1 := next_any _ l pl w hv hT (by omega)
    have hn2 := fun (w1 : World) (h : Below w.heap.size w w1) => refNext_any _ l pl w1 (hv.below h) (by omega)
    rw [← hq] at hn1
    simp only [← hq] at hn2
    have HN2 := Lib.hid hn2
    clear hq hn2
    obtain ⟨qb, qe, qr⟩ := q
    go_enter Tryd.func4, Tryd.ntmps4
    go_wp2_with fail
    refine hn1.mono ?_
    rintro e w1 ⟨x1, rfl, ho1, hb1⟩
    go_wp2_with fail
    refine (HN2.out w1 hb1).mono ?_
    rintro e w2 ⟨x2, rfl, hx2, hb2⟩
    have hb12 := on hb1 hb2
    go_wp2_with fail
    refine (scan_any _ l w2 (hv.below hb12) (hT.below hb12) (by omega)).mono ?_
    rintro e w3 ⟨x3, ls, c, rfl, hp, hs, hr3, hb3⟩
    have hb13 := on hb12 hb3
    go_wp2_with fail
    refine (refScan_any _ l w3 (hv.below hb13) (by omega)).mono ?_
    rintro e w4 ⟨x4, ms, k, rfl, hp', hs', hr4, hb4⟩
    obtain ⟨rfl, rfl⟩ := hp.one hs hp' hs'
    have hb14 := on hb13 hb4
    have g1 : Reads w4 x1 qb := (((ho1.reads.below hb2).below hb3).below hb4)
    have g2 : Reads w4 x2 qb := hx2 w4 (hv.below hb14)
    have g3 := hr3.below hb4
    clear hn1 ho1 hb1 hx2 hb2 hb12 hp hs hp' hs' hr3 hb3 hb13 hb4
    go_wp2_with fail
    refine (same_any x1 x2 qb qb w4 g1 g2).mono ?_
    rintro e w5 ⟨rfl, n5, rfl⟩
    rw [beq_self_eq_true]
    have hb5 := on hb14 (drawn w4 n5)
    have g5 := g3.below (drawn w4 n5)
    have g6 := hr4.below (drawn w4 n5)
    generalize w4.drewN n5 = w5 at hb5 g5 g6 ⊢
    clear g1 g2 g3 hr4 hb14
    go_wp2_with fail
    refine (lists_any x3 x4 ls ls w5 g5 g6).mono ?_
    rintro e w6 ⟨rfl, n6, rfl⟩
    rw [beq_self_eq_true]
    have hb6 := on hb5 (drawn w5 n6)
    generalize w5.drewN n6 = w6 at hb6 ⊢
    clear g5 g6 hb5
    go_wp2_with fail
    refine (frmAwake_any _ (hT.below hb6)).mono ?_
    rintro e w7 ⟨rfl, hb7⟩
    go_wp2_with fail
    go_ret
    exact ⟨rfl, on hb6 hb7⟩
end Go.Proofs.YtmhabcabbefncaaDoor
