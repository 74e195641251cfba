/- The law BallotLess. -/
import Derived.Test.YtjdohnadgdeaiaaDoorBalTwo
import Derived.Test.YtjdohnadgdeaiaaDoorOnce
namespace Go.Proofs.YtjdohnadgdeaiaaDoor
open Go.RowKit

theorem Bl.two (a b : Bl.Bal) : ∃ x y n : Bool, Bl.less a b = x ∧ Bl.less b a = y ∧ (!decide (a = b)) = n ∧ ((x = true ∧ y = false ∧ n = true) ∨ (x = false ∧ y = true ∧ n = true) ∨ (x = false ∧ y = false ∧ n = false)) := by
  rcases Bl.less_or a b with ⟨h1, h2, h3⟩ | ⟨h1, h2, h3⟩ | ⟨h1, h2, h3⟩
  · exact ⟨_, _, _, rfl, rfl, rfl, Or.inl ⟨h1, h2, by simp [h3]⟩⟩
  · exact ⟨_, _, _, rfl, rfl, rfl, Or.inr (Or.inl ⟨h1, h2, by simp [h3]⟩)⟩
  · exact ⟨_, _, _, rfl, rfl, rfl, Or.inr (Or.inr ⟨h1, h2, by simp [h3]⟩)⟩

set_option maxRecDepth 4000 in
set_option maxHeartbeats 6400000 in
theorem ballotLess_any (a b : Bl.Bal) (w : World) (hp : PowIn w) : Calls Tryd.prog 3 #[.agg (Bl.cells a), .agg (Bl.cells b)] w (Truly w) := by
  have HP := Lib.hid hp
  have HAW := Lib.hid (fun W (h : Below w.heap.size w W) => awakeB_any W (HP.out.below h))
  clear hp
  obtain ⟨w1, e1, hl1, hk1, hB1, hz1⟩ := box_bals w a b
  obtain ⟨p0, p1⟩ := Bals.both hl1
  obtain ⟨q0, q1⟩ := Bals.both hk1
  have HL1 := Lib.hid hl1; have HK1 := Lib.hid hk1; have HB1 := Lib.hid hB1
  clear hl1 hk1 hB1 hz1
  have hgd := guard_bal
  have hneq := fun W => run_neq_bal W a b
  obtain ⟨x, y, n, hx, hy, hn, H3⟩ := Bl.two a b
  rw [hn] at hneq
  have HX := Lib.hid hx; have HY := Lib.hid hy
  dsimp only [Bl.cells] at hneq
  clear hx hy hn
  obtain ⟨T, hT⟩ : ∃ T, T = ByteArray.mk (Bl.text a).toArray := ⟨_, rfl⟩
  have HT := Lib.hid hT
  obtain ⟨t, ht⟩ : ∃ t, t = Bl.may a := ⟨_, rfl⟩
  have HM := Lib.hid ht
  have hTT : (T.toList == T.toList) = true := by simp
  clear hT ht
  go_enter Tryd.func3, Tryd.ntmps3
  go_wp2
  have k0 := fun p : Behind w1 => (Bals.both (HL1.out.below p.below HL1.out.lt)).1
  have k1 := fun p : Behind w1 => (Bals.both (HL1.out.below p.below HL1.out.lt)).2
  have k2 := fun p : Behind w1 => (Bals.both (HK1.out.below p.below HK1.out.lt)).1
  have k3 := fun p : Behind w1 => (Bals.both (HK1.out.below p.below HK1.out.lt)).2
  refine wp_region_behind (by kernel_rfl) (by kernel_rfl) ?_
  repeat (go_big_quiet_step ((go_at_call 6; refine Looks.behind (bless_any _ _ _))))
  refine wpQuiet_nil ?_
  rintro w2 ⟨p2, rfl⟩
  obtain ⟨w2, hB2⟩ := p2
  dsimp only
  rw [HX.out, HY.out]
  have HL2 := Lib.hid (HL1.out.below hB2 HL1.out.lt)
  have HK2 := Lib.hid (HK1.out.below hB2 HK1.out.lt)
  have HB2 := Lib.hid (HB1.out.trans (hB2.mono HB1.out.size))
  obtain ⟨a0, a1⟩ := Bals.both HL2.out
  clear k0 k1 k2 k3 p0 p1 q0 q1 hB2
  go_wp2_with fail
  refine (brefMay_any a _).mono ?_
  rintro e w3 ⟨rfl, hB3⟩
  rw [← HM.out]
  have HL3 := Lib.hid (HL2.out.below hB3 HL2.out.lt)
  have HK3 := Lib.hid (HK2.out.below hB3 HK2.out.lt)
  have HB3 := Lib.hid (HB2.out.trans (hB3.mono HB2.out.size))
  obtain ⟨b0, b1⟩ := Bals.both HL3.out
  clear a0 a1 hB3
  cases t with
  | true =>
    go_wp2_with fail
    refine (brefText_any a _ HM.out.symm).mono ?_
    rintro e w4 ⟨rfl, hB4⟩
    rw [← HT.out]
    have HL4 := Lib.hid (HL3.out.below hB4 HL3.out.lt)
    have HK4 := Lib.hid (HK3.out.below hB4 HK3.out.lt)
    have HB4 := Lib.hid (HB3.out.trans (hB4.mono HB3.out.size))
    clear b0 b1 hB4
    go_wp2
    have k0 := fun p : Behind w4 => (Bals.both (HL4.out.below p.below HL4.out.lt)).1
    have k1 := fun p : Behind w4 => (Bals.both (HL4.out.below p.below HL4.out.lt)).2
    have k2 := fun p : Behind w4 => (Bals.both (HK4.out.below p.below HK4.out.lt)).1
    have k3 := fun p : Behind w4 => (Bals.both (HK4.out.below p.below HK4.out.lt)).2
    have HPP := Lib.hid (fun p : Behind w4 => HB4.out.trans (p.below.mono HB4.out.size))
    have hm := HM.out.symm
    have hT := HT.out.symm
    rcases H3 with ⟨rfl, rfl, rfl⟩ | ⟨rfl, rfl, rfl⟩ | ⟨rfl, rfl, rfl⟩
    all_goals
      have hx := HX.out
      have hy := HY.out
      refine wp_region_behind (by kernel_rfl) (by kernel_rfl) ?_
      repeat (go_big_quiet_step (first
        | (go_at_call 9; exact Looks.behind (brefLess_any _ _ _))
        | (go_at_call 10; exact Looks.behind (bmay_any _ _))
        | (go_at_call 7; exact Looks.behind (brefMay_any _ _))
        | (go_at_call 11; exact Looks.behind (btext_any _ _ (HP.out.below (HPP.out _))))
        | (go_at_call 12; exact Truly.behind (HAW.out _ (HPP.out _)))))
      refine wpQuiet_nil ?_
      rintro w5 ⟨p5, rfl⟩
      go_wp2
      go_ret
      exact truly_of (HPP.out p5)
  | false =>
    obtain rfl : T = ⟨#[]⟩ := by rw [HT.out, Bl.text, if_neg (by rw [← HM.out]; simp)]
    go_wp2
    have k0 := fun p : Behind w3 => (Bals.both (HL3.out.below p.below HL3.out.lt)).1
    have k1 := fun p : Behind w3 => (Bals.both (HL3.out.below p.below HL3.out.lt)).2
    have k2 := fun p : Behind w3 => (Bals.both (HK3.out.below p.below HK3.out.lt)).1
    have k3 := fun p : Behind w3 => (Bals.both (HK3.out.below p.below HK3.out.lt)).2
    have HPP := Lib.hid (fun p : Behind w3 => HB3.out.trans (p.below.mono HB3.out.size))
    have hm := HM.out.symm
    have hT := HT.out.symm
    rcases H3 with ⟨rfl, rfl, rfl⟩ | ⟨rfl, rfl, rfl⟩ | ⟨rfl, rfl, rfl⟩
    all_goals
      have hx := HX.out
      have hy := HY.out
      refine wp_region_behind (by kernel_rfl) (by kernel_rfl) ?_
      repeat (go_big_quiet_step (first
        | (go_at_call 9; exact Looks.behind (brefLess_any _ _ _))
        | (go_at_call 10; exact Looks.behind (bmay_any _ _))
        | (go_at_call 7; exact Looks.behind (brefMay_any _ _))
        | (go_at_call 11; exact Looks.behind (btext_any _ _ (HP.out.below (HPP.out _))))
        | (go_at_call 12; exact Truly.behind (HAW.out _ (HPP.out _)))))
      refine wpQuiet_nil ?_
      rintro w5 ⟨p5, rfl⟩
      go_wp2
      go_ret
      exact truly_of (HPP.out p5)

end Go.Proofs.YtjdohnadgdeaiaaDoor
