/- The law BallotNext. -/
import Derived.Test.YtjdohnadgdeaiaaDoorBalTwo
namespace Go.Proofs.YtjdohnadgdeaiaaDoor
open Go.RowKit

set_option maxRecDepth 4000 in
set_option maxHeartbeats 3200000 in
theorem ballotNext_any (b : Bl.Bal) (node : Int) (w : World) (hp : PowIn w) : Calls Tryd.prog 5 #[.agg (Bl.cells b), .int .i64 node] w (Truly w) := by
  have HP := Lib.hid hp
  have HAW := Lib.hid (fun W (h : Below w.heap.size w W) => awakeB_any W (HP.out.below h))
  clear hp
  obtain ⟨w1, e1, hl1, hB1, hz1⟩ := box_bal w b
  obtain ⟨p0, p1⟩ := Bals.both hl1
  have HL1 := Lib.hid hl1; have HB1 := Lib.hid hB1
  clear hl1 hB1 hz1
  have HRN := Lib.hid (Bl.next_same b node)
  have HNO := Lib.hid (Bl.next_or b node)
  have HOK := Lib.hid (fun h => Bl.next_ok b node h)
  have hgd := guard_bal
  go_enter Tryd.func5, Tryd.ntmps5
  go_wp2_with fail
  refine (bnext_any b node _).mono ?_
  rintro e w2 ⟨rfl, hB2⟩
  obtain ⟨R, hR⟩ : ∃ R, R = Bl.next b node := ⟨_, rfl⟩
  rw [← hR] at HRN HNO ⊢
  have HR := Lib.hid hR
  clear hR
  obtain ⟨X, E⟩ := R
  dsimp only at HRN HNO ⊢
  have HL2 := Lib.hid (HL1.out.below hB2 HL1.out.lt)
  have HB2 := Lib.hid (HB1.out.trans (hB2.mono HB1.out.size))
  have hs2 : w.heap.size < w2.heap.size := HL2.out.lt
  clear hB2 p0 p1
  go_wp2_with (refine store_bal (by rfl) _ _ (by rfl) w2.heap.size Bl.zero X (by rfl) (by rfl) (Lies.new _ _ _) ?_; intro w3 hl3 hg3; obtain ⟨r0, r1⟩ := Bals.both ((HL2.out.alloc _).kept hg3 (by simp; omega)))
  have hB3 : Below w2.heap.size w2 w3 := ((Below.refl _ w2).alloc (Nat.le_refl _) _).grown hg3 (by simp) (by rintro j hj; cases hj; exact Nat.le_refl _)
  have HL3 := Lib.hid (HL2.out.below hB3 HL2.out.lt)
  have HX3 := Lib.hid hl3
  have HB3 := Lib.hid (HB2.out.trans (hB3.mono HB2.out.size))
  clear hB3 hl3 hg3
  refine (brefNext_any b node _).mono ?_
  rintro e w4 ⟨rfl, hB4⟩
  rw [HRN.out]
  dsimp only
  have HL4 := Lib.hid (HL3.out.below hB4 HL3.out.lt)
  have HX4 := Lib.hid (HX3.out.below hB4 HX3.out.lt)
  have HB4 := Lib.hid (HB3.out.trans (hB4.mono HB3.out.size))
  have hs4 : w2.heap.size < w4.heap.size := HX4.out.lt
  clear hB4 r0 r1
  rcases HNO.out with h | h
  · simp only [Prod.mk.injEq] at h
    obtain ⟨rfl, rfl⟩ := h
    have heq := fun W => run_eql_bal W Bl.zero Bl.zero
    rw [show decide (Bl.zero = Bl.zero) = true by decide] at heq
    dsimp only [Bl.cells, Bl.zero] at heq
    rw [show decide ((6 : Int) = 0) = false by decide]
    go_wp2_with (refine store_bal (by rfl) _ _ (by rfl) w4.heap.size Bl.zero Bl.zero (by rfl) (by rfl) (Lies.new _ _ _) ?_; intro w5 hl5 hg5; obtain ⟨x0, x1⟩ := Bals.both ((HX4.out.alloc _).kept hg5 (by simp; omega)))
    have hB5 : Below w4.heap.size w4 w5 := ((Below.refl _ w4).alloc (Nat.le_refl _) _).grown hg5 (by simp) (by rintro j hj; cases hj; exact Nat.le_refl _)
    have HB5 := Lib.hid (HB4.out.trans (hB5.mono HB4.out.size))
    clear hB5 hl5 hg5
    refine (HAW.out _ HB5.out).mono ?_
    rintro e w6 ⟨rfl, hB6⟩
    go_wp2
    go_ret
    exact truly_of (HB5.out.trans (hB6.mono HB5.out.size))
  · obtain rfl : E = 0 := h
    have hok := HOK.out (by rw [← HR.out])
    rw [← HR.out] at hok
    dsimp only at hok
    obtain ⟨hm, hw9, hX, hle⟩ := hok
    have hstep := Bl.step_says b node hm
    rw [← hX] at hstep
    obtain ⟨hl, hn, h1, h2, h3⟩ := hstep
    rw [← hX] at hle
    have HLS := Lib.hid hl
    obtain ⟨t3, ht3⟩ : ∃ t, Bl.less b ⟨X.round - 1, node⟩ = t := ⟨_, rfl⟩
    have HT3 := Lib.hid ht3
    have heq := fun W => run_eql_bal W X X
    rw [show decide (X = X) = true by simp] at heq
    dsimp only [Bl.cells] at heq
    rw [show decide ((0 : Int) = 0) = true by decide]
    have hwr : IntKind.i64.wrap (X.round - 1) = X.round - 1 := by rw [IntKind.wrap_i64]; omega
    have hne : (X.node == node) = true := by rw [hn]; simp
    obtain ⟨t1, ht1⟩ : ∃ t, (X.round == 1) = t := ⟨_, rfl⟩
    have HOR : Hid (t1 = true ∨ t3 = false) := by
      rcases h3 with h3 | h3
      · left; rw [← ht1, h3]; rfl
      · right; rw [← ht3]; exact h3
    clear hm hw9 hX hle hl hn h1 h2 h3 ht3
    go_wp2_with (refine store_bal (by rfl) _ _ (by rfl) w4.heap.size Bl.zero X (by rfl) (by rfl) (Lies.new _ _ _) ?_; intro w5 hl5 hg5; have hB5 := fresh_below hg5; have HL5 := Lib.hid (HL4.out.below hB5 HL4.out.lt); have HX5 := Lib.hid (HX4.out.below hB5 HX4.out.lt); have HY5 := Lib.hid hl5; have HB5 := Lib.hid (HB4.out.trans (hB5.mono HB4.out.size)); obtain ⟨x0, x1⟩ := Bals.both HX5.out; obtain ⟨w6, e6, hl6, hB6, hz6⟩ := box_bal w5 ⟨X.round - 1, node⟩; dsimp only [Bl.cells] at e6; have HL6 := Lib.hid (HL5.out.below hB6 HL5.out.lt); have HX6 := Lib.hid (HX5.out.below hB6 HX5.out.lt); have HY6 := Lib.hid (HY5.out.below hB6 HY5.out.lt); have HZ6 := Lib.hid hl6; have HB6 := Lib.hid (HB5.out.trans (hB6.mono HB5.out.size)); obtain ⟨p0, p1⟩ := Bals.both HL6.out; obtain ⟨u0, u1⟩ := Bals.both HX6.out; obtain ⟨v0, v1⟩ := Bals.both HY6.out; clear hB5 hl5 hg5 hB6 hl6 hz6)
    refine (brefLess_any b X _).mono ?_
    rintro e w7 ⟨rfl, hB7⟩
    rw [HLS.out]
    have HL7 := Lib.hid (HL6.out.below hB7 HL6.out.lt)
    have HZ7 := Lib.hid (HZ6.out.below hB7 HZ6.out.lt)
    have HB7 := Lib.hid (HB6.out.trans (hB7.mono HB6.out.size))
    obtain ⟨a0, a1⟩ := Bals.both (HX6.out.below hB7 HX6.out.lt)
    obtain ⟨b0, b1⟩ := Bals.both HL7.out
    obtain ⟨c0, c1⟩ := Bals.both HZ7.out
    dsimp only at c0 c1
    clear hB7 p0 p1 u0 u1 v0 v1
    cases t1 with
    | true =>
      clear HOR
      go_wp2_with fail
      refine (HAW.out _ HB7.out).mono ?_
      rintro e w8 ⟨rfl, hB8⟩
      go_wp2
      go_ret
      exact truly_of (HB7.out.trans (hB8.mono HB7.out.size))
    | false =>
      obtain rfl : t3 = false := HOR.out.resolve_left (by simp)
      clear HOR
      go_wp2_with fail
      refine (brefLess_any b ⟨X.round - 1, node⟩ _).mono ?_
      rintro e w8 ⟨rfl, hB8⟩
      rw [HT3.out]
      have HB8 := Lib.hid (HB7.out.trans (hB8.mono HB7.out.size))
      clear hB8
      go_wp2_with fail
      refine (HAW.out _ HB8.out).mono ?_
      rintro e w9 ⟨rfl, hB9⟩
      go_wp2
      go_ret
      exact truly_of (HB8.out.trans (hB9.mono HB8.out.size))

end Go.Proofs.YtjdohnadgdeaiaaDoor
