/- Ballots: May, Less, Text, Next; the document's May, Less, Text, Next. -/
import Derived.Test.YtdbiplicmdnblaaDoorBalMem
import Derived.Test.YtdbiplicmdnblaaDoorDig
import Derived.Deep.RegionHeld3
namespace Go.Proofs.YtdbiplicmdnblaaDoor
open Go.RowKit

theorem bwithin_any (n m : Int) (w : World) : Calls Tryd.prog 39 #[.int .i64 n, .int .i64 m] w (Says w (.bool (Bl.within n m))) := by
  by_cases h1 : 1 ≤ n
  · have d1 : decide (1 ≤ n) = true := decide_eq_true h1
    by_cases h2 : n ≤ m
    · have d2 : decide (n ≤ m) = true := decide_eq_true h2
      go_enter Tryd.func39, Tryd.ntmps39
      go_wp2
      go_ret
      exact ⟨by simp [Bl.within, d1, d2], rfl⟩
    · have d2 : decide (n ≤ m) = false := decide_eq_false h2
      go_enter Tryd.func39, Tryd.ntmps39
      go_wp2
      go_ret
      exact ⟨by simp [Bl.within, d1, d2], rfl⟩
  · have d1 : decide (1 ≤ n) = false := decide_eq_false h1
    go_enter Tryd.func39, Tryd.ntmps39
    go_wp2
    go_ret
    exact ⟨by simp [Bl.within, d1], rfl⟩

set_option maxRecDepth 4000 in
theorem bmay_any (b : Bl.Bal) (w : World) : Calls Tryd.prog 28 #[.agg (Bl.cells b)] w (Looks w (.bool (Bl.may b))) := by
  obtain ⟨w1, e1, hl1, hB1, hz1⟩ := box_bal w b
  obtain ⟨p0, p1⟩ := Bals.both hl1
  have HB1 := Lib.hid hB1
  have heq := fun W => run_eql_bal W b Bl.zero
  have hgd := guard_bal
  obtain ⟨t, ht⟩ : ∃ t, t = decide (b = Bl.zero) := ⟨_, rfl⟩
  rw [← ht] at heq
  have HT := Lib.hid ht
  obtain ⟨r, hr⟩ : ∃ r, r = Bl.within b.round 4294967296 := ⟨_, rfl⟩
  obtain ⟨n, hn⟩ : ∃ n, n = Bl.within b.node 9 := ⟨_, rfl⟩
  have HM : Hid (Bl.may b = (t || (r && n))) := by show _ = _; rw [ht, hr, hn]; rfl
  have HR := Lib.hid hr
  have HN := Lib.hid hn
  clear ht hr hn hl1 hB1 hz1
  dsimp only [Bl.cells, Bl.zero] at heq
  go_enter Tryd.func28, Tryd.ntmps28
  cases t with
  | true =>
    go_wp2
    go_ret
    exact ⟨by rw [HM.out]; rfl, HB1.out⟩
  | false =>
    go_wp2_with fail
    refine (bwithin_any b.round 4294967296 _).mono ?_
    rintro e w2 ⟨rfl, rfl⟩
    rw [← HR.out]
    cases r with
    | false =>
      go_wp2
      go_ret
      exact ⟨by rw [HM.out]; rfl, HB1.out⟩
    | true =>
      go_wp2_with fail
      refine (bwithin_any b.node 9 _).mono ?_
      rintro e w2 ⟨rfl, rfl⟩
      rw [← HN.out]
      go_wp2
      go_ret
      exact ⟨by rw [HM.out]; rfl, HB1.out⟩

set_option maxRecDepth 4000 in
set_option maxHeartbeats 1600000 in
theorem brefMay_any (b : Bl.Bal) (w : World) : Calls Tryd.prog 21 #[.agg (Bl.cells b)] w (Looks w (.bool (Bl.may b))) := by
  obtain ⟨w1, e1, hl1, hB1, hz1⟩ := box_bal w b
  obtain ⟨p0, p1⟩ := Bals.both hl1
  have HB1 := Lib.hid hB1
  obtain ⟨r, n⟩ := b
  dsimp only at p0 p1
  obtain ⟨t0, h0⟩ : ∃ t, (r == 0) = t := ⟨_, rfl⟩
  obtain ⟨t1, h1⟩ : ∃ t, (n == 0) = t := ⟨_, rfl⟩
  obtain ⟨t2, h2⟩ : ∃ t, decide (1 ≤ r) = t := ⟨_, rfl⟩
  obtain ⟨t3, h3⟩ : ∃ t, decide (r ≤ 4294967296) = t := ⟨_, rfl⟩
  obtain ⟨t4, h4⟩ : ∃ t, decide (1 ≤ n) = t := ⟨_, rfl⟩
  obtain ⟨t5, h5⟩ : ∃ t, decide (n ≤ 9) = t := ⟨_, rfl⟩
  have HM : Hid (Bl.may ⟨r, n⟩ = ((t0 && t1) || ((t2 && t3) && (t4 && t5)))) := by
    show _ = _
    rw [← h0, ← h1, ← h2, ← h3, ← h4, ← h5]
    simp only [Bl.may, Bl.zero, Bl.within, Bl.Bal.mk.injEq, Bool.decide_and]
    rfl
  have HE := Lib.hid e1
  clear hl1 hB1 hz1
  cases t0 <;> cases t1 <;> cases t2 <;> (try cases t3) <;> (try cases t4)
  all_goals
    go_enter Tryd.func21, Tryd.ntmps21
    go_wp2
    go_ret
    first
      | exact ⟨by rw [HM.out]; rfl, HB1.out⟩
      | exact ⟨by rw [HM.out, ← h5]; rfl, HB1.out⟩

end Go.Proofs.YtdbiplicmdnblaaDoor
