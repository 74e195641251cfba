/- Check of an answer: the program's, the document's; what tells whether an encoding goes on. -/
import Derived.Test.YtammfmmpldahhaaGreatAnsMem
import Derived.Test.YtammfmmpldahhaaGreatGRune
namespace Go.Proofs.YtammfmmpldahhaaGreat
open Go.RowKit

theorem awithin_any (n l m : Int) (w : World) : Calls Tryz.prog 110 #[.int .i64 n, .int .i64 l, .int .i64 m] w (Says w (.bool (An.within n l m))) := by
  by_cases h1 : l ≤ n
  · have d1 : decide (l ≤ n) = true := decide_eq_true h1
    by_cases h2 : n ≤ m
    · have d2 : decide (n ≤ m) = true := decide_eq_true h2
      go_enter Tryz.func110, Tryz.ntmps110
      go_wp2
      go_ret
      exact ⟨by simp [An.within, d1, d2], rfl⟩
    · have d2 : decide (n ≤ m) = false := decide_eq_false h2
      go_enter Tryz.func110, Tryz.ntmps110
      go_wp2
      go_ret
      exact ⟨by simp [An.within, d1, d2], rfl⟩
  · have d1 : decide (l ≤ n) = false := decide_eq_false h1
    go_enter Tryz.func110, Tryz.ntmps110
    go_wp2
    go_ret
    exact ⟨by simp [An.within, d1], rfl⟩

set_option maxRecDepth 4000 in
set_option maxHeartbeats 1600000 in
theorem acheck_any (a : An.Ans) (w : World) (hs : a.val.length ≤ 140737488355328) : Calls Tryz.prog 103 #[.agg (An.cells a)] w (Looks w (.int .i64 (An.check a))) := by
  have hsz : (ByteArray.mk a.val.toArray).size ≤ 140737488355328 := by rw [str_size]; exact hs
  obtain ⟨w1, e1, hl1, hB1, hz1⟩ := box_ans w a
  obtain ⟨p0, p1, p2, p3, p4, p5⟩ := Anss.every hl1
  have HB1 := Lib.hid hB1
  clear hl1 hB1 hz1 hs
  obtain ⟨r, hr⟩ : ∃ r, r = An.check a := ⟨_, rfl⟩
  rw [← hr]
  unfold An.check An.okN at hr
  have HR := Lib.hid hr
  clear hr
  obtain ⟨t1, ht1⟩ : ∃ t, t = An.within a.client 1 8 := ⟨_, rfl⟩
  obtain ⟨t2, ht2⟩ : ∃ t, t = An.within a.seq 1 4294967296 := ⟨_, rfl⟩
  obtain ⟨t3, ht3⟩ : ∃ t, t = An.within a.err 0 17 := ⟨_, rfl⟩
  obtain ⟨t4, ht4⟩ : ∃ t, t = An.within a.rev 0 4294967296 := ⟨_, rfl⟩
  obtain ⟨t5, ht5⟩ : ∃ t, t = Rn.val ⟨a.val.toArray⟩ := ⟨_, rfl⟩
  rw [← ht1, ← ht2, ← ht3, ← ht4, ← ht5] at HR
  obtain ⟨S, hS⟩ : ∃ S, S = ByteArray.mk a.val.toArray := ⟨_, rfl⟩
  rw [← hS] at p4 hsz ht5
  have H1 := Lib.hid ht1; have H2 := Lib.hid ht2; have H3 := Lib.hid ht3; have H4 := Lib.hid ht4; have H5 := Lib.hid ht5
  clear ht1 ht2 ht3 ht4 ht5 hS
  go_enter Tryz.func103, Tryz.ntmps103
  go_wp2_with fail
  refine (awithin_any a.client 1 8 _).mono ?_
  rintro e w2 ⟨rfl, rfl⟩
  rw [← H1.out]
  cases t1 with
  | false =>
    go_wp2
    go_ret
    exact ⟨by rw [HR.out]; rfl, HB1.out⟩
  | true =>
    go_wp2_with fail
    refine (awithin_any a.seq 1 4294967296 _).mono ?_
    rintro e w2 ⟨rfl, rfl⟩
    rw [← H2.out]
    cases t2 with
    | false =>
      go_wp2
      go_ret
      exact ⟨by rw [HR.out]; rfl, HB1.out⟩
    | true =>
      go_wp2_with fail
      refine (awithin_any a.err 0 17 _).mono ?_
      rintro e w2 ⟨rfl, rfl⟩
      rw [← H3.out]
      cases t3 with
      | false =>
        go_wp2
        go_ret
        exact ⟨by rw [HR.out]; rfl, HB1.out⟩
      | true =>
        go_wp2_with fail
        refine (awithin_any a.rev 0 4294967296 _).mono ?_
        rintro e w2 ⟨rfl, rfl⟩
        rw [← H4.out]
        cases t4 with
        | false =>
          go_wp2
          go_ret
          exact ⟨by rw [HR.out]; rfl, HB1.out⟩
        | true =>
          go_wp2_with fail
          refine (val_any S _ hsz).mono ?_
          rintro e w2 ⟨rfl, hB2⟩
          rw [← H5.out]
          have HB2 := Lib.hid (HB1.out.trans (hB2.mono HB1.out.size))
          clear hB2
          cases t5 with
          | false =>
            go_wp2
            go_ret
            exact ⟨by rw [HR.out]; rfl, HB2.out⟩
          | true =>
            go_wp2
            go_ret
            exact ⟨by rw [HR.out]; rfl, HB2.out⟩

/-- What tells whether an encoding goes on: a function that holds the version's block. -/
abbrev More (g : Nat) : Value := .func (.func 93) #[] #[.pointer (some ⟨g, 0, none⟩)]
theorem longer_any (v : Int) (w : World) : Calls Tryz.prog 78 #[.int .i64 v] w fun e w' => e = .returned (More w.heap.size) ∧ Lies w' w.heap.size 3 #[.int .i64 v] ∧ Below w.heap.size w w' := by
  have hmf : ∀ (fn : Fn) (first cap : Array Value) (w : World), (Instr.makeFunc fn first cap).run Tryz.prog w = .ok (.func fn first cap) w := fun _ _ _ _ => rfl
  go_enter Tryz.func78, Tryz.ntmps78
  go_wp2
  go_ret
  exact ⟨rfl, Lies.new _ _ _, (Below.refl _ w).alloc (Nat.le_refl _) _⟩
theorem more_any (v : Int) (g : Nat) (w : World) (hl : Lies w g 3 #[.int .i64 v]) : Calls Tryz.prog 93 #[.pointer (some ⟨g, 0, none⟩)] w (Says w (.bool (v == 2))) := by
  have hc : w.cell? ⟨g, 0, none⟩ = some (.int .i64 v) := hl.cell 0 _ rfl
  go_enter Tryz.func93, Tryz.ntmps93
  go_wp2
  go_ret
  exact ⟨rfl, rfl⟩

end Go.Proofs.YtammfmmpldahhaaGreat
