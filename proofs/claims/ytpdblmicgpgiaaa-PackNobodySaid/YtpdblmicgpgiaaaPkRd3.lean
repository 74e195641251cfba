/- pack's reader: Raw, Done, NewReader; where there is no reader. -/
import Derived.Test.YtpdblmicgpgiaaaPkRd2
namespace Go.Proofs.Ytpdblmicgpgiaaa
open Go.RowKit

set_option maxRecDepth 4000 in
set_option maxHeartbeats 800000 in
theorem readR_is (most : Int) (w : World) (B o : Nat) (v : Value) (b : List UInt8) (p : Nat) (x : List UInt8) (q : Nat) (e : Int) (hr : Rdr w B o v b p 0) (hx : e ≠ 0 → x = []) (hl : x.length ≤ 70368744177664) (h : Hid (Pk.txt b p most = (x, (q : Int), e))) :
    Calls Try.prog 39 #[.pointer (some ⟨o, 0, none⟩), .func (.func 40) #[.pointer (some ⟨o, 0, none⟩)] #[], .int .i64 most] w (fun en w' => ∃ u, Gave w B o v b q e u en w' ∧ Reads w' u x) := by
  go_enter Try.func39, Try.ntmps39
  go_wp2_with fail
  refine (rerr_any _ B o v b p 0 hr).mono ?_
  rintro e1 w1 ⟨rfl, rfl⟩
  go_wp2_with fail
  refine (raw_is most _ B o v b p 0 _ _ _ hr hl h).mono ?_
  rintro e2 w2 ⟨u, ⟨rfl, hr2, hg2⟩, hu⟩
  obtain ⟨uo, uc, rfl⟩ := hu.reads.shape
  by_cases he : e = 0
  · subst he
    go_wp2
    go_ret
    exact ⟨_, ⟨rfl, hr2, hg2⟩, hu.reads⟩
  · obtain rfl := hx he
    clear hx
    have hc2 := hr2.lies.cell 2 (.int .i64 0) rfl
    have hf2 := hr2.lies.free 2
    have hs := hr2.errs e
    go_wp2
    go_ret
    exact ⟨_, ⟨rfl, hs.1, grown_on hg2 hs.2⟩, Reads.empty _⟩

set_option maxHeartbeats 400000 in
theorem readR_err (most er : Int) (fv : Value) (w : World) (B o : Nat) (v : Value) (b : List UInt8) (p : Nat) (hr : Rdr w B o v b p er) (he : er ≠ 0) :
    Calls Try.prog 39 #[.pointer (some ⟨o, 0, none⟩), fv, .int .i64 most] w (Gave w B o v b p er (.slice none 0 0)) := by
  go_enter Try.func39, Try.ntmps39
  go_wp2_with fail
  refine (rerr_any _ B o v b p er hr).mono ?_
  rintro e1 w1 ⟨rfl, rfl⟩
  go_wp2
  go_ret
  exact ⟨rfl, hr, World.grownBy.refl _ _⟩

theorem rraw_is (most : Int) (w : World) (B o : Nat) (v : Value) (b : List UInt8) (p : Nat) (x : List UInt8) (q : Nat) (e : Int) (hr : Rdr w B o v b p 0) (hx : e ≠ 0 → x = []) (hl : x.length ≤ 70368744177664) (h : Hid (Pk.txt b p most = (x, (q : Int), e))) :
    Calls Try.prog 25 #[.pointer (some ⟨o, 0, none⟩), .int .i64 most] w (fun en w' => ∃ u, Gave w B o v b q e u en w' ∧ Reads w' u x) := by
  have hmf : ∀ (fn : Fn) (first cap : Array Value) (w : World), (Instr.makeFunc fn first cap).run Try.prog w = .ok (.func fn first cap) w := fun _ _ _ _ => rfl
  go_enter Try.func25, Try.ntmps25
  go_wp2_with fail
  refine (readR_is most _ B o v b p x q e hr hx hl h).mono ?_
  rintro e1 w1 ⟨u, ⟨rfl, hr1, hg1⟩, hu⟩
  go_wp2
  go_ret
  exact ⟨_, ⟨rfl, hr1, hg1⟩, hu⟩
theorem rraw_err (most er : Int) (w : World) (B o : Nat) (v : Value) (b : List UInt8) (p : Nat) (hr : Rdr w B o v b p er) (he : er ≠ 0) :
    Calls Try.prog 25 #[.pointer (some ⟨o, 0, none⟩), .int .i64 most] w (Gave w B o v b p er (.slice none 0 0)) := by
  have hmf : ∀ (fn : Fn) (first cap : Array Value) (w : World), (Instr.makeFunc fn first cap).run Try.prog w = .ok (.func fn first cap) w := fun _ _ _ _ => rfl
  go_enter Try.func25, Try.ntmps25
  go_wp2_with fail
  refine (readR_err most er _ _ B o v b p hr he).mono ?_
  rintro e1 w1 ⟨rfl, hr1, hg1⟩
  go_wp2
  go_ret
  exact ⟨rfl, hr1, hg1⟩

/-- What Done tells. -/
def Pk.done (b : List UInt8) (p : Nat) (er : Int) : Int := if er ≠ 0 then er else if p < b.length then 3 else 0

set_option maxRecDepth 4000 in
set_option maxHeartbeats 400000 in
theorem rdone_any (w : World) (B o : Nat) (v : Value) (b : List UInt8) (p : Nat) (er : Int) (hr : Rdr w B o v b p er) :
    Calls Try.prog 16 #[.pointer (some ⟨o, 0, none⟩)] w fun en w' => en = .returned (.int .i64 (Pk.done b p er)) ∧ ∃ q, w' = w.drewN q := by
  have hc0 := hr.lies.cell 0 v rfl
  have hc1 := hr.lies.cell 1 (.int .i64 (p : Int)) rfl
  have hin := hr.inn
  obtain ⟨ao, cap, rfl⟩ := hr.owns.reads.shape
  unfold Pk.done
  by_cases he : er = 0
  · subst he
    by_cases hp : p < b.length
    all_goals
      rw [if_neg (by simp)]
      first | rw [if_pos hp] | rw [if_neg hp]
      go_enter Try.func16, Try.ntmps16
      go_wp2_with fail
      refine (rerr_any _ B o _ b p 0 hr).mono ?_
      rintro e1 w1 ⟨rfl, rfl⟩
      go_wp2
      go_quiet (fail)
      go_wp2
      go_ret
      exact ⟨rfl, _, rfl⟩
  · rw [if_pos he]
    go_enter Try.func16, Try.ntmps16
    go_wp2_with fail
    refine (rerr_any _ B o _ b p er hr).mono ?_
    rintro e1 w1 ⟨rfl, rfl⟩
    go_wp2
    go_ret
    exact ⟨rfl, 0, rfl⟩

set_option maxRecDepth 4000 in
set_option maxHeartbeats 400000 in
theorem newreader_any (u : Value) (b : List UInt8) (w : World) (B : Nat) (hB : B ≤ w.heap.size) (hu : Reads w u b) (hb : b.length ≤ 70368744177664) :
    Calls Try.prog 12 #[u] w fun en w' => ∃ o v, en = .returned (.pointer (some ⟨o, 0, none⟩)) ∧ w.heap.size ≤ o ∧ Rdr w' B o v b 0 0 ∧ Below w.heap.size w w' := by
  go_enter Try.func12, Try.ntmps12
  go_wp2_with fail
  refine (clone_any u b _ hu (by omega)).mono ?_
  rintro e1 w1 ⟨v, rfl, ho, hb1⟩
  obtain ⟨vo, vc, rfl⟩ := ho.reads.shape
  have hz := hb1.size
  go_wp2
  go_ret
  refine ⟨_, _, rfl, hb1.size, ⟨by omega, Lies.new _ _ _, (ho.mono hB).alloc _, by omega, hb⟩, hb1.alloc hb1.size _⟩

/-! Where there is no reader. -/
theorem rnum_nil (n : Int) (w : World) : Calls Try.prog 17 #[.pointer none, .int .i64 n] w fun e w' => e = .returned (.int .i64 0) ∧ w = w' := by
  have hmf : ∀ (fn : Fn) (first cap : Array Value) (w : World), (Instr.makeFunc fn first cap).run Try.prog w = .ok (.func fn first cap) w := fun _ _ _ _ => rfl
  go_enter Try.func17, Try.ntmps17
  go_wp2_with (first | go_in)
  go_ret
  exact ⟨rfl, rfl⟩
theorem rtext_nil (n : Int) (w : World) : Calls Try.prog 18 #[.pointer none, .int .i64 n] w fun e w' => e = .returned (.string ⟨#[]⟩) ∧ w = w' := by
  have hmf : ∀ (fn : Fn) (first cap : Array Value) (w : World), (Instr.makeFunc fn first cap).run Try.prog w = .ok (.func fn first cap) w := fun _ _ _ _ => rfl
  go_enter Try.func18, Try.ntmps18
  go_wp2_with (first | go_in)
  go_ret
  exact ⟨rfl, rfl⟩
theorem rraw_nil (n : Int) (w : World) : Calls Try.prog 25 #[.pointer none, .int .i64 n] w fun e w' => e = .returned (.slice none 0 0) ∧ w = w' := by
  have hmf : ∀ (fn : Fn) (first cap : Array Value) (w : World), (Instr.makeFunc fn first cap).run Try.prog w = .ok (.func fn first cap) w := fun _ _ _ _ => rfl
  go_enter Try.func25, Try.ntmps25
  go_wp2_with (first | go_in)
  go_ret
  exact ⟨rfl, rfl⟩
theorem rcnt_nil (n : Int) (w : World) : Calls Try.prog 26 #[.pointer none, .int .i64 n] w fun e w' => e = .returned (.int .i64 0) ∧ w = w' := by
  have hmf : ∀ (fn : Fn) (first cap : Array Value) (w : World), (Instr.makeFunc fn first cap).run Try.prog w = .ok (.func fn first cap) w := fun _ _ _ _ => rfl
  go_enter Try.func26, Try.ntmps26
  go_wp2_with (first | go_in)
  go_ret
  exact ⟨rfl, rfl⟩
theorem rflag_nil (w : World) : Calls Try.prog 19 #[.pointer none] w fun e w' => e = .returned (.bool false) ∧ w = w' := by
  have hmf : ∀ (fn : Fn) (first cap : Array Value) (w : World), (Instr.makeFunc fn first cap).run Try.prog w = .ok (.func fn first cap) w := fun _ _ _ _ => rfl
  go_enter Try.func19, Try.ntmps19
  go_wp2_with (first | go_in)
  go_ret
  exact ⟨rfl, rfl⟩
theorem rerr_nil (w : World) : Calls Try.prog 15 #[.pointer none] w fun e w' => e = .returned (.int .i64 1) ∧ w = w' := by
  have hmf : ∀ (fn : Fn) (first cap : Array Value) (w : World), (Instr.makeFunc fn first cap).run Try.prog w = .ok (.func fn first cap) w := fun _ _ _ _ => rfl
  go_enter Try.func15, Try.ntmps15
  go_wp2_with (first | go_in)
  go_ret
  exact ⟨rfl, rfl⟩
theorem rdone_nil (w : World) : Calls Try.prog 16 #[.pointer none] w fun e w' => e = .returned (.int .i64 1) ∧ w = w' := by
  have hmf : ∀ (fn : Fn) (first cap : Array Value) (w : World), (Instr.makeFunc fn first cap).run Try.prog w = .ok (.func fn first cap) w := fun _ _ _ _ => rfl
  go_enter Try.func16, Try.ntmps16
  go_wp2_with (first | go_in)
  go_ret
  exact ⟨rfl, rfl⟩
end Go.Proofs.Ytpdblmicgpgiaaa
