/- pack's reader: strings, bytes and flags, and what keeps the first error. -/
import Derived.Test.YtpdblmicgpgiaaaPkRd
namespace Go.Proofs.Ytpdblmicgpgiaaa
open Go.RowKit

/-- The count and the skip of a reader, as values. -/
abbrev Cnt (o : Nat) : Value := .func (.func 41) #[.pointer (some ⟨o, 0, none⟩)] #[]
abbrev Skp (o : Nat) : Value := .func (.func 44) #[.pointer (some ⟨o, 0, none⟩)] #[]

set_option maxRecDepth 4000 in
set_option maxHeartbeats 800000 in
theorem stretchS_is (most : Int) (w : World) (B o : Nat) (v : Value) (b : List UInt8) (p : Nat) (er : Int) (s : List UInt8) (q : Nat) (e : Int) (hr : Rdr w B o v b p er) (h : Hid (Pk.txt b p most = (s, (q : Int), e))) :
    Calls Try.prog 43 #[Cnt o, Skp o, .int .i64 most] w (Got w B o v b q er (.string ⟨s.toArray⟩) e) := by
  rcases Pk.txt_cases b p most hr.inn with ⟨e', q', he, h1, hg, hn⟩ | ⟨n', q', hg, h1, hn⟩
  all_goals
    have h' := h.out
    rw [hn] at h'
    simp only [Prod.mk.injEq, Int.natCast_inj] at h'
    obtain ⟨rfl, rfl, rfl⟩ := h'
    have HG := Lib.hid hg
    clear hg hn h
    go_enter Try.func43, Try.ntmps43
    go_wp2_with fail
    refine (count_is most _ B o v b p er _ _ _ hr HG).mono ?_
    rintro e1 w1 ⟨rfl, hr1, hg1⟩
    go_wp2_with fail
  · go_ret2
    exact ⟨rfl, hr1, hg1⟩
  · refine (skip_any n' _ B o v b q' er hr1 h1).mono ?_
    rintro e2 w2 ⟨u, rfl, hu, hr2, hg2⟩
    obtain ⟨uo, uc, rfl⟩ := hu.shape
    have hst := run_string_of (P := Try.prog) _ Try.underlying26 Try.underlying5 Try.underlying9 hu
    obtain ⟨m, hm⟩ : ∃ m, m = ((b.drop q').take n').length := ⟨_, rfl⟩
    rw [← hm] at hst ⊢
    clear hm
    go_wp2
    go_ret2
    exact ⟨rfl, hr2, grown_on hg1 hg2⟩

set_option maxRecDepth 4000 in
set_option maxHeartbeats 800000 in
theorem stretchB_is (most : Int) (w : World) (B o : Nat) (v : Value) (b : List UInt8) (p : Nat) (er : Int) (s : List UInt8) (q : Nat) (e : Int) (hr : Rdr w B o v b p er) (h : Hid (Pk.txt b p most = (s, (q : Int), e))) :
    Calls Try.prog 46 #[Cnt o, Skp o, .int .i64 most] w (fun en w' => ∃ u, Got w B o v b q er u e en w' ∧ Reads w' u s) := by
  rcases Pk.txt_cases b p most hr.inn with ⟨e', q', he, h1, hg, hn⟩ | ⟨n', q', hg, h1, hn⟩
  all_goals
    have h' := h.out
    rw [hn] at h'
    simp only [Prod.mk.injEq, Int.natCast_inj] at h'
    obtain ⟨rfl, rfl, rfl⟩ := h'
    have HG := Lib.hid hg
    clear hg hn h
    go_enter Try.func46, Try.ntmps46
    go_wp2_with fail
    refine (count_is most _ B o v b p er _ _ _ hr HG).mono ?_
    rintro e1 w1 ⟨rfl, hr1, hg1⟩
    go_wp2_with fail
  · go_ret2
    exact ⟨_, ⟨rfl, hr1, hg1⟩, Reads.empty _⟩
  · refine (skip_any n' _ B o v b q' er hr1 h1).mono ?_
    rintro e2 w2 ⟨u, rfl, hu, hr2, hg2⟩
    obtain ⟨uo, uc, rfl⟩ := hu.shape
    obtain ⟨m, hm⟩ : ∃ m, m = ((b.drop q').take n').length := ⟨_, rfl⟩
    rw [← hm] at hu ⊢
    clear hm
    go_wp2
    go_ret2
    exact ⟨_, ⟨rfl, hr2, grown_on hg1 hg2⟩, hu⟩

set_option maxRecDepth 4000 in
set_option maxHeartbeats 800000 in
theorem text_is (most : Int) (w : World) (B o : Nat) (v : Value) (b : List UInt8) (p : Nat) (er : Int) (s : List UInt8) (q : Nat) (e : Int) (hr : Rdr w B o v b p er) (h : Hid (Pk.txt b p most = (s, (q : Int), e))) :
    Calls Try.prog 35 #[.pointer (some ⟨o, 0, none⟩), .int .i64 most] w (Got w B o v b q er (.string ⟨s.toArray⟩) e) := by
  have hmf : ∀ (fn : Fn) (first cap : Array Value) (w : World), (Instr.makeFunc fn first cap).run Try.prog w = .ok (.func fn first cap) w := fun _ _ _ _ => rfl
  go_enter Try.func35, Try.ntmps35
  go_wp2_with fail
  refine (stretchS_is most _ B o v b p er _ _ _ hr h).mono ?_
  rintro e1 w1 ⟨rfl, hr1, hg1⟩
  go_wp2
  go_ret2
  exact ⟨rfl, hr1, hg1⟩

set_option maxRecDepth 4000 in
set_option maxHeartbeats 800000 in
theorem raw_is (most : Int) (w : World) (B o : Nat) (v : Value) (b : List UInt8) (p : Nat) (er : Int) (s : List UInt8) (q : Nat) (e : Int) (hr : Rdr w B o v b p er) (hs : s.length ≤ 70368744177664) (h : Hid (Pk.txt b p most = (s, (q : Int), e))) :
    Calls Try.prog 40 #[.pointer (some ⟨o, 0, none⟩), .int .i64 most] w (fun en w' => ∃ u, Got w B o v b q er u e en w' ∧ Owns w' w.heap.size 5 u s) := by
  have hmf : ∀ (fn : Fn) (first cap : Array Value) (w : World), (Instr.makeFunc fn first cap).run Try.prog w = .ok (.func fn first cap) w := fun _ _ _ _ => rfl
  go_enter Try.func40, Try.ntmps40
  go_wp2_with fail
  refine (stretchB_is most _ B o v b p er _ _ _ hr h).mono ?_
  rintro e1 w1 ⟨u, ⟨rfl, hr1, hg1⟩, hu⟩
  go_wp2_with fail
  refine (clone_any u s _ hu (by omega)).mono ?_
  rintro e2 w2 ⟨u2, rfl, ho, hb⟩
  go_wp2
  go_ret2
  exact ⟨_, ⟨rfl, hr1.kept hb, grown_on hg1 (grown_any (grown_of_below hb) _)⟩, ho.mono hg1.size⟩

set_option maxRecDepth 4000 in
set_option maxHeartbeats 800000 in
theorem flag_is (w : World) (B o : Nat) (v : Value) (b : List UInt8) (p : Nat) (er : Int) (x : Bool) (q : Nat) (e : Int) (hr : Rdr w B o v b p er) (h : Hid (Pk.flg b p = (x, (q : Int), e))) :
    Calls Try.prog 37 #[.pointer (some ⟨o, 0, none⟩), .int .i64 1] w (Got w B o v b q er (.bool x) e) := by
  have hin := hr.inn
  have hsm := hr.small
  have hc0 := hr.lies.cell 0 v rfl
  have hc1 := hr.lies.cell 1 (.int .i64 (p : Int)) rfl
  obtain ⟨ao, cap, rfl⟩ := hr.owns.reads.shape
  have h' := h.out
  by_cases hp : p = b.length
  · subst hp
    rw [Pk.flg_end] at h'
    simp only [Prod.mk.injEq, Int.natCast_inj] at h'
    obtain ⟨rfl, rfl, rfl⟩ := h'
    clear h
    go_enter Try.func37, Try.ntmps37
    go_wp2
    go_quiet (fail)
    go_wp2
    go_ret2
    exact ⟨rfl, hr.drewN _, grown_drewN _ _ _⟩
  · obtain ⟨c, hc⟩ : ∃ c, b[p]? = some c := ⟨_, List.getElem?_eq_getElem (by omega)⟩
    rw [Pk.flg_at hc] at h'
    have hcut : (b.drop p).take 1 = [c] := by rw [drop_at hc]; rfl
    have hne : ¬ (p : Int) = (b.length : Int) := by omega
    have hu8 : (c.toNat : Int) < 256 := by have := c.toNat_lt; omega
    by_cases h1 : 1 < c.toNat
    all_goals
      first | rw [if_pos h1] at h' | rw [if_neg h1] at h'
      simp only [Prod.mk.injEq, Int.natCast_inj] at h'
      obtain ⟨rfl, rfl, rfl⟩ := h'
      clear h
      go_enter Try.func37, Try.ntmps37
      go_wp2
      go_quiet (fail)
      go_wp2_with fail
      refine (skip_any 1 _ B o _ b p er (hr.drewN _) (by omega)).mono ?_
      rintro e2 w2 ⟨u, rfl, hu, hr2, hg2⟩
      rw [hcut] at hu
      obtain ⟨uo, uc, rfl⟩ := hu.shape
      obtain ⟨ub, uoff, rfl, hcell⟩ := hu.place (by simp)
      have hcc := hcell 0 c rfl
      rw [Nat.add_zero] at hcc
      clear hcell
    · go_wp2
      go_ret2
      exact ⟨rfl, hr2, drewN_grown hg2⟩
    · obtain ⟨t, ht⟩ : ∃ t, t = ((c.toNat : Int) == 1) := ⟨_, rfl⟩
      have ht' : (c.toNat == 1) = t := by rw [ht, Bool.eq_iff_iff]; simp only [beq_iff_eq]; constructor <;> intro <;> omega
      have HT := Lib.hid ht'
      replace ht := ht.symm
      clear ht'
      go_wp2
      go_ret2
      refine ⟨?_, hr2, drewN_grown hg2⟩
      rw [HT.out]
      rfl

/-! ### What keeps the first error -/
set_option maxHeartbeats 400000 in
theorem rerr_any (w : World) (B o : Nat) (v : Value) (b : List UInt8) (p : Nat) (er : Int) (hr : Rdr w B o v b p er) :
    Calls Try.prog 15 #[.pointer (some ⟨o, 0, none⟩)] w fun en w' => en = .returned (.int .i64 er) ∧ w = w' := by
  have hc2 := hr.lies.cell 2 (.int .i64 er) rfl
  go_enter Try.func15, Try.ntmps15
  go_wp2
  go_ret
  exact ⟨rfl, rfl⟩

/-- The post of a reading: what it gives, the reader behind it. -/
def Gave (w : World) (B o : Nat) (v : Value) (b : List UInt8) (q : Nat) (e : Int) (x : Value) (en : Ending) (w' : World) : Prop :=
  en = .returned x ∧ Rdr w' B o v b q e ∧ w.grownBy w' (some o)

set_option maxRecDepth 4000 in
set_option maxHeartbeats 800000 in
theorem readN_is (most : Int) (w : World) (B o : Nat) (v : Value) (b : List UInt8) (p : Nat) (x : Int) (q : Nat) (e : Int) (hr : Rdr w B o v b p 0) (hx : e ≠ 0 → x = 0) (h : Hid (Pk.num b p most = (x, (q : Int), e))) :
    Calls Try.prog 32 #[.pointer (some ⟨o, 0, none⟩), .func (.func 33) #[.pointer (some ⟨o, 0, none⟩)] #[], .int .i64 most] w (Gave w B o v b q e (.int .i64 x)) := by
  go_enter Try.func32, Try.ntmps32
  go_wp2_with fail
  refine (rerr_any _ B o v b p 0 hr).mono ?_
  rintro e1 w1 ⟨rfl, rfl⟩
  go_wp2_with fail
  refine (number_is most _ B o v b p 0 _ _ _ hr h).mono ?_
  rintro e2 w2 ⟨rfl, hr2, hg2⟩
  by_cases he : e = 0
  · subst he
    go_wp2
    go_ret
    exact ⟨rfl, hr2, hg2⟩
  · obtain rfl := hx he
    clear hx
    have hc2 := hr2.lies.cell 2 (.int .i64 0) rfl
    have hf2 := hr2.lies.free 2
    have hs := hr2.errs e
    go_wp2
    go_ret
    exact ⟨rfl, hs.1, grown_on hg2 hs.2⟩

set_option maxHeartbeats 400000 in
theorem readN_err (most er : Int) (fv : Value) (w : World) (B o : Nat) (v : Value) (b : List UInt8) (p : Nat) (hr : Rdr w B o v b p er) (he : er ≠ 0) :
    Calls Try.prog 32 #[.pointer (some ⟨o, 0, none⟩), fv, .int .i64 most] w (Gave w B o v b p er (.int .i64 0)) := by
  go_enter Try.func32, Try.ntmps32
  go_wp2_with fail
  refine (rerr_any _ B o v b p er hr).mono ?_
  rintro e1 w1 ⟨rfl, rfl⟩
  go_wp2
  go_ret
  exact ⟨rfl, hr, World.grownBy.refl _ _⟩

/-- A reading, whether there is an error or not. -/
theorem rnum_is (most : Int) (w : World) (B o : Nat) (v : Value) (b : List UInt8) (p : Nat) (x : Int) (q : Nat) (e : Int) (hr : Rdr w B o v b p 0) (hx : e ≠ 0 → x = 0) (h : Hid (Pk.num b p most = (x, (q : Int), e))) :
    Calls Try.prog 17 #[.pointer (some ⟨o, 0, none⟩), .int .i64 most] w (Gave w B o v b q e (.int .i64 x)) := by
  have hmf : ∀ (fn : Fn) (first cap : Array Value) (w : World), (Instr.makeFunc fn first cap).run Try.prog w = .ok (.func fn first cap) w := fun _ _ _ _ => rfl
  go_enter Try.func17, Try.ntmps17
  go_wp2_with fail
  refine (readN_is most _ B o v b p x q e hr hx h).mono ?_
  rintro e1 w1 ⟨rfl, hr1, hg1⟩
  go_wp2
  go_ret
  exact ⟨rfl, hr1, hg1⟩
theorem rnum_err (most er : Int) (w : World) (B o : Nat) (v : Value) (b : List UInt8) (p : Nat) (hr : Rdr w B o v b p er) (he : er ≠ 0) :
    Calls Try.prog 17 #[.pointer (some ⟨o, 0, none⟩), .int .i64 most] w (Gave w B o v b p er (.int .i64 0)) := by
  have hmf : ∀ (fn : Fn) (first cap : Array Value) (w : World), (Instr.makeFunc fn first cap).run Try.prog w = .ok (.func fn first cap) w := fun _ _ _ _ => rfl
  go_enter Try.func17, Try.ntmps17
  go_wp2_with fail
  refine (readN_err most er _ _ B o v b p hr he).mono ?_
  rintro e1 w1 ⟨rfl, hr1, hg1⟩
  go_wp2
  go_ret
  exact ⟨rfl, hr1, hg1⟩

set_option maxRecDepth 4000 in
set_option maxHeartbeats 800000 in
theorem readC_is (most : Int) (w : World) (B o : Nat) (v : Value) (b : List UInt8) (p : Nat) (x : Int) (q : Nat) (e : Int) (hr : Rdr w B o v b p 0) (hx : e ≠ 0 → x = 0) (h : Hid (Pk.cnt b p most = (x, (q : Int), e))) :
    Calls Try.prog 32 #[.pointer (some ⟨o, 0, none⟩), .func (.func 41) #[.pointer (some ⟨o, 0, none⟩)] #[], .int .i64 most] w (Gave w B o v b q e (.int .i64 x)) := by
  go_enter Try.func32, Try.ntmps32
  go_wp2_with fail
  refine (rerr_any _ B o v b p 0 hr).mono ?_
  rintro e1 w1 ⟨rfl, rfl⟩
  go_wp2_with fail
  refine (count_is most _ B o v b p 0 _ _ _ hr h).mono ?_
  rintro e2 w2 ⟨rfl, hr2, hg2⟩
  by_cases he : e = 0
  · subst he
    go_wp2
    go_ret
    exact ⟨rfl, hr2, hg2⟩
  · obtain rfl := hx he
    clear hx
    have hc2 := hr2.lies.cell 2 (.int .i64 0) rfl
    have hf2 := hr2.lies.free 2
    have hs := hr2.errs e
    go_wp2
    go_ret
    exact ⟨rfl, hs.1, grown_on hg2 hs.2⟩

set_option maxHeartbeats 400000 in
theorem readC_err (most er : Int) (fv : Value) (w : World) (B o : Nat) (v : Value) (b : List UInt8) (p : Nat) (hr : Rdr w B o v b p er) (he : er ≠ 0) :
    Calls Try.prog 32 #[.pointer (some ⟨o, 0, none⟩), fv, .int .i64 most] w (Gave w B o v b p er (.int .i64 0)) := by
  go_enter Try.func32, Try.ntmps32
  go_wp2_with fail
  refine (rerr_any _ B o v b p er hr).mono ?_
  rintro e1 w1 ⟨rfl, rfl⟩
  go_wp2
  go_ret
  exact ⟨rfl, hr, World.grownBy.refl _ _⟩

/-- A reading, whether there is an error or not. -/
theorem rcnt_is (most : Int) (w : World) (B o : Nat) (v : Value) (b : List UInt8) (p : Nat) (x : Int) (q : Nat) (e : Int) (hr : Rdr w B o v b p 0) (hx : e ≠ 0 → x = 0) (h : Hid (Pk.cnt b p most = (x, (q : Int), e))) :
    Calls Try.prog 26 #[.pointer (some ⟨o, 0, none⟩), .int .i64 most] w (Gave w B o v b q e (.int .i64 x)) := by
  have hmf : ∀ (fn : Fn) (first cap : Array Value) (w : World), (Instr.makeFunc fn first cap).run Try.prog w = .ok (.func fn first cap) w := fun _ _ _ _ => rfl
  go_enter Try.func26, Try.ntmps26
  go_wp2_with fail
  refine (readC_is most _ B o v b p x q e hr hx h).mono ?_
  rintro e1 w1 ⟨rfl, hr1, hg1⟩
  go_wp2
  go_ret
  exact ⟨rfl, hr1, hg1⟩
theorem rcnt_err (most er : Int) (w : World) (B o : Nat) (v : Value) (b : List UInt8) (p : Nat) (hr : Rdr w B o v b p er) (he : er ≠ 0) :
    Calls Try.prog 26 #[.pointer (some ⟨o, 0, none⟩), .int .i64 most] w (Gave w B o v b p er (.int .i64 0)) := by
  have hmf : ∀ (fn : Fn) (first cap : Array Value) (w : World), (Instr.makeFunc fn first cap).run Try.prog w = .ok (.func fn first cap) w := fun _ _ _ _ => rfl
  go_enter Try.func26, Try.ntmps26
  go_wp2_with fail
  refine (readC_err most er _ _ B o v b p hr he).mono ?_
  rintro e1 w1 ⟨rfl, hr1, hg1⟩
  go_wp2
  go_ret
  exact ⟨rfl, hr1, hg1⟩

set_option maxRecDepth 4000 in
set_option maxHeartbeats 800000 in
theorem readT_is (most : Int) (w : World) (B o : Nat) (v : Value) (b : List UInt8) (p : Nat) (x : List UInt8) (q : Nat) (e : Int) (hr : Rdr w B o v b p 0) (hx : e ≠ 0 → x = []) (h : Hid (Pk.txt b p most = (x, (q : Int), e))) :
    Calls Try.prog 34 #[.pointer (some ⟨o, 0, none⟩), .func (.func 35) #[.pointer (some ⟨o, 0, none⟩)] #[], .int .i64 most] w (Gave w B o v b q e (.string ⟨x.toArray⟩)) := by
  go_enter Try.func34, Try.ntmps34
  go_wp2_with fail
  refine (rerr_any _ B o v b p 0 hr).mono ?_
  rintro e1 w1 ⟨rfl, rfl⟩
  go_wp2_with fail
  refine (text_is most _ B o v b p 0 _ _ _ hr h).mono ?_
  rintro e2 w2 ⟨rfl, hr2, hg2⟩
  by_cases he : e = 0
  · subst he
    go_wp2
    go_ret
    exact ⟨rfl, hr2, hg2⟩
  · obtain rfl := hx he
    clear hx
    have hc2 := hr2.lies.cell 2 (.int .i64 0) rfl
    have hf2 := hr2.lies.free 2
    have hs := hr2.errs e
    go_wp2
    go_ret
    exact ⟨rfl, hs.1, grown_on hg2 hs.2⟩

set_option maxHeartbeats 400000 in
theorem readT_err (most er : Int) (fv : Value) (w : World) (B o : Nat) (v : Value) (b : List UInt8) (p : Nat) (hr : Rdr w B o v b p er) (he : er ≠ 0) :
    Calls Try.prog 34 #[.pointer (some ⟨o, 0, none⟩), fv, .int .i64 most] w (Gave w B o v b p er (.string ⟨#[]⟩)) := by
  go_enter Try.func34, Try.ntmps34
  go_wp2_with fail
  refine (rerr_any _ B o v b p er hr).mono ?_
  rintro e1 w1 ⟨rfl, rfl⟩
  go_wp2
  go_ret
  exact ⟨rfl, hr, World.grownBy.refl _ _⟩

/-- A reading, whether there is an error or not. -/
theorem rtext_is (most : Int) (w : World) (B o : Nat) (v : Value) (b : List UInt8) (p : Nat) (x : List UInt8) (q : Nat) (e : Int) (hr : Rdr w B o v b p 0) (hx : e ≠ 0 → x = []) (h : Hid (Pk.txt b p most = (x, (q : Int), e))) :
    Calls Try.prog 18 #[.pointer (some ⟨o, 0, none⟩), .int .i64 most] w (Gave w B o v b q e (.string ⟨x.toArray⟩)) := by
  have hmf : ∀ (fn : Fn) (first cap : Array Value) (w : World), (Instr.makeFunc fn first cap).run Try.prog w = .ok (.func fn first cap) w := fun _ _ _ _ => rfl
  go_enter Try.func18, Try.ntmps18
  go_wp2_with fail
  refine (readT_is most _ B o v b p x q e hr hx h).mono ?_
  rintro e1 w1 ⟨rfl, hr1, hg1⟩
  go_wp2
  go_ret
  exact ⟨rfl, hr1, hg1⟩
theorem rtext_err (most er : Int) (w : World) (B o : Nat) (v : Value) (b : List UInt8) (p : Nat) (hr : Rdr w B o v b p er) (he : er ≠ 0) :
    Calls Try.prog 18 #[.pointer (some ⟨o, 0, none⟩), .int .i64 most] w (Gave w B o v b p er (.string ⟨#[]⟩)) := by
  have hmf : ∀ (fn : Fn) (first cap : Array Value) (w : World), (Instr.makeFunc fn first cap).run Try.prog w = .ok (.func fn first cap) w := fun _ _ _ _ => rfl
  go_enter Try.func18, Try.ntmps18
  go_wp2_with fail
  refine (readT_err most er _ _ B o v b p hr he).mono ?_
  rintro e1 w1 ⟨rfl, hr1, hg1⟩
  go_wp2
  go_ret
  exact ⟨rfl, hr1, hg1⟩

set_option maxRecDepth 4000 in
set_option maxHeartbeats 800000 in
theorem readF_is (w : World) (B o : Nat) (v : Value) (b : List UInt8) (p : Nat) (x : Bool) (q : Nat) (e : Int) (hr : Rdr w B o v b p 0) (hx : e ≠ 0 → x = false) (h : Hid (Pk.flg b p = (x, (q : Int), e))) :
    Calls Try.prog 36 #[.pointer (some ⟨o, 0, none⟩), .func (.func 37) #[.pointer (some ⟨o, 0, none⟩)] #[], .int .i64 1] w (Gave w B o v b q e (.bool x)) := by
  go_enter Try.func36, Try.ntmps36
  go_wp2_with fail
  refine (rerr_any _ B o v b p 0 hr).mono ?_
  rintro e1 w1 ⟨rfl, rfl⟩
  go_wp2_with fail
  refine (flag_is _ B o v b p 0 _ _ _ hr h).mono ?_
  rintro e2 w2 ⟨rfl, hr2, hg2⟩
  by_cases he : e = 0
  · subst he
    go_wp2
    go_ret
    exact ⟨rfl, hr2, hg2⟩
  · obtain rfl := hx he
    clear hx
    have hc2 := hr2.lies.cell 2 (.int .i64 0) rfl
    have hf2 := hr2.lies.free 2
    have hs := hr2.errs e
    go_wp2
    go_ret
    exact ⟨rfl, hs.1, grown_on hg2 hs.2⟩

set_option maxHeartbeats 400000 in
theorem readF_err (most er : Int) (fv : Value) (w : World) (B o : Nat) (v : Value) (b : List UInt8) (p : Nat) (hr : Rdr w B o v b p er) (he : er ≠ 0) :
    Calls Try.prog 36 #[.pointer (some ⟨o, 0, none⟩), fv, .int .i64 most] w (Gave w B o v b p er (.bool false)) := by
  go_enter Try.func36, Try.ntmps36
  go_wp2_with fail
  refine (rerr_any _ B o v b p er hr).mono ?_
  rintro e1 w1 ⟨rfl, rfl⟩
  go_wp2
  go_ret
  exact ⟨rfl, hr, World.grownBy.refl _ _⟩

/-- A reading, whether there is an error or not. -/
theorem rflag_is (w : World) (B o : Nat) (v : Value) (b : List UInt8) (p : Nat) (x : Bool) (q : Nat) (e : Int) (hr : Rdr w B o v b p 0) (hx : e ≠ 0 → x = false) (h : Hid (Pk.flg b p = (x, (q : Int), e))) :
    Calls Try.prog 19 #[.pointer (some ⟨o, 0, none⟩)] w (Gave w B o v b q e (.bool x)) := by
  have hmf : ∀ (fn : Fn) (first cap : Array Value) (w : World), (Instr.makeFunc fn first cap).run Try.prog w = .ok (.func fn first cap) w := fun _ _ _ _ => rfl
  go_enter Try.func19, Try.ntmps19
  go_wp2_with fail
  refine (readF_is _ B o v b p x q e hr hx h).mono ?_
  rintro e1 w1 ⟨rfl, hr1, hg1⟩
  go_wp2
  go_ret
  exact ⟨rfl, hr1, hg1⟩
theorem rflag_err (er : Int) (w : World) (B o : Nat) (v : Value) (b : List UInt8) (p : Nat) (hr : Rdr w B o v b p er) (he : er ≠ 0) :
    Calls Try.prog 19 #[.pointer (some ⟨o, 0, none⟩)] w (Gave w B o v b p er (.bool false)) := by
  have hmf : ∀ (fn : Fn) (first cap : Array Value) (w : World), (Instr.makeFunc fn first cap).run Try.prog w = .ok (.func fn first cap) w := fun _ _ _ _ => rfl
  go_enter Try.func19, Try.ntmps19
  go_wp2_with fail
  refine (readF_err 1 er _ _ B o v b p hr he).mono ?_
  rintro e1 w1 ⟨rfl, hr1, hg1⟩
  go_wp2
  go_ret
  exact ⟨rfl, hr1, hg1⟩
end Go.Proofs.Ytpdblmicgpgiaaa
