/- Several texts of mine in one: PkRd PkRd2 PkRd3. -/
import Derived.Test.YtammfmmpldahhaaGreatRows
import Derived.Test.YtammfmmpldahhaaGreatPkMem
import Derived.Test.YtammfmmpldahhaaGreatGNum
import Derived.Test.YtammfmmpldahhaaGreatClone
import Derived.Deep.QuietTactic
import Derived.BigQuiet
namespace Go.Proofs.YtammfmmpldahhaaGreat
open Go.RowKit

/-- A reader of the call's own: its block, and the row of bytes that it reads. -/
structure Rdr (w : World) (B o : Nat) (v : Value) (b : List UInt8) (p : Nat) (er : Int) : Prop where
  base : B ≤ o
  lies : Lies w o 78 #[v, .int .i64 (p : Int), .int .i64 er]
  owns : Owns w B 5 v b
  inn : p ≤ b.length
  small : b.length ≤ 70368744177664

theorem Rdr.kept {w w' : World} {B o : Nat} {v : Value} {b : List UInt8} {p : Nat} {er : Int} (h : Rdr w B o v b p er) (hb : Below w.heap.size w w') : Rdr w' B o v b p er :=
  ⟨h.base, h.lies.below hb h.lies.lt, h.owns.keep hb (Nat.le_refl _), h.inn, h.small⟩
theorem Rdr.drewN {w : World} {B o : Nat} {v : Value} {b : List UInt8} {p : Nat} {er : Int} (h : Rdr w B o v b p er) (n : Nat) : Rdr (w.drewN n) B o v b p er := h.kept (drawn w n)
theorem Rdr.off {w : World} {B o : Nat} {v : Value} {b : List UInt8} {p : Nat} {er : Int} (h : Rdr w B o v b p er) : v.ownBlock = none ∨ v.ownBlock ≠ some o := .inr fun e => h.lies.not_row (by decide) h.owns e.symm
theorem Rdr.goes {w : World} {B o : Nat} {v : Value} {b : List UInt8} {p : Nat} {er : Int} (h : Rdr w B o v b p er) {q : Nat} (hq : q ≤ b.length) :
    Rdr (w.setCell ⟨o, 1, none⟩ (.int .i64 (q : Int))) B o v b q er ∧ w.grownBy (w.setCell ⟨o, 1, none⟩ (.int .i64 (q : Int))) (some o) :=
  ⟨⟨h.base, h.lies.set 1 _, h.owns.grown (grown_set w o 1 _) h.off, hq, h.small⟩, grown_set w o 1 _⟩
theorem Rdr.errs {w : World} {B o : Nat} {v : Value} {b : List UInt8} {p : Nat} {er : Int} (h : Rdr w B o v b p er) (e : Int) :
    Rdr (w.setCell ⟨o, 2, none⟩ (.int .i64 e)) B o v b p e ∧ w.grownBy (w.setCell ⟨o, 2, none⟩ (.int .i64 e)) (some o) :=
  ⟨⟨h.base, h.lies.set 2 _, h.owns.grown (grown_set w o 2 _) h.off, h.inn, h.small⟩, grown_set w o 2 _⟩
/-- Draws first. -/
theorem drewN_grown {w w' : World} {n : Nat} {row : Option Nat} (h : (w.drewN n).grownBy w' row) : w.grownBy w' row := ⟨h.os, h.tape, h.output, h.size, h.block⟩
theorem grown_drewN (w : World) (n : Nat) (row : Option Nat) : w.grownBy (w.drewN n) row := ⟨rfl, rfl, rfl, Nat.le_refl _, fun _ _ _ => rfl⟩
theorem grown_any {w w' : World} (h : w.grownBy w' none) (row : Option Nat) : w.grownBy w' row := ⟨h.os, h.tape, h.output, h.size, fun i hi _ => h.block i hi (by simp)⟩
/-- The post of an inner reading: the two results, the reader behind it. -/
def Got (w : World) (B o : Nat) (v : Value) (b : List UInt8) (q : Nat) (er : Int) (x : Value) (e : Int) (en : Ending) (w' : World) : Prop :=
  en = .returned (.tuple #[x, .int .i64 e]) ∧ Rdr w' B o v b q er ∧ w.grownBy w' (some o)

set_option maxRecDepth 4000 in
set_option maxHeartbeats 800000 in
theorem number_is (most : Int) (w : World) (B o : Nat) (v : Value) (b : List UInt8) (p : Nat) (er n : Int) (q : Nat) (e : Int) (hr : Rdr w B o v b p er) (h : Hid (Pk.num b p most = (n, (q : Int), e))) :
    Calls Tryz.prog 56 #[.pointer (some ⟨o, 0, none⟩), .int .i64 most] w (Got w B o v b q er (.int .i64 n) e) := by
  have hc0 := hr.lies.cell 0 v rfl
  have hc1 := hr.lies.cell 1 (.int .i64 (p : Int)) rfl
  have hf := hr.lies.free 1
  have HR := Lib.hid hr
  have hrd := hr.owns.reads
  have hcall : ∀ k, Calls Tryz.prog 82 #[v, .int .i64 (p : Int)] (w.drewN k) (fun e w' => e = .returned (.tuple #[.int .i64 (getp b p).1, .int .i64 (getp b p).2.1, .int .i64 (getp b p).2.2]) ∧ ∃ m, w' = w.drewN m) := by
    intro k
    refine (get_any v b p (w.drewN k) hrd).mono ?_
    rintro e w ⟨rfl, rfl⟩
    exact ⟨rfl, k, rfl⟩
  clear hr
  rcases Pk.num_cases b p most with ⟨e', he, hg, hn⟩ | ⟨n', q', hg, h1, h2, h3, h4, hn⟩ | ⟨n', q', hg, h1, h2, h3, h4, hn⟩
  all_goals
    have h' := h.out
    rw [hn] at h'
    simp only [Prod.mk.injEq, Int.natCast_inj] at h'
    obtain ⟨rfl, rfl, rfl⟩ := h'
    rw [hg] at hcall
    dsimp only at hcall
    have HCALL := Lib.hid hcall
    clear hcall
    clear hg hn h hrd
    go_enter Tryz.func56, Tryz.ntmps56
    go_wp2
    go_quiet (first | (go_at_call 82; exact HCALL.out _))
    go_wp2
    go_ret2
  · exact ⟨rfl, HR.out.drewN _, grown_drewN _ _ _⟩
  · exact ⟨rfl, HR.out.drewN _, grown_drewN _ _ _⟩
  · exact ⟨rfl, ((HR.out.drewN _).goes h2).1, drewN_grown ((HR.out.drewN _).goes h2).2⟩

set_option maxRecDepth 4000 in
set_option maxHeartbeats 800000 in
theorem count_is (most : Int) (w : World) (B o : Nat) (v : Value) (b : List UInt8) (p : Nat) (er n : Int) (q : Nat) (e : Int) (hr : Rdr w B o v b p er) (h : Hid (Pk.cnt b p most = (n, (q : Int), e))) :
    Calls Tryz.prog 83 #[.pointer (some ⟨o, 0, none⟩), .int .i64 most] w (Got w B o v b q er (.int .i64 n) e) := by
  have hsm := hr.small
  rcases Pk.cnt_cases b p most with ⟨e', he, hg, hn⟩ | ⟨n', q', hg, h1, h2, h3, hn⟩ | ⟨n', q', hg, h1, hn⟩
  all_goals
    have h' := h.out
    rw [hn] at h'
    simp only [Prod.mk.injEq, Int.natCast_inj] at h'
    obtain ⟨rfl, rfl, rfl⟩ := h'
    have HG := Lib.hid hg
    clear hg hn h
    go_enter Tryz.func83, Tryz.ntmps83
    go_wp2_with fail
    refine (number_is most _ B o v b p er _ _ _ hr HG).mono ?_
    rintro e1 w1 ⟨rfl, hr1, hg1⟩
    have hc0 := hr1.lies.cell 0 v rfl
    have hc1 := hr1.lies.cell 1 (.int .i64 _) rfl
    obtain ⟨ao, cap, rfl⟩ := hr1.owns.reads.shape
  · go_wp2
    go_quiet (fail)
    go_wp2
    go_ret2
    exact ⟨rfl, hr1.drewN _, grown_on hg1 (grown_drewN _ _ _)⟩
  · obtain ⟨k, hk⟩ : ∃ k : Nat, (b.length : Int) - (q' : Int) = (k : Int) := ⟨b.length - q', by omega⟩
    rw [hk] at h3
    go_wp2
    go_quiet (fail)
    go_wp2
    go_ret2
    exact ⟨rfl, hr1.drewN _, grown_on hg1 (grown_drewN _ _ _)⟩
  · obtain ⟨k, hk⟩ : ∃ k : Nat, (b.length : Int) - (q' : Int) = (k : Int) := ⟨b.length - q', by omega⟩
    have h3 : ¬ (k : Int) < (n' : Int) := by omega
    go_wp2
    go_quiet (fail)
    go_wp2
    go_ret2
    exact ⟨rfl, hr1.drewN _, grown_on hg1 (grown_drewN _ _ _)⟩

/-- A part of what is read. -/
theorem Reads.part {w : World} {ao : Option Addr} {n cap : Nat} {l : List UInt8} (h : Reads w (.slice ao n cap) l) (f q : Nat) (hf : f ≤ q) (hq : q ≤ l.length) : Reads w (sliced ao f q cap 1) ((l.drop f).take (q - f)) := by
  obtain ⟨hn, hc, hm, hnil⟩ := h.len
  unfold sliced
  have e : ((l.drop f).take (q - f)).length = q - f := by simp; omega
  rw [Nat.mul_one]
  by_cases h0 : q - f = 0
  · rw [h0, List.take_zero]
    refine ⟨_, cap - f, rfl, by simp, by unfold maxLen; omega, fun h1 => ?_, fun x _ j u hu => by simp [cellsOf] at hu⟩
    by_cases hcf : cap = f
    · omega
    · rw [if_neg hcf] at h1
      cases ao with
      | none => have := hnil rfl; omega
      | some x => simp at h1
  · have hcf : ¬ cap = f := by omega
    rw [if_neg hcf]
    obtain ⟨b, off, rfl, hcell⟩ := h.place (by omega)
    obtain ⟨ao', cap', hv, h1, h2, h3, h4⟩ := h
    simp only [Value.slice.injEq] at hv
    obtain ⟨rfl, rfl, rfl⟩ := hv
    refine ⟨some ⟨b, off + f, none⟩, cap - f, by rw [e]; simp [Addr.add_lit], by rw [e]; omega, by omega, (fun h => by cases h), fun x hx j u hu => ?_⟩
    cases hx
    have := h4 _ rfl (f + j) u (by
      simp only [cellsOf, List.getElem?_map, List.getElem?_take, List.getElem?_drop] at hu ⊢
      split at hu
      · exact hu
      · simp at hu)
    rw [Addr.add_lit] at this ⊢
    rw [Nat.add_assoc]; exact this

theorem run_part (w : World) (ao : Option Addr) (n cap f q : Nat) (hf : f ≤ q) (hq : q ≤ cap) :
    (Instr.slice 28 (.slice ao n cap) (some (.int .i64 (f : Int))) (some (.int .i64 (q : Int))) none).run Tryz.prog w = .ok (sliced ao f q cap 1) w := by
  have he : Tryz.prog.elem 28 = 5 := by kernel_rfl
  obtain ⟨i, h1, _⟩ := info_parts info_u8
  have hrun := run_slice_lh (P := Tryz.prog) (w := w) 28 ao n cap (by rw [he]; exact Tryz.underlying28) .i64 .i64 (f : Int) (q : Int) (by omega) (by omega) (by omega)
  rw [he] at hrun
  refine hrun.trans ?_
  rw [run_sizeOf _ h1, show Tryz.prog.cellsOf 5 = 1 by kernel_rfl]
  simp only [Result.andThen, Int.toNat_natCast]

set_option maxRecDepth 4000 in
set_option maxHeartbeats 800000 in
theorem skip_any (size : Nat) (w : World) (B o : Nat) (v : Value) (b : List UInt8) (p : Nat) (er : Int) (hr : Rdr w B o v b p er) (hs : p + size ≤ b.length) :
    Calls Tryz.prog 95 #[.pointer (some ⟨o, 0, none⟩), .int .i64 (size : Int)] w
      fun en w' => ∃ u, en = .returned u ∧ Reads w' u ((b.drop p).take size) ∧ Rdr w' B o v b (p + size) er ∧ w.grownBy w' (some o) := by
  have hsm := hr.small
  obtain ⟨ao, cap, rfl⟩ := hr.owns.reads.shape
  have hcap := hr.owns.reads.len
  obtain ⟨q, hq⟩ : ∃ q : Nat, q = p + size := ⟨_, rfl⟩
  have hqi : (p : Int) + (size : Int) = (q : Int) := by omega
  have hqb : q ≤ b.length := by omega
  have hp := hr.owns.reads.part p q (by omega) hqb
  obtain ⟨uo, uc, hu⟩ := hp.shape
  have hrun : ∀ w, (Instr.slice 28 (.slice ao b.length cap) (some (.int .i64 (p : Int))) (some (.int .i64 (q : Int))) none).run Tryz.prog w = .ok (.slice uo ((b.drop p).take (q - p)).length uc) w := by
    intro w
    rw [run_part w ao _ cap p q (by omega) (by omega), hu]
  have hp2 := (hr.goes hqb).1.owns.reads.part p q (by omega) hqb
  rw [hu] at hp2
  obtain ⟨m, hm⟩ : ∃ m, m = ((b.drop p).take (q - p)).length := ⟨_, rfl⟩
  rw [← hm] at hrun hp2
  have hc0 := hr.lies.cell 0 _ rfl
  have hc1 := hr.lies.cell 1 (.int .i64 (p : Int)) rfl
  have hf := hr.lies.free 1
  have hgo := hr.goes hqb
  have hd0 := hgo.1.lies.cell 0 _ rfl
  have hd1 := hgo.1.lies.cell 1 (.int .i64 (q : Int)) rfl
  have HGO := Lib.hid hgo; have HP := Lib.hid hp2; have HQ := Lib.hid hq; have HM := Lib.hid hm
  clear hgo hp hp2 hq hm hu
  go_enter Tryz.func95, Tryz.ntmps95
  go_wp2
  go_quiet (fail)
  go_wp2
  go_ret
  have hq := HQ.out
  refine ⟨_, rfl, ?_, ?_, grown_on HGO.out.2 (grown_drewN _ _ _)⟩
  · rw [show size = q - p by omega]
    exact HP.out.below (drawn _ _)
  · rw [← hq]
    exact HGO.out.1.drewN _
end Go.Proofs.YtammfmmpldahhaaGreat


namespace Go.Proofs.YtammfmmpldahhaaGreat
open Go.RowKit

/-- The count and the skip of a reader, as values. -/
abbrev Cnt (o : Nat) : Value := .func (.func 83) #[.pointer (some ⟨o, 0, none⟩)] #[]
abbrev Skp (o : Nat) : Value := .func (.func 95) #[.pointer (some ⟨o, 0, none⟩)] #[]

set_option maxRecDepth 4000 in
set_option maxHeartbeats 800000 in
theorem stretchS_is (most : Int) (w : World) (B o : Nat) (v : Value) (b : List UInt8) (p : Nat) (er : Int) (s : List UInt8) (q : Nat) (e : Int) (hr : Rdr w B o v b p er) (h : Hid (Pk.txt b p most = (s, (q : Int), e))) :
    Calls Tryz.prog 94 #[Cnt o, Skp o, .int .i64 most] w (Got w B o v b q er (.string ⟨s.toArray⟩) e) := by
  rcases Pk.txt_cases b p most hr.inn with ⟨e', q', he, h1, hg, hn⟩ | ⟨n', q', hg, h1, hn⟩
  all_goals
    have h' := h.out
    rw [hn] at h'
    simp only [Prod.mk.injEq, Int.natCast_inj] at h'
    obtain ⟨rfl, rfl, rfl⟩ := h'
    have HG := Lib.hid hg
    clear hg hn h
    go_enter Tryz.func94, Tryz.ntmps94
    go_wp2_with fail
    refine (count_is most _ B o v b p er _ _ _ hr HG).mono ?_
    rintro e1 w1 ⟨rfl, hr1, hg1⟩
    go_wp2_with fail
  · go_ret2
    exact ⟨rfl, hr1, hg1⟩
  · refine (skip_any n' _ B o v b q' er hr1 h1).mono ?_
    rintro e2 w2 ⟨u, rfl, hu, hr2, hg2⟩
    obtain ⟨uo, uc, rfl⟩ := hu.shape
    have hst := run_string_of (P := Tryz.prog) _ Tryz.underlying28 Tryz.underlying5 Tryz.underlying9 hu
    obtain ⟨m, hm⟩ : ∃ m, m = ((b.drop q').take n').length := ⟨_, rfl⟩
    rw [← hm] at hst ⊢
    clear hm
    go_wp2
    go_ret2
    exact ⟨rfl, hr2, grown_on hg1 hg2⟩

set_option maxRecDepth 4000 in
set_option maxHeartbeats 800000 in
theorem text_is (most : Int) (w : World) (B o : Nat) (v : Value) (b : List UInt8) (p : Nat) (er : Int) (s : List UInt8) (q : Nat) (e : Int) (hr : Rdr w B o v b p er) (h : Hid (Pk.txt b p most = (s, (q : Int), e))) :
    Calls Tryz.prog 85 #[.pointer (some ⟨o, 0, none⟩), .int .i64 most] w (Got w B o v b q er (.string ⟨s.toArray⟩) e) := by
  have hmf : ∀ (fn : Fn) (first cap : Array Value) (w : World), (Instr.makeFunc fn first cap).run Tryz.prog w = .ok (.func fn first cap) w := fun _ _ _ _ => rfl
  go_enter Tryz.func85, Tryz.ntmps85
  go_wp2_with fail
  refine (stretchS_is most _ B o v b p er _ _ _ hr h).mono ?_
  rintro e1 w1 ⟨rfl, hr1, hg1⟩
  go_wp2
  go_ret2
  exact ⟨rfl, hr1, hg1⟩

set_option maxRecDepth 4000 in
set_option maxHeartbeats 800000 in
theorem flag_is (w : World) (B o : Nat) (v : Value) (b : List UInt8) (p : Nat) (er : Int) (x : Bool) (q : Nat) (e : Int) (hr : Rdr w B o v b p er) (h : Hid (Pk.flg b p = (x, (q : Int), e))) :
    Calls Tryz.prog 105 #[.pointer (some ⟨o, 0, none⟩), .int .i64 1] w (Got w B o v b q er (.bool x) e) := by
  have hin := hr.inn
  have hsm := hr.small
  have hc0 := hr.lies.cell 0 v rfl
  have hc1 := hr.lies.cell 1 (.int .i64 (p : Int)) rfl
  obtain ⟨ao, cap, rfl⟩ := hr.owns.reads.shape
  have h' := h.out
  by_cases hp : p = b.length
  · subst hp
    rw [Pk.flg_end] at h'
    simp only [Prod.mk.injEq, Int.natCast_inj] at h'
    obtain ⟨rfl, rfl, rfl⟩ := h'
    clear h
    go_enter Tryz.func105, Tryz.ntmps105
    go_wp2
    go_quiet (fail)
    go_wp2
    go_ret2
    exact ⟨rfl, hr.drewN _, grown_drewN _ _ _⟩
  · obtain ⟨c, hc⟩ : ∃ c, b[p]? = some c := ⟨_, List.getElem?_eq_getElem (by omega)⟩
    rw [Pk.flg_at hc] at h'
    have hcut : (b.drop p).take 1 = [c] := by rw [drop_at hc]; rfl
    have hne : ¬ (p : Int) = (b.length : Int) := by omega
    have hu8 : (c.toNat : Int) < 256 := by have := c.toNat_lt; omega
    by_cases h1 : 1 < c.toNat
    all_goals
      first | rw [if_pos h1] at h' | rw [if_neg h1] at h'
      simp only [Prod.mk.injEq, Int.natCast_inj] at h'
      obtain ⟨rfl, rfl, rfl⟩ := h'
      clear h
      go_enter Tryz.func105, Tryz.ntmps105
      go_wp2
      go_quiet (fail)
      go_wp2_with fail
      refine (skip_any 1 _ B o _ b p er (hr.drewN _) (by omega)).mono ?_
      rintro e2 w2 ⟨u, rfl, hu, hr2, hg2⟩
      rw [hcut] at hu
      obtain ⟨uo, uc, rfl⟩ := hu.shape
      obtain ⟨ub, uoff, rfl, hcell⟩ := hu.place (by simp)
      have hcc := hcell 0 c rfl
      rw [Nat.add_zero] at hcc
      clear hcell
    · go_wp2
      go_ret2
      exact ⟨rfl, hr2, drewN_grown hg2⟩
    · obtain ⟨t, ht⟩ : ∃ t, t = ((c.toNat : Int) == 1) := ⟨_, rfl⟩
      have ht' : (c.toNat == 1) = t := by rw [ht, Bool.eq_iff_iff]; simp only [beq_iff_eq]; constructor <;> intro <;> omega
      have HT := Lib.hid ht'
      replace ht := ht.symm
      clear ht'
      go_wp2
      go_ret2
      refine ⟨?_, hr2, drewN_grown hg2⟩
      rw [HT.out]
      rfl

/-! ### What keeps the first error -/
set_option maxHeartbeats 400000 in
theorem rerr_any (w : World) (B o : Nat) (v : Value) (b : List UInt8) (p : Nat) (er : Int) (hr : Rdr w B o v b p er) :
    Calls Tryz.prog 58 #[.pointer (some ⟨o, 0, none⟩)] w fun en w' => en = .returned (.int .i64 er) ∧ w = w' := by
  have hc2 := hr.lies.cell 2 (.int .i64 er) rfl
  go_enter Tryz.func58, Tryz.ntmps58
  go_wp2
  go_ret
  exact ⟨rfl, rfl⟩

/-- The post of a reading: what it gives, the reader behind it. -/
def Gave (w : World) (B o : Nat) (v : Value) (b : List UInt8) (q : Nat) (e : Int) (x : Value) (en : Ending) (w' : World) : Prop :=
  en = .returned x ∧ Rdr w' B o v b q e ∧ w.grownBy w' (some o)

set_option maxRecDepth 4000 in
set_option maxHeartbeats 800000 in
theorem readN_is (most : Int) (w : World) (B o : Nat) (v : Value) (b : List UInt8) (p : Nat) (x : Int) (q : Nat) (e : Int) (hr : Rdr w B o v b p 0) (hx : e ≠ 0 → x = 0) (h : Hid (Pk.num b p most = (x, (q : Int), e))) :
    Calls Tryz.prog 55 #[.pointer (some ⟨o, 0, none⟩), .func (.func 56) #[.pointer (some ⟨o, 0, none⟩)] #[], .int .i64 most] w (Gave w B o v b q e (.int .i64 x)) := by
  go_enter Tryz.func55, Tryz.ntmps55
  go_wp2_with fail
  refine (rerr_any _ B o v b p 0 hr).mono ?_
  rintro e1 w1 ⟨rfl, rfl⟩
  go_wp2_with fail
  refine (number_is most _ B o v b p 0 _ _ _ hr h).mono ?_
  rintro e2 w2 ⟨rfl, hr2, hg2⟩
  by_cases he : e = 0
  · subst he
    go_wp2
    go_ret
    exact ⟨rfl, hr2, hg2⟩
  · obtain rfl := hx he
    clear hx
    have hc2 := hr2.lies.cell 2 (.int .i64 0) rfl
    have hf2 := hr2.lies.free 2
    have hs := hr2.errs e
    go_wp2
    go_ret
    exact ⟨rfl, hs.1, grown_on hg2 hs.2⟩

set_option maxHeartbeats 400000 in
theorem readN_err (most er : Int) (fv : Value) (w : World) (B o : Nat) (v : Value) (b : List UInt8) (p : Nat) (hr : Rdr w B o v b p er) (he : er ≠ 0) :
    Calls Tryz.prog 55 #[.pointer (some ⟨o, 0, none⟩), fv, .int .i64 most] w (Gave w B o v b p er (.int .i64 0)) := by
  go_enter Tryz.func55, Tryz.ntmps55
  go_wp2_with fail
  refine (rerr_any _ B o v b p er hr).mono ?_
  rintro e1 w1 ⟨rfl, rfl⟩
  go_wp2
  go_ret
  exact ⟨rfl, hr, World.grownBy.refl _ _⟩

/-- A reading, whether there is an error or not. -/
theorem rnum_is (most : Int) (w : World) (B o : Nat) (v : Value) (b : List UInt8) (p : Nat) (x : Int) (q : Nat) (e : Int) (hr : Rdr w B o v b p 0) (hx : e ≠ 0 → x = 0) (h : Hid (Pk.num b p most = (x, (q : Int), e))) :
    Calls Tryz.prog 30 #[.pointer (some ⟨o, 0, none⟩), .int .i64 most] w (Gave w B o v b q e (.int .i64 x)) := by
  have hmf : ∀ (fn : Fn) (first cap : Array Value) (w : World), (Instr.makeFunc fn first cap).run Tryz.prog w = .ok (.func fn first cap) w := fun _ _ _ _ => rfl
  go_enter Tryz.func30, Tryz.ntmps30
  go_wp2_with fail
  refine (readN_is most _ B o v b p x q e hr hx h).mono ?_
  rintro e1 w1 ⟨rfl, hr1, hg1⟩
  go_wp2
  go_ret
  exact ⟨rfl, hr1, hg1⟩
theorem rnum_err (most er : Int) (w : World) (B o : Nat) (v : Value) (b : List UInt8) (p : Nat) (hr : Rdr w B o v b p er) (he : er ≠ 0) :
    Calls Tryz.prog 30 #[.pointer (some ⟨o, 0, none⟩), .int .i64 most] w (Gave w B o v b p er (.int .i64 0)) := by
  have hmf : ∀ (fn : Fn) (first cap : Array Value) (w : World), (Instr.makeFunc fn first cap).run Tryz.prog w = .ok (.func fn first cap) w := fun _ _ _ _ => rfl
  go_enter Tryz.func30, Tryz.ntmps30
  go_wp2_with fail
  refine (readN_err most er _ _ B o v b p hr he).mono ?_
  rintro e1 w1 ⟨rfl, hr1, hg1⟩
  go_wp2
  go_ret
  exact ⟨rfl, hr1, hg1⟩

set_option maxRecDepth 4000 in
set_option maxHeartbeats 800000 in
theorem readC_is (most : Int) (w : World) (B o : Nat) (v : Value) (b : List UInt8) (p : Nat) (x : Int) (q : Nat) (e : Int) (hr : Rdr w B o v b p 0) (hx : e ≠ 0 → x = 0) (h : Hid (Pk.cnt b p most = (x, (q : Int), e))) :
    Calls Tryz.prog 55 #[.pointer (some ⟨o, 0, none⟩), .func (.func 83) #[.pointer (some ⟨o, 0, none⟩)] #[], .int .i64 most] w (Gave w B o v b q e (.int .i64 x)) := by
  go_enter Tryz.func55, Tryz.ntmps55
  go_wp2_with fail
  refine (rerr_any _ B o v b p 0 hr).mono ?_
  rintro e1 w1 ⟨rfl, rfl⟩
  go_wp2_with fail
  refine (count_is most _ B o v b p 0 _ _ _ hr h).mono ?_
  rintro e2 w2 ⟨rfl, hr2, hg2⟩
  by_cases he : e = 0
  · subst he
    go_wp2
    go_ret
    exact ⟨rfl, hr2, hg2⟩
  · obtain rfl := hx he
    clear hx
    have hc2 := hr2.lies.cell 2 (.int .i64 0) rfl
    have hf2 := hr2.lies.free 2
    have hs := hr2.errs e
    go_wp2
    go_ret
    exact ⟨rfl, hs.1, grown_on hg2 hs.2⟩

set_option maxHeartbeats 400000 in
theorem readC_err (most er : Int) (fv : Value) (w : World) (B o : Nat) (v : Value) (b : List UInt8) (p : Nat) (hr : Rdr w B o v b p er) (he : er ≠ 0) :
    Calls Tryz.prog 55 #[.pointer (some ⟨o, 0, none⟩), fv, .int .i64 most] w (Gave w B o v b p er (.int .i64 0)) := by
  go_enter Tryz.func55, Tryz.ntmps55
  go_wp2_with fail
  refine (rerr_any _ B o v b p er hr).mono ?_
  rintro e1 w1 ⟨rfl, rfl⟩
  go_wp2
  go_ret
  exact ⟨rfl, hr, World.grownBy.refl _ _⟩

/-- A reading, whether there is an error or not. -/
theorem rcnt_is (most : Int) (w : World) (B o : Nat) (v : Value) (b : List UInt8) (p : Nat) (x : Int) (q : Nat) (e : Int) (hr : Rdr w B o v b p 0) (hx : e ≠ 0 → x = 0) (h : Hid (Pk.cnt b p most = (x, (q : Int), e))) :
    Calls Tryz.prog 60 #[.pointer (some ⟨o, 0, none⟩), .int .i64 most] w (Gave w B o v b q e (.int .i64 x)) := by
  have hmf : ∀ (fn : Fn) (first cap : Array Value) (w : World), (Instr.makeFunc fn first cap).run Tryz.prog w = .ok (.func fn first cap) w := fun _ _ _ _ => rfl
  go_enter Tryz.func60, Tryz.ntmps60
  go_wp2_with fail
  refine (readC_is most _ B o v b p x q e hr hx h).mono ?_
  rintro e1 w1 ⟨rfl, hr1, hg1⟩
  go_wp2
  go_ret
  exact ⟨rfl, hr1, hg1⟩
theorem rcnt_err (most er : Int) (w : World) (B o : Nat) (v : Value) (b : List UInt8) (p : Nat) (hr : Rdr w B o v b p er) (he : er ≠ 0) :
    Calls Tryz.prog 60 #[.pointer (some ⟨o, 0, none⟩), .int .i64 most] w (Gave w B o v b p er (.int .i64 0)) := by
  have hmf : ∀ (fn : Fn) (first cap : Array Value) (w : World), (Instr.makeFunc fn first cap).run Tryz.prog w = .ok (.func fn first cap) w := fun _ _ _ _ => rfl
  go_enter Tryz.func60, Tryz.ntmps60
  go_wp2_with fail
  refine (readC_err most er _ _ B o v b p hr he).mono ?_
  rintro e1 w1 ⟨rfl, hr1, hg1⟩
  go_wp2
  go_ret
  exact ⟨rfl, hr1, hg1⟩

set_option maxRecDepth 4000 in
set_option maxHeartbeats 800000 in
theorem readT_is (most : Int) (w : World) (B o : Nat) (v : Value) (b : List UInt8) (p : Nat) (x : List UInt8) (q : Nat) (e : Int) (hr : Rdr w B o v b p 0) (hx : e ≠ 0 → x = []) (h : Hid (Pk.txt b p most = (x, (q : Int), e))) :
    Calls Tryz.prog 84 #[.pointer (some ⟨o, 0, none⟩), .func (.func 85) #[.pointer (some ⟨o, 0, none⟩)] #[], .int .i64 most] w (Gave w B o v b q e (.string ⟨x.toArray⟩)) := by
  go_enter Tryz.func84, Tryz.ntmps84
  go_wp2_with fail
  refine (rerr_any _ B o v b p 0 hr).mono ?_
  rintro e1 w1 ⟨rfl, rfl⟩
  go_wp2_with fail
  refine (text_is most _ B o v b p 0 _ _ _ hr h).mono ?_
  rintro e2 w2 ⟨rfl, hr2, hg2⟩
  by_cases he : e = 0
  · subst he
    go_wp2
    go_ret
    exact ⟨rfl, hr2, hg2⟩
  · obtain rfl := hx he
    clear hx
    have hc2 := hr2.lies.cell 2 (.int .i64 0) rfl
    have hf2 := hr2.lies.free 2
    have hs := hr2.errs e
    go_wp2
    go_ret
    exact ⟨rfl, hs.1, grown_on hg2 hs.2⟩

set_option maxHeartbeats 400000 in
theorem readT_err (most er : Int) (fv : Value) (w : World) (B o : Nat) (v : Value) (b : List UInt8) (p : Nat) (hr : Rdr w B o v b p er) (he : er ≠ 0) :
    Calls Tryz.prog 84 #[.pointer (some ⟨o, 0, none⟩), fv, .int .i64 most] w (Gave w B o v b p er (.string ⟨#[]⟩)) := by
  go_enter Tryz.func84, Tryz.ntmps84
  go_wp2_with fail
  refine (rerr_any _ B o v b p er hr).mono ?_
  rintro e1 w1 ⟨rfl, rfl⟩
  go_wp2
  go_ret
  exact ⟨rfl, hr, World.grownBy.refl _ _⟩

/-- A reading, whether there is an error or not. -/
theorem rtext_is (most : Int) (w : World) (B o : Nat) (v : Value) (b : List UInt8) (p : Nat) (x : List UInt8) (q : Nat) (e : Int) (hr : Rdr w B o v b p 0) (hx : e ≠ 0 → x = []) (h : Hid (Pk.txt b p most = (x, (q : Int), e))) :
    Calls Tryz.prog 62 #[.pointer (some ⟨o, 0, none⟩), .int .i64 most] w (Gave w B o v b q e (.string ⟨x.toArray⟩)) := by
  have hmf : ∀ (fn : Fn) (first cap : Array Value) (w : World), (Instr.makeFunc fn first cap).run Tryz.prog w = .ok (.func fn first cap) w := fun _ _ _ _ => rfl
  go_enter Tryz.func62, Tryz.ntmps62
  go_wp2_with fail
  refine (readT_is most _ B o v b p x q e hr hx h).mono ?_
  rintro e1 w1 ⟨rfl, hr1, hg1⟩
  go_wp2
  go_ret
  exact ⟨rfl, hr1, hg1⟩
theorem rtext_err (most er : Int) (w : World) (B o : Nat) (v : Value) (b : List UInt8) (p : Nat) (hr : Rdr w B o v b p er) (he : er ≠ 0) :
    Calls Tryz.prog 62 #[.pointer (some ⟨o, 0, none⟩), .int .i64 most] w (Gave w B o v b p er (.string ⟨#[]⟩)) := by
  have hmf : ∀ (fn : Fn) (first cap : Array Value) (w : World), (Instr.makeFunc fn first cap).run Tryz.prog w = .ok (.func fn first cap) w := fun _ _ _ _ => rfl
  go_enter Tryz.func62, Tryz.ntmps62
  go_wp2_with fail
  refine (readT_err most er _ _ B o v b p hr he).mono ?_
  rintro e1 w1 ⟨rfl, hr1, hg1⟩
  go_wp2
  go_ret
  exact ⟨rfl, hr1, hg1⟩

set_option maxRecDepth 4000 in
set_option maxHeartbeats 800000 in
theorem readF_is (w : World) (B o : Nat) (v : Value) (b : List UInt8) (p : Nat) (x : Bool) (q : Nat) (e : Int) (hr : Rdr w B o v b p 0) (hx : e ≠ 0 → x = false) (h : Hid (Pk.flg b p = (x, (q : Int), e))) :
    Calls Tryz.prog 104 #[.pointer (some ⟨o, 0, none⟩), .func (.func 105) #[.pointer (some ⟨o, 0, none⟩)] #[], .int .i64 1] w (Gave w B o v b q e (.bool x)) := by
  go_enter Tryz.func104, Tryz.ntmps104
  go_wp2_with fail
  refine (rerr_any _ B o v b p 0 hr).mono ?_
  rintro e1 w1 ⟨rfl, rfl⟩
  go_wp2_with fail
  refine (flag_is _ B o v b p 0 _ _ _ hr h).mono ?_
  rintro e2 w2 ⟨rfl, hr2, hg2⟩
  by_cases he : e = 0
  · subst he
    go_wp2
    go_ret
    exact ⟨rfl, hr2, hg2⟩
  · obtain rfl := hx he
    clear hx
    have hc2 := hr2.lies.cell 2 (.int .i64 0) rfl
    have hf2 := hr2.lies.free 2
    have hs := hr2.errs e
    go_wp2
    go_ret
    exact ⟨rfl, hs.1, grown_on hg2 hs.2⟩

set_option maxHeartbeats 400000 in
theorem readF_err (most er : Int) (fv : Value) (w : World) (B o : Nat) (v : Value) (b : List UInt8) (p : Nat) (hr : Rdr w B o v b p er) (he : er ≠ 0) :
    Calls Tryz.prog 104 #[.pointer (some ⟨o, 0, none⟩), fv, .int .i64 most] w (Gave w B o v b p er (.bool false)) := by
  go_enter Tryz.func104, Tryz.ntmps104
  go_wp2_with fail
  refine (rerr_any _ B o v b p er hr).mono ?_
  rintro e1 w1 ⟨rfl, rfl⟩
  go_wp2
  go_ret
  exact ⟨rfl, hr, World.grownBy.refl _ _⟩

/-- A reading, whether there is an error or not. -/
theorem rflag_is (w : World) (B o : Nat) (v : Value) (b : List UInt8) (p : Nat) (x : Bool) (q : Nat) (e : Int) (hr : Rdr w B o v b p 0) (hx : e ≠ 0 → x = false) (h : Hid (Pk.flg b p = (x, (q : Int), e))) :
    Calls Tryz.prog 96 #[.pointer (some ⟨o, 0, none⟩)] w (Gave w B o v b q e (.bool x)) := by
  have hmf : ∀ (fn : Fn) (first cap : Array Value) (w : World), (Instr.makeFunc fn first cap).run Tryz.prog w = .ok (.func fn first cap) w := fun _ _ _ _ => rfl
  go_enter Tryz.func96, Tryz.ntmps96
  go_wp2_with fail
  refine (readF_is _ B o v b p x q e hr hx h).mono ?_
  rintro e1 w1 ⟨rfl, hr1, hg1⟩
  go_wp2
  go_ret
  exact ⟨rfl, hr1, hg1⟩
theorem rflag_err (er : Int) (w : World) (B o : Nat) (v : Value) (b : List UInt8) (p : Nat) (hr : Rdr w B o v b p er) (he : er ≠ 0) :
    Calls Tryz.prog 96 #[.pointer (some ⟨o, 0, none⟩)] w (Gave w B o v b p er (.bool false)) := by
  have hmf : ∀ (fn : Fn) (first cap : Array Value) (w : World), (Instr.makeFunc fn first cap).run Tryz.prog w = .ok (.func fn first cap) w := fun _ _ _ _ => rfl
  go_enter Tryz.func96, Tryz.ntmps96
  go_wp2_with fail
  refine (readF_err 1 er _ _ B o v b p hr he).mono ?_
  rintro e1 w1 ⟨rfl, hr1, hg1⟩
  go_wp2
  go_ret
  exact ⟨rfl, hr1, hg1⟩
end Go.Proofs.YtammfmmpldahhaaGreat


namespace Go.Proofs.YtammfmmpldahhaaGreat
open Go.RowKit

/-- What Done tells. -/
def Pk.done (b : List UInt8) (p : Nat) (er : Int) : Int := if er ≠ 0 then er else if p < b.length then 3 else 0

set_option maxRecDepth 4000 in
set_option maxHeartbeats 400000 in
theorem rdone_any (w : World) (B o : Nat) (v : Value) (b : List UInt8) (p : Nat) (er : Int) (hr : Rdr w B o v b p er) :
    Calls Tryz.prog 38 #[.pointer (some ⟨o, 0, none⟩)] w fun en w' => en = .returned (.int .i64 (Pk.done b p er)) ∧ ∃ q, w' = w.drewN q := by
  have hc0 := hr.lies.cell 0 v rfl
  have hc1 := hr.lies.cell 1 (.int .i64 (p : Int)) rfl
  have hin := hr.inn
  obtain ⟨ao, cap, rfl⟩ := hr.owns.reads.shape
  unfold Pk.done
  by_cases he : er = 0
  · subst he
    by_cases hp : p < b.length
    all_goals
      rw [if_neg (by simp)]
      first | rw [if_pos hp] | rw [if_neg hp]
      go_enter Tryz.func38, Tryz.ntmps38
      go_wp2_with fail
      refine (rerr_any _ B o _ b p 0 hr).mono ?_
      rintro e1 w1 ⟨rfl, rfl⟩
      go_wp2
      go_quiet (fail)
      go_wp2
      go_ret
      exact ⟨rfl, _, rfl⟩
  · rw [if_pos he]
    go_enter Tryz.func38, Tryz.ntmps38
    go_wp2_with fail
    refine (rerr_any _ B o _ b p er hr).mono ?_
    rintro e1 w1 ⟨rfl, rfl⟩
    go_wp2
    go_ret
    exact ⟨rfl, 0, rfl⟩

set_option maxRecDepth 4000 in
set_option maxHeartbeats 400000 in
theorem newreader_any (u : Value) (b : List UInt8) (w : World) (B : Nat) (hB : B ≤ w.heap.size) (hu : Reads w u b) (hb : b.length ≤ 70368744177664) :
    Calls Tryz.prog 29 #[u] w fun en w' => ∃ o v, en = .returned (.pointer (some ⟨o, 0, none⟩)) ∧ w.heap.size ≤ o ∧ Rdr w' B o v b 0 0 ∧ Below w.heap.size w w' := by
  go_enter Tryz.func29, Tryz.ntmps29
  go_wp2_with fail
  refine (clone_any u b _ hu (by omega)).mono ?_
  rintro e1 w1 ⟨v, rfl, ho, hb1⟩
  obtain ⟨vo, vc, rfl⟩ := ho.reads.shape
  have hz := hb1.size
  go_wp2
  go_ret
  refine ⟨_, _, rfl, hb1.size, ⟨by omega, Lies.new _ _ _, (ho.mono hB).alloc _, by omega, hb⟩, hb1.alloc hb1.size _⟩

/-! Where there is no reader. -/
theorem rnum_nil (n : Int) (w : World) : Calls Tryz.prog 30 #[.pointer none, .int .i64 n] w fun e w' => e = .returned (.int .i64 0) ∧ w = w' := by
  have hmf : ∀ (fn : Fn) (first cap : Array Value) (w : World), (Instr.makeFunc fn first cap).run Tryz.prog w = .ok (.func fn first cap) w := fun _ _ _ _ => rfl
  go_enter Tryz.func30, Tryz.ntmps30
  go_wp2_with (first | go_in)
  go_ret
  exact ⟨rfl, rfl⟩
theorem rtext_nil (n : Int) (w : World) : Calls Tryz.prog 62 #[.pointer none, .int .i64 n] w fun e w' => e = .returned (.string ⟨#[]⟩) ∧ w = w' := by
  have hmf : ∀ (fn : Fn) (first cap : Array Value) (w : World), (Instr.makeFunc fn first cap).run Tryz.prog w = .ok (.func fn first cap) w := fun _ _ _ _ => rfl
  go_enter Tryz.func62, Tryz.ntmps62
  go_wp2_with (first | go_in)
  go_ret
  exact ⟨rfl, rfl⟩
theorem rcnt_nil (n : Int) (w : World) : Calls Tryz.prog 60 #[.pointer none, .int .i64 n] w fun e w' => e = .returned (.int .i64 0) ∧ w = w' := by
  have hmf : ∀ (fn : Fn) (first cap : Array Value) (w : World), (Instr.makeFunc fn first cap).run Tryz.prog w = .ok (.func fn first cap) w := fun _ _ _ _ => rfl
  go_enter Tryz.func60, Tryz.ntmps60
  go_wp2_with (first | go_in)
  go_ret
  exact ⟨rfl, rfl⟩
theorem rflag_nil (w : World) : Calls Tryz.prog 96 #[.pointer none] w fun e w' => e = .returned (.bool false) ∧ w = w' := by
  have hmf : ∀ (fn : Fn) (first cap : Array Value) (w : World), (Instr.makeFunc fn first cap).run Tryz.prog w = .ok (.func fn first cap) w := fun _ _ _ _ => rfl
  go_enter Tryz.func96, Tryz.ntmps96
  go_wp2_with (first | go_in)
  go_ret
  exact ⟨rfl, rfl⟩
theorem rerr_nil (w : World) : Calls Tryz.prog 58 #[.pointer none] w fun e w' => e = .returned (.int .i64 1) ∧ w = w' := by
  have hmf : ∀ (fn : Fn) (first cap : Array Value) (w : World), (Instr.makeFunc fn first cap).run Tryz.prog w = .ok (.func fn first cap) w := fun _ _ _ _ => rfl
  go_enter Tryz.func58, Tryz.ntmps58
  go_wp2_with (first | go_in)
  go_ret
  exact ⟨rfl, rfl⟩
theorem rdone_nil (w : World) : Calls Tryz.prog 38 #[.pointer none] w fun e w' => e = .returned (.int .i64 1) ∧ w = w' := by
  have hmf : ∀ (fn : Fn) (first cap : Array Value) (w : World), (Instr.makeFunc fn first cap).run Tryz.prog w = .ok (.func fn first cap) w := fun _ _ _ _ => rfl
  go_enter Tryz.func38, Tryz.ntmps38
  go_wp2_with (first | go_in)
  go_ret
  exact ⟨rfl, rfl⟩
end Go.Proofs.YtammfmmpldahhaaGreat
