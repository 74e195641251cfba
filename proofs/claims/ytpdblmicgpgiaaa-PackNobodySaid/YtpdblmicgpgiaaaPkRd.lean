/- pack's reader: its inner functions. -/
import Derived.Test.YtpdblmicgpgiaaaRows
import Derived.Test.YtpdblmicgpgiaaaPkMem
import Derived.Test.YtpdblmicgpgiaaaGet
import Derived.Test.YtpdblmicgpgiaaaClone
import Derived.Deep.QuietTactic
import Derived.BigQuiet
namespace Go.Proofs.Ytpdblmicgpgiaaa
open Go.RowKit

/-- A reader of the call's own: its block, and the row of bytes that it reads. -/
structure Rdr (w : World) (B o : Nat) (v : Value) (b : List UInt8) (p : Nat) (er : Int) : Prop where
  base : B ≤ o
  lies : Lies w o 54 #[v, .int .i64 (p : Int), .int .i64 er]
  owns : Owns w B 5 v b
  inn : p ≤ b.length
  small : b.length ≤ 70368744177664

theorem Rdr.kept {w w' : World} {B o : Nat} {v : Value} {b : List UInt8} {p : Nat} {er : Int} (h : Rdr w B o v b p er) (hb : Below w.heap.size w w') : Rdr w' B o v b p er :=
  ⟨h.base, h.lies.below hb h.lies.lt, h.owns.keep hb (Nat.le_refl _), h.inn, h.small⟩
theorem Rdr.drewN {w : World} {B o : Nat} {v : Value} {b : List UInt8} {p : Nat} {er : Int} (h : Rdr w B o v b p er) (n : Nat) : Rdr (w.drewN n) B o v b p er := h.kept (drawn w n)
theorem Rdr.off {w : World} {B o : Nat} {v : Value} {b : List UInt8} {p : Nat} {er : Int} (h : Rdr w B o v b p er) : v.ownBlock = none ∨ v.ownBlock ≠ some o := .inr fun e => h.lies.not_row (by decide) h.owns e.symm
theorem Rdr.goes {w : World} {B o : Nat} {v : Value} {b : List UInt8} {p : Nat} {er : Int} (h : Rdr w B o v b p er) {q : Nat} (hq : q ≤ b.length) :
    Rdr (w.setCell ⟨o, 1, none⟩ (.int .i64 (q : Int))) B o v b q er ∧ w.grownBy (w.setCell ⟨o, 1, none⟩ (.int .i64 (q : Int))) (some o) :=
  ⟨⟨h.base, h.lies.set 1 _, h.owns.grown (grown_set w o 1 _) h.off, hq, h.small⟩, grown_set w o 1 _⟩
theorem Rdr.errs {w : World} {B o : Nat} {v : Value} {b : List UInt8} {p : Nat} {er : Int} (h : Rdr w B o v b p er) (e : Int) :
    Rdr (w.setCell ⟨o, 2, none⟩ (.int .i64 e)) B o v b p e ∧ w.grownBy (w.setCell ⟨o, 2, none⟩ (.int .i64 e)) (some o) :=
  ⟨⟨h.base, h.lies.set 2 _, h.owns.grown (grown_set w o 2 _) h.off, h.inn, h.small⟩, grown_set w o 2 _⟩
/-- Draws first. -/
theorem drewN_grown {w w' : World} {n : Nat} {row : Option Nat} (h : (w.drewN n).grownBy w' row) : w.grownBy w' row := ⟨h.os, h.tape, h.output, h.size, h.block⟩
theorem grown_drewN (w : World) (n : Nat) (row : Option Nat) : w.grownBy (w.drewN n) row := ⟨rfl, rfl, rfl, Nat.le_refl _, fun _ _ _ => rfl⟩
theorem grown_any {w w' : World} (h : w.grownBy w' none) (row : Option Nat) : w.grownBy w' row := ⟨h.os, h.tape, h.output, h.size, fun i hi _ => h.block i hi (by simp)⟩
theorem grown_on {w w1 w2 : World} {row : Option Nat} (h : w.grownBy w1 row) (k : w1.grownBy w2 row) : w.grownBy w2 row :=
  ⟨k.os.trans h.os, k.tape.trans h.tape, k.output.trans h.output, Nat.le_trans h.size k.size, fun j hj hr => (k.block j (Nat.lt_of_lt_of_le hj h.size) hr).trans (h.block j hj hr)⟩

/-- The post of an inner reading: the two results, the reader behind it. -/
def Got (w : World) (B o : Nat) (v : Value) (b : List UInt8) (q : Nat) (er : Int) (x : Value) (e : Int) (en : Ending) (w' : World) : Prop :=
  en = .returned (.tuple #[x, .int .i64 e]) ∧ Rdr w' B o v b q er ∧ w.grownBy w' (some o)

set_option maxRecDepth 4000 in
set_option maxHeartbeats 800000 in
theorem number_is (most : Int) (w : World) (B o : Nat) (v : Value) (b : List UInt8) (p : Nat) (er n : Int) (q : Nat) (e : Int) (hr : Rdr w B o v b p er) (h : Hid (Pk.num b p most = (n, (q : Int), e))) :
    Calls Try.prog 33 #[.pointer (some ⟨o, 0, none⟩), .int .i64 most] w (Got w B o v b q er (.int .i64 n) e) := by
  have hc0 := hr.lies.cell 0 v rfl
  have hc1 := hr.lies.cell 1 (.int .i64 (p : Int)) rfl
  have hf := hr.lies.free 1
  have HR := Lib.hid hr
  have hrd := hr.owns.reads
  have hcall : ∀ k, Calls Try.prog 42 #[v, .int .i64 (p : Int)] (w.drewN k) (fun e w' => e = .returned (.tuple #[.int .i64 (getp b p).1, .int .i64 (getp b p).2.1, .int .i64 (getp b p).2.2]) ∧ ∃ m, w' = w.drewN m) := by
    intro k
    refine (get_any v b p (w.drewN k) hrd).mono ?_
    rintro e w ⟨rfl, rfl⟩
    exact ⟨rfl, k, rfl⟩
  clear hr
  rcases Pk.num_cases b p most with ⟨e', he, hg, hn⟩ | ⟨n', q', hg, h1, h2, h3, h4, hn⟩ | ⟨n', q', hg, h1, h2, h3, h4, hn⟩
  all_goals
    have h' := h.out
    rw [hn] at h'
    simp only [Prod.mk.injEq, Int.natCast_inj] at h'
    obtain ⟨rfl, rfl, rfl⟩ := h'
    rw [hg] at hcall
    dsimp only at hcall
    have HCALL := Lib.hid hcall
    clear hcall
    clear hg hn h hrd
    go_enter Try.func33, Try.ntmps33
    go_wp2
    go_quiet (first | (go_at_call 42; exact HCALL.out _))
    go_wp2
    go_ret2
  · exact ⟨rfl, HR.out.drewN _, grown_drewN _ _ _⟩
  · exact ⟨rfl, HR.out.drewN _, grown_drewN _ _ _⟩
  · exact ⟨rfl, ((HR.out.drewN _).goes h2).1, drewN_grown ((HR.out.drewN _).goes h2).2⟩

set_option maxRecDepth 4000 in
set_option maxHeartbeats 800000 in
theorem count_is (most : Int) (w : World) (B o : Nat) (v : Value) (b : List UInt8) (p : Nat) (er n : Int) (q : Nat) (e : Int) (hr : Rdr w B o v b p er) (h : Hid (Pk.cnt b p most = (n, (q : Int), e))) :
    Calls Try.prog 41 #[.pointer (some ⟨o, 0, none⟩), .int .i64 most] w (Got w B o v b q er (.int .i64 n) e) := by
  have hsm := hr.small
  rcases Pk.cnt_cases b p most with ⟨e', he, hg, hn⟩ | ⟨n', q', hg, h1, h2, h3, hn⟩ | ⟨n', q', hg, h1, hn⟩
  all_goals
    have h' := h.out
    rw [hn] at h'
    simp only [Prod.mk.injEq, Int.natCast_inj] at h'
    obtain ⟨rfl, rfl, rfl⟩ := h'
    have HG := Lib.hid hg
    clear hg hn h
    go_enter Try.func41, Try.ntmps41
    go_wp2_with fail
    refine (number_is most _ B o v b p er _ _ _ hr HG).mono ?_
    rintro e1 w1 ⟨rfl, hr1, hg1⟩
    have hc0 := hr1.lies.cell 0 v rfl
    have hc1 := hr1.lies.cell 1 (.int .i64 _) rfl
    obtain ⟨ao, cap, rfl⟩ := hr1.owns.reads.shape
  · go_wp2
    go_quiet (fail)
    go_wp2
    go_ret2
    exact ⟨rfl, hr1.drewN _, grown_on hg1 (grown_drewN _ _ _)⟩
  · obtain ⟨k, hk⟩ : ∃ k : Nat, (b.length : Int) - (q' : Int) = (k : Int) := ⟨b.length - q', by omega⟩
    rw [hk] at h3
    go_wp2
    go_quiet (fail)
    go_wp2
    go_ret2
    exact ⟨rfl, hr1.drewN _, grown_on hg1 (grown_drewN _ _ _)⟩
  · obtain ⟨k, hk⟩ : ∃ k : Nat, (b.length : Int) - (q' : Int) = (k : Int) := ⟨b.length - q', by omega⟩
    have h3 : ¬ (k : Int) < (n' : Int) := by omega
    go_wp2
    go_quiet (fail)
    go_wp2
    go_ret2
    exact ⟨rfl, hr1.drewN _, grown_on hg1 (grown_drewN _ _ _)⟩

/-- A part of what is read. -/
theorem Reads.part {w : World} {ao : Option Addr} {n cap : Nat} {l : List UInt8} (h : Reads w (.slice ao n cap) l) (f q : Nat) (hf : f ≤ q) (hq : q ≤ l.length) : Reads w (sliced ao f q cap 1) ((l.drop f).take (q - f)) := by
  obtain ⟨hn, hc, hm, hnil⟩ := h.len
  unfold sliced
  have e : ((l.drop f).take (q - f)).length = q - f := by simp; omega
  rw [Nat.mul_one]
  by_cases h0 : q - f = 0
  · rw [h0, List.take_zero]
    refine ⟨_, cap - f, rfl, by simp, by unfold maxLen; omega, fun h1 => ?_, fun x _ j u hu => by simp [cellsOf] at hu⟩
    by_cases hcf : cap = f
    · omega
    · rw [if_neg hcf] at h1
      cases ao with
      | none => have := hnil rfl; omega
      | some x => simp at h1
  · have hcf : ¬ cap = f := by omega
    rw [if_neg hcf]
    obtain ⟨b, off, rfl, hcell⟩ := h.place (by omega)
    obtain ⟨ao', cap', hv, h1, h2, h3, h4⟩ := h
    simp only [Value.slice.injEq] at hv
    obtain ⟨rfl, rfl, rfl⟩ := hv
    refine ⟨some ⟨b, off + f, none⟩, cap - f, by rw [e]; simp [Addr.add_lit], by rw [e]; omega, by omega, (fun h => by cases h), fun x hx j u hu => ?_⟩
    cases hx
    have := h4 _ rfl (f + j) u (by
      simp only [cellsOf, List.getElem?_map, List.getElem?_take, List.getElem?_drop] at hu ⊢
      split at hu
      · exact hu
      · simp at hu)
    rw [Addr.add_lit] at this ⊢
    rw [Nat.add_assoc]; exact this

theorem run_part (w : World) (ao : Option Addr) (n cap f q : Nat) (hf : f ≤ q) (hq : q ≤ cap) :
    (Instr.slice 26 (.slice ao n cap) (some (.int .i64 (f : Int))) (some (.int .i64 (q : Int))) none).run Try.prog w = .ok (sliced ao f q cap 1) w := by
  have he : Try.prog.elem 26 = 5 := by kernel_rfl
  obtain ⟨i, h1, _⟩ := info_parts info_u8
  have hrun := run_slice_lh (P := Try.prog) (w := w) 26 ao n cap (by rw [he]; exact Try.underlying26) .i64 .i64 (f : Int) (q : Int) (by omega) (by omega) (by omega)
  rw [he] at hrun
  refine hrun.trans ?_
  rw [run_sizeOf _ h1, show Try.prog.cellsOf 5 = 1 by kernel_rfl]
  simp only [Result.andThen, Int.toNat_natCast]

set_option maxRecDepth 4000 in
set_option maxHeartbeats 800000 in
theorem skip_any (size : Nat) (w : World) (B o : Nat) (v : Value) (b : List UInt8) (p : Nat) (er : Int) (hr : Rdr w B o v b p er) (hs : p + size ≤ b.length) :
    Calls Try.prog 44 #[.pointer (some ⟨o, 0, none⟩), .int .i64 (size : Int)] w
      fun en w' => ∃ u, en = .returned u ∧ Reads w' u ((b.drop p).take size) ∧ Rdr w' B o v b (p + size) er ∧ w.grownBy w' (some o) := by
  have hsm := hr.small
  obtain ⟨ao, cap, rfl⟩ := hr.owns.reads.shape
  have hcap := hr.owns.reads.len
  obtain ⟨q, hq⟩ : ∃ q : Nat, q = p + size := ⟨_, rfl⟩
  have hqi : (p : Int) + (size : Int) = (q : Int) := by omega
  have hqb : q ≤ b.length := by omega
  have hp := hr.owns.reads.part p q (by omega) hqb
  obtain ⟨uo, uc, hu⟩ := hp.shape
  have hrun : ∀ w, (Instr.slice 26 (.slice ao b.length cap) (some (.int .i64 (p : Int))) (some (.int .i64 (q : Int))) none).run Try.prog w = .ok (.slice uo ((b.drop p).take (q - p)).length uc) w := by
    intro w
    rw [run_part w ao _ cap p q (by omega) (by omega), hu]
  have hp2 := (hr.goes hqb).1.owns.reads.part p q (by omega) hqb
  rw [hu] at hp2
  obtain ⟨m, hm⟩ : ∃ m, m = ((b.drop p).take (q - p)).length := ⟨_, rfl⟩
  rw [← hm] at hrun hp2
  have hc0 := hr.lies.cell 0 _ rfl
  have hc1 := hr.lies.cell 1 (.int .i64 (p : Int)) rfl
  have hf := hr.lies.free 1
  have hgo := hr.goes hqb
  have hd0 := hgo.1.lies.cell 0 _ rfl
  have hd1 := hgo.1.lies.cell 1 (.int .i64 (q : Int)) rfl
  have HGO := Lib.hid hgo; have HP := Lib.hid hp2; have HQ := Lib.hid hq; have HM := Lib.hid hm
  clear hgo hp hp2 hq hm hu
  go_enter Try.func44, Try.ntmps44
  go_wp2
  go_quiet (fail)
  go_wp2
  go_ret
  have hq := HQ.out
  refine ⟨_, rfl, ?_, ?_, grown_on HGO.out.2 (grown_drewN _ _ _)⟩
  · rw [show size = q - p by omega]
    exact HP.out.below (drawn _ _)
  · rw [← hq]
    exact HGO.out.1.drewN _
end Go.Proofs.Ytpdblmicgpgiaaa
