/- The law's step, on a disk; the document's step, of every kind. Written by a program. -/
import Derived.Test.YtffgfjfeoinnfaaDkDisk
import Derived.Test.YtffgfjfeoinnfaaDkDoC
namespace Go.Proofs.Ytffgfjfeoinnfaa
open Go.RowKit

/-- What a step leaves of a disk. -/
def StepAt (S : Nat → Prop) (w : World) (d : Nat) (Y : Dk.Files × List Dk.Op) (e : Ending) (w' : World) : Prop :=
  e = .returned (.tuple #[]) ∧ DiskAt (fun j => S j ∨ w.heap.size ≤ j) w' d Y.1 Y.2 ∧ Kp (fun j _ => ¬ S j) w w'
theorem StepAt.on {S : Nat → Prop} {w w1 w' : World} {d : Nat} {Y : Dk.Files × List Dk.Op} {e : Ending} (hb : Below w.heap.size w w1) (h : StepAt S w1 d Y e w') : StepAt S w d Y e w' := by
  obtain ⟨h1, h2, h3⟩ := h
  have hs := hb.size
  exact ⟨h1, h2.imp fun k _ hk => hk.imp id (fun h => by omega), (Kp.all hb).trans h3⟩
theorem step_hold (F : Dk.Files) (B : List Dk.Op) (k n z : Int) (data : List UInt8) (hk : Dk.isKind k) :
    Dk.step (F, B) ⟨k, n, z, data⟩ = (F, if 1 ≤ n ∧ n ≤ 4294967296 then B ++ [⟨k, n, if k = 2 then data else []⟩] else B) := by
  unfold Dk.step Dk.takes Dk.opOf
  simp only
  rw [if_neg (by rcases hk with rfl | rfl | rfl <;> decide), if_neg (by rcases hk with rfl | rfl | rfl <;> decide)]
  by_cases hn : 1 ≤ n ∧ n ≤ 4294967296
  · rw [if_pos hn, if_pos (by simp only [decide_eq_true_eq]; rcases hk with rfl | rfl | rfl <;> omega)]
  · rw [if_neg hn, if_neg (by simp only [decide_eq_true_eq]; intro h; exact hn h.2.2)]
theorem step_none (F : Dk.Files) (B : List Dk.Op) (s : Dk.Step) (hk : ¬ (1 ≤ s.kind ∧ s.kind ≤ 5)) : Dk.step (F, B) s = (F, B) := by
  unfold Dk.step Dk.takes
  rw [if_neg (by omega), if_neg (by omega), if_neg (by simp only [decide_eq_true_eq]; omega)]

set_option maxRecDepth 4000 in
set_option maxHeartbeats 1600000 in
theorem step_at1 {S : Nat → Prop} {w : World} {d : Nat} {F : Dk.Files} {B : List Dk.Op} (h : DiskAt S w d F B) {N : Nat} (hg : Dk.Good (F, B) N) (hN : N ≤ 1073741824) (n z : Int) (dv : Value) (data : List UInt8) (hd : Reads w dv data) :
    Calls Try.prog 9 #[.pointer (some ⟨d, 0, none⟩), .agg #[.int .i64 1, .int .i64 n, .int .i64 z, dv]] w (StepAt S w d (Dk.step (F, B) ⟨1, n, z, data⟩)) := by
  have hBl : B.length ≤ 1099511627776 := by have h1 := hg.small; have h2 := Dk.len_wtB B; simp only at h1; omega
  obtain ⟨so, sc, rfl⟩ := hd.shape
  obtain ⟨w1, hw1⟩ : ∃ w1, w.alloc (.cells #[.int .i64 1, .int .i64 n, .int .i64 z, .slice so data.length sc] 35) = w1 := ⟨_, rfl⟩
  have hb1 : Below w.heap.size w w1 := by rw [← hw1]; exact (Below.refl _ w).alloc (Nat.le_refl _) _
  have hL1 : Lies w1 w.heap.size 35 #[.int .i64 1, .int .i64 n, .int .i64 z, .slice so data.length sc] := by rw [← hw1]; exact Lies.new w _ _
  have c0 : w1.cell? ⟨w.heap.size, 0, none⟩ = some (.int .i64 1) := hL1.cell 0 _ rfl
  have c1 : w1.cell? ⟨w.heap.size, 1, none⟩ = some (.int .i64 n) := hL1.cell 1 _ rfl
  have c2 : w1.cell? ⟨w.heap.size, 2, none⟩ = some (.int .i64 z) := hL1.cell 2 _ rfl
  have c3 : w1.cell? ⟨w.heap.size, 3, none⟩ = some (.slice so data.length sc) := hL1.cell 3 _ rfl
  have hc := make_any (h.below hb1) n (by omega)
  rw [step_hold F B 1 n z data (.inl rfl)]
  obtain ⟨B2, hB2⟩ : ∃ B2, B2 = if 1 ≤ n ∧ n ≤ 4294967296 then B ++ [(⟨1, n, []⟩ : Dk.Op)] else B := ⟨_, rfl⟩
  rw [← hB2] at hc
  have e2 : (if 1 ≤ n ∧ n ≤ 4294967296 then B ++ [(⟨1, n, if (1 : Int) = 2 then data else []⟩ : Dk.Op)] else B) = B2 := by rw [hB2]; rfl
  rw [e2]
  have HB1 := Lib.hid hb1
  clear hB2 e2 h hg hd hL1 hb1
  go_enter Try.func9, Try.ntmps9
  go_wp2_with (go_at_call 19; refine hc.mono ?_; rintro e w2 ⟨rfl, h1, h2⟩)
  go_end0
  exact StepAt.on HB1.out ⟨rfl, h1, h2⟩
set_option maxRecDepth 4000 in
set_option maxHeartbeats 1600000 in
theorem step_nil1 {w : World} (n z : Int) (dv : Value) (data : List UInt8) (hd : Reads w dv data) :
    Calls Try.prog 9 #[.pointer none, .agg #[.int .i64 1, .int .i64 n, .int .i64 z, dv]] w (Looks w (.tuple #[])) := by
  obtain ⟨so, sc, rfl⟩ := hd.shape
  obtain ⟨w1, hw1⟩ : ∃ w1, w.alloc (.cells #[.int .i64 1, .int .i64 n, .int .i64 z, .slice so data.length sc] 35) = w1 := ⟨_, rfl⟩
  have hb1 : Below w.heap.size w w1 := by rw [← hw1]; exact (Below.refl _ w).alloc (Nat.le_refl _) _
  have hL1 : Lies w1 w.heap.size 35 #[.int .i64 1, .int .i64 n, .int .i64 z, .slice so data.length sc] := by rw [← hw1]; exact Lies.new w _ _
  have c0 : w1.cell? ⟨w.heap.size, 0, none⟩ = some (.int .i64 1) := hL1.cell 0 _ rfl
  have c1 : w1.cell? ⟨w.heap.size, 1, none⟩ = some (.int .i64 n) := hL1.cell 1 _ rfl
  have c2 : w1.cell? ⟨w.heap.size, 2, none⟩ = some (.int .i64 z) := hL1.cell 2 _ rfl
  have c3 : w1.cell? ⟨w.heap.size, 3, none⟩ = some (.slice so data.length sc) := hL1.cell 3 _ rfl
  have HB1 := Lib.hid hb1
  clear hd hL1 hb1
  go_enter Try.func9, Try.ntmps9
  go_wp2_with (go_at_call 19; refine (make_nil n _).mono ?_; rintro e w2 ⟨rfl, rfl⟩)
  go_end0
  exact ⟨rfl, HB1.out⟩
set_option maxRecDepth 4000 in
set_option maxHeartbeats 1600000 in
theorem step_at2 {S : Nat → Prop} {w : World} {d : Nat} {F : Dk.Files} {B : List Dk.Op} (h : DiskAt S w d F B) {N : Nat} (hg : Dk.Good (F, B) N) (hN : N ≤ 1073741824) (n z : Int) (dv : Value) (data : List UInt8) (hd : Reads w dv data) (hl : data.length ≤ 100) :
    Calls Try.prog 9 #[.pointer (some ⟨d, 0, none⟩), .agg #[.int .i64 2, .int .i64 n, .int .i64 z, dv]] w (StepAt S w d (Dk.step (F, B) ⟨2, n, z, data⟩)) := by
  have hBl : B.length ≤ 1099511627776 := by have h1 := hg.small; have h2 := Dk.len_wtB B; simp only at h1; omega
  obtain ⟨so, sc, rfl⟩ := hd.shape
  obtain ⟨w1, hw1⟩ : ∃ w1, w.alloc (.cells #[.int .i64 2, .int .i64 n, .int .i64 z, .slice so data.length sc] 35) = w1 := ⟨_, rfl⟩
  have hb1 : Below w.heap.size w w1 := by rw [← hw1]; exact (Below.refl _ w).alloc (Nat.le_refl _) _
  have hL1 : Lies w1 w.heap.size 35 #[.int .i64 2, .int .i64 n, .int .i64 z, .slice so data.length sc] := by rw [← hw1]; exact Lies.new w _ _
  have c0 : w1.cell? ⟨w.heap.size, 0, none⟩ = some (.int .i64 2) := hL1.cell 0 _ rfl
  have c1 : w1.cell? ⟨w.heap.size, 1, none⟩ = some (.int .i64 n) := hL1.cell 1 _ rfl
  have c2 : w1.cell? ⟨w.heap.size, 2, none⟩ = some (.int .i64 z) := hL1.cell 2 _ rfl
  have c3 : w1.cell? ⟨w.heap.size, 3, none⟩ = some (.slice so data.length sc) := hL1.cell 3 _ rfl
  have hc := add_any (h.below hb1) n (.slice so data.length sc) data (hd.below hb1) (by omega) (by omega)
  rw [step_hold F B 2 n z data (.inr (.inl rfl))]
  obtain ⟨B2, hB2⟩ : ∃ B2, B2 = if 1 ≤ n ∧ n ≤ 4294967296 then B ++ [(⟨2, n, data⟩ : Dk.Op)] else B := ⟨_, rfl⟩
  rw [← hB2] at hc
  have e2 : (if 1 ≤ n ∧ n ≤ 4294967296 then B ++ [(⟨2, n, if (2 : Int) = 2 then data else []⟩ : Dk.Op)] else B) = B2 := by rw [hB2]; rfl
  rw [e2]
  have HB1 := Lib.hid hb1
  clear hB2 e2 h hg hd hL1 hb1
  go_enter Try.func9, Try.ntmps9
  go_wp2_with (go_at_call 20; refine hc.mono ?_; rintro e w2 ⟨rfl, h1, h2⟩)
  go_end0
  exact StepAt.on HB1.out ⟨rfl, h1, h2⟩
set_option maxRecDepth 4000 in
set_option maxHeartbeats 1600000 in
theorem step_nil2 {w : World} (n z : Int) (dv : Value) (data : List UInt8) (hd : Reads w dv data) :
    Calls Try.prog 9 #[.pointer none, .agg #[.int .i64 2, .int .i64 n, .int .i64 z, dv]] w (Looks w (.tuple #[])) := by
  obtain ⟨so, sc, rfl⟩ := hd.shape
  obtain ⟨w1, hw1⟩ : ∃ w1, w.alloc (.cells #[.int .i64 2, .int .i64 n, .int .i64 z, .slice so data.length sc] 35) = w1 := ⟨_, rfl⟩
  have hb1 : Below w.heap.size w w1 := by rw [← hw1]; exact (Below.refl _ w).alloc (Nat.le_refl _) _
  have hL1 : Lies w1 w.heap.size 35 #[.int .i64 2, .int .i64 n, .int .i64 z, .slice so data.length sc] := by rw [← hw1]; exact Lies.new w _ _
  have c0 : w1.cell? ⟨w.heap.size, 0, none⟩ = some (.int .i64 2) := hL1.cell 0 _ rfl
  have c1 : w1.cell? ⟨w.heap.size, 1, none⟩ = some (.int .i64 n) := hL1.cell 1 _ rfl
  have c2 : w1.cell? ⟨w.heap.size, 2, none⟩ = some (.int .i64 z) := hL1.cell 2 _ rfl
  have c3 : w1.cell? ⟨w.heap.size, 3, none⟩ = some (.slice so data.length sc) := hL1.cell 3 _ rfl
  have HB1 := Lib.hid hb1
  clear hd hL1 hb1
  go_enter Try.func9, Try.ntmps9
  go_wp2_with (go_at_call 20; refine (add_nil n _ _).mono ?_; rintro e w2 ⟨rfl, rfl⟩)
  go_end0
  exact ⟨rfl, HB1.out⟩
set_option maxRecDepth 4000 in
set_option maxHeartbeats 1600000 in
theorem step_at3 {S : Nat → Prop} {w : World} {d : Nat} {F : Dk.Files} {B : List Dk.Op} (h : DiskAt S w d F B) {N : Nat} (hg : Dk.Good (F, B) N) (hN : N ≤ 1073741824) (n z : Int) (dv : Value) (data : List UInt8) (hd : Reads w dv data) :
    Calls Try.prog 9 #[.pointer (some ⟨d, 0, none⟩), .agg #[.int .i64 3, .int .i64 n, .int .i64 z, dv]] w (StepAt S w d (Dk.step (F, B) ⟨3, n, z, data⟩)) := by
  have hBl : B.length ≤ 1099511627776 := by have h1 := hg.small; have h2 := Dk.len_wtB B; simp only at h1; omega
  obtain ⟨so, sc, rfl⟩ := hd.shape
  obtain ⟨w1, hw1⟩ : ∃ w1, w.alloc (.cells #[.int .i64 3, .int .i64 n, .int .i64 z, .slice so data.length sc] 35) = w1 := ⟨_, rfl⟩
  have hb1 : Below w.heap.size w w1 := by rw [← hw1]; exact (Below.refl _ w).alloc (Nat.le_refl _) _
  have hL1 : Lies w1 w.heap.size 35 #[.int .i64 3, .int .i64 n, .int .i64 z, .slice so data.length sc] := by rw [← hw1]; exact Lies.new w _ _
  have c0 : w1.cell? ⟨w.heap.size, 0, none⟩ = some (.int .i64 3) := hL1.cell 0 _ rfl
  have c1 : w1.cell? ⟨w.heap.size, 1, none⟩ = some (.int .i64 n) := hL1.cell 1 _ rfl
  have c2 : w1.cell? ⟨w.heap.size, 2, none⟩ = some (.int .i64 z) := hL1.cell 2 _ rfl
  have c3 : w1.cell? ⟨w.heap.size, 3, none⟩ = some (.slice so data.length sc) := hL1.cell 3 _ rfl
  have hc := drop_any (h.below hb1) n (by omega)
  rw [step_hold F B 3 n z data (.inr (.inr rfl))]
  obtain ⟨B2, hB2⟩ : ∃ B2, B2 = if 1 ≤ n ∧ n ≤ 4294967296 then B ++ [(⟨3, n, []⟩ : Dk.Op)] else B := ⟨_, rfl⟩
  rw [← hB2] at hc
  have e2 : (if 1 ≤ n ∧ n ≤ 4294967296 then B ++ [(⟨3, n, if (3 : Int) = 2 then data else []⟩ : Dk.Op)] else B) = B2 := by rw [hB2]; rfl
  rw [e2]
  have HB1 := Lib.hid hb1
  clear hB2 e2 h hg hd hL1 hb1
  go_enter Try.func9, Try.ntmps9
  go_wp2_with (go_at_call 21; refine hc.mono ?_; rintro e w2 ⟨rfl, h1, h2⟩)
  go_end0
  exact StepAt.on HB1.out ⟨rfl, h1, h2⟩
set_option maxRecDepth 4000 in
set_option maxHeartbeats 1600000 in
theorem step_nil3 {w : World} (n z : Int) (dv : Value) (data : List UInt8) (hd : Reads w dv data) :
    Calls Try.prog 9 #[.pointer none, .agg #[.int .i64 3, .int .i64 n, .int .i64 z, dv]] w (Looks w (.tuple #[])) := by
  obtain ⟨so, sc, rfl⟩ := hd.shape
  obtain ⟨w1, hw1⟩ : ∃ w1, w.alloc (.cells #[.int .i64 3, .int .i64 n, .int .i64 z, .slice so data.length sc] 35) = w1 := ⟨_, rfl⟩
  have hb1 : Below w.heap.size w w1 := by rw [← hw1]; exact (Below.refl _ w).alloc (Nat.le_refl _) _
  have hL1 : Lies w1 w.heap.size 35 #[.int .i64 3, .int .i64 n, .int .i64 z, .slice so data.length sc] := by rw [← hw1]; exact Lies.new w _ _
  have c0 : w1.cell? ⟨w.heap.size, 0, none⟩ = some (.int .i64 3) := hL1.cell 0 _ rfl
  have c1 : w1.cell? ⟨w.heap.size, 1, none⟩ = some (.int .i64 n) := hL1.cell 1 _ rfl
  have c2 : w1.cell? ⟨w.heap.size, 2, none⟩ = some (.int .i64 z) := hL1.cell 2 _ rfl
  have c3 : w1.cell? ⟨w.heap.size, 3, none⟩ = some (.slice so data.length sc) := hL1.cell 3 _ rfl
  have HB1 := Lib.hid hb1
  clear hd hL1 hb1
  go_enter Try.func9, Try.ntmps9
  go_wp2_with (go_at_call 21; refine (drop_nil n _).mono ?_; rintro e w2 ⟨rfl, rfl⟩)
  go_end0
  exact ⟨rfl, HB1.out⟩
set_option maxRecDepth 4000 in
set_option maxHeartbeats 1600000 in
theorem step_at4 {S : Nat → Prop} {w : World} {d : Nat} {F : Dk.Files} {B : List Dk.Op} (h : DiskAt S w d F B) {N : Nat} (hg : Dk.Good (F, B) N) (hN : N ≤ 1073741824) (n z : Int) (dv : Value) (data : List UInt8) (hd : Reads w dv data) :
    Calls Try.prog 9 #[.pointer (some ⟨d, 0, none⟩), .agg #[.int .i64 4, .int .i64 n, .int .i64 z, dv]] w (StepAt S w d (Dk.step (F, B) ⟨4, n, z, data⟩)) := by
  have hBl : B.length ≤ 1099511627776 := by have h1 := hg.small; have h2 := Dk.len_wtB B; simp only at h1; omega
  obtain ⟨so, sc, rfl⟩ := hd.shape
  obtain ⟨w1, hw1⟩ : ∃ w1, w.alloc (.cells #[.int .i64 4, .int .i64 n, .int .i64 z, .slice so data.length sc] 35) = w1 := ⟨_, rfl⟩
  have hb1 : Below w.heap.size w w1 := by rw [← hw1]; exact (Below.refl _ w).alloc (Nat.le_refl _) _
  have hL1 : Lies w1 w.heap.size 35 #[.int .i64 4, .int .i64 n, .int .i64 z, .slice so data.length sc] := by rw [← hw1]; exact Lies.new w _ _
  have c0 : w1.cell? ⟨w.heap.size, 0, none⟩ = some (.int .i64 4) := hL1.cell 0 _ rfl
  have c1 : w1.cell? ⟨w.heap.size, 1, none⟩ = some (.int .i64 n) := hL1.cell 1 _ rfl
  have c2 : w1.cell? ⟨w.heap.size, 2, none⟩ = some (.int .i64 z) := hL1.cell 2 _ rfl
  have c3 : w1.cell? ⟨w.heap.size, 3, none⟩ = some (.slice so data.length sc) := hL1.cell 3 _ rfl
  have hc := sync_any (h.below hb1) hg.kinds (by have := hg.small; simp only at this; omega)
  have e2 : Dk.step (F, B) ⟨4, n, z, data⟩ = (Dk.all F B, []) := rfl
  rw [e2]
  have HB1 := Lib.hid hb1
  clear e2 h hg hd hL1 hb1
  go_enter Try.func9, Try.ntmps9
  go_wp2_with (go_at_call 22; refine hc.mono ?_; rintro e w2 ⟨rfl, h1, h2⟩)
  go_end0
  exact StepAt.on HB1.out ⟨rfl, h1, h2⟩
set_option maxRecDepth 4000 in
set_option maxHeartbeats 1600000 in
theorem step_nil4 {w : World} (n z : Int) (dv : Value) (data : List UInt8) (hd : Reads w dv data) :
    Calls Try.prog 9 #[.pointer none, .agg #[.int .i64 4, .int .i64 n, .int .i64 z, dv]] w (Looks w (.tuple #[])) := by
  obtain ⟨so, sc, rfl⟩ := hd.shape
  obtain ⟨w1, hw1⟩ : ∃ w1, w.alloc (.cells #[.int .i64 4, .int .i64 n, .int .i64 z, .slice so data.length sc] 35) = w1 := ⟨_, rfl⟩
  have hb1 : Below w.heap.size w w1 := by rw [← hw1]; exact (Below.refl _ w).alloc (Nat.le_refl _) _
  have hL1 : Lies w1 w.heap.size 35 #[.int .i64 4, .int .i64 n, .int .i64 z, .slice so data.length sc] := by rw [← hw1]; exact Lies.new w _ _
  have c0 : w1.cell? ⟨w.heap.size, 0, none⟩ = some (.int .i64 4) := hL1.cell 0 _ rfl
  have c1 : w1.cell? ⟨w.heap.size, 1, none⟩ = some (.int .i64 n) := hL1.cell 1 _ rfl
  have c2 : w1.cell? ⟨w.heap.size, 2, none⟩ = some (.int .i64 z) := hL1.cell 2 _ rfl
  have c3 : w1.cell? ⟨w.heap.size, 3, none⟩ = some (.slice so data.length sc) := hL1.cell 3 _ rfl
  have HB1 := Lib.hid hb1
  clear hd hL1 hb1
  go_enter Try.func9, Try.ntmps9
  go_wp2_with (go_at_call 22; refine (sync_nil _).mono ?_; rintro e w2 ⟨rfl, rfl⟩)
  go_end0
  exact ⟨rfl, HB1.out⟩
set_option maxRecDepth 4000 in
set_option maxHeartbeats 1600000 in
theorem step_at5 {S : Nat → Prop} {w : World} {d : Nat} {F : Dk.Files} {B : List Dk.Op} (h : DiskAt S w d F B) {N : Nat} (hg : Dk.Good (F, B) N) (hN : N ≤ 1073741824) (n z : Int) (dv : Value) (data : List UInt8) (hd : Reads w dv data) :
    Calls Try.prog 9 #[.pointer (some ⟨d, 0, none⟩), .agg #[.int .i64 5, .int .i64 n, .int .i64 z, dv]] w (StepAt S w d (Dk.step (F, B) ⟨5, n, z, data⟩)) := by
  have hBl : B.length ≤ 1099511627776 := by have h1 := hg.small; have h2 := Dk.len_wtB B; simp only at h1; omega
  obtain ⟨so, sc, rfl⟩ := hd.shape
  obtain ⟨w1, hw1⟩ : ∃ w1, w.alloc (.cells #[.int .i64 5, .int .i64 n, .int .i64 z, .slice so data.length sc] 35) = w1 := ⟨_, rfl⟩
  have hb1 : Below w.heap.size w w1 := by rw [← hw1]; exact (Below.refl _ w).alloc (Nat.le_refl _) _
  have hL1 : Lies w1 w.heap.size 35 #[.int .i64 5, .int .i64 n, .int .i64 z, .slice so data.length sc] := by rw [← hw1]; exact Lies.new w _ _
  have c0 : w1.cell? ⟨w.heap.size, 0, none⟩ = some (.int .i64 5) := hL1.cell 0 _ rfl
  have c1 : w1.cell? ⟨w.heap.size, 1, none⟩ = some (.int .i64 n) := hL1.cell 1 _ rfl
  have c2 : w1.cell? ⟨w.heap.size, 2, none⟩ = some (.int .i64 z) := hL1.cell 2 _ rfl
  have c3 : w1.cell? ⟨w.heap.size, 3, none⟩ = some (.slice so data.length sc) := hL1.cell 3 _ rfl
  have hc := crash_any (h.below hb1) hg.kinds (by have := hg.small; simp only at this; omega) n z
  have e2 : Dk.step (F, B) ⟨5, n, z, data⟩ = (Dk.crash F B n z, []) := rfl
  rw [e2]
  have HB1 := Lib.hid hb1
  clear e2 h hg hd hL1 hb1
  go_enter Try.func9, Try.ntmps9
  go_wp2_with (go_at_call 17; refine hc.mono ?_; rintro e w2 ⟨rfl, h1, h2⟩)
  go_end0
  exact StepAt.on HB1.out ⟨rfl, h1, h2⟩
set_option maxRecDepth 4000 in
set_option maxHeartbeats 1600000 in
theorem step_nil5 {w : World} (n z : Int) (dv : Value) (data : List UInt8) (hd : Reads w dv data) :
    Calls Try.prog 9 #[.pointer none, .agg #[.int .i64 5, .int .i64 n, .int .i64 z, dv]] w (Looks w (.tuple #[])) := by
  obtain ⟨so, sc, rfl⟩ := hd.shape
  obtain ⟨w1, hw1⟩ : ∃ w1, w.alloc (.cells #[.int .i64 5, .int .i64 n, .int .i64 z, .slice so data.length sc] 35) = w1 := ⟨_, rfl⟩
  have hb1 : Below w.heap.size w w1 := by rw [← hw1]; exact (Below.refl _ w).alloc (Nat.le_refl _) _
  have hL1 : Lies w1 w.heap.size 35 #[.int .i64 5, .int .i64 n, .int .i64 z, .slice so data.length sc] := by rw [← hw1]; exact Lies.new w _ _
  have c0 : w1.cell? ⟨w.heap.size, 0, none⟩ = some (.int .i64 5) := hL1.cell 0 _ rfl
  have c1 : w1.cell? ⟨w.heap.size, 1, none⟩ = some (.int .i64 n) := hL1.cell 1 _ rfl
  have c2 : w1.cell? ⟨w.heap.size, 2, none⟩ = some (.int .i64 z) := hL1.cell 2 _ rfl
  have c3 : w1.cell? ⟨w.heap.size, 3, none⟩ = some (.slice so data.length sc) := hL1.cell 3 _ rfl
  have HB1 := Lib.hid hb1
  clear hd hL1 hb1
  go_enter Try.func9, Try.ntmps9
  go_wp2_with (go_at_call 17; refine (crash_nil _ _ _).mono ?_; rintro e w2 ⟨rfl, rfl⟩)
  go_end0
  exact ⟨rfl, HB1.out⟩
set_option maxRecDepth 4000 in
set_option maxHeartbeats 1600000 in
theorem step_other (k : Int) (hk : ¬ (1 ≤ k ∧ k ≤ 5)) (pv : Value) {w : World} (n z : Int) (dv : Value) (data : List UInt8) (hd : Reads w dv data) :
    Calls Try.prog 9 #[pv, .agg #[.int .i64 k, .int .i64 n, .int .i64 z, dv]] w (Looks w (.tuple #[])) := by
  obtain ⟨so, sc, rfl⟩ := hd.shape
  obtain ⟨w1, hw1⟩ : ∃ w1, w.alloc (.cells #[.int .i64 k, .int .i64 n, .int .i64 z, .slice so data.length sc] 35) = w1 := ⟨_, rfl⟩
  have hb1 : Below w.heap.size w w1 := by rw [← hw1]; exact (Below.refl _ w).alloc (Nat.le_refl _) _
  have hL1 : Lies w1 w.heap.size 35 #[.int .i64 k, .int .i64 n, .int .i64 z, .slice so data.length sc] := by rw [← hw1]; exact Lies.new w _ _
  have c0 : w1.cell? ⟨w.heap.size, 0, none⟩ = some (.int .i64 k) := hL1.cell 0 _ rfl
  have e1 : (k == 1) = false := by simp; omega
  have e2 : (k == 2) = false := by simp; omega
  have e3 : (k == 3) = false := by simp; omega
  have e4 : (k == 4) = false := by simp; omega
  have e5 : (k == 5) = false := by simp; omega
  have HB1 := Lib.hid hb1
  clear hd hL1 hb1 hk
  go_enter Try.func9, Try.ntmps9
  go_wp2
  go_end0
  exact ⟨rfl, HB1.out⟩
theorem step_any {S : Nat → Prop} {w : World} {d : Nat} {F : Dk.Files} {B : List Dk.Op} (h : DiskAt S w d F B) {N : Nat} (hg : Dk.Good (F, B) N) (hN : N ≤ 1073741824) (s : Dk.Step) (dv : Value) (hd : Reads w dv s.data) (hl : s.data.length ≤ 100) :
    Calls Try.prog 9 #[.pointer (some ⟨d, 0, none⟩), .agg #[.int .i64 s.kind, .int .i64 s.no, .int .i64 s.n, dv]] w (StepAt S w d (Dk.step (F, B) s)) := by
  obtain ⟨k, n, z, data⟩ := s
  by_cases hk : 1 ≤ k ∧ k ≤ 5
  · obtain rfl | rfl | rfl | rfl | rfl : k = 1 ∨ k = 2 ∨ k = 3 ∨ k = 4 ∨ k = 5 := by omega
    · exact step_at1 h hg hN n z dv data hd
    · exact step_at2 h hg hN n z dv data hd hl
    · exact step_at3 h hg hN n z dv data hd
    · exact step_at4 h hg hN n z dv data hd
    · exact step_at5 h hg hN n z dv data hd
  · rw [step_none F B ⟨k, n, z, data⟩ hk]
    refine (step_other k hk _ n z dv data hd).mono ?_
    rintro e w' ⟨rfl, hb⟩
    exact ⟨rfl, (h.below hb).imp fun j _ hS => .inl hS, Kp.all hb⟩
theorem step_nil {w : World} (s : Dk.Step) (dv : Value) (hd : Reads w dv s.data) :
    Calls Try.prog 9 #[.pointer none, .agg #[.int .i64 s.kind, .int .i64 s.no, .int .i64 s.n, dv]] w (Looks w (.tuple #[])) := by
  obtain ⟨k, n, z, data⟩ := s
  by_cases hk : 1 ≤ k ∧ k ≤ 5
  · obtain rfl | rfl | rfl | rfl | rfl : k = 1 ∨ k = 2 ∨ k = 3 ∨ k = 4 ∨ k = 5 := by omega
    · exact step_nil1 n z dv data hd
    · exact step_nil2 n z dv data hd
    · exact step_nil3 n z dv data hd
    · exact step_nil4 n z dv data hd
    · exact step_nil5 n z dv data hd
  · exact step_other k hk _ n z dv data hd
/-- The document's step. -/
theorem do_any {A : Nat → Prop} {base : Nat} {w : World} {x : Nat} {F : Dk.Files} {B : List Dk.Op} (h : RefAt A base w x F B) (hbase : base ≤ w.heap.size) {N : Nat} (hg : Dk.Good (F, B) N) (hN : N ≤ 1073741824) (s : Dk.Step) (dv : Value) (hd : ReadsP (fun k _ => k < base) w dv s.data) :
    Calls Try.prog 10 #[.pointer (some ⟨x, 0, none⟩), .agg #[.int .i64 s.kind, .int .i64 s.no, .int .i64 s.n, dv]] w (Did A base w x (Dk.step (F, B) s)) := by
  obtain ⟨fv, bv, h⟩ := h
  obtain ⟨k, n, z, data⟩ := s
  have hsm := hg.small
  have hlB := Dk.len_wtB B
  simp only at hsm
  by_cases h4 : k = 4
  · subst h4
    exact do_sync h hbase n z dv data hd hg.asc hg.kinds (by omega)
  by_cases h5 : k = 5
  · subst h5
    exact do_crash h hbase n z dv data hd hg.asc hg.kinds (by omega)
  by_cases hk : 1 ≤ k ∧ k ≤ 3 ∧ 1 ≤ n ∧ n ≤ 4294967296
  · have hk3 : Dk.isKind k := by unfold Dk.isKind; omega
    rw [step_hold F B k n z data hk3, if_pos hk.2.2]
    rcases hk3 with rfl | rfl | rfl
    · exact do_take1 h hbase n z dv data hd hk.2.2.1 hk.2.2.2 (by omega)
    · exact do_take2 h hbase n z dv data hd hk.2.2.1 hk.2.2.2 (by omega)
    · exact do_take3 h hbase n z dv data hd hk.2.2.1 hk.2.2.2 (by omega)
  · have e : Dk.step (F, B) ⟨k, n, z, data⟩ = (F, B) := by
      unfold Dk.step Dk.takes
      rw [if_neg h4, if_neg h5, if_neg (by simpa only [decide_eq_true_eq] using hk)]
    rw [e]
    exact do_none h hbase k n z dv data hd h4 h5 hk

end Go.Proofs.Ytffgfjfeoinnfaa
