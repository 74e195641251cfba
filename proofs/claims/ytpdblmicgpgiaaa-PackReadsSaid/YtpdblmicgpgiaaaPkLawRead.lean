/- The law's own read: a field of a kind, by the program's reader. -/
import Derived.Test.YtpdblmicgpgiaaaPkRefRead
import Derived.Test.YtpdblmicgpgiaaaPkRd3
namespace Go.Proofs.Ytpdblmicgpgiaaa
open Go.RowKit

/-- The post: the field's four cells, the reader behind it. -/
def Field1 (w : World) (B o : Nat) (v : Value) (b : List UInt8) (q : Nat) (e : Int) (f : Fld) (en : Ending) (w' : World) : Prop :=
  en = .returned (.agg f.cells.toArray) ∧ Rdr w' B o v b q e ∧ Below B w w'

abbrev F0 : Obj := .cells #[.int .i64 0, .int .i64 0, .string ⟨#[]⟩, .bool false] 32
abbrev F1 (k : Int) : Obj := .cells #[.int .i64 k, .int .i64 0, .string ⟨#[]⟩, .bool false] 32

theorem Rdr.beside {w w' : World} {B o j : Nat} {v : Value} {b : List UInt8} {p : Nat} {er : Int} (h : Rdr w B o v b p er) (hg : w.grownBy w' (some j)) (hj : j ≠ o) (hv : v.ownBlock ≠ some j) : Rdr w' B o v b p er :=
  ⟨h.base, h.lies.kept hg (by simp; omega), h.owns.grown hg (.inr hv), h.inn, h.small⟩

/-- The stores behind the reading. -/
theorem read_end {w3 : World} {B o R j : Nat} {v : Value} {b : List UInt8} {q : Nat} {e : Int} {a0 a1 a2 a3 : Value} (x c0 c1 c2 c3 : Value) (hr3 : Rdr w3 B o v b q e) (kR : Lies w3 R 32 #[a0, a1, a2, a3]) (ho : o < R) (hv : ∀ k, v.ownBlock = some k → k < R) (hB : B ≤ R) (hR : R + 1 < w3.heap.size) :
    Rdr (((((w3.setCell ⟨R + 1, j, none⟩ x).setCell ⟨R, 0, none⟩ c0).setCell ⟨R, 1, none⟩ c1).setCell ⟨R, 2, none⟩ c2).setCell ⟨R, 3, none⟩ c3) B o v b q e ∧
    Lies (((((w3.setCell ⟨R + 1, j, none⟩ x).setCell ⟨R, 0, none⟩ c0).setCell ⟨R, 1, none⟩ c1).setCell ⟨R, 2, none⟩ c2).setCell ⟨R, 3, none⟩ c3) R 32 #[c0, c1, c2, c3] ∧
    Below B w3 (((((w3.setCell ⟨R + 1, j, none⟩ x).setCell ⟨R, 0, none⟩ c0).setCell ⟨R, 1, none⟩ c1).setCell ⟨R, 2, none⟩ c2).setCell ⟨R, 3, none⟩ c3) := by
  have n1 : v.ownBlock ≠ some (R + 1) := fun h => by have := hv _ h; omega
  have n0 : v.ownBlock ≠ some R := fun h => by have := hv _ h; omega
  have s1 := grown_set w3 (R + 1) j x
  have s2 := grown_set (w3.setCell ⟨R + 1, j, none⟩ x) R 0 c0
  have s3 := grown_set ((w3.setCell ⟨R + 1, j, none⟩ x).setCell ⟨R, 0, none⟩ c0) R 1 c1
  have s4 := grown_set (((w3.setCell ⟨R + 1, j, none⟩ x).setCell ⟨R, 0, none⟩ c0).setCell ⟨R, 1, none⟩ c1) R 2 c2
  have s5 := grown_set ((((w3.setCell ⟨R + 1, j, none⟩ x).setCell ⟨R, 0, none⟩ c0).setCell ⟨R, 1, none⟩ c1).setCell ⟨R, 2, none⟩ c2) R 3 c3
  refine ⟨((((hr3.beside s1 (by omega) n1).beside s2 (by omega) n0).beside s3 (by omega) n0).beside s4 (by omega) n0).beside s5 (by omega) n0, ?_, ?_⟩
  · have := ((((kR.kept s1 (by simp)).set 0 c0).set 1 c1).set 2 c2).set 3 c3
    exact this
  · have b1 := (Below.refl B w3).grown s1 (by omega) (by rintro k hk; cases hk; omega)
    have z1 := s1.size; have z2 := s2.size; have z3 := s3.size; have z4 := s4.size
    exact (((b1.grown s2 (by omega) (by rintro k hk; cases hk; omega)).grown s3 (by omega) (by rintro k hk; cases hk; omega)).grown s4 (by omega) (by rintro k hk; cases hk; omega)).grown s5 (by omega) (by rintro k hk; cases hk; omega)

set_option maxRecDepth 4000 in
set_option maxHeartbeats 1600000 in
theorem lawread_num (most : Int) (x : Int) (w : World) (B o : Nat) (v : Value) (b : List UInt8) (p : Nat) (er : Int) (q : Nat) (e : Int) (hB : B ≤ w.heap.size) (hr : Rdr w B o v b p er)
    (hm : ∀ w1, Rdr w1 B o v b p er → Calls Try.prog 17 #[.pointer (some ⟨o, 0, none⟩), .int .i64 most] w1 (Gave w1 B o v b q e (.int .i64 x))) :
    Calls Try.prog 13 #[.pointer (some ⟨o, 0, none⟩), .int .i64 1, .int .i64 most] w (Field1 w B o v b q e ⟨1, x, [], false⟩) := by
  have hb1 : Below w.heap.size w ((w.alloc F0).alloc (F1 1)) := ((Below.refl _ w).alloc (Nat.le_refl _) _).alloc (by simp) _
  have hr1 := hr.kept hb1
  have hlR : Lies ((w.alloc F0).alloc (F1 1)) w.heap.size 32 #[.int .i64 0, .int .i64 0, .string ⟨#[]⟩, .bool false] := (Lies.new w _ _).alloc _
  have hlF : Lies ((w.alloc F0).alloc (F1 1)) (w.heap.size + 1) 32 #[.int .i64 1, .int .i64 0, .string ⟨#[]⟩, .bool false] := by
    have := Lies.new (w.alloc F0) 32 #[.int .i64 1, .int .i64 0, .string ⟨#[]⟩, .bool false]
    simpa using this
  have hol := hr.lies.lt
  have hvl : ∀ k, v.ownBlock = some k → k < w.heap.size := fun k hk => (World.ownsRow.lt hr.owns k hk).2
  have hsz := hlF.lt
  obtain ⟨W, hW⟩ : ∃ W, W = (w.alloc F0).alloc (F1 1) := ⟨_, rfl⟩
  have HW := Lib.hid hW
  go_enter Try.func13, Try.ntmps13
  go_wp2_with fail
  refine (hm _ hr1).mono ?_
  rintro e1 w3 ⟨rfl, hr3, hg3⟩
  have kR := hlR.kept hg3 (by simp; omega)
  have kF := hlF.kept hg3 (by simp; omega)
  have f0 := kF.cell 0 _ rfl
  have f1 := kF.cell 1 _ rfl
  have f2 := kF.cell 2 _ rfl
  have f3 := kF.cell 3 _ rfl
  have g1 := kF.free 1
  have r0 := kR.cell 0 _ rfl
  have r1 := kR.cell 1 _ rfl
  have r2 := kR.cell 2 _ rfl
  have r3 := kR.cell 3 _ rfl
  have z0 := kR.free 0
  have z1 := kR.free 1
  have z2 := kR.free 2
  have z3 := kR.free 3
  have hz3 := hg3.size
  have hE := read_end (j := 1) (.int .i64 x) (.int .i64 1) (.int .i64 x) (.string ⟨#[]⟩) (.bool false) hr3 kR hol hvl hB (by omega)
  have HE := Lib.hid hE
  have HK := Lib.hid kR
  have HB3 : Hid (Below B w w3) := (hb1.mono hB).grown hg3 (by have := hb1.size; omega) (by rintro k hk; cases hk; exact hr.base)
  clear hE kR kF hg3 hr3 hlR hlF
  go_wp2
  refine ret_cell1 rfl rfl HE.out.2.1 rfl rfl ?_
  exact ⟨rfl, HE.out.1, HB3.out.trans HE.out.2.2⟩

set_option maxRecDepth 4000 in
set_option maxHeartbeats 1600000 in
theorem lawread_text (most : Int) (x : List UInt8) (w : World) (B o : Nat) (v : Value) (b : List UInt8) (p : Nat) (er : Int) (q : Nat) (e : Int) (hB : B ≤ w.heap.size) (hr : Rdr w B o v b p er)
    (hm : ∀ w1, Rdr w1 B o v b p er → Calls Try.prog 18 #[.pointer (some ⟨o, 0, none⟩), .int .i64 most] w1 (Gave w1 B o v b q e (.string ⟨x.toArray⟩))) :
    Calls Try.prog 13 #[.pointer (some ⟨o, 0, none⟩), .int .i64 2, .int .i64 most] w (Field1 w B o v b q e ⟨2, 0, x, false⟩) := by
  have hb1 : Below w.heap.size w ((w.alloc F0).alloc (F1 2)) := ((Below.refl _ w).alloc (Nat.le_refl _) _).alloc (by simp) _
  have hr1 := hr.kept hb1
  have hlR : Lies ((w.alloc F0).alloc (F1 2)) w.heap.size 32 #[.int .i64 0, .int .i64 0, .string ⟨#[]⟩, .bool false] := (Lies.new w _ _).alloc _
  have hlF : Lies ((w.alloc F0).alloc (F1 2)) (w.heap.size + 1) 32 #[.int .i64 2, .int .i64 0, .string ⟨#[]⟩, .bool false] := by
    have := Lies.new (w.alloc F0) 32 #[.int .i64 2, .int .i64 0, .string ⟨#[]⟩, .bool false]
    simpa using this
  have hol := hr.lies.lt
  have hvl : ∀ k, v.ownBlock = some k → k < w.heap.size := fun k hk => (World.ownsRow.lt hr.owns k hk).2
  have hsz := hlF.lt
  obtain ⟨W, hW⟩ : ∃ W, W = (w.alloc F0).alloc (F1 2) := ⟨_, rfl⟩
  have HW := Lib.hid hW
  go_enter Try.func13, Try.ntmps13
  go_wp2_with fail
  refine (hm _ hr1).mono ?_
  rintro e1 w3 ⟨rfl, hr3, hg3⟩
  have kR := hlR.kept hg3 (by simp; omega)
  have kF := hlF.kept hg3 (by simp; omega)
  have f0 := kF.cell 0 _ rfl
  have f1 := kF.cell 1 _ rfl
  have f2 := kF.cell 2 _ rfl
  have f3 := kF.cell 3 _ rfl
  have g1 := kF.free 2
  have r0 := kR.cell 0 _ rfl
  have r1 := kR.cell 1 _ rfl
  have r2 := kR.cell 2 _ rfl
  have r3 := kR.cell 3 _ rfl
  have z0 := kR.free 0
  have z1 := kR.free 1
  have z2 := kR.free 2
  have z3 := kR.free 3
  have hz3 := hg3.size
  have hE := read_end (j := 2) (.string ⟨x.toArray⟩) (.int .i64 2) (.int .i64 0) (.string ⟨x.toArray⟩) (.bool false) hr3 kR hol hvl hB (by omega)
  have HE := Lib.hid hE
  have HK := Lib.hid kR
  have HB3 : Hid (Below B w w3) := (hb1.mono hB).grown hg3 (by have := hb1.size; omega) (by rintro k hk; cases hk; exact hr.base)
  clear hE kR kF hg3 hr3 hlR hlF
  go_wp2
  refine ret_cell1 rfl rfl HE.out.2.1 rfl rfl ?_
  exact ⟨rfl, HE.out.1, HB3.out.trans HE.out.2.2⟩

set_option maxRecDepth 4000 in
set_option maxHeartbeats 1600000 in
theorem lawread_flag (most : Int) (x : Bool) (w : World) (B o : Nat) (v : Value) (b : List UInt8) (p : Nat) (er : Int) (q : Nat) (e : Int) (hB : B ≤ w.heap.size) (hr : Rdr w B o v b p er)
    (hm : ∀ w1, Rdr w1 B o v b p er → Calls Try.prog 19 #[.pointer (some ⟨o, 0, none⟩)] w1 (Gave w1 B o v b q e (.bool x))) :
    Calls Try.prog 13 #[.pointer (some ⟨o, 0, none⟩), .int .i64 3, .int .i64 most] w (Field1 w B o v b q e ⟨3, 0, [], x⟩) := by
  have hb1 : Below w.heap.size w ((w.alloc F0).alloc (F1 3)) := ((Below.refl _ w).alloc (Nat.le_refl _) _).alloc (by simp) _
  have hr1 := hr.kept hb1
  have hlR : Lies ((w.alloc F0).alloc (F1 3)) w.heap.size 32 #[.int .i64 0, .int .i64 0, .string ⟨#[]⟩, .bool false] := (Lies.new w _ _).alloc _
  have hlF : Lies ((w.alloc F0).alloc (F1 3)) (w.heap.size + 1) 32 #[.int .i64 3, .int .i64 0, .string ⟨#[]⟩, .bool false] := by
    have := Lies.new (w.alloc F0) 32 #[.int .i64 3, .int .i64 0, .string ⟨#[]⟩, .bool false]
    simpa using this
  have hol := hr.lies.lt
  have hvl : ∀ k, v.ownBlock = some k → k < w.heap.size := fun k hk => (World.ownsRow.lt hr.owns k hk).2
  have hsz := hlF.lt
  obtain ⟨W, hW⟩ : ∃ W, W = (w.alloc F0).alloc (F1 3) := ⟨_, rfl⟩
  have HW := Lib.hid hW
  go_enter Try.func13, Try.ntmps13
  go_wp2_with fail
  refine (hm _ hr1).mono ?_
  rintro e1 w3 ⟨rfl, hr3, hg3⟩
  have kR := hlR.kept hg3 (by simp; omega)
  have kF := hlF.kept hg3 (by simp; omega)
  have f0 := kF.cell 0 _ rfl
  have f1 := kF.cell 1 _ rfl
  have f2 := kF.cell 2 _ rfl
  have f3 := kF.cell 3 _ rfl
  have g1 := kF.free 3
  have r0 := kR.cell 0 _ rfl
  have r1 := kR.cell 1 _ rfl
  have r2 := kR.cell 2 _ rfl
  have r3 := kR.cell 3 _ rfl
  have z0 := kR.free 0
  have z1 := kR.free 1
  have z2 := kR.free 2
  have z3 := kR.free 3
  have hz3 := hg3.size
  have hE := read_end (j := 3) (.bool x) (.int .i64 3) (.int .i64 0) (.string ⟨#[]⟩) (.bool x) hr3 kR hol hvl hB (by omega)
  have HE := Lib.hid hE
  have HK := Lib.hid kR
  have HB3 : Hid (Below B w w3) := (hb1.mono hB).grown hg3 (by have := hb1.size; omega) (by rintro k hk; cases hk; exact hr.base)
  clear hE kR kF hg3 hr3 hlR hlF
  go_wp2
  refine ret_cell1 rfl rfl HE.out.2.1 rfl rfl ?_
  exact ⟨rfl, HE.out.1, HB3.out.trans HE.out.2.2⟩

set_option maxRecDepth 4000 in
set_option maxHeartbeats 1600000 in
theorem lawread_cnt (most : Int) (x : Int) (w : World) (B o : Nat) (v : Value) (b : List UInt8) (p : Nat) (er : Int) (q : Nat) (e : Int) (hB : B ≤ w.heap.size) (hr : Rdr w B o v b p er)
    (hm : ∀ w1, Rdr w1 B o v b p er → Calls Try.prog 26 #[.pointer (some ⟨o, 0, none⟩), .int .i64 most] w1 (Gave w1 B o v b q e (.int .i64 x))) :
    Calls Try.prog 13 #[.pointer (some ⟨o, 0, none⟩), .int .i64 4, .int .i64 most] w (Field1 w B o v b q e ⟨4, x, [], false⟩) := by
  have hb1 : Below w.heap.size w ((w.alloc F0).alloc (F1 4)) := ((Below.refl _ w).alloc (Nat.le_refl _) _).alloc (by simp) _
  have hr1 := hr.kept hb1
  have hlR : Lies ((w.alloc F0).alloc (F1 4)) w.heap.size 32 #[.int .i64 0, .int .i64 0, .string ⟨#[]⟩, .bool false] := (Lies.new w _ _).alloc _
  have hlF : Lies ((w.alloc F0).alloc (F1 4)) (w.heap.size + 1) 32 #[.int .i64 4, .int .i64 0, .string ⟨#[]⟩, .bool false] := by
    have := Lies.new (w.alloc F0) 32 #[.int .i64 4, .int .i64 0, .string ⟨#[]⟩, .bool false]
    simpa using this
  have hol := hr.lies.lt
  have hvl : ∀ k, v.ownBlock = some k → k < w.heap.size := fun k hk => (World.ownsRow.lt hr.owns k hk).2
  have hsz := hlF.lt
  obtain ⟨W, hW⟩ : ∃ W, W = (w.alloc F0).alloc (F1 4) := ⟨_, rfl⟩
  have HW := Lib.hid hW
  go_enter Try.func13, Try.ntmps13
  go_wp2_with fail
  refine (hm _ hr1).mono ?_
  rintro e1 w3 ⟨rfl, hr3, hg3⟩
  have kR := hlR.kept hg3 (by simp; omega)
  have kF := hlF.kept hg3 (by simp; omega)
  have f0 := kF.cell 0 _ rfl
  have f1 := kF.cell 1 _ rfl
  have f2 := kF.cell 2 _ rfl
  have f3 := kF.cell 3 _ rfl
  have g1 := kF.free 1
  have r0 := kR.cell 0 _ rfl
  have r1 := kR.cell 1 _ rfl
  have r2 := kR.cell 2 _ rfl
  have r3 := kR.cell 3 _ rfl
  have z0 := kR.free 0
  have z1 := kR.free 1
  have z2 := kR.free 2
  have z3 := kR.free 3
  have hz3 := hg3.size
  have hE := read_end (j := 1) (.int .i64 x) (.int .i64 4) (.int .i64 x) (.string ⟨#[]⟩) (.bool false) hr3 kR hol hvl hB (by omega)
  have HE := Lib.hid hE
  have HK := Lib.hid kR
  have HB3 : Hid (Below B w w3) := (hb1.mono hB).grown hg3 (by have := hb1.size; omega) (by rintro k hk; cases hk; exact hr.base)
  clear hE kR kF hg3 hr3 hlR hlF
  go_wp2
  refine ret_cell1 rfl rfl HE.out.2.1 rfl rfl ?_
  exact ⟨rfl, HE.out.1, HB3.out.trans HE.out.2.2⟩

set_option maxRecDepth 4000 in
set_option maxHeartbeats 1600000 in
theorem lawread_raw (most : Int) (x : List UInt8) (w : World) (B o : Nat) (v : Value) (b : List UInt8) (p : Nat) (er : Int) (q : Nat) (e : Int) (hB : B ≤ w.heap.size) (hr : Rdr w B o v b p er)
    (hm : ∀ w1, Rdr w1 B o v b p er → Calls Try.prog 25 #[.pointer (some ⟨o, 0, none⟩), .int .i64 most] w1 (fun en w' => ∃ u, Gave w1 B o v b q e u en w' ∧ Reads w' u x)) :
    Calls Try.prog 13 #[.pointer (some ⟨o, 0, none⟩), .int .i64 5, .int .i64 most] w (Field1 w B o v b q e ⟨2, 0, x, false⟩) := by
  have hb1 : Below w.heap.size w ((w.alloc F0).alloc (F1 2)) := ((Below.refl _ w).alloc (Nat.le_refl _) _).alloc (by simp) _
  have hr1 := hr.kept hb1
  have hlR : Lies ((w.alloc F0).alloc (F1 2)) w.heap.size 32 #[.int .i64 0, .int .i64 0, .string ⟨#[]⟩, .bool false] := (Lies.new w _ _).alloc _
  have hlF : Lies ((w.alloc F0).alloc (F1 2)) (w.heap.size + 1) 32 #[.int .i64 2, .int .i64 0, .string ⟨#[]⟩, .bool false] := by
    have := Lies.new (w.alloc F0) 32 #[.int .i64 2, .int .i64 0, .string ⟨#[]⟩, .bool false]
    simpa using this
  have hol := hr.lies.lt
  have hvl : ∀ k, v.ownBlock = some k → k < w.heap.size := fun k hk => (World.ownsRow.lt hr.owns k hk).2
  have hsz := hlF.lt
  obtain ⟨W, hW⟩ : ∃ W, W = (w.alloc F0).alloc (F1 2) := ⟨_, rfl⟩
  have HW := Lib.hid hW
  go_enter Try.func13, Try.ntmps13
  go_wp2_with fail
  refine (hm _ hr1).mono ?_
  rintro e1 w3 ⟨u, ⟨rfl, hr3, hg3⟩, hu⟩
  obtain ⟨uo, uc, rfl⟩ := hu.shape
  have kR := hlR.kept hg3 (by simp; omega)
  have kF := hlF.kept hg3 (by simp; omega)
  have f0 := kF.cell 0 _ rfl
  have f1 := kF.cell 1 _ rfl
  have f2 := kF.cell 2 _ rfl
  have f3 := kF.cell 3 _ rfl
  have g1 := kF.free 2
  have r0 := kR.cell 0 _ rfl
  have r1 := kR.cell 1 _ rfl
  have r2 := kR.cell 2 _ rfl
  have r3 := kR.cell 3 _ rfl
  have z0 := kR.free 0
  have z1 := kR.free 1
  have z2 := kR.free 2
  have z3 := kR.free 3
  have hz3 := hg3.size
  have hE := read_end (j := 2) (.string ⟨x.toArray⟩) (.int .i64 2) (.int .i64 0) (.string ⟨x.toArray⟩) (.bool false) hr3 kR hol hvl hB (by omega)
  have HE := Lib.hid hE
  have HK := Lib.hid kR
  have HB3 : Hid (Below B w w3) := (hb1.mono hB).grown hg3 (by have := hb1.size; omega) (by rintro k hk; cases hk; exact hr.base)
  have hst := run_string_of (P := Try.prog) _ Try.underlying26 Try.underlying5 Try.underlying9 hu
  obtain ⟨m, hm'⟩ : ∃ m, m = x.length := ⟨_, rfl⟩
  rw [← hm'] at hst ⊢
  clear hm' hu
  clear hE kR kF hg3 hr3 hlR hlF
  go_wp2
  refine ret_cell1 rfl rfl HE.out.2.1 rfl rfl ?_
  exact ⟨rfl, HE.out.1, HB3.out.trans HE.out.2.2⟩
end Go.Proofs.Ytpdblmicgpgiaaa
