/- Several texts of mine in one: CmdEl GBl. -/
import Derived.Test.YteboceekcmchkaaGreatDoorRows
import Derived.Test.YteboceekcmchkaaGreatDoorGCa
import Derived.Test.YteboceekcmchkaaGreatDoorGMb
import Derived.Test.YteboceekcmchkaaGreatDoorGPl
import Derived.Deep.MidRow
import Derived.Test.YteboceekcmchkaaGreatDoorShelf
import Derived.Lib.ItoaNum
import Derived.Lib.LaidU8
import Derived.OpenShut
import Derived.Deep.RegionHeld3
namespace Go.Proofs.YteboceekcmchkaaGreatDoor
open Go.RowKit
set_option maxRecDepth 20000
theorem el_cmd {H : Type} {enc : TypeId × Value → H} {w : World} {base : Nat} {sp : Nat → Bool} {held : Bool} (m : Nat) (cs : List Value) (y : DataW H × List MemPlace)
 (h : DataW.trod enc Tryz.prog w base sp held m 40 cs = some y) : ∃ c : Cm.Cmd, cs = (Cm.cells c).toList ∧ c.Fits ∧ c.Short 9223372036854775807 := by
 obtain ⟨ys, n, _, _, hl, hlen, hat⟩ := DataW.trod_struct Tryz.underlying40 h
 have hce : Tryz.prog.cellsOf 40 = 7 := by kernel_rfl
 have hci : Tryz.prog.cellsOf 3 = 1 := by kernel_rfl
 have hcs : Tryz.prog.cellsOf 9 = 1 := by kernel_rfl
 have g0 := hat 0 _ rfl
 have g1 := hat 1 _ rfl
 have g2 := hat 2 _ rfl
 have g3 := hat 3 _ rfl
 have g4 := hat 4 _ rfl
 have g5 := hat 5 _ rfl
 have g6 := hat 6 _ rfl
 rw [List.getElem?_eq_getElem (by rw [hlen]; simp)] at g0 g1 g2 g3 g4 g5 g6
 obtain ⟨x0, e0, a0, b0⟩ := one_int Tryz.underlying3 g0 hci
 obtain ⟨x1, e1, a1, b1⟩ := one_int Tryz.underlying3 g1 hci
 obtain ⟨x2, e2, a2, b2⟩ := one_int Tryz.underlying3 g2 hci
 obtain ⟨x3, e3, a3⟩ := one_str Tryz.underlying9 g3 hcs
 obtain ⟨x4, e4, a4⟩ := one_str Tryz.underlying9 g4 hcs
 obtain ⟨x5, e5, a5⟩ := one_str Tryz.underlying9 g5 hcs
 obtain ⟨x6, e6, a6, b6⟩ := one_int Tryz.underlying3 g6 hci
 rw [hce] at hl
 match cs, hl with
 | [c0, c1, c2, c3, c4, c5, c6], _ =>
  simp at e0 e1 e2 e3 e4 e5 e6
  subst e0 e1 e2 e3 e4 e5 e6
  refine ⟨⟨x0, x1, x2, x6, x3.data.toList, x5.data.toList, x4.data.toList⟩, rfl, ⟨a0, b0, a1, b1, a2, b2, a6, b6⟩, ⟨?_, ?_, ?_⟩⟩
  ·show x3.size ≤ _; omega
  ·show x5.size ≤ _; omega
  ·show x4.size ≤ _; omega
end Go.Proofs.YteboceekcmchkaaGreatDoor

namespace Go.Proofs.YteboceekcmchkaaGreatDoor
open Go.RowKit
set_option maxHeartbeats 1600000
set_option maxRecDepth 20000
abbrev Bals (w : World) (g : Nat) (b : Bl.Bal) : Prop := Lies w g 23 (Bl.cells b)
theorem Bals.both {w : World} {g : Nat} {b : Bl.Bal} (h : Bals w g b) : w.cell? ⟨g, 0, none⟩ = some (.int .i64 b.round) ∧ w.cell? ⟨g, 1, none⟩ = some (.int .i64 b.node) :=
 ⟨h.cell 0 _ rfl, h.cell 1 _ rfl⟩
theorem guard_bal : Tryz.prog.eqGuardType Tryz.prog.depth 23 = false := by kernel_rfl
theorem run_eql_bal (w : World) (c d : Bl.Bal) : (binOp .eql 23 (.agg (Bl.cells c)) (.agg (Bl.cells d))).run Tryz.prog w = .ok (.bool (decide (c = d))) w := by
 have hu := Tryz.underlying23
 obtain ⟨r, n⟩ := c
 obtain ⟨r', n'⟩ := d
 dsimp only [Bl.cells]
 go_simp
 repeat' split
 all_goals simp_all
theorem box_bal (w : World) (b : Bl.Bal) : ∃ w1, w.alloc (.cells (Bl.cells b) 23) = w1 ∧ Bals w1 w.heap.size b ∧ Below w.heap.size w w1 ∧ w1.heap.size = w.heap.size + 1 :=
 ⟨_, rfl, Lies.new w _ _, (Below.refl _ w).alloc (Nat.le_refl _) _, by simp⟩
theorem box_bals (w : World) (a b : Bl.Bal) : ∃ w1, (w.alloc (.cells (Bl.cells a) 23)).alloc (.cells (Bl.cells b) 23) = w1 ∧ Bals w1 w.heap.size a ∧ Bals w1 (w.heap.size + 1) b ∧ Below w.heap.size w w1 ∧ w1.heap.size = w.heap.size + 2 := by
 refine ⟨_, rfl, (Lies.new w _ _).alloc _, ?_, ((Below.refl _ w).alloc (Nat.le_refl _) _).alloc (by simp) _, by simp⟩
 have := Lies.new (w.alloc (.cells (Bl.cells a) 23)) 23 (Bl.cells b)
 simpa using this
theorem run_ballot (w : World) (g : Nat) (a : Bl.Bal) (h : Bals w g a) : (loadVar 23 ⟨g, 0, none⟩).run Tryz.prog w = .ok (.agg (Bl.cells a)) w :=
 run_loadVar_row w g _ _ (Bl.cells a) (0, 0) _ h Tryz.underlying23 rfl (by kernel_rfl)
theorem ret_bal1 {fn : Func} {R : Ending → World → Prop} {a : Act} {w : World} {p : Tmp} {g : Nat} {c : Bl.Bal} (h : fn.results = #[.cell p 23]) (hp : a.tmps.getD p undef = .pointer (some ⟨g, 0, none⟩))
 (hl : Bals w g c) (hd : a.defers = []) (hR : R (.returned (.agg (Bl.cells c))) w) : bodyPost Tryz.prog fn R .ret a w := by
 refine bodyPost_ret ?_ hd hR
 rw [results_one h, hp]
 simp [asAddr, Result.andThen, run_ballot w g c hl]
theorem Bl.cells_one (b : Bl.Bal) : (Bl.cells b).all (·.oneCell') = true := by simp [Bl.cells, Value.oneCell']
theorem store_bal {ops : Array Oper} {rest : List Oper} {op : Oper} {a : Act} {w : World} {Q : Exit → Act → World → Prop} (hgd : op.guard = none) (x y : Operand) (ho : op.op = .store 23 x y)
 (g : Nat) (c0 c : Bl.Bal) (hx : a.eval x = .pointer (some ⟨g, 0, none⟩)) (hy : a.eval y = .agg (Bl.cells c)) (hl : Bals w g c0)
 (h : ∀ w', Bals w' g c → w.grownBy w' (some g) → wpList Tryz.prog ops Q rest (a.put op.dst undef) w') : wpList Tryz.prog ops Q (op :: rest) a w := by
 have h0 : ∀ j, j < 2 → (w.cell? ⟨g, j, none⟩).isSome = true := by
  intro j hj
  obtain ⟨v, hv⟩ : ∃ v, (Bl.cells c0)[j]? = some v := ⟨_, Array.getElem?_eq_getElem (show j < (Bl.cells c0).size from hj)⟩
  rw [hl.cell j v hv]; rfl
 have hone := Bl.cells_one c
 have hL : Bals ((w.setCell ⟨g, 0, none⟩ (.int .i64 c.round)).setCell ⟨g, 1, none⟩ (.int .i64 c.node)) g c := (hl.set 0 _).set 1 _
 have hG : w.grownBy ((w.setCell ⟨g, 0, none⟩ (.int .i64 c.round)).setCell ⟨g, 1, none⟩ (.int .i64 c.node)) (some g) := grown_on (grown_set w g 0 _) (grown_set _ g 1 _)
 have hf := hl.free
 refine wpList_store_mid hgd _ x y ho g 0 (Bl.cells c) hx hy (fun j hj => ?_) (by kernel_rfl) hone (h _ hL hG)
 rw [Nat.zero_add]
 exact ⟨h0 j hj, hf j⟩
theorem el_bal {H : Type} {enc : TypeId × Value → H} {w : World} {base : Nat} {sp : Nat → Bool} {held : Bool} (m : Nat) (cs : List Value) (y : DataW H × List MemPlace)
 (h : DataW.trod enc Tryz.prog w base sp held m 23 cs = some y) : ∃ b : Bl.Bal, cs = (Bl.cells b).toList ∧ b.Fits := by
 obtain ⟨ys, n, _, _, hl, hlen, hat⟩ := DataW.trod_struct Tryz.underlying23 h
 have hce : Tryz.prog.cellsOf 23 = 2 := by kernel_rfl
 have hci : Tryz.prog.cellsOf 3 = 1 := by kernel_rfl
 have g0 := hat 0 _ rfl
 have g1 := hat 1 _ rfl
 rw [List.getElem?_eq_getElem (by rw [hlen]; simp)] at g0 g1
 obtain ⟨r, e0, a0, b0⟩ := one_int Tryz.underlying3 g0 hci
 obtain ⟨nd, e1, a1, b1⟩ := one_int Tryz.underlying3 g1 hci
 rw [hce] at hl
 match cs, hl with
 | [c0, c1], _ =>
  simp at e0 e1
  subst e0 e1
  exact ⟨⟨r, nd⟩, rfl, ⟨a0, b0, a1, b1⟩⟩
abbrev ReadsB (w : World) (v : Value) (l : List Bl.Bal) : Prop := ReadsR w v 2 (l.map Bl.cells)
theorem ReadsB.places {w : World} {ao : Option Addr} {n cap : Nat} {l : List Bl.Bal} (h : ReadsB w (.slice ao n cap) l) (hl : 0 < l.length) :
 ∃ b off, ao = some ⟨b, off, none⟩ ∧ b < w.heap.size ∧ ∀ w', Below w.heap.size w w' → ∀ i c, l[i]? = some c → w'.cell? ⟨b, off + i * 2, none⟩ = some (.int .i64 c.round) ∧ w'.cell? ⟨b, off + i * 2 + 1, none⟩ = some (.int .i64 c.node) := by
 obtain ⟨b, off, e, hlt, hc⟩ := ReadsR.places h (r0 := Bl.cells (l[0]'hl)) (u0 := .int .i64 (l[0]'hl).round) (by rw [List.getElem?_map, List.getElem?_eq_getElem hl]; rfl) rfl
 refine ⟨b, off, e, hlt, fun w' hb i c hi => ⟨?_, ?_⟩⟩
 ·exact hc w' hb i (Bl.cells c) (by rw [List.getElem?_map, hi]; rfl) 0 _ rfl
 ·exact hc w' hb i (Bl.cells c) (by rw [List.getElem?_map, hi]; rfl) 1 _ rfl
theorem run_rest_bal (w : World) (ao : Option Addr) (n cap f : Nat) (hf : f ≤ n) :
 (Instr.slice 153 (.slice ao n cap) (some (.int .i64 (f : Int))) none none).run Tryz.prog w = .ok (sliced ao f n cap 2) w := by
 have he : Tryz.prog.elem 153 = 23 := by kernel_rfl
 have hi : (Tryz.prog.info? 23).isSome = true := by kernel_rfl
 obtain ⟨i, hi⟩ := Option.isSome_iff_exists.1 hi
 have hrun := run_slice_l (P := Tryz.prog) (w := w) 153 ao n cap (by rw [he]; exact Tryz.underlying153) .i64 (f : Int) (by omega) (by omega)
 rw [he] at hrun
 refine hrun.trans ?_
 rw [run_sizeOf _ hi, show Tryz.prog.cellsOf 23 = 2 by kernel_rfl]
 simp only [Result.andThen, Int.toNat_natCast]
namespace Cm
end Cm
abbrev PowIn (w : World) : Prop := Lib.TabIs Tryz.prog w "internal/strconv.uint64pow10" .u64 Lib.pow10Tab
theorem PowIn.below {w w' : World} (h : PowIn w) (hb : Below w.heap.size w w') : PowIn w' := var_below h hb
theorem bwithin_any (n m : Int) (w : World) : Calls Tryz.prog 79 #[.int .i64 n, .int .i64 m] w (Says w (.bool (Bl.within n m))) := by
 by_cases h1 : 1 ≤ n
 ·have d1 : decide (1 ≤ n) = true := decide_eq_true h1
  by_cases h2 : n ≤ m
  ·have d2 : decide (n ≤ m) = true := decide_eq_true h2
   go_enter Tryz.func79, Tryz.ntmps79
   go_wp2
   go_ret
   exact ⟨by simp [Bl.within, d1, d2], rfl⟩
  ·have d2 : decide (n ≤ m) = false := decide_eq_false h2
   go_enter Tryz.func79, Tryz.ntmps79
   go_wp2
   go_ret
   exact ⟨by simp [Bl.within, d1, d2], rfl⟩
 ·have d1 : decide (1 ≤ n) = false := decide_eq_false h1
  go_enter Tryz.func79, Tryz.ntmps79
  go_wp2
  go_ret
  exact ⟨by simp [Bl.within, d1], rfl⟩
theorem bmay_any (b : Bl.Bal) (w : World) : Calls Tryz.prog 43 #[.agg (Bl.cells b)] w (Looks w (.bool (Bl.may b))) := by
 obtain ⟨w1, e1, hl1, hB1, hz1⟩ := box_bal w b
 obtain ⟨p0, p1⟩ := Bals.both hl1
 have HB1 := Lib.hid hB1
 have heq := fun W => run_eql_bal W b Bl.zero
 have hgd := guard_bal
 obtain ⟨t, ht⟩ : ∃ t, t = decide (b = Bl.zero) := ⟨_, rfl⟩
 rw [← ht] at heq
 have HT := Lib.hid ht
 obtain ⟨r, hr⟩ : ∃ r, r = Bl.within b.round 4294967296 := ⟨_, rfl⟩
 obtain ⟨n, hn⟩ : ∃ n, n = Bl.within b.node 9 := ⟨_, rfl⟩
 have HM : Hid (Bl.may b = (t || (r && n))) := by show _ = _; rw [ht, hr, hn]; rfl
 have HR := Lib.hid hr
 have HN := Lib.hid hn
 clear ht hr hn hl1 hB1 hz1
 dsimp only [Bl.cells, Bl.zero] at heq
 go_enter Tryz.func43, Tryz.ntmps43
 cases t with
 | true =>
  go_wp2
  go_ret
  exact ⟨by rw [HM.out]; rfl, HB1.out⟩
 | false =>
  go_wp2_with fail
  refine (bwithin_any b.round 4294967296 _).mono ?_
  rintro e w2 ⟨rfl, rfl⟩
  rw [← HR.out]
  cases r with
  | false =>
   go_wp2
   go_ret
   exact ⟨by rw [HM.out]; rfl, HB1.out⟩
  | true =>
   go_wp2_with fail
   refine (bwithin_any b.node 9 _).mono ?_
   rintro e w2 ⟨rfl, rfl⟩
   rw [← HN.out]
   go_wp2
   go_ret
   exact ⟨by rw [HM.out]; rfl, HB1.out⟩
theorem bless_any (a b : Bl.Bal) (w : World) : Calls Tryz.prog 46 #[.agg (Bl.cells a), .agg (Bl.cells b)] w (Looks w (.bool (Bl.less a b))) := by
 obtain ⟨w1, e1, hl1, hl2, hB1, hz1⟩ := box_bals w a b
 obtain ⟨p0, p1⟩ := Bals.both hl1
 obtain ⟨q0, q1⟩ := Bals.both hl2
 have HB1 := Lib.hid hB1
 clear hl1 hl2 hB1 hz1
 by_cases h : a.round = b.round
 ·have hne : (a.round != b.round) = false := by simpa using h
  have HL : Hid (Bl.less a b = decide (a.node < b.node)) := if_pos h
  clear h
  go_enter Tryz.func46, Tryz.ntmps46
  go_wp2
  go_ret
  exact ⟨ret_bool HL.out.symm, HB1.out⟩
 ·have hne : (a.round != b.round) = true := by simpa using h
  have HL : Hid (Bl.less a b = decide (a.round < b.round)) := if_neg h
  clear h
  go_enter Tryz.func46, Tryz.ntmps46
  go_wp2
  go_ret
  exact ⟨ret_bool HL.out.symm, HB1.out⟩
theorem brefLess_any (a b : Bl.Bal) (w : World) : Calls Tryz.prog 29 #[.agg (Bl.cells a), .agg (Bl.cells b)] w (Looks w (.bool (Bl.less a b))) := by
 obtain ⟨w1, e1, hl1, hl2, hB1, hz1⟩ := box_bals w a b
 obtain ⟨p0, p1⟩ := Bals.both hl1
 obtain ⟨q0, q1⟩ := Bals.both hl2
 have HB1 := Lib.hid hB1
 clear hl1 hl2 hB1 hz1
 by_cases h : a.round = b.round
 ·have hne : (a.round == b.round) = true := by simpa using h
  have HL : Hid (Bl.less a b = decide (a.node < b.node)) := if_pos h
  clear h
  go_enter Tryz.func29, Tryz.ntmps29
  go_wp2
  go_ret
  exact ⟨ret_bool HL.out.symm, HB1.out⟩
 ·have hne : (a.round == b.round) = false := by simpa using h
  have HL : Hid (Bl.less a b = decide (a.round < b.round)) := if_neg h
  clear h
  go_enter Tryz.func29, Tryz.ntmps29
  go_wp2
  go_ret
  exact ⟨ret_bool HL.out.symm, HB1.out⟩
theorem brefMay_any (b : Bl.Bal) (w : World) : Calls Tryz.prog 27 #[.agg (Bl.cells b)] w (Looks w (.bool (Bl.may b))) := by
 obtain ⟨w1, e1, hl1, hB1, hz1⟩ := box_bal w b
 obtain ⟨p0, p1⟩ := Bals.both hl1
 have HB1 := Lib.hid hB1
 obtain ⟨r, n⟩ := b
 dsimp only at p0 p1
 obtain ⟨t0, h0⟩ : ∃ t, (r == 0) = t := ⟨_, rfl⟩
 obtain ⟨t1, h1⟩ : ∃ t, (n == 0) = t := ⟨_, rfl⟩
 obtain ⟨t2, h2⟩ : ∃ t, decide (1 ≤ r) = t := ⟨_, rfl⟩
 obtain ⟨t3, h3⟩ : ∃ t, decide (r ≤ 4294967296) = t := ⟨_, rfl⟩
 obtain ⟨t4, h4⟩ : ∃ t, decide (1 ≤ n) = t := ⟨_, rfl⟩
 obtain ⟨t5, h5⟩ : ∃ t, decide (n ≤ 9) = t := ⟨_, rfl⟩
 have HM : Hid (Bl.may ⟨r, n⟩ = ((t0 && t1) || ((t2 && t3) && (t4 && t5)))) := by
  show _ = _
  rw [← h0, ← h1, ← h2, ← h3, ← h4, ← h5]
  simp only [Bl.may, Bl.zero, Bl.within, Bl.Bal.mk.injEq, Bool.decide_and]
  rfl
 have HE := Lib.hid e1
 clear hl1 hB1 hz1
 cases t0 <;> cases t1 <;> cases t2 <;> (try cases t3) <;> (try cases t4)
 all_goals
  go_enter Tryz.func27, Tryz.ntmps27
  go_wp2
  go_ret
  first
   | exact ⟨by rw [HM.out]; rfl, HB1.out⟩
   | exact ⟨by rw [HM.out, ← h5]; rfl, HB1.out⟩
end Go.Proofs.YteboceekcmchkaaGreatDoor
