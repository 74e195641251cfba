/- Several texts of mine in one: BalMem Dig Bal. -/
import Derived.Test.YtfdnmmmjaipgoaaDoorRows
import Derived.Test.YtfdnmmmjaipgoaaDoorGPl
import Derived.Test.YtfdnmmmjaipgoaaDoorGMb
import Derived.Deep.MidRow
import Derived.Test.YtfdnmmmjaipgoaaDoorShelf
import Derived.Lib.ItoaNum
import Derived.Lib.LaidU8
import Derived.OpenShut
import Derived.Deep.RegionHeld3
namespace Go.Proofs.YtfdnmmmjaipgoaaDoor
open Go.RowKit

/-- A ballot lies in a block. -/
abbrev Bals (w : World) (g : Nat) (b : Bl.Bal) : Prop := Lies w g 26 (Bl.cells b)
theorem Bals.both {w : World} {g : Nat} {b : Bl.Bal} (h : Bals w g b) : w.cell? ⟨g, 0, none⟩ = some (.int .i64 b.round) ∧ w.cell? ⟨g, 1, none⟩ = some (.int .i64 b.node) :=
  ⟨h.cell 0 _ rfl, h.cell 1 _ rfl⟩

theorem guard_bal : Tryd.prog.eqGuardType Tryd.prog.depth 26 = false := by kernel_rfl
theorem run_eql_bal (w : World) (c d : Bl.Bal) : (binOp .eql 26 (.agg (Bl.cells c)) (.agg (Bl.cells d))).run Tryd.prog w = .ok (.bool (decide (c = d))) w := by
  have hu := Tryd.underlying26
  obtain ⟨r, n⟩ := c
  obtain ⟨r', n'⟩ := d
  dsimp only [Bl.cells]
  go_simp
  repeat' split
  all_goals simp_all
theorem run_neq_bal (w : World) (c d : Bl.Bal) : (binOp .neq 26 (.agg (Bl.cells c)) (.agg (Bl.cells d))).run Tryd.prog w = .ok (.bool (!decide (c = d))) w := by
  have hu := Tryd.underlying26
  obtain ⟨r, n⟩ := c
  obtain ⟨r', n'⟩ := d
  dsimp only [Bl.cells]
  go_simp
  repeat' split
  all_goals simp_all

/-- A ballot boxed. -/
theorem box_bal (w : World) (b : Bl.Bal) : ∃ w1, w.alloc (.cells (Bl.cells b) 26) = w1 ∧ Bals w1 w.heap.size b ∧ Below w.heap.size w w1 ∧ w1.heap.size = w.heap.size + 1 :=
  ⟨_, rfl, Lies.new w _ _, (Below.refl _ w).alloc (Nat.le_refl _) _, by simp⟩
/-- Two ballots boxed. -/
theorem box_bals (w : World) (a b : Bl.Bal) : ∃ w1, (w.alloc (.cells (Bl.cells a) 26)).alloc (.cells (Bl.cells b) 26) = w1 ∧ Bals w1 w.heap.size a ∧ Bals w1 (w.heap.size + 1) b ∧ Below w.heap.size w w1 ∧ w1.heap.size = w.heap.size + 2 := by
  refine ⟨_, rfl, (Lies.new w _ _).alloc _, ?_, ((Below.refl _ w).alloc (Nat.le_refl _) _).alloc (by simp) _, by simp⟩
  have := Lies.new (w.alloc (.cells (Bl.cells a) 26)) 26 (Bl.cells b)
  simpa using this
/-- A ballot boxed, and a block for another one. -/
theorem box_bal0 (w : World) (a : Bl.Bal) : ∃ w1, (w.alloc (.cells (Bl.cells a) 26)).alloc (.cells #[.int .i64 0, .int .i64 0] 26) = w1 ∧ Bals w1 w.heap.size a ∧ Bals w1 (w.heap.size + 1) Bl.zero ∧ Below w.heap.size w w1 ∧ w1.heap.size = w.heap.size + 2 :=
  box_bals w a Bl.zero
theorem run_ballot (w : World) (g : Nat) (a : Bl.Bal) (h : Bals w g a) : (loadVar 26 ⟨g, 0, none⟩).run Tryd.prog w = .ok (.agg (Bl.cells a)) w :=
  run_loadVar_row w g _ _ (Bl.cells a) (0, 0) _ h Tryd.underlying26 rfl (by kernel_rfl)
theorem ret_bal1 {fn : Func} {R : Ending → World → Prop} {a : Act} {w : World} {p : Tmp} {g : Nat} {c : Bl.Bal} (h : fn.results = #[.cell p 26]) (hp : a.tmps.getD p undef = .pointer (some ⟨g, 0, none⟩))
    (hl : Bals w g c) (hd : a.defers = []) (hR : R (.returned (.agg (Bl.cells c))) w) : bodyPost Tryd.prog fn R .ret a w := by
  refine bodyPost_ret ?_ hd hR
  rw [results_one h, hp]
  simp [asAddr, Result.andThen, run_ballot w g c hl]
theorem ret_bal2 {fn : Func} {R : Ending → World → Prop} {a : Act} {w : World} {p u : Tmp} {g : Nat} {c : Bl.Bal} (h : fn.results = #[.cell p 26, .tmp u]) (hp : a.tmps.getD p undef = .pointer (some ⟨g, 0, none⟩))
    (hl : Bals w g c) (hd : a.defers = []) (hR : R (.returned (.tuple #[.agg (Bl.cells c), a.tmps.getD u undef])) w) : bodyPost Tryd.prog fn R .ret a w := by
  refine bodyPost_ret ?_ hd hR
  rw [results_two h, hp]
  simp [asAddr, Result.andThen, run_ballot w g c hl]

theorem Bl.cells_one (b : Bl.Bal) : (Bl.cells b).all (·.oneCell') = true := by simp [Bl.cells, Value.oneCell']
set_option maxHeartbeats 1600000 in
theorem store_bal {ops : Array Oper} {rest : List Oper} {op : Oper} {a : Act} {w : World} {Q : Exit → Act → World → Prop} (hgd : op.guard = none) (x y : Operand) (ho : op.op = .store 26 x y)
    (g : Nat) (c0 c : Bl.Bal) (hx : a.eval x = .pointer (some ⟨g, 0, none⟩)) (hy : a.eval y = .agg (Bl.cells c)) (hl : Bals w g c0)
    (h : ∀ w', Bals w' g c → w.grownBy w' (some g) → wpList Tryd.prog ops Q rest (a.put op.dst undef) w') : wpList Tryd.prog ops Q (op :: rest) a w := by
  have h0 : ∀ j, j < 2 → (w.cell? ⟨g, j, none⟩).isSome = true := by
    intro j hj
    obtain ⟨v, hv⟩ : ∃ v, (Bl.cells c0)[j]? = some v := ⟨_, Array.getElem?_eq_getElem (show j < (Bl.cells c0).size from hj)⟩
    rw [hl.cell j v hv]; rfl
  have hone := Bl.cells_one c
  have hL : Bals ((w.setCell ⟨g, 0, none⟩ (.int .i64 c.round)).setCell ⟨g, 1, none⟩ (.int .i64 c.node)) g c := (hl.set 0 _).set 1 _
  have hG : w.grownBy ((w.setCell ⟨g, 0, none⟩ (.int .i64 c.round)).setCell ⟨g, 1, none⟩ (.int .i64 c.node)) (some g) := grown_on (grown_set w g 0 _) (grown_set _ g 1 _)
  have hf := hl.free
  refine wpList_store_mid hgd _ x y ho g 0 (Bl.cells c) hx hy (fun j hj => ?_) (by kernel_rfl) hone (h _ hL hG)
  rw [Nat.zero_add]
  exact ⟨h0 j hj, hf j⟩

set_option maxRecDepth 20000 in
/-- An element's cells are a ballot's. -/
theorem el_bal {H : Type} {enc : TypeId × Value → H} {w : World} {base : Nat} {sp : Nat → Bool} {held : Bool} (m : Nat) (cs : List Value) (y : DataW H × List MemPlace)
    (h : DataW.trod enc Tryd.prog w base sp held m 26 cs = some y) : ∃ b : Bl.Bal, cs = (Bl.cells b).toList ∧ b.Fits := by
  obtain ⟨ys, n, _, _, hl, hlen, hat⟩ := DataW.trod_struct Tryd.underlying26 h
  have hce : Tryd.prog.cellsOf 26 = 2 := by kernel_rfl
  have hci : Tryd.prog.cellsOf 3 = 1 := by kernel_rfl
  have g0 := hat 0 _ rfl
  have g1 := hat 1 _ rfl
  rw [List.getElem?_eq_getElem (by rw [hlen]; simp)] at g0 g1
  obtain ⟨r, e0, a0, b0⟩ := one_int Tryd.underlying3 g0 hci
  obtain ⟨nd, e1, a1, b1⟩ := one_int Tryd.underlying3 g1 hci
  rw [hce] at hl
  match cs, hl with
  | [c0, c1], _ =>
    simp at e0 e1
    subst e0 e1
    exact ⟨⟨r, nd⟩, rfl, ⟨a0, b0, a1, b1⟩⟩
set_option maxRecDepth 20000 in
theorem came_bal {H : Type} {enc : TypeId × Value → H} {w : World} {b0 base : Nat} {sp : Nat → Bool} {held : Bool} {v : Value} {d : DataW H} {p : List MemPlace}
    (hv : Value.okWide Tryd.prog w .any b0 26 v) (h : DataW.Trod enc Tryd.prog w base sp held 26 v d p) : ∃ b : Bl.Bal, v = .agg (Bl.cells b) ∧ b.Fits := by
  obtain ⟨cs, rfl, hsz⟩ := WideShapes.okWide_struct Tryd.underlying26 hv
  obtain ⟨fuel, hf⟩ := h
  obtain ⟨b, e, hb⟩ := el_bal fuel _ _ hf
  refine ⟨b, ?_, hb⟩
  have : cs.toList = (Bl.cells b).toList := e
  rw [Array.toList_inj.1 this]
/-- A row of ballots. -/
abbrev ReadsB (w : World) (v : Value) (l : List Bl.Bal) : Prop := ReadsR w v 2 (l.map Bl.cells)
set_option maxRecDepth 20000 in
theorem came_bals {H : Type} {enc : TypeId × Value → H} {w : World} {b0 base : Nat} {held : Bool} {v : Value} {d : DataW H} {p : List MemPlace}
    (hv : Value.okWide Tryd.prog w .any b0 75 v) (h : DataW.Trod enc Tryd.prog w base (fun _ => true) held 75 v d p) : ∃ l : List Bl.Bal, ReadsB w v l ∧ ∀ b ∈ l, b.Fits :=
  came_rows Bl.cells Bl.Bal.Fits Tryd.underlying75 (by kernel_rfl) (fun m cs y hm => el_bal m cs y hm) hv h
/-- Where there is a ballot: its two cells, in every world behind. -/
theorem ReadsB.places {w : World} {ao : Option Addr} {n cap : Nat} {l : List Bl.Bal} (h : ReadsB w (.slice ao n cap) l) (hl : 0 < l.length) :
    ∃ b off, ao = some ⟨b, off, none⟩ ∧ b < w.heap.size ∧ ∀ w', Below w.heap.size w w' → ∀ i c, l[i]? = some c → w'.cell? ⟨b, off + i * 2, none⟩ = some (.int .i64 c.round) ∧ w'.cell? ⟨b, off + i * 2 + 1, none⟩ = some (.int .i64 c.node) := by
  obtain ⟨b, off, e, hlt, hc⟩ := ReadsR.places h (r0 := Bl.cells (l[0]'hl)) (u0 := .int .i64 (l[0]'hl).round) (by rw [List.getElem?_map, List.getElem?_eq_getElem hl]; rfl) rfl
  refine ⟨b, off, e, hlt, fun w' hb i c hi => ⟨?_, ?_⟩⟩
  · exact hc w' hb i (Bl.cells c) (by rw [List.getElem?_map, hi]; rfl) 0 _ rfl
  · exact hc w' hb i (Bl.cells c) (by rw [List.getElem?_map, hi]; rfl) 1 _ rfl
theorem run_rest_bal (w : World) (ao : Option Addr) (n cap f : Nat) (hf : f ≤ n) :
    (Instr.slice 75 (.slice ao n cap) (some (.int .i64 (f : Int))) none none).run Tryd.prog w = .ok (sliced ao f n cap 2) w := by
  have he : Tryd.prog.elem 75 = 26 := by kernel_rfl
  have hi : (Tryd.prog.info? 26).isSome = true := by kernel_rfl
  obtain ⟨i, hi⟩ := Option.isSome_iff_exists.1 hi
  have hrun := run_slice_l (P := Tryd.prog) (w := w) 75 ao n cap (by rw [he]; exact Tryd.underlying75) .i64 (f : Int) (by omega) (by omega)
  rw [he] at hrun
  refine hrun.trans ?_
  rw [run_sizeOf _ hi, show Tryd.prog.cellsOf 26 = 2 by kernel_rfl]
  simp only [Result.andThen, Int.toNat_natCast]

end Go.Proofs.YtfdnmmmjaipgoaaDoor


namespace Go.Proofs.YtfdnmmmjaipgoaaDoor
open Go.RowKit

namespace Cm
theorem nDigits_le : ∀ (k u : Nat), u < 10 ^ (k + 1) → Lib.nDigits u ≤ k + 1 := by
  intro k
  induction k with
  | zero => intro u h; rw [Lib.nDigits_small (by simpa using h)]; omega
  | succ k ih =>
    intro u h
    by_cases h10 : u < 10
    · rw [Lib.nDigits_small h10]; omega
    · rw [Lib.nDigits_big h10]
      have := ih (u / 10) (by rw [Nat.pow_succ] at h; omega)
      omega
theorem itoa_len (n : Int) (h0 : -9223372036854775808 ≤ n) (h1 : n ≤ 9223372036854775807) : (Lib.itoa n).length ≤ 21 := by
  unfold Lib.itoa
  split
  · rw [List.length_cons, Lib.decDigits_length]
    have := nDigits_le 19 n.natAbs (by omega)
    omega
  · rw [Lib.decDigits_length]
    have := nDigits_le 19 n.toNat (by omega)
    omega
end Cm

abbrev PowIn (w : World) : Prop := Lib.TabIs Tryd.prog w "internal/strconv.uint64pow10" .u64 Lib.pow10Tab

theorem PowIn.below {w w' : World} (h : PowIn w) (hb : Below w.heap.size w w') : PowIn w' := var_below h hb

theorem str_lit {A : ByteArray} {l : List UInt8} (h : A.data.toList = l) : Ending.returned (.string A) = .returned (.string ⟨l.toArray⟩) := by subst h; rfl

theorem run_dig (w : World) (j : Nat) (h : j < 10) :
    (Instr.slice 9 (.string ⟨#[48, 49, 50, 51, 52, 53, 54, 55, 56, 57]⟩) (some (.int .i64 (j : Int))) (some (.int .i64 ((j : Int) + 1))) none).run Tryd.prog w = .ok (.string ⟨#[UInt8.ofNat (48 + j)]⟩) w := by
  rw [run_slice_string w 9 _ _ _ _ _ Tryd.underlying9 (by omega) (by omega) (by show (j : Int) + 1 ≤ ((10 : Nat) : Int); omega)]
  congr 2
  have : ∀ j : Fin 10, (⟨#[48, 49, 50, 51, 52, 53, 54, 55, 56, 57]⟩ : ByteArray).extract (j.1 : Int).toNat ((j.1 : Int) + 1).toNat = ⟨#[UInt8.ofNat (48 + j.1)]⟩ := by decide
  exact this ⟨j, h⟩

end Go.Proofs.YtfdnmmmjaipgoaaDoor


namespace Go.Proofs.YtfdnmmmjaipgoaaDoor
open Go.RowKit

theorem bwithin_any (n m : Int) (w : World) : Calls Tryd.prog 48 #[.int .i64 n, .int .i64 m] w (Says w (.bool (Bl.within n m))) := by
  by_cases h1 : 1 ≤ n
  · have d1 : decide (1 ≤ n) = true := decide_eq_true h1
    by_cases h2 : n ≤ m
    · have d2 : decide (n ≤ m) = true := decide_eq_true h2
      go_enter Tryd.func48, Tryd.ntmps48
      go_wp2
      go_ret
      exact ⟨by simp [Bl.within, d1, d2], rfl⟩
    · have d2 : decide (n ≤ m) = false := decide_eq_false h2
      go_enter Tryd.func48, Tryd.ntmps48
      go_wp2
      go_ret
      exact ⟨by simp [Bl.within, d1, d2], rfl⟩
  · have d1 : decide (1 ≤ n) = false := decide_eq_false h1
    go_enter Tryd.func48, Tryd.ntmps48
    go_wp2
    go_ret
    exact ⟨by simp [Bl.within, d1], rfl⟩

set_option maxRecDepth 4000 in
theorem bmay_any (b : Bl.Bal) (w : World) : Calls Tryd.prog 32 #[.agg (Bl.cells b)] w (Looks w (.bool (Bl.may b))) := by
  obtain ⟨w1, e1, hl1, hB1, hz1⟩ := box_bal w b
  obtain ⟨p0, p1⟩ := Bals.both hl1
  have HB1 := Lib.hid hB1
  have heq := fun W => run_eql_bal W b Bl.zero
  have hgd := guard_bal
  obtain ⟨t, ht⟩ : ∃ t, t = decide (b = Bl.zero) := ⟨_, rfl⟩
  rw [← ht] at heq
  have HT := Lib.hid ht
  obtain ⟨r, hr⟩ : ∃ r, r = Bl.within b.round 4294967296 := ⟨_, rfl⟩
  obtain ⟨n, hn⟩ : ∃ n, n = Bl.within b.node 9 := ⟨_, rfl⟩
  have HM : Hid (Bl.may b = (t || (r && n))) := by show _ = _; rw [ht, hr, hn]; rfl
  have HR := Lib.hid hr
  have HN := Lib.hid hn
  clear ht hr hn hl1 hB1 hz1
  dsimp only [Bl.cells, Bl.zero] at heq
  go_enter Tryd.func32, Tryd.ntmps32
  cases t with
  | true =>
    go_wp2
    go_ret
    exact ⟨by rw [HM.out]; rfl, HB1.out⟩
  | false =>
    go_wp2_with fail
    refine (bwithin_any b.round 4294967296 _).mono ?_
    rintro e w2 ⟨rfl, rfl⟩
    rw [← HR.out]
    cases r with
    | false =>
      go_wp2
      go_ret
      exact ⟨by rw [HM.out]; rfl, HB1.out⟩
    | true =>
      go_wp2_with fail
      refine (bwithin_any b.node 9 _).mono ?_
      rintro e w2 ⟨rfl, rfl⟩
      rw [← HN.out]
      go_wp2
      go_ret
      exact ⟨by rw [HM.out]; rfl, HB1.out⟩

theorem bless_any (a b : Bl.Bal) (w : World) : Calls Tryd.prog 35 #[.agg (Bl.cells a), .agg (Bl.cells b)] w (Looks w (.bool (Bl.less a b))) := by
  obtain ⟨w1, e1, hl1, hl2, hB1, hz1⟩ := box_bals w a b
  obtain ⟨p0, p1⟩ := Bals.both hl1
  obtain ⟨q0, q1⟩ := Bals.both hl2
  have HB1 := Lib.hid hB1
  clear hl1 hl2 hB1 hz1
  by_cases h : a.round = b.round
  · have hne : (a.round != b.round) = false := by simpa using h
    have HL : Hid (Bl.less a b = decide (a.node < b.node)) := if_pos h
    clear h
    go_enter Tryd.func35, Tryd.ntmps35
    go_wp2
    go_ret
    exact ⟨ret_bool HL.out.symm, HB1.out⟩
  · have hne : (a.round != b.round) = true := by simpa using h
    have HL : Hid (Bl.less a b = decide (a.round < b.round)) := if_neg h
    clear h
    go_enter Tryd.func35, Tryd.ntmps35
    go_wp2
    go_ret
    exact ⟨ret_bool HL.out.symm, HB1.out⟩

theorem brefLess_any (a b : Bl.Bal) (w : World) : Calls Tryd.prog 18 #[.agg (Bl.cells a), .agg (Bl.cells b)] w (Looks w (.bool (Bl.less a b))) := by
  obtain ⟨w1, e1, hl1, hl2, hB1, hz1⟩ := box_bals w a b
  obtain ⟨p0, p1⟩ := Bals.both hl1
  obtain ⟨q0, q1⟩ := Bals.both hl2
  have HB1 := Lib.hid hB1
  clear hl1 hl2 hB1 hz1
  by_cases h : a.round = b.round
  · have hne : (a.round == b.round) = true := by simpa using h
    have HL : Hid (Bl.less a b = decide (a.node < b.node)) := if_pos h
    clear h
    go_enter Tryd.func18, Tryd.ntmps18
    go_wp2
    go_ret
    exact ⟨ret_bool HL.out.symm, HB1.out⟩
  · have hne : (a.round == b.round) = false := by simpa using h
    have HL : Hid (Bl.less a b = decide (a.round < b.round)) := if_neg h
    clear h
    go_enter Tryd.func18, Tryd.ntmps18
    go_wp2
    go_ret
    exact ⟨ret_bool HL.out.symm, HB1.out⟩

set_option maxRecDepth 4000 in
set_option maxHeartbeats 1600000 in
theorem brefMay_any (b : Bl.Bal) (w : World) : Calls Tryd.prog 29 #[.agg (Bl.cells b)] w (Looks w (.bool (Bl.may b))) := by
  obtain ⟨w1, e1, hl1, hB1, hz1⟩ := box_bal w b
  obtain ⟨p0, p1⟩ := Bals.both hl1
  have HB1 := Lib.hid hB1
  obtain ⟨r, n⟩ := b
  dsimp only at p0 p1
  obtain ⟨t0, h0⟩ : ∃ t, (r == 0) = t := ⟨_, rfl⟩
  obtain ⟨t1, h1⟩ : ∃ t, (n == 0) = t := ⟨_, rfl⟩
  obtain ⟨t2, h2⟩ : ∃ t, decide (1 ≤ r) = t := ⟨_, rfl⟩
  obtain ⟨t3, h3⟩ : ∃ t, decide (r ≤ 4294967296) = t := ⟨_, rfl⟩
  obtain ⟨t4, h4⟩ : ∃ t, decide (1 ≤ n) = t := ⟨_, rfl⟩
  obtain ⟨t5, h5⟩ : ∃ t, decide (n ≤ 9) = t := ⟨_, rfl⟩
  have HM : Hid (Bl.may ⟨r, n⟩ = ((t0 && t1) || ((t2 && t3) && (t4 && t5)))) := by
    show _ = _
    rw [← h0, ← h1, ← h2, ← h3, ← h4, ← h5]
    simp only [Bl.may, Bl.zero, Bl.within, Bl.Bal.mk.injEq, Bool.decide_and]
    rfl
  have HE := Lib.hid e1
  clear hl1 hB1 hz1
  cases t0 <;> cases t1 <;> cases t2 <;> (try cases t3) <;> (try cases t4)
  all_goals
    go_enter Tryd.func29, Tryd.ntmps29
    go_wp2
    go_ret
    first
      | exact ⟨by rw [HM.out]; rfl, HB1.out⟩
      | exact ⟨by rw [HM.out, ← h5]; rfl, HB1.out⟩

end Go.Proofs.YtfdnmmmjaipgoaaDoor
