/- A state in memory: its three cells stored, loaded, returned; the rows that they tell. -/
import Derived.Test.YtgcjjlkjlabneaaMgMath
import Derived.Test.YtgcjjlkjlabneaaKvMem
import Derived.Test.YtgcjjlkjlabneaaSeMem
import Derived.Test.YtgcjjlkjlabneaaPart
import Derived.Test.YtgcjjlkjlabneaaKwRow
namespace Go.Proofs.Ytgcjjlkjlabneaa
open Go.RowKit

def Mg.cells (n : Int) (vp vs : Value) : Array Value := #[.int .i64 n, vp, vs]
/-- The two slices read as the state's. -/
structure StR (w : World) (s : Mg.St) (vp vs : Value) : Prop where
  kv : ReadsK w vp s.pairs
  ses : ReadsN w vs s.sess
theorem StR.below {w w' : World} {s : Mg.St} {vp vs : Value} (r : StR w s vp vs) (hb : Below w.heap.size w w') : StR w' s vp vs := ⟨r.kv.below hb, r.ses.below hb⟩
theorem StR.sl {w : World} {s : Mg.St} {vp vs : Value} (r : StR w s vp vs) : (∃ o k c, vp = .slice o k c) ∧ ∃ o k c, vs = .slice o k c := by
  obtain ⟨io, ic, e1, _⟩ := ReadsK.shape r.kv
  obtain ⟨ao, ac, e2, _⟩ := ReadsN.shape r.ses
  exact ⟨⟨_, _, _, e1⟩, ⟨_, _, _, e2⟩⟩
theorem StR.zero (w : World) : StR w Mg.zero (.slice none 0 0) (.slice none 0 0) := ⟨ReadsR.empty w 3, ReadsR.empty w 8⟩
theorem Mg.cells_ok (n : Int) {vp vs : Value} (h1 : vp.oneCell' = true) (h2 : vs.oneCell' = true) : (Mg.cells n vp vs).toList.all (·.oneCell') = true := by
  simp [Mg.cells, h1, h2]
  rfl
/-- A block of three such cells. -/
structure StAt (w : World) (g : Nat) (n : Int) (vp vs : Value) : Prop where
  lies : Lies w g 25 (Mg.cells n vp vs)
  vp : ∃ o k c, vp = .slice o k c
  vs : ∃ o k c, vs = .slice o k c
section
variable {w w' : World} {g : Nat} {n : Int} {vp vs : Value}
theorem StAt.ok (h : StAt w g n vp vs) : vp.oneCell' = true ∧ vs.oneCell' = true := by
  obtain ⟨_, _, _, rfl⟩ := h.vp
  obtain ⟨_, _, _, rfl⟩ := h.vs
  exact ⟨rfl, rfl⟩
theorem StAt.below {B : Nat} (h : StAt w g n vp vs) (hb : Below B w w') (hB : g < B) : StAt w' g n vp vs := ⟨h.lies.below hb hB, h.vp, h.vs⟩
theorem StAt.kept {o : Nat} (h : StAt w g n vp vs) (hg : w.grownBy w' (some o)) (hne : g ≠ o) : StAt w' g n vp vs := ⟨h.lies.kept hg (by simpa using hne), h.vp, h.vs⟩
/-- The three cells, told. -/
theorem StAt.all (h : StAt w g n vp vs) : w.cell? ⟨g, 0, none⟩ = some (.int .i64 n) ∧ w.cell? ⟨g, 1, none⟩ = some vp ∧ w.cell? ⟨g, 2, none⟩ = some vs :=
  ⟨h.lies.cell 0 _ rfl, h.lies.cell 1 _ rfl, h.lies.cell 2 _ rfl⟩
end
theorem box_st (w : World) (s : Mg.St) (n : Int) (vp vs : Value) (r : StR w s vp vs) : ∃ w1, w.alloc (.cells (Mg.cells n vp vs) 25) = w1 ∧ StAt w1 w.heap.size n vp vs ∧ Below w.heap.size w w1 ∧ w1.heap.size = w.heap.size + 1 :=
  ⟨_, rfl, ⟨Lies.new w _ _, r.sl.1, r.sl.2⟩, (Below.refl _ w).alloc (Nat.le_refl _) _, by simp⟩
theorem box_st0 (w : World) : ∃ w1, w.alloc (.cells (Mg.cells 0 (.slice none 0 0) (.slice none 0 0)) 25) = w1 ∧ StAt w1 w.heap.size 0 (.slice none 0 0) (.slice none 0 0) ∧ Below w.heap.size w w1 ∧ w1.heap.size = w.heap.size + 1 :=
  box_st w Mg.zero 0 _ _ (StR.zero w)

section
variable {ops : Array Oper} {rest : List Oper} {op : Oper} {a : Act} {w : World} {Q : Exit → Act → World → Prop} {g : Nat} {n : Int} {vp vs : Value}
theorem store_schema (hgd : op.guard = none) (x y : Operand) (ho : op.op = .store 3 x y) (c : Int) (hx : a.eval x = .pointer (some ⟨g, 0, none⟩)) (hy : a.eval y = .int .i64 c) (hl : StAt w g n vp vs)
    (h : ∀ w', StAt w' g c vp vs → w.grownBy w' (some g) → wpList Try.prog ops Q rest (a.put op.dst undef) w') : wpList Try.prog ops Q (op :: rest) a w :=
  store_part hgd _ x y ho g 0 25 _ (Mg.cells c vp vs) (.int .i64 c) [.int .i64 c] hx hy rfl (by kernel_rfl) rfl hl.lies (Nat.le_of_ble_eq_true rfl) rfl fun w' h1 h2 => h w' ⟨h1, hl.vp, hl.vs⟩ h2
theorem store_pairs (hgd : op.guard = none) (x y : Operand) (ho : op.op = .store 22 x y) (uo : Option Addr) (uk uc : Nat) (hx : a.eval x = .pointer (some ⟨g, 1, none⟩)) (hy : a.eval y = .slice uo uk uc) (hl : StAt w g n vp vs)
    (h : ∀ w', StAt w' g n (.slice uo uk uc) vs → w.grownBy w' (some g) → wpList Try.prog ops Q rest (a.put op.dst undef) w') : wpList Try.prog ops Q (op :: rest) a w :=
  store_part hgd _ x y ho g 1 25 _ (Mg.cells n (.slice uo uk uc) vs) (.slice uo uk uc) [.slice uo uk uc] hx hy rfl (by kernel_rfl) rfl hl.lies (Nat.le_of_ble_eq_true rfl) rfl fun w' h1 h2 => h w' ⟨h1, ⟨_, _, _, rfl⟩, hl.vs⟩ h2
theorem store_sess (hgd : op.guard = none) (x y : Operand) (ho : op.op = .store 23 x y) (uo : Option Addr) (uk uc : Nat) (hx : a.eval x = .pointer (some ⟨g, 2, none⟩)) (hy : a.eval y = .slice uo uk uc) (hl : StAt w g n vp vs)
    (h : ∀ w', StAt w' g n vp (.slice uo uk uc) → w.grownBy w' (some g) → wpList Try.prog ops Q rest (a.put op.dst undef) w') : wpList Try.prog ops Q (op :: rest) a w :=
  store_part hgd _ x y ho g 2 25 _ (Mg.cells n vp (.slice uo uk uc)) (.slice uo uk uc) [.slice uo uk uc] hx hy rfl (by kernel_rfl) rfl hl.lies (Nat.le_of_ble_eq_true rfl) rfl fun w' h1 h2 => h w' ⟨h1, hl.vp, ⟨_, _, _, rfl⟩⟩ h2
theorem store_st {m : Int} {up us : Value} (hgd : op.guard = none) (x y : Operand) (ho : op.op = .store 25 x y) (hx : a.eval x = .pointer (some ⟨g, 0, none⟩)) (hl : StAt w g n vp vs) (hu : (∃ o k c, up = .slice o k c) ∧ ∃ o k c, us = .slice o k c) (hy : a.eval y = .agg (Mg.cells m up us))
    (h : ∀ w', StAt w' g m up us → w.grownBy w' (some g) → wpList Try.prog ops Q rest (a.put op.dst undef) w') : wpList Try.prog ops Q (op :: rest) a w :=
  store_part hgd _ x y ho g 0 25 _ (Mg.cells m up us) (.agg (Mg.cells m up us)) (Mg.cells m up us).toList hx hy rfl (by kernel_rfl) (by obtain ⟨⟨_, _, _, rfl⟩, ⟨_, _, _, rfl⟩⟩ := hu; exact Mg.cells_ok m rfl rfl) hl.lies (Nat.le_of_ble_eq_true rfl) rfl fun w' h1 h2 => h w' ⟨h1, hu.1, hu.2⟩ h2
theorem load_st (hgd : op.guard = none) (x : Operand) (ho : op.op = .load 25 x) (hx : a.eval x = .pointer (some ⟨g, 0, none⟩)) (hl : StAt w g n vp vs)
    (h : wpList Try.prog ops Q rest (a.put op.dst (.agg (Mg.cells n vp vs))) w) : wpList Try.prog ops Q (op :: rest) a w :=
  wpList_load_mid hgd _ x ho g 0 hx (Mg.cells n vp vs).toList _ (fun j v hv => by rw [Nat.zero_add]; exact hl.lies.cell j v (by simpa using hv)) Try.underlying25 rfl (by kernel_rfl) h
/-- The revision of a pair of a row stored anew. -/
theorem store_rev (hgd : op.guard = none) (x y : Operand) (ho : op.op = .store 3 x y) (cap k : Nat) (l : List Kv.Item) (r : Int) (hx : a.eval x = .pointer (some ⟨g, k * 3 + 2, none⟩)) (hy : a.eval y = .int .i64 r) (hl : RowK w g cap l) {p : Kv.Item} (hp : l[k]? = some p)
    (h : ∀ w', RowK w' g cap (l.set k (Mg.rev r p)) → w.grownBy w' (some g) → wpList Try.prog ops Q rest (a.put op.dst undef) w') : wpList Try.prog ops Q (op :: rest) a w := by
  have hk := (List.getElem?_eq_some_iff.1 hp).1
  obtain ⟨cur, hg, hc, hm, hs, ht⟩ := hl
  have h0 : k * 3 + 2 < cur.size := by omega
  refine store_part hgd _ x y ho g (k * 3 + 2) 38 cur (cur.setIfInBounds (k * 3 + 2) (.int .i64 r)) (.int .i64 r) [.int .i64 r] hx hy rfl (by kernel_rfl) rfl hg (by simp; omega) ?_ fun w' h1 h2 => h w' ⟨_, h1, ?_, hm, ?_, ?_⟩ h2
  · rw [Array.toList_setIfInBounds, List.set_eq_take_append_cons_drop, if_pos (by simpa using h0)]
    simp
  · rw [List.length_set]; exact hc
  · simpa using hs
  · have hfl : (flatR (l.map Kv.cells)).length = l.length * 3 := by rw [flatR_len (Kv.sized l), List.length_map]
    have hfl' : (flatR ((l.set k (Mg.rev r p)).map Kv.cells)).length = l.length * 3 := by rw [flatR_len (Kv.sized _), List.length_map, List.length_set]
    rw [List.length_set]
    apply List.ext_getElem?
    intro m
    rw [List.getElem?_take]
    by_cases hml : m < l.length * 3
    · rw [if_pos hml, Array.getElem?_toList, Array.getElem?_setIfInBounds]
      have hme : m = m / 3 * 3 + m % 3 := by omega
      have hr := Nat.mod_lt m (show 0 < 3 by omega)
      obtain ⟨i, hi⟩ : ∃ i, i = m / 3 := ⟨_, rfl⟩
      obtain ⟨j, hj⟩ : ∃ j, j = m % 3 := ⟨_, rfl⟩
      rw [← hi, ← hj] at hme
      rw [← hj] at hr
      clear hi hj
      subst hme
      have hil : i < l.length := by omega
      have hold : ∀ (e : Kv.Item) (u : Value), l[i]? = some e → (Kv.cells e)[j]? = some u → cur[i * 3 + j]? = some u := fun e u he hu => by
        have e1 := flatR_at (Kv.sized l) (i := i) (r := Kv.cells e) (by rw [List.getElem?_map, he]; rfl) hu
        rwa [← ht, List.getElem?_take, if_pos (by omega), Array.getElem?_toList] at e1
      by_cases hik : i = k
      · subst hik
        have hnew : ∀ u : Value, (Kv.cells (Mg.rev r p))[j]? = some u → (flatR ((l.set i (Mg.rev r p)).map Kv.cells))[i * 3 + j]? = some u := fun u hu =>
          flatR_at (Kv.sized _) (by rw [List.getElem?_map, List.getElem?_set, if_pos rfl, if_pos hk]; rfl) hu
        match j, hr with
        | 0, _ => rw [if_neg (by omega), hnew _ rfl, hold p _ hp rfl]; rfl
        | 1, _ => rw [if_neg (by omega), hnew _ rfl, hold p _ hp rfl]; rfl
        | 2, _ => rw [if_pos rfl, if_pos h0, hnew _ rfl]; rfl
      · rw [if_neg (by omega)]
        obtain ⟨e, he⟩ : ∃ e, l[i]? = some e := ⟨_, List.getElem?_eq_getElem hil⟩
        obtain ⟨u, hu⟩ := Kv.cells_at e j hr
        rw [hold e u he hu]
        exact (flatR_at (Kv.sized (l.set k (Mg.rev r p))) (i := i) (r := Kv.cells e) (by rw [List.getElem?_map, List.getElem?_set, if_neg (fun h => hik h.symm), he]; rfl) hu).symm
    · rw [if_neg hml, List.getElem?_eq_none (by omega)]
end
theorem run_st (w : World) (g : Nat) (n : Int) (vp vs : Value) (h : StAt w g n vp vs) : (loadVar 25 ⟨g, 0, none⟩).run Try.prog w = .ok (.agg (Mg.cells n vp vs)) w :=
  run_loadVar_row w g _ _ (Mg.cells n vp vs) (0, 0) _ h.lies Try.underlying25 rfl (by kernel_rfl)
theorem ret_st1 {fn : Func} {R : Ending → World → Prop} {a : Act} {w : World} {t : Tmp} {g : Nat} {n : Int} {vp vs : Value} (h : fn.results = #[.cell t 25]) (hp : a.tmps.getD t undef = .pointer (some ⟨g, 0, none⟩))
    (hl : StAt w g n vp vs) (hd : a.defers = []) (hR : R (.returned (.agg (Mg.cells n vp vs))) w) : bodyPost Try.prog fn R .ret a w := by
  refine bodyPost_ret ?_ hd hR
  rw [results_one h, hp]
  simp [asAddr, Result.andThen, run_st w g n vp vs hl]
theorem ret_st2 {fn : Func} {R : Ending → World → Prop} {a : Act} {w : World} {t u : Tmp} {g : Nat} {n : Int} {vp vs : Value} (h : fn.results = #[.cell t 25, .tmp u]) (hp : a.tmps.getD t undef = .pointer (some ⟨g, 0, none⟩))
    (hl : StAt w g n vp vs) (hd : a.defers = []) (hR : R (.returned (.tuple #[.agg (Mg.cells n vp vs), a.tmps.getD u undef])) w) : bodyPost Try.prog fn R .ret a w := by
  refine bodyPost_ret ?_ hd hR
  rw [results_two h, hp]
  simp [asAddr, Result.andThen, run_st w g n vp vs hl]

/-- What a call leaves that gives a state. -/
def GivesSt (w : World) (s : Mg.St) (e : Ending) (w' : World) : Prop := ∃ vp vs, e = .returned (.agg (Mg.cells s.schema vp vs)) ∧ StR w' s vp vs ∧ Below w.heap.size w w'
/-- .. and an error. -/
def GivesUp (w : World) (s : Mg.St) (x : Int) (e : Ending) (w' : World) : Prop := ∃ vp vs, e = .returned (.tuple #[.agg (Mg.cells s.schema vp vs), .int .i64 x]) ∧ StR w' s vp vs ∧ Below w.heap.size w w'
end Go.Proofs.Ytgcjjlkjlabneaa
