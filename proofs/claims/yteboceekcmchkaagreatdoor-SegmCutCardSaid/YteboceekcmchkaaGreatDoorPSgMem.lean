/- Several texts of mine in one: SgPlain SgMem. -/
import Derived.Test.YteboceekcmchkaaGreatDoorGSa
import Derived.Test.YteboceekcmchkaaGreatDoorGCw
import Derived.Test.YteboceekcmchkaaGreatDoorPVers
import Derived.Test.YteboceekcmchkaaGreatDoorPMsCame
namespace Go.Proofs.YteboceekcmchkaaGreatDoor
open Go.RowKit
theorem Vs.opens_two (f : Int) : Vs.opens 2 f = if f = 1 ∨ f = 2 then 0 else 8 := by
 unfold Vs.opens
 rcases Vs.may_or f with ⟨h, h1⟩ | ⟨h, h1, h2⟩
 ·rw [if_pos ⟨by decide, h⟩, if_neg (by omega), if_pos h1]
 ·rw [if_neg (by rw [h]; simp), if_neg (by omega)]
namespace Sg
theorem body_len {f : Int} {x : Re.Rec} (h : Re.olderIn f x = 0) (hx : x.Fits) : Ok f x ∧ (0 < (Rt.bytesIn f x).length ∧ (Rt.bytesIn f x).length ≤ 65536) ∧ (Rt.bytesIn f x).length ≤ 6100 + x.img.length := by
 have hg := Re.check_good (Re.olderIn_check h)
 have hi := Re.good_len hg
 have hs : x.cmd.Short 1000 := by
  by_cases hk : Re.hc x.kind = true
  ·exact Short.up (Cm.check_short (hg.cmd hk)) (by omega)
  ·rw [Re.good_cmd hg (by simpa using hk)]
   exact ⟨by simp [Cm.zero, Cm.bareOf], by simp [Cm.zero, Cm.bareOf], by simp [Cm.zero, Cm.bareOf]⟩
 have h9 := enc_nine (n := x.img.length) (by omega)
 have hp : (Pk.text x.img).length ≤ 9 + x.img.length := by unfold Pk.text; rw [List.length_append]; omega
 have hb : 0 < (Rt.bytesIn f x).length ∧ (Rt.bytesIn f x).length ≤ 6100 + x.img.length := by
  unfold Rt.bytesIn
  split
  ·have f1 := hx.n x.bal.round (by simp [Re.nums]); have f2 := hx.n x.bal.node (by simp [Re.nums]); have f3 := hx.n x.index (by simp [Re.nums])
   have q1 := enc_nine (n := x.bal.round.toNat) (by omega); have q2 := enc_nine (n := x.bal.node.toNat) (by omega); have q3 := enc_nine (n := x.index.toNat) (by omega)
   have hk14 : 1 ≤ x.kind ∧ x.kind ≤ 4 := by have := hg.kind; unfold Re.known at this; simpa using this
   have q0 := enc_nine (n := (x.kind + 16).toNat) (by omega)
   have p0 := enc_pos (x.kind + 16).toNat
   have q4 := Cm.bytes_len 2 x.cmd hx.c hs
   have L1 := Mt.part_le (Re.hb x.kind) (enc x.bal.round.toNat)
   have L2 := Mt.part_le (Re.hb x.kind) (enc x.bal.node.toNat)
   have L3 := Mt.part_le (Re.hi x.kind) (enc x.index.toNat)
   have L4 := Mt.part_le (Re.hc x.kind) (Cm.bytes 2 x.cmd)
   have L5 := Mt.part_le (Re.hm x.kind) (Pk.text x.img)
   unfold Rt.bytes
   simp only [List.length_append]
   omega
  ·have n1 := Ms.nbytes_len (Re.nums x) fun z hz => (hx.n z hz).2
   have n2 : 0 < (Ms.nbytes (Re.nums x)).length := by
    have p0 := enc_pos x.kind.toNat
    unfold Ms.nbytes Re.nums
    simp only [List.flatMap_cons, List.length_append]
    omega
   have n3 : (Re.nums x).length = 4 := rfl
   have q4 := Cm.bytes_len 1 x.cmd hx.c hs
   have ht : (Re.tail x).length ≤ 6009 + x.img.length := by
    unfold Re.tail
    split
    ·omega
    ·split
     ·omega
     ·simp
   unfold Re.bytes
   rw [List.length_append]
   omega
 exact ⟨⟨h, hx, hs, by omega, by omega⟩, ⟨hb.1, by omega⟩, hb.2⟩
def n1 (y : List UInt8) : Int × Int × Int := Cm.rnum y 0 0
def n2 (y : List UInt8) : Int × Int × Int := Cm.rnum y (n1 y).2.1.toNat (n1 y).2.2
def nd (y : List UInt8) : Int := Cm.done y (n2 y).2.1.toNat (n2 y).2.2
def numbers (y : List UInt8) : Int × Int × Int := if nd y ≠ 0 then (0, 0, nd y) else if Vs.opens 2 (n1 y).1 ≠ 0 then (0, 0, Vs.opens 2 (n1 y).1) else ((n1 y).1, (n2 y).1, 0)
theorem numbers_or (y : List UInt8) : (∃ e, e ≠ 0 ∧ numbers y = (0, 0, e)) ∨ ∃ f s : Int, (f = 1 ∨ f = 2) ∧ 0 ≤ s ∧ s ≤ 9223372036854775807 ∧ numbers y = (f, s, 0) := by
 unfold numbers
 by_cases h1 : nd y = 0
 ·rw [if_neg (by simpa using h1)]
  by_cases h2 : Vs.opens 2 (n1 y).1 = 0
  ·rw [if_neg (by simpa using h2)]
   refine .inr ⟨_, _, ?_, (Ms.rnum_num y _ _).1, (Ms.rnum_num y _ _).2, rfl⟩
   rw [Vs.opens_two] at h2
   by_cases h3 : (n1 y).1 = 1 ∨ (n1 y).1 = 2
   ·exact h3
   ·rw [if_neg h3] at h2; omega
  ·rw [if_pos h2]
   exact .inl ⟨_, h2, rfl⟩
 ·rw [if_pos h1]
  exact .inl ⟨_, h1, rfl⟩
theorem numbers_nil : ∃ e, e ≠ 0 ∧ numbers [] = (0, 0, e) := by
 rcases numbers_or [] with h | ⟨f, s, hf, _, _, h⟩
 ·exact h
 ·exfalso
  rcases Cm.rnum_cases [] 0 0 with ⟨e, he, hn⟩ | ⟨n, q, _, h1, h2, _⟩
  ·have h1 : n1 [] = (0, ((0 : Nat) : Int), e) := hn
   have h2 : n2 [] = (0, ((0 : Nat) : Int), e) := by
    unfold n2
    rw [h1]
    exact if_neg he
   have h3 : nd [] = e := by
    unfold nd Cm.done
    rw [h2]
    exact if_pos he
   unfold numbers at h
   rw [h3, if_pos he] at h
   simp only [Prod.mk.injEq] at h
   exact he h.2.2
  ·simp at h2; omega
theorem numbers_first {f : Int} (hf : f = 1 ∨ f = 2) {n : Nat} (hn : n ≤ 9223372036854775807) : numbers (first f n) = (f, (n : Int), 0) := by
 have e1 : n1 (first f n) = (f, (((enc f.toNat).length : Nat) : Int), 0) := by
  have := Cm.rnum_at [] (enc n) (n := f.toNat) (by omega)
  rw [List.nil_append, List.nil_append, show ((f.toNat : Nat) : Int) = f by omega] at this
  exact this
 have e2 : n2 (first f n) = ((n : Int), (((first f n).length : Nat) : Int), 0) := by
  have := Cm.rnum_at (enc f.toNat) [] (n := n) hn
  rw [List.append_nil] at this
  unfold n2
  rw [e1]
  exact this
 unfold numbers nd
 rw [e2, e1]
 dsimp only
 rw [Int.toNat_natCast, Cm.done_end, if_neg (by simp), if_neg (by rw [Vs.opens_two, if_pos hf]; simp)]
structure Whole (b : List UInt8) (f s : Int) (l : List Re.Rec) (e : Nat) : Prop where
 first : ∃ (y : List UInt8) (c : Nat), Frm.next b ((0 : Nat) : Int) = (y, (c : Int), 0) ∧ numbers y = (f, s, 0) ∧ Run f b c l e
 stops : Stops f b e
 enough : s ≤ (l.length : Int)
def Torn (b : List UInt8) : Prop := ∀ f s l e, ¬ Whole b f s l e
theorem Whole.one {b : List UInt8} {f s f' s' : Int} {l l' : List Re.Rec} {e e' : Nat} (h : Whole b f s l e) (h' : Whole b f' s' l' e') : f = f' ∧ s = s' ∧ l = l' ∧ e = e' := by
 obtain ⟨⟨y, c, h1, h2, h3⟩, hs, _⟩ := h
 obtain ⟨⟨y', c', h1', h2', h3'⟩, hs', _⟩ := h'
 rw [h1] at h1'
 simp only [Prod.mk.injEq, Int.natCast_inj, and_true] at h1'
 obtain ⟨rfl, rfl⟩ := h1'
 rw [h2] at h2'
 simp only [Prod.mk.injEq, and_true] at h2'
 obtain ⟨rfl, rfl⟩ := h2'
 obtain ⟨rfl, rfl⟩ := h3.one hs h3' hs'
 exact ⟨rfl, rfl, rfl, rfl⟩
theorem Whole.format {b : List UInt8} {f s : Int} {l : List Re.Rec} {e : Nat} (h : Whole b f s l e) : f = 1 ∨ f = 2 := by
 obtain ⟨⟨y, c, _, h2, _⟩, _, _⟩ := h
 rcases numbers_or y with ⟨e, he, hn⟩ | ⟨f', s', hf, _, _, hn⟩
 ·rw [h2] at hn
  simp only [Prod.mk.injEq] at hn
  exact absurd hn.2.2.symm he
 ·rw [h2] at hn
  simp only [Prod.mk.injEq, and_true] at hn
  rw [hn.1]
  exact hf
theorem Whole.bound {b : List UInt8} {f s : Int} {l : List Re.Rec} {e : Nat} (h : Whole b f s l e) : l.length ≤ b.length ∧ e ≤ b.length := by
 obtain ⟨⟨y, c, h1, _, h3⟩, _, _⟩ := h
 obtain ⟨c', hc, _, h4, _⟩ := Frm.next_ok h1
 obtain rfl : c = c' := by omega
 have := h3.bound h4
 omega
theorem bodies_len {f : Int} (hf : f = 1 ∨ f = 2) {h : Hd.Hard} {more : List Re.Rec} (hok : ∀ x ∈ Hd.recs h ++ more, Re.olderIn f x = 0 ∧ x.Fits) (hl : (Hd.recs h).length ≤ 9223372036854775807) : ∀ y ∈ bodies f h more, 0 < y.length ∧ y.length ≤ 65536 := by
 intro y hy
 unfold bodies at hy
 rcases List.mem_cons.1 hy with rfl | hy
 ·have p0 := enc_pos f.toNat
  have q0 := enc_nine (n := f.toNat) (by omega)
  have q1 := enc_nine hl
  unfold first
  rw [List.length_append]
  omega
 ·obtain ⟨x, hx, rfl⟩ := List.mem_map.1 hy
  have := hok x hx
  exact (body_len this.1 this.2).2.1
theorem bodies_count (f : Int) (h : Hd.Hard) (more : List Re.Rec) : (bodies f h more).length = (Hd.recs h).length + more.length + 1 := by simp [bodies]
theorem cut_read {f : Int} (hf : f = 1 ∨ f = 2) {h : Hd.Hard} {more : List Re.Rec} (hok : ∀ x ∈ Hd.recs h ++ more, Re.olderIn f x = 0 ∧ x.Fits) (hl : (Hd.recs h).length ≤ 9223372036854775807) {n : Nat} (hn : n ≤ (file f h more).length) :
 (n < Frm.ends (bodies f h more) (Hd.recs h).length → Torn ((file f h more).take n)) ∧
 (∀ k, (Hd.recs h).length ≤ k → k ≤ (Hd.recs h).length + more.length → Frm.ends (bodies f h more) k ≤ n → (k < (Hd.recs h).length + more.length → n < Frm.ends (bodies f h more) (k + 1)) →
   Whole ((file f h more).take n) f ((Hd.recs h).length : Int) ((Hd.recs h ++ more).take k) (Frm.ends (bodies f h more) k)) := by
 have hc := bodies_count f h more
 obtain ⟨k0, hk0, hiff, hz, hs⟩ := cut hf h more (fun x hx => (body_len (hok x hx).1 (hok x hx).2).1) (bodies_len hf hok hl) hn
 constructor
 ·intro hlt f' s' l' e' hw
  have h1 : ¬ (Hd.recs h).length < k0 := fun q => by
   have := (hiff (Hd.recs h).length (by omega)).2 q
   omega
  obtain ⟨⟨y, c, g1, g2, g3⟩, g4, g5⟩ := hw
  match k0, hz, hs, h1 with
  | 0, hz, _, _ =>
   have := hz rfl
   rw [g1] at this
   exact this rfl
  | j + 1, _, hs, h1 =>
   obtain ⟨c', e'', k1, k2, _, k4⟩ := hs j rfl
   rw [k1] at g1
   simp only [Prod.mk.injEq, Int.natCast_inj, and_true] at g1
   obtain ⟨rfl, rfl⟩ := g1
   rw [numbers_first hf hl] at g2
   simp only [Prod.mk.injEq, and_true] at g2
   obtain ⟨rfl, rfl⟩ := g2
   obtain ⟨rfl, _⟩ := k2.one (.inl k4) g3 g4
   rw [List.length_take, List.length_append] at g5
   omega
 ·intro k h1 h2 h3 h4
  have h5 : k < k0 := (hiff k (by omega)).1 h3
  have h6 : k + 1 = k0 := by
   rcases Nat.lt_or_ge (k + 1) k0 with q | q
   ·have := (hiff (k + 1) (by omega)).2 q
    have := h4 (by omega)
    omega
   ·omega
  obtain ⟨c', e'', k1, k2, k3, k4⟩ := hs k h6.symm
  rw [k3] at k2 k4
  refine ⟨⟨_, c', k1, numbers_first hf hl, k2⟩, .inl k4, ?_⟩
  rw [List.length_take, List.length_append]
  omega
end Sg
end Go.Proofs.YteboceekcmchkaaGreatDoor

namespace Go.Proofs.YteboceekcmchkaaGreatDoor
open Go.RowKit
section
def Sg.cells (f : Int) (h : Hd.Hard) (vi va vc : Value) (n e : Int) : Array Value := #[.int .i64 f, .int .i64 h.prom.round, .int .i64 h.prom.node, .int .i64 h.base, vi, va, vc, .int .i64 n, .int .i64 e]
structure Conts (w : World) (g : Nat) (f : Int) (h : Hd.Hard) (vi va vc : Value) (n e : Int) : Prop where
 lies : Lies w g 50 (Sg.cells f h vi va vc n e)
 vi : ∃ o k c, vi = .slice o k c
 va : ∃ o k c, va = .slice o k c
 vc : ∃ o k c, vc = .slice o k c
section
variable {w w' : World} {g : Nat} {f : Int} {h : Hd.Hard} {vi va vc : Value} {n e : Int}
theorem Conts.below {B : Nat} (c : Conts w g f h vi va vc n e) (hb : Below B w w') (hB : g < B) : Conts w' g f h vi va vc n e := ⟨c.lies.below hb hB, c.vi, c.va, c.vc⟩
theorem Conts.kept {o : Nat} (c : Conts w g f h vi va vc n e) (hg : w.grownBy w' (some o)) (hne : g ≠ o) : Conts w' g f h vi va vc n e := ⟨c.lies.kept hg (by simpa using hne), c.vi, c.va, c.vc⟩
theorem Conts.ok (c : Conts w g f h vi va vc n e) : (Sg.cells f h vi va vc n e).toList.all (·.oneCell') = true := by
 obtain ⟨_, _, _, rfl⟩ := c.vi
 obtain ⟨_, _, _, rfl⟩ := c.va
 obtain ⟨_, _, _, rfl⟩ := c.vc
 rfl
theorem Conts.all (c : Conts w g f h vi va vc n e) : w.cell? ⟨g, 0, none⟩ = some (.int .i64 f) ∧ w.cell? ⟨g, 1, none⟩ = some (.int .i64 h.prom.round) ∧ w.cell? ⟨g, 2, none⟩ = some (.int .i64 h.prom.node) ∧ w.cell? ⟨g, 3, none⟩ = some (.int .i64 h.base) ∧ w.cell? ⟨g, 4, none⟩ = some vi ∧ w.cell? ⟨g, 5, none⟩ = some va ∧ w.cell? ⟨g, 6, none⟩ = some vc ∧ w.cell? ⟨g, 7, none⟩ = some (.int .i64 n) ∧ w.cell? ⟨g, 8, none⟩ = some (.int .i64 e) :=
 ⟨c.lies.cell 0 _ rfl, c.lies.cell 1 _ rfl, c.lies.cell 2 _ rfl, c.lies.cell 3 _ rfl, c.lies.cell 4 _ rfl, c.lies.cell 5 _ rfl, c.lies.cell 6 _ rfl, c.lies.cell 7 _ rfl, c.lies.cell 8 _ rfl⟩
theorem Conts.no8 (c : Conts w g f h vi va vc n e) (j : Nat) (x : Int) : (Sg.cells f h vi va vc n e)[j]? ≠ some (.int .u8 x) := by
 obtain ⟨_, _, _, rfl⟩ := c.vi
 obtain ⟨_, _, _, rfl⟩ := c.va
 obtain ⟨_, _, _, rfl⟩ := c.vc
 match j with
 | 0 | 1 | 2 | 3 | 4 | 5 | 6 | 7 | 8 => simp [Sg.cells]
 | j + 9 => simp [Sg.cells]
theorem Conts.nostr (c : Conts w g f h vi va vc n e) (j : Nat) (x : ByteArray) : (Sg.cells f h vi va vc n e)[j]? ≠ some (.string x) := by
 obtain ⟨_, _, _, rfl⟩ := c.vi
 obtain ⟨_, _, _, rfl⟩ := c.va
 obtain ⟨_, _, _, rfl⟩ := c.vc
 match j with
 | 0 | 1 | 2 | 3 | 4 | 5 | 6 | 7 | 8 => simp [Sg.cells]
 | j + 9 => simp [Sg.cells]
theorem HardR.overC {k : Hd.Hard} {ui ua uc : Value} (r : HardR w k ui ua uc) (c : Conts w g f h vi va vc n e) (hg : w.grownBy w' (some g)) : HardR w' k ui ua uc :=
 ⟨r.img.kept_of c.lies c.no8 hg, r.acc.kept_of c.lies c.nostr hg, r.chs.kept_of c.lies c.nostr hg⟩
end
theorem box_cont (w : World) : ∃ w1, w.alloc (.cells (Sg.cells 0 Hd.zero (.slice none 0 0) (.slice none 0 0) (.slice none 0 0) 0 0) 50) = w1 ∧ Conts w1 w.heap.size 0 Hd.zero (.slice none 0 0) (.slice none 0 0) (.slice none 0 0) 0 0 ∧ Below w.heap.size w w1 ∧ w1.heap.size = w.heap.size + 1 :=
 ⟨_, rfl, ⟨Lies.new w _ _, ⟨_, _, _, rfl⟩, ⟨_, _, _, rfl⟩, ⟨_, _, _, rfl⟩⟩, (Below.refl _ w).alloc (Nat.le_refl _) _, by simp⟩
section
variable {ops : Array Oper} {rest : List Oper} {op : Oper} {a : Act} {w : World} {Q : Exit → Act → World → Prop} {g : Nat} {f : Int} {h : Hd.Hard} {vi va vc : Value} {n e : Int} {f' : Int} {h' : Hd.Hard} {ui ua uc : Value} {n' e' : Int}
theorem store_cont (hgd : op.guard = none) (x y : Operand) (ho : op.op = .store 50 x y) (hx : a.eval x = .pointer (some ⟨g, 0, none⟩)) (hl : Conts w g f h vi va vc n e) {w0 : World} {g0 : Nat} (hu : Conts w0 g0 f' h' ui ua uc n' e') (hy : a.eval y = .agg (Sg.cells f' h' ui ua uc n' e'))
 (hK : ∀ w', Conts w' g f' h' ui ua uc n' e' → w.grownBy w' (some g) → wpList Tryz.prog ops Q rest (a.put op.dst undef) w') : wpList Tryz.prog ops Q (op :: rest) a w :=
 store_part hgd _ x y ho g 0 _ _ (Sg.cells f' h' ui ua uc n' e') (.agg (Sg.cells f' h' ui ua uc n' e')) (Sg.cells f' h' ui ua uc n' e').toList hx hy rfl (by kernel_rfl) hu.ok hl.lies (Nat.le_of_ble_eq_true rfl) rfl fun w' h1 h2 => hK w' ⟨h1, hu.vi, hu.va, hu.vc⟩ h2
end
theorem run_cont (w : World) (g : Nat) (f : Int) (h : Hd.Hard) (vi va vc : Value) (n e : Int) (c : Conts w g f h vi va vc n e) : (loadVar 50 ⟨g, 0, none⟩).run Tryz.prog w = .ok (.agg (Sg.cells f h vi va vc n e)) w :=
 run_loadVar_row w g _ _ (Sg.cells f h vi va vc n e) (0, 0) _ c.lies Tryz.underlying50 rfl (by kernel_rfl)
theorem ret_cont2 {fn : Func} {R : Ending → World → Prop} {a : Act} {w : World} {t u : Tmp} {g : Nat} {f : Int} {h : Hd.Hard} {vi va vc : Value} {n e : Int} (hr : fn.results = #[.cell t 50, .tmp u]) (hp : a.tmps.getD t undef = .pointer (some ⟨g, 0, none⟩))
 (hl : Conts w g f h vi va vc n e) (hd : a.defers = []) (hR : R (.returned (.tuple #[.agg (Sg.cells f h vi va vc n e), a.tmps.getD u undef])) w) : bodyPost Tryz.prog fn R .ret a w := by
 refine bodyPost_ret ?_ hd hR
 rw [results_two hr, hp]
 simp [asAddr, Result.andThen, run_cont w g f h vi va vc n e hl]
end
end Go.Proofs.YteboceekcmchkaaGreatDoor
