/- frame.frames (an iterator) and frame.Scan. -/
import Derived.Test.YtmhabcabbefncaaDoorFrmNext
import Derived.Test.YtmhabcabbefncaaDoorTold
import Derived.Test.YtmhabcabbefncaaDoorLists
import Derived.RangeFuncNested
import Derived.RangeFuncLeaves
import Derived.Shelf.Abstract
import Derived.OwnWalkIn
import Derived.TacticsInMore
import Derived.LoopNIn
import Derived.LoopIn
import Derived.Maps.AppendAt
namespace Go.Proofs.YtmhabcabbefncaaDoor
open Go.RowKit Go.Shelf

attribute [local go_sem] Oper.semAt_some

/-- What is handed over: the body's value, the body, the place behind. -/
structure Shot where
  val : Value
  body : List UInt8
  to : Nat

def bodiesOf (xs : List Shot) : List (List UInt8) := xs.map Shot.body
def lastOf (xs : List Shot) : Nat := (xs.getLast?.map Shot.to).getD 0
theorem bodiesOf_snoc (xs : List Shot) (x : Shot) : bodiesOf (xs ++ [x]) = bodiesOf xs ++ [x.body] := by simp [bodiesOf]
theorem lastOf_snoc (xs : List Shot) (x : Shot) : lastOf (xs ++ [x]) = x.to := by simp [lastOf]

def shotArgs (x : Shot) : Array Value := #[x.val, .int .i64 (x.to : Int)]

def shotGiven (p : Nat → TypeId → Prop) (l : List UInt8) (pre : List Shot) (x : Shot) (w : World) : Prop :=
  ReadsP p w x.val x.body ∧ Frm.Path l 0 (bodiesOf pre) (lastOf pre) ∧ Frm.next l (lastOf pre) = (x.body, (x.to : Int), 0)
def shotOver (l : List UInt8) (xs : List Shot) (_ : World) : Prop :=
  Frm.Path l 0 (bodiesOf xs) (lastOf xs) ∧ (Frm.next l (lastOf xs)).2.2 ≠ 0

/-- How much is left. -/
def scanLeft (n : Nat) (e r : Value) : Nat := if intOf r = 0 then n + 2 - (intOf e).toNat else 0

theorem scanLeft_lt {l : List UInt8} {c : Nat} (hc : c ≤ l.length) {q : List UInt8 × Int × Int} (hq : q = Frm.next l c) : scanLeft l.length (.int .i64 q.2.1) (.int .i64 q.2.2) < scanLeft l.length (.int .i64 (c : Int)) (.int .i64 0) := by
  have e1 : scanLeft l.length (.int .i64 (c : Int)) (.int .i64 0) = l.length + 2 - c := by simp [scanLeft, intOf]
  have e2 : scanLeft l.length (.int .i64 q.2.1) (.int .i64 q.2.2) = if q.2.2 = 0 then l.length + 2 - q.2.1.toNat else 0 := rfl
  rw [e1, e2]
  split
  · rename_i h
    obtain ⟨qb, qe, qr⟩ := q
    simp only at h
    subst h
    obtain ⟨c', e, h1, h2, _⟩ := Frm.next_ok hq.symm
    subst e
    simp only [Int.toNat_natCast]; omega
  · omega

theorem CrcTab.keep {p : Nat → TypeId → Prop} {w w' : World} {n₀ : Nat} (h : CrcTab w) (hp : ∀ b t, b < n₀ → p b t) (hb : 0 < n₀) (hk : Keep p w w') : CrcTab w' := by
  intro i hi
  have hc := h i hi
  obtain ⟨cs, t, fr, hblk⟩ := block_of_cell hc
  rw [← hc]
  exact World.cell?_of_block ((hk.same _ _ _ _ hblk (hp _ _ hb)).trans hblk.symm)

set_option maxRecDepth 4000 in
set_option maxHeartbeats 400000 in
theorem frames_any (v : Value) (l : List UInt8) (w : World) (hv : Reads w v l) :
    Calls Tryd.prog 28 #[v] w fun e w' => e = .returned (.func (.func 31) #[] #[.pointer (some ⟨w.heap.size, 0, none⟩)]) ∧ w' = w.alloc (.cells #[v] 22) := by
  obtain ⟨ao, cap, rfl⟩ := hv.shape
  go_enter Tryd.func28, Tryd.ntmps28
  go_wp2
  go_ret
  exact ⟨rfl, rfl⟩

set_option maxRecDepth 100000 in
set_option maxHeartbeats 2000000 in
theorem frames_told (n₀ Bn : Nat) (p : Nat → TypeId → Prop) (hp : ∀ b t, b < n₀ → p b t) (hpB : p Bn 22) (hp8 : ∀ b, p b 5) (vb : Value) (l : List UInt8) (w0 : World)
    (hBn : Boxed w0 Bn 22 vb) (hv : ReadsP p w0 vb l) (hT : CrcTab w0) (hg0 : 0 < n₀) (hlen : l.length ≤ 140737487000000) :
    Told Fence.wide 5 Tryd.prog 31 #[.pointer (some ⟨Bn, 0, none⟩)] shotArgs (Keep p) (shotGiven p l) (shotOver l) w0 := by
  intro lp J A hA hJ hY h0
  have hkA : Keep p w0 A := Keep.of_below hA
  have hBA : Boxed A Bn 22 vb := (hA.block _ hBn.lt).trans hBn
  have hvA := hv.keep hkA
  have hTA := hT.below hA
  have hcA := hBA.cell
  refine callsIn_of_wp Tryd.func31 rfl trivial ?_ rfl
  simp only [Tryd.ntmps31, List.size_toArray, List.length_cons, List.length_nil, Nat.reduceAdd, Nat.reduceSub, Array.replicate_succ, Array.replicate_zero, List.push_toArray, List.append_toArray, List.nil_append, List.cons_append]
  obtain ⟨q0, hq0⟩ : ∃ q, q = Frm.next l 0 := ⟨_, rfl⟩
  have hnx := next_any vb l 0 A hvA.1 hTA hlen
  rw [← hq0] at hnx
  have HQ0 := Lib.hid hq0; clear hq0
  gi_wp2_with (refine ⟨trivial, ?_⟩; gi_at_call 12; refine (callsIn_wide.2 hnx).mono ?_; rintro e w1 ⟨x1, rfl, ho1, hb1⟩)
  gi_loopw [3, 4, 5] (fun x e r wr => ∃ (pre : List Shot) (q : List UInt8 × Int × Int), e = .int .i64 q.2.1 ∧ r = .int .i64 q.2.2 ∧ Hid (q = Frm.next l (lastOf pre)) ∧ ReadsP p wr x q.1 ∧ Frm.Path l 0 (bodiesOf pre) (lastOf pre) ∧ J pre wr ∧ Keep p w0 wr) (fun _ e r _ => scanLeft l.length e r)
  case atStart => exact ⟨[], q0, rfl, rfl, HQ0, ReadsP.of_owns ho1 (fun b _ => hp8 b), .nil 0, hJ _ _ _ h0 hb1, hkA.trans (Keep.of_below hb1)⟩
  case round =>
    clear ho1 hb1 hnx HQ0 hcA hTA hvA hBA hkA h0
    obtain ⟨pre, q, rfl, rfl, HQ, hrx, hpath, hJp, hk⟩ := hrel
    obtain ⟨qb, qe, qr⟩ := q
    by_cases h0 : qr = 0
    · subst h0
      obtain ⟨c, hc, h6, hcl, _, _⟩ := Frm.next_ok HQ.out.symm
      subst hc
      obtain ⟨fn, tmps, assign, body, hy, hR⟩ := hY pre ⟨u3, qb, c⟩ wr hJp ⟨hrx, hpath, HQ.out.symm⟩
      dsimp only [shotArgs] at hy
      gi_wp2
      refine hR.mono ?_
      rintro e W3 ⟨rfl, hJ3, hk3⟩
      have hk4 := hk.trans hk3
      have hB3 : Boxed W3 Bn 22 vb := hk4.same _ _ _ _ hBn hpB
      have hc3 := hB3.cell
      have hv3 := hv.keep hk4
      have hT3 := hT.keep hp hg0 hk4
      have hnx := next_any vb l c W3 hv3.1 hT3 hlen
      obtain ⟨q, hq⟩ : ∃ q, q = Frm.next l c := ⟨_, rfl⟩
      rw [← hq] at hnx
      have HQ3 : Hid (q = Frm.next l (lastOf (pre ++ [⟨u3, qb, c⟩]))) := by show _ = _; rw [lastOf_snoc]; exact hq
      have HL := Lib.hid hq
      clear hq
      gi_wp2_with (refine ⟨trivial, ?_⟩; gi_at_call 12; refine (callsIn_wide.2 hnx).mono ?_; rintro e w4 ⟨x4, rfl, ho4, hb4⟩)
      go_roundw
      case rel => exact ⟨_, q, rfl, rfl, HQ3, ReadsP.of_owns ho4 (fun b _ => hp8 b), by rw [bodiesOf_snoc, lastOf_snoc]; exact hpath.snoc HQ.out.symm, hJ _ _ _ hJ3 hb4, hk4.trans (Keep.of_below hb4)⟩
      case measure => exact scanLeft_lt hcl HL.out
    · have hg : ((qr : Int) == 0) = false := by simpa using h0
      gi_wp2
      refine ⟨fun _ h => (by cases h), ?_⟩
      gi_wp2
      go_end0
      exact ⟨⟨_, rfl⟩, pre, ⟨hpath, by rw [← HQ.out]; exact h0⟩, hJp⟩

/-- What the loop in Scan knows. -/
def scanI (p : Nat → TypeId → Prop) (w : World) (pre : List Shot) (W : World) : Prop :=
  (∃ v, Boxed W w.heap.size 32 v ∧ OwnsL p W (w.heap.size + 3) 22 v (bodiesOf pre)) ∧ Boxed W (w.heap.size + 1) 3 (.int .i64 (lastOf pre : Int)) ∧ Below w.heap.size w W

theorem boxed_row {W W' : World} {row : Option Nat} {b : Nat} {t : TypeId} {v : Value} (h : Boxed W b t v) (hg : W.grownBy W' row) (hr : ∀ r, row = some r → ∃ o : Obj, W.heap[r]? = some o ∧ o.isCells = false) : Boxed W' b t v :=
  h.kept hg (fun e => by obtain ⟨o, ho, hc⟩ := hr b e.symm; rw [show W.heap[b]? = _ from h] at ho; cases ho; cases hc)
theorem keep_row {p : Nat → TypeId → Prop} {W W' : World} {row : Option Nat} (hg : W.grownBy W' row) (hr : ∀ r, row = some r → ∃ o : Obj, W.heap[r]? = some o ∧ o.isCells = false) : Keep p W W' :=
  Keep.of_grown hg (fun g cs t fr e hc => by obtain ⟨o, ho, hc'⟩ := hr g e; rw [hc] at ho; cases ho; cases hc')
theorem ownsL_row {p : Nat → TypeId → Prop} {W W' : World} {row : Option Nat} {base : Nat} {T : TypeId} {v : Value} {ls : List (List UInt8)} (h : OwnsL p W base T v ls) (hg : W.grownBy W' row) (hr : ∀ r, row = some r → ∃ o : Obj, W.heap[r]? = some o ∧ o.isCells = false) : OwnsL p W' base T v ls := by
  refine h.keep hg ?_ (keep_row hg hr)
  obtain ⟨us, ho, _, _⟩ := h
  rcases ho.2 with ⟨rfl, _⟩ | ⟨g, cap, cur, rfl, _, hgb, _⟩
  · exact .inl rfl
  · refine .inr fun e => ?_
    obtain ⟨o, ho', hc⟩ := hr g (by simpa [Value.ownBlock] using e.symm)
    rw [hgb] at ho'; cases ho'; cases hc

theorem scanI_own (p : Nat → TypeId → Prop) (w : World) (B : Nat) (hB : w.heap.size ≤ B) : OwnFrom B (scanI p w) := by
  rintro pre W W' row ⟨⟨v, hv, ho⟩, ha, hb⟩ hg hr
  have hr' : ∀ r, row = some r → ∃ o : Obj, W.heap[r]? = some o ∧ o.isCells = false := fun r e => (hr r e).2
  exact ⟨⟨v, boxed_row hv hg hr', ownsL_row ho hg hr'⟩, boxed_row ha hg hr', hb.grown hg hb.size (fun k e => Nat.le_trans hB (hr k e).1)⟩

set_option maxRecDepth 100000 in
set_option maxHeartbeats 2000000 in
theorem scan_any (v : Value) (l : List UInt8) (w : World) (hv : Reads w v l) (hT : CrcTab w) (hlen : l.length ≤ 1048576) :
    Calls Tryd.prog 14 #[v] w (Scanned w l) := by
  obtain ⟨ao, cap, rfl⟩ := hv.shape
  have hg0 : 0 < w.heap.size := World.block_lt_of_cell? w _ (hT 0 (by omega))
  refine (callsIn_wide (n := 6)).1 ?_
  refine callsIn_of_wp_marks Tryd.func14 rfl trivial ?_ rfl
  simp only [Tryd.ntmps14, List.size_toArray, List.length_cons, List.length_nil, Nat.reduceAdd, Nat.reduceSub, Array.replicate_succ, Array.replicate_zero, List.push_toArray, List.append_toArray, List.nil_append, List.cons_append]
  have b0 := Boxed.new w 32 (.slice none 0 0)
  have b1 := Boxed.new (w.alloc (.cells #[.slice none 0 0] 32)) 3 (.int .i64 0)
  have b2 := Boxed.new ((w.alloc (.cells #[.slice none 0 0] 32)).alloc (.cells #[.int .i64 0] 3)) 22 (.slice ao l.length cap)
  have hB2 : Below w.heap.size w ((w.alloc (.cells #[.slice none 0 0] 32)).alloc (.cells #[.int .i64 0] 3)) := ((Below.refl _ w).alloc (Nat.le_refl _) _).alloc (by simp) _
  have hB3 := hB2.alloc (by simp; omega) (.cells #[.slice ao l.length cap] 22)
  have hv2 := hv.below hB2
  gi_wp2_with (refine ⟨trivial, ?_⟩; gi_at_call 28; refine (callsIn_wide.2 (frames_any _ l _ hv2)).mono ?_; rintro e w1 ⟨rfl, rfl⟩)
  have bA := (b0.alloc (.cells #[.int .i64 0] 3)).alloc (.cells #[.slice ao l.length cap] 22)
  have bB := b1.alloc (.cells #[.slice ao l.length cap] 22)
  rw [World.size_alloc] at bB b2
  rw [World.size_alloc] at b2
  obtain ⟨i0, hi, hz0, hz1, hz2⟩ := info_parts info_bytes
  have hvP : ReadsP (fun b t => b < w.heap.size ∨ t = 5 ∨ b = w.heap.size + 2) _ (.slice ao l.length cap) l := (ReadsP.of_reads hv (fun b t h => .inl h)).keep (Keep.of_below hB3)
  refine range_told (n := 6) rfl (by omega) (f := 31) (held := #[.pointer (some ⟨w.heap.size + 2, 0, none⟩)]) rfl trivial (enters_of Tryd.func31 (by kernel_rfl) rfl)
    (frames_told w.heap.size (w.heap.size + 2) (fun b t => b < w.heap.size ∨ t = 5 ∨ b = w.heap.size + 2) (fun b t h => .inl h) (.inr (.inr rfl)) (fun b => .inr (.inl rfl)) (.slice ao l.length cap) l _ b2 hvP (hT.below hB3) hg0 (by omega))
    (Below.refl _ _) Keep.trans (fun A l o o' hl h ho => Keep.putObj _ A o' h ho) (fun _ => rfl)
    (scanI (fun b t => b < w.heap.size ∨ t = 5 ∨ b = w.heap.size + 2) w) (scanI_own _ w _ (by simp; omega))
    (fun s W W' row hs hg hr => ⟨hs.1.keep (keep_row hg (fun r e => (hr r e).2)), hs.2⟩) (fun s W W' row hs _ _ => hs) ⟨⟨_, bA, OwnsL.none _ _ _ _⟩, bB, hB3⟩
    (fun x => { tmps := #[.slice ao l.length cap, undef, .slice none 0 0, .int .i64 0, .pointer (some ⟨w.heap.size, 0, none⟩), .pointer (some ⟨w.heap.size + 1, 0, none⟩), x.val, .int .i64 (x.to : Int), .slice ao l.length cap, .func (.func 31) #[] #[.pointer (some ⟨w.heap.size + 1 + 1, 0, none⟩)], x.val, .int .i64 (x.to : Int), undef, undef, undef, undef, undef, undef, undef], defers := [] }) ?assign ?body ?done
  case assign =>
    intro lp x W K hK
    unfold shotArgs
    gi_wp2
    exact hK
  case body =>
    clear b0 b1 b2 bA bB hvP hv2 hB2 hB3
    rintro lp pre ⟨xv, xb, xc⟩ A ⟨⟨v, hbx, us, hown, hul, hus⟩, hat, hB⟩ ⟨hrx, hpath, hnx⟩ hsz
    simp only at hrx hnx
    obtain ⟨xo, xcap, rfl⟩ := hrx.1.shape
    have hbd := hpath.bound
    have hk : (bodiesOf pre).length ≤ 1048576 := by
      by_cases h0 : bodiesOf pre = []
      · rw [h0]; simp
      · have := hbd.2 h0; omega
    have hc := hbx.cell
    have hT1 : (32 : TypeId) ≠ 22 := by decide
    have hT2 : (3 : TypeId) ≠ 22 := by decide
    have hnr : ∀ g, w.heap.size + 3 ≤ g → ¬ (fun b t => b < w.heap.size ∨ t = 5 ∨ b = w.heap.size + 2) g 22 := by
      intro g hg h
      rcases h with h | h | h
      · omega
      · exact absurd h (by decide)
      · omega
    have hn1 : ¬ (fun b t => b < w.heap.size ∨ t = 5 ∨ b = w.heap.size + 2) w.heap.size 32 := by
      intro h
      rcases h with h | h | h
      · omega
      · exact absurd h (by decide)
      · omega
    have hn2 : ¬ (fun b t => b < w.heap.size ∨ t = 5 ∨ b = w.heap.size + 2) (w.heap.size + 1) 3 := by
      intro h
      rcases h with h | h | h
      · omega
      · exact absurd h (by decide)
      · omega
    simp only [World.size_alloc] at hsz
    clear hbd
    gi_wp2_with (gi_at_builtin; refine wpListIn_append_own _ rfl _ _ 32 rfl (w.heap.size + 3) 22 i0 (.slice none 0 0) 1 24 Tryd.underlying32 hi hz0 hz1 hz2 rfl (by decide) _ _ _ rfl (hown.alloc _) ⟨A.heap.size, 0, none⟩ 1 1 [.slice xo xb.length xcap] rfl rfl (cell_one_new _ _ _) (by simp [Value.oneCell']) (by unfold maxLen; omega) (by omega) (by simp; omega) ?_; intro v' w1 hown' hgrow _; obtain ⟨g', cap', rfl⟩ := ownsRow_succ hown'; have hv1 := (hbx.alloc _).kept hgrow (hbx.not_row hT1 hown); have ha1 := (hat.alloc _).kept hgrow (hat.not_row hT2 hown); obtain ⟨hL1, hK1⟩ := OwnsL.snoc hown hus hul hrx hown' hgrow hnr; have hv2 := hv1.set (.slice (some ⟨g', 0, none⟩) ((bodiesOf pre).length + 1) cap'); have ha2 := ha1.kept (grownBy_setCell' w1 w.heap.size (.slice (some ⟨g', 0, none⟩) ((bodiesOf pre).length + 1) cap')) (by simp); have hc1 := hv1.cell; have hf1 := hv1.frozen; have hc2 := ha2.cell; have hf2 := ha2.frozen)
    have hkb : KeepsOthers A w1 := (KeepsOthers.alloc A _).trans (KeepsOthers.of_grownBy hgrow fun j o ej hj => (row_cells (hown.alloc _) ej hj).1)
    have hb1 := (hB.alloc hB.size _).grown hgrow (by have := hB.size; simp; omega) (fun j ej => by have := hown.lt j ej; omega)
    refine ⟨((hkb.trans (KeepsOthers.setCell _ _ _)).trans (KeepsOthers.setCell _ _ _)).from _, (hK1.trans (Keep.store hv1 hn1 _)).trans (Keep.store ha2 hn2 _), ⟨_, hv2.kept (grownBy_setCell' _ _ _) (by simp), ?_⟩, ?_, (hb1.setCell (p := ⟨w.heap.size, 0, none⟩) (Nat.le_refl _) _).setCell (p := ⟨w.heap.size + 1, 0, none⟩) (by simp) _⟩
    · rw [bodiesOf_snoc]
      exact (hL1.keep (grownBy_setCell' _ _ _) (.inr (hv1.not_row hT1 hown').symm) (Keep.store hv1 hn1 _)).keep (grownBy_setCell' _ _ _) (.inr (ha1.not_row hT2 hown').symm) (Keep.store ha2 hn2 _)
    · rw [lastOf_snoc]
      exact ha2.set _
  case done =>
    rintro D ys W hD ⟨hp1, hp2⟩ ⟨⟨v, hbx, hL⟩, hat, hB⟩ hK
    have hc1 := hbx.cell
    have hc2 := hat.cell
    gi_wp2
    gi_region
    gi_wp2
    have hK' : W.drew.heap[D]? = some (.deferred (some [])) := hK
    refine ⟨by simp, .inl ⟨_, _, rfl, run_takeDeferred hK', ?_⟩⟩
    have hD' : w.heap.size ≤ D := by simp at hD; omega
    have hLd : OwnsL _ W.drew _ _ v (bodiesOf ys) := hL.below (Below.refl _ W).drew
    have hL' := ownsL_row hLd (grownBy_putObj' W.drew D (.deferred none)) (fun r e => by cases e; exact ⟨_, hK', rfl⟩)
    exact ⟨_, results_tmp2 rfl _ _ _, v, bodiesOf ys, lastOf ys, rfl, hp1, hp2, hL'.reads, hB.drew.trans (belowK_b (w := w) (Nat.le_refl _) W.drew D _ _ hD' hK' rfl rfl)⟩
end Go.Proofs.YtmhabcabbefncaaDoor
