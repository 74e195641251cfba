/- The change of a pair as a function: next, the two closures, and every pair changed by one of them. Written by a program. -/
import Derived.Test.YtgcjjlkjlabneaaKwRow
import Derived.Test.YtgcjjlkjlabneaaKvCopy
import Derived.Test.YtgcjjlkjlabneaaOnce
namespace Go.Proofs.Ytgcjjlkjlabneaa
open Go.RowKit

theorem ret_kv1 {fn : Func} {R : Ending → World → Prop} {a : Act} {w : World} {p : Tmp} {g : Nat} {s : Kv.Item} (h : fn.results = #[.cell p 38]) (hp : a.tmps.getD p undef = .pointer (some ⟨g, 0, none⟩))
    (hl : Kvs w g s) (hd : a.defers = []) (hR : R (.returned (.agg (Kv.cells s))) w) : bodyPost Try.prog fn R .ret a w := by
  refine bodyPost_ret ?_ hd hR
  rw [results_one h, hp]
  simp [asAddr, Result.andThen, run_kv w g s hl]
/-- A pair's revision stored. -/
theorem set_rev {w : World} {g : Nat} {p : Kv.Item} (r : Int) (h : Kvs w g p) : ∃ w', w.setCell ⟨g, 2, none⟩ (.int .i64 r) = w' ∧ Kvs w' g ⟨p.key, p.val, r⟩ ∧ w.grownBy w' (some g) :=
  ⟨_, rfl, h.set 2 _, grown_set w g 2 _⟩

set_option maxRecDepth 4000 in
set_option maxHeartbeats 1600000 in
theorem bare_any (p : Kv.Item) (w : World) : Calls Try.prog 48 #[.agg (Kv.cells p)] w (Looks w (.agg (Kv.cells (Kv.bare p)))) := by
  obtain ⟨w1, e1, hl1, hB1, hz1⟩ := box_kv w p
  obtain ⟨w2, e2, hl2, hB2, hz2⟩ := box_kv w1 Kv.zero
  dsimp only [Kv.cells, Kv.zero] at e2
  rw [hz1] at hl2
  have hp2 := hl1.below hB2 hl1.lt
  obtain ⟨w3, e3, hl3, hg3⟩ := set_rev 0 hp2
  have f2 := hp2.free 2
  obtain ⟨p0, p1, p2⟩ := Kvs.three hp2
  have HP3 := Lib.hid hl3
  have HZ3 := Lib.hid (hl2.kept hg3 (by simp))
  have hB := hB1.trans (hB2.mono hB1.size)
  have HB3 := Lib.hid (hB.grown hg3 hB.size (by rintro j hj; cases hj; exact Nat.le_refl _))
  clear hl1 hB1 hl2 hB2 hp2 hl3 hg3 hz2 hB
  go_enter Try.func48, Try.ntmps48
  go_wp2_with (first
    | (refine load_kv rfl _ rfl w.heap.size 0 _ rfl (Kvs.at HP3.out) ?_)
    | (refine store_kv (by rfl) _ _ (by rfl) (w.heap.size + 1) Kv.zero (Kv.bare p) (by rfl) (by rfl) HZ3.out ?_; intro w4 hl4 hg4))
  refine ret_kv1 rfl rfl hl4 rfl ?_
  exact ⟨rfl, HB3.out.grown hg4 HB3.out.size (by rintro j hj; cases hj; omega)⟩

/-- The first k changed, the others as they were. -/
def Kv.part (f : Kv.Item → Kv.Item) (l : List Kv.Item) (k : Nat) : List Kv.Item := (l.map f).take k ++ l.drop k
theorem Kv.part_len (f : Kv.Item → Kv.Item) (l : List Kv.Item) (k : Nat) (hk : k ≤ l.length) : (Kv.part f l k).length = l.length := by unfold Kv.part; simp; omega
theorem Kv.part_none (f : Kv.Item → Kv.Item) (l : List Kv.Item) : Kv.part f l 0 = l := by simp [Kv.part]
theorem Kv.part_all (f : Kv.Item → Kv.Item) (l : List Kv.Item) : Kv.part f l l.length = l.map f := by simp [Kv.part, List.take_of_length_le]
theorem Kv.part_at (f : Kv.Item → Kv.Item) {l : List Kv.Item} {k : Nat} {p : Kv.Item} (h : l[k]? = some p) : (Kv.part f l k)[k]? = some p := by
  have hk := (List.getElem?_eq_some_iff.1 h).1
  unfold Kv.part
  rw [List.getElem?_append_right (by simp; omega), List.getElem?_drop]
  rw [show k + (k - ((l.map f).take k).length) = k by simp; omega]
  exact h
theorem Kv.part_set (f : Kv.Item → Kv.Item) {l : List Kv.Item} {k : Nat} {p : Kv.Item} (h : l[k]? = some p) : (Kv.part f l k).set k (f p) = Kv.part f l (k + 1) := by
  have hk := (List.getElem?_eq_some_iff.1 h).1
  apply List.ext_getElem?
  intro i
  unfold Kv.part
  rw [List.getElem?_set]
  by_cases hi : k = i
  · subst hi
    rw [if_pos rfl, if_pos (by simp; omega), List.getElem?_append_left (by simp; omega), List.getElem?_take, if_pos (by omega), List.getElem?_map, h]
    rfl
  · rw [if_neg hi]
    rcases Nat.lt_or_gt_of_ne hi with h' | h'
    · rw [List.getElem?_append_right (by simp; omega), List.getElem?_append_right (by simp; omega), List.getElem?_drop, List.getElem?_drop]
      congr 1
      simp
      omega
    · rw [List.getElem?_append_left (by simp; omega), List.getElem?_append_left (by simp; omega), List.getElem?_take, List.getElem?_take, if_pos h', if_pos (by omega)]

set_option maxRecDepth 4000 in
set_option maxHeartbeats 3200000 in
theorem changedP_any (v : Value) (l : List Kv.Item) (w : World) (hv : ReadsK w v l) (hn : l.length ≤ 1000000) :
    Calls Try.prog 47 #[v, .func (.func 48) #[] #[]] w (MadeK w (Kv.plain l)) := by
  have hcl := cloneKv_any v l w hv (by omega)
  have HF := Lib.hid (fun p W (_ : Below w.heap.size w W) => bare_any p W)
  obtain ⟨f, hf⟩ : ∃ f, f = Kv.bare := ⟨_, rfl⟩
  have HOUT : Hid (Kv.plain l = l.map f) := by show _ = _; rw [hf]; rfl
  have HFE : Hid (∀ p, f p = Kv.bare p) := by intro p; rw [hf]
  have HF' : Hid (∀ p W, Below w.heap.size w W → Calls Try.prog 48 #[.agg (Kv.cells p)] W (Looks W (.agg (Kv.cells (f p))))) := by intro p W hb; rw [HFE.out]; exact HF.out p W hb
  obtain ⟨ao, cap, rfl, _, _⟩ := ReadsK.shape hv
  obtain ⟨n, hnn⟩ : ∃ n, n = l.length := ⟨_, rfl⟩
  rw [← hnn] at hcl hn ⊢
  have HN := Lib.hid hnn
  have HCL := Lib.hid hcl
  clear hv hnn hf HF HFE hcl
  go_enter Try.func47, Try.ntmps47
  go_wp2_with fail
  refine HCL.out.mono ?_
  rintro e w1 ⟨v1, rfl, ho1, hB1⟩
  have HB1 := Lib.hid hB1
  rcases RowK.of_owns ho1 with ⟨rfl, h0⟩ | ⟨g, rcap, hv1, hg, hr⟩
  · have HZ : Hid (l = []) := h0
    clear h0 ho1 hB1
    go_wp2
    refine wp_loop_rounds 1 ?_
    rw [rounds_succ]
    go_wp2
    go_ret
    refine ⟨_, rfl, ?_, HB1.out⟩
    rw [HOUT.out, HZ.out]
    exact OwnsR.empty _ _ _ _
  · rw [← HN.out] at hv1
    subst hv1
    have HR1 := Lib.hid hr
    have HG : Hid (w.heap.size ≤ g) := hg
    clear ho1 hr hB1 hg
    go_wp2
    go_loopw [12] (fun i wr => ∃ k : Nat, i = .int .i64 (k : Int) ∧ k ≤ n ∧ Hid (RowK wr g rcap (Kv.part f l k)) ∧ Below w.heap.size w wr) (fun i _ => n - (intOf i).toNat)
    case atStart => exact ⟨0, rfl, by omega, by show RowK _ _ _ _; rw [Kv.part_none]; exact HR1.out, HB1.out⟩
    case round =>
      obtain ⟨k, rfl, hk, HI, hB⟩ := hrel
      have HB := Lib.hid hB
      clear hB
      by_cases hlt : k < n
      · obtain ⟨p, hp⟩ : ∃ e, l[k]? = some e := ⟨_, List.getElem?_eq_getElem (by have := HN.out; omega)⟩
        have HC := Lib.hid (HI.out.at (Kv.part_at f hp))
        have HS := Lib.hid (Kv.part_set f hp)
        have HLN : Hid (k < (Kv.part f l k).length) := by show _ < _; rw [Kv.part_len f l k (by have := HN.out; omega), ← HN.out]; exact hlt
        clear hp
        go_wp2_with (first
          | (refine load_kv rfl _ rfl g (k * 3) p rfl HC.out ?_)
          | (refine store_kv (by rfl) _ _ (by rfl) wr.heap.size Kv.zero p (by rfl) (by rfl) (Lies.new _ _ _) ?_; intro w4 hl4 hg4
             have hB4 : Below wr.heap.size wr w4 := ((Below.refl _ wr).alloc (Nat.le_refl _) _).grown hg4 (by simp) (by rintro j hj; cases hj; exact Nat.le_refl _)
             have HP4 := Lib.hid hl4
             have HR4 := Lib.hid (HI.out.below hB4 HI.out.lt)
             have HB4 := Lib.hid (HB.out.trans (hB4.mono HB.out.size))
             clear hl4 hg4 hB4)
          | (refine load_kv rfl _ rfl wr.heap.size 0 p rfl (Kvs.at HP4.out) ?_)
          | (go_at_call 48; refine (HF'.out p w4 HB4.out).mono ?_; rintro e w5 ⟨rfl, hB5⟩
             have HR5 := Lib.hid (HR4.out.below hB5 HR4.out.lt)
             have HB5 := Lib.hid (HB4.out.trans (hB5.mono HB4.out.size))
             clear hB5)
          | (refine store_rowK (by rfl) _ _ (by rfl) g rcap k _ (f p) (by rfl) (by rfl) HR5.out HLN.out ?_; intro w6 hr6 hg6))
        go_roundw
        case rel => exact ⟨k + 1, by go_num, by omega, by show RowK _ _ _ _; rw [← HS.out]; exact hr6, HB5.out.grown hg6 HB5.out.size (by rintro j hj; cases hj; exact HG.out)⟩
        case measure => simp [intOf]; omega
      · obtain rfl : k = n := by omega
        go_wp2
        go_ret
        refine ⟨_, rfl, ?_, HB.out⟩
        have h1 := HI.out
        rw [HN.out, Kv.part_all] at h1
        have h2 := h1.owns HG.out
        rw [HOUT.out]
        rw [List.length_map, ← HN.out] at h2
        exact h2

set_option maxRecDepth 4000 in
theorem plainKv_any (v : Value) (l : List Kv.Item) (w : World) (hv : ReadsK w v l) (hn : l.length ≤ 1000000) : Calls Try.prog 42 #[v] w (MadeK w (Kv.plain l)) := by
  have hcall := changedP_any v l w hv hn
  obtain ⟨ao, cap, rfl, _, _⟩ := ReadsK.shape hv
  obtain ⟨n, hnn⟩ : ∃ n, n = l.length := ⟨_, rfl⟩
  rw [← hnn] at hcall ⊢
  clear hv hnn hn
  go_enter Try.func42, Try.ntmps42
  go_wp2_with fail
  refine hcall.mono ?_
  rintro e w1 ⟨v1, rfl, ho1, hB1⟩
  go_wp2
  go_ret
  exact ⟨_, rfl, ho1, hB1⟩

end Go.Proofs.Ytgcjjlkjlabneaa
