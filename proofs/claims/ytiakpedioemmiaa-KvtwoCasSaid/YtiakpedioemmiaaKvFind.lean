/- Pairs: the comparison of strings, what is searched by, the binary search; where a key stands; the pair with a key. -/
import Derived.Test.YtiakpedioemmiaaKvCopy
import Derived.Shelf.Abstract
namespace Go.Proofs.Ytiakpedioemmiaa
open Go.RowKit Go.Shelf

theorem isNaNs_any (x : List UInt8) (w : World) : Calls Try.prog 46 #[.string ⟨x.toArray⟩] w (Says w (.bool false)) := by
  have hne : ∀ W, (binOp .neq 9 (.string ⟨x.toArray⟩) (.string ⟨x.toArray⟩)).run Try.prog W = .ok (.bool false) W := fun W => by rw [run_neq_str, decide_eq_true rfl]; rfl
  go_enter Try.func46, Try.ntmps46
  go_wp2
  go_ret
  exact ⟨ret_bool (by simp), rfl⟩
/-- cmp.Compare at strings. -/
theorem cmps_any (x y : List UInt8) (w : World) : Calls Try.prog 40 #[.string ⟨x.toArray⟩, .string ⟨y.toArray⟩] w (Says w (.int .i64 (Kv.cmp x y))) := by
  go_enter Try.func40, Try.ntmps40
  by_cases h1 : x < y
  · have e1 : Op.bytesLess x y = true := by rw [Kv.less_eq]; exact decide_eq_true h1
    have hl : ∀ W, (binOp .lss 9 (.string ⟨x.toArray⟩) (.string ⟨y.toArray⟩)).run Try.prog W = .ok (.bool true) W := fun W => by rw [run_lss_str, decide_eq_true h1]
    go_wp2_with (go_at_call 46; refine (isNaNs_any _ _).mono ?_; rintro e w' ⟨rfl, rfl⟩)
    go_ret
    exact ⟨ret_int (by unfold Kv.cmp; rw [if_pos h1]), rfl⟩
  · have e1 : Op.bytesLess x y = false := by rw [Kv.less_eq]; exact decide_eq_false h1
    have hl : ∀ W, (binOp .lss 9 (.string ⟨x.toArray⟩) (.string ⟨y.toArray⟩)).run Try.prog W = .ok (.bool false) W := fun W => by rw [run_lss_str, decide_eq_false h1]
    by_cases h2 : y < x
    · have hg : ∀ W, (binOp .gtr 9 (.string ⟨x.toArray⟩) (.string ⟨y.toArray⟩)).run Try.prog W = .ok (.bool true) W := fun W => by rw [run_gtr_str, decide_eq_true h2]
      go_wp2_with (go_at_call 46; refine (isNaNs_any _ _).mono ?_; rintro e w' ⟨rfl, rfl⟩)
      go_ret
      exact ⟨ret_int (by unfold Kv.cmp; rw [if_neg h1, if_pos h2]), rfl⟩
    · have hg : ∀ W, (binOp .gtr 9 (.string ⟨x.toArray⟩) (.string ⟨y.toArray⟩)).run Try.prog W = .ok (.bool false) W := fun W => by rw [run_gtr_str, decide_eq_false h2]
      go_wp2_with (go_at_call 46; refine (isNaNs_any _ _).mono ?_; rintro e w' ⟨rfl, rfl⟩)
      go_ret
      exact ⟨ret_int (by unfold Kv.cmp; rw [if_neg h1, if_neg h2]), rfl⟩

/-- What is searched by: the key of a pair, against the one that is sought. -/
theorem search_kv (p : Kv.Item) (x : List UInt8) (w : World) : Calls Try.prog 39 #[.agg (Kv.cells p), .string ⟨x.toArray⟩] w (Looks w (.int .i64 (Kv.cmp p.key x))) := by
  obtain ⟨w1, e1, hl1, hB1, hz1⟩ := box_kv w p
  obtain ⟨p0, _⟩ := Kvs.three hl1
  have HB1 := Lib.hid hB1
  clear hl1 hB1 hz1
  go_enter Try.func39, Try.ntmps39
  go_wp2_with (go_at_call 40; refine (cmps_any _ _ _).mono ?_; rintro e w' ⟨rfl, rfl⟩)
  go_ret
  exact ⟨rfl, HB1.out⟩

set_option maxRecDepth 4000 in
set_option maxHeartbeats 1600000 in
theorem bsearch_kv (v : Value) (l : List Kv.Item) (x : List UInt8) (w : World) (hv : ReadsK w v l) (hp : Kv.Asc l) (hn : l.length ≤ 1048576) :
    Calls Try.prog 38 #[v, .string ⟨x.toArray⟩, .func (.func 39) #[] #[]] w (Looks w (.tuple #[.int .i64 (Kv.below l x : Nat), .bool (Kv.found l x)])) := by
  obtain ⟨ao, cap, rfl, hc1, hc2⟩ := ReadsK.shape hv
  have HP := Lib.hid (fun h => ReadsK.places hv h)
  have hble := Kv.below_le l x
  have HI := Lib.hid (Kv.below_iff l x hp)
  obtain ⟨B, hB⟩ : ∃ B, B = Kv.below l x := ⟨_, rfl⟩
  have HF : Hid (Kv.found l x = (l[B]?).any fun c => decide (c.key = x)) := by show _ = _; rw [hB]; rfl
  obtain ⟨F, hF⟩ : ∃ F, F = Kv.found l x := ⟨_, rfl⟩
  rw [← hF] at HF ⊢
  rw [← hB] at hble HI ⊢
  obtain ⟨n, hnn⟩ : ∃ n, n = l.length := ⟨_, rfl⟩
  rw [← hnn] at hc1 hble hn ⊢
  have HN := Lib.hid hnn
  clear hv hp hB hF hnn
  go_enter Try.func38, Try.ntmps38
  go_wp2
  go_loopw [9, 10] (fun y z wr => ∃ lo hi : Nat, y = .int .i64 (lo : Int) ∧ z = .int .i64 (hi : Int) ∧ lo ≤ B ∧ B ≤ hi ∧ hi ≤ n ∧ Below w.heap.size w wr) (fun y z _ => (intOf z).toNat - (intOf y).toNat)
  case atStart => exact ⟨0, n, rfl, rfl, by omega, hble, by omega, Below.refl _ _⟩
  case round =>
    obtain ⟨lo, hi, rfl, rfl, hlo, hhi, hin, hBw⟩ := hrel
    have HBw := Lib.hid hBw
    clear hBw
    by_cases hlh : lo < hi
    · obtain ⟨m, hm⟩ : ∃ m, m = (lo + hi) / 2 := ⟨_, rfl⟩
      have hm1 : lo ≤ m := by omega
      have hm2 : m < hi := by omega
      have hmm : ((lo : Int) + (hi : Int)) / 2 = (m : Int) := by omega
      obtain ⟨c, hcm⟩ : ∃ c, l[m]? = some c := ⟨_, List.getElem?_eq_getElem (by have := HN.out; omega)⟩
      obtain ⟨g, off, rfl, hgl, hcell⟩ := HP.out (by have := HN.out; omega)
      have HC := Lib.hid (hcell wr HBw.out m c hcm)
      have hiff := HI.out m c hcm
      obtain ⟨z, hz⟩ : ∃ z, z = Kv.cmp c.key x := ⟨_, rfl⟩
      have hzi : z < 0 ↔ c.key < x := by rw [hz]; exact Kv.cmp_neg _ _
      have hcall := fun W => search_kv c x W
      rw [← hz] at hcall
      have HZ := Lib.hid hz
      clear hz hcell hcm hm
      by_cases hmB : m < B
      · have hz0 : z < 0 := by rw [hzi, hiff]; exact hmB
        clear hiff hzi
        go_wp2_with (first | (refine load_kv rfl _ rfl g (off + m * 3) c rfl HC.out ?_) | (go_at_call 39; refine (hcall _).mono ?_; rintro e w' ⟨rfl, hB'⟩))
        go_roundw
        case rel => exact ⟨m + 1, hi, by go_num, rfl, by omega, hhi, hin, HBw.out.trans (hB'.mono HBw.out.size)⟩
        case measure => simp [intOf]; omega
      · have hz0 : ¬ z < 0 := by rw [hzi, hiff]; exact hmB
        clear hiff hzi
        go_wp2_with (first | (refine load_kv rfl _ rfl g (off + m * 3) c rfl HC.out ?_) | (go_at_call 39; refine (hcall _).mono ?_; rintro e w' ⟨rfl, hB'⟩))
        go_roundw
        case rel => exact ⟨lo, m, rfl, rfl, hlo, by omega, by omega, HBw.out.trans (hB'.mono HBw.out.size)⟩
        case measure => simp [intOf]; omega
    · obtain rfl : lo = B := by omega
      obtain rfl : hi = lo := by omega
      by_cases hlt2 : hi < n
      · obtain ⟨c, hcm⟩ : ∃ c, l[hi]? = some c := ⟨_, List.getElem?_eq_getElem (by have := HN.out; omega)⟩
        obtain ⟨g, off, rfl, hgl, hcell⟩ := HP.out (by have := HN.out; omega)
        obtain ⟨c0, c1, c2⟩ := hcell wr HBw.out hi c hcm
        obtain ⟨z, hz⟩ : ∃ z, z = Kv.cmp c.key x := ⟨_, rfl⟩
        have hzi : z = 0 ↔ c.key = x := by rw [hz]; exact Kv.cmp_zero _ _
        have hcall := fun W => search_kv c x W
        rw [← hz] at hcall
        have HFc : Hid (F = decide (c.key = x)) := by show _ = _; rw [HF.out, hcm]; rfl
        clear hz hcell hcm
        by_cases hz0 : z = 0
        · have hFt : Hid (F = true) := by show _ = _; rw [HFc.out]; exact decide_eq_true (hzi.1 hz0)
          subst hz0
          clear hzi
          go_wp2_with (go_at_call 39; refine (hcall _).mono ?_; rintro e w' ⟨rfl, hB'⟩)
          go_ret2
          exact ⟨by rw [hFt.out]; rfl, HBw.out.trans (hB'.mono HBw.out.size)⟩
        · have hFt : Hid (F = false) := by show _ = _; rw [HFc.out]; exact decide_eq_false (fun h => hz0 (hzi.2 h))
          have hz1 : (z == 0) = false := by simpa using hz0
          clear hzi
          go_wp2_with (go_at_call 39; refine (hcall _).mono ?_; rintro e w' ⟨rfl, hB'⟩)
          go_ret2
          exact ⟨by rw [hFt.out]; rfl, HBw.out.trans (hB'.mono HBw.out.size)⟩
      · have hFt : Hid (F = false) := by show _ = _; rw [HF.out, List.getElem?_eq_none (by have := HN.out; omega)]; rfl
        go_wp2
        go_ret2
        exact ⟨by rw [hFt.out]; rfl, HBw.out⟩

set_option maxRecDepth 4000 in
theorem place_kv (v : Value) (l : List Kv.Item) (x : List UInt8) (w : World) (hv : ReadsK w v l) (hp : Kv.Asc l) (hn : l.length ≤ 1048576) :
    Calls Try.prog 34 #[v, .string ⟨x.toArray⟩] w (Looks w (.tuple #[.int .i64 (Kv.below l x : Nat), .int .i64 (Kv.upto l x : Nat)])) := by
  have hcall := bsearch_kv v l x w hv hp hn
  obtain ⟨ao, cap, rfl, _, _⟩ := ReadsK.shape hv
  have hble := Kv.below_le l x
  obtain ⟨U, hU⟩ : ∃ U, U = Kv.upto l x := ⟨_, rfl⟩
  rw [← hU]
  unfold Kv.upto at hU
  obtain ⟨B, hB⟩ : ∃ B, B = Kv.below l x := ⟨_, rfl⟩
  obtain ⟨F, hF⟩ : ∃ F, F = Kv.found l x := ⟨_, rfl⟩
  rw [← hB, ← hF] at hU hcall
  rw [← hB] at hble ⊢
  have hB9 : B ≤ 1048576 := by omega
  obtain ⟨n, hnn⟩ : ∃ n, n = l.length := ⟨_, rfl⟩
  rw [← hnn] at hcall ⊢
  clear hv hp hn hble hB hF hnn
  cases F with
  | true =>
    have hU1 : (B : Int) + 1 = (U : Int) := by simp at hU; omega
    clear hU
    go_enter Try.func34, Try.ntmps34
    go_wp2_with (go_at_call 38; refine hcall.mono ?_; rintro e w1 ⟨rfl, hB1⟩)
    go_ret2
    exact ⟨rfl, hB1⟩
  | false =>
    obtain rfl : U = B := by simpa using hU
    clear hU
    go_enter Try.func34, Try.ntmps34
    go_wp2_with (go_at_call 38; refine hcall.mono ?_; rintro e w1 ⟨rfl, hB1⟩)
    go_ret2
    exact ⟨rfl, hB1⟩

set_option maxRecDepth 4000 in
set_option maxHeartbeats 1600000 in
theorem find_kv (v : Value) (l : List Kv.Item) (x : List UInt8) (w : World) (hv : ReadsK w v l) (hp : Kv.Asc l) (hn : l.length ≤ 1048576) :
    Calls Try.prog 24 #[v, .string ⟨x.toArray⟩] w (Looks w (.tuple #[.agg (Kv.cells (Kv.find l x)), .bool (Kv.found l x)])) := by
  obtain ⟨w1, e1, hl1, hB1, hz1⟩ := box_kv w Kv.zero
  dsimp only [Kv.cells, Kv.zero] at e1
  have hcall := place_kv v l x w1 (hv.below hB1) hp hn
  have HV1 := Lib.hid (hv.below hB1)
  have HL1 := Lib.hid hl1; have HB1 := Lib.hid hB1
  obtain ⟨ao, cap, rfl, hc1, hc2⟩ := ReadsK.shape hv
  have hble := Kv.below_le l x
  have hule := Kv.upto_le l x
  obtain ⟨F, hF⟩ : ∃ F, F = Kv.found l x := ⟨_, rfl⟩
  have HF := Lib.hid hF
  obtain ⟨U, hU⟩ : ∃ U, U = Kv.upto l x := ⟨_, rfl⟩
  obtain ⟨B, hB⟩ : ∃ B, B = Kv.below l x := ⟨_, rfl⟩
  have hUB : U = B + (if Kv.found l x = true then 1 else 0) := by rw [hU, hB]; rfl
  have HBB := Lib.hid hB
  rw [← hB, ← hU] at hcall
  rw [← hF] at hUB ⊢
  rw [← hB] at hble
  rw [← hU] at hule
  obtain ⟨n, hnn⟩ : ∃ n, n = l.length := ⟨_, rfl⟩
  rw [← hnn] at hcall hble hule hn hc1 HV1 ⊢
  have HN := Lib.hid hnn
  clear hl1 hB1 hv hp hF hU hB hz1 hnn
  cases F with
  | false =>
    have hUB' : U = B := by simpa using hUB
    subst hUB'
    have HZ : Hid (Kv.find l x = Kv.zero) := Kv.find_no HF.out.symm
    clear hUB
    go_enter Try.func24, Try.ntmps24
    go_wp2_with (first | (refine store_kv (by rfl) _ _ (by rfl) w.heap.size Kv.zero Kv.zero (by rfl) (by rfl) HL2.out ?_; intro w6 hl6 hg6) | (go_at_call 34; refine hcall.mono ?_; rintro e w2 ⟨rfl, hB2⟩; have HL2 := Lib.hid (HL1.out.below hB2 HL1.out.lt); have HB2 := Lib.hid (HB1.out.trans (hB2.mono HB1.out.size)); clear hB2))
    refine ret_kv2 rfl rfl hl6 rfl ?_
    rw [HZ.out]
    exact ⟨rfl, HB2.out.grown hg6 HB2.out.size (by rintro j hj; cases hj; exact Nat.le_refl _)⟩
  | true =>
    have hUB' : (B : Int) + 1 = (U : Int) := by simp at hUB; omega
    have hne : ((B : Int) == (U : Int)) = false := by simp; omega
    have hBn : B < n := by simp at hUB; omega
    obtain ⟨e0, he0⟩ : ∃ e0, l[B]? = some e0 := ⟨_, List.getElem?_eq_getElem (by have := HN.out; omega)⟩
    have HZ : Hid (Kv.find l x = e0) := Kv.find_yes HF.out.symm (by rw [← HBB.out]; exact he0)
    obtain ⟨g, off, rfl, hgl, hcell⟩ := ReadsK.places HV1.out (by have := HN.out; omega)
    have HE := Lib.hid he0
    have HC := Lib.hid hcell
    clear hUB hUB' hcell he0
    go_enter Try.func24, Try.ntmps24
    go_wp2_with (first | (refine load_kv rfl _ rfl g (off + B * 3) e0 rfl (HC.out _ HBH.out B e0 HE.out) ?_) | (refine store_kv (by rfl) _ _ (by rfl) w.heap.size Kv.zero e0 (by rfl) (by rfl) HL2.out ?_; intro w6 hl6 hg6) | (go_at_call 34; refine hcall.mono ?_; rintro e w2 ⟨rfl, hB2⟩; have HBH := Lib.hid hB2; have HL2 := Lib.hid (HL1.out.below hB2 HL1.out.lt); have HB2 := Lib.hid (HB1.out.trans (hB2.mono HB1.out.size)); clear hB2))
    refine ret_kv2 rfl rfl hl6 rfl ?_
    rw [HZ.out]
    exact ⟨rfl, HB2.out.grown hg6 HB2.out.size (by rintro j hj; cases hj; exact Nat.le_refl _)⟩

end Go.Proofs.Ytiakpedioemmiaa
