/- What is wrong with entries; whether a version has their commands. -/
import Derived.Test.YtfdnmmmjaipgoaaDoorEnMem
import Derived.Test.YtfdnmmmjaipgoaaDoorCmdChk
import Derived.Test.YtfdnmmmjaipgoaaDoorVers
import Derived.Test.YtfdnmmmjaipgoaaDoorGBl
namespace Go.Proofs.YtfdnmmmjaipgoaaDoor
open Go.RowKit

theorem Ents.at {w : World} {g : Nat} {e : En.Ent} (h : Ents w g e) : EntAt w g 0 e := EntAt.of fun j u hj => by rw [Nat.zero_add]; exact h.cell j u hj

set_option maxRecDepth 4000 in
set_option maxHeartbeats 800000 in
theorem behind_any (b : Int) (e : En.Ent) (w : World) (hv : WordsIn w) (hs : e.cmd.Short 140737488355328) :
    Calls Tryd.prog 59 #[.int .i64 b, .agg (En.cells e)] w (Looks w (.int .i64 (En.one b e))) := by
  obtain ⟨w1, e1, hl1, hB1, hz1⟩ := box_ent w e
  obtain ⟨p0, p1, p2, _, _, _, _, _, _, _⟩ := Ents.ten hl1
  have HL1 := Lib.hid hl1; have HB1 := Lib.hid hB1
  have HV1 := Lib.hid (hv.below hB1)
  have hmay := bmay_any e.bal w1
  obtain ⟨t, ht⟩ : ∃ t, t = Bl.may e.bal := ⟨_, rfl⟩
  rw [← ht] at hmay
  obtain ⟨r, hr⟩ : ∃ r, r = En.one b e := ⟨_, rfl⟩
  rw [← hr]
  unfold En.one En.ranged at hr
  rw [← ht] at hr
  obtain ⟨y, hy⟩ : ∃ y, y = Cm.check e.cmd := ⟨_, rfl⟩
  have hchk := fun W hW => check_any e.cmd W hW hs
  rw [← hy] at hr hchk
  have HCHK := Lib.hid hchk
  clear hl1 hB1 hz1 hv ht hy hchk hs
  by_cases h1 : e.index < 1
  · have HZ : Hid (r = 6) := by show _ = _; rw [hr, decide_eq_false (show ¬ 1 ≤ e.index by omega)]; rfl
    clear hr hmay
    go_enter Tryd.func59, Tryd.ntmps59
    go_wp2
    go_ret
    exact ⟨by rw [HZ.out]; rfl, HB1.out⟩
  · rw [decide_eq_true (show 1 ≤ e.index by omega)] at hr
    by_cases h2 : 4294967296 < e.index
    · have HZ : Hid (r = 6) := by show _ = _; rw [hr, decide_eq_false (show ¬ e.index ≤ 4294967296 by omega)]; rfl
      clear hr hmay
      go_enter Tryd.func59, Tryd.ntmps59
      go_wp2
      go_ret
      exact ⟨by rw [HZ.out]; rfl, HB1.out⟩
    · rw [decide_eq_true (show e.index ≤ 4294967296 by omega)] at hr
      cases t with
      | false =>
        have HZ : Hid (r = 6) := by show _ = _; rw [hr]; rfl
        clear hr
        go_enter Tryd.func59, Tryd.ntmps59
        go_wp2_with (go_at_call 32; refine hmay.mono ?_; rintro e' w2 ⟨rfl, hB2⟩)
        go_ret
        exact ⟨by rw [HZ.out]; rfl, HB1.out.trans (hB2.mono HB1.out.size)⟩
      | true =>
        have hr' : r = if y ≠ 0 then y else if e.index ≤ b then 12 else 0 := hr
        have HR := Lib.hid hr'
        clear hr hr'
        go_enter Tryd.func59, Tryd.ntmps59
        go_wp2_with (go_at_call 32; refine hmay.mono ?_; rintro e' w2 ⟨rfl, hB2⟩; obtain ⟨q0, q1, q2, q3, q4, q5, q6, q7, q8, q9⟩ := Ents.ten (HL1.out.below hB2 HL1.out.lt); have HL2 := Lib.hid (HL1.out.below hB2 HL1.out.lt); have HV2 := Lib.hid (HV1.out.below hB2); have HB2 := Lib.hid (HB1.out.trans (hB2.mono HB1.out.size)); clear hB2 p0 p1 p2)
        refine (HCHK.out _ HV2.out).mono ?_
        rintro e' w3 ⟨rfl, hB3⟩
        obtain ⟨s0, _⟩ := Ents.ten (HL2.out.below hB3 HL2.out.lt)
        have HB3 := Lib.hid (HB2.out.trans (hB3.mono HB2.out.size))
        clear hB3 q0 q1 q2 q3 q4 q5 q6 q7 q8 q9
        by_cases hy : y = 0
        · subst hy
          by_cases hb : e.index ≤ b
          · have HZ : Hid (r = 12) := by show _ = _; rw [HR.out, if_neg (by simp), if_pos hb]
            go_wp2
            go_ret
            exact ⟨by rw [HZ.out]; rfl, HB3.out⟩
          · have HZ : Hid (r = 0) := by show _ = _; rw [HR.out, if_neg (by simp), if_neg hb]
            go_wp2
            go_ret
            exact ⟨by rw [HZ.out]; rfl, HB3.out⟩
        · have hne : (y != 0) = true := by simpa using hy
          have HZ : Hid (r = y) := by show _ = _; rw [HR.out, if_pos hy]
          go_wp2
          go_ret
          exact ⟨by rw [HZ.out]; rfl, HB3.out⟩

set_option maxRecDepth 4000 in
set_option maxHeartbeats 1600000 in
theorem checkE_any (v : Value) (l : List En.Ent) (w : World) (hv : ReadsE w v l) (hw : WordsIn w) (hs : ∀ e ∈ l, e.cmd.Short 140737488355328) :
    Calls Tryd.prog 49 #[v] w (Looks w (.int .i64 (En.check 0 l))) := by
  obtain ⟨ao, cap, rfl, hc1, hc2⟩ := ReadsE.shape hv
  have HP := Lib.hid (fun h => ReadsE.places hv h)
  have HS := Lib.hid hs
  have HW := Lib.hid hw
  obtain ⟨n, hnn⟩ : ∃ n, n = l.length := ⟨_, rfl⟩
  rw [← hnn] at hc1 ⊢
  have HN := Lib.hid hnn
  obtain ⟨r, hr⟩ : ∃ r, r = En.check 0 l := ⟨_, rfl⟩
  rw [← hr]
  have HR := Lib.hid hr
  have hnb : n < 9223372036854775808 := by omega
  clear hv hnn hr hs hw
  go_enter Tryd.func49, Tryd.ntmps49
  go_wp2
  go_loopw [3, 9] (fun y i wr => ∃ (b : Int) (k : Nat), y = .int .i64 b ∧ i = .int .i64 (k : Int) ∧ k ≤ n ∧ Hid (r = En.check b (l.drop k)) ∧ Below w.heap.size w wr) (fun _ i _ => n - (intOf i).toNat)
  case atStart => exact ⟨0, 0, rfl, rfl, by omega, HR.out, Below.refl _ _⟩
  case round =>
    obtain ⟨b, k, rfl, rfl, hk, HI, hB⟩ := hrel
    have HB := Lib.hid hB
    clear hB
    by_cases hlt : k < n
    · obtain ⟨e, he⟩ : ∃ e, l[k]? = some e := ⟨_, List.getElem?_eq_getElem (by have := HN.out; omega)⟩
      obtain ⟨g, off, rfl, hgl, hcell⟩ := HP.out (by have := HN.out; omega)
      have HC := Lib.hid (hcell wr HB.out k e he)
      have HST := Lib.hid (HI.out.trans (En.check_step he b))
      have HSE := Lib.hid (HS.out e (List.mem_of_getElem? he))
      obtain ⟨y, hy⟩ : ∃ y, y = En.one b e := ⟨_, rfl⟩
      rw [← hy] at HST
      have hcall := fun W hW => behind_any b e W hW HSE.out
      rw [← hy] at hcall
      have HCALL := Lib.hid hcall
      clear hcell he hy hcall
      by_cases hy : y = 0
      · subst hy
        have HZ : Hid (r = En.check e.index (l.drop (k + 1))) := by show _ = _; rw [HST.out, if_neg (by simp)]
        go_wp2_with (first
          | (refine load_ent rfl _ rfl g (off + k * 10) e rfl HC.out ?_)
          | (refine store_ent (by rfl) _ _ (by rfl) wr.heap.size En.zero e (by rfl) (by rfl) (Lies.new _ _ _) ?_; intro w3 hl3 hg3; have HL3 := Lib.hid hl3; have HB3 := Lib.hid ((HB.out.alloc HB.out.size _).grown hg3 (by simp; have := HB.out.size; omega) (by rintro j hj; cases hj; exact HB.out.size)); clear hl3 hg3)
          | (refine load_ent rfl _ rfl wr.heap.size 0 e rfl (Ents.at HL3.out) ?_)
          | (go_at_call 59; refine (HCALL.out _ (HW.out.below HB3.out)).mono ?_; rintro e' w4 ⟨rfl, hB4⟩; obtain ⟨q0, _⟩ := Ents.ten (HL3.out.below hB4 HL3.out.lt); have HB4 := Lib.hid (HB3.out.trans (hB4.mono HB3.out.size)); clear hB4))
        go_roundw
        case rel => exact ⟨e.index, k + 1, rfl, by go_num, by omega, HZ.out, HB4.out⟩
        case measure => simp [intOf]; omega
      · have hne : (y != 0) = true := by simpa using hy
        have HZ : Hid (r = y) := by show _ = _; rw [HST.out, if_pos hy]
        go_wp2_with (first
          | (refine load_ent rfl _ rfl g (off + k * 10) e rfl HC.out ?_)
          | (refine store_ent (by rfl) _ _ (by rfl) wr.heap.size En.zero e (by rfl) (by rfl) (Lies.new _ _ _) ?_; intro w3 hl3 hg3; have HL3 := Lib.hid hl3; have HB3 := Lib.hid ((HB.out.alloc HB.out.size _).grown hg3 (by simp; have := HB.out.size; omega) (by rintro j hj; cases hj; exact HB.out.size)); clear hl3 hg3)
          | (refine load_ent rfl _ rfl wr.heap.size 0 e rfl (Ents.at HL3.out) ?_)
          | (go_at_call 59; refine (HCALL.out _ (HW.out.below HB3.out)).mono ?_; rintro e' w4 ⟨rfl, hB4⟩; obtain ⟨q0, _⟩ := Ents.ten (HL3.out.below hB4 HL3.out.lt); have HB4 := Lib.hid (HB3.out.trans (hB4.mono HB3.out.size)); clear hB4))
        go_ret
        exact ⟨by rw [HZ.out]; rfl, HB4.out⟩
    · have HZ : Hid (r = 0) := by show _ = _; rw [HI.out, List.drop_of_length_le (by have := HN.out; omega)]; rfl
      go_wp2
      go_ret
      exact ⟨by rw [HZ.out]; rfl, HB.out⟩

end Go.Proofs.YtfdnmmmjaipgoaaDoor
