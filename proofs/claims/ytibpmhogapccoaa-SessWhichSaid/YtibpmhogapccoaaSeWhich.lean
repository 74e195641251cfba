/- What a command is; the last one; between which places a client's session stands. -/
import Derived.Test.YtibpmhogapccoaaSeFind
namespace Go.Proofs.Ytibpmhogapccoaa
open Go.RowKit

set_option maxRecDepth 4000 in
set_option maxHeartbeats 3200000 in
theorem whichSe_any (v : Value) (l : List Se.Ses) (c q : Int) (w : World) (hv : ReadsN w v l) :
    Calls Try.prog 11 #[v, .int .i64 c, .int .i64 q] w (Looks w (.tuple #[.int .i64 (Se.which l c q).1, .agg (An.cells (Se.which l c q).2)])) := by
  obtain ⟨w1, e1, hl1, hB1, hz1⟩ := box_ans w An.zero
  dsimp only [An.cells, An.zero] at e1
  have HV1 := Lib.hid (hv.below hB1)
  have HL1 := Lib.hid hl1; have HB1 := Lib.hid hB1
  obtain ⟨r, hr⟩ : ∃ r, r = Se.which l c q := ⟨_, rfl⟩
  rw [← hr]
  obtain ⟨s, hs⟩ : ∃ s, s = Se.get l c := ⟨_, rfl⟩
  obtain ⟨t, ht⟩ : ∃ t, t = Se.has l c := ⟨_, rfl⟩
  have hfind := fun g W h1 h2 => findSe_any v l c g W h1 h2
  unfold Se.which at hr
  rw [← hs, ← ht] at hfind hr
  have HF := Lib.hid hfind
  obtain ⟨ao, cap, rfl, _, _⟩ := ReadsN.shape hv
  have HR := Lib.hid hr
  obtain ⟨n, hn⟩ : ∃ n, n = l.length := ⟨_, rfl⟩
  rw [← hn] at HF HV1 ⊢
  clear hv hl1 hB1 hz1 hr hs ht hfind hn
  go_enter Try.func11, Try.ntmps11
  go_wp2_with fail
  refine (belongsTo_any c _).mono ?_
  rintro e w2 ⟨rfl, hl2, hB2⟩
  have HL2 := Lib.hid (HL1.out.below hB2 HL1.out.lt)
  have HB2 := Lib.hid (HB1.out.trans (hB2.mono HB1.out.size))
  have hcall := HF.out _ w2 (HV1.out.below hB2) hl2
  clear hl2 hB2
  go_wp2_with fail
  refine hcall.mono ?_
  rintro e w3 ⟨rfl, hB3⟩
  have HL3 := Lib.hid (HL2.out.below hB3 HL2.out.lt)
  have HB3 := Lib.hid (HB2.out.trans (hB3.mono HB2.out.size))
  clear hcall hB3
  cases t with
  | false =>
    have HZ : Hid (r = (0, An.zero)) := by show _ = _; rw [HR.out, if_pos (.inl rfl)]
    go_wp2_with (first
        | (refine store_ses (by rfl) _ _ (by rfl) w3.heap.size Se.zero s (by rfl) (by rfl) (Lies.new _ _ _) ?_; intro w4 hl4 hg4
           have hB4 : Below w3.heap.size w3 w4 := ((Below.refl _ w3).alloc (Nat.le_refl _) _).grown hg4 (by simp) (by rintro j hj; cases hj; exact Nat.le_refl _)
           have HL4 := Lib.hid (HL3.out.below hB4 HL3.out.lt)
           have HB4 := Lib.hid (HB3.out.trans (hB4.mono HB3.out.size))
           have HS4 := Lib.hid hl4
           obtain ⟨q0, q1, q2, q3, q4, q5, q6, q7⟩ := Sess.eight hl4
           clear hl4 hg4 hB4)
        | (refine store_ans (by rfl) _ _ (by rfl) w.heap.size An.zero An.zero (by rfl) (by rfl) HL4.out ?_; intro w5 hl5 hg5))
    refine ret_int_ans rfl rfl hl5 rfl ?_
    rw [HZ.out]
    exact ⟨rfl, HB4.out.grown hg5 HB4.out.size (by rintro j hj; cases hj; exact Nat.le_refl _)⟩
  | true =>
    by_cases h1 : s.seq < q
    · have HZ : Hid (r = (0, An.zero)) := by show _ = _; rw [HR.out, if_pos (.inr h1)]
      go_wp2_with (first
          | (refine store_ses (by rfl) _ _ (by rfl) w3.heap.size Se.zero s (by rfl) (by rfl) (Lies.new _ _ _) ?_; intro w4 hl4 hg4
             have hB4 : Below w3.heap.size w3 w4 := ((Below.refl _ w3).alloc (Nat.le_refl _) _).grown hg4 (by simp) (by rintro j hj; cases hj; exact Nat.le_refl _)
             have HL4 := Lib.hid (HL3.out.below hB4 HL3.out.lt)
             have HB4 := Lib.hid (HB3.out.trans (hB4.mono HB3.out.size))
             have HS4 := Lib.hid hl4
             obtain ⟨q0, q1, q2, q3, q4, q5, q6, q7⟩ := Sess.eight hl4
             clear hl4 hg4 hB4)
          | (refine store_ans (by rfl) _ _ (by rfl) w.heap.size An.zero An.zero (by rfl) (by rfl) HL4.out ?_; intro w5 hl5 hg5))
      refine ret_int_ans rfl rfl hl5 rfl ?_
      rw [HZ.out]
      exact ⟨rfl, HB4.out.grown hg5 HB4.out.size (by rintro j hj; cases hj; exact Nat.le_refl _)⟩
    · by_cases h2 : q = s.seq
      · have HZ : Hid (r = (1, s.last)) := by show _ = _; rw [HR.out, if_neg (by simp [h1]), if_pos h2]
        have h3 : (q == s.seq) = true := by simpa using h2
        clear h2
        go_wp2_with (first
          | (refine store_ses (by rfl) _ _ (by rfl) w3.heap.size Se.zero s (by rfl) (by rfl) (Lies.new _ _ _) ?_; intro w4 hl4 hg4
             have hB4 : Below w3.heap.size w3 w4 := ((Below.refl _ w3).alloc (Nat.le_refl _) _).grown hg4 (by simp) (by rintro j hj; cases hj; exact Nat.le_refl _)
             have HL4 := Lib.hid (HL3.out.below hB4 HL3.out.lt)
             have HB4 := Lib.hid (HB3.out.trans (hB4.mono HB3.out.size))
             have HS4 := Lib.hid hl4
             obtain ⟨q0, q1, q2, q3, q4, q5, q6, q7⟩ := Sess.eight hl4
             clear hl4 hg4 hB4))
        have f5 := HL4.out.free
        obtain ⟨p0, p1, p2, p3, p4, p5⟩ := Anss.every HL4.out
        obtain ⟨w5, e5, hl5, hg5⟩ := set_ans s.last HL4.out
        go_region
        go_wp2
        refine ret_int_ans rfl rfl (show Anss w5.drew _ _ from hl5) rfl ?_
        rw [HZ.out]
        exact ⟨rfl, (HB4.out.grown hg5 HB4.out.size (by rintro j hj; cases hj; exact Nat.le_refl _)).drew⟩
      · have HZ : Hid (r = (2, An.zero)) := by show _ = _; rw [HR.out, if_neg (by simp [h1]), if_neg h2]
        have h3 : (q == s.seq) = false := by simpa using h2
        clear h2
        go_wp2_with (first
            | (refine store_ses (by rfl) _ _ (by rfl) w3.heap.size Se.zero s (by rfl) (by rfl) (Lies.new _ _ _) ?_; intro w4 hl4 hg4
               have hB4 : Below w3.heap.size w3 w4 := ((Below.refl _ w3).alloc (Nat.le_refl _) _).grown hg4 (by simp) (by rintro j hj; cases hj; exact Nat.le_refl _)
               have HL4 := Lib.hid (HL3.out.below hB4 HL3.out.lt)
               have HB4 := Lib.hid (HB3.out.trans (hB4.mono HB3.out.size))
               have HS4 := Lib.hid hl4
               obtain ⟨q0, q1, q2, q3, q4, q5, q6, q7⟩ := Sess.eight hl4
               clear hl4 hg4 hB4)
            | (refine store_ans (by rfl) _ _ (by rfl) w.heap.size An.zero An.zero (by rfl) (by rfl) HL4.out ?_; intro w5 hl5 hg5))
        refine ret_int_ans rfl rfl hl5 rfl ?_
        rw [HZ.out]
        exact ⟨rfl, HB4.out.grown hg5 HB4.out.size (by rintro j hj; cases hj; exact Nat.le_refl _)⟩

set_option maxRecDepth 4000 in
theorem lastSe_any (v : Value) (l : List Se.Ses) (c : Int) (w : World) (hv : ReadsN w v l) :
    Calls Try.prog 14 #[v, .int .i64 c] w (Looks w (.int .i64 (Se.get l c).seq)) := by
  have HV := Lib.hid hv
  obtain ⟨s, hs⟩ : ∃ s, s = Se.get l c := ⟨_, rfl⟩
  have hfind := fun g W h1 h2 => findSe_any v l c g W h1 h2
  rw [← hs] at hfind ⊢
  have HF := Lib.hid hfind
  obtain ⟨ao, cap, rfl, _, _⟩ := ReadsN.shape hv
  obtain ⟨n, hn⟩ : ∃ n, n = l.length := ⟨_, rfl⟩
  rw [← hn] at HF HV ⊢
  clear hv hs hfind hn
  go_enter Try.func14, Try.ntmps14
  go_wp2_with fail
  refine (belongsTo_any c _).mono ?_
  rintro e w2 ⟨rfl, hl2, hB2⟩
  have HB2 := Lib.hid hB2
  have hcall := HF.out _ w2 (HV.out.below hB2) hl2
  clear hl2 hB2
  go_wp2_with fail
  refine hcall.mono ?_
  rintro e w3 ⟨rfl, hB3⟩
  have HB3 := Lib.hid (HB2.out.trans (hB3.mono HB2.out.size))
  clear hcall hB3
  go_wp2_with (first
    | (refine store_ses (by rfl) _ _ (by rfl) w3.heap.size Se.zero s (by rfl) (by rfl) (Lies.new _ _ _) ?_; intro w4 hl4 hg4
       have hB4 : Below w3.heap.size w3 w4 := ((Below.refl _ w3).alloc (Nat.le_refl _) _).grown hg4 (by simp) (by rintro j hj; cases hj; exact Nat.le_refl _)
       have HB4 := Lib.hid (HB3.out.trans (hB4.mono HB3.out.size))
       obtain ⟨q0, q1, q2, q3, q4, q5, q6, q7⟩ := Sess.eight hl4
       clear hl4 hg4 hB4))
  go_ret
  exact ⟨rfl, HB4.out⟩

set_option maxRecDepth 4000 in
set_option maxHeartbeats 1600000 in
theorem placeSe_any (v : Value) (l : List Se.Ses) (c : Int) (w : World) (hv : ReadsN w v l) (hn : l.length ≤ 1048576) :
    Calls Try.prog 22 #[v, .int .i64 c] w (Looks w (.tuple #[.int .i64 (Se.fro l c : Nat), .int .i64 (Se.upto l c : Nat)])) := by
  have HV := Lib.hid hv
  have HF := Lib.hid (fun g W h1 h2 => indexBel_any v l c g W h1 h2)
  have HG := Lib.hid (fun g W h1 h2 => indexBey_any v l c g W h1 h2)
  obtain ⟨ao, cap, rfl, hc1, hc2⟩ := ReadsN.shape hv
  obtain ⟨B, hB⟩ : ∃ B, B = Se.fro l c := ⟨_, rfl⟩
  obtain ⟨U, hU⟩ : ∃ U, U = Se.upto l c := ⟨_, rfl⟩
  rw [← hB, ← hU]
  unfold Se.fro at hB
  unfold Se.upto at hU
  by_cases h1 : l.findIdx (Se.is c) < l.length
  · rw [if_pos h1] at hB hU
    rw [Se.ix_yes h1, ← hB] at HF
    have hU1 : (B : Int) + 1 = (U : Int) := by omega
    have hB9 : B ≤ 1048576 := by omega
    obtain ⟨n, hnn⟩ : ∃ n, n = l.length := ⟨_, rfl⟩
    rw [← hnn] at HF HV ⊢
    clear hv hn hc1 hB hU h1 hnn HG
    go_enter Try.func22, Try.ntmps22
    go_wp2_with fail
    refine (belongsTo_any c _).mono ?_
    rintro e w2 ⟨rfl, hl2, hB2⟩
    have HB2 := Lib.hid hB2
    have hcall := HF.out _ w2 (HV.out.below hB2) hl2
    clear hl2 hB2
    go_wp2_with fail
    refine hcall.mono ?_
    rintro e w3 ⟨rfl, hB3⟩
    have HB3 := Lib.hid (HB2.out.trans (hB3.mono HB2.out.size))
    clear hcall hB3
    go_wp2
    go_ret2
    exact ⟨rfl, HB3.out⟩
  · rw [if_neg h1] at hB hU
    rw [Se.ix_no h1] at HF
    obtain rfl : U = B := by omega
    have hble := Se.idx_le (Se.past c) l
    rw [← hB] at hble
    by_cases h2 : U < l.length
    · rw [Se.ix_yes (by rw [← hB]; exact h2), ← hB] at HG
      obtain ⟨n, hnn⟩ : ∃ n, n = l.length := ⟨_, rfl⟩
      rw [← hnn] at HF HG HV hn h2 ⊢
      clear hv hc1 hB hU h1 hble hnn
      go_enter Try.func22, Try.ntmps22
      go_wp2_with fail
      refine (belongsTo_any c _).mono ?_
      rintro e w2 ⟨rfl, hl2, hB2⟩
      have HB2 := Lib.hid hB2
      have hcall := HF.out _ w2 (HV.out.below hB2) hl2
      clear hl2 hB2
      go_wp2_with fail
      refine hcall.mono ?_
      rintro e w3 ⟨rfl, hB3⟩
      have HB3 := Lib.hid (HB2.out.trans (hB3.mono HB2.out.size))
      clear hcall hB3
      go_wp2_with fail
      refine (beyond_any c _).mono ?_
      rintro e w4 ⟨rfl, hl4, hB4⟩
      have HB4 := Lib.hid (HB3.out.trans (hB4.mono HB3.out.size))
      have hcall := HG.out _ w4 (HV.out.below HB4.out) hl4
      clear hl4 hB4
      go_wp2_with fail
      refine hcall.mono ?_
      rintro e w5 ⟨rfl, hB5⟩
      have HB5 := Lib.hid (HB4.out.trans (hB5.mono HB4.out.size))
      clear hcall hB5
      go_wp2
      go_ret2
      exact ⟨rfl, HB5.out⟩
    · rw [Se.ix_no (by rw [← hB]; exact h2)] at HG
      have hUn : U = l.length := by omega
      obtain ⟨n, hnn⟩ : ∃ n, n = l.length := ⟨_, rfl⟩
      rw [← hnn] at HF HG HV hn hUn ⊢
      clear hv hc1 hB hU h1 h2 hble hnn
      subst hUn
      go_enter Try.func22, Try.ntmps22
      go_wp2_with fail
      refine (belongsTo_any c _).mono ?_
      rintro e w2 ⟨rfl, hl2, hB2⟩
      have HB2 := Lib.hid hB2
      have hcall := HF.out _ w2 (HV.out.below hB2) hl2
      clear hl2 hB2
      go_wp2_with fail
      refine hcall.mono ?_
      rintro e w3 ⟨rfl, hB3⟩
      have HB3 := Lib.hid (HB2.out.trans (hB3.mono HB2.out.size))
      clear hcall hB3
      go_wp2_with fail
      refine (beyond_any c _).mono ?_
      rintro e w4 ⟨rfl, hl4, hB4⟩
      have HB4 := Lib.hid (HB3.out.trans (hB4.mono HB3.out.size))
      have hcall := HG.out _ w4 (HV.out.below HB4.out) hl4
      clear hl4 hB4
      go_wp2_with fail
      refine hcall.mono ?_
      rintro e w5 ⟨rfl, hB5⟩
      have HB5 := Lib.hid (HB4.out.trans (hB5.mono HB4.out.size))
      clear hcall hB5
      go_wp2
      go_ret2
      exact ⟨rfl, HB5.out⟩

end Go.Proofs.Ytibpmhogapccoaa
