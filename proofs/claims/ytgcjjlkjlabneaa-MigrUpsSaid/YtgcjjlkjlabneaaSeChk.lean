/- Which sessions may be: the program's Check. -/
import Derived.Test.YtgcjjlkjlabneaaSeMem
import Derived.Test.YtgcjjlkjlabneaaAnsChk
namespace Go.Proofs.Ytgcjjlkjlabneaa
open Go.RowKit

set_option maxRecDepth 4000 in
set_option maxHeartbeats 1600000 in
theorem isValid_any (s : Se.Ses) (w : World) (hs : s.last.val.length ≤ 140737488355328) : Calls Try.prog 44 #[.agg (Se.cells s)] w (Looks w (.bool (Se.valid s))) := by
  obtain ⟨w1, e1, hl1, hB1, hz1⟩ := box_ses w s
  obtain ⟨p0, p1, p2, p3, p4, p5, p6, p7⟩ := Sess.eight hl1
  have HB1 := Lib.hid hB1
  have hchk := acheck_any s.last w1 hs
  obtain ⟨r, hr⟩ : ∃ r, r = Se.valid s := ⟨_, rfl⟩
  rw [← hr]
  unfold Se.valid at hr
  obtain ⟨t1, h1⟩ : ∃ t, (s.last.client == s.client) = t := ⟨_, rfl⟩
  obtain ⟨t2, h2⟩ : ∃ t, (s.last.seq == s.seq) = t := ⟨_, rfl⟩
  obtain ⟨y, hy⟩ : ∃ y, y = An.check s.last := ⟨_, rfl⟩
  rw [← hy] at hchk hr
  rw [h1, h2] at hr
  have HR := Lib.hid hr
  clear hl1 hB1 hz1 hs hr hy
  cases t1 with
  | false =>
    have HZ : Hid (r = false) := by show _ = _; rw [HR.out]; rfl
    go_enter Try.func44, Try.ntmps44
    go_wp2
    go_ret
    exact ⟨by rw [HZ.out]; rfl, HB1.out⟩
  | true =>
    cases t2 with
    | false =>
      have HZ : Hid (r = false) := by show _ = _; rw [HR.out]; rfl
      go_enter Try.func44, Try.ntmps44
      go_wp2
      go_ret
      exact ⟨by rw [HZ.out]; rfl, HB1.out⟩
    | true =>
      have HZ : Hid (r = (y == 0)) := by show _ = _; rw [HR.out]; rfl
      go_enter Try.func44, Try.ntmps44
      go_wp2_with (go_at_call 49; refine hchk.mono ?_; rintro e w2 ⟨rfl, hB2⟩)
      go_ret
      exact ⟨by rw [HZ.out]; rfl, HB1.out.trans (hB2.mono HB1.out.size)⟩

set_option maxRecDepth 4000 in
set_option maxHeartbeats 3200000 in
theorem checkSe_any (v : Value) (l : List Se.Ses) (w : World) (hv : ReadsN w v l) (hs : ∀ s ∈ l, s.last.val.length ≤ 140737488355328) :
    Calls Try.prog 37 #[v] w (Looks w (.int .i64 (if Se.check 0 l = true then 0 else 3))) := by
  obtain ⟨ao, cap, rfl, hc1, hc2⟩ := ReadsN.shape hv
  have HP := Lib.hid (fun h => ReadsN.places hv h)
  have HS := Lib.hid hs
  obtain ⟨n, hnn⟩ : ∃ n, n = l.length := ⟨_, rfl⟩
  rw [← hnn] at hc1 ⊢
  have HN := Lib.hid hnn
  obtain ⟨r, hr⟩ : ∃ r, r = Se.check 0 l := ⟨_, rfl⟩
  rw [← hr]
  have HR := Lib.hid hr
  have hnb : n < 9223372036854775808 := by omega
  obtain ⟨y, hy⟩ : ∃ y : Int, y = if r = true then 0 else 3 := ⟨_, rfl⟩
  rw [← hy]
  have HY := Lib.hid hy
  clear hv hnn hr hs hy
  go_enter Try.func37, Try.ntmps37
  go_wp2
  go_loopw [3, 8] (fun b' i wr => ∃ (k : Nat) (b : Int), b' = .int .i64 b ∧ i = .int .i64 (k : Int) ∧ k ≤ n ∧ Hid (r = Se.check b (l.drop k)) ∧ Below w.heap.size w wr) (fun _ i _ => n - (intOf i).toNat)
  case atStart => exact ⟨0, 0, rfl, rfl, by omega, HR.out, Below.refl _ _⟩
  case round =>
    obtain ⟨k, b, rfl, rfl, hk, HI, hB⟩ := hrel
    have HB := Lib.hid hB
    clear hB
    by_cases hlt : k < n
    · obtain ⟨s, hse⟩ : ∃ s, l[k]? = some s := ⟨_, List.getElem?_eq_getElem (by have := HN.out; omega)⟩
      obtain ⟨g, off, rfl, hgl, hcell⟩ := HP.out (by have := HN.out; omega)
      have HC := Lib.hid (hcell wr HB.out k s hse)
      have HV := Lib.hid (fun W => isValid_any s W (HS.out s (List.mem_of_getElem? hse)))
      obtain ⟨t, ht⟩ : ∃ t, t = Se.valid s := ⟨_, rfl⟩
      rw [← ht] at HV
      have HST := Lib.hid (HI.out.trans (Se.check_step hse b))
      rw [← ht] at HST
      clear hcell hse ht
      by_cases h1 : s.client ≤ b
      · have HZ : Hid (y = 3) := by show _ = _; rw [HY.out, HST.out, if_pos h1]; rfl
        have d1 : decide (s.client ≤ b) = true := decide_eq_true h1
        clear h1
        go_wp2_with (first
          | (refine load_ses rfl _ rfl g (off + k * 8) s rfl HC.out ?_)
          | (refine store_ses (by rfl) _ _ (by rfl) wr.heap.size Se.zero s (by rfl) (by rfl) (Lies.new _ _ _) ?_; intro w4 hl4 hg4
             have hB4 : Below wr.heap.size wr w4 := ((Below.refl _ wr).alloc (Nat.le_refl _) _).grown hg4 (by simp) (by rintro j hj; cases hj; exact Nat.le_refl _)
             have HB4 := Lib.hid (HB.out.trans (hB4.mono HB.out.size))
             obtain ⟨q0, q1, q2, q3, q4, q5, q6, q7⟩ := Sess.eight hl4
             clear hl4 hg4 hB4))
        go_ret
        exact ⟨by rw [HZ.out]; rfl, HB4.out⟩
      · have d1 : decide (s.client ≤ b) = false := decide_eq_false h1
        cases t with
        | false =>
          have HZ : Hid (y = 3) := by show _ = _; rw [HY.out, HST.out, if_neg h1, if_pos rfl]; rfl
          clear h1
          go_wp2_with (first
            | (refine load_ses rfl _ rfl g (off + k * 8) s rfl HC.out ?_)
            | (refine store_ses (by rfl) _ _ (by rfl) wr.heap.size Se.zero s (by rfl) (by rfl) (Lies.new _ _ _) ?_; intro w4 hl4 hg4
               have hB4 : Below wr.heap.size wr w4 := ((Below.refl _ wr).alloc (Nat.le_refl _) _).grown hg4 (by simp) (by rintro j hj; cases hj; exact Nat.le_refl _)
               have HB4 := Lib.hid (HB.out.trans (hB4.mono HB.out.size))
               obtain ⟨q0, q1, q2, q3, q4, q5, q6, q7⟩ := Sess.eight hl4
               clear hl4 hg4 hB4)
            | (go_at_call 44; refine (HV.out _).mono ?_; rintro e w5 ⟨rfl, hB5⟩))
          go_ret
          exact ⟨by rw [HZ.out]; rfl, HB4.out.trans (hB5.mono HB4.out.size)⟩
        | true =>
          have HZ : Hid (r = Se.check s.client (l.drop (k + 1))) := by show _ = _; rw [HST.out, if_neg h1, if_neg (by simp)]
          clear h1
          go_wp2_with (first
            | (refine load_ses rfl _ rfl g (off + k * 8) s rfl HC.out ?_)
            | (refine store_ses (by rfl) _ _ (by rfl) wr.heap.size Se.zero s (by rfl) (by rfl) (Lies.new _ _ _) ?_; intro w4 hl4 hg4
               have hB4 : Below wr.heap.size wr w4 := ((Below.refl _ wr).alloc (Nat.le_refl _) _).grown hg4 (by simp) (by rintro j hj; cases hj; exact Nat.le_refl _)
               have HB4 := Lib.hid (HB.out.trans (hB4.mono HB.out.size))
               have HL4 := Lib.hid hl4
               obtain ⟨q0, q1, q2, q3, q4, q5, q6, q7⟩ := Sess.eight hl4
               clear hl4 hg4 hB4)
            | (go_at_call 44; refine (HV.out _).mono ?_; rintro e w5 ⟨rfl, hB5⟩; have x0 := (HL4.out.below hB5 HL4.out.lt).cell 0 _ rfl))
          go_roundw
          case rel => exact ⟨k + 1, s.client, rfl, by go_num, by omega, HZ.out, HB4.out.trans (hB5.mono HB4.out.size)⟩
          case measure => simp [intOf]; omega
    · have HZ : Hid (y = 0) := by show _ = _; rw [HY.out, HI.out, List.drop_of_length_le (by have := HN.out; omega)]; rfl
      go_wp2
      go_ret
      exact ⟨by rw [HZ.out]; rfl, HB.out⟩

end Go.Proofs.Ytgcjjlkjlabneaa
