/- Runes: Lower. -/
import Derived.Test.YtdnigdnhckmpaaaRnLoop
namespace Go.Proofs.Ytdnigdnhckmpaaa
open Go.RowKit

/-- []byte(s), to be stored into. -/
theorem made_of (l : List UInt8) (w : World) (hs : l.length ≤ 140737488355328) : ∃ (C : Nat) (cs : Array Value) (fr : Nat × Nat),
    (convert 9 37 (.string ⟨l.toArray⟩)).run Try.prog w = .ok (.slice (some ⟨w.heap.size, 0, none⟩) l.length C) (w.drew.alloc (.cells cs 5 fr)) ∧
    Made (w.drew.alloc (.cells cs 5 fr)) w.heap.size 5 l ∧ l.length ≤ C ∧ C ≤ 9223372036854775807 := by
  have h := run_bytes_of_string (P := Try.prog) w _ _ _ ⟨l.toArray⟩ Try.underlying9 Try.underlying37 Try.underlying5
  have hsz : (ByteArray.mk l.toArray).size = l.length := by simp [ByteArray.size]
  rw [hsz] at h
  have h1 : l.length ≤ grownCap w l.length 0 5 := grownCap_ge w _ _ _
  have h2 : grownCap w l.length 0 5 ≤ maxLen := grownCap_le_maxLen w _ _ _ (by unfold maxLen; omega)
  refine ⟨_, _, _, h, ⟨_, _, heap_alloc_new w.drew _, ?_, fun j c hj => ?_⟩, h1, by unfold maxLen at h2; exact h2⟩
  · simp [bytesRow]
  · have hlt : j < l.length := (List.getElem?_eq_some_iff.1 hj).1
    have hb := bytesRow_at ⟨l.toArray⟩ (grownCap w l.length 0 5) j (by simpa using hlt)
    rw [hb]
    have := (List.getElem?_eq_some_iff.1 hj).2
    simp [this]

theorem Rn.lower_skip (l : List UInt8) (s : ByteArray) (q : Nat) (c : UInt8) (hl : s.data.toList = l) (hlt : q < s.size) (hc : c = s.get! q) (hup : ¬ (65 ≤ c.toNat ∧ c.toNat ≤ 90)) :
    Rn.upper ((Utf8.decode s q).1 : Int) = false ∧ Rn.lowTo l (q + (Utf8.decode s q).2) = Rn.lowTo l q := by
  have hcb : Rn.byteAt s q = c.toNat := by rw [hc]; rfl
  have hsz : s.size = l.length := by rw [← hl]; rfl
  have hat : ∀ j d, l[j]? = some d → d = s.get! j := by
    intro j d hd
    have hj : j < l.length := (List.getElem?_eq_some_iff.1 hd).1
    have := Rn.list_at s j (by omega)
    rw [hl, hd] at this
    exact Option.some.inj this
  by_cases h128 : c.toNat < 128
  · have hdec := Rn.low_one s q (by omega)
    rw [hdec]
    refine ⟨by unfold Rn.upper Rn.within; simp; omega, Rn.lowTo_skip l q _ (by omega) fun j h1 h2 d hd => ?_⟩
    obtain rfl : j = q := by simp only at h2; omega
    rw [hat j d hd, ← hc]
    exact Rn.lowB_high c hup
  · have hh := Rn.high_high s q (by omega)
    refine ⟨by unfold Rn.upper Rn.within; simp; omega, Rn.lowTo_skip l q _ (by omega) fun j h1 h2 d hd => ?_⟩
    have hd2 : d.toNat = Rn.byteAt s j := by rw [hat j d hd]; rfl
    by_cases e : j = q
    · subst e
      exact Rn.lowB_high d (by omega)
    · have := (Rn.inner_high s q j (by omega) h2).2
      exact Rn.lowB_high d (by omega)

set_option maxRecDepth 4000 in
set_option maxHeartbeats 1600000 in
theorem lower_any (l : List UInt8) (w : World) (hs : l.length ≤ 140737488355328) :
    Calls Try.prog 20 #[.string ⟨l.toArray⟩] w (Finds w (.string ⟨(Rn.lower l).toArray⟩)) := by
  obtain ⟨C, cs, fr, hcv, hm, hC1, hC2⟩ := made_of l w hs
  obtain ⟨w1, hw1⟩ : ∃ w1, w1 = w.drew.alloc (.cells cs 5 fr) := ⟨_, rfl⟩
  rw [← hw1] at hcv hm
  have hb1 : Below w.heap.size w w1 := hw1 ▸ ((drawn w 1).alloc (Nat.le_refl _) _)
  have hlt1 := hm.lt
  obtain ⟨B, hB⟩ : ∃ B, B = w1.heap.size := ⟨_, rfl⟩
  obtain ⟨s, hs0⟩ : ∃ s, s = ByteArray.mk l.toArray := ⟨_, rfl⟩
  have hsz : s.size = l.length := by rw [hs0]; simp [ByteArray.size]
  have HSL : Hid (s.data.toList = l) := by show _ = _; rw [hs0]
  rw [← hs0] at hcv ⊢
  have h0 : It w.heap.size w (w1.iter s 0) B s 0 := hB ▸ It.new s hb1 hb1.size
  have hm0 : Made (w1.iter s 0) w.heap.size 5 l := hm.same (heap_alloc_old _ _ hlt1)
  have hgB : w.heap.size < B := by omega
  clear hs0 hw1
  go_enter Try.func20, Try.ntmps20
  go_wp2
  rw [← hB]
  clear hB hcv
  obtain ⟨g, hg⟩ : ∃ g, g = w.heap.size := ⟨_, rfl⟩
  rw [← hg] at hm0 hgB ⊢
  have hgw : w.heap.size ≤ g := by omega
  clear hg
  have HM := Lib.hid hm0
  clear hm hm0 hlt1 hb1
  go_loopw [4, 5] (fun _ _ wr => ∃ q : Nat, It w.heap.size w wr B s q ∧ q ≤ s.size ∧ Made wr g 5 (Rn.lowTo l q)) (fun _ _ wr => s.size - stands B wr)
  case atStart => exact ⟨0, h0, by omega, by rw [Rn.lowTo_zero]; exact HM.out⟩
  case round =>
    obtain ⟨q, hit, hq, hmd⟩ := hrel
    by_cases hlt : q < s.size
    · have hnx := fun ty => next_at (P := Try.prog) hit.iter hlt ty
      have hit2 := hit.set (q + (Utf8.decode s q).2)
      have hmd2 : Made (iterSet wr B s (q + (Utf8.decode s q).2)) g 5 (Rn.lowTo l q) := hmd.same (iterSet_other wr B g s _ (by omega))
      have hw1 := Rn.width_pos s q
      have hw2 := Rn.width_le s q hlt
      have hlq := Rn.list_at s q hlt
      rw [HSL.out] at hlq
      obtain ⟨c, hc⟩ : ∃ c, c = s.get! q := ⟨_, rfl⟩
      have hcb : Rn.byteAt s q = c.toNat := by rw [hc]; rfl
      rw [← hc] at hlq
      by_cases hup : 65 ≤ c.toNat ∧ c.toNat ≤ 90
      · have hdec := Rn.low_one s q (by omega)
        rw [hcb] at hdec
        have hu : Rn.upper ((c.toNat : Nat) : Int) = true := by unfold Rn.upper Rn.within; simp; omega
        have hcell := hmd2.cell q c (by rw [Rn.lowTo_at, hlq]; simp)
        have hfree := hmd2.free q (by rw [Rn.lowTo_len]; omega)
        have hst := hmd2.store q (Rn.lowB c) ((c.toNat : Int) + 32) (by rw [Rn.lowB_nat, if_pos hup]; omega)
        rw [Rn.lowTo_set l q c hlq] at hst
        have hit3 := hit2.store g q (.int .u8 ((c.toNat : Int) + 32)) hgw (by omega)
        rw [hdec] at hnx hit2 hit3 hst hcell hfree hw1 hw2
        obtain ⟨x, hx⟩ : ∃ x, x = c.toNat := ⟨_, rfl⟩
        simp only [← hx] at hnx hst hit3 hcell hu hup
        obtain ⟨hup1, hup2⟩ := hup
        have hbits : ((x : Int) + 32) % 256 = (x : Int) + 32 := by omega
        clear hx hdec hcb hc hlq hmd hmd2
        have HST := Lib.hid hst
        clear hst
        have hql : (q : Int) < (l.length : Int) := by omega
        go_wp2_with fail
        refine (upper_any _ _).mono ?_
        rintro e w2 ⟨rfl, rfl⟩
        rw [hu]
        go_wp2
        go_roundw
        case rel => exact ⟨q + 1, hit3, hw2, HST.out⟩
        case measure => rw [hit3.stands, hit.stands]; omega
      · obtain ⟨hu, hsk⟩ := Rn.lower_skip l s q c HSL.out hlt hc hup
        rw [← hsk] at hmd2
        have HMD := Lib.hid hmd2
        obtain ⟨r, hr⟩ : ∃ r, r = (Utf8.decode s q).1 := ⟨_, rfl⟩
        obtain ⟨d, hd⟩ : ∃ d, d = (Utf8.decode s q).2 := ⟨_, rfl⟩
        simp only [← hr, ← hd] at hnx hu
        rw [← hd] at hit2 hw1 hw2 HMD
        clear hr hd hsk hlq hcb hc hmd2 hmd hup
        go_wp2_with fail
        refine (upper_any _ _).mono ?_
        rintro e w2 ⟨rfl, rfl⟩
        rw [hu]
        go_wp2
        go_roundw
        case rel => exact ⟨q + d, hit2, hw2, HMD.out⟩
        case measure => rw [hit2.stands, hit.stands]; omega
    · have hnx := fun ty => next_end (P := Try.prog) hit.iter hlt ty
      rw [Rn.lowTo_all l q (by omega)] at hmd
      have hlen : (Rn.lower l).length = l.length := by simp [Rn.lower]
      have hrd := hmd.reads C (by rw [show (l.map Rn.lowB).length = l.length by simp]; exact hC1) (by unfold maxLen; exact hC2)
      rw [show (l.map Rn.lowB).length = l.length by simp] at hrd
      have hst := run_string_of (P := Try.prog) _ Try.underlying37 Try.underlying5 Try.underlying9 hrd
      clear hmd hrd hlen
      go_wp2
      go_ret
      exact ⟨rfl, hit.below⟩
end Go.Proofs.Ytdnigdnhckmpaaa
