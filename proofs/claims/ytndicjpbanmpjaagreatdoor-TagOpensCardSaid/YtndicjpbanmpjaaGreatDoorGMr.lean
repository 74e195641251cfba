/- Several texts of mine in one: MsRef MsRefC. -/
import Derived.Test.YtndicjpbanmpjaaGreatDoorGMa
import Derived.Test.YtndicjpbanmpjaaGreatDoorGEr
import Derived.Test.YtndicjpbanmpjaaGreatDoorGMb
namespace Go.Proofs.YtndicjpbanmpjaaGreatDoor
open Go.RowKit

namespace Ms
def letTab : List (List UInt8) := [[], [118], [118], [98, 105], [98, 105, 99, 101], [98, 101], [98, 105], [98], [98, 99], [105], [99, 101], [109]]
def letters (k : Int) : List UInt8 := if 1 ≤ k ∧ k ≤ 11 then letTab.getD k.toNat [] else []
theorem letters_no {k : Int} (h : k < 1 ∨ 11 < k) : letters k = [] := by unfold letters; rw [if_neg (by omega)]
theorem letters_has (k : Int) : (letters k).contains 98 = hb k ∧ (letters k).contains 105 = hi k ∧ (letters k).contains 99 = hc k ∧ (letters k).contains 118 = hv k ∧ (letters k).contains 101 = he k ∧ (letters k).contains 109 = hm k := by
  rcases kinds k with rfl | rfl | rfl | rfl | rfl | rfl | rfl | rfl | rfl | rfl | rfl | h
  rotate_right
  · obtain ⟨h1, h2, h3, h4, h5, h6, _⟩ := has_no h
    rw [letters_no h, h1, h2, h3, h4, h5, h6]
    decide +kernel
  all_goals decide +kernel
theorem letters_len (k : Int) : (letters k).length ≤ 4 := by
  rcases kinds k with rfl | rfl | rfl | rfl | rfl | rfl | rfl | rfl | rfl | rfl | rfl | h
  rotate_right
  · rw [letters_no h]; simp
  all_goals decide +kernel
theorem has_yes {l : List UInt8} {q : Nat} {c : UInt8} (h : l[q]? = some c) : l.contains c = true := by
  rw [List.contains_iff_mem]
  exact List.mem_of_getElem? h
theorem has_step {l : List UInt8} {q : Nat} {c d : UInt8} (h : l[q]? = some d) (hd : d ≠ c) (hi : (l.take q).contains c = false) : (l.take (q + 1)).contains c = false := by
  rw [List.take_add_one, h]
  have h1 : ¬ c ∈ l.take q := fun hm => by rw [List.contains_iff_mem.2 hm] at hi; cases hi
  have h2 : ¬ c ∈ l.take q ++ (some d).toList := by
    intro hm
    rcases List.mem_append.1 hm with hm | hm
    · exact h1 hm
    · simp at hm; exact hd hm.symm
  cases hcs : (l.take q ++ (some d).toList).contains c with
  | false => rfl
  | true => exact absurd (List.contains_iff_mem.1 hcs) h2
/-- Whose ballot it is. -/
theorem owned_round (b : Bl.Bal) : owned b = (Bl.may b && decide (0 < b.round)) := by
  unfold owned
  cases h : Bl.may b with
  | false => rfl
  | true =>
    rw [Bool.true_and, Bool.true_and]
    refine decide_eq_decide.2 ?_
    unfold Bl.may Bl.within at h
    constructor
    · intro hne
      rcases Bool.or_eq_true_iff.1 h with h1 | h1
      · exact absurd (of_decide_eq_true h1) hne
      · simp only [Bool.and_eq_true, decide_eq_true_eq] at h1; omega
    · intro h0 he
      rw [he] at h0
      simp [Bl.zero] at h0
def large (m : Msg) : Bool := En.large m.ents || ((decide (300 < m.img.length) && decide (m.img.length < 32760)) || decide (32780 < m.img.length))
theorem mk_at (s : ByteArray) (l : List UInt8) (hs : s.data.toList = l) {q : Nat} {c : UInt8} (h : l[q]? = some c) : ∀ h', (s[q]'h').toNat = c.toNat := by
  intro h'
  have h1 := Rn.list_at s q h'
  rw [hs, h] at h1
  rw [Rn.byteAt_get s q h']
  unfold Rn.byteAt
  rw [← Option.some.inj h1]
end Ms

set_option maxRecDepth 4000 in
set_option maxHeartbeats 1600000 in
theorem refLetters_any (k : Int) (w : World) : Calls Tryz.prog 37 #[.int .i64 k] w (Looks w (.string ⟨(Ms.letters k).toArray⟩)) := by
  obtain ⟨w1, e1, hl1, hB1⟩ : ∃ w1, w.alloc (.cells #[.string ⟨#[]⟩, .string ⟨#[118]⟩, .string ⟨#[118]⟩, .string ⟨#[98, 105]⟩, .string ⟨#[98, 105, 99, 101]⟩, .string ⟨#[98, 101]⟩, .string ⟨#[98, 105]⟩, .string ⟨#[98]⟩, .string ⟨#[98, 99]⟩, .string ⟨#[105]⟩, .string ⟨#[99, 101]⟩, .string ⟨#[109]⟩] 9) = w1 ∧ Lies w1 w.heap.size 9 #[.string ⟨#[]⟩, .string ⟨#[118]⟩, .string ⟨#[118]⟩, .string ⟨#[98, 105]⟩, .string ⟨#[98, 105, 99, 101]⟩, .string ⟨#[98, 101]⟩, .string ⟨#[98, 105]⟩, .string ⟨#[98]⟩, .string ⟨#[98, 99]⟩, .string ⟨#[105]⟩, .string ⟨#[99, 101]⟩, .string ⟨#[109]⟩] ∧ Below w.heap.size w w1 :=
    ⟨_, rfl, Lies.new _ _ _, (Below.refl _ w).alloc (Nat.le_refl _) _⟩
  have HB := Lib.hid hB1
  by_cases h1 : k < 1
  · have e : Hid (Ms.letters k = []) := Ms.letters_no (by omega)
    have d1 : decide (k < 1) = true := decide_eq_true h1
    clear hl1 hB1
    go_enter Tryz.func37, Tryz.ntmps37
    go_wp2
    go_ret
    exact ⟨by rw [e.out]; rfl, HB.out⟩
  · have d1 : decide (k < 1) = false := decide_eq_false h1
    by_cases h2 : 11 < k
    · have e : Hid (Ms.letters k = []) := Ms.letters_no (by omega)
      have d2 : decide (11 < k) = true := decide_eq_true h2
      clear hl1 hB1
      go_enter Tryz.func37, Tryz.ntmps37
      go_wp2
      go_ret
      exact ⟨by rw [e.out]; rfl, HB.out⟩
    · have d2 : decide (11 < k) = false := decide_eq_false h2
      obtain ⟨n, rfl⟩ := Int.eq_ofNat_of_zero_le (show 0 ≤ k by omega)
      have hn : n < 12 := by omega
      have hc : w1.cell? ⟨w.heap.size, n, none⟩ = some (.string ⟨(Ms.letters (n : Int)).toArray⟩) := by
        have hne : n = 1 ∨ n = 2 ∨ n = 3 ∨ n = 4 ∨ n = 5 ∨ n = 6 ∨ n = 7 ∨ n = 8 ∨ n = 9 ∨ n = 10 ∨ n = 11 := by omega
        rcases hne with rfl | rfl | rfl | rfl | rfl | rfl | rfl | rfl | rfl | rfl | rfl <;> exact hl1.cell _ _ rfl
      obtain ⟨S, hS⟩ : ∃ S, S = ByteArray.mk (Ms.letters (n : Int)).toArray := ⟨_, rfl⟩
      rw [← hS] at hc ⊢
      clear hS hl1 hB1
      go_enter Tryz.func37, Tryz.ntmps37
      go_wp2
      go_ret
      exact ⟨rfl, HB.out⟩

set_option maxRecDepth 4000 in
set_option maxHeartbeats 1600000 in
theorem refHasM_any (k x : Int) (c : UInt8) (hx : x = (c.toNat : Int)) (w : World) : Calls Tryz.prog 38 #[.int .i64 k, .int .u8 x] w (Looks w (.bool ((Ms.letters k).contains c))) := by
  obtain ⟨r, hr⟩ : ∃ r, r = (Ms.letters k).contains c := ⟨_, rfl⟩
  rw [← hr]
  have HLE := Lib.hid (Ms.letters_len k)
  have hcall := refLetters_any k w
  obtain ⟨l, hl⟩ : ∃ l, l = Ms.letters k := ⟨_, rfl⟩
  rw [← hl] at hr hcall HLE
  have HR := Lib.hid hr
  obtain ⟨s, hs0⟩ : ∃ s, s = ByteArray.mk l.toArray := ⟨_, rfl⟩
  have hsz : s.size = l.length := by rw [hs0]; simp [ByteArray.size]
  have HSL : Hid (s.data.toList = l) := by show _ = _; rw [hs0]
  rw [← hs0] at hcall
  obtain ⟨b, hb⟩ : ∃ b, b = c.toNat := ⟨_, rfl⟩
  rw [← hb] at hx
  have HBC := Lib.hid hb
  have hb255 : b < 256 := by rw [hb]; exact c.toNat_lt
  subst hx
  have HCALL := Lib.hid hcall
  clear hs0 hr hl hb hcall
  go_enter Tryz.func38, Tryz.ntmps38
  go_wp2_with fail
  refine HCALL.out.mono ?_
  rintro e1 w1 ⟨rfl, hB1⟩
  have HB1 := Lib.hid hB1
  have hl4 := HLE.out
  clear hB1
  go_wp2
  go_loopw [6] (fun i wr => ∃ q : Nat, i = .int .i64 (q : Int) ∧ q ≤ l.length ∧ Hid ((l.take q).contains c = false) ∧ Below w.heap.size w wr) (fun i _ => l.length - (intOf i).toNat)
  case atStart => exact ⟨0, rfl, by omega, by show _ = _; simp, HB1.out⟩
  case round =>
    obtain ⟨q, rfl, hq, HI, hB⟩ := hrel
    have HB := Lib.hid hB
    clear hB
    by_cases hlt : q < l.length
    · have hlt' : q < s.size := by omega
      obtain ⟨d, hd⟩ : ∃ d, l[q]? = some d := ⟨_, List.getElem?_eq_getElem hlt⟩
      have hat := Ms.mk_at s l HSL.out hd
      have HD := Lib.hid hd
      obtain ⟨a, ha⟩ : ∃ a, a = d.toNat := ⟨_, rfl⟩
      have ha255 : a < 256 := by rw [ha]; exact d.toNat_lt
      rw [← ha] at hat
      have HA := Lib.hid ha
      clear hd ha
      by_cases hab : a = b
      · have HZ : Hid (r = true) := by
          show _ = _
          have hdc : d = c := UInt8.toNat_inj.1 (by rw [← HA.out, hab, HBC.out])
          rw [HR.out]
          exact Ms.has_yes (by rw [← hdc]; exact HD.out)
        have dab : ((a : Int) == (b : Int)) = true := by simp [hab]
        clear hab
        go_wp2
        go_ret
        exact ⟨by rw [HZ.out]; rfl, HB.out⟩
      · have HZ : Hid ((l.take (q + 1)).contains c = false) := Ms.has_step HD.out (fun h => hab (by rw [HA.out, h, HBC.out])) HI.out
        have dab : ((a : Int) == (b : Int)) = false := by simp; omega
        clear hab
        go_wp2
        go_roundw
        case rel => exact ⟨q + 1, by go_num, by omega, HZ, HB.out⟩
        case measure => simp [intOf]; omega
    · have HZ : Hid (r = false) := by
        show _ = _
        rw [HR.out]
        have h := HI.out
        rwa [List.take_of_length_le (by omega)] at h
      go_wp2
      go_ret
      exact ⟨by rw [HZ.out]; rfl, HB.out⟩
/-! Its six letters. -/
theorem refHas_b (k : Int) (w : World) : Calls Tryz.prog 38 #[.int .i64 k, .int .u8 98] w (Looks w (.bool (Ms.hb k))) := by rw [← (Ms.letters_has k).1]; exact refHasM_any k 98 98 rfl w
theorem refHas_i (k : Int) (w : World) : Calls Tryz.prog 38 #[.int .i64 k, .int .u8 105] w (Looks w (.bool (Ms.hi k))) := by rw [← (Ms.letters_has k).2.1]; exact refHasM_any k 105 105 rfl w
theorem refHas_c (k : Int) (w : World) : Calls Tryz.prog 38 #[.int .i64 k, .int .u8 99] w (Looks w (.bool (Ms.hc k))) := by rw [← (Ms.letters_has k).2.2.1]; exact refHasM_any k 99 99 rfl w
theorem refHas_v (k : Int) (w : World) : Calls Tryz.prog 38 #[.int .i64 k, .int .u8 118] w (Looks w (.bool (Ms.hv k))) := by rw [← (Ms.letters_has k).2.2.2.1]; exact refHasM_any k 118 118 rfl w
theorem refHas_e (k : Int) (w : World) : Calls Tryz.prog 38 #[.int .i64 k, .int .u8 101] w (Looks w (.bool (Ms.he k))) := by rw [← (Ms.letters_has k).2.2.2.2.1]; exact refHasM_any k 101 101 rfl w
theorem refHas_m (k : Int) (w : World) : Calls Tryz.prog 38 #[.int .i64 k, .int .u8 109] w (Looks w (.bool (Ms.hm k))) := by rw [← (Ms.letters_has k).2.2.2.2.2]; exact refHasM_any k 109 109 rfl w

set_option maxRecDepth 4000 in
set_option maxHeartbeats 800000 in
theorem refOwned_ms (b : Bl.Bal) (w : World) : Calls Tryz.prog 39 #[.agg (Bl.cells b)] w (Looks w (.bool (Ms.owned b))) := by
  obtain ⟨w1, e1, hl1, hB1, hz1⟩ := box_bal w b
  obtain ⟨p0, p1⟩ := Bals.both hl1
  have HL1 := Lib.hid hl1; have HB1 := Lib.hid hB1
  rw [Ms.owned_round b]
  have hmay := brefMay_any b w1
  obtain ⟨t, ht⟩ : ∃ t, t = Bl.may b := ⟨_, rfl⟩
  rw [← ht] at hmay ⊢
  obtain ⟨r, hr⟩ : ∃ r, r = (t && decide (0 < b.round)) := ⟨_, rfl⟩
  rw [← hr]
  clear hl1 hB1 hz1 ht
  cases t with
  | false =>
    have HR : Hid (r = false) := hr
    clear hr
    go_enter Tryz.func39, Tryz.ntmps39
    go_wp2_with fail
    refine hmay.mono ?_
    rintro e w2 ⟨rfl, hB2⟩
    go_wp2
    go_ret
    exact ⟨by rw [HR.out]; rfl, HB1.out.trans (hB2.mono HB1.out.size)⟩
  | true =>
    have HR : Hid (r = decide (0 < b.round)) := hr
    clear hr
    go_enter Tryz.func39, Tryz.ntmps39
    go_wp2_with fail
    refine hmay.mono ?_
    rintro e w2 ⟨rfl, hB2⟩
    obtain ⟨q0, q1⟩ := Bals.both (HL1.out.below hB2 HL1.out.lt)
    have HB2 := Lib.hid (HB1.out.trans (hB2.mono HB1.out.size))
    clear hB2 p0 p1
    go_wp2
    go_ret
    exact ⟨by rw [HR.out]; rfl, HB2.out⟩

set_option maxRecDepth 4000 in
set_option maxHeartbeats 1600000 in
theorem largeM_any (m : Ms.Msg) (ve vi : Value) (w : World) (he : ReadsE w ve m.ents) (hi : Reads w vi m.img) (hs : ∀ e ∈ m.ents, e.cmd.Short 9223372036854775807) :
    Calls Tryz.prog 6 #[.agg (Ms.cells m ve vi)] w (Looks w (.bool (Ms.large m))) := by
  obtain ⟨w1, e1, hl1, hB1, hz1⟩ := box_msg w m ve vi
  have HCE := Lib.hid (largeE_any ve m.ents w1 (he.below hB1) hs)
  obtain ⟨io, ic, rfl⟩ := hi.shape
  have hlen := hi.len
  obtain ⟨k, hk⟩ : ∃ k, k = m.img.length := ⟨_, rfl⟩
  obtain ⟨r, hr⟩ : ∃ r, r = Ms.large m := ⟨_, rfl⟩
  rw [← hr]
  unfold Ms.large at hr
  obtain ⟨x, hx⟩ : ∃ x, x = En.large m.ents := ⟨_, rfl⟩
  rw [← hx, ← hk] at hr
  rw [← hx] at HCE
  rw [← hk] at hl1 e1 hlen ⊢
  obtain ⟨p0, p1, p2, p3, p4, p5, p6, p7, p8, p9⟩ := Msgs.ten hl1
  have HM1 := Lib.hid hl1; have HB1 := Lib.hid hB1; have HR := Lib.hid hr
  have hkb : k ≤ 9223372036854775807 := by omega
  clear hl1 hB1 hz1 he hi hs hk hr hx hlen
  go_enter Tryz.func6, Tryz.ntmps6
  go_wp2_with fail
  refine HCE.out.mono ?_
  rintro e2 w2 ⟨rfl, hB2⟩
  have c9 := Msgs.c9 (HM1.out.below hB2 HM1.out.lt)
  have HB2 := Lib.hid (HB1.out.trans (hB2.mono HB1.out.size))
  clear hB2 p0 p1 p2 p3 p4 p5 p6 p7 p8 p9
  cases x with
  | true =>
    have HZ : Hid (r = true) := HR.out.trans rfl
    go_wp2
    go_ret
    exact ⟨by rw [HZ.out]; rfl, HB2.out⟩
  | false =>
    by_cases h1 : 300 < k
    · have d1 : decide ((300 : Int) < (k : Int)) = true := by simp; omega
      by_cases h2 : k < 32760
      · have d2 : decide ((k : Int) < (32760 : Int)) = true := by simp; omega
        have HZ : Hid (r = true) := HR.out.trans (by rw [decide_eq_true h1, decide_eq_true h2]; rfl)
        go_wp2
        go_ret
        exact ⟨by rw [HZ.out]; rfl, HB2.out⟩
      · have d2 : decide ((k : Int) < (32760 : Int)) = false := by simp; omega
        by_cases h3 : 32780 < k
        · have d3 : decide ((32780 : Int) < (k : Int)) = true := by simp; omega
          have HZ : Hid (r = true) := HR.out.trans (by rw [decide_eq_true h3]; simp)
          go_wp2
          go_ret
          exact ⟨by rw [HZ.out]; rfl, HB2.out⟩
        · have d3 : decide ((32780 : Int) < (k : Int)) = false := by simp; omega
          have HZ : Hid (r = false) := HR.out.trans (by rw [decide_eq_false h3, decide_eq_false h2]; simp)
          go_wp2
          go_ret
          exact ⟨by rw [HZ.out]; rfl, HB2.out⟩
    · have d1 : decide ((300 : Int) < (k : Int)) = false := by simp; omega
      have d3 : decide ((32780 : Int) < (k : Int)) = false := by simp; omega
      have HZ : Hid (r = false) := HR.out.trans (by rw [decide_eq_false h1, decide_eq_false (show ¬ 32780 < k by omega)]; rfl)
      go_wp2
      go_ret
      exact ⟨by rw [HZ.out]; rfl, HB2.out⟩

end Go.Proofs.YtndicjpbanmpjaaGreatDoor


namespace Go.Proofs.YtndicjpbanmpjaaGreatDoor
open Go.RowKit

theorem refHas_b' (k : Int) (t : Bool) (h : Ms.hb k = t) (w : World) : Calls Tryz.prog 38 #[.int .i64 k, .int .u8 98] w (Looks w (.bool t)) := by rw [← h]; exact refHas_b k w
theorem refHas_i' (k : Int) (t : Bool) (h : Ms.hi k = t) (w : World) : Calls Tryz.prog 38 #[.int .i64 k, .int .u8 105] w (Looks w (.bool t)) := by rw [← h]; exact refHas_i k w
theorem refHas_c' (k : Int) (t : Bool) (h : Ms.hc k = t) (w : World) : Calls Tryz.prog 38 #[.int .i64 k, .int .u8 99] w (Looks w (.bool t)) := by rw [← h]; exact refHas_c k w
theorem refHas_v' (k : Int) (t : Bool) (h : Ms.hv k = t) (w : World) : Calls Tryz.prog 38 #[.int .i64 k, .int .u8 118] w (Looks w (.bool t)) := by rw [← h]; exact refHas_v k w
theorem refHas_e' (k : Int) (t : Bool) (h : Ms.he k = t) (w : World) : Calls Tryz.prog 38 #[.int .i64 k, .int .u8 101] w (Looks w (.bool t)) := by rw [← h]; exact refHas_e k w
theorem refHas_m' (k : Int) (t : Bool) (h : Ms.hm k = t) (w : World) : Calls Tryz.prog 38 #[.int .i64 k, .int .u8 109] w (Looks w (.bool t)) := by rw [← h]; exact refHas_m k w

namespace Ms
theorem own_iff (m : Msg) : own m = m ↔ (hb m.kind = true ∨ m.bal = Bl.zero) ∧ (hi m.kind = true ∨ m.index = 0) ∧ (hc m.kind = true ∨ m.commit = 0) ∧ (hv m.kind = true ∨ m.version = 0) ∧ (he m.kind = true ∨ m.ents = []) ∧ (hm m.kind = true ∨ m.img = []) := by
  unfold own
  obtain ⟨k, f, d, b, i, c, v, e, g⟩ := m
  simp only [Msg.mk.injEq, true_and]
  constructor
  · rintro ⟨h1, h2, h3, h4, h5, h6⟩
    refine ⟨?_, ?_, ?_, ?_, ?_, ?_⟩
    · by_cases h : hb k = true
      · exact .inl h
      · rw [if_neg h] at h1; exact .inr h1.symm
    · by_cases h : hi k = true
      · exact .inl h
      · rw [if_neg h] at h2; exact .inr h2.symm
    · by_cases h : hc k = true
      · exact .inl h
      · rw [if_neg h] at h3; exact .inr h3.symm
    · by_cases h : hv k = true
      · exact .inl h
      · rw [if_neg h] at h4; exact .inr h4.symm
    · by_cases h : he k = true
      · exact .inl h
      · rw [if_neg h] at h5; exact .inr h5.symm
    · by_cases h : hm k = true
      · exact .inl h
      · rw [if_neg h] at h6; exact .inr h6.symm
  · rintro ⟨h1, h2, h3, h4, h5, h6⟩
    refine ⟨?_, ?_, ?_, ?_, ?_, ?_⟩
    · rcases h1 with h | h
      · rw [if_pos h]
      · rw [h]; split <;> rfl
    · rcases h2 with h | h
      · rw [if_pos h]
      · rw [h]; split <;> rfl
    · rcases h3 with h | h
      · rw [if_pos h]
      · rw [h]; split <;> rfl
    · rcases h4 with h | h
      · rw [if_pos h]
      · rw [h]; split <;> rfl
    · rcases h5 with h | h
      · rw [if_pos h]
      · rw [h]; split <;> rfl
    · rcases h6 with h | h
      · rw [if_pos h]
      · rw [h]; split <;> rfl
theorem letters_empty (k : Int) : (letters k).isEmpty = !known k := by
  rcases kinds k with rfl | rfl | rfl | rfl | rfl | rfl | rfl | rfl | rfl | rfl | rfl | h
  rotate_right
  · rw [letters_no h, (has_no h).2.2.2.2.2.2]; rfl
  all_goals decide +kernel
def hasX (k x : Int) : Bool := (letters k).contains (UInt8.ofNat x.toNat)
theorem hasX_b {k : Int} {t : Bool} (h : hb k = t) : hasX k 98 = t := (letters_has k).1.trans h
theorem hasX_i {k : Int} {t : Bool} (h : hi k = t) : hasX k 105 = t := (letters_has k).2.1.trans h
theorem hasX_c {k : Int} {t : Bool} (h : hc k = t) : hasX k 99 = t := (letters_has k).2.2.1.trans h
theorem hasX_v {k : Int} {t : Bool} (h : hv k = t) : hasX k 118 = t := (letters_has k).2.2.2.1.trans h
theorem hasX_e {k : Int} {t : Bool} (h : he k = t) : hasX k 101 = t := (letters_has k).2.2.2.2.1.trans h
theorem hasX_m {k : Int} {t : Bool} (h : hm k = t) : hasX k 109 = t := (letters_has k).2.2.2.2.2.trans h
theorem bal_zero {b : Bl.Bal} (h : b.round = 0) (h2 : b.node = 0) : b = Bl.zero := by
  obtain ⟨r, n⟩ := b
  simp only at h h2
  subst h
  subst h2
  rfl
def f1 (m : Msg) : Bool := decide (own m = m) && (!hm m.kind || decide (0 < m.img.length))
def f2 (m : Msg) : Bool := if m.kind = 5 then sole m else true
theorem form_split (m : Msg) : (decide (own m = m) && whole m) = (f1 m && f2 m) := by
  unfold f1 f2 whole
  by_cases h5 : m.kind = 5
  · rw [if_pos h5, if_pos h5, show hm m.kind = false by rw [h5]; decide]
    simp
  · rw [if_neg h5, if_neg h5]
    by_cases h11 : m.kind = 11
    · rw [if_pos h11, show hm m.kind = true by rw [h11]; decide]
      simp
    · rw [if_neg h11, show hm m.kind = false from decide_eq_false h11]
      simp
end Ms
theorem refHasX (k x : Int) (h : 0 ≤ x ∧ x ≤ 255) (w : World) : Calls Tryz.prog 38 #[.int .i64 k, .int .u8 x] w (Looks w (.bool (Ms.hasX k x))) :=
  refHasM_any k x (UInt8.ofNat x.toNat) (by rw [UInt8.toNat_ofNat']; omega) w

end Go.Proofs.YtndicjpbanmpjaaGreatDoor
