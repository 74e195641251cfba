/- Quoted strings: the document's value of a digit, and its Unquote. -/
import Derived.Test.YtgnjbbedeeiemaaQtRef
import Derived.Test.YtgnjbbedeeiemaaQtUnq
namespace Go.Proofs.Ytgnjbbedeeiemaa
open Go.RowKit

set_option maxRecDepth 4000 in
theorem refVal_of (c : UInt8) (w : World) : Calls Try.prog 22 #[.int .u8 (c.toNat : Int)] w (Says w (.int .i64 (Qt.val c))) := by
  have h256 : c.toNat < 256 := c.toNat_lt
  obtain ⟨v, hv⟩ : ∃ v, v = Qt.val c := ⟨_, rfl⟩
  rw [← hv]
  unfold Qt.val at hv
  obtain ⟨x, hx⟩ : ∃ x, x = c.toNat := ⟨_, rfl⟩
  rw [← hx] at hv h256 ⊢
  clear hx
  by_cases h1 : 48 ≤ x
  · by_cases h2 : x ≤ 57
    · rw [if_pos ⟨h1, h2⟩] at hv
      have HV := Lib.hid hv; clear hv
      go_enter Try.func22, Try.ntmps22
      go_wp2
      go_ret
      exact ⟨ret_int HV.out.symm, rfl⟩
    · rw [if_neg (by omega)] at hv
      by_cases h3 : 97 ≤ x
      · by_cases h4 : x ≤ 102
        · rw [if_pos ⟨h3, h4⟩] at hv
          have HV := Lib.hid hv; clear hv
          go_enter Try.func22, Try.ntmps22
          go_wp2
          go_ret
          exact ⟨ret_int (by rw [HV.out]), rfl⟩
        · rw [if_neg (by omega)] at hv
          have HV := Lib.hid hv; clear hv
          go_enter Try.func22, Try.ntmps22
          go_wp2
          go_ret
          exact ⟨ret_int HV.out.symm, rfl⟩
      · rw [if_neg (by omega)] at hv
        have HV := Lib.hid hv; clear hv
        go_enter Try.func22, Try.ntmps22
        go_wp2
        go_ret
        exact ⟨ret_int HV.out.symm, rfl⟩
  · rw [if_neg (by omega), if_neg (by omega)] at hv
    have HV := Lib.hid hv; clear hv
    go_enter Try.func22, Try.ntmps22
    go_wp2
    go_ret
    exact ⟨ret_int HV.out.symm, rfl⟩

/-- What the document's Unquote tells. -/
def RefGot (w : World) (s : ByteArray) (e : Ending) (w' : World) : Prop :=
  ∃ (X : ByteArray) (b : Bool), e = .returned (.tuple #[.string X, .bool b]) ∧ Below w.heap.size w w' ∧ (if b = true then Qt.unq s = some X.data.toList else Qt.unq s = none)

theorem Qt.unq_none {s : ByteArray} (h : Qt.rd s = none) : Qt.unq s = none := by
  rw [← Qt.unq_same]; unfold Qt.refUnq; rw [h]
theorem Qt.unq_of {s : ByteArray} {o : List UInt8} (h : Qt.rd s = some o) : Qt.unq s = if (ByteArray.mk (Qt.quote ⟨o.toArray⟩).toArray) = s then some o else none := by
  rw [← Qt.unq_same]; unfold Qt.refUnq; rw [h]
  simp only
  by_cases h2 : Qt.quote ⟨o.toArray⟩ = s.data.toList
  · rw [if_pos h2, if_pos]
    exact Qt.same_list (by rw [Qt.back]; exact h2)
  · rw [if_neg h2, if_neg]
    intro h'
    exact h2 ((Qt.back _).symm.trans (congrArg (fun t : ByteArray => t.data.toList) h'))
theorem Qt.val_le (c : UInt8) : Qt.val c ≤ 15 := by
  unfold Qt.val
  split
  · omega
  · split <;> omega

set_option maxRecDepth 4000 in
set_option maxHeartbeats 12800000 in
theorem refUnquote_any (s : ByteArray) (w : World) (hs : s.size ≤ 1000000000000) :
    Calls Try.prog 11 #[.string s] w (RefGot w s) := by
  by_cases hsh : s.size < 2
  · have hn : Hid (Qt.unq s = none) := Qt.unq_none (by unfold Qt.rd; rw [if_pos hsh])
    have hsh' : (s.size : Int) < 2 := by omega
    go_enter Try.func11, Try.ntmps11
    go_wp2
    go_ret2
    exact ⟨_, false, rfl, Below.refl _ _, by rw [if_neg (by simp)]; exact hn.out⟩
  · obtain ⟨n, hn⟩ : ∃ n, n = s.size - 1 := ⟨_, rfl⟩
    have hni : (s.size : Int) - 1 = (n : Int) := by omega
    have hnl : n < s.size := by omega
    have h1n : 1 ≤ n := by omega
    have HR : Hid (Qt.rd s = Qt.prAt s n 1 []) := by show _ = _; unfold Qt.rd; rw [if_neg hsh, hn]
    have hsh' : ¬ (s.size : Int) < 2 := by omega
    clear hn
    go_enter Try.func11, Try.ntmps11
    go_wp2
    go_loopw [4, 6] (fun v i wr => ∃ (q : Nat) (l : List UInt8), i = .int .i64 (q : Int) ∧ q ≤ n ∧ Owns wr w.heap.size 5 v l ∧ Below w.heap.size w wr ∧ l.length ≤ q ∧ Hid (Qt.prAt s n q l = Qt.rd s)) (fun _ i _ => n - (intOf i).toNat)
    case atStart => exact ⟨1, [], rfl, h1n, Owns.empty _ _ _, Below.refl _ _, by simp, HR.out.symm⟩
    case round =>
      obtain ⟨q, l, rfl, hq, ho, hb, hlen, HQ⟩ := hrel
      obtain ⟨ao, cap, rfl⟩ := ho.reads.shape
      have hsz := hb.size
      by_cases hlt : q < n
      · have hstep := Qt.prAt_eq s n q l hlt
        have hlt1 : (q : Int) < (n : Int) := by omega
        have hlt2 : (q : Int) < (s.size : Int) := by omega
        have hat : ∀ h, (s[q]'h).toNat = (s.get! q).toNat := fun h => Rn.byteAt_get s q h
        obtain ⟨c, hc⟩ : ∃ c, c = s.get! q := ⟨_, rfl⟩
        have hcb : Rn.byteAt s q = c.toNat := by rw [hc]; rfl
        rw [hcb, ← hc] at hstep
        rw [← hc] at hat
        have h256 : c.toNat < 256 := c.toNat_lt
        clear hc hcb
        by_cases h92 : c.toNat ≠ 92
        · rw [if_pos h92] at hstep
          have HS : Hid (Qt.prAt s n (q + 1) (l ++ [c]) = Qt.rd s) := by show _ = _; rw [← HQ.out, hstep]
          have hl1 : l.length + [c].length ≤ 140737488355328 := by simp; omega
          have hne : ((c.toNat : Int) != 92) = true := by simp; omega
          clear hstep
          go_wp2_with (at_builtin; refine append_bytes rfl _ _ 36 5 rfl Try.underlying36 info_byte w.heap.size l [c] _ _ rfl rfl (ho.alloc _) (Reads.fresh _ _ _ 1 _ rfl rfl (by decide)) hl1 w (hb.alloc (by omega) _) (Nat.le_refl _) ?_; intro v' w' ho' hb' hg; clear hg)
          go_roundw
          case rel => exact ⟨q + 1, l ++ [c], by go_num, by omega, ho', hb', by rw [List.length_append]; simp; omega, HS.out⟩
          case measure => simp [intOf]; omega
        · rw [if_neg h92] at hstep
          have hne : ((c.toNat : Int) != 92) = false := by simp; omega
          obtain ⟨j1, hj1⟩ : ∃ j1, j1 = q + 1 := ⟨_, rfl⟩
          have J1 : (q : Int) + 1 = (j1 : Int) := by omega
          have hlj1 : (j1 : Int) < (s.size : Int) := by omega
          have hat1 : ∀ h, (s[j1]'h).toNat = (s.get! j1).toNat := fun h => Rn.byteAt_get s j1 h
          obtain ⟨c1, hc1⟩ : ∃ c1, c1 = s.get! j1 := ⟨_, rfl⟩
          have hcb1 : Rn.byteAt s j1 = c1.toNat := by rw [hc1]; rfl
          rw [← hj1, hcb1, ← hc1] at hstep
          rw [← hc1] at hat1
          clear hc1 hcb1 h92 hj1
          by_cases h2 : j1 < n ∧ (c1.toNat = 34 ∨ c1.toNat = 92)
          · rw [if_pos h2] at hstep
            have HS : Hid (Qt.prAt s n (q + 2) (l ++ [c1]) = Qt.rd s) := by show _ = _; rw [← HQ.out, hstep]
            have hl1 : l.length + [c1].length ≤ 140737488355328 := by simp; omega
            have hjn : (j1 : Int) < (n : Int) := by omega
            clear hstep
            rcases h2.2 with h34 | h92
            · have e34 : ((c1.toNat : Int) == 34) = true := by simp; omega
              clear h2 h34
              go_wp2_with (at_builtin; refine append_bytes rfl _ _ 36 5 rfl Try.underlying36 info_byte w.heap.size l [c1] _ _ rfl rfl (ho.alloc _) (Reads.fresh _ _ _ 1 _ rfl rfl (by decide)) hl1 w (hb.alloc (by omega) _) (Nat.le_refl _) ?_; intro v' w' ho' hb' hg; clear hg)
              go_roundw
              case rel => exact ⟨q + 2, l ++ [c1], by go_num, by omega, ho', hb', by rw [List.length_append]; simp; omega, HS.out⟩
              case measure => simp [intOf]; omega
            · have e34 : ((c1.toNat : Int) == 34) = false := by simp; omega
              have e92 : ((c1.toNat : Int) == 92) = true := by simp; omega
              clear h2 h92
              go_wp2_with (at_builtin; refine append_bytes rfl _ _ 36 5 rfl Try.underlying36 info_byte w.heap.size l [c1] _ _ rfl rfl (ho.alloc _) (Reads.fresh _ _ _ 1 _ rfl rfl (by decide)) hl1 w (hb.alloc (by omega) _) (Nat.le_refl _) ?_; intro v' w' ho' hb' hg; clear hg)
              go_roundw
              case rel => exact ⟨q + 2, l ++ [c1], by go_num, by omega, ho', hb', by rw [List.length_append]; simp; omega, HS.out⟩
              case measure => simp [intOf]; omega
          · rw [if_neg h2] at hstep
            have hj3 : (q : Int) + 3 = ((q + 3 : Nat) : Int) := by omega
            obtain ⟨j3, ej3⟩ : ∃ j3, j3 = q + 3 := ⟨_, rfl⟩
            obtain ⟨j2, ej2⟩ : ∃ j2, j2 = q + 2 := ⟨_, rfl⟩
            have J3 : (q : Int) + 3 = (j3 : Int) := by omega
            have J2 : (q : Int) + 2 = (j2 : Int) := by omega
            clear hj3
            rw [← ej3, ← ej2] at hstep
            clear ej3 ej2
            have fin : n ≤ j3 ∨ c1.toNat ≠ 120 ∨ Qt.val (s.get! j2) < 0 ∨ Qt.val (s.get! j3) < 0 → Hid (Qt.unq s = none) := fun h => Qt.unq_none (by rw [← HQ.out, hstep, if_pos h])
            by_cases hn3 : n ≤ j3
            · have HF := fin (.inl hn3)
              have hn3' : (n : Int) ≤ (j3 : Int) := by omega
              clear hstep fin
              by_cases hjn : j1 < n
              · have e34 : ((c1.toNat : Int) == 34) = false := by simp; omega
                have e92 : ((c1.toNat : Int) == 92) = false := by simp; omega
                clear h2
                go_wp2
                go_ret2
                exact ⟨_, false, rfl, hb, by rw [if_neg (by simp)]; exact HF.out⟩
              · clear h2
                go_wp2
                go_ret2
                exact ⟨_, false, rfl, hb, by rw [if_neg (by simp)]; exact HF.out⟩
            · have hjn : j1 < n := by omega
              have hn3' : ¬ (n : Int) ≤ (j3 : Int) := by omega
              have e34 : ((c1.toNat : Int) == 34) = false := by simp; omega
              have e92 : ((c1.toNat : Int) == 92) = false := by simp; omega
              clear h2
              by_cases h120 : c1.toNat ≠ 120
              · have HF := fin (.inr (.inl h120))
                have e120 : ((c1.toNat : Int) != 120) = true := by simp; omega
                clear hstep fin h120
                go_wp2
                go_ret2
                exact ⟨_, false, rfl, hb, by rw [if_neg (by simp)]; exact HF.out⟩
              · have e120 : ((c1.toNat : Int) != 120) = false := by simp; omega
                have hat2 : ∀ h, (s[j2]'h).toNat = (s.get! j2).toNat := fun h => Rn.byteAt_get s j2 h
                obtain ⟨c2, hc2⟩ : ∃ c2, c2 = s.get! j2 := ⟨_, rfl⟩
                have hat3 : ∀ h, (s[j3]'h).toNat = (s.get! j3).toNat := fun h => Rn.byteAt_get s j3 h
                obtain ⟨c3, hc3⟩ : ∃ c3, c3 = s.get! j3 := ⟨_, rfl⟩
                rw [← hc2, ← hc3] at hstep fin
                rw [← hc2] at hat2
                rw [← hc3] at hat3
                have hlj2 : (j2 : Int) < (s.size : Int) := by omega
                have hlj3 : (j3 : Int) < (s.size : Int) := by omega
                clear hc2 hc3
                by_cases hv2 : Qt.val c2 < 0
                · have HF := fin (.inr (.inr (.inl hv2)))
                  clear hstep fin h120
                  go_wp2_with fail
                  refine (refVal_of _ _).mono ?_
                  rintro e w1 ⟨rfl, rfl⟩
                  go_wp2
                  go_ret2
                  exact ⟨_, false, rfl, hb, by rw [if_neg (by simp)]; exact HF.out⟩
                · by_cases hv3 : Qt.val c3 < 0
                  · have HF := fin (.inr (.inr (.inr hv3)))
                    clear hstep fin h120
                    go_wp2_with fail
                    refine (refVal_of _ _).mono ?_
                    rintro e w1 ⟨rfl, rfl⟩
                    go_wp2_with fail
                    refine (refVal_of _ _).mono ?_
                    rintro e w1 ⟨rfl, rfl⟩
                    go_wp2
                    go_ret2
                    exact ⟨_, false, rfl, hb, by rw [if_neg (by simp)]; exact HF.out⟩
                  · rw [if_neg (by omega)] at hstep
                    have HS : Hid (Qt.prAt s n (q + 4) (l ++ [Qt.two c2 c3]) = Qt.rd s) := by show _ = _; rw [← HQ.out, hstep]
                    have v2 := Qt.val_le c2
                    have v3 := Qt.val_le c3
                    obtain ⟨x, hx⟩ : ∃ x, x = Qt.two c2 c3 := ⟨_, rfl⟩
                    have m1 : IntKind.i64.wrap (16 * Qt.val c2) = 16 * Qt.val c2 := by rw [IntKind.wrap_i64]; omega
                    have m2 : IntKind.i64.wrap (16 * Qt.val c2 + Qt.val c3) = 16 * Qt.val c2 + Qt.val c3 := by rw [IntKind.wrap_i64]; omega
                    have m3 : IntKind.u8.wrap (16 * Qt.val c2 + Qt.val c3) = (x.toNat : Int) := by
                      rw [IntKind.wrap_u8, hx]; unfold Qt.two; rw [UInt8.toNat_ofNat']; omega
                    have k2 : IntKind.i64.wrap (j2 : Int) = (j2 : Int) := by rw [IntKind.wrap_i64]; omega
                    have k3 : IntKind.i64.wrap (j3 : Int) = (j3 : Int) := by rw [IntKind.wrap_i64]; omega
                    rw [← hx] at HS
                    have hl1 : l.length + [x].length ≤ 140737488355328 := by simp; omega
                    have hsz2 : w.heap.size ≤ (wr.alloc (.cells #[.int .u8 (x.toNat : Int)] 5)).drew.heap.size := by simp [World.drew]; omega
                    clear hstep fin h120 hx
                    go_wp2_with (go_at_call 22; refine (refVal_of _ _).mono ?_; rintro e w1 ⟨rfl, rfl⟩)
                    go_region_law (first
                      | (refine step_append_bytes (by rfl) _ _ 36 5 (by rfl) Try.underlying36 info_byte w.heap.size l [x] _ _ (by rfl) (by rfl) (ho.alloc _).drew (Reads.fresh _ _ _ 1 _ rfl rfl (by decide)).drew hl1 hsz2 ?_; intro v' w' ho' hg)
                      | (rw [if_pos (by rfl)]; go_simp; go_at_call 22; refine (refVal_of _ _).mono ?_; rintro e' w4 ⟨rfl, rfl⟩; dsimp only))
                    all_goals
                      have hb' : Below w.heap.size w w' := rowBelow (belowDrew (hb.alloc (by omega) _) (by simp; omega)) (ho.alloc _).drew hsz2 hg
                      clear hg
                      go_wp2
                      go_roundw
                      case rel => exact ⟨q + 4, l ++ [x], by go_num, by omega, ho', hb', by rw [List.length_append]; simp; omega, HS.out⟩
                      case measure => simp [intOf]; omega
      · have HE : Hid (Qt.rd s = some l) := by show _ = _; rw [← HQ.out, Qt.prAt_end s n q l hlt]
        have hst := run_string_of (P := Try.prog) _ Try.underlying36 Try.underlying5 Try.underlying9 ho.reads.drew
        have HU := Lib.hid (Qt.unq_of HE.out)
        have hz : (ByteArray.mk l.toArray).size ≤ 1000000000000 := by simp [ByteArray.size]; omega
        obtain ⟨Y, hY⟩ : ∃ Y, Y = ByteArray.mk (Qt.quote ⟨l.toArray⟩).toArray := ⟨_, rfl⟩
        have HU2 := HU.out
        rw [← hY] at HU2
        obtain ⟨b, hbb⟩ : ∃ b, (Y.toList == s.toList) = b := ⟨_, rfl⟩
        have HF : Hid (if b = true then Qt.unq s = some l else Qt.unq s = none) := by
          show if b = true then Qt.unq s = some l else Qt.unq s = none
          by_cases h : Y = s
          · rw [if_pos h] at HU2
            rw [if_pos]
            · exact HU2
            · rw [← hbb, h]; simp
          · rw [if_neg h] at HU2
            rw [if_neg]
            · exact HU2
            · rw [← hbb, Qt.ne_list h]; simp
        have HQt := fun w => refQuote_any ⟨l.toArray⟩ w hz
        rw [← hY] at HQt
        clear HU2 HU hY HE
        go_wp2_with fail
        go_region_law (rw [if_pos (by rfl)]; go_simp; go_at_call 10; refine (HQt _).mono ?_; rintro e' w4 ⟨rfl, hb4⟩; have hst4 := run_string_of (P := Try.prog) _ Try.underlying36 Try.underlying5 Try.underlying9 (ho.reads.drew.below hb4); dsimp only)
        all_goals
          go_wp2
          go_ret2
          exact ⟨_, b, rfl, on (belowDrew hb hsz) hb4, by simpa using HF.out⟩
end Go.Proofs.Ytgnjbbedeeiemaa
