/- The law FrameSpoilt, walked. -/
import Derived.Test.YtmhabcabbefncaaDoorFrmLaws
import Derived.RegionTactic
import Derived.ChangeAlike
namespace Go.Proofs.YtmhabcabbefncaaDoor
open Go.RowKit

/-- Two arrays of four bytes, the second one of zeros. -/
theorem run_eql_four {P : Program} (w : World) (t e : TypeId) (i : TypeInfo) (x0 x1 x2 x3 : Int) (ht : P.underlying t = some (.array 4 e)) (he : P.underlying e = some (.int .u8)) (hi : P.info? e = some i) (h1 : i.size = 1) :
    (binOp .eql t (.agg #[.int .u8 x0, .int .u8 x1, .int .u8 x2, .int .u8 x3]) (.agg #[.int .u8 0, .int .u8 0, .int .u8 0, .int .u8 0])).run P w = .ok (.bool (x0 == 0 && (x1 == 0 && (x2 == 0 && x3 == 0)))) w := by
  have one : ∀ (w : World) (a b : Int), (Op.equalIn 9999 e (.int .u8 a) (.int .u8 b)).run P w = .ok (a == b) w := fun w a b => run_equalIn_int (P := P) w 9998 e .u8 .u8 a b he
  have hs : ∀ w, (sizeOf e).run P w = .ok 1 w := fun w => by simp [sizeOf, typeInfo, hi, h1]
  have hg : ∀ w, (isAgg e).run P w = .ok false w := fun w => by simp [isAgg, run_underlying he]
  rw [run_eql_struct]
  unfold Op.equalIn
  simp only [Sem.run_bind, run_underlying ht, Result.andThen_ok, hs]
  by_cases a : x0 = 0
  · by_cases b : x1 = 0
    · by_cases c : x2 = 0
      · by_cases d : x3 = 0
        all_goals simp [Std.Legacy.Range.forIn_eq_forIn_range', List.range'_succ, part, hg, one, Result.andThen, a, b, c, d]
      · simp [Std.Legacy.Range.forIn_eq_forIn_range', List.range'_succ, part, hg, one, Result.andThen, a, b, c]
    · simp [Std.Legacy.Range.forIn_eq_forIn_range', List.range'_succ, part, hg, one, Result.andThen, a, b]
  · simp [Std.Legacy.Range.forIn_eq_forIn_range', List.range'_succ, part, hg, one, Result.andThen, a]

theorem guard_four : Tryd.prog.eqGuardType Tryd.prog.depth 38 = false := by kernel_rfl

set_option maxRecDepth 4000 in
set_option maxHeartbeats 1600000 in
theorem spoilt_out (v : Value) (l : List UInt8) (n : Int) (x0 x1 x2 x3 : Int) (w : World) (hv : Reads w v l) (hn0 : -9223372036854775808 ≤ n) (hn1 : n ≤ 9223372036854775807) (hT : CrcTab w) (t : Bool)
    (ht : (x0 == 0 && (x1 == 0 && (x2 == 0 && x3 == 0))) = t) (h : l.length = 0 ∨ 300 < l.length ∨ n < 0 ∨ (l.length : Int) < n + 4 ∨ t = true) :
    Calls Tryd.prog 6 #[v, .int .i64 n, .agg #[.int .u8 x0, .int .u8 x1, .int .u8 x2, .int .u8 x3]] w (Truly w) := by
  obtain ⟨ao, cap, rfl⟩ := hv.shape
  obtain ⟨_, hl1, hl2, _⟩ := hv.len
  obtain ⟨i, hi, hz, hs, hb⟩ := info_parts info_u8
  have heq := fun (W : World) => run_eql_four (P := Tryd.prog) W 38 5 i x0 x1 x2 x3 Tryd.underlying38 Tryd.underlying5 hi hs
  rw [ht] at heq
  have hgd := guard_four
  have hW : ∀ o, Below w.heap.size w (w.alloc o) := fun o => (Below.refl _ _).alloc (Nat.le_refl _) _
  have fin : ∀ o, Calls Tryd.prog 7 #[] (w.alloc o) (Truly (w.alloc o)) := fun o => frmAwake_any _ (hT.below (hW o))
  have HW := Lib.hid hW
  have FIN := Lib.hid fin
  clear ht hW fin hi hs hz hb hv
  by_cases hd : l.length = 0 ∨ 300 < l.length ∨ n < 0 ∨ (l.length : Int) < n + 4
  · clear h
    rcases (show l.length = 0 ∨ (0 < l.length ∧ 300 < l.length) ∨ (0 < l.length ∧ l.length ≤ 300 ∧ n < 0) ∨ (0 < l.length ∧ l.length ≤ 300 ∧ 0 ≤ n ∧ (l.length : Int) ≤ n) ∨ (0 < l.length ∧ l.length ≤ 300 ∧ 0 ≤ n ∧ n < l.length ∧ (l.length : Int) < n + 4) by omega) with h1 | ⟨h0, h1⟩ | ⟨h0, h1, h2⟩ | ⟨h0, h1, h2, h3⟩ | ⟨h0, h1, h2, h3, h4⟩
    all_goals
      try have hk : ((l.length : Int) == 0) = false := beq_eq_false_iff_ne.2 (by omega)
      try have hk' : ((l.length : Int) == 0) = true := beq_iff_eq.2 (by omega)
      clear hd
      go_enter Tryd.func6, Tryd.ntmps6
      go_wp2_with (go_at_call 7; refine (FIN.out _).mono ?_; rintro e w' ⟨rfl, hb⟩)
      all_goals
        go_ret
        exact ⟨rfl, on (HW.out _) hb⟩
  · obtain rfl : t = true := by
      rcases h with h | h | h | h | h
      · exact absurd h (by omega)
      · exact absurd h (by omega)
      · exact absurd h (by omega)
      · exact absurd h (by omega)
      · exact h
    have h0 : 0 < l.length := by omega
    have h1 : l.length ≤ 300 := by omega
    have h2 : 0 ≤ n := by omega
    have h3 : n + 4 ≤ l.length := by omega
    have hk : ((l.length : Int) == 0) = false := beq_eq_false_iff_ne.2 (by omega)
    clear hd h
    go_enter Tryd.func6, Tryd.ntmps6
    go_wp2_with (go_at_call 7; refine (FIN.out _).mono ?_; rintro e w' ⟨rfl, hb⟩)
    all_goals
      go_ret
      exact ⟨rfl, on (HW.out _) hb⟩

set_option maxRecDepth 4000 in
set_option maxHeartbeats 3200000 in
theorem spoilt_in (v : Value) (l : List UInt8) (p : Nat) (x0 x1 x2 x3 : UInt8) (w : World) (hv : Reads w v l) (hT : CrcTab w) (h0 : 0 < l.length) (h1 : l.length ≤ 300) (hp : p + 4 ≤ l.length)
    (ht : ((x0.toNat : Int) == 0 && ((x1.toNat : Int) == 0 && ((x2.toNat : Int) == 0 && (x3.toNat : Int) == 0))) = false) :
    Calls Tryd.prog 6 #[v, .int .i64 (p : Int), .agg #[.int .u8 (x0.toNat : Int), .int .u8 (x1.toNat : Int), .int .u8 (x2.toNat : Int), .int .u8 (x3.toNat : Int)]] w (Truly w) := by
  obtain ⟨ao, cap, rfl⟩ := hv.shape
  obtain ⟨_, hl1, hl2, _⟩ := hv.len
  obtain ⟨i, hi, hz, hs, hb⟩ := info_parts info_u8
  have heq := fun (W : World) => run_eql_four (P := Tryd.prog) W 38 5 i x0.toNat x1.toNat x2.toNat x3.toNat Tryd.underlying38 Tryd.underlying5 hi hs
  rw [ht] at heq
  have hgd := guard_four
  have hany : [x0, x1, x2, x3].any (· != 0) = true := by
    cases hq : [x0, x1, x2, x3].any (· != 0) with
    | true => rfl
    | false =>
      simp at hq
      obtain ⟨rfl, rfl, rfl, rfl⟩ := hq
      exact absurd ht (by simp)
  obtain ⟨H, hH⟩ : ∃ H, H = (enc l.length).length := ⟨_, rfl⟩
  have hH9 : H ≤ 9 := by rw [hH]; exact enc_nine (by omega)
  have hH1 : 1 ≤ H := by rw [hH]; exact enc_pos _
  obtain ⟨L, hL⟩ : ∃ L, L = l.length := ⟨_, rfl⟩
  have hS : (Frm.frame l).length = H + L + 4 := by rw [Frm.frame_len, ← hH, hL]
  obtain ⟨S, hSS⟩ : ∃ S, S = H + L + 4 := ⟨_, rfl⟩
  rw [← hSS] at hS
  have hS2 : (S : Int) - (L : Int) = ((H + 4 : Nat) : Int) := by omega
  have hk : ((L : Int) == 0) = false := beq_eq_false_iff_ne.2 (by omega)
  have hW : Below w.heap.size w (w.alloc (.cells #[.int .u8 (x0.toNat : Int), .int .u8 (x1.toNat : Int), .int .u8 (x2.toNat : Int), .int .u8 (x3.toNat : Int)] 38)) := (Below.refl _ _).alloc (Nat.le_refl _) _
  have hcb : ∀ j, j < 4 → (w.alloc (.cells #[.int .u8 (x0.toNat : Int), .int .u8 (x1.toNat : Int), .int .u8 (x2.toNat : Int), .int .u8 (x3.toNat : Int)] 38)).cell? ⟨w.heap.size, j, none⟩ = some (.int .u8 (([x0, x1, x2, x3].getD j 0).toNat : Int)) := by
    intro j hj
    rw [World.cell?_alloc_mark]
    match j, hj with
    | 0, _ => rfl
    | 1, _ => rfl
    | 2, _ => rfl
    | 3, _ => rfl
  have hsz : (w.alloc (.cells #[.int .u8 (x0.toNat : Int), .int .u8 (x1.toNat : Int), .int .u8 (x2.toNat : Int), .int .u8 (x3.toNat : Int)] 38)).heap.size = w.heap.size + 1 := by simp
  have hadd := add_ok (.slice none 0 0) _ [] l _ (Reads.empty _) (hv.below hW) (hT.below hW) (by omega) (by omega) (by simp)
  rw [List.nil_append, ← hL] at hadd
  rw [← hL] at h0 h1 hp hl1 ⊢
  have HH := Lib.hid hH
  have HL := Lib.hid hL
  have HS := Lib.hid hS
  have HSS := Lib.hid hSS
  have HCB := Lib.hid hcb
  have HW := Lib.hid hW
  have HZ := Lib.hid hsz
  have HANY := Lib.hid hany
  have HV := Lib.hid hv
  have HS2 := Lib.hid hS2
  clear ht hany hH hL hS hSS hcb hW hsz hi hz hs hb hv hS2
  go_enter Tryd.func6, Tryd.ntmps6
  go_wp2_with fail
  refine hadd.mono ?_
  rintro e w1 ⟨x, rfl, ho1, hb1⟩
  obtain ⟨g, cap1, rfl, hg, hgl⟩ := ho1.form (by rw [HS.out]; have := HSS.out; omega)
  rw [HS.out] at ho1 ⊢
  rw [HZ.out] at ho1 hg
  have hb1' : Below (w.heap.size + 1) (w.alloc (.cells #[.int .u8 (x0.toNat : Int), .int .u8 (x1.toNat : Int), .int .u8 (x2.toNat : Int), .int .u8 (x3.toNat : Int)] 38)) w1 := by
    have := hb1
    rw [HZ.out] at this
    exact this
  have hbw1 : Below w.heap.size w w1 := HW.out.trans (hb1'.mono (Nat.le_succ _))
  have HCX : Hid (∀ j, j < 4 → w1.cell? ⟨w.heap.size, j, none⟩ = some (.int .u8 (([x0, x1, x2, x3].getD j 0).toNat : Int))) := by
    intro j hj
    rw [hb1'.cell (p := ⟨w.heap.size, j, none⟩) (Nat.lt_succ_self _)]
    exact HCB.out j hj
  have hw1 : w.heap.size + 1 ≤ w1.heap.size := by have := hb1'.size; rw [HZ.out] at this; exact this
  clear hb1 hb1' hadd heq
  have hHS : H + p + 4 ≤ S := by have := HSS.out; omega
  have hS9 : S ≤ 400 := by have := HSS.out; omega
  have hS2 := HS2.out
  have hScap : S ≤ cap1 ∧ cap1 ≤ 9223372036854775807 := by have := ho1.reads.len; omega
  go_wp2_with fail
  clear hS2
  go_loopw [10] (fun i wr => ∃ (j : Nat) (o : Bool) (cur : List UInt8), i = .int .i64 (j : Int) ∧ H + p ≤ j ∧ j ≤ H + p + 4 ∧ Owns wr (w.heap.size + 1) 5 (.slice (some ⟨g, 0, none⟩) S cap1) cur ∧ Hid (Crc.Chg (Frm.frame l) cur (H + p) (j - (H + p)) [x0, x1, x2, x3] o) ∧ Below (w.heap.size + 1) w1 wr) (fun i _ => H + p + 4 - (intOf i).toNat)
  case atStart => exact ⟨H + p, false, Frm.frame l, by go_num, by omega, by omega, ho1, by show Crc.Chg _ _ _ _ _ _; rw [Nat.sub_self]; exact Crc.Chg.zero _ _ _, Below.refl _ _⟩
  case round =>
    clear ho1 hgl
    obtain ⟨j, o, cur, rfl, hj1, hj2, ho, HC, hb⟩ := hrel
    have hcl : cur.length = S := by rw [HC.out.len, HS.out]
    by_cases hlt : j < H + p + 4
    · obtain ⟨k, hk'⟩ : ∃ k, k = j - (H + p) := ⟨_, rfl⟩
      have hk4 : k < 4 := by omega
      have hjk : j = H + p + k := by omega
      have hd1 : (j : Int) - (H : Int) = ((p + k : Nat) : Int) := by omega
      have hd2 : ((p + k : Nat) : Int) - (p : Int) = (k : Int) := by omega
      obtain ⟨d, hd⟩ : ∃ d, d = p + k := ⟨_, rfl⟩
      rw [← hd] at hd1 hd2
      obtain ⟨c, hc⟩ : ∃ c, cur[j]? = some c := ⟨_, List.getElem?_eq_getElem (by omega)⟩
      have hc1 := ho.cell j c hc
      have hc2 := ho.free j
      obtain ⟨x, hx⟩ : ∃ x, x = [x0, x1, x2, x3].getD k 0 := ⟨_, rfl⟩
      have hx1 : wr.cell? ⟨w.heap.size, k, none⟩ = some (.int .u8 (x.toNat : Int)) := by
        rw [hb.cell (p := ⟨w.heap.size, k, none⟩) (Nat.lt_succ_self _), HCX.out k hk4, ← hx]
      obtain ⟨y, hy⟩ : ∃ y, y = c ^^^ x := ⟨_, rfl⟩
      have e1 := Crc.bits_xor_u8 c x
      rw [← hy] at e1
      have HN : Hid (Crc.Chg (Frm.frame l) (cur.set j y) (H + p) (j + 1 - (H + p)) [x0, x1, x2, x3] (o || x != 0)) := by
        have hh := HC.out
        rw [← hk'] at hh
        have := hh.next (x := x) hk4 (by rw [← hjk]; exact hc) hx
        show Crc.Chg _ _ _ _ _ _
        rw [hy, show j + 1 - (H + p) = k + 1 by omega, hjk]
        exact this
      have h8 := x.toNat_lt
      have h9 := c.toNat_lt
      have hdp : p ≤ d := by omega
      have hHj : H ≤ j := by omega
      have HD := Lib.hid hd
      clear hk' hjk hd hc hx hy hcl
      go_wp2
      go_region
      go_wp2
      go_roundw
      case rel => exact ⟨j + 1, _, _, by go_num, by omega, by omega, (ho.store j y _ rfl).drew, HN, (hb.setCell (p := ⟨g, j, none⟩) hg _).drew⟩
      case measure => simp [intOf]; omega
    · have hch := HC.out
      rw [show j - (H + p) = 4 by omega] at hch
      obtain rfl : o = true := by rw [hch.any]; exact HANY.out
      rw [HH.out] at hch
      have hsp := Frm.spoilt (by rw [← HL.out]; exact h0) (by rw [← HL.out]; omega) (by rw [← HL.out]; exact hp) rfl hch
      have hbw : Below w.heap.size w wr := hbw1.trans (hb.mono (Nat.le_succ _))
      have hnx := next_any (.slice (some ⟨g, 0, none⟩) S cap1) cur 0 wr ho.reads (hT.below hbw) (by omega)
      obtain ⟨q, hq⟩ : ∃ q, q = Frm.next cur 0 := ⟨_, rfl⟩
      rw [← hq] at hnx hsp
      clear hq hch hcl HC
      obtain ⟨qb, qe, qr⟩ := q
      simp only at hsp
      subst hsp
      go_wp2_with fail
      refine hnx.mono ?_
      rintro e w2 ⟨x2, rfl, ho2, hb2⟩
      have hbw2 := on hbw hb2
      clear ho2 hb2 ho hb hbw hnx
      go_wp2_with fail
      refine (frmAwake_any _ (hT.below hbw2)).mono ?_
      rintro e w3 ⟨rfl, hb3⟩
      go_wp2_with fail
      go_ret
      exact ⟨rfl, on hbw2 hb3⟩

theorem frameSpoilt_any (v : Value) (l : List UInt8) (n : Int) (x0 x1 x2 x3 : Int) (w : World) (hv : Reads w v l) (hn0 : -9223372036854775808 ≤ n) (hn1 : n ≤ 9223372036854775807)
    (b0 : 0 ≤ x0 ∧ x0 ≤ 255) (b1 : 0 ≤ x1 ∧ x1 ≤ 255) (b2 : 0 ≤ x2 ∧ x2 ≤ 255) (b3 : 0 ≤ x3 ∧ x3 ≤ 255) (hT : CrcTab w) :
    Calls Tryd.prog 6 #[v, .int .i64 n, .agg #[.int .u8 x0, .int .u8 x1, .int .u8 x2, .int .u8 x3]] w (Truly w) := by
  obtain ⟨t, ht⟩ : ∃ t, (x0 == 0 && (x1 == 0 && (x2 == 0 && x3 == 0))) = t := ⟨_, rfl⟩
  by_cases hin : 0 < l.length ∧ l.length ≤ 300 ∧ 0 ≤ n ∧ n + 4 ≤ l.length ∧ t = false
  · obtain ⟨h0, h1, h2, h3, rfl⟩ := hin
    obtain ⟨p, rfl⟩ := Int.eq_ofNat_of_zero_le h2
    have hx : ∀ x : Int, 0 ≤ x ∧ x ≤ 255 → ∃ c : UInt8, x = (c.toNat : Int) := fun x h => ⟨UInt8.ofNat x.toNat, by rw [UInt8.toNat_ofNat']; omega⟩
    obtain ⟨c0, rfl⟩ := hx x0 b0
    obtain ⟨c1, rfl⟩ := hx x1 b1
    obtain ⟨c2, rfl⟩ := hx x2 b2
    obtain ⟨c3, rfl⟩ := hx x3 b3
    exact spoilt_in v l p c0 c1 c2 c3 w hv hT h0 h1 (by omega) ht
  · refine spoilt_out v l n x0 x1 x2 x3 w hv hn0 hn1 hT t ht ?_
    cases t with
    | true => simp
    | false => simp only [and_true] at hin; omega
end Go.Proofs.YtmhabcabbefncaaDoor
