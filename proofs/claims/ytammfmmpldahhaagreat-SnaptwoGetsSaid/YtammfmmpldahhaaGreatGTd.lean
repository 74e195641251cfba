/- Several texts of mine in one: SnList SnOne SnDec. -/
import Derived.Test.YtammfmmpldahhaaGreatGTb
import Derived.Test.YtammfmmpldahhaaGreatGSu
import Derived.Test.YtammfmmpldahhaaGreatGTf
import Derived.Test.YtammfmmpldahhaaGreatGSy
namespace Go.Proofs.YtammfmmpldahhaaGreat
open Go.RowKit

set_option maxRecDepth 4000 in
set_option maxHeartbeats 3200000 in
theorem listK_any (g : Lc.Get Kv.Item) (most : Int) (hmo : 0 ≤ most ∧ most ≤ 1000) (w : World) (B o : Nat) (u : Value) (s : List UInt8) (p : Nat) (er : Int) (hr : Rdr w B o u s p er) (hB : B ≤ w.heap.size)
    (hnx : ∀ (W : World) (p' : Nat) (er' : Int), Rdr W B o u s p' er' → B ≤ W.heap.size → Calls Tryz.prog 68 #[.pointer (some ⟨o, 0, none⟩)] W (KGot W B o u s (g s p' er'))) :
    Calls Tryz.prog 67 #[.pointer (some ⟨o, 0, none⟩), .int .i64 most, .func (.func 68) #[] #[]] w (KsGot w B o u s (Lc.get g most s p er)) := by
  have ho := hr.lies.lt
  obtain ⟨n, q, e, hq, hx, hn⟩ : ∃ (n : Nat) (q : Nat) (e : Int), Lc.count s p er most = ((n : Int), (q : Int), e) ∧ (e ≠ 0 → (n : Int) = 0) ∧ n ≤ 1000 := by
    rcases Lc.count_cases s p er most hr.inn with ⟨e, q, he, _, h⟩ | ⟨n, q, _, _, hn, h, _⟩
    · exact ⟨0, q, e, h, fun _ => rfl, by omega⟩
    · exact ⟨n, q, 0, h, fun h => absurd rfl h, by omega⟩
  have HQ := Lib.hid hq
  have HG : Hid (Lc.get g most s p er = Lc.gets g s q e n) := by
    show _ = _
    unfold Lc.get
    rw [hq]
    simp only [Int.toNat_natCast]
  have HR := Lib.hid hr
  have HNX := Lib.hid hnx
  have HLEN := Lib.hid (Lc.gets_len g s q e)
  clear hq hr hnx hmo
  have hmk := fun W : World => run_make (P := Tryz.prog) W 22 62 (Classical.choose (info_parts info_kv)) (.agg (Kv.cells Kv.zero)) Tryz.underlying22 (Classical.choose_spec (info_parts info_kv)).1 (Classical.choose_spec (info_parts info_kv)).2.1 .i64 .i64 (n : Int) (n : Int) (by omega) (by omega) (by rw [(Classical.choose_spec (info_parts info_kv)).2.2.2]; omega) (by omega)
  rw [(Classical.choose_spec (info_parts info_kv)).2.2.1] at hmk
  simp only [Int.toNat_natCast] at hmk
  rw [Kv.made n] at hmk
  obtain ⟨Z, hZ⟩ : ∃ Z, Z = (flatR ((List.replicate n Kv.zero).map Kv.cells)).toArray := ⟨_, rfl⟩
  rw [← hZ] at hmk
  have HZ := Lib.hid hZ
  clear hZ
  go_enter Tryz.func67, Tryz.ntmps67
  go_wp2_with fail
  refine (rcountL_any most _ B o u s p er n q e HR.out hx HQ).mono ?_
  rintro e2 w2 ⟨rfl, hr2, hg2⟩
  have HB2 := Lib.hid ((Below.refl B w).grown hg2 hB (by rintro x hx; cases hx; exact hr2.base))
  have HS2 := Lib.hid (SavesS.of_grown hg2)
  have ho2 : o < w2.heap.size := hr2.lies.lt
  obtain ⟨w3, e3, hr3, hl3, hb3⟩ : ∃ w3, w2.alloc (.cells Z 62) = w3 ∧ Rdr w3 B o u s q e ∧ BlkK w3 w2.heap.size (List.replicate n Kv.zero) ∧ Below w2.heap.size w2 w3 := by
    refine ⟨_, rfl, hr2.kept ((Below.refl _ _).alloc (Nat.le_refl _) _), ?_, (Below.refl _ _).alloc (Nat.le_refl _) _⟩
    unfold BlkK
    rw [← HZ.out]
    exact Lies.new _ _ _
  have HR3 := Lib.hid hr3; have HL3 := Lib.hid hl3; have HB3 := Lib.hid (HB2.out.trans (hb3.mono (Nat.le_trans hB HB2.out.size))); have HS3 := Lib.hid (HS2.out.trans (SavesS.of_below (o := o) hb3))
  clear hr2 hg2 hr3 hl3 hb3
  go_wp2
  go_loopw [8, 15] (fun _ i wr => ∃ (k : Nat), i = .int .i64 (k : Int) ∧ k ≤ n ∧ Hid (Below B w wr) ∧ Hid (SavesS o w wr) ∧ Hid (Rdr wr B o u s (Lc.gets g s q e k).2.1 (Lc.gets g s q e k).2.2) ∧ Hid (BlkK wr w2.heap.size ((Lc.gets g s q e k).1 ++ List.replicate (n - k) Kv.zero))) (fun _ i _ => n - (intOf i).toNat)
  case atStart => exact ⟨0, rfl, by omega, HB3, HS3, HR3, HL3⟩
  case round =>
    obtain ⟨k, rfl, hk, HB, HS, HR, HL⟩ := hrel
    by_cases hlt : k < n
    · have hlen := HLEN.out k
      go_wp2_with fail
      refine (HNX.out _ _ _ HR.out (Nat.le_trans hB HB.out.size)).mono ?_
      rintro e5 w5 ⟨rfl, hr5, hb5, hs5⟩
      obtain ⟨t, ht⟩ : ∃ t, t = g s (Lc.gets g s q e k).2.1 (Lc.gets g s q e k).2.2 := ⟨_, rfl⟩
      have HST : Hid (Lc.gets g s q e (k + 1) = ((Lc.gets g s q e k).1 ++ [t.1], t.2)) := by show _ = _; rw [ht]; rfl
      rw [← ht] at hr5 ⊢
      have HR5 := Lib.hid hr5; have HB5 := Lib.hid (HB.out.trans hb5); have HS5 := Lib.hid (HS.out.trans hs5)
      have HL5 := Lib.hid (hs5 _ _ _ (by omega) HL.out)
      have HSET : Hid (((Lc.gets g s q e k).1 ++ List.replicate (n - k) Kv.zero).set k t.1 = (Lc.gets g s q e (k + 1)).1 ++ List.replicate (n - (k + 1)) Kv.zero) := by
        show _ = _
        rw [HST.out, show n - k = (n - (k + 1)) + 1 by omega, List.replicate_succ, List.set_append_right _ _ (by omega), hlen, Nat.sub_self, List.set_cons_zero]
        simp
      have HLL : Hid (k < ((Lc.gets g s q e k).1 ++ List.replicate (n - k) Kv.zero).length ∧ (flatR (((Lc.gets g s q e k).1 ++ List.replicate (n - k) Kv.zero).map Kv.cells)).length = n * 3) := by
        constructor
        · rw [List.length_append, List.length_replicate, hlen]; omega
        · rw [Kv.flat_len3, List.length_append, List.length_replicate, hlen]; omega
      obtain ⟨L, hL⟩ : ∃ L, L = (Lc.gets g s q e k).1 ++ List.replicate (n - k) Kv.zero := ⟨_, rfl⟩
      rw [← hL] at HSET HL5 HLL
      clear hr5 hb5 hs5 ht hL hlen
      go_wp2_with (first
        | (refine store_part (by rfl) _ _ _ (by rfl) w2.heap.size (k * 3) _ _ (flatR ((L.set k t.1).map Kv.cells)).toArray (.agg (Kv.cells t.1)) (Kv.cells t.1).toList (by rfl) (by rfl) (by rfl) (by kernel_rfl) (by rw [Array.all_toList]; exact (Kv.cells_one _).2) HL5.out (by rw [List.size_toArray, HLL.out.2]; show k * 3 + 3 ≤ _; omega) (Kv.flat_split L k t.1 HLL.out.1) ?_
           intro w6 hl hg
           rw [HSET.out] at hl
           have HL6 := Lib.hid hl
           have HR6 := Lib.hid (HR5.out.beside' hg (by omega) (fun h => HL5.out.not_row (by decide) HR5.out.owns h.symm))
           have HB6 := Lib.hid (HB5.out.grown hg (Nat.le_trans hB HB5.out.size) (by rintro x hx; cases hx; exact Nat.le_trans hB HB2.out.size))
           have HS6 : Hid (SavesS o w w6) := fun j T us h1 h2 => (HS5.out j T us h1 h2).kept hg (by have := h2.lt; have := HB2.out.size; simp; omega)
           clear hl hg)
        | fail)
      go_roundw
      case rel =>
        refine ⟨k + 1, by go_num, by omega, HB6, HS6, ?_, HL6⟩
        show Rdr _ _ _ _ _ _ _
        rw [HST.out]
        exact HR6.out
      case measure => simp [intOf]; omega
    · obtain rfl : k = n := by omega
      have hl9 := HL.out
      rw [Nat.sub_self, List.replicate_zero, List.append_nil] at hl9
      have HL9 := Lib.hid hl9
      have hlen := HLEN.out k
      obtain ⟨t, ht⟩ : ∃ t, t = Lc.gets g s q e k := ⟨_, rfl⟩
      rw [← ht] at HG HR HL9 hlen
      clear hl9 ht
      go_wp2
      go_ret
      rw [HG.out]
      exact ⟨_, rfl, .inr ⟨w2.heap.size, by omega, by show _ = Value.slice _ t.1.length t.1.length; rw [hlen]; rfl, by show t.1.length ≤ _; omega, HL9.out⟩, HR.out, HB.out, HS.out⟩

set_option maxRecDepth 4000 in
set_option maxHeartbeats 3200000 in
theorem listS_any (g : Lc.Get Se.Ses) (most : Int) (hmo : 0 ≤ most ∧ most ≤ 1000) (w : World) (B o : Nat) (u : Value) (s : List UInt8) (p : Nat) (er : Int) (hr : Rdr w B o u s p er) (hB : B ≤ w.heap.size)
    (hnx : ∀ (W : World) (p' : Nat) (er' : Int), Rdr W B o u s p' er' → B ≤ W.heap.size → Calls Tryz.prog 70 #[.pointer (some ⟨o, 0, none⟩)] W (SGot W B o u s (g s p' er'))) :
    Calls Tryz.prog 69 #[.pointer (some ⟨o, 0, none⟩), .int .i64 most, .func (.func 70) #[] #[]] w (SsGot w B o u s (Lc.get g most s p er)) := by
  have ho := hr.lies.lt
  obtain ⟨n, q, e, hq, hx, hn⟩ : ∃ (n : Nat) (q : Nat) (e : Int), Lc.count s p er most = ((n : Int), (q : Int), e) ∧ (e ≠ 0 → (n : Int) = 0) ∧ n ≤ 1000 := by
    rcases Lc.count_cases s p er most hr.inn with ⟨e, q, he, _, h⟩ | ⟨n, q, _, _, hn, h, _⟩
    · exact ⟨0, q, e, h, fun _ => rfl, by omega⟩
    · exact ⟨n, q, 0, h, fun h => absurd rfl h, by omega⟩
  have HQ := Lib.hid hq
  have HG : Hid (Lc.get g most s p er = Lc.gets g s q e n) := by
    show _ = _
    unfold Lc.get
    rw [hq]
    simp only [Int.toNat_natCast]
  have HR := Lib.hid hr
  have HNX := Lib.hid hnx
  have HLEN := Lib.hid (Lc.gets_len g s q e)
  clear hq hr hnx hmo
  have hmk := fun W : World => run_make (P := Tryz.prog) W 23 55 (Classical.choose (info_parts info_ses)) (.agg (Se.cells Se.zero)) Tryz.underlying23 (Classical.choose_spec (info_parts info_ses)).1 (Classical.choose_spec (info_parts info_ses)).2.1 .i64 .i64 (n : Int) (n : Int) (by omega) (by omega) (by rw [(Classical.choose_spec (info_parts info_ses)).2.2.2]; omega) (by omega)
  rw [(Classical.choose_spec (info_parts info_ses)).2.2.1] at hmk
  simp only [Int.toNat_natCast] at hmk
  rw [Se.made n] at hmk
  obtain ⟨Z, hZ⟩ : ∃ Z, Z = (flatR ((List.replicate n Se.zero).map Se.cells)).toArray := ⟨_, rfl⟩
  rw [← hZ] at hmk
  have HZ := Lib.hid hZ
  clear hZ
  go_enter Tryz.func69, Tryz.ntmps69
  go_wp2_with fail
  refine (rcountL_any most _ B o u s p er n q e HR.out hx HQ).mono ?_
  rintro e2 w2 ⟨rfl, hr2, hg2⟩
  have HB2 := Lib.hid ((Below.refl B w).grown hg2 hB (by rintro x hx; cases hx; exact hr2.base))
  have HS2 := Lib.hid (SavesS.of_grown hg2)
  have ho2 : o < w2.heap.size := hr2.lies.lt
  obtain ⟨w3, e3, hr3, hl3, hb3⟩ : ∃ w3, w2.alloc (.cells Z 55) = w3 ∧ Rdr w3 B o u s q e ∧ BlkS w3 w2.heap.size (List.replicate n Se.zero) ∧ Below w2.heap.size w2 w3 := by
    refine ⟨_, rfl, hr2.kept ((Below.refl _ _).alloc (Nat.le_refl _) _), ?_, (Below.refl _ _).alloc (Nat.le_refl _) _⟩
    unfold BlkS
    rw [← HZ.out]
    exact Lies.new _ _ _
  have HR3 := Lib.hid hr3; have HL3 := Lib.hid hl3; have HB3 := Lib.hid (HB2.out.trans (hb3.mono (Nat.le_trans hB HB2.out.size))); have HS3 := Lib.hid (HS2.out.trans (SavesS.of_below (o := o) hb3))
  clear hr2 hg2 hr3 hl3 hb3
  go_wp2
  go_loopw [8, 15] (fun _ i wr => ∃ (k : Nat), i = .int .i64 (k : Int) ∧ k ≤ n ∧ Hid (Below B w wr) ∧ Hid (SavesS o w wr) ∧ Hid (Rdr wr B o u s (Lc.gets g s q e k).2.1 (Lc.gets g s q e k).2.2) ∧ Hid (BlkS wr w2.heap.size ((Lc.gets g s q e k).1 ++ List.replicate (n - k) Se.zero))) (fun _ i _ => n - (intOf i).toNat)
  case atStart => exact ⟨0, rfl, by omega, HB3, HS3, HR3, HL3⟩
  case round =>
    obtain ⟨k, rfl, hk, HB, HS, HR, HL⟩ := hrel
    by_cases hlt : k < n
    · have hlen := HLEN.out k
      go_wp2_with fail
      refine (HNX.out _ _ _ HR.out (Nat.le_trans hB HB.out.size)).mono ?_
      rintro e5 w5 ⟨rfl, hr5, hb5, hs5⟩
      obtain ⟨t, ht⟩ : ∃ t, t = g s (Lc.gets g s q e k).2.1 (Lc.gets g s q e k).2.2 := ⟨_, rfl⟩
      have HST : Hid (Lc.gets g s q e (k + 1) = ((Lc.gets g s q e k).1 ++ [t.1], t.2)) := by show _ = _; rw [ht]; rfl
      rw [← ht] at hr5 ⊢
      have HR5 := Lib.hid hr5; have HB5 := Lib.hid (HB.out.trans hb5); have HS5 := Lib.hid (HS.out.trans hs5)
      have HL5 := Lib.hid (hs5 _ _ _ (by omega) HL.out)
      have HSET : Hid (((Lc.gets g s q e k).1 ++ List.replicate (n - k) Se.zero).set k t.1 = (Lc.gets g s q e (k + 1)).1 ++ List.replicate (n - (k + 1)) Se.zero) := by
        show _ = _
        rw [HST.out, show n - k = (n - (k + 1)) + 1 by omega, List.replicate_succ, List.set_append_right _ _ (by omega), hlen, Nat.sub_self, List.set_cons_zero]
        simp
      have HLL : Hid (k < ((Lc.gets g s q e k).1 ++ List.replicate (n - k) Se.zero).length ∧ (flatR (((Lc.gets g s q e k).1 ++ List.replicate (n - k) Se.zero).map Se.cells)).length = n * 8) := by
        constructor
        · rw [List.length_append, List.length_replicate, hlen]; omega
        · rw [Se.flat_len8, List.length_append, List.length_replicate, hlen]; omega
      obtain ⟨L, hL⟩ : ∃ L, L = (Lc.gets g s q e k).1 ++ List.replicate (n - k) Se.zero := ⟨_, rfl⟩
      rw [← hL] at HSET HL5 HLL
      clear hr5 hb5 hs5 ht hL hlen
      go_wp2_with (first
        | (refine store_part (by rfl) _ _ _ (by rfl) w2.heap.size (k * 8) _ _ (flatR ((L.set k t.1).map Se.cells)).toArray (.agg (Se.cells t.1)) (Se.cells t.1).toList (by rfl) (by rfl) (by rfl) (by kernel_rfl) (by rw [Array.all_toList]; exact (Se.cells_one _).2) HL5.out (by rw [List.size_toArray, HLL.out.2]; show k * 8 + 8 ≤ _; omega) (Se.flat_split L k t.1 HLL.out.1) ?_
           intro w6 hl hg
           rw [HSET.out] at hl
           have HL6 := Lib.hid hl
           have HR6 := Lib.hid (HR5.out.beside' hg (by omega) (fun h => HL5.out.not_row (by decide) HR5.out.owns h.symm))
           have HB6 := Lib.hid (HB5.out.grown hg (Nat.le_trans hB HB5.out.size) (by rintro x hx; cases hx; exact Nat.le_trans hB HB2.out.size))
           have HS6 : Hid (SavesS o w w6) := fun j T us h1 h2 => (HS5.out j T us h1 h2).kept hg (by have := h2.lt; have := HB2.out.size; simp; omega)
           clear hl hg)
        | fail)
      go_roundw
      case rel =>
        refine ⟨k + 1, by go_num, by omega, HB6, HS6, ?_, HL6⟩
        show Rdr _ _ _ _ _ _ _
        rw [HST.out]
        exact HR6.out
      case measure => simp [intOf]; omega
    · obtain rfl : k = n := by omega
      have hl9 := HL.out
      rw [Nat.sub_self, List.replicate_zero, List.append_nil] at hl9
      have HL9 := Lib.hid hl9
      have hlen := HLEN.out k
      obtain ⟨t, ht⟩ : ∃ t, t = Lc.gets g s q e k := ⟨_, rfl⟩
      rw [← ht] at HG HR HL9 hlen
      clear hl9 ht
      go_wp2
      go_ret
      rw [HG.out]
      exact ⟨_, rfl, .inr ⟨w2.heap.size, by omega, by show _ = Value.slice _ t.1.length t.1.length; rw [hlen]; rfl, by show t.1.length ≤ _; omega, HL9.out⟩, HR.out, HB.out, HS.out⟩

end Go.Proofs.YtammfmmpldahhaaGreat


namespace Go.Proofs.YtammfmmpldahhaaGreat
open Go.RowKit

set_option maxRecDepth 4000 in
set_option maxHeartbeats 3200000 in
theorem pairGot_any (w : World) (B o : Nat) (u : Value) (s : List UInt8) (p : Nat) (er : Int) (hr : Rdr w B o u s p er) (hB : B ≤ w.heap.size) :
    Calls Tryz.prog 68 #[.pointer (some ⟨o, 0, none⟩)] w (KGot w B o u s (Sn.getP 1 ⟨9223372036854775807, 9223372036854775807, 0⟩ s p er)) := by
  have ho := hr.lies.lt
  obtain ⟨x1, q1, f1, h1, y1, _, i1, _⟩ := Sn.rtx_res 9223372036854775807 s p er hr.inn
  obtain ⟨x2, q2, f2, h2, y2, _, i2, _⟩ := Sn.rtx_res 9223372036854775807 s q1 f1 i1
  have HG : Hid (Sn.getP 1 ⟨9223372036854775807, 9223372036854775807, 0⟩ s p er = (⟨x1, x2, 0⟩, q2, f2)) := by
    show _ = _
    unfold Sn.getP Sn.getK Sn.getN
    dsimp only
    rw [if_neg (by decide), h1]
    simp only [Int.toNat_natCast]
    rw [h2]
    simp only [Int.toNat_natCast]
  have H1 := Lib.hid h1; have H2 := Lib.hid h2
  obtain ⟨w1, e1, hk1, hB1, hz1⟩ := box_kv w Kv.zero
  dsimp only [Kv.cells, Kv.zero] at e1
  have HK1 := Lib.hid hk1; have HB1 := Lib.hid (hB1.mono hB); have HS1 := Lib.hid (SavesS.of_below (o := o) hB1)
  have HR1 := Lib.hid (hr.kept hB1)
  clear h1 h2 hk1 hB1 hz1 hr i1 i2
  go_enter Tryz.func68, Tryz.ntmps68
  go_wp2_with fail
  refine (rtextL_any 9223372036854775807 _ B o u s p er x1 q1 f1 HR1.out y1 H1).mono ?_
  rintro e2 v2 ⟨rfl, hr2, hg2⟩
  have HR2 := Lib.hid hr2
  have HG2 := Lib.hid hg2
  clear hr2 hg2
  go_wp2_with fail
  refine (rtextL_any 9223372036854775807 _ B o u s q1 f1 x2 q2 f2 HR2.out y2 H2).mono ?_
  rintro e3 v3 ⟨rfl, hr3, hg3⟩
  have HG3 := Lib.hid (grown_on HG2.out hg3)
  have HR3 := Lib.hid hr3
  have HK3 := Lib.hid (HK1.out.kept HG3.out (by simp; omega))
  clear hr3 hg3
  go_wp2_with (first
    | (refine store_kv (by rfl) _ _ (by rfl) w.heap.size Kv.zero ⟨x1, x2, 0⟩ (by rfl) (by rfl) HK3.out ?_; intro w7 hl7 hg7))
  refine ret_kv1 rfl rfl hl7 rfl ?_
  rw [HG.out]
  obtain ⟨a1, a2, a3, _⟩ := sget_end (by decide) hB (Nat.le_refl _) ho HB1.out HS1.out HR3.out HG3.out _ HK1.out hl7 hg7
  exact ⟨rfl, a1, a2, a3⟩

theorem ret_ses1 {fn : Func} {R : Ending → World → Prop} {a : Act} {w : World} {p : Tmp} {g : Nat} {s : Se.Ses} (h : fn.results = #[.cell p 55]) (hp : a.tmps.getD p undef = .pointer (some ⟨g, 0, none⟩))
    (hl : Sess w g s) (hd : a.defers = []) (hR : R (.returned (.agg (Se.cells s))) w) : bodyPost Tryz.prog fn R .ret a w := by
  refine bodyPost_ret ?_ hd hR
  rw [results_one h, hp]
  simp [asAddr, Result.andThen, run_ses w g s hl]

set_option maxRecDepth 4000 in
set_option maxHeartbeats 3200000 in
theorem sesGot_any (w : World) (B o : Nat) (u : Value) (s : List UInt8) (p : Nat) (er : Int) (hr : Rdr w B o u s p er) (hB : B ≤ w.heap.size) :
    Calls Tryz.prog 70 #[.pointer (some ⟨o, 0, none⟩)] w (SGot w B o u s (Sn.getS 1 s p er)) := by
  have ho := hr.lies.lt
  obtain ⟨w1, e1, hl1, hB1, hz1⟩ := box_ses w Se.zero
  dsimp only [Se.cells, Se.zero, An.zero] at e1
  have HL1 := Lib.hid hl1; have HB1 := Lib.hid (hB1.mono hB); have HS1 := Lib.hid (SavesS.of_below (o := o) hB1)
  have HR1 := Lib.hid (hr.kept hB1)
  clear hl1 hB1 hz1 hr
  go_enter Tryz.func70, Tryz.ntmps70
  go_wp2_with fail
  refine (agot_any 1 _ B o u s p er HR1.out (Nat.le_trans hB HB1.out.size)).mono ?_
  rintro e2 w2 ⟨rfl, hr2, hb2, hs2⟩
  obtain ⟨t, ht⟩ : ∃ t, t = An.get 1 s p er := ⟨_, rfl⟩
  have HG : Hid (Sn.getS 1 s p er = (Se.of t.1, t.2)) := by show _ = _; rw [ht]; rfl
  rw [← ht] at hr2 ⊢
  have HR2 := Lib.hid hr2; have HB2 := Lib.hid (HB1.out.trans hb2)
  have HS2 : Hid (SavesS o w w2) := HS1.out.trans fun k T us h1 h2 => hs2 k T us h1 h1 h2
  have HL2 := Lib.hid (hs2 _ _ _ (by omega) (by omega) HL1.out)
  clear hr2 hb2 hs2 ht
  go_wp2_with (first
    | (refine store_ans (by rfl) _ _ (by rfl) w2.heap.size An.zero t.1 (by rfl) (by rfl) (Lies.new _ _ _) ?_; intro w3 hl3 hg3
       have hB3 : Below w2.heap.size w2 w3 := ((Below.refl _ w2).alloc (Nat.le_refl _) _).grown hg3 (by simp) (by rintro j hj; cases hj; exact Nat.le_refl _)
       have HL3 := Lib.hid (HL2.out.below hB3 HL2.out.lt); have HR3 := Lib.hid (HR2.out.kept hB3); have HB3 := Lib.hid (HB2.out.trans (hB3.mono (Nat.le_trans hB HB2.out.size))); have HS3 := Lib.hid (HS2.out.trans (SavesS.of_below (o := o) hB3))
       have HA3 := Lib.hid hl3
       obtain ⟨p0, p1, p2, p3, p4, p5⟩ := Anss.every hl3
       clear hl3 hg3 hB3)
    | (refine store_ses (by rfl) _ _ (by rfl) w.heap.size Se.zero (Se.of t.1) (by rfl) (by rfl) HL3.out ?_; intro w7 hl7 hg7))
  refine ret_ses1 rfl rfl hl7 rfl ?_
  rw [HG.out]
  exact ⟨rfl, HR3.out.beside' hg7 (by omega) (fun h => HL3.out.not_row (by decide) HR3.out.owns h.symm), HB3.out.grown hg7 (Nat.le_trans hB HB3.out.size) (by rintro x hx; cases hx; exact hB),
    fun k T us h1 h2 => (HS3.out k T us h1 h2).kept hg7 (by have := h2.lt; simp; omega)⟩

end Go.Proofs.YtammfmmpldahhaaGreat


namespace Go.Proofs.YtammfmmpldahhaaGreat
open Go.RowKit


theorem LstK.shape {o : Nat} {w : World} {v : Value} {l : List Kv.Item} (h : LstK o w v l) : ∃ ao cap, v = .slice ao l.length cap := by
  obtain ⟨ao, cap, e, _⟩ := ReadsK.shape h.reads
  exact ⟨ao, cap, e⟩
theorem LstS.shape {o : Nat} {w : World} {v : Value} {l : List Se.Ses} (h : LstS o w v l) : ∃ ao cap, v = .slice ao l.length cap := by
  obtain ⟨ao, cap, e, _⟩ := ReadsN.shape h.reads
  exact ⟨ao, cap, e⟩
/-- What the reading of a state gives. -/
def StGot (w : World) (B o : Nat) (u : Value) (b : List UInt8) (t : (List Kv.Item × List Se.Ses) × Nat × Int) (e : Ending) (w' : World) : Prop :=
  ∃ vp vs, e = .returned (.agg (Mg.cells 1 vp vs)) ∧ LstK o w' vp t.1.1 ∧ LstS o w' vs t.1.2 ∧ Rdr w' B o u b t.2.1 t.2.2 ∧ Below B w w'

set_option maxRecDepth 4000 in
set_option maxHeartbeats 3200000 in
theorem readState_any (w : World) (B o : Nat) (u : Value) (b : List UInt8) (p : Nat) (er : Int) (hr : Rdr w B o u b p er) (hB : B ≤ w.heap.size) :
    Calls Tryz.prog 41 #[.pointer (some ⟨o, 0, none⟩)] w (StGot w B o u b (Sn.read 1 Sn.big b p er)) := by
  have ho := hr.lies.lt
  obtain ⟨t, ht⟩ : ∃ t, t = Sn.read 1 Sn.big b p er := ⟨_, rfl⟩
  rw [← ht]
  unfold Sn.read at ht
  dsimp only at ht
  have HT := Lib.hid ht
  clear ht
  obtain ⟨w1, e1, hx1, hB1, hz1⟩ := box_st0 w
  have HX1 := Lib.hid hx1; have HB1 := Lib.hid (hB1.mono hB); have HS1 := Lib.hid (SavesS.of_below (o := o) hB1)
  have HR1 := Lib.hid (hr.kept hB1)
  clear hx1 hB1 hz1 hr
  dsimp only [Mg.cells] at e1
  go_enter Tryz.func41, Tryz.ntmps41
  go_wp2_with fail
  refine (listK_any (Sn.getP 1 Sn.big) 64 (by omega) _ B o u b p er HR1.out (Nat.le_trans hB HB1.out.size) (fun W p' er' a1 a2 => pairGot_any W B o u b p' er' a1 a2)).mono ?_
  rintro e w6 ⟨v6, rfl, hk6, hr6, hb6, hs6⟩
  obtain ⟨P, hP⟩ : ∃ P, P = Lc.get (Sn.getP 1 Sn.big) 64 b p er := ⟨_, rfl⟩
  rw [← hP] at hk6 hr6 HT
  obtain ⟨po, pc, hv6⟩ := hk6.shape
  have HK6 := Lib.hid hk6
  have HR6 := Lib.hid hr6
  have HB6 := Lib.hid (HB1.out.trans hb6)
  have HX6 : Hid (StAt w6 w.heap.size 0 (.slice none 0 0) (.slice none 0 0)) := ⟨hs6 _ _ _ (by omega) HX1.out.lies, HX1.out.vp, HX1.out.vs⟩
  obtain ⟨pn, hpn⟩ : ∃ k, k = P.1.length := ⟨_, rfl⟩
  rw [← hpn] at hv6
  clear hk6 hr6 hb6 hs6 hP hpn
  subst hv6
  go_wp2_with fail
  refine (listS_any (Sn.getS 1) 8 (by omega) _ B o u b P.2.1 P.2.2 HR6.out (Nat.le_trans hB HB6.out.size) (fun W p' er' a1 a2 => sesGot_any W B o u b p' er' a1 a2)).mono ?_
  rintro e w8 ⟨v8, rfl, hk8, hr8, hb8, hs8⟩
  obtain ⟨Z, hZ⟩ : ∃ Z, Z = Lc.get (Sn.getS 1) 8 b P.2.1 P.2.2 := ⟨_, rfl⟩
  rw [← hZ] at hk8 hr8 HT
  obtain ⟨so, sc, hv8⟩ := hk8.shape
  have HM8 := Lib.hid hk8
  have HK8 := Lib.hid (HK6.out.saves hs8)
  have HR8 := Lib.hid hr8
  have HB8 := Lib.hid (HB6.out.trans hb8)
  have HX8 : Hid (StAt w8 w.heap.size 0 (.slice none 0 0) (.slice none 0 0)) := ⟨hs8 _ _ _ (by omega) HX6.out.lies, HX6.out.vp, HX6.out.vs⟩
  obtain ⟨sn, hsn⟩ : ∃ k, k = Z.1.length := ⟨_, rfl⟩
  rw [← hsn] at hv8
  clear hk8 hr8 hb8 hs8 hZ hsn
  subst hv8
  go_wp2_with (first
    | (refine store_st (m := 1) (up := .slice po pn pc) (us := .slice so sn sc) rfl _ _ rfl rfl HX8.out ⟨⟨_, _, _, rfl⟩, ⟨_, _, _, rfl⟩⟩ rfl ?_; intro w9 hx9 hg9; have HX9 := Lib.hid hx9; have HG9 := Lib.hid hg9; clear hx9 hg9))
  refine ret_st1 rfl rfl HX9.out rfl ?_
  rw [HT.out]
  exact ⟨_, _, rfl, HK8.out.kept HX8.out.lies (by decide) HG9.out, HM8.out.kept HX8.out.lies (by decide) HG9.out,
    HR8.out.beside' HG9.out (by omega) (fun h => HX8.out.lies.not_row (by decide) HR8.out.owns h.symm), HB8.out.grown HG9.out (Nat.le_trans hB HB8.out.size) (by rintro x hx; cases hx; exact hB)⟩

set_option maxRecDepth 4000 in
set_option maxHeartbeats 1600000 in
theorem readSchema_any (w : World) (B o : Nat) (u : Value) (b : List UInt8) (n : Int) (q : Nat) (f : Int) (hr : Rdr w B o u b 0 0) (y : f ≠ 0 → n = 0) (h : Hid (Sn.rnm 2 b 0 0 = (n, (q : Int), f))) :
    Calls Tryz.prog 40 #[.pointer (some ⟨o, 0, none⟩)] w (Gave w B o u b q f (.int .i64 (if f ≠ 0 then f else if n ≠ 1 then 3 else 0))) := by
  obtain ⟨E, hE, hk⟩ : ∃ E, (if f ≠ 0 then f else if n ≠ 1 then 3 else 0) = E ∧ ((f != 0) = true ∧ E = f ∨ (f != 0) = false ∧ (n != 1) = false ∧ E = 0 ∨ (f != 0) = false ∧ (n != 1) = true ∧ E = 3) := by
    refine ⟨_, rfl, ?_⟩
    by_cases h0 : f = 0
    · rw [if_neg (by simpa using h0)]
      by_cases h1 : n = 1
      · exact .inr (.inl ⟨by simpa using h0, by simpa using h1, if_neg (by simpa using h1)⟩)
      · exact .inr (.inr ⟨by simpa using h0, by simpa using h1, if_pos h1⟩)
    · exact .inl ⟨by simpa using h0, if_pos h0⟩
  rw [hE]
  have HR := Lib.hid hr
  have HH := Lib.hid h.out
  clear hr hE h
  go_enter Tryz.func40, Tryz.ntmps40
  go_wp2_with fail
  refine (rnumL_any 2 _ B o u b 0 0 n q f HR.out y HH).mono ?_
  rintro e v3 ⟨rfl, hr3, hg3⟩
  have HR3 := Lib.hid hr3
  have HG3 := Lib.hid hg3
  clear hr3 hg3 HR y HH
  go_wp2_with fail
  refine (rerr_any _ B o u b q f HR3.out).mono ?_
  rintro e w5 ⟨rfl, rfl⟩
  rcases hk with ⟨d0, rfl⟩ | ⟨d0, d1, rfl⟩ | ⟨d0, d1, rfl⟩ <;> (
    go_wp2
    go_ret
    exact ⟨rfl, HR3.out, HG3.out⟩)

end Go.Proofs.YtammfmmpldahhaaGreat
