/- A list read by a function that is handed on, made ahead and filled by index: of pairs, of sessions. Written by a program. -/
import Derived.Test.YtggipagbmmjfbaaSnRow
namespace Go.Proofs.Ytggipagbmmjfbaa
open Go.RowKit

set_option maxRecDepth 4000 in
set_option maxHeartbeats 3200000 in
theorem listK_any (g : Lc.Get Kv.Item) (most : Int) (hmo : 0 ≤ most ∧ most ≤ 1000) (w : World) (B o : Nat) (u : Value) (s : List UInt8) (p : Nat) (er : Int) (hr : Rdr w B o u s p er) (hB : B ≤ w.heap.size)
    (hnx : ∀ (W : World) (p' : Nat) (er' : Int), Rdr W B o u s p' er' → B ≤ W.heap.size → Calls Try.prog 45 #[.pointer (some ⟨o, 0, none⟩)] W (KGot W B o u s (g s p' er'))) :
    Calls Try.prog 44 #[.pointer (some ⟨o, 0, none⟩), .int .i64 most, .func (.func 45) #[] #[]] w (KsGot w B o u s (Lc.get g most s p er)) := by
  have ho := hr.lies.lt
  obtain ⟨n, q, e, hq, hx, hn⟩ : ∃ (n : Nat) (q : Nat) (e : Int), Lc.count s p er most = ((n : Int), (q : Int), e) ∧ (e ≠ 0 → (n : Int) = 0) ∧ n ≤ 1000 := by
    rcases Lc.count_cases s p er most hr.inn with ⟨e, q, he, _, h⟩ | ⟨n, q, _, _, hn, h, _⟩
    · exact ⟨0, q, e, h, fun _ => rfl, by omega⟩
    · exact ⟨n, q, 0, h, fun h => absurd rfl h, by omega⟩
  have HQ := Lib.hid hq
  have HG : Hid (Lc.get g most s p er = Lc.gets g s q e n) := by
    show _ = _
    unfold Lc.get
    rw [hq]
    simp only [Int.toNat_natCast]
  have HR := Lib.hid hr
  have HNX := Lib.hid hnx
  have HLEN := Lib.hid (Lc.gets_len g s q e)
  clear hq hr hnx hmo
  have hmk := fun W : World => run_make (P := Try.prog) W 22 61 (Classical.choose (info_parts info_kv)) (.agg (Kv.cells Kv.zero)) Try.underlying22 (Classical.choose_spec (info_parts info_kv)).1 (Classical.choose_spec (info_parts info_kv)).2.1 .i64 .i64 (n : Int) (n : Int) (by omega) (by omega) (by rw [(Classical.choose_spec (info_parts info_kv)).2.2.2]; omega) (by omega)
  rw [(Classical.choose_spec (info_parts info_kv)).2.2.1] at hmk
  simp only [Int.toNat_natCast] at hmk
  rw [Kv.made n] at hmk
  obtain ⟨Z, hZ⟩ : ∃ Z, Z = (flatR ((List.replicate n Kv.zero).map Kv.cells)).toArray := ⟨_, rfl⟩
  rw [← hZ] at hmk
  have HZ := Lib.hid hZ
  clear hZ
  go_enter Try.func44, Try.ntmps44
  go_wp2_with fail
  refine (rcountL_any most _ B o u s p er n q e HR.out hx HQ).mono ?_
  rintro e2 w2 ⟨rfl, hr2, hg2⟩
  have HB2 := Lib.hid ((Below.refl B w).grown hg2 hB (by rintro x hx; cases hx; exact hr2.base))
  have HS2 := Lib.hid (SavesS.of_grown hg2)
  have ho2 : o < w2.heap.size := hr2.lies.lt
  obtain ⟨w3, e3, hr3, hl3, hb3⟩ : ∃ w3, w2.alloc (.cells Z 61) = w3 ∧ Rdr w3 B o u s q e ∧ BlkK w3 w2.heap.size (List.replicate n Kv.zero) ∧ Below w2.heap.size w2 w3 := by
    refine ⟨_, rfl, hr2.kept ((Below.refl _ _).alloc (Nat.le_refl _) _), ?_, (Below.refl _ _).alloc (Nat.le_refl _) _⟩
    unfold BlkK
    rw [← HZ.out]
    exact Lies.new _ _ _
  have HR3 := Lib.hid hr3; have HL3 := Lib.hid hl3; have HB3 := Lib.hid (HB2.out.trans (hb3.mono (Nat.le_trans hB HB2.out.size))); have HS3 := Lib.hid (HS2.out.trans (SavesS.of_below (o := o) hb3))
  clear hr2 hg2 hr3 hl3 hb3
  go_wp2
  go_loopw [8, 15] (fun _ i wr => ∃ (k : Nat), i = .int .i64 (k : Int) ∧ k ≤ n ∧ Hid (Below B w wr) ∧ Hid (SavesS o w wr) ∧ Hid (Rdr wr B o u s (Lc.gets g s q e k).2.1 (Lc.gets g s q e k).2.2) ∧ Hid (BlkK wr w2.heap.size ((Lc.gets g s q e k).1 ++ List.replicate (n - k) Kv.zero))) (fun _ i _ => n - (intOf i).toNat)
  case atStart => exact ⟨0, rfl, by omega, HB3, HS3, HR3, HL3⟩
  case round =>
    obtain ⟨k, rfl, hk, HB, HS, HR, HL⟩ := hrel
    by_cases hlt : k < n
    · have hlen := HLEN.out k
      go_wp2_with fail
      refine (HNX.out _ _ _ HR.out (Nat.le_trans hB HB.out.size)).mono ?_
      rintro e5 w5 ⟨rfl, hr5, hb5, hs5⟩
      obtain ⟨t, ht⟩ : ∃ t, t = g s (Lc.gets g s q e k).2.1 (Lc.gets g s q e k).2.2 := ⟨_, rfl⟩
      have HST : Hid (Lc.gets g s q e (k + 1) = ((Lc.gets g s q e k).1 ++ [t.1], t.2)) := by show _ = _; rw [ht]; rfl
      rw [← ht] at hr5 ⊢
      have HR5 := Lib.hid hr5; have HB5 := Lib.hid (HB.out.trans hb5); have HS5 := Lib.hid (HS.out.trans hs5)
      have HL5 := Lib.hid (hs5 _ _ _ (by omega) HL.out)
      have HSET : Hid (((Lc.gets g s q e k).1 ++ List.replicate (n - k) Kv.zero).set k t.1 = (Lc.gets g s q e (k + 1)).1 ++ List.replicate (n - (k + 1)) Kv.zero) := by
        show _ = _
        rw [HST.out, show n - k = (n - (k + 1)) + 1 by omega, List.replicate_succ, List.set_append_right _ _ (by omega), hlen, Nat.sub_self, List.set_cons_zero]
        simp
      have HLL : Hid (k < ((Lc.gets g s q e k).1 ++ List.replicate (n - k) Kv.zero).length ∧ (flatR (((Lc.gets g s q e k).1 ++ List.replicate (n - k) Kv.zero).map Kv.cells)).length = n * 3) := by
        constructor
        · rw [List.length_append, List.length_replicate, hlen]; omega
        · rw [Kv.flat_len3, List.length_append, List.length_replicate, hlen]; omega
      obtain ⟨L, hL⟩ : ∃ L, L = (Lc.gets g s q e k).1 ++ List.replicate (n - k) Kv.zero := ⟨_, rfl⟩
      rw [← hL] at HSET HL5 HLL
      clear hr5 hb5 hs5 ht hL hlen
      go_wp2_with (first
        | (refine store_part (by rfl) _ _ _ (by rfl) w2.heap.size (k * 3) _ _ (flatR ((L.set k t.1).map Kv.cells)).toArray (.agg (Kv.cells t.1)) (Kv.cells t.1).toList (by rfl) (by rfl) (by rfl) (by kernel_rfl) (by rw [Array.all_toList]; exact (Kv.cells_one _).2) HL5.out (by rw [List.size_toArray, HLL.out.2]; show k * 3 + 3 ≤ _; omega) (Kv.flat_split L k t.1 HLL.out.1) ?_
           intro w6 hl hg
           rw [HSET.out] at hl
           have HL6 := Lib.hid hl
           have HR6 := Lib.hid (HR5.out.beside' hg (by omega) (fun h => HL5.out.not_row (by decide) HR5.out.owns h.symm))
           have HB6 := Lib.hid (HB5.out.grown hg (Nat.le_trans hB HB5.out.size) (by rintro x hx; cases hx; exact Nat.le_trans hB HB2.out.size))
           have HS6 : Hid (SavesS o w w6) := fun j T us h1 h2 => (HS5.out j T us h1 h2).kept hg (by have := h2.lt; have := HB2.out.size; simp; omega)
           clear hl hg)
        | fail)
      go_roundw
      case rel =>
        refine ⟨k + 1, by go_num, by omega, HB6, HS6, ?_, HL6⟩
        show Rdr _ _ _ _ _ _ _
        rw [HST.out]
        exact HR6.out
      case measure => simp [intOf]; omega
    · obtain rfl : k = n := by omega
      have hl9 := HL.out
      rw [Nat.sub_self, List.replicate_zero, List.append_nil] at hl9
      have HL9 := Lib.hid hl9
      have hlen := HLEN.out k
      obtain ⟨t, ht⟩ : ∃ t, t = Lc.gets g s q e k := ⟨_, rfl⟩
      rw [← ht] at HG HR HL9 hlen
      clear hl9 ht
      go_wp2
      go_ret
      rw [HG.out]
      exact ⟨_, rfl, .inr ⟨w2.heap.size, by omega, by show _ = Value.slice _ t.1.length t.1.length; rw [hlen]; rfl, by show t.1.length ≤ _; omega, HL9.out⟩, HR.out, HB.out, HS.out⟩

set_option maxRecDepth 4000 in
set_option maxHeartbeats 3200000 in
theorem listS_any (g : Lc.Get Se.Ses) (most : Int) (hmo : 0 ≤ most ∧ most ≤ 1000) (w : World) (B o : Nat) (u : Value) (s : List UInt8) (p : Nat) (er : Int) (hr : Rdr w B o u s p er) (hB : B ≤ w.heap.size)
    (hnx : ∀ (W : World) (p' : Nat) (er' : Int), Rdr W B o u s p' er' → B ≤ W.heap.size → Calls Try.prog 47 #[.pointer (some ⟨o, 0, none⟩)] W (SGot W B o u s (g s p' er'))) :
    Calls Try.prog 46 #[.pointer (some ⟨o, 0, none⟩), .int .i64 most, .func (.func 47) #[] #[]] w (SsGot w B o u s (Lc.get g most s p er)) := by
  have ho := hr.lies.lt
  obtain ⟨n, q, e, hq, hx, hn⟩ : ∃ (n : Nat) (q : Nat) (e : Int), Lc.count s p er most = ((n : Int), (q : Int), e) ∧ (e ≠ 0 → (n : Int) = 0) ∧ n ≤ 1000 := by
    rcases Lc.count_cases s p er most hr.inn with ⟨e, q, he, _, h⟩ | ⟨n, q, _, _, hn, h, _⟩
    · exact ⟨0, q, e, h, fun _ => rfl, by omega⟩
    · exact ⟨n, q, 0, h, fun h => absurd rfl h, by omega⟩
  have HQ := Lib.hid hq
  have HG : Hid (Lc.get g most s p er = Lc.gets g s q e n) := by
    show _ = _
    unfold Lc.get
    rw [hq]
    simp only [Int.toNat_natCast]
  have HR := Lib.hid hr
  have HNX := Lib.hid hnx
  have HLEN := Lib.hid (Lc.gets_len g s q e)
  clear hq hr hnx hmo
  have hmk := fun W : World => run_make (P := Try.prog) W 23 52 (Classical.choose (info_parts info_ses)) (.agg (Se.cells Se.zero)) Try.underlying23 (Classical.choose_spec (info_parts info_ses)).1 (Classical.choose_spec (info_parts info_ses)).2.1 .i64 .i64 (n : Int) (n : Int) (by omega) (by omega) (by rw [(Classical.choose_spec (info_parts info_ses)).2.2.2]; omega) (by omega)
  rw [(Classical.choose_spec (info_parts info_ses)).2.2.1] at hmk
  simp only [Int.toNat_natCast] at hmk
  rw [Se.made n] at hmk
  obtain ⟨Z, hZ⟩ : ∃ Z, Z = (flatR ((List.replicate n Se.zero).map Se.cells)).toArray := ⟨_, rfl⟩
  rw [← hZ] at hmk
  have HZ := Lib.hid hZ
  clear hZ
  go_enter Try.func46, Try.ntmps46
  go_wp2_with fail
  refine (rcountL_any most _ B o u s p er n q e HR.out hx HQ).mono ?_
  rintro e2 w2 ⟨rfl, hr2, hg2⟩
  have HB2 := Lib.hid ((Below.refl B w).grown hg2 hB (by rintro x hx; cases hx; exact hr2.base))
  have HS2 := Lib.hid (SavesS.of_grown hg2)
  have ho2 : o < w2.heap.size := hr2.lies.lt
  obtain ⟨w3, e3, hr3, hl3, hb3⟩ : ∃ w3, w2.alloc (.cells Z 52) = w3 ∧ Rdr w3 B o u s q e ∧ BlkS w3 w2.heap.size (List.replicate n Se.zero) ∧ Below w2.heap.size w2 w3 := by
    refine ⟨_, rfl, hr2.kept ((Below.refl _ _).alloc (Nat.le_refl _) _), ?_, (Below.refl _ _).alloc (Nat.le_refl _) _⟩
    unfold BlkS
    rw [← HZ.out]
    exact Lies.new _ _ _
  have HR3 := Lib.hid hr3; have HL3 := Lib.hid hl3; have HB3 := Lib.hid (HB2.out.trans (hb3.mono (Nat.le_trans hB HB2.out.size))); have HS3 := Lib.hid (HS2.out.trans (SavesS.of_below (o := o) hb3))
  clear hr2 hg2 hr3 hl3 hb3
  go_wp2
  go_loopw [8, 15] (fun _ i wr => ∃ (k : Nat), i = .int .i64 (k : Int) ∧ k ≤ n ∧ Hid (Below B w wr) ∧ Hid (SavesS o w wr) ∧ Hid (Rdr wr B o u s (Lc.gets g s q e k).2.1 (Lc.gets g s q e k).2.2) ∧ Hid (BlkS wr w2.heap.size ((Lc.gets g s q e k).1 ++ List.replicate (n - k) Se.zero))) (fun _ i _ => n - (intOf i).toNat)
  case atStart => exact ⟨0, rfl, by omega, HB3, HS3, HR3, HL3⟩
  case round =>
    obtain ⟨k, rfl, hk, HB, HS, HR, HL⟩ := hrel
    by_cases hlt : k < n
    · have hlen := HLEN.out k
      go_wp2_with fail
      refine (HNX.out _ _ _ HR.out (Nat.le_trans hB HB.out.size)).mono ?_
      rintro e5 w5 ⟨rfl, hr5, hb5, hs5⟩
      obtain ⟨t, ht⟩ : ∃ t, t = g s (Lc.gets g s q e k).2.1 (Lc.gets g s q e k).2.2 := ⟨_, rfl⟩
      have HST : Hid (Lc.gets g s q e (k + 1) = ((Lc.gets g s q e k).1 ++ [t.1], t.2)) := by show _ = _; rw [ht]; rfl
      rw [← ht] at hr5 ⊢
      have HR5 := Lib.hid hr5; have HB5 := Lib.hid (HB.out.trans hb5); have HS5 := Lib.hid (HS.out.trans hs5)
      have HL5 := Lib.hid (hs5 _ _ _ (by omega) HL.out)
      have HSET : Hid (((Lc.gets g s q e k).1 ++ List.replicate (n - k) Se.zero).set k t.1 = (Lc.gets g s q e (k + 1)).1 ++ List.replicate (n - (k + 1)) Se.zero) := by
        show _ = _
        rw [HST.out, show n - k = (n - (k + 1)) + 1 by omega, List.replicate_succ, List.set_append_right _ _ (by omega), hlen, Nat.sub_self, List.set_cons_zero]
        simp
      have HLL : Hid (k < ((Lc.gets g s q e k).1 ++ List.replicate (n - k) Se.zero).length ∧ (flatR (((Lc.gets g s q e k).1 ++ List.replicate (n - k) Se.zero).map Se.cells)).length = n * 8) := by
        constructor
        · rw [List.length_append, List.length_replicate, hlen]; omega
        · rw [Se.flat_len8, List.length_append, List.length_replicate, hlen]; omega
      obtain ⟨L, hL⟩ : ∃ L, L = (Lc.gets g s q e k).1 ++ List.replicate (n - k) Se.zero := ⟨_, rfl⟩
      rw [← hL] at HSET HL5 HLL
      clear hr5 hb5 hs5 ht hL hlen
      go_wp2_with (first
        | (refine store_part (by rfl) _ _ _ (by rfl) w2.heap.size (k * 8) _ _ (flatR ((L.set k t.1).map Se.cells)).toArray (.agg (Se.cells t.1)) (Se.cells t.1).toList (by rfl) (by rfl) (by rfl) (by kernel_rfl) (by rw [Array.all_toList]; exact (Se.cells_one _).2) HL5.out (by rw [List.size_toArray, HLL.out.2]; show k * 8 + 8 ≤ _; omega) (Se.flat_split L k t.1 HLL.out.1) ?_
           intro w6 hl hg
           rw [HSET.out] at hl
           have HL6 := Lib.hid hl
           have HR6 := Lib.hid (HR5.out.beside' hg (by omega) (fun h => HL5.out.not_row (by decide) HR5.out.owns h.symm))
           have HB6 := Lib.hid (HB5.out.grown hg (Nat.le_trans hB HB5.out.size) (by rintro x hx; cases hx; exact Nat.le_trans hB HB2.out.size))
           have HS6 : Hid (SavesS o w w6) := fun j T us h1 h2 => (HS5.out j T us h1 h2).kept hg (by have := h2.lt; have := HB2.out.size; simp; omega)
           clear hl hg)
        | fail)
      go_roundw
      case rel =>
        refine ⟨k + 1, by go_num, by omega, HB6, HS6, ?_, HL6⟩
        show Rdr _ _ _ _ _ _ _
        rw [HST.out]
        exact HR6.out
      case measure => simp [intOf]; omega
    · obtain rfl : k = n := by omega
      have hl9 := HL.out
      rw [Nat.sub_self, List.replicate_zero, List.append_nil] at hl9
      have HL9 := Lib.hid hl9
      have hlen := HLEN.out k
      obtain ⟨t, ht⟩ : ∃ t, t = Lc.gets g s q e k := ⟨_, rfl⟩
      rw [← ht] at HG HR HL9 hlen
      clear hl9 ht
      go_wp2
      go_ret
      rw [HG.out]
      exact ⟨_, rfl, .inr ⟨w2.heap.size, by omega, by show _ = Value.slice _ t.1.length t.1.length; rw [hlen]; rfl, by show t.1.length ≤ _; omega, HL9.out⟩, HR.out, HB.out, HS.out⟩

end Go.Proofs.Ytggipagbmmjfbaa
