/- Several texts of mine in one: SoOne SoList. -/
import Derived.Test.YtammfmmpldahhaaGreatGTb
import Derived.Test.YtammfmmpldahhaaGreatGTf
namespace Go.Proofs.YtammfmmpldahhaaGreat
open Go.RowKit

set_option maxRecDepth 4000 in
set_option maxHeartbeats 3200000 in
theorem pairInto_any (w : World) (B o : Nat) (u : Value) (s : List UInt8) (p : Nat) (er : Int) (hr : Rdr w B o u s p er) (hB : B ≤ w.heap.size) (c b k : Nat) (hc : CapR w c o) (hh : B ≤ b) (L : List Kv.Item) (hl : BlkK w b L) (hk : k < L.length) :
    Calls Tryz.prog 61 #[.pointer (some ⟨b, k * 3, none⟩), .pointer (some ⟨c, 0, none⟩)] w (KInto w B o u s b k L (Sn.getP 2 Sn.big2 s p er)) := by
  have ho := hr.lies.lt
  obtain ⟨x1, q1, f1, h1, y1, _, i1, _⟩ := Sn.rtx_res 9223372036854775807 s p er hr.inn
  obtain ⟨n2, q2, f2, h2, y2, _, _, i2, _⟩ := Sn.rnm_res 9223372036854775807 s q1 f1 i1
  obtain ⟨x3, q3, f3, h3, y3, _, i3, _⟩ := Sn.rtx_res 9223372036854775807 s q2 f2 i2
  have HG : Hid (Sn.getP 2 Sn.big2 s p er = (⟨x1, x3, n2⟩, q3, f3)) := by
    show _ = _
    unfold Sn.getP Sn.getK Sn.getN
    dsimp only
    rw [if_pos rfl, h1]
    simp only [Int.toNat_natCast]
    rw [h2]
    simp only [Int.toNat_natCast]
    rw [h3]
    simp only [Int.toNat_natCast]
  have H1 := Lib.hid h1; have H2 := Lib.hid h2; have H3 := Lib.hid h3
  obtain ⟨a, ha⟩ : ∃ a, L[k]? = some a := ⟨_, List.getElem?_eq_getElem hk⟩
  have hco : c ≠ o := hc.unlike hr.lies (by decide)
  have hho : b ≠ o := Lies.unlike hl hr.lies (by decide)
  have hhc : b ≠ c := Lies.unlike hl hc (by decide)
  have hlt : b < w.heap.size := Lies.lt hl
  have HS1 : Hid ((L.set k ⟨x1, a.val, a.rev⟩).set k ⟨x1, a.val, n2⟩ = L.set k ⟨x1, a.val, n2⟩ ∧ (L.set k ⟨x1, a.val, n2⟩).set k ⟨x1, x3, n2⟩ = L.set k ⟨x1, x3, n2⟩) := ⟨List.set_set .., List.set_set ..⟩
  have HK1 : Hid ((L.set k (⟨x1, a.val, a.rev⟩ : Kv.Item))[k]? = some ⟨x1, a.val, a.rev⟩) := List.getElem?_set_self hk
  have HK2 : Hid ((L.set k (⟨x1, a.val, n2⟩ : Kv.Item))[k]? = some ⟨x1, a.val, n2⟩) := List.getElem?_set_self hk
  have HA := Lib.hid ha
  have HR := Lib.hid hr; have HC := Lib.hid hc; have HL := Lib.hid hl
  have C0 := hc.cell 0 _ rfl
  have hBh := Lib.hid hh
  clear h1 h2 h3 hr hc hl i1 i2 i3 ha
  go_enter Tryz.func61, Tryz.ntmps61
  go_wp2_with fail
  refine (rtextL_any 9223372036854775807 _ B o u s p er x1 q1 f1 HR.out y1 H1).mono ?_
  rintro e2 v2 ⟨rfl, hr2, hg2⟩
  have HR2 := Lib.hid hr2
  have HL2 := Lib.hid (Lies.kept HL.out hg2 (by simp; omega))
  have HC2 := Lib.hid (Lies.kept HC.out hg2 (by simp; omega))
  have HB2 := Lib.hid ((Below.refl B w).grown hg2 hB (by rintro x hx; cases hx; exact hr2.base))
  have HS2 : Hid (Saves o b w v2) := fun j T us n1 _ hl => hl.kept hg2 (by simp; omega)
  clear hr2 hg2 C0
  go_wp2_with (first
    | (refine store_kvpart rfl _ _ _ rfl b k 0 L a ⟨x1, a.val, a.rev⟩ _ [.string ⟨x1.toArray⟩] rfl rfl HA.out rfl (by kernel_rfl) rfl HL2.out (Nat.le_of_ble_eq_true rfl) rfl ?_
       intro v3 hl3 hg3
       have HL3 := Lib.hid hl3
       have HR3 := Lib.hid (HR2.out.beside' hg3 hho (fun e => Lies.not_row HL2.out (by decide) HR2.out.owns e.symm))
       have HC3 := Lib.hid (Lies.kept HC2.out hg3 (by simp; omega))
       have HB3 := Lib.hid (HB2.out.grown hg3 (Nat.le_trans hB HB2.out.size) (by rintro x hx; cases hx; exact hBh.out))
       have HS3 : Hid (Saves o b w v3) := fun j T us n1 n2 hl => (HS2.out j T us n1 n2 hl).kept hg3 (by simp; omega)
       have C3 := HC3.out.cell 0 _ rfl
       clear hl3 hg3)
    | fail)
  refine (rnumL_any 9223372036854775807 _ B o u s q1 f1 n2 q2 f2 HR3.out y2 H2).mono ?_
  rintro e4 v4 ⟨rfl, hr4, hg4⟩
  have HR4 := Lib.hid hr4
  have HL4 := Lib.hid (Lies.kept HL3.out hg4 (by simp; omega))
  have HC4 := Lib.hid (Lies.kept HC3.out hg4 (by simp; omega))
  have HB4 := Lib.hid (HB3.out.grown hg4 (Nat.le_trans hB HB3.out.size) (by rintro x hx; cases hx; exact hr4.base))
  have HS4 : Hid (Saves o b w v4) := fun j T us n1 n2 hl => (HS3.out j T us n1 n2 hl).kept hg4 (by simp; omega)
  clear hr4 hg4 C3
  go_wp2_with (first
    | (refine store_kvpart rfl _ _ _ rfl b k 2 (L.set k ⟨x1, a.val, a.rev⟩) ⟨x1, a.val, a.rev⟩ ⟨x1, a.val, n2⟩ _ [.int .i64 n2] rfl rfl HK1.out rfl (by kernel_rfl) rfl HL4.out (Nat.le_of_ble_eq_true rfl) rfl ?_
       intro v5 hl5 hg5
       rw [HS1.out.1] at hl5
       have HL5 := Lib.hid hl5
       have HR5 := Lib.hid (HR4.out.beside' hg5 hho (fun e => Lies.not_row HL4.out (by decide) HR4.out.owns e.symm))
       have HC5 := Lib.hid (Lies.kept HC4.out hg5 (by simp; omega))
       have HB5 := Lib.hid (HB4.out.grown hg5 (Nat.le_trans hB HB4.out.size) (by rintro x hx; cases hx; exact hBh.out))
       have HS5 : Hid (Saves o b w v5) := fun j T us n1 n2 hl => (HS4.out j T us n1 n2 hl).kept hg5 (by simp; omega)
       have C5 := HC5.out.cell 0 _ rfl
       clear hl5 hg5)
    | fail)
  refine (rtextL_any 9223372036854775807 _ B o u s q2 f2 x3 q3 f3 HR5.out y3 H3).mono ?_
  rintro e6 v6 ⟨rfl, hr6, hg6⟩
  have HR6 := Lib.hid hr6
  have HL6 := Lib.hid (Lies.kept HL5.out hg6 (by simp; omega))
  have HB6 := Lib.hid (HB5.out.grown hg6 (Nat.le_trans hB HB5.out.size) (by rintro x hx; cases hx; exact hr6.base))
  have HS6 : Hid (Saves o b w v6) := fun j T us n1 n2 hl => (HS5.out j T us n1 n2 hl).kept hg6 (by simp; omega)
  clear hr6 hg6 C5
  go_wp2_with (first
    | (refine store_kvpart rfl _ _ _ rfl b k 1 (L.set k ⟨x1, a.val, n2⟩) ⟨x1, a.val, n2⟩ ⟨x1, x3, n2⟩ _ [.string ⟨x3.toArray⟩] rfl rfl HK2.out rfl (by kernel_rfl) rfl HL6.out (Nat.le_of_ble_eq_true rfl) rfl ?_
       intro v7 hl7 hg7
       rw [HS1.out.2] at hl7
       have HL7 := Lib.hid hl7
       have HR7 := Lib.hid (HR6.out.beside' hg7 hho (fun e => Lies.not_row HL6.out (by decide) HR6.out.owns e.symm))
       have HB7 := Lib.hid (HB6.out.grown hg7 (Nat.le_trans hB HB6.out.size) (by rintro x hx; cases hx; exact hBh.out))
       have HS7 : Hid (Saves o b w v7) := fun j T us n1 n2 hl => (HS6.out j T us n1 n2 hl).kept hg7 (by simp; omega)
       clear hl7 hg7)
    | fail)
  go_end0
  rw [HG.out]
  exact ⟨rfl, HL7.out, HR7.out, HB7.out, HS7.out⟩

set_option maxRecDepth 4000 in
set_option maxHeartbeats 3200000 in
theorem sesInto_any (w : World) (B o : Nat) (u : Value) (s : List UInt8) (p : Nat) (er : Int) (hr : Rdr w B o u s p er) (hB : B ≤ w.heap.size) (c b k : Nat) (hc : CapR w c o) (hh : B ≤ b) (L : List Se.Ses) (hl : BlkS w b L) (hk : k < L.length) :
    Calls Tryz.prog 64 #[.pointer (some ⟨b, k * 8, none⟩), .pointer (some ⟨c, 0, none⟩)] w (SInto w B o u s b k L (Sn.getS 2 s p er)) := by
  have ho := hr.lies.lt
  obtain ⟨t, ht⟩ : ∃ t, t = An.get 2 s p er := ⟨_, rfl⟩
  have HG : Hid (Sn.getS 2 s p er = (Se.of t.1, t.2)) := by show _ = _; rw [ht]; rfl
  obtain ⟨a, ha⟩ : ∃ a, L[k]? = some a := ⟨_, List.getElem?_eq_getElem hk⟩
  have hco : c ≠ o := hc.unlike hr.lies (by decide)
  have hho : b ≠ o := Lies.unlike hl hr.lies (by decide)
  have hhc : b ≠ c := Lies.unlike hl hc (by decide)
  have hlt : b < w.heap.size := Lies.lt hl
  have HSS : Hid ((L.set k ⟨a.client, a.seq, t.1⟩).set k (Se.of t.1) = L.set k (Se.of t.1)) := List.set_set ..
  have HK1 : Hid ((L.set k (⟨a.client, a.seq, t.1⟩ : Se.Ses))[k]? = some ⟨a.client, a.seq, t.1⟩) := List.getElem?_set_self hk
  have HA := Lib.hid ha
  have HR := Lib.hid hr; have HC := Lib.hid hc; have HL := Lib.hid hl
  have C0 := hc.cell 0 _ rfl
  have hBh := Lib.hid hh
  have HT := Lib.hid ht
  clear hr hc hl ha ht
  go_enter Tryz.func64, Tryz.ntmps64
  go_wp2_with fail
  refine (agot_any 2 _ B o u s p er HR.out hB).mono ?_
  rw [← HT.out]
  rintro e2 v2 ⟨rfl, hr2, hb2, hs2⟩
  have HR2 := Lib.hid hr2
  have HL2 := Lib.hid (hs2 _ _ _ hho hho HL.out)
  have HB2 := Lib.hid hb2
  have HS2 : Hid (Saves o b w v2) := fun j T us n1 _ hl => hs2 j T us n1 n1 hl
  clear hr2 hb2 hs2 C0
  go_wp2_with (first
    | (refine store_sespart rfl _ _ _ rfl b k 2 L a ⟨a.client, a.seq, t.1⟩ (.agg (An.cells t.1)) (An.cells t.1).toList rfl rfl HA.out rfl (by kernel_rfl) rfl HL2.out (Nat.le_of_ble_eq_true rfl) rfl ?_
       intro v3 hl3 hg3
       have HL3 := Lib.hid hl3
       have HR3 := Lib.hid (HR2.out.beside' hg3 hho (fun e => Lies.not_row HL2.out (by decide) HR2.out.owns e.symm))
       have HB3 := Lib.hid (HB2.out.grown hg3 (Nat.le_trans hB HB2.out.size) (by rintro x hx; cases hx; exact hBh.out))
       have HS3 : Hid (Saves o b w v3) := fun j T us n1 n2 hl => (HS2.out j T us n1 n2 hl).kept hg3 (by simp; omega)
       clear hl3 hg3
       refine Hid.out ?_)
    | fail)
  refine Lib.hid ?_
  obtain ⟨z, hz⟩ : ∃ z, z = k * 8 := ⟨_, rfl⟩
  have c0 : v3.cell? ⟨b, k * 8, none⟩ = some (.int .i64 a.client) := BlkS.at HL3.out HK1.out 0 _ rfl
  have c1 : v3.cell? ⟨b, k * 8 + 1, none⟩ = some (.int .i64 a.seq) := BlkS.at HL3.out HK1.out 1 _ rfl
  have c2 : v3.cell? ⟨b, k * 8 + 2, none⟩ = some (.int .i64 t.1.client) := BlkS.at HL3.out HK1.out 2 _ rfl
  have c3 : v3.cell? ⟨b, k * 8 + 3, none⟩ = some (.int .i64 t.1.seq) := BlkS.at HL3.out HK1.out 3 _ rfl
  have f0 := Lies.free HL3.out (k * 8)
  have f1 := Lies.free HL3.out (k * 8 + 1)
  rw [← hz] at c0 c1 c2 c3 f0 f1 ⊢
  have HZ := Lib.hid hz
  clear hz
  go_wp2
  go_region
  obtain ⟨w4, hw4⟩ : ∃ w4, w4 = (v3.setCell ⟨b, z, none⟩ (.int .i64 t.1.client)).setCell ⟨b, z + 1, none⟩ (.int .i64 t.1.seq) := ⟨_, rfl⟩
  rw [← hw4]
  have hg4 : v3.grownBy w4 (some b) := by rw [hw4]; exact grown_on (grown_set _ _ _ _) (grown_set _ _ _ _)
  have hl4 : BlkS w4 b (L.set k (Se.of t.1)) := by
    rw [hw4, ← HSS.out]
    refine Lies.partly [.int .i64 t.1.client, .int .i64 t.1.seq] z v3 (flatR ((L.set k ⟨a.client, a.seq, t.1⟩).map Se.cells)) _ HL3.out ?_ ?_
    · rw [Se.flat_len8, List.length_set, HZ.out]
      show k * 8 + 2 ≤ _
      omega
    · have hf := flatR_mid (Se.sized (L.set k ⟨a.client, a.seq, t.1⟩)) (i := k) (r := Se.cells ⟨a.client, a.seq, t.1⟩) (by rw [List.getElem?_map, HK1.out]; rfl) 0 [.int .i64 t.1.client, .int .i64 t.1.seq] (Se.cells (Se.of t.1)) (Nat.le_of_ble_eq_true rfl) rfl
      rw [List.map_set, HZ.out]
      exact hf
  have hd : Below w4.heap.size w4 w4.drew := drawn w4 1
  have HR4 := HR3.out.beside' hg4 hho (fun e => Lies.not_row HL3.out (by decide) HR3.out.owns e.symm)
  have HB4 := HB3.out.grown hg4 (Nat.le_trans hB HB3.out.size) (by rintro x hx; cases hx; exact hBh.out)
  clear hw4 c0 c1 c2 c3 f0 f1
  go_end0
  rw [HG.out]
  exact ⟨rfl, Lies.below hl4 hd (Lies.lt hl4), HR4.kept hd, HB4.trans (hd.mono (Nat.le_trans hB HB4.size)), fun j T us n1 n2 hl => by
    have h4 := (HS3.out j T us n1 n2 hl).kept hg4 (by simp; omega)
    exact h4.below hd h4.lt⟩

end Go.Proofs.YtammfmmpldahhaaGreat


namespace Go.Proofs.YtammfmmpldahhaaGreat
open Go.RowKit

set_option maxRecDepth 4000 in
set_option maxHeartbeats 3200000 in
theorem fillK_any (w : World) (B o : Nat) (u : Value) (s : List UInt8) (q : Nat) (e : Int) (n : Nat) (hr : Rdr w B o u s q e) (hB : B ≤ w.heap.size) (c : Nat) (hc : CapR w c o) (hn : n ≤ 1000) :
    Calls Tryz.prog 59 #[.int .i64 (n : Int), .func (.func 61) #[] #[.pointer (some ⟨c, 0, none⟩)]] w (KsGot w B o u s (Lc.gets (Sn.getP 2 Sn.big2) s q e n)) := by
  have ho := hr.lies.lt
  have hcl := Lies.lt hc
  have hco : c ≠ o := hc.unlike hr.lies (by decide)
  have HR := Lib.hid hr
  have HC := Lib.hid hc
  have HLEN := Lib.hid (Lc.gets_len (Sn.getP 2 Sn.big2) s q e)
  clear hr hc
  have hmk := fun W : World => run_make (P := Tryz.prog) W 22 62 (Classical.choose (info_parts info_kv)) (.agg (Kv.cells Kv.zero)) Tryz.underlying22 (Classical.choose_spec (info_parts info_kv)).1 (Classical.choose_spec (info_parts info_kv)).2.1 .i64 .i64 (n : Int) (n : Int) (by omega) (by omega) (by rw [(Classical.choose_spec (info_parts info_kv)).2.2.2]; omega) (by omega)
  rw [(Classical.choose_spec (info_parts info_kv)).2.2.1] at hmk
  simp only [Int.toNat_natCast] at hmk
  rw [Kv.made n] at hmk
  obtain ⟨Z, hZ⟩ : ∃ Z, Z = (flatR ((List.replicate n Kv.zero).map Kv.cells)).toArray := ⟨_, rfl⟩
  rw [← hZ] at hmk
  obtain ⟨w3, e3, hr3, hl3, hb3⟩ : ∃ w3, w.alloc (.cells Z 62) = w3 ∧ Rdr w3 B o u s q e ∧ BlkK w3 w.heap.size (List.replicate n Kv.zero) ∧ Below w.heap.size w w3 := by
    refine ⟨_, rfl, HR.out.kept ((Below.refl _ _).alloc (Nat.le_refl _) _), ?_, (Below.refl _ _).alloc (Nat.le_refl _) _⟩
    unfold BlkK
    rw [← hZ]
    exact Lies.new _ _ _
  have HR3 := Lib.hid hr3; have HL3 := Lib.hid hl3; have HB3 := Lib.hid (hb3.mono hB); have HS3 := Lib.hid (SavesS.of_below (o := o) hb3)
  have HC3 := Lib.hid (HC.out.below hb3 hcl)
  clear hr3 hl3 hb3 hZ HR HC
  go_enter Tryz.func59, Tryz.ntmps59
  go_wp2
  go_loopw [6, 11] (fun _ i wr => ∃ (k : Nat), i = .int .i64 (k : Int) ∧ k ≤ n ∧ Hid (Below B w wr) ∧ Hid (SavesS o w wr) ∧ Hid (CapR wr c o) ∧ Hid (Rdr wr B o u s (Lc.gets (Sn.getP 2 Sn.big2) s q e k).2.1 (Lc.gets (Sn.getP 2 Sn.big2) s q e k).2.2) ∧ Hid (BlkK wr w.heap.size ((Lc.gets (Sn.getP 2 Sn.big2) s q e k).1 ++ List.replicate (n - k) Kv.zero))) (fun _ i _ => n - (intOf i).toNat)
  case atStart => exact ⟨0, rfl, by omega, HB3, HS3, HC3, HR3, HL3⟩
  case round =>
    obtain ⟨k, rfl, hk, HB, HS, HC, HR, HL⟩ := hrel
    by_cases hlt : k < n
    · have hlen := HLEN.out k
      obtain ⟨t, ht⟩ : ∃ t, t = (Sn.getP 2 Sn.big2) s (Lc.gets (Sn.getP 2 Sn.big2) s q e k).2.1 (Lc.gets (Sn.getP 2 Sn.big2) s q e k).2.2 := ⟨_, rfl⟩
      have HST : Hid (Lc.gets (Sn.getP 2 Sn.big2) s q e (k + 1) = ((Lc.gets (Sn.getP 2 Sn.big2) s q e k).1 ++ [t.1], t.2)) := by show _ = _; rw [ht]; rfl
      have HSET : Hid (((Lc.gets (Sn.getP 2 Sn.big2) s q e k).1 ++ List.replicate (n - k) Kv.zero).set k t.1 = (Lc.gets (Sn.getP 2 Sn.big2) s q e (k + 1)).1 ++ List.replicate (n - (k + 1)) Kv.zero) := by
        show _ = _
        rw [HST.out, show n - k = (n - (k + 1)) + 1 by omega, List.replicate_succ, List.set_append_right _ _ (by omega), hlen, Nat.sub_self, List.set_cons_zero]
        simp
      have HLL : Hid (k < ((Lc.gets (Sn.getP 2 Sn.big2) s q e k).1 ++ List.replicate (n - k) Kv.zero).length) := by
        show _ < _
        rw [List.length_append, List.length_replicate, hlen]; omega
      have HIN := Lib.hid (pairInto_any wr B o u s (Lc.gets (Sn.getP 2 Sn.big2) s q e k).2.1 (Lc.gets (Sn.getP 2 Sn.big2) s q e k).2.2 HR.out (Nat.le_trans hB HB.out.size) c w.heap.size k HC.out hB _ HL.out HLL.out)
      rw [← ht] at HIN
      clear ht hlen
      go_wp2_with fail
      refine HIN.out.mono ?_
      rintro e5 w5 ⟨rfl, hl5, hr5, hb5, hs5⟩
      rw [HSET.out] at hl5
      have HL5 := Lib.hid hl5; have HR5 := Lib.hid hr5; have HB5 := Lib.hid (HB.out.trans hb5)
      have HS5 : Hid (SavesS o w w5) := fun j T us n1 hl => hs5 j T us n1 (by have := hl.lt; omega) (HS.out j T us n1 hl)
      have HC5 := Lib.hid (hs5 _ _ _ hco (by omega) HC.out)
      clear hl5 hr5 hb5 hs5 HIN HSET HLL
      go_wp2
      go_roundw
      case rel =>
        refine ⟨k + 1, by go_num, by omega, HB5, HS5, HC5, ?_, HL5⟩
        show Rdr _ _ _ _ _ _ _
        rw [HST.out]
        exact HR5.out
      case measure => simp [intOf]; omega
    · obtain rfl : k = n := by omega
      have hl9 := HL.out
      rw [Nat.sub_self, List.replicate_zero, List.append_nil] at hl9
      have HL9 := Lib.hid hl9
      have hlen := HLEN.out k
      obtain ⟨t, ht⟩ : ∃ t, t = Lc.gets (Sn.getP 2 Sn.big2) s q e k := ⟨_, rfl⟩
      rw [← ht] at HR HL9 hlen
      have HT := Lib.hid ht
      clear hl9 ht
      go_wp2
      go_ret
      rw [← HT.out]
      exact ⟨_, rfl, .inr ⟨w.heap.size, by omega, by show _ = Value.slice _ t.1.length t.1.length; rw [hlen]; rfl, by show t.1.length ≤ _; omega, HL9.out⟩, HR.out, HB.out, HS.out⟩

set_option maxRecDepth 4000 in
set_option maxHeartbeats 3200000 in
theorem fillS_any (w : World) (B o : Nat) (u : Value) (s : List UInt8) (q : Nat) (e : Int) (n : Nat) (hr : Rdr w B o u s q e) (hB : B ≤ w.heap.size) (c : Nat) (hc : CapR w c o) (hn : n ≤ 1000) :
    Calls Tryz.prog 63 #[.int .i64 (n : Int), .func (.func 64) #[] #[.pointer (some ⟨c, 0, none⟩)]] w (SsGot w B o u s (Lc.gets (Sn.getS 2) s q e n)) := by
  have ho := hr.lies.lt
  have hcl := Lies.lt hc
  have hco : c ≠ o := hc.unlike hr.lies (by decide)
  have HR := Lib.hid hr
  have HC := Lib.hid hc
  have HLEN := Lib.hid (Lc.gets_len (Sn.getS 2) s q e)
  clear hr hc
  have hmk := fun W : World => run_make (P := Tryz.prog) W 23 55 (Classical.choose (info_parts info_ses)) (.agg (Se.cells Se.zero)) Tryz.underlying23 (Classical.choose_spec (info_parts info_ses)).1 (Classical.choose_spec (info_parts info_ses)).2.1 .i64 .i64 (n : Int) (n : Int) (by omega) (by omega) (by rw [(Classical.choose_spec (info_parts info_ses)).2.2.2]; omega) (by omega)
  rw [(Classical.choose_spec (info_parts info_ses)).2.2.1] at hmk
  simp only [Int.toNat_natCast] at hmk
  rw [Se.made n] at hmk
  obtain ⟨Z, hZ⟩ : ∃ Z, Z = (flatR ((List.replicate n Se.zero).map Se.cells)).toArray := ⟨_, rfl⟩
  rw [← hZ] at hmk
  obtain ⟨w3, e3, hr3, hl3, hb3⟩ : ∃ w3, w.alloc (.cells Z 55) = w3 ∧ Rdr w3 B o u s q e ∧ BlkS w3 w.heap.size (List.replicate n Se.zero) ∧ Below w.heap.size w w3 := by
    refine ⟨_, rfl, HR.out.kept ((Below.refl _ _).alloc (Nat.le_refl _) _), ?_, (Below.refl _ _).alloc (Nat.le_refl _) _⟩
    unfold BlkS
    rw [← hZ]
    exact Lies.new _ _ _
  have HR3 := Lib.hid hr3; have HL3 := Lib.hid hl3; have HB3 := Lib.hid (hb3.mono hB); have HS3 := Lib.hid (SavesS.of_below (o := o) hb3)
  have HC3 := Lib.hid (HC.out.below hb3 hcl)
  clear hr3 hl3 hb3 hZ HR HC
  go_enter Tryz.func63, Tryz.ntmps63
  go_wp2
  go_loopw [6, 11] (fun _ i wr => ∃ (k : Nat), i = .int .i64 (k : Int) ∧ k ≤ n ∧ Hid (Below B w wr) ∧ Hid (SavesS o w wr) ∧ Hid (CapR wr c o) ∧ Hid (Rdr wr B o u s (Lc.gets (Sn.getS 2) s q e k).2.1 (Lc.gets (Sn.getS 2) s q e k).2.2) ∧ Hid (BlkS wr w.heap.size ((Lc.gets (Sn.getS 2) s q e k).1 ++ List.replicate (n - k) Se.zero))) (fun _ i _ => n - (intOf i).toNat)
  case atStart => exact ⟨0, rfl, by omega, HB3, HS3, HC3, HR3, HL3⟩
  case round =>
    obtain ⟨k, rfl, hk, HB, HS, HC, HR, HL⟩ := hrel
    by_cases hlt : k < n
    · have hlen := HLEN.out k
      obtain ⟨t, ht⟩ : ∃ t, t = (Sn.getS 2) s (Lc.gets (Sn.getS 2) s q e k).2.1 (Lc.gets (Sn.getS 2) s q e k).2.2 := ⟨_, rfl⟩
      have HST : Hid (Lc.gets (Sn.getS 2) s q e (k + 1) = ((Lc.gets (Sn.getS 2) s q e k).1 ++ [t.1], t.2)) := by show _ = _; rw [ht]; rfl
      have HSET : Hid (((Lc.gets (Sn.getS 2) s q e k).1 ++ List.replicate (n - k) Se.zero).set k t.1 = (Lc.gets (Sn.getS 2) s q e (k + 1)).1 ++ List.replicate (n - (k + 1)) Se.zero) := by
        show _ = _
        rw [HST.out, show n - k = (n - (k + 1)) + 1 by omega, List.replicate_succ, List.set_append_right _ _ (by omega), hlen, Nat.sub_self, List.set_cons_zero]
        simp
      have HLL : Hid (k < ((Lc.gets (Sn.getS 2) s q e k).1 ++ List.replicate (n - k) Se.zero).length) := by
        show _ < _
        rw [List.length_append, List.length_replicate, hlen]; omega
      have HIN := Lib.hid (sesInto_any wr B o u s (Lc.gets (Sn.getS 2) s q e k).2.1 (Lc.gets (Sn.getS 2) s q e k).2.2 HR.out (Nat.le_trans hB HB.out.size) c w.heap.size k HC.out hB _ HL.out HLL.out)
      rw [← ht] at HIN
      clear ht hlen
      go_wp2_with fail
      refine HIN.out.mono ?_
      rintro e5 w5 ⟨rfl, hl5, hr5, hb5, hs5⟩
      rw [HSET.out] at hl5
      have HL5 := Lib.hid hl5; have HR5 := Lib.hid hr5; have HB5 := Lib.hid (HB.out.trans hb5)
      have HS5 : Hid (SavesS o w w5) := fun j T us n1 hl => hs5 j T us n1 (by have := hl.lt; omega) (HS.out j T us n1 hl)
      have HC5 := Lib.hid (hs5 _ _ _ hco (by omega) HC.out)
      clear hl5 hr5 hb5 hs5 HIN HSET HLL
      go_wp2
      go_roundw
      case rel =>
        refine ⟨k + 1, by go_num, by omega, HB5, HS5, HC5, ?_, HL5⟩
        show Rdr _ _ _ _ _ _ _
        rw [HST.out]
        exact HR5.out
      case measure => simp [intOf]; omega
    · obtain rfl : k = n := by omega
      have hl9 := HL.out
      rw [Nat.sub_self, List.replicate_zero, List.append_nil] at hl9
      have HL9 := Lib.hid hl9
      have hlen := HLEN.out k
      obtain ⟨t, ht⟩ : ∃ t, t = Lc.gets (Sn.getS 2) s q e k := ⟨_, rfl⟩
      rw [← ht] at HR HL9 hlen
      have HT := Lib.hid ht
      clear hl9 ht
      go_wp2
      go_ret
      rw [← HT.out]
      exact ⟨_, rfl, .inr ⟨w.heap.size, by omega, by show _ = Value.slice _ t.1.length t.1.length; rw [hlen]; rfl, by show t.1.length ≤ _; omega, HL9.out⟩, HR.out, HB.out, HS.out⟩

end Go.Proofs.YtammfmmpldahhaaGreat
