/- Several texts of mine in one: SnPut SnEnc SoEnc. -/
import Derived.Test.YtammfmmpldahhaaGreatAnsPut
import Derived.Deep.RegionHeld3
import Derived.Test.YtammfmmpldahhaaGreatGTf
import Derived.Test.YtammfmmpldahhaaGreatGSw
namespace Go.Proofs.YtammfmmpldahhaaGreat
open Go.RowKit

set_option maxRecDepth 4000 in
set_option maxHeartbeats 3200000 in
theorem awrite_at (v : Int) (a : An.Ans) (w : World) (B o g : Nat) (u : Value) (pre : List UInt8) (hw : Wrt w B o u pre) (hpre : pre.length ≤ 35184372088832) (hB : B ≤ w.heap.size) (hg : Lies w g 3 #[.int .i64 v]) (hgo : g ≠ o) (hf : a.Fits) (hs : a.val.length ≤ 1000) :
    Calls Tryz.prog 77 #[.pointer (some ⟨o, 0, none⟩), .agg (An.cells a), More g] w (PutGot w B o (pre ++ An.bytes v a)) := by
  have ho := hw.lies.lt
  obtain ⟨w1, e1, hl1, hB1, hz1⟩ := box_ans w a
  have hbo : w.heap.size ≠ o := by omega
  obtain ⟨p0, p1, p2, p3, p4, p5⟩ := Anss.every hl1
  have n1 := enc_nine (n := a.client.toNat) (by have := hf.c1; omega)
  have n2 := enc_nine (n := a.seq.toNat) (by have := hf.q1; omega)
  have n3 := enc_nine (n := a.err.toNat) (by have := hf.e1; omega)
  have n4 : (Pk.flag a.found).length = 1 := rfl
  have n5 : (Pk.text a.val).length ≤ 1009 := by have := enc_nine (n := a.val.length) (by omega); simp [Pk.text]; omega
  have HN := Lib.hid (And.intro n1 (And.intro n2 (And.intro n3 (And.intro n4 n5))))
  clear n1 n2 n3 n4 n5
  have HBY : Hid (An.bytes v a = enc a.client.toNat ++ enc a.seq.toNat ++ enc a.err.toNat ++ Pk.flag a.found ++ Pk.text a.val ++ An.tail v a) := rfl
  have HF := Lib.hid hf
  have HL1 := Lib.hid hl1; have HB1 := Lib.hid (hB1.mono hB)
  have HW1 := Lib.hid (hw.grown hB1)
  have HG1 := Lib.hid (hg.below hB1 hg.lt)
  have HS1 := Lib.hid (Spares.of_below (o := o) hB1)
  have HZ1 := Lib.hid (Nat.le_trans hB hB1.size)
  clear hl1 hB1 hz1 hw hg hf
  go_enter Tryz.func77, Tryz.ntmps77
  go_wp2_with fail
  refine (wnum_spares a.client _ B o u pre HW1.out HZ1.out (by omega) HF.out.c0 HF.out.c1).mono ?_
  rintro e w2 ⟨rfl, u2, hw2, hs2, hb2⟩
  have hl2 := hs2 _ _ _ hbo (by decide) HL1.out
  obtain ⟨q0, q1, q2, q3, q4, q5⟩ := Anss.every hl2
  have HL2 := Lib.hid hl2
  have HG2 := Lib.hid (hs2 _ _ _ hgo (by decide) HG1.out)
  have HW2 := Lib.hid hw2
  have HB2 := Lib.hid (HB1.out.trans hb2)
  have HS2 := Lib.hid (HS1.out.trans hs2)
  clear hl2 hw2 hs2 hb2 p0 p1 p2 p3 p4 p5
  go_wp2_with fail
  refine (wnum_spares a.seq _ B o u2 _ HW2.out (Nat.le_trans hB HB2.out.size) (by have := HN.out; simp only [List.length_append]; omega) HF.out.q0 HF.out.q1).mono ?_
  rintro e w3 ⟨rfl, u3, hw3, hs3, hb3⟩
  have hl3 := hs3 _ _ _ hbo (by decide) HL2.out
  obtain ⟨p0, p1, p2, p3, p4, p5⟩ := Anss.every hl3
  have HL3 := Lib.hid hl3
  have HG3 := Lib.hid (hs3 _ _ _ hgo (by decide) HG2.out)
  have HW3 := Lib.hid hw3
  have HB3 := Lib.hid (HB2.out.trans hb3)
  have HS3 := Lib.hid (HS2.out.trans hs3)
  clear hl3 hw3 hs3 hb3 q0 q1 q2 q3 q4 q5
  go_wp2_with fail
  refine (wnum_spares a.err _ B o u3 _ HW3.out (Nat.le_trans hB HB3.out.size) (by have := HN.out; simp only [List.length_append]; omega) HF.out.e0 HF.out.e1).mono ?_
  rintro e w4 ⟨rfl, u4, hw4, hs4, hb4⟩
  have hl4 := hs4 _ _ _ hbo (by decide) HL3.out
  obtain ⟨q0, q1, q2, q3, q4, q5⟩ := Anss.every hl4
  have HL4 := Lib.hid hl4
  have HG4 := Lib.hid (hs4 _ _ _ hgo (by decide) HG3.out)
  have HW4 := Lib.hid hw4
  have HB4 := Lib.hid (HB3.out.trans hb4)
  have HS4 := Lib.hid (HS3.out.trans hs4)
  clear hl4 hw4 hs4 hb4 p0 p1 p2 p3 p4 p5
  go_wp2_with fail
  refine (wflag_spares a.found _ B o u4 _ HW4.out (Nat.le_trans hB HB4.out.size) (by have := HN.out; simp only [List.length_append]; omega)).mono ?_
  rintro e w5 ⟨rfl, u5, hw5, hs5, hb5⟩
  have hl5 := hs5 _ _ _ hbo (by decide) HL4.out
  obtain ⟨p0, p1, p2, p3, p4, p5⟩ := Anss.every hl5
  have HL5 := Lib.hid hl5
  have HG5 := Lib.hid (hs5 _ _ _ hgo (by decide) HG4.out)
  have HW5 := Lib.hid hw5
  have HB5 := Lib.hid (HB4.out.trans hb5)
  have HS5 := Lib.hid (HS4.out.trans hs5)
  clear hl5 hw5 hs5 hb5 q0 q1 q2 q3 q4 q5
  go_wp2_with fail
  refine (wtext_spares a.val _ B o u5 _ HW5.out (Nat.le_trans hB HB5.out.size) (by have := HN.out; simp only [List.length_append]; omega) (by omega)).mono ?_
  rintro e w6 ⟨rfl, u6, hw6, hs6, hb6⟩
  have hl6 := hs6 _ _ _ hbo (by decide) HL5.out
  obtain ⟨q0, q1, q2, q3, q4, q5⟩ := Anss.every hl6
  have HL6 := Lib.hid hl6
  have HG6 := Lib.hid (hs6 _ _ _ hgo (by decide) HG5.out)
  have HW6 := Lib.hid hw6
  have HB6 := Lib.hid (HB5.out.trans hb6)
  have HS6 := Lib.hid (HS5.out.trans hs6)
  clear hl6 hw6 hs6 hb6 p0 p1 p2 p3 p4 p5
  go_wp2_with fail
  refine (more_any v g _ HG6.out).mono ?_
  rintro e w7 ⟨rfl, rfl⟩
  by_cases hv : v = 2
  · have hv2 : (v == 2) = true := by simpa using hv
    rw [hv2]
    go_wp2_with fail
    refine (wnum_spares a.rev _ B o u6 _ HW6.out (Nat.le_trans hB HB6.out.size) (by have := HN.out; simp only [List.length_append]; omega) HF.out.r0 HF.out.r1).mono ?_
    rintro e w7 ⟨rfl, u7, hw7, hs7, hb7⟩
    go_wp2
    go_end0
    refine ⟨rfl, u7, ?_, HS6.out.trans hs7, HB6.out.trans hb7⟩
    rw [HBY.out, show An.tail v a = enc a.rev.toNat from if_pos hv]
    simp only [List.append_assoc] at hw7 ⊢
    exact hw7
  · have hv2 : (v == 2) = false := by simpa using hv
    rw [hv2]
    go_wp2
    go_end0
    refine ⟨rfl, u6, ?_, HS6.out, HB6.out⟩
    have hw6 := HW6.out
    rw [HBY.out, show An.tail v a = [] from if_neg hv, List.append_nil]
    simp only [List.append_assoc] at hw6 ⊢
    exact hw6

set_option maxRecDepth 4000 in
set_option maxHeartbeats 1600000 in
theorem aput_at (v : Int) (a : An.Ans) (w : World) (B o : Nat) (u : Value) (pre : List UInt8) (hw : Wrt w B o u pre) (hpre : pre.length ≤ 35184372088832) (hB : B ≤ w.heap.size) (hf : a.Fits) (hs : a.val.length ≤ 1000) :
    Calls Tryz.prog 48 #[.pointer (some ⟨o, 0, none⟩), .int .i64 v, .agg (An.cells a)] w (PutGot w B o (pre ++ An.bytes v a)) := by
  have ho := hw.lies.lt
  obtain ⟨w1, e1, hl1, hB1, hz1⟩ := box_ans w a
  obtain ⟨p0, p1, p2, p3, p4, p5⟩ := Anss.every hl1
  have HL1 := Lib.hid hl1; have HB1 := Lib.hid (hB1.mono hB)
  have HW1 := Lib.hid (hw.grown hB1)
  have HS1 := Lib.hid (Spares.of_below (o := o) hB1)
  have HZ1 := Lib.hid hB1.size
  have hbo : w.heap.size ≠ o := by omega
  clear hl1 hB1 hz1 hw
  go_enter Tryz.func48, Tryz.ntmps48
  go_wp2
  have HL1d := Lib.hid (HL1.out.below (Below.refl _ _).drew HL1.out.lt)
  have HW1d := Lib.hid (HW1.out.grown (Below.refl _ _).drew)
  go_region_held3 (fun w' => w'.cell? ⟨w.heap.size, 0, none⟩ = some (.int .i64 a.client) ∧ w'.cell? ⟨w.heap.size, 1, none⟩ = some (.int .i64 a.seq) ∧ w'.cell? ⟨w.heap.size, 2, none⟩ = some (.int .i64 a.err) ∧ w'.cell? ⟨w.heap.size, 3, none⟩ = some (.bool a.found) ∧
    w'.cell? ⟨w.heap.size, 4, none⟩ = some (.string ⟨a.val.toArray⟩) ∧ w'.cell? ⟨w.heap.size, 5, none⟩ = some (.int .i64 a.rev)) (first | go_keep | exact K3) (first
      | (go_at_call 78; refine (longer_any v _).mono ?_; rintro e3 w3 ⟨rfl, hg3, hb3⟩
         have K3 := Anss.every (HL1d.out.below hb3 HL1d.out.lt))
      | (go_at_call 77; refine (awrite_at v a _ B o _ u pre (HW1d.out.grown hb3) hpre (Nat.le_trans hB (Nat.le_trans HZ1.out hb3.size)) hg3 (by have := HZ1.out; simp; omega) hf hs).mono ?_; rintro e4 w4 ⟨rfl, u4, hw4, hs4, hb4⟩
         have K3 := Anss.every (hs4 _ _ _ hbo (by decide) (HL1d.out.below hb3 HL1d.out.lt))))
  all_goals
    go_wp2
    go_end0
    exact ⟨rfl, u4, hw4, HS1.out.trans ((Spares.of_below (Below.refl _ _).drew).trans ((Spares.of_below hb3).trans hs4)), HB1.out.drew.trans ((hb3.mono (Nat.le_trans hB HZ1.out)).trans hb4)⟩

end Go.Proofs.YtammfmmpldahhaaGreat


namespace Go.Proofs.YtammfmmpldahhaaGreat
open Go.RowKit

theorem Sn.pbytes1 (p : Kv.Item) : Sn.pbytes 1 p = Pk.text p.key ++ Pk.text p.val := by
  unfold Sn.pbytes Sn.pmid
  rw [if_neg (by decide), List.nil_append]

/-- What a writing leaves. -/
def WroteSn (w : World) (B o : Nat) (m : List UInt8) (e : Ending) (w' : World) : Prop := e = .returned (.tuple #[]) ∧ ∃ u, Wrt w' B o u m ∧ Below B w w'

set_option maxRecDepth 4000 in
set_option maxHeartbeats 3200000 in
theorem writePairs_any (L : List Kv.Item) (v : Value) (w0 w : World) (B o : Nat) (u : Value) (pre : List UInt8) (hw : Wrt w B o u pre) (hpre : pre.length ≤ 4000000) (hB : B ≤ w.heap.size) (h0 : w0.heap.size ≤ B) (hb0 : Below w0.heap.size w0 w) (hr : ReadsK w0 v L) (hf : ∀ e ∈ L, (e.key.length ≤ 1000 ∧ e.val.length ≤ 1000) ∧ (-9223372036854775808 ≤ e.rev ∧ e.rev ≤ 9223372036854775807)) (hn : L.length ≤ 1000) :
    Calls Tryz.prog 42 #[.pointer (some ⟨o, 0, none⟩), v] w (WroteSn w B o (pre ++ Lc.bytes (Sn.pbytes 1) L)) := by
  obtain ⟨ao, cap, rfl, hc1, hc2⟩ := ReadsK.shape hr
  have HP := Lib.hid (fun h => ReadsK.places hr h)
  have HFK := Lib.hid hf
  have HL : Hid (∀ k, ((L.take k).flatMap (Sn.pbytes 1)).length ≤ 3000000) := by
    intro k
    have h1 := Sn.flat_len (Sn.pbytes 1) 3000 (L.take k) fun p hp => Sn.pbytes_len _ p (hf p (List.mem_of_mem_take hp))
    rw [List.length_take] at h1
    have h3 : 3000 * min k L.length ≤ 3000 * 1000 := Nat.mul_le_mul_left _ (by omega)
    omega
  have HRES : Hid (pre ++ Lc.bytes (Sn.pbytes 1) L = pre ++ enc L.length ++ L.flatMap (Sn.pbytes 1)) := by
    show _ = _
    unfold Lc.bytes
    simp only [List.append_assoc]
  obtain ⟨RES, hRES⟩ : ∃ RES, RES = pre ++ Lc.bytes (Sn.pbytes 1) L := ⟨_, rfl⟩
  rw [← hRES] at HRES ⊢
  obtain ⟨n, hN⟩ : ∃ n, n = L.length := ⟨_, rfl⟩
  rw [← hN] at HP HRES hn hc1 ⊢
  have HN := Lib.hid hN
  have HBO : Hid (∀ W, Below B w W → Below w0.heap.size w0 W) := fun W hb => hb0.trans (hb.mono h0)
  have HW := Lib.hid hw
  clear hN hRES hw hb0 hr hf
  go_enter Tryz.func42, Tryz.ntmps42
  go_wp2_with fail
  refine (wnum_spares (n : Int) _ B o _ pre HW.out hB (by omega) (by omega) (by omega)).mono ?_
  rintro e w4 ⟨rfl, u4, hw4, _, hb4⟩
  rw [Int.toNat_natCast] at hw4
  have hk4 : (enc n).length ≤ 9 := enc_nine (by omega)
  obtain ⟨K, hK⟩ : ∃ K, K = pre ++ enc n := ⟨_, rfl⟩
  have hlK : K.length ≤ 4000009 := by rw [hK, List.length_append]; omega
  rw [← hK] at hw4 HRES
  have HW4 := Lib.hid hw4
  have HB4 := Lib.hid hb4
  clear hw4 hb4 hK HW
  go_wp2
  go_loopw [12] (fun i wr => ∃ (k : Nat) (u : Value), i = .int .i64 (k : Int) ∧ k ≤ n ∧ Hid (Below B w wr) ∧ Hid (Wrt wr B o u (K ++ (L.take k).flatMap (Sn.pbytes 1)))) (fun i _ => n - (intOf i).toNat)
  case atStart => exact ⟨0, u4, rfl, by omega, HB4, by show Wr _ _ _ _ _ _ _; simpa using HW4.out⟩
  case round =>
    obtain ⟨k, u, rfl, hk, HBr, HWr⟩ := hrel
    by_cases hlt : k < n
    · obtain ⟨x, hx⟩ : ∃ x, L[k]? = some x := ⟨_, List.getElem?_eq_getElem (by have := HN.out; omega)⟩
      obtain ⟨g, off, rfl, hgl, hcell⟩ := HP.out (by omega)
      have HC := Lib.hid (hcell wr (HBO.out wr HBr.out) k x hx)
      have HFE := Lib.hid (HFK.out x (List.mem_of_getElem? hx))
      have hl := HL.out k
      have HST : Hid ((L.take (k + 1)).flatMap (Sn.pbytes 1) = (L.take k).flatMap (Sn.pbytes 1) ++ (Pk.text x.key ++ Pk.text x.val)) := by show _ = _; rw [List.take_add_one, hx, ← Sn.pbytes1]; simp
      obtain ⟨J0, hJ0⟩ : ∃ J, J = K ++ (L.take k).flatMap (Sn.pbytes 1) := ⟨_, rfl⟩
      have hj0 : J0.length ≤ 7000018 := by rw [hJ0, List.length_append]; omega
      have HJ0 := Lib.hid hJ0
      rw [← hJ0] at HWr
      clear hcell hx hJ0 hl
      go_wp2_with (first
        | (refine load_kv rfl _ rfl g (off + k * 3) x rfl HC.out ?_)
        | (refine store_kv (by rfl) _ _ (by rfl) wr.heap.size Kv.zero x (by rfl) (by rfl) (Lies.new _ _ _) ?_; intro w6 hl6 hg6
           have hB6 : Below wr.heap.size wr w6 := ((Below.refl _ wr).alloc (Nat.le_refl _) _).grown hg6 (by simp) (by rintro j hj; cases hj; exact Nat.le_refl _)
           have HP6 := Lib.hid hl6
           have HW6 := Lib.hid (HWr.out.grown hB6)
           have HB6 := Lib.hid (HBr.out.trans (hB6.mono (Nat.le_trans hB HBr.out.size)))
           have HO6 : Hid (wr.heap.size ≠ o) := by show _ ≠ _; have := HWr.out.lies.lt; omega
           obtain ⟨c0, c1, c2⟩ := Kvs.three hl6
           clear hl6 hg6 hB6)
        | fail)
      refine (wtext_spares x.key _ B o u J0 HW6.out (Nat.le_trans hB HB6.out.size) (by omega) (by have := HFE.out.1; omega)).mono ?_
      rintro e w7 ⟨rfl, u7, hw7, hs7, hb7⟩
      have hm7 : (Pk.text x.key).length ≤ 1009 := by have := HFE.out.1; have := enc_nine (n := x.key.length) (by omega); unfold Pk.text; rw [List.length_append]; omega
      have HP7 := Lib.hid (hs7 _ _ _ HO6.out (by decide) HP6.out)
      have HW7 := Lib.hid hw7
      have HB7 := Lib.hid (HB6.out.trans hb7)
      clear hw7 hs7 hb7 c0 c1 c2
      obtain ⟨c0, c1, c2⟩ := Kvs.three HP7.out
      go_wp2_with fail
      refine (wtext_spares x.val _ B o u7 _ HW7.out (Nat.le_trans hB HB7.out.size) (by rw [List.length_append]; omega) (by have := HFE.out.1; omega)).mono ?_
      rintro e w8 ⟨rfl, u8, hw8, _, hb8⟩
      have HB8 := Lib.hid (HB7.out.trans hb8)
      have HW8 : Hid (Wrt w8 B o u8 (K ++ (L.take (k + 1)).flatMap (Sn.pbytes 1))) := by
        show Wr _ _ _ _ _ _ _
        rw [HST.out]
        rw [HJ0.out] at hw8
        simp only [List.append_assoc] at hw8 ⊢
        exact hw8
      clear hw8 hb8 c0 c1 c2
      go_wp2
      go_roundw
      case rel => exact ⟨k + 1, u8, by go_num, by omega, HB8, HW8⟩
      case measure => simp [intOf]; omega
    · have hfin := HWr.out
      rw [List.take_of_length_le (by have := HN.out; omega), ← HRES.out] at hfin
      have HFIN := Lib.hid hfin
      clear hfin
      go_wp2
      go_end0
      exact ⟨rfl, u, HFIN.out, HBr.out⟩

set_option maxRecDepth 4000 in
set_option maxHeartbeats 3200000 in
theorem writeSessions_any (L : List Se.Ses) (v : Value) (w0 w : World) (B o : Nat) (u : Value) (pre : List UInt8) (hw : Wrt w B o u pre) (hpre : pre.length ≤ 4000000) (hB : B ≤ w.heap.size) (h0 : w0.heap.size ≤ B) (hb0 : Below w0.heap.size w0 w) (hr : ReadsN w0 v L) (hf : ∀ e ∈ L, e.last.Fits ∧ e.last.val.length ≤ 1000) (hn : L.length ≤ 1000) :
    Calls Tryz.prog 43 #[.pointer (some ⟨o, 0, none⟩), v] w (WroteSn w B o (pre ++ Lc.bytes (Sn.sbytes 1) L)) := by
  obtain ⟨ao, cap, rfl, hc1, hc2⟩ := ReadsN.shape hr
  have HP := Lib.hid (fun h => ReadsN.places hr h)
  have HFK := Lib.hid hf
  have HL : Hid (∀ k, ((L.take k).flatMap (Sn.sbytes 1)).length ≤ 1050000) := by
    intro k
    have h1 := Sn.flat_len (Sn.sbytes 1) 1050 (L.take k) fun p hp => by
      have := hf p (List.mem_of_mem_take hp)
      exact An.bytes_len 1 p.last this.1 this.2 (by omega)
    rw [List.length_take] at h1
    have h3 : 1050 * min k L.length ≤ 1050 * 1000 := Nat.mul_le_mul_left _ (by omega)
    omega
  have HRES : Hid (pre ++ Lc.bytes (Sn.sbytes 1) L = pre ++ enc L.length ++ L.flatMap (Sn.sbytes 1)) := by
    show _ = _
    unfold Lc.bytes
    simp only [List.append_assoc]
  obtain ⟨RES, hRES⟩ : ∃ RES, RES = pre ++ Lc.bytes (Sn.sbytes 1) L := ⟨_, rfl⟩
  rw [← hRES] at HRES ⊢
  obtain ⟨n, hN⟩ : ∃ n, n = L.length := ⟨_, rfl⟩
  rw [← hN] at HP HRES hn hc1 ⊢
  have HN := Lib.hid hN
  have HBO : Hid (∀ W, Below B w W → Below w0.heap.size w0 W) := fun W hb => hb0.trans (hb.mono h0)
  have HW := Lib.hid hw
  clear hN hRES hw hb0 hr hf
  go_enter Tryz.func43, Tryz.ntmps43
  go_wp2_with fail
  refine (wnum_spares (n : Int) _ B o _ pre HW.out hB (by omega) (by omega) (by omega)).mono ?_
  rintro e w4 ⟨rfl, u4, hw4, _, hb4⟩
  rw [Int.toNat_natCast] at hw4
  have hk4 : (enc n).length ≤ 9 := enc_nine (by omega)
  obtain ⟨K, hK⟩ : ∃ K, K = pre ++ enc n := ⟨_, rfl⟩
  have hlK : K.length ≤ 4000009 := by rw [hK, List.length_append]; omega
  rw [← hK] at hw4 HRES
  have HW4 := Lib.hid hw4
  have HB4 := Lib.hid hb4
  clear hw4 hb4 hK HW
  go_wp2
  go_loopw [12] (fun i wr => ∃ (k : Nat) (u : Value), i = .int .i64 (k : Int) ∧ k ≤ n ∧ Hid (Below B w wr) ∧ Hid (Wrt wr B o u (K ++ (L.take k).flatMap (Sn.sbytes 1)))) (fun i _ => n - (intOf i).toNat)
  case atStart => exact ⟨0, u4, rfl, by omega, HB4, by show Wr _ _ _ _ _ _ _; simpa using HW4.out⟩
  case round =>
    obtain ⟨k, u, rfl, hk, HBr, HWr⟩ := hrel
    by_cases hlt : k < n
    · obtain ⟨x, hx⟩ : ∃ x, L[k]? = some x := ⟨_, List.getElem?_eq_getElem (by have := HN.out; omega)⟩
      obtain ⟨g, off, rfl, hgl, hcell⟩ := HP.out (by omega)
      have HC := Lib.hid (hcell wr (HBO.out wr HBr.out) k x hx)
      have HFE := Lib.hid (HFK.out x (List.mem_of_getElem? hx))
      have hl := HL.out k
      have HST : Hid ((L.take (k + 1)).flatMap (Sn.sbytes 1) = (L.take k).flatMap (Sn.sbytes 1) ++ An.bytes 1 x.last) := by show _ = _; rw [List.take_add_one, hx]; simp [Sn.sbytes]
      obtain ⟨J0, hJ0⟩ : ∃ J, J = K ++ (L.take k).flatMap (Sn.sbytes 1) := ⟨_, rfl⟩
      have hj0 : J0.length ≤ 7000018 := by rw [hJ0, List.length_append]; omega
      have HJ0 := Lib.hid hJ0
      rw [← hJ0] at HWr
      clear hcell hx hJ0 hl
      go_wp2_with (first
        | (refine load_ses rfl _ rfl g (off + k * 8) x rfl HC.out ?_)
        | (refine store_ses (by rfl) _ _ (by rfl) wr.heap.size Se.zero x (by rfl) (by rfl) (Lies.new _ _ _) ?_; intro w6 hl6 hg6
           have hB6 : Below wr.heap.size wr w6 := ((Below.refl _ wr).alloc (Nat.le_refl _) _).grown hg6 (by simp) (by rintro j hj; cases hj; exact Nat.le_refl _)
           have HP6 := Lib.hid hl6
           have HW6 := Lib.hid (HWr.out.grown hB6)
           have HB6 := Lib.hid (HBr.out.trans (hB6.mono (Nat.le_trans hB HBr.out.size)))
           clear hl6 hg6 hB6)
        | (refine load_last rfl _ rfl wr.heap.size 0 x rfl (Sess.at HP6.out) ?_)
        | fail)
      refine (aput_at 1 x.last _ B o u J0 HW6.out (by omega) (Nat.le_trans hB HB6.out.size) HFE.out.1 HFE.out.2).mono ?_
      rintro e w8 ⟨rfl, u8, hw8, _, hb8⟩
      have HB8 := Lib.hid (HB6.out.trans hb8)
      have HW8 : Hid (Wrt w8 B o u8 (K ++ (L.take (k + 1)).flatMap (Sn.sbytes 1))) := by
        show Wr _ _ _ _ _ _ _
        rw [HST.out]
        rw [HJ0.out] at hw8
        simp only [List.append_assoc] at hw8 ⊢
        exact hw8
      clear hw8 hb8
      go_wp2
      go_roundw
      case rel => exact ⟨k + 1, u8, by go_num, by omega, HB8, HW8⟩
      case measure => simp [intOf]; omega
    · have hfin := HWr.out
      rw [List.take_of_length_le (by have := HN.out; omega), ← HRES.out] at hfin
      have HFIN := Lib.hid hfin
      clear hfin
      go_wp2
      go_end0
      exact ⟨rfl, u, HFIN.out, HBr.out⟩

set_option maxRecDepth 4000 in
set_option maxHeartbeats 1600000 in
theorem encSn_not (s : Mg.St) (vp vs : Value) (w : World) (hr : StR w s vp vs) (hf : s.Few) (hn : Mg.check s = false ∨ s.schema ≠ 1) :
    Calls Tryz.prog 21 #[.agg (Mg.cells s.schema vp vs)] w (EncSn w s) := by
  obtain ⟨w1, e1, hx1, hB1, hz1⟩ := box_st w s s.schema vp vs hr
  have HX1 := Lib.hid hx1
  have HB1 := Lib.hid hB1
  have hck := checkSt_any s vp vs w1 (hr.below hB1) hf
  unfold EncSn
  obtain ⟨r, hq⟩ : ∃ r, r = Sn.enc1 s := ⟨_, rfl⟩
  have HNO := Lib.hid (fun h => hq.trans (Sn.enc1_no (s := s) h))
  have HLT := Lib.hid (fun h1 h2 => hq.trans (Sn.enc1_late (s := s) h1 h2))
  rw [← hq]
  obtain ⟨b, hb⟩ : ∃ b, b = Mg.check s := ⟨_, rfl⟩
  rw [← hb] at hck HNO HLT hn
  have HCK := Lib.hid hck
  clear hx1 hB1 hz1 hr hf hb hq hck
  go_enter Tryz.func21, Tryz.ntmps21
  go_wp2_with (first | (refine load_st rfl _ rfl rfl HX1.out ?_; refine Hid.out ?_))
  refine Lib.hid ?_
  go_wp2_with fail
  refine HCK.out.mono ?_
  rintro e w2 ⟨rfl, hb2⟩
  have HX2 := Lib.hid (HX1.out.below hb2 HX1.out.lies.lt)
  have HB2 := Lib.hid (HB1.out.trans (hb2.mono HB1.out.size))
  clear hb2 HCK
  cases b with
  | false =>
    have hq := HNO.out rfl
    clear HNO HLT hn
    subst hq
    go_wp2
    go_ret2
    exact ⟨_, rfl, Reads.empty _, HB2.out⟩
  | true =>
    have h1 : s.schema ≠ 1 := by
      rcases hn with h | h
      · cases h
      · exact h
    obtain ⟨c0, c1, c2⟩ := HX2.out.all
    have hq := HLT.out rfl h1
    have d1 : (s.schema != 1) = true := by simpa using h1
    clear HNO HLT h1 hn
    subst hq
    go_wp2
    go_ret2
    exact ⟨_, rfl, Reads.empty _, HB2.out⟩

set_option maxRecDepth 4000 in
set_option maxHeartbeats 6400000 in
theorem encSn_yes (s : Mg.St) (vp vs : Value) (w : World) (hr : StR w s vp vs) (hf : s.Few) (hc : Mg.check s = true) (h1 : s.schema = 1) :
    Calls Tryz.prog 21 #[.agg (Mg.cells s.schema vp vs)] w (EncSn w s) := by
  obtain ⟨w1, e1, hx1, hB1, hz1⟩ := box_st w s s.schema vp vs hr
  have hck := checkSt_any s vp vs w1 (hr.below hB1) hf
  rw [hc, if_pos rfl] at hck
  have hmid := (Sn.mid_of hc).1
  unfold EncSn
  rw [Sn.enc1_yes hc h1]
  dsimp only
  have HKV := Lib.hid hr.kv
  have HSE := Lib.hid hr.ses
  obtain ⟨⟨ao, an, cap, rfl⟩, ⟨so, sn, scap, rfl⟩⟩ := hr.sl
  have HFK := Lib.hid hmid.kv
  have HFS := Lib.hid hmid.ses
  have hnp := hmid.np
  have hns := hmid.ns
  have HALL : Hid (Sn.bytes s = enc (1 : Int).toNat ++ Lc.bytes (Sn.pbytes 1) s.pairs ++ Lc.bytes (Sn.sbytes 1) s.sess) := by
    show _ = _
    unfold Sn.bytes Sn.body
    rw [h1]
    simp only [List.append_assoc]
  have HLEN : Hid ((Lc.bytes (Sn.pbytes 1) s.pairs).length ≤ 3000009 ∧ (Lc.bytes (Sn.sbytes 1) s.sess).length ≤ 1050009) := by
    have h2 := Sn.flat_len (Sn.pbytes 1) 3000 s.pairs fun p hp => Sn.pbytes_len _ p (hmid.kv p hp)
    have h3 := Sn.flat_len (Sn.sbytes 1) 1050 s.sess fun p hp => by
      have := hmid.ses p hp
      exact An.bytes_len 1 p.last this.1 this.2 (by omega)
    have h4 := enc_nine (n := s.pairs.length) (by omega)
    have h5 := enc_nine (n := s.sess.length) (by omega)
    unfold Lc.bytes
    simp only [List.length_append]
    constructor <;> omega
  rw [h1] at hx1 e1 hck ⊢
  obtain ⟨RES, hRES⟩ : ∃ RES, RES = Sn.bytes s := ⟨_, rfl⟩
  rw [← hRES] at HALL ⊢
  have HX1 := Lib.hid hx1
  have HB1 := Lib.hid hB1
  have HCK := Lib.hid hck
  clear hRES hx1 hB1 hz1 hr hf hc h1 hck hmid
  go_enter Tryz.func21, Tryz.ntmps21
  go_wp2_with (first | (refine load_st rfl _ rfl rfl HX1.out ?_; refine Hid.out ?_))
  refine Lib.hid ?_
  go_wp2_with fail
  refine HCK.out.mono ?_
  rintro e w2 ⟨rfl, hb2⟩
  have HX2 := Lib.hid (HX1.out.below hb2 HX1.out.lies.lt)
  have HB2 := Lib.hid (HB1.out.trans (hb2.mono HB1.out.size))
  clear hb2 HCK
  obtain ⟨w3, e3, hw3, hB3⟩ : ∃ w3, w2.alloc (.cells #[.slice none 0 0] 45) = w3 ∧ Wrt w3 w2.heap.size w2.heap.size (.slice none 0 0) [] ∧ Below w2.heap.size w2 w3 :=
    ⟨_, rfl, Wr.fresh _ _ _ _ (Nat.le_refl _), (Below.refl _ _).alloc (Nat.le_refl _) _⟩
  have HS : Hid (∀ W, Below w2.heap.size w2 W → StAt W w.heap.size 1 (.slice ao an cap) (.slice so sn scap)) := fun W hb => HX2.out.below hb HX2.out.lies.lt
  have HBO : Hid (∀ W, Below w2.heap.size w2 W → Below w.heap.size w W) := fun W hb => HB2.out.trans (hb.mono HB2.out.size)
  have HW3 := Lib.hid hw3
  have HB3 := Lib.hid hB3
  have hsz : w.heap.size ≤ w2.heap.size := HB2.out.size
  clear hw3 hB3
  obtain ⟨c0, c1, c2⟩ := (HX2.out).all
  go_wp2_with fail
  refine (wnum_spares 1 _ w2.heap.size w2.heap.size _ [] HW3.out HB3.out.size (by simp) (by omega) (by omega)).mono ?_
  rintro e w4 ⟨rfl, u4, hw4, _, hb4⟩
  have HW4 := Lib.hid hw4
  have HB4 := Lib.hid (HB3.out.trans hb4)
  clear hw4 hb4 c0 c1 c2
  rw [List.nil_append] at HW4
  obtain ⟨c0, c1, c2⟩ := (HS.out w4 HB4.out).all
  have hk4 : (enc (1 : Int).toNat).length ≤ 9 := enc_nine (by decide)
  go_wp2_with fail
  refine (writePairs_any s.pairs _ w _ w2.heap.size w2.heap.size u4 _ HW4.out (by omega) HB4.out.size hsz (HBO.out _ HB4.out) HKV.out HFK.out hnp).mono ?_
  rintro e w5 ⟨rfl, u5, hw5, hb5⟩
  obtain ⟨K5, hK5⟩ : ∃ K, K = enc (1 : Int).toNat ++ Lc.bytes (Sn.pbytes 1) s.pairs := ⟨_, rfl⟩
  have hl5 : K5.length ≤ 3000018 := by rw [hK5, List.length_append]; have := HLEN.out.1; omega
  rw [← hK5] at hw5 HALL
  have HW5 := Lib.hid hw5
  have HB5 := Lib.hid (HB4.out.trans hb5)
  clear hw5 hb5 c0 c1 c2 hK5
  obtain ⟨c0, c1, c2⟩ := (HS.out w5 HB5.out).all
  go_wp2_with fail
  refine (writeSessions_any s.sess _ w _ w2.heap.size w2.heap.size u5 _ HW5.out (by omega) HB5.out.size hsz (HBO.out _ HB5.out) HSE.out HFS.out hns).mono ?_
  rintro e w6 ⟨rfl, u6, hw6, hb6⟩
  rw [← HALL.out] at hw6
  have HLR : Hid (RES.length ≤ 70368744177664) := by
    show _ ≤ _
    rw [HALL.out, List.length_append]
    have := HLEN.out.2
    omega
  have HW6 := Lib.hid hw6
  have HB6 := Lib.hid (HB5.out.trans hb6)
  clear hw6 hb6 c0 c1 c2
  go_wp2_with fail
  refine (wbytes_any _ w2.heap.size w2.heap.size u6 RES HW6.out HLR.out).mono ?_
  rintro e w10 ⟨v10, rfl, ho10, hb10⟩
  have HO10 := Lib.hid ho10.reads
  have HB10 := Lib.hid ((HBO.out w6 HB6.out).trans (hb10.mono (HBO.out w6 HB6.out).size))
  clear ho10 hb10
  go_wp2
  go_ret2
  exact ⟨_, rfl, HO10.out, HB10.out⟩

theorem encSn_any (s : Mg.St) (vp vs : Value) (w : World) (hr : StR w s vp vs) (hf : s.Few) : Calls Tryz.prog 21 #[.agg (Mg.cells s.schema vp vs)] w (EncSn w s) := by
  by_cases hc : Mg.check s = true
  · by_cases h1 : s.schema = 1
    · exact encSn_yes s vp vs w hr hf hc h1
    · exact encSn_not s vp vs w hr hf (.inr h1)
  · exact encSn_not s vp vs w hr hf (.inl (by simpa using hc))

end Go.Proofs.YtammfmmpldahhaaGreat


namespace Go.Proofs.YtammfmmpldahhaaGreat
open Go.RowKit

theorem Sn.pbytes2 (p : Kv.Item) : Sn.pbytes 2 p = Pk.text p.key ++ (enc p.rev.toNat ++ Pk.text p.val) := by
  unfold Sn.pbytes Sn.pmid
  rw [if_pos rfl]

set_option maxRecDepth 4000 in
set_option maxHeartbeats 3200000 in
theorem writePairs2_any (L : List Kv.Item) (v : Value) (w0 w : World) (B o : Nat) (u : Value) (pre : List UInt8) (hw : Wrt w B o u pre) (hpre : pre.length ≤ 4000000) (hB : B ≤ w.heap.size) (h0 : w0.heap.size ≤ B) (hb0 : Below w0.heap.size w0 w) (hr : ReadsK w0 v L) (hf : ∀ e ∈ L, (e.key.length ≤ 1000 ∧ e.val.length ≤ 1000) ∧ (-9223372036854775808 ≤ e.rev ∧ e.rev ≤ 9223372036854775807)) (hn : L.length ≤ 1000) :
    Calls Tryz.prog 24 #[.pointer (some ⟨o, 0, none⟩), v] w (WroteSn w B o (pre ++ Lc.bytes (Sn.pbytes 2) L)) := by
  obtain ⟨ao, cap, rfl, hc1, hc2⟩ := ReadsK.shape hr
  have HP := Lib.hid (fun h => ReadsK.places hr h)
  have HFK := Lib.hid hf
  have HL : Hid (∀ k, ((L.take k).flatMap (Sn.pbytes 2)).length ≤ 3000000) := by
    intro k
    have h1 := Sn.flat_len (Sn.pbytes 2) 3000 (L.take k) fun p hp => Sn.pbytes_len _ p (hf p (List.mem_of_mem_take hp))
    rw [List.length_take] at h1
    have h3 : 3000 * min k L.length ≤ 3000 * 1000 := Nat.mul_le_mul_left _ (by omega)
    omega
  have HRES : Hid (pre ++ Lc.bytes (Sn.pbytes 2) L = pre ++ enc L.length ++ L.flatMap (Sn.pbytes 2)) := by
    show _ = _
    unfold Lc.bytes
    simp only [List.append_assoc]
  obtain ⟨RES, hRES⟩ : ∃ RES, RES = pre ++ Lc.bytes (Sn.pbytes 2) L := ⟨_, rfl⟩
  rw [← hRES] at HRES ⊢
  obtain ⟨n, hN⟩ : ∃ n, n = L.length := ⟨_, rfl⟩
  rw [← hN] at HP HRES hn hc1 ⊢
  have HN := Lib.hid hN
  have HBO : Hid (∀ W, Below B w W → Below w0.heap.size w0 W) := fun W hb => hb0.trans (hb.mono h0)
  have HW := Lib.hid hw
  clear hN hRES hw hb0 hr hf
  go_enter Tryz.func24, Tryz.ntmps24
  go_wp2_with fail
  refine (wnum_spares (n : Int) _ B o _ pre HW.out hB (by omega) (by omega) (by omega)).mono ?_
  rintro e w4 ⟨rfl, u4, hw4, _, hb4⟩
  rw [Int.toNat_natCast] at hw4
  have hk4 : (enc n).length ≤ 9 := enc_nine (by omega)
  obtain ⟨K, hK⟩ : ∃ K, K = pre ++ enc n := ⟨_, rfl⟩
  have hlK : K.length ≤ 4000009 := by rw [hK, List.length_append]; omega
  rw [← hK] at hw4 HRES
  have HW4 := Lib.hid hw4
  have HB4 := Lib.hid hb4
  clear hw4 hb4 hK HW
  go_wp2
  go_loopw [12] (fun i wr => ∃ (k : Nat) (u : Value), i = .int .i64 (k : Int) ∧ k ≤ n ∧ Hid (Below B w wr) ∧ Hid (Wrt wr B o u (K ++ (L.take k).flatMap (Sn.pbytes 2)))) (fun i _ => n - (intOf i).toNat)
  case atStart => exact ⟨0, u4, rfl, by omega, HB4, by show Wr _ _ _ _ _ _ _; simpa using HW4.out⟩
  case round =>
    obtain ⟨k, u, rfl, hk, HBr, HWr⟩ := hrel
    by_cases hlt : k < n
    · obtain ⟨x, hx⟩ : ∃ x, L[k]? = some x := ⟨_, List.getElem?_eq_getElem (by have := HN.out; omega)⟩
      obtain ⟨g, off, rfl, hgl, hcell⟩ := HP.out (by omega)
      have HC := Lib.hid (hcell wr (HBO.out wr HBr.out) k x hx)
      have HFE := Lib.hid (HFK.out x (List.mem_of_getElem? hx))
      have hl := HL.out k
      have HST : Hid ((L.take (k + 1)).flatMap (Sn.pbytes 2) = (L.take k).flatMap (Sn.pbytes 2) ++ (Pk.text x.key ++ (enc x.rev.toNat ++ Pk.text x.val))) := by show _ = _; rw [List.take_add_one, hx, ← Sn.pbytes2]; simp
      obtain ⟨J0, hJ0⟩ : ∃ J, J = K ++ (L.take k).flatMap (Sn.pbytes 2) := ⟨_, rfl⟩
      have hj0 : J0.length ≤ 7000018 := by rw [hJ0, List.length_append]; omega
      have HJ0 := Lib.hid hJ0
      rw [← hJ0] at HWr
      clear hcell hx hJ0 hl
      go_wp2_with (first
        | (refine load_kv rfl _ rfl g (off + k * 3) x rfl HC.out ?_)
        | (refine store_kv (by rfl) _ _ (by rfl) wr.heap.size Kv.zero x (by rfl) (by rfl) (Lies.new _ _ _) ?_; intro w6 hl6 hg6
           have hB6 : Below wr.heap.size wr w6 := ((Below.refl _ wr).alloc (Nat.le_refl _) _).grown hg6 (by simp) (by rintro j hj; cases hj; exact Nat.le_refl _)
           have HP6 := Lib.hid hl6
           have HW6 := Lib.hid (HWr.out.grown hB6)
           have HB6 := Lib.hid (HBr.out.trans (hB6.mono (Nat.le_trans hB HBr.out.size)))
           have HO6 : Hid (wr.heap.size ≠ o) := by show _ ≠ _; have := HWr.out.lies.lt; omega
           obtain ⟨c0, c1, c2⟩ := Kvs.three hl6
           clear hl6 hg6 hB6)
        | fail)
      refine (wtext_spares x.key _ B o u J0 HW6.out (Nat.le_trans hB HB6.out.size) (by omega) (by have := HFE.out.1; omega)).mono ?_
      rintro e w7 ⟨rfl, u7, hw7, hs7, hb7⟩
      have hm7 : (Pk.text x.key).length ≤ 1009 := by have := HFE.out.1; have := enc_nine (n := x.key.length) (by omega); unfold Pk.text; rw [List.length_append]; omega
      have HP7 := Lib.hid (hs7 _ _ _ HO6.out (by decide) HP6.out)
      have HW7 := Lib.hid hw7
      have HB7 := Lib.hid (HB6.out.trans hb7)
      clear hw7 hs7 hb7 c0 c1 c2
      obtain ⟨c0, c1, c2⟩ := Kvs.three HP7.out
      go_wp2_with fail
      refine (wnum_spares x.rev _ B o u7 _ HW7.out (Nat.le_trans hB HB7.out.size) (by rw [List.length_append]; omega) HFE.out.2.1 HFE.out.2.2).mono ?_
      rintro e w9 ⟨rfl, u9, hw9, hs9, hb9⟩
      have hm9 : (enc x.rev.toNat).length ≤ 9 := enc_nine (by have := HFE.out.2; omega)
      have HP9 := Lib.hid (hs9 _ _ _ HO6.out (by decide) HP7.out)
      have HW9 := Lib.hid hw9
      have HB9 := Lib.hid (HB7.out.trans hb9)
      clear hw9 hs9 hb9 c0 c1 c2
      obtain ⟨c0, c1, c2⟩ := Kvs.three HP9.out
      go_wp2_with fail
      refine (wtext_spares x.val _ B o u9 _ HW9.out (Nat.le_trans hB HB9.out.size) (by simp only [List.length_append]; omega) (by have := HFE.out.1; omega)).mono ?_
      rintro e w8 ⟨rfl, u8, hw8, _, hb8⟩
      have HB8 := Lib.hid (HB9.out.trans hb8)
      have HW8 : Hid (Wrt w8 B o u8 (K ++ (L.take (k + 1)).flatMap (Sn.pbytes 2))) := by
        show Wr _ _ _ _ _ _ _
        rw [HST.out]
        rw [HJ0.out] at hw8
        simp only [List.append_assoc] at hw8 ⊢
        exact hw8
      clear hw8 hb8 c0 c1 c2
      go_wp2
      go_roundw
      case rel => exact ⟨k + 1, u8, by go_num, by omega, HB8, HW8⟩
      case measure => simp [intOf]; omega
    · have hfin := HWr.out
      rw [List.take_of_length_le (by have := HN.out; omega), ← HRES.out] at hfin
      have HFIN := Lib.hid hfin
      clear hfin
      go_wp2
      go_end0
      exact ⟨rfl, u, HFIN.out, HBr.out⟩

set_option maxRecDepth 4000 in
set_option maxHeartbeats 3200000 in
theorem writeSessions2_any (L : List Se.Ses) (v : Value) (w0 w : World) (B o : Nat) (u : Value) (pre : List UInt8) (hw : Wrt w B o u pre) (hpre : pre.length ≤ 4000000) (hB : B ≤ w.heap.size) (h0 : w0.heap.size ≤ B) (hb0 : Below w0.heap.size w0 w) (hr : ReadsN w0 v L) (hf : ∀ e ∈ L, e.last.Fits ∧ e.last.val.length ≤ 1000) (hn : L.length ≤ 1000) :
    Calls Tryz.prog 25 #[.pointer (some ⟨o, 0, none⟩), v] w (WroteSn w B o (pre ++ Lc.bytes (Sn.sbytes 2) L)) := by
  obtain ⟨ao, cap, rfl, hc1, hc2⟩ := ReadsN.shape hr
  have HP := Lib.hid (fun h => ReadsN.places hr h)
  have HFK := Lib.hid hf
  have HL : Hid (∀ k, ((L.take k).flatMap (Sn.sbytes 2)).length ≤ 1050000) := by
    intro k
    have h1 := Sn.flat_len (Sn.sbytes 2) 1050 (L.take k) fun p hp => by
      have := hf p (List.mem_of_mem_take hp)
      exact An.bytes_len 2 p.last this.1 this.2 (by omega)
    rw [List.length_take] at h1
    have h3 : 1050 * min k L.length ≤ 1050 * 1000 := Nat.mul_le_mul_left _ (by omega)
    omega
  have HRES : Hid (pre ++ Lc.bytes (Sn.sbytes 2) L = pre ++ enc L.length ++ L.flatMap (Sn.sbytes 2)) := by
    show _ = _
    unfold Lc.bytes
    simp only [List.append_assoc]
  obtain ⟨RES, hRES⟩ : ∃ RES, RES = pre ++ Lc.bytes (Sn.sbytes 2) L := ⟨_, rfl⟩
  rw [← hRES] at HRES ⊢
  obtain ⟨n, hN⟩ : ∃ n, n = L.length := ⟨_, rfl⟩
  rw [← hN] at HP HRES hn hc1 ⊢
  have HN := Lib.hid hN
  have HBO : Hid (∀ W, Below B w W → Below w0.heap.size w0 W) := fun W hb => hb0.trans (hb.mono h0)
  have HW := Lib.hid hw
  clear hN hRES hw hb0 hr hf
  go_enter Tryz.func25, Tryz.ntmps25
  go_wp2_with fail
  refine (wnum_spares (n : Int) _ B o _ pre HW.out hB (by omega) (by omega) (by omega)).mono ?_
  rintro e w4 ⟨rfl, u4, hw4, _, hb4⟩
  rw [Int.toNat_natCast] at hw4
  have hk4 : (enc n).length ≤ 9 := enc_nine (by omega)
  obtain ⟨K, hK⟩ : ∃ K, K = pre ++ enc n := ⟨_, rfl⟩
  have hlK : K.length ≤ 4000009 := by rw [hK, List.length_append]; omega
  rw [← hK] at hw4 HRES
  have HW4 := Lib.hid hw4
  have HB4 := Lib.hid hb4
  clear hw4 hb4 hK HW
  go_wp2
  go_loopw [12] (fun i wr => ∃ (k : Nat) (u : Value), i = .int .i64 (k : Int) ∧ k ≤ n ∧ Hid (Below B w wr) ∧ Hid (Wrt wr B o u (K ++ (L.take k).flatMap (Sn.sbytes 2)))) (fun i _ => n - (intOf i).toNat)
  case atStart => exact ⟨0, u4, rfl, by omega, HB4, by show Wr _ _ _ _ _ _ _; simpa using HW4.out⟩
  case round =>
    obtain ⟨k, u, rfl, hk, HBr, HWr⟩ := hrel
    by_cases hlt : k < n
    · obtain ⟨x, hx⟩ : ∃ x, L[k]? = some x := ⟨_, List.getElem?_eq_getElem (by have := HN.out; omega)⟩
      obtain ⟨g, off, rfl, hgl, hcell⟩ := HP.out (by omega)
      have HC := Lib.hid (hcell wr (HBO.out wr HBr.out) k x hx)
      have HFE := Lib.hid (HFK.out x (List.mem_of_getElem? hx))
      have hl := HL.out k
      have HST : Hid ((L.take (k + 1)).flatMap (Sn.sbytes 2) = (L.take k).flatMap (Sn.sbytes 2) ++ An.bytes 2 x.last) := by show _ = _; rw [List.take_add_one, hx]; simp [Sn.sbytes]
      obtain ⟨J0, hJ0⟩ : ∃ J, J = K ++ (L.take k).flatMap (Sn.sbytes 2) := ⟨_, rfl⟩
      have hj0 : J0.length ≤ 7000018 := by rw [hJ0, List.length_append]; omega
      have HJ0 := Lib.hid hJ0
      rw [← hJ0] at HWr
      clear hcell hx hJ0 hl
      go_wp2_with (first
        | (refine load_ses rfl _ rfl g (off + k * 8) x rfl HC.out ?_)
        | (refine store_ses (by rfl) _ _ (by rfl) wr.heap.size Se.zero x (by rfl) (by rfl) (Lies.new _ _ _) ?_; intro w6 hl6 hg6
           have hB6 : Below wr.heap.size wr w6 := ((Below.refl _ wr).alloc (Nat.le_refl _) _).grown hg6 (by simp) (by rintro j hj; cases hj; exact Nat.le_refl _)
           have HP6 := Lib.hid hl6
           have HW6 := Lib.hid (HWr.out.grown hB6)
           have HB6 := Lib.hid (HBr.out.trans (hB6.mono (Nat.le_trans hB HBr.out.size)))
           clear hl6 hg6 hB6)
        | (refine load_last rfl _ rfl wr.heap.size 0 x rfl (Sess.at HP6.out) ?_)
        | fail)
      refine (aput_at 2 x.last _ B o u J0 HW6.out (by omega) (Nat.le_trans hB HB6.out.size) HFE.out.1 HFE.out.2).mono ?_
      rintro e w8 ⟨rfl, u8, hw8, _, hb8⟩
      have HB8 := Lib.hid (HB6.out.trans hb8)
      have HW8 : Hid (Wrt w8 B o u8 (K ++ (L.take (k + 1)).flatMap (Sn.sbytes 2))) := by
        show Wr _ _ _ _ _ _ _
        rw [HST.out]
        rw [HJ0.out] at hw8
        simp only [List.append_assoc] at hw8 ⊢
        exact hw8
      clear hw8 hb8
      go_wp2
      go_roundw
      case rel => exact ⟨k + 1, u8, by go_num, by omega, HB8, HW8⟩
      case measure => simp [intOf]; omega
    · have hfin := HWr.out
      rw [List.take_of_length_le (by have := HN.out; omega), ← HRES.out] at hfin
      have HFIN := Lib.hid hfin
      clear hfin
      go_wp2
      go_end0
      exact ⟨rfl, u, HFIN.out, HBr.out⟩

set_option maxRecDepth 4000 in
set_option maxHeartbeats 1600000 in
theorem encSo_not (s : Mg.St) (vp vs : Value) (w : World) (hr : StR w s vp vs) (hf : s.Few) (hn : Mg.check s = false ∨ s.schema ≠ 2) :
    Calls Tryz.prog 9 #[.agg (Mg.cells s.schema vp vs)] w (BytesSo w (Sn.enc2 s)) := by
  obtain ⟨w1, e1, hx1, hB1, hz1⟩ := box_st w s s.schema vp vs hr
  have HX1 := Lib.hid hx1
  have HB1 := Lib.hid hB1
  have hck := checkSt_any s vp vs w1 (hr.below hB1) hf
  unfold BytesSo
  obtain ⟨r, hq⟩ : ∃ r, r = Sn.enc2 s := ⟨_, rfl⟩
  have HNO := Lib.hid (fun h => hq.trans (Sn.enc2_no (s := s) h))
  have HLT := Lib.hid (fun h1 h2 => hq.trans (Sn.enc2_late (s := s) h1 h2))
  rw [← hq]
  obtain ⟨b, hb⟩ : ∃ b, b = Mg.check s := ⟨_, rfl⟩
  rw [← hb] at hck HNO HLT hn
  have HCK := Lib.hid hck
  clear hx1 hB1 hz1 hr hf hb hq hck
  go_enter Tryz.func9, Tryz.ntmps9
  go_wp2_with (first | (refine load_st rfl _ rfl rfl HX1.out ?_; refine Hid.out ?_))
  refine Lib.hid ?_
  go_wp2_with fail
  refine HCK.out.mono ?_
  rintro e w2 ⟨rfl, hb2⟩
  have HX2 := Lib.hid (HX1.out.below hb2 HX1.out.lies.lt)
  have HB2 := Lib.hid (HB1.out.trans (hb2.mono HB1.out.size))
  clear hb2 HCK
  cases b with
  | false =>
    have hq := HNO.out rfl
    clear HNO HLT hn
    subst hq
    go_wp2
    go_ret2
    exact ⟨_, rfl, Reads.empty _, HB2.out⟩
  | true =>
    have h1 : s.schema ≠ 2 := by
      rcases hn with h | h
      · cases h
      · exact h
    obtain ⟨c0, c1, c2⟩ := HX2.out.all
    have hq := HLT.out rfl h1
    have d1 : (s.schema != 2) = true := by simpa using h1
    clear HNO HLT h1 hn
    subst hq
    go_wp2
    go_ret2
    exact ⟨_, rfl, Reads.empty _, HB2.out⟩

set_option maxRecDepth 4000 in
set_option maxHeartbeats 6400000 in
theorem encSo_yes (s : Mg.St) (vp vs : Value) (w : World) (hr : StR w s vp vs) (hf : s.Few) (hc : Mg.check s = true) (h1 : s.schema = 2) :
    Calls Tryz.prog 9 #[.agg (Mg.cells s.schema vp vs)] w (BytesSo w (Sn.enc2 s)) := by
  obtain ⟨w1, e1, hx1, hB1, hz1⟩ := box_st w s s.schema vp vs hr
  have hck := checkSt_any s vp vs w1 (hr.below hB1) hf
  rw [hc, if_pos rfl] at hck
  have hmid := (Sn.mid_of hc).1
  unfold BytesSo
  rw [Sn.enc2_yes hc h1]
  dsimp only
  have HKV := Lib.hid hr.kv
  have HSE := Lib.hid hr.ses
  obtain ⟨⟨ao, an, cap, rfl⟩, ⟨so, sn, scap, rfl⟩⟩ := hr.sl
  have HFK := Lib.hid hmid.kv
  have HFS := Lib.hid hmid.ses
  have hnp := hmid.np
  have hns := hmid.ns
  have HALL : Hid (Sn.bytes s = enc (2 : Int).toNat ++ Lc.bytes (Sn.pbytes 2) s.pairs ++ Lc.bytes (Sn.sbytes 2) s.sess) := by
    show _ = _
    unfold Sn.bytes Sn.body
    rw [h1]
    simp only [List.append_assoc]
  have HLEN : Hid ((Lc.bytes (Sn.pbytes 2) s.pairs).length ≤ 3000009 ∧ (Lc.bytes (Sn.sbytes 2) s.sess).length ≤ 1050009) := by
    have h2 := Sn.flat_len (Sn.pbytes 2) 3000 s.pairs fun p hp => Sn.pbytes_len _ p (hmid.kv p hp)
    have h3 := Sn.flat_len (Sn.sbytes 2) 1050 s.sess fun p hp => by
      have := hmid.ses p hp
      exact An.bytes_len 2 p.last this.1 this.2 (by omega)
    have h4 := enc_nine (n := s.pairs.length) (by omega)
    have h5 := enc_nine (n := s.sess.length) (by omega)
    unfold Lc.bytes
    simp only [List.length_append]
    constructor <;> omega
  rw [h1] at hx1 e1 hck ⊢
  obtain ⟨RES, hRES⟩ : ∃ RES, RES = Sn.bytes s := ⟨_, rfl⟩
  rw [← hRES] at HALL ⊢
  have HX1 := Lib.hid hx1
  have HB1 := Lib.hid hB1
  have HCK := Lib.hid hck
  clear hRES hx1 hB1 hz1 hr hf hc h1 hck hmid
  go_enter Tryz.func9, Tryz.ntmps9
  go_wp2_with (first | (refine load_st rfl _ rfl rfl HX1.out ?_; refine Hid.out ?_))
  refine Lib.hid ?_
  go_wp2_with fail
  refine HCK.out.mono ?_
  rintro e w2 ⟨rfl, hb2⟩
  have HX2 := Lib.hid (HX1.out.below hb2 HX1.out.lies.lt)
  have HB2 := Lib.hid (HB1.out.trans (hb2.mono HB1.out.size))
  clear hb2 HCK
  obtain ⟨w3, e3, hw3, hB3⟩ : ∃ w3, w2.alloc (.cells #[.slice none 0 0] 45) = w3 ∧ Wrt w3 w2.heap.size w2.heap.size (.slice none 0 0) [] ∧ Below w2.heap.size w2 w3 :=
    ⟨_, rfl, Wr.fresh _ _ _ _ (Nat.le_refl _), (Below.refl _ _).alloc (Nat.le_refl _) _⟩
  have HS : Hid (∀ W, Below w2.heap.size w2 W → StAt W w.heap.size 2 (.slice ao an cap) (.slice so sn scap)) := fun W hb => HX2.out.below hb HX2.out.lies.lt
  have HBO : Hid (∀ W, Below w2.heap.size w2 W → Below w.heap.size w W) := fun W hb => HB2.out.trans (hb.mono HB2.out.size)
  have HW3 := Lib.hid hw3
  have HB3 := Lib.hid hB3
  have hsz : w.heap.size ≤ w2.heap.size := HB2.out.size
  clear hw3 hB3
  obtain ⟨c0, c1, c2⟩ := (HX2.out).all
  go_wp2_with fail
  refine (wnum_spares 2 _ w2.heap.size w2.heap.size _ [] HW3.out HB3.out.size (by simp) (by omega) (by omega)).mono ?_
  rintro e w4 ⟨rfl, u4, hw4, _, hb4⟩
  have HW4 := Lib.hid hw4
  have HB4 := Lib.hid (HB3.out.trans hb4)
  clear hw4 hb4 c0 c1 c2
  rw [List.nil_append] at HW4
  obtain ⟨c0, c1, c2⟩ := (HS.out w4 HB4.out).all
  have hk4 : (enc (2 : Int).toNat).length ≤ 9 := enc_nine (by decide)
  go_wp2_with fail
  refine (writePairs2_any s.pairs _ w _ w2.heap.size w2.heap.size u4 _ HW4.out (by omega) HB4.out.size hsz (HBO.out _ HB4.out) HKV.out HFK.out hnp).mono ?_
  rintro e w5 ⟨rfl, u5, hw5, hb5⟩
  obtain ⟨K5, hK5⟩ : ∃ K, K = enc (2 : Int).toNat ++ Lc.bytes (Sn.pbytes 2) s.pairs := ⟨_, rfl⟩
  have hl5 : K5.length ≤ 3000018 := by rw [hK5, List.length_append]; have := HLEN.out.1; omega
  rw [← hK5] at hw5 HALL
  have HW5 := Lib.hid hw5
  have HB5 := Lib.hid (HB4.out.trans hb5)
  clear hw5 hb5 c0 c1 c2 hK5
  obtain ⟨c0, c1, c2⟩ := (HS.out w5 HB5.out).all
  go_wp2_with fail
  refine (writeSessions2_any s.sess _ w _ w2.heap.size w2.heap.size u5 _ HW5.out (by omega) HB5.out.size hsz (HBO.out _ HB5.out) HSE.out HFS.out hns).mono ?_
  rintro e w6 ⟨rfl, u6, hw6, hb6⟩
  rw [← HALL.out] at hw6
  have HLR : Hid (RES.length ≤ 70368744177664) := by
    show _ ≤ _
    rw [HALL.out, List.length_append]
    have := HLEN.out.2
    omega
  have HW6 := Lib.hid hw6
  have HB6 := Lib.hid (HB5.out.trans hb6)
  clear hw6 hb6 c0 c1 c2
  go_wp2_with fail
  refine (wbytes_any _ w2.heap.size w2.heap.size u6 RES HW6.out HLR.out).mono ?_
  rintro e w10 ⟨v10, rfl, ho10, hb10⟩
  have HO10 := Lib.hid ho10.reads
  have HB10 := Lib.hid ((HBO.out w6 HB6.out).trans (hb10.mono (HBO.out w6 HB6.out).size))
  clear ho10 hb10
  go_wp2
  go_ret2
  exact ⟨_, rfl, HO10.out, HB10.out⟩

theorem encSo_any (s : Mg.St) (vp vs : Value) (w : World) (hr : StR w s vp vs) (hf : s.Few) : Calls Tryz.prog 9 #[.agg (Mg.cells s.schema vp vs)] w (BytesSo w (Sn.enc2 s)) := by
  by_cases hc : Mg.check s = true
  · by_cases h1 : s.schema = 2
    · exact encSo_yes s vp vs w hr hf hc h1
    · exact encSo_not s vp vs w hr hf (.inr h1)
  · exact encSo_not s vp vs w hr hf (.inl (by simpa using hc))

end Go.Proofs.YtammfmmpldahhaaGreat
