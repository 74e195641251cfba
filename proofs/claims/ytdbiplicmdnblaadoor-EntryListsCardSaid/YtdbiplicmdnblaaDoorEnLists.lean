/- The law EntryLists. -/
import Derived.Test.YtdbiplicmdnblaaDoorEnLaw
import Derived.Test.YtdbiplicmdnblaaDoorEnRefW
namespace Go.Proofs.YtdbiplicmdnblaaDoor
open Go.RowKit

set_option maxRecDepth 4000 in
set_option maxHeartbeats 6400000 in
theorem entryLists_any (v : Value) (l : List En.Ent) (e : En.Ent) (x : Int) (w : World) (hw : WordsIn w) (hv : ReadsE w v l) (hs : ∀ a ∈ l, a.Fits ∧ a.cmd.Short 9223372036854775807) (hse : e.cmd.Short 9223372036854775807) :
    Calls Tryd.prog 4 #[v, .agg (En.cells e), .int .i64 x] w (Truly w) := by
  obtain ⟨w1, e1, hl1, hB1, hz1⟩ := box_ent w e
  have HX1 := Lib.hid hl1; have HB1 := Lib.hid hB1
  have HW := Lib.hid hw
  have hlarge := largeE_any v l w1 (hv.below hB1) (fun a ha => (hs a ha).2)
  have HV := Lib.hid hv
  have HS := Lib.hid hs
  have HSE := Lib.hid hse
  obtain ⟨ao, cap, rfl, _, _⟩ := ReadsE.shape hv
  obtain ⟨t, ht⟩ : ∃ t, t = En.large l := ⟨_, rfl⟩
  rw [← ht] at hlarge
  have HT := Lib.hid ht
  obtain ⟨n, hn⟩ : ∃ n, n = l.length := ⟨_, rfl⟩
  rw [← hn] at hlarge HV ⊢
  have HN := Lib.hid hn
  clear hw hv hs hse ht hn hl1 hB1 hz1
  go_enter Tryd.func4, Tryd.ntmps4
  go_wp2_with fail
  refine hlarge.mono ?_
  rintro e' w2 ⟨rfl, hB2⟩
  have HX2 := Lib.hid (HX1.out.below hB2 HX1.out.lt)
  have HB2 := Lib.hid (HB1.out.trans (hB2.mono HB1.out.size))
  obtain ⟨q0, q1, q2, q3, q4, q5, q6, q7, q8, q9⟩ := Ents.ten HX2.out
  clear hB2 hlarge
  cases t with
  | true =>
    clear q0 q1 q2 q3 q4 q5 q6 q7 q8 q9
    go_wp2_with fail
    refine (awakeE_any _ (HW.out.below HB2.out)).mono ?_
    rintro e' w3 ⟨rfl, hB3⟩
    go_wp2
    go_ret
    exact truly_of (HB2.out.trans (hB3.mono HB2.out.size))
  | false =>
    obtain ⟨t2, ht2⟩ : ∃ t, t = En.large [e] := ⟨_, rfl⟩
    have hlarge := largeE_any (.slice (some ⟨w2.heap.size, 0, none⟩) 1 1) [e] (w2.alloc (.cells (En.cells e) 33)) (ReadsR.single (Lies.new _ _ _)) (fun a ha => by simp at ha; subst ha; exact HSE.out)
    rw [← ht2] at hlarge
    have HT2 := Lib.hid ht2
    have HB3 := Lib.hid (HB2.out.alloc HB2.out.size (.cells (En.cells e) 33))
    have HX3 := Lib.hid (HX2.out.alloc (.cells (En.cells e) 33))
    clear ht2
    go_wp2_with fail
    refine hlarge.mono ?_
    rintro e' w4 ⟨rfl, hB4⟩
    have HX4 := Lib.hid (HX3.out.below hB4 HX3.out.lt)
    have HB4 := Lib.hid (HB3.out.trans (hB4.mono HB3.out.size))
    clear hB4 hlarge q0 q1 q2 q3 q4 q5 q6 q7 q8 q9
    cases t2 with
    | true =>
      go_wp2_with fail
      refine (awakeE_any _ (HW.out.below HB4.out)).mono ?_
      rintro e' w5 ⟨rfl, hB5⟩
      go_wp2
      go_ret
      exact truly_of (HB4.out.trans (hB5.mono HB4.out.size))
    | false =>
      have hrise := rise_any _ _ w4 (HV.out.below HB4.out)
      obtain ⟨t3, ht3⟩ : ∃ t, t = En.rises l := ⟨_, rfl⟩
      rw [← ht3] at hrise
      have HT3 := Lib.hid ht3
      clear ht3
      go_wp2_with fail
      refine hrise.mono ?_
      rintro e' w5 ⟨rfl, hB5⟩
      have HX5 := Lib.hid (HX4.out.below hB5 HX4.out.lt)
      have HB5 := Lib.hid (HB4.out.trans (hB5.mono HB4.out.size))
      clear hB5 hrise
      cases t3 with
      | false =>
        go_wp2_with fail
        refine (awakeE_any _ (HW.out.below HB5.out)).mono ?_
        rintro e' w6 ⟨rfl, hB6⟩
        go_wp2
        go_ret
        exact truly_of (HB5.out.trans (hB6.mono HB5.out.size))
      | true =>
        have HA : Hid (En.Asc l) := by show En.Asc l; have h := HT3.out.symm; unfold En.rises at h; exact of_decide_eq_true h
        have HLEN : Hid (l.length ≤ 40) := (En.small HT.out.symm).1
        have HFROM : Hid (En.between l x 9223372036854775807 = l.drop (En.below l x)) := En.between_from l x HA.out (fun a ha => (HS.out a ha).1.i1)
        have HUNTIL : Hid (En.between l (-9223372036854775808) x = l.take (En.upto l x)) := En.between_until l x HA.out (fun a ha => (HS.out a ha).1.i0)
        have HPUT : Hid (En.refPut l e = En.put l e) := En.refPut_eq l e HA.out
        have HPLEN : Hid ((En.put l e).length ≤ 41) := by show _ ≤ _; have h1 := En.put_len l e; have h2 := HLEN.out; omega
        have HFIND := Lib.hid (En.put_found l e HA.out)
        have HAP : Hid (En.Asc (En.put l e)) := En.put_asc l e HA.out
        have hfind := find_ent _ l x w5 (HV.out.below HB5.out) HA.out (by have := HLEN.out; omega)
        have hrf := fun W h => refFindE_any (.slice ao n cap) l x W h HA.out
        obtain ⟨a, ha⟩ : ∃ a, a = En.find l x := ⟨_, rfl⟩
        obtain ⟨F, hF⟩ : ∃ F, F = En.found l x := ⟨_, rfl⟩
        obtain ⟨B, hB⟩ : ∃ B, B = En.below l x := ⟨_, rfl⟩
        rw [← ha, ← hF] at hfind
        unfold En.pos at hrf
        rw [← hF, ← hB] at hrf
        have HFA := Lib.hid ha; have HFF := Lib.hid hF; have HFB := Lib.hid hB
        have HRF := Lib.hid hrf
        have HEQA := fun W => run_eql_ent W a a
        have hgd := guard_ent
        rw [decide_eq_true (rfl : a = a)] at HEQA
        clear ha hF hB hrf
        cases F with
        | false =>
          have HZ : Hid (a = En.zero) := by show _ = _; rw [HFA.out, En.find_no HFF.out.symm]
          go_wp2_with fail
          refine (hfind).mono ?_
          rintro e' w6 ⟨rfl, hB6⟩
          have HX6 := Lib.hid (HX5.out.below hB6 HX5.out.lt)
          have HB6 := Lib.hid (HB5.out.trans (hB6.mono HB5.out.size))
          clear hB6
          clear hfind
          go_wp2_with (first
            | (refine store_ent (by rfl) _ _ (by rfl) w6.heap.size En.zero a (by rfl) (by rfl) (Lies.new _ _ _) ?_; intro w7 hl7 hg7
               have HY7 := Lib.hid hl7
               have hB7 : Below w6.heap.size w6 w7 := ((Below.refl _ w6).alloc (Nat.le_refl _) _).grown hg7 (by simp) (by rintro j hj; cases hj; exact Nat.le_refl _)
               have HX7 := Lib.hid (HX6.out.below hB7 HX6.out.lt)
               have HB7 := Lib.hid (HB6.out.trans (hB7.mono HB6.out.size))
               clear hl7 hg7 hB7)
            | (refine store_ent (by rfl) _ _ (by rfl) w7.heap.size En.zero En.zero (by rfl) (by rfl) (Lies.new _ _ _) ?_; intro w8 hl8 hg8
               have HZ8 := Lib.hid hl8
               have hB8 : Below w7.heap.size w7 w8 := ((Below.refl _ w7).alloc (Nat.le_refl _) _).grown hg8 (by simp) (by rintro j hj; cases hj; exact Nat.le_refl _)
               have HX8 := Lib.hid (HX7.out.below hB8 HX7.out.lt)
               have HY8 := Lib.hid (HY7.out.below hB8 HY7.out.lt)
               have HB8 := Lib.hid (HB7.out.trans (hB8.mono HB7.out.size))
               clear hl8 hg8 hB8))
          refine (HRF.out _ (HV.out.below HB8.out)).mono ?_
          rintro e' w9 ⟨rfl, hB9⟩
          have HX9 := Lib.hid (HX8.out.below hB9 HX8.out.lt)
          have HY9 := Lib.hid (HY8.out.below hB9 HY8.out.lt)
          have HZ9 := Lib.hid (HZ8.out.below hB9 HZ8.out.lt)
          have HB9 := Lib.hid (HB8.out.trans (hB9.mono HB8.out.size))
          clear hB9
          rw [if_neg (by simp)]
          have HZ10 : Hid (Ents w9 w7.heap.size a) := by show Ents _ _ _; rw [HZ.out]; exact HZ9.out
          go_wp2_with (first | (refine load_ent rfl _ rfl w.heap.size 0 e rfl (Ents.at HX9.out) ?_))
          refine (with_ent _ l e _ (HV.out.below HB9.out) HA.out (by have := HLEN.out; omega)).mono ?_
          rintro e' w11 ⟨v11, rfl, ho11, hB11⟩
          have HR11 : Hid (ReadsE w11 v11 (En.put l e)) := ho11.reads (En.sized _)
          have HX11 := Lib.hid (HX9.out.below hB11 HX9.out.lt)
          have HY11 := Lib.hid (HY9.out.below hB11 HY9.out.lt)
          have HZ11 := Lib.hid (HZ10.out.below hB11 HZ10.out.lt)
          have HB11 := Lib.hid (HB9.out.trans (hB11.mono HB9.out.size))
          obtain ⟨c0, _⟩ := Ents.ten HX11.out
          clear ho11 hB11
          go_wp2_with fail
          refine (find_ent v11 _ e.index _ HR11.out HAP.out (by have := HPLEN.out; omega)).mono ?_
          rintro e' w12 ⟨rfl, hB12⟩
          rw [HFIND.out.1, HFIND.out.2.2]
          have HR12 : Hid (ReadsE w12 v11 (En.put l e)) := HR11.out.below hB12
          have HX12 := Lib.hid (HX11.out.below hB12 HX11.out.lt)
          have HY12 := Lib.hid (HY11.out.below hB12 HY11.out.lt)
          have HZ12 := Lib.hid (HZ11.out.below hB12 HZ11.out.lt)
          have HB12 := Lib.hid (HB11.out.trans (hB12.mono HB11.out.size))
          clear hB12 c0
          have HEQE := fun W => run_eql_ent W e e
          rw [decide_eq_true (rfl : e = e)] at HEQE
          dsimp only [En.cells] at HEQE
          go_wp2_with (first
            | (refine store_ent (by rfl) _ _ (by rfl) w12.heap.size En.zero e (by rfl) (by rfl) (Lies.new _ _ _) ?_; intro w13 hl13 hg13
               have HU13 := Lib.hid hl13
               have hB13 : Below w12.heap.size w12 w13 := ((Below.refl _ w12).alloc (Nat.le_refl _) _).grown hg13 (by simp) (by rintro j hj; cases hj; exact Nat.le_refl _)
               have HR13 : Hid (ReadsE w13 v11 (En.put l e)) := HR12.out.below hB13
               have HX13 := Lib.hid (HX12.out.below hB13 HX12.out.lt)
               have HY13 := Lib.hid (HY12.out.below hB13 HY12.out.lt)
               have HZ13 := Lib.hid (HZ12.out.below hB13 HZ12.out.lt)
               have HB13 := Lib.hid (HB12.out.trans (hB13.mono HB12.out.size))
               obtain ⟨q0, q1, q2, q3, q4, q5, q6, q7, q8, q9⟩ := Ents.ten HX13.out
               clear hl13 hg13 hB13)
            | (refine load_ent rfl _ rfl w6.heap.size 0 a rfl (Ents.at HY13.out) ?_)
            | (refine load_ent rfl _ rfl w7.heap.size 0 a rfl (Ents.at HZ13.out) ?_))
          refine (refWith_any _ l e _ (HV.out.below HB13.out) (by have := HLEN.out; omega)).mono ?_
          rintro e' w14 ⟨v14, rfl, ho14, hB14⟩
          rw [HPUT.out] at ho14
          have HR14 : Hid (ReadsE w14 v11 (En.put l e)) := HR13.out.below hB14
          have HX14 := Lib.hid (HX13.out.below hB14 HX13.out.lt)
          have HU14 := Lib.hid (HU13.out.below hB14 HU13.out.lt)
          have HB14 := Lib.hid (HB13.out.trans (hB14.mono HB13.out.size))
          have HS14 : Hid (ReadsE w14 v14 (En.put l e)) := ho14.reads (En.sized _)
          clear hB14 ho14 q0 q1 q2 q3 q4 q5 q6 q7 q8 q9
          go_wp2_with fail
          refine (sameE_any v11 v14 _ _ _ HR14.out HS14.out).mono ?_
          rintro e' w15 ⟨rfl, hB15⟩
          rw [decide_eq_true (rfl : En.put l e = En.put l e)]
          have HB15 := Lib.hid (HB14.out.trans (hB15.mono HB14.out.size))
          obtain ⟨q0, q1, q2, q3, q4, q5, q6, q7, q8, q9⟩ := Ents.ten (HX14.out.below hB15 HX14.out.lt)
          obtain ⟨r0, r1, r2, r3, r4, r5, r6, r7, r8, r9⟩ := Ents.ten (HU14.out.below hB15 HU14.out.lt)
          clear hB15
          go_wp2_with fail
          refine (from_ent _ l x _ (HV.out.below HB15.out) HA.out (by have := HLEN.out; omega)).mono ?_
          rintro e' w16 ⟨v16, rfl, ho16, hB16⟩
          have HS16 : Hid (ReadsE w16 v16 (l.drop (En.below l x))) := ho16.reads (En.sized _)
          have HB16 := Lib.hid (HB15.out.trans (hB16.mono HB15.out.size))
          clear hB16 ho16 q0 q1 q2 q3 q4 q5 q6 q7 q8 q9 r0 r1 r2 r3 r4 r5 r6 r7 r8 r9
          go_wp2_with fail
          refine (refBetween_any _ l x 9223372036854775807 _ (HV.out.below HB16.out) (by have := HLEN.out; omega)).mono ?_
          rintro e' w17 ⟨v17, rfl, ho17, hB17⟩
          rw [HFROM.out] at ho17
          have HS17 : Hid (ReadsE w17 v17 (l.drop (En.below l x))) := ho17.reads (En.sized _)
          have HSA17 : Hid (ReadsE w17 v16 (l.drop (En.below l x))) := HS16.out.below hB17
          have HB17 := Lib.hid (HB16.out.trans (hB17.mono HB16.out.size))
          clear hB17 ho17
          go_wp2_with fail
          refine (sameE_any v16 v17 _ _ _ HSA17.out HS17.out).mono ?_
          rintro e' w18 ⟨rfl, hB18⟩
          rw [decide_eq_true (rfl : l.drop (En.below l x) = l.drop (En.below l x))]
          have HB18 := Lib.hid (HB17.out.trans (hB18.mono HB17.out.size))
          clear hB18
          go_wp2_with fail
          refine (until_ent _ l x _ (HV.out.below HB18.out) HA.out (by have := HLEN.out; omega)).mono ?_
          rintro e' w19 ⟨v19, rfl, ho19, hB19⟩
          have HS19 : Hid (ReadsE w19 v19 (l.take (En.upto l x))) := ho19.reads (En.sized _)
          have HB19 := Lib.hid (HB18.out.trans (hB19.mono HB18.out.size))
          clear hB19 ho19
          go_wp2_with fail
          refine (refBetween_any _ l (-9223372036854775808) x _ (HV.out.below HB19.out) (by have := HLEN.out; omega)).mono ?_
          rintro e' w20 ⟨v20, rfl, ho20, hB20⟩
          rw [HUNTIL.out] at ho20
          have HS20 : Hid (ReadsE w20 v20 (l.take (En.upto l x))) := ho20.reads (En.sized _)
          have HSA20 : Hid (ReadsE w20 v19 (l.take (En.upto l x))) := HS19.out.below hB20
          have HB20 := Lib.hid (HB19.out.trans (hB20.mono HB19.out.size))
          clear hB20 ho20
          go_wp2_with fail
          refine (sameE_any v19 v20 _ _ _ HSA20.out HS20.out).mono ?_
          rintro e' w21 ⟨rfl, hB21⟩
          rw [decide_eq_true (rfl : l.take (En.upto l x) = l.take (En.upto l x))]
          have HB21 := Lib.hid (HB20.out.trans (hB21.mono HB20.out.size))
          clear hB21
          go_wp2_with fail
          refine (awakeE_any _ (HW.out.below HB21.out)).mono ?_
          rintro e' w22 ⟨rfl, hB22⟩
          go_wp2
          go_ret
          exact truly_of (HB21.out.trans (hB22.mono HB21.out.size))
        | true =>
          obtain ⟨d, hd⟩ : ∃ d, l[B]? = some d := by
            obtain ⟨d, hd, _⟩ := En.found_at HFF.out.symm
            exact ⟨d, by rw [HFB.out]; exact hd⟩
          have HD := Lib.hid hd
          obtain rfl : d = a := by rw [HFA.out, En.find_yes HFF.out.symm (by rw [← HFB.out]; exact hd)]
          have hBn : B < n := by have := (List.getElem?_eq_some_iff.1 hd).1; have := HN.out; omega
          have hB9 : B ≤ 40 := by have := HLEN.out; have := HN.out; omega
          clear hd
          go_wp2_with fail
          refine (hfind).mono ?_
          rintro e' w6 ⟨rfl, hB6⟩
          have HX6 := Lib.hid (HX5.out.below hB6 HX5.out.lt)
          have HB6 := Lib.hid (HB5.out.trans (hB6.mono HB5.out.size))
          clear hB6
          clear hfind
          go_wp2_with (first
            | (refine store_ent (by rfl) _ _ (by rfl) w6.heap.size En.zero d (by rfl) (by rfl) (Lies.new _ _ _) ?_; intro w7 hl7 hg7
               have HY7 := Lib.hid hl7
               have hB7 : Below w6.heap.size w6 w7 := ((Below.refl _ w6).alloc (Nat.le_refl _) _).grown hg7 (by simp) (by rintro j hj; cases hj; exact Nat.le_refl _)
               have HX7 := Lib.hid (HX6.out.below hB7 HX6.out.lt)
               have HB7 := Lib.hid (HB6.out.trans (hB7.mono HB6.out.size))
               clear hl7 hg7 hB7)
            | (refine store_ent (by rfl) _ _ (by rfl) w7.heap.size En.zero En.zero (by rfl) (by rfl) (Lies.new _ _ _) ?_; intro w8 hl8 hg8
               have HZ8 := Lib.hid hl8
               have hB8 : Below w7.heap.size w7 w8 := ((Below.refl _ w7).alloc (Nat.le_refl _) _).grown hg8 (by simp) (by rintro j hj; cases hj; exact Nat.le_refl _)
               have HX8 := Lib.hid (HX7.out.below hB8 HX7.out.lt)
               have HY8 := Lib.hid (HY7.out.below hB8 HY7.out.lt)
               have HB8 := Lib.hid (HB7.out.trans (hB8.mono HB7.out.size))
               clear hl8 hg8 hB8))
          refine (HRF.out _ (HV.out.below HB8.out)).mono ?_
          rintro e' w9 ⟨rfl, hB9⟩
          have HX9 := Lib.hid (HX8.out.below hB9 HX8.out.lt)
          have HY9 := Lib.hid (HY8.out.below hB9 HY8.out.lt)
          have HZ9 := Lib.hid (HZ8.out.below hB9 HZ8.out.lt)
          have HB9 := Lib.hid (HB8.out.trans (hB9.mono HB8.out.size))
          clear hB9
          rw [if_pos trivial]
          obtain ⟨g, off, hao, _, hcell⟩ := ReadsE.places HV.out (by have := HN.out; omega)
          subst hao
          have HCELL := Lib.hid (hcell w9 HB9.out B d HD.out)
          have hpos : decide ((0 : Int) ≤ (B : Int)) = true := decide_eq_true (by omega)
          clear hcell
          go_wp2_with (first
            | (refine load_ent rfl _ rfl g (off + B * 10) d rfl HCELL.out ?_)
            | (refine store_ent (by rfl) _ _ (by rfl) w7.heap.size En.zero d (by rfl) (by rfl) HZ9.out ?_; intro w10 hl10 hg10
               have HZ10 := Lib.hid hl10
               have h67 : w6.heap.size < w7.heap.size := HY7.out.lt
               have h17 : w.heap.size < w7.heap.size := HX7.out.lt
               have HX10 := Lib.hid (HX9.out.kept hg10 (by simp; omega))
               have HY10 := Lib.hid (HY9.out.kept hg10 (by simp; omega))
               have HB10 := Lib.hid (HB9.out.grown hg10 HB9.out.size (by rintro j hj; cases hj; omega))
               clear hl10 hg10 h67 h17)
            | (refine load_ent rfl _ rfl w.heap.size 0 e rfl (Ents.at HX10.out) ?_))
          refine (with_ent _ l e _ (HV.out.below HB10.out) HA.out (by have := HLEN.out; omega)).mono ?_
          rintro e' w11 ⟨v11, rfl, ho11, hB11⟩
          have HR11 : Hid (ReadsE w11 v11 (En.put l e)) := ho11.reads (En.sized _)
          have HX11 := Lib.hid (HX10.out.below hB11 HX10.out.lt)
          have HY11 := Lib.hid (HY10.out.below hB11 HY10.out.lt)
          have HZ11 := Lib.hid (HZ10.out.below hB11 HZ10.out.lt)
          have HB11 := Lib.hid (HB10.out.trans (hB11.mono HB10.out.size))
          obtain ⟨c0, _⟩ := Ents.ten HX11.out
          clear ho11 hB11
          go_wp2_with fail
          refine (find_ent v11 _ e.index _ HR11.out HAP.out (by have := HPLEN.out; omega)).mono ?_
          rintro e' w12 ⟨rfl, hB12⟩
          rw [HFIND.out.1, HFIND.out.2.2]
          have HR12 : Hid (ReadsE w12 v11 (En.put l e)) := HR11.out.below hB12
          have HX12 := Lib.hid (HX11.out.below hB12 HX11.out.lt)
          have HY12 := Lib.hid (HY11.out.below hB12 HY11.out.lt)
          have HZ12 := Lib.hid (HZ11.out.below hB12 HZ11.out.lt)
          have HB12 := Lib.hid (HB11.out.trans (hB12.mono HB11.out.size))
          clear hB12 c0
          have HEQE := fun W => run_eql_ent W e e
          rw [decide_eq_true (rfl : e = e)] at HEQE
          dsimp only [En.cells] at HEQE
          go_wp2_with (first
            | (refine store_ent (by rfl) _ _ (by rfl) w12.heap.size En.zero e (by rfl) (by rfl) (Lies.new _ _ _) ?_; intro w13 hl13 hg13
               have HU13 := Lib.hid hl13
               have hB13 : Below w12.heap.size w12 w13 := ((Below.refl _ w12).alloc (Nat.le_refl _) _).grown hg13 (by simp) (by rintro j hj; cases hj; exact Nat.le_refl _)
               have HR13 : Hid (ReadsE w13 v11 (En.put l e)) := HR12.out.below hB13
               have HX13 := Lib.hid (HX12.out.below hB13 HX12.out.lt)
               have HY13 := Lib.hid (HY12.out.below hB13 HY12.out.lt)
               have HZ13 := Lib.hid (HZ12.out.below hB13 HZ12.out.lt)
               have HB13 := Lib.hid (HB12.out.trans (hB13.mono HB12.out.size))
               obtain ⟨q0, q1, q2, q3, q4, q5, q6, q7, q8, q9⟩ := Ents.ten HX13.out
               clear hl13 hg13 hB13)
            | (refine load_ent rfl _ rfl w6.heap.size 0 d rfl (Ents.at HY13.out) ?_)
            | (refine load_ent rfl _ rfl w7.heap.size 0 d rfl (Ents.at HZ13.out) ?_))
          refine (refWith_any _ l e _ (HV.out.below HB13.out) (by have := HLEN.out; omega)).mono ?_
          rintro e' w14 ⟨v14, rfl, ho14, hB14⟩
          rw [HPUT.out] at ho14
          have HR14 : Hid (ReadsE w14 v11 (En.put l e)) := HR13.out.below hB14
          have HX14 := Lib.hid (HX13.out.below hB14 HX13.out.lt)
          have HU14 := Lib.hid (HU13.out.below hB14 HU13.out.lt)
          have HB14 := Lib.hid (HB13.out.trans (hB14.mono HB13.out.size))
          have HS14 : Hid (ReadsE w14 v14 (En.put l e)) := ho14.reads (En.sized _)
          clear hB14 ho14 q0 q1 q2 q3 q4 q5 q6 q7 q8 q9
          go_wp2_with fail
          refine (sameE_any v11 v14 _ _ _ HR14.out HS14.out).mono ?_
          rintro e' w15 ⟨rfl, hB15⟩
          rw [decide_eq_true (rfl : En.put l e = En.put l e)]
          have HB15 := Lib.hid (HB14.out.trans (hB15.mono HB14.out.size))
          obtain ⟨q0, q1, q2, q3, q4, q5, q6, q7, q8, q9⟩ := Ents.ten (HX14.out.below hB15 HX14.out.lt)
          obtain ⟨r0, r1, r2, r3, r4, r5, r6, r7, r8, r9⟩ := Ents.ten (HU14.out.below hB15 HU14.out.lt)
          clear hB15
          go_wp2_with fail
          refine (from_ent _ l x _ (HV.out.below HB15.out) HA.out (by have := HLEN.out; omega)).mono ?_
          rintro e' w16 ⟨v16, rfl, ho16, hB16⟩
          have HS16 : Hid (ReadsE w16 v16 (l.drop (En.below l x))) := ho16.reads (En.sized _)
          have HB16 := Lib.hid (HB15.out.trans (hB16.mono HB15.out.size))
          clear hB16 ho16 q0 q1 q2 q3 q4 q5 q6 q7 q8 q9 r0 r1 r2 r3 r4 r5 r6 r7 r8 r9
          go_wp2_with fail
          refine (refBetween_any _ l x 9223372036854775807 _ (HV.out.below HB16.out) (by have := HLEN.out; omega)).mono ?_
          rintro e' w17 ⟨v17, rfl, ho17, hB17⟩
          rw [HFROM.out] at ho17
          have HS17 : Hid (ReadsE w17 v17 (l.drop (En.below l x))) := ho17.reads (En.sized _)
          have HSA17 : Hid (ReadsE w17 v16 (l.drop (En.below l x))) := HS16.out.below hB17
          have HB17 := Lib.hid (HB16.out.trans (hB17.mono HB16.out.size))
          clear hB17 ho17
          go_wp2_with fail
          refine (sameE_any v16 v17 _ _ _ HSA17.out HS17.out).mono ?_
          rintro e' w18 ⟨rfl, hB18⟩
          rw [decide_eq_true (rfl : l.drop (En.below l x) = l.drop (En.below l x))]
          have HB18 := Lib.hid (HB17.out.trans (hB18.mono HB17.out.size))
          clear hB18
          go_wp2_with fail
          refine (until_ent _ l x _ (HV.out.below HB18.out) HA.out (by have := HLEN.out; omega)).mono ?_
          rintro e' w19 ⟨v19, rfl, ho19, hB19⟩
          have HS19 : Hid (ReadsE w19 v19 (l.take (En.upto l x))) := ho19.reads (En.sized _)
          have HB19 := Lib.hid (HB18.out.trans (hB19.mono HB18.out.size))
          clear hB19 ho19
          go_wp2_with fail
          refine (refBetween_any _ l (-9223372036854775808) x _ (HV.out.below HB19.out) (by have := HLEN.out; omega)).mono ?_
          rintro e' w20 ⟨v20, rfl, ho20, hB20⟩
          rw [HUNTIL.out] at ho20
          have HS20 : Hid (ReadsE w20 v20 (l.take (En.upto l x))) := ho20.reads (En.sized _)
          have HSA20 : Hid (ReadsE w20 v19 (l.take (En.upto l x))) := HS19.out.below hB20
          have HB20 := Lib.hid (HB19.out.trans (hB20.mono HB19.out.size))
          clear hB20 ho20
          go_wp2_with fail
          refine (sameE_any v19 v20 _ _ _ HSA20.out HS20.out).mono ?_
          rintro e' w21 ⟨rfl, hB21⟩
          rw [decide_eq_true (rfl : l.take (En.upto l x) = l.take (En.upto l x))]
          have HB21 := Lib.hid (HB20.out.trans (hB21.mono HB20.out.size))
          clear hB21
          go_wp2_with fail
          refine (awakeE_any _ (HW.out.below HB21.out)).mono ?_
          rintro e' w22 ⟨rfl, hB22⟩
          go_wp2
          go_ret
          exact truly_of (HB21.out.trans (hB22.mono HB21.out.size))

end Go.Proofs.YtdbiplicmdnblaaDoor
