/- The laws of kvtwo, the first: awake, large, KvtwoOlder. -/
import Derived.Test.YtiakpedioemmiaaKwDo
import Derived.Test.YtiakpedioemmiaaKwRef
namespace Go.Proofs.Ytiakpedioemmiaa
open Go.RowKit

/-- The two commands of 'awake', and what they come to. -/
def Kv.bput : Cm.Cmd := ⟨2, 1, 1, 0, [97], [], [49]⟩
def Kv.bcas : Cm.Cmd := ⟨5, 1, 2, 0, [97], [49], [50]⟩
theorem Kv.bput_pairs : Kv.pairs2 [] Kv.bput = [⟨[97], [49], 1⟩] := by decide +kernel
theorem Kv.bput_ans : Kv.ans2 [] Kv.bput = ⟨1, 1, 0, false, [], 0⟩ := by decide +kernel
theorem Kv.bcas_pairs : Kv.pairs2 [⟨[97], [49], 1⟩] Kv.bcas = [⟨[97], [50], 2⟩] := by decide +kernel
theorem Kv.bcas_ans : Kv.ans2 [⟨[97], [49], 1⟩] Kv.bcas = ⟨1, 2, 0, true, [49], 2⟩ := by decide +kernel

set_option maxRecDepth 4000 in
set_option maxHeartbeats 1600000 in
theorem awakeKw_any (w : World) : Calls Try.prog 7 #[] w (Truly w) := by
  have hcall := do2_kv (.slice none 0 0) [] Kv.bput w (ReadsR.empty w 3) (by decide) (by simp)
  rw [Kv.bput_pairs, Kv.bput_ans] at hcall
  have HGET := Lib.hid (fun v W h => do2_kv v [⟨[97], [49], 1⟩] Kv.bcas W h (by decide +kernel) (by simp))
  rw [Kv.bcas_pairs, Kv.bcas_ans] at HGET
  go_enter Try.func7, Try.ntmps7
  go_wp2_with fail
  refine hcall.mono ?_
  rintro e w2 ⟨v2, rfl, ho2, hB2⟩
  have HR2 : Hid (ReadsK w2 v2 [⟨[97], [49], 1⟩]) := ho2.reads (Kv.sized _)
  have HB2 := Lib.hid hB2
  obtain ⟨ao, cap, rfl, _, _⟩ := ReadsK.shape HR2.out
  rw [show ([⟨[97], [49], 1⟩] : List Kv.Item).length = 1 by rfl] at *
  clear hcall ho2 hB2
  go_wp2_with (first
    | (refine store_ans (by rfl) _ _ (by rfl) w2.heap.size An.zero ⟨1, 1, 0, false, [], 0⟩ (by rfl) (by rfl) (Lies.new _ _ _) ?_; intro w3 hl3 hg3
       have hB3 : Below w2.heap.size w2 w3 := ((Below.refl _ w2).alloc (Nat.le_refl _) _).grown hg3 (by simp) (by rintro j hj; cases hj; exact Nat.le_refl _)
       have HB3 := Lib.hid (HB2.out.trans (hB3.mono HB2.out.size))
       have HR3 := Lib.hid (HR2.out.below hB3)
       clear hl3 hg3 hB3
       refine Hid.out ?_))
  refine Lib.hid ?_
  go_wp2_with fail
  refine (HGET.out _ _ HR3.out).mono ?_
  rintro e w4 ⟨v4, rfl, ho4, hB4⟩
  have HB4 := Lib.hid (HB3.out.trans (hB4.mono HB3.out.size))
  have HR4 : Hid (ReadsK w4 v4 [⟨[97], [50], 2⟩]) := ho4.reads (Kv.sized _)
  clear ho4 hB4
  obtain ⟨bo, bcap, rfl, _, _⟩ := ReadsK.shape HR4.out
  rw [show ([⟨[97], [50], 2⟩] : List Kv.Item).length = 1 by rfl] at *
  obtain ⟨g, off, rfl, hgl, hcell⟩ := ReadsK.places HR4.out (by simp)
  have HC := Lib.hid hcell
  clear hcell
  go_wp2_with (first
    | (refine store_ans (by rfl) _ _ (by rfl) w4.heap.size An.zero ⟨1, 2, 0, true, [49], 2⟩ (by rfl) (by rfl) (Lies.new _ _ _) ?_; intro w5 hl5 hg5
       have hB5 : Below w4.heap.size w4 w5 := ((Below.refl _ w4).alloc (Nat.le_refl _) _).grown hg5 (by simp) (by rintro j hj; cases hj; exact Nat.le_refl _)
       have HB5 := Lib.hid (HB4.out.trans (hB5.mono HB4.out.size))
       obtain ⟨q0, q1, q2, q3, q4, q5⟩ := Anss.every hl5
       have c2 := (HC.out _ hB5 0 _ rfl).c2
       dsimp only at c2
       rw [Nat.zero_mul, Nat.add_zero] at c2
       clear hl5 hg5 hB5))
  go_ret
  exact truly_of HB5.out

/-- Whether a command's strings are too long. -/
def Kv.broad (c : Cm.Cmd) : Bool := decide (200 < c.key.length) || (decide (200 < c.val.length) || decide (200 < c.old.length))
set_option maxRecDepth 4000 in
theorem broadKv_any (c : Cm.Cmd) (w : World) (hs : c.Short 9223372036854775807) : Calls Try.prog 11 #[.agg (Cm.cells c)] w (Looks w (.bool (Kv.broad c))) := by
  obtain ⟨w1, e1, hl1, hB1, hz1⟩ := box_cmd w c
  obtain ⟨p0, p1, p2, p3, p4, p5, p6⟩ := Cmds.all hl1
  have HB1 := Lib.hid hB1
  obtain ⟨s1, s2, s3⟩ := hs
  have k1 := str_size c.key
  have k2 := str_size c.val
  have k3 := str_size c.old
  obtain ⟨r, hr⟩ : ∃ r, r = Kv.broad c := ⟨_, rfl⟩
  rw [← hr]
  unfold Kv.broad at hr
  obtain ⟨x1, hx1⟩ : ∃ x, x = c.key.length := ⟨_, rfl⟩
  obtain ⟨x2, hx2⟩ : ∃ x, x = c.val.length := ⟨_, rfl⟩
  obtain ⟨x3, hx3⟩ : ∃ x, x = c.old.length := ⟨_, rfl⟩
  rw [← hx1] at k1 s1 hr
  rw [← hx2] at k2 s3 hr
  rw [← hx3] at k3 s2 hr
  have HR := Lib.hid hr
  clear hl1 hB1 hz1 hr hx1 hx2 hx3
  go_enter Try.func11, Try.ntmps11
  by_cases h1 : 200 < x1
  · have d1 : decide ((200 : Int) < (x1 : Int)) = true := by simp; omega
    have HZ : Hid (r = true) := by show _ = _; rw [HR.out]; simp [h1]
    go_wp2
    go_ret
    exact ⟨by rw [HZ.out]; rfl, HB1.out⟩
  · have d1 : decide ((200 : Int) < (x1 : Int)) = false := by simp; omega
    by_cases h2 : 200 < x2
    · have d2 : decide ((200 : Int) < (x2 : Int)) = true := by simp; omega
      have HZ : Hid (r = true) := by show _ = _; rw [HR.out]; simp [h2]
      go_wp2
      go_ret
      exact ⟨by rw [HZ.out]; rfl, HB1.out⟩
    · have d2 : decide ((200 : Int) < (x2 : Int)) = false := by simp; omega
      have HZ : Hid (r = decide ((200 : Int) < (x3 : Int))) := by show _ = _; rw [HR.out]; simp [h1, h2]; omega
      obtain ⟨t3, d3⟩ : ∃ t, decide ((200 : Int) < (x3 : Int)) = t := ⟨_, rfl⟩
      rw [d3] at HZ
      go_wp2
      go_ret
      exact ⟨by rw [HZ.out]; rfl, HB1.out⟩

set_option maxRecDepth 4000 in
set_option maxHeartbeats 1600000 in
theorem kvtwoOlder_any (v : Value) (l : List Kv.Item) (c : Cm.Cmd) (w : World) (hv : ReadsK w v l) (hs : ∀ s ∈ l, s.key.length ≤ 9223372036854775807 ∧ s.val.length ≤ 9223372036854775807) (hc : c.Short 9223372036854775807) :
    Calls Try.prog 4 #[v, .agg (Cm.cells c)] w (Truly w) := by
  obtain ⟨w1, e1, hl1, hB1, hz1⟩ := box_cmd w c
  have HC1 := Lib.hid hl1; have HB1 := Lib.hid hB1
  have hlarge := largeKv_any v l w1 (hv.below hB1) hs
  have HV := Lib.hid hv
  have HWI := Lib.hid (fun W => broadKv_any c W hc)
  obtain ⟨ao, cap, rfl, _, _⟩ := ReadsK.shape hv
  obtain ⟨t, ht⟩ : ∃ t, t = Kv.large l := ⟨_, rfl⟩
  rw [← ht] at hlarge
  have HT := Lib.hid ht
  obtain ⟨tw, htw⟩ : ∃ t, t = Kv.broad c := ⟨_, rfl⟩
  rw [← htw] at HWI
  have HRI := Lib.hid (fun W h => riseKv_any (.slice ao l.length cap) l W h)
  obtain ⟨t3, ht3⟩ : ∃ t, t = Kv.rises l := ⟨_, rfl⟩
  rw [← ht3] at HRI
  have HT3 := Lib.hid ht3
  have HDO := Lib.hid (fun W h hp hn => do2_kv (.slice ao l.length cap) l c W h hp hn)
  have HPL := Lib.hid (fun W h hn => plainKv_any (.slice ao l.length cap) l W h hn)
  obtain ⟨n, hn⟩ : ∃ n, n = l.length := ⟨_, rfl⟩
  rw [← hn] at hlarge HV HRI HDO HPL ⊢
  have HN := Lib.hid hn
  clear hv hs ht htw ht3 hn hl1 hB1 hz1 hc
  go_enter Try.func4, Try.ntmps4
  go_wp2_with fail
  refine hlarge.mono ?_
  rintro e w2 ⟨rfl, hB2⟩
  have HC2 := Lib.hid (HC1.out.below hB2 HC1.out.lt)
  have HB2 := Lib.hid (HB1.out.trans (hB2.mono HB1.out.size))
  clear hB2 hlarge
  cases t with
  | true =>
    go_wp2_with fail
    refine (awakeKw_any _).mono ?_
    rintro e w3 ⟨rfl, hBw3⟩
    go_wp2
    go_ret
    exact truly_of (HB2.out.trans (hBw3.mono HB2.out.size))
  | false =>
    obtain ⟨p0, p1, p2, p3, p4, p5, p6⟩ := Cmds.all HC2.out
    go_wp2_with fail
    refine (HWI.out _).mono ?_
    rintro e w3 ⟨rfl, hB3⟩
    have HC3 := Lib.hid (HC2.out.below hB3 HC2.out.lt)
    have HB3 := Lib.hid (HB2.out.trans (hB3.mono HB2.out.size))
    clear hB3 p0 p1 p2 p3 p4 p5 p6
    cases tw with
    | true =>
      go_wp2_with fail
      refine (awakeKw_any _).mono ?_
      rintro e w4 ⟨rfl, hBw4⟩
      go_wp2
      go_ret
      exact truly_of (HB3.out.trans (hBw4.mono HB3.out.size))
    | false =>
      go_wp2_with fail
      refine (HRI.out _ (HV.out.below HB3.out)).mono ?_
      rintro e w4 ⟨rfl, hB4⟩
      have HC4 := Lib.hid (HC3.out.below hB4 HC3.out.lt)
      have HB4 := Lib.hid (HB3.out.trans (hB4.mono HB3.out.size))
      clear hB4
      cases t3 with
      | false =>
        go_wp2_with fail
        refine (awakeKw_any _).mono ?_
        rintro e w5 ⟨rfl, hBw5⟩
        go_wp2
        go_ret
        exact truly_of (HB4.out.trans (hBw5.mono HB4.out.size))
      | true =>
        obtain ⟨p0, p1, p2, p3, p4, p5, p6⟩ := Cmds.all HC4.out
        by_cases hk : c.kind = 5
        · have hk5 : (c.kind == 5) = true := by simpa using hk
          clear hk
          go_wp2_with fail
          refine (awakeKw_any _).mono ?_
          rintro e w5 ⟨rfl, hBw5⟩
          go_wp2
          go_ret
          exact truly_of (HB4.out.trans (hBw5.mono HB4.out.size))
        · have hk5 : (c.kind == 5) = false := by simpa using hk
          have HA : Hid (Kv.Asc l) := by show Kv.Asc l; have h := HT3.out.symm; unfold Kv.rises at h; exact of_decide_eq_true h
          have HN80 : Hid (l.length ≤ 80) := (Kv.small HT.out.symm).1
          have HOP := Lib.hid (Kv.older_pairs (l := l) hk)
          have HOA := Lib.hid (Kv.older_ans (l := l) hk)
          have HML : Hid ((Kv.pairs2 l c).length ≤ 81) := by show _ ≤ _; have := Kv.pairs2_len l c; have := HN80.out; omega
          have HPA : Hid (Kv.Asc (Kv.plain l)) := Kv.plain_asc.2 HA.out
          have HPN : Hid ((Kv.plain l).length ≤ 80) := by show _ ≤ _; rw [Kv.plain_len]; exact HN80.out
          have HDP := Lib.hid (fun u W h => do_kv u (Kv.plain l) c W h HPA.out (by have := HPN.out; omega))
          have HD2 := Lib.hid (fun W h => HDO.out W h HA.out (by have := HN80.out; have := HN.out; omega))
          have HP1 := Lib.hid (fun W h => HPL.out W h (by have := HN80.out; have := HN.out; omega))
          have HP2 := Lib.hid (fun u W h => plainKv_any u (Kv.pairs2 l c) W h (by have := HML.out; omega))
          have HSA := Lib.hid (fun u x W h1 h2 => sameKv_any u x (Kv.pairs (Kv.plain l) c) (Kv.pairs (Kv.plain l) c) W h1 h2)
          rw [HOP.out] at HP2
          rw [← HOA.out] at HDP
          obtain ⟨A, hA⟩ : ∃ A, A = Kv.ans2 l c := ⟨_, rfl⟩
          obtain ⟨M, hM⟩ : ∃ M, M = Kv.pairs2 l c := ⟨_, rfl⟩
          obtain ⟨O, hO⟩ : ∃ O, O = Kv.pairs (Kv.plain l) c := ⟨_, rfl⟩
          obtain ⟨L, hL⟩ : ∃ L, L = Kv.plain l := ⟨_, rfl⟩
          rw [← hA] at HDP HD2
          rw [← hM] at HP2 HD2
          rw [← hO] at HP2 HSA HDP
          rw [← hL] at HDP HP1
          rw [decide_eq_true rfl] at HSA
          clear hA hM hO hL HDO HPL HOP HOA hk
          go_wp2_with (first
            | (refine load_cmd rfl _ rfl w.heap.size c rfl HC4.out ?_; refine Hid.out ?_))
          refine Lib.hid ?_
          clear p0 p1 p2 p3 p4 p5 p6
          go_wp2_with fail
          refine (HD2.out _ (HV.out.below HB4.out)).mono ?_
          rintro e w5 ⟨v5, rfl, ho5, hB5⟩
          have HC5 := Lib.hid (HC4.out.below hB5 HC4.out.lt)
          have HR5 : Hid (ReadsK w5 v5 M) := ho5.reads (Kv.sized _)
          have HB5 := Lib.hid (HB4.out.trans (hB5.mono HB4.out.size))
          clear ho5 hB5
          go_wp2_with (first
            | (refine store_ans (by rfl) _ _ (by rfl) w5.heap.size An.zero A (by rfl) (by rfl) (Lies.new _ _ _) ?_; intro w6 hl6 hg6
               have hB6 : Below w5.heap.size w5 w6 := ((Below.refl _ w5).alloc (Nat.le_refl _) _).grown hg6 (by simp) (by rintro j hj; cases hj; exact Nat.le_refl _)
               have HC6 := Lib.hid (HC5.out.below hB6 HC5.out.lt)
               have HR6 := Lib.hid (HR5.out.below hB6)
               have HB6 := Lib.hid (HB5.out.trans (hB6.mono HB5.out.size))
               have HY6 := Lib.hid hl6
               clear hl6 hg6 hB6
               refine Hid.out ?_))
          refine Lib.hid ?_
          /- the ways -/
          have hd6 : Below w6.heap.size w6 w6.drew := (Below.refl _ _).drew
          have HVd := Lib.hid (HV.out.below (HB6.out.trans (hd6.mono HB6.out.size)))
          have HCA := Lib.hid (HP1.out w6.drew HVd.out)
          have K6 := Cmds.all HC6.out
          have K6d := Cmds.all (HC6.out.below hd6 HC6.out.lt)
          obtain ⟨w6z, e6z, lz6, bz6, hz6⟩ := box_ans w6 An.zero
          dsimp only [An.cells, An.zero] at e6z
          have hd6z : Below w6z.heap.size w6z w6z.drew := (Below.refl _ _).drew
          have b6z : Below w6.heap.size w6 w6z.drew := bz6.drew
          have HCB := Lib.hid (HP1.out w6z.drew (HV.out.below (HB6.out.trans (b6z.mono HB6.out.size))))
          have HLB := Lib.hid (lz6.below hd6z lz6.lt)
          have HBB := Lib.hid b6z
          have K6z := Cmds.all (HC6.out.below b6z HC6.out.lt)
          have HD6 := Lib.hid hd6
          have HC6d := Lib.hid (HC6.out.below hd6 HC6.out.lt)
          have HC6z := Lib.hid (HC6.out.below b6z HC6.out.lt)
          clear hd6 bz6 hd6z b6z lz6
          unfold DoneK at HDP
          dsimp only [Cm.cells, An.cells] at HDP
          go_wp2_with fail
          go_region_held3 (fun w' => w'.cell? ⟨w.heap.size, 0, none⟩ = some (.int .i64 c.kind) ∧ w'.cell? ⟨w.heap.size, 1, none⟩ = some (.int .i64 c.client) ∧ w'.cell? ⟨w.heap.size, 2, none⟩ = some (.int .i64 c.seq) ∧ w'.cell? ⟨w.heap.size, 3, none⟩ = some (.string ⟨c.key.toArray⟩) ∧
              w'.cell? ⟨w.heap.size, 4, none⟩ = some (.string ⟨c.val.toArray⟩) ∧ w'.cell? ⟨w.heap.size, 5, none⟩ = some (.string ⟨c.old.toArray⟩) ∧ w'.cell? ⟨w.heap.size, 6, none⟩ = some (.int .i64 c.node))
            (first | go_keep | exact K6 | exact K6d | exact K6z | exact K7 | exact K7z | exact K8 | exact K8z | exact K9) (first
            | (go_at_call 9
               with_reducible refine HCA.out.mono ?_
               rintro e w7 ⟨v7, rfl, ho7, hB7⟩
               have hr7 : ReadsK w7 v7 L := ho7.reads (Kv.sized _)
               have HB7 := Lib.hid (HD6.out.trans (hB7.mono HD6.out.size))
               have HC7 := Lib.hid (HC6d.out.below hB7 HC6d.out.lt)
               have K7 := Cmds.all HC7.out
               have HDA := Lib.hid (HDP.out v7 w7 hr7)
               obtain ⟨w7z, e7z, lz7, bz7, hz7⟩ := box_ans w7 An.zero
               dsimp only [An.cells, An.zero] at e7z
               have HDZ := Lib.hid (HDP.out v7 w7z (hr7.below bz7))
               have HLZ := Lib.hid lz7
               have HBZ := Lib.hid bz7
               have HC7z := Lib.hid (HC7.out.below bz7 HC7.out.lt)
               have K7z := Cmds.all HC7z.out
               clear ho7 hB7 hr7 lz7 bz7)
            | (go_at_call 9
               with_reducible refine HCB.out.mono ?_
               rintro e w7 ⟨v7, rfl, ho7, hB7⟩
               have hr7 : ReadsK w7 v7 L := ho7.reads (Kv.sized _)
               have HB7 := Lib.hid (HBB.out.trans (hB7.mono HBB.out.size))
               have HC7 := Lib.hid (HC6z.out.below hB7 HC6z.out.lt)
               have K7 := Cmds.all HC7.out
               have HLC := Lib.hid (HLB.out.below hB7 HLB.out.lt)
               have HDB := Lib.hid (HDP.out v7 w7 hr7)
               clear ho7 hB7 hr7)
            | (go_at_call 14
               with_reducible refine HDA.out.mono ?_
               rintro e w8 ⟨v8, rfl, ho8, hB8⟩
               have hr8 : ReadsK w8 v8 O := ho8.reads (Kv.sized _)
               obtain ⟨vz, ez, lz, bz, hz⟩ := box_ans w8 An.zero
               dsimp only [An.cells, An.zero] at ez
               obtain ⟨z0, z1, z2, z3, z4, z5⟩ := Anss.every lz
               dsimp only [An.zero] at z0 z1 z2 z3 z4 z5
               have f0 := lz.free 0; have f1 := lz.free 1; have f2 := lz.free 2; have f3 := lz.free 3; have f4 := lz.free 4; have f5 := lz.free 5
               obtain ⟨w9, e9, hl9, hg9⟩ := set_ansK A lz
               have HN9 := Lib.hid hl9
               have b89 : Below w8.heap.size w8 w9 := bz.grown hg9 bz.size (by rintro j hj; cases hj; exact Nat.le_refl _)
               have hW : w6.heap.size ≤ w7.heap.size := HB7.out.size
               have hW8 : w6.heap.size ≤ w8.heap.size := Nat.le_trans hW hB8.size
               have HR9 := Lib.hid (hr8.below b89)
               have HBQ := Lib.hid ((HB7.out.trans (hB8.mono hW)).trans (b89.mono hW8))
               have HC8 := Lib.hid (HC7.out.below hB8 HC7.out.lt)
               have K8 := Cmds.all HC8.out
               have K8z := Cmds.all (HC8.out.below bz HC8.out.lt)
               have K9 := Cmds.all (HC8.out.below b89 HC8.out.lt)
               clear ho8 hB8 hr8 bz b89 hl9 hg9)
            | (go_at_call 14
               with_reducible refine HDZ.out.mono ?_
               rintro e w8 ⟨v8, rfl, ho8, hB8⟩
               have lz8 : Anss w8 w7.heap.size An.zero := HLZ.out.below hB8 HLZ.out.lt
               obtain ⟨z0, z1, z2, z3, z4, z5⟩ := Anss.every lz8
               dsimp only [An.zero] at z0 z1 z2 z3 z4 z5
               have f0 := lz8.free 0; have f1 := lz8.free 1; have f2 := lz8.free 2; have f3 := lz8.free 3; have f4 := lz8.free 4; have f5 := lz8.free 5
               obtain ⟨w9, e9, hl9, hg9⟩ := set_ansK A lz8
               have HN9 := Lib.hid hl9
               have hW : w6.heap.size ≤ w7.heap.size := HB7.out.size
               have hWz := HBZ.out.size
               have HR9 : Hid (ReadsK w9 v8 O) := (ho8.besides hg9 HLZ.out.lt).reads (Kv.sized _)
               have HBQ := Lib.hid (((HB7.out.trans (HBZ.out.mono hW)).trans (hB8.mono (Nat.le_trans hW hWz))).grown hg9 (Nat.le_trans (Nat.le_trans hW hWz) hB8.size) (by rintro j hj; cases hj; exact hW))
               have HC8 := Lib.hid (HC7z.out.below hB8 HC7z.out.lt)
               have K8 := Cmds.all HC8.out
               have K9 := Cmds.all (HC6.out.below HBQ.out HC6.out.lt)
               clear ho8 hB8 lz8 hl9 hg9)
            | (go_at_call 14
               with_reducible refine HDB.out.mono ?_
               rintro e w8 ⟨v8, rfl, ho8, hB8⟩
               have lz8 : Anss w8 w6.heap.size An.zero := HLC.out.below hB8 HLC.out.lt
               obtain ⟨z0, z1, z2, z3, z4, z5⟩ := Anss.every lz8
               dsimp only [An.zero] at z0 z1 z2 z3 z4 z5
               have f0 := lz8.free 0; have f1 := lz8.free 1; have f2 := lz8.free 2; have f3 := lz8.free 3; have f4 := lz8.free 4; have f5 := lz8.free 5
               obtain ⟨w9, e9, hl9, hg9⟩ := set_ansK A lz8
               have HN9 := Lib.hid hl9
               have hW : w6.heap.size ≤ w7.heap.size := HB7.out.size
               have HR9 : Hid (ReadsK w9 v8 O) := (ho8.besides hg9 HLC.out.lt).reads (Kv.sized _)
               have HBQ := Lib.hid ((HB7.out.trans (hB8.mono hW)).grown hg9 (Nat.le_trans hW hB8.size) (by rintro j hj; cases hj; exact Nat.le_refl _))
               have HC8 := Lib.hid (HC7.out.below hB8 HC7.out.lt)
               have K8 := Cmds.all HC8.out
               have K9 := Cmds.all (HC6.out.below HBQ.out HC6.out.lt)
               clear ho8 hB8 lz8 hl9 hg9))
          all_goals
            have HRM := Lib.hid (HR6.out.below HBQ.out)
            have HYM := Lib.hid (HY6.out.below HBQ.out HY6.out.lt)
            have HBw := Lib.hid (HB6.out.trans (HBQ.out.mono HB6.out.size))
            have HPC := Lib.hid (HP2.out v5 w9 HRM.out)
            have hsame := fun W => run_same_ans W A
            dsimp only [An.cells] at hsame
            have hgd := guard_ans
            clear z0 z1 z2 z3 z4 z5 f0 f1 f2 f3 f4 f5 e9 K6 K6d K6z K7 K8 K9 e6z
            go_wp2_with fail
            refine HPC.out.mono ?_
            rintro e w10 ⟨v10, rfl, ho10, hB10⟩
            have HSC := Lib.hid (HSA.out v10 v8 w10 (ho10.reads (Kv.sized _)) (HR9.out.below hB10))
            have HY10 := Lib.hid (HYM.out.below hB10 HYM.out.lt)
            have HN10 := Lib.hid (HN9.out.below hB10 HN9.out.lt)
            have HB10 := Lib.hid (HBw.out.trans (hB10.mono HBw.out.size))
            clear ho10 hB10
            go_wp2_with fail
            refine HSC.out.mono ?_
            rintro e w11 ⟨rfl, hB11⟩
            obtain ⟨y0, y1, y2, y3, y4, y5⟩ := Anss.every (HY10.out.below hB11 HY10.out.lt)
            obtain ⟨z0, z1, z2, z3, z4, z5⟩ := Anss.every (HN10.out.below hB11 HN10.out.lt)
            have HB11 := Lib.hid (HB10.out.trans (hB11.mono HB10.out.size))
            clear hB11
            go_wp2_with fail
            refine (awakeKw_any _).mono ?_
            rintro e w12 ⟨rfl, hB12⟩
            go_wp2
            go_ret
            exact truly_of (HB11.out.trans (hB12.mono HB11.out.size))

end Go.Proofs.Ytiakpedioemmiaa
