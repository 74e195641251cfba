/- The law KvtwoCas. Written by a program. -/
import Derived.Test.YtiakpedioemmiaaKwLaw
import Derived.BigQuiet
namespace Go.Proofs.Ytiakpedioemmiaa
open Go.RowKit

/-- The command as a compare and swap. -/
def Kv.asCas (c : Cm.Cmd) : Cm.Cmd := { c with kind := 5 }
theorem set_kind5 {w : World} {g : Nat} {c : Cm.Cmd} (h : Cmds w g c) : ∃ w', w.setCell ⟨g, 0, none⟩ (.int .i64 5) = w' ∧ Cmds w' g (Kv.asCas c) ∧ w.grownBy w' (some g) :=
  ⟨_, rfl, h.set 0 _, grown_set w g 0 _⟩
theorem Kv.cas_pairs (l : List Kv.Item) (c : Cm.Cmd) : Kv.pairs2 l (Kv.asCas c) = if Kv.hit l c = true then Kv.put2 l (Kv.asPut c) else l := by
  unfold Kv.pairs2
  rw [if_neg (by simp [Kv.asCas]), if_pos (show (Kv.asCas c).kind = 5 from rfl)]
  rfl
theorem Kv.cas_ans (l : List Kv.Item) (c : Cm.Cmd) : Kv.ans2 l (Kv.asCas c) = if Kv.found l c.key = false then Kv.none2 c else if Kv.hit l c = true then Kv.cas2 l c else Kv.stale2 l c := by
  unfold Kv.ans2
  rw [if_pos (show (Kv.asCas c).kind = 5 from rfl)]
  rfl
/-- The three ways of a compare and swap: what it leaves, what it answers. -/
theorem Kv.cas_three {l : List Kv.Item} (c : Cm.Cmd) (hp : Kv.Asc l) (hr : ∀ s ∈ l, 1 ≤ s.rev) :
    (∃ I : Int, I < 0 ∧ Kv.ix l c.key = I ∧ Kv.pairs2 l (Kv.asCas c) = l ∧ (Kv.ans2 l (Kv.asCas c)).err = 10) ∨
    (∃ (k : Nat) (p : Kv.Item), Kv.ix l c.key = (k : Int) ∧ l[k]? = some p ∧ p.val ≠ c.old ∧ Kv.pairs2 l (Kv.asCas c) = l ∧ (Kv.ans2 l (Kv.asCas c)).err = 15) ∨
    (∃ (k : Nat) (p : Kv.Item) (r : Int), Kv.ix l c.key = (k : Int) ∧ l[k]? = some p ∧ p.val = c.old ∧ p.key = c.key ∧ p.rev ≤ r ∧ Kv.pairs2 l (Kv.asCas c) = l.set k ⟨c.key, c.val, r⟩ ∧ (Kv.ans2 l (Kv.asCas c)).err = 0) := by
  rw [Kv.cas_pairs, Kv.cas_ans]
  rcases Kv.ix_below (x := c.key) hp with ⟨hf, hi, hg, hk⟩ | ⟨hf, hi⟩
  · rw [if_neg (show ¬ (Kv.found l c.key = false) by rw [hf]; simp)]
    by_cases hx : (Kv.find l c.key).val = c.old
    · have hh : Kv.hit l c = true := by unfold Kv.hit; rw [hf, decide_eq_true hx]; rfl
      rw [if_pos hh, if_pos hh]
      refine .inr (.inr ⟨_, _, Kv.nxt (Kv.find l c.key).rev, hi, hg, hx, hk, Kv.nxt_le (hr _ (List.mem_of_getElem? hg)), Kv.hit_put hp hf, rfl⟩)
    · have hh : Kv.hit l c = false := by unfold Kv.hit; rw [decide_eq_false hx, Bool.and_false]
      rw [if_neg (show ¬ (Kv.hit l c = true) by rw [hh]; simp), if_neg (show ¬ (Kv.hit l c = true) by rw [hh]; simp)]
      exact .inr (.inl ⟨_, _, hi, hg, hx, rfl, rfl⟩)
  · have hh : Kv.hit l c = false := by unfold Kv.hit; rw [hf]; rfl
    rw [if_pos hf, if_neg (show ¬ (Kv.hit l c = true) by rw [hh]; simp)]
    exact .inl ⟨_, hi, rfl, rfl, rfl⟩
theorem Kv.rev_least {l : List Kv.Item} (h : Kv.refCheck2 l = true) : ∀ s ∈ l, 1 ≤ s.rev := by
  intro s hs
  unfold Kv.refCheck2 at h
  by_cases ha : l.all Kv.valid2 = true
  · have h1 := List.all_eq_true.1 ha s hs
    unfold Kv.valid2 Kv.inRev at h1
    simp only [Bool.and_eq_true, decide_eq_true_eq] at h1
    exact h1.2.2.1
  · rw [if_neg ha] at h; cases h

set_option maxRecDepth 4000 in
set_option maxHeartbeats 3200000 in
theorem kvtwoCas_any (v : Value) (l : List Kv.Item) (c : Cm.Cmd) (w : World) (hv : ReadsK w v l) (hs : ∀ s ∈ l, s.key.length ≤ 9223372036854775807 ∧ s.val.length ≤ 9223372036854775807) (hc : c.Short 9223372036854775807) :
    Calls Try.prog 5 #[v, .agg (Cm.cells c)] w (Truly w) := by
  obtain ⟨w1, e1, hl1, hB1, hz1⟩ := box_cmd w c
  have HC1 := Lib.hid hl1; have HB1 := Lib.hid hB1
  have hlarge := largeKv_any v l w1 (hv.below hB1) hs
  have HV := Lib.hid hv
  have HWI := Lib.hid (fun W => broadKv_any c W hc)
  obtain ⟨ao, cap, rfl, _, _⟩ := ReadsK.shape hv
  obtain ⟨t, ht⟩ : ∃ t, t = Kv.large l := ⟨_, rfl⟩
  rw [← ht] at hlarge
  have HT := Lib.hid ht
  obtain ⟨tw, htw⟩ : ∃ t, t = Kv.broad c := ⟨_, rfl⟩
  rw [← htw] at HWI
  have HRC := Lib.hid (fun W h hs => refCheck2Kv_any (.slice ao l.length cap) l W h hs)
  obtain ⟨r, hr⟩ : ∃ r, r = Kv.refCheck2 l := ⟨_, rfl⟩
  rw [← hr] at HRC
  have HRR := Lib.hid hr
  have HDO := Lib.hid (fun W h hp hn => do2_kv (.slice ao l.length cap) l (Kv.asCas c) W h hp hn)
  have HPLC := Lib.hid (fun W h => placeKv_any (.slice ao l.length cap) l c.key W h)
  obtain ⟨n, hn⟩ : ∃ n, n = l.length := ⟨_, rfl⟩
  rw [← hn] at hlarge HV HRC HDO HPLC ⊢
  have HN := Lib.hid hn
  clear hv hs ht htw hn hl1 hB1 hz1 hc hr
  go_enter Try.func5, Try.ntmps5
  go_wp2_with fail
  refine hlarge.mono ?_
  rintro e w2 ⟨rfl, hB2⟩
  have HC2 := Lib.hid (HC1.out.below hB2 HC1.out.lt)
  have HB2 := Lib.hid (HB1.out.trans (hB2.mono HB1.out.size))
  clear hB2 hlarge
  cases t with
  | true =>
    go_wp2_with fail
    refine (awakeKw_any _).mono ?_
    rintro e w3 ⟨rfl, hBw3⟩
    go_wp2
    go_ret
    exact truly_of (HB2.out.trans (hBw3.mono HB2.out.size))
  | false =>
    obtain ⟨p0, p1, p2, p3, p4, p5, p6⟩ := Cmds.all HC2.out
    go_wp2_with fail
    refine (HWI.out _).mono ?_
    rintro e w3 ⟨rfl, hB3⟩
    have HC3 := Lib.hid (HC2.out.below hB3 HC2.out.lt)
    have HB3 := Lib.hid (HB2.out.trans (hB3.mono HB2.out.size))
    clear hB3 p0 p1 p2 p3 p4 p5 p6
    cases tw with
    | true =>
      go_wp2_with fail
      refine (awakeKw_any _).mono ?_
      rintro e w4 ⟨rfl, hBw4⟩
      go_wp2
      go_ret
      exact truly_of (HB3.out.trans (hBw4.mono HB3.out.size))
    | false =>
      have HSM : Hid (∀ s ∈ l, s.key.length ≤ 140737488355328 ∧ s.val.length ≤ 140737488355328) := fun s h => by have := (Kv.small HT.out.symm).2 s h; omega
      go_wp2_with fail
      refine (HRC.out _ (HV.out.below HB3.out) HSM.out).mono ?_
      rintro e w4 ⟨rfl, hB4⟩
      have HC4 := Lib.hid (HC3.out.below hB4 HC3.out.lt)
      have HB4 := Lib.hid (HB3.out.trans (hB4.mono HB3.out.size))
      clear hB4
      cases r with
      | false =>
        go_wp2_with fail
        refine (awakeKw_any _).mono ?_
        rintro e w5 ⟨rfl, hBw5⟩
        go_wp2
        go_ret
        exact truly_of (HB4.out.trans (hBw5.mono HB4.out.size))
      | true =>
        have HA : Hid (Kv.Asc l) := Kv.refCheck2_asc HRR.out.symm
        have HN80 : Hid (n ≤ 80) := by show n ≤ 80; rw [HN.out]; exact (Kv.small HT.out.symm).1
        have HD2 := Lib.hid (fun W h => HDO.out W h HA.out (by have := HN80.out; have := HN.out; omega))
        have hthree := Kv.cas_three c HA.out (Kv.rev_least HRR.out.symm)
        obtain ⟨A, hA⟩ : ∃ A, A = Kv.ans2 l (Kv.asCas c) := ⟨_, rfl⟩
        obtain ⟨M, hM⟩ : ∃ M, M = Kv.pairs2 l (Kv.asCas c) := ⟨_, rfl⟩
        obtain ⟨I0, hI0⟩ : ∃ I, I = Kv.ix l c.key := ⟨_, rfl⟩
        rw [← hA, ← hM] at HD2
        rw [← hA, ← hM, ← hI0] at hthree
        rw [← hI0] at HPLC
        have HMN : Hid (M.length = n) := by
          show _ = _
          rw [HN.out]
          rcases hthree with ⟨_, _, _, h, _⟩ | ⟨_, _, _, _, _, h, _⟩ | ⟨_, _, _, _, _, _, _, _, h, _⟩
          · rw [h]
          · rw [h]
          · rw [h, List.length_set]
        have HTH := Lib.hid hthree
        clear hA hM hI0 hthree HDO HRC HT HRR
        obtain ⟨p0, p1, p2, p3, p4, p5, p6⟩ := Cmds.all HC4.out
        have f0 := HC4.out.free 0
        obtain ⟨w5, e5, hl5, hg5⟩ := set_kind5 HC4.out
        have HC5 := Lib.hid hl5
        have HB5 := Lib.hid (HB4.out.grown hg5 HB4.out.size (by rintro j hj; cases hj; exact Nat.le_refl _))
        clear hl5 hg5
        go_wp2_with (first
          | (refine load_cmd rfl _ rfl w.heap.size (Kv.asCas c) rfl HC5.out ?_; refine Hid.out ?_))
        refine Lib.hid ?_
        clear p0 p1 p2 p3 p4 p5 p6 f0 e5
        go_wp2_with fail
        refine (HD2.out _ (HV.out.below HB5.out)).mono ?_
        rintro e w6 ⟨v6, rfl, ho6, hB6⟩
        have HC6 := Lib.hid (HC5.out.below hB6 HC5.out.lt)
        have HR6 : Hid (ReadsK w6 v6 M) := ho6.reads (Kv.sized _)
        have HB6 := Lib.hid (HB5.out.trans (hB6.mono HB5.out.size))
        clear ho6 hB6
        obtain ⟨bo, bcap, hv6, _, _⟩ := ReadsK.shape HR6.out
        rw [HMN.out] at hv6
        subst hv6
        go_wp2_with (first
          | (refine store_ans (by rfl) _ _ (by rfl) w6.heap.size An.zero A (by rfl) (by rfl) (Lies.new _ _ _) ?_; intro w7 hl7 hg7
             have hB7 : Below w6.heap.size w6 w7 := ((Below.refl _ w6).alloc (Nat.le_refl _) _).grown hg7 (by simp) (by rintro j hj; cases hj; exact Nat.le_refl _)
             have HC7 := Lib.hid (HC6.out.below hB7 HC6.out.lt)
             have HR7 := Lib.hid (HR6.out.below hB7)
             have HB7 := Lib.hid (HB6.out.trans (hB7.mono HB6.out.size))
             have HY7 := Lib.hid hl7
             obtain ⟨p0, p1, p2, p3, p4, p5, p6⟩ := Cmds.all HC7.out
             dsimp only [Kv.asCas] at p0 p1 p2 p3 p4 p5 p6
             clear hl7 hg7 hB7
             refine Hid.out ?_))
        refine Lib.hid ?_
        go_wp2_with fail
        refine (HPLC.out _ (HV.out.below HB7.out)).mono ?_
        rintro e w8 ⟨rfl, hB8⟩
        have HC8 := Lib.hid (HC7.out.below hB8 HC7.out.lt)
        have HR8 := Lib.hid (HR7.out.below hB8)
        have HY8 := Lib.hid (HY7.out.below hB8 HY7.out.lt)
        have HB8 := Lib.hid (HB7.out.trans (hB8.mono HB7.out.size))
        clear hB8 p0 p1 p2 p3 p4 p5 p6
        obtain ⟨p0, p1, p2, p3, p4, p5, p6⟩ := Cmds.all HC8.out
        dsimp only [Kv.asCas] at p0 p1 p2 p3 p4 p5 p6
        have hgd := guard_kv
        have hnb : (n : Int) ≤ 80 := by have := HN80.out; omega
        rcases HTH.out with ⟨I, hI, rfl, hm, he⟩ | ⟨k0, p, rfl, hkp, hne, hm, he⟩ | ⟨k0, p, R, rfl, hkp, hval, hkey, hrev, hm, he⟩
        · have HM : Hid (M = l) := hm
          have d1 : decide (0 ≤ I0) = false := decide_eq_false (by omega)
          have HP := Lib.hid (fun h => ReadsK.places HV.out h)
          have hnn2 : ((n : Int) != (n : Int)) = false := by simp
          clear hm
          go_wp2
          go_quiet (fail)
          have hB9 := drawn w8 nq
          generalize w8.drewN nq = w9 at hB9 ⊢
          have HC9 := Lib.hid (HC8.out.below hB9 HC8.out.lt)
          have HR9 := Lib.hid (HR8.out.below hB9)
          have HB9 := Lib.hid (HB8.out.trans (hB9.mono HB8.out.size))
          have y2 := (Anss.every (HY8.out.below hB9 HY8.out.lt)).2.2.1
          rw [he] at y2
          clear hB9 he p0 p1 p2 p3 p4 p5 p6 d1
          have HSM2 := Lib.hid (fun W h1 h2 => sameKv_any (.slice bo n bcap) (.slice ao n cap) M l W h1 h2)
          rw [decide_eq_true HM.out] at HSM2
          go_wp2_with fail
          refine (HSM2.out w9 HR9.out (HV.out.below HB9.out)).mono ?_
          rintro e w10 ⟨rfl, hB10⟩
          have HC10 := Lib.hid (HC9.out.below hB10 HC9.out.lt)
          have HR10 := Lib.hid (HR9.out.below hB10)
          have HB10 := Lib.hid (HB9.out.trans (hB10.mono HB9.out.size))
          clear hB10 y2
          have HQ := Lib.hid (fun h => ReadsK.places HR10.out h)
          go_wp2
          go_loopw [9] (fun i wr => ∃ k : Nat, i = .int .i64 (k : Int) ∧ k ≤ n ∧ Below w10.heap.size w10 wr) (fun i _ => n - (intOf i).toNat)
          case atStart => exact ⟨0, rfl, by omega, Below.refl _ _⟩
          case round =>
            obtain ⟨k, rfl, hk, hB⟩ := hrel
            have HBr := Lib.hid hB
            have HBw := Lib.hid (HB10.out.trans (hB.mono HB10.out.size))
            clear hB
            by_cases hlt : k < n
            · obtain ⟨s, hse⟩ : ∃ e, l[k]? = some e := ⟨_, List.getElem?_eq_getElem (by have := HN.out; omega)⟩
              obtain ⟨g, off, rfl, hgl, hcell⟩ := HP.out (by have := HN.out; omega)
              have HCE := Lib.hid hcell
              clear hcell
              obtain ⟨h, oof, rfl, hhl, hdell⟩ := HQ.out (by have := HMN.out; omega)
              obtain ⟨p0, p1, p2, p3, p4, p5, p6⟩ := Cmds.all (HC10.out.below HBr.out HC10.out.lt)
              dsimp only [Kv.asCas] at p0 p1 p2 p3 p4 p5 p6
              obtain ⟨c0, c1, c2⟩ := HCE.out wr HBw.out k s hse
              have hk1 := fun W => run_neq_str W s.key s.key
              rw [decide_eq_true rfl, Bool.not_true] at hk1
              obtain ⟨d0, d1, d2⟩ := hdell wr HBr.out k s (by rw [HM.out]; exact hse)
              have hneq := fun W => run_neq_kv W s s
              rw [decide_eq_true rfl, Bool.not_true] at hneq
              dsimp only [Kv.cells] at hneq
              have hrv : decide (s.rev < s.rev) = false := by simp
              have hi1 : ((k : Int) != I0) = true := by simp; omega
              have hi2 : ((k : Int) == I0) = false := by simp; omega
              clear hdell hse
              go_wp2
              go_quiet (fail)
              all_goals
                go_wp2
                go_roundw
                case rel => exact ⟨k + 1, by go_num, by omega, HBr.out.trans ((drawn wr _).mono HBr.out.size)⟩
                case measure => simp [intOf]; omega
            · obtain rfl : k = n := by omega
              go_wp2_with fail
              refine (awakeKw_any _).mono ?_
              rintro e w12 ⟨rfl, hB12⟩
              go_wp2
              go_ret
              exact truly_of (HBw.out.trans (hB12.mono HBw.out.size))
        · have HM : Hid (M = l) := hm
          have HKP := Lib.hid hkp
          have hkn : k0 < n := by have := (List.getElem?_eq_some_iff.1 hkp).1; have := HN.out; omega
          have d1 : decide (0 ≤ (k0 : Int)) = true := decide_eq_true (by omega)
          have heq := fun W => run_eql_str W p.val c.old
          have hbq : (p.val == c.old) = false := by simpa using hne
          rw [decide_eq_false hne] at heq
          have HP := Lib.hid (fun h => ReadsK.places HV.out h)
          have hnn2 : ((n : Int) != (n : Int)) = false := by simp
          obtain ⟨g, off, rfl, hgl, hcell⟩ := HP.out (by have := HN.out; omega)
          have HCE := Lib.hid hcell
          obtain ⟨c0, c1, c2⟩ := hcell w8 HB8.out k0 p hkp
          clear hcell
          clear hm hkp hne
          go_wp2
          go_quiet (fail)
          have hB9 := drawn w8 nq
          generalize w8.drewN nq = w9 at hB9 ⊢
          have HC9 := Lib.hid (HC8.out.below hB9 HC8.out.lt)
          have HR9 := Lib.hid (HR8.out.below hB9)
          have HB9 := Lib.hid (HB8.out.trans (hB9.mono HB8.out.size))
          have y2 := (Anss.every (HY8.out.below hB9 HY8.out.lt)).2.2.1
          rw [he] at y2
          clear hB9 he p0 p1 p2 p3 p4 p5 p6 d1 c0 c1 c2 heq hbq
          have HSM2 := Lib.hid (fun W h1 h2 => sameKv_any (.slice bo n bcap) (.slice (some ⟨g, off, none⟩) n cap) M l W h1 h2)
          rw [decide_eq_true HM.out] at HSM2
          go_wp2_with fail
          refine (HSM2.out w9 HR9.out (HV.out.below HB9.out)).mono ?_
          rintro e w10 ⟨rfl, hB10⟩
          have HC10 := Lib.hid (HC9.out.below hB10 HC9.out.lt)
          have HR10 := Lib.hid (HR9.out.below hB10)
          have HB10 := Lib.hid (HB9.out.trans (hB10.mono HB9.out.size))
          clear hB10 y2
          have HQ := Lib.hid (fun h => ReadsK.places HR10.out h)
          go_wp2
          go_loopw [9] (fun i wr => ∃ k : Nat, i = .int .i64 (k : Int) ∧ k ≤ n ∧ Below w10.heap.size w10 wr) (fun i _ => n - (intOf i).toNat)
          case atStart => exact ⟨0, rfl, by omega, Below.refl _ _⟩
          case round =>
            obtain ⟨k, rfl, hk, hB⟩ := hrel
            have HBr := Lib.hid hB
            have HBw := Lib.hid (HB10.out.trans (hB.mono HB10.out.size))
            clear hB
            by_cases hlt : k < n
            · obtain ⟨s, hse⟩ : ∃ e, l[k]? = some e := ⟨_, List.getElem?_eq_getElem (by have := HN.out; omega)⟩
              obtain ⟨h, oof, rfl, hhl, hdell⟩ := HQ.out (by have := HMN.out; omega)
              obtain ⟨p0, p1, p2, p3, p4, p5, p6⟩ := Cmds.all (HC10.out.below HBr.out HC10.out.lt)
              dsimp only [Kv.asCas] at p0 p1 p2 p3 p4 p5 p6
              obtain ⟨c0, c1, c2⟩ := HCE.out wr HBw.out k s hse
              have hk1 := fun W => run_neq_str W s.key s.key
              rw [decide_eq_true rfl, Bool.not_true] at hk1
              by_cases hkk : k = k0
              · subst hkk
                have hi1 : ((k : Int) != (k : Int)) = false := by simp
                have hi2 : ((k : Int) == (k : Int)) = true := by simp
                obtain ⟨d0, d1, d2⟩ := hdell wr HBr.out k s (by rw [HM.out]; exact hse)
                have hneq := fun W => run_neq_kv W s s
                rw [decide_eq_true rfl, Bool.not_true] at hneq
                dsimp only [Kv.cells] at hneq
                have hrv : decide (s.rev < s.rev) = false := by simp
                clear hdell hse
                go_wp2
                go_quiet (fail)
                all_goals
                  go_wp2
                  go_roundw
                  case rel => exact ⟨k + 1, by go_num, by omega, HBr.out.trans ((drawn wr _).mono HBr.out.size)⟩
                  case measure => simp [intOf]; omega
              · have hi1 : ((k : Int) != (k0 : Int)) = true := by simp; omega
                have hi2 : ((k : Int) == (k0 : Int)) = false := by simp; omega
                obtain ⟨d0, d1, d2⟩ := hdell wr HBr.out k s (by rw [HM.out]; exact hse)
                have hneq := fun W => run_neq_kv W s s
                rw [decide_eq_true rfl, Bool.not_true] at hneq
                dsimp only [Kv.cells] at hneq
                have hrv : decide (s.rev < s.rev) = false := by simp
                clear hdell hse
                go_wp2
                go_quiet (fail)
                all_goals
                  go_wp2
                  go_roundw
                  case rel => exact ⟨k + 1, by go_num, by omega, HBr.out.trans ((drawn wr _).mono HBr.out.size)⟩
                  case measure => simp [intOf]; omega
            · obtain rfl : k = n := by omega
              go_wp2_with fail
              refine (awakeKw_any _).mono ?_
              rintro e w12 ⟨rfl, hB12⟩
              go_wp2
              go_ret
              exact truly_of (HBw.out.trans (hB12.mono HBw.out.size))
        · have HM : Hid (M = l.set k0 ⟨c.key, c.val, R⟩) := hm
          have HKP := Lib.hid hkp
          have HKEY := Lib.hid hkey
          have HREV := Lib.hid hrev
          have hkn : k0 < n := by have := (List.getElem?_eq_some_iff.1 hkp).1; have := HN.out; omega
          have d1 : decide (0 ≤ (k0 : Int)) = true := decide_eq_true (by omega)
          have heq := fun W => run_eql_str W p.val c.old
          have hbq : (p.val == c.old) = true := by simpa using hval
          rw [decide_eq_true hval] at heq
          have HP := Lib.hid (fun h => ReadsK.places HV.out h)
          have hnn2 : ((n : Int) != (n : Int)) = false := by simp
          obtain ⟨g, off, rfl, hgl, hcell⟩ := HP.out (by have := HN.out; omega)
          have HCE := Lib.hid hcell
          obtain ⟨c0, c1, c2⟩ := hcell w8 HB8.out k0 p hkp
          clear hcell
          clear hm hkp hval hkey hrev
          go_wp2
          go_quiet (fail)
          have hB9 := drawn w8 nq
          generalize w8.drewN nq = w9 at hB9 ⊢
          have HC9 := Lib.hid (HC8.out.below hB9 HC8.out.lt)
          have HR9 := Lib.hid (HR8.out.below hB9)
          have HB9 := Lib.hid (HB8.out.trans (hB9.mono HB8.out.size))
          have y2 := (Anss.every (HY8.out.below hB9 HY8.out.lt)).2.2.1
          rw [he] at y2
          clear hB9 he p0 p1 p2 p3 p4 p5 p6 d1 c0 c1 c2 heq hbq
          have HQ := Lib.hid (fun h => ReadsK.places HR9.out h)
          go_wp2
          go_loopw [9] (fun i wr => ∃ k : Nat, i = .int .i64 (k : Int) ∧ k ≤ n ∧ Below w9.heap.size w9 wr) (fun i _ => n - (intOf i).toNat)
          case atStart => exact ⟨0, rfl, by omega, Below.refl _ _⟩
          case round =>
            obtain ⟨k, rfl, hk, hB⟩ := hrel
            have HBr := Lib.hid hB
            have HBw := Lib.hid (HB9.out.trans (hB.mono HB9.out.size))
            clear hB
            by_cases hlt : k < n
            · obtain ⟨s, hse⟩ : ∃ e, l[k]? = some e := ⟨_, List.getElem?_eq_getElem (by have := HN.out; omega)⟩
              obtain ⟨h, oof, rfl, hhl, hdell⟩ := HQ.out (by have := HMN.out; omega)
              obtain ⟨p0, p1, p2, p3, p4, p5, p6⟩ := Cmds.all (HC9.out.below HBr.out HC9.out.lt)
              dsimp only [Kv.asCas] at p0 p1 p2 p3 p4 p5 p6
              obtain ⟨c0, c1, c2⟩ := HCE.out wr HBw.out k s hse
              have hk1 := fun W => run_neq_str W s.key s.key
              rw [decide_eq_true rfl, Bool.not_true] at hk1
              by_cases hkk : k = k0
              · subst hkk
                have hi1 : ((k : Int) != (k : Int)) = false := by simp
                have hi2 : ((k : Int) == (k : Int)) = true := by simp
                obtain rfl : s = p := by rw [HKP.out] at hse; exact (Option.some.inj hse).symm
                obtain ⟨d0, d1, d2⟩ := hdell wr HBr.out k ⟨c.key, c.val, R⟩ (by rw [HM.out, List.getElem?_set, if_pos rfl, if_pos (by have := HN.out; omega)])
                dsimp only at d0 d1 d2
                have hk3 := fun W => run_neq_str W c.key s.key
                rw [decide_eq_true HKEY.out.symm, Bool.not_true] at hk3
                have hkb : (c.key == s.key) = true := by simpa using HKEY.out.symm
                have hk4 := fun W => run_neq_str W c.val c.val
                rw [decide_eq_true rfl, Bool.not_true] at hk4
                have hrv : decide (R < s.rev) = false := by have := HREV.out; simp; omega
                clear hk1
                clear hdell hse
                go_wp2
                go_quiet (fail)
                all_goals
                  go_wp2
                  go_roundw
                  case rel => exact ⟨k + 1, by go_num, by omega, HBr.out.trans ((drawn wr _).mono HBr.out.size)⟩
                  case measure => simp [intOf]; omega
              · have hi1 : ((k : Int) != (k0 : Int)) = true := by simp; omega
                have hi2 : ((k : Int) == (k0 : Int)) = false := by simp; omega
                obtain ⟨d0, d1, d2⟩ := hdell wr HBr.out k s (by rw [HM.out, List.getElem?_set, if_neg (fun h => hkk h.symm)]; exact hse)
                have hneq := fun W => run_neq_kv W s s
                rw [decide_eq_true rfl, Bool.not_true] at hneq
                dsimp only [Kv.cells] at hneq
                have hrv : decide (s.rev < s.rev) = false := by simp
                clear hdell hse
                go_wp2
                go_quiet (fail)
                all_goals
                  go_wp2
                  go_roundw
                  case rel => exact ⟨k + 1, by go_num, by omega, HBr.out.trans ((drawn wr _).mono HBr.out.size)⟩
                  case measure => simp [intOf]; omega
            · obtain rfl : k = n := by omega
              go_wp2_with fail
              refine (awakeKw_any _).mono ?_
              rintro e w12 ⟨rfl, hB12⟩
              go_wp2
              go_ret
              exact truly_of (HBw.out.trans (hB12.mono HBw.out.size))

end Go.Proofs.Ytiakpedioemmiaa
