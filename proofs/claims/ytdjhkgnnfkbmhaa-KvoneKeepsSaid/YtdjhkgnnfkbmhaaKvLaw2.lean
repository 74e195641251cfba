/- The law KvoneKeeps. -/
import Derived.Test.YtdjhkgnnfkbmhaaKvLaw
namespace Go.Proofs.Ytdjhkgnnfkbmhaa
open Go.RowKit

theorem Kv.pairs_mem {l : List Kv.Item} {c : Cm.Cmd} {e : Kv.Item} (h : e ∈ Kv.pairs l c) : e = Kv.next l c ∨ e ∈ l := by
  unfold Kv.pairs at h
  split at h
  · split at h
    · exact .inr h
    · rcases Kv.swap_mem l h with h | h
      · exact .inl (by simpa using h)
      · exact .inr h
  · split at h
    · rcases Kv.swap_mem l h with h | h
      · simp at h
      · exact .inr h
    · exact .inr h

set_option maxRecDepth 4000 in
set_option maxHeartbeats 6400000 in
theorem kvoneKeeps_any (v : Value) (l : List Kv.Item) (c : Cm.Cmd) (o : List UInt8) (w : World) (hv : ReadsK w v l) (hs : ∀ s ∈ l, s.key.length ≤ 9223372036854775807 ∧ s.val.length ≤ 9223372036854775807) (hc : c.Short 9223372036854775807) (ho : o.length ≤ 9223372036854775807) :
    Calls Try.prog 4 #[v, .agg (Cm.cells c), .string ⟨o.toArray⟩] w (Truly w) := by
  obtain ⟨w1, e1, hl1, hB1, hz1⟩ := box_cmd w c
  have HC1 := Lib.hid hl1; have HB1 := Lib.hid hB1
  have hlarge := largeKv_any v l w1 (hv.below hB1) hs
  have HV := Lib.hid hv
  have HWI := Lib.hid (fun W => wideKv_any c W hc)
  obtain ⟨ao, cap, rfl, _, _⟩ := ReadsK.shape hv
  obtain ⟨t, ht⟩ : ∃ t, t = Kv.large l := ⟨_, rfl⟩
  rw [← ht] at hlarge
  have HT := Lib.hid ht
  obtain ⟨tw, htw⟩ : ∃ t, t = Kv.wide c := ⟨_, rfl⟩
  rw [← htw] at HWI
  have HTW := Lib.hid htw
  have HRI := Lib.hid (fun W h => riseKv_any (.slice ao l.length cap) l W h)
  obtain ⟨t3, ht3⟩ : ∃ t, t = Kv.rises l := ⟨_, rfl⟩
  rw [← ht3] at HRI
  have HT3 := Lib.hid ht3
  obtain ⟨n, hn⟩ : ∃ n, n = l.length := ⟨_, rfl⟩
  rw [← hn] at hlarge HV HRI ⊢
  have HN := Lib.hid hn
  have k1 := str_size o
  obtain ⟨x1, hx1⟩ : ∃ y, y = o.length := ⟨_, rfl⟩
  rw [← hx1] at k1 ho
  clear hv hs ht htw ht3 hn hx1 hl1 hB1 hz1 hc
  go_enter Try.func4, Try.ntmps4
  go_wp2_with fail
  refine hlarge.mono ?_
  rintro e w2 ⟨rfl, hB2⟩
  have HC2 := Lib.hid (HC1.out.below hB2 HC1.out.lt)
  have HB2 := Lib.hid (HB1.out.trans (hB2.mono HB1.out.size))
  obtain ⟨p0, p1, p2, p3, p4, p5, p6⟩ := Cmds.all HC2.out
  clear hB2 hlarge
  cases t with
  | true =>
    go_wp2_with fail
    refine (awakeKv_any _).mono ?_
    rintro e w3 ⟨rfl, hBw3⟩
    go_wp2
    go_ret
    exact truly_of (HB2.out.trans (hBw3.mono HB2.out.size))
  | false =>
    cases tw with
    | true =>
      go_wp2_with (first
        | (refine load_cmd rfl _ rfl w.heap.size c rfl HC2.out ?_)
        | (go_at_call 12; refine (HWI.out _).mono ?_; rintro e w3 ⟨rfl, hB3⟩; have HB3 := Lib.hid (HB2.out.trans (hB3.mono HB2.out.size)); clear hB3)
        | (go_at_call 6; refine (awakeKv_any _).mono ?_; rintro e w4 ⟨rfl, hB4⟩))
      go_ret
      exact truly_of (HB3.out.trans (hB4.mono HB3.out.size))
    | false =>
      by_cases h1 : 200 < x1
      · have d1 : decide ((200 : Int) < (x1 : Int)) = true := by simp; omega
        go_wp2_with (first
          | (refine load_cmd rfl _ rfl w.heap.size c rfl HC2.out ?_)
          | (go_at_call 12; refine (HWI.out _).mono ?_; rintro e w3 ⟨rfl, hB3⟩; have HB3 := Lib.hid (HB2.out.trans (hB3.mono HB2.out.size)); clear hB3)
          | (go_at_call 6; refine (awakeKv_any _).mono ?_; rintro e w4 ⟨rfl, hB4⟩))
        go_ret
        exact truly_of (HB3.out.trans (hB4.mono HB3.out.size))
      · have d1 : decide ((200 : Int) < (x1 : Int)) = false := by simp; omega
        clear h1 ho
        cases t3 with
        | false =>
          go_wp2_with (first
            | (refine load_cmd rfl _ rfl w.heap.size c rfl HC2.out ?_)
            | (go_at_call 12; refine (HWI.out _).mono ?_; rintro e w3 ⟨rfl, hB3⟩; have HB3 := Lib.hid (HB2.out.trans (hB3.mono HB2.out.size)); clear hB3)
            | (go_at_call 9; refine (HRI.out _ (HV.out.below HB3.out)).mono ?_; rintro e w4 ⟨rfl, hB4⟩; have HB4 := Lib.hid (HB3.out.trans (hB4.mono HB3.out.size)); clear hB4)
            | (go_at_call 6; refine (awakeKv_any _).mono ?_; rintro e w5 ⟨rfl, hB5⟩))
          go_ret
          exact truly_of (HB4.out.trans (hB5.mono HB4.out.size))
        | true =>
          have HA : Hid (Kv.Asc l) := by show Kv.Asc l; have h := HT3.out.symm; unfold Kv.rises at h; exact of_decide_eq_true h
          have HN80 : Hid (l.length ≤ 80) := (Kv.small HT.out.symm).1
          have HCS : Hid (c.key.length ≤ 200 ∧ c.val.length ≤ 200) := by show _ ∧ _; have h := HTW.out.symm; unfold Kv.wide at h; simp at h; omega
          have HSL : Hid (∀ s ∈ l, s.key.length ≤ 140737488355328 ∧ s.val.length ≤ 140737488355328) := fun s h => by have := (Kv.small HT.out.symm).2 s h; omega
          have HSC : Hid (∀ s ∈ [(⟨c.key, c.val, 0⟩ : Kv.Item)], s.key.length ≤ 140737488355328 ∧ s.val.length ≤ 140737488355328) := fun s h => by
            rw [List.mem_singleton] at h; subst h; have := HCS.out; dsimp only; omega
          have HSM : Hid (∀ s ∈ Kv.pairs l c, s.key.length ≤ 140737488355328 ∧ s.val.length ≤ 140737488355328) := fun s h => by
            rcases Kv.pairs_mem h with rfl | h
            · have := HCS.out; unfold Kv.next; dsimp only; omega
            · exact HSL.out s h
          have HMA := Lib.hid (Kv.pairs_asc c HA.out)
          have HML : Hid ((Kv.pairs l c).length ≤ 81) := by show _ ≤ _; have := Kv.pairs_len l c; have := HN80.out; omega
          have HDO := Lib.hid (fun W h => do_kv (.slice ao n cap) l c W h HA.out (by have := HN80.out; omega))
          have HOTH : Hid (o ≠ c.key → Kv.find (Kv.pairs l c) o = Kv.find l o ∧ Kv.found (Kv.pairs l c) o = Kv.found l o) := fun h => by
            have a := Kv.look_eq _ o HMA.out
            have b := Kv.look_eq _ o HA.out
            rw [a.1, a.2, b.1, b.2, Kv.pairs_other c HA.out h]
            exact ⟨rfl, rfl⟩
          have HPUT : Hid (c.kind = 2 → (Kv.ans l c).err = 0 → Kv.found (Kv.pairs l c) c.key = true ∧ (Kv.find (Kv.pairs l c) c.key).val = c.val) := fun h he => by
            have a := Kv.look_eq _ c.key HMA.out
            rw [a.1, a.2, Kv.pairs_put c HA.out h he]
            exact ⟨rfl, rfl⟩
          have HDEL : Hid (c.kind = 4 → Kv.found (Kv.pairs l c) c.key = false) := fun h => by
            have a := Kv.look_eq _ c.key HMA.out
            rw [a.1, Kv.pairs_del c HA.out h]; rfl
          have HCHK := Lib.hid (fun h1 h2 => Kv.pairs_check (l := l) c h1 h2)
          have HFK := Lib.hid (fun u W h => find_kv u (Kv.pairs l c) c.key W h HMA.out (by have := HML.out; omega))
          have HFO := Lib.hid (fun u W h => find_kv u (Kv.pairs l c) o W h HMA.out (by have := HML.out; omega))
          have HFL := Lib.hid (fun W h => find_kv (.slice ao n cap) l o W h HA.out (by have := HN80.out; omega))
          have HRM := Lib.hid (fun u W h => refCheckKv_any u (Kv.pairs l c) W h HSM.out)
          have HRL := Lib.hid (fun W h => refCheckKv_any (.slice ao n cap) l W h HSL.out)
          have HRS := Lib.hid (fun u W h => refCheckKv_any u [(⟨c.key, c.val, 0⟩ : Kv.Item)] W h HSC.out)
          obtain ⟨A, hA⟩ : ∃ A, A = Kv.ans l c := ⟨_, rfl⟩
          obtain ⟨M, hM⟩ : ∃ M, M = Kv.pairs l c := ⟨_, rfl⟩
          rw [← hA] at HDO HPUT
          rw [← hM] at HDO HPUT HOTH HDEL HCHK HFK HFO HRM
          obtain ⟨Q1, hQ1⟩ : ∃ Q, Q = Kv.find M c.key := ⟨_, rfl⟩
          obtain ⟨b1, hb1⟩ : ∃ b, b = Kv.found M c.key := ⟨_, rfl⟩
          obtain ⟨Q2, hQ2⟩ : ∃ Q, Q = Kv.find M o := ⟨_, rfl⟩
          obtain ⟨b2, hb2⟩ : ∃ b, b = Kv.found M o := ⟨_, rfl⟩
          obtain ⟨Q3, hQ3⟩ : ∃ Q, Q = Kv.find l o := ⟨_, rfl⟩
          obtain ⟨b3, hb3⟩ : ∃ b, b = Kv.found l o := ⟨_, rfl⟩
          rw [← hQ1, ← hb1] at HFK HPUT
          rw [← hb1] at HDEL
          rw [← hQ2, ← hb2] at HFO HOTH
          rw [← hQ3, ← hb3] at HFL HOTH
          obtain ⟨rl, hrl⟩ : ∃ r, r = Kv.refCheck l := ⟨_, rfl⟩
          obtain ⟨rm, hrm⟩ : ∃ r, r = Kv.refCheck M := ⟨_, rfl⟩
          obtain ⟨rs, hrs⟩ : ∃ r, r = Kv.refCheck [(⟨c.key, c.val, 0⟩ : Kv.Item)] := ⟨_, rfl⟩
          rw [← hrl] at HRL HCHK
          rw [← hrm] at HRM HCHK
          rw [← hrs] at HRS HCHK
          clear hA hM hQ1 hb1 hQ2 hb2 hQ3 hb3 hrl hrm hrs
          go_wp2_with (first
            | (refine load_cmd rfl _ rfl w.heap.size c rfl HC2.out ?_)
            | (go_at_call 12; refine (HWI.out _).mono ?_; rintro e w3 ⟨rfl, hB3⟩; have HC3 := Lib.hid (HC2.out.below hB3 HC2.out.lt); have HB3 := Lib.hid (HB2.out.trans (hB3.mono HB2.out.size)); clear hB3 p0 p1 p2 p3 p4 p5 p6)
            | (go_at_call 9; refine (HRI.out _ (HV.out.below HB3.out)).mono ?_; rintro e w4 ⟨rfl, hB4⟩; have HC4 := Lib.hid (HC3.out.below hB4 HC3.out.lt); have HB4 := Lib.hid (HB3.out.trans (hB4.mono HB3.out.size)); clear hB4)
            | (refine load_cmd rfl _ rfl w.heap.size c rfl HC4.out ?_)
            | (go_at_call 13; refine (HDO.out _ (HV.out.below HB4.out)).mono ?_; rintro e w5 ⟨v5, rfl, ho5, hB5⟩
               have HC5 := Lib.hid (HC4.out.below hB5 HC4.out.lt)
               have HB5 := Lib.hid (HB4.out.trans (hB5.mono HB4.out.size))
               have HR5 : Hid (ReadsK w5 v5 M) := ho5.reads (Kv.sized _)
               clear hB5 ho5)
            | (refine store_ans (by rfl) _ _ (by rfl) w5.heap.size An.zero A (by rfl) (by rfl) (Lies.new _ _ _) ?_; intro w6 hl6 hg6
               have hB6 : Below w5.heap.size w5 w6 := ((Below.refl _ w5).alloc (Nat.le_refl _) _).grown hg6 (by simp) (by rintro j hj; cases hj; exact Nat.le_refl _)
               have HC6 := Lib.hid (HC5.out.below hB6 HC5.out.lt)
               have HB6 := Lib.hid (HB5.out.trans (hB6.mono HB5.out.size))
               have HR6 := Lib.hid (HR5.out.below hB6)
               have HY6 := Lib.hid hl6
               obtain ⟨p0, p1, p2, p3, p4, p5, p6⟩ := Cmds.all HC6.out
               clear hl6 hg6 hB6))
          refine (HFK.out _ _ HR6.out).mono ?_
          rintro e w7 ⟨rfl, hB7⟩
          have HC7 := Lib.hid (HC6.out.below hB7 HC6.out.lt)
          have HY7 := Lib.hid (HY6.out.below hB7 HY6.out.lt)
          have HR7 := Lib.hid (HR6.out.below hB7)
          have HB7 := Lib.hid (HB6.out.trans (hB7.mono HB6.out.size))
          clear hB7 p0 p1 p2 p3 p4 p5 p6
          go_wp2_with (first
            | (refine store_kv (by rfl) _ _ (by rfl) w7.heap.size Kv.zero Q1 (by rfl) (by rfl) (Lies.new _ _ _) ?_; intro w8 hl8 hg8
               have hB8 : Below w7.heap.size w7 w8 := ((Below.refl _ w7).alloc (Nat.le_refl _) _).grown hg8 (by simp) (by rintro j hj; cases hj; exact Nat.le_refl _)
               have HC8 := Lib.hid (HC7.out.below hB8 HC7.out.lt)
               have HY8 := Lib.hid (HY7.out.below hB8 HY7.out.lt)
               have HR8 := Lib.hid (HR7.out.below hB8)
               have HB8 := Lib.hid (HB7.out.trans (hB8.mono HB7.out.size))
               have HP8 := Lib.hid hl8
               clear hl8 hg8 hB8))
          refine (HFO.out _ _ HR8.out).mono ?_
          rintro e w9 ⟨rfl, hB9⟩
          have HC9 := Lib.hid (HC8.out.below hB9 HC8.out.lt)
          have HY9 := Lib.hid (HY8.out.below hB9 HY8.out.lt)
          have HP9 := Lib.hid (HP8.out.below hB9 HP8.out.lt)
          have HR9 := Lib.hid (HR8.out.below hB9)
          have HB9 := Lib.hid (HB8.out.trans (hB9.mono HB8.out.size))
          clear hB9
          go_wp2_with (first
            | (refine store_kv (by rfl) _ _ (by rfl) w9.heap.size Kv.zero Q2 (by rfl) (by rfl) (Lies.new _ _ _) ?_; intro w10 hl10 hg10
               have hB10 : Below w9.heap.size w9 w10 := ((Below.refl _ w9).alloc (Nat.le_refl _) _).grown hg10 (by simp) (by rintro j hj; cases hj; exact Nat.le_refl _)
               have HC10 := Lib.hid (HC9.out.below hB10 HC9.out.lt)
               have HY10 := Lib.hid (HY9.out.below hB10 HY9.out.lt)
               have HP10 := Lib.hid (HP9.out.below hB10 HP9.out.lt)
               have HR10 := Lib.hid (HR9.out.below hB10)
               have HB10 := Lib.hid (HB9.out.trans (hB10.mono HB9.out.size))
               have HZ10 := Lib.hid hl10
               clear hl10 hg10 hB10))
          refine (HFL.out _ (HV.out.below HB10.out)).mono ?_
          rintro e w11 ⟨rfl, hB11⟩
          have HC11 := Lib.hid (HC10.out.below hB11 HC10.out.lt)
          have HY11 := Lib.hid (HY10.out.below hB11 HY10.out.lt)
          have HP11 := Lib.hid (HP10.out.below hB11 HP10.out.lt)
          have HZ11 := Lib.hid (HZ10.out.below hB11 HZ10.out.lt)
          have HR11 := Lib.hid (HR10.out.below hB11)
          have HB11 := Lib.hid (HB10.out.trans (hB11.mono HB10.out.size))
          clear hB11
          /- the cases -/
          have hgd := guard_kv
          clear d1 k1
          by_cases ho : o = c.key
          · have ho0 : (o == c.key) = true := by simpa using ho
            have ho1 := fun W => run_neq_str W o c.key
            rw [decide_eq_true ho, Bool.not_true] at ho1
            clear ho
            by_cases hk : c.kind = 2
            · have hk2 : (c.kind == 2) = true := by simpa using hk
              have hk4 : (c.kind == 4) = false := by simp; omega
              by_cases he : A.err = 0
              · have he0 : (A.err == 0) = true := by simpa using he
                obtain ⟨hb, hqv⟩ := HPUT.out hk he
                have hv0 : (Q1.val == c.val) = true := by simpa using hqv
                have hv1 := fun W => run_neq_str W Q1.val c.val
                rw [decide_eq_true hqv, Bool.not_true] at hv1
                subst hb
                clear hqv he hk
                go_wp2_with (first
                  | (refine store_kv (by rfl) _ _ (by rfl) w11.heap.size Kv.zero Q3 (by rfl) (by rfl) (Lies.new _ _ _) ?_; intro w12 hl12 hg12
                     have hB12 : Below w11.heap.size w11 w12 := ((Below.refl _ w11).alloc (Nat.le_refl _) _).grown hg12 (by simp) (by rintro j hj; cases hj; exact Nat.le_refl _)
                     have HC12 := Lib.hid (HC11.out.below hB12 HC11.out.lt)
                     have HR12 := Lib.hid (HR11.out.below hB12)
                     have HB12 := Lib.hid (HB11.out.trans (hB12.mono HB11.out.size))
                     obtain ⟨p0, p1, p2, p3, p4, p5, p6⟩ := Cmds.all HC12.out
                     obtain ⟨y0, y1, y2, y3, y4, y5⟩ := Anss.every (HY11.out.below hB12 HY11.out.lt)
                     obtain ⟨q0, q1, q2⟩ := Kvs.three (HP11.out.below hB12 HP11.out.lt)
                     obtain ⟨z0, z1, z2⟩ := Kvs.three (HZ11.out.below hB12 HZ11.out.lt)
                     obtain ⟨x0, x1, x2⟩ := Kvs.three hl12
                     clear hl12 hg12 hB12
                     refine Hid.out ?_))
                refine Lib.hid ?_
                go_wp2_with fail
                refine (HRL.out _ (HV.out.below HB12.out)).mono ?_
                rintro e w13 ⟨rfl, hB13⟩
                have HC13 := Lib.hid (HC12.out.below hB13 HC12.out.lt)
                have HR13 := Lib.hid (HR12.out.below hB13)
                have HB13 := Lib.hid (HB12.out.trans (hB13.mono HB12.out.size))
                clear hB13 p0 p1 p2 p3 p4 p5 p6 y0 y1 y2 y3 y4 y5 q0 q1 q2 z0 z1 z2 x0 x1 x2
                obtain ⟨p0, p1, p2, p3, p4, p5, p6⟩ := Cmds.all HC13.out
                cases rl with
                | false =>
                  go_wp2_with fail
                  refine (awakeKv_any _).mono ?_
                  rintro e wz ⟨rfl, hBz⟩
                  go_wp2
                  go_ret
                  exact truly_of (HB13.out.trans (hBz.mono HB13.out.size))
                | true =>
                  go_wp2_with fail
                  have hal : Below w13.heap.size w13 (w13.alloc (.cells #[.string ⟨c.key.toArray⟩, .string ⟨c.val.toArray⟩, .int .i64 0] 29)) := (Below.refl _ w13).alloc (Nat.le_refl _) _
                  refine (HRS.out _ _ (ReadsR.single (E := 29) (Lies.new _ _ _))).mono ?_
                  rintro e w14 ⟨rfl, hB14⟩
                  have HR14 := Lib.hid ((HR13.out.below hal).below hB14)
                  have HB14 := Lib.hid ((HB13.out.trans (hal.mono HB13.out.size)).trans (hB14.mono (HB13.out.trans (hal.mono HB13.out.size)).size))
                  clear hB14 hal
                  cases rs with
                  | false =>
                    go_wp2_with fail
                    refine (awakeKv_any _).mono ?_
                    rintro e wz ⟨rfl, hBz⟩
                    go_wp2
                    go_ret
                    exact truly_of (HB14.out.trans (hBz.mono HB14.out.size))
                  | true =>
                    have hrm : rm = true := HCHK.out (by trivial) (fun _ => by trivial)
                    go_wp2_with fail
                    refine (HRM.out _ _ HR14.out).mono ?_
                    rintro e w15 ⟨rfl, hB15⟩
                    have HB15 := Lib.hid (HB14.out.trans (hB15.mono HB14.out.size))
                    clear hB15
                    subst hrm
                    go_wp2_with fail
                    refine (awakeKv_any _).mono ?_
                    rintro e wz ⟨rfl, hBz⟩
                    go_wp2
                    go_ret
                    exact truly_of (HB15.out.trans (hBz.mono HB15.out.size))
              · have he0 : (A.err == 0) = false := by simpa using he
                clear he hk
                go_wp2_with (first
                  | (refine store_kv (by rfl) _ _ (by rfl) w11.heap.size Kv.zero Q3 (by rfl) (by rfl) (Lies.new _ _ _) ?_; intro w12 hl12 hg12
                     have hB12 : Below w11.heap.size w11 w12 := ((Below.refl _ w11).alloc (Nat.le_refl _) _).grown hg12 (by simp) (by rintro j hj; cases hj; exact Nat.le_refl _)
                     have HC12 := Lib.hid (HC11.out.below hB12 HC11.out.lt)
                     have HR12 := Lib.hid (HR11.out.below hB12)
                     have HB12 := Lib.hid (HB11.out.trans (hB12.mono HB11.out.size))
                     obtain ⟨p0, p1, p2, p3, p4, p5, p6⟩ := Cmds.all HC12.out
                     obtain ⟨y0, y1, y2, y3, y4, y5⟩ := Anss.every (HY11.out.below hB12 HY11.out.lt)
                     obtain ⟨q0, q1, q2⟩ := Kvs.three (HP11.out.below hB12 HP11.out.lt)
                     obtain ⟨z0, z1, z2⟩ := Kvs.three (HZ11.out.below hB12 HZ11.out.lt)
                     obtain ⟨x0, x1, x2⟩ := Kvs.three hl12
                     clear hl12 hg12 hB12
                     refine Hid.out ?_))
                refine Lib.hid ?_
                go_wp2_with fail
                refine (HRL.out _ (HV.out.below HB12.out)).mono ?_
                rintro e w13 ⟨rfl, hB13⟩
                have HC13 := Lib.hid (HC12.out.below hB13 HC12.out.lt)
                have HR13 := Lib.hid (HR12.out.below hB13)
                have HB13 := Lib.hid (HB12.out.trans (hB13.mono HB12.out.size))
                clear hB13 p0 p1 p2 p3 p4 p5 p6 y0 y1 y2 y3 y4 y5 q0 q1 q2 z0 z1 z2 x0 x1 x2
                obtain ⟨p0, p1, p2, p3, p4, p5, p6⟩ := Cmds.all HC13.out
                cases rl with
                | false =>
                  go_wp2_with fail
                  refine (awakeKv_any _).mono ?_
                  rintro e wz ⟨rfl, hBz⟩
                  go_wp2
                  go_ret
                  exact truly_of (HB13.out.trans (hBz.mono HB13.out.size))
                | true =>
                  go_wp2_with fail
                  have hal : Below w13.heap.size w13 (w13.alloc (.cells #[.string ⟨c.key.toArray⟩, .string ⟨c.val.toArray⟩, .int .i64 0] 29)) := (Below.refl _ w13).alloc (Nat.le_refl _) _
                  refine (HRS.out _ _ (ReadsR.single (E := 29) (Lies.new _ _ _))).mono ?_
                  rintro e w14 ⟨rfl, hB14⟩
                  have HR14 := Lib.hid ((HR13.out.below hal).below hB14)
                  have HB14 := Lib.hid ((HB13.out.trans (hal.mono HB13.out.size)).trans (hB14.mono (HB13.out.trans (hal.mono HB13.out.size)).size))
                  clear hB14 hal
                  cases rs with
                  | false =>
                    go_wp2_with fail
                    refine (awakeKv_any _).mono ?_
                    rintro e wz ⟨rfl, hBz⟩
                    go_wp2
                    go_ret
                    exact truly_of (HB14.out.trans (hBz.mono HB14.out.size))
                  | true =>
                    have hrm : rm = true := HCHK.out (by trivial) (fun _ => by trivial)
                    go_wp2_with fail
                    refine (HRM.out _ _ HR14.out).mono ?_
                    rintro e w15 ⟨rfl, hB15⟩
                    have HB15 := Lib.hid (HB14.out.trans (hB15.mono HB14.out.size))
                    clear hB15
                    subst hrm
                    go_wp2_with fail
                    refine (awakeKv_any _).mono ?_
                    rintro e wz ⟨rfl, hBz⟩
                    go_wp2
                    go_ret
                    exact truly_of (HB15.out.trans (hBz.mono HB15.out.size))
            · have hk2 : (c.kind == 2) = false := by simpa using hk
              have hkn := hk
              clear hk
              by_cases hk : c.kind = 4
              · have hk4 : (c.kind == 4) = true := by simpa using hk
                have hb := HDEL.out hk
                subst hb
                clear hk
                go_wp2_with (first
                  | (refine store_kv (by rfl) _ _ (by rfl) w11.heap.size Kv.zero Q3 (by rfl) (by rfl) (Lies.new _ _ _) ?_; intro w12 hl12 hg12
                     have hB12 : Below w11.heap.size w11 w12 := ((Below.refl _ w11).alloc (Nat.le_refl _) _).grown hg12 (by simp) (by rintro j hj; cases hj; exact Nat.le_refl _)
                     have HC12 := Lib.hid (HC11.out.below hB12 HC11.out.lt)
                     have HR12 := Lib.hid (HR11.out.below hB12)
                     have HB12 := Lib.hid (HB11.out.trans (hB12.mono HB11.out.size))
                     obtain ⟨p0, p1, p2, p3, p4, p5, p6⟩ := Cmds.all HC12.out
                     obtain ⟨y0, y1, y2, y3, y4, y5⟩ := Anss.every (HY11.out.below hB12 HY11.out.lt)
                     obtain ⟨q0, q1, q2⟩ := Kvs.three (HP11.out.below hB12 HP11.out.lt)
                     obtain ⟨z0, z1, z2⟩ := Kvs.three (HZ11.out.below hB12 HZ11.out.lt)
                     obtain ⟨x0, x1, x2⟩ := Kvs.three hl12
                     clear hl12 hg12 hB12
                     refine Hid.out ?_))
                refine Lib.hid ?_
                go_wp2_with fail
                refine (HRL.out _ (HV.out.below HB12.out)).mono ?_
                rintro e w13 ⟨rfl, hB13⟩
                have HC13 := Lib.hid (HC12.out.below hB13 HC12.out.lt)
                have HR13 := Lib.hid (HR12.out.below hB13)
                have HB13 := Lib.hid (HB12.out.trans (hB13.mono HB12.out.size))
                clear hB13 p0 p1 p2 p3 p4 p5 p6 y0 y1 y2 y3 y4 y5 q0 q1 q2 z0 z1 z2 x0 x1 x2
                obtain ⟨p0, p1, p2, p3, p4, p5, p6⟩ := Cmds.all HC13.out
                cases rl with
                | false =>
                  go_wp2_with fail
                  refine (awakeKv_any _).mono ?_
                  rintro e wz ⟨rfl, hBz⟩
                  go_wp2
                  go_ret
                  exact truly_of (HB13.out.trans (hBz.mono HB13.out.size))
                | true =>
                  have hrm : rm = true := HCHK.out (by trivial) (fun h => absurd h hkn)
                  go_wp2_with fail
                  refine (HRM.out _ _ HR13.out).mono ?_
                  rintro e w15 ⟨rfl, hB15⟩
                  have HB15 := Lib.hid (HB13.out.trans (hB15.mono HB13.out.size))
                  clear hB15
                  subst hrm
                  go_wp2_with fail
                  refine (awakeKv_any _).mono ?_
                  rintro e wz ⟨rfl, hBz⟩
                  go_wp2
                  go_ret
                  exact truly_of (HB15.out.trans (hBz.mono HB15.out.size))
              · have hk4 : (c.kind == 4) = false := by simpa using hk
                clear hk
                go_wp2_with (first
                  | (refine store_kv (by rfl) _ _ (by rfl) w11.heap.size Kv.zero Q3 (by rfl) (by rfl) (Lies.new _ _ _) ?_; intro w12 hl12 hg12
                     have hB12 : Below w11.heap.size w11 w12 := ((Below.refl _ w11).alloc (Nat.le_refl _) _).grown hg12 (by simp) (by rintro j hj; cases hj; exact Nat.le_refl _)
                     have HC12 := Lib.hid (HC11.out.below hB12 HC11.out.lt)
                     have HR12 := Lib.hid (HR11.out.below hB12)
                     have HB12 := Lib.hid (HB11.out.trans (hB12.mono HB11.out.size))
                     obtain ⟨p0, p1, p2, p3, p4, p5, p6⟩ := Cmds.all HC12.out
                     obtain ⟨y0, y1, y2, y3, y4, y5⟩ := Anss.every (HY11.out.below hB12 HY11.out.lt)
                     obtain ⟨q0, q1, q2⟩ := Kvs.three (HP11.out.below hB12 HP11.out.lt)
                     obtain ⟨z0, z1, z2⟩ := Kvs.three (HZ11.out.below hB12 HZ11.out.lt)
                     obtain ⟨x0, x1, x2⟩ := Kvs.three hl12
                     clear hl12 hg12 hB12
                     refine Hid.out ?_))
                refine Lib.hid ?_
                go_wp2_with fail
                refine (HRL.out _ (HV.out.below HB12.out)).mono ?_
                rintro e w13 ⟨rfl, hB13⟩
                have HC13 := Lib.hid (HC12.out.below hB13 HC12.out.lt)
                have HR13 := Lib.hid (HR12.out.below hB13)
                have HB13 := Lib.hid (HB12.out.trans (hB13.mono HB12.out.size))
                clear hB13 p0 p1 p2 p3 p4 p5 p6 y0 y1 y2 y3 y4 y5 q0 q1 q2 z0 z1 z2 x0 x1 x2
                obtain ⟨p0, p1, p2, p3, p4, p5, p6⟩ := Cmds.all HC13.out
                cases rl with
                | false =>
                  go_wp2_with fail
                  refine (awakeKv_any _).mono ?_
                  rintro e wz ⟨rfl, hBz⟩
                  go_wp2
                  go_ret
                  exact truly_of (HB13.out.trans (hBz.mono HB13.out.size))
                | true =>
                  have hrm : rm = true := HCHK.out (by trivial) (fun h => absurd h hkn)
                  go_wp2_with fail
                  refine (HRM.out _ _ HR13.out).mono ?_
                  rintro e w15 ⟨rfl, hB15⟩
                  have HB15 := Lib.hid (HB13.out.trans (hB15.mono HB13.out.size))
                  clear hB15
                  subst hrm
                  go_wp2_with fail
                  refine (awakeKv_any _).mono ?_
                  rintro e wz ⟨rfl, hBz⟩
                  go_wp2
                  go_ret
                  exact truly_of (HB15.out.trans (hBz.mono HB15.out.size))
          · have ho0 : (o == c.key) = false := by simpa using ho
            have ho1 := fun W => run_neq_str W o c.key
            rw [decide_eq_false ho, Bool.not_false] at ho1
            obtain ⟨hQ, hb⟩ := HOTH.out ho
            subst hQ
            subst hb
            have hneq := fun W => run_neq_kv W Q2 Q2
            rw [decide_eq_true rfl, Bool.not_true] at hneq
            dsimp only [Kv.cells] at hneq
            clear ho
            by_cases hk : c.kind = 2
            · have hk2 : (c.kind == 2) = true := by simpa using hk
              have hk4 : (c.kind == 4) = false := by simp; omega
              by_cases he : A.err = 0
              · have he0 : (A.err == 0) = true := by simpa using he
                obtain ⟨hb, hqv⟩ := HPUT.out hk he
                have hv0 : (Q1.val == c.val) = true := by simpa using hqv
                have hv1 := fun W => run_neq_str W Q1.val c.val
                rw [decide_eq_true hqv, Bool.not_true] at hv1
                subst hb
                clear hqv he hk
                go_wp2_with (first
                  | (refine store_kv (by rfl) _ _ (by rfl) w11.heap.size Kv.zero Q2 (by rfl) (by rfl) (Lies.new _ _ _) ?_; intro w12 hl12 hg12
                     have hB12 : Below w11.heap.size w11 w12 := ((Below.refl _ w11).alloc (Nat.le_refl _) _).grown hg12 (by simp) (by rintro j hj; cases hj; exact Nat.le_refl _)
                     have HC12 := Lib.hid (HC11.out.below hB12 HC11.out.lt)
                     have HR12 := Lib.hid (HR11.out.below hB12)
                     have HB12 := Lib.hid (HB11.out.trans (hB12.mono HB11.out.size))
                     obtain ⟨p0, p1, p2, p3, p4, p5, p6⟩ := Cmds.all HC12.out
                     obtain ⟨y0, y1, y2, y3, y4, y5⟩ := Anss.every (HY11.out.below hB12 HY11.out.lt)
                     obtain ⟨q0, q1, q2⟩ := Kvs.three (HP11.out.below hB12 HP11.out.lt)
                     obtain ⟨z0, z1, z2⟩ := Kvs.three (HZ11.out.below hB12 HZ11.out.lt)
                     obtain ⟨x0, x1, x2⟩ := Kvs.three hl12
                     clear hl12 hg12 hB12
                     refine Hid.out ?_))
                refine Lib.hid ?_
                go_wp2_with fail
                refine (HRL.out _ (HV.out.below HB12.out)).mono ?_
                rintro e w13 ⟨rfl, hB13⟩
                have HC13 := Lib.hid (HC12.out.below hB13 HC12.out.lt)
                have HR13 := Lib.hid (HR12.out.below hB13)
                have HB13 := Lib.hid (HB12.out.trans (hB13.mono HB12.out.size))
                clear hB13 p0 p1 p2 p3 p4 p5 p6 y0 y1 y2 y3 y4 y5 q0 q1 q2 z0 z1 z2 x0 x1 x2
                obtain ⟨p0, p1, p2, p3, p4, p5, p6⟩ := Cmds.all HC13.out
                cases rl with
                | false =>
                  go_wp2_with fail
                  refine (awakeKv_any _).mono ?_
                  rintro e wz ⟨rfl, hBz⟩
                  go_wp2
                  go_ret
                  exact truly_of (HB13.out.trans (hBz.mono HB13.out.size))
                | true =>
                  go_wp2_with fail
                  have hal : Below w13.heap.size w13 (w13.alloc (.cells #[.string ⟨c.key.toArray⟩, .string ⟨c.val.toArray⟩, .int .i64 0] 29)) := (Below.refl _ w13).alloc (Nat.le_refl _) _
                  refine (HRS.out _ _ (ReadsR.single (E := 29) (Lies.new _ _ _))).mono ?_
                  rintro e w14 ⟨rfl, hB14⟩
                  have HR14 := Lib.hid ((HR13.out.below hal).below hB14)
                  have HB14 := Lib.hid ((HB13.out.trans (hal.mono HB13.out.size)).trans (hB14.mono (HB13.out.trans (hal.mono HB13.out.size)).size))
                  clear hB14 hal
                  cases rs with
                  | false =>
                    go_wp2_with fail
                    refine (awakeKv_any _).mono ?_
                    rintro e wz ⟨rfl, hBz⟩
                    go_wp2
                    go_ret
                    exact truly_of (HB14.out.trans (hBz.mono HB14.out.size))
                  | true =>
                    have hrm : rm = true := HCHK.out (by trivial) (fun _ => by trivial)
                    go_wp2_with fail
                    refine (HRM.out _ _ HR14.out).mono ?_
                    rintro e w15 ⟨rfl, hB15⟩
                    have HB15 := Lib.hid (HB14.out.trans (hB15.mono HB14.out.size))
                    clear hB15
                    subst hrm
                    go_wp2_with fail
                    refine (awakeKv_any _).mono ?_
                    rintro e wz ⟨rfl, hBz⟩
                    go_wp2
                    go_ret
                    exact truly_of (HB15.out.trans (hBz.mono HB15.out.size))
              · have he0 : (A.err == 0) = false := by simpa using he
                clear he hk
                go_wp2_with (first
                  | (refine store_kv (by rfl) _ _ (by rfl) w11.heap.size Kv.zero Q2 (by rfl) (by rfl) (Lies.new _ _ _) ?_; intro w12 hl12 hg12
                     have hB12 : Below w11.heap.size w11 w12 := ((Below.refl _ w11).alloc (Nat.le_refl _) _).grown hg12 (by simp) (by rintro j hj; cases hj; exact Nat.le_refl _)
                     have HC12 := Lib.hid (HC11.out.below hB12 HC11.out.lt)
                     have HR12 := Lib.hid (HR11.out.below hB12)
                     have HB12 := Lib.hid (HB11.out.trans (hB12.mono HB11.out.size))
                     obtain ⟨p0, p1, p2, p3, p4, p5, p6⟩ := Cmds.all HC12.out
                     obtain ⟨y0, y1, y2, y3, y4, y5⟩ := Anss.every (HY11.out.below hB12 HY11.out.lt)
                     obtain ⟨q0, q1, q2⟩ := Kvs.three (HP11.out.below hB12 HP11.out.lt)
                     obtain ⟨z0, z1, z2⟩ := Kvs.three (HZ11.out.below hB12 HZ11.out.lt)
                     obtain ⟨x0, x1, x2⟩ := Kvs.three hl12
                     clear hl12 hg12 hB12
                     refine Hid.out ?_))
                refine Lib.hid ?_
                go_wp2_with fail
                refine (HRL.out _ (HV.out.below HB12.out)).mono ?_
                rintro e w13 ⟨rfl, hB13⟩
                have HC13 := Lib.hid (HC12.out.below hB13 HC12.out.lt)
                have HR13 := Lib.hid (HR12.out.below hB13)
                have HB13 := Lib.hid (HB12.out.trans (hB13.mono HB12.out.size))
                clear hB13 p0 p1 p2 p3 p4 p5 p6 y0 y1 y2 y3 y4 y5 q0 q1 q2 z0 z1 z2 x0 x1 x2
                obtain ⟨p0, p1, p2, p3, p4, p5, p6⟩ := Cmds.all HC13.out
                cases rl with
                | false =>
                  go_wp2_with fail
                  refine (awakeKv_any _).mono ?_
                  rintro e wz ⟨rfl, hBz⟩
                  go_wp2
                  go_ret
                  exact truly_of (HB13.out.trans (hBz.mono HB13.out.size))
                | true =>
                  go_wp2_with fail
                  have hal : Below w13.heap.size w13 (w13.alloc (.cells #[.string ⟨c.key.toArray⟩, .string ⟨c.val.toArray⟩, .int .i64 0] 29)) := (Below.refl _ w13).alloc (Nat.le_refl _) _
                  refine (HRS.out _ _ (ReadsR.single (E := 29) (Lies.new _ _ _))).mono ?_
                  rintro e w14 ⟨rfl, hB14⟩
                  have HR14 := Lib.hid ((HR13.out.below hal).below hB14)
                  have HB14 := Lib.hid ((HB13.out.trans (hal.mono HB13.out.size)).trans (hB14.mono (HB13.out.trans (hal.mono HB13.out.size)).size))
                  clear hB14 hal
                  cases rs with
                  | false =>
                    go_wp2_with fail
                    refine (awakeKv_any _).mono ?_
                    rintro e wz ⟨rfl, hBz⟩
                    go_wp2
                    go_ret
                    exact truly_of (HB14.out.trans (hBz.mono HB14.out.size))
                  | true =>
                    have hrm : rm = true := HCHK.out (by trivial) (fun _ => by trivial)
                    go_wp2_with fail
                    refine (HRM.out _ _ HR14.out).mono ?_
                    rintro e w15 ⟨rfl, hB15⟩
                    have HB15 := Lib.hid (HB14.out.trans (hB15.mono HB14.out.size))
                    clear hB15
                    subst hrm
                    go_wp2_with fail
                    refine (awakeKv_any _).mono ?_
                    rintro e wz ⟨rfl, hBz⟩
                    go_wp2
                    go_ret
                    exact truly_of (HB15.out.trans (hBz.mono HB15.out.size))
            · have hk2 : (c.kind == 2) = false := by simpa using hk
              have hkn := hk
              clear hk
              by_cases hk : c.kind = 4
              · have hk4 : (c.kind == 4) = true := by simpa using hk
                have hb := HDEL.out hk
                subst hb
                clear hk
                go_wp2_with (first
                  | (refine store_kv (by rfl) _ _ (by rfl) w11.heap.size Kv.zero Q2 (by rfl) (by rfl) (Lies.new _ _ _) ?_; intro w12 hl12 hg12
                     have hB12 : Below w11.heap.size w11 w12 := ((Below.refl _ w11).alloc (Nat.le_refl _) _).grown hg12 (by simp) (by rintro j hj; cases hj; exact Nat.le_refl _)
                     have HC12 := Lib.hid (HC11.out.below hB12 HC11.out.lt)
                     have HR12 := Lib.hid (HR11.out.below hB12)
                     have HB12 := Lib.hid (HB11.out.trans (hB12.mono HB11.out.size))
                     obtain ⟨p0, p1, p2, p3, p4, p5, p6⟩ := Cmds.all HC12.out
                     obtain ⟨y0, y1, y2, y3, y4, y5⟩ := Anss.every (HY11.out.below hB12 HY11.out.lt)
                     obtain ⟨q0, q1, q2⟩ := Kvs.three (HP11.out.below hB12 HP11.out.lt)
                     obtain ⟨z0, z1, z2⟩ := Kvs.three (HZ11.out.below hB12 HZ11.out.lt)
                     obtain ⟨x0, x1, x2⟩ := Kvs.three hl12
                     clear hl12 hg12 hB12
                     refine Hid.out ?_))
                refine Lib.hid ?_
                go_wp2_with fail
                refine (HRL.out _ (HV.out.below HB12.out)).mono ?_
                rintro e w13 ⟨rfl, hB13⟩
                have HC13 := Lib.hid (HC12.out.below hB13 HC12.out.lt)
                have HR13 := Lib.hid (HR12.out.below hB13)
                have HB13 := Lib.hid (HB12.out.trans (hB13.mono HB12.out.size))
                clear hB13 p0 p1 p2 p3 p4 p5 p6 y0 y1 y2 y3 y4 y5 q0 q1 q2 z0 z1 z2 x0 x1 x2
                obtain ⟨p0, p1, p2, p3, p4, p5, p6⟩ := Cmds.all HC13.out
                cases rl with
                | false =>
                  go_wp2_with fail
                  refine (awakeKv_any _).mono ?_
                  rintro e wz ⟨rfl, hBz⟩
                  go_wp2
                  go_ret
                  exact truly_of (HB13.out.trans (hBz.mono HB13.out.size))
                | true =>
                  have hrm : rm = true := HCHK.out (by trivial) (fun h => absurd h hkn)
                  go_wp2_with fail
                  refine (HRM.out _ _ HR13.out).mono ?_
                  rintro e w15 ⟨rfl, hB15⟩
                  have HB15 := Lib.hid (HB13.out.trans (hB15.mono HB13.out.size))
                  clear hB15
                  subst hrm
                  go_wp2_with fail
                  refine (awakeKv_any _).mono ?_
                  rintro e wz ⟨rfl, hBz⟩
                  go_wp2
                  go_ret
                  exact truly_of (HB15.out.trans (hBz.mono HB15.out.size))
              · have hk4 : (c.kind == 4) = false := by simpa using hk
                clear hk
                go_wp2_with (first
                  | (refine store_kv (by rfl) _ _ (by rfl) w11.heap.size Kv.zero Q2 (by rfl) (by rfl) (Lies.new _ _ _) ?_; intro w12 hl12 hg12
                     have hB12 : Below w11.heap.size w11 w12 := ((Below.refl _ w11).alloc (Nat.le_refl _) _).grown hg12 (by simp) (by rintro j hj; cases hj; exact Nat.le_refl _)
                     have HC12 := Lib.hid (HC11.out.below hB12 HC11.out.lt)
                     have HR12 := Lib.hid (HR11.out.below hB12)
                     have HB12 := Lib.hid (HB11.out.trans (hB12.mono HB11.out.size))
                     obtain ⟨p0, p1, p2, p3, p4, p5, p6⟩ := Cmds.all HC12.out
                     obtain ⟨y0, y1, y2, y3, y4, y5⟩ := Anss.every (HY11.out.below hB12 HY11.out.lt)
                     obtain ⟨q0, q1, q2⟩ := Kvs.three (HP11.out.below hB12 HP11.out.lt)
                     obtain ⟨z0, z1, z2⟩ := Kvs.three (HZ11.out.below hB12 HZ11.out.lt)
                     obtain ⟨x0, x1, x2⟩ := Kvs.three hl12
                     clear hl12 hg12 hB12
                     refine Hid.out ?_))
                refine Lib.hid ?_
                go_wp2_with fail
                refine (HRL.out _ (HV.out.below HB12.out)).mono ?_
                rintro e w13 ⟨rfl, hB13⟩
                have HC13 := Lib.hid (HC12.out.below hB13 HC12.out.lt)
                have HR13 := Lib.hid (HR12.out.below hB13)
                have HB13 := Lib.hid (HB12.out.trans (hB13.mono HB12.out.size))
                clear hB13 p0 p1 p2 p3 p4 p5 p6 y0 y1 y2 y3 y4 y5 q0 q1 q2 z0 z1 z2 x0 x1 x2
                obtain ⟨p0, p1, p2, p3, p4, p5, p6⟩ := Cmds.all HC13.out
                cases rl with
                | false =>
                  go_wp2_with fail
                  refine (awakeKv_any _).mono ?_
                  rintro e wz ⟨rfl, hBz⟩
                  go_wp2
                  go_ret
                  exact truly_of (HB13.out.trans (hBz.mono HB13.out.size))
                | true =>
                  have hrm : rm = true := HCHK.out (by trivial) (fun h => absurd h hkn)
                  go_wp2_with fail
                  refine (HRM.out _ _ HR13.out).mono ?_
                  rintro e w15 ⟨rfl, hB15⟩
                  have HB15 := Lib.hid (HB13.out.trans (hB15.mono HB13.out.size))
                  clear hB15
                  subst hrm
                  go_wp2_with fail
                  refine (awakeKv_any _).mono ?_
                  rintro e wz ⟨rfl, hBz⟩
                  go_wp2
                  go_ret
                  exact truly_of (HB15.out.trans (hBz.mono HB15.out.size))

end Go.Proofs.Ytdjhkgnnfkbmhaa
