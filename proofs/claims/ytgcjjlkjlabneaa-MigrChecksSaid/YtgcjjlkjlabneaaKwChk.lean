/- Which pairs may be in schema 2: the program's Check. -/
import Derived.Test.YtgcjjlkjlabneaaKwCh
import Derived.Test.YtgcjjlkjlabneaaKvChk
namespace Go.Proofs.Ytgcjjlkjlabneaa
open Go.RowKit

set_option maxRecDepth 4000 in
set_option maxHeartbeats 1600000 in
theorem check2Kv_any (v : Value) (l : List Kv.Item) (w : World) (hv : ReadsK w v l) (hn : l.length ≤ 1000000) (hs : ∀ s ∈ l, s.key.length ≤ 140737488355328 ∧ s.val.length ≤ 140737488355328) :
    Calls Try.prog 34 #[v] w (Looks w (.int .i64 (if Kv.refCheck2 l = true then 0 else 3))) := by
  have HPL := Lib.hid (fun W h => plainKv_any v l W h hn)
  have HV := Lib.hid hv
  obtain ⟨ao, cap, rfl, hc1, hc2⟩ := ReadsK.shape hv
  have HP := Lib.hid (fun h => ReadsK.places hv h)
  have HSP : Hid (∀ s ∈ Kv.plain l, s.key.length ≤ 140737488355328 ∧ s.val.length ≤ 140737488355328) := fun s h => by
    unfold Kv.plain at h
    obtain ⟨e, he, rfl⟩ := List.mem_map.1 h
    exact hs e he
  have HCK := Lib.hid (fun u W h => checkKv_any u (Kv.plain l) W h HSP.out)
  have HYES := Lib.hid (fun h => Kv.inRev_yes (l := l) h)
  obtain ⟨n, hnn⟩ : ∃ n, n = l.length := ⟨_, rfl⟩
  rw [← hnn] at hc1 hn HPL HV HYES ⊢
  have HN := Lib.hid hnn
  obtain ⟨r, hr⟩ : ∃ r, r = Kv.refCheck2 l := ⟨_, rfl⟩
  rw [← hr] at HYES ⊢
  have HR := Lib.hid hr
  obtain ⟨y, hy⟩ : ∃ y : Int, y = if r = true then 0 else 3 := ⟨_, rfl⟩
  rw [← hy]
  have HY := Lib.hid hy
  clear hv hnn hr hs hy hc1 hc2
  go_enter Try.func34, Try.ntmps34
  go_wp2
  go_loopw [7] (fun i wr => ∃ k : Nat, i = .int .i64 (k : Int) ∧ k ≤ n ∧ Hid (∀ (j : Nat) (e : Kv.Item), j < k → l[j]? = some e → Kv.inRev e = true) ∧ Below w.heap.size w wr) (fun i _ => n - (intOf i).toNat)
  case atStart => exact ⟨0, rfl, by omega, fun j e hj => by omega, Below.refl _ _⟩
  case round =>
    obtain ⟨k, rfl, hk, HI, hB⟩ := hrel
    have HB := Lib.hid hB
    clear hB
    by_cases hlt : k < n
    · obtain ⟨s, hse⟩ : ∃ s, l[k]? = some s := ⟨_, List.getElem?_eq_getElem (by have := HN.out; omega)⟩
      obtain ⟨g, off, rfl, hgl, hcell⟩ := HP.out (by have := HN.out; omega)
      have HC := Lib.hid (hcell wr HB.out k s hse)
      have HS1 := Lib.hid hse
      obtain ⟨t3, ht3⟩ : ∃ t, decide (s.rev < 1) = t := ⟨_, rfl⟩
      obtain ⟨t4, ht4⟩ : ∃ t, decide (4294967296 < s.rev) = t := ⟨_, rfl⟩
      have HVA : Hid (Kv.inRev s = (!t3 && !t4)) := by
        show _ = _
        rw [← ht3, ← ht4, Kv.inRev]
        rw [show (decide (1 ≤ s.rev)) = !decide (s.rev < 1) by rw [← decide_not]; exact decide_eq_decide.2 (by omega), show (decide (s.rev ≤ 4294967296)) = !decide (4294967296 < s.rev) by rw [← decide_not]; exact decide_eq_decide.2 (by omega)]
      clear hcell hse
      cases t3 with
      | true =>
        have HZ : Hid (y = 3) := by show _ = _; rw [HY.out, HR.out, Kv.inRev_no HS1.out (by rw [HVA.out]; rfl)]; rfl
        go_wp2_with (first
          | (refine load_kv rfl _ rfl g (off + k * 3) s rfl HC.out ?_)
          | (refine store_kv (by rfl) _ _ (by rfl) wr.heap.size Kv.zero s (by rfl) (by rfl) (Lies.new _ _ _) ?_; intro w4 hl4 hg4
             have hB4 : Below wr.heap.size wr w4 := ((Below.refl _ wr).alloc (Nat.le_refl _) _).grown hg4 (by simp) (by rintro j hj; cases hj; exact Nat.le_refl _)
             have HB4 := Lib.hid (HB.out.trans (hB4.mono HB.out.size))
             obtain ⟨q0, q1, q2⟩ := Kvs.three hl4
             clear hl4 hg4 hB4))
        go_ret
        exact ⟨by rw [HZ.out]; rfl, HB4.out⟩
      | false =>
        cases t4 with
        | true =>
          have HZ : Hid (y = 3) := by show _ = _; rw [HY.out, HR.out, Kv.inRev_no HS1.out (by rw [HVA.out]; rfl)]; rfl
          go_wp2_with (first
            | (refine load_kv rfl _ rfl g (off + k * 3) s rfl HC.out ?_)
            | (refine store_kv (by rfl) _ _ (by rfl) wr.heap.size Kv.zero s (by rfl) (by rfl) (Lies.new _ _ _) ?_; intro w4 hl4 hg4
               have hB4 : Below wr.heap.size wr w4 := ((Below.refl _ wr).alloc (Nat.le_refl _) _).grown hg4 (by simp) (by rintro j hj; cases hj; exact Nat.le_refl _)
               have HB4 := Lib.hid (HB.out.trans (hB4.mono HB.out.size))
               obtain ⟨q0, q1, q2⟩ := Kvs.three hl4
               clear hl4 hg4 hB4))
          go_ret
          exact ⟨by rw [HZ.out]; rfl, HB4.out⟩
        | false =>
          have HZ : Hid (∀ (j : Nat) (e : Kv.Item), j < k + 1 → l[j]? = some e → Kv.inRev e = true) := by
            intro j d hj hd
            by_cases hjk : j = k
            · subst hjk; rw [HS1.out] at hd; cases hd; rw [HVA.out]; rfl
            · exact HI.out j d (by omega) hd
          go_wp2_with (first
            | (refine load_kv rfl _ rfl g (off + k * 3) s rfl HC.out ?_)
            | (refine store_kv (by rfl) _ _ (by rfl) wr.heap.size Kv.zero s (by rfl) (by rfl) (Lies.new _ _ _) ?_; intro w4 hl4 hg4
               have hB4 : Below wr.heap.size wr w4 := ((Below.refl _ wr).alloc (Nat.le_refl _) _).grown hg4 (by simp) (by rintro j hj; cases hj; exact Nat.le_refl _)
               have HB4 := Lib.hid (HB.out.trans (hB4.mono HB.out.size))
               obtain ⟨q0, q1, q2⟩ := Kvs.three hl4
               clear hl4 hg4 hB4))
          go_roundw
          case rel => exact ⟨k + 1, by go_num, by omega, HZ.out, HB4.out⟩
          case measure => simp [intOf]; omega
    · have HZ : Hid (y = if Kv.refCheck (Kv.plain l) = true then 0 else 3) := by
        show _ = _
        rw [HY.out, HYES.out fun j e hj he => HI.out j e (by omega) he]
      go_wp2_with fail
      refine (HPL.out wr (HV.out.below HB.out)).mono ?_
      rintro e w2 ⟨v2, rfl, ho2, hB2⟩
      have hr2 : ReadsK w2 v2 (Kv.plain l) := ho2.reads (Kv.sized _)
      have HCK2 := Lib.hid (HCK.out v2 w2 hr2)
      obtain ⟨bo, bcap, rfl, _, _⟩ := ReadsK.shape hr2
      have HB2 := Lib.hid (HB.out.trans (hB2.mono HB.out.size))
      clear hr2 ho2 hB2
      go_wp2_with fail
      refine HCK2.out.mono ?_
      rintro e w3 ⟨rfl, hB3⟩
      rw [← HZ.out]
      go_wp2
      go_ret
      exact ⟨rfl, HB2.out.trans (hB3.mono HB2.out.size)⟩

end Go.Proofs.Ytgcjjlkjlabneaa
