/- Which pairs may be: the program's Check. -/
import Derived.Test.YtgcjjlkjlabneaaKvMem
namespace Go.Proofs.Ytgcjjlkjlabneaa
open Go.RowKit

set_option maxRecDepth 4000 in
set_option maxHeartbeats 1600000 in
theorem isValidKv_any (p : Kv.Item) (w : World) (hk : p.key.length ≤ 140737488355328) (hs : p.val.length ≤ 140737488355328) : Calls Try.prog 41 #[.agg (Kv.cells p)] w (Looks w (.bool (Kv.valid p))) := by
  obtain ⟨w1, e1, hl1, hB1, hz1⟩ := box_kv w p
  obtain ⟨p0, p1, p2⟩ := Kvs.three hl1
  have HL1 := Lib.hid hl1
  have HB1 := Lib.hid hB1
  have hkey := key_any ⟨p.key.toArray⟩ w1 (by rw [str_size]; exact hk)
  have hval := fun W => val_any ⟨p.val.toArray⟩ W (by rw [str_size]; exact hs)
  obtain ⟨r, hr⟩ : ∃ r, r = Kv.valid p := ⟨_, rfl⟩
  rw [← hr]
  unfold Kv.valid at hr
  obtain ⟨t1, h1⟩ : ∃ t, Rn.key ⟨p.key.toArray⟩ = t := ⟨_, rfl⟩
  obtain ⟨t2, h2⟩ : ∃ t, Rn.val ⟨p.val.toArray⟩ = t := ⟨_, rfl⟩
  obtain ⟨t3, h3⟩ : ∃ t, (p.rev == 0) = t := ⟨_, rfl⟩
  rw [h1] at hkey hr
  rw [h2] at hval hr
  rw [h3] at hr
  have HR := Lib.hid hr
  have HVAL := Lib.hid hval
  clear hl1 hB1 hz1 hs hk hr h1 h2 hval
  cases t1 with
  | false =>
    have HZ : Hid (r = false) := by show _ = _; rw [HR.out]; rfl
    go_enter Try.func41, Try.ntmps41
    go_wp2_with (go_at_call 45; refine hkey.mono ?_; rintro e w2 ⟨rfl, hB2⟩)
    go_ret
    exact ⟨by rw [HZ.out]; rfl, HB1.out.trans (hB2.mono HB1.out.size)⟩
  | true =>
    have HZ : Hid (r = (t2 && t3)) := by show _ = _; rw [HR.out]; rfl
    cases t2 with
    | false =>
      go_enter Try.func41, Try.ntmps41
      go_wp2_with (first
        | (go_at_call 45; refine hkey.mono ?_; rintro e w2 ⟨rfl, hB2⟩; have HL2 := Lib.hid (HL1.out.below hB2 HL1.out.lt); have HB2 := Lib.hid (HB1.out.trans (hB2.mono HB1.out.size)); obtain ⟨q0, q1, q2⟩ := Kvs.three HL2.out; clear hB2)
        | (go_at_call 46; refine (HVAL.out _).mono ?_; rintro e w3 ⟨rfl, hB3⟩))
      go_ret
      exact ⟨by rw [HZ.out]; rfl, HB2.out.trans (hB3.mono HB2.out.size)⟩
    | true =>
      go_enter Try.func41, Try.ntmps41
      go_wp2_with (first
        | (go_at_call 45; refine hkey.mono ?_; rintro e w2 ⟨rfl, hB2⟩; have HL2 := Lib.hid (HL1.out.below hB2 HL1.out.lt); have HB2 := Lib.hid (HB1.out.trans (hB2.mono HB1.out.size)); obtain ⟨q0, q1, q2⟩ := Kvs.three HL2.out; clear hB2)
        | (go_at_call 46; refine (HVAL.out _).mono ?_; rintro e w3 ⟨rfl, hB3⟩; have HL3 := Lib.hid (HL2.out.below hB3 HL2.out.lt); have HB3 := Lib.hid (HB2.out.trans (hB3.mono HB2.out.size)); obtain ⟨x0, x1, x2⟩ := Kvs.three HL3.out; clear hB3))
      go_ret
      exact ⟨by rw [HZ.out]; simp, HB3.out⟩

set_option maxRecDepth 4000 in
set_option maxHeartbeats 3200000 in
theorem checkKv_any (v : Value) (l : List Kv.Item) (w : World) (hv : ReadsK w v l) (hs : ∀ s ∈ l, s.key.length ≤ 140737488355328 ∧ s.val.length ≤ 140737488355328) :
    Calls Try.prog 33 #[v] w (Looks w (.int .i64 (if Kv.refCheck l = true then 0 else 3))) := by
  obtain ⟨ao, cap, rfl, hc1, hc2⟩ := ReadsK.shape hv
  have HP := Lib.hid (fun h => ReadsK.places hv h)
  have HS := Lib.hid hs
  obtain ⟨n, hnn⟩ : ∃ n, n = l.length := ⟨_, rfl⟩
  rw [← hnn] at hc1 ⊢
  have HN := Lib.hid hnn
  obtain ⟨r, hr⟩ : ∃ r, r = Kv.refCheck l := ⟨_, rfl⟩
  rw [← hr]
  have HR := Lib.hid hr
  have hnb : n < 9223372036854775808 := by omega
  obtain ⟨y, hy⟩ : ∃ y : Int, y = if r = true then 0 else 3 := ⟨_, rfl⟩
  rw [← hy]
  have HY := Lib.hid hy
  clear hv hnn hr hs hy
  by_cases h64 : 64 < n
  · have HZ : Hid (y = 3) := by show _ = _; rw [HY.out, HR.out, Kv.check_long (by have := HN.out; omega)]; rfl
    have d0 : decide ((64 : Int) < (n : Int)) = true := by simp; omega
    go_enter Try.func33, Try.ntmps33
    go_wp2
    go_ret
    exact ⟨by rw [HZ.out]; rfl, Below.refl _ _⟩
  · have d0 : decide ((64 : Int) < (n : Int)) = false := by simp; omega
    have HR0 : Hid (r = Kv.check [] l) := by show _ = _; rw [HR.out, Kv.check_ref l (by have := HN.out; omega)]
    go_enter Try.func33, Try.ntmps33
    go_wp2
    go_loopw [3, 11] (fun b' i wr => ∃ (k : Nat) (b : List UInt8), b' = .string ⟨b.toArray⟩ ∧ i = .int .i64 (k : Int) ∧ k ≤ n ∧ Hid (r = Kv.check b (l.drop k)) ∧ Below w.heap.size w wr) (fun _ i _ => n - (intOf i).toNat)
    case atStart => exact ⟨0, [], rfl, rfl, by omega, HR0.out, Below.refl _ _⟩
    case round =>
      obtain ⟨k, b, rfl, rfl, hk, HI, hB⟩ := hrel
      have HB := Lib.hid hB
      clear hB
      by_cases hlt : k < n
      · obtain ⟨s, hse⟩ : ∃ s, l[k]? = some s := ⟨_, List.getElem?_eq_getElem (by have := HN.out; omega)⟩
        obtain ⟨g, off, rfl, hgl, hcell⟩ := HP.out (by have := HN.out; omega)
        have HC := Lib.hid (hcell wr HB.out k s hse)
        have HV := Lib.hid (fun W => isValidKv_any s W (HS.out s (List.mem_of_getElem? hse)).1 (HS.out s (List.mem_of_getElem? hse)).2)
        obtain ⟨t, ht⟩ : ∃ t, t = Kv.valid s := ⟨_, rfl⟩
        rw [← ht] at HV
        have HST := Lib.hid (HI.out.trans (Kv.check_step hse b))
        rw [← ht] at HST
        clear hcell hse ht
        have hle := fun W => run_leq_str W s.key b
        by_cases h1 : b < s.key
        · rw [decide_eq_true h1, Bool.not_true] at hle
          rw [if_pos h1] at HST
          cases t with
          | false =>
            have HZ : Hid (y = 3) := by show _ = _; rw [HY.out, HST.out, if_pos rfl]; rfl
            clear h1
            go_wp2_with (first
              | (refine load_kv rfl _ rfl g (off + k * 3) s rfl HC.out ?_)
              | (refine store_kv (by rfl) _ _ (by rfl) wr.heap.size Kv.zero s (by rfl) (by rfl) (Lies.new _ _ _) ?_; intro w4 hl4 hg4
                 have hB4 : Below wr.heap.size wr w4 := ((Below.refl _ wr).alloc (Nat.le_refl _) _).grown hg4 (by simp) (by rintro j hj; cases hj; exact Nat.le_refl _)
                 have HB4 := Lib.hid (HB.out.trans (hB4.mono HB.out.size))
                 obtain ⟨q0, q1, q2⟩ := Kvs.three hl4
                 clear hl4 hg4 hB4)
              | (go_at_call 41; refine (HV.out _).mono ?_; rintro e w5 ⟨rfl, hB5⟩))
            go_ret
            exact ⟨by rw [HZ.out]; rfl, HB4.out.trans (hB5.mono HB4.out.size)⟩
          | true =>
            have HZ : Hid (r = Kv.check s.key (l.drop (k + 1))) := by show _ = _; rw [HST.out, if_neg (by simp)]
            clear h1
            go_wp2_with (first
              | (refine load_kv rfl _ rfl g (off + k * 3) s rfl HC.out ?_)
              | (refine store_kv (by rfl) _ _ (by rfl) wr.heap.size Kv.zero s (by rfl) (by rfl) (Lies.new _ _ _) ?_; intro w4 hl4 hg4
                 have hB4 : Below wr.heap.size wr w4 := ((Below.refl _ wr).alloc (Nat.le_refl _) _).grown hg4 (by simp) (by rintro j hj; cases hj; exact Nat.le_refl _)
                 have HB4 := Lib.hid (HB.out.trans (hB4.mono HB.out.size))
                 have HL4 := Lib.hid hl4
                 obtain ⟨q0, q1, q2⟩ := Kvs.three hl4
                 clear hl4 hg4 hB4)
              | (go_at_call 41; refine (HV.out _).mono ?_; rintro e w5 ⟨rfl, hB5⟩; have x0 := (HL4.out.below hB5 HL4.out.lt).cell 0 _ rfl))
            go_roundw
            case rel => exact ⟨k + 1, s.key, rfl, by go_num, by omega, HZ.out, HB4.out.trans (hB5.mono HB4.out.size)⟩
            case measure => simp [intOf]; omega
        · rw [decide_eq_false h1, Bool.not_false] at hle
          have HZ : Hid (y = 3) := by show _ = _; rw [HY.out, HST.out, if_neg h1]; rfl
          clear h1
          go_wp2_with (first
            | (refine load_kv rfl _ rfl g (off + k * 3) s rfl HC.out ?_)
            | (refine store_kv (by rfl) _ _ (by rfl) wr.heap.size Kv.zero s (by rfl) (by rfl) (Lies.new _ _ _) ?_; intro w4 hl4 hg4
               have hB4 : Below wr.heap.size wr w4 := ((Below.refl _ wr).alloc (Nat.le_refl _) _).grown hg4 (by simp) (by rintro j hj; cases hj; exact Nat.le_refl _)
               have HB4 := Lib.hid (HB.out.trans (hB4.mono HB.out.size))
               obtain ⟨q0, q1, q2⟩ := Kvs.three hl4
               clear hl4 hg4 hB4))
          go_ret
          exact ⟨by rw [HZ.out]; rfl, HB4.out⟩
      · have HZ : Hid (y = 0) := by show _ = _; rw [HY.out, HI.out, List.drop_of_length_le (by have := HN.out; omega)]; rfl
        go_wp2
        go_ret
        exact ⟨by rw [HZ.out]; rfl, HB.out⟩

end Go.Proofs.Ytgcjjlkjlabneaa
