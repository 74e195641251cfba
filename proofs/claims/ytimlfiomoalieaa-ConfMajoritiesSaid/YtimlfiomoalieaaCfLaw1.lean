/- The laws on who is a member, and on majorities. -/
import Derived.Test.YtimlfiomoalieaaCfMaj
import Derived.Test.YtimlfiomoalieaaCfTrim
namespace Go.Proofs.Ytimlfiomoalieaa
open Go.RowKit

theorem Cf.any_take {l : List Int} {x : Int} {k : Nat} (h : l[k]? = some x) (p : Int → Bool) : (l.take (k + 1)).any p = ((l.take k).any p || p x) := by
  rw [List.take_add_one, h, List.any_append]
  simp

set_option maxRecDepth 4000 in
set_option maxHeartbeats 3200000 in
theorem confMajorities_any (v u s : Value) (l a b : List Int) (w : World) (hv : ReadsI w v l) (hu : ReadsI w u a) (hs : ReadsI w s b) : Calls Try.prog 4 #[v, u, s] w (Truly w) := by
  have HAW := Lib.hid (fun (W : World) => awakeC_any W)
  obtain ⟨ao, cap, rfl, hc1, hc2⟩ := ReadsI.shape hv
  obtain ⟨bo, dap, rfl, hd1, hd2⟩ := ReadsI.shape hu
  obtain ⟨eo, eap, rfl, he1, he2⟩ := ReadsI.shape hs
  have HV := Lib.hid hv; have HU := Lib.hid hu; have HS := Lib.hid hs
  obtain ⟨n, hn⟩ : ∃ n, n = l.length := ⟨_, rfl⟩
  obtain ⟨na, hna⟩ : ∃ n, n = a.length := ⟨_, rfl⟩
  obtain ⟨nb, hnb⟩ : ∃ n, n = b.length := ⟨_, rfl⟩
  rw [← hn] at HV ⊢
  rw [← hna] at HU ⊢
  rw [← hnb] at HS ⊢
  have HN := Lib.hid hn; have HNA := Lib.hid hna; have HNB := Lib.hid hnb
  rw [← hn] at hc1
  have hnn : n < 9223372036854775808 := by omega
  clear hv hu hs hn hna hnb
  by_cases hbig : 60 < n ∨ 60 < na ∨ 60 < nb
  · obtain ⟨t0, h0⟩ : ∃ t, decide ((60 : Int) < (n : Int)) = t := ⟨_, rfl⟩
    obtain ⟨t1, h1⟩ : ∃ t, decide ((60 : Int) < (na : Int)) = t := ⟨_, rfl⟩
    obtain ⟨t2, h2⟩ : ∃ t, decide ((60 : Int) < (nb : Int)) = t := ⟨_, rfl⟩
    have HBIG : Hid ((t0 || t1 || t2) = true) := by
      show _ = _
      rw [← h0, ← h1, ← h2]
      rcases hbig with h | h | h
      · rw [decide_eq_true (by omega : (60 : Int) < (n : Int))]; rfl
      · rw [decide_eq_true (by omega : (60 : Int) < (na : Int))]; simp
      · rw [decide_eq_true (by omega : (60 : Int) < (nb : Int))]; simp
    have haw := HAW.out w
    clear hbig
    cases t0 <;> (try cases t1) <;> (try cases t2)
    all_goals first
      | (exact absurd HBIG.out (by decide))
      | (go_enter Try.func4, Try.ntmps4
         go_wp2_with fail
         refine haw.mono ?_
         rintro e w1 ⟨rfl, hB1⟩
         go_wp2
         go_ret
         exact truly_of hB1)
  · have h0 : decide ((60 : Int) < (n : Int)) = false := decide_eq_false (by omega)
    have h1 : decide ((60 : Int) < (na : Int)) = false := decide_eq_false (by omega)
    have h2 : decide ((60 : Int) < (nb : Int)) = false := decide_eq_false (by omega)
    have hm1 := majority_any _ _ l a w HV.out HU.out (by have := HN.out; omega) (by have := HNA.out; omega)
    have HM2 := Lib.hid (fun (W : World) (h : Below w.heap.size w W) => majority_any _ _ l b W (HV.out.below h) (HS.out.below h) (by have := HN.out; omega) (by have := HNB.out; omega))
    have HR1 := Lib.hid (fun (W : World) (h : Below w.heap.size w W) => refMaj_any _ _ l a W (HV.out.below h) (HU.out.below h) (by have := HN.out; omega))
    have HR2 := Lib.hid (fun (W : World) (h : Below w.heap.size w W) => refMaj_any _ _ l b W (HV.out.below h) (HS.out.below h) (by have := HN.out; omega))
    have HCOM : Hid (Cf.maj l a = true → Cf.maj l b = true → (l.any fun x => a.contains x && b.contains x) = true) := fun h h' => Cf.maj_common h h'
    obtain ⟨x, hx⟩ : ∃ x, x = Cf.maj l a := ⟨_, rfl⟩
    obtain ⟨y, hy⟩ : ∃ y, y = Cf.maj l b := ⟨_, rfl⟩
    rw [← hx] at hm1 HR1 HCOM
    rw [← hy] at HM2 HR2 HCOM
    clear hbig hx hy
    go_enter Try.func4, Try.ntmps4
    go_wp2_with fail
    refine hm1.mono ?_
    rintro e w1 ⟨rfl, hB1⟩
    have HB1 := Lib.hid hB1
    have hm2 := HM2.out w1 hB1
    clear hm1 hB1
    go_wp2_with fail
    refine hm2.mono ?_
    rintro e w2 ⟨rfl, hB2⟩
    have HB2 := Lib.hid (HB1.out.trans (hB2.mono HB1.out.size))
    clear hm2 hB2
    go_wp2
    go_loopw [9, 10] (fun q i wr => ∃ (k : Nat) (t : Bool), q = .bool t ∧ i = .int .i64 (k : Int) ∧ k ≤ n ∧ Hid (t = (l.take k).any fun x => a.contains x && b.contains x) ∧ wr = w2) (fun _ i _ => n - (intOf i).toNat)
    case atStart => exact ⟨0, false, rfl, rfl, by omega, by show _ = _; rfl, rfl⟩
    case round =>
      obtain ⟨k, q, rfl, rfl, hk, HQQ, rfl⟩ := hrel
      by_cases hlt : k < n
      · obtain ⟨z, hz⟩ : ∃ z, l[k]? = some z := ⟨_, List.getElem?_eq_getElem (by have := HN.out; omega)⟩
        obtain ⟨g, off, e, _, hcc⟩ := ReadsI.places (HV.out.below HB2.out) (by have := HN.out; omega)
        cases e
        have hc0 := hcc wr (Below.refl _ _) k z hz
        have HANY : Hid ((l.take (k + 1)).any (fun x => a.contains x && b.contains x) = (q || (a.contains z && b.contains z))) := by show _ = _; rw [Cf.any_take hz, HQQ.out]
        have hia := in_any _ a z wr (HU.out.below HB2.out)
        have hib := in_any _ b z wr (HS.out.below HB2.out)
        obtain ⟨ta, hta⟩ : ∃ t, t = a.contains z := ⟨_, rfl⟩
        obtain ⟨tb, htb⟩ : ∃ t, t = b.contains z := ⟨_, rfl⟩
        rw [← hta] at hia HANY
        rw [← htb] at hib HANY
        clear hz hcc hta htb
        cases q with
        | true =>
          clear hia hib
          go_wp2
          go_roundw
          case rel => exact ⟨k + 1, _, rfl, by go_num, by omega, by show _ = _; rw [HANY.out]; rfl, (by first | rfl | trivial)⟩
          case measure => simp [intOf]; omega
        | false =>
          cases ta with
          | false =>
            clear hib
            go_wp2_with fail
            refine hia.mono ?_
            rintro e w3 ⟨rfl, rfl⟩
            clear hia
            go_wp2
            go_roundw
            case rel => exact ⟨k + 1, _, rfl, by go_num, by omega, by show _ = _; rw [HANY.out]; rfl, (by first | rfl | trivial)⟩
            case measure => simp [intOf]; omega
          | true =>
            go_wp2_with fail
            refine hia.mono ?_
            rintro e w3 ⟨rfl, rfl⟩
            clear hia
            go_wp2_with fail
            refine hib.mono ?_
            rintro e w3 ⟨rfl, rfl⟩
            clear hib
            cases tb with
            | true =>
              go_wp2
              go_roundw
              case rel => exact ⟨k + 1, _, rfl, by go_num, by omega, by show _ = _; rw [HANY.out]; rfl, (by first | rfl | trivial)⟩
              case measure => simp [intOf]; omega
            | false =>
              go_wp2
              go_roundw
              case rel => exact ⟨k + 1, _, rfl, by go_num, by omega, by show _ = _; rw [HANY.out]; rfl, (by first | rfl | trivial)⟩
              case measure => simp [intOf]; omega
      · obtain rfl : k = n := by omega
        have HQ : Hid (x = true → y = true → q = true) := by
          intro h h'
          rw [HQQ.out, HN.out, List.take_length]
          exact HCOM.out h h'
        have hr1 := HR1.out wr HB2.out
        go_wp2_with fail
        refine hr1.mono ?_
        rintro e w3 ⟨rfl, hB3⟩
        have HB3 := Lib.hid (HB2.out.trans (hB3.mono HB2.out.size))
        have hr2 := HR2.out w3 HB3.out
        have hxx : (x == x) = true := by simp
        have hyy : (y == y) = true := by simp
        clear hr1 hB3
        go_wp2_with fail
        refine hr2.mono ?_
        rintro e w4 ⟨rfl, hB4⟩
        have HB4 := Lib.hid (HB3.out.trans (hB4.mono HB3.out.size))
        have haw := HAW.out w4
        clear hr2 hB4
        cases x <;> cases y <;> (try cases q)
        all_goals first
          | (exact absurd (HQ.out rfl rfl) (by decide))
          | (go_wp2_with fail
             refine haw.mono ?_
             rintro e w5 ⟨rfl, hB5⟩
             go_wp2
             go_ret
             exact truly_of (HB4.out.trans (hB5.mono HB4.out.size)))

end Go.Proofs.Ytimlfiomoalieaa
