/- The document's own reading of a number (changeoverref01.Get). -/
import Derived.Test.YtpdblmicgpgiaaaGet
namespace Go.Proofs.Ytpdblmicgpgiaaa
open Go.RowKit

theorem pow_lt9 {k : Nat} (h : k ≤ 8) : 128 ^ k ≤ 128 ^ 8 := Nat.pow_le_pow_right (by omega) h

/-- A group is added. -/
theorem add_group {U acc k c : Nat} (hU : U = 128 ^ k) (ha : acc < 128 ^ k) (hk : k ≤ 8) : U * (c % 128) ≤ 9151314442816847872 ∧ acc + U * (c % 128) ≤ 9223372036854775807 := by
  have h8 := pow_lt9 hk
  have h1 : U * (c % 128) ≤ U * 127 := Nat.mul_le_mul_left _ (by omega)
  rw [← hU] at h8 ha
  omega

set_option maxRecDepth 4000 in
set_option maxHeartbeats 800000 in
theorem refGet_in (v : Value) (l : List UInt8) (p : Nat) (w : World) (hv : Reads w v l) (hp : p ≤ l.length) :
    Calls Try.prog 31 #[v, .int .i64 (p : Int)] w (Three w (getp l p)) := by
  obtain ⟨ao, cap, rfl⟩ := hv.shape
  have hl := hv.len
  obtain ⟨n, hn⟩ : ∃ n, n = l.length := ⟨_, rfl⟩
  rw [← hn]
  have hpn : p ≤ n := by omega
  have hnc : n ≤ cap := by omega
  have hc9 : cap ≤ 9223372036854775807 := by omega
  have HN := Lib.hid hn
  have hb1 : decide ((p : Int) < 0) = false := by simp
  have hb2 : decide (n < p) = false := by simp; omega
  have HV := Lib.hid hv
  clear hl hn hp hv
  go_enter Try.func31, Try.ntmps31
  go_wp2
  go_loop [9, 7, 8] (fun x y z => ∃ j acc U : Nat, x = .int .i64 (j : Int) ∧ y = .int .i64 (acc : Int) ∧ z = .int .i64 (U : Int) ∧ p ≤ j ∧ j ≤ n ∧ j ≤ p + 9 ∧ Hid (U = 128 ^ (min (j - p) 8)) ∧ Hid (acc < 128 ^ (j - p)) ∧ Hid (getv (j - p) acc (l.drop j) = getv 0 0 (l.drop p))) (fun x _ _ => n - (intOf x).toNat)
  case atStart => exact ⟨p, 0, 1, rfl, rfl, rfl, by omega, by omega, by omega, show 1 = 128 ^ (min (p - p) 8) by simp, show 0 < 128 ^ (p - p) by simp, by show getv (p - p) 0 _ = _; rw [Nat.sub_self]⟩
  case round =>
    obtain ⟨j, acc, U, rfl, rfl, rfl, hpj, hj, hj9, HU, HA, HE⟩ := hrel
    by_cases hlt : j < n
    · obtain ⟨b, off, rfl, hc⟩ := HV.out.place (by have := HN.out; omega)
      obtain ⟨c, hlc⟩ : ∃ c, l[j]? = some c := ⟨_, List.getElem?_eq_getElem (by have := HN.out; omega)⟩
      have hc := hc j c hlc
      have HLC := Lib.hid hlc; clear hlc
      have hc256 := c.toNat_lt
      by_cases h9 : j = p + 9
      · have HG : Hid (getp l p = (0, 0, 3)) := getp_err (e := 3) (by have := HN.out; omega) (by omega) (by rw [← HE.out, drop_at HLC.out, h9, Nat.add_sub_cancel_left, getv_nine])
        subst h9
        by_cases hz : c.toNat = 0
        all_goals
          go_wp2
          go_ret3
          exact ⟨three HG.out, rfl⟩
      · by_cases hz : p < j ∧ c.toNat = 0
        · obtain ⟨hz1, hz2⟩ := hz
          have HG : Hid (getp l p = (0, 0, 3)) := getp_err (e := 3) (by have := HN.out; omega) (by omega) (by rw [← HE.out, drop_at HLC.out, getv_zero (by omega) hz2])
          go_wp2
          go_ret3
          exact ⟨three HG.out, rfl⟩
        · have hz' : j - p = 0 ∨ 0 < c.toNat := by omega
          have hU : U = 128 ^ (j - p) := by rw [HU.out, show min (j - p) 8 = j - p by omega]
          obtain ⟨g1, g2⟩ := add_group (c := c.toNat) hU HA.out (by omega)
          obtain ⟨m, hm⟩ : ∃ m, m = U * (c.toNat % 128) := ⟨_, rfl⟩
          rw [← hm] at g1 g2
          have hm' : (U : Int) * ((c.toNat : Int) % 128) = (m : Int) := by rw [hm]; push_cast; rfl
          rw [hU] at hm
          have HM := Lib.hid hm; clear hm hz hU
          have z2 : decide (9 ≤ (j : Int) - (p : Int)) = false := by simp; omega
          have z3 : p < j → ((c.toNat : Int) == 0) = false := by intro; simp; omega
          by_cases h128 : c.toNat < 128
          · have HG : Hid (getp l p = (((acc + m : Nat) : Int), (j : Int) + 1, 0)) := by
              show _ = _
              rw [getp_ok (n := acc + m) (c := j - p + 1) (by have := HN.out; omega) (by rw [← HE.out, drop_at HLC.out, getv_last (by omega) hz' h128, HM.out, Nat.mod_eq_of_lt h128, Nat.mul_comm])]
              simp; omega
            rcases (show j = p ∨ p < j by omega) with rfl | hpj'
            · go_wp2
              go_ret3
              exact ⟨three (by rw [HG.out]; simp), rfl⟩
            · have z4 := z3 hpj'
              clear z3
              go_wp2
              go_ret3
              exact ⟨three (by rw [HG.out]; simp), rfl⟩
          · have HE2 : Hid (getv (j + 1 - p) (acc + m) (l.drop (j + 1)) = getv 0 0 (l.drop p)) := by
              show _ = _
              rw [← HE.out, drop_at HLC.out, getv_more (by omega) h128, HM.out, show c.toNat % 128 = c.toNat - 128 by omega, show j + 1 - p = j - p + 1 by omega, Nat.mul_comm (128 ^ (j - p))]
            have HA2 : Hid (acc + m < 128 ^ (j + 1 - p)) := by
              show _ < _
              rw [HM.out, show j + 1 - p = j - p + 1 by omega, Nat.mul_comm]
              exact acc_more HA.out (by omega)
            by_cases h8 : j < p + 8
            · have hUb : U ≤ 562949953421312 := by
                rw [HU.out]
                exact Nat.le_trans (Nat.pow_le_pow_right (by omega) (show min (j - p) 8 ≤ 7 by omega)) (by decide)
              have HU2 : Hid (U * 128 = 128 ^ (min (j + 1 - p) 8)) := by
                show _ = _
                rw [HU.out, show min (j + 1 - p) 8 = min (j - p) 8 + 1 by omega, Nat.pow_succ]
              rcases (show j = p ∨ p < j by omega) with rfl | hpj'
              · go_wp2
                go_round
                case rel => exact ⟨j + 1, acc + m, U * 128, by go_num, by go_num, by go_num, by omega, by omega, by omega, HU2, HA2, HE2⟩
                case measure => simp [intOf]; omega
              · have z4 := z3 hpj'
                clear z3
                go_wp2
                go_round
                case rel => exact ⟨j + 1, acc + m, U * 128, by go_num, by go_num, by go_num, by omega, by omega, by omega, HU2, HA2, HE2⟩
                case measure => simp [intOf]; omega
            · have HU2 : Hid (U = 128 ^ (min (j + 1 - p) 8)) := by
                show _ = _
                rw [HU.out, show min (j + 1 - p) 8 = min (j - p) 8 by omega]
              have z4 := z3 (by omega)
              clear z3
              go_wp2
              go_round
              case rel => exact ⟨j + 1, acc + m, U, by go_num, by go_num, rfl, by omega, by omega, by omega, HU2, HA2, HE2⟩
              case measure => simp [intOf]; omega
    · have HG : Hid (getp l p = (0, 0, 1)) := getp_err (e := 1) (by have := HN.out; omega) (by omega) (by rw [← HE.out, List.drop_eq_nil_of_le (by have := HN.out; omega)]; rfl)
      go_wp2
      go_ret3
      exact ⟨three HG.out, rfl⟩

set_option maxRecDepth 4000 in
set_option maxHeartbeats 800000 in
theorem refGet_out (v : Value) (l : List UInt8) (pl : Int) (w : World) (hv : Reads w v l) (h : pl < 0 ∨ (l.length : Int) < pl) :
    Calls Try.prog 31 #[v, .int .i64 pl] w (Three w (getp l pl)) := by
  obtain ⟨ao, cap, rfl⟩ := hv.shape
  have hr : getp l pl = (0, 0, 6) := by unfold getp; rw [if_pos h]
  rw [hr]
  obtain ⟨n, hn⟩ : ∃ n, n = l.length := ⟨_, rfl⟩
  rw [← hn] at h ⊢
  clear hr hn hv
  by_cases h1 : pl < 0
  · clear h
    go_enter Try.func31, Try.ntmps31
    go_wp2
    go_ret3
    exact ⟨rfl, rfl⟩
  · have h2 : (n : Int) < pl := by omega
    clear h
    go_enter Try.func31, Try.ntmps31
    go_wp2
    go_ret3
    exact ⟨rfl, rfl⟩

/-- Get, at any bytes and any place. -/
theorem refGet_any (v : Value) (l : List UInt8) (pl : Int) (w : World) (hv : Reads w v l) :
    Calls Try.prog 31 #[v, .int .i64 pl] w (Three w (getp l pl)) := by
  by_cases h : pl < 0 ∨ (l.length : Int) < pl
  · exact refGet_out v l pl w hv h
  · obtain ⟨p, rfl⟩ := Int.eq_ofNat_of_zero_le (show 0 ≤ pl by omega)
    exact refGet_in v l p w hv (by omega)

/-- Get, where the three results have names of their own. -/
theorem refGet_is (v : Value) (l : List UInt8) (pl : Int) (w : World) (a b c : Int) (hv : Reads w v l) (h : Hid (getp l pl = (a, b, c))) :
    Calls Try.prog 31 #[v, .int .i64 pl] w fun e w' => e = .returned (.tuple #[.int .i64 a, .int .i64 b, .int .i64 c]) ∧ w = w' := by
  have hg := refGet_any v l pl w hv
  rw [h.out] at hg
  exact hg
end Go.Proofs.Ytpdblmicgpgiaaa
