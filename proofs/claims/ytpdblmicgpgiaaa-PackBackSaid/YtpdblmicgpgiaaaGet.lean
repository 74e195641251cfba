/- varint.Get: the number at a place, and the place behind it. -/
import Derived.Test.YtpdblmicgpgiaaaRows
import Derived.Test.YtpdblmicgpgiaaaMath
import Derived.Test.YtpdblmicgpgiaaaKit
namespace Go.Proofs.Ytpdblmicgpgiaaa
open Go.RowKit

/-- What Get tells: the number, the place behind it, the error. -/
def getp (l : List UInt8) (pl : Int) : Int × Int × Int :=
  if pl < 0 ∨ (l.length : Int) < pl then (0, 0, 6) else
    let r := getv 0 0 (l.drop pl.toNat)
    if r.2.2 = 0 then (r.1, pl + r.2.1, 0) else (0, 0, r.2.2)

/-- The three results of Get. -/
def Three (w : World) (r : Int × Int × Int) (e : Ending) (w' : World) : Prop := e = .returned (.tuple #[.int .i64 r.1, .int .i64 r.2.1, .int .i64 r.2.2]) ∧ w = w'

theorem getp_ok {l : List UInt8} {p n c : Nat} (hp : p ≤ l.length) (h : getv 0 0 (l.drop p) = (n, c, 0)) : getp l p = ((n : Int), (p : Int) + (c : Int), 0) := by
  unfold getp
  rw [if_neg (by omega), Int.toNat_natCast, h]
  simp
theorem getp_err {l : List UInt8} {p e : Nat} (hp : p ≤ l.length) (he : e ≠ 0) (h : getv 0 0 (l.drop p) = (0, 0, e)) : getp l p = (0, 0, (e : Int)) := by
  unfold getp
  rw [if_neg (by omega), Int.toNat_natCast, h]
  simp [he]
theorem three {a b c : Int} {r : Int × Int × Int} (h : r = (a, b, c)) : Ending.returned (.tuple #[.int .i64 a, .int .i64 b, .int .i64 c]) = .returned (.tuple #[.int .i64 r.1, .int .i64 r.2.1, .int .i64 r.2.2]) := by rw [h]

set_option maxRecDepth 4000 in
set_option maxHeartbeats 800000 in
theorem get_in (v : Value) (l : List UInt8) (p : Nat) (w : World) (hv : Reads w v l) (hp : p < l.length) :
    Calls Try.prog 42 #[v, .int .i64 (p : Int)] w (Three w (getp l p)) := by
  obtain ⟨ao, cap, rfl⟩ := hv.shape
  have hl := hv.len
  obtain ⟨b, off, rfl, hc⟩ := hv.place (by omega)
  obtain ⟨n, hn⟩ : ∃ n, n = l.length := ⟨_, rfl⟩
  rw [← hn]
  have hpn : p < n := by omega
  have hnc : n ≤ cap := by omega
  have hc9 : cap ≤ 9223372036854775807 := by omega
  have hpc : ¬ cap = p := by omega
  have HN := Lib.hid hn
  have HC := Lib.hid hc
  have hb1 : decide ((p : Int) < 0) = false := by simp
  have hb2 : decide (n < p) = false := by simp; omega
  clear hl hn hc hp
  go_enter Try.func42, Try.ntmps42
  go_wp2
  go_step3
  go_wp2
  go_step3
  go_wp2
  go_loop [24, 7, 9] (fun x y z => z = .int .i64 1 ∧ ∃ k acc : Nat, x = .int .i64 (k : Int) ∧ y = .int .i64 (acc : Int) ∧ k ≤ n - p ∧ k ≤ 9 ∧ Hid (acc < 128 ^ k) ∧ Hid (getv k acc (l.drop (p + k)) = getv 0 0 (l.drop p))) (fun x _ _ => n - (intOf x).toNat)
  case atStart => exact ⟨rfl, 0, 0, rfl, rfl, by omega, by omega, show 0 < 128 ^ 0 by simp, rfl⟩
  case round =>
    obtain ⟨rfl, k, acc, rfl, rfl, hk, hk9, HA, HE⟩ := hrel
    by_cases hlt : k < n - p
    · obtain ⟨c, hlc⟩ : ∃ c, l[p + k]? = some c := ⟨_, List.getElem?_eq_getElem (by have := HN.out; omega)⟩
      have hc := HC.out (p + k) c hlc
      rw [← Nat.add_assoc] at hc
      have HLC := Lib.hid hlc; clear hlc
      have hc256 := c.toNat_lt
      by_cases h9 : k = 9
      · subst h9
        go_wp2
        go_ret3
        exact ⟨three (getp_err (e := 3) (by have := HN.out; omega) (by omega) (by rw [← HE.out, drop_at HLC.out, getv_nine])), rfl⟩
      · by_cases hz : 0 < k ∧ c.toNat = 0
        · obtain ⟨hz1, hz2⟩ := hz
          go_wp2
          go_ret3
          exact ⟨three (getp_err (e := 3) (by have := HN.out; omega) (by omega) (by rw [← HE.out, drop_at HLC.out, getv_zero hz1 hz2])), rfl⟩
        · by_cases h128 : c.toNat < 128
          · have hz' : k = 0 ∨ 0 < c.toNat := by omega
            have hor := or_group acc k c.toNat c.toNat rfl HA.out (by omega) h128
            obtain ⟨r, hr⟩ : ∃ r : Nat, r = acc + c.toNat * 128 ^ k := ⟨_, rfl⟩
            rw [← hr] at hor
            have HR := Lib.hid hr
            clear hz hr
            go_wp2
            all_goals
              go_ret3
              exact ⟨three (by rw [getp_ok (n := r) (c := k + 1) (by have := HN.out; omega) (by rw [← HE.out, drop_at HLC.out, getv_last h9 hz' h128, HR.out])]; simp; omega), rfl⟩
          · have hor := or_group acc k (c.toNat - 128) ((c.toNat : Int) - 128) (by omega) HA.out (by omega) (by omega)
            obtain ⟨r, hr⟩ : ∃ r : Nat, r = acc + (c.toNat - 128) * 128 ^ k := ⟨_, rfl⟩
            rw [← hr] at hor
            have HR := Lib.hid hr
            clear hz hr
            go_wp2
            all_goals
              go_round
              case rel =>
                refine ⟨rfl, k + 1, r, by go_num, by go_num, by omega, by omega, ?_, ?_⟩
                · show r < _; rw [HR.out]; exact acc_more HA.out (by omega)
                · show getv _ _ _ = _; rw [← HE.out, drop_at HLC.out, getv_more h9 h128, HR.out, Nat.add_assoc]
              case measure => simp [intOf]; omega
    · go_wp2
      go_ret3
      exact ⟨three (getp_err (e := 1) (by have := HN.out; omega) (by omega) (by rw [← HE.out, List.drop_eq_nil_of_le (by have := HN.out; omega)]; rfl)), rfl⟩

set_option maxRecDepth 4000 in
set_option maxHeartbeats 800000 in
theorem get_end (v : Value) (l : List UInt8) (w : World) (hv : Reads w v l) :
    Calls Try.prog 42 #[v, .int .i64 (l.length : Int)] w (Three w (getp l l.length)) := by
  obtain ⟨ao, cap, rfl⟩ := hv.shape
  have hl := hv.len
  have hr : getp l l.length = (0, 0, 1) := getp_err (e := 1) (Nat.le_refl _) (by omega) (by rw [List.drop_eq_nil_of_le (Nat.le_refl _)]; rfl)
  rw [hr]
  obtain ⟨n, hn⟩ : ∃ n, n = l.length := ⟨_, rfl⟩
  rw [← hn]
  have hnc : n ≤ cap := by omega
  have hc9 : cap ≤ 9223372036854775807 := by omega
  have hb1 : decide ((n : Int) < 0) = false := by simp
  have hnil := hl.2.2.2
  clear hl hr hn hv
  cases ao with
  | none =>
    obtain rfl : cap = 0 := hnil rfl
    obtain rfl : n = 0 := by omega
    go_enter Try.func42, Try.ntmps42
    go_wp2
    go_step3
    go_wp2
    go_step3
    go_wp2
    refine wp_loop_rounds 1 ?_
    rw [rounds_succ]
    go_wp2
    go_ret3
    exact ⟨rfl, rfl⟩
  | some x =>
    by_cases hcn : cap = n
    all_goals
      go_enter Try.func42, Try.ntmps42
      go_wp2
      go_step3
      go_wp2
      go_step3
      go_wp2
      refine wp_loop_rounds 1 ?_
      rw [rounds_succ]
      go_wp2
      go_ret3
      exact ⟨rfl, rfl⟩

set_option maxRecDepth 4000 in
set_option maxHeartbeats 800000 in
theorem get_out (v : Value) (l : List UInt8) (pl : Int) (w : World) (hv : Reads w v l) (h : pl < 0 ∨ (l.length : Int) < pl) :
    Calls Try.prog 42 #[v, .int .i64 pl] w (Three w (getp l pl)) := by
  obtain ⟨ao, cap, rfl⟩ := hv.shape
  have hr : getp l pl = (0, 0, 6) := by unfold getp; rw [if_pos h]
  rw [hr]
  obtain ⟨n, hn⟩ : ∃ n, n = l.length := ⟨_, rfl⟩
  rw [← hn] at h ⊢
  clear hr hn hv
  by_cases h1 : pl < 0
  · clear h
    go_enter Try.func42, Try.ntmps42
    go_wp2
    go_step3
    go_wp2
    go_ret3
    exact ⟨rfl, rfl⟩
  · have h2 : (n : Int) < pl := by omega
    clear h
    go_enter Try.func42, Try.ntmps42
    go_wp2
    go_step3
    go_wp2
    go_ret3
    exact ⟨rfl, rfl⟩

/-- Get, at any bytes and any place. -/
theorem get_any (v : Value) (l : List UInt8) (pl : Int) (w : World) (hv : Reads w v l) :
    Calls Try.prog 42 #[v, .int .i64 pl] w (Three w (getp l pl)) := by
  by_cases h : pl < 0 ∨ (l.length : Int) < pl
  · exact get_out v l pl w hv h
  · obtain ⟨p, rfl⟩ := Int.eq_ofNat_of_zero_le (show 0 ≤ pl by omega)
    by_cases hp : p = l.length
    · subst hp; exact get_end v l w hv
    · exact get_in v l p w hv (by omega)

/-- Get, where the three results have names of their own. -/
theorem get_is (v : Value) (l : List UInt8) (pl : Int) (w : World) (a b c : Int) (hv : Reads w v l) (h : Hid (getp l pl = (a, b, c))) :
    Calls Try.prog 42 #[v, .int .i64 pl] w fun e w' => e = .returned (.tuple #[.int .i64 a, .int .i64 b, .int .i64 c]) ∧ w = w' := by
  have hg := get_any v l pl w hv
  rw [h.out] at hg
  exact hg
end Go.Proofs.Ytpdblmicgpgiaaa
