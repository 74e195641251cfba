/- Several texts of mine in one: EnRef EnRefC. -/
import Derived.Test.YteboceekcmchkaaGreatDoorPGMa
import Derived.Test.YteboceekcmchkaaGreatDoorGCr
import Derived.Deep.QuietTactic
import Derived.BigQuiet
import Derived.Test.YteboceekcmchkaaGreatDoorGMb
namespace Go.Proofs.YteboceekcmchkaaGreatDoor
open Go.RowKit
set_option maxHeartbeats 3200000
set_option maxRecDepth 4000
theorem refFindE_any (v : Value) (l : List En.Ent) (x : Int) (w : World) (hv : ReadsE w v l) (hp : En.Asc l) :
 Calls Tryz.prog 77 #[v, .int .i64 x] w (Looks w (.int .i64 (En.pos l x))) := by
 obtain ⟨ao, cap, rfl, hc1, hc2⟩ := ReadsE.shape hv
 have HP := Lib.hid (fun h => ReadsE.places hv h)
 have HA := Lib.hid hp
 obtain ⟨n, hnn⟩ : ∃ n, n = l.length := ⟨_, rfl⟩
 rw [← hnn] at hc1 ⊢
 have HN := Lib.hid hnn
 obtain ⟨r, hr⟩ : ∃ r, r = En.pos l x := ⟨_, rfl⟩
 rw [← hr]
 have HR := Lib.hid hr
 have hnb : n < 9223372036854775808 := by omega
 clear hv hnn hr hp
 go_enter Tryz.func77, Tryz.ntmps77
 go_wp2
 go_loopw [5] (fun i wr => ∃ k : Nat, i = .int .i64 (k : Int) ∧ k ≤ n ∧ Hid (∀ (j : Nat) (e : En.Ent), j < k → l[j]? = some e → e.index ≠ x) ∧ Below w.heap.size w wr) (fun i _ => n - (intOf i).toNat)
 case atStart => exact ⟨0, rfl, by omega, fun j e hj => by omega, Below.refl _ _⟩
 case round =>
  obtain ⟨k, rfl, hk, HI, hB⟩ := hrel
  have HB := Lib.hid hB
  clear hB
  by_cases hlt : k < n
  ·obtain ⟨e, he⟩ : ∃ e, l[k]? = some e := ⟨_, List.getElem?_eq_getElem (by have := HN.out; omega)⟩
   obtain ⟨g, off, rfl, hgl, hcell⟩ := HP.out (by have := HN.out; omega)
   have c0 := (hcell wr HB.out k e he).c0
   have HE := Lib.hid he
   clear hcell he
   by_cases hx : e.index = x
   ·have HZ : Hid (r = (k : Int)) := by
     obtain ⟨h1, h2⟩ := En.at_found HA.out HE.out
     show _ = _
     rw [HR.out, ← hx, En.pos, if_pos h1, h2]
    have hx1 : (e.index == x) = true := by simpa using hx
    clear hx
    go_wp2
    go_ret
    exact ⟨by rw [HZ.out]; rfl, HB.out⟩
   ·have HZ : Hid (∀ (j : Nat) (e : En.Ent), j < k + 1 → l[j]? = some e → e.index ≠ x) := by
     intro j d hj hd
     by_cases hjk : j = k
     ·subst hjk; rw [HE.out] at hd; cases hd; exact hx
     ·exact HI.out j d (by omega) hd
    have hx1 : (e.index == x) = false := by simpa using hx
    clear hx
    go_wp2
    go_roundw
    case rel => exact ⟨k + 1, by go_num, by omega, HZ.out, HB.out⟩
    case measure => simp [intOf]; omega
  ·have HZ : Hid (r = -1) := by
    have h := En.not_found (l := l) (x := x) fun j e hj => HI.out j e (by have := HN.out; have := (List.getElem?_eq_some_iff.1 hj).1; omega) hj
    show _ = _
    rw [HR.out, En.pos, h]; rfl
   go_wp2
   go_ret
   exact ⟨by rw [HZ.out]; rfl, HB.out⟩
theorem refCheckE_any (v : Value) (l : List En.Ent) (w : World) (hv : ReadsE w v l) (hs : ∀ e ∈ l, e.cmd.Short 140737488355328) :
 Calls Tryz.prog 28 #[v] w (Looks w (.int .i64 (En.check 0 l))) := by
 obtain ⟨ao, cap, rfl, hc1, hc2⟩ := ReadsE.shape hv
 have HP := Lib.hid (fun h => ReadsE.places hv h)
 have HS := Lib.hid hs
 obtain ⟨n, hnn⟩ : ∃ n, n = l.length := ⟨_, rfl⟩
 rw [← hnn] at hc1 ⊢
 have HN := Lib.hid hnn
 obtain ⟨r, hr⟩ : ∃ r, r = En.check 0 l := ⟨_, rfl⟩
 rw [← hr]
 have HR := Lib.hid hr
 have hnb : n < 9223372036854775808 := by omega
 clear hv hnn hr hs
 go_enter Tryz.func28, Tryz.ntmps28
 go_wp2
 go_loopw [3] (fun i wr => ∃ (k : Nat) (b : Int), i = .int .i64 (k : Int) ∧ k ≤ n ∧ Hid (r = En.check b (l.drop k)) ∧ Hid ((k = 0 ∧ b = 0) ∨ ∃ q p, k = q + 1 ∧ l[q]? = some p ∧ b = p.index) ∧ Below w.heap.size w wr) (fun i _ => n - (intOf i).toNat)
 case atStart => exact ⟨0, 0, rfl, by omega, HR.out, .inl ⟨rfl, rfl⟩, Below.refl _ _⟩
 case round =>
  obtain ⟨k, b, rfl, hk, HI, HK, hB⟩ := hrel
  have HB := Lib.hid hB
  clear hB
  by_cases hlt : k < n
  ·obtain ⟨e, he⟩ : ∃ e, l[k]? = some e := ⟨_, List.getElem?_eq_getElem (by have := HN.out; omega)⟩
   obtain ⟨g, off, rfl, hgl, hcell⟩ := HP.out (by have := HN.out; omega)
   have HCELL := Lib.hid hcell
   obtain ⟨c0, c1, c2, _, _, _, _, _, _, _⟩ := hcell wr HB.out k e he
   have HE := Lib.hid he
   have HSE := Lib.hid (HS.out e (List.mem_of_getElem? he))
   obtain ⟨t, ht⟩ : ∃ t, t = Bl.may e.bal := ⟨_, rfl⟩
   have hmay := brefMay_any e.bal wr
   rw [← ht] at hmay
   obtain ⟨y, hy⟩ : ∃ y, y = Cm.check e.cmd := ⟨_, rfl⟩
   have HCHK := Lib.hid (fun W => refCheck_any e.cmd W HSE.out)
   rw [← hy] at HCHK
   have hst := HI.out.trans (En.check_step he b)
   unfold En.one En.ranged at hst
   rw [← ht, ← hy] at hst
   clear hcell he ht hy
   by_cases h1 : e.index < 1
   ·rw [decide_eq_false (show ¬ 1 ≤ e.index by omega)] at hst
    have HZ : Hid (r = 6) := hst
    clear hst hmay
    go_wp2
    go_ret
    exact ⟨by rw [HZ.out]; rfl, HB.out⟩
   ·rw [decide_eq_true (show 1 ≤ e.index by omega)] at hst
    by_cases h2 : 4294967296 < e.index
    ·rw [decide_eq_false (show ¬ e.index ≤ 4294967296 by omega)] at hst
     have HZ : Hid (r = 6) := hst
     clear hst hmay
     go_wp2
     go_ret
     exact ⟨by rw [HZ.out]; rfl, HB.out⟩
    ·rw [decide_eq_true (show e.index ≤ 4294967296 by omega)] at hst
     cases t with
     | false =>
      have HZ : Hid (r = 6) := hst
      clear hst
      go_wp2_with (go_at_call 27; refine hmay.mono ?_; rintro e' w2 ⟨rfl, hB2⟩)
      go_ret
      exact ⟨by rw [HZ.out]; rfl, HB.out.trans (hB2.mono HB.out.size)⟩
     | true =>
      have HST : Hid (r = if (if y ≠ 0 then y else if e.index ≤ b then 12 else 0) ≠ 0 then (if y ≠ 0 then y else if e.index ≤ b then 12 else 0) else En.check e.index (l.drop (k + 1))) := hst
      clear hst
      go_wp2_with (go_at_call 27; refine hmay.mono ?_; rintro e' w2 ⟨rfl, hB2⟩; have HB2 := Lib.hid (HB.out.trans (hB2.mono HB.out.size)); obtain ⟨q0, q1, q2, q3, q4, q5, q6, q7, q8, q9⟩ := HCELL.out w2 HB2.out k e HE.out; clear hB2 c0 c1 c2)
      refine (HCHK.out _).mono ?_
      rintro e' w3 ⟨rfl, hB3⟩
      have HB3 := Lib.hid (HB2.out.trans (hB3.mono HB2.out.size))
      clear hB3 q0 q1 q2 q3 q4 q5 q6 q7 q8 q9
      by_cases hy : y = 0
      ·subst hy
       have s0 := (HCELL.out w3 HB3.out k e HE.out).c0
       rcases HK.out with ⟨hk0, hb0⟩ | ⟨q, p, hkq, hpq, hbp⟩
       ·have HZ : Hid (r = En.check e.index (l.drop (k + 1))) := by show _ = _; rw [HST.out, hb0, if_neg (show ¬ (0 : Int) ≠ 0 by simp), if_neg (show ¬ e.index ≤ 0 by omega), if_neg (by simp)]
        have hg : decide (0 < k) = false := decide_eq_false (by omega)
        clear hk0 hb0
        go_wp2
        have k0 := fun p : Behind w3 => (HCELL.out p.world (HB3.out.trans (p.below.mono HB3.out.size)) k e HE.out).c0
        refine wp_region_behind (by kernel_rfl) (by kernel_rfl) ?_
        repeat (go_big_quiet_step (fail))
        refine wpQuiet_nil ?_
        rintro w5 ⟨⟨w5, hB5⟩, rfl⟩
        (try dsimp only)
        clear k0
        all_goals
         go_wp2
         go_roundw
         case rel => exact ⟨k + 1, e.index, by go_num, by omega, HZ.out, .inr ⟨k, e, rfl, HE.out, rfl⟩, HB3.out.trans (hB5.mono HB3.out.size)⟩
         case measure => simp [intOf]; omega
       ·have hkq1 : (k : Int) - 1 = (q : Int) := by omega
        have hqn : q < n := by omega
        have d0 := (HCELL.out w3 HB3.out q p hpq).c0
        have hg : decide (0 < k) = true := decide_eq_true (by omega)
        have HPQ := Lib.hid hpq
        clear hpq
        rw [hbp] at HST
        by_cases hb : e.index ≤ p.index
        ·have HZ : Hid (r = 12) := by show _ = _; rw [HST.out, if_neg (show ¬ (0 : Int) ≠ 0 by simp), if_pos hb]; rfl
         have hx1 : decide (e.index ≤ p.index) = true := decide_eq_true hb
         clear hb hbp hkq
         go_wp2
         have k0 := fun p : Behind w3 => (HCELL.out p.world (HB3.out.trans (p.below.mono HB3.out.size)) k e HE.out).c0
         have k1 := fun p' : Behind w3 => (HCELL.out p'.world (HB3.out.trans (p'.below.mono HB3.out.size)) q p HPQ.out).c0
         refine wp_region_behind (by kernel_rfl) (by kernel_rfl) ?_
         repeat (go_big_quiet_step (fail))
         refine wpQuiet_nil ?_
         rintro w5 ⟨⟨w5, hB5⟩, rfl⟩
         (try dsimp only)
         clear k0 k1
         all_goals
          go_wp2
          go_ret
          exact ⟨by rw [HZ.out]; rfl, HB3.out.trans (hB5.mono HB3.out.size)⟩
        ·have HZ : Hid (r = En.check e.index (l.drop (k + 1))) := by show _ = _; rw [HST.out, if_neg (show ¬ (0 : Int) ≠ 0 by simp), if_neg hb, if_neg (by simp)]
         have hx1 : decide (e.index ≤ p.index) = false := decide_eq_false hb
         clear hb hbp hkq
         go_wp2
         have k0 := fun p : Behind w3 => (HCELL.out p.world (HB3.out.trans (p.below.mono HB3.out.size)) k e HE.out).c0
         have k1 := fun p' : Behind w3 => (HCELL.out p'.world (HB3.out.trans (p'.below.mono HB3.out.size)) q p HPQ.out).c0
         refine wp_region_behind (by kernel_rfl) (by kernel_rfl) ?_
         repeat (go_big_quiet_step (fail))
         refine wpQuiet_nil ?_
         rintro w5 ⟨⟨w5, hB5⟩, rfl⟩
         (try dsimp only)
         clear k0 k1
         all_goals
          go_wp2
          go_roundw
          case rel => exact ⟨k + 1, e.index, by go_num, by omega, HZ.out, .inr ⟨k, e, rfl, HE.out, rfl⟩, HB3.out.trans (hB5.mono HB3.out.size)⟩
          case measure => simp [intOf]; omega
      ·have hne : (y != 0) = true := by simpa using hy
       have HZ : Hid (r = y) := by show _ = _; rw [HST.out, if_pos hy, if_pos hy]
       go_wp2
       go_ret
       exact ⟨by rw [HZ.out]; rfl, HB3.out⟩
  ·have HZ : Hid (r = 0) := by show _ = _; rw [HI.out, List.drop_of_length_le (by have := HN.out; omega)]; rfl
   go_wp2
   go_ret
   exact ⟨by rw [HZ.out]; rfl, HB.out⟩
def En.long (e : En.Ent) : Bool := decide (200 < e.cmd.key.length) || (decide (200 < e.cmd.val.length) || decide (200 < e.cmd.old.length))
def En.large (l : List En.Ent) : Bool := (l.take 40).any En.long || decide (40 < l.length)
theorem En.large_yes {l : List En.Ent} {k : Nat} {e : En.Ent} (he : l[k]? = some e) (hk : k < 40) (h : En.long e = true) : En.large l = true := by
 unfold En.large
 rw [show (l.take 40).any En.long = true from List.any_eq_true.2 ⟨e, List.mem_of_getElem? (by rw [List.getElem?_take, if_pos hk]; exact he), h⟩]
 rfl
theorem En.large_no {l : List En.Ent} (h : ∀ (k : Nat) (e : En.Ent), k < 40 → l[k]? = some e → En.long e = false) : En.large l = decide (40 < l.length) := by
 unfold En.large
 rw [show (l.take 40).any En.long = false from List.any_eq_false.2 fun e he => by
  obtain ⟨k, hk⟩ := List.getElem?_of_mem he
  rw [List.getElem?_take] at hk
  split at hk
  ·rename_i h40; rw [h k e h40 hk]; simp
  ·cases hk]
 rfl
theorem En.small {l : List En.Ent} (h : En.large l = false) : l.length ≤ 40 ∧ ∀ e ∈ l, e.cmd.Short 200 := by
 unfold En.large at h
 rw [Bool.or_eq_false_iff] at h
 have h40 : l.length ≤ 40 := by have := of_decide_eq_false h.2; omega
 refine ⟨h40, fun e he => ?_⟩
 have := List.any_eq_false.1 h.1 e (by rw [List.take_of_length_le h40]; exact he)
 unfold En.long at this
 simp at this
 exact ⟨this.1, this.2.2, this.2.1⟩
theorem largeE_any (v : Value) (l : List En.Ent) (w : World) (hv : ReadsE w v l) (hs : ∀ e ∈ l, e.cmd.Short 9223372036854775807) :
 Calls Tryz.prog 21 #[v] w (Looks w (.bool (En.large l))) := by
 obtain ⟨ao, cap, rfl, hc1, hc2⟩ := ReadsE.shape hv
 have HP := Lib.hid (fun h => ReadsE.places hv h)
 have HS := Lib.hid hs
 obtain ⟨n, hnn⟩ : ∃ n, n = l.length := ⟨_, rfl⟩
 rw [← hnn] at hc1 ⊢
 have HN := Lib.hid hnn
 obtain ⟨r, hr⟩ : ∃ r, r = En.large l := ⟨_, rfl⟩
 rw [← hr]
 have HR := Lib.hid hr
 have hnb : n < 9223372036854775808 := by omega
 clear hv hnn hr hs
 go_enter Tryz.func21, Tryz.ntmps21
 go_wp2
 go_loopw [3] (fun i wr => ∃ k : Nat, i = .int .i64 (k : Int) ∧ k ≤ n ∧ k ≤ 40 ∧ Hid (∀ (j : Nat) (e : En.Ent), j < k → l[j]? = some e → En.long e = false) ∧ Below w.heap.size w wr) (fun i _ => 40 - (intOf i).toNat)
 case atStart => exact ⟨0, rfl, by omega, by omega, fun j e hj => by omega, Below.refl _ _⟩
 case round =>
  obtain ⟨k, rfl, hk, hk40, HI, hB⟩ := hrel
  have HB := Lib.hid hB
  clear hB
  by_cases hlt : k < n
  ·by_cases hlt40 : k < 40
   ·obtain ⟨e, he⟩ : ∃ e, l[k]? = some e := ⟨_, List.getElem?_eq_getElem (by have := HN.out; omega)⟩
    obtain ⟨g, off, rfl, hgl, hcell⟩ := HP.out (by have := HN.out; omega)
    obtain ⟨_, _, _, _, _, _, c6, c7, c8, _⟩ := hcell wr HB.out k e he
    have HE := Lib.hid he
    have hse := HS.out e (List.mem_of_getElem? he)
    have k1 := str_size e.cmd.key; have k2 := str_size e.cmd.val; have k3 := str_size e.cmd.old
    obtain ⟨x1, hx1⟩ : ∃ x, x = e.cmd.key.length := ⟨_, rfl⟩
    obtain ⟨x2, hx2⟩ : ∃ x, x = e.cmd.val.length := ⟨_, rfl⟩
    obtain ⟨x3, hx3⟩ : ∃ x, x = e.cmd.old.length := ⟨_, rfl⟩
    have HL : Hid (En.long e = (decide (200 < x1) || (decide (200 < x2) || decide (200 < x3)))) := by show _ = _; rw [En.long, hx1, hx2, hx3]
    rw [← hx1] at k1
    rw [← hx2] at k2
    rw [← hx3] at k3
    have z1 : x1 ≤ 9223372036854775807 := hx1 ▸ hse.1
    have z2 : x2 ≤ 9223372036854775807 := hx2 ▸ hse.2.2
    have z3 : x3 ≤ 9223372036854775807 := hx3 ▸ hse.2.1
    clear hcell he hse hx1 hx2 hx3
    by_cases h1 : 200 < x1
    ·have HZ : Hid (r = true) := by show _ = _; rw [HR.out]; exact En.large_yes HE.out hlt40 (by rw [HL.out]; simp [h1])
     have d1 : decide ((200 : Int) < (x1 : Int)) = true := by simp; omega
     go_wp2
     go_ret
     exact ⟨by rw [HZ.out]; rfl, HB.out⟩
    ·have d1 : decide ((200 : Int) < (x1 : Int)) = false := by simp; omega
     by_cases h2 : 200 < x2
     ·have HZ : Hid (r = true) := by show _ = _; rw [HR.out]; exact En.large_yes HE.out hlt40 (by rw [HL.out]; simp [h2])
      have d2 : decide ((200 : Int) < (x2 : Int)) = true := by simp; omega
      go_wp2
      go_ret
      exact ⟨by rw [HZ.out]; rfl, HB.out⟩
     ·have d2 : decide ((200 : Int) < (x2 : Int)) = false := by simp; omega
      by_cases h3 : 200 < x3
      ·have HZ : Hid (r = true) := by show _ = _; rw [HR.out]; exact En.large_yes HE.out hlt40 (by rw [HL.out]; simp [h3])
       have d3 : decide ((200 : Int) < (x3 : Int)) = true := by simp; omega
       go_wp2
       go_ret
       exact ⟨by rw [HZ.out]; rfl, HB.out⟩
      ·have d3 : decide ((200 : Int) < (x3 : Int)) = false := by simp; omega
       have HZ : Hid (∀ (j : Nat) (e : En.Ent), j < k + 1 → l[j]? = some e → En.long e = false) := by
        intro j d hj hd
        by_cases hjk : j = k
        ·subst hjk; rw [HE.out] at hd; cases hd; rw [HL.out]; simp [h1, h2, h3]
        ·exact HI.out j d (by omega) hd
       go_wp2
       go_roundw
       case rel => exact ⟨k + 1, by go_num, by omega, by omega, HZ.out, HB.out⟩
       case measure => simp [intOf]; omega
   ·obtain rfl : k = 40 := by omega
    have HZ : Hid (r = true) := by
     show _ = _
     rw [HR.out, En.large_no HI.out]
     exact decide_eq_true (by rw [← HN.out]; exact hlt)
    have d1 : decide ((40 : Int) < (n : Int)) = true := by simp; omega
    go_wp2
    go_ret
    exact ⟨by rw [HZ.out]; rfl, HB.out⟩
  ·have HZ : Hid (r = decide ((40 : Int) < (n : Int))) := by
    show _ = _
    rw [HR.out, En.large_no fun j e h40 he => HI.out j e (by have := HN.out; have := (List.getElem?_eq_some_iff.1 he).1; omega) he, ← HN.out]
    exact decide_eq_decide.2 (by omega)
   have d1 : decide ((40 : Int) < (n : Int)) = false := by simp; omega
   go_wp2
   go_ret
   exact ⟨by rw [HZ.out, d1]; rfl, HB.out⟩
theorem sameE_any (v u : Value) (l m : List En.Ent) (w : World) (hv : ReadsE w v l) (hu : ReadsE w u m) :
 Calls Tryz.prog 40 #[v, u] w (Looks w (.bool (decide (l = m)))) := by
 obtain ⟨ao, cap, rfl, hc1, hc2⟩ := ReadsE.shape hv
 obtain ⟨bo, bcap, rfl, hd1, hd2⟩ := ReadsE.shape hu
 have HP := Lib.hid (fun h => ReadsE.places hv h)
 have HQ := Lib.hid (fun h => ReadsE.places hu h)
 obtain ⟨r, hr⟩ : ∃ r, r = decide (l = m) := ⟨_, rfl⟩
 rw [← hr]
 have HR := Lib.hid hr
 obtain ⟨n, hnn⟩ : ∃ n, n = l.length := ⟨_, rfl⟩
 obtain ⟨p, hpp⟩ : ∃ p, p = m.length := ⟨_, rfl⟩
 rw [← hnn] at hc1 ⊢
 rw [← hpp] at hd1 ⊢
 have HN := Lib.hid hnn
 have HM := Lib.hid hpp
 have hnb : n < 9223372036854775808 := by omega
 have hpb : p < 9223372036854775808 := by omega
 clear hv hu hnn hpp hr
 by_cases hnp : n = p
 ·subst hnp
  have hne : ((n : Int) != (n : Int)) = false := by simp
  go_enter Tryz.func40, Tryz.ntmps40
  go_wp2
  go_loopw [5] (fun i wr => ∃ k : Nat, i = .int .i64 (k : Int) ∧ k ≤ n ∧ Hid (l.take k = m.take k) ∧ Below w.heap.size w wr) (fun i _ => n - (intOf i).toNat)
  case atStart => exact ⟨0, rfl, by omega, by show _ = _; simp, Below.refl _ _⟩
  case round =>
   obtain ⟨k, rfl, hk, HI, hB⟩ := hrel
   have HB := Lib.hid hB
   clear hB
   by_cases hlt : k < n
   ·obtain ⟨a, ha⟩ : ∃ e, l[k]? = some e := ⟨_, List.getElem?_eq_getElem (by have := HN.out; omega)⟩
    obtain ⟨b, hb⟩ : ∃ e, m[k]? = some e := ⟨_, List.getElem?_eq_getElem (by have := HM.out; omega)⟩
    obtain ⟨g, off, rfl, hgl, hcell⟩ := HP.out (by have := HN.out; omega)
    obtain ⟨h, oof, rfl, hhl, hdell⟩ := HQ.out (by have := HM.out; omega)
    obtain ⟨c0, c1, c2, c3, c4, c5, c6, c7, c8, c9⟩ := hcell wr HB.out k a ha
    obtain ⟨d0, d1, d2, d3, d4, d5, d6, d7, d8, d9⟩ := hdell wr HB.out k b hb
    have HA := Lib.hid ha; have HBB := Lib.hid hb
    have hgd := guard_ent
    have hneq := fun W => run_neq_ent W a b
    obtain ⟨t, ht⟩ : ∃ t, t = decide (a = b) := ⟨_, rfl⟩
    rw [← ht] at hneq
    have HT := Lib.hid ht
    dsimp only [En.cells] at hneq
    clear hcell hdell ha hb ht
    cases t with
    | true =>
     have HZ : Hid (l.take (k + 1) = m.take (k + 1)) := by
      show _ = _
      rw [List.take_add_one, List.take_add_one, HA.out, HBB.out, HI.out, of_decide_eq_true HT.out.symm]
     simp only [Bool.not_true] at hneq
     go_wp2
     go_quiet (fail)
     all_goals
      go_wp2
      go_roundw
      case rel => exact ⟨k + 1, by go_num, by omega, HZ.out, HB.out.trans ((drawn wr _).mono HB.out.size)⟩
      case measure => simp [intOf]; omega
    | false =>
     have HZ : Hid (r = false) := by
      show _ = _
      rw [HR.out]
      refine decide_eq_false fun h => ?_
      have h1 := HA.out
      rw [h, HBB.out] at h1
      exact of_decide_eq_false HT.out.symm (Option.some.inj h1).symm
     simp only [Bool.not_false] at hneq
     go_wp2
     go_quiet (fail)
     all_goals
      go_wp2
      go_ret
      exact ⟨by rw [HZ.out]; rfl, HB.out.trans ((drawn wr _).mono HB.out.size)⟩
   ·have HZ : Hid (r = true) := by
     show _ = _
     rw [HR.out]
     refine decide_eq_true ?_
     have := HI.out
     rwa [List.take_of_length_le (by have := HN.out; omega), List.take_of_length_le (by have := HM.out; omega)] at this
    go_wp2
    go_ret
    exact ⟨by rw [HZ.out]; rfl, HB.out⟩
 ·have hne : ((n : Int) != (p : Int)) = true := by simp; omega
  have HZ : Hid (r = false) := by
   show _ = _
   rw [HR.out]
   exact decide_eq_false fun h => hnp (by rw [HN.out, HM.out, h])
  go_enter Tryz.func40, Tryz.ntmps40
  go_wp2
  go_ret
  exact ⟨by rw [HZ.out]; rfl, Below.refl _ _⟩
end Go.Proofs.YteboceekcmchkaaGreatDoor
