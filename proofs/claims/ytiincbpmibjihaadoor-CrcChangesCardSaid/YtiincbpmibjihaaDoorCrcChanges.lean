/- The law CrcChanges, walked. -/
import Derived.Test.YtiincbpmibjihaaDoorCrcLaws
import Derived.Test.YtiincbpmibjihaaDoorCrcChg
import Derived.RegionTactic
import Derived.ChangeAlike
namespace Go.Proofs.YtiincbpmibjihaaDoor
open Go.RowKit

set_option maxRecDepth 4000 in
set_option maxHeartbeats 1600000 in
theorem crcChanges_in (v : Value) (l : List UInt8) (p : Nat) (x0 x1 x2 x3 : UInt8) (w : World) (hv : Reads w v l) (hT : CrcTab w) (hl : l.length ≤ 2000) (hp : p < l.length) :
    Calls Tryd.prog 5 #[v, .int .i64 (p : Int), .agg #[.int .u8 (x0.toNat : Int), .int .u8 (x1.toNat : Int), .int .u8 (x2.toNat : Int), .int .u8 (x3.toNat : Int)]] w (Truly w) := by
  obtain ⟨ao, cap, rfl⟩ := hv.shape
  obtain ⟨_, hl1, hl2, _⟩ := hv.len
  obtain ⟨bx, hbx⟩ : ∃ bx : Array Value, bx = #[.int .u8 (x0.toNat : Int), .int .u8 (x1.toNat : Int), .int .u8 (x2.toNat : Int), .int .u8 (x3.toNat : Int)] := ⟨_, rfl⟩
  have hcb : ∀ j, j < 4 → bx[j]? = some (.int .u8 (([x0, x1, x2, x3].getD j 0).toNat : Int)) := by
    intro j hj
    rw [hbx]
    match j, hj with
    | 0, _ => rfl
    | 1, _ => rfl
    | 2, _ => rfl
    | 3, _ => rfl
  have HB := Lib.hid hcb
  have hsz : bx.size = 4 := by rw [hbx]; rfl
  rw [← hbx]
  clear hbx hcb
  have hW : Below w.heap.size w (w.alloc (.cells bx 30)) := (Below.refl _ _).alloc (Nat.le_refl _) _
  have hv0 := hv.below (hW.alloc (by simp) (.cells #[] 5))
  go_enter Tryd.func5, Tryd.ntmps5
  go_wp2_with (at_builtin; refine append_bytes rfl (.tmp 24) (.tmp 25) 22 5 rfl Tryd.underlying22 info_u8 (w.heap.size + 1) [] l (.slice (some ⟨w.heap.size + 1, 0, none⟩) 0 0) (.slice ao l.length cap) rfl rfl (Owns.lit _ _ _ _ (by simp) (by omega)) hv0 (by simp; omega) (w.alloc (.cells bx 30)) ((Below.refl _ _).alloc (by simp) _) (by simp) ?_; intro v1 w1 ho1 hb1 _; rw [List.nil_append] at ho1)
  obtain ⟨g, cap1, rfl, hg, hgl⟩ := ho1.form (by omega)
  go_loopw [8, 9] (fun o i wr => ∃ (k : Nat) (b : Bool) (cur : List UInt8), k ≤ 4 ∧ p + k ≤ l.length ∧ i = .int .i64 (k : Int) ∧ o = .bool b ∧ Owns wr (w.heap.size + 1) 5 (.slice (some ⟨g, 0, none⟩) l.length cap1) cur ∧ Below (w.heap.size + 1) (w.alloc (.cells bx 30)) wr ∧ Hid (Crc.Chg l cur p k [x0, x1, x2, x3] b)) (fun _ i _ => 4 - (intOf i).toNat)
  case atStart => exact ⟨0, false, l, by omega, by omega, rfl, rfl, ho1, hb1, Crc.Chg.zero _ _ _⟩
  case round =>
    clear ho1 hb1 hgl
    obtain ⟨k, b, cur, hk, hpk, rfl, rfl, ho, hb, HC⟩ := hrel
    have hcl := Lib.hid HC.out.len
    by_cases hgo : k < 4 ∧ p + k < l.length
    · obtain ⟨hk4, hpl⟩ := hgo
      obtain ⟨c, hc⟩ : ∃ c, cur[p + k]? = some c := ⟨_, List.getElem?_eq_getElem (by have := hcl.out; omega)⟩
      have hc1 := ho.cell (p + k) c hc
      have hc2 := ho.free (p + k)
      obtain ⟨x, hx⟩ : ∃ x, x = [x0, x1, x2, x3].getD k 0 := ⟨_, rfl⟩
      have hx1 : wr.cell? ⟨w.heap.size, k, none⟩ = some (.int .u8 (x.toNat : Int)) := by
        rw [hb.cell (p := ⟨w.heap.size, k, none⟩) (Nat.lt_succ_self _), World.cell?_alloc_mark, HB.out k hk4, ← hx]
      obtain ⟨y, hy⟩ : ∃ y, y = c ^^^ x := ⟨_, rfl⟩
      have e1 := Crc.bits_xor_u8 c x
      rw [← hy] at e1
      have hnx := HC.out.next (x := x) hk4 hc hx
      have HN : Hid (Crc.Chg l (cur.set (p + k) y) p (k + 1) [x0, x1, x2, x3] (b || x != 0)) := by rw [hy]; exact hnx
      obtain ⟨t, ht⟩ : ∃ t, t = (x != 0) := ⟨_, rfl⟩
      have hxt : ((x.toNat : Int) != 0) = t := by
        rw [ht, Bool.eq_iff_iff, bne_iff_ne, bne_iff_ne]
        constructor
        · intro h e; subst e; simp at h
        · intro h e; exact h (UInt8.toNat_inj.1 (by simp; omega))
      rw [← ht] at HN
      have h8 := x.toNat_lt
      have h9 := c.toNat_lt
      have hcb : (cur : List UInt8).length ≤ 2000 := by have := hcl.out; omega
      clear hc hx hy hnx ht
      cases b
      all_goals
        go_wp2
        go_region
        go_wp2
        go_roundw
        case rel => exact ⟨k + 1, _, _, by omega, by omega, by go_num, rfl, (ho.store (p + k) y _ rfl).drew, (hb.setCell (by exact hg) _).drew, by simpa using HN⟩
        case measure => simp [intOf]; omega
    · have hs := HC.out.sum_eq hk (by simpa using hk) hpk
      have HS := Lib.hid hs
      clear hs
      have hbw : Below w.heap.size w wr := hW.trans (hb.mono (Nat.le_succ _))
      have hTr := hT.below hbw
      have hvr := hv.below hbw
      have hcr := ho.reads
      by_cases hk4 : k < 4
      all_goals
        go_wp2_with fail
        refine (crcSum_any _ _ _ hvr hTr).mono ?_
        rintro e w2 ⟨rfl, rfl⟩
        go_wp2_with fail
        refine (crcSum_any _ _ _ hcr hTr).mono ?_
        rintro e w2 ⟨rfl, rfl⟩
        obtain ⟨q, hq⟩ : ∃ q, q = (((Crc.sum l).toNat : Int) != ((Crc.sum cur).toNat : Int)) := ⟨_, rfl⟩
        have hqb : (q == b) = true := by rw [hq, HS.out]; simp
        have HQ := hq.symm
        clear hq
        go_wp2_with fail
        refine (crcAwake_any _ hTr).mono ?_
        rintro e w3 ⟨rfl, hb3⟩
        go_wp2_with fail
        go_ret
        exact ⟨rfl, on hbw hb3⟩

set_option maxRecDepth 4000 in
set_option maxHeartbeats 800000 in
theorem crcChanges_any (v : Value) (l : List UInt8) (n : Int) (x0 x1 x2 x3 : Int) (w : World) (hv : Reads w v l) (h0 : -9223372036854775808 ≤ n) (h1 : n ≤ 9223372036854775807)
    (b0 : 0 ≤ x0 ∧ x0 ≤ 255) (b1 : 0 ≤ x1 ∧ x1 ≤ 255) (b2 : 0 ≤ x2 ∧ x2 ≤ 255) (b3 : 0 ≤ x3 ∧ x3 ≤ 255) (hT : CrcTab w) :
    Calls Tryd.prog 5 #[v, .int .i64 n, .agg #[.int .u8 x0, .int .u8 x1, .int .u8 x2, .int .u8 x3]] w (Truly w) := by
  by_cases hin : l.length ≤ 2000 ∧ 0 ≤ n ∧ n < l.length
  · obtain ⟨hl, hn, hp⟩ := hin
    obtain ⟨p, rfl⟩ := Int.eq_ofNat_of_zero_le hn
    have hx : ∀ x : Int, 0 ≤ x ∧ x ≤ 255 → ∃ c : UInt8, x = (c.toNat : Int) := fun x h => ⟨UInt8.ofNat x.toNat, by rw [UInt8.toNat_ofNat']; omega⟩
    obtain ⟨c0, rfl⟩ := hx x0 b0
    obtain ⟨c1, rfl⟩ := hx x1 b1
    obtain ⟨c2, rfl⟩ := hx x2 b2
    obtain ⟨c3, rfl⟩ := hx x3 b3
    exact crcChanges_in v l p c0 c1 c2 c3 w hv hT hl (by omega)
  · obtain ⟨ao, cap, rfl⟩ := hv.shape
    obtain ⟨_, hl1, hl2, _⟩ := hv.len
    have hW : ∀ o, Below w.heap.size w (w.alloc o) := fun o => (Below.refl _ _).alloc (Nat.le_refl _) _
    have fin : ∀ o, Calls Tryd.prog 6 #[] (w.alloc o) (Truly (w.alloc o)) := fun o => crcAwake_any _ (hT.below (hW o))
    by_cases hbig : 2000 < l.length
    · go_enter Tryd.func5, Tryd.ntmps5
      go_wp2_with (go_at_call 6; refine (fin _).mono ?_; rintro e w' ⟨rfl, hb⟩)
      go_ret
      exact ⟨rfl, on (hW _) hb⟩
    by_cases hneg : n < 0
    · go_enter Tryd.func5, Tryd.ntmps5
      go_wp2_with (go_at_call 6; refine (fin _).mono ?_; rintro e w' ⟨rfl, hb⟩)
      go_ret
      exact ⟨rfl, on (hW _) hb⟩
    · have hge : (l.length : Int) ≤ n := by omega
      clear hin
      go_enter Tryd.func5, Tryd.ntmps5
      go_wp2_with (go_at_call 6; refine (fin _).mono ?_; rintro e w' ⟨rfl, hb⟩)
      go_ret
      exact ⟨rfl, on (hW _) hb⟩
end Go.Proofs.YtiincbpmibjihaaDoor
