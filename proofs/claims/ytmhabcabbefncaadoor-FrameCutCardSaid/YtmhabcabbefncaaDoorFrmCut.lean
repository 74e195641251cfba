/- The law FrameCut, walked. -/
import Derived.Test.YtmhabcabbefncaaDoorFrmLaws
namespace Go.Proofs.YtmhabcabbefncaaDoor
open Go.RowKit

theorem flat_bound : ∀ fs : List (List UInt8), (∀ y ∈ fs, 0 < y.length ∧ y.length ≤ 300) → (Frm.flat fs).length ≤ 313 * fs.length := by
  intro fs
  induction fs with
  | nil => intro _; simp [Frm.flat]
  | cons y t ih =>
    intro h
    have h1 := ih (fun z hz => h z (by simp [hz]))
    obtain ⟨_, h2⟩ := h y (by simp)
    have h9 := enc_nine (n := y.length) (by omega)
    have e : (Frm.flat (y :: t)).length = (Frm.frame y).length + (Frm.flat t).length := by simp [Frm.flat]
    rw [e, Frm.frame_len, List.length_cons]
    omega

/-- What the loop in FrameCut knows of the frames. -/
structure CutI (n : Int) (j : Nat) (fs ws : List (List UInt8)) (a : Nat) : Prop where
  few : fs.length ≤ j
  some_ : ws.length ≤ j
  small : ∀ y ∈ fs, 0 < y.length ∧ y.length ≤ 300
  cut : 0 ≤ n → Frm.Cut n.toNat fs ws a

theorem CutI.zero (n : Int) : CutI n 0 [] [] 0 := ⟨by simp, by simp, by simp, fun _ => Frm.Cut.zero _⟩
theorem CutI.skip {n : Int} {j : Nat} {fs ws : List (List UInt8)} {a : Nat} (h : CutI n j fs ws a) : CutI n (j + 1) fs ws a := ⟨by have := h.few; omega, by have := h.some_; omega, h.small, h.cut⟩
theorem CutI.in {n : Int} {j : Nat} {fs ws : List (List UInt8)} {a : Nat} (h : CutI n j fs ws a) {y : List UInt8} (h0 : 0 < y.length) (h1 : y.length ≤ 300) (hn : ((Frm.flat (fs ++ [y])).length : Int) ≤ n) : CutI n (j + 1) (fs ++ [y]) (ws ++ [y]) (Frm.flat (fs ++ [y])).length :=
  ⟨by have := h.few; simp; omega, by have := h.some_; simp; omega, fun z hz => by
    rcases List.mem_append.1 hz with hz | hz
    · exact h.small z hz
    · simp at hz; subst hz; exact ⟨h0, h1⟩, fun hn0 => (h.cut hn0).in y (by omega)⟩
theorem CutI.out {n : Int} {j : Nat} {fs ws : List (List UInt8)} {a : Nat} (h : CutI n j fs ws a) {y : List UInt8} (h0 : 0 < y.length) (h1 : y.length ≤ 300) (hn : n < ((Frm.flat (fs ++ [y])).length : Int)) : CutI n (j + 1) (fs ++ [y]) ws a :=
  ⟨by have := h.few; simp; omega, by have := h.some_; omega, fun z hz => by
    rcases List.mem_append.1 hz with hz | hz
    · exact h.small z hz
    · simp at hz; subst hz; exact ⟨h0, h1⟩, fun hn0 => (h.cut hn0).out y (by omega)⟩
theorem CutI.len {n : Int} {j : Nat} {fs ws : List (List UInt8)} {a : Nat} (h : CutI n j fs ws a) (hj : j ≤ 30) : (Frm.flat fs).length ≤ 10000 := by
  have h1 := flat_bound fs h.small
  have := h.few
  omega

set_option maxRecDepth 4000 in
set_option maxHeartbeats 3200000 in
theorem frameCut_any (v : Value) (ls : List (List UInt8)) (n : Int) (w : World) (hv : ReadsL w v ls) (hT : CrcTab w) (hn0 : -9223372036854775808 ≤ n) (hn1 : n ≤ 9223372036854775807) : Calls Tryd.prog 5 #[v, .int .i64 n] w (Truly w) := by
  obtain ⟨ao, cap, rfl, hc1, hc2⟩ := hv.shape
  obtain ⟨M, hM⟩ : ∃ M, M = ls.length := ⟨_, rfl⟩
  rw [← hM] at hc1 ⊢
  have HM := Lib.hid hM
  clear hM
  by_cases hbig : 30 < M
  · clear hv
    go_enter Tryd.func5, Tryd.ntmps5
    go_wp2_with (go_at_call 7; refine (frmAwake_any _ hT).mono ?_; rintro e w' ⟨rfl, hb⟩)
    go_ret
    exact ⟨rfl, hb⟩
  · have HV := Lib.hid hv
    clear hv
    go_enter Tryd.func5, Tryd.ntmps5
    go_wp2_with fail
    go_loopw [5, 6, 7, 8] (fun b o t i wr => ∃ (j : Nat) (fs ws : List (List UInt8)) (a : Nat), i = .int .i64 (j : Int) ∧ j ≤ M ∧ t = .int .i64 (a : Int) ∧ ReadsP (fun b t => b < w.heap.size ∨ t = 5) wr b (Frm.flat fs) ∧ OwnsL (fun b t => b < w.heap.size ∨ t = 5) wr w.heap.size 22 o ws ∧ Hid (CutI n j fs ws a) ∧ Below w.heap.size w wr) (fun _ _ _ i _ => M - (intOf i).toNat)
    case atStart => exact ⟨0, [], [], 0, rfl, by omega, rfl, ReadsP.none _ _, OwnsL.none _ _ _ _, CutI.zero n, Below.refl _ _⟩
    case round =>
      obtain ⟨j, fs, ws, a, rfl, hj, rfl, hb, ho, HI, hbel⟩ := hrel
      obtain ⟨bo, bc, hbv⟩ := hb.1.shape
      have hbl := hb.1
      rw [hbv] at hbl
      obtain ⟨L, hL⟩ : ∃ L, L = (Frm.flat fs).length := ⟨_, rfl⟩
      have hL1 : L ≤ 10000 := by rw [hL]; exact HI.out.len (by omega)
      have hLc : L ≤ bc ∧ bc ≤ 9223372036854775807 := by have := hbl.len; omega
      rw [← hL] at hbv
      subst hbv
      have HL := Lib.hid hL
      clear hL hbl
      by_cases hlt : j < M
      · obtain ⟨y, hy⟩ : ∃ y, ls[j]? = some y := ⟨_, List.getElem?_eq_getElem (by have := HM.out; omega)⟩
        obtain ⟨b, off, rfl, hcell⟩ := HV.out.place (by have := HM.out; omega)
        obtain ⟨u, hu, hr⟩ := hcell j y hy
        obtain ⟨uo, uc, rfl⟩ := hr.shape
        have hu1 : wr.cell? ⟨b, off + j, none⟩ = some (.slice uo y.length uc) := (hbel.cell (p := ⟨b, off + j, none⟩) (World.block_lt_of_cell? w _ hu)).trans hu
        obtain ⟨k, hk⟩ : ∃ k, k = y.length := ⟨_, rfl⟩
        rw [← hk] at hu hu1
        have HK := Lib.hid hk
        have HR : Hid (Reads w (.slice uo k uc) y) := by show Reads _ _ _; rw [hk]; exact hr
        have HU := Lib.hid hu
        clear hk hr hcell hy hu
        by_cases hk3 : 300 < k
        · go_wp2_with (go_at_call 7; refine (frmAwake_any _ (hT.below hbel)).mono ?_; rintro e w' ⟨rfl, hb9⟩)
          go_ret
          exact ⟨rfl, on hbel hb9⟩
        · by_cases hk0 : k = 0
          · have hkb : ((k : Int) == 0) = true := by simp; omega
            have hI2 := Lib.hid HI.out.skip
            go_wp2_with fail
            go_roundw
            case rel => exact ⟨j + 1, fs, ws, a, by go_num, by omega, rfl, hb, ho, hI2, hbel⟩
            case measure => simp [intOf]; omega
          · have hkb : ((k : Int) == 0) = false := by simp; omega
            go_wp2_with fail
            refine (add_ok _ _ (Frm.flat fs) y wr hb.1 (HR.out.below hbel) (hT.below hbel) (by have := HK.out; omega) (by have := HK.out; omega) (by have := HL.out; omega)).mono ?_
            rintro e w1 ⟨x, rfl, ho1, hb1⟩
            rw [← Frm.flat_snoc] at ho1
            obtain ⟨xo, xc, hx⟩ := ho1.reads.shape
            have hx1 : ReadsP (fun b t => b < w.heap.size ∨ t = 5) w1 x (Frm.flat (fs ++ [y])) := ReadsP.of_owns ho1 (fun b _ => .inr rfl)
            obtain ⟨S, hS⟩ : ∃ S, S = (Frm.flat (fs ++ [y])).length := ⟨_, rfl⟩
            rw [← hS] at hx
            subst hx
            have hSL : L < S := by rw [hS, Frm.flat_snoc, List.length_append, ← HL.out, Frm.frame_len]; omega
            have HS := Lib.hid hS
            have hbw := on hbel hb1
            have ho2 := ho.below hb1
            have hu2 : w1.cell? ⟨b, off + j, none⟩ = some (.slice uo k uc) := (hbw.cell (p := ⟨b, off + j, none⟩) (World.block_lt_of_cell? w _ HU.out)).trans HU.out
            have hry : ReadsP (fun b t => b < w.heap.size ∨ t = 5) w1 (.slice uo k uc) y := (ReadsP.of_reads HR.out (fun b t h => .inl h)).keep (Keep.of_below hbw)
            have hws : ws.length ≤ 1048576 := by have := HI.out.some_; omega
            have hnp : ∀ g, w.heap.size ≤ g → ¬ (fun b t => b < w.heap.size ∨ t = 5) g 22 := by
              intro g h1 h2
              rcases h2 with h2 | h2
              · omega
              · exact absurd h2 (by decide)
            clear ho1 hS hb ho hb1 hu1
            by_cases hin : (S : Int) ≤ n
            · have hI2 : Hid (CutI n (j + 1) (fs ++ [y]) (ws ++ [y]) S) := by
                show CutI _ _ _ _ _
                rw [HS.out]
                exact HI.out.in (by have := HK.out; omega) (by have := HK.out; omega) (by rw [← HS.out]; exact hin)
              go_wp2_with (at_builtin; refine append_list rfl _ _ 32 22 rfl Tryd.underlying32 info_bytes (fun b t => b < w.heap.size ∨ t = 5) w.heap.size ws y u6 uo k uc rfl rfl ho2 hry hnp hws w hbw (Nat.le_refl _) ?_; intro v' w' ho3 hk3' hb3)
              go_roundw
              case rel => exact ⟨j + 1, fs ++ [y], ws ++ [y], S, by go_num, by omega, rfl, hx1.keep hk3', ho3, hI2, hb3⟩
              case measure => simp [intOf]; omega
            · have hI2 : Hid (CutI n (j + 1) (fs ++ [y]) ws a) := HI.out.out (by have := HK.out; omega) (by have := HK.out; omega) (by rw [← HS.out]; omega)
              go_wp2_with fail
              go_roundw
              case rel => exact ⟨j + 1, fs ++ [y], ws, a, by go_num, by omega, rfl, hx1, ho2, hI2, hbw⟩
              case measure => simp [intOf]; omega
      · by_cases hout : n < 0 ∨ (L : Int) < n
        · rcases (show n < 0 ∨ (0 ≤ n ∧ (L : Int) < n) by omega) with h | ⟨h, h'⟩
          all_goals
            clear hout
            go_wp2_with (go_at_call 7; refine (frmAwake_any _ (hT.below hbel)).mono ?_; rintro e w' ⟨rfl, hb9⟩)
            go_ret
            exact ⟨rfl, on hbel hb9⟩
        · obtain ⟨N, rfl⟩ := Int.eq_ofNat_of_zero_le (show 0 ≤ n by omega)
          have hNL : N ≤ L := by omega
          have hr2 := hb.1.take N (by have := HL.out; omega)
          have hcut := HI.out.cut (by omega)
          rw [Int.toNat_natCast] at hcut
          obtain ⟨hp1, hp2⟩ := hcut.path (by have := HL.out; omega) (fun y hy => by have := HI.out.small y hy; omega)
          have HP1 := Lib.hid hp1
          have HP2 := Lib.hid hp2
          have HC := Lib.hid (show ((Frm.flat fs).take N).length ≤ 1048576 by rw [List.length_take, ← HL.out]; omega)
          clear hcut hp1 hp2 hout hn0 hn1
          go_wp2_with fail
          refine (scan_any _ ((Frm.flat fs).take N) wr hr2 (hT.below hbel) HC.out).mono ?_
          rintro e w3 ⟨x3, ms, c, rfl, hq1, hq2, hr3, hb3⟩
          obtain ⟨rfl, rfl⟩ := hq1.one hq2 HP1.out HP2.out
          have g1 := (ho.below hb3).reads
          have hbw := on hbel hb3
          clear hq1 hq2 hr2 hb hb3 ho hbel
          go_wp2_with fail
          refine (lists_any x3 u6 ms ms w3 hr3 g1).mono ?_
          rintro e w4 ⟨rfl, q, rfl⟩
          rw [beq_self_eq_true]
          have hbq := on hbw (drawn w3 q)
          generalize w3.drewN q = w4 at hbq ⊢
          clear g1 hr3 hbw
          go_wp2_with fail
          refine (frmAwake_any _ (hT.below hbq)).mono ?_
          rintro e w5 ⟨rfl, hb5⟩
          go_wp2_with fail
          go_ret
          exact ⟨rfl, on hbq hb5⟩
end Go.Proofs.YtmhabcabbefncaaDoor
