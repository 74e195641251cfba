/- Configurations: the document's Large, At and Check. -/
import Derived.Test.YtimlfiomoalieaaCfLeaf
import Derived.Test.YtimlfiomoalieaaOnce
namespace Go.Proofs.Ytimlfiomoalieaa
open Go.RowKit

/-- What Large tells: where it says no, there are few, and few members each. -/
def Largish (w : World) (l : List Cf.Conf) (e : Ending) (w' : World) : Prop := ∃ b : Bool, e = .returned (.bool b) ∧ w = w' ∧ (b = false → l.length ≤ 40 ∧ ∀ c ∈ l, c.mem.length ≤ 40)

set_option maxRecDepth 4000 in
theorem large_cf (v : Value) (l : List Cf.Conf) (w : World) (hv : ReadsC w v l) : Calls Try.prog 7 #[v] w (Largish w l) := by
  obtain ⟨ao, cap, rfl, hc1, hc2⟩ := ReadsC.shape hv
  have HP := Lib.hid (fun h => ReadsC.places hv h)
  obtain ⟨n, hn⟩ : ∃ n, n = l.length := ⟨_, rfl⟩
  rw [← hn] at hc1 HP ⊢
  have HN := Lib.hid hn
  have hnb : n < 9223372036854775808 := by omega
  clear hv hn
  go_enter Try.func7, Try.ntmps7
  go_wp2
  go_loopw [3] (fun i wr => ∃ k : Nat, i = .int .i64 (k : Int) ∧ k ≤ n ∧ Hid (∀ c ∈ l.take k, c.mem.length ≤ 40) ∧ wr = w) (fun i _ => n - (intOf i).toNat)
  case atStart => exact ⟨0, rfl, by omega, by show ∀ c ∈ _, _; simp, rfl⟩
  case round =>
    obtain ⟨k, rfl, hk, HI, rfl⟩ := hrel
    by_cases hlt : k < n
    · have d1 : decide (k < n) = true := decide_eq_true hlt
      by_cases h40 : k < 40
      · have d2 : decide ((k : Int) < 40) = true := decide_eq_true (by omega)
        have h40' : (k : Int) < 40 := by omega
        obtain ⟨c, hcl⟩ : ∃ c, l[k]? = some c := ⟨_, List.getElem?_eq_getElem (by have := HN.out; omega)⟩
        obtain ⟨g, off, rfl, _, hc⟩ := HP.out (by have := HN.out; omega)
        obtain ⟨uo, uc, _, _, _, hcell⟩ := hc k c hcl
        obtain ⟨c0, c1⟩ := hcell wr (Below.refl _ _)
        have HCL := Lib.hid hcl
        obtain ⟨m, hm⟩ : ∃ m, m = c.mem.length := ⟨_, rfl⟩
        rw [← hm] at c1
        have HM := Lib.hid hm
        clear hc hcl hcell hm
        by_cases hb : 40 < m
        · go_wp2
          go_ret
          exact ⟨true, rfl, rfl, fun h => by cases h⟩
        · have HI2 : Hid (∀ c ∈ l.take (k + 1), c.mem.length ≤ 40) := by
            intro d hd
            rw [List.take_add_one, HCL.out] at hd
            rcases List.mem_append.1 hd with hd | hd
            · exact HI.out d hd
            · simp at hd; subst hd; have := HM.out; omega
          go_wp2
          go_roundw
          case rel => exact ⟨k + 1, by go_num, by omega, HI2.out, (by first | rfl | trivial)⟩
          case measure => simp [intOf]; omega
      · have d2 : decide ((k : Int) < 40) = false := decide_eq_false (by omega)
        have h40' : ¬ (k : Int) < 40 := by omega
        by_cases hb : 40 < n
        · go_wp2
          go_ret
          exact ⟨true, by simp; omega, rfl, fun h => by cases h⟩
        · omega
    · obtain rfl : k = n := by omega
      have d1 : decide (k < k) = false := decide_eq_false (by omega)
      by_cases hb : 40 < k
      · go_wp2
        go_ret
        exact ⟨true, by simp; omega, rfl, fun h => by cases h⟩
      · go_wp2
        go_ret
        exact ⟨false, by simp; omega, rfl, fun _ => ⟨by have := HN.out; omega, by have := HI.out; rwa [HN.out, List.take_length] at this⟩⟩

/-- A call that tells a slice of numbers, and turns nothing. -/
def Points (w : World) (m : List Int) (e : Ending) (w' : World) : Prop := ∃ v', e = .returned v' ∧ ReadsI w v' m ∧ w = w'

theorem Cf.at_take {l : List Cf.Conf} {c : Cf.Conf} {k : Nat} (h : l[k]? = some c) (i : Int) : Cf.at' (l.take (k + 1)) i = if c.frm ≤ i then c.mem else Cf.at' (l.take k) i := by
  rw [List.take_add_one, h]
  unfold Cf.at'
  rw [show (some c).toList = [c] from rfl, Cf.atFrom_append]
  rfl

set_option maxRecDepth 4000 in
theorem refAt_any (v : Value) (l : List Cf.Conf) (i : Int) (w : World) (hv : ReadsC w v l) : Calls Try.prog 10 #[v, .int .i64 i] w (Points w (Cf.at' l i)) := by
  obtain ⟨ao, cap, rfl, hc1, hc2⟩ := ReadsC.shape hv
  have HP := Lib.hid (fun h => ReadsC.places hv h)
  obtain ⟨n, hn⟩ : ∃ n, n = l.length := ⟨_, rfl⟩
  rw [← hn] at hc1 HP ⊢
  have HN := Lib.hid hn
  have hnb : n < 9223372036854775808 := by omega
  clear hv hn
  go_enter Try.func10, Try.ntmps10
  go_wp2
  go_loopw [5, 6] (fun u j wr => ∃ k : Nat, j = .int .i64 (k : Int) ∧ k ≤ n ∧ ReadsI w u (Cf.at' (l.take k) i) ∧ wr = w) (fun _ j _ => n - (intOf j).toNat)
  case atStart => exact ⟨0, rfl, by omega, ReadsI.empty w, rfl⟩
  case round =>
    obtain ⟨k, rfl, hk, hU, rfl⟩ := hrel
    have HU := Lib.hid hU
    obtain ⟨uo', uc', hus, _, _⟩ := ReadsI.shape hU
    have HUS := Lib.hid hus
    clear hU hus
    by_cases hlt : k < n
    · obtain ⟨c, hcl⟩ : ∃ c, l[k]? = some c := ⟨_, List.getElem?_eq_getElem (by have := HN.out; omega)⟩
      obtain ⟨g, off, rfl, _, hc⟩ := HP.out (by have := HN.out; omega)
      obtain ⟨uo, uc, hu, _, _, hcell⟩ := hc k c hcl
      obtain ⟨c0, c1⟩ := hcell wr (Below.refl _ _)
      have HT := Lib.hid (Cf.at_take hcl i)
      have HR := Lib.hid hu
      clear hc hcl hcell hu
      by_cases hle : c.frm ≤ i
      · have HT2 : Hid (Cf.at' (l.take (k + 1)) i = c.mem) := by show _ = _; rw [HT.out, if_pos hle]
        go_wp2
        go_roundw
        case rel => exact ⟨k + 1, by go_num, by omega, by rw [HT2.out]; exact HR.out, (by first | rfl | trivial)⟩
        case measure => simp [intOf]; omega
      · have HT2 : Hid (Cf.at' (l.take (k + 1)) i = Cf.at' (l.take k) i) := by show _ = _; rw [HT.out, if_neg hle]
        go_wp2
        go_roundw
        case rel => exact ⟨k + 1, by go_num, by omega, by rw [HT2.out]; exact HU.out, (by first | rfl | trivial)⟩
        case measure => simp [intOf]; omega
    · obtain rfl : k = n := by omega
      go_wp2
      go_ret
      exact ⟨_, rfl, (by have := HU.out; rwa [HN.out, List.take_length] at this), rfl⟩

theorem Cf.check_first {c : Cf.Conf} {r : List Cf.Conf} (h : c.frm = 1) : Cf.check (c :: r) = Cf.ascC 0 (c :: r) := by
  show (decide (c.frm = 1) && Cf.ascC 0 (c :: r)) = _
  rw [decide_eq_true h]; rfl
theorem Cf.check_not {c : Cf.Conf} {r : List Cf.Conf} (h : c.frm ≠ 1) : Cf.check (c :: r) = false := by
  show (decide (c.frm = 1) && Cf.ascC 0 (c :: r)) = _
  rw [decide_eq_false h]; rfl
theorem Cf.ascC_step {l : List Cf.Conf} {k : Nat} {c : Cf.Conf} (h : l[k]? = some c) (b : Int) : Cf.ascC b (l.drop k) = (decide (b < c.frm) && decide (c.frm ≤ 4294967296) && Cf.mems c.mem && Cf.ascC c.frm (l.drop (k + 1))) := by rw [Cf.drop_at h]; rfl
theorem Cf.asc_step {l : List Int} {k : Nat} {x : Int} (h : l[k]? = some x) (b : Int) : Cf.asc b (l.drop k) = (decide (b < x) && decide (x ≤ 9) && Cf.asc x (l.drop (k + 1))) := by rw [Cf.drop_at h]; rfl

set_option maxRecDepth 4000 in
set_option maxHeartbeats 3200000 in
theorem refCheck_cf (v : Value) (l : List Cf.Conf) (w : World) (hv : ReadsC w v l) : Calls Try.prog 9 #[v] w (Looks w (.bool (Cf.check l))) := by
  obtain ⟨ao, cap, rfl, hc1, hc2⟩ := ReadsC.shape hv
  have HP := Lib.hid (fun h => ReadsC.places hv h)
  obtain ⟨n, hn⟩ : ∃ n, n = l.length := ⟨_, rfl⟩
  rw [← hn] at hc1 HP ⊢
  have HN := Lib.hid hn
  have hnb : n < 9223372036854775808 := by omega
  clear hv
  by_cases h0 : n = 0
  · obtain rfl : l = [] := List.eq_nil_of_length_eq_zero (by omega)
    subst h0
    clear hn
    go_enter Try.func9, Try.ntmps9
    go_wp2
    go_ret
    exact ⟨rfl, Below.refl _ _⟩
  · obtain ⟨c, r, rfl⟩ : ∃ c r, l = c :: r := by
      cases l with
      | nil => simp at hn; omega
      | cons c r => exact ⟨c, r, rfl⟩
    have h0' : ((n : Int) == 0) = false := by simp; omega
    obtain ⟨g, off, rfl, _, hc⟩ := HP.out (by omega)
    obtain ⟨uo, uc, _, _, _, hcell⟩ := hc 0 c rfl
    obtain ⟨c0, c1⟩ := hcell w (Below.refl _ _)
    rw [Nat.zero_mul, Nat.add_zero] at c0 c1
    have hn0 : 0 < n := by omega
    obtain ⟨l, hl⟩ : ∃ l, l = c :: r := ⟨_, rfl⟩
    have HL := Lib.hid hl
    by_cases h1 : c.frm = 1
    · have HC : Hid (Cf.check l = Cf.ascC 0 l) := by show _ = _; rw [hl]; exact Cf.check_first h1
      have h1' : (c.frm != 1) = false := by simpa using h1
      have HF : Hid (∀ d, l[0]? = some d → d.frm = 1) := by intro d hd; rw [hl] at hd; cases hd; exact h1
      rw [← hl] at hc HN ⊢
      have HCC := Lib.hid hc
      clear hc hcell hl HL HP hn h0 c1 h1
      go_enter Try.func9, Try.ntmps9
      go_wp2
      go_loopw [3] (fun i wr => ∃ (k : Nat) (b : Int), i = .int .i64 (k : Int) ∧ k ≤ n ∧ Hid (Cf.ascC 0 l = Cf.ascC b (l.drop k)) ∧ Hid ((k = 0 ∧ b = 0) ∨ ∃ p d, k = p + 1 ∧ l[p]? = some d ∧ b = d.frm) ∧ Below w.heap.size w wr) (fun i _ => n - (intOf i).toNat)
      case atStart => exact ⟨0, 0, rfl, by omega, by show _ = _; rfl, .inl ⟨rfl, rfl⟩, Below.refl _ _⟩
      case round =>
        obtain ⟨k, b, rfl, hk, HI, HPV, hB⟩ := hrel
        have HB := Lib.hid hB
        clear hB
        by_cases hlt : k < n
        · obtain ⟨d, hd⟩ : ∃ d, l[k]? = some d := ⟨_, List.getElem?_eq_getElem (by have := HN.out; omega)⟩
          obtain ⟨uo, uc, hu, hu1, hu2, hcell⟩ := HCC.out k d hd
          have k0 := fun p : Behind wr => (hcell p.world (HB.out.trans (p.below.mono HB.out.size))).1
          have k1 := fun p : Behind wr => (hcell p.world (HB.out.trans (p.below.mono HB.out.size))).2
          obtain ⟨e0, e1⟩ := hcell wr HB.out
          have HS := Lib.hid (Cf.ascC_step hd b)
          have HU := Lib.hid hu
          obtain ⟨m, hm⟩ : ∃ m, m = d.mem.length := ⟨_, rfl⟩
          rw [← hm] at e1 k1 hu1
          have HU' : Hid (ReadsI w (.slice uo m uc) d.mem) := by show ReadsI _ _ _; rw [hm]; exact hu
          have HM := Lib.hid hm
          have hmb : m < 9223372036854775808 := by omega
          by_cases hm0 : m = 0
          · have hm0' : ((m : Int) == 0) = true := by simp; omega
            have HF2 : Hid (Cf.check l = false) := by
              show _ = _
              rw [HC.out, HI.out, HS.out, show Cf.mems d.mem = false by rw [Cf.mems, ← HM.out, hm0]; rfl]
              simp
            subst hm0
            clear hcell hd hu hm
            go_wp2
            refine wp_region_behind (by kernel_rfl) (by kernel_rfl) ?_
            repeat (go_big_quiet_step ((fail)))
            refine wpQuiet_nil ?_
            rintro w5 ⟨⟨w5, hB5⟩, rfl⟩
            (try dsimp only)
            go_wp2
            go_ret
            exact ⟨by rw [HF2.out]; rfl, HB.out.trans (hB5.mono HB.out.size)⟩
          · have hm0' : ((m : Int) == 0) = false := by simp; omega
            have hmp : 0 < m := by omega
            have HD := Lib.hid hd
            by_cases hbig : 4294967296 < d.frm
            · have dbig : decide (4294967296 < d.frm) = true := decide_eq_true hbig
              have HF2 : Hid (Cf.check l = false) := by
                show _ = _
                rw [HC.out, HI.out, HS.out, show decide (d.frm ≤ 4294967296) = false from decide_eq_false (by omega)]
                simp
              clear hcell hd hu hm hm0
              go_wp2
              refine wp_region_behind (by kernel_rfl) (by kernel_rfl) ?_
              repeat (go_big_quiet_step ((fail)))
              refine wpQuiet_nil ?_
              rintro w5 ⟨⟨w5, hB5⟩, rfl⟩
              (try dsimp only)
              go_wp2
              go_ret
              exact ⟨by rw [HF2.out]; rfl, HB.out.trans (hB5.mono HB.out.size)⟩
            · have HLE : Hid (decide (d.frm ≤ 4294967296) = true) := decide_eq_true (by omega)
              have dbig : decide (4294967296 < d.frm) = false := decide_eq_false hbig
              by_cases hk0 : k = 0
              · have HLT : Hid (decide (b < d.frm) = true) := by
                  have h1 := HF.out d (by rw [← hk0]; exact hd)
                  have h2 : b = 0 := by rcases HPV.out with ⟨_, h⟩ | ⟨_, _, h, _⟩ <;> omega
                  exact decide_eq_true (by omega)
                have hkn : decide (0 < k) = false := decide_eq_false (by omega)
                clear hcell hd hu hm hm0 hk0
                go_wp2
                refine wp_region_behind (by kernel_rfl) (by kernel_rfl) ?_
                repeat (go_big_quiet_step ((fail)))
                refine wpQuiet_nil ?_
                rintro w5 ⟨⟨w5, hB5⟩, rfl⟩
                (try dsimp only)
                have HB5 := Lib.hid (HB.out.trans (hB5.mono HB.out.size))
                have hU5 := HU'.out.below HB5.out
                have HQ5 := Lib.hid (ReadsI.places hU5 (by have := HM.out; omega))
                clear hB5 hU5
                go_wp2
                go_loopw [5] (fun y wq => ∃ (j : Nat) (a : Int), y = .int .i64 (j : Int) ∧ j ≤ m ∧ Hid (Cf.asc 0 d.mem = Cf.asc a (d.mem.drop j)) ∧ Hid ((j = 0 ∧ a = 0) ∨ ∃ p, j = p + 1 ∧ d.mem[p]? = some a ∧ 1 ≤ a) ∧ Below w5.heap.size w5 wq) (fun y _ => m - (intOf y).toNat)
                case atStart => exact ⟨0, 0, rfl, by omega, by show _ = _; rfl, .inl ⟨rfl, rfl⟩, Below.refl _ _⟩
                case round =>
                  obtain ⟨j, a, rfl, hj, HJ, HJP, hB6⟩ := hrel
                  have HB6 := Lib.hid (HB5.out.trans (hB6.mono HB5.out.size))
                  have HB56 := Lib.hid hB6
                  clear hB6
                  by_cases hjm : j < m
                  · obtain ⟨x, hx⟩ : ∃ x, d.mem[j]? = some x := ⟨_, List.getElem?_eq_getElem (by have := HM.out; omega)⟩
                    obtain ⟨ub, uoff, ueq, _, hmc⟩ := HQ5.out
                    cases ueq
                    have m0 := fun p : Behind wr => hmc p.world (HB56.out.trans (p.below.mono HB56.out.size)) j x hx
                    have HST := Lib.hid (Cf.asc_step hx a)
                    have ha : 0 ≤ a := by
                      rcases HJP.out with ⟨_, h⟩ | ⟨_, _, _, h⟩ <;> omega
                    by_cases hx1 : x < 1
                    · have d_hx1 : decide (x < 1) = true := decide_eq_true (by omega)
                      have HF3 : Hid (Cf.check l = false) := by
                        show _ = _
                        rw [HC.out, HI.out, HS.out, show Cf.mems d.mem = false by rw [Cf.mems, HJ.out, HST.out, show decide (a < x) = false from decide_eq_false (by omega)]; simp]
                        simp
                      clear hmc hx ha
                      go_wp2
                      refine wp_region_behind (by kernel_rfl) (by kernel_rfl) ?_
                      repeat (go_big_quiet_step ((fail)))
                      refine wpQuiet_nil ?_
                      rintro w7 ⟨⟨w7, hB7⟩, rfl⟩
                      (try dsimp only)
                      go_wp2
                      go_ret
                      exact ⟨by rw [HF3.out]; rfl, HB6.out.trans (hB7.mono HB6.out.size)⟩
                    · have d_hx1 : decide (x < 1) = false := decide_eq_false (by omega)
                      by_cases hx9 : 9 < x
                      · have d_hx9 : decide (9 < x) = true := decide_eq_true (by omega)
                        have HF3 : Hid (Cf.check l = false) := by
                          show _ = _
                          rw [HC.out, HI.out, HS.out, show Cf.mems d.mem = false by rw [Cf.mems, HJ.out, HST.out, show decide (x ≤ 9) = false from decide_eq_false (by omega)]; simp]
                          simp
                        clear hmc hx ha
                        go_wp2
                        refine wp_region_behind (by kernel_rfl) (by kernel_rfl) ?_
                        repeat (go_big_quiet_step ((fail)))
                        refine wpQuiet_nil ?_
                        rintro w7 ⟨⟨w7, hB7⟩, rfl⟩
                        (try dsimp only)
                        go_wp2
                        go_ret
                        exact ⟨by rw [HF3.out]; rfl, HB6.out.trans (hB7.mono HB6.out.size)⟩
                      · have d_hx9 : decide (9 < x) = false := decide_eq_false (by omega)
                        have dx9 : decide (x ≤ 9) = true := decide_eq_true (by omega)
                        by_cases hj0 : j = 0
                        · have HN3 : Hid (Cf.asc 0 d.mem = Cf.asc x (d.mem.drop (j + 1))) := by
                            show _ = _
                            have : a = 0 := by rcases HJP.out with ⟨_, h⟩ | ⟨_, h, _⟩ <;> omega
                            rw [HJ.out, HST.out, show decide (a < x) = true from decide_eq_true (by omega), dx9]
                            rfl
                          have HX := Lib.hid hx
                          have hj0' : decide (0 < j) = false := decide_eq_false (by omega)
                          clear hmc hx ha hj0
                          go_wp2
                          refine wp_region_behind (by kernel_rfl) (by kernel_rfl) ?_
                          repeat (go_big_quiet_step ((fail)))
                          refine wpQuiet_nil ?_
                          rintro w7 ⟨⟨w7, hB7⟩, rfl⟩
                          (try dsimp only)
                          go_wp2
                          go_roundw
                          case rel => exact ⟨j + 1, x, by go_num, by omega, HN3.out, .inr ⟨j, rfl, HX.out, by omega⟩, HB56.out.trans (hB7.mono HB56.out.size)⟩
                          case measure => simp [intOf]; omega
                        · obtain ⟨p, hp, hpa, ha1⟩ : ∃ p, j = p + 1 ∧ d.mem[p]? = some a ∧ 1 ≤ a := by
                            rcases HJP.out with ⟨h, _⟩ | ⟨p, h1, h2, h3⟩
                            · exact absurd h hj0
                            · exact ⟨p, h1, h2, h3⟩
                          have n0 := fun q : Behind wr => hmc q.world (HB56.out.trans (q.below.mono HB56.out.size)) p a hpa
                          have hjp : (j : Int) - 1 = (p : Int) := by omega
                          have hpm : p < m := by omega
                          have hj1 : decide (0 < j) = true := decide_eq_true (by omega)
                          have HP2 := Lib.hid hp
                          have HX := Lib.hid hx
                          by_cases hxa : x ≤ a
                          · have d_hxa : decide (x ≤ a) = true := decide_eq_true (by omega)
                            have HF3 : Hid (Cf.check l = false) := by
                              show _ = _
                              rw [HC.out, HI.out, HS.out, show Cf.mems d.mem = false by rw [Cf.mems, HJ.out, HST.out, show decide (a < x) = false from decide_eq_false (by omega)]; simp]
                              simp
                            clear hmc hx ha hp hpa hj0
                            go_wp2
                            refine wp_region_behind (by kernel_rfl) (by kernel_rfl) ?_
                            repeat (go_big_quiet_step ((fail)))
                            refine wpQuiet_nil ?_
                            rintro w7 ⟨⟨w7, hB7⟩, rfl⟩
                            (try dsimp only)
                            go_wp2
                            go_ret
                            exact ⟨by rw [HF3.out]; rfl, HB6.out.trans (hB7.mono HB6.out.size)⟩
                          · have d_hxa : decide (x ≤ a) = false := decide_eq_false (by omega)
                            have HN3 : Hid (Cf.asc 0 d.mem = Cf.asc x (d.mem.drop (j + 1))) := by
                              show _ = _
                              rw [HJ.out, HST.out, show decide (a < x) = true from decide_eq_true (by omega), dx9]
                              rfl
                            clear hmc hx ha hp hpa hj0
                            go_wp2
                            refine wp_region_behind (by kernel_rfl) (by kernel_rfl) ?_
                            repeat (go_big_quiet_step ((fail)))
                            refine wpQuiet_nil ?_
                            rintro w7 ⟨⟨w7, hB7⟩, rfl⟩
                            (try dsimp only)
                            go_wp2
                            go_roundw
                            case rel => exact ⟨j + 1, x, by go_num, by omega, HN3.out, .inr ⟨j, rfl, HX.out, by omega⟩, HB56.out.trans (hB7.mono HB56.out.size)⟩
                            case measure => simp [intOf]; omega
                  · obtain rfl : j = m := by omega
                    have HN2 : Hid (Cf.ascC 0 l = Cf.ascC d.frm (l.drop (k + 1))) := by
                      show _ = _
                      have e : Cf.mems d.mem = true := by rw [Cf.mems, HJ.out, HM.out, List.drop_of_length_le (by omega), decide_eq_true (by have := HM.out; omega)]; rfl
                      rw [HI.out, HS.out, HLT.out, HLE.out, e]
                      rfl
                    go_wp2
                    go_roundw
                    case rel => exact ⟨k + 1, d.frm, by go_num, by omega, HN2.out, .inr ⟨k, d, rfl, HD.out, rfl⟩, HB6.out⟩
                    case measure => simp [intOf]; omega
              · obtain ⟨p, q, hp, hpq, hbq⟩ : ∃ p q, k = p + 1 ∧ l[p]? = some q ∧ b = q.frm := by
                  rcases HPV.out with ⟨h, _⟩ | ⟨p, q, h1, h2, h3⟩
                  · exact absurd h hk0
                  · exact ⟨p, q, h1, h2, h3⟩
                obtain ⟨vo, vc, _, _, _, hcellp⟩ := HCC.out p q hpq
                have n0 := fun r : Behind wr => (hcellp r.world (HB.out.trans (r.below.mono HB.out.size))).1
                rw [← hbq] at n0
                have hkp : (k : Int) - 1 = (p : Int) := by omega
                have hpn : p < n := by omega
                have hk1 : decide (0 < k) = true := decide_eq_true (by omega)
                by_cases hle : d.frm ≤ b
                · have dle : decide (d.frm ≤ b) = true := decide_eq_true hle
                  have HF2 : Hid (Cf.check l = false) := by
                    show _ = _
                    rw [HC.out, HI.out, HS.out, show decide (b < d.frm) = false from decide_eq_false (by omega)]
                    simp
                  clear hcell hd hu hm hm0 hk0 hp hpq hbq hcellp
                  go_wp2
                  refine wp_region_behind (by kernel_rfl) (by kernel_rfl) ?_
                  repeat (go_big_quiet_step ((fail)))
                  refine wpQuiet_nil ?_
                  rintro w5 ⟨⟨w5, hB5⟩, rfl⟩
                  (try dsimp only)
                  go_wp2
                  go_ret
                  exact ⟨by rw [HF2.out]; rfl, HB.out.trans (hB5.mono HB.out.size)⟩
                · have HLT : Hid (decide (b < d.frm) = true) := decide_eq_true (by omega)
                  have dle : decide (d.frm ≤ b) = false := decide_eq_false hle
                  clear hcell hd hu hm hm0 hk0 hp hpq hbq hcellp
                  go_wp2
                  refine wp_region_behind (by kernel_rfl) (by kernel_rfl) ?_
                  repeat (go_big_quiet_step ((fail)))
                  refine wpQuiet_nil ?_
                  rintro w5 ⟨⟨w5, hB5⟩, rfl⟩
                  (try dsimp only)
                  have HB5 := Lib.hid (HB.out.trans (hB5.mono HB.out.size))
                  have hU5 := HU'.out.below HB5.out
                  have HQ5 := Lib.hid (ReadsI.places hU5 (by have := HM.out; omega))
                  clear hB5 hU5
                  go_wp2
                  go_loopw [5] (fun y wq => ∃ (j : Nat) (a : Int), y = .int .i64 (j : Int) ∧ j ≤ m ∧ Hid (Cf.asc 0 d.mem = Cf.asc a (d.mem.drop j)) ∧ Hid ((j = 0 ∧ a = 0) ∨ ∃ p, j = p + 1 ∧ d.mem[p]? = some a ∧ 1 ≤ a) ∧ Below w5.heap.size w5 wq) (fun y _ => m - (intOf y).toNat)
                  case atStart => exact ⟨0, 0, rfl, by omega, by show _ = _; rfl, .inl ⟨rfl, rfl⟩, Below.refl _ _⟩
                  case round =>
                    obtain ⟨j, a, rfl, hj, HJ, HJP, hB6⟩ := hrel
                    have HB6 := Lib.hid (HB5.out.trans (hB6.mono HB5.out.size))
                    have HB56 := Lib.hid hB6
                    clear hB6
                    by_cases hjm : j < m
                    · obtain ⟨x, hx⟩ : ∃ x, d.mem[j]? = some x := ⟨_, List.getElem?_eq_getElem (by have := HM.out; omega)⟩
                      obtain ⟨ub, uoff, ueq, _, hmc⟩ := HQ5.out
                      cases ueq
                      have m0 := fun p : Behind wr => hmc p.world (HB56.out.trans (p.below.mono HB56.out.size)) j x hx
                      have HST := Lib.hid (Cf.asc_step hx a)
                      have ha : 0 ≤ a := by
                        rcases HJP.out with ⟨_, h⟩ | ⟨_, _, _, h⟩ <;> omega
                      by_cases hx1 : x < 1
                      · have d_hx1 : decide (x < 1) = true := decide_eq_true (by omega)
                        have HF3 : Hid (Cf.check l = false) := by
                          show _ = _
                          rw [HC.out, HI.out, HS.out, show Cf.mems d.mem = false by rw [Cf.mems, HJ.out, HST.out, show decide (a < x) = false from decide_eq_false (by omega)]; simp]
                          simp
                        clear hmc hx ha
                        go_wp2
                        refine wp_region_behind (by kernel_rfl) (by kernel_rfl) ?_
                        repeat (go_big_quiet_step ((fail)))
                        refine wpQuiet_nil ?_
                        rintro w7 ⟨⟨w7, hB7⟩, rfl⟩
                        (try dsimp only)
                        go_wp2
                        go_ret
                        exact ⟨by rw [HF3.out]; rfl, HB6.out.trans (hB7.mono HB6.out.size)⟩
                      · have d_hx1 : decide (x < 1) = false := decide_eq_false (by omega)
                        by_cases hx9 : 9 < x
                        · have d_hx9 : decide (9 < x) = true := decide_eq_true (by omega)
                          have HF3 : Hid (Cf.check l = false) := by
                            show _ = _
                            rw [HC.out, HI.out, HS.out, show Cf.mems d.mem = false by rw [Cf.mems, HJ.out, HST.out, show decide (x ≤ 9) = false from decide_eq_false (by omega)]; simp]
                            simp
                          clear hmc hx ha
                          go_wp2
                          refine wp_region_behind (by kernel_rfl) (by kernel_rfl) ?_
                          repeat (go_big_quiet_step ((fail)))
                          refine wpQuiet_nil ?_
                          rintro w7 ⟨⟨w7, hB7⟩, rfl⟩
                          (try dsimp only)
                          go_wp2
                          go_ret
                          exact ⟨by rw [HF3.out]; rfl, HB6.out.trans (hB7.mono HB6.out.size)⟩
                        · have d_hx9 : decide (9 < x) = false := decide_eq_false (by omega)
                          have dx9 : decide (x ≤ 9) = true := decide_eq_true (by omega)
                          by_cases hj0 : j = 0
                          · have HN3 : Hid (Cf.asc 0 d.mem = Cf.asc x (d.mem.drop (j + 1))) := by
                              show _ = _
                              have : a = 0 := by rcases HJP.out with ⟨_, h⟩ | ⟨_, h, _⟩ <;> omega
                              rw [HJ.out, HST.out, show decide (a < x) = true from decide_eq_true (by omega), dx9]
                              rfl
                            have HX := Lib.hid hx
                            have hj0' : decide (0 < j) = false := decide_eq_false (by omega)
                            clear hmc hx ha hj0
                            go_wp2
                            refine wp_region_behind (by kernel_rfl) (by kernel_rfl) ?_
                            repeat (go_big_quiet_step ((fail)))
                            refine wpQuiet_nil ?_
                            rintro w7 ⟨⟨w7, hB7⟩, rfl⟩
                            (try dsimp only)
                            go_wp2
                            go_roundw
                            case rel => exact ⟨j + 1, x, by go_num, by omega, HN3.out, .inr ⟨j, rfl, HX.out, by omega⟩, HB56.out.trans (hB7.mono HB56.out.size)⟩
                            case measure => simp [intOf]; omega
                          · obtain ⟨p, hp, hpa, ha1⟩ : ∃ p, j = p + 1 ∧ d.mem[p]? = some a ∧ 1 ≤ a := by
                              rcases HJP.out with ⟨h, _⟩ | ⟨p, h1, h2, h3⟩
                              · exact absurd h hj0
                              · exact ⟨p, h1, h2, h3⟩
                            have n0 := fun q : Behind wr => hmc q.world (HB56.out.trans (q.below.mono HB56.out.size)) p a hpa
                            have hjp : (j : Int) - 1 = (p : Int) := by omega
                            have hpm : p < m := by omega
                            have hj1 : decide (0 < j) = true := decide_eq_true (by omega)
                            have HP2 := Lib.hid hp
                            have HX := Lib.hid hx
                            by_cases hxa : x ≤ a
                            · have d_hxa : decide (x ≤ a) = true := decide_eq_true (by omega)
                              have HF3 : Hid (Cf.check l = false) := by
                                show _ = _
                                rw [HC.out, HI.out, HS.out, show Cf.mems d.mem = false by rw [Cf.mems, HJ.out, HST.out, show decide (a < x) = false from decide_eq_false (by omega)]; simp]
                                simp
                              clear hmc hx ha hp hpa hj0
                              go_wp2
                              refine wp_region_behind (by kernel_rfl) (by kernel_rfl) ?_
                              repeat (go_big_quiet_step ((fail)))
                              refine wpQuiet_nil ?_
                              rintro w7 ⟨⟨w7, hB7⟩, rfl⟩
                              (try dsimp only)
                              go_wp2
                              go_ret
                              exact ⟨by rw [HF3.out]; rfl, HB6.out.trans (hB7.mono HB6.out.size)⟩
                            · have d_hxa : decide (x ≤ a) = false := decide_eq_false (by omega)
                              have HN3 : Hid (Cf.asc 0 d.mem = Cf.asc x (d.mem.drop (j + 1))) := by
                                show _ = _
                                rw [HJ.out, HST.out, show decide (a < x) = true from decide_eq_true (by omega), dx9]
                                rfl
                              clear hmc hx ha hp hpa hj0
                              go_wp2
                              refine wp_region_behind (by kernel_rfl) (by kernel_rfl) ?_
                              repeat (go_big_quiet_step ((fail)))
                              refine wpQuiet_nil ?_
                              rintro w7 ⟨⟨w7, hB7⟩, rfl⟩
                              (try dsimp only)
                              go_wp2
                              go_roundw
                              case rel => exact ⟨j + 1, x, by go_num, by omega, HN3.out, .inr ⟨j, rfl, HX.out, by omega⟩, HB56.out.trans (hB7.mono HB56.out.size)⟩
                              case measure => simp [intOf]; omega
                    · obtain rfl : j = m := by omega
                      have HN2 : Hid (Cf.ascC 0 l = Cf.ascC d.frm (l.drop (k + 1))) := by
                        show _ = _
                        have e : Cf.mems d.mem = true := by rw [Cf.mems, HJ.out, HM.out, List.drop_of_length_le (by omega), decide_eq_true (by have := HM.out; omega)]; rfl
                        rw [HI.out, HS.out, HLT.out, HLE.out, e]
                        rfl
                      go_wp2
                      go_roundw
                      case rel => exact ⟨k + 1, d.frm, by go_num, by omega, HN2.out, .inr ⟨k, d, rfl, HD.out, rfl⟩, HB6.out⟩
                      case measure => simp [intOf]; omega
        · obtain rfl : k = n := by omega
          have HF2 : Hid (Cf.check l = true) := by
            show _ = _
            rw [HC.out, HI.out, HN.out, List.drop_of_length_le (by omega)]
            rfl
          go_wp2
          go_ret
          exact ⟨by rw [HF2.out]; rfl, HB.out⟩
    · have HC : Hid (Cf.check l = false) := by show _ = _; rw [hl]; exact Cf.check_not h1
      have h1' : (c.frm != 1) = true := by simpa using h1
      rw [← hl]
      clear hc hcell hl HL HP hn h0 h1
      go_enter Try.func9, Try.ntmps9
      go_wp2
      go_ret
      exact ⟨by rw [HC.out]; rfl, Below.refl _ _⟩

end Go.Proofs.Ytimlfiomoalieaa
