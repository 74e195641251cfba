/- Configurations: Check, the place of the one at an index, At, Is. -/
import Derived.Test.YtimlfiomoalieaaCfFind
import Derived.Test.YtimlfiomoalieaaCfRef
import Derived.Test.YtimlfiomoalieaaCfInts
namespace Go.Proofs.Ytimlfiomoalieaa
open Go.RowKit

/-- The error that Check tells. -/
def Cf.err (b : Bool) : Int := if b then 0 else 3

set_option maxRecDepth 4000 in
set_option maxHeartbeats 1600000 in
theorem check_cf (v : Value) (l : List Cf.Conf) (w : World) (hv : ReadsC w v l) : Calls Try.prog 11 #[v] w (Looks w (.int .i64 (Cf.err (Cf.check l)))) := by
  obtain ⟨ao, cap, rfl, hc1, hc2⟩ := ReadsC.shape hv
  have HP := Lib.hid (fun h => ReadsC.places hv h)
  obtain ⟨n, hn⟩ : ∃ n, n = l.length := ⟨_, rfl⟩
  rw [← hn] at hc1 HP ⊢
  have HN := Lib.hid hn
  have hnb : n < 9223372036854775808 := by omega
  clear hv
  by_cases h0 : n = 0
  · obtain rfl : l = [] := List.eq_nil_of_length_eq_zero (by omega)
    subst h0
    clear hn
    go_enter Try.func11, Try.ntmps11
    go_wp2
    go_ret
    exact ⟨rfl, Below.refl _ _⟩
  · obtain ⟨c, r, rfl⟩ : ∃ c r, l = c :: r := by
      cases l with
      | nil => simp at hn; omega
      | cons c r => exact ⟨c, r, rfl⟩
    have h0' : ((n : Int) == 0) = false := by simp; omega
    obtain ⟨g, off, rfl, hgl, hc⟩ := HP.out (by omega)
    obtain ⟨uo, uc, _, _, _, hcell⟩ := hc 0 c rfl
    obtain ⟨c0, c1⟩ := hcell w (Below.refl _ _)
    rw [Nat.zero_mul, Nat.add_zero] at c0 c1
    have hn0 : 0 < n := by omega
    obtain ⟨l, hl⟩ : ∃ l, l = c :: r := ⟨_, rfl⟩
    have HL := Lib.hid hl
    by_cases h1 : c.frm = 1
    · have HC : Hid (Cf.check l = Cf.ascC 0 l) := by show _ = _; rw [hl]; exact Cf.check_first h1
      have h1' : (c.frm != 1) = false := by simpa using h1
      rw [← hl] at hc HN ⊢
      have HCC := Lib.hid hc
      clear hc hcell hl HL HP hn h0 c1 h1
      go_enter Try.func11, Try.ntmps11
      go_wp2
      go_loopw [3, 18] (fun y i wr => ∃ (b : Int) (k : Nat), y = .int .i64 b ∧ i = .int .i64 (k : Int) ∧ k ≤ n ∧ Hid (Cf.ascC 0 l = Cf.ascC b (l.drop k)) ∧ Below w.heap.size w wr) (fun _ i _ => n - (intOf i).toNat)
      case atStart => exact ⟨0, 0, rfl, rfl, by omega, by show _ = _; rfl, Below.refl _ _⟩
      case round =>
        obtain ⟨b, k, rfl, rfl, hk, HI, hB⟩ := hrel
        have HB := Lib.hid hB
        clear hB
        by_cases hlt : k < n
        · obtain ⟨d, hd⟩ : ∃ d, l[k]? = some d := ⟨_, List.getElem?_eq_getElem (by have := HN.out; omega)⟩
          obtain ⟨uo, uc, hu, hu1, hu2, hcell⟩ := HCC.out k d hd
          obtain ⟨e0, e1⟩ := hcell wr HB.out
          have HS := Lib.hid (Cf.ascC_step hd b)
          obtain ⟨w3, e3, hl3, hB3, hz3⟩ := box_cnf wr d.frm (.slice uo d.mem.length uc)
          obtain ⟨g0, g1⟩ := Cnf.both hl3
          have HB3 := Lib.hid (HB.out.trans (hB3.mono HB.out.size))
          have hcall := areMembers_any _ _ w3 (hu.below HB3.out)
          have HL3 := Lib.hid hl3
          obtain ⟨t, ht⟩ : ∃ t, t = Cf.mems d.mem := ⟨_, rfl⟩
          rw [← ht] at hcall
          have HT := Lib.hid ht
          dsimp only [Cf.cells] at e3
          clear hcell hd hu ht hl3 hB3 hz3
          by_cases hb : b < d.frm
          · have d1 : decide (d.frm ≤ b) = false := decide_eq_false (by omega)
            have d1' : decide (b < d.frm) = true := decide_eq_true hb
            by_cases hbig : 4294967296 < d.frm
            · have d2 : decide (4294967296 < d.frm) = true := decide_eq_true hbig
              have HF2 : Hid (Cf.check l = false) := by
                show _ = _
                rw [HC.out, HI.out, HS.out, show decide (d.frm ≤ 4294967296) = false from decide_eq_false (by omega)]
                simp
              clear hbig
              go_wp2
              go_ret
              exact ⟨by rw [HF2.out]; rfl, HB3.out⟩
            · have d2 : decide (4294967296 < d.frm) = false := decide_eq_false hbig
              cases t with
              | false =>
                have HF2 : Hid (Cf.check l = false) := by
                  show _ = _
                  rw [HC.out, HI.out, HS.out, ← HT.out]
                  simp
                clear hbig
                go_wp2_with (go_at_call 22; refine hcall.mono ?_; rintro e w' ⟨rfl, rfl⟩)
                go_ret
                exact ⟨by rw [HF2.out]; rfl, HB3.out⟩
              | true =>
                have HN2 : Hid (Cf.ascC 0 l = Cf.ascC d.frm (l.drop (k + 1))) := by
                  show _ = _
                  rw [HI.out, HS.out, d1', show decide (d.frm ≤ 4294967296) = true from decide_eq_true (by omega), ← HT.out]
                  rfl
                clear hbig
                go_wp2_with (go_at_call 22; refine hcall.mono ?_; rintro e w' ⟨rfl, rfl⟩)
                go_roundw
                case rel => exact ⟨d.frm, k + 1, rfl, by go_num, by omega, HN2.out, HB3.out⟩
                case measure => simp [intOf]; omega
          · have d1 : decide (d.frm ≤ b) = true := decide_eq_true (by omega)
            have HF2 : Hid (Cf.check l = false) := by
              show _ = _
              rw [HC.out, HI.out, HS.out, show decide (b < d.frm) = false from decide_eq_false hb]
              simp
            clear hb
            go_wp2
            go_ret
            exact ⟨by rw [HF2.out]; rfl, HB3.out⟩
        · obtain rfl : k = n := by omega
          have HF2 : Hid (Cf.check l = true) := by
            show _ = _
            rw [HC.out, HI.out, HN.out, List.drop_of_length_le (by omega)]
            rfl
          go_wp2
          go_ret
          exact ⟨by rw [HF2.out]; rfl, HB.out⟩
    · have HC : Hid (Cf.check l = false) := by show _ = _; rw [hl]; exact Cf.check_not h1
      have h1' : (c.frm != 1) = true := by simpa using h1
      rw [← hl]
      clear hc hcell hl HL HP hn h0 h1
      go_enter Try.func11, Try.ntmps11
      go_wp2
      go_ret
      exact ⟨by rw [HC.out]; rfl, Below.refl _ _⟩

/-- Where the configuration at an index stands. -/
theorem place_any (v : Value) (l : List Cf.Conf) (x : Int) (w : World) (hv : ReadsC w v l) (hl : Cf.Valid l) (hx : 1 ≤ x) (hn : l.length ≤ 1048576) :
    Calls Try.prog 24 #[v, .int .i64 x] w (Looks w (.int .i64 (Cf.cnt l x - 1 : Nat))) := by
  have h0 : 0 < l.length := by obtain ⟨c, r, rfl, _⟩ := hl.first; simp
  have hcp := hl.cnt_pos hx
  have hfc := Cf.found_cnt l x hl.up
  obtain ⟨ao, cap, rfl, hc1, hc2⟩ := ReadsC.shape hv
  have hb := bsearch_any _ l x w hv hl.up h0 hn
  have hble := Cf.below_le l x
  obtain ⟨B, hB⟩ : ∃ B, B = Cf.below l x := ⟨_, rfl⟩
  obtain ⟨F, hF⟩ : ∃ F, F = Cf.found l x := ⟨_, rfl⟩
  rw [← hB, ← hF] at hb hfc
  rw [← hB] at hble
  obtain ⟨C, hC⟩ : ∃ C, C = Cf.cnt l x := ⟨_, rfl⟩
  rw [← hC] at hfc hcp ⊢
  have HFC := Lib.hid hfc
  clear hB hF hC hv hfc
  go_enter Try.func24, Try.ntmps24
  go_wp2_with fail
  refine hb.mono ?_
  rintro e w' ⟨rfl, hB'⟩
  clear hb
  cases F with
  | true =>
    have HE : Hid (C - 1 = B) := by show _ = _; have := HFC.out; simp at this; omega
    go_wp2
    go_ret
    exact ⟨by rw [HE.out]; rfl, hB'⟩
  | false =>
    have HE : Hid (((C - 1 : Nat) : Int) = (B : Int) - 1) := by show _ = _; have := HFC.out; simp at this; omega
    go_wp2
    go_ret
    exact ⟨ret_int HE.out.symm, hB'⟩

theorem contains_any (v : Value) (l : List Int) (x : Int) (w : World) (hv : ReadsI w v l) (hn : l.length ≤ 1048576) (hs : l.Pairwise (· < ·)) :
    Calls Try.prog 25 #[v, .int .i64 x] w (Looks w (.bool (l.contains x))) := by
  obtain ⟨ao, cap, rfl, hc1, hc2⟩ := ReadsI.shape hv
  have hb := search_ints _ l x w hv hn hs
  have hble := Cf.place_le l x
  obtain ⟨B, hB⟩ : ∃ B, B = Cf.place l x := ⟨_, rfl⟩
  obtain ⟨F, hF⟩ : ∃ F, F = l.contains x := ⟨_, rfl⟩
  rw [← hB, ← hF] at hb
  rw [← hB] at hble
  rw [← hF]
  clear hB hF hv
  go_enter Try.func25, Try.ntmps25
  go_wp2_with (go_at_call 34; refine hb.mono ?_; rintro e w' ⟨rfl, hB'⟩)
  go_ret
  exact ⟨rfl, hB'⟩

/-- A call that tells a slice of numbers, in memory of its own perhaps. -/
def Gives (w : World) (m : List Int) (e : Ending) (w' : World) : Prop := ∃ v', e = .returned v' ∧ ReadsI w' v' m ∧ Below w.heap.size w w'
/-- What At tells. -/
def Cf.atOf (l : List Cf.Conf) (i : Int) : List Int := if Cf.check l = true ∧ 1 ≤ i then Cf.at' l i else []
theorem Cf.atOf_up (l : List Cf.Conf) (i : Int) : (Cf.atOf l i).Pairwise (· < ·) := by
  unfold Cf.atOf
  split
  · rename_i h
    have hv := (Cf.check_iff l).1 h.1
    obtain ⟨c, hc, e⟩ := hv.at h.2
    rw [e]
    exact (hv.mems c (List.mem_of_getElem? hc)).up
  · exact List.Pairwise.nil
theorem Cf.mems_len {l : List Int} (h : Cf.Mems l) : l.length ≤ 9 := by
  have hle : ∀ (l : List Int) (k : Nat), l.Pairwise (· < ·) → (∀ x ∈ l, (k : Int) < x ∧ x ≤ 9) → l.length + k ≤ 9 ∨ l = [] := by
    intro l
    induction l with
    | nil => intro k _ _; exact .inr rfl
    | cons x r ih =>
      intro k hp hx
      obtain ⟨h1, h2⟩ := List.pairwise_cons.1 hp
      have hxk := hx x (by simp)
      left
      rcases ih (k + 1) h2 (fun y hy => ⟨by have := h1 y hy; omega, (hx y (List.mem_cons_of_mem _ hy)).2⟩) with h | h
      · simp; omega
      · subst h; simp; omega
  rcases hle l 0 h.up (fun x hx => ⟨by have := h.low x hx; omega, h.high x hx⟩) with h' | h'
  · omega
  · rw [h']; simp

set_option maxRecDepth 4000 in
set_option maxHeartbeats 1600000 in
theorem at_any (v : Value) (l : List Cf.Conf) (i : Int) (w : World) (hv : ReadsC w v l) (hn : l.length ≤ 1048576) : Calls Try.prog 13 #[v, .int .i64 i] w (Gives w (Cf.atOf l i)) := by
  have HCK := Lib.hid (check_cf v l w hv)
  have HV := Lib.hid hv
  obtain ⟨ao, cap, rfl, hc1, hc2⟩ := ReadsC.shape hv
  obtain ⟨t, ht⟩ : ∃ t, t = Cf.check l := ⟨_, rfl⟩
  have HT := Lib.hid ht
  rw [← ht] at HCK
  by_cases hi : 1 ≤ i
  · have di : decide (i < 1) = false := decide_eq_false (by omega)
    cases t with
    | true =>
      have hval := (Cf.check_iff l).1 ht.symm
      have HE : Hid (Cf.atOf l i = Cf.at' l i) := if_pos ⟨ht.symm, hi⟩
      obtain ⟨c, hc, he⟩ := hval.at hi
      have hcl := Cf.cnt_le l i
      have hcp := hval.cnt_pos hi
      have HPL := Lib.hid (fun (W : World) (h : Below w.heap.size w W) => place_any _ l i W (hv.below h) hval hi hn)
      obtain ⟨p, hp⟩ : ∃ p, p = Cf.cnt l i - 1 := ⟨_, rfl⟩
      rw [← hp] at hc HPL
      have hpn : p < l.length := by omega
      obtain ⟨g, off, rfl, hgl, hcc⟩ := ReadsC.places hv (by omega)
      obtain ⟨uo, uc, hu, hu1, hu2, hcell⟩ := hcc p c hc
      have HM : Hid (c.mem.length ≤ 1048576) := by have := Cf.mems_len (hval.mems c (List.mem_of_getElem? hc)); show _ ≤ _; omega
      have HCE := Lib.hid hcell
      have HU := Lib.hid hu
      have HEE := Lib.hid he
      obtain ⟨n, hn'⟩ : ∃ n, n = l.length := ⟨_, rfl⟩
      have hck := HCK.out
      rw [← hn'] at HPL hpn hc1 hck ⊢
      clear hv hc he hcl hcp hp hcc hcell hu hval hi ht HCK hn'
      rw [show Cf.err true = 0 from rfl] at hck
      go_enter Try.func13, Try.ntmps13
      go_wp2_with fail
      refine hck.mono ?_
      rintro e w1 ⟨rfl, hB1⟩
      have HB1 := Lib.hid hB1
      have hpl := HPL.out w1 hB1
      clear hB1 hck
      go_wp2_with fail
      refine hpl.mono ?_
      rintro e w2 ⟨rfl, hB2⟩
      have HB2 := Lib.hid (HB1.out.trans (hB2.mono HB1.out.size))
      obtain ⟨c0, c1⟩ := HCE.out w2 HB2.out
      clear hB2 hpl
      go_wp2_with fail
      refine (clone_ints _ c.mem _ (HU.out.below HB2.out) HM.out).mono ?_
      rintro e w3 ⟨v', rfl, ho, hB3⟩
      have HO := Lib.hid (RowI.of_owns ho).reads
      have HB3 := Lib.hid (HB2.out.trans (hB3.mono HB2.out.size))
      clear ho hB3
      go_wp2
      go_ret
      exact ⟨_, rfl, by rw [HE.out, HEE.out]; exact HO.out, HB3.out⟩
    | false =>
      have HE : Hid (Cf.atOf l i = []) := if_neg (fun h => by rw [h.1] at ht; cases ht)
      have hck := HCK.out
      rw [show Cf.err false = 3 from rfl] at hck
      clear hv hi ht HCK
      go_enter Try.func13, Try.ntmps13
      go_wp2_with fail
      refine hck.mono ?_
      rintro e w1 ⟨rfl, hB1⟩
      go_wp2
      go_ret
      exact ⟨_, rfl, by rw [HE.out]; exact ReadsI.empty _, hB1⟩
  · have di : decide (i < 1) = true := decide_eq_true (by omega)
    have HE : Hid (Cf.atOf l i = []) := if_neg (fun h => hi h.2)
    have hck := HCK.out
    clear hv hi ht HCK
    cases t with
    | true =>
      rw [show Cf.err true = 0 from rfl] at hck
      go_enter Try.func13, Try.ntmps13
      go_wp2_with fail
      refine hck.mono ?_
      rintro e w1 ⟨rfl, hB1⟩
      go_wp2
      go_ret
      exact ⟨_, rfl, by rw [HE.out]; exact ReadsI.empty _, hB1⟩
    | false =>
      rw [show Cf.err false = 3 from rfl] at hck
      go_enter Try.func13, Try.ntmps13
      go_wp2_with fail
      refine hck.mono ?_
      rintro e w1 ⟨rfl, hB1⟩
      go_wp2
      go_ret
      exact ⟨_, rfl, by rw [HE.out]; exact ReadsI.empty _, hB1⟩

theorem Cf.atOf_len (l : List Cf.Conf) (i : Int) : (Cf.atOf l i).length ≤ 1048576 := by
  unfold Cf.atOf
  split
  · rename_i h
    have hv := (Cf.check_iff l).1 h.1
    obtain ⟨c, hc, e⟩ := hv.at h.2
    rw [e]
    have := Cf.mems_len (hv.mems c (List.mem_of_getElem? hc))
    omega
  · simp

theorem is_any (v : Value) (l : List Cf.Conf) (i x : Int) (w : World) (hv : ReadsC w v l) (hn : l.length ≤ 1048576) : Calls Try.prog 14 #[v, .int .i64 i, .int .i64 x] w (Looks w (.bool ((Cf.atOf l i).contains x))) := by
  have hat := at_any v l i w hv hn
  obtain ⟨ao, cap, rfl, hc1, hc2⟩ := ReadsC.shape hv
  obtain ⟨b, hb⟩ : ∃ b, b = (Cf.atOf l i).contains x := ⟨_, rfl⟩
  rw [← hb]
  have HBB := Lib.hid hb
  clear hv hb
  go_enter Try.func14, Try.ntmps14
  go_wp2_with fail
  refine hat.mono ?_
  rintro e w1 ⟨v', rfl, hr, hB1⟩
  have hcn := contains_any v' _ x w1 hr (Cf.atOf_len l i) (Cf.atOf_up l i)
  obtain ⟨ao', cap', hv', _, _⟩ := ReadsI.shape hr
  rw [← HBB.out] at hcn
  clear hr hat
  subst hv'
  go_wp2_with fail
  refine hcn.mono ?_
  rintro e w2 ⟨rfl, hB2⟩
  go_wp2
  go_ret
  exact ⟨rfl, hB1.trans (hB2.mono hB1.size)⟩

end Go.Proofs.Ytimlfiomoalieaa
