/- ConfChanges: Change against the document. -/
import Derived.Test.YtimlfiomoalieaaCfTrim
import Derived.Test.YtimlfiomoalieaaCfRefD
namespace Go.Proofs.Ytimlfiomoalieaa
open Go.RowKit

/-- An array of two numbers that came in. -/
theorem came_two {H : Type} {enc : TypeId × Value → H} {P : Program} {w : World} {b0 base : Nat} {sp : Nat → Bool} {held : Bool} {t e : TypeId} {v : Value} {d : DataW H} {p : List MemPlace} (ht : P.underlying t = some (.array 2 e)) (he : P.underlying e = some (.int .i64)) (hce : P.cellsOf e = 1) (hct : P.cellsOf t = 2)
    (hv : Value.okWide P w .any b0 t v) (h : DataW.Trod enc P w base sp held t v d p) : ∃ x0 x1 : Int, v = .agg #[.int .i64 x0, .int .i64 x1] := by
  obtain ⟨cs, rfl, hsz⟩ : ∃ cs, v = .agg cs ∧ cs.size = P.cellsOf t := by
    simp only [Value.okWide, ht] at hv
    obtain ⟨cs, h1, h2, _⟩ := hv
    exact ⟨cs, h1, h2⟩
  obtain ⟨fuel, hf⟩ := h
  obtain ⟨xs, m, rfl, _, _, hn, hel⟩ := DataW.trod_array ht hf
  rw [hct] at hsz
  have one : ∀ i, i < 2 → ∃ x : Int, cs[i]? = some (.int .i64 x) := by
    intro i hi
    have h1 := hel i hi
    rw [List.getElem?_eq_getElem (by omega), hce, Nat.mul_one] at h1
    obtain ⟨x, e1, _, hw⟩ := DataW.trod_int he h1
    refine ⟨x, ?_⟩
    have h2 := congrArg (fun l => l[0]?) e1
    simpa [List.getElem?_take, List.getElem?_drop, Value.cells] using h2
  obtain ⟨x0, e0⟩ := one 0 (by omega)
  obtain ⟨x1, e1⟩ := one 1 (by omega)
  refine ⟨x0, x1, ?_⟩
  congr 1
  refine Array.ext (by simpa using hsz) (fun i h1 h2 => ?_)
  have hi : i = 0 ∨ i = 1 := by simp at h2; omega
  rcases hi with rfl | rfl
  · obtain ⟨_, q⟩ := Array.getElem?_eq_some_iff.1 e0; simpa using q
  · obtain ⟨_, q⟩ := Array.getElem?_eq_some_iff.1 e1; simpa using q

set_option maxRecDepth 4000 in
set_option maxHeartbeats 6400000 in
theorem confChanges_any (v : Value) (l : List Cf.Conf) (i kind node : Int) (w : World) (hv : ReadsC w v l) : Calls Try.prog 5 #[v, .int .i64 i, .agg #[.int .i64 kind, .int .i64 node]] w (Truly w) := by
  have HAW := Lib.hid (fun (W : World) => awakeC_any W)
  obtain ⟨w1, e1⟩ : ∃ w1, w.alloc (.cells #[.int .i64 kind, .int .i64 node] 33) = w1 := ⟨_, rfl⟩
  have hl1 : Lies w1 w.heap.size 33 #[.int .i64 kind, .int .i64 node] := by rw [← e1]; exact Lies.new w _ _
  have hB1 : Below w.heap.size w w1 := by rw [← e1]; exact (Below.refl _ w).alloc (Nat.le_refl _) _
  have hv1 := hv.below hB1
  have hlg := large_cf v l w1 hv1
  obtain ⟨ao, cap, rfl, hc1, hc2⟩ := ReadsC.shape hv
  have HV := Lib.hid hv1
  obtain ⟨n, hn⟩ : ∃ n, n = l.length := ⟨_, rfl⟩
  rw [← hn] at hlg HV hc1 ⊢
  have HN := Lib.hid hn
  have p0 := hl1.cell 0 _ rfl
  have p1 := hl1.cell 1 _ rfl
  have HL1 := Lib.hid hl1; have HB1 := Lib.hid hB1
  clear hv hv1 hn hl1 hB1
  go_enter Try.func5, Try.ntmps5
  go_wp2_with fail
  refine hlg.mono ?_
  rintro e w2 ⟨b, rfl, rfl, hsm⟩
  have haw := HAW.out w1
  clear hlg
  cases b with
  | true =>
    clear hsm
    go_wp2_with fail
    refine haw.mono ?_
    rintro e w3 ⟨rfl, hB3⟩
    go_wp2
    go_ret
    exact truly_of (HB1.out.trans (hB3.mono HB1.out.size))
  | false =>
    have hsm' := hsm rfl
    have HSM := Lib.hid hsm'
    have hch := change_any _ l i kind node w1 HV.out (by omega)
    have HRC := Lib.hid (fun (W : World) (h : Below w1.heap.size w1 W) => refCheck_cf _ l W (HV.out.below h))
    have HRA := Lib.hid (fun (W : World) (h : Below w1.heap.size w1 W) (j : Int) => refAt_any _ l j W (HV.out.below h))
    obtain ⟨X, hX⟩ : ∃ X, X = Cf.changeOf l i kind node := ⟨_, rfl⟩
    have HX := Lib.hid hX
    unfold Changes at hch
    rw [← hX] at hch
    obtain ⟨t, ht⟩ : ∃ t, t = Cf.check l := ⟨_, rfl⟩
    rw [← ht] at HRC
    have HT := Lib.hid ht
    obtain ⟨x, e⟩ := X
    dsimp only at hch
    clear hsm hsm' hX ht haw
    go_wp2_with fail
    refine hch.mono ?_
    rintro ee w3 ⟨v3, rfl, hr3, hB3⟩
    have HR3 := Lib.hid hr3
    have HB3 := Lib.hid hB3
    obtain ⟨ao3, cap3, hs3, hq1, hq2⟩ := ReadsC.shape hr3
    obtain ⟨xn, hxn⟩ : ∃ n, n = x.length := ⟨_, rfl⟩
    rw [← hxn] at hs3 hq1
    have HXN := Lib.hid hxn
    subst hs3
    have hrc := HRC.out w3 hB3
    clear hr3 hB3 hch hxn
    go_wp2_with fail
    refine hrc.mono ?_
    rintro ee w4 ⟨rfl, hB4⟩
    have HB4 := Lib.hid (HB3.out.trans (hB4.mono HB3.out.size))
    have HR4 := Lib.hid (HR3.out.below hB4)
    have HLL := Lib.hid (HL1.out.below HB4.out HL1.out.lt)
    have haw := HAW.out w4
    clear hrc hB4
    cases t with
    | false =>
      have HXE : Hid ((x, e) = (([] : List Cf.Conf), (3 : Int))) := by show _ = _; rw [HX.out, Cf.changeOf, if_pos HT.out.symm]
      obtain rfl : e = 3 := congrArg Prod.snd HXE.out
      obtain rfl : xn = 0 := by have := congrArg (fun p => p.1.length) HXE.out; have h2 := HXN.out; simp at this; rw [h2, this]; rfl
      go_wp2_with fail
      refine haw.mono ?_
      rintro ee w5 ⟨rfl, hB5⟩
      go_wp2
      go_ret
      exact truly_of (HB1.out.trans ((HB4.out.mono HB1.out.size).trans (hB5.mono (Nat.le_trans HB1.out.size HB4.out.size))))
    | true =>
      have HVAL := Lib.hid ((Cf.check_iff l).1 HT.out.symm)
      by_cases hr : i < 1 ∨ 4294967292 < i
      · have HXE : Hid ((x, e) = (([] : List Cf.Conf), (6 : Int))) := by show _ = _; rw [HX.out, Cf.changeOf, if_neg (by rw [← HT.out]; simp), if_pos hr]
        obtain rfl : e = 6 := congrArg Prod.snd HXE.out
        obtain rfl : xn = 0 := by have := congrArg (fun p => p.1.length) HXE.out; have h2 := HXN.out; simp at this; rw [h2, this]; rfl
        obtain ⟨b1, hb1⟩ : ∃ b1, decide (i < 1) = b1 := ⟨_, rfl⟩
        obtain ⟨b2, hb2⟩ : ∃ b2, decide (4294967292 < i) = b2 := ⟨_, rfl⟩
        have HBB : Hid (b1 = true ∨ b2 = true) := by
          rcases hr with h | h
          · exact .inl (by rw [← hb1]; exact decide_eq_true h)
          · exact .inr (by rw [← hb2]; exact decide_eq_true h)
        clear hr
        cases b1 <;> (try cases b2)
        all_goals first
          | (rcases HBB.out with h | h <;> exact absurd h (by decide))
          | (go_wp2_with fail
             refine haw.mono ?_
             rintro ee w5 ⟨rfl, hB5⟩
             go_wp2
             go_ret
             exact truly_of (HB1.out.trans ((HB4.out.mono HB1.out.size).trans (hB5.mono (Nat.le_trans HB1.out.size HB4.out.size)))))
      · have db1 : decide (i < 1) = false := decide_eq_false (by omega)
        have db2 : decide (4294967292 < i) = false := decide_eq_false (by omega)
        have i1 : 1 ≤ i := by omega
        have i2 : i ≤ 4294967292 := by omega
        obtain ⟨c, r, hcr, _⟩ := HVAL.out.first
        obtain ⟨z, hz⟩ : ∃ z, l[l.length - 1]? = some z := ⟨_, List.getElem?_eq_getElem (by rw [hcr]; simp)⟩
        have hzl := List.mem_of_getElem? hz
        have hMZ := HVAL.out.mems z hzl
        have hrf := refChange_any _ l z i kind node w4 (HV.out.below HB4.out) hz (by have := HSM.out.1; omega) (by have := Cf.mems_len hMZ; omega) i1 i2
        obtain ⟨m, hm⟩ : ∃ m, m = Cf.changed z.mem kind node := ⟨_, rfl⟩
        have HXX : Hid ((x, e) = if m = [] then (([] : List Cf.Conf), (16 : Int)) else (Cf.change l z i m, 0)) := by
          show _ = _
          rw [HX.out, Cf.changeOf, if_neg (by rw [← HT.out]; simp), if_neg (by omega), hz, hm]
        rw [← hm] at hrf
        have HMM : Hid (m ≠ [] → Cf.Mems m) := by intro h; rw [hm] at h ⊢; exact hMZ.changed kind node h
        have HVC := Lib.hid (fun (h : m ≠ []) => HVAL.out.change hzl i1 i2 (HMM.out h))
        obtain ⟨o0, o1⟩ : w4.cell? ⟨w.heap.size, 0, none⟩ = some (.int .i64 kind) ∧ w4.cell? ⟨w.heap.size, 1, none⟩ = some (.int .i64 node) := ⟨HLL.out.cell 0 _ rfl, HLL.out.cell 1 _ rfl⟩
        clear hr hcr hz hzl hMZ hm p0 p1 haw
        go_wp2_with fail
        refine hrf.mono ?_
        rintro ee w5 ⟨v5, rfl, hr5, hB5⟩
        have HB5 := Lib.hid (HB4.out.trans (hB5.mono HB4.out.size))
        have HR5 := Lib.hid (HR4.out.below hB5)
        have haw := HAW.out w5
        by_cases hm0 : m = []
        · have HXE : Hid ((x, e) = (([] : List Cf.Conf), (16 : Int))) := by show _ = _; rw [HXX.out, if_pos hm0]
          obtain rfl : e = 16 := congrArg Prod.snd HXE.out
          obtain rfl : xn = 0 := by have := congrArg (fun p => p.1.length) HXE.out; have h2 := HXN.out; simp at this; rw [h2, this]; rfl
          rw [decide_eq_false (fun h : m ≠ [] => h hm0)]
          clear hrf hr5 hB5 hm0
          go_wp2_with fail
          refine haw.mono ?_
          rintro ee w6 ⟨rfl, hB6⟩
          go_wp2
          go_ret
          exact truly_of (HB1.out.trans ((HB5.out.mono HB1.out.size).trans (hB6.mono (Nat.le_trans HB1.out.size HB5.out.size))))
        · have HXE : Hid ((x, e) = (Cf.change l z i m, 0)) := by show _ = _; rw [HXX.out, if_neg hm0]
          obtain rfl : e = 0 := congrArg Prod.snd HXE.out
          have hxe : x = Cf.change l z i m := congrArg Prod.fst HXE.out
          have hne : m ≠ [] := hm0
          rw [decide_eq_true hne]
          have hr5' := hr5 hm0
          rw [← hxe] at hr5'
          have hvc := HVC.out hm0
          rw [← hxe] at hvc
          have HVX := Lib.hid hvc.1
          have HAX := Lib.hid hvc.2
          have hsame := same_cf _ _ x x w5 HR5.out hr5'
          rw [decide_eq_true (rfl : x = x)] at hsame
          obtain ⟨ao5, cap5, hs5, _, _⟩ := ReadsC.shape hr5'
          obtain ⟨yn, hyn⟩ : ∃ yn, yn = x.length := ⟨_, rfl⟩
          rw [← hyn] at hs5
          subst hs5
          have HXL : Hid (x.length ≤ 1000000) := by
            show _ ≤ _
            rw [hxe, Cf.change, List.length_append]
            have h1 := List.length_filter_le (fun c : Cf.Conf => decide (c.frm < Cf.from' z i)) l
            have h2 := HSM.out.1
            simp only [List.length_cons, List.length_nil]
            omega
          clear hrf hr5 hB5 hm0 hr5' hvc hxe haw hyn hne
          go_wp2_with fail
          refine hsame.mono ?_
          rintro ee w6 ⟨rfl, hB6⟩
          have HB6 := Lib.hid (HB5.out.trans (hB6.mono HB5.out.size))
          have HR6 := Lib.hid (HR5.out.below hB6)
          have hrx := refCheck_cf _ x w6 HR6.out
          rw [(Cf.check_iff x).2 HVX.out] at hrx
          clear hsame hB6
          go_wp2_with fail
          refine hrx.mono ?_
          rintro ee w7 ⟨rfl, hB7⟩
          have HB7 := Lib.hid (HB6.out.trans (hB7.mono HB6.out.size))
          have HR7 := Lib.hid (HR6.out.below hB7)
          clear hrx hB7 o0 o1
          go_wp2
          go_loopw [11] (fun j wr => ∃ k : Nat, j = .int .i64 ((k : Int) + 1) ∧ k ≤ 3 ∧ Below w7.heap.size w7 wr) (fun j _ => 4 - (intOf j).toNat)
          case atStart => exact ⟨0, rfl, by omega, Below.refl _ _⟩
          case round =>
            obtain ⟨k, rfl, hk, hB⟩ := hrel
            have HB := Lib.hid hB
            have HBW := Lib.hid (HB7.out.trans (hB.mono HB7.out.size))
            clear hB
            obtain ⟨j, hj⟩ : ∃ j, (k : Int) + 1 = j := ⟨_, rfl⟩
            have HJ := Lib.hid hj
            have hj1 : 1 ≤ j := by omega
            rw [hj]
            by_cases hlt : k < 3
            · have hj4 : j < 4 := by omega
              have dj : decide (j < 4) = true := decide_eq_true hj4
              obtain ⟨q, hq⟩ : ∃ q, i + j = q := ⟨_, rfl⟩
              have hqb : q ≤ 9223372036854775807 := by omega
              have hqb0 : 1 ≤ q := by omega
              have hA := at_any _ x q wr (HR7.out.below HB.out) (by have := HXL.out; omega)
              have HAE : Hid (Cf.atOf x q = Cf.at' l q) := by
                show _ = _
                rw [Cf.atOf, if_pos ⟨(Cf.check_iff x).2 HVX.out, hqb0⟩]
                exact HAX.out q (by omega) (by omega)
              obtain ⟨m', hm'⟩ : ∃ m', m' = Cf.at' l q := ⟨_, rfl⟩
              rw [HAE.out, ← hm'] at hA
              have HM' := Lib.hid hm'
              have hj9 : j + 1 = ((k + 1 : Nat) : Int) + 1 := by omega
              have HJ9 := Lib.hid hj9
              clear hj hm' hj9 HAE
              go_wp2_with fail
              refine hA.mono ?_
              rintro ee w8 ⟨v8, rfl, hr8, hB8⟩
              obtain ⟨ao8, cap8, hs8, _, _⟩ := ReadsI.shape hr8
              have HR8 := Lib.hid hr8
              have HB8 := Lib.hid (HBW.out.trans (hB8.mono HBW.out.size))
              have HB78 := Lib.hid (HB.out.trans (hB8.mono HB.out.size))
              have hra := HRA.out w8 HB8.out q
              rw [← HM'.out] at hra
              subst hs8
              clear hA hr8 hB8
              go_wp2_with fail
              refine hra.mono ?_
              rintro ee w9 ⟨v9, rfl, hr9, rfl⟩
              have hints := ints_any _ _ m' m' w8 HR8.out hr9
              rw [decide_eq_true (rfl : m' = m')] at hints
              obtain ⟨ao9, cap9, hs9, _, _⟩ := ReadsI.shape hr9
              subst hs9
              clear hra hr9
              go_wp2_with fail
              refine hints.mono ?_
              rintro ee w10 ⟨rfl, hB10⟩
              have HB10 := Lib.hid (HB78.out.trans (hB10.mono HB78.out.size))
              clear hints hB10
              go_wp2
              go_roundw
              case rel => exact ⟨k + 1, by rw [HJ9.out], by omega, HB10.out⟩
              case measure => have := HJ.out; simp [intOf]; omega
            · have hj4 : ¬ j < 4 := by omega
              have dj : decide (j < 4) = false := decide_eq_false hj4
              have haw := HAW.out wr
              clear hj
              go_wp2_with fail
              refine haw.mono ?_
              rintro ee w11 ⟨rfl, hB11⟩
              go_wp2
              go_ret
              exact truly_of (HB1.out.trans ((HBW.out.mono HB1.out.size).trans (hB11.mono (Nat.le_trans HB1.out.size HBW.out.size))))

end Go.Proofs.Ytimlfiomoalieaa
