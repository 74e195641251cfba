/- Majorities: the program's, and the document's. -/
import Derived.Test.YtimlfiomoalieaaCfAt
namespace Go.Proofs.Ytimlfiomoalieaa
open Go.RowKit

/-- Each number once, ascending, in memory of the call's own. -/
theorem distinct_any (v : Value) (l : List Int) (w : World) (hv : ReadsI w v l) (hn : l.length ≤ 1048576) : Calls Try.prog 26 #[v] w (Gives w (dist l)) := by
  have hcl := clone_ints v l w hv hn
  obtain ⟨ao, cap, rfl, hc1, hc2⟩ := ReadsI.shape hv
  clear hv
  go_enter Try.func26, Try.ntmps26
  go_wp2_with fail
  refine hcl.mono ?_
  rintro e w1 ⟨v1, rfl, ho, hB1⟩
  have hr1 := RowI.of_owns ho
  obtain ⟨ao1, cap1, hs1, _, _⟩ := ReadsI.shape hr1.reads
  have hso := sort_ints v1 l w1 w.heap.size hr1 hn
  clear ho hcl hr1
  subst hs1
  go_wp2_with fail
  refine hso.mono ?_
  rintro e w2 ⟨rfl, hr2, hB2⟩
  have hco := compact_ints _ _ w2 w.heap.size hr2
  have HB2 := Lib.hid (hB1.trans hB2)
  clear hso hr2
  go_wp2_with fail
  refine hco.mono ?_
  rintro e w3 ⟨v3, rfl, hr3, hB3⟩
  have HR := Lib.hid hr3.reads
  have HB3 := Lib.hid (HB2.out.trans hB3)
  obtain ⟨ao3, cap3, hs3, _, _⟩ := ReadsI.shape hr3.reads
  clear hco hr3
  subst hs3
  go_wp2
  go_ret
  exact ⟨_, rfl, HR.out, HB3.out⟩

theorem Cf.count_take {l : List Int} {x : Int} {k : Nat} (h : l[k]? = some x) (p : Int → Bool) : (l.take (k + 1)).countP p = (l.take k).countP p + (if p x = true then 1 else 0) := by
  rw [List.take_add_one, h, List.countP_append]
  simp [List.countP_cons]
theorem dist_len (l : List Int) : (dist l).length ≤ l.length := by
  have h := Lib.compact_length_le (l.mergeSort fun x y => decide (x ≤ y))
  rw [List.length_mergeSort] at h
  exact h

set_option maxRecDepth 4000 in
set_option maxHeartbeats 1600000 in
theorem majority_any (v u : Value) (l o : List Int) (w : World) (hv : ReadsI w v l) (hu : ReadsI w u o) (hn : l.length ≤ 1048576) (hm : o.length ≤ 1048576) :
    Calls Try.prog 16 #[v, u] w (Looks w (.bool (Cf.maj l o))) := by
  have hd1 := distinct_any v l w hv hn
  obtain ⟨ao, cap, rfl, hc1, hc2⟩ := ReadsI.shape hv
  obtain ⟨bo, dap, rfl, he1, he2⟩ := ReadsI.shape hu
  have HU := Lib.hid hu
  have HMJ := Lib.hid (Cf.maj_up (l := l) (of := o) (dist_up l) (mem_dist l) (mem_dist o))
  have hdl := dist_len l
  have hdm := dist_len o
  obtain ⟨d, hd⟩ : ∃ d, d = dist l := ⟨_, rfl⟩
  obtain ⟨f, hf⟩ : ∃ f, f = dist o := ⟨_, rfl⟩
  have HFU : Hid (f.Pairwise (· < ·)) := by show List.Pairwise _ _; rw [hf]; exact dist_up o
  have HFL : Hid (f.length ≤ 1048576) := by show _ ≤ _; rw [hf]; omega
  rw [← hd, ← hf] at HMJ
  rw [← hd] at hd1 hdl
  have hdl' : d.length ≤ 1048576 := by omega
  have HDT := Lib.hid hf
  clear hv hu hd hf hdl hdm
  go_enter Try.func16, Try.ntmps16
  go_wp2_with fail
  refine hd1.mono ?_
  rintro e w1 ⟨v1, rfl, hr1, hB1⟩
  have HR1 := Lib.hid hr1
  have HB1 := Lib.hid hB1
  have hd2 := distinct_any _ o w1 (HU.out.below hB1) hm
  rw [← HDT.out] at hd2
  obtain ⟨ao1, cap1, hs1, hq1, hq2⟩ := ReadsI.shape hr1
  clear hd1 hr1 hB1
  subst hs1
  go_wp2_with fail
  refine hd2.mono ?_
  rintro e w2 ⟨v2, rfl, hr2, hB2⟩
  have HR1' := Lib.hid (HR1.out.below hB2)
  have HB2 := Lib.hid (HB1.out.trans (hB2.mono HB1.out.size))
  have HR2 := Lib.hid hr2
  obtain ⟨ao2, cap2, hs2, hq3, hq4⟩ := ReadsI.shape hr2
  subst hs2
  have HP := Lib.hid (fun h => ReadsI.places HR1'.out h)
  obtain ⟨n, hnn⟩ : ∃ n, n = d.length := ⟨_, rfl⟩
  rw [← hnn] at HP hdl' hq1 ⊢
  have HN := Lib.hid hnn
  have hnb : n < 9223372036854775808 := by omega
  clear hd2 hr2 hB2 hnn
  go_wp2
  go_loopw [5, 14] (fun y i wr => ∃ k : Nat, y = .int .i64 (((d.take k).countP fun x => f.contains x : Nat) : Int) ∧ i = .int .i64 (k : Int) ∧ k ≤ n ∧ Below w2.heap.size w2 wr) (fun _ i _ => n - (intOf i).toNat)
  case atStart => exact ⟨0, rfl, rfl, by omega, Below.refl _ _⟩
  case round =>
    obtain ⟨k, rfl, rfl, hk, hB⟩ := hrel
    have HB := Lib.hid hB
    clear hB
    have hcle : (d.take k).countP (fun x => f.contains x) ≤ k := by
      have h1 : (d.take k).countP (fun x => f.contains x) ≤ (d.take k).length := List.countP_le_length
      rw [List.length_take] at h1
      omega
    by_cases hlt : k < n
    · obtain ⟨x, hx⟩ : ∃ x, d[k]? = some x := ⟨_, List.getElem?_eq_getElem (by have := HN.out; omega)⟩
      obtain ⟨g, off, e, _, hc⟩ := HP.out (by have := HN.out; omega)
      cases e
      have hc0 := hc wr HB.out k x hx
      have HCT := Lib.hid (Cf.count_take hx fun x => f.contains x)
      have hcn := contains_any _ f x wr (HR2.out.below HB.out) HFL.out HFU.out
      obtain ⟨q, hq⟩ : ∃ q, q = (d.take k).countP fun x => f.contains x := ⟨_, rfl⟩
      rw [← hq] at HCT hcle ⊢
      obtain ⟨t, ht⟩ : ∃ t, t = f.contains x := ⟨_, rfl⟩
      have HCT2 : Hid ((d.take (k + 1)).countP (fun x => f.contains x) = q + if t = true then 1 else 0) := by show _ = _; rw [HCT.out, ht]
      rw [← ht] at hcn
      clear hc hx hq ht HCT
      go_wp2_with fail
      refine hcn.mono ?_
      rintro e w3 ⟨rfl, hB3⟩
      have HB3 := Lib.hid (HB.out.trans (hB3.mono HB.out.size))
      clear hcn hB3
      cases t with
      | true =>
        have HCT3 : Hid ((d.take (k + 1)).countP (fun x => f.contains x) = q + 1) := HCT2.out
        go_wp2
        go_roundw
        case rel => exact ⟨k + 1, by rw [HCT3.out]; go_num, by go_num, by omega, HB3.out⟩
        case measure => simp [intOf]; omega
      | false =>
        have HCT3 : Hid ((d.take (k + 1)).countP (fun x => f.contains x) = q) := HCT2.out
        go_wp2
        go_roundw
        case rel => exact ⟨k + 1, by rw [HCT3.out], by go_num, by omega, HB3.out⟩
        case measure => simp [intOf]; omega
    · obtain rfl : k = n := by omega
      have HQ : Hid (d.take k = d) := by show _ = _; rw [HN.out, List.take_length]
      rw [HQ.out] at hcle ⊢
      obtain ⟨q, hq⟩ : ∃ q, q = d.countP fun x => f.contains x := ⟨_, rfl⟩
      have HM : Hid (Cf.maj l o = decide (k < 2 * q)) := by show _ = _; rw [← HMJ.out, ← HN.out, hq]
      rw [← hq] at hcle ⊢
      clear hq
      obtain ⟨hf, hhf⟩ : ∃ hf, hf = k / 2 := ⟨_, rfl⟩
      have hdiv : (k : Int) / 2 = (hf : Int) := by omega
      by_cases hgt : hf < q
      · have dgt : decide (hf < q) = true := decide_eq_true hgt
        have HE : Hid (Cf.maj l o = true) := by show _ = _; rw [HM.out]; exact decide_eq_true (by omega)
        clear hhf
        go_wp2
        go_ret
        exact ⟨by rw [HE.out]; simp, HB2.out.trans (HB.out.mono HB2.out.size)⟩
      · have dgt : decide (hf < q) = false := decide_eq_false hgt
        have HE : Hid (Cf.maj l o = false) := by show _ = _; rw [HM.out]; exact decide_eq_false (by omega)
        clear hhf
        go_wp2
        go_ret
        exact ⟨by rw [HE.out]; simp, HB2.out.trans (HB.out.mono HB2.out.size)⟩

theorem run_first_ints (w : World) (ao : Option Addr) (n cap k : Nat) (hk : k ≤ cap) : (Instr.slice 25 (.slice ao n cap) none (some (.int .i64 (k : Int))) none).run Try.prog w = .ok (.slice ao k cap) w := by
  have he : Try.prog.elem 25 = 3 := by kernel_rfl
  have hi : (Try.prog.info? 3).isSome = true := by kernel_rfl
  obtain ⟨i, hi⟩ := Option.isSome_iff_exists.1 hi
  have hrun := run_slice_h (P := Try.prog) (w := w) 25 ao n cap (by rw [he]; exact Try.underlying25) .i64 (k : Int) (by omega) (by omega)
  rw [he] at hrun
  refine hrun.trans ?_
  rw [run_sizeOf _ hi]
  simp only [Result.andThen, Int.toNat_natCast, sliced, Nat.sub_zero, Nat.zero_mul]
  by_cases h0 : cap = 0
  · rw [if_pos h0]
  · rw [if_neg h0]
    cases ao with
    | none => rfl
    | some a => rw [Option.map_some, show a.add 0 = a from by unfold Addr.add; split <;> simp_all]

set_option maxRecDepth 4000 in
set_option maxHeartbeats 1600000 in
theorem refMaj_any (v u : Value) (l o : List Int) (w : World) (hv : ReadsI w v l) (hu : ReadsI w u o) (hn : l.length ≤ 1048576) :
    Calls Try.prog 17 #[v, u] w (Looks w (.bool (Cf.maj l o))) := by
  obtain ⟨ao, cap, rfl, hc1, hc2⟩ := ReadsI.shape hv
  obtain ⟨bo, dap, rfl, he1, he2⟩ := ReadsI.shape hu
  have HU := Lib.hid hu
  have HV := Lib.hid hv
  have HP := Lib.hid (fun h => ReadsI.places hv h)
  obtain ⟨n, hnn⟩ : ∃ n, n = l.length := ⟨_, rfl⟩
  rw [← hnn] at HP HV hc1 hn ⊢
  have HN := Lib.hid hnn
  have hnb : n < 9223372036854775808 := by omega
  clear hv hu hnn
  go_enter Try.func17, Try.ntmps17
  go_wp2
  go_loopw [5, 6, 7] (fun y z i wr => ∃ k : Nat, y = .int .i64 ((Cf.firsts (l.take k)).length : Int) ∧ z = .int .i64 (((Cf.firsts (l.take k)).countP fun x => o.contains x : Nat) : Int) ∧ i = .int .i64 (k : Int) ∧ k ≤ n ∧ Below w.heap.size w wr) (fun _ _ i _ => n - (intOf i).toNat)
  case atStart => exact ⟨0, rfl, rfl, rfl, by omega, Below.refl _ _⟩
  case round =>
    obtain ⟨k, rfl, rfl, rfl, hk, hB⟩ := hrel
    have HB := Lib.hid hB
    clear hB
    have hfl : (Cf.firsts (l.take k)).length ≤ k := by
      have : ∀ (m : List Int), (Cf.firsts m).length ≤ m.length := by
        intro m
        suffices h : ∀ (m acc : List Int), (m.foldl (fun acc x => if x ∈ acc then acc else acc ++ [x]) acc).length ≤ acc.length + m.length by simpa [Cf.firsts] using h m []
        intro m
        induction m with
        | nil => intro acc; simp
        | cons y r ih =>
          intro acc
          rw [List.foldl_cons]
          refine Nat.le_trans (ih _) ?_
          split <;> simp <;> omega
      have := this (l.take k)
      rw [List.length_take] at this
      omega
    have hcl : (Cf.firsts (l.take k)).countP (fun x => o.contains x) ≤ (Cf.firsts (l.take k)).length := List.countP_le_length
    obtain ⟨a, ha⟩ : ∃ a, a = (Cf.firsts (l.take k)).length := ⟨_, rfl⟩
    obtain ⟨c, hc⟩ : ∃ c, c = (Cf.firsts (l.take k)).countP fun x => o.contains x := ⟨_, rfl⟩
    by_cases hlt : k < n
    · obtain ⟨x, hx⟩ : ∃ x, l[k]? = some x := ⟨_, List.getElem?_eq_getElem (by have := HN.out; omega)⟩
      obtain ⟨g, off, e, _, hcc⟩ := HP.out (by omega)
      cases e
      have hc0 := fun p : Behind wr => hcc p.world (HB.out.trans (p.below.mono HB.out.size)) k x hx
      have HC1 := Lib.hid (fun (W : World) (hW : Below w.heap.size w W) => hcc W hW k x hx)
      have htk : l.take (k + 1) = l.take k ++ [x] := by rw [List.take_add_one, hx]; rfl
      obtain ⟨t, ht⟩ : ∃ t, t = (l.take k).contains x := ⟨_, rfl⟩
      have htm : t = true ↔ x ∈ Cf.firsts (l.take k) := by rw [ht, List.contains_iff_mem, Cf.mem_firsts]
      have hslice := fun W => run_first_ints W (some ⟨g, off, none⟩) n cap k (by omega)
      have HIN := Lib.hid (fun (W : World) (hW : Below w.heap.size w W) => (show Calls Try.prog 15 #[.slice (some ⟨g, off, none⟩) k cap, .int .i64 x] W (Says W (.bool t)) by
        rw [ht]; exact in_any _ _ x W ((HV.out.below hW).take k (by omega))))
      have HBQ := Lib.hid (fun p : Behind wr => HB.out.trans (p.below.mono HB.out.size))
      have HST : Hid (Cf.firsts (l.take (k + 1)) = if t = true then Cf.firsts (l.take k) else Cf.firsts (l.take k) ++ [x]) := by
        show _ = _
        rw [htk, Cf.firsts_snoc]
        by_cases h : x ∈ Cf.firsts (l.take k)
        · rw [if_pos h, if_pos (htm.2 h)]
        · rw [if_neg h, if_neg (fun e => h (htm.1 e))]
      have HIO := Lib.hid (fun (W : World) (hW : Below w.heap.size w W) => in_any _ o x W (HU.out.below hW))
      rw [← ha, ← hc]
      rw [← ha] at hfl hcl
      rw [← hc] at hcl
      have HA := Lib.hid ha; have HC := Lib.hid hc
      clear ha hc hcc htk ht htm hx
      go_wp2
      refine wp_region_behind (by kernel_rfl) (by kernel_rfl) ?_
      repeat (go_big_quiet_step ((go_at_call 15; exact Says.behind (HIN.out _ (HBQ.out _)))))
      refine wpQuiet_nil ?_
      rintro w5 ⟨⟨w5, hB5⟩, rfl⟩
      (try dsimp only)
      have HB5 := Lib.hid (HB.out.trans (hB5.mono HB.out.size))
      clear hB5
      cases t with
      | true =>
        have HS2 : Hid (Cf.firsts (l.take (k + 1)) = Cf.firsts (l.take k)) := HST.out
        go_wp2
        go_roundw
        case rel => exact ⟨k + 1, by rw [HS2.out, ← HA.out], by rw [HS2.out, ← HC.out], by go_num, by omega, HB5.out⟩
        case measure => simp [intOf]; omega
      | false =>
        have HS2 : Hid (Cf.firsts (l.take (k + 1)) = Cf.firsts (l.take k) ++ [x]) := HST.out
        have hio := HIO.out w5 HB5.out
        have hcell5 := HC1.out w5 HB5.out
        obtain ⟨s, hs⟩ : ∃ s, s = o.contains x := ⟨_, rfl⟩
        rw [← hs] at hio
        have HA2 : Hid ((Cf.firsts (l.take (k + 1))).length = a + 1) := by show _ = _; rw [HS2.out, List.length_append, ← HA.out]; rfl
        have HC2 : Hid ((Cf.firsts (l.take (k + 1))).countP (fun x => o.contains x) = c + if s = true then 1 else 0) := by
          show _ = _
          rw [HS2.out, List.countP_append, ← HC.out, hs]
          simp [List.countP_cons]
        clear hs
        go_wp2_with fail
        refine hio.mono ?_
        rintro e w6 ⟨rfl, rfl⟩
        clear hio
        cases s with
        | true =>
          have HC3 : Hid ((Cf.firsts (l.take (k + 1))).countP (fun x => o.contains x) = c + 1) := HC2.out
          go_wp2
          go_roundw
          case rel => exact ⟨k + 1, by rw [HA2.out]; go_num, by rw [HC3.out]; go_num, by go_num, by omega, HB5.out⟩
          case measure => simp [intOf]; omega
        | false =>
          have HC3 : Hid ((Cf.firsts (l.take (k + 1))).countP (fun x => o.contains x) = c) := HC2.out
          go_wp2
          go_roundw
          case rel => exact ⟨k + 1, by rw [HA2.out]; go_num, by rw [HC3.out], by go_num, by omega, HB5.out⟩
          case measure => simp [intOf]; omega
    · obtain rfl : k = n := by omega
      have HQ : Hid (l.take k = l) := by show _ = _; rw [HN.out, List.take_length]
      have HM : Hid (Cf.maj l o = decide (a < 2 * c)) := by show _ = _; rw [ha, hc, HQ.out]; rfl
      rw [← ha, ← hc]
      rw [← ha] at hfl hcl
      rw [← hc] at hcl
      clear ha hc
      by_cases hgt : a < 2 * c
      · have HE : Hid (Cf.maj l o = true) := by show _ = _; rw [HM.out]; exact decide_eq_true hgt
        have dgt : decide ((a : Int) - (c : Int) < (c : Int)) = true := decide_eq_true (by omega)
        go_wp2
        go_ret
        exact ⟨by rw [HE.out]; simp, HB.out⟩
      · have HE : Hid (Cf.maj l o = false) := by show _ = _; rw [HM.out]; exact decide_eq_false hgt
        have dgt : decide ((a : Int) - (c : Int) < (c : Int)) = false := decide_eq_false (by omega)
        go_wp2
        go_ret
        exact ⟨by rw [HE.out]; simp, HB.out⟩

end Go.Proofs.Ytimlfiomoalieaa
