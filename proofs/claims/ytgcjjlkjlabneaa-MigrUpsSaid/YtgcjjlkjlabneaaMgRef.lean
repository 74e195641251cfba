/- The document's own Check over states. -/
import Derived.Test.YtgcjjlkjlabneaaMgChk
import Derived.Test.YtgcjjlkjlabneaaKwRef
import Derived.Test.YtgcjjlkjlabneaaKvRef
import Derived.Test.YtgcjjlkjlabneaaSeRef
import Derived.Test.YtgcjjlkjlabneaaOnce
namespace Go.Proofs.Ytgcjjlkjlabneaa
open Go.RowKit

theorem Mg.check_one (l : List Kv.Item) (m : List Se.Ses) : Mg.check ⟨1, l, m⟩ = (Kv.refCheck l && (Se.refCheck m && !m.any Mg.tells)) := by
  unfold Mg.check Mg.pairsOk Mg.sessOk
  dsimp only
  rw [if_pos rfl]
  cases m.any Mg.tells <;> simp
theorem Mg.check_two (l : List Kv.Item) (m : List Se.Ses) : Mg.check ⟨2, l, m⟩ = (Kv.refCheck2 l && Se.refCheck m) := by
  unfold Mg.check Mg.pairsOk Mg.sessOk
  dsimp only
  rw [if_neg (by decide), if_pos rfl, if_neg (fun h => absurd h.1 (by decide))]
theorem Mg.check_none {n : Int} (l : List Kv.Item) (m : List Se.Ses) (h1 : n ≠ 1) (h2 : n ≠ 2) : Mg.check ⟨n, l, m⟩ = false := by
  unfold Mg.check Mg.pairsOk
  dsimp only
  rw [if_neg h1, if_neg h2]
  rfl

set_option maxRecDepth 4000 in
set_option maxHeartbeats 1600000 in
theorem refCheckSt1_any (l : List Kv.Item) (m : List Se.Ses) (vp vs : Value) (w : World) (hr : StR w ⟨1, l, m⟩ vp vs) (hf : Mg.St.Few ⟨1, l, m⟩) :
    Calls Try.prog 7 #[.agg (Mg.cells 1 vp vs)] w (Looks w (.bool (Mg.check ⟨1, l, m⟩))) := by
  obtain ⟨w1, e1, hx1, hB1, hz1⟩ := box_st w ⟨1, l, m⟩ 1 vp vs hr
  obtain ⟨ao, cap, rfl, hc1, hc2⟩ := ReadsN.shape hr.ses
  dsimp only at *
  have HB := Lib.hid hB1
  have HX := Lib.hid hx1
  have HR := Lib.hid (hr.below hB1)
  have hpl := ReadsN.places (hr.below hB1).ses
  have HPL := Lib.hid hpl
  obtain ⟨c0, c1, c2⟩ := hx1.all
  have HK := Lib.hid (refCheckKv_any vp l w1 HR.out.kv hf.str)
  have HS := Lib.hid (fun W h => refCheckSe_any (.slice ao m.length cap) m W h hf.ses)
  obtain ⟨D, hD⟩ : ∃ D, D = Mg.check ⟨1, l, m⟩ := ⟨_, rfl⟩
  rw [← hD]
  rw [Mg.check_one] at hD
  obtain ⟨a, ha⟩ : ∃ a, a = Kv.refCheck l := ⟨_, rfl⟩
  rw [← ha] at HK hD
  obtain ⟨b, hb⟩ : ∃ b, b = Se.refCheck m := ⟨_, rfl⟩
  rw [← hb] at HS hD
  have HD := Lib.hid hD
  obtain ⟨n, hn⟩ : ∃ n, n = m.length := ⟨_, rfl⟩
  rw [← hn] at hc1 HS HX HR HPL e1 c2 ⊢
  have HN := Lib.hid hn
  have hnb : n < 9223372036854775808 := by omega
  clear hD ha hb hx1 hB1 hz1 hr hf hpl hn
  go_enter Try.func7, Try.ntmps7
  go_wp2_with fail
  refine HK.out.mono ?_
  rintro e w2 ⟨rfl, hB2⟩
  have HB2 := Lib.hid hB2
  have HX2 := Lib.hid (HX.out.below hB2 HX.out.lies.lt)
  have HR2 := Lib.hid (HR.out.below hB2)
  clear hB2 c0 c1 c2
  cases a with
  | false =>
    go_wp2
    go_ret
    exact ⟨by rw [HD.out]; rfl, HB.out.trans (HB2.out.mono HB.out.size)⟩
  | true =>
    obtain ⟨m0, m1, m2⟩ := HX2.out.all
    go_wp2_with fail
    refine (HS.out _ HR2.out.ses).mono ?_
    rintro e w3 ⟨rfl, hB3⟩
    have HB3 := Lib.hid (HB2.out.trans (hB3.mono HB2.out.size))
    have HX3 := Lib.hid (HX2.out.below hB3 HX2.out.lies.lt)
    clear hB3 m0 m1 m2
    cases b with
    | false =>
      go_wp2
      go_ret
      exact ⟨by rw [HD.out]; rfl, HB.out.trans (HB3.out.mono HB.out.size)⟩
    | true =>
      obtain ⟨k0, k1, k2⟩ := HX3.out.all
      go_wp2
      go_loopw [3] (fun i wr => ∃ k : Nat, i = .int .i64 (k : Int) ∧ k ≤ n ∧ Hid (∀ (j : Nat) (e : Se.Ses), j < k → m[j]? = some e → Mg.tells e = false) ∧ Below w3.heap.size w3 wr) (fun i _ => n - (intOf i).toNat)
      case atStart => exact ⟨0, rfl, by omega, fun j e hj => by omega, Below.refl _ _⟩
      case round =>
        clear k0 k1 k2
        obtain ⟨k, rfl, hk, HI, hB⟩ := hrel
        have HB4 := Lib.hid (HB3.out.trans (hB.mono HB3.out.size))
        have HBr := Lib.hid hB
        obtain ⟨k0, k1, k2⟩ := (HX3.out.below hB HX3.out.lies.lt).all
        clear hB
        by_cases hlt : k < n
        · obtain ⟨s, hs⟩ : ∃ s, m[k]? = some s := ⟨_, List.getElem?_eq_getElem (by have := HN.out; omega)⟩
          obtain ⟨g, off, rfl, hgl, hcell⟩ := HPL.out (by have := HN.out; omega)
          have d7 := (hcell wr HB4.out k s hs).c7
          have HS1 := Lib.hid hs
          obtain ⟨t, ht⟩ : ∃ t, (s.last.rev != 0) = t := ⟨_, rfl⟩
          have HT : Hid (Mg.tells s = t) := ht
          clear hcell hs
          cases t with
          | true =>
            have HZ : Hid (D = false) := by show _ = _; rw [HD.out, Mg.tells_no HS1.out HT.out]; rfl
            go_wp2
            go_ret
            exact ⟨by rw [HZ.out]; rfl, HB.out.trans (HB4.out.mono HB.out.size)⟩
          | false =>
            have HZ : Hid (∀ (j : Nat) (e : Se.Ses), j < k + 1 → m[j]? = some e → Mg.tells e = false) := by
              intro j d hj hd
              by_cases hjk : j = k
              · subst hjk; rw [HS1.out] at hd; cases hd; exact HT.out
              · exact HI.out j d (by omega) hd
            go_wp2
            go_roundw
            case rel => exact ⟨k + 1, by go_num, by omega, HZ.out, HBr.out⟩
            case measure => simp [intOf]; omega
        · have HZ : Hid (D = true) := by
            show _ = _
            rw [HD.out, Mg.tells_yes fun j e he => HI.out j e (by have := HN.out; have := (List.getElem?_eq_some_iff.1 he).1; omega) he]
            rfl
          go_wp2
          go_ret
          exact ⟨by rw [HZ.out]; rfl, HB.out.trans (HB4.out.mono HB.out.size)⟩

set_option maxRecDepth 4000 in
set_option maxHeartbeats 1600000 in
theorem refCheckSt2_any (l : List Kv.Item) (m : List Se.Ses) (vp vs : Value) (w : World) (hr : StR w ⟨2, l, m⟩ vp vs) (hf : Mg.St.Few ⟨2, l, m⟩) :
    Calls Try.prog 7 #[.agg (Mg.cells 2 vp vs)] w (Looks w (.bool (Mg.check ⟨2, l, m⟩))) := by
  obtain ⟨w1, e1, hx1, hB1, hz1⟩ := box_st w ⟨2, l, m⟩ 2 vp vs hr
  obtain ⟨ao, cap, rfl, hc1, hc2⟩ := ReadsN.shape hr.ses
  dsimp only at *
  have HB := Lib.hid hB1
  have HX := Lib.hid hx1
  have HR := Lib.hid (hr.below hB1)
  obtain ⟨c0, c1, c2⟩ := hx1.all
  have HK := Lib.hid (refCheck2Kv_any vp l w1 HR.out.kv hf.str)
  have HS := Lib.hid (fun W h => refCheckSe_any (.slice ao m.length cap) m W h hf.ses)
  obtain ⟨D, hD⟩ : ∃ D, D = Mg.check ⟨2, l, m⟩ := ⟨_, rfl⟩
  rw [← hD]
  rw [Mg.check_two] at hD
  obtain ⟨a, ha⟩ : ∃ a, a = Kv.refCheck2 l := ⟨_, rfl⟩
  rw [← ha] at HK hD
  obtain ⟨b, hb⟩ : ∃ b, b = Se.refCheck m := ⟨_, rfl⟩
  rw [← hb] at HS hD
  have HD := Lib.hid hD
  obtain ⟨n, hn⟩ : ∃ n, n = m.length := ⟨_, rfl⟩
  rw [← hn] at hc1 HS HX HR e1 c2 ⊢
  have hnb : n < 9223372036854775808 := by omega
  clear hD ha hb hx1 hB1 hz1 hr hf hn
  go_enter Try.func7, Try.ntmps7
  go_wp2_with fail
  refine HK.out.mono ?_
  rintro e w2 ⟨rfl, hB2⟩
  have HB2 := Lib.hid hB2
  have HX2 := Lib.hid (HX.out.below hB2 HX.out.lies.lt)
  have HR2 := Lib.hid (HR.out.below hB2)
  clear hB2 c0 c1 c2
  cases a with
  | false =>
    go_wp2
    go_ret
    exact ⟨by rw [HD.out]; rfl, HB.out.trans (HB2.out.mono HB.out.size)⟩
  | true =>
    obtain ⟨m0, m1, m2⟩ := HX2.out.all
    go_wp2_with fail
    refine (HS.out _ HR2.out.ses).mono ?_
    rintro e w3 ⟨rfl, hB3⟩
    have HB3 := Lib.hid (HB2.out.trans (hB3.mono HB2.out.size))
    have HX3 := Lib.hid (HX2.out.below hB3 HX2.out.lies.lt)
    clear hB3 m0 m1 m2
    cases b with
    | false =>
      go_wp2
      go_ret
      exact ⟨by rw [HD.out]; rfl, HB.out.trans (HB3.out.mono HB.out.size)⟩
    | true =>
      obtain ⟨k0, k1, k2⟩ := HX3.out.all
      go_wp2
      go_loopw [3] (fun i wr => ∃ k : Nat, i = .int .i64 (k : Int) ∧ k ≤ n ∧ Below w3.heap.size w3 wr) (fun i _ => n - (intOf i).toNat)
      case atStart => exact ⟨0, rfl, by omega, Below.refl _ _⟩
      case round =>
        clear k0 k1 k2
        obtain ⟨k, rfl, hk, hB⟩ := hrel
        have HB4 := Lib.hid (HB3.out.trans (hB.mono HB3.out.size))
        have HBr := Lib.hid hB
        obtain ⟨k0, k1, k2⟩ := (HX3.out.below hB HX3.out.lies.lt).all
        clear hB
        by_cases hlt : k < n
        · go_wp2
          go_roundw
          case rel => exact ⟨k + 1, by go_num, by omega, HBr.out⟩
          case measure => simp [intOf]; omega
        · go_wp2
          go_ret
          exact ⟨by rw [HD.out]; rfl, HB.out.trans (HB4.out.mono HB.out.size)⟩

set_option maxRecDepth 4000 in
theorem refCheckSt_any (s : Mg.St) (vp vs : Value) (w : World) (hr : StR w s vp vs) (hf : s.Few) :
    Calls Try.prog 7 #[.agg (Mg.cells s.schema vp vs)] w (Looks w (.bool (Mg.check s))) := by
  obtain ⟨n, l, m⟩ := s
  by_cases h1 : n = 1
  · subst h1
    exact refCheckSt1_any l m vp vs w hr hf
  · by_cases h2 : n = 2
    · subst h2
      exact refCheckSt2_any l m vp vs w hr hf
    · obtain ⟨w1, e1, hx1, hB1, hz1⟩ := box_st w ⟨n, l, m⟩ n vp vs hr
      have HB := Lib.hid hB1
      obtain ⟨c0, c1, c2⟩ := hx1.all
      rw [Mg.check_none l m h1 h2]
      dsimp only
      by_cases h3 : n < 1
      · have d3 : decide (n < 1) = true := decide_eq_true h3
        clear h1 h2 h3 hx1 hB1 hz1 hr hf
        go_enter Try.func7, Try.ntmps7
        go_wp2
        go_ret
        exact ⟨rfl, HB.out⟩
      · have d3 : decide (n < 1) = false := decide_eq_false h3
        have d4 : decide (2 < n) = true := decide_eq_true (by omega)
        clear h1 h2 h3 hx1 hB1 hz1 hr hf
        go_enter Try.func7, Try.ntmps7
        go_wp2
        go_ret
        exact ⟨rfl, HB.out⟩

end Go.Proofs.Ytgcjjlkjlabneaa
