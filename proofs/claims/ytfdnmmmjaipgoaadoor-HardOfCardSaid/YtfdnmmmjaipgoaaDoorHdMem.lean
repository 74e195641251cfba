/- The state of a log in memory; the document's Same and Heavy. -/
import Derived.Test.YtfdnmmmjaipgoaaDoorHdMath
import Derived.Test.YtfdnmmmjaipgoaaDoorGEr
import Derived.Test.YtfdnmmmjaipgoaaDoorGRe
namespace Go.Proofs.YtfdnmmmjaipgoaaDoor
open Go.RowKit

def Hd.cells (h : Hd.Hard) (vi va vc : Value) : Array Value := #[.int .i64 h.prom.round, .int .i64 h.prom.node, .int .i64 h.base, vi, va, vc]
abbrev Hards (w : World) (g : Nat) (h : Hd.Hard) (vi va vc : Value) : Prop := Lies w g 30 (Hd.cells h vi va vc)
/-- The three slices read as the state's. -/
structure HardR (w : World) (h : Hd.Hard) (vi va vc : Value) : Prop where
  img : Reads w vi h.img
  acc : ReadsE w va h.acc
  chs : ReadsE w vc h.chs
theorem HardR.below {w w' : World} {h : Hd.Hard} {vi va vc : Value} (r : HardR w h vi va vc) (hb : Below w.heap.size w w') : HardR w' h vi va vc := ⟨r.img.below hb, r.acc.below hb, r.chs.below hb⟩
theorem box_hard (w : World) (h : Hd.Hard) (vi va vc : Value) : ∃ w1, w.alloc (.cells (Hd.cells h vi va vc) 30) = w1 ∧ Hards w1 w.heap.size h vi va vc ∧ Below w.heap.size w w1 ∧ w1.heap.size = w.heap.size + 1 :=
  ⟨_, rfl, Lies.new w _ _, (Below.refl _ w).alloc (Nat.le_refl _) _, by simp⟩
theorem box_hards (w : World) (h : Hd.Hard) (vi va vc : Value) (k : Hd.Hard) (ui ua uc : Value) : ∃ w1, (w.alloc (.cells (Hd.cells h vi va vc) 30)).alloc (.cells (Hd.cells k ui ua uc) 30) = w1 ∧ Hards w1 w.heap.size h vi va vc ∧ Hards w1 (w.heap.size + 1) k ui ua uc ∧ Below w.heap.size w w1 := by
  obtain ⟨w1, e1, h1, b1, s1⟩ := box_hard w h vi va vc
  obtain ⟨w2, e2, h2, b2, s2⟩ := box_hard w1 k ui ua uc
  rw [s1] at h2
  exact ⟨w2, by rw [e1, e2], h1.below b2 (by omega), h2, b1.trans (b2.mono b1.size)⟩
set_option maxRecDepth 4000 in
set_option maxHeartbeats 3200000 in
theorem sameH_any (h k : Hd.Hard) (vi va vc ui ua uc : Value) (w : World) (hr : HardR w h vi va vc) (kr : HardR w k ui ua uc) :
    Calls Tryd.prog 9 #[.agg (Hd.cells h vi va vc), .agg (Hd.cells k ui ua uc)] w (Looks w (.bool (decide (h = k)))) := by
  obtain ⟨w1, e1, hl1, hl2, hB1⟩ := box_hards w h vi va vc k ui ua uc
  have c0 : w1.cell? ⟨w.heap.size, 0, none⟩ = some (.int .i64 h.prom.round) := hl1.cell 0 _ rfl
  have c1 : w1.cell? ⟨w.heap.size, 1, none⟩ = some (.int .i64 h.prom.node) := hl1.cell 1 _ rfl
  have c2 : w1.cell? ⟨w.heap.size, 2, none⟩ = some (.int .i64 h.base) := hl1.cell 2 _ rfl
  have c3 : w1.cell? ⟨w.heap.size, 3, none⟩ = some (vi) := hl1.cell 3 _ rfl
  have c4 : w1.cell? ⟨w.heap.size, 4, none⟩ = some (va) := hl1.cell 4 _ rfl
  have c5 : w1.cell? ⟨w.heap.size, 5, none⟩ = some (vc) := hl1.cell 5 _ rfl
  have d0 : w1.cell? ⟨w.heap.size + 1, 0, none⟩ = some (.int .i64 k.prom.round) := hl2.cell 0 _ rfl
  have d1 : w1.cell? ⟨w.heap.size + 1, 1, none⟩ = some (.int .i64 k.prom.node) := hl2.cell 1 _ rfl
  have d2 : w1.cell? ⟨w.heap.size + 1, 2, none⟩ = some (.int .i64 k.base) := hl2.cell 2 _ rfl
  have d3 : w1.cell? ⟨w.heap.size + 1, 3, none⟩ = some (ui) := hl2.cell 3 _ rfl
  have d4 : w1.cell? ⟨w.heap.size + 1, 4, none⟩ = some (ua) := hl2.cell 4 _ rfl
  have d5 : w1.cell? ⟨w.heap.size + 1, 5, none⟩ = some (uc) := hl2.cell 5 _ rfl
  have hgd := guard_bal
  have heq := fun W => run_eql_bal W h.prom k.prom
  obtain ⟨t, ht⟩ : ∃ t, t = decide (h.prom = k.prom) := ⟨_, rfl⟩
  rw [← ht] at heq
  obtain ⟨r, hb⟩ : ∃ r, (h.base == k.base) = r := ⟨_, rfl⟩
  obtain ⟨q, hq⟩ : ∃ q, (h.img == k.img) = q := ⟨_, rfl⟩
  obtain ⟨s, hs⟩ : ∃ s, decide (h.acc = k.acc) = s := ⟨_, rfl⟩
  obtain ⟨u, hu⟩ : ∃ u, decide (h.chs = k.chs) = u := ⟨_, rfl⟩
  have HM : Hid (decide (h = k) = (t && (r && (q && (s && u))))) := by
    show _ = _
    rw [ht, ← hb, ← hq, ← hs, ← hu]
    obtain ⟨p1, b1, i1, a1, x1⟩ := h
    obtain ⟨p2, b2, i2, a2, x2⟩ := k
    rw [Bool.eq_iff_iff]
    simp
  have HL1 := Lib.hid hl1; have HL2 := Lib.hid hl2
  have HR := Lib.hid (hr.below hB1); have KR := Lib.hid (kr.below hB1); have HB := Lib.hid hB1
  have HQ := Lib.hid hq; have HS := Lib.hid hs; have HU := Lib.hid hu
  clear ht hq hs hu hl1 hl2 hB1 hr kr
  dsimp only [Bl.cells] at heq
  go_enter Tryd.func9, Tryd.ntmps9
  cases t with
  | false =>
    go_wp2
    go_ret
    exact ⟨by rw [HM.out]; rfl, HB.out⟩
  | true =>
    cases r with
    | false =>
      go_wp2
      go_ret
      exact ⟨by rw [HM.out]; rfl, HB.out⟩
    | true =>
      go_wp2_with fail
      refine (same_any _ _ h.img k.img _ HR.out.img KR.out.img).mono ?_
      rintro e w2 ⟨rfl, n2, rfl⟩
      rw [HQ.out]
      have HB2 : Hid (Below w1.heap.size w1 (w1.drewN n2)) := drawn w1 n2
      obtain ⟨w2, hw2⟩ : ∃ w2, w2 = w1.drewN n2 := ⟨_, rfl⟩
      rw [← hw2] at HB2 ⊢
      clear hw2
      cases q with
      | false =>
        go_wp2
        go_ret
        exact ⟨by rw [HM.out]; rfl, HB.out.trans (HB2.out.mono HB.out.size)⟩
      | true =>
        have m4 : w2.cell? ⟨w.heap.size, 4, none⟩ = some va := (HL1.out.below HB2.out HL1.out.lt).cell 4 _ rfl
        have n4 : w2.cell? ⟨w.heap.size + 1, 4, none⟩ = some ua := (HL2.out.below HB2.out HL2.out.lt).cell 4 _ rfl
        go_wp2_with fail
        refine (sameE_any _ _ h.acc k.acc _ (HR.out.acc.below HB2.out) (KR.out.acc.below HB2.out)).mono ?_
        rintro e w3 ⟨rfl, hb3⟩
        rw [HS.out]
        have HB3 := Lib.hid (HB2.out.trans (hb3.mono HB2.out.size))
        clear hb3
        cases s with
        | false =>
          go_wp2
          go_ret
          exact ⟨by rw [HM.out]; rfl, HB.out.trans (HB3.out.mono HB.out.size)⟩
        | true =>
          have m5 : w3.cell? ⟨w.heap.size, 5, none⟩ = some vc := (HL1.out.below HB3.out HL1.out.lt).cell 5 _ rfl
          have n5 : w3.cell? ⟨w.heap.size + 1, 5, none⟩ = some uc := (HL2.out.below HB3.out HL2.out.lt).cell 5 _ rfl
          go_wp2_with fail
          refine (sameE_any _ _ h.chs k.chs _ (HR.out.chs.below HB3.out) (KR.out.chs.below HB3.out)).mono ?_
          rintro e w4 ⟨rfl, hb4⟩
          rw [HU.out]
          have HB4 := Lib.hid (HB3.out.trans (hb4.mono HB3.out.size))
          clear hb4
          go_wp2
          go_ret
          exact ⟨by rw [HM.out]; rfl, HB.out.trans (HB4.out.mono HB.out.size)⟩
set_option maxRecDepth 4000 in
set_option maxHeartbeats 1600000 in
theorem heavyH_any (h : Hd.Hard) (vi va vc : Value) (w : World) (hr : HardR w h vi va vc) (ha : ∀ e ∈ h.acc, e.cmd.Short 9223372036854775807) (hc : ∀ e ∈ h.chs, e.cmd.Short 9223372036854775807) :
    Calls Tryd.prog 12 #[.agg (Hd.cells h vi va vc)] w (Looks w (.bool (decide (300 < h.img.length) || (En.large h.acc || En.large h.chs)))) := by
  obtain ⟨io, ic, rfl⟩ := hr.img.shape
  obtain ⟨w1, e1, hl1, hB1, _⟩ := box_hard w h (.slice io h.img.length ic) va vc
  have c2 : w1.cell? ⟨w.heap.size, 3, none⟩ = some (.slice io h.img.length ic) := hl1.cell 3 _ rfl
  have c4 : w1.cell? ⟨w.heap.size, 4, none⟩ = some va := hl1.cell 4 _ rfl
  obtain ⟨n, hn⟩ : ∃ n, n = h.img.length := ⟨_, rfl⟩
  obtain ⟨s, hs⟩ : ∃ s, En.large h.acc = s := ⟨_, rfl⟩
  obtain ⟨u, hu⟩ : ∃ u, En.large h.chs = u := ⟨_, rfl⟩
  have HR := Lib.hid (hr.below hB1); have HB := Lib.hid hB1; have HL := Lib.hid hl1; have HA := Lib.hid ha; have HC := Lib.hid hc
  rw [← hn] at c2 HR HL e1
  rw [← hn]
  have HS := Lib.hid hs; have HU := Lib.hid hu
  rw [hs, hu]
  clear hs hu hn hr hl1 hB1 ha hc
  go_enter Tryd.func12, Tryd.ntmps12
  by_cases h3 : 300 < n
  · have d3 : decide (300 < n) = true := decide_eq_true h3
    go_wp2
    go_ret
    exact ⟨by simp, HB.out⟩
  · have d3 : decide (300 < n) = false := decide_eq_false h3
    go_wp2_with fail
    refine (largeE_any _ h.acc _ HR.out.acc HA.out).mono ?_
    rintro e w2 ⟨rfl, hb2⟩
    rw [HS.out]
    have HB2 := Lib.hid hb2
    clear hb2
    cases s with
    | true =>
      go_wp2
      go_ret
      exact ⟨by simp, HB.out.trans (HB2.out.mono HB.out.size)⟩
    | false =>
      have m5 : w2.cell? ⟨w.heap.size, 5, none⟩ = some vc := (HL.out.below HB2.out HL.out.lt).cell 5 _ rfl
      go_wp2_with fail
      refine (largeE_any _ h.chs _ (HR.out.chs.below HB2.out) HC.out).mono ?_
      rintro e w3 ⟨rfl, hb3⟩
      rw [HU.out]
      have HB3 := Lib.hid (HB2.out.trans (hb3.mono HB2.out.size))
      clear hb3
      go_wp2
      go_ret
      exact ⟨by rw [show decide ((300 : Int) < (n : Int)) = false from decide_eq_false (by omega), d3]; rfl, HB.out.trans (HB3.out.mono HB.out.size)⟩
end Go.Proofs.YtfdnmmmjaipgoaaDoor
