/- A pair, a session read out of a snapshot in schema 1. -/
import Derived.Test.YtggipagbmmjfbaaSnRow
import Derived.Test.YtggipagbmmjfbaaGSu
namespace Go.Proofs.Ytggipagbmmjfbaa
open Go.RowKit

set_option maxRecDepth 4000 in
set_option maxHeartbeats 3200000 in
theorem pairGot_any (w : World) (B o : Nat) (u : Value) (s : List UInt8) (p : Nat) (er : Int) (hr : Rdr w B o u s p er) (hB : B ≤ w.heap.size) :
    Calls Try.prog 45 #[.pointer (some ⟨o, 0, none⟩)] w (KGot w B o u s (Sn.getP 1 ⟨9223372036854775807, 9223372036854775807, 0⟩ s p er)) := by
  have ho := hr.lies.lt
  obtain ⟨x1, q1, f1, h1, y1, _, i1, _⟩ := Sn.rtx_res 9223372036854775807 s p er hr.inn
  obtain ⟨x2, q2, f2, h2, y2, _, i2, _⟩ := Sn.rtx_res 9223372036854775807 s q1 f1 i1
  have HG : Hid (Sn.getP 1 ⟨9223372036854775807, 9223372036854775807, 0⟩ s p er = (⟨x1, x2, 0⟩, q2, f2)) := by
    show _ = _
    unfold Sn.getP Sn.getK Sn.getN
    dsimp only
    rw [if_neg (by decide), h1]
    simp only [Int.toNat_natCast]
    rw [h2]
    simp only [Int.toNat_natCast]
  have H1 := Lib.hid h1; have H2 := Lib.hid h2
  obtain ⟨w1, e1, hk1, hB1, hz1⟩ := box_kv w Kv.zero
  dsimp only [Kv.cells, Kv.zero] at e1
  have HK1 := Lib.hid hk1; have HB1 := Lib.hid (hB1.mono hB); have HS1 := Lib.hid (SavesS.of_below (o := o) hB1)
  have HR1 := Lib.hid (hr.kept hB1)
  clear h1 h2 hk1 hB1 hz1 hr i1 i2
  go_enter Try.func45, Try.ntmps45
  go_wp2_with fail
  refine (rtextL_any 9223372036854775807 _ B o u s p er x1 q1 f1 HR1.out y1 H1).mono ?_
  rintro e2 v2 ⟨rfl, hr2, hg2⟩
  have HR2 := Lib.hid hr2
  have HG2 := Lib.hid hg2
  clear hr2 hg2
  go_wp2_with fail
  refine (rtextL_any 9223372036854775807 _ B o u s q1 f1 x2 q2 f2 HR2.out y2 H2).mono ?_
  rintro e3 v3 ⟨rfl, hr3, hg3⟩
  have HG3 := Lib.hid (grown_on HG2.out hg3)
  have HR3 := Lib.hid hr3
  have HK3 := Lib.hid (HK1.out.kept HG3.out (by simp; omega))
  clear hr3 hg3
  go_wp2_with (first
    | (refine store_kv (by rfl) _ _ (by rfl) w.heap.size Kv.zero ⟨x1, x2, 0⟩ (by rfl) (by rfl) HK3.out ?_; intro w7 hl7 hg7))
  refine ret_kv1 rfl rfl hl7 rfl ?_
  rw [HG.out]
  obtain ⟨a1, a2, a3, _⟩ := sget_end (by decide) hB (Nat.le_refl _) ho HB1.out HS1.out HR3.out HG3.out _ HK1.out hl7 hg7
  exact ⟨rfl, a1, a2, a3⟩

theorem ret_ses1 {fn : Func} {R : Ending → World → Prop} {a : Act} {w : World} {p : Tmp} {g : Nat} {s : Se.Ses} (h : fn.results = #[.cell p 52]) (hp : a.tmps.getD p undef = .pointer (some ⟨g, 0, none⟩))
    (hl : Sess w g s) (hd : a.defers = []) (hR : R (.returned (.agg (Se.cells s))) w) : bodyPost Try.prog fn R .ret a w := by
  refine bodyPost_ret ?_ hd hR
  rw [results_one h, hp]
  simp [asAddr, Result.andThen, run_ses w g s hl]

set_option maxRecDepth 4000 in
set_option maxHeartbeats 3200000 in
theorem sesGot_any (w : World) (B o : Nat) (u : Value) (s : List UInt8) (p : Nat) (er : Int) (hr : Rdr w B o u s p er) (hB : B ≤ w.heap.size) :
    Calls Try.prog 47 #[.pointer (some ⟨o, 0, none⟩)] w (SGot w B o u s (Sn.getS 1 s p er)) := by
  have ho := hr.lies.lt
  obtain ⟨w1, e1, hl1, hB1, hz1⟩ := box_ses w Se.zero
  dsimp only [Se.cells, Se.zero, An.zero] at e1
  have HL1 := Lib.hid hl1; have HB1 := Lib.hid (hB1.mono hB); have HS1 := Lib.hid (SavesS.of_below (o := o) hB1)
  have HR1 := Lib.hid (hr.kept hB1)
  clear hl1 hB1 hz1 hr
  go_enter Try.func47, Try.ntmps47
  go_wp2_with fail
  refine (agot_any 1 _ B o u s p er HR1.out (Nat.le_trans hB HB1.out.size)).mono ?_
  rintro e2 w2 ⟨rfl, hr2, hb2, hs2⟩
  obtain ⟨t, ht⟩ : ∃ t, t = An.get 1 s p er := ⟨_, rfl⟩
  have HG : Hid (Sn.getS 1 s p er = (Se.of t.1, t.2)) := by show _ = _; rw [ht]; rfl
  rw [← ht] at hr2 ⊢
  have HR2 := Lib.hid hr2; have HB2 := Lib.hid (HB1.out.trans hb2)
  have HS2 : Hid (SavesS o w w2) := HS1.out.trans fun k T us h1 h2 => hs2 k T us h1 h1 h2
  have HL2 := Lib.hid (hs2 _ _ _ (by omega) (by omega) HL1.out)
  clear hr2 hb2 hs2 ht
  go_wp2_with (first
    | (refine store_ans (by rfl) _ _ (by rfl) w2.heap.size An.zero t.1 (by rfl) (by rfl) (Lies.new _ _ _) ?_; intro w3 hl3 hg3
       have hB3 : Below w2.heap.size w2 w3 := ((Below.refl _ w2).alloc (Nat.le_refl _) _).grown hg3 (by simp) (by rintro j hj; cases hj; exact Nat.le_refl _)
       have HL3 := Lib.hid (HL2.out.below hB3 HL2.out.lt); have HR3 := Lib.hid (HR2.out.kept hB3); have HB3 := Lib.hid (HB2.out.trans (hB3.mono (Nat.le_trans hB HB2.out.size))); have HS3 := Lib.hid (HS2.out.trans (SavesS.of_below (o := o) hB3))
       have HA3 := Lib.hid hl3
       obtain ⟨p0, p1, p2, p3, p4, p5⟩ := Anss.every hl3
       clear hl3 hg3 hB3)
    | (refine store_ses (by rfl) _ _ (by rfl) w.heap.size Se.zero (Se.of t.1) (by rfl) (by rfl) HL3.out ?_; intro w7 hl7 hg7))
  refine ret_ses1 rfl rfl hl7 rfl ?_
  rw [HG.out]
  exact ⟨rfl, HR3.out.beside' hg7 (by omega) (fun h => HL3.out.not_row (by decide) HR3.out.owns h.symm), HB3.out.grown hg7 (Nat.le_trans hB HB3.out.size) (by rintro x hx; cases hx; exact hB),
    fun k T us h1 h2 => (HS3.out k T us h1 h2).kept hg7 (by have := h2.lt; simp; omega)⟩

end Go.Proofs.Ytggipagbmmjfbaa
