/- Several texts of mine in one: MtGet MtProp. -/
import Derived.Test.YtndicjpbanmpjaaGreatDoorGMt
import Derived.Test.YtndicjpbanmpjaaGreatDoorGMg
import Derived.Deep.RegionHeld3
namespace Go.Proofs.YtndicjpbanmpjaaGreatDoor
open Go.RowKit

/-- A reading, and then a store into the message's block: what there is behind both. -/
theorem mt_end {w v w' : World} {B o g : Nat} {u : Value} {s : List UInt8} {q : Nat} {e : Int} {vs : Array Value} (hr : Rdr v B o u s q e) (hg : w.grownBy v (some o)) (hl : Lies v g 27 vs) (hg' : v.grownBy w' (some g)) (hgo : g ≠ o) (hBg : B ≤ g) (hBw : B ≤ w.heap.size) :
    Rdr w' B o u s q e ∧ Saves o g w w' ∧ Below B w w' :=
  ⟨hr.beside' hg' hgo (fun h => hl.not_row (by decide) hr.owns h.symm), (Saves.of_grown hg).trans (Saves.of_grown2 hg'),
    ((Below.refl B w).grown hg hBw (by rintro x hx; cases hx; exact hr.base)).grown hg' (Nat.le_trans hBw hg.size) (by rintro x hx; cases hx; exact hBg)⟩

/-- What the getting of an element gives. -/
def MtElGot (w : World) (B o g : Nat) (u : Value) (s : List UInt8) (num : Prop) (t : Ms.Msg × Nat × Int) (e : Ending) (w' : World) : Prop :=
  e = .returned (.tuple #[]) ∧ ∃ ve vi, Msgs w' g t.1 ve vi ∧ ListE o w' ve t.1.ents ∧ Reads w' vi t.1.img ∧ Rdr w' B o u s t.2.1 t.2.2 ∧ Saves o g w w' ∧ Below B w w' ∧ (num → ve = .slice none 0 0 ∧ vi = .slice none 0 0)

set_option maxRecDepth 4000 in
set_option maxHeartbeats 1600000 in
theorem getMt_num (k g : Nat) (M : Ms.Msg) (p : Nat) (er : Int) (w : World) (B o : Nat) (u : Value) (s : List UInt8) (hk : k < 8) (hr : Rdr w B o u s p er) (hl : Msgs w g M (.slice none 0 0) (.slice none 0 0)) (hgo : g ≠ o) (hBg : B ≤ g) (h0 : M.ents = []) (h9 : M.img = []) :
    Calls Tryz.prog 91 #[.pointer (some ⟨o, 0, none⟩), .iface 83 (.pointer (some ⟨g, k, none⟩))] w (MtElGot w B o g u s True (Mt.gstep s (M, p, er) (.num k))) := by
  have ha := isInt_num
  obtain ⟨n, q, e, hq, hx, _, _⟩ := Cm.rnum_res s p er
  have HQ := Lib.hid hq
  have HG : Hid (Mt.gstep s (M, p, er) (.num k) = (Mt.setN M n k, q, e)) := by
    show _ = _
    unfold Mt.gstep
    dsimp only
    rw [hq]
    simp
  have HL := Lib.hid hl; have HR := Lib.hid hr
  have hBw : B ≤ w.heap.size := by have := hl.lt; omega
  clear hq hr hl
  go_enter Tryz.func91, Tryz.ntmps91
  go_wp2_with fail
  refine (rnumber_any _ B o u s p er n q e HR.out hx HQ).mono ?_
  rintro e2 v2 ⟨rfl, hr2, hg2⟩
  have HL2 := Lib.hid (HL.out.kept hg2 (by simp; exact hgo))
  go_wp2_with (first
    | (refine store_part (by rfl) _ _ _ (by rfl) g k _ _ (Ms.cells (Mt.setN M n k) (.slice none 0 0) (.slice none 0 0)) (.int .i64 n) [.int .i64 n] (by rfl) (by rfl) (by rfl) (by kernel_rfl) (by rfl) HL2.out (show k + 1 ≤ 10 by omega) (Mt.cells_set M n _ _ hk) ?_
       intro w3 hl3 hg3
       obtain ⟨a1, a2, a3⟩ := mt_end hr2 hg2 HL2.out hg3 hgo hBg hBw
       have HL3 := Lib.hid hl3; have H1 := Lib.hid a1; have H2 := Lib.hid a2; have H3 := Lib.hid a3
       clear hl3 hg3 a1 a2 a3)
    | fail)
  go_end0
  rw [HG.out]
  have hs := Mt.setN_ents M n k
  exact ⟨rfl, _, _, HL3.out, .inl ⟨rfl, by rw [hs.1]; exact h0⟩, by rw [hs.2, h9]; exact Reads.empty _, H1.out, H2.out, H3.out, fun _ => ⟨rfl, rfl⟩⟩

set_option maxRecDepth 4000 in
set_option maxHeartbeats 1600000 in
theorem getMt_list (g : Nat) (M : Ms.Msg) (p : Nat) (er : Int) (w : World) (B o : Nat) (u : Value) (s : List UInt8) (hr : Rdr w B o u s p er) (hl : Msgs w g M (.slice none 0 0) (.slice none 0 0)) (hgo : g ≠ o) (hBg : B ≤ g) (h9 : M.img = []) :
    Calls Tryz.prog 91 #[.pointer (some ⟨o, 0, none⟩), .iface 106 (.pointer (some ⟨g, 8, none⟩))] w (MtElGot w B o g u s False (Mt.gstep s (M, p, er) .list)) := by
  have hi := isInt_list
  have ha := isList_list
  have HL := Lib.hid hl; have HR := Lib.hid hr
  have hBw : B ≤ w.heap.size := by have := hl.lt; omega
  clear hr hl
  go_enter Tryz.func91, Tryz.ntmps91
  go_wp2_with fail
  refine (entGet_any 2 _ B o u s p er rfl HR.out hBw).mono ?_
  rintro e2 w2 ⟨ve, rfl, hle, hr2, hb2, hs2⟩
  obtain ⟨vo, vn, vc, rfl⟩ := hle.slice
  have HL2 := Lib.hid (hs2 _ _ _ hgo HL.out)
  have HE2 := Lib.hid hle
  clear hle
  go_wp2_with (first
    | (refine store_part (by rfl) _ _ _ (by rfl) g 8 _ _ (Ms.cells {M with ents := (En.get 2 s p er).1} (.slice vo vn vc) (.slice none 0 0)) (.slice vo vn vc) [.slice vo vn vc] (by rfl) (by rfl) (by rfl) (by kernel_rfl) (by rfl) HL2.out (Nat.le_of_ble_eq_true rfl) (by rfl) ?_
       intro w3 hl3 hg3
       have HR3 := Lib.hid (hr2.beside' hg3 hgo (fun h => HL2.out.not_row (by decide) hr2.owns h.symm))
       have HB3 := Lib.hid (hb2.grown hg3 (Nat.le_trans hBw hb2.size) (by rintro x hx; cases hx; exact hBg))
       have HE3 := Lib.hid (HE2.out.kept HL2.out (by decide) hg3)
       have HS3 : Hid (Saves o g w w3) := fun k T vs h1 h2 h => (hs2 k T vs h1 h).kept hg3 (by simp; exact h2)
       have HL3 := Lib.hid hl3
       clear hl3 hg3)
    | fail)
  go_end0
  exact ⟨rfl, _, _, HL3.out, HE3.out, by show Reads _ _ M.img; rw [h9]; exact Reads.empty _, HR3.out, HS3.out, HB3.out, fun h => h.elim⟩

set_option maxRecDepth 4000 in
set_option maxHeartbeats 1600000 in
theorem getMt_img (g : Nat) (M : Ms.Msg) (p : Nat) (er : Int) (w : World) (B o : Nat) (u : Value) (s : List UInt8) (hr : Rdr w B o u s p er) (hl : Msgs w g M (.slice none 0 0) (.slice none 0 0)) (hgo : g ≠ o) (hBg : B ≤ g) (h0 : M.ents = []) :
    Calls Tryz.prog 91 #[.pointer (some ⟨o, 0, none⟩), .iface 109 (.pointer (some ⟨g, 9, none⟩))] w (MtElGot w B o g u s False (Mt.gstep s (M, p, er) .img)) := by
  have h1 := isInt_img
  have h2 := isList_img
  have ha := isImg_img
  have hsm := hr.small
  obtain ⟨x, q, e, hq, hx, hxl⟩ : ∃ (x : List UInt8) (q : Nat) (e : Int), Ms.raw s p er = (x, (q : Int), e) ∧ (e ≠ 0 → x = []) ∧ x.length ≤ s.length := by
    rcases Ms.raw_cases s p er hr.inn with ⟨e, q, _, _, h⟩ | ⟨x, q, _, _, hl, h, _⟩
    · exact ⟨[], q, e, h, (fun _ => rfl), by simp⟩
    · exact ⟨x, q, 0, h, (fun h => absurd rfl h), hl⟩
  have HQ := Lib.hid hq
  have HG : Hid (Mt.gstep s (M, p, er) .img = ({M with img := x}, q, e)) := by
    show _ = _
    unfold Mt.gstep
    dsimp only
    rw [hq]
    simp
  have HL := Lib.hid hl; have HR := Lib.hid hr
  have hBw : B ≤ w.heap.size := by have := hl.lt; omega
  clear hq hr hl
  go_enter Tryz.func91, Tryz.ntmps91
  go_wp2_with fail
  refine (rrawM_any _ B o u s p er x q e HR.out hx (by omega) HQ).mono ?_
  rintro e2 v2 ⟨vi, ⟨rfl, hr2, hg2⟩, hi2⟩
  obtain ⟨io, ic, rfl⟩ := hi2.shape
  obtain ⟨xn, hxn⟩ : ∃ xn, xn = x.length := ⟨_, rfl⟩
  rw [← hxn] at hi2 ⊢
  clear hxn
  have HL2 := Lib.hid (HL.out.kept hg2 (by simp; exact hgo))
  have HI2 := Lib.hid hi2
  go_wp2_with (first
    | (refine store_part (by rfl) _ _ _ (by rfl) g 9 _ _ (Ms.cells {M with img := x} (.slice none 0 0) (.slice io xn ic)) (.slice io xn ic) [.slice io xn ic] (by rfl) (by rfl) (by rfl) (by kernel_rfl) (by rfl) HL2.out (Nat.le_of_ble_eq_true rfl) (by rfl) ?_
       intro w3 hl3 hg3
       obtain ⟨a1, a2, a3⟩ := mt_end hr2 hg2 HL2.out hg3 hgo hBg hBw
       have HI3 := Lib.hid (HI2.out.kept_msg HL2.out hg3)
       have HL3 := Lib.hid hl3; have H1 := Lib.hid a1; have H2 := Lib.hid a2; have H3 := Lib.hid a3
       clear hl3 hg3 a1 a2 a3)
    | fail)
  go_end0
  rw [HG.out]
  exact ⟨rfl, _, _, HL3.out, .inl ⟨rfl, h0⟩, HI3.out, H1.out, H2.out, H3.out, fun h => h.elim⟩

end Go.Proofs.YtndicjpbanmpjaaGreatDoor


namespace Go.Proofs.YtndicjpbanmpjaaGreatDoor
open Go.RowKit

/-- Ten cells stored one behind the other. -/
theorem set_ten {V : World} {h : Nat} {T : TypeId} {y0 y1 y2 y3 y4 y5 y6 y7 y8 y9 : Value} {P : World → Prop} (hz : Lies V h T #[y0, y1, y2, y3, y4, y5, y6, y7, y8, y9]) (a0 a1 a2 a3 a4 a5 a6 a7 a8 a9 : Value)
    (hP : ∀ w3, Lies w3 h T #[a0, a1, a2, a3, a4, a5, a6, a7, a8, a9] → V.grownBy w3 (some h) → P w3) :
    P ((((((((((V.setCell ⟨h, 0, none⟩ a0).setCell ⟨h, 1, none⟩ a1).setCell ⟨h, 2, none⟩ a2).setCell ⟨h, 3, none⟩ a3).setCell ⟨h, 4, none⟩ a4).setCell ⟨h, 5, none⟩ a5).setCell ⟨h, 6, none⟩ a6).setCell ⟨h, 7, none⟩ a7).setCell ⟨h, 8, none⟩ a8).setCell ⟨h, 9, none⟩ a9) := by
  refine hP _ ?_ ?_
  · have := (((((((((hz.set 0 a0).set 1 a1).set 2 a2).set 3 a3).set 4 a4).set 5 a5).set 6 a6).set 7 a7).set 8 a8).set 9 a9
    simpa using this
  · exact grown_on (grown_on (grown_on (grown_on (grown_on (grown_on (grown_on (grown_on (grown_on (grown_set _ _ _ _) (grown_set _ _ _ _)) (grown_set _ _ _ _)) (grown_set _ _ _ _)) (grown_set _ _ _ _)) (grown_set _ _ _ _)) (grown_set _ _ _ _)) (grown_set _ _ _ _)) (grown_set _ _ _ _)) (grown_set _ _ _ _)

/-- What there is behind the number: the reader, the message, the proposal; a new entry's block, still zero. -/
structure PropAt (w : World) (B o g : Nat) (u : Value) (s : List UInt8) (M : Ms.Msg) (q : Nat) (e : Int) (V : World) (h : Nat) : Prop where
  z : Ents V h En.zero
  r : Rdr V B o u s q e
  m : Msgs V g M (.slice none 0 0) (.slice none 0 0)
  p : Lies V w.heap.size 108 #[.pointer (some ⟨g, 0, none⟩)]
  b : Below B w V
  s : SavesO o w V
  n : w.heap.size < h

set_option maxRecDepth 4000 in
set_option maxHeartbeats 3200000 in
theorem getMt_prop (g : Nat) (M : Ms.Msg) (p : Nat) (er : Int) (w : World) (B o : Nat) (u : Value) (s : List UInt8) (hr : Rdr w B o u s p er) (hl : Msgs w g M (.slice none 0 0) (.slice none 0 0)) (hgo : g ≠ o) (hBg : B ≤ g) (h9 : M.img = []) :
    Calls Tryz.prog 91 #[.pointer (some ⟨o, 0, none⟩), .iface 108 (.agg #[.pointer (some ⟨g, 0, none⟩)])] w (MtElGot w B o g u s False (Mt.gstep s (M, p, er) .prop)) := by
  have h1 := isInt_prop
  have h2 := isList_prop
  have h3 := isImg_prop
  have ha := isProp_prop
  obtain ⟨n, q, e, hq, hx, _, _⟩ := Cm.rnum_res s p er
  have HQ := Lib.hid hq
  have HG : Hid (Mt.gstep s (M, p, er) .prop = ({M with ents := [⟨n, M.bal, (Cm.get 2 s q e).1⟩]}, (Cm.get 2 s q e).2)) := by
    show _ = _
    unfold Mt.gstep
    dsimp only
    rw [hq]
    simp
  have ho := hr.lies.lt
  have hgl := hl.lt
  obtain ⟨w1, e1, hl1, hb1, hz1⟩ : ∃ w1, w.alloc (.cells #[.pointer (some ⟨g, 0, none⟩)] 108) = w1 ∧ Lies w1 w.heap.size 108 #[.pointer (some ⟨g, 0, none⟩)] ∧ Below w.heap.size w w1 ∧ w1.heap.size = w.heap.size + 1 :=
    ⟨_, rfl, Lies.new _ _ _, (Below.refl _ w).alloc (Nat.le_refl _) _, by simp⟩
  have hlm := hl.below hb1 hl.lt
  obtain ⟨p0, p1, p2, p3, p4, p5, p6, p7, p8, p9⟩ := Msgs.ten hlm
  have q0 := hl1.cell 0 _ rfl
  have HL1 := Lib.hid hlm; have HR1 := Lib.hid (hr.kept hb1); have HP1 := Lib.hid hl1
  have HB1 := Lib.hid hb1
  have hBw : B ≤ w.heap.size := by omega
  have HCALL : Hid (∀ W, Below w1.heap.size w1 W → Calls Tryz.prog 87 #[.pointer (some ⟨o, 0, none⟩), .int .i64 9223372036854775807] W (fun en w' => en = .returned (.int .i64 n) ∧ Rdr w' B o u s q e ∧ W.grownBy w' (some o) ∧ (∀ k T vs, k ≠ o → Lies W k T vs → Lies w' k T vs) ∧ Lies w' w.heap.size 108 #[.pointer (some ⟨g, 0, none⟩)] ∧ Msgs w' g M (.slice none 0 0) (.slice none 0 0) ∧ Below B w w' ∧ SavesO o w w')) := by
    intro W hW
    refine (rnumber_any W B o u s p er n q e (HR1.out.kept hW) hx HQ.out).mono ?_
    rintro en w' ⟨rfl, hr2, hg2⟩
    exact ⟨rfl, hr2, hg2, SavesO.of_grown hg2, (HP1.out.below hW HP1.out.lt).kept hg2 (by simp; omega), (HL1.out.below hW HL1.out.lt).kept hg2 (by simp; exact hgo),
      ((HB1.out.mono hBw).trans (hW.mono (Nat.le_trans hBw HB1.out.size))).grown hg2 (Nat.le_trans hBw (Nat.le_trans HB1.out.size hW.size)) (by rintro x hx; cases hx; exact hr2.base), ((SavesO.of_below HB1.out).trans (SavesO.of_below hW)).trans (SavesO.of_grown hg2)⟩
  have HZ1 := Lib.hid hz1
  have hoe : w1.heap.size ≠ o := by omega
  clear hq hr hl hl1 hb1 hlm hz1 p0 p1 p2 p5 p6 p7 p8 p9
  go_enter Tryz.func91, Tryz.ntmps91
  go_wp2
  obtain ⟨wz, ez, hlz, hbz⟩ : ∃ wz, w1.alloc (.cells (En.cells En.zero) 60) = wz ∧ Ents wz w1.heap.size En.zero ∧ Below w1.heap.size w1 wz := ⟨_, rfl, Lies.new _ _ _, (Below.refl _ w1).alloc (Nat.le_refl _) _⟩
  dsimp only [En.cells, En.zero, Cm.zero, Cm.bareOf, Bl.zero] at ez
  have HC1 := Lib.hid (HCALL.out w1.drew (Below.refl _ _).drew)
  have HC2 := Lib.hid (HCALL.out wz.drew hbz.drew)
  have HLZ := Lib.hid hlz
  have x0 : wz.cell? ⟨w.heap.size, 0, none⟩ = some (.pointer (some ⟨g, 0, none⟩)) := (HP1.out.below hbz HP1.out.lt).cell 0 _ rfl
  have x3 : wz.cell? ⟨g, 3, none⟩ = some (.int .i64 M.bal.round) := (HL1.out.below hbz HL1.out.lt).cell 3 _ rfl
  have x4 : wz.cell? ⟨g, 4, none⟩ = some (.int .i64 M.bal.node) := (HL1.out.below hbz HL1.out.lt).cell 4 _ rfl
  have y0 : wz.drew.cell? ⟨w.heap.size, 0, none⟩ = some (.pointer (some ⟨g, 0, none⟩)) := (HP1.out.below hbz.drew HP1.out.lt).cell 0 _ rfl
  have y3 : wz.drew.cell? ⟨g, 3, none⟩ = some (.int .i64 M.bal.round) := (HL1.out.below hbz.drew HL1.out.lt).cell 3 _ rfl
  have y4 : wz.drew.cell? ⟨g, 4, none⟩ = some (.int .i64 M.bal.node) := (HL1.out.below hbz.drew HL1.out.lt).cell 4 _ rfl
  clear hlz hbz
  go_region_with (first
    | (go_at_call 87
       with_reducible refine HC1.out.mono ?_
       rintro e2 v2 ⟨rfl, hr2, hg2, hsv, hp2, hm2, hbw, hsw⟩
       have k3 : v2.cell? ⟨g, 3, none⟩ = some (.int .i64 M.bal.round) := hm2.cell 3 _ rfl
       have k4 : v2.cell? ⟨g, 4, none⟩ = some (.int .i64 M.bal.node) := hm2.cell 4 _ rfl
       have k0 := hp2.cell 0 _ rfl
       obtain ⟨vz, evz, hz, hbvz⟩ : ∃ vz, v2.alloc (.cells (En.cells En.zero) 60) = vz ∧ Ents vz v2.heap.size En.zero ∧ Below v2.heap.size v2 vz := ⟨_, rfl, Lies.new _ _ _, (Below.refl _ v2).alloc (Nat.le_refl _) _⟩
       dsimp only [En.cells, En.zero, Cm.zero, Cm.bareOf, Bl.zero] at evz
       have j3 : vz.cell? ⟨g, 3, none⟩ = some (.int .i64 M.bal.round) := (hm2.below hbvz hm2.lt).cell 3 _ rfl
       have j4 : vz.cell? ⟨g, 4, none⟩ = some (.int .i64 M.bal.node) := (hm2.below hbvz hm2.lt).cell 4 _ rfl
       have j0 := (hp2.below hbvz hp2.lt).cell 0 _ rfl
       obtain ⟨c0, c1, c2, c3, c4, c5, c6, c7, c8, c9⟩ := Ents.ten hz
       have f0 := hz.free 0; have f1 := hz.free 1; have f2 := hz.free 2; have f3 := hz.free 3; have f4 := hz.free 4; have f5 := hz.free 5; have f6 := hz.free 6; have f7 := hz.free 7; have f8 := hz.free 8; have f9 := hz.free 9
       have HAT : Hid (PropAt w B o g u s M q e vz v2.heap.size) := ⟨hz, hr2.kept hbvz, hm2.below hbvz hm2.lt, hp2.below hbvz hp2.lt, hbw.trans (hbvz.mono (Nat.le_trans hBw hbw.size)), hsw.trans (SavesO.of_below hbvz), hp2.lt⟩
       clear hr2 hg2 hsv hp2 hm2 hbvz hz hbw hsw)
    | (go_at_call 87
       with_reducible refine HC2.out.mono ?_
       rintro e2 v2 ⟨rfl, hr2, hg2, hsv, hp2, hm2, hbw, hsw⟩
       have hz : Ents v2 w1.heap.size En.zero := hsv w1.heap.size _ _ hoe HLZ.out
       have k3 : v2.cell? ⟨g, 3, none⟩ = some (.int .i64 M.bal.round) := hm2.cell 3 _ rfl
       have k4 : v2.cell? ⟨g, 4, none⟩ = some (.int .i64 M.bal.node) := hm2.cell 4 _ rfl
       have k0 := hp2.cell 0 _ rfl
       obtain ⟨c0, c1, c2, c3, c4, c5, c6, c7, c8, c9⟩ := Ents.ten hz
       have f0 := hz.free 0; have f1 := hz.free 1; have f2 := hz.free 2; have f3 := hz.free 3; have f4 := hz.free 4; have f5 := hz.free 5; have f6 := hz.free 6; have f7 := hz.free 7; have f8 := hz.free 8; have f9 := hz.free 9
       have HAT : Hid (PropAt w B o g u s M q e v2 w1.heap.size) := ⟨hz, hr2, hm2, hp2, hbw, hsw, HP1.out.lt⟩
       clear hr2 hg2 hsv hp2 hm2 hz hbw hsw))
  clear y0 y3 y4 x0 x3 x4 HC1 HC2 HCALL HLZ p3 p4 q0
  all_goals
    refine set_ten HAT.out.z _ _ _ _ _ _ _ _ _ _ ?_
    intro w3 hl3 hg3
    clear c0 c1 c2 c3 c4 c5 c6 c7 c8 c9 f0 f1 f2 f3 f4 f5 f6 f7 f8 f9 k0 k3 k4
    try clear j0 j3 j4 evz
    have hn := HAT.out.n
    have HR3 := Lib.hid (HAT.out.r.beside' hg3 (by omega) (fun hh => HAT.out.z.not_row (by decide) HAT.out.r.owns hh.symm))
    have HM3 := Lib.hid (HAT.out.m.kept hg3 (by simp; omega)); have HP3 := Lib.hid (HAT.out.p.kept hg3 (by simp; omega))
    have HB3 := Lib.hid (HAT.out.b.grown hg3 (Nat.le_trans hBw HAT.out.b.size) (by rintro x hx; cases hx; omega))
    have HS3 : Hid (SavesO o w w3) := fun k T vs h1 h2 => (HAT.out.s k T vs h1 h2).kept hg3 (by have := h2.lt; simp; omega)
    have HL3 : Hid (Ents w3 _ ⟨n, M.bal, Cm.zero⟩) := hl3
    clear hl3 hg3 HAT
    go_wp2_with fail
    refine (cgetS_any 2 _ B o u s q e rfl HR3.out (Nat.le_trans hBw HB3.out.size)).mono ?_
    rintro e5 v5 ⟨⟨rfl, hr5, hb5⟩, hs5⟩
    obtain ⟨c, hc⟩ : ∃ c, c = Cm.get 2 s q e := ⟨_, rfl⟩
    rw [← hc] at hr5 HG ⊢
    have HL5 := Lib.hid (hs5 _ _ _ (by omega) HL3.out); have HM5 := Lib.hid (hs5 _ _ _ hgo HM3.out); have HP5 := Lib.hid (hs5 _ _ _ (by omega) HP3.out)
    have HR5 := Lib.hid hr5; have HB5 := Lib.hid (HB3.out.trans hb5); have HS5 := Lib.hid (HS3.out.trans hs5)
    clear hr5 hb5 hs5 hc
    go_wp2_with (first
      | (refine store_part (by rfl) _ _ _ (by rfl) _ 3 _ _ (En.cells ⟨n, M.bal, c.1⟩) (.agg (Cm.cells c.1)) (Cm.cells c.1).toList (by rfl) (by rfl) (by rfl) (by kernel_rfl) (by rw [Array.all_toList]; exact Cm.cells_one _) HL5.out (Nat.le_of_ble_eq_true rfl) (by rfl) ?_
         intro w6 hl hg
         have HR6 := Lib.hid (HR5.out.beside' hg (by omega) (fun h => HL5.out.not_row (by decide) HR5.out.owns h.symm))
         have HB6 := Lib.hid (HB5.out.grown hg (Nat.le_trans hBw HB5.out.size) (by rintro x hx; cases hx; omega))
         have HS6 : Hid (SavesO o w w6) := fun k T us h1 h2 => (HS5.out k T us h1 h2).kept hg (by have := h2.lt; simp; omega)
         have HM6 := Lib.hid (HM5.out.kept hg (by simp; omega))
         have HP6 := HP5.out.kept hg (by simp; omega)
         have q0 := HP6.cell 0 _ rfl
         obtain ⟨w7, e7, hl7, hb7⟩ : ∃ w7, w6.alloc (.cells (En.cells ⟨n, M.bal, c.1⟩) 60) = w7 ∧ Ents w7 w6.heap.size ⟨n, M.bal, c.1⟩ ∧ Below w6.heap.size w6 w7 := ⟨_, rfl, Lies.new _ _ _, (Below.refl _ w6).alloc (Nat.le_refl _) _⟩
         dsimp only [En.cells] at e7
         have HL7 := Lib.hid hl7; have HB7 := Lib.hid hb7; have HM7 := Lib.hid (HM6.out.below hb7 HM6.out.lt)
         obtain ⟨c0, c1, c2, c3, c4, c5, c6, c7, c8, c9⟩ := Ents.ten hl
         clear hl hg hl7 hb7 HP6)
      | (refine store_part (by rfl) _ _ _ (by rfl) g 8 _ _ (Ms.cells {M with ents := [⟨n, M.bal, c.1⟩]} (.slice (some ⟨w6.heap.size, 0, none⟩) 1 1) (.slice none 0 0)) (.slice (some ⟨w6.heap.size, 0, none⟩) 1 1) [.slice (some ⟨w6.heap.size, 0, none⟩) 1 1] (by rfl) (by rfl) (by rfl) (by kernel_rfl) (by rfl) HM7.out (Nat.le_of_ble_eq_true rfl) (by rfl) ?_
         intro w8 hl hg
         have HR8 := Lib.hid ((HR6.out.kept HB7.out).beside' hg hgo (fun h => HM7.out.not_row (by decide) (HR6.out.kept HB7.out).owns h.symm))
         have HB8 := Lib.hid ((HB6.out.trans (HB7.out.mono (Nat.le_trans hBw HB6.out.size))).grown hg (Nat.le_trans hBw (Nat.le_trans HB6.out.size HB7.out.size)) (by rintro x hx; cases hx; exact hBg))
         have HS8 : Hid (Saves o g w w8) := fun k T us h1 h2 h3 => ((HS6.out k T us h1 h3).below HB7.out (HS6.out k T us h1 h3).lt).kept hg (by simp; exact h2)
         have HE8 := Lib.hid (HL7.out.kept hg (by have := HM6.out.lt; simp; omega)); have HM8 := Lib.hid hl
         clear hl hg)
      | fail)
    go_end0
    rw [HG.out]
    exact ⟨rfl, _, _, HM8.out, .inr ⟨_, by have := HB6.out.size; omega, rfl, (by show 1 ≤ 1048576; omega), HE8.out⟩, by show Reads _ _ M.img; rw [h9]; exact Reads.empty _, HR8.out, HS8.out, HB8.out, fun h => h.elim⟩

end Go.Proofs.YtndicjpbanmpjaaGreatDoor
