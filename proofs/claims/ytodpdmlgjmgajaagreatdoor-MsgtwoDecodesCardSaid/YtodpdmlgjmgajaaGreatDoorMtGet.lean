/- A message read in V2: its elements got one behind the other. -/
import Derived.Test.YtodpdmlgjmgajaaGreatDoorMtMem
import Derived.Test.YtodpdmlgjmgajaaGreatDoorGMg
import Derived.Deep.RegionHeld3
namespace Go.Proofs.YtodpdmlgjmgajaaGreatDoor
open Go.RowKit

/-- A reading, and then a store into the message's block: what there is behind both. -/
theorem mt_end {w v w' : World} {B o g : Nat} {u : Value} {s : List UInt8} {q : Nat} {e : Int} {vs : Array Value} (hr : Rdr v B o u s q e) (hg : w.grownBy v (some o)) (hl : Lies v g 27 vs) (hg' : v.grownBy w' (some g)) (hgo : g ≠ o) (hBg : B ≤ g) (hBw : B ≤ w.heap.size) :
    Rdr w' B o u s q e ∧ Saves o g w w' ∧ Below B w w' :=
  ⟨hr.beside' hg' hgo (fun h => hl.not_row (by decide) hr.owns h.symm), (Saves.of_grown hg).trans (Saves.of_grown2 hg'),
    ((Below.refl B w).grown hg hBw (by rintro x hx; cases hx; exact hr.base)).grown hg' (Nat.le_trans hBw hg.size) (by rintro x hx; cases hx; exact hBg)⟩

/-- What the getting of an element gives. -/
def MtElGot (w : World) (B o g : Nat) (u : Value) (s : List UInt8) (num : Prop) (t : Ms.Msg × Nat × Int) (e : Ending) (w' : World) : Prop :=
  e = .returned (.tuple #[]) ∧ ∃ ve vi, Msgs w' g t.1 ve vi ∧ ListE o w' ve t.1.ents ∧ Reads w' vi t.1.img ∧ Rdr w' B o u s t.2.1 t.2.2 ∧ Saves o g w w' ∧ Below B w w' ∧ (num → ve = .slice none 0 0 ∧ vi = .slice none 0 0)

set_option maxRecDepth 4000 in
set_option maxHeartbeats 1600000 in
theorem getMt_num (k g : Nat) (M : Ms.Msg) (p : Nat) (er : Int) (w : World) (B o : Nat) (u : Value) (s : List UInt8) (hk : k < 8) (hr : Rdr w B o u s p er) (hl : Msgs w g M (.slice none 0 0) (.slice none 0 0)) (hgo : g ≠ o) (hBg : B ≤ g) (h0 : M.ents = []) (h9 : M.img = []) :
    Calls Tryz.prog 52 #[.pointer (some ⟨o, 0, none⟩), .iface 68 (.pointer (some ⟨g, k, none⟩))] w (MtElGot w B o g u s True (Mt.gstep s (M, p, er) (.num k))) := by
  have ha := isInt_num
  obtain ⟨n, q, e, hq, hx, _, _⟩ := Cm.rnum_res s p er
  have HQ := Lib.hid hq
  have HG : Hid (Mt.gstep s (M, p, er) (.num k) = (Mt.setN M n k, q, e)) := by
    show _ = _
    unfold Mt.gstep
    dsimp only
    rw [hq]
    simp
  have HL := Lib.hid hl; have HR := Lib.hid hr
  have hBw : B ≤ w.heap.size := by have := hl.lt; omega
  clear hq hr hl
  go_enter Tryz.func52, Tryz.ntmps52
  go_wp2_with fail
  refine (rnumber_any _ B o u s p er n q e HR.out hx HQ).mono ?_
  rintro e2 v2 ⟨rfl, hr2, hg2⟩
  have HL2 := Lib.hid (HL.out.kept hg2 (by simp; exact hgo))
  go_wp2_with (first
    | (refine store_part (by rfl) _ _ _ (by rfl) g k _ _ (Ms.cells (Mt.setN M n k) (.slice none 0 0) (.slice none 0 0)) (.int .i64 n) [.int .i64 n] (by rfl) (by rfl) (by rfl) (by kernel_rfl) (by rfl) HL2.out (show k + 1 ≤ 10 by omega) (Mt.cells_set M n _ _ hk) ?_
       intro w3 hl3 hg3
       obtain ⟨a1, a2, a3⟩ := mt_end hr2 hg2 HL2.out hg3 hgo hBg hBw
       have HL3 := Lib.hid hl3; have H1 := Lib.hid a1; have H2 := Lib.hid a2; have H3 := Lib.hid a3
       clear hl3 hg3 a1 a2 a3)
    | fail)
  go_end0
  rw [HG.out]
  have hs := Mt.setN_ents M n k
  exact ⟨rfl, _, _, HL3.out, .inl ⟨rfl, by rw [hs.1]; exact h0⟩, by rw [hs.2, h9]; exact Reads.empty _, H1.out, H2.out, H3.out, fun _ => ⟨rfl, rfl⟩⟩

set_option maxRecDepth 4000 in
set_option maxHeartbeats 1600000 in
theorem getMt_list (g : Nat) (M : Ms.Msg) (p : Nat) (er : Int) (w : World) (B o : Nat) (u : Value) (s : List UInt8) (hr : Rdr w B o u s p er) (hl : Msgs w g M (.slice none 0 0) (.slice none 0 0)) (hgo : g ≠ o) (hBg : B ≤ g) (h9 : M.img = []) :
    Calls Tryz.prog 52 #[.pointer (some ⟨o, 0, none⟩), .iface 77 (.pointer (some ⟨g, 8, none⟩))] w (MtElGot w B o g u s False (Mt.gstep s (M, p, er) .list)) := by
  have hi := isInt_list
  have ha := isList_list
  have HL := Lib.hid hl; have HR := Lib.hid hr
  have hBw : B ≤ w.heap.size := by have := hl.lt; omega
  clear hr hl
  go_enter Tryz.func52, Tryz.ntmps52
  go_wp2_with fail
  refine (entGet_any 2 _ B o u s p er rfl HR.out hBw).mono ?_
  rintro e2 w2 ⟨ve, rfl, hle, hr2, hb2, hs2⟩
  obtain ⟨vo, vn, vc, rfl⟩ := hle.slice
  have HL2 := Lib.hid (hs2 _ _ _ hgo HL.out)
  have HE2 := Lib.hid hle
  clear hle
  go_wp2_with (first
    | (refine store_part (by rfl) _ _ _ (by rfl) g 8 _ _ (Ms.cells {M with ents := (En.get 2 s p er).1} (.slice vo vn vc) (.slice none 0 0)) (.slice vo vn vc) [.slice vo vn vc] (by rfl) (by rfl) (by rfl) (by kernel_rfl) (by rfl) HL2.out (Nat.le_of_ble_eq_true rfl) (by rfl) ?_
       intro w3 hl3 hg3
       have HR3 := Lib.hid (hr2.beside' hg3 hgo (fun h => HL2.out.not_row (by decide) hr2.owns h.symm))
       have HB3 := Lib.hid (hb2.grown hg3 (Nat.le_trans hBw hb2.size) (by rintro x hx; cases hx; exact hBg))
       have HE3 := Lib.hid (HE2.out.kept HL2.out (by decide) hg3)
       have HS3 : Hid (Saves o g w w3) := fun k T vs h1 h2 h => (hs2 k T vs h1 h).kept hg3 (by simp; exact h2)
       have HL3 := Lib.hid hl3
       clear hl3 hg3)
    | fail)
  go_end0
  exact ⟨rfl, _, _, HL3.out, HE3.out, by show Reads _ _ M.img; rw [h9]; exact Reads.empty _, HR3.out, HS3.out, HB3.out, fun h => h.elim⟩

set_option maxRecDepth 4000 in
set_option maxHeartbeats 1600000 in
theorem getMt_img (g : Nat) (M : Ms.Msg) (p : Nat) (er : Int) (w : World) (B o : Nat) (u : Value) (s : List UInt8) (hr : Rdr w B o u s p er) (hl : Msgs w g M (.slice none 0 0) (.slice none 0 0)) (hgo : g ≠ o) (hBg : B ≤ g) (h0 : M.ents = []) :
    Calls Tryz.prog 52 #[.pointer (some ⟨o, 0, none⟩), .iface 80 (.pointer (some ⟨g, 9, none⟩))] w (MtElGot w B o g u s False (Mt.gstep s (M, p, er) .img)) := by
  have h1 := isInt_img
  have h2 := isList_img
  have ha := isImg_img
  have hsm := hr.small
  obtain ⟨x, q, e, hq, hx, hxl⟩ : ∃ (x : List UInt8) (q : Nat) (e : Int), Ms.raw s p er = (x, (q : Int), e) ∧ (e ≠ 0 → x = []) ∧ x.length ≤ s.length := by
    rcases Ms.raw_cases s p er hr.inn with ⟨e, q, _, _, h⟩ | ⟨x, q, _, _, hl, h, _⟩
    · exact ⟨[], q, e, h, (fun _ => rfl), by simp⟩
    · exact ⟨x, q, 0, h, (fun h => absurd rfl h), hl⟩
  have HQ := Lib.hid hq
  have HG : Hid (Mt.gstep s (M, p, er) .img = ({M with img := x}, q, e)) := by
    show _ = _
    unfold Mt.gstep
    dsimp only
    rw [hq]
    simp
  have HL := Lib.hid hl; have HR := Lib.hid hr
  have hBw : B ≤ w.heap.size := by have := hl.lt; omega
  clear hq hr hl
  go_enter Tryz.func52, Tryz.ntmps52
  go_wp2_with fail
  refine (rrawM_any _ B o u s p er x q e HR.out hx (by omega) HQ).mono ?_
  rintro e2 v2 ⟨vi, ⟨rfl, hr2, hg2⟩, hi2⟩
  obtain ⟨io, ic, rfl⟩ := hi2.shape
  obtain ⟨xn, hxn⟩ : ∃ xn, xn = x.length := ⟨_, rfl⟩
  rw [← hxn] at hi2 ⊢
  clear hxn
  have HL2 := Lib.hid (HL.out.kept hg2 (by simp; exact hgo))
  have HI2 := Lib.hid hi2
  go_wp2_with (first
    | (refine store_part (by rfl) _ _ _ (by rfl) g 9 _ _ (Ms.cells {M with img := x} (.slice none 0 0) (.slice io xn ic)) (.slice io xn ic) [.slice io xn ic] (by rfl) (by rfl) (by rfl) (by kernel_rfl) (by rfl) HL2.out (Nat.le_of_ble_eq_true rfl) (by rfl) ?_
       intro w3 hl3 hg3
       obtain ⟨a1, a2, a3⟩ := mt_end hr2 hg2 HL2.out hg3 hgo hBg hBw
       have HI3 := Lib.hid (HI2.out.kept_msg HL2.out hg3)
       have HL3 := Lib.hid hl3; have H1 := Lib.hid a1; have H2 := Lib.hid a2; have H3 := Lib.hid a3
       clear hl3 hg3 a1 a2 a3)
    | fail)
  go_end0
  rw [HG.out]
  exact ⟨rfl, _, _, HL3.out, .inl ⟨rfl, h0⟩, HI3.out, H1.out, H2.out, H3.out, fun h => h.elim⟩

end Go.Proofs.YtodpdmlgjmgajaaGreatDoor
