/- Several texts of mine in one: HdMake HdRefC GHd SgHead. -/
import Derived.Test.YteboceekcmchkaaGreatDoorGHc
import Derived.Test.YteboceekcmchkaaGreatDoorGHb
import Derived.Test.YteboceekcmchkaaGreatDoorPMsCame
import Derived.Test.YteboceekcmchkaaGreatDoorPGBl
import Derived.Test.YteboceekcmchkaaGreatDoorPGBm
import Derived.Test.YteboceekcmchkaaGreatDoorGRf
import Derived.Test.YteboceekcmchkaaGreatDoorPGMa
import Derived.Test.YteboceekcmchkaaGreatDoorGSb
import Derived.Test.YteboceekcmchkaaGreatDoorPSgMem
import Derived.Test.YteboceekcmchkaaGreatDoorGRu
import Derived.Test.YteboceekcmchkaaGreatDoorPGFt
import Derived.Test.YteboceekcmchkaaGreatDoorPGMg
namespace Go.Proofs.YteboceekcmchkaaGreatDoor
open Go.RowKit
abbrev RecsO (w : World) (base : Nat) (v : Value) (l : List Re.Rec) : Prop := ListO 12 Re.cells Re.Rec.img (fun _ t => t = 5) w base 42 v l
theorem RecsO.reads {w : World} {base : Nat} {v : Value} {l : List Re.Rec} (h : RecsO w base v l) : RecsP (fun k _ => k < w.heap.size) w v l :=
 ListO.reads (ListO.imp h fun b cs t fr e _ => lt_of_obj e) cellR_ok fun g e => by obtain ⟨cs, hc, _⟩ := ListO.blocks h e; exact lt_of_obj hc
theorem RecsO.shape {w : World} {base : Nat} {v : Value} {l : List Re.Rec} (h : RecsO w base v l) : ∃ o n c, v = .slice o n c := by
 obtain ⟨ps, _, h1, _⟩ := h
 obtain ⟨a, c, e⟩ := OwnsR.shape h1
 exact ⟨a, _, c, e⟩
theorem RecsO.behind {w w' W : World} {base : Nat} {v : Value} {l : List Re.Rec} (h : RecsO w base v l) (hb : Below base W w) (hs : base ≤ W.heap.size) (hg : w.grownBy w' v.ownBlock) : Below base W w' :=
 hb.grown hg (Nat.le_trans hs hb.size) fun g e => by obtain ⟨_, _, h2⟩ := ListO.blocks h e; exact h2
end Go.Proofs.YteboceekcmchkaaGreatDoor

namespace Go.Proofs.YteboceekcmchkaaGreatDoor
open Go.RowKit
set_option maxHeartbeats 6400000
set_option maxRecDepth 4000
def Hd.okA (h : Hd.Hard) (e : En.Ent) : Prop := h.base < e.index ∧ e.bal.round ≠ 0 ∧ Bl.less h.prom e.bal = false
def Hd.okC (h : Hd.Hard) (e : En.Ent) : Prop := h.base < e.index ∧ e.bal.round = 0
theorem Hd.take_ok {P : En.Ent → Prop} {l : List En.Ent} {k : Nat} {e : En.Ent} (he : l[k]? = some e) (h : ∀ d ∈ l.take k, P d) (hp : P e) : ∀ d ∈ l.take (k + 1), P d := by
 intro d hd
 rw [List.take_add_one, he] at hd
 rcases List.mem_append.1 hd with hd | hd
 ·exact h d hd
 ·simp at hd; subst hd; exact hp
theorem refCheckH_any (b : Bool) (h : Hd.Hard) (vi va vc : Value) (w : World) (hr : HardR w h vi va vc) (hb : b = true ↔ Hd.Valid h) (ha : ∀ e ∈ h.acc, e.cmd.Short 140737488355328) (hc : ∀ e ∈ h.chs, e.cmd.Short 140737488355328) :
 Calls Tryz.prog 11 #[.agg (Hd.cells h vi va vc)] w (Looks w (.bool b)) := by
 obtain ⟨io, ic, rfl⟩ := hr.img.shape
 obtain ⟨ao, ac, rfl, ha1, ha2⟩ := ReadsE.shape hr.acc
 obtain ⟨co, cc, rfl, hc1, hc2⟩ := ReadsE.shape hr.chs
 obtain ⟨w1, e1, hl1, hB1, _⟩ := box_hard w h (.slice io h.img.length ic) (.slice ao h.acc.length ac) (.slice co h.chs.length cc)
 have HR := Lib.hid (hr.below hB1); have HB := Lib.hid hB1; have HL := Lib.hid hl1; have HA := Lib.hid ha; have HC := Lib.hid hc
 have HV := Lib.hid hb
 have HPA := Lib.hid (fun x => ReadsE.places (hr.below hB1).acc x)
 have HPC := Lib.hid (fun x => ReadsE.places (hr.below hB1).chs x)
 obtain ⟨n, hn⟩ : ∃ n, n = h.img.length := ⟨_, rfl⟩
 obtain ⟨na, hna⟩ : ∃ n, n = h.acc.length := ⟨_, rfl⟩
 obtain ⟨nc, hnc⟩ : ∃ n, n = h.chs.length := ⟨_, rfl⟩
 rw [← hn, ← hna, ← hnc] at HR HL e1
 rw [← hna] at HPA ha1
 rw [← hnc] at HPC hc1
 rw [← hn, ← hna, ← hnc]
 have HN := Lib.hid hn; have HNA := Lib.hid hna; have HNC := Lib.hid hnc
 have hnab : na < 9223372036854775808 := by omega
 have hncb : nc < 9223372036854775808 := by omega
 have c0 : w1.cell? ⟨w.heap.size, 0, none⟩ = some (.int .i64 h.prom.round) := HL.out.cell 0 _ rfl
 have c1 : w1.cell? ⟨w.heap.size, 1, none⟩ = some (.int .i64 h.prom.node) := HL.out.cell 1 _ rfl
 have HBAD : Hid (∀ W, Below w1.heap.size w1 W → ¬ Hd.Valid h → Looks w (.bool b) (.returned (.bool false)) W) := by
  intro W hW hx
  refine ⟨?_, HB.out.trans (hW.mono HB.out.size)⟩
  cases b
  ·rfl
  ·exact absurd (HV.out.1 rfl) hx
 clear hn hna hnc hr hl1 hB1 ha hc hb ha2 hc2
 go_enter Tryz.func11, Tryz.ntmps11
 go_wp2_with fail
 refine (brefMay_any h.prom _).mono ?_
 rintro e w2 ⟨rfl, hb2⟩
 have HB2 := Lib.hid hb2
 clear c0 c1 hb2
 have c2 : w2.cell? ⟨w.heap.size, 2, none⟩ = some (.int .i64 h.base) := (HL.out.below HB2.out HL.out.lt).cell 2 _ rfl
 have c3 : w2.cell? ⟨w.heap.size, 3, none⟩ = some (.slice io n ic) := (HL.out.below HB2.out HL.out.lt).cell 3 _ rfl
 have c4 : w2.cell? ⟨w.heap.size, 4, none⟩ = some (.slice ao na ac) := (HL.out.below HB2.out HL.out.lt).cell 4 _ rfl
 obtain ⟨t, ht⟩ : ∃ t, t = Bl.may h.prom := ⟨_, rfl⟩
 rw [← ht]
 have HT := Lib.hid ht
 clear ht
 cases t with
 | false =>
  have HZ : Hid (¬ Hd.Valid h) := fun v => by have := v.prom; rw [← HT.out] at this; cases this
  go_wp2
  go_ret
  exact HBAD.out _ HB2.out HZ.out
 | true =>
  by_cases p1 : h.base < 0
  ·have HZ : Hid (¬ Hd.Valid h) := fun v => by have := v.base; omega
   go_wp2
   go_ret
   exact HBAD.out _ HB2.out HZ.out
  by_cases p2 : 4294967296 < h.base
  ·have HZ : Hid (¬ Hd.Valid h) := fun v => by have := v.base; omega
   go_wp2
   go_ret
   exact HBAD.out _ HB2.out HZ.out
  by_cases p3 : 32768 < n
  ·have HZ : Hid (¬ Hd.Valid h) := fun v => by have := v.img; rw [← HN.out] at this; omega
   go_wp2
   go_ret
   exact HBAD.out _ HB2.out HZ.out
  have HI : Hid (h.img ≠ [] ↔ 0 < n) := by
   show _ ↔ _
   rw [HN.out]
   cases h.img <;> simp
  by_cases p4 : (0 < h.base ↔ 0 < n)
  rotate_left
  ·have HZ : Hid (¬ Hd.Valid h) := fun v => p4 (v.both.trans HI.out)
   by_cases q1 : 0 < h.base
   ·have q2 : ¬ 0 < n := fun x => p4 ⟨fun _ => x, fun _ => q1⟩
    clear p4
    go_wp2
    go_ret
    exact HBAD.out _ HB2.out HZ.out
   ·have q2 : 0 < n := Decidable.byContradiction fun x => p4 ⟨fun y => absurd y q1, fun y => absurd y x⟩
    clear p4
    go_wp2
    go_ret
    exact HBAD.out _ HB2.out HZ.out
  have HI4 : Hid (0 < h.base ↔ h.img ≠ []) := p4.trans HI.out.symm
  have HP1 : Hid (0 ≤ h.base ∧ h.base ≤ 4294967296) := ⟨by omega, by omega⟩
  have HP3 : Hid (h.img.length ≤ 32768) := by show _ ≤ _; rw [← HN.out]; omega
  have hca : Calls Tryz.prog 28 #[.slice ao na ac] w2 (Looks w2 (.int .i64 (En.check 0 h.acc))) := refCheckE_any _ h.acc w2 (HR.out.acc.below HB2.out) HA.out
  obtain ⟨ra, hra⟩ : ∃ r, r = En.check 0 h.acc := ⟨_, rfl⟩
  rw [← hra] at hca
  have HRA := Lib.hid hra
  obtain ⟨d, hd1, hd2⟩ : ∃ d : Bool, decide (0 < h.base) = d ∧ decide (0 < n) = d := ⟨_, rfl, decide_eq_decide.2 p4.symm⟩
  have hd3 : decide ((0 : Int) < (n : Int)) = d := by rw [← hd2]; exact decide_eq_decide.2 (by omega)
  clear hra p4
  go_wp2_with fail
  refine hca.mono ?_
  rintro e w3 ⟨rfl, hb3⟩
  have HB3 := Lib.hid (HB2.out.trans (hb3.mono HB2.out.size))
  clear hb3 hca c2 c3 c4 hd1 hd2 hd3
  by_cases p5 : ra = 0
  rotate_left
  ·have HZ : Hid (¬ Hd.Valid h) := fun v => p5 (by rw [HRA.out]; exact v.acc)
   have p5b : (ra != 0) = true := by simpa using p5
   go_wp2
   go_ret
   exact HBAD.out _ HB3.out HZ.out
  subst p5
  have c5 : w3.cell? ⟨w.heap.size, 5, none⟩ = some (.slice co nc cc) := (HL.out.below HB3.out HL.out.lt).cell 5 _ rfl
  have hcc : Calls Tryz.prog 28 #[.slice co nc cc] w3 (Looks w3 (.int .i64 (En.check 0 h.chs))) := refCheckE_any _ h.chs w3 (HR.out.chs.below HB3.out) HC.out
  obtain ⟨rc, hrc⟩ : ∃ r, r = En.check 0 h.chs := ⟨_, rfl⟩
  rw [← hrc] at hcc
  have HRC := Lib.hid hrc
  clear hrc
  go_wp2_with fail
  refine hcc.mono ?_
  rintro e w4 ⟨rfl, hb4⟩
  have HB4 := Lib.hid (HB3.out.trans (hb4.mono HB3.out.size))
  clear hb4 hcc c5
  by_cases p6 : rc = 0
  rotate_left
  ·have HZ : Hid (¬ Hd.Valid h) := fun v => p6 (by rw [HRC.out]; exact v.chs)
   have p6b : (rc != 0) = true := by simpa using p6
   go_wp2
   go_ret
   exact HBAD.out _ HB4.out HZ.out
  subst p6
  clear p1 p2 p3
  go_wp2
  go_loopw [3] (fun i wr => ∃ k : Nat, i = .int .i64 (k : Int) ∧ k ≤ na ∧ Hid (∀ e ∈ h.acc.take k, Hd.okA h e) ∧ Hid (Below w1.heap.size w1 wr)) (fun i _ => na - (intOf i).toNat)
  case atStart => exact ⟨0, rfl, by omega, by show ∀ c ∈ _, _; simp, HB4⟩
  case round =>
   obtain ⟨k, rfl, hk, HJ, HB5⟩ := hrel
   have m4 : wr.cell? ⟨w.heap.size, 4, none⟩ = some (.slice ao na ac) := (HL.out.below HB5.out HL.out.lt).cell 4 _ rfl
   by_cases hlt : k < na
   ·obtain ⟨a, ha⟩ : ∃ a, h.acc[k]? = some a := ⟨_, List.getElem?_eq_getElem (by have := HNA.out; omega)⟩
    obtain ⟨g, off, rfl, hgl, hcell⟩ := HPA.out (by have := HNA.out; omega)
    have HCELL : Hid (∀ W, Below w1.heap.size w1 W → EntAt W g (off + k * 10) a) := fun W hW => hcell W hW k a ha
    obtain ⟨_, c1, c2, _, _, _, _, _, _, _⟩ := HCELL.out wr HB5.out
    have HAT := Lib.hid ha
    clear hcell ha
    go_wp2_with (refine store_bal (by rfl) _ _ (by rfl) wr.heap.size Bl.zero a.bal (by rfl) (by rfl) (Lies.new _ _ _) ?_; intro w5 hl5 hg5)
    have HB6 := Lib.hid (HB5.out.trans ((fresh_below hg5).mono HB5.out.size))
    have HL5 := Lib.hid hl5
    clear hl5 hg5 m4 c1 c2
    go_simp
    have k0 := fun p : Behind w5 => (show p.world.cell? ⟨w.heap.size, 4, none⟩ = some (.slice (some ⟨g, off, none⟩) na ac) from (HL.out.below (HB6.out.trans (p.below.mono HB6.out.size)) HL.out.lt).cell 4 _ rfl)
    have k1 := fun p : Behind w5 => (show p.world.cell? ⟨w.heap.size, 2, none⟩ = some (.int .i64 h.base) from (HL.out.below (HB6.out.trans (p.below.mono HB6.out.size)) HL.out.lt).cell 2 _ rfl)
    have k2 := fun p : Behind w5 => (show p.world.cell? ⟨w.heap.size, 0, none⟩ = some (.int .i64 h.prom.round) from (HL.out.below (HB6.out.trans (p.below.mono HB6.out.size)) HL.out.lt).cell 0 _ rfl)
    have k3 := fun p : Behind w5 => (show p.world.cell? ⟨w.heap.size, 1, none⟩ = some (.int .i64 h.prom.node) from (HL.out.below (HB6.out.trans (p.below.mono HB6.out.size)) HL.out.lt).cell 1 _ rfl)
    have k4 := fun p : Behind w5 => (HCELL.out p.world (HB6.out.trans (p.below.mono HB6.out.size))).c0
    have k5 := fun p : Behind w5 => (Bals.both (HL5.out.below p.below HL5.out.lt)).1
    have k6 := fun p : Behind w5 => (Bals.both (HL5.out.below p.below HL5.out.lt)).2
    by_cases q1 : a.index ≤ h.base
    ·have HZ : Hid (¬ Hd.Valid h) := fun v => by have := v.accs a (List.mem_of_getElem? HAT.out); omega
     have hx1 : decide (a.index ≤ h.base) = true := decide_eq_true q1
     clear q1
     refine wp_region_behind (by kernel_rfl) (by kernel_rfl) ?_
     repeat (go_big_quiet_step (fail))
     refine wpQuiet_nil ?_
     rintro w6 ⟨⟨w6, hB6⟩, rfl⟩
     (try dsimp only)
     clear k0 k1 k2 k3 k4 k5 k6
     go_wp2
     go_ret
     exact HBAD.out _ (HB6.out.trans (hB6.mono HB6.out.size)) HZ.out
    have hx1 : decide (a.index ≤ h.base) = false := decide_eq_false q1
    by_cases q2 : a.bal.round = 0
    ·have HZ : Hid (¬ Hd.Valid h) := fun v => (v.accs a (List.mem_of_getElem? HAT.out)).2.1 q2
     have hx2 : (a.bal.round == 0) = true := by simpa using q2
     clear q1 q2
     refine wp_region_behind (by kernel_rfl) (by kernel_rfl) ?_
     repeat (go_big_quiet_step (fail))
     refine wpQuiet_nil ?_
     rintro w6 ⟨⟨w6, hB6⟩, rfl⟩
     (try dsimp only)
     clear k0 k1 k2 k3 k4 k5 k6
     go_wp2
     go_ret
     exact HBAD.out _ (HB6.out.trans (hB6.mono HB6.out.size)) HZ.out
    have hx2 : (a.bal.round == 0) = false := by simpa using q2
    obtain ⟨t, ht⟩ : ∃ t, t = Bl.less h.prom a.bal := ⟨_, rfl⟩
    have HQ : Hid (h.base < a.index ∧ a.bal.round ≠ 0) := ⟨by omega, q2⟩
    have HTT := Lib.hid ht
    clear q1 q2 ht
    refine wp_region_behind (by kernel_rfl) (by kernel_rfl) ?_
    repeat (go_big_quiet_step ((go_at_call 29; exact Looks.behind (brefLess_any h.prom a.bal _))))
    refine wpQuiet_nil ?_
    rintro w6 ⟨⟨w6, hB6⟩, rfl⟩
    (try dsimp only)
    rw [← HTT.out]
    have HB7 := Lib.hid (HB6.out.trans (hB6.mono HB6.out.size))
    clear k0 k1 k2 k3 k4 k5 k6 hB6
    cases t with
    | true =>
     have HZ : Hid (¬ Hd.Valid h) := fun v => by have := (v.accs a (List.mem_of_getElem? HAT.out)).2.2; rw [← HTT.out] at this; cases this
     go_wp2
     go_ret
     exact HBAD.out _ HB7.out HZ.out
    | false =>
     have HJ2 : Hid (∀ e ∈ h.acc.take (k + 1), Hd.okA h e) := Hd.take_ok HAT.out HJ.out ⟨HQ.out.1, HQ.out.2, HTT.out.symm⟩
     go_wp2
     go_roundw
     case rel => exact ⟨k + 1, by go_num, by omega, HJ2.out, HB7⟩
     case measure => simp [intOf]; omega
   ·obtain rfl : k = na := by omega
    have HACC : Hid (∀ e ∈ h.acc, Hd.okA h e) := by
     intro e he
     refine HJ.out e ?_
     rw [List.take_of_length_le (by have := HNA.out; omega)]
     exact he
    clear HJ
    go_wp2
    clear m4
    obtain ⟨wv, hwv⟩ : ∃ wv, wv = wr := ⟨_, rfl⟩
    rw [← hwv]
    have HB6 : Hid (Below w1.heap.size w1 wv) := by rw [hwv]; exact HB5
    clear hwv HB5
    go_loopw [5] (fun i wr => ∃ k : Nat, i = .int .i64 (k : Int) ∧ k ≤ nc ∧ Hid (∀ e ∈ h.chs.take k, Hd.okC h e) ∧ Hid (Below w1.heap.size w1 wr)) (fun i _ => nc - (intOf i).toNat)
    case atStart => exact ⟨0, rfl, by omega, by show ∀ c ∈ _, _; simp, HB6⟩
    case round =>
     obtain ⟨j, rfl, hj, HJ, HB7⟩ := hrel
     have m5 : wr.cell? ⟨w.heap.size, 5, none⟩ = some (.slice co nc cc) := (HL.out.below HB7.out HL.out.lt).cell 5 _ rfl
     by_cases hlj : j < nc
     ·obtain ⟨a, ha⟩ : ∃ a, h.chs[j]? = some a := ⟨_, List.getElem?_eq_getElem (by have := HNC.out; omega)⟩
      obtain ⟨g, off, rfl, hgl, hcell⟩ := HPC.out (by have := HNC.out; omega)
      have HCELL : Hid (∀ W, Below w1.heap.size w1 W → EntAt W g (off + j * 10) a) := fun W hW => hcell W hW j a ha
      have HAT := Lib.hid ha
      clear hcell ha
      go_wp2
      clear m5
      have k0 := fun p : Behind wr => (show p.world.cell? ⟨w.heap.size, 5, none⟩ = some (.slice (some ⟨g, off, none⟩) nc cc) from (HL.out.below (HB7.out.trans (p.below.mono HB7.out.size)) HL.out.lt).cell 5 _ rfl)
      have k1 := fun p : Behind wr => (show p.world.cell? ⟨w.heap.size, 2, none⟩ = some (.int .i64 h.base) from (HL.out.below (HB7.out.trans (p.below.mono HB7.out.size)) HL.out.lt).cell 2 _ rfl)
      have k2 := fun p : Behind wr => (HCELL.out p.world (HB7.out.trans (p.below.mono HB7.out.size))).c0
      have k3 := fun p : Behind wr => (HCELL.out p.world (HB7.out.trans (p.below.mono HB7.out.size))).c1
      by_cases q1 : a.index ≤ h.base
      ·have HZ : Hid (¬ Hd.Valid h) := fun v => by have := v.chss a (List.mem_of_getElem? HAT.out); omega
       have hx1 : decide (a.index ≤ h.base) = true := decide_eq_true q1
       clear q1
       refine wp_region_behind (by kernel_rfl) (by kernel_rfl) ?_
       repeat (go_big_quiet_step (fail))
       refine wpQuiet_nil ?_
       rintro w6 ⟨⟨w6, hB6⟩, rfl⟩
       (try dsimp only)
       clear k0 k1 k2 k3
       go_wp2
       go_ret
       exact HBAD.out _ (HB7.out.trans (hB6.mono HB7.out.size)) HZ.out
      have hx1 : decide (a.index ≤ h.base) = false := decide_eq_false q1
      obtain ⟨t, ht⟩ : ∃ t, t = (a.bal.round != 0) := ⟨_, rfl⟩
      have HTT := Lib.hid ht
      have HQ : Hid (h.base < a.index) := by show _ < _; omega
      clear q1 ht
      refine wp_region_behind (by kernel_rfl) (by kernel_rfl) ?_
      repeat (go_big_quiet_step (fail))
      refine wpQuiet_nil ?_
      rintro w6 ⟨⟨w6, hB6⟩, rfl⟩
      (try dsimp only)
      rw [← HTT.out]
      have HB8 := Lib.hid (HB7.out.trans (hB6.mono HB7.out.size))
      clear k0 k1 k2 k3 hB6
      cases t with
      | true =>
       have HZ : Hid (¬ Hd.Valid h) := fun v => by
        have := (v.chss a (List.mem_of_getElem? HAT.out)).2
        have h2 := HTT.out
        rw [this] at h2
        cases h2
       go_wp2
       go_ret
       exact HBAD.out _ HB8.out HZ.out
      | false =>
       have HJ2 : Hid (∀ e ∈ h.chs.take (j + 1), Hd.okC h e) := Hd.take_ok HAT.out HJ.out ⟨HQ.out, by have := HTT.out; simpa using this.symm⟩
       go_wp2
       go_roundw
       case rel => exact ⟨j + 1, by go_num, by omega, HJ2.out, HB8⟩
       case measure => simp [intOf]; omega
     ·obtain rfl : j = nc := by omega
      have HZ : Hid (Hd.Valid h) := by
       refine ⟨HT.out.symm, HP1.out, HP3.out, HI4.out, HRA.out.symm, HRC.out.symm, HACC.out, fun e he => HJ.out e ?_⟩
       rw [List.take_of_length_le (by have := HNC.out; omega)]
       exact he
      go_wp2
      go_ret
      exact ⟨by rw [HV.out.2 HZ.out]; rfl, HB.out.trans (HB7.out.mono HB.out.size)⟩
end Go.Proofs.YteboceekcmchkaaGreatDoor

namespace Go.Proofs.YteboceekcmchkaaGreatDoor
open Go.RowKit
set_option maxHeartbeats 1600000
set_option maxRecDepth 4000
def Hd.pic (b : Int) (l : List UInt8) : Re.Rec := ⟨4, Bl.zero, b, Cm.zero, l⟩
def Hd.imgOk (b : Int) (l : List UInt8) : Bool := (decide (b = 0) && decide (l.length = 0)) || decide (Re.check (Hd.pic b l) = 0)
def Hd.first (b : Int) (l : List En.Ent) : Bool := match l with
 | [] => true
 | e :: _ => decide (b < e.index)
def Hd.above (b : Int) (l : List En.Ent) : Bool := decide (En.check 0 l = 0) && Hd.first b l
theorem isImage_any (b : Int) (vi : Value) (l : List UInt8) (w : World) (hW : WordsIn w) (hv : Reads w vi l) :
 Calls Tryz.prog 44 #[.int .i64 b, vi] w (Looks w (.bool (Hd.imgOk b l))) := by
 have HW := Lib.hid hW
 have HV := Lib.hid hv
 have hcall := image_any b vi l w hv
 obtain ⟨io, ic, rfl⟩ := hv.shape
 obtain ⟨y, hy⟩ : ∃ y, y = Re.check (Hd.pic b l) := ⟨_, rfl⟩
 have HCHK : Hid (∀ W, Below w.heap.size w W → Calls Tryz.prog 80 #[.agg (Re.cells (Hd.pic b l) (.slice io l.length ic))] W (Looks W (.int .i64 y))) := by
  intro W hb
  rw [hy]
  exact checkRe_any (Hd.pic b l) _ W (HW.out.below hb) (HV.out.below hb) ⟨by simp [Hd.pic, Cm.zero, Cm.bareOf], by simp [Hd.pic, Cm.zero, Cm.bareOf], by simp [Hd.pic, Cm.zero, Cm.bareOf]⟩
 have hok : Hd.imgOk b l = ((decide (b = 0) && decide (l.length = 0)) || decide (y = 0)) := by unfold Hd.imgOk; rw [hy]
 rw [hok]
 obtain ⟨n, hn⟩ : ∃ n, n = l.length := ⟨_, rfl⟩
 rw [← hn] at hcall HCHK ⊢
 clear hok hy hn hv hW
 go_enter Tryz.func44, Tryz.ntmps44
 by_cases hb : b = 0
 ·subst hb
  by_cases h0 : n = 0
  ·have h01 : ((n : Int) == 0) = true := by simp; omega
   subst h0
   go_wp2
   go_ret
   exact ⟨by simp, Below.refl _ _⟩
  ·have h01 : ((n : Int) == 0) = false := by simp; omega
   go_wp2_with fail
   refine hcall.mono ?_
   rintro e w2 ⟨rfl, hb2⟩
   have HB2 := Lib.hid hb2
   clear hcall hb2
   go_wp2_with fail
   refine (HCHK.out w2 HB2.out).mono ?_
   rintro e w3 ⟨rfl, hb3⟩
   have HB3 := Lib.hid (HB2.out.trans (hb3.mono HB2.out.size))
   clear hb3
   by_cases hy : y = 0
   ·have hy1 : (y == 0) = true := by simpa using hy
    go_wp2
    go_ret
    exact ⟨by simp [h0, hy], HB3.out⟩
   ·have hy1 : (y == 0) = false := by simpa using hy
    go_wp2
    go_ret
    exact ⟨by simp [h0, hy], HB3.out⟩
 ·have hb1 : (b == 0) = false := by simpa using hb
  go_wp2_with fail
  refine hcall.mono ?_
  rintro e w2 ⟨rfl, hb2⟩
  have HB2 := Lib.hid hb2
  clear hcall hb2
  go_wp2_with fail
  refine (HCHK.out w2 HB2.out).mono ?_
  rintro e w3 ⟨rfl, hb3⟩
  have HB3 := Lib.hid (HB2.out.trans (hb3.mono HB2.out.size))
  clear hb3
  by_cases hy : y = 0
  ·have hy1 : (y == 0) = true := by simpa using hy
   go_wp2
   go_ret
   exact ⟨by simp [hb, hy], HB3.out⟩
  ·have hy1 : (y == 0) = false := by simpa using hy
   go_wp2
   go_ret
   exact ⟨by simp [hb, hy], HB3.out⟩
theorem areAbove_any (b : Int) (v : Value) (l : List En.Ent) (w : World) (hW : WordsIn w) (hv : ReadsE w v l) (hs : ∀ e ∈ l, e.cmd.Short 140737488355328) :
 Calls Tryz.prog 45 #[.int .i64 b, v] w (Looks w (.bool (Hd.above b l))) := by
 have hcall := checkE_any v l w hv hW hs
 obtain ⟨ao, cap, rfl, hc1, hc2⟩ := ReadsE.shape hv
 obtain ⟨y, hy⟩ : ∃ y, y = En.check 0 l := ⟨_, rfl⟩
 rw [← hy] at hcall
 have HOK : Hid (Hd.above b l = (decide (y = 0) && Hd.first b l)) := by show _ = _; unfold Hd.above; rw [← hy]
 have HP := Lib.hid (fun h => ReadsE.places hv h)
 obtain ⟨n, hn⟩ : ∃ n, n = l.length := ⟨_, rfl⟩
 rw [← hn] at hcall hc1 HP ⊢
 have HN := Lib.hid hn
 clear hv hW hs hy hn
 go_enter Tryz.func45, Tryz.ntmps45
 go_wp2_with fail
 refine hcall.mono ?_
 rintro e w2 ⟨rfl, hb2⟩
 have HB2 := Lib.hid hb2
 clear hcall hb2
 by_cases hy : y = 0
 ·have hy1 : (y == 0) = true := by simpa using hy
  cases l with
  | nil =>
   have h0 : n = 0 := HN.out
   subst h0
   have HZ : Hid (Hd.above b [] = true) := by show _ = _; rw [HOK.out]; simp [hy, Hd.first]
   go_wp2
   go_ret
   exact ⟨by rw [HZ.out]; rfl, HB2.out⟩
  | cons a r =>
   have hn0 : 0 < n := by rw [HN.out]; simp
   have h01 : ((n : Int) == 0) = false := by simp; omega
   obtain ⟨g, off, rfl, _, hcell⟩ := HP.out hn0
   have c0 : w2.cell? ⟨g, off, none⟩ = some (.int .i64 a.index) := by have := (hcell w2 HB2.out 0 a rfl).c0; simpa using this
   obtain ⟨t, ht⟩ : ∃ t, t = decide (b < a.index) := ⟨_, rfl⟩
   have HZ : Hid (Hd.above b (a :: r) = t) := by show _ = _; rw [HOK.out, ht]; simp [hy, Hd.first]
   have ht2 := ht.symm
   clear hcell ht
   go_wp2
   go_ret
   exact ⟨by rw [HZ.out]; first | rfl | simp [ht2], HB2.out⟩
 ·have hy1 : (y == 0) = false := by simpa using hy
  have HZ : Hid (Hd.above b l = false) := by show _ = _; rw [HOK.out]; simp [hy]
  go_wp2
  go_ret
  exact ⟨by rw [HZ.out]; rfl, HB2.out⟩
end Go.Proofs.YteboceekcmchkaaGreatDoor

namespace Go.Proofs.YteboceekcmchkaaGreatDoor
open Go.RowKit
set_option maxHeartbeats 1600000
set_option maxRecDepth 4000
theorem checkFormat_any (f : Int) (w : World) : Calls Tryz.prog 22 #[.int .i64 f] w (Says w (.int .i64 (Vs.opens 2 f))) := by
 have hc := opens_any 2 f w
 obtain ⟨z, hz⟩ : ∃ z, z = Vs.opens 2 f := ⟨_, rfl⟩
 rw [← hz] at hc ⊢
 have HC := Lib.hid hc
 clear hc hz
 go_enter Tryz.func22, Tryz.ntmps22
 go_wp2_with fail
 refine HC.out.mono ?_
 rintro e w1 ⟨rfl, rfl⟩
 go_wp2
 go_ret
 exact ⟨rfl, rfl⟩
def SgMade (w : World) (r : List UInt8 × Int) (e : Ending) (w' : World) : Prop :=
 ∃ u, e = .returned (.tuple #[u, .int .i64 r.2]) ∧ Owns w' w.heap.size 5 u r.1 ∧ Below w.heap.size w w'
theorem firstSg_any (f : Int) (hf : f = 1 ∨ f = 2) (n : Nat) (w : World) (hT : CrcTab w) (hn : n ≤ 9223372036854775807) :
 Calls Tryz.prog 25 #[.int .i64 f, .int .i64 (n : Int)] w (SgMade w (Frm.frame (Sg.first f n), 0)) := by
 obtain ⟨w1, e1, hw1, hB1⟩ : ∃ w1, w.alloc (.cells #[.slice none 0 0] 86) = w1 ∧ Wrt w1 w.heap.size w.heap.size (.slice none 0 0) [] ∧ Below w.heap.size w w1 :=
  ⟨_, rfl, Wr.fresh _ _ _ _ (Nat.le_refl _), (Below.refl _ _).alloc (Nat.le_refl _) _⟩
 have HW1 := Lib.hid hw1; have HB1 := Lib.hid hB1
 have HT := Lib.hid (fun W (h : Below w.heap.size w W) => hT.below h)
 have hf0 : 1 ≤ f := by omega
 have hf1 : f ≤ 2 := by omega
 have l1 := enc_nine (n := f.toNat) (by omega)
 have l2 := enc_nine (n := n) hn
 have p1 := enc_pos f.toNat
 have HL : Hid (0 < (Sg.first f n).length ∧ (Sg.first f n).length ≤ 18) := by
  show _ ∧ _
  unfold Sg.first
  rw [List.length_append]
  omega
 have HL1 := Lib.hid l1
 have HN := Lib.hid hn
 clear hw1 hB1 hT hf l1 l2 p1 hn
 go_enter Tryz.func25, Tryz.ntmps25
 go_wp2_with fail
 refine (wnum_any f _ w.heap.size w.heap.size _ [] HW1.out HB1.out.size (by simp) (by omega) (by omega)).mono ?_
 rintro e2 w2 ⟨rfl, v2, hw2, hg2⟩
 rw [List.nil_append] at hw2
 have HW2 := Lib.hid hw2
 have HB2 : Hid (Below w.heap.size w w2) := HB1.out.trans (HW1.out.below hg2 HB1.out.size)
 clear hw2 hg2
 go_wp2_with fail
 refine (wnum_any (n : Int) _ w.heap.size w.heap.size v2 (enc f.toNat) HW2.out HB2.out.size (by have := HL1.out; omega) (by omega) (by have := HN.out; omega)).mono ?_
 rw [Int.toNat_natCast]
 rintro e3 w3 ⟨rfl, v3, hw3, hg3⟩
 have HW3 := Lib.hid hw3
 have HB3 : Hid (Below w.heap.size w w3) := HB2.out.trans (HW2.out.below hg3 HB2.out.size)
 clear hw3 hg3
 go_wp2_with fail
 refine (wbytes_any _ w.heap.size w.heap.size v3 (Sg.first f n) HW3.out (by have := HL.out.2; omega)).mono ?_
 rintro e4 w4 ⟨v4, rfl, ho4, hb4⟩
 have HO4 := Lib.hid ho4.reads
 have HB4 : Hid (Below w.heap.size w w4) := HB3.out.trans (hb4.mono HB3.out.size)
 clear ho4 hb4
 go_wp2_with fail
 refine (add_ok (.slice none 0 0) v4 [] (Sg.first f n) _ (Reads.empty _) HO4.out (HT.out _ HB4.out) (by have := HL.out.1; omega) (by have := HL.out.2; omega) (by simp)).mono ?_
 rw [List.nil_append]
 rintro e5 w5 ⟨x, rfl, ho5, hb5⟩
 go_wp2
 go_ret2
 exact ⟨x, rfl, ho5.mono HB4.out.size, HB4.out.trans (hb5.mono HB4.out.size)⟩
def Sg.add (f : Int) (x : Re.Rec) : List UInt8 × Int := if (Rt.put f x).2 ≠ 0 then ([], (Rt.put f x).2) else (Frm.frame (Rt.bytesIn f x), 0)
def Sg.head (b : Bool) (f : Int) (h : Hd.Hard) : List UInt8 × Int :=
 if Vs.opens 2 f ≠ 0 then ([], Vs.opens 2 f) else if b = false then ([], 3) else if Sg.hasAll f (Hd.recs h) ≠ 0 then ([], Sg.hasAll f (Hd.recs h)) else (Sg.file f h [], 0)
end Go.Proofs.YteboceekcmchkaaGreatDoor
