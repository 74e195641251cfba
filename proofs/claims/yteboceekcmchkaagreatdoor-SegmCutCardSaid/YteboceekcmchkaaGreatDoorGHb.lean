/- Several texts of mine in one: HdRecs HdRefOf. -/
import Derived.Test.YteboceekcmchkaaGreatDoorPMsCame
import Derived.Test.YteboceekcmchkaaGreatDoorReCame
import Derived.Test.YteboceekcmchkaaGreatDoorGRh
import Derived.Test.YteboceekcmchkaaGreatDoorDkList
import Derived.Test.YteboceekcmchkaaGreatDoorGEw
namespace Go.Proofs.YteboceekcmchkaaGreatDoor
open Go.RowKit
set_option maxHeartbeats 12800000
set_option maxRecDepth 20000
section
abbrev RecsP (p : Nat → TypeId → Prop) (w : World) (v : Value) (l : List Re.Rec) : Prop := ListP 12 Re.cells Re.Rec.img p w v l
theorem cellR_first (a : Re.Rec) (u : Value) : ∃ v, (Re.cells a u)[0]? = some v := ⟨_, rfl⟩
theorem cellR_ok (a : Re.Rec) (u : Value) : (Re.cells a u).size = 12 ∧ (u.oneCell' = true → (Re.cells a u).all (·.oneCell') = true) := ⟨rfl, fun h => by simp [Re.cells, h]; repeat' (first | rfl | constructor)⟩
section
variable {H : Type} {enc : TypeId × Value → H} {w : World} {b0 base : Nat} {held : Bool}
theorem came_recs {v : Value} {d : DataW H} {p : List MemPlace} (hv : Value.okWide Tryz.prog w .any b0 34 v) (h : DataW.Trod enc Tryz.prog w base (fun _ => true) held 34 v d p) :
 ∃ l : List Re.Rec, RecsP (fun k _ => k < w.heap.size) w v l ∧ ∀ x ∈ l, x.Fits ∧ x.cmd.Short 9223372036854775807 := by
 obtain ⟨l, hr, hf⟩ := came_rows (fun a : Re.Rec × Value => Re.cells a.1 a.2) (fun a => Reads w a.2 a.1.img ∧ a.1.Fits ∧ a.1.cmd.Short 9223372036854775807) Tryz.underlying34 (by kernel_rfl) (fun m cs y hm => by
  obtain ⟨a, vi, h1, h2⟩ := el_rec m cs y hm
  exact ⟨(a, vi), h1, h2⟩) hv h
 refine ⟨l.map (·.1), ⟨l, rfl, RowP.of_reads hr (by omega) (rowsOf_sized cellR_ok fun q hq => ?_) (fun b t hb => hb), fun q hq => ReadsP.of_reads (hf q hq).1 (fun b t hb => hb)⟩, fun x hx => ?_⟩
 ·obtain ⟨ao, c, e⟩ := (hf q hq).1.shape
  rw [e]
  rfl
 ·obtain ⟨q, hq, rfl⟩ := List.mem_map.1 hx
  exact (hf q hq).2
end
def LargishR (w : World) (l : List Re.Rec) (e : Ending) (w' : World) : Prop := ∃ b : Bool, e = .returned (.bool b) ∧ Below w.heap.size w w' ∧ (b = false → l.length ≤ 40 ∧ ∀ x ∈ l, Re.large x = false ∧ x.img.length ≤ 300)
theorem largeH_any {p : Nat → TypeId → Prop} (v : Value) (l : List Re.Rec) (w : World) (hv : RecsP p w v l) (hs : ∀ x ∈ l, x.cmd.Short 9223372036854775807) : Calls Tryz.prog 15 #[v] w (LargishR w l) := by
 obtain ⟨ao, cap, rfl, hc1, hc2⟩ := ListP.shape hv
 have HP := Lib.hid (fun h => ListP.places hv cellR_first h)
 obtain ⟨n, hn⟩ : ∃ n, n = l.length := ⟨_, rfl⟩
 rw [← hn] at hc1 HP ⊢
 have HN := Lib.hid hn; have HS := Lib.hid hs
 have hnb : n < 9223372036854775808 := by omega
 clear hv hn hs
 go_enter Tryz.func15, Tryz.ntmps15
 go_wp2
 go_loopw [3] (fun i wr => ∃ k : Nat, i = .int .i64 (k : Int) ∧ k ≤ n ∧ Hid (∀ c ∈ l.take k, Re.large c = false ∧ c.img.length ≤ 300) ∧ Hid (k ≤ 40) ∧ Hid (Below w.heap.size w wr)) (fun i _ => n - (intOf i).toNat)
 case atStart => exact ⟨0, rfl, by omega, by show ∀ c ∈ _, _; simp, by show 0 ≤ 40; omega, Below.refl _ _⟩
 case round =>
  obtain ⟨k, rfl, hk, HI, HK, HB⟩ := hrel
  by_cases hlt : k < n
  ·have d1 : decide (k < n) = true := decide_eq_true hlt
   by_cases h40 : k < 40
   ·have d2 : decide ((k : Int) < 40) = true := decide_eq_true (by omega)
    have h40' : (k : Int) < 40 := by omega
    obtain ⟨c, hcl⟩ : ∃ c, l[k]? = some c := ⟨_, List.getElem?_eq_getElem (by have := HN.out; omega)⟩
    obtain ⟨g, off, rfl, _, hc⟩ := HP.out (by have := HN.out; omega)
    obtain ⟨u, hu, hcell⟩ := hc k c hcl
    obtain ⟨uo, uc, rfl⟩ := hu.1.shape
    have hcw := hcell wr HB.out
    have m0 : wr.cell? ⟨g, off + k * 12, none⟩ = some (.int .i64 c.kind) := hcw 0 _ rfl
    have m1 : wr.cell? ⟨g, off + k * 12 + 1, none⟩ = some (.int .i64 c.bal.round) := hcw 1 _ rfl
    have m2 : wr.cell? ⟨g, off + k * 12 + 2, none⟩ = some (.int .i64 c.bal.node) := hcw 2 _ rfl
    have m3 : wr.cell? ⟨g, off + k * 12 + 3, none⟩ = some (.int .i64 c.index) := hcw 3 _ rfl
    have m4 : wr.cell? ⟨g, off + k * 12 + 4, none⟩ = some (.int .i64 c.cmd.kind) := hcw 4 _ rfl
    have m5 : wr.cell? ⟨g, off + k * 12 + 5, none⟩ = some (.int .i64 c.cmd.client) := hcw 5 _ rfl
    have m6 : wr.cell? ⟨g, off + k * 12 + 6, none⟩ = some (.int .i64 c.cmd.seq) := hcw 6 _ rfl
    have m7 : wr.cell? ⟨g, off + k * 12 + 7, none⟩ = some (.string ⟨c.cmd.key.toArray⟩) := hcw 7 _ rfl
    have m8 : wr.cell? ⟨g, off + k * 12 + 8, none⟩ = some (.string ⟨c.cmd.val.toArray⟩) := hcw 8 _ rfl
    have m9 : wr.cell? ⟨g, off + k * 12 + 9, none⟩ = some (.string ⟨c.cmd.old.toArray⟩) := hcw 9 _ rfl
    have m10 : wr.cell? ⟨g, off + k * 12 + 10, none⟩ = some (.int .i64 c.cmd.node) := hcw 10 _ rfl
    have m11 : wr.cell? ⟨g, off + k * 12 + 11, none⟩ = some (.slice uo c.img.length uc) := hcw 11 _ rfl
    have hlr := largeRe_any c (.slice uo c.img.length uc) wr (hu.1.below HB.out) (HS.out c (List.mem_of_getElem? hcl))
    have HCL := Lib.hid hcl; have HC := Lib.hid hcell
    clear hc hcl hcell hu hcw
    go_wp2_with fail
    refine hlr.mono ?_
    rintro e w2 ⟨rfl, hb2⟩
    have HB2 := Lib.hid (HB.out.trans (hb2.mono HB.out.size))
    clear hlr hb2 m0 m1 m2 m3 m4 m5 m6 m7 m8 m9 m10 m11
    have m11 : w2.cell? ⟨g, off + k * 12 + 11, none⟩ = some (.slice uo c.img.length uc) := HC.out w2 HB2.out 11 _ rfl
    obtain ⟨m, hm⟩ : ∃ m, m = c.img.length := ⟨_, rfl⟩
    rw [← hm] at m11
    obtain ⟨t, ht⟩ : ∃ t, t = Re.large c := ⟨_, rfl⟩
    rw [← ht]
    have HM := Lib.hid hm; have HT := Lib.hid ht
    clear hm ht HC
    cases t with
    | true =>
     go_wp2
     go_ret
     exact ⟨true, rfl, HB2.out, fun h => by cases h⟩
    | false =>
     by_cases hb : 300 < m
     ·go_wp2
      go_ret
      exact ⟨true, rfl, HB2.out, fun h => by cases h⟩
     ·have HI2 : Hid (∀ c ∈ l.take (k + 1), Re.large c = false ∧ c.img.length ≤ 300) := by
       intro d hd
       rw [List.take_add_one, HCL.out] at hd
       rcases List.mem_append.1 hd with hd | hd
       ·exact HI.out d hd
       ·simp at hd; subst hd; exact ⟨HT.out.symm, by have := HM.out; omega⟩
      go_wp2
      go_roundw
      case rel => exact ⟨k + 1, by go_num, by omega, HI2.out, by show k + 1 ≤ 40; omega, HB2⟩
      case measure => simp [intOf]; omega
   ·have d2 : decide ((k : Int) < 40) = false := decide_eq_false (by omega)
    have h40' : ¬ (k : Int) < 40 := by omega
    have hb : 40 < n := by have := HK.out; omega
    go_wp2
    go_ret
    exact ⟨true, by simp; omega, HB.out, fun h => by cases h⟩
  ·obtain rfl : k = n := by omega
   have hb : ¬ 40 < k := by have := HK.out; omega
   go_wp2
   go_ret
   refine ⟨false, by simp; omega, HB.out, fun _ => ⟨by have := HN.out; omega, fun c hc => HI.out c ?_⟩⟩
   rw [List.take_of_length_le (by have := HN.out; omega)]
   exact hc
end
theorem Hd.two_len (b : Int) (s : List En.Ent × List En.Ent) (x : Re.Rec) : (Hd.two b s x).1.length ≤ s.1.length + 1 ∧ (Hd.two b s x).2.length ≤ s.2.length + 1 := by
 have h1 := En.put_len s.1 (Hd.ent x)
 have h2 := En.put_len s.2 (Hd.ent x)
 unfold Hd.two
 split
 ·exact ⟨by omega, by omega⟩
 ·split
  ·exact ⟨h1, by show s.2.length ≤ _; omega⟩
  ·split
   ·exact ⟨by omega, by omega⟩
   ·exact ⟨by show s.1.length ≤ _; omega, h2⟩
theorem Hd.rows_len (b : Int) (l : List Re.Rec) : (Hd.rows b l).1.length ≤ l.length ∧ (Hd.rows b l).2.length ≤ l.length := by
 induction l using Hd.snoc_ind with
 | h0 => exact ⟨by simp [Hd.rows], by simp [Hd.rows]⟩
 | h1 l x ih =>
  rw [Hd.rows_snoc, List.length_append]
  have := Hd.two_len b (Hd.rows b l) x
  exact ⟨by simp; omega, by simp; omega⟩
theorem Hd.take_snoc {l : List Re.Rec} {k : Nat} {x : Re.Rec} (h : l[k]? = some x) : l.take (k + 1) = l.take k ++ [x] := by rw [List.take_add_one, h]; rfl
theorem load_rec_at {ops : Array Oper} {rest : List Oper} {op : Oper} {a : Act} {w : World} {Q : Exit → Act → World → Prop} (hgd : op.guard = none) (x : Operand) (ho : op.op = .load 42 x)
 (g o : Nat) (r : Re.Rec) (vi : Value) (hx : a.eval x = .pointer (some ⟨g, o, none⟩)) (hl : ∀ j v, (Re.cells r vi)[j]? = some v → w.cell? ⟨g, o + j, none⟩ = some v)
 (h : wpList Tryz.prog ops Q rest (a.put op.dst (.agg (Re.cells r vi))) w) : wpList Tryz.prog ops Q (op :: rest) a w :=
 wpList_load_mid hgd _ x ho g o hx (Re.cells r vi).toList _ (fun j v hv => hl j v (by simpa using hv)) Tryz.underlying42 rfl (by kernel_rfl) h
abbrev Nil : Value := .slice none 0 0
theorem box_zero (w : World) (T : TypeId) : ∃ w1, w.alloc (.cells #[.int .i64 0, .int .i64 0, .int .i64 0, .slice none 0 0, .slice none 0 0, .slice none 0 0] T) = w1 ∧ SixAt w1 w.heap.size T Bl.zero 0 Nil Nil Nil ∧ Below w.heap.size w w1 ∧ w1.heap.size = w.heap.size + 1 :=
 ⟨_, rfl, ⟨Lies.new w _ _, ⟨_, _, _, rfl⟩, ⟨_, _, _, rfl⟩, ⟨_, _, _, rfl⟩⟩, (Below.refl _ w).alloc (Nat.le_refl _) _, by simp⟩
theorem Hd.one_bad {s : Bl.Bal × Int × List UInt8} {x : Re.Rec} (h : Re.check x ≠ 0) : Hd.one s x = s := by unfold Hd.one; rw [if_pos h]
theorem Hd.one_is {s : Bl.Bal × Int × List UInt8} {x : Re.Rec} (h : Re.check x = 0) : Hd.one s x = (Hd.proms s.1 x, if x.kind = 4 ∧ s.2.1 < x.index then (x.index, x.img) else s.2) := by unfold Hd.one; rw [if_neg (by rw [h]; simp)]
--GEN
theorem refOf_any {p : Nat → TypeId → Prop} (v : Value) (l : List Re.Rec) (w : World) (hv : RecsP p w v l) (hs : ∀ x ∈ l, x.cmd.Short 140737488355328) (hlen : l.length ≤ 1000) :
 Calls Tryz.prog 41 #[v] w (MadeH w (Hd.of l)) := by
 obtain ⟨ao, cap, rfl, hc1, hc2⟩ := ListP.shape hv
 have HP := Lib.hid (fun h => ListP.places hv cellR_first h)
 obtain ⟨w1, e1, hz1, hB1, hs1⟩ := box_zero w 27
 obtain ⟨w2, e2, hx2, hB2, hs2⟩ := box_zero w1 27
 rw [hs1] at hx2
 have HZ2 := Lib.hid (hz1.below hB2 (by omega))
 have HX2 := Lib.hid hx2
 have HBB : Hid (Below w.heap.size w w2) := hB1.trans (hB2.mono hB1.size)
 obtain ⟨gz, hgz⟩ : ∃ g, g = w.heap.size := ⟨_, rfl⟩
 obtain ⟨gh, hgh⟩ : ∃ g, g = w.heap.size + 1 := ⟨_, rfl⟩
 rw [← hgz] at HZ2
 rw [← hgh] at HX2
 obtain ⟨n, hn⟩ : ∃ n, n = l.length := ⟨_, rfl⟩
 rw [← hn] at hc1 HP hlen ⊢
 have HN := Lib.hid hn; have HS := Lib.hid hs; have HLEN := Lib.hid hlen
 have HSZ2 : Hid (gz < w2.heap.size ∧ gh < w2.heap.size ∧ gz ≠ gh ∧ w.heap.size ≤ gz ∧ w.heap.size ≤ gh) := ⟨by omega, by omega, by omega, by omega, by omega⟩
 have hnb : n < 9223372036854775808 := by omega
 have he1 : w1.heap.size = gh := by omega
 clear hv hn hs hz1 hx2 hB1 hB2 hlen hc2
 go_enter Tryz.func41, Tryz.ntmps41
 go_wp2
 rw [← hgh, ← hgz]
 clear e1 e2 hs1 hs2 he1 hgz hgh
 go_loopw [4] (fun i wr => ∃ (k : Nat) (s : Bl.Bal × Int × List UInt8) (io : Option Addr) (ic : Nat), i = .int .i64 (k : Int) ∧ k ≤ n ∧ Hid (Hd.tops (l.take k) = s) ∧ Hid (SixAt wr gh 27 s.1 s.2.1 (.slice io s.2.2.length ic) Nil Nil) ∧ Hid (Reads wr (.slice io s.2.2.length ic) s.2.2) ∧ Hid (SixAt wr gz 27 Bl.zero 0 Nil Nil Nil) ∧ Hid (Below w.heap.size w wr)) (fun i _ => n - (intOf i).toNat)
 case atStart => exact ⟨0, (Bl.zero, 0, []), none, 0, rfl, by omega, rfl, HX2.out, Reads.empty w2, HZ2.out, HBB.out⟩
 case round =>
  obtain ⟨k, ⟨pr, ba, im⟩, io, ic, rfl, hk, HT, HX, HI, HZ, HB⟩ := hrel
  dsimp only at HT HX HI
  by_cases hlt : k < n
  ·skip
   obtain ⟨x, hxl⟩ : ∃ x, l[k]? = some x := ⟨_, List.getElem?_eq_getElem (by have := HN.out; omega)⟩
   obtain ⟨g, off, rfl, _, hc⟩ := HP.out (by have := HN.out; omega)
   obtain ⟨u, hu, hcell⟩ := hc k x hxl
   obtain ⟨uo, uc, rfl⟩ := hu.1.shape
   have HXL := Lib.hid hxl
   have HU := Lib.hid (fun W (h : Below w.heap.size w W) => hu.1.below h)
   have HSX := Lib.hid (HS.out x (List.mem_of_getElem? hxl))
   have HCELL : Hid (∀ j v, (Re.cells x (.slice uo x.img.length uc))[j]? = some v → wr.cell? ⟨g, off + k * 12 + j, none⟩ = some v) := fun j v hj => by rw [Nat.add_assoc]; exact hcell wr HB.out j v hj
   clear hc hu hcell hxl
   have HGB : Hid (gh < wr.heap.size ∧ gz < wr.heap.size) := ⟨HX.out.lies.lt, HZ.out.lies.lt⟩
   go_wp2_with (first
    | (refine load_rec_at rfl _ rfl g (off + k * 12) x (.slice uo x.img.length uc) rfl HCELL.out ?_)
    | (refine store_rec rfl _ _ rfl wr.heap.size Re.zero Nil x (.slice uo x.img.length uc) rfl rfl rfl (Lies.new _ _ _) ?_; intro w5 hl5 hg5; have HL5 := Lib.hid hl5; have HB5 : Hid (Below wr.heap.size wr w5) := fresh_below hg5; clear hl5 hg5)
    | (refine load_rec rfl _ rfl wr.heap.size x (.slice uo x.img.length uc) rfl HL5.out ?_))
   refine (refCheckRe_any x (.slice uo x.img.length uc) w5 (HU.out _ (HB.out.trans (HB5.out.mono HB.out.size))) HSX.out).mono ?_
   rintro e w6 ⟨rfl, hb6⟩
   have HB6 : Hid (Below wr.heap.size wr w6) := HB5.out.trans (hb6.mono HB5.out.size)
   have HL6 := Lib.hid (HL5.out.below hb6 HL5.out.lt)
   obtain ⟨rb, hrb⟩ : ∃ g, g = wr.heap.size := ⟨_, rfl⟩
   have HRB : Hid (gh ≠ rb ∧ gz ≠ rb) := ⟨by have := HGB.out.1; omega, by have := HGB.out.2; omega⟩
   rw [← hrb] at HL6 ⊢
   clear hb6 HB5 HL5 HCELL hrb
   have HBX : Hid (Below w.heap.size w w6) := HB.out.trans (HB6.out.mono HB.out.size)
   have HX6 := Lib.hid (HX.out.below HB6.out HGB.out.1)
   have HZ6 := Lib.hid (HZ.out.below HB6.out HGB.out.2)
   have HUX := Lib.hid (HU.out w6 HBX.out)
   obtain ⟨y, hy⟩ : ∃ y, y = Re.check x := ⟨_, rfl⟩
   rw [← hy]
   have HY := Lib.hid hy
   clear hy
   have HI6 := Lib.hid (HI.out.below HB6.out)
   by_cases hy : y = 0
   rotate_left
   ·have hyb : (y != 0) = true := by simpa using hy
    have HT6 : Hid (Hd.tops (l.take (k + 1)) = (pr, ba, im)) := by show _ = _; rw [Hd.take_snoc HXL.out, Hd.tops_snoc, HT.out, Hd.one_bad (by rw [← HY.out]; exact hy)]
    go_wp2
    go_roundw
    case rel => exact ⟨k + 1, (pr, ba, im), io, ic, by go_num, by omega, HT6.out, HX6.out, HI6.out, HZ6.out, HBX.out⟩
    case measure => simp [intOf]; omega
   subst hy
   have HF := Lib.hid (Hd.check_fine.1 HY.out.symm)
   have HONE : Hid (Hd.tops (l.take (k + 1)) = (Hd.proms pr x, if x.kind = 4 ∧ ba < x.index then (x.index, x.img) else (ba, im))) := by show _ = _; rw [Hd.take_snoc HXL.out, Hd.tops_snoc, HT.out, Hd.one_is HY.out.symm]
   have d0 : w6.cell? ⟨rb, 0, none⟩ = some (.int .i64 x.kind) := HL6.out.cell 0 _ rfl
   go_wp2_with fail
   refine (refHb_any x.kind _).mono ?_
   rintro e w7 ⟨rfl, rfl⟩
   obtain ⟨t1, ht1⟩ : ∃ t, t = Re.hb x.kind := ⟨_, rfl⟩
   rw [← ht1]
   have HT1 := Lib.hid ht1
   clear ht1
   cases t1 with
   | true =>
    have HK4 : Hid (x.kind ≠ 4) := fun h => by have := HT1.out; rw [h] at this; simp [Re.hb] at this
    have hk4 : (x.kind == 4) = false := by simpa using HK4.out
    obtain ⟨c0, c1, _, _, _, _⟩ := HX6.out.all
    have d1 : w6.cell? ⟨rb, 1, none⟩ = some (.int .i64 x.bal.round) := HL6.out.cell 1 _ rfl
    have d2 : w6.cell? ⟨rb, 2, none⟩ = some (.int .i64 x.bal.node) := HL6.out.cell 2 _ rfl
    go_wp2_with fail
    refine (brefLess_any pr x.bal _).mono ?_
    rintro e w8 ⟨rfl, hb8⟩
    have HB8 := Lib.hid hb8
    have HX8 := Lib.hid (HX6.out.below hb8 HX6.out.lies.lt)
    have HZ8 := Lib.hid (HZ6.out.below hb8 HZ6.out.lies.lt)
    have HL8 := Lib.hid (HL6.out.below hb8 HL6.out.lt)
    have HI8 := Lib.hid (HI6.out.below hb8)
    have HBX8 : Hid (Below w.heap.size w w8) := HBX.out.trans (hb8.mono HBX.out.size)
    clear hb8 c0 c1 d0 d1 d2
    have d0 : w8.cell? ⟨rb, 0, none⟩ = some (.int .i64 x.kind) := HL8.out.cell 0 _ rfl
    obtain ⟨t2, ht2⟩ : ∃ t, t = Bl.less pr x.bal := ⟨_, rfl⟩
    rw [← ht2]
    have HT2 := Lib.hid ht2
    clear ht2
    cases t2 with
    | true =>
     have d1 : w8.cell? ⟨rb, 1, none⟩ = some (.int .i64 x.bal.round) := HL8.out.cell 1 _ rfl
     have d2 : w8.cell? ⟨rb, 2, none⟩ = some (.int .i64 x.bal.node) := HL8.out.cell 2 _ rfl
     have HT9 : Hid (Hd.tops (l.take (k + 1)) = (x.bal, ba, im)) := by show _ = _; rw [HONE.out, if_neg (fun h => HK4.out h.1)]; unfold Hd.proms; rw [if_pos ⟨HT1.out.symm, HT2.out.symm⟩]
     clear HK4
     go_wp2_with (refine store_prom rfl _ _ rfl x.bal rfl rfl HX8.out ?_; intro w9 hx9 hg9; have d0 : w9.cell? ⟨rb, 0, none⟩ = some (.int .i64 x.kind) := (HL8.out.kept hg9 (by have := HRB.out.1; simp; omega)).cell 0 _ rfl; have HX9 := Lib.hid hx9; have HG9 := Lib.hid hg9; clear hx9 hg9)
     have HZ9 := Lib.hid (HZ8.out.kept HG9.out HSZ2.out.2.2.1)
     have HI9 := Lib.hid (HI8.out.kept_of HX8.out.lies HX8.out.no8 HG9.out)
     have HB9 : Hid (Below w.heap.size w w9) := HBX8.out.grown HG9.out HBX8.out.size (by rintro j hj; cases hj; have := HSZ2.out.2.2.2.2; omega)
     go_wp2
     go_roundw
     case rel => exact ⟨k + 1, (x.bal, ba, im), io, ic, by go_num, by omega, HT9.out, HX9.out, HI9.out, HZ9.out, HB9.out⟩
     case measure => simp [intOf]; omega
    | false =>
     have HT9 : Hid (Hd.tops (l.take (k + 1)) = (pr, ba, im)) := by show _ = _; rw [HONE.out, if_neg (fun h => HK4.out h.1)]; unfold Hd.proms; rw [if_neg (fun h => by rw [← HT2.out] at h; cases h.2)]
     clear HK4
     go_wp2
     go_roundw
     case rel => exact ⟨k + 1, (pr, ba, im), io, ic, by go_num, by omega, HT9.out, HX8.out, HI8.out, HZ8.out, HBX8.out⟩
     case measure => simp [intOf]; omega
   | false =>
    have HPR : Hid (Hd.proms pr x = pr) := by show _ = _; unfold Hd.proms; rw [if_neg (fun h => by rw [← HT1.out] at h; cases h.1)]
    by_cases hk4 : x.kind = 4
    ·have hk4b : (x.kind == 4) = true := by simpa using hk4
     have d3 : w6.cell? ⟨rb, 3, none⟩ = some (.int .i64 x.index) := HL6.out.cell 3 _ rfl
     have d11 : w6.cell? ⟨rb, 11, none⟩ = some (.slice uo x.img.length uc) := HL6.out.cell 11 _ rfl
     obtain ⟨_, _, c2, _, _, _⟩ := HX6.out.all
     by_cases hbi : ba < x.index
     ·have HT9 : Hid (Hd.tops (l.take (k + 1)) = (pr, x.index, x.img)) := by show _ = _; rw [HONE.out, HPR.out, if_pos ⟨hk4, hbi⟩]
      have hbi2 : decide (ba < x.index) = true := decide_eq_true hbi
      have HHB := Lib.hid hbi
      clear hk4 hbi
      go_wp2_with (first
       | (refine store_base rfl _ _ rfl x.index rfl rfl HX6.out ?_; intro w9 hx9 hg9; have HX9 := Lib.hid hx9; have HG9 := Lib.hid hg9; have d11 : w9.cell? ⟨rb, 11, none⟩ = some (.slice uo x.img.length uc) := (HL6.out.kept hg9 (by have := HRB.out.1; simp; omega)).cell 11 _ rfl; clear hx9 hg9)
       | (refine store_img rfl _ _ rfl uo x.img.length uc rfl rfl HX9.out ?_; intro w10 hx10 hg10; have HX10 := Lib.hid hx10; have HG10 := Lib.hid hg10; clear hx10 hg10))
      have HZ10 := Lib.hid ((HZ6.out.kept HG9.out HSZ2.out.2.2.1).kept HG10.out HSZ2.out.2.2.1)
      have HI10 := Lib.hid ((HUX.out.kept_of HX6.out.lies HX6.out.no8 HG9.out).kept_of HX9.out.lies HX9.out.no8 HG10.out)
      have HB10 : Hid (Below w.heap.size w w10) := (HBX.out.grown HG9.out HBX.out.size (by rintro j hj; cases hj; have := HSZ2.out.2.2.2.2; omega)).grown HG10.out (Nat.le_trans HBX.out.size HG9.out.size) (by rintro j hj; cases hj; have := HSZ2.out.2.2.2.2; omega)
      go_wp2
      go_roundw
      case rel => exact ⟨k + 1, (pr, x.index, x.img), uo, uc, by go_num, by omega, HT9.out, HX10.out, HI10.out, HZ10.out, HB10.out⟩
      case measure => simp [intOf]; omega
     ·have HT9 : Hid (Hd.tops (l.take (k + 1)) = (pr, ba, im)) := by show _ = _; rw [HONE.out, HPR.out, if_neg (fun h => hbi h.2)]
      have hbi2 : decide (ba < x.index) = false := decide_eq_false hbi
      clear hk4
      go_wp2
      go_roundw
      case rel => exact ⟨k + 1, (pr, ba, im), io, ic, by go_num, by omega, HT9.out, HX6.out, HI6.out, HZ6.out, HBX.out⟩
      case measure => simp [intOf]; omega
    ·have HT9 : Hid (Hd.tops (l.take (k + 1)) = (pr, ba, im)) := by show _ = _; rw [HONE.out, HPR.out, if_neg (fun h => hk4 h.1)]
     have hk4b : (x.kind == 4) = false := by simpa using hk4
     go_wp2
     go_roundw
     case rel => exact ⟨k + 1, (pr, ba, im), io, ic, by go_num, by omega, HT9.out, HX6.out, HI6.out, HZ6.out, HBX.out⟩
     case measure => simp [intOf]; omega
  ·skip
   obtain rfl : n = k := by omega
   have HTOP : Hid (Hd.tops l = (pr, ba, im)) := by have h := HT.out; rw [List.take_of_length_le (by have := HN.out; omega)] at h; exact h
   go_wp2
   obtain ⟨wv, hwv⟩ : ∃ wv, wv = wr := ⟨_, rfl⟩
   rw [← hwv]
   have HX3 : Hid (SixAt wv gh 27 pr ba (.slice io im.length ic) Nil Nil) := by rw [hwv]; exact HX
   have HI3 : Hid (Reads wv (.slice io im.length ic) im) := by rw [hwv]; exact HI
   have HZ3 : Hid (SixAt wv gz 27 Bl.zero 0 Nil Nil Nil) := by rw [hwv]; exact HZ
   have HB3 : Hid (Below w.heap.size w wv) := by rw [hwv]; exact HB
   clear HX HI HZ HB HT hwv HX2 HZ2 HBB
   go_loopw [6] (fun i wr => ∃ (k : Nat) (s : List En.Ent × List En.Ent) (qo : Option Addr) (qc : Nat) (to : Option Addr) (tc : Nat), i = .int .i64 (k : Int) ∧ k ≤ n ∧ Hid (Hd.rows ba (l.take k) = s) ∧ Hid (SixAt wr gh 27 pr ba (.slice io im.length ic) (.slice qo s.1.length qc) (.slice to s.2.length tc)) ∧ Hid (HardR wr ⟨pr, ba, im, s.1, s.2⟩ (.slice io im.length ic) (.slice qo s.1.length qc) (.slice to s.2.length tc)) ∧ Hid (SixAt wr gz 27 Bl.zero 0 Nil Nil Nil) ∧ Hid (Below w.heap.size w wr)) (fun i _ => n - (intOf i).toNat)
   case atStart => exact ⟨0, ([], []), none, 0, none, 0, rfl, by omega, rfl, HX3.out, ⟨HI3.out, ReadsR.empty _ _, ReadsR.empty _ _⟩, HZ3.out, HB3.out⟩
   case round =>
    obtain ⟨k, ⟨sa, sc⟩, qo, qc, to, tc, rfl, hk, HT, HX, HR, HZ, HB⟩ := hrel
    dsimp only at HT HX HR
    by_cases hlt : k < n
    ·skip
     obtain ⟨x, hxl⟩ : ∃ x, l[k]? = some x := ⟨_, List.getElem?_eq_getElem (by have := HN.out; omega)⟩
     obtain ⟨g, off, rfl, _, hc⟩ := HP.out (by have := HN.out; omega)
     obtain ⟨u, hu, hcell⟩ := hc k x hxl
     obtain ⟨uo, uc, rfl⟩ := hu.1.shape
     have HXL := Lib.hid hxl
     have HU := Lib.hid (fun W (h : Below w.heap.size w W) => hu.1.below h)
     have HSX := Lib.hid (HS.out x (List.mem_of_getElem? hxl))
     have HCELL : Hid (∀ j v, (Re.cells x (.slice uo x.img.length uc))[j]? = some v → wr.cell? ⟨g, off + k * 12 + j, none⟩ = some v) := fun j v hj => by rw [Nat.add_assoc]; exact hcell wr HB.out j v hj
     clear hc hu hcell hxl
     have HGB : Hid (gh < wr.heap.size ∧ gz < wr.heap.size) := ⟨HX.out.lies.lt, HZ.out.lies.lt⟩
     go_wp2_with (first
      | (refine load_rec_at rfl _ rfl g (off + k * 12) x (.slice uo x.img.length uc) rfl HCELL.out ?_)
      | (refine store_rec rfl _ _ rfl wr.heap.size Re.zero Nil x (.slice uo x.img.length uc) rfl rfl rfl (Lies.new _ _ _) ?_; intro w5 hl5 hg5; have HL5 := Lib.hid hl5; have HB5 : Hid (Below wr.heap.size wr w5) := fresh_below hg5; clear hl5 hg5)
      | (refine load_rec rfl _ rfl wr.heap.size x (.slice uo x.img.length uc) rfl HL5.out ?_))
     refine (refCheckRe_any x (.slice uo x.img.length uc) w5 (HU.out _ (HB.out.trans (HB5.out.mono HB.out.size))) HSX.out).mono ?_
     rintro e w6 ⟨rfl, hb6⟩
     have HB6 : Hid (Below wr.heap.size wr w6) := HB5.out.trans (hb6.mono HB5.out.size)
     have HL6 := Lib.hid (HL5.out.below hb6 HL5.out.lt)
     obtain ⟨rb, hrb⟩ : ∃ g, g = wr.heap.size := ⟨_, rfl⟩
     have HRB : Hid (gh ≠ rb ∧ gz ≠ rb) := ⟨by have := HGB.out.1; omega, by have := HGB.out.2; omega⟩
     rw [← hrb] at HL6 ⊢
     clear hb6 HB5 HL5 HCELL hrb
     have HBX : Hid (Below w.heap.size w w6) := HB.out.trans (HB6.out.mono HB.out.size)
     have HX6 := Lib.hid (HX.out.below HB6.out HGB.out.1)
     have HZ6 := Lib.hid (HZ.out.below HB6.out HGB.out.2)
     have HUX := Lib.hid (HU.out w6 HBX.out)
     obtain ⟨y, hy⟩ : ∃ y, y = Re.check x := ⟨_, rfl⟩
     rw [← hy]
     have HY := Lib.hid hy
     clear hy
     have HR6 := Lib.hid (HR.out.below HB6.out)
     have HROW : Hid (Hd.rows ba (l.take (k + 1)) = Hd.two ba (sa, sc) x) := by show _ = _; rw [Hd.take_snoc HXL.out, Hd.rows_snoc, HT.out]
     by_cases hy : y = 0
     rotate_left
     ·have hyb : (y != 0) = true := by simpa using hy
      have HT6 : Hid (Hd.rows ba (l.take (k + 1)) = (sa, sc)) := by show _ = _; rw [HROW.out, Hd.two_out _ (.inl (by rw [← HY.out]; exact hy))]
      go_wp2
      go_roundw
      case rel => exact ⟨k + 1, (sa, sc), qo, qc, to, tc, by go_num, by omega, HT6.out, HX6.out, HR6.out, HZ6.out, HBX.out⟩
      case measure => simp [intOf]; omega
     subst hy
     have HF := Lib.hid (Hd.check_fine.1 HY.out.symm)
     have d3 : w6.cell? ⟨rb, 3, none⟩ = some (.int .i64 x.index) := HL6.out.cell 3 _ rfl
     obtain ⟨_, _, c2, _, _, _⟩ := HX6.out.all
     by_cases hbi : x.index ≤ ba
     ·have hbi2 : decide (x.index ≤ ba) = true := decide_eq_true hbi
      have HT6 : Hid (Hd.rows ba (l.take (k + 1)) = (sa, sc)) := by show _ = _; rw [HROW.out, Hd.two_out _ (.inr (.inl hbi))]
      go_wp2
      go_roundw
      case rel => exact ⟨k + 1, (sa, sc), qo, qc, to, tc, by go_num, by omega, HT6.out, HX6.out, HR6.out, HZ6.out, HBX.out⟩
      case measure => simp [intOf]; omega
     have hbi2 : decide (x.index ≤ ba) = false := decide_eq_false hbi
     have HBI : Hid (ba < x.index) := by show _ < _; omega
     have d0 : w6.cell? ⟨rb, 0, none⟩ = some (.int .i64 x.kind) := HL6.out.cell 0 _ rfl
     go_wp2_with fail
     refine (refHc_any x.kind _).mono ?_
     rintro e w7 ⟨rfl, rfl⟩
     obtain ⟨t1, ht1⟩ : ∃ t, t = Re.hc x.kind := ⟨_, rfl⟩
     rw [← ht1]
     have HT1 := Lib.hid ht1
     clear ht1 hbi hbi2
     cases t1 with
     | false =>
      have HT6 : Hid (Hd.rows ba (l.take (k + 1)) = (sa, sc)) := by show _ = _; rw [HROW.out, Hd.two_out _ (.inr (.inr HT1.out.symm))]
      go_wp2
      go_roundw
      case rel => exact ⟨k + 1, (sa, sc), qo, qc, to, tc, by go_num, by omega, HT6.out, HX6.out, HR6.out, HZ6.out, HBX.out⟩
      case measure => simp [intOf]; omega
     | true =>
      have HTWO : Hid (Hd.rows ba (l.take (k + 1)) = if x.kind = 2 then (En.put sa (Hd.ent x), sc) else if En.found sc x.index = true then (sa, sc) else (sa, En.put sc (Hd.ent x))) := by show _ = _; rw [HROW.out, Hd.two_in _ HY.out.symm HBI.out HT1.out.symm]
      have HASC : Hid (En.Asc sa ∧ En.Asc sc) := by have h := Hd.rows_asc ba (l.take k); rw [HT.out] at h; exact h
      have HLEN2 : Hid (sa.length ≤ 1000 ∧ sc.length ≤ 1000) := by
       have h := Hd.rows_len ba (l.take k)
       rw [HT.out, List.length_take] at h
       have := HLEN.out
       have h1 : sa.length ≤ min k l.length := h.1
       have h2 : sc.length ≤ min k l.length := h.2
       exact ⟨by omega, by omega⟩
      obtain ⟨_, d1, d2, _, d4, d5, d6, d7, d8, d9, d10, _⟩ := Recs.all HL6.out
      by_cases hk2 : x.kind = 2
      ·have hk2b : (x.kind == 2) = true := by simpa using hk2
       have HT8 : Hid (Hd.rows ba (l.take (k + 1)) = (En.put sa (Hd.ent x), sc)) := by show _ = _; rw [HTWO.out, if_pos hk2]
       go_wp2_with (first
        | (refine store_ent rfl _ _ rfl w6.heap.size En.zero (Hd.ent x) rfl rfl (Lies.new _ _ _) ?_; intro w7 hl7 hg7; have HB7 : Hid (Below w6.heap.size w6 w7) := fresh_below hg7; have HE7 := Lib.hid hl7; clear hl7 hg7; have HL7 := Lib.hid (HL6.out.below HB7.out HL6.out.lt); have e0 : w7.cell? ⟨rb, 0, none⟩ = some (.int .i64 x.kind) := HL7.out.cell 0 _ rfl; have HX7 := Lib.hid (HX6.out.below HB7.out HX6.out.lies.lt); have c4 : w7.cell? ⟨gh, 4, none⟩ = some (.slice qo sa.length qc) := HX7.out.all.2.2.2.2.1)
        | (refine load_ent rfl _ rfl w6.heap.size 0 (Hd.ent x) rfl HE7.out.at ?_))
       refine (refWith_any _ sa (Hd.ent x) w7 (HR6.out.below HB7.out).acc (by have := HLEN2.out.1; omega)).mono ?_
       rintro e w8 ⟨v8, rfl, ho8, hb8⟩
       have HZ7 := Lib.hid (HZ6.out.below HB7.out HZ6.out.lies.lt)
       have HR7 := Lib.hid (HR6.out.below HB7.out)
       have HBX7 : Hid (Below w.heap.size w w7) := HBX.out.trans (HB7.out.mono HBX.out.size)
       obtain ⟨we, hwe⟩ : ∃ g, g = w6.heap.size := ⟨_, rfl⟩
       rw [← hwe] at HE7 ⊢
       clear hwe d0 d1 d2 d3 d4 d5 d6 d7 d8 d9 d10 c2 HB7
       clear hk2
       obtain ⟨uo8, uc8, hs8⟩ := ho8.shape
       rw [List.length_map] at hs8
       have HO8 : Hid (ReadsE w8 v8 (En.put sa (Hd.ent x))) := by have h := ho8.reads (En.sized _); rw [En.refPut_eq _ _ HASC.out.1] at h; exact h
       rw [En.refPut_eq _ _ HASC.out.1] at hs8
       have HX8 := Lib.hid (HX7.out.below hb8 HX7.out.lies.lt)
       have HZ8 := Lib.hid (HZ7.out.below hb8 HZ7.out.lies.lt)
       have HR8 := Lib.hid (HR7.out.below hb8)
       have HB8 : Hid (Below w.heap.size w w8) := HBX7.out.trans (hb8.mono HBX7.out.size)
       clear ho8 hb8 c4 e0
       subst hs8
       obtain ⟨m, hm⟩ : ∃ m, m = (En.put sa (Hd.ent x)).length := ⟨_, rfl⟩
       rw [← hm] at HO8 ⊢
       have HM := Lib.hid hm
       clear hm
       go_wp2_with (refine store_acc rfl _ _ rfl uo8 m uc8 rfl rfl HX8.out ?_; intro w9 hx9 hg9; have HX9 := Lib.hid hx9; have HG9 := Lib.hid hg9; clear hx9 hg9)
       rw [HM.out] at HX9 HO8
       have HR9 : Hid (HardR w9 ⟨pr, ba, im, En.put sa (Hd.ent x), sc⟩ (.slice io im.length ic) (.slice uo8 (En.put sa (Hd.ent x)).length uc8) (.slice to sc.length tc)) := (show HardR w8 ⟨pr, ba, im, En.put sa (Hd.ent x), sc⟩ (.slice io im.length ic) (.slice uo8 (En.put sa (Hd.ent x)).length uc8) (.slice to sc.length tc) from ⟨HR8.out.img, HO8.out, HR8.out.chs⟩).over HX8.out HG9.out
       have HZ9 := Lib.hid (HZ8.out.kept HG9.out HSZ2.out.2.2.1)
       have HB9 : Hid (Below w.heap.size w w9) := HB8.out.grown HG9.out HB8.out.size (by rintro j hj; cases hj; have := HSZ2.out.2.2.2.2; omega)
       go_wp2
       go_roundw
       case rel => exact ⟨k + 1, (En.put sa (Hd.ent x), sc), uo8, uc8, to, tc, by go_num, by omega, HT8.out, HX9.out, HR9.out, HZ9.out, HB9.out⟩
       case measure => simp [intOf]; omega
      ·have hk2b : (x.kind == 2) = false := by simpa using hk2
       have HK2 := Lib.hid hk2
       go_wp2_with (refine store_ent rfl _ _ rfl w6.heap.size En.zero (Hd.ent x) rfl rfl (Lies.new _ _ _) ?_; intro w7 hl7 hg7; have HB7 : Hid (Below w6.heap.size w6 w7) := fresh_below hg7; have HE7 := Lib.hid hl7; clear hl7 hg7; have HL7 := Lib.hid (HL6.out.below HB7.out HL6.out.lt); have e0 : w7.cell? ⟨rb, 0, none⟩ = some (.int .i64 x.kind) := HL7.out.cell 0 _ rfl; have HX7 := Lib.hid (HX6.out.below HB7.out HX6.out.lies.lt); have c5 : w7.cell? ⟨gh, 5, none⟩ = some (.slice to sc.length tc) := HX7.out.all.2.2.2.2.2; have e3 : w7.cell? ⟨rb, 3, none⟩ = some (.int .i64 x.index) := HL7.out.cell 3 _ rfl)
       refine (refFindE_any _ sc x.index w7 (HR6.out.below HB7.out).chs HASC.out.2).mono ?_
       rintro e w8 ⟨rfl, hb8⟩
       have HZ7 := Lib.hid (HZ6.out.below HB7.out HZ6.out.lies.lt)
       have HR7 := Lib.hid (HR6.out.below HB7.out)
       have HBX7 : Hid (Below w.heap.size w w7) := HBX.out.trans (HB7.out.mono HBX.out.size)
       obtain ⟨we, hwe⟩ : ∃ g, g = w6.heap.size := ⟨_, rfl⟩
       rw [← hwe] at HE7 ⊢
       clear hwe d0 d1 d2 d3 d4 d5 d6 d7 d8 d9 d10 c2 HB7
       clear hk2
       have HX8 := Lib.hid (HX7.out.below hb8 HX7.out.lies.lt)
       have HZ8 := Lib.hid (HZ7.out.below hb8 HZ7.out.lies.lt)
       have HR8 := Lib.hid (HR7.out.below hb8)
       have HE8 := Lib.hid (HE7.out.below hb8 HE7.out.lt)
       have HB8 : Hid (Below w.heap.size w w8) := HBX7.out.trans (hb8.mono HBX7.out.size)
       clear hb8 c5 e3 e0
       obtain ⟨q, hq⟩ : ∃ q, q = En.pos sc x.index := ⟨_, rfl⟩
       rw [← hq]
       have HQ := Lib.hid hq
       clear hq
       by_cases hf : En.found sc x.index = true
       ·have hq0 : ¬ q < 0 := by rw [HQ.out, En.pos, if_pos hf]; omega
        have hq0b : decide (q < 0) = false := decide_eq_false hq0
        have HT8 : Hid (Hd.rows ba (l.take (k + 1)) = (sa, sc)) := by show _ = _; rw [HTWO.out, if_neg HK2.out, if_pos hf]
        clear hf
        go_wp2
        go_roundw
        case rel => exact ⟨k + 1, (sa, sc), qo, qc, to, tc, by go_num, by omega, HT8.out, HX8.out, HR8.out, HZ8.out, HB8.out⟩
        case measure => simp [intOf]; omega
       ·have hq0 : q < 0 := by rw [HQ.out, En.pos, if_neg hf]; omega
        have hq0b : decide (q < 0) = true := decide_eq_true hq0
        have HT8 : Hid (Hd.rows ba (l.take (k + 1)) = (sa, En.put sc (Hd.ent x))) := by show _ = _; rw [HTWO.out, if_neg HK2.out, if_neg hf]
        obtain ⟨_, _, _, _, _, c5⟩ := HX8.out.all
        clear hf
        go_wp2_with (refine load_ent rfl _ rfl we 0 (Hd.ent x) rfl (Ents.at HE8.out) ?_)
        refine (refWith_any _ sc (Hd.ent x) w8 HR8.out.chs (by have := HLEN2.out.2; omega)).mono ?_
        rintro e w9 ⟨v9, rfl, ho9, hb9⟩
        obtain ⟨uo9, uc9, hs9⟩ := ho9.shape
        rw [List.length_map] at hs9
        have HO9 : Hid (ReadsE w9 v9 (En.put sc (Hd.ent x))) := by have h := ho9.reads (En.sized _); rw [En.refPut_eq _ _ HASC.out.2] at h; exact h
        rw [En.refPut_eq _ _ HASC.out.2] at hs9
        have HX9 := Lib.hid (HX8.out.below hb9 HX8.out.lies.lt)
        have HZ9 := Lib.hid (HZ8.out.below hb9 HZ8.out.lies.lt)
        have HR9 := Lib.hid (HR8.out.below hb9)
        have HB9 : Hid (Below w.heap.size w w9) := HB8.out.trans (hb9.mono HB8.out.size)
        clear ho9 hb9 c5
        subst hs9
        obtain ⟨m, hm⟩ : ∃ m, m = (En.put sc (Hd.ent x)).length := ⟨_, rfl⟩
        rw [← hm] at HO9 ⊢
        have HM := Lib.hid hm
        clear hm
        go_wp2_with (refine store_chs rfl _ _ rfl uo9 m uc9 rfl rfl HX9.out ?_; intro w10 hx10 hg10; have HX10 := Lib.hid hx10; have HG10 := Lib.hid hg10; clear hx10 hg10)
        rw [HM.out] at HX10 HO9
        have HR10 : Hid (HardR w10 ⟨pr, ba, im, sa, En.put sc (Hd.ent x)⟩ (.slice io im.length ic) (.slice qo sa.length qc) (.slice uo9 (En.put sc (Hd.ent x)).length uc9)) := (show HardR w9 ⟨pr, ba, im, sa, En.put sc (Hd.ent x)⟩ (.slice io im.length ic) (.slice qo sa.length qc) (.slice uo9 (En.put sc (Hd.ent x)).length uc9) from ⟨HR9.out.img, HR9.out.acc, HO9.out⟩).over HX9.out HG10.out
        have HZ10 := Lib.hid (HZ9.out.kept HG10.out HSZ2.out.2.2.1)
        have HB10 : Hid (Below w.heap.size w w10) := HB9.out.grown HG10.out HB9.out.size (by rintro j hj; cases hj; have := HSZ2.out.2.2.2.2; omega)
        go_wp2
        go_roundw
        case rel => exact ⟨k + 1, (sa, En.put sc (Hd.ent x)), qo, qc, uo9, uc9, by go_num, by omega, HT8.out, HX10.out, HR10.out, HZ10.out, HB10.out⟩
        case measure => simp [intOf]; omega
    ·obtain rfl : n = k := by omega
     have HOF : Hid (Hd.of l = ⟨pr, ba, im, sa, sc⟩) := by
      have h := HT.out
      rw [List.take_of_length_le (by have := HN.out; omega)] at h
      show _ = _
      rw [Hd.of_ref]
      unfold Hd.refOf
      rw [HTOP.out]
      dsimp only
      rw [h]
     obtain ⟨sal, hsal⟩ : ∃ m, m = sa.length := ⟨_, rfl⟩
     obtain ⟨scl, hscl⟩ : ∃ m, m = sc.length := ⟨_, rfl⟩
     go_wp2_with (first
      | (refine load_hard rfl _ rfl rfl HX.out ?_)
      | (refine store_hard rfl _ _ rfl rfl HZ.out HX.out rfl ?_; intro w8 hx8 hg8; have HX8 := Lib.hid hx8; have HG8 := Lib.hid hg8; clear hx8 hg8))
     refine ret_hard1 rfl rfl HX8.out rfl ?_
     have HR8 := HR.out.over HZ.out HG8.out
     have HB8 : Below w.heap.size w w8 := HB.out.grown HG8.out HB.out.size (by rintro j hj; cases hj; have := HSZ2.out.2.2.2.1; omega)
     show MadeH w (Hd.of l) _ _
     rw [HOF.out]
     exact ⟨_, _, _, rfl, HR8, HB8⟩
end Go.Proofs.YteboceekcmchkaaGreatDoor
