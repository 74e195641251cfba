/- The laws of log files: awake, SegmHeads, SegmAdds. Written by wip/tools/genlaw20.py. -/
import Derived.Test.YteboceekcmchkaaGreatDoorSgRead
import Derived.Test.YteboceekcmchkaaGreatDoorPRtRef
import Derived.Test.YteboceekcmchkaaGreatDoorPHdLaw2
namespace Go.Proofs.YteboceekcmchkaaGreatDoor
open Go.RowKit
set_option maxHeartbeats 6400000
set_option maxRecDepth 8000
theorem Sg.has_nil (f : Int) : Sg.has f [] = Vs.opens 2 f := by
 unfold Sg.has
 rw [Vs.opens_two]
 by_cases h : f = 1 ∨ f = 2
 ·rw [if_neg (by omega), if_pos h]; rfl
 ·rw [if_pos (by omega), if_neg h]
theorem Sg.has_in {f : Int} (hf : f = 1 ∨ f = 2) (l : List Re.Rec) : Sg.has f l = Sg.hasAll f l := by
 unfold Sg.has
 rw [if_neg (by omega)]
theorem Sg.has_one (f : Int) (x : Re.Rec) : Sg.has f [x] = (Rt.put f x).2 := by
 unfold Rt.put
 by_cases hf : f = 1 ∨ f = 2
 ·rw [if_pos hf, Sg.has_in hf]
  unfold Sg.hasAll
  by_cases h : Re.olderIn f x = 0
  ·rw [if_neg (by simpa using h), if_neg (by simpa using h)]; rfl
  ·rw [if_pos h, if_pos h]
 ·rw [if_neg hf]
  unfold Sg.has
  rw [if_pos (by omega)]
theorem Sg.recs_small {h : Hd.Hard} (hf : h.Fits) (hi : h.img.length ≤ 300) (ha : ∀ e ∈ h.acc, e.cmd.Short 200) (hc : ∀ e ∈ h.chs, e.cmd.Short 200) : ∀ x ∈ Hd.recs h, x.Fits ∧ x.cmd.Short 1000 ∧ x.img.length ≤ 300 := by
 have hz : Cm.zero.Short 1000 := ⟨by simp [Cm.zero, Cm.bareOf], by simp [Cm.zero, Cm.bareOf], by simp [Cm.zero, Cm.bareOf]⟩
 have hzf : Cm.zero.Fits := by constructor <;> simp [Cm.zero, Cm.bareOf]
 intro x hx
 unfold Hd.recs at hx
 rcases List.mem_append.1 hx with hx | hx
 ·rcases List.mem_append.1 hx with hx | hx
  ·rcases List.mem_append.1 hx with hx | hx
   ·split at hx
    ·obtain rfl : x = Hd.recI h := by simpa using hx
     refine ⟨⟨fun z hz => ?_, hzf⟩, hz, hi⟩
     have h1 := hf.base
     simp [Re.nums, Hd.recI, Bl.zero] at hz
     omega
    ·simp at hx
   ·split at hx
    ·obtain rfl : x = Hd.recP h := by simpa using hx
     refine ⟨⟨fun z hz => ?_, hzf⟩, hz, by simp [Hd.recP]⟩
     obtain ⟨h1, h2, h3, h4⟩ := hf.prom
     simp [Re.nums, Hd.recP] at hz
     omega
    ·simp at hx
  ·obtain ⟨e, he, rfl⟩ := List.mem_map.1 hx
   refine ⟨⟨fun z hz => ?_, (hf.acc e he).1.cmd⟩, Short.up (ha e he) (by omega), by simp [Hd.recA]⟩
   obtain ⟨⟨h5, h6, ⟨h1, h2, h3, h4⟩, _⟩, _⟩ := hf.acc e he
   simp [Re.nums, Hd.recA] at hz
   omega
 ·obtain ⟨e, he, rfl⟩ := List.mem_map.1 hx
  refine ⟨⟨fun z hz => ?_, (hf.chs e he).1.cmd⟩, Short.up (hc e he) (by omega), by simp [Hd.recC]⟩
  obtain ⟨⟨h5, h6, _, _⟩, _⟩ := hf.chs e he
  simp [Re.nums, Hd.recC, Bl.zero] at hz
  omega
theorem Sg.whole_file {f : Int} (hf : f = 1 ∨ f = 2) {h : Hd.Hard} {more : List Re.Rec} (hok : ∀ x ∈ Hd.recs h ++ more, Re.olderIn f x = 0 ∧ x.Fits) (hl : (Hd.recs h).length ≤ 9223372036854775807) :
 Sg.Whole (Sg.file f h more) f ((Hd.recs h).length : Int) (Hd.recs h ++ more) (Sg.file f h more).length := by
 have h1 := (Sg.cut_read hf hok hl (Nat.le_refl (Sg.file f h more).length)).2 ((Hd.recs h).length + more.length) (by omega) (by omega)
 rw [Sg.ends_more, List.take_length, List.take_length, List.take_of_length_le (by simp)] at h1
 exact h1 (Nat.le_refl _) (by omega)
theorem Sg.file_one (f : Int) (x : Re.Rec) : Sg.file f Hd.zero [x] = Sg.file f Hd.zero [] ++ Frm.frame (Rt.bytesIn f x) := by
 unfold Sg.file Sg.bodies
 rw [Sg.recs_zero]
 simp [Frm.flat]
theorem Sg.ask_len : (Sg.file 1 Hd.zero []).length = 7 := by
 unfold Sg.file Sg.bodies
 rw [Sg.recs_zero]
 have h1 : Sg.first 1 0 = [1, 0] := by decide +kernel
 have h2 := Frm.frame_len [1, 0]
 have h3 : (enc ([1, 0] : List UInt8).length).length = 1 := by decide +kernel
 have e : Frm.flat [[1, 0]] = Frm.frame [1, 0] := by simp [Frm.flat]
 have h4 : ([1, 0] : List UInt8).length = 2 := rfl
 show (Frm.flat [Sg.first 1 0]).length = 7
 rw [h1, e]
 omega
theorem Sg.ask_whole : Sg.Whole (Sg.file 1 Hd.zero []) 1 0 [] 7 := by
 have := Sg.whole_file (f := 1) (h := Hd.zero) (more := []) (.inl rfl) (by rw [Sg.recs_zero]; intro x hx; simp at hx) (by rw [Sg.recs_zero]; simp)
 rw [Sg.ask_len, Sg.recs_zero] at this
 exact this
def SgWhole (w : World) (f : Int) (l : List Re.Rec) (a : Nat) (e : Ending) (w' : World) : Prop :=
 Below w.heap.size w w' ∧ ∃ vi va vc, e = .returned (.tuple #[.agg (Sg.cells f (Hd.of l) vi va vc (l.length : Int) (a : Int)), .int .i64 0]) ∧ HardR w' (Hd.of l) vi va vc
theorem readSg_whole (u : Value) (b : List UInt8) (w : World) (hT : CrcTab w) (hW : WordsIn w) (hu : Reads w u b) (hlen : b.length ≤ 4000000) {f s : Int} {l : List Re.Rec} {a : Nat} (hw : Sg.Whole b f s l a) : Calls Tryz.prog 18 #[u] w (SgWhole w f l a) := by
 refine (readSg_any u b w hT hW hu hlen).mono ?_
 rintro e w' ⟨hb, ⟨ht, _⟩ | ⟨f', s', l', a', vi, va, vc, hw', rfl, hr⟩⟩
 ·exact absurd hw (ht _ _ _ _)
 ·obtain ⟨rfl, _, rfl, rfl⟩ := hw.one hw'
  exact ⟨hb, vi, va, vc, rfl, hr⟩
theorem readSg_torn (u : Value) (b : List UInt8) (w : World) (hT : CrcTab w) (hW : WordsIn w) (hu : Reads w u b) (hlen : b.length ≤ 4000000) (ht : Sg.Torn b) : Calls Tryz.prog 18 #[u] w (Looks w (.tuple #[.agg (Sg.cells 0 Hd.zero Nil Nil Nil 0 0), .int .i64 17])) := by
 refine (readSg_any u b w hT hW hu hlen).mono ?_
 rintro e w' ⟨hb, ⟨_, rfl⟩ | ⟨f', s', l', a', vi, va, vc, hw', _⟩⟩
 ·exact ⟨rfl, hb⟩
 ·exact absurd hw' (ht _ _ _ _)
theorem Conts.new (w : World) (f : Int) {h : Hd.Hard} {vi va vc : Value} (r : HardR w h vi va vc) (n e : Int) : Conts (w.alloc (.cells (Sg.cells f h vi va vc n e) 50)) w.heap.size f h vi va vc n e := ⟨Lies.new w _ _, r.sl.1, r.sl.2.1, r.sl.2.2⟩
theorem awakeSg_any (w : World) (hT : CrcTab w) (hW : WordsIn w) : Calls Tryz.prog 8 #[] w (Truly w) := by
 have hhead := headZero_any w hT hW
 have HHEAD := Lib.hid hhead
 have HT := Lib.hid (fun W (h : Below w.heap.size w W) => hT.below h)
 have HW := Lib.hid (fun W (h : Below w.heap.size w W) => hW.below h)
 clear hhead hT hW
 go_enter Tryz.func8, Tryz.ntmps8
 go_wp2_with fail
 refine HHEAD.out.mono ?_
 rintro e w1 ⟨u, rfl, ho1, hb1⟩
 dsimp only at ho1 ⊢
 have hread := readSg_whole u _ w1 (HT.out _ hb1) (HW.out _ hb1) ho1.reads (by rw [Sg.ask_len]; omega) Sg.ask_whole
 obtain ⟨uo, uc, hsh⟩ := ho1.reads.shape
 rw [Sg.ask_len] at hsh
 subst hsh
 have HREAD := Lib.hid hread; have HB1 := Lib.hid hb1
 clear hread ho1 hb1
 go_wp2_with (first
  | (go_at_call 18
     refine HREAD.out.mono ?_
     rintro e w2 ⟨hb2, vi, va, vc, rfl, hr2⟩
     have HB2 := Lib.hid hb2; have HR2 := Lib.hid hr2
     clear hb2 hr2)
  | (refine store_cont rfl _ _ rfl rfl (Conts.mk (Lies.new w2 50 _) ⟨_, _, _, rfl⟩ ⟨_, _, _, rfl⟩ ⟨_, _, _, rfl⟩ : Conts _ _ 0 Hd.zero Nil Nil Nil 0 0) (Conts.new w2 1 HR2.out _ _) rfl ?_
     intro w3 hx3 hg3
     have HB3 : Hid (Below w2.heap.size w2 w3) := fresh_below hg3
     obtain ⟨c0, c1, c2, c3, c4, c5, c6, c7, c8⟩ := hx3.all
     clear hx3 hg3)
  | fail)
 go_ret
 exact truly_of (HB1.out.trans ((HB2.out.trans (HB3.out.mono HB2.out.size)).mono HB1.out.size))
theorem segmHeads_any (f : Int) (h : Hd.Hard) (vi va vc : Value) (w : World) (hT : CrcTab w) (hW : WordsIn w) (hr : HardR w h vi va vc) (hf : h.Fits) :
 Calls Tryz.prog 3 #[.int .i64 f, .agg (Hd.cells h vi va vc)] w (Truly w) := by
 obtain ⟨w1, e1, hx1, hB1, hs1⟩ := box_six w 27 h vi va vc hr
 have HX1 := Lib.hid hx1; have HB1 := Lib.hid hB1
 have HT := Lib.hid (fun W (h : Below w.heap.size w W) => hT.below h)
 have HW := Lib.hid (fun W (h : Below w.heap.size w W) => hW.below h)
 have HR1 := Lib.hid (hr.below hB1)
 have HFIT := Lib.hid hf
 have hcall := heavyH_any h vi va vc w1 HR1.out (fun e he => (hf.acc e he).2) (fun e he => (hf.chs e he).2)
 obtain ⟨t, ht⟩ : ∃ t, t = (decide (300 < h.img.length) || (En.large h.acc || En.large h.chs)) := ⟨_, rfl⟩
 rw [← ht] at hcall
 have HTT := Lib.hid ht
 clear hx1 hB1 hs1 hT hW hr hf ht
 go_enter Tryz.func3, Tryz.ntmps3
 go_wp2_with (refine load_hard rfl _ rfl rfl HX1.out ?_)
 refine hcall.mono ?_
 rintro e w2 ⟨rfl, hb2⟩
 have HB2 := Lib.hid (HB1.out.trans (hb2.mono HB1.out.size))
 have HX2 := Lib.hid (HX1.out.below hb2 HX1.out.lies.lt)
 have HR2 := Lib.hid (HR1.out.below hb2)
 clear hcall hb2 e1
 cases t with
 | true =>
  go_wp2_with fail
  refine (awakeSg_any w2 (HT.out _ HB2.out) (HW.out _ HB2.out)).mono ?_
  rintro ea wa ⟨rfl, hba⟩
  go_wp2
  go_ret
  exact truly_of (HB2.out.trans (hba.mono HB2.out.size))
 | false =>
  have hno := HTT.out.symm
  simp only [Bool.or_eq_false_iff, decide_eq_false_iff_not] at hno
  have HFEW : Hid h.Few := ⟨by have := hno.1; omega, by have := (En.small hno.2.1).1; omega, by have := (En.small hno.2.2).1; omega⟩
  have HA : Hid (∀ e ∈ h.acc, e.cmd.Short 140737488355328) := fun e he => Short.up ((En.small hno.2.1).2 e he) (by omega)
  have HC : Hid (∀ e ∈ h.chs, e.cmd.Short 140737488355328) := fun e he => Short.up ((En.small hno.2.2).2 e he) (by omega)
  have HN : Hid (h.acc.length ≤ 100 ∧ h.chs.length ≤ 100) := ⟨by have := (En.small hno.2.1).1; omega, by have := (En.small hno.2.2).1; omega⟩
  have HRL : Hid ((Hd.recs h).length ≤ 1000) := by
   have h1 := HN.out
   have h3 := Hd.recs_len h
   show _ ≤ _
   omega
  have HXS : Hid (∀ x ∈ Hd.recs h, x.Fits ∧ x.cmd.Short 1000 ∧ x.img.length ≤ 300) := Sg.recs_small HFIT.out (by have := hno.1; omega) (En.small hno.2.1).2 (En.small hno.2.2).2
  obtain ⟨b, hb⟩ : ∃ b : Bool, b = true ↔ Hd.Valid h := by
   by_cases v : Hd.Valid h
   ·exact ⟨true, fun _ => v, fun _ => rfl⟩
   ·exact ⟨false, fun h => by simp at h, fun h => absurd h v⟩
  have HBV := Lib.hid hb
  have hhead := headSg_any b f h vi va vc w2 (HT.out _ HB2.out) (HW.out _ HB2.out) HR2.out hb HFEW.out HRL.out HA.out HC.out (fun x hx => ⟨(HXS.out x hx).1, (HXS.out x hx).2.1, by have := (HXS.out x hx).2.2; omega⟩)
  obtain ⟨r, hr⟩ : ∃ r, r = Sg.head b f h := ⟨_, rfl⟩
  rw [← hr] at hhead
  unfold Sg.head at hr
  have HEAD := Lib.hid hhead
  have HNIL := Lib.hid (Sg.has_nil f)
  obtain ⟨z, hz⟩ : ∃ z, z = Vs.opens 2 f := ⟨_, rfl⟩
  rw [← hz] at hr HNIL
  have HZ : Hid (z = 0 → f = 1 ∨ f = 2) := fun h0 => by
   rw [h0, Vs.opens_two] at hz
   by_cases h1 : f = 1 ∨ f = 2
   ·exact h1
   ·rw [if_neg h1] at hz; omega
  have HR := Lib.hid hr
  clear hno hb hhead hr hz
  go_wp2_with (refine load_hard rfl _ rfl rfl HX2.out ?_)
  refine HEAD.out.mono ?_
  rintro e w3 ⟨u, rfl, ho3, hb3⟩
  have HO3 := Lib.hid ho3
  have HB3 := Lib.hid (HB2.out.trans (hb3.mono HB2.out.size))
  have HX3 := Lib.hid (HX2.out.below hb3 HX2.out.lies.lt)
  have HR3 := Lib.hid (HR2.out.below hb3)
  clear ho3 hb3
  obtain ⟨uo, uc, hsh⟩ := HO3.out.reads.shape
  obtain ⟨un, hun⟩ : ∃ n, n = r.1.length := ⟨_, rfl⟩
  rw [← hun] at hsh
  have HUN := Lib.hid hun
  subst hsh
  clear hun
  go_wp2_with fail
  refine (refHasSg_any (p := fun _ _ => True) f (.slice none 0 0) [] w3 (ListP.bare _ _) (fun x hx => by simp at hx)).mono ?_
  rw [HNIL.out]
  rintro e w4 ⟨rfl, hb4⟩
  have HB4 := Lib.hid (HB3.out.trans (hb4.mono HB3.out.size))
  have HX4 := Lib.hid (HX3.out.below hb4 HX3.out.lies.lt)
  have HR4 := Lib.hid (HR3.out.below hb4)
  have HO4 := Lib.hid (HO3.out.reads.below hb4)
  clear hb4 HEAD
  by_cases h0 : z = 0
  ·subst h0
   have HF := Lib.hid (HZ.out rfl)
   have HRA := Lib.hid (HR.out.trans (if_neg (by simp)))
   obtain ⟨c0, c1, c2, c3, c4, c5⟩ := HX4.out.all
   clear HR
   go_wp2_with fail
   refine (refCheckH_any b h vi va vc w4 HR4.out HBV.out HA.out HC.out).mono ?_
   rintro e w5 ⟨rfl, hb5⟩
   have HB5 := Lib.hid (HB4.out.trans (hb5.mono HB4.out.size))
   have HX5 := Lib.hid (HX4.out.below hb5 HX4.out.lies.lt)
   have HR5 := Lib.hid (HR4.out.below hb5)
   have HO5 := Lib.hid (HO4.out.below hb5)
   clear hb5 c0 c1 c2 c3 c4 c5
   cases b with
   | false =>
    have HRB : Hid (r = ([], 3)) := HRA.out.trans (if_pos rfl)
    obtain rfl : un = 0 := by rw [HUN.out, HRB.out]; rfl
    rw [HRB.out]
    clear HRA
    go_wp2_with fail
    refine (awakeSg_any w5 (HT.out _ HB5.out) (HW.out _ HB5.out)).mono ?_
    rintro ea wa ⟨rfl, hba⟩
    go_wp2
    go_ret
    exact truly_of (HB5.out.trans (hba.mono HB5.out.size))
   | true =>
    have HVAL : Hid (Hd.Valid h) := HBV.out.1 rfl
    have HRB := Lib.hid (HRA.out.trans (if_neg (by simp)))
    clear HRA
    go_wp2_with (refine load_hard rfl _ rfl rfl HX5.out ?_)
    refine (refRecords_any h vi va vc w5 HR5.out HVAL.out ⟨by have := HN.out; omega, by have := HN.out; omega⟩).mono ?_
    rintro e w6 ⟨v6, rfl, hl6, hb6⟩
    have HL6 := Lib.hid (RecsN.reads hl6)
    have HB6 := Lib.hid (HB5.out.trans (hb6.mono HB5.out.size))
    have HX6 := Lib.hid (HX5.out.below hb6 HX5.out.lies.lt)
    have HR6 := Lib.hid (HR5.out.below hb6)
    have HO6 := Lib.hid (HO5.out.below hb6)
    clear hl6 hb6
    obtain ⟨q, hq⟩ : ∃ q, q = Sg.hasAll f (Hd.recs h) := ⟨_, rfl⟩
    have HQ := Lib.hid hq
    have hhas := refHasSg_any f v6 (Hd.recs h) w6 HL6.out (Hd.recs_short h HA.out HC.out)
    rw [Sg.has_in HF.out, ← hq] at hhas
    rw [← hq] at HRB
    have HHAS := Lib.hid hhas
    clear hhas hq
    go_wp2_with fail
    refine HHAS.out.mono ?_
    rintro e w7 ⟨rfl, hb7⟩
    have HB7 := Lib.hid (HB6.out.trans (hb7.mono HB6.out.size))
    have HX7 := Lib.hid (HX6.out.below hb7 HX6.out.lies.lt)
    have HR7 := Lib.hid (HR6.out.below hb7)
    have HO7 := Lib.hid (HO6.out.below hb7)
    clear hb7 HHAS
    by_cases hq0 : q = 0
    ·subst hq0
     have HRC : Hid (r = (Sg.file f h [], 0)) := HRB.out.trans (if_neg (by simp))
     have hok : ∀ x ∈ Hd.recs h ++ [], Re.olderIn f x = 0 ∧ x.Fits := fun x hx => by
      rw [List.append_nil] at hx
      exact ⟨(Sg.hasAll_iff _).1 HQ.out.symm x hx, (HXS.out x hx).1⟩
     have HFILE := Lib.hid (refFile_any f HF.out h vi va vc (.slice none 0 0) [] w7 HR7.out HVAL.out HN.out (ListP.bare _ _) (by simp) (fun x hx => (Sg.body_len (hok x hx).1 (hok x hx).2).1) HRL.out)
     rw [HRC.out] at HO7 ⊢
     dsimp only at HO7 ⊢
     obtain ⟨c0, c1, c2, c3, c4, c5⟩ := HX7.out.all
     clear hok HRB
     go_wp2_with fail
     refine HFILE.out.mono ?_
     rintro e w8 ⟨v8, rfl, ho8, hb8⟩
     have HO8 := Lib.hid ho8.reads
     have HB8 := Lib.hid (HB7.out.trans (hb8.mono HB7.out.size))
     have HO9 := Lib.hid (HO7.out.below hb8)
     clear ho8 hb8 c0 c1 c2 c3 c4 c5
     go_wp2_with fail
     refine (same_any _ _ (Sg.file f h []) (Sg.file f h []) w8 HO9.out HO8.out).mono ?_
     rintro e w9 ⟨rfl, n9, rfl⟩
     rw [show (Sg.file f h [] == Sg.file f h []) = true by simp]
     have HB9 : Hid (Below w.heap.size w (w8.drewN n9)) := HB8.out.trans ((drawn w8 n9).mono HB8.out.size)
     generalize w8.drewN n9 = w9 at HB9 ⊢
     go_wp2_with fail
     refine (awakeSg_any w9 (HT.out _ HB9.out) (HW.out _ HB9.out)).mono ?_
     rintro ea wa ⟨rfl, hba⟩
     go_wp2
     go_ret
     exact truly_of (HB9.out.trans (hba.mono HB9.out.size))
    ·have hqb : (q != 0) = true := by simpa using hq0
     have hqc : (q == 0) = false := by simpa using hq0
     have HRC : Hid (r = ([], q)) := HRB.out.trans (if_pos hq0)
     obtain rfl : un = 0 := by rw [HUN.out, HRC.out]; rfl
     rw [HRC.out]
     clear HRB hq0
     go_wp2_with fail
     refine (awakeSg_any w7 (HT.out _ HB7.out) (HW.out _ HB7.out)).mono ?_
     rintro ea wa ⟨rfl, hba⟩
     go_wp2
     go_ret
     exact truly_of (HB7.out.trans (hba.mono HB7.out.size))
  ·have hzb : (z != 0) = true := by simpa using h0
   have hzc : (z == 0) = false := by simpa using h0
   have HRC : Hid (r = ([], z)) := HR.out.trans (if_pos h0)
   obtain rfl : un = 0 := by rw [HUN.out, HRC.out]; rfl
   rw [HRC.out]
   clear HR h0
   go_wp2_with fail
   refine (awakeSg_any w4 (HT.out _ HB4.out) (HW.out _ HB4.out)).mono ?_
   rintro ea wa ⟨rfl, hba⟩
   go_wp2
   go_ret
   exact truly_of (HB4.out.trans (hba.mono HB4.out.size))
theorem run_rest_sg (w : World) (ao : Option Addr) (n cap f : Nat) (hf : f ≤ n) :
 (Instr.slice 24 (.slice ao n cap) (some (.int .i64 (f : Int))) none none).run Tryz.prog w = .ok (sliced ao f n cap 1) w := by
 have he : Tryz.prog.elem 24 = 5 := by kernel_rfl
 obtain ⟨i, h1, _⟩ := info_parts info_u8
 have hrun := run_slice_l (P := Tryz.prog) (w := w) 24 ao n cap (by rw [he]; exact Tryz.underlying24) .i64 (f : Int) (by omega) (by omega)
 rw [he] at hrun
 refine hrun.trans ?_
 rw [run_sizeOf _ h1, show Tryz.prog.cellsOf 5 = 1 by kernel_rfl]
 simp only [Result.andThen, Int.toNat_natCast]
theorem RecsP.one {w : World} {g : Nat} {x : Re.Rec} {vi : Value} (h : Lies w g 42 (Re.cells x vi)) (hi : Reads w vi x.img) : RecsP (fun k _ => k < w.heap.size) w (.slice (some ⟨g, 0, none⟩) 1 1) [x] :=
 RecsP.lit (ps := [(x, vi)]) (by simpa [flatR, rowsOf] using h) (fun q hq => by
  obtain rfl : q = (x, vi) := by simpa using hq
  exact ReadsP.of_reads hi fun b t hb => hb) (by simp)
theorem segmAdds_any (f : Int) (x : Re.Rec) (xi : Value) (w : World) (hT : CrcTab w) (hW : WordsIn w) (hx : Reads w xi x.img) (hf : x.Fits) (hsx : x.cmd.Short 9223372036854775807) :
 Calls Tryz.prog 4 #[.int .i64 f, .agg (Re.cells x xi)] w (Truly w) := by
 obtain ⟨w1, e1, hl1, hB1, hs1⟩ := box_rec w x xi
 have HT := Lib.hid (fun W (h : Below w.heap.size w W) => hT.below h)
 have HW := Lib.hid (fun W (h : Below w.heap.size w W) => hW.below h)
 have HXI := Lib.hid (fun W (h : Below w.heap.size w W) => hx.below h)
 have HL1 := Lib.hid hl1; have HB1 := Lib.hid hB1; have HSX0 := Lib.hid hsx; have HFIT := Lib.hid hf
 obtain ⟨xo, xc, rfl⟩ := hx.shape
 obtain ⟨xk, hxk⟩ : ∃ n, n = x.img.length := ⟨_, rfl⟩
 rw [← hxk] at HXI HL1 e1 ⊢
 clear hl1 hB1 hs1 hT hW hx hf hsx hxk
 have HA1 : Hid (Below w.heap.size w (w1.alloc (.cells (Re.cells x (.slice xo xk xc)) 42))) := HB1.out.alloc HB1.out.size _
 have hlarge := largeH_any (.slice (some ⟨w1.heap.size, 0, none⟩) 1 1) [x] _ (RecsP.one (Lies.new w1 42 (Re.cells x (.slice xo xk xc))) (HXI.out _ HA1.out)) (fun d hd => by
  obtain rfl : d = x := by simpa using hd
  exact HSX0.out)
 have HLARGE := Lib.hid hlarge
 obtain ⟨d0, d1, d2, d3, d4, d5, d6, d7, d8, d9, d10, d11⟩ := Recs.all HL1.out
 clear hlarge
 go_enter Tryz.func4, Tryz.ntmps4
 go_wp2_with fail
 refine HLARGE.out.mono ?_
 rintro e w2 ⟨t, rfl, hb2, hsm⟩
 have HB2 := Lib.hid (HA1.out.trans (hb2.mono HA1.out.size))
 have HL2 := Lib.hid ((HL1.out.below ((Below.refl _ w1).alloc (Nat.le_refl _) _) HL1.out.lt).below hb2 (Nat.lt_of_lt_of_le HL1.out.lt (by simp)))
 have HSM := Lib.hid hsm
 clear hb2 hsm d0 d1 d2 d3 d4 d5 d6 d7 d8 d9 d10 d11 HLARGE e1
 cases t with
 | true =>
  go_wp2_with fail
  refine (awakeSg_any w2 (HT.out _ HB2.out) (HW.out _ HB2.out)).mono ?_
  rintro ea wa ⟨rfl, hba⟩
  go_wp2
  go_ret
  exact truly_of (HB2.out.trans (hba.mono HB2.out.size))
 | false =>
  obtain ⟨_, hall⟩ := HSM.out rfl
  obtain ⟨hlg, him⟩ := hall x (by simp)
  have HSX : Hid (x.cmd.Short 1000) := Short.up (Re.small hlg).1 (by omega)
  have HIM : Hid (x.img.length ≤ 300) := him
  clear hall hlg him HSM
  have hadd := addSg_any f x (.slice xo xk xc) w2 (HT.out _ HB2.out) (HW.out _ HB2.out) (HXI.out _ HB2.out) HFIT.out HSX.out (by have := HIM.out; omega)
  have HPUT := Lib.hid (fun h => Sg.put_ok (f := f) (x := x) h)
  obtain ⟨q, hq⟩ : ∃ q, q = (Rt.put f x).2 := ⟨_, rfl⟩
  have HADD : Hid (Sg.add f x = if q ≠ 0 then ([], q) else (Frm.frame (Rt.bytesIn f x), 0)) := by show _ = _; rw [hq]; rfl
  have HHAS1 : Hid (Sg.has f [x] = q) := (Sg.has_one f x).trans hq.symm
  rw [← hq] at HPUT
  obtain ⟨r, hr⟩ : ∃ r, r = Sg.add f x := ⟨_, rfl⟩
  rw [← hr] at hadd HADD
  have HCALL := Lib.hid hadd
  obtain ⟨d0, d1, d2, d3, d4, d5, d6, d7, d8, d9, d10, d11⟩ := Recs.all HL2.out
  clear hadd hq hr
  go_wp2_with fail
  refine HCALL.out.mono ?_
  rintro e w3 ⟨u, rfl, ho3, hb3⟩
  have HB3 := Lib.hid (HB2.out.trans (hb3.mono HB2.out.size))
  have HL3 := Lib.hid (HL2.out.below hb3 HL2.out.lt)
  have HO3 := Lib.hid ho3.reads
  clear ho3 hb3 d0 d1 d2 d3 d4 d5 d6 d7 d8 d9 d10 d11 HCALL
  obtain ⟨uo, uc, hsh⟩ := HO3.out.shape
  obtain ⟨un, hun⟩ : ∃ n, n = r.1.length := ⟨_, rfl⟩
  rw [← hun] at hsh
  have HUN := Lib.hid hun
  subst hsh
  clear hun
  have HA3 : Hid (Below w.heap.size w (w3.alloc (.cells (Re.cells x (.slice xo xk xc)) 42))) := HB3.out.alloc HB3.out.size _
  have hhas := refHasSg_any f (.slice (some ⟨w3.heap.size, 0, none⟩) 1 1) [x] _ (RecsP.one (Lies.new w3 42 (Re.cells x (.slice xo xk xc))) (HXI.out _ HA3.out)) (fun d hd => by
   obtain rfl : d = x := by simpa using hd
   exact Short.up HSX.out (by omega))
  rw [HHAS1.out] at hhas
  have HHAS := Lib.hid hhas
  obtain ⟨d0, d1, d2, d3, d4, d5, d6, d7, d8, d9, d10, d11⟩ := Recs.all HL3.out
  clear hhas
  go_wp2_with fail
  refine HHAS.out.mono ?_
  rintro e w4 ⟨rfl, hb4⟩
  have HB4 := Lib.hid (HA3.out.trans (hb4.mono HA3.out.size))
  have hb34 : Below w3.heap.size w3 w4 := ((Below.refl _ w3).alloc (Nat.le_refl _) _).trans (hb4.mono (by simp))
  have HL4 := Lib.hid (HL3.out.below hb34 HL3.out.lt)
  have HO4 := Lib.hid (HO3.out.below hb34)
  clear hb4 hb34 d0 d1 d2 d3 d4 d5 d6 d7 d8 d9 d10 d11 HHAS
  by_cases h0 : q = 0
  ·obtain ⟨hf, hold, _⟩ := HPUT.out h0
   have HF := Lib.hid hf; have HOLD := Lib.hid hold
   have HR : Hid (r = (Frm.frame (Rt.bytesIn f x), 0)) := HADD.out.trans (if_neg (by simpa using h0))
   subst h0
   rw [HR.out] at HO4 ⊢
   dsimp only at HO4 ⊢
   have HOKX : Hid (Sg.Ok f x) := (Sg.body_len hold HFIT.out).1
   have HA4 : Hid (Below w.heap.size w (w4.alloc (.cells (Re.cells x (.slice xo xk xc)) 42))) := HB4.out.alloc HB4.out.size _
   have hfile := refFile_any f hf Hd.zero Nil Nil Nil (.slice (some ⟨w4.heap.size, 0, none⟩) 1 1) [x] _ (HardR.zero _) Hd.valid_zero ⟨by simp [Hd.zero], by simp [Hd.zero]⟩ (RecsP.one (Lies.new w4 42 (Re.cells x (.slice xo xk xc))) (HXI.out _ HA4.out)) (by simp) (fun d hd => by
    rw [Sg.recs_zero] at hd
    obtain rfl : d = x := by simpa using hd
    exact HOKX.out) (by rw [Sg.recs_zero]; simp)
   have HFILE := Lib.hid hfile
   obtain ⟨d0, d1, d2, d3, d4, d5, d6, d7, d8, d9, d10, d11⟩ := Recs.all HL4.out
   clear hfile hf hold HADD HPUT
   go_wp2_with fail
   refine HFILE.out.mono ?_
   rintro e w5 ⟨v5, rfl, ho5, hb5⟩
   have HB5 := Lib.hid (HA4.out.trans (hb5.mono HA4.out.size))
   have hb45 : Below w4.heap.size w4 w5 := ((Below.refl _ w4).alloc (Nat.le_refl _) _).trans (hb5.mono (by simp))
   have HO5 := Lib.hid ho5.reads
   have HU5 := Lib.hid (HO4.out.below hb45)
   clear ho5 hb5 hb45 d0 d1 d2 d3 d4 d5 d6 d7 d8 d9 d10 d11 HFILE
   go_wp2_with fail
   refine (refFile_any f HF.out Hd.zero Nil Nil Nil (.slice none 0 0) [] w5 (HardR.zero _) Hd.valid_zero ⟨by simp [Hd.zero], by simp [Hd.zero]⟩ (ListP.bare _ _) (by simp) (fun d hd => by rw [Sg.recs_zero] at hd; simp at hd) (by rw [Sg.recs_zero]; simp)).mono ?_
   rintro e w6 ⟨v6, rfl, ho6, hb6⟩
   have HB6 := Lib.hid (HB5.out.trans (hb6.mono HB5.out.size))
   have HO6 := Lib.hid (HO5.out.below hb6); have HU6 := Lib.hid (HU5.out.below hb6); have HY6 := Lib.hid ho6.reads
   clear ho6 hb6
   rw [Sg.file_one] at HO6
   obtain ⟨P, hP⟩ : ∃ P, P = Sg.file f Hd.zero [] := ⟨_, rfl⟩
   obtain ⟨M, hM⟩ : ∃ M, M = Frm.frame (Rt.bytesIn f x) := ⟨_, rfl⟩
   rw [← hP] at HO6 HY6
   rw [← hM] at HO6 HU6
   obtain ⟨po, pc, hsp⟩ := HY6.out.shape
   obtain ⟨oo, oc, hso⟩ := HO6.out.shape
   obtain ⟨pn, hpn⟩ : ∃ n, n = P.length := ⟨_, rfl⟩
   obtain ⟨on', hon⟩ : ∃ n, n = (P ++ M).length := ⟨_, rfl⟩
   rw [← hpn] at hsp
   rw [← hon] at hso
   subst hsp
   subst hso
   have hle : pn ≤ on' := by rw [hpn, hon, List.length_append]; omega
   have hpt := HO6.out.part pn on' hle (by rw [hon]; exact Nat.le_refl _)
   rw [show ((P ++ M).drop pn).take (on' - pn) = M by rw [hpn, List.drop_left, hon, List.length_append, List.take_of_length_le (by omega)]] at hpt
   obtain ⟨so, sc, hsl⟩ := hpt.shape
   obtain ⟨sn, hsn⟩ : ∃ n, n = M.length := ⟨_, rfl⟩
   rw [← hsn] at hsl
   rw [hsl] at hpt
   have hslice : ∀ W : World, (Instr.slice 24 (.slice oo on' oc) (some (.int .i64 (pn : Int))) none none).run Tryz.prog W = .ok (.slice so sn sc) W := fun W => (run_rest_sg W _ _ _ pn hle).trans (by rw [hsl])
   have HPT := Lib.hid hpt
   clear hP hM hpn hon hle hpt hsl hsn
   go_wp2_with fail
   refine (same_any _ _ M M w6 HU6.out HPT.out).mono ?_
   rintro e w7 ⟨rfl, n7, rfl⟩
   rw [show (M == M) = true by simp]
   have HB7 : Hid (Below w.heap.size w (w6.drewN n7)) := HB6.out.trans ((drawn w6 n7).mono HB6.out.size)
   generalize w6.drewN n7 = w7 at HB7 ⊢
   clear hslice
   go_wp2_with fail
   refine (awakeSg_any w7 (HT.out _ HB7.out) (HW.out _ HB7.out)).mono ?_
   rintro ea wa ⟨rfl, hba⟩
   go_wp2
   go_ret
   exact truly_of (HB7.out.trans (hba.mono HB7.out.size))
  ·have hqb : (q != 0) = true := by simpa using h0
   have HR : Hid (r = ([], q)) := HADD.out.trans (if_pos h0)
   obtain rfl : un = 0 := by rw [HUN.out, HR.out]; rfl
   rw [HR.out]
   clear h0 HADD HPUT
   go_wp2_with fail
   refine (awakeSg_any w4 (HT.out _ HB4.out) (HW.out _ HB4.out)).mono ?_
   rintro ea wa ⟨rfl, hba⟩
   go_wp2
   go_ret
   exact truly_of (HB4.out.trans (hba.mono HB4.out.size))
end Go.Proofs.YteboceekcmchkaaGreatDoor
