/- Several texts of mine in one: HdLaw1 HdCame HdLaw2 SgLaw1 SgLaw2. -/
import Derived.Test.YteboceekcmchkaaGreatDoorGHc
import Derived.Test.YteboceekcmchkaaGreatDoorPSgHead
import Derived.Test.YteboceekcmchkaaGreatDoorPGMg
import Derived.Test.YteboceekcmchkaaGreatDoorPMsCame
import Derived.Test.YteboceekcmchkaaGreatDoorSgRead
import Derived.Test.YteboceekcmchkaaGreatDoorPRtRef
import Derived.Test.YteboceekcmchkaaGreatDoorGSc
namespace Go.Proofs.YteboceekcmchkaaGreatDoor
open Go.RowKit
theorem RecsP.lit {w : World} {g : Nat} {ps : List (Re.Rec × Value)} (h : Lies w g 42 (flatR (rowsOf Re.cells ps)).toArray) (hps : ∀ q ∈ ps, ReadsP (fun k _ => k < w.heap.size) w q.2 q.1.img) (hn : ps.length ≤ 1000) :
 RecsP (fun k _ => k < w.heap.size) w (.slice (some ⟨g, 0, none⟩) ps.length ps.length) (ps.map (·.1)) := by
 have hs : Sized 12 (rowsOf Re.cells ps) := rowsOf_sized cellR_ok fun q hq => (hps q hq).one
 have hl : (rowsOf Re.cells ps).length = ps.length := by simp [rowsOf]
 have hr := ReadsR.lit h hs (by omega)
 rw [hl] at hr
 exact ⟨ps, rfl, RowP.of_reads hr (by omega) hs fun b t hb => hb, hps⟩
end Go.Proofs.YteboceekcmchkaaGreatDoor

namespace Go.Proofs.YteboceekcmchkaaGreatDoor
open Go.RowKit
set_option maxRecDepth 20000
section
structure Hd.Hard.Fits (h : Hd.Hard) : Prop where
 prom : h.prom.Fits
 base : -9223372036854775808 ≤ h.base ∧ h.base ≤ 9223372036854775807
 acc : ∀ e ∈ h.acc, e.Fits ∧ e.cmd.Short 9223372036854775807
 chs : ∀ e ∈ h.chs, e.Fits ∧ e.cmd.Short 9223372036854775807
section
variable {H : Type} {enc : TypeId × Value → H} {w : World} {b0 base : Nat} {held : Bool}
theorem el_hard (m : Nat) (cs : List Value) (y : DataW H × List MemPlace) (h : DataW.trod enc Tryz.prog w base (fun _ => true) held m 27 cs = some y) :
 ∃ (a : Hd.Hard) (vi va vc : Value), cs = (Hd.cells a vi va vc).toList ∧ HardR w a vi va vc ∧ a.Fits := by
 obtain ⟨ys, n, _, _, hl, hlen, hat⟩ := DataW.trod_struct Tryz.underlying27 h
 have hce : Tryz.prog.cellsOf 27 = 6 := by kernel_rfl
 have hci : Tryz.prog.cellsOf 3 = 1 := by kernel_rfl
 have hcb : Tryz.prog.cellsOf 23 = 2 := by kernel_rfl
 have hcs : Tryz.prog.cellsOf 25 = 1 := by kernel_rfl
 have hcu : Tryz.prog.cellsOf 24 = 1 := by kernel_rfl
 have g0 := hat 0 _ rfl
 have g1 := hat 1 _ rfl
 have g2 := hat 2 _ rfl
 have g3 := hat 3 _ rfl
 have g4 := hat 4 _ rfl
 rw [List.getElem?_eq_getElem (by rw [hlen]; simp)] at g0 g1 g2 g3 g4
 have g0' : DataW.trod enc Tryz.prog w base (fun _ => true) held n 23 ((cs.drop 0).take (Tryz.prog.cellsOf 23)) = some _ := g0
 rw [hcb] at g0'
 obtain ⟨b, e0, fb⟩ := el_bal _ _ _ g0'
 have g1' : DataW.trod enc Tryz.prog w base (fun _ => true) held n 3 ((cs.drop 2).take (Tryz.prog.cellsOf 3)) = some _ := g1
 obtain ⟨bs, e1, a1, b1⟩ := one_int Tryz.underlying3 g1' hci
 have g2' : DataW.trod enc Tryz.prog w base (fun _ => true) held n 24 ((cs.drop 3).take (Tryz.prog.cellsOf 24)) = some _ := g2
 rw [hcu] at g2'
 obtain ⟨vi, img, e2, hri⟩ := el_bytes _ _ _ g2'
 have g3' : DataW.trod enc Tryz.prog w base (fun _ => true) held n 25 ((cs.drop 4).take (Tryz.prog.cellsOf 25)) = some _ := g3
 rw [hcs] at g3'
 obtain ⟨va, l, e3, hra, hfa⟩ := el_rows En.cells (fun e => e.Fits ∧ e.cmd.Short 9223372036854775807) Tryz.underlying25 (by kernel_rfl) (fun m cs y hm => el_ent m cs y hm) g3'
 have g4' : DataW.trod enc Tryz.prog w base (fun _ => true) held n 25 ((cs.drop 5).take (Tryz.prog.cellsOf 25)) = some _ := g4
 rw [hcs] at g4'
 obtain ⟨vc, k, e4, hrc, hfc⟩ := el_rows En.cells (fun e => e.Fits ∧ e.cmd.Short 9223372036854775807) Tryz.underlying25 (by kernel_rfl) (fun m cs y hm => el_ent m cs y hm) g4'
 rw [hce] at hl
 obtain ⟨c0, c1, c2, c3, c4, c5, rfl⟩ : ∃ c0 c1 c2 c3 c4 c5, cs = [c0, c1, c2, c3, c4, c5] := by
  match cs, hl with
  | [c0, c1, c2, c3, c4, c5], _ => exact ⟨_, _, _, _, _, _, rfl⟩
 refine ⟨⟨b, bs, img, l, k⟩, vi, va, vc, ?_, ⟨hri, hra, hrc⟩, ⟨fb, ⟨a1, b1⟩, hfa, hfc⟩⟩
 simp [Bl.cells] at e0 e1 e2 e3 e4
 simp [Hd.cells, e0, e1, e2, e3, e4]
theorem came_hard {v : Value} {d : DataW H} {p : List MemPlace} (hv : Value.okWide Tryz.prog w .any b0 27 v) (h : DataW.Trod enc Tryz.prog w base (fun _ => true) held 27 v d p) :
 ∃ (a : Hd.Hard) (vi va vc : Value), v = .agg (Hd.cells a vi va vc) ∧ HardR w a vi va vc ∧ a.Fits := by
 obtain ⟨cs, rfl, hsz⟩ := WideShapes.okWide_struct Tryz.underlying27 hv
 obtain ⟨fuel, hf⟩ := h
 obtain ⟨a, vi, va, vc, he, hrest⟩ := el_hard fuel _ _ hf
 refine ⟨a, vi, va, vc, ?_, hrest⟩
 have : cs.toList = (Hd.cells a vi va vc).toList := he
 rw [Array.toList_inj.1 this]
end
end
end Go.Proofs.YteboceekcmchkaaGreatDoor

namespace Go.Proofs.YteboceekcmchkaaGreatDoor
open Go.RowKit
theorem Hd.recs_len (h : Hd.Hard) : (Hd.recs h).length ≤ 2 + h.acc.length + h.chs.length := by
 unfold Hd.recs
 simp only [List.length_append, List.length_map]
 split <;> split <;> simp <;> omega
theorem Hd.recs_short (h : Hd.Hard) (ha : ∀ e ∈ h.acc, e.cmd.Short 140737488355328) (hc : ∀ e ∈ h.chs, e.cmd.Short 140737488355328) : ∀ x ∈ Hd.recs h, x.cmd.Short 140737488355328 := by
 have hz : Cm.zero.Short 140737488355328 := ⟨by simp [Cm.zero, Cm.bareOf], by simp [Cm.zero, Cm.bareOf], by simp [Cm.zero, Cm.bareOf]⟩
 intro x hx
 unfold Hd.recs at hx
 rcases List.mem_append.1 hx with hx | hx
 ·rcases List.mem_append.1 hx with hx | hx
  ·rcases List.mem_append.1 hx with hx | hx
   ·split at hx
    ·obtain rfl : x = Hd.recI h := by simpa using hx
     exact hz
    ·simp at hx
   ·split at hx
    ·obtain rfl : x = Hd.recP h := by simpa using hx
     exact hz
    ·simp at hx
  ·obtain ⟨e, he, rfl⟩ := List.mem_map.1 hx
   exact ha e he
 ·obtain ⟨e, he, rfl⟩ := List.mem_map.1 hx
  exact hc e he
end Go.Proofs.YteboceekcmchkaaGreatDoor

namespace Go.Proofs.YteboceekcmchkaaGreatDoor
open Go.RowKit
set_option maxHeartbeats 3200000
set_option maxRecDepth 4000
theorem Sg.has_in {f : Int} (hf : f = 1 ∨ f = 2) (l : List Re.Rec) : Sg.has f l = Sg.hasAll f l := by
 unfold Sg.has
 rw [if_neg (by omega)]
theorem Sg.recs_small {h : Hd.Hard} (hf : h.Fits) (hi : h.img.length ≤ 300) (ha : ∀ e ∈ h.acc, e.cmd.Short 200) (hc : ∀ e ∈ h.chs, e.cmd.Short 200) : ∀ x ∈ Hd.recs h, x.Fits ∧ x.cmd.Short 1000 ∧ x.img.length ≤ 300 := by
 have hz : Cm.zero.Short 1000 := ⟨by simp [Cm.zero, Cm.bareOf], by simp [Cm.zero, Cm.bareOf], by simp [Cm.zero, Cm.bareOf]⟩
 have hzf : Cm.zero.Fits := by constructor <;> simp [Cm.zero, Cm.bareOf]
 intro x hx
 unfold Hd.recs at hx
 rcases List.mem_append.1 hx with hx | hx
 ·rcases List.mem_append.1 hx with hx | hx
  ·rcases List.mem_append.1 hx with hx | hx
   ·split at hx
    ·obtain rfl : x = Hd.recI h := by simpa using hx
     refine ⟨⟨fun z hz => ?_, hzf⟩, hz, hi⟩
     have h1 := hf.base
     simp [Re.nums, Hd.recI, Bl.zero] at hz
     omega
    ·simp at hx
   ·split at hx
    ·obtain rfl : x = Hd.recP h := by simpa using hx
     refine ⟨⟨fun z hz => ?_, hzf⟩, hz, by simp [Hd.recP]⟩
     obtain ⟨h1, h2, h3, h4⟩ := hf.prom
     simp [Re.nums, Hd.recP] at hz
     omega
    ·simp at hx
  ·obtain ⟨e, he, rfl⟩ := List.mem_map.1 hx
   refine ⟨⟨fun z hz => ?_, (hf.acc e he).1.cmd⟩, Short.up (ha e he) (by omega), by simp [Hd.recA]⟩
   obtain ⟨⟨h5, h6, ⟨h1, h2, h3, h4⟩, _⟩, _⟩ := hf.acc e he
   simp [Re.nums, Hd.recA] at hz
   omega
 ·obtain ⟨e, he, rfl⟩ := List.mem_map.1 hx
  refine ⟨⟨fun z hz => ?_, (hf.chs e he).1.cmd⟩, Short.up (hc e he) (by omega), by simp [Hd.recC]⟩
  obtain ⟨⟨h5, h6, _, _⟩, _⟩ := hf.chs e he
  simp [Re.nums, Hd.recC, Bl.zero] at hz
  omega
theorem Sg.flat_few {f : Int} (y : List UInt8) : ∀ l : List Re.Rec, (∀ x ∈ l, (Rt.bytesIn f x).length ≤ 6400) → (Frm.flat (y :: l.map (Rt.bytesIn f))).length ≤ (Frm.frame y).length + 6420 * l.length := by
 intro l
 induction l using Hd.snoc_ind with
 | h0 => intro _; simp [Frm.flat]
 | h1 l x ih =>
  intro h
  have h1 := ih fun c hc => h c (by simp [hc])
  have h2 := h x (by simp)
  have h3 := Frm.frame_len (Rt.bytesIn f x)
  have h4 := enc_nine (n := (Rt.bytesIn f x).length) (by omega)
  have e : Frm.flat (y :: (l ++ [x]).map (Rt.bytesIn f)) = Frm.flat (y :: l.map (Rt.bytesIn f)) ++ Frm.frame (Rt.bytesIn f x) := by simp [Frm.flat]
  rw [e, List.length_append, List.length_append]
  simp
  omega
theorem Sg.file_few {f : Int} (hf : f = 1 ∨ f = 2) {h : Hd.Hard} {more : List Re.Rec} (hok : ∀ x ∈ Hd.recs h ++ more, Re.olderIn f x = 0 ∧ x.Fits) (hi : ∀ x ∈ Hd.recs h ++ more, x.img.length ≤ 300) (hl : (Hd.recs h).length + more.length ≤ 600) : (Sg.file f h more).length ≤ 3900000 := by
 have h1 := Sg.flat_few (f := f) (Sg.first f (Hd.recs h).length) (Hd.recs h ++ more) fun x hx => by
  have := (Sg.body_len (hok x hx).1 (hok x hx).2).2.2
  have := hi x hx
  omega
 have h2 := Frm.frame_len (Sg.first f (Hd.recs h).length)
 have h3 := enc_nine (n := f.toNat) (by omega)
 have h4 := enc_nine (n := (Hd.recs h).length) (by omega)
 have h5 : (Sg.first f (Hd.recs h).length).length = (enc f.toNat).length + (enc (Hd.recs h).length).length := by simp [Sg.first]
 have h6 := enc_nine (n := (Sg.first f (Hd.recs h).length).length) (by omega)
 rw [List.length_append] at h1
 show (Frm.flat _).length ≤ _
 unfold Sg.bodies
 omega
theorem Sg.whole_file {f : Int} (hf : f = 1 ∨ f = 2) {h : Hd.Hard} {more : List Re.Rec} (hok : ∀ x ∈ Hd.recs h ++ more, Re.olderIn f x = 0 ∧ x.Fits) (hl : (Hd.recs h).length ≤ 9223372036854775807) :
 Sg.Whole (Sg.file f h more) f ((Hd.recs h).length : Int) (Hd.recs h ++ more) (Sg.file f h more).length := by
 have h1 := (Sg.cut_read hf hok hl (Nat.le_refl (Sg.file f h more).length)).2 ((Hd.recs h).length + more.length) (by omega) (by omega)
 rw [Sg.ends_more, List.take_length, List.take_length, List.take_of_length_le (by simp)] at h1
 exact h1 (Nat.le_refl _) (by omega)
theorem Sg.ask_len : (Sg.file 1 Hd.zero []).length = 7 := by
 unfold Sg.file Sg.bodies
 rw [Sg.recs_zero]
 have h1 : Sg.first 1 0 = [1, 0] := by decide +kernel
 have h2 := Frm.frame_len [1, 0]
 have h3 : (enc ([1, 0] : List UInt8).length).length = 1 := by decide +kernel
 have e : Frm.flat [[1, 0]] = Frm.frame [1, 0] := by simp [Frm.flat]
 have h4 : ([1, 0] : List UInt8).length = 2 := rfl
 show (Frm.flat [Sg.first 1 0]).length = 7
 rw [h1, e]
 omega
theorem Sg.ask_whole : Sg.Whole (Sg.file 1 Hd.zero []) 1 0 [] 7 := by
 have := Sg.whole_file (f := 1) (h := Hd.zero) (more := []) (.inl rfl) (by rw [Sg.recs_zero]; intro x hx; simp at hx) (by rw [Sg.recs_zero]; simp)
 rw [Sg.ask_len, Sg.recs_zero] at this
 exact this
def SgWhole (w : World) (f : Int) (l : List Re.Rec) (a : Nat) (e : Ending) (w' : World) : Prop :=
 Below w.heap.size w w' ∧ ∃ vi va vc, e = .returned (.tuple #[.agg (Sg.cells f (Hd.of l) vi va vc (l.length : Int) (a : Int)), .int .i64 0]) ∧ HardR w' (Hd.of l) vi va vc
theorem readSg_whole (u : Value) (b : List UInt8) (w : World) (hT : CrcTab w) (hW : WordsIn w) (hu : Reads w u b) (hlen : b.length ≤ 4000000) {f s : Int} {l : List Re.Rec} {a : Nat} (hw : Sg.Whole b f s l a) : Calls Tryz.prog 18 #[u] w (SgWhole w f l a) := by
 refine (readSg_any u b w hT hW hu hlen).mono ?_
 rintro e w' ⟨hb, ⟨ht, _⟩ | ⟨f', s', l', a', vi, va, vc, hw', rfl, hr⟩⟩
 ·exact absurd hw (ht _ _ _ _)
 ·obtain ⟨rfl, _, rfl, rfl⟩ := hw.one hw'
  exact ⟨hb, vi, va, vc, rfl, hr⟩
theorem readSg_torn (u : Value) (b : List UInt8) (w : World) (hT : CrcTab w) (hW : WordsIn w) (hu : Reads w u b) (hlen : b.length ≤ 4000000) (ht : Sg.Torn b) : Calls Tryz.prog 18 #[u] w (Looks w (.tuple #[.agg (Sg.cells 0 Hd.zero Nil Nil Nil 0 0), .int .i64 17])) := by
 refine (readSg_any u b w hT hW hu hlen).mono ?_
 rintro e w' ⟨hb, ⟨_, rfl⟩ | ⟨f', s', l', a', vi, va, vc, hw', _⟩⟩
 ·exact ⟨rfl, hb⟩
 ·exact absurd hw' (ht _ _ _ _)
theorem Conts.new (w : World) (f : Int) {h : Hd.Hard} {vi va vc : Value} (r : HardR w h vi va vc) (n e : Int) : Conts (w.alloc (.cells (Sg.cells f h vi va vc n e) 50)) w.heap.size f h vi va vc n e := ⟨Lies.new w _ _, r.sl.1, r.sl.2.1, r.sl.2.2⟩
theorem awakeSg_any (w : World) (hT : CrcTab w) (hW : WordsIn w) : Calls Tryz.prog 8 #[] w (Truly w) := by
 have hhead := headZero_any w hT hW
 have HHEAD := Lib.hid hhead
 have HT := Lib.hid (fun W (h : Below w.heap.size w W) => hT.below h)
 have HW := Lib.hid (fun W (h : Below w.heap.size w W) => hW.below h)
 clear hhead hT hW
 go_enter Tryz.func8, Tryz.ntmps8
 go_wp2_with fail
 refine HHEAD.out.mono ?_
 rintro e w1 ⟨u, rfl, ho1, hb1⟩
 dsimp only at ho1 ⊢
 have hread := readSg_whole u _ w1 (HT.out _ hb1) (HW.out _ hb1) ho1.reads (by rw [Sg.ask_len]; omega) Sg.ask_whole
 obtain ⟨uo, uc, hsh⟩ := ho1.reads.shape
 rw [Sg.ask_len] at hsh
 subst hsh
 have HREAD := Lib.hid hread; have HB1 := Lib.hid hb1
 clear hread ho1 hb1
 go_wp2_with (first
  | (go_at_call 18
     refine HREAD.out.mono ?_
     rintro e w2 ⟨hb2, vi, va, vc, rfl, hr2⟩
     have HB2 := Lib.hid hb2; have HR2 := Lib.hid hr2
     clear hb2 hr2)
  | (refine store_cont rfl _ _ rfl rfl (Conts.mk (Lies.new w2 50 _) ⟨_, _, _, rfl⟩ ⟨_, _, _, rfl⟩ ⟨_, _, _, rfl⟩ : Conts _ _ 0 Hd.zero Nil Nil Nil 0 0) (Conts.new w2 1 HR2.out _ _) rfl ?_
     intro w3 hx3 hg3
     have HB3 : Hid (Below w2.heap.size w2 w3) := fresh_below hg3
     obtain ⟨c0, c1, c2, c3, c4, c5, c6, c7, c8⟩ := hx3.all
     clear hx3 hg3)
  | fail)
 go_ret
 exact truly_of (HB1.out.trans ((HB2.out.trans (HB3.out.mono HB2.out.size)).mono HB1.out.size))
theorem RecsP.one {w : World} {g : Nat} {x : Re.Rec} {vi : Value} (h : Lies w g 42 (Re.cells x vi)) (hi : Reads w vi x.img) : RecsP (fun k _ => k < w.heap.size) w (.slice (some ⟨g, 0, none⟩) 1 1) [x] :=
 RecsP.lit (ps := [(x, vi)]) (by simpa [flatR, rowsOf] using h) (fun q hq => by
  obtain rfl : q = (x, vi) := by simpa using hq
  exact ReadsP.of_reads hi fun b t hb => hb) (by simp)
end Go.Proofs.YteboceekcmchkaaGreatDoor

namespace Go.Proofs.YteboceekcmchkaaGreatDoor
open Go.RowKit
theorem run_first_sg (w : World) (ao : Option Addr) (n cap f : Nat) (hf : f ≤ cap) :
 (Instr.slice 24 (.slice ao n cap) none (some (.int .i64 (f : Int))) none).run Tryz.prog w = .ok (.slice ao f cap) w := by
 have he : Tryz.prog.elem 24 = 5 := by kernel_rfl
 have hi : (Tryz.prog.info? 5).isSome = true := by kernel_rfl
 obtain ⟨i, hi⟩ := Option.isSome_iff_exists.1 hi
 have hrun := run_slice_h (P := Tryz.prog) (w := w) 24 ao n cap (by rw [he]; exact Tryz.underlying24) .i64 (f : Int) (by omega) (by omega)
 rw [he] at hrun
 refine hrun.trans ?_
 rw [run_sizeOf _ hi, show Tryz.prog.cellsOf 5 = 1 by kernel_rfl]
 simp only [Result.andThen, Int.toNat_natCast]
 cases ao <;> simp [sliced, Addr.add]
end Go.Proofs.YteboceekcmchkaaGreatDoor
