/- Several texts of mine in one: EnPack MsPut. -/
import Derived.Test.YtndicjpbanmpjaaGreatDoorGPl
import Derived.Test.YtndicjpbanmpjaaGreatDoorEnChk
import Derived.Test.YtndicjpbanmpjaaGreatDoorGCw
import Derived.Test.YtndicjpbanmpjaaGreatDoorGMc
import Derived.BigRegion
namespace Go.Proofs.YtndicjpbanmpjaaGreatDoor
open Go.RowKit

set_option maxRecDepth 4000 in
set_option maxHeartbeats 1600000 in
theorem cput_at (v : Int) (c : Cm.Cmd) (w : World) (B o : Nat) (u : Value) (pre : List UInt8) (hm : Vs.may v = true) (hw : Wrt w B o u pre) (hpre : pre.length ≤ 35184372088832) (hB : B ≤ w.heap.size) (hf : c.Fits) (hs : c.Short 1000) :
    Calls Tryz.prog 76 #[.pointer (some ⟨o, 0, none⟩), .int .i64 v, .agg (Cm.cells c)] w (PutGot w B o (pre ++ Cm.bytes v c)) := by
  have ho := hw.lies.lt
  have hs2 : c.Short 1048576 := ⟨by have := hs.1; omega, by have := hs.2.1; omega, by have := hs.2.2; omega⟩
  obtain ⟨w1, e1, hl1, hB1, hz1⟩ := box_cmd w c
  have hk : w1.cell? ⟨w.heap.size, 0, none⟩ = some (.int .i64 c.kind) := hl1.cell 0 _ rfl
  have HL1 := Lib.hid hl1; have HB1 := Lib.hid hB1; have HZ1 := Lib.hid hz1
  have HW1 := Lib.hid (hw.grown hB1)
  clear hl1 hB1 hz1 hw
  go_enter Tryz.func76, Tryz.ntmps76
  go_wp2_with fail
  refine (may_any v _).mono ?_
  rintro e w2 ⟨rfl, rfl⟩
  rw [hm]
  go_wp2_with fail
  refine (wnum_any c.kind _ B o u pre HW1.out (Nat.le_trans hB HB1.out.size) (by omega) hf.k0 hf.k1).mono ?_
  rintro e w2 ⟨rfl, u2, hw2, hg2⟩
  have hp2 := Spares.of_grew HW1.out hg2
  have hb2 := HW1.out.below hg2 (Nat.le_trans hB HB1.out.size)
  have hl2 : Cmds w2 w.heap.size c := hp2 _ _ _ (by omega) (by decide) HL1.out
  have hk2 : w2.cell? ⟨w.heap.size, 0, none⟩ = some (.int .i64 c.kind) := hl2.cell 0 _ rfl
  obtain ⟨K0, hK0⟩ : ∃ K0, K0 = pre ++ enc c.kind.toNat := ⟨_, rfl⟩
  rw [← hK0] at hw2
  have HK0 := Lib.hid hK0
  have HB2 := Lib.hid ((HB1.out.mono hB).trans hb2)
  have HP2 := Lib.hid ((Spares.of_below (o := o) HB1.out).trans hp2)
  have HW2 := Lib.hid hw2
  have HL2 := Lib.hid hl2
  have hz2 : w.heap.size + 1 ≤ w2.heap.size := by have := hb2.size; have := HZ1.out; omega
  clear hp2 hb2 hl2 hw2 hg2 hK0
  go_wp2_with fail
  refine (encoded_any v w.heap.size c.kind _ hk2).mono ?_
  rintro e w3 ⟨r, rfl, hr, hB3⟩
  obtain ⟨ao, rfl⟩ := hr.shape
  have hn := Cm.encoded_len v c.kind
  have HBY : Hid (pre ++ Cm.bytes v c = K0 ++ (Cm.encoded v c.kind).flatMap (Cm.fenc c)) := by show _ = _; rw [HK0.out]; simp [Cm.bytes]
  obtain ⟨fs, hfs⟩ : ∃ fs, fs = Cm.encoded v c.kind := ⟨_, rfl⟩
  rw [← hfs] at hr hn ⊢
  have HFS := Lib.hid hfs
  have HR := Lib.hid hr
  have HL3 := Lib.hid (HL2.out.below hB3 HL2.out.lt)
  have HW3 := Lib.hid (HW2.out.grown hB3)
  have HB3 := Lib.hid (HB2.out.trans (hB3.mono (Nat.le_trans hB HB2.out.size)))
  have HP3 := Lib.hid (HP2.out.trans (Spares.of_below (o := o) hB3))
  have H9 : Hid (K0.length ≤ 35184372088841) := by show _ ≤ _; rw [HK0.out, List.length_append]; have := enc_nine (n := c.kind.toNat) (by have := hf.k1; omega); omega
  have HFL := Lib.hid (Cm.flat_len c hf hs)
  clear hr hfs hB3 hk hk2
  go_wp2
  go_loopw [7, 18] (fun _ i wr => ∃ (k : Nat) (u' : Value), i = .int .i64 (k : Int) ∧ k ≤ fs.length ∧ Hid (Below B w wr) ∧ Hid (Wrt wr B o u' (K0 ++ (fs.take k).flatMap (Cm.fenc c))) ∧ Hid (Cmds wr w.heap.size c) ∧ Hid (FRow wr w2.heap.size (.slice ao fs.length fs.length) w.heap.size fs) ∧ Hid (Spares o w wr)) (fun _ i _ => fs.length - (intOf i).toNat)
  case atStart =>
    refine ⟨0, u2, rfl, by omega, HB3, ?_, HL3, HR, HP3⟩
    show Wrt _ _ _ _ _
    rw [List.take_zero, List.flatMap_nil, List.append_nil]
    exact HW3.out
  case round =>
    obtain ⟨k, u', rfl, hk, HB, HW, HL, HF, HP⟩ := hrel
    by_cases hlt : k < fs.length
    · have hlt' : (k : Int) < (fs.length : Int) := by omega
      obtain ⟨f, hff⟩ : ∃ f, fs[k]? = some f := ⟨_, List.getElem?_eq_getElem hlt⟩
      obtain ⟨g, rfl, hcell⟩ := HF.out.cell hff
      have HFK := Lib.hid hff
      have hlen : (K0 ++ (fs.take k).flatMap (Cm.fenc c)).length ≤ 70368744177664 := by
        have := HFL.out (fs.take k)
        have := H9.out
        rw [List.length_append]
        rw [List.length_take] at *
        omega
      clear hff
      go_wp2_with fail
      refine (fput_any w.heap.size c f _ B o u' _ HW.out (Nat.le_trans hB HB.out.size) hlen HL.out hf hs2).mono ?_
      rintro e w4 ⟨rfl, u4, hw4, hp4, hb4⟩
      have HL4 := Lib.hid (hp4 _ _ _ (by omega) (by decide) HL.out)
      have HF4 := Lib.hid (HF.out.spares hp4 (by omega))
      have HP4 := Lib.hid (HP.out.trans hp4)
      have HB4 := Lib.hid (HB.out.trans hb4)
      have HW4 := Lib.hid hw4
      clear hw4 hp4 hb4 hlen
      go_wp2
      go_roundw
      case rel =>
        refine ⟨k + 1, u4, by go_num, by omega, HB4, ?_, HL4, HF4, HP4⟩
        show Wrt _ _ _ _ _
        have := HW4.out
        rw [List.take_add_one, HFK.out, List.flatMap_append, Option.toList_some, List.flatMap_singleton, ← List.append_assoc]
        exact this
      case measure => simp [intOf]; omega
    · have hlt' : ¬ (k : Int) < (fs.length : Int) := by omega
      have hw5 := HW.out
      rw [List.take_of_length_le (by omega), HFS.out, ← HBY.out] at hw5
      have HW5 := Lib.hid hw5
      clear hw5
      go_wp2
      go_end0
      exact ⟨rfl, u', HW5.out, HP.out, HB.out⟩


set_option maxRecDepth 4000 in
set_option maxHeartbeats 800000 in
/-- Raw, where what is put reads so in every world that keeps what is below the writer. -/
theorem wraw_out (u : Value) (s : List UInt8) (w : World) (B o : Nat) (v : Value) (l : List UInt8) (hw : Wrt w B o v l) (hB : B ≤ w.heap.size) (hlen : l.length ≤ 70368744177664) (hs : s.length ≤ 1048576) (hu : ∀ W, Below B w W → Reads W u s) :
    Calls Tryz.prog 55 #[.pointer (some ⟨o, 0, none⟩), u] w fun e w' => e = .returned (.tuple #[]) ∧ ∃ v', Wrt w' B o v' (l ++ Pk.text s) ∧ Below B w w' := by
  have h9 := enc_nine (n := s.length) (by omega)
  obtain ⟨uo, uc, rfl⟩ := (hu w (Below.refl _ _)).shape
  have HU := Lib.hid hu
  clear hu
  go_enter Tryz.func55, Tryz.ntmps55
  go_wp2_with fail
  refine (wnum_any (s.length : Int) _ B o v l hw hB (by omega) (by omega) (by omega)).mono ?_
  rintro e1 w1 ⟨rfl, v1, hw1, hg1⟩
  rw [Int.toNat_natCast] at hw1
  have hB1 := hw.below hg1 hB
  have hu1 := HU.out _ hB1
  have hc1 := hw1.lies.cell 0 v1 rfl
  go_wp2_with (at_builtin; refine append_bytes rfl _ _ 25 5 rfl Tryz.underlying25 info_u8 B (l ++ enc s.length) s v1 _ rfl rfl hw1.owns hu1 (by simp; omega) w1 (Below.refl _ _) (by have := hB1.size; omega) ?_; intro v2 w2 ho2 hb2 hg2; obtain ⟨ao2, cap2, rfl⟩ := ho2.reads.shape; have hl2 := hw1.lies.kept hg2 (hw1.lies.not_row (by decide) hw1.owns); have hc2 := hl2.cell 0 v1 rfl; have hf2 := hl2.free 0)
  have hp := hw1.put (by decide) ho2 hg2
  have hq := hB1.trans (hw1.below hp.2 (by have := hB1.size; omega))
  go_end0
  simp only [List.length_append, Nat.add_assoc] at hp hq
  exact ⟨rfl, _, by unfold Pk.text; rw [← List.append_assoc]; exact hp.1, hq⟩

theorem En.ebytes_len (v : Int) (e : En.Ent) (hf : e.Fits) (hs : e.cmd.Short 1000) : (En.ebytes v e).length ≤ 6027 := by
  have h1 := enc_nine (n := e.index.toNat) (by have := hf.i1; omega)
  have h2 := enc_nine (n := e.bal.round.toNat) (by have := hf.bal.r1; omega)
  have h3 := enc_nine (n := e.bal.node.toNat) (by have := hf.bal.n1; omega)
  have h4 := Cm.bytes_len v e.cmd hf.cmd hs
  unfold En.ebytes
  simp only [List.length_append]
  omega
theorem En.flat_len (v : Int) : ∀ (l : List En.Ent), (∀ e ∈ l, e.Fits ∧ e.cmd.Short 1000) → (l.flatMap (En.ebytes v)).length ≤ 6027 * l.length
  | [], _ => by simp
  | e :: r, h => by
    have h1 := En.ebytes_len v e (h e (by simp)).1 (h e (by simp)).2
    have h2 := En.flat_len v r fun x hx => h x (by simp [hx])
    rw [List.flatMap_cons, List.length_append, List.length_cons]
    omega

/-- What a Put leaves, where no more than the writer is asked for. -/
def Put (w : World) (B o : Nat) (m : List UInt8) (e : Ending) (w' : World) : Prop := e = .returned (.tuple #[]) ∧ ∃ v', Wrt w' B o v' m ∧ Below B w w'

set_option maxRecDepth 4000 in
set_option maxHeartbeats 3200000 in
theorem entPut_any (v : Int) (u : Value) (l : List En.Ent) (w : World) (B o : Nat) (u0 : Value) (pre : List UInt8) (hm : Vs.may v = true) (hw : Wrt w B o u0 pre) (hB : B ≤ w.heap.size) (hu : ∀ W, Below B w W → ReadsE W u l)
    (hf : ∀ e ∈ l, e.Fits ∧ e.cmd.Short 1000) (hn : l.length ≤ 1000000) (hpre : pre.length ≤ 1000000000) :
    Calls Tryz.prog 54 #[.pointer (some ⟨o, 0, none⟩), .int .i64 v, u] w (Put w B o (pre ++ En.bytes v l)) := by
  obtain ⟨ao, cap, rfl, hc1, hc2⟩ := ReadsE.shape (hu w (Below.refl _ _))
  have HU := Lib.hid hu; have HF := Lib.hid hf; have HB0 := Lib.hid hB
  have HLEN : Hid (∀ k, (pre ++ enc l.length ++ (l.take k).flatMap (En.ebytes v)).length ≤ 8000000000) := by
    intro k
    have h1 := En.flat_len v (l.take k) fun e he => hf e (List.mem_of_mem_take he)
    have h2 := enc_nine (n := l.length) (by omega)
    rw [List.length_take] at h1
    simp only [List.length_append]
    omega
  have HPRE := Lib.hid hpre
  obtain ⟨n, hnn⟩ : ∃ n, n = l.length := ⟨_, rfl⟩
  rw [← hnn] at hc1 hn HLEN ⊢
  have HN := Lib.hid hnn
  have HALL : Hid (pre ++ En.bytes v l = pre ++ enc n ++ l.flatMap (En.ebytes v)) := by show _ = _; unfold En.bytes; rw [hnn]; simp
  clear hu hf hnn hpre
  go_enter Tryz.func54, Tryz.ntmps54
  go_wp2_with fail
  refine (may_any v _).mono ?_
  rintro e1 w1 ⟨rfl, rfl⟩
  rw [hm]
  go_wp2_with fail
  refine (wnum_any (n : Int) _ B o u0 pre hw hB (by have := HPRE.out; omega) (by omega) (by omega)).mono ?_
  rintro e1 w1 ⟨rfl, u1, hw1, hg1⟩
  rw [Int.toNat_natCast] at hw1
  have HB1 := Lib.hid (hw.below hg1 hB)
  have HW1 := Lib.hid hw1
  have HM := Lib.hid hm
  clear hw1 hg1 hw hB hm
  go_wp2
  go_loopw [17] (fun i wr => ∃ (k : Nat) (u' : Value), i = .int .i64 (k : Int) ∧ k ≤ n ∧ Hid (Below B w wr) ∧ Hid (Wrt wr B o u' (pre ++ enc n ++ (l.take k).flatMap (En.ebytes v)))) (fun i _ => n - (intOf i).toNat)
  case atStart => exact ⟨0, u1, rfl, by omega, HB1, by show Wrt _ _ _ _ _; simpa using HW1.out⟩
  case round =>
    obtain ⟨k, u', rfl, hk, HB, HW⟩ := hrel
    by_cases hlt : k < n
    · obtain ⟨e, he⟩ : ∃ e, l[k]? = some e := ⟨_, List.getElem?_eq_getElem (by have := HN.out; omega)⟩
      obtain ⟨g, off, rfl, hgl, hcell⟩ := ReadsE.places (HU.out wr HB.out) (by have := HN.out; omega)
      have HC := Lib.hid (hcell wr (Below.refl _ _) k e he)
      have HFE := Lib.hid (HF.out e (List.mem_of_getElem? he))
      have HL := Lib.hid (HLEN.out k)
      have HST : Hid ((l.take (k + 1)).flatMap (En.ebytes v) = (l.take k).flatMap (En.ebytes v) ++ En.ebytes v e) := by show _ = _; rw [List.take_add_one, he]; simp
      obtain ⟨K0, hK0⟩ : ∃ K0, K0 = pre ++ enc n ++ (l.take k).flatMap (En.ebytes v) := ⟨_, rfl⟩
      have HK0 := Lib.hid hK0
      rw [← hK0] at HW HL
      clear hcell he hK0
      go_wp2_with (first
        | (refine load_ent rfl _ rfl g (off + k * 10) e rfl HC.out ?_)
        | (refine store_ent (by rfl) _ _ (by rfl) wr.heap.size En.zero e (by rfl) (by rfl) (Lies.new _ _ _) ?_; intro w3 hl3 hg3
           have hb := fresh_below hg3
           have HB3 := Lib.hid (HB.out.trans (hb.mono (Nat.le_trans HB0.out HB.out.size))); have HW3 := Lib.hid (HW.out.grown hb); have HL3 := Lib.hid hl3
           clear hl3 hg3 hb
           obtain ⟨c0, c1, c2, c3, c4, c5, c6, c7, c8, c9⟩ := Ents.ten HL3.out)
        | fail)
      have hoe : wr.heap.size ≠ o := by have := HW.out.lies.lt; omega
      refine (wnum_any e.index _ B o u' K0 HW3.out (Nat.le_trans HB0.out HB3.out.size) (by have := HL.out; omega) HFE.out.1.i0 HFE.out.1.i1).mono ?_
      rintro e4 w4 ⟨rfl, u4, hw4, hg4⟩
      have HB4 := Lib.hid (HB3.out.trans (HW3.out.below hg4 (Nat.le_trans HB0.out HB3.out.size)))
      have HL4 := Lib.hid (Spares.of_grew HW3.out hg4 _ _ _ hoe (by decide) HL3.out); have HW4 := Lib.hid hw4
      clear hw4 hg4 c0 c1 c2 c3 c4 c5 c6 c7 c8 c9
      have hn1 := enc_nine (n := e.index.toNat) (by have := HFE.out.1.i1; omega)
      obtain ⟨c0, c1, c2, c3, c4, c5, c6, c7, c8, c9⟩ := Ents.ten HL4.out
      go_wp2_with fail
      refine (wnum_any e.bal.round _ B o u4 _ HW4.out (Nat.le_trans HB0.out HB4.out.size) (by have := HL.out; rw [List.length_append]; omega) HFE.out.1.bal.r0 HFE.out.1.bal.r1).mono ?_
      rintro e5 w5 ⟨rfl, u5, hw5, hg5⟩
      have HB5 := Lib.hid (HB4.out.trans (HW4.out.below hg5 (Nat.le_trans HB0.out HB4.out.size)))
      have HL5 := Lib.hid (Spares.of_grew HW4.out hg5 _ _ _ hoe (by decide) HL4.out); have HW5 := Lib.hid hw5
      clear hw5 hg5 c0 c1 c2 c3 c4 c5 c6 c7 c8 c9
      have hn2 := enc_nine (n := e.bal.round.toNat) (by have := HFE.out.1.bal.r1; omega)
      obtain ⟨c0, c1, c2, c3, c4, c5, c6, c7, c8, c9⟩ := Ents.ten HL5.out
      go_wp2_with fail
      refine (wnum_any e.bal.node _ B o u5 _ HW5.out (Nat.le_trans HB0.out HB5.out.size) (by have := HL.out; rw [List.length_append, List.length_append]; omega) HFE.out.1.bal.n0 HFE.out.1.bal.n1).mono ?_
      rintro e6 w6 ⟨rfl, u6, hw6, hg6⟩
      have HB6 := Lib.hid (HB5.out.trans (HW5.out.below hg6 (Nat.le_trans HB0.out HB5.out.size)))
      have HL6 := Lib.hid (Spares.of_grew HW5.out hg6 _ _ _ hoe (by decide) HL5.out); have HW6 := Lib.hid hw6
      clear hw6 hg6 c0 c1 c2 c3 c4 c5 c6 c7 c8 c9
      have hn3 := enc_nine (n := e.bal.node.toNat) (by have := HFE.out.1.bal.n1; omega)
      obtain ⟨c0, c1, c2, c3, c4, c5, c6, c7, c8, c9⟩ := Ents.ten HL6.out
      go_wp2_with fail
      refine (cput_at v e.cmd _ B o u6 _ HM.out HW6.out (by have := HL.out; rw [List.length_append, List.length_append, List.length_append]; omega) (Nat.le_trans HB0.out HB6.out.size) HFE.out.1.cmd HFE.out.2).mono ?_
      rintro e7 w7 ⟨rfl, u7, hw7, _, hb7⟩
      have HB7 := Lib.hid (HB6.out.trans hb7)
      have HW7 : Hid (Wrt w7 B o u7 (pre ++ enc n ++ (l.take (k + 1)).flatMap (En.ebytes v))) := by
        show Wrt _ _ _ _ _
        rw [HST.out, ← List.append_assoc, ← HK0.out]
        have h := hw7
        unfold En.ebytes
        simpa using h
      clear hw7 hb7 c0 c1 c2 c3 c4 c5 c6 c7 c8 c9
      go_wp2
      go_roundw
      case rel => exact ⟨k + 1, u7, by go_num, by omega, HB7, HW7⟩
      case measure => simp [intOf]; omega
    · have hw9 := HW.out
      rw [List.take_of_length_le (by have := HN.out; omega), ← HALL.out] at hw9
      have HW9 := Lib.hid hw9
      clear hw9
      go_wp2
      go_end0
      exact ⟨rfl, u', HW9.out, HB.out⟩

end Go.Proofs.YtndicjpbanmpjaaGreatDoor


namespace Go.Proofs.YtndicjpbanmpjaaGreatDoor
open Go.RowKit

/-- Where the seven numbers of a message are that lies in block g. -/
abbrev Ptrs (w : World) (h g : Nat) : Prop := Lies w h 83 #[.pointer (some ⟨g, 0, none⟩), .pointer (some ⟨g, 1, none⟩), .pointer (some ⟨g, 2, none⟩), .pointer (some ⟨g, 3, none⟩), .pointer (some ⟨g, 4, none⟩), .pointer (some ⟨g, 5, none⟩), .pointer (some ⟨g, 6, none⟩)]
theorem Ptrs.at {w : World} {h g : Nat} (hp : Ptrs w h g) (k : Nat) (hk : k < 7) : w.cell? ⟨h, k, none⟩ = some (.pointer (some ⟨g, k, none⟩)) := by
  have : k = 0 ∨ k = 1 ∨ k = 2 ∨ k = 3 ∨ k = 4 ∨ k = 5 ∨ k = 6 := by omega
  rcases this with rfl | rfl | rfl | rfl | rfl | rfl | rfl <;> exact hp.cell _ _ rfl
theorem Msgs.num {w : World} {g : Nat} {m : Ms.Msg} {ve vi : Value} (h : Msgs w g m ve vi) (k : Nat) (hk : k < 7) : w.cell? ⟨g, k, none⟩ = some (.int .i64 (Ms.nth (Ms.nums m) k)) := by
  have : k = 0 ∨ k = 1 ∨ k = 2 ∨ k = 3 ∨ k = 4 ∨ k = 5 ∨ k = 6 := by omega
  rcases this with rfl | rfl | rfl | rfl | rfl | rfl | rfl <;> exact h.cell _ _ rfl

set_option maxRecDepth 4000 in
set_option maxHeartbeats 3200000 in
theorem numbersM_any (g : Nat) (w : World) : Calls Tryz.prog 52 #[.pointer (some ⟨g, 0, none⟩)] w
    fun e w' => e = .returned (.slice (some ⟨w.heap.size, 0, none⟩) 7 7) ∧ Ptrs w' w.heap.size g ∧ Below w.heap.size w w' := by
  obtain ⟨w1, e1, hl1, hB1⟩ : ∃ w1, w.alloc (.cells #[.pointer (some ⟨g, 0, none⟩), .pointer (some ⟨g, 1, none⟩), .pointer (some ⟨g, 2, none⟩), .pointer (some ⟨g, 3, none⟩), .pointer (some ⟨g, 4, none⟩), .pointer (some ⟨g, 5, none⟩), .pointer (some ⟨g, 6, none⟩)] 83) = w1 ∧ Ptrs w1 w.heap.size g ∧ Below w.heap.size w w1 :=
    ⟨_, rfl, Lies.new _ _ _, (Below.refl _ w).alloc (Nat.le_refl _) _⟩
  have HL := Lib.hid hl1; have HB := Lib.hid hB1
  clear hl1 hB1
  go_enter Tryz.func52, Tryz.ntmps52
  go_wp2
  go_region
  all_goals
    go_wp2
    go_ret
    exact ⟨rfl, HL.out.below (drawn _ _) HL.out.lt, on HB.out (drawn _ _)⟩

/-- What an encoding gives. -/
def MEncd (w : World) (m : Ms.Msg) (e : Ending) (w' : World) : Prop :=
  Below w.heap.size w w' ∧ ∃ u, e = .returned (.tuple #[u, .int .i64 (Ms.older m)]) ∧ Reads w' u (if Ms.older m = 0 then Ms.bytes m else [])

theorem Ms.nums_at (m : Ms.Msg) (k : Nat) (hk : k < 7) : Ms.nbytes ((Ms.nums m).take (k + 1)) = Ms.nbytes ((Ms.nums m).take k) ++ enc (Ms.nth (Ms.nums m) k).toNat := by
  have h : (Ms.nums m)[k]? = some (Ms.nth (Ms.nums m) k) := by
    unfold Ms.nth
    rw [List.getD_eq_getElem?_getD, List.getElem?_eq_getElem (show k < (Ms.nums m).length from hk)]
    rfl
  rw [List.take_add_one, h, Ms.nbytes_app]
  show _ ++ Ms.nbytes [_] = _
  rw [Ms.nbytes_one]

set_option maxRecDepth 4000 in
set_option maxHeartbeats 3200000 in
theorem encodeM_any (m : Ms.Msg) (ve vi : Value) (w : World) (hF : FieldsIn w) (hW : WordsIn w) (he : ReadsE w ve m.ents) (hi : Reads w vi m.img) (hf : m.Fits) (hs : ∀ e ∈ m.ents, e.cmd.Short 1000) (hn : m.ents.length ≤ 1000) (hk : m.img.length ≤ 100000) :
    Calls Tryz.prog 30 #[.agg (Ms.cells m ve vi)] w (MEncd w m) := by
  obtain ⟨w1, e1, hl1, hB1, hz1⟩ := box_msg w m ve vi
  obtain ⟨p0, p1, p2, p3, p4, p5, p6, p7, p8, p9⟩ := Msgs.ten hl1
  have HM1 := Lib.hid hl1; have HB1 := Lib.hid hB1; have HS := Lib.hid hz1
  have HE1 := Lib.hid (he.below hB1); have HI1 := Lib.hid (hi.below hB1)
  have HC1 := Lib.hid (olderM_any m ve vi w1 (hF.below hB1) (hW.below hB1) HE1.out HI1.out fun e h => ⟨Nat.le_trans (hs e h).1 (by omega), Nat.le_trans (hs e h).2.1 (by omega), Nat.le_trans (hs e h).2.2 (by omega)⟩)
  have HENT : Hid (∀ e ∈ m.ents, e.Fits ∧ e.cmd.Short 1000) := fun e h => ⟨hf.e e h, hs e h⟩
  have HNUM : Hid (∀ k, k < 7 → -9223372036854775808 ≤ Ms.nth (Ms.nums m) k ∧ Ms.nth (Ms.nums m) k ≤ 9223372036854775807) := fun k hk => hf.n _ (Ms.nth_in hk)
  have HNB : Hid (∀ k, (Ms.nbytes ((Ms.nums m).take k)).length ≤ 63) := by
    intro k
    have := Ms.nbytes_len ((Ms.nums m).take k) fun x hx => (hf.n x (List.mem_of_mem_take hx)).2
    rw [List.length_take] at this
    have h7 : (Ms.nums m).length = 7 := rfl
    omega
  have HNN := Lib.hid hn; have HKK := Lib.hid hk
  unfold MEncd
  obtain ⟨c, hc⟩ : ∃ c, c = Ms.older m := ⟨_, rfl⟩
  rw [← hc] at HC1 ⊢
  clear hl1 hB1 hz1 hF hW he hi hs hf hn hk hc
  go_enter Tryz.func30, Tryz.ntmps30
  go_wp2_with fail
  refine HC1.out.mono ?_
  rintro e2 w2 ⟨rfl, hb⟩
  have HM2 := Lib.hid (HM1.out.below hb HM1.out.lt); have HB2 := Lib.hid hb
  have HX2 := Lib.hid (HB1.out.trans (hb.mono HB1.out.size))
  clear hb p0 p1 p2 p3 p4 p5 p6 p7 p8 p9
  by_cases h0 : c = 0
  · subst h0
    have hs1 := HS.out
    obtain ⟨w3, e3, hw3, hB3⟩ : ∃ w3, w2.alloc (.cells #[.slice none 0 0] 79) = w3 ∧ Wrt w3 w1.heap.size w2.heap.size (.slice none 0 0) [] ∧ Below w2.heap.size w2 w3 :=
      ⟨_, rfl, Wr.fresh _ _ _ _ HB2.out.size, (Below.refl _ _).alloc (Nat.le_refl _) _⟩
    have HM3 := Lib.hid (HM2.out.below hB3 HM2.out.lt); have HB3 := Lib.hid (HB2.out.trans (hB3.mono HB2.out.size)); have HW3 := Lib.hid hw3
    have HZ3 : Hid (w.heap.size < w2.heap.size ∧ w2.heap.size < w3.heap.size) := ⟨by have := HB2.out.size; omega, hw3.lies.lt⟩
    clear hw3 hB3 hs1
    go_wp2_with fail
    refine (numbersM_any w.heap.size _).mono ?_
    rintro e4 w4 ⟨rfl, hp4, hb⟩
    have HM4 := Lib.hid (HM3.out.below hb HM3.out.lt); have HB4 := Lib.hid (HB3.out.trans (hb.mono HB3.out.size)); have HW4 := Lib.hid (HW3.out.grown hb); have HP4 := Lib.hid hp4
    clear hp4 hb
    go_wp2
    go_loopw [15] (fun i wr => ∃ (k : Nat) (u : Value), i = .int .i64 (k : Int) ∧ k ≤ 7 ∧ Hid (Below w1.heap.size w1 wr) ∧ Hid (Wrt wr w1.heap.size w2.heap.size u (Ms.nbytes ((Ms.nums m).take k))) ∧ Hid (Msgs wr w.heap.size m ve vi) ∧ Hid (Ptrs wr w3.heap.size w.heap.size)) (fun i _ => 7 - (intOf i).toNat)
    case atStart => exact ⟨0, .slice none 0 0, rfl, by omega, HB4, HW4, HM4, HP4⟩
    case round =>
      obtain ⟨k, u, rfl, hk, HB, HW, HM, HP⟩ := hrel
      by_cases hlt : k < 7
      · have hp := HP.out.at k hlt
        have hq := HM.out.num k hlt
        have HX := Lib.hid (HNUM.out k hlt)
        have HST := Lib.hid (Ms.nums_at m k hlt)
        have HLE := Lib.hid (HNB.out k)
        obtain ⟨x, hx⟩ : ∃ x, x = Ms.nth (Ms.nums m) k := ⟨_, rfl⟩
        rw [← hx] at hq HX HST
        clear hx
        go_wp2_with fail
        refine (wnum_any x _ w1.heap.size w2.heap.size u _ HW.out (Nat.le_trans (Nat.le_refl _) HB.out.size) (by have := HLE.out; omega) HX.out.1 HX.out.2).mono ?_
        rintro e5 w5 ⟨rfl, u5, hw5, hg5⟩
        have HB5 := Lib.hid (HB.out.trans (HW.out.below hg5 HB.out.size))
        have hsp := Spares.of_grew HW.out hg5
        have HM5 := Lib.hid (hsp _ _ _ (by have := HZ3.out; omega) (by decide) HM.out)
        have HP5 := Lib.hid (hsp _ _ _ (by have := HZ3.out; omega) (by decide) HP.out)
        rw [← HST.out] at hw5
        have HW5 := Lib.hid hw5
        clear hsp hw5 hg5 hp hq
        go_wp2
        go_roundw
        case rel => exact ⟨k + 1, u5, by go_num, by omega, HB5, HW5, HM5, HP5⟩
        case measure => simp [intOf]; omega
      · obtain rfl : k = 7 := by omega
        have hw5 := HW.out
        rw [show (Ms.nums m).take 7 = Ms.nums m from rfl] at hw5
        have HW5 := Lib.hid hw5
        have HLE := Lib.hid (HNB.out 7)
        rw [show (Ms.nums m).take 7 = Ms.nums m from rfl] at HLE
        have p8 := Msgs.c8 HM.out
        clear hw5
        go_wp2_with fail
        refine (entPut_any 1 ve m.ents _ w1.heap.size w2.heap.size u _ rfl HW5.out HB.out.size (fun W h => HE1.out.below (HB.out.trans h)) HENT.out (by have := HNN.out; omega) (by have := HLE.out; omega)).mono ?_
        rintro e6 w6 ⟨rfl, u6, hw6, hb⟩
        have HB6 := Lib.hid (HB.out.trans hb); have HW6 := Lib.hid hw6
        have HM6 := Lib.hid (HM.out.below hb (by have := HS.out; omega))
        have HL6 : Hid ((Ms.nbytes (Ms.nums m) ++ En.bytes 1 m.ents).length ≤ 7000000) := by
          show _ ≤ _
          have h1 := En.flat_len 1 m.ents HENT.out
          have h2 := enc_nine (n := m.ents.length) (by have := HNN.out; omega)
          have h3 := HLE.out
          have h4 := HNN.out
          unfold En.bytes
          rw [List.length_append, List.length_append]
          omega
        clear hw6 hb p8
        have p9 := Msgs.c9 HM6.out
        go_wp2_with fail
        refine (wraw_out vi m.img _ w1.heap.size w2.heap.size u6 _ HW6.out HB6.out.size (by have := HL6.out; omega) (by have := HKK.out; omega) (fun W h => HI1.out.below (HB6.out.trans h))).mono ?_
        rintro e7 w7 ⟨rfl, u7, hw7, hb⟩
        have HB7 := Lib.hid (HB6.out.trans hb)
        have HW7 : Hid (Wrt w7 w1.heap.size w2.heap.size u7 (Ms.bytes m)) := by
          show Wrt _ _ _ _ _
          unfold Ms.bytes
          rw [← List.append_assoc]
          exact hw7
        have HL7 : Hid ((Ms.bytes m).length ≤ 8000000) := by
          show _ ≤ _
          unfold Ms.bytes
          have h1 := HL6.out
          have h2 := HKK.out
          have h3 := enc_nine (n := m.img.length) (by omega)
          have h4 : (Pk.text m.img).length = (enc m.img.length).length + m.img.length := by unfold Pk.text; rw [List.length_append]
          rw [← List.append_assoc, List.length_append, h4]
          omega
        clear hw7 hb p9
        go_wp2_with fail
        refine (wbytes_any _ w1.heap.size w2.heap.size u7 _ HW7.out (by have := HL7.out; omega)).mono ?_
        rintro e8 w8 ⟨u8, rfl, ho8, hb8⟩
        have HB8 := Lib.hid (HB1.out.trans ((HB7.out.trans (hb8.mono HB7.out.size)).mono HB1.out.size))
        go_wp2
        go_ret2
        exact ⟨HB8.out, u8, rfl, ho8.reads⟩
  · have hne : (c != 0) = true := by simpa using h0
    go_wp2
    go_ret2
    exact ⟨HX2.out, _, rfl, Reads.empty _⟩

end Go.Proofs.YtndicjpbanmpjaaGreatDoor
