/- Several texts of mine in one: EnPack MsPut. -/
import Derived.Test.YtaeojpcffahgmaaGreatDoorGPl
import Derived.Test.YtaeojpcffahgmaaGreatDoorEnChk
import Derived.Test.YtaeojpcffahgmaaGreatDoorGCw
import Derived.Test.YtaeojpcffahgmaaGreatDoorGMc
import Derived.BigRegion
namespace Go.Proofs.YtaeojpcffahgmaaGreatDoor
open Go.RowKit

set_option maxRecDepth 4000 in
set_option maxHeartbeats 1600000 in
theorem cput_at (v : Int) (c : Cm.Cmd) (w : World) (B o : Nat) (u : Value) (pre : List UInt8) (hm : Vs.may v = true) (hw : Wrt w B o u pre) (hpre : pre.length ≤ 35184372088832) (hB : B ≤ w.heap.size) (hf : c.Fits) (hs : c.Short 1000) :
    Calls Tryz.prog 37 #[.pointer (some ⟨o, 0, none⟩), .int .i64 v, .agg (Cm.cells c)] w (PutGot w B o (pre ++ Cm.bytes v c)) := by
  have ho := hw.lies.lt
  have hs2 : c.Short 1048576 := ⟨by have := hs.1; omega, by have := hs.2.1; omega, by have := hs.2.2; omega⟩
  obtain ⟨w1, e1, hl1, hB1, hz1⟩ := box_cmd w c
  have hk : w1.cell? ⟨w.heap.size, 0, none⟩ = some (.int .i64 c.kind) := hl1.cell 0 _ rfl
  have HL1 := Lib.hid hl1; have HB1 := Lib.hid hB1; have HZ1 := Lib.hid hz1
  have HW1 := Lib.hid (hw.grown hB1)
  clear hl1 hB1 hz1 hw
  go_enter Tryz.func37, Tryz.ntmps37
  go_wp2_with fail
  refine (may_any v _).mono ?_
  rintro e w2 ⟨rfl, rfl⟩
  rw [hm]
  go_wp2_with fail
  refine (wnum_any c.kind _ B o u pre HW1.out (Nat.le_trans hB HB1.out.size) (by omega) hf.k0 hf.k1).mono ?_
  rintro e w2 ⟨rfl, u2, hw2, hg2⟩
  have hp2 := Spares.of_grew HW1.out hg2
  have hb2 := HW1.out.below hg2 (Nat.le_trans hB HB1.out.size)
  have hl2 : Cmds w2 w.heap.size c := hp2 _ _ _ (by omega) (by decide) HL1.out
  have hk2 : w2.cell? ⟨w.heap.size, 0, none⟩ = some (.int .i64 c.kind) := hl2.cell 0 _ rfl
  obtain ⟨K0, hK0⟩ : ∃ K0, K0 = pre ++ enc c.kind.toNat := ⟨_, rfl⟩
  rw [← hK0] at hw2
  have HK0 := Lib.hid hK0
  have HB2 := Lib.hid ((HB1.out.mono hB).trans hb2)
  have HP2 := Lib.hid ((Spares.of_below (o := o) HB1.out).trans hp2)
  have HW2 := Lib.hid hw2
  have HL2 := Lib.hid hl2
  have hz2 : w.heap.size + 1 ≤ w2.heap.size := by have := hb2.size; have := HZ1.out; omega
  clear hp2 hb2 hl2 hw2 hg2 hK0
  go_wp2_with fail
  refine (encoded_any v w.heap.size c.kind _ hk2).mono ?_
  rintro e w3 ⟨r, rfl, hr, hB3⟩
  obtain ⟨ao, rfl⟩ := hr.shape
  have hn := Cm.encoded_len v c.kind
  have HBY : Hid (pre ++ Cm.bytes v c = K0 ++ (Cm.encoded v c.kind).flatMap (Cm.fenc c)) := by show _ = _; rw [HK0.out]; simp [Cm.bytes]
  obtain ⟨fs, hfs⟩ : ∃ fs, fs = Cm.encoded v c.kind := ⟨_, rfl⟩
  rw [← hfs] at hr hn ⊢
  have HFS := Lib.hid hfs
  have HR := Lib.hid hr
  have HL3 := Lib.hid (HL2.out.below hB3 HL2.out.lt)
  have HW3 := Lib.hid (HW2.out.grown hB3)
  have HB3 := Lib.hid (HB2.out.trans (hB3.mono (Nat.le_trans hB HB2.out.size)))
  have HP3 := Lib.hid (HP2.out.trans (Spares.of_below (o := o) hB3))
  have H9 : Hid (K0.length ≤ 35184372088841) := by show _ ≤ _; rw [HK0.out, List.length_append]; have := enc_nine (n := c.kind.toNat) (by have := hf.k1; omega); omega
  have HFL := Lib.hid (Cm.flat_len c hf hs)
  clear hr hfs hB3 hk hk2
  go_wp2
  go_loopw [7, 18] (fun _ i wr => ∃ (k : Nat) (u' : Value), i = .int .i64 (k : Int) ∧ k ≤ fs.length ∧ Hid (Below B w wr) ∧ Hid (Wrt wr B o u' (K0 ++ (fs.take k).flatMap (Cm.fenc c))) ∧ Hid (Cmds wr w.heap.size c) ∧ Hid (FRow wr w2.heap.size (.slice ao fs.length fs.length) w.heap.size fs) ∧ Hid (Spares o w wr)) (fun _ i _ => fs.length - (intOf i).toNat)
  case atStart =>
    refine ⟨0, u2, rfl, by omega, HB3, ?_, HL3, HR, HP3⟩
    show Wrt _ _ _ _ _
    rw [List.take_zero, List.flatMap_nil, List.append_nil]
    exact HW3.out
  case round =>
    obtain ⟨k, u', rfl, hk, HB, HW, HL, HF, HP⟩ := hrel
    by_cases hlt : k < fs.length
    · have hlt' : (k : Int) < (fs.length : Int) := by omega
      obtain ⟨f, hff⟩ : ∃ f, fs[k]? = some f := ⟨_, List.getElem?_eq_getElem hlt⟩
      obtain ⟨g, rfl, hcell⟩ := HF.out.cell hff
      have HFK := Lib.hid hff
      have hlen : (K0 ++ (fs.take k).flatMap (Cm.fenc c)).length ≤ 70368744177664 := by
        have := HFL.out (fs.take k)
        have := H9.out
        rw [List.length_append]
        rw [List.length_take] at *
        omega
      clear hff
      go_wp2_with fail
      refine (fput_any w.heap.size c f _ B o u' _ HW.out (Nat.le_trans hB HB.out.size) hlen HL.out hf hs2).mono ?_
      rintro e w4 ⟨rfl, u4, hw4, hp4, hb4⟩
      have HL4 := Lib.hid (hp4 _ _ _ (by omega) (by decide) HL.out)
      have HF4 := Lib.hid (HF.out.spares hp4 (by omega))
      have HP4 := Lib.hid (HP.out.trans hp4)
      have HB4 := Lib.hid (HB.out.trans hb4)
      have HW4 := Lib.hid hw4
      clear hw4 hp4 hb4 hlen
      go_wp2
      go_roundw
      case rel =>
        refine ⟨k + 1, u4, by go_num, by omega, HB4, ?_, HL4, HF4, HP4⟩
        show Wrt _ _ _ _ _
        have := HW4.out
        rw [List.take_add_one, HFK.out, List.flatMap_append, Option.toList_some, List.flatMap_singleton, ← List.append_assoc]
        exact this
      case measure => simp [intOf]; omega
    · have hlt' : ¬ (k : Int) < (fs.length : Int) := by omega
      have hw5 := HW.out
      rw [List.take_of_length_le (by omega), HFS.out, ← HBY.out] at hw5
      have HW5 := Lib.hid hw5
      clear hw5
      go_wp2
      go_end0
      exact ⟨rfl, u', HW5.out, HP.out, HB.out⟩


set_option maxRecDepth 4000 in
set_option maxHeartbeats 800000 in
/-- Raw, where what is put reads so in every world that keeps what is below the writer. -/
theorem wraw_out (u : Value) (s : List UInt8) (w : World) (B o : Nat) (v : Value) (l : List UInt8) (hw : Wrt w B o v l) (hB : B ≤ w.heap.size) (hlen : l.length ≤ 70368744177664) (hs : s.length ≤ 1048576) (hu : ∀ W, Below B w W → Reads W u s) :
    Calls Tryz.prog 39 #[.pointer (some ⟨o, 0, none⟩), u] w fun e w' => e = .returned (.tuple #[]) ∧ ∃ v', Wrt w' B o v' (l ++ Pk.text s) ∧ Below B w w' := by
  have h9 := enc_nine (n := s.length) (by omega)
  obtain ⟨uo, uc, rfl⟩ := (hu w (Below.refl _ _)).shape
  have HU := Lib.hid hu
  clear hu
  go_enter Tryz.func39, Tryz.ntmps39
  go_wp2_with fail
  refine (wnum_any (s.length : Int) _ B o v l hw hB (by omega) (by omega) (by omega)).mono ?_
  rintro e1 w1 ⟨rfl, v1, hw1, hg1⟩
  rw [Int.toNat_natCast] at hw1
  have hB1 := hw.below hg1 hB
  have hu1 := HU.out _ hB1
  have hc1 := hw1.lies.cell 0 v1 rfl
  go_wp2_with (at_builtin; refine append_bytes rfl _ _ 26 5 rfl Tryz.underlying26 info_u8 B (l ++ enc s.length) s v1 _ rfl rfl hw1.owns hu1 (by simp; omega) w1 (Below.refl _ _) (by have := hB1.size; omega) ?_; intro v2 w2 ho2 hb2 hg2; obtain ⟨ao2, cap2, rfl⟩ := ho2.reads.shape; have hl2 := hw1.lies.kept hg2 (hw1.lies.not_row (by decide) hw1.owns); have hc2 := hl2.cell 0 v1 rfl; have hf2 := hl2.free 0)
  have hp := hw1.put (by decide) ho2 hg2
  have hq := hB1.trans (hw1.below hp.2 (by have := hB1.size; omega))
  go_end0
  simp only [List.length_append, Nat.add_assoc] at hp hq
  exact ⟨rfl, _, by unfold Pk.text; rw [← List.append_assoc]; exact hp.1, hq⟩

theorem En.ebytes_len (v : Int) (e : En.Ent) (hf : e.Fits) (hs : e.cmd.Short 1000) : (En.ebytes v e).length ≤ 6027 := by
  have h1 := enc_nine (n := e.index.toNat) (by have := hf.i1; omega)
  have h2 := enc_nine (n := e.bal.round.toNat) (by have := hf.bal.r1; omega)
  have h3 := enc_nine (n := e.bal.node.toNat) (by have := hf.bal.n1; omega)
  have h4 := Cm.bytes_len v e.cmd hf.cmd hs
  unfold En.ebytes
  simp only [List.length_append]
  omega
theorem En.flat_len (v : Int) : ∀ (l : List En.Ent), (∀ e ∈ l, e.Fits ∧ e.cmd.Short 1000) → (l.flatMap (En.ebytes v)).length ≤ 6027 * l.length
  | [], _ => by simp
  | e :: r, h => by
    have h1 := En.ebytes_len v e (h e (by simp)).1 (h e (by simp)).2
    have h2 := En.flat_len v r fun x hx => h x (by simp [hx])
    rw [List.flatMap_cons, List.length_append, List.length_cons]
    omega

/-- What a Put leaves, where no more than the writer is asked for. -/
def Put (w : World) (B o : Nat) (m : List UInt8) (e : Ending) (w' : World) : Prop := e = .returned (.tuple #[]) ∧ ∃ v', Wrt w' B o v' m ∧ Below B w w'

end Go.Proofs.YtaeojpcffahgmaaGreatDoor


namespace Go.Proofs.YtaeojpcffahgmaaGreatDoor
open Go.RowKit

/-- Where the seven numbers of a message are that lies in block g. -/
abbrev Ptrs (w : World) (h g : Nat) : Prop := Lies w h 70 #[.pointer (some ⟨g, 0, none⟩), .pointer (some ⟨g, 1, none⟩), .pointer (some ⟨g, 2, none⟩), .pointer (some ⟨g, 3, none⟩), .pointer (some ⟨g, 4, none⟩), .pointer (some ⟨g, 5, none⟩), .pointer (some ⟨g, 6, none⟩)]
theorem Ptrs.at {w : World} {h g : Nat} (hp : Ptrs w h g) (k : Nat) (hk : k < 7) : w.cell? ⟨h, k, none⟩ = some (.pointer (some ⟨g, k, none⟩)) := by
  have : k = 0 ∨ k = 1 ∨ k = 2 ∨ k = 3 ∨ k = 4 ∨ k = 5 ∨ k = 6 := by omega
  rcases this with rfl | rfl | rfl | rfl | rfl | rfl | rfl <;> exact hp.cell _ _ rfl
/-- What an encoding gives. -/
def MEncd (w : World) (m : Ms.Msg) (e : Ending) (w' : World) : Prop :=
  Below w.heap.size w w' ∧ ∃ u, e = .returned (.tuple #[u, .int .i64 (Ms.older m)]) ∧ Reads w' u (if Ms.older m = 0 then Ms.bytes m else [])

theorem Ms.nums_at (m : Ms.Msg) (k : Nat) (hk : k < 7) : Ms.nbytes ((Ms.nums m).take (k + 1)) = Ms.nbytes ((Ms.nums m).take k) ++ enc (Ms.nth (Ms.nums m) k).toNat := by
  have h : (Ms.nums m)[k]? = some (Ms.nth (Ms.nums m) k) := by
    unfold Ms.nth
    rw [List.getD_eq_getElem?_getD, List.getElem?_eq_getElem (show k < (Ms.nums m).length from hk)]
    rfl
  rw [List.take_add_one, h, Ms.nbytes_app]
  show _ ++ Ms.nbytes [_] = _
  rw [Ms.nbytes_one]

end Go.Proofs.YtaeojpcffahgmaaGreatDoor
