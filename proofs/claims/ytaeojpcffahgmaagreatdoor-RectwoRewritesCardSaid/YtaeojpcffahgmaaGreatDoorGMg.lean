/- Several texts of mine in one: MsInv EnGet MsGet MsDec. -/
import Derived.Test.YtaeojpcffahgmaaGreatDoorGPl
import Derived.Test.YtaeojpcffahgmaaGreatDoorGCw
import Derived.Test.YtaeojpcffahgmaaGreatDoorEnChk
import Derived.Test.YtaeojpcffahgmaaGreatDoorGMb
import Derived.Test.YtaeojpcffahgmaaGreatDoorGMp
namespace Go.Proofs.YtaeojpcffahgmaaGreatDoor

/-! What is read is small. -/
theorem Cm.get_inv_at (v : Int) (b : List UInt8) (p : Nat) (er : Int) (hp : p ≤ b.length) : (Cm.get v b p er).2.1 ≤ b.length ∧ (Cm.get v b p er).1.Short b.length ∧ (Cm.get v b p er).1.Fits := by
  unfold Cm.get
  have hS : ∀ n, (Cm.bareOf n).Short b.length := fun n => ⟨by simp [Cm.bareOf], by simp [Cm.bareOf], by simp [Cm.bareOf]⟩
  rcases Cm.rnum_cases b p er with ⟨e, _, hn⟩ | ⟨n, q, _, _, hq, hb, hn, _⟩
  · rw [hn]
    exact Cm.fold_inv b _ _ (by simpa using hp) (hS _) (by constructor <;> simp [Cm.bareOf])
  · rw [hn]
    exact Cm.fold_inv b _ _ (by simpa using hq) (hS _) (by constructor <;> simp [Cm.bareOf] <;> omega)
theorem En.get1_inv (v : Int) (b : List UInt8) (p : Nat) (er : Int) (hp : p ≤ b.length) : (En.get1 v b p er).1.cmd.Short b.length ∧ (En.get1 v b p er).1.Fits := by
  have l3 := Cm.rnum_le b _ (Cm.rnum b (Cm.rnum b p er).2.1.toNat (Cm.rnum b p er).2.2).2.2 (Cm.rnum_le b _ (Cm.rnum b p er).2.2 (Cm.rnum_le b p er hp))
  have l4 := Cm.rnum_le b _ (Cm.rnum b (Cm.rnum b (Cm.rnum b p er).2.1.toNat (Cm.rnum b p er).2.2).2.1.toNat (Cm.rnum b (Cm.rnum b p er).2.1.toNat (Cm.rnum b p er).2.2).2.2).2.2 l3
  obtain ⟨_, h2, h3⟩ := Cm.get_inv_at v b _ (Cm.rnum b (Cm.rnum b (Cm.rnum b p er).2.1.toNat (Cm.rnum b p er).2.2).2.1.toNat (Cm.rnum b (Cm.rnum b p er).2.1.toNat (Cm.rnum b p er).2.2).2.2).2.2 l3
  have n1 := Ms.rnum_num b p er
  have n2 := Ms.rnum_num b (Cm.rnum b p er).2.1.toNat (Cm.rnum b p er).2.2
  have n3 := Ms.rnum_num b (Cm.rnum b (Cm.rnum b p er).2.1.toNat (Cm.rnum b p er).2.2).2.1.toNat (Cm.rnum b (Cm.rnum b p er).2.1.toNat (Cm.rnum b p er).2.2).2.2
  refine ⟨h2, ⟨?_, ?_, ⟨?_, ?_, ?_, ?_⟩, h3⟩⟩ <;> (dsimp only [En.get1]; omega)
theorem En.gets_inv (v : Int) (b : List UInt8) (p : Nat) (er : Int) (hp : p ≤ b.length) : ∀ k, ∀ e ∈ (En.gets v b p er k).1, e.cmd.Short b.length ∧ e.Fits
  | 0, e, h => by simp [En.gets] at h
  | k + 1, e, h => by
    unfold En.gets at h
    dsimp only at h
    rcases List.mem_append.1 h with h | h
    · exact En.gets_inv v b p er hp k e h
    · rw [List.mem_singleton] at h
      subst h
      exact En.get1_inv v b _ _ (En.gets_le v b p er hp k)
theorem En.get_inv (v : Int) (b : List UInt8) (p : Nat) (er : Int) (hp : p ≤ b.length) : (∀ e ∈ (En.get v b p er).1, e.cmd.Short b.length ∧ e.Fits) ∧ (En.get v b p er).1.length ≤ 256 := by
  unfold En.get
  rcases En.count_cases b p er hp with ⟨e, q, _, hq, h⟩ | ⟨n, q, _, hq, hn, h, _⟩
  · rw [h]
    dsimp only
    split
    · exact ⟨En.gets_inv v b _ _ (by simpa using hq) _, by simp [En.gets]⟩
    · exact ⟨fun e he => by simp at he, by simp⟩
  · rw [h]
    dsimp only
    split
    · exact ⟨En.gets_inv v b _ _ (by simpa using hq) _, by rw [En.gets_len]; simpa using hn⟩
    · exact ⟨fun e he => by simp at he, by simp⟩
theorem Ms.get_inv (b : List UInt8) : (Ms.get b).1.Fits ∧ (∀ e ∈ (Ms.get b).1.ents, e.cmd.Short b.length) ∧ (Ms.get b).1.ents.length ≤ 256 ∧ (Ms.get b).1.img.length ≤ b.length := by
  obtain ⟨h1, h2⟩ := En.get_inv 1 b (Ms.rnums b 7).2.1 (Ms.rnums b 7).2.2 (Ms.rnums_le b 7)
  refine ⟨⟨fun x hx => ?_, fun e he => (h1 e he).2⟩, fun e he => (h1 e he).1, h2, ?_⟩
  · have hn7 : Ms.nums (Ms.get b).1 = (Ms.rnums b 7).1 := Ms.seven (Ms.rnums_len b 7)
    rw [hn7] at hx
    have := Ms.rnums_num b 7 x hx
    omega
  · rcases Ms.raw_cases b (Ms.gotE b).2.1 (Ms.gotE b).2.2 (En.get_le 1 b _ _ (Ms.rnums_le b 7)) with ⟨e, q, _, _, hr⟩ | ⟨s, q, _, _, hs, hr, _⟩
    · show (Ms.raw b (Ms.gotE b).2.1 (Ms.gotE b).2.2).1.length ≤ _
      rw [hr]; simp
    · show (Ms.raw b (Ms.gotE b).2.1 (Ms.gotE b).2.2).1.length ≤ _
      rw [hr]; exact hs

/-- The kinds of the commands of a valid message. -/
theorem Ms.ent_kinds {m : Ms.Msg} (h : Ms.check m = 0) : ∀ e ∈ m.ents, 1 ≤ e.cmd.kind ∧ e.cmd.kind ≤ 8 := fun e he => by
  have h1 := (Cm.check_ok (Ms.ents_ok _ _ (Ms.check_good h).ents e he).2).1
  unfold Cm.known at h1
  simpa using h1
/-- The texts of a valid command are short. -/
theorem Cm.check_short {c : Cm.Cmd} (h : Cm.check c = 0) : c.Short 48 := by
  obtain ⟨hk, ha⟩ := Cm.check_ok h
  unfold Cm.check at h
  rw [hk, if_neg (by simp)] at h
  by_cases h6 : (Cm.fields c.kind).all (Cm.within c) = false
  · rw [if_pos h6] at h; omega
  rw [if_neg h6] at h
  by_cases h7 : (Cm.fields c.kind).all (Cm.spelt c) = false
  · rw [if_pos h7] at h; omega
  have hw : (Cm.fields c.kind).all (Cm.spelt c) = true := by simpa using h7
  have h' := of_decide_eq_true ha
  have hkey : ∀ s : List UInt8, Rn.key ⟨s.toArray⟩ = true → s.length ≤ 48 := fun s hs => by
    unfold Rn.key at hs
    simp only [Bool.and_eq_true, decide_eq_true_eq] at hs
    have := hs.1.2
    rw [str_size] at this
    omega
  have hval : ∀ s : List UInt8, Rn.val ⟨s.toArray⟩ = true → s.length ≤ 48 := fun s hs => by
    unfold Rn.val at hs
    simp only [Bool.and_eq_true, decide_eq_true_eq] at hs
    have := hs.1.1
    rwa [str_size] at this
  clear h ha h6 h7
  obtain ⟨k, cl, sq, nd, ky, od, vl⟩ := c
  dsimp only at hk hw h'
  rcases Vs.kinds k with rfl | rfl | rfl | rfl | rfl | rfl | rfl | rfl | h
  rotate_right
  · simp [Cm.known] at hk; omega
  all_goals
    simp [Cm.fields, Cm.wipe, Cm.F.num, Cm.Cmd.setN, Cm.Cmd.setS, Cm.bareOf] at h'
    simp [Cm.fields, Cm.spelt, Cm.F.num, Cm.okS, Cm.Cmd.s] at hw
    refine ⟨?_, ?_, ?_⟩ <;> dsimp only <;> first | (rw [h'.1]; simp; done) | (rw [h'.2]; simp; done) | (rw [h'.2.1]; simp; done) | (rw [h'.2.2]; simp; done) | exact hkey _ hw | exact hkey _ hw.1 | exact hkey _ hw.2 | exact hval _ hw.2 | exact hval _ hw.1 | exact hval _ hw.2.1 | exact hval _ hw.2.2 | grind
theorem Short.up {c : Cm.Cmd} {a b : Nat} (h : c.Short a) (hab : a ≤ b) : c.Short b := ⟨Nat.le_trans h.1 hab, Nat.le_trans h.2.1 hab, Nat.le_trans h.2.2 hab⟩
end Go.Proofs.YtaeojpcffahgmaaGreatDoor


namespace Go.Proofs.YtaeojpcffahgmaaGreatDoor
open Go.RowKit

/-- All blocks of cells but the reader's lie as they lay. -/
def SavesO (o : Nat) (w w' : World) : Prop := ∀ (k : Nat) (T : TypeId) (vs : Array Value), k ≠ o → Lies w k T vs → Lies w' k T vs
theorem SavesO.refl (o : Nat) (w : World) : SavesO o w w := fun _ _ _ _ h => h
theorem SavesO.trans {o : Nat} {a b c : World} (h : SavesO o a b) (k : SavesO o b c) : SavesO o a c := fun j T vs h1 h2 => k j T vs h1 (h j T vs h1 h2)
theorem SavesO.of_below {o : Nat} {w w' : World} (h : Below w.heap.size w w') : SavesO o w w' := fun _ _ _ _ hl => hl.below h hl.lt
theorem SavesO.of_grown {o : Nat} {w w' : World} (h : w.grownBy w' (some o)) : SavesO o w w' := fun _ _ _ h1 hl => hl.kept h (by intro e; cases e; exact h1 rfl)

set_option maxRecDepth 4000 in
set_option maxHeartbeats 1600000 in
theorem cgetS_any (v : Int) (w : World) (B o : Nat) (u : Value) (s : List UInt8) (p : Nat) (er : Int) (hm : Vs.may v = true) (hr : Rdr w B o u s p er) (hB : B ≤ w.heap.size) :
    Calls Tryz.prog 56 #[.pointer (some ⟨o, 0, none⟩), .int .i64 v] w (fun e' w' => CGot w B o u s (Cm.get v s p er) e' w' ∧ SavesO o w w') := by
  have ho := hr.lies.lt
  obtain ⟨n, q, e, hq, hx, hn0, hn1⟩ := Cm.rnum_res s p er
  have HQ := Lib.hid hq
  obtain ⟨w1, e1, hl1, hB1, hz1⟩ := box_cmd w Cm.zero
  have HG : Hid (Cm.get v s p er = (Cm.encoded v n).foldl (Cm.gstep s) (Cm.bareOf n, q, e)) := by
    show _ = _
    unfold Cm.get
    rw [hq]
    simp
  dsimp only [Cm.cells, Cm.zero, Cm.bareOf] at e1
  have HS1 := Lib.hid (SavesO.of_below (o := o) hB1)
  have HL1 := Lib.hid hl1; have HB1 := Lib.hid (hB1.mono hB); have HZ1 := Lib.hid hz1
  have HR1 := Lib.hid (hr.kept hB1)
  clear hl1 hB1 hz1 hr hq
  go_enter Tryz.func56, Tryz.ntmps56
  go_wp2_with fail
  refine (may_any v _).mono ?_
  rintro e w2 ⟨rfl, rfl⟩
  rw [hm]
  go_wp2_with fail
  refine (rnumber_any _ B o u s p er n q e HR1.out hx HQ).mono ?_
  rintro e2 w2 ⟨rfl, hr2, hg2⟩
  have hb2 := HB1.out.grown hg2 (Nat.le_trans hB HB1.out.size) (by rintro k hk; cases hk; exact hr2.base)
  have hl2 : Cmds w2 w.heap.size Cm.zero := HL1.out.kept hg2 (by simp; omega)
  have hz2 : w.heap.size + 1 ≤ w2.heap.size := by have := hg2.size; have := HZ1.out; omega
  have HS2 := Lib.hid (HS1.out.trans (SavesO.of_grown hg2))
  have HB2 := Lib.hid hb2; have HL2 := Lib.hid hl2; have HR2 := Lib.hid hr2
  clear hr2 hg2 hb2 hl2
  go_wp2_with (refine store_cmd (by rfl) _ _ (by rfl) w2.heap.size Cm.zero (Cm.bareOf n) (by rfl) (by rfl) (Lies.new _ _ _) ?_; intro w3 hl3 hg3)
  have hB3 : Below w2.heap.size w2 w3 := ((Below.refl _ w2).alloc (Nat.le_refl _) _).grown hg3 (by simp) (by rintro j hj; cases hj; exact Nat.le_refl _)
  have hk3 : w3.cell? ⟨w2.heap.size, 0, none⟩ = some (.int .i64 n) := hl3.cell 0 _ rfl
  have hz4 : w2.heap.size < w3.heap.size := hl3.lt
  have HS3 := Lib.hid (HS2.out.trans (SavesO.of_below (o := o) hB3))
  have HL3 := Lib.hid hl3; have HB3 := Lib.hid (HB2.out.trans (hB3.mono (Nat.le_trans hB HB2.out.size)))
  have HR3 := Lib.hid (HR2.out.kept hB3)
  have HK3 := Lib.hid (HL2.out.below hB3 HL2.out.lt)
  clear hl3 hB3 hg3
  go_wp2_with fail
  refine (encoded_any v w2.heap.size n _ hk3).mono ?_
  rintro e4 w4 ⟨r, rfl, hr, hB4⟩
  obtain ⟨ao, rfl⟩ := hr.shape
  have hn := Cm.encoded_len v n
  obtain ⟨fs, hfs⟩ : ∃ fs, fs = Cm.encoded v n := ⟨_, rfl⟩
  rw [← hfs] at hr hn ⊢
  have HFS := Lib.hid hfs
  have HF4 := Lib.hid hr
  have HL4 := Lib.hid (HL3.out.below hB4 HL3.out.lt)
  have HR4 := Lib.hid (HR3.out.kept hB4)
  have HK4 := Lib.hid (HK3.out.below hB4 HK3.out.lt)
  have HS4 := Lib.hid (HS3.out.trans (SavesO.of_below (o := o) hB4))
  have HB4 := Lib.hid (HB3.out.trans (hB4.mono (Nat.le_trans hB HB3.out.size)))
  clear hr hfs hB4 hk3
  go_wp2
  go_loopw [7, 18] (fun _ i wr => ∃ (k : Nat) (t : Cm.Cmd × Nat × Int), i = .int .i64 (k : Int) ∧ k ≤ fs.length ∧ Hid (Below B w wr) ∧ Hid (t = (fs.take k).foldl (Cm.gstep s) (Cm.bareOf n, q, e)) ∧ Hid (Rdr wr B o u s t.2.1 t.2.2) ∧ Hid (Cmds wr w2.heap.size t.1) ∧ Hid (FRow wr w3.heap.size (.slice ao fs.length fs.length) w2.heap.size fs) ∧ Hid (Cmds wr w.heap.size Cm.zero) ∧ Hid (SavesO o w wr)) (fun _ i _ => fs.length - (intOf i).toNat)
  case atStart => exact ⟨0, (Cm.bareOf n, q, e), rfl, by omega, HB4, rfl, HR4, HL4, HF4, HK4, HS4⟩
  case round =>
    obtain ⟨k, t, rfl, hk, HB, HT, HR, HL, HF, HK, HS⟩ := hrel
    by_cases hlt : k < fs.length
    · have hlt' : (k : Int) < (fs.length : Int) := by omega
      obtain ⟨f, hff⟩ : ∃ f, fs[k]? = some f := ⟨_, List.getElem?_eq_getElem hlt⟩
      obtain ⟨g, rfl, hcell⟩ := HF.out.cell hff
      have HFK := Lib.hid hff
      clear hff
      go_wp2_with fail
      refine (fget_any w2.heap.size t f _ B o u s HR.out HL.out (by omega) (by omega)).mono ?_
      rintro e5 w5 ⟨rfl, hl5, hr5, hs5, hb5⟩
      have HL5 := Lib.hid hl5
      have HR5 := Lib.hid hr5
      have HF5 := Lib.hid (HF.out.saves hs5 (by omega) (by omega))
      have HK5 := Lib.hid (hs5 _ _ _ (by omega) (by omega) HK.out)
      have HB5 := Lib.hid (HB.out.trans hb5)
      have HS5 : Hid (SavesO o w w5) := fun k T vs h1 h2 => hs5 k T vs h1 (by have := h2.lt; omega) (HS.out k T vs h1 h2)
      clear hl5 hr5 hs5 hb5
      go_wp2
      go_roundw
      case rel =>
        refine ⟨k + 1, Cm.gstep s t f, by go_num, by omega, HB5, ?_, HR5, HL5, HF5, HK5, HS5⟩
        show _ = _
        rw [List.take_add_one, HFK.out, List.foldl_append, ← HT.out]
        rfl
      case measure => simp [intOf]; omega
    · have hlt' : ¬ (k : Int) < (fs.length : Int) := by omega
      have ht := HT.out
      rw [List.take_of_length_le (by omega), HFS.out, ← HG.out] at ht
      have HT2 := Lib.hid ht
      clear ht
      have p0 : wr.cell? ⟨w2.heap.size, 0, none⟩ = some (.int .i64 t.1.kind) := HL.out.cell 0 _ rfl
      have p1 : wr.cell? ⟨w2.heap.size, 1, none⟩ = some (.int .i64 t.1.client) := HL.out.cell 1 _ rfl
      have p2 : wr.cell? ⟨w2.heap.size, 2, none⟩ = some (.int .i64 t.1.seq) := HL.out.cell 2 _ rfl
      have p3 : wr.cell? ⟨w2.heap.size, 3, none⟩ = some (.string ⟨t.1.key.toArray⟩) := HL.out.cell 3 _ rfl
      have p4 : wr.cell? ⟨w2.heap.size, 4, none⟩ = some (.string ⟨t.1.val.toArray⟩) := HL.out.cell 4 _ rfl
      have p5 : wr.cell? ⟨w2.heap.size, 5, none⟩ = some (.string ⟨t.1.old.toArray⟩) := HL.out.cell 5 _ rfl
      have p6 : wr.cell? ⟨w2.heap.size, 6, none⟩ = some (.int .i64 t.1.node) := HL.out.cell 6 _ rfl
      go_wp2_with (first
        | (refine store_cmd (by rfl) _ _ (by rfl) w.heap.size Cm.zero t.1 (by rfl) (by rfl) HK.out ?_; intro w6 hl6 hg6))
      refine ret_cmd1 rfl rfl hl6 rfl ?_
      rw [← HT2.out]
      exact ⟨⟨rfl, HR.out.beside' hg6 (by omega) (fun h => HK.out.not_row (by decide) HR.out.owns h.symm), HB.out.grown hg6 (Nat.le_trans hB HB.out.size) (by rintro j hj; cases hj; exact hB)⟩,
        fun k T vs h1 h2 => (HS.out k T vs h1 h2).kept hg6 (by have := h2.lt; simp; omega)⟩

/-- What a Get of an entry gives. -/
def EGot (w : World) (B o : Nat) (u : Value) (s : List UInt8) (t : En.Ent × Nat × Int) (e : Ending) (w' : World) : Prop :=
  e = .returned (.agg (En.cells t.1)) ∧ Rdr w' B o u s t.2.1 t.2.2 ∧ Below B w w' ∧ SavesO o w w'

/-- A reading, and then a store into a block of the call's own: what there is behind both. -/
theorem eget_end {w0 w v w' : World} {B o b : Nat} {u : Value} {s : List UInt8} {q : Nat} {e : Int} {T : TypeId} {vs' : Array Value} (hT : T ≠ 5) (hB : B ≤ w0.heap.size) (hb : w0.heap.size ≤ b) (ho : o < w0.heap.size)
    (HB : Below B w0 w) (HS : SavesO o w0 w) (hr : Rdr v B o u s q e) (hg : w.grownBy v (some o)) (vs : Array Value) (hl : Lies w b T vs) (_hl' : Lies w' b T vs') (hg' : v.grownBy w' (some b)) :
    Rdr w' B o u s q e ∧ Below B w0 w' ∧ SavesO o w0 w' ∧ (∀ k T' us, k ≠ o → k ≠ b → Lies w k T' us → Lies w' k T' us) := by
  have hbo : b ≠ o := by omega
  have hlv : Lies v b T vs := hl.kept hg (by simp; omega)
  refine ⟨hr.beside' hg' hbo (fun h => hlv.not_row hT hr.owns h.symm), ?_, ?_, ?_⟩
  · exact (HB.grown hg (Nat.le_trans hB HB.size) (by rintro x hx; cases hx; exact hr.base)).grown hg' (Nat.le_trans hB (Nat.le_trans HB.size hg.size)) (by rintro x hx; cases hx; omega)
  · intro k T' us h1 h2
    exact ((HS k T' us h1 h2).kept hg (by simp; omega)).kept hg' (by have := h2.lt; simp; omega)
  · intro k T' us h1 h2 h3
    exact (h3.kept hg (by simp; omega)).kept hg' (by simp; omega)

/-! A row of entries that a reading makes. -/
theorem En.flat_len10 (l : List En.Ent) : (flatR (l.map En.cells)).length = l.length * 10 := by rw [flatR_len (En.sized l), List.length_map]
theorem En.flat_split (l : List En.Ent) (i : Nat) (e : En.Ent) (h : i < l.length) :
    flatR ((l.set i e).map En.cells) = (flatR (l.map En.cells)).take (i * 10) ++ (En.cells e).toList ++ (flatR (l.map En.cells)).drop (i * 10 + 10) := by
  obtain ⟨a, ha⟩ : ∃ a, l[i]? = some a := ⟨_, List.getElem?_eq_getElem h⟩
  have h1 : l = l.take i ++ (a :: l.drop (i + 1)) := by
    conv => lhs; rw [← List.take_append_drop i l, En.drop_at ha]
  have hlen : (l.take i).length = i := by rw [List.length_take]; omega
  have h2 : l.set i e = l.take i ++ (e :: l.drop (i + 1)) := by
    rw [List.set_eq_take_append_cons_drop, if_pos h]
  have hA : (flatR ((l.take i).map En.cells)).length = i * 10 := by rw [En.flat_len10, hlen]
  have hc : (En.cells a).toList.length = 10 := rfl
  have e1 : flatR (l.map En.cells) = flatR ((l.take i).map En.cells) ++ ((En.cells a).toList ++ flatR ((l.drop (i + 1)).map En.cells)) := by
    conv => lhs; rw [h1]
    rw [List.map_append, flatR_app, List.map_cons, flatR_cons]
  rw [h2, List.map_append, flatR_app, List.map_cons, flatR_cons]
  obtain ⟨X, hX⟩ : ∃ X, X = flatR ((l.take i).map En.cells) := ⟨_, rfl⟩
  obtain ⟨Y, hY⟩ : ∃ Y, Y = flatR ((l.drop (i + 1)).map En.cells) := ⟨_, rfl⟩
  rw [← hX] at hA e1 ⊢
  rw [← hY] at e1 ⊢
  have e2 : (flatR (l.map En.cells)).take (i * 10) = X := by rw [e1, List.take_left' hA]
  have e3 : (flatR (l.map En.cells)).drop (i * 10 + 10) = Y := by rw [e1, ← List.append_assoc, List.drop_left' (by rw [List.length_append, hA, hc])]
  rw [e2, e3, List.append_assoc]
theorem En.made (n : Nat) : madeCells (Value.agg (En.cells En.zero)).cells (n * 10) = (flatR ((List.replicate n En.zero).map En.cells)).toArray := by
  refine Array.ext_getElem? fun j => ?_
  by_cases hj : j < n * 10
  · have hz : (Value.agg (En.cells En.zero)).cells = En.cells En.zero := rfl
    have hi : j / 10 < n := by omega
    have hr : (List.replicate n En.zero).map En.cells = List.replicate n (En.cells En.zero) := by simp
    have h1 := flatR_at (k := 10) (rs := List.replicate n (En.cells En.zero)) (hr ▸ En.sized _) (i := j / 10) (r := En.cells En.zero) (j := j % 10) (u := (En.cells En.zero)[j % 10]'(by show j % 10 < 10; omega)) (by rw [List.getElem?_replicate, if_pos hi]) (Array.getElem?_eq_getElem _)
    rw [show j / 10 * 10 + j % 10 = j by omega] at h1
    have e2 : ∀ (L : List Value) (j : Nat), L.toArray[j]? = L[j]? := fun L j => by simp
    rw [hr, e2 (flatR (List.replicate n (En.cells En.zero))) j, h1, hz]
    unfold madeCells
    rw [Array.getElem?_map, Array.getElem?_range, if_pos hj]
    show some ((En.cells En.zero)[j % 10]!) = _
    rw [getElem!_pos (En.cells En.zero) (j % 10) (by show j % 10 < 10; omega)]
  · rw [Array.getElem?_eq_none (by rw [size_madeCells]; omega), Array.getElem?_eq_none (by rw [List.size_toArray, En.flat_len10, List.length_replicate]; omega)]
end Go.Proofs.YtaeojpcffahgmaaGreatDoor


namespace Go.Proofs.YtaeojpcffahgmaaGreatDoor
open Go.RowKit

theorem Ms.rnums_succ (b : List UInt8) (k : Nat) : Ms.rnums b (k + 1) = ((Ms.rnums b k).1 ++ [(Cm.rnum b (Ms.rnums b k).2.1 (Ms.rnums b k).2.2).1], (Cm.rnum b (Ms.rnums b k).2.1 (Ms.rnums b k).2.2).2.1.toNat, (Cm.rnum b (Ms.rnums b k).2.1 (Ms.rnums b k).2.2).2.2) := rfl
theorem Ms.ofNums_set : ∀ (L : List Int) (n : Int) (ve vi : Value), L.length < 7 → (Ms.cells (Ms.ofNums (L ++ [n])) ve vi).toList = (Ms.cells (Ms.ofNums L) ve vi).toList.take L.length ++ [.int .i64 n] ++ (Ms.cells (Ms.ofNums L) ve vi).toList.drop (L.length + 1)
  | [], _, _, _, _ => rfl
  | [_], _, _, _, _ => rfl
  | [_, _], _, _, _, _ => rfl
  | [_, _, _], _, _, _, _ => rfl
  | [_, _, _, _], _, _, _, _ => rfl
  | [_, _, _, _, _], _, _, _, _ => rfl
  | [_, _, _, _, _, _], _, _, _, _ => rfl
  | _ :: _ :: _ :: _ :: _ :: _ :: _ :: r, _, _, _, h => by simp at h; omega
theorem Ms.cells_no8 (m : Ms.Msg) (eo io : Option Addr) (en ec ik ic : Nat) (c : Int) : ∀ k : Nat, (Ms.cells m (.slice eo en ec) (.slice io ik ic))[k]? ≠ some (Value.int .u8 c)
  | 0 => by simp [Ms.cells]
  | 1 => by simp [Ms.cells]
  | 2 => by simp [Ms.cells]
  | 3 => by simp [Ms.cells]
  | 4 => by simp [Ms.cells]
  | 5 => by simp [Ms.cells]
  | 6 => by simp [Ms.cells]
  | 7 => by simp [Ms.cells]
  | 8 => by simp [Ms.cells]
  | 9 => by simp [Ms.cells]
  | k + 10 => by simp [Ms.cells]
/-- Raw, whether there is an error or not. -/
theorem rrawM_any (w : World) (B o : Nat) (v : Value) (b : List UInt8) (p : Nat) (er : Int) (x : List UInt8) (q : Nat) (e : Int) (hr : Rdr w B o v b p er) (hx : e ≠ 0 → x = []) (hl : x.length ≤ 70368744177664) (h : Hid (Ms.raw b p er = (x, (q : Int), e))) :
    Calls Tryz.prog 58 #[.pointer (some ⟨o, 0, none⟩), .int .i64 32768] w (fun en w' => ∃ u, Gave w B o v b q e u en w' ∧ Reads w' u x) := by
  by_cases h0 : er = 0
  · subst h0
    exact rraw_is 32768 w B o v b p x q e hr hx hl h.out
  · have h1 := h.out
    unfold Ms.raw at h1
    rw [if_neg h0] at h1
    simp only [Prod.mk.injEq] at h1
    obtain ⟨rfl, h2, rfl⟩ := h1
    obtain rfl : p = q := by omega
    exact (rraw_err 32768 er w B o v b p hr h0).mono fun en w' hg => ⟨_, hg, Reads.empty _⟩

end Go.Proofs.YtaeojpcffahgmaaGreatDoor


namespace Go.Proofs.YtaeojpcffahgmaaGreatDoor
open Go.RowKit

/-- What a decoding gives. -/
def MDecd (w : World) (r : Ms.Msg × Int) (e : Ending) (w' : World) : Prop :=
  Below w.heap.size w w' ∧ ∃ ve vi, e = .returned (.tuple #[.agg (Ms.cells r.1 ve vi), .int .i64 r.2]) ∧ ReadsE w' ve r.1.ents ∧ Reads w' vi r.1.img ∧ ve.oneCell' = true ∧ vi.oneCell' = true

end Go.Proofs.YtaeojpcffahgmaaGreatDoor
