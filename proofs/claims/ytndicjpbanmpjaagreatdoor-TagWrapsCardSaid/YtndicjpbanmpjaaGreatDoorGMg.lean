/- Several texts of mine in one: MsInv EnGet MsGet MsDec. -/
import Derived.Test.YtndicjpbanmpjaaGreatDoorGPl
import Derived.Test.YtndicjpbanmpjaaGreatDoorGCw
import Derived.Test.YtndicjpbanmpjaaGreatDoorEnChk
import Derived.Test.YtndicjpbanmpjaaGreatDoorGMb
import Derived.Test.YtndicjpbanmpjaaGreatDoorGMp
namespace Go.Proofs.YtndicjpbanmpjaaGreatDoor

/-! What is read is small. -/
theorem Cm.get_inv_at (v : Int) (b : List UInt8) (p : Nat) (er : Int) (hp : p ≤ b.length) : (Cm.get v b p er).2.1 ≤ b.length ∧ (Cm.get v b p er).1.Short b.length ∧ (Cm.get v b p er).1.Fits := by
  unfold Cm.get
  have hS : ∀ n, (Cm.bareOf n).Short b.length := fun n => ⟨by simp [Cm.bareOf], by simp [Cm.bareOf], by simp [Cm.bareOf]⟩
  rcases Cm.rnum_cases b p er with ⟨e, _, hn⟩ | ⟨n, q, _, _, hq, hb, hn, _⟩
  · rw [hn]
    exact Cm.fold_inv b _ _ (by simpa using hp) (hS _) (by constructor <;> simp [Cm.bareOf])
  · rw [hn]
    exact Cm.fold_inv b _ _ (by simpa using hq) (hS _) (by constructor <;> simp [Cm.bareOf] <;> omega)
theorem En.get1_inv (v : Int) (b : List UInt8) (p : Nat) (er : Int) (hp : p ≤ b.length) : (En.get1 v b p er).1.cmd.Short b.length ∧ (En.get1 v b p er).1.Fits := by
  have l3 := Cm.rnum_le b _ (Cm.rnum b (Cm.rnum b p er).2.1.toNat (Cm.rnum b p er).2.2).2.2 (Cm.rnum_le b _ (Cm.rnum b p er).2.2 (Cm.rnum_le b p er hp))
  have l4 := Cm.rnum_le b _ (Cm.rnum b (Cm.rnum b (Cm.rnum b p er).2.1.toNat (Cm.rnum b p er).2.2).2.1.toNat (Cm.rnum b (Cm.rnum b p er).2.1.toNat (Cm.rnum b p er).2.2).2.2).2.2 l3
  obtain ⟨_, h2, h3⟩ := Cm.get_inv_at v b _ (Cm.rnum b (Cm.rnum b (Cm.rnum b p er).2.1.toNat (Cm.rnum b p er).2.2).2.1.toNat (Cm.rnum b (Cm.rnum b p er).2.1.toNat (Cm.rnum b p er).2.2).2.2).2.2 l3
  have n1 := Ms.rnum_num b p er
  have n2 := Ms.rnum_num b (Cm.rnum b p er).2.1.toNat (Cm.rnum b p er).2.2
  have n3 := Ms.rnum_num b (Cm.rnum b (Cm.rnum b p er).2.1.toNat (Cm.rnum b p er).2.2).2.1.toNat (Cm.rnum b (Cm.rnum b p er).2.1.toNat (Cm.rnum b p er).2.2).2.2
  refine ⟨h2, ⟨?_, ?_, ⟨?_, ?_, ?_, ?_⟩, h3⟩⟩ <;> (dsimp only [En.get1]; omega)
theorem En.gets_inv (v : Int) (b : List UInt8) (p : Nat) (er : Int) (hp : p ≤ b.length) : ∀ k, ∀ e ∈ (En.gets v b p er k).1, e.cmd.Short b.length ∧ e.Fits
  | 0, e, h => by simp [En.gets] at h
  | k + 1, e, h => by
    unfold En.gets at h
    dsimp only at h
    rcases List.mem_append.1 h with h | h
    · exact En.gets_inv v b p er hp k e h
    · rw [List.mem_singleton] at h
      subst h
      exact En.get1_inv v b _ _ (En.gets_le v b p er hp k)
theorem En.get_inv (v : Int) (b : List UInt8) (p : Nat) (er : Int) (hp : p ≤ b.length) : (∀ e ∈ (En.get v b p er).1, e.cmd.Short b.length ∧ e.Fits) ∧ (En.get v b p er).1.length ≤ 256 := by
  unfold En.get
  rcases En.count_cases b p er hp with ⟨e, q, _, hq, h⟩ | ⟨n, q, _, hq, hn, h, _⟩
  · rw [h]
    dsimp only
    split
    · exact ⟨En.gets_inv v b _ _ (by simpa using hq) _, by simp [En.gets]⟩
    · exact ⟨fun e he => by simp at he, by simp⟩
  · rw [h]
    dsimp only
    split
    · exact ⟨En.gets_inv v b _ _ (by simpa using hq) _, by rw [En.gets_len]; simpa using hn⟩
    · exact ⟨fun e he => by simp at he, by simp⟩
theorem Ms.get_inv (b : List UInt8) : (Ms.get b).1.Fits ∧ (∀ e ∈ (Ms.get b).1.ents, e.cmd.Short b.length) ∧ (Ms.get b).1.ents.length ≤ 256 ∧ (Ms.get b).1.img.length ≤ b.length := by
  obtain ⟨h1, h2⟩ := En.get_inv 1 b (Ms.rnums b 7).2.1 (Ms.rnums b 7).2.2 (Ms.rnums_le b 7)
  refine ⟨⟨fun x hx => ?_, fun e he => (h1 e he).2⟩, fun e he => (h1 e he).1, h2, ?_⟩
  · have hn7 : Ms.nums (Ms.get b).1 = (Ms.rnums b 7).1 := Ms.seven (Ms.rnums_len b 7)
    rw [hn7] at hx
    have := Ms.rnums_num b 7 x hx
    omega
  · rcases Ms.raw_cases b (Ms.gotE b).2.1 (Ms.gotE b).2.2 (En.get_le 1 b _ _ (Ms.rnums_le b 7)) with ⟨e, q, _, _, hr⟩ | ⟨s, q, _, _, hs, hr, _⟩
    · show (Ms.raw b (Ms.gotE b).2.1 (Ms.gotE b).2.2).1.length ≤ _
      rw [hr]; simp
    · show (Ms.raw b (Ms.gotE b).2.1 (Ms.gotE b).2.2).1.length ≤ _
      rw [hr]; exact hs

/-- The kinds of the commands of a valid message. -/
theorem Ms.ent_kinds {m : Ms.Msg} (h : Ms.check m = 0) : ∀ e ∈ m.ents, 1 ≤ e.cmd.kind ∧ e.cmd.kind ≤ 8 := fun e he => by
  have h1 := (Cm.check_ok (Ms.ents_ok _ _ (Ms.check_good h).ents e he).2).1
  unfold Cm.known at h1
  simpa using h1
/-- The texts of a valid command are short. -/
theorem Cm.check_short {c : Cm.Cmd} (h : Cm.check c = 0) : c.Short 48 := by
  obtain ⟨hk, ha⟩ := Cm.check_ok h
  unfold Cm.check at h
  rw [hk, if_neg (by simp)] at h
  by_cases h6 : (Cm.fields c.kind).all (Cm.within c) = false
  · rw [if_pos h6] at h; omega
  rw [if_neg h6] at h
  by_cases h7 : (Cm.fields c.kind).all (Cm.spelt c) = false
  · rw [if_pos h7] at h; omega
  have hw : (Cm.fields c.kind).all (Cm.spelt c) = true := by simpa using h7
  have h' := of_decide_eq_true ha
  have hkey : ∀ s : List UInt8, Rn.key ⟨s.toArray⟩ = true → s.length ≤ 48 := fun s hs => by
    unfold Rn.key at hs
    simp only [Bool.and_eq_true, decide_eq_true_eq] at hs
    have := hs.1.2
    rw [str_size] at this
    omega
  have hval : ∀ s : List UInt8, Rn.val ⟨s.toArray⟩ = true → s.length ≤ 48 := fun s hs => by
    unfold Rn.val at hs
    simp only [Bool.and_eq_true, decide_eq_true_eq] at hs
    have := hs.1.1
    rwa [str_size] at this
  clear h ha h6 h7
  obtain ⟨k, cl, sq, nd, ky, od, vl⟩ := c
  dsimp only at hk hw h'
  rcases Vs.kinds k with rfl | rfl | rfl | rfl | rfl | rfl | rfl | rfl | h
  rotate_right
  · simp [Cm.known] at hk; omega
  all_goals
    simp [Cm.fields, Cm.wipe, Cm.F.num, Cm.Cmd.setN, Cm.Cmd.setS, Cm.bareOf] at h'
    simp [Cm.fields, Cm.spelt, Cm.F.num, Cm.okS, Cm.Cmd.s] at hw
    refine ⟨?_, ?_, ?_⟩ <;> dsimp only <;> first | (rw [h'.1]; simp; done) | (rw [h'.2]; simp; done) | (rw [h'.2.1]; simp; done) | (rw [h'.2.2]; simp; done) | exact hkey _ hw | exact hkey _ hw.1 | exact hkey _ hw.2 | exact hval _ hw.2 | exact hval _ hw.1 | exact hval _ hw.2.1 | exact hval _ hw.2.2 | grind
theorem Short.up {c : Cm.Cmd} {a b : Nat} (h : c.Short a) (hab : a ≤ b) : c.Short b := ⟨Nat.le_trans h.1 hab, Nat.le_trans h.2.1 hab, Nat.le_trans h.2.2 hab⟩
end Go.Proofs.YtndicjpbanmpjaaGreatDoor


namespace Go.Proofs.YtndicjpbanmpjaaGreatDoor
open Go.RowKit

/-- All blocks of cells but the reader's lie as they lay. -/
def SavesO (o : Nat) (w w' : World) : Prop := ∀ (k : Nat) (T : TypeId) (vs : Array Value), k ≠ o → Lies w k T vs → Lies w' k T vs
theorem SavesO.refl (o : Nat) (w : World) : SavesO o w w := fun _ _ _ _ h => h
theorem SavesO.trans {o : Nat} {a b c : World} (h : SavesO o a b) (k : SavesO o b c) : SavesO o a c := fun j T vs h1 h2 => k j T vs h1 (h j T vs h1 h2)
theorem SavesO.of_below {o : Nat} {w w' : World} (h : Below w.heap.size w w') : SavesO o w w' := fun _ _ _ _ hl => hl.below h hl.lt
theorem SavesO.of_grown {o : Nat} {w w' : World} (h : w.grownBy w' (some o)) : SavesO o w w' := fun _ _ _ h1 hl => hl.kept h (by intro e; cases e; exact h1 rfl)

set_option maxRecDepth 4000 in
set_option maxHeartbeats 1600000 in
theorem cgetS_any (v : Int) (w : World) (B o : Nat) (u : Value) (s : List UInt8) (p : Nat) (er : Int) (hm : Vs.may v = true) (hr : Rdr w B o u s p er) (hB : B ≤ w.heap.size) :
    Calls Tryz.prog 108 #[.pointer (some ⟨o, 0, none⟩), .int .i64 v] w (fun e' w' => CGot w B o u s (Cm.get v s p er) e' w' ∧ SavesO o w w') := by
  have ho := hr.lies.lt
  obtain ⟨n, q, e, hq, hx, hn0, hn1⟩ := Cm.rnum_res s p er
  have HQ := Lib.hid hq
  obtain ⟨w1, e1, hl1, hB1, hz1⟩ := box_cmd w Cm.zero
  have HG : Hid (Cm.get v s p er = (Cm.encoded v n).foldl (Cm.gstep s) (Cm.bareOf n, q, e)) := by
    show _ = _
    unfold Cm.get
    rw [hq]
    simp
  dsimp only [Cm.cells, Cm.zero, Cm.bareOf] at e1
  have HS1 := Lib.hid (SavesO.of_below (o := o) hB1)
  have HL1 := Lib.hid hl1; have HB1 := Lib.hid (hB1.mono hB); have HZ1 := Lib.hid hz1
  have HR1 := Lib.hid (hr.kept hB1)
  clear hl1 hB1 hz1 hr hq
  go_enter Tryz.func108, Tryz.ntmps108
  go_wp2_with fail
  refine (may_any v _).mono ?_
  rintro e w2 ⟨rfl, rfl⟩
  rw [hm]
  go_wp2_with fail
  refine (rnumber_any _ B o u s p er n q e HR1.out hx HQ).mono ?_
  rintro e2 w2 ⟨rfl, hr2, hg2⟩
  have hb2 := HB1.out.grown hg2 (Nat.le_trans hB HB1.out.size) (by rintro k hk; cases hk; exact hr2.base)
  have hl2 : Cmds w2 w.heap.size Cm.zero := HL1.out.kept hg2 (by simp; omega)
  have hz2 : w.heap.size + 1 ≤ w2.heap.size := by have := hg2.size; have := HZ1.out; omega
  have HS2 := Lib.hid (HS1.out.trans (SavesO.of_grown hg2))
  have HB2 := Lib.hid hb2; have HL2 := Lib.hid hl2; have HR2 := Lib.hid hr2
  clear hr2 hg2 hb2 hl2
  go_wp2_with (refine store_cmd (by rfl) _ _ (by rfl) w2.heap.size Cm.zero (Cm.bareOf n) (by rfl) (by rfl) (Lies.new _ _ _) ?_; intro w3 hl3 hg3)
  have hB3 : Below w2.heap.size w2 w3 := ((Below.refl _ w2).alloc (Nat.le_refl _) _).grown hg3 (by simp) (by rintro j hj; cases hj; exact Nat.le_refl _)
  have hk3 : w3.cell? ⟨w2.heap.size, 0, none⟩ = some (.int .i64 n) := hl3.cell 0 _ rfl
  have hz4 : w2.heap.size < w3.heap.size := hl3.lt
  have HS3 := Lib.hid (HS2.out.trans (SavesO.of_below (o := o) hB3))
  have HL3 := Lib.hid hl3; have HB3 := Lib.hid (HB2.out.trans (hB3.mono (Nat.le_trans hB HB2.out.size)))
  have HR3 := Lib.hid (HR2.out.kept hB3)
  have HK3 := Lib.hid (HL2.out.below hB3 HL2.out.lt)
  clear hl3 hB3 hg3
  go_wp2_with fail
  refine (encoded_any v w2.heap.size n _ hk3).mono ?_
  rintro e4 w4 ⟨r, rfl, hr, hB4⟩
  obtain ⟨ao, rfl⟩ := hr.shape
  have hn := Cm.encoded_len v n
  obtain ⟨fs, hfs⟩ : ∃ fs, fs = Cm.encoded v n := ⟨_, rfl⟩
  rw [← hfs] at hr hn ⊢
  have HFS := Lib.hid hfs
  have HF4 := Lib.hid hr
  have HL4 := Lib.hid (HL3.out.below hB4 HL3.out.lt)
  have HR4 := Lib.hid (HR3.out.kept hB4)
  have HK4 := Lib.hid (HK3.out.below hB4 HK3.out.lt)
  have HS4 := Lib.hid (HS3.out.trans (SavesO.of_below (o := o) hB4))
  have HB4 := Lib.hid (HB3.out.trans (hB4.mono (Nat.le_trans hB HB3.out.size)))
  clear hr hfs hB4 hk3
  go_wp2
  go_loopw [7, 18] (fun _ i wr => ∃ (k : Nat) (t : Cm.Cmd × Nat × Int), i = .int .i64 (k : Int) ∧ k ≤ fs.length ∧ Hid (Below B w wr) ∧ Hid (t = (fs.take k).foldl (Cm.gstep s) (Cm.bareOf n, q, e)) ∧ Hid (Rdr wr B o u s t.2.1 t.2.2) ∧ Hid (Cmds wr w2.heap.size t.1) ∧ Hid (FRow wr w3.heap.size (.slice ao fs.length fs.length) w2.heap.size fs) ∧ Hid (Cmds wr w.heap.size Cm.zero) ∧ Hid (SavesO o w wr)) (fun _ i _ => fs.length - (intOf i).toNat)
  case atStart => exact ⟨0, (Cm.bareOf n, q, e), rfl, by omega, HB4, rfl, HR4, HL4, HF4, HK4, HS4⟩
  case round =>
    obtain ⟨k, t, rfl, hk, HB, HT, HR, HL, HF, HK, HS⟩ := hrel
    by_cases hlt : k < fs.length
    · have hlt' : (k : Int) < (fs.length : Int) := by omega
      obtain ⟨f, hff⟩ : ∃ f, fs[k]? = some f := ⟨_, List.getElem?_eq_getElem hlt⟩
      obtain ⟨g, rfl, hcell⟩ := HF.out.cell hff
      have HFK := Lib.hid hff
      clear hff
      go_wp2_with fail
      refine (fget_any w2.heap.size t f _ B o u s HR.out HL.out (by omega) (by omega)).mono ?_
      rintro e5 w5 ⟨rfl, hl5, hr5, hs5, hb5⟩
      have HL5 := Lib.hid hl5
      have HR5 := Lib.hid hr5
      have HF5 := Lib.hid (HF.out.saves hs5 (by omega) (by omega))
      have HK5 := Lib.hid (hs5 _ _ _ (by omega) (by omega) HK.out)
      have HB5 := Lib.hid (HB.out.trans hb5)
      have HS5 : Hid (SavesO o w w5) := fun k T vs h1 h2 => hs5 k T vs h1 (by have := h2.lt; omega) (HS.out k T vs h1 h2)
      clear hl5 hr5 hs5 hb5
      go_wp2
      go_roundw
      case rel =>
        refine ⟨k + 1, Cm.gstep s t f, by go_num, by omega, HB5, ?_, HR5, HL5, HF5, HK5, HS5⟩
        show _ = _
        rw [List.take_add_one, HFK.out, List.foldl_append, ← HT.out]
        rfl
      case measure => simp [intOf]; omega
    · have hlt' : ¬ (k : Int) < (fs.length : Int) := by omega
      have ht := HT.out
      rw [List.take_of_length_le (by omega), HFS.out, ← HG.out] at ht
      have HT2 := Lib.hid ht
      clear ht
      have p0 : wr.cell? ⟨w2.heap.size, 0, none⟩ = some (.int .i64 t.1.kind) := HL.out.cell 0 _ rfl
      have p1 : wr.cell? ⟨w2.heap.size, 1, none⟩ = some (.int .i64 t.1.client) := HL.out.cell 1 _ rfl
      have p2 : wr.cell? ⟨w2.heap.size, 2, none⟩ = some (.int .i64 t.1.seq) := HL.out.cell 2 _ rfl
      have p3 : wr.cell? ⟨w2.heap.size, 3, none⟩ = some (.string ⟨t.1.key.toArray⟩) := HL.out.cell 3 _ rfl
      have p4 : wr.cell? ⟨w2.heap.size, 4, none⟩ = some (.string ⟨t.1.val.toArray⟩) := HL.out.cell 4 _ rfl
      have p5 : wr.cell? ⟨w2.heap.size, 5, none⟩ = some (.string ⟨t.1.old.toArray⟩) := HL.out.cell 5 _ rfl
      have p6 : wr.cell? ⟨w2.heap.size, 6, none⟩ = some (.int .i64 t.1.node) := HL.out.cell 6 _ rfl
      go_wp2_with (first
        | (refine store_cmd (by rfl) _ _ (by rfl) w.heap.size Cm.zero t.1 (by rfl) (by rfl) HK.out ?_; intro w6 hl6 hg6))
      refine ret_cmd1 rfl rfl hl6 rfl ?_
      rw [← HT2.out]
      exact ⟨⟨rfl, HR.out.beside' hg6 (by omega) (fun h => HK.out.not_row (by decide) HR.out.owns h.symm), HB.out.grown hg6 (Nat.le_trans hB HB.out.size) (by rintro j hj; cases hj; exact hB)⟩,
        fun k T vs h1 h2 => (HS.out k T vs h1 h2).kept hg6 (by have := h2.lt; simp; omega)⟩

/-- What a Get of an entry gives. -/
def EGot (w : World) (B o : Nat) (u : Value) (s : List UInt8) (t : En.Ent × Nat × Int) (e : Ending) (w' : World) : Prop :=
  e = .returned (.agg (En.cells t.1)) ∧ Rdr w' B o u s t.2.1 t.2.2 ∧ Below B w w' ∧ SavesO o w w'

/-- Two blocks for entries. -/
theorem box_ents0 (w : World) : ∃ w2, (w.alloc (.cells (En.cells En.zero) 60)).alloc (.cells (En.cells En.zero) 60) = w2 ∧ Ents w2 w.heap.size En.zero ∧ Ents w2 (w.heap.size + 1) En.zero ∧ Below w.heap.size w w2 ∧ w2.heap.size = w.heap.size + 2 := by
  refine ⟨_, rfl, (Lies.new w _ _).alloc _, ?_, ((Below.refl _ w).alloc (Nat.le_refl _) _).alloc (by simp) _, by simp⟩
  have := Lies.new (w.alloc (.cells (En.cells En.zero) 60)) 60 (En.cells En.zero)
  simpa using this

/-- A reading, and then a store into a block of the call's own: what there is behind both. -/
theorem eget_end {w0 w v w' : World} {B o b : Nat} {u : Value} {s : List UInt8} {q : Nat} {e : Int} {T : TypeId} {vs' : Array Value} (hT : T ≠ 5) (hB : B ≤ w0.heap.size) (hb : w0.heap.size ≤ b) (ho : o < w0.heap.size)
    (HB : Below B w0 w) (HS : SavesO o w0 w) (hr : Rdr v B o u s q e) (hg : w.grownBy v (some o)) (vs : Array Value) (hl : Lies w b T vs) (_hl' : Lies w' b T vs') (hg' : v.grownBy w' (some b)) :
    Rdr w' B o u s q e ∧ Below B w0 w' ∧ SavesO o w0 w' ∧ (∀ k T' us, k ≠ o → k ≠ b → Lies w k T' us → Lies w' k T' us) := by
  have hbo : b ≠ o := by omega
  have hlv : Lies v b T vs := hl.kept hg (by simp; omega)
  refine ⟨hr.beside' hg' hbo (fun h => hlv.not_row hT hr.owns h.symm), ?_, ?_, ?_⟩
  · exact (HB.grown hg (Nat.le_trans hB HB.size) (by rintro x hx; cases hx; exact hr.base)).grown hg' (Nat.le_trans hB (Nat.le_trans HB.size hg.size)) (by rintro x hx; cases hx; omega)
  · intro k T' us h1 h2
    exact ((HS k T' us h1 h2).kept hg (by simp; omega)).kept hg' (by have := h2.lt; simp; omega)
  · intro k T' us h1 h2 h3
    exact (h3.kept hg (by simp; omega)).kept hg' (by simp; omega)

set_option maxRecDepth 4000 in
set_option maxHeartbeats 3200000 in
theorem get1_any (v : Int) (w : World) (B o : Nat) (u : Value) (s : List UInt8) (p : Nat) (er : Int) (hm : Vs.may v = true) (hr : Rdr w B o u s p er) (hB : B ≤ w.heap.size) :
    Calls Tryz.prog 105 #[.pointer (some ⟨o, 0, none⟩), .int .i64 v] w (EGot w B o u s (En.get1 v s p er)) := by
  have ho := hr.lies.lt
  obtain ⟨n1, q1, f1, h1, x1, _, _⟩ := Cm.rnum_res s p er
  obtain ⟨n2, q2, f2, h2, x2, _, _⟩ := Cm.rnum_res s q1 f1
  obtain ⟨n3, q3, f3, h3, x3, _, _⟩ := Cm.rnum_res s q2 f2
  have HG : Hid (En.get1 v s p er = (⟨n1, ⟨n2, n3⟩, (Cm.get v s q3 f3).1⟩, (Cm.get v s q3 f3).2)) := by
    show _ = _
    unfold En.get1
    dsimp only
    rw [h1]
    simp only [Int.toNat_natCast]
    rw [h2]
    simp only [Int.toNat_natCast]
    rw [h3]
    simp only [Int.toNat_natCast]
  have H1 := Lib.hid h1; have H2 := Lib.hid h2; have H3 := Lib.hid h3
  obtain ⟨w1, e1, hk1, hl1, hB1, hz1⟩ := box_ents0 w
  dsimp only [En.cells, En.zero, Cm.zero, Cm.bareOf, Bl.zero] at e1
  have HL1 := Lib.hid hl1; have HK1 := Lib.hid hk1; have HB1 := Lib.hid (hB1.mono hB); have HS1 := Lib.hid (SavesO.of_below (o := o) hB1)
  have HR1 := Lib.hid (hr.kept hB1)
  clear h1 h2 h3 hk1 hl1 hB1 hz1 hr
  go_enter Tryz.func105, Tryz.ntmps105
  go_wp2_with fail
  refine (rnumber_any _ B o u s p er n1 q1 f1 HR1.out x1 H1).mono ?_
  rintro e2 v2 ⟨rfl, hr2, hg2⟩
  go_wp2_with (first
    | (refine store_part (by rfl) _ _ _ (by rfl) (w.heap.size + 1) 0 _ _ (En.cells ⟨n1, Bl.zero, Cm.zero⟩) (.int .i64 n1) [.int .i64 n1] (by rfl) (by rfl) (by rfl) (by kernel_rfl) (by rfl) (HL1.out.kept hg2 (by simp; omega)) (Nat.le_of_ble_eq_true rfl) (by rfl) ?_
       intro w2 hl hg
       obtain ⟨a1, a2, a3, a4⟩ := eget_end (by decide) hB (Nat.le_succ _) ho HB1.out HS1.out hr2 hg2 _ HL1.out hl hg
       have HR2 := Lib.hid a1; have HB2 := Lib.hid a2; have HS2 := Lib.hid a3; have HL2 := Lib.hid hl
       have HK2 := Lib.hid (a4 _ _ _ (by omega) (by omega) HK1.out)
       clear a1 a2 a3 a4 hl hg hr2 hg2)
    | fail)
  refine (rnumber_any _ B o u s q1 f1 n2 q2 f2 HR2.out x2 H2).mono ?_
  rintro e3 v3 ⟨rfl, hr3, hg3⟩
  go_wp2_with (first
    | (refine store_part (by rfl) _ _ _ (by rfl) (w.heap.size + 1) 1 _ _ (En.cells ⟨n1, ⟨n2, 0⟩, Cm.zero⟩) (.int .i64 n2) [.int .i64 n2] (by rfl) (by rfl) (by rfl) (by kernel_rfl) (by rfl) (HL2.out.kept hg3 (by simp; omega)) (Nat.le_of_ble_eq_true rfl) (by rfl) ?_
       intro w3 hl hg
       obtain ⟨a1, a2, a3, a4⟩ := eget_end (by decide) hB (Nat.le_succ _) ho HB2.out HS2.out hr3 hg3 _ HL2.out hl hg
       have HR3 := Lib.hid a1; have HB3 := Lib.hid a2; have HS3 := Lib.hid a3; have HL3 := Lib.hid hl
       have HK3 := Lib.hid (a4 _ _ _ (by omega) (by omega) HK2.out)
       clear a1 a2 a3 a4 hl hg hr3 hg3)
    | fail)
  refine (rnumber_any _ B o u s q2 f2 n3 q3 f3 HR3.out x3 H3).mono ?_
  rintro e4 v4 ⟨rfl, hr4, hg4⟩
  go_wp2_with (first
    | (refine store_part (by rfl) _ _ _ (by rfl) (w.heap.size + 1) 2 _ _ (En.cells ⟨n1, ⟨n2, n3⟩, Cm.zero⟩) (.int .i64 n3) [.int .i64 n3] (by rfl) (by rfl) (by rfl) (by kernel_rfl) (by rfl) (HL3.out.kept hg4 (by simp; omega)) (Nat.le_of_ble_eq_true rfl) (by rfl) ?_
       intro w4 hl hg
       obtain ⟨a1, a2, a3, a4⟩ := eget_end (by decide) hB (Nat.le_succ _) ho HB3.out HS3.out hr4 hg4 _ HL3.out hl hg
       have HR4 := Lib.hid a1; have HB4 := Lib.hid a2; have HS4 := Lib.hid a3; have HL4 := Lib.hid hl
       have HK4 := Lib.hid (a4 _ _ _ (by omega) (by omega) HK3.out)
       clear a1 a2 a3 a4 hl hg hr4 hg4)
    | fail)
  refine (cgetS_any v _ B o u s q3 f3 hm HR4.out (Nat.le_trans hB HB4.out.size)).mono ?_
  rintro e5 v5 ⟨⟨rfl, hr5, hb5⟩, hs5⟩
  obtain ⟨c, hc⟩ : ∃ c, c = Cm.get v s q3 f3 := ⟨_, rfl⟩
  rw [← hc] at hr5 HG ⊢
  have HL5 := Lib.hid (hs5 _ _ _ (by omega) HL4.out); have HK5 := Lib.hid (hs5 _ _ _ (by omega) HK4.out)
  have HR5 := Lib.hid hr5; have HB5 := Lib.hid (HB4.out.trans hb5); have HS5 := Lib.hid (HS4.out.trans hs5)
  clear hr5 hb5 hs5 hc
  go_wp2_with (first
    | (refine store_part (by rfl) _ _ _ (by rfl) (w.heap.size + 1) 3 _ _ (En.cells ⟨n1, ⟨n2, n3⟩, c.1⟩) (.agg (Cm.cells c.1)) (Cm.cells c.1).toList (by rfl) (by rfl) (by rfl) (by kernel_rfl) (by rw [Array.all_toList]; exact Cm.cells_one _) HL5.out (Nat.le_of_ble_eq_true rfl) (by rfl) ?_
       intro w6 hl hg
       have HR6 := Lib.hid (HR5.out.beside' hg (by omega) (fun h => HL5.out.not_row (by decide) HR5.out.owns h.symm))
       have HB6 := Lib.hid (HB5.out.grown hg (Nat.le_trans hB HB5.out.size) (by rintro x hx; cases hx; omega))
       have HS6 : Hid (SavesO o w w6) := fun k T us h1 h2 => (HS5.out k T us h1 h2).kept hg (by have := h2.lt; simp; omega)
       have HL6 := Lib.hid hl; have HK6 := Lib.hid (HK5.out.kept hg (by simp))
       clear hl hg
       obtain ⟨c0, c1, c2, c3, c4, c5, c6, c7, c8, c9⟩ := Ents.ten HL6.out)
    | (refine store_ent (by rfl) _ _ (by rfl) w.heap.size En.zero ⟨n1, ⟨n2, n3⟩, c.1⟩ (by rfl) (by rfl) HK6.out ?_; intro w7 hl7 hg7))
  refine ret_ent1 rfl rfl hl7 rfl ?_
  rw [HG.out]
  exact ⟨rfl, HR6.out.beside' hg7 (by omega) (fun h => HK6.out.not_row (by decide) HR6.out.owns h.symm), HB6.out.grown hg7 (Nat.le_trans hB HB6.out.size) (by rintro x hx; cases hx; exact hB),
    fun k T us h1 h2 => (HS6.out k T us h1 h2).kept hg7 (by have := h2.lt; simp; omega)⟩

/-! A row of entries that a reading makes. -/
/-- The block of a row. -/
abbrev RowE (w : World) (g : Nat) (l : List En.Ent) : Prop := Lies w g 60 (flatR (l.map En.cells)).toArray
theorem En.flat_len10 (l : List En.Ent) : (flatR (l.map En.cells)).length = l.length * 10 := by rw [flatR_len (En.sized l), List.length_map]
theorem En.flat_split (l : List En.Ent) (i : Nat) (e : En.Ent) (h : i < l.length) :
    flatR ((l.set i e).map En.cells) = (flatR (l.map En.cells)).take (i * 10) ++ (En.cells e).toList ++ (flatR (l.map En.cells)).drop (i * 10 + 10) := by
  obtain ⟨a, ha⟩ : ∃ a, l[i]? = some a := ⟨_, List.getElem?_eq_getElem h⟩
  have h1 : l = l.take i ++ (a :: l.drop (i + 1)) := by
    conv => lhs; rw [← List.take_append_drop i l, En.drop_at ha]
  have hlen : (l.take i).length = i := by rw [List.length_take]; omega
  have h2 : l.set i e = l.take i ++ (e :: l.drop (i + 1)) := by
    rw [List.set_eq_take_append_cons_drop, if_pos h]
  have hA : (flatR ((l.take i).map En.cells)).length = i * 10 := by rw [En.flat_len10, hlen]
  have hc : (En.cells a).toList.length = 10 := rfl
  have e1 : flatR (l.map En.cells) = flatR ((l.take i).map En.cells) ++ ((En.cells a).toList ++ flatR ((l.drop (i + 1)).map En.cells)) := by
    conv => lhs; rw [h1]
    rw [List.map_append, flatR_app, List.map_cons, flatR_cons]
  rw [h2, List.map_append, flatR_app, List.map_cons, flatR_cons]
  obtain ⟨X, hX⟩ : ∃ X, X = flatR ((l.take i).map En.cells) := ⟨_, rfl⟩
  obtain ⟨Y, hY⟩ : ∃ Y, Y = flatR ((l.drop (i + 1)).map En.cells) := ⟨_, rfl⟩
  rw [← hX] at hA e1 ⊢
  rw [← hY] at e1 ⊢
  have e2 : (flatR (l.map En.cells)).take (i * 10) = X := by rw [e1, List.take_left' hA]
  have e3 : (flatR (l.map En.cells)).drop (i * 10 + 10) = Y := by rw [e1, ← List.append_assoc, List.drop_left' (by rw [List.length_append, hA, hc])]
  rw [e2, e3, List.append_assoc]
theorem En.made (n : Nat) : madeCells (Value.agg (En.cells En.zero)).cells (n * 10) = (flatR ((List.replicate n En.zero).map En.cells)).toArray := by
  refine Array.ext_getElem? fun j => ?_
  by_cases hj : j < n * 10
  · have hz : (Value.agg (En.cells En.zero)).cells = En.cells En.zero := rfl
    have hi : j / 10 < n := by omega
    have hr : (List.replicate n En.zero).map En.cells = List.replicate n (En.cells En.zero) := by simp
    have h1 := flatR_at (k := 10) (rs := List.replicate n (En.cells En.zero)) (hr ▸ En.sized _) (i := j / 10) (r := En.cells En.zero) (j := j % 10) (u := (En.cells En.zero)[j % 10]'(by show j % 10 < 10; omega)) (by rw [List.getElem?_replicate, if_pos hi]) (Array.getElem?_eq_getElem _)
    rw [show j / 10 * 10 + j % 10 = j by omega] at h1
    have e2 : ∀ (L : List Value) (j : Nat), L.toArray[j]? = L[j]? := fun L j => by simp
    rw [hr, e2 (flatR (List.replicate n (En.cells En.zero))) j, h1, hz]
    unfold madeCells
    rw [Array.getElem?_map, Array.getElem?_range, if_pos hj]
    show some ((En.cells En.zero)[j % 10]!) = _
    rw [getElem!_pos (En.cells En.zero) (j % 10) (by show j % 10 < 10; omega)]
  · rw [Array.getElem?_eq_none (by rw [size_madeCells]; omega), Array.getElem?_eq_none (by rw [List.size_toArray, En.flat_len10, List.length_replicate]; omega)]
theorem RowE.reads {w : World} {g n : Nat} {l : List En.Ent} (h : RowE w g l) (hn : n = l.length) (hm : n ≤ 1048576) : ReadsE w (.slice (some ⟨g, 0, none⟩) n n) l := by
  refine ⟨_, n, by rw [hn, List.length_map], by rw [List.length_map]; omega, by unfold maxLen; omega, (fun h => by cases h), fun a ha i r hr j u hu => ?_⟩
  cases ha
  have h1 := flatR_at (En.sized l) hr hu
  rw [Addr.add_lit, Nat.zero_add]
  exact h.cell _ u (by simpa using h1)
/-- What a list that was read is: nothing, or a block of its own that is not the reader's. -/
def ListE (o : Nat) (w : World) (v : Value) (l : List En.Ent) : Prop := (v = .slice none 0 0 ∧ l = []) ∨ ∃ g, g ≠ o ∧ v = .slice (some ⟨g, 0, none⟩) l.length l.length ∧ l.length ≤ 1048576 ∧ RowE w g l
theorem ListE.reads {o : Nat} {w : World} {v : Value} {l : List En.Ent} (h : ListE o w v l) : ReadsE w v l := by
  rcases h with ⟨rfl, rfl⟩ | ⟨g, _, rfl, hm, hr⟩
  · exact ReadsR.empty w 10
  · exact hr.reads rfl hm
theorem ListE.saves {o : Nat} {w w' : World} {v : Value} {l : List En.Ent} (h : ListE o w v l) (hs : SavesO o w w') : ListE o w' v l := by
  rcases h with h | ⟨g, hg, hv, hm, hr⟩
  · exact .inl h
  · exact .inr ⟨g, hg, hv, hm, hs _ _ _ hg hr⟩
theorem ListE.one {o : Nat} {w : World} {v : Value} {l : List En.Ent} (h : ListE o w v l) : v.oneCell' = true := by
  rcases h with ⟨rfl, _⟩ | ⟨g, _, rfl, _, _⟩ <;> rfl
/-- It lies as it lay where a block of another type is stored into. -/
theorem ListE.kept {o b : Nat} {w w' : World} {v : Value} {l : List En.Ent} {T : TypeId} {vs : Array Value} (h : ListE o w v l) (hl : Lies w b T vs) (hT : T ≠ 60) (hg : w.grownBy w' (some b)) : ListE o w' v l := by
  rcases h with h | ⟨g, hgo, hv, hm, hr⟩
  · exact .inl h
  · refine .inr ⟨g, hgo, hv, hm, Lies.kept hr hg ?_⟩
    intro e
    obtain rfl : g = b := by simpa using e
    have h' : Lies w g T vs := hl
    unfold RowE Lies at hr
    unfold Lies at h'
    rw [hr] at h'
    simp only [Option.some.injEq, Obj.cells.injEq] at h'
    exact hT h'.2.1.symm
def EsGot (w : World) (B o : Nat) (u : Value) (s : List UInt8) (t : List En.Ent × Nat × Int) (e : Ending) (w' : World) : Prop :=
  ∃ v, e = .returned v ∧ ListE o w' v t.1 ∧ Rdr w' B o u s t.2.1 t.2.2 ∧ Below B w w' ∧ SavesO o w w'

theorem rcount_any (w : World) (B o : Nat) (v : Value) (b : List UInt8) (p : Nat) (er x : Int) (q : Nat) (e : Int) (hr : Rdr w B o v b p er) (hx : e ≠ 0 → x = 0) (h : Hid (En.count b p er = (x, (q : Int), e))) :
    Calls Tryz.prog 104 #[.pointer (some ⟨o, 0, none⟩), .int .i64 256] w (Gave w B o v b q e (.int .i64 x)) := by
  by_cases h0 : er = 0
  · subst h0
    exact rcnt_is 256 w B o v b p x q e hr hx h.out
  · have h1 := h.out
    unfold En.count at h1
    rw [if_neg h0] at h1
    simp only [Prod.mk.injEq] at h1
    obtain ⟨rfl, h2, rfl⟩ := h1
    obtain rfl : p = q := by omega
    exact rcnt_err _ er w B o v b p hr h0

set_option maxRecDepth 4000 in
set_option maxHeartbeats 3200000 in
theorem entGet_any (v : Int) (w : World) (B o : Nat) (u : Value) (s : List UInt8) (p : Nat) (er : Int) (hm : Vs.may v = true) (hr : Rdr w B o u s p er) (hB : B ≤ w.heap.size) :
    Calls Tryz.prog 88 #[.pointer (some ⟨o, 0, none⟩), .int .i64 v] w (EsGot w B o u s (En.get v s p er)) := by
  have ho := hr.lies.lt
  obtain ⟨n, q, e, hq, hx, hn⟩ : ∃ (n : Nat) (q : Nat) (e : Int), En.count s p er = ((n : Int), (q : Int), e) ∧ (e ≠ 0 → (n : Int) = 0) ∧ n ≤ 256 := by
    rcases En.count_cases s p er hr.inn with ⟨e, q, he, _, h⟩ | ⟨n, q, _, _, hn, h, _⟩
    · exact ⟨0, q, e, h, fun _ => rfl, by omega⟩
    · exact ⟨n, q, 0, h, fun h => absurd rfl h, hn⟩
  have HQ := Lib.hid hq
  have HG : Hid (En.get v s p er = (if (En.gets v s q e n).2.2 = 0 then (En.gets v s q e n).1 else [], (En.gets v s q e n).2)) := by
    show _ = _
    unfold En.get
    rw [hq]
    simp only [Int.toNat_natCast]
  have HR := Lib.hid hr
  have HLEN := Lib.hid (En.gets_len v s q e)
  clear hq hr
  have hmk := fun W : World => run_make (P := Tryz.prog) W 24 60 (Classical.choose (info_parts info_ent)) (.agg (En.cells En.zero)) Tryz.underlying24 (Classical.choose_spec (info_parts info_ent)).1 (Classical.choose_spec (info_parts info_ent)).2.1 .i64 .i64 (n : Int) (n : Int) (by omega) (by omega) (by rw [(Classical.choose_spec (info_parts info_ent)).2.2.2]; omega) (by omega)
  rw [(Classical.choose_spec (info_parts info_ent)).2.2.1] at hmk
  simp only [Int.toNat_natCast] at hmk
  rw [En.made n] at hmk
  obtain ⟨Z, hZ⟩ : ∃ Z, Z = (flatR ((List.replicate n En.zero).map En.cells)).toArray := ⟨_, rfl⟩
  rw [← hZ] at hmk
  have HZ := Lib.hid hZ
  clear hZ
  go_enter Tryz.func88, Tryz.ntmps88
  go_wp2_with fail
  refine (may_any v _).mono ?_
  rintro e1 w1 ⟨rfl, rfl⟩
  rw [hm]
  go_wp2_with fail
  refine (rcount_any _ B o u s p er n q e HR.out hx HQ).mono ?_
  rintro e2 w2 ⟨rfl, hr2, hg2⟩
  have HB2 := Lib.hid ((Below.refl B w).grown hg2 hB (by rintro x hx; cases hx; exact hr2.base))
  have HS2 := Lib.hid (SavesO.of_grown hg2)
  have ho2 : o < w2.heap.size := hr2.lies.lt
  obtain ⟨w3, e3, hr3, hl3, hb3⟩ : ∃ w3, w2.alloc (.cells Z 60) = w3 ∧ Rdr w3 B o u s q e ∧ RowE w3 w2.heap.size (List.replicate n En.zero) ∧ Below w2.heap.size w2 w3 := by
    refine ⟨_, rfl, hr2.kept ((Below.refl _ _).alloc (Nat.le_refl _) _), ?_, (Below.refl _ _).alloc (Nat.le_refl _) _⟩
    unfold RowE
    rw [← HZ.out]
    exact Lies.new _ _ _
  have HR3 := Lib.hid hr3; have HL3 := Lib.hid hl3; have HB3 := Lib.hid (HB2.out.trans (hb3.mono (Nat.le_trans hB HB2.out.size))); have HS3 := Lib.hid (HS2.out.trans (SavesO.of_below (o := o) hb3))
  clear hr2 hg2 hr3 hl3 hb3
  go_wp2
  go_loopw [6, 15] (fun _ i wr => ∃ (k : Nat), i = .int .i64 (k : Int) ∧ k ≤ n ∧ Hid (Below B w wr) ∧ Hid (SavesO o w wr) ∧ Hid (Rdr wr B o u s (En.gets v s q e k).2.1 (En.gets v s q e k).2.2) ∧ Hid (RowE wr w2.heap.size ((En.gets v s q e k).1 ++ List.replicate (n - k) En.zero))) (fun _ i _ => n - (intOf i).toNat)
  case atStart => exact ⟨0, rfl, by omega, HB3, HS3, HR3, HL3⟩
  case round =>
    obtain ⟨k, rfl, hk, HB, HS, HR, HL⟩ := hrel
    by_cases hlt : k < n
    · have hlen := HLEN.out k
      go_wp2_with fail
      refine (get1_any v _ B o u s _ _ hm HR.out (Nat.le_trans hB HB.out.size)).mono ?_
      rintro e5 w5 ⟨rfl, hr5, hb5, hs5⟩
      obtain ⟨t, ht⟩ : ∃ t, t = En.get1 v s (En.gets v s q e k).2.1 (En.gets v s q e k).2.2 := ⟨_, rfl⟩
      have HST : Hid (En.gets v s q e (k + 1) = ((En.gets v s q e k).1 ++ [t.1], t.2)) := by show _ = _; rw [ht]; rfl
      rw [← ht] at hr5 ⊢
      have HR5 := Lib.hid hr5; have HB5 := Lib.hid (HB.out.trans hb5); have HS5 := Lib.hid (HS.out.trans hs5)
      have HL5 := Lib.hid (hs5 _ _ _ (by omega) HL.out)
      have HSET : Hid (((En.gets v s q e k).1 ++ List.replicate (n - k) En.zero).set k t.1 = (En.gets v s q e (k + 1)).1 ++ List.replicate (n - (k + 1)) En.zero) := by
        show _ = _
        rw [HST.out, show n - k = (n - (k + 1)) + 1 by omega, List.replicate_succ, List.set_append_right _ _ (by omega), hlen, Nat.sub_self, List.set_cons_zero]
        simp
      have HLL : Hid (k < ((En.gets v s q e k).1 ++ List.replicate (n - k) En.zero).length ∧ (flatR (((En.gets v s q e k).1 ++ List.replicate (n - k) En.zero).map En.cells)).length = n * 10) := by
        constructor
        · rw [List.length_append, List.length_replicate, hlen]; omega
        · rw [En.flat_len10, List.length_append, List.length_replicate, hlen]; omega
      obtain ⟨L, hL⟩ : ∃ L, L = (En.gets v s q e k).1 ++ List.replicate (n - k) En.zero := ⟨_, rfl⟩
      rw [← hL] at HSET HL5 HLL
      clear hr5 hb5 hs5 ht hL hlen
      go_wp2_with (first
        | (refine store_part (by rfl) _ _ _ (by rfl) w2.heap.size (k * 10) _ _ (flatR ((L.set k t.1).map En.cells)).toArray (.agg (En.cells t.1)) (En.cells t.1).toList (by rfl) (by rfl) (by rfl) (by kernel_rfl) (by rw [Array.all_toList]; exact (En.cells_one _).2) HL5.out (by rw [List.size_toArray, HLL.out.2]; show k * 10 + 10 ≤ _; omega) (En.flat_split L k t.1 HLL.out.1) ?_
           intro w6 hl hg
           rw [HSET.out] at hl
           have HL6 := Lib.hid hl
           have HR6 := Lib.hid (HR5.out.beside' hg (by omega) (fun h => HL5.out.not_row (by decide) HR5.out.owns h.symm))
           have HB6 := Lib.hid (HB5.out.grown hg (Nat.le_trans hB HB5.out.size) (by rintro x hx; cases hx; exact Nat.le_trans hB HB2.out.size))
           have HS6 : Hid (SavesO o w w6) := fun j T us h1 h2 => (HS5.out j T us h1 h2).kept hg (by have := h2.lt; have := HB2.out.size; simp; omega)
           clear hl hg)
        | fail)
      go_roundw
      case rel =>
        refine ⟨k + 1, by go_num, by omega, HB6, HS6, ?_, HL6⟩
        show Rdr _ _ _ _ _ _ _
        rw [HST.out]
        exact HR6.out
      case measure => simp [intOf]; omega
    · obtain rfl : k = n := by omega
      have hl9 := HL.out
      rw [Nat.sub_self, List.replicate_zero, List.append_nil] at hl9
      have HL9 := Lib.hid hl9
      have hlen := HLEN.out k
      obtain ⟨t, ht⟩ : ∃ t, t = En.gets v s q e k := ⟨_, rfl⟩
      rw [← ht] at HG HR HL9 hlen
      clear hl9 ht
      go_wp2_with fail
      refine (rerr_any _ B o u s _ _ HR.out).mono ?_
      rintro e7 w7 ⟨rfl, rfl⟩
      by_cases h0 : t.2.2 = 0
      · have d0 : (t.2.2 != 0) = false := by simpa using h0
        have HZ2 : Hid (En.get v s p er = (t.1, t.2)) := HG.out.trans (by rw [if_pos h0])
        clear h0
        go_wp2
        go_ret
        rw [HZ2.out]
        exact ⟨_, rfl, .inr ⟨w2.heap.size, by omega, by show _ = Value.slice _ t.1.length t.1.length; rw [hlen]; rfl, by show t.1.length ≤ _; omega, HL9.out⟩, HR.out, HB.out, HS.out⟩
      · have d0 : (t.2.2 != 0) = true := by simpa using h0
        have HZ2 : Hid (En.get v s p er = ([], t.2)) := HG.out.trans (by rw [if_neg h0])
        clear h0
        go_wp2
        go_ret
        rw [HZ2.out]
        exact ⟨_, rfl, .inl ⟨rfl, rfl⟩, HR.out, HB.out, HS.out⟩

end Go.Proofs.YtndicjpbanmpjaaGreatDoor


namespace Go.Proofs.YtndicjpbanmpjaaGreatDoor
open Go.RowKit

theorem Ms.rnums_succ (b : List UInt8) (k : Nat) : Ms.rnums b (k + 1) = ((Ms.rnums b k).1 ++ [(Cm.rnum b (Ms.rnums b k).2.1 (Ms.rnums b k).2.2).1], (Cm.rnum b (Ms.rnums b k).2.1 (Ms.rnums b k).2.2).2.1.toNat, (Cm.rnum b (Ms.rnums b k).2.1 (Ms.rnums b k).2.2).2.2) := rfl
theorem Ms.ofNums_set : ∀ (L : List Int) (n : Int) (ve vi : Value), L.length < 7 → (Ms.cells (Ms.ofNums (L ++ [n])) ve vi).toList = (Ms.cells (Ms.ofNums L) ve vi).toList.take L.length ++ [.int .i64 n] ++ (Ms.cells (Ms.ofNums L) ve vi).toList.drop (L.length + 1)
  | [], _, _, _, _ => rfl
  | [_], _, _, _, _ => rfl
  | [_, _], _, _, _, _ => rfl
  | [_, _, _], _, _, _, _ => rfl
  | [_, _, _, _], _, _, _, _ => rfl
  | [_, _, _, _, _], _, _, _, _ => rfl
  | [_, _, _, _, _, _], _, _, _, _ => rfl
  | _ :: _ :: _ :: _ :: _ :: _ :: _ :: r, _, _, _, h => by simp at h; omega
theorem Ms.cells_no8 (m : Ms.Msg) (eo io : Option Addr) (en ec ik ic : Nat) (c : Int) : ∀ k : Nat, (Ms.cells m (.slice eo en ec) (.slice io ik ic))[k]? ≠ some (Value.int .u8 c)
  | 0 => by simp [Ms.cells]
  | 1 => by simp [Ms.cells]
  | 2 => by simp [Ms.cells]
  | 3 => by simp [Ms.cells]
  | 4 => by simp [Ms.cells]
  | 5 => by simp [Ms.cells]
  | 6 => by simp [Ms.cells]
  | 7 => by simp [Ms.cells]
  | 8 => by simp [Ms.cells]
  | 9 => by simp [Ms.cells]
  | k + 10 => by simp [Ms.cells]
/-- Bytes lie as they lay where a message's block is stored into. -/
theorem Reads.kept_msg {w w' : World} {b : Nat} {v : Value} {l : List UInt8} {m : Ms.Msg} {eo io : Option Addr} {en ec ik ic : Nat} (h : Reads w v l) (hl : Msgs w b m (.slice eo en ec) (.slice io ik ic)) (hg : w.grownBy w' (some b)) : Reads w' v l := by
  obtain ⟨ao, cap, rfl, h1, h2, h3, h4⟩ := h
  refine ⟨ao, cap, rfl, h1, h2, h3, fun x hx j u hu => ?_⟩
  have hc := h4 x hx j u hu
  rw [← hc]
  refine World.cell?_of_block ?_
  have hlt := World.block_lt_of_cell? w _ hc
  rw [add_block] at hlt ⊢
  refine hg.block _ hlt ?_
  intro hb
  obtain ⟨blk, off, spot⟩ := x
  obtain rfl : blk = b := by simpa using hb
  have hadd : (Addr.add ⟨blk, off, spot⟩ j) = ⟨blk, off + j, none⟩ := by
    have h := World.cell?_spot hc
    by_cases h0 : j = 0
    · subst h0
      simpa [Addr.add] using h
    · simp [Addr.add, h0]
  rw [hadd] at hc
  obtain ⟨c, hcm, rfl⟩ := List.mem_map.1 (List.mem_of_getElem? hu)
  have hl' : w.heap[blk]? = some (.cells (Ms.cells m (.slice eo en ec) (.slice io ik ic)) 27 (0, 0)) := hl
  simp only [World.cell?, hl'] at hc
  exact Ms.cells_no8 m eo io en ec ik ic _ _ (by simpa using hc)
theorem ListE.slice {o : Nat} {w : World} {v : Value} {l : List En.Ent} (h : ListE o w v l) : ∃ ao n c, v = .slice ao n c := by
  rcases h with ⟨rfl, _⟩ | ⟨g, _, rfl, _, _⟩ <;> exact ⟨_, _, _, rfl⟩

/-- Raw, whether there is an error or not. -/
theorem rrawM_any (w : World) (B o : Nat) (v : Value) (b : List UInt8) (p : Nat) (er : Int) (x : List UInt8) (q : Nat) (e : Int) (hr : Rdr w B o v b p er) (hx : e ≠ 0 → x = []) (hl : x.length ≤ 70368744177664) (h : Hid (Ms.raw b p er = (x, (q : Int), e))) :
    Calls Tryz.prog 89 #[.pointer (some ⟨o, 0, none⟩), .int .i64 32768] w (fun en w' => ∃ u, Gave w B o v b q e u en w' ∧ Reads w' u x) := by
  by_cases h0 : er = 0
  · subst h0
    exact rraw_is 32768 w B o v b p x q e hr hx hl h.out
  · have h1 := h.out
    unfold Ms.raw at h1
    rw [if_neg h0] at h1
    simp only [Prod.mk.injEq] at h1
    obtain ⟨rfl, h2, rfl⟩ := h1
    obtain rfl : p = q := by omega
    exact (rraw_err 32768 er w B o v b p hr h0).mono fun en w' hg => ⟨_, hg, Reads.empty _⟩

/-- What a reading gives. -/
def MGot (w : World) (B o : Nat) (u : Value) (s : List UInt8) (t : Ms.Msg × Nat × Int) (e : Ending) (w' : World) : Prop :=
  ∃ ve vi, e = .returned (.agg (Ms.cells t.1 ve vi)) ∧ ListE o w' ve t.1.ents ∧ Reads w' vi t.1.img ∧ Rdr w' B o u s t.2.1 t.2.2 ∧ Below B w w'

set_option maxRecDepth 4000 in
set_option maxHeartbeats 3200000 in
theorem readM_any (w : World) (B o : Nat) (u : Value) (s : List UInt8) (hF : ∀ W, Below B w W → FieldsIn W) (hr : Rdr w B o u s 0 0) (hB : B ≤ w.heap.size) :
    Calls Tryz.prog 68 #[.pointer (some ⟨o, 0, none⟩)] w (MGot w B o u s (Ms.get s)) := by
  have ho := hr.lies.lt
  have hsm := hr.small
  obtain ⟨w1, e1, hk1, hl1, hB1, hz1⟩ := box_msgs w Ms.zero (.slice none 0 0) (.slice none 0 0) Ms.zero (.slice none 0 0) (.slice none 0 0)
  dsimp only [Ms.cells, Ms.zero, Bl.zero] at e1
  have HL1 := Lib.hid hl1; have HK1 := Lib.hid hk1; have HB1 := Lib.hid (hB1.mono hB); have HS1 := Lib.hid (SavesO.of_below (o := o) hB1)
  have HR1 := Lib.hid (hr.kept hB1); have HF := Lib.hid hF; have HZ := Lib.hid hz1
  have HINV : Hid ((Ms.gotR s).1.length ≤ s.length) := (Ms.get_inv s).2.2.2
  clear hk1 hl1 hB1 hz1 hr hF
  go_enter Tryz.func68, Tryz.ntmps68
  go_wp2_with fail
  refine (numbersM_any (w.heap.size + 1) _).mono ?_
  rintro e2 w2 ⟨rfl, hp2, hb2⟩
  have HL2 := Lib.hid (HL1.out.below hb2 HL1.out.lt); have HK2 := Lib.hid (HK1.out.below hb2 HK1.out.lt); have HP2 := Lib.hid hp2
  have HR2 := Lib.hid (HR1.out.kept hb2); have HB2 := Lib.hid (HB1.out.trans (hb2.mono (Nat.le_trans hB HB1.out.size))); have HS2 := Lib.hid (HS1.out.trans (SavesO.of_below (o := o) hb2))
  clear hp2 hb2
  go_wp2
  go_loopw [5, 8] (fun _ i wr => ∃ (k : Nat), i = .int .i64 (k : Int) ∧ k ≤ 7 ∧ Hid (Below B w wr) ∧ Hid (SavesO o w wr) ∧ Hid (Rdr wr B o u s (Ms.rnums s k).2.1 (Ms.rnums s k).2.2) ∧ Hid (Msgs wr (w.heap.size + 1) (Ms.ofNums (Ms.rnums s k).1) (.slice none 0 0) (.slice none 0 0)) ∧ Hid (Msgs wr w.heap.size Ms.zero (.slice none 0 0) (.slice none 0 0)) ∧ Hid (Ptrs wr w1.heap.size (w.heap.size + 1))) (fun _ i _ => 7 - (intOf i).toNat)
  case atStart => exact ⟨0, rfl, by omega, HB2, HS2, HR2, HL2, HK2, HP2⟩
  case round =>
    obtain ⟨k, rfl, hk, HB, HS, HR, HL, HK, HP⟩ := hrel
    by_cases hlt : k < 7
    · have hp := HP.out.at k hlt
      have hlen := Ms.rnums_len s k
      obtain ⟨n, q, e, hq, hx, _, _⟩ := Cm.rnum_res s (Ms.rnums s k).2.1 (Ms.rnums s k).2.2
      have HQ := Lib.hid hq
      have HST : Hid (Ms.rnums s (k + 1) = ((Ms.rnums s k).1 ++ [n], q, e)) := by
        show _ = _
        rw [Ms.rnums_succ, hq]
        simp
      obtain ⟨L, hL⟩ : ∃ L, L = (Ms.rnums s k).1 := ⟨_, rfl⟩
      rw [← hL] at HST hlen HL
      have HLE := Lib.hid hlen
      clear hq hL hlen
      go_wp2_with fail
      refine (rnumber_any _ B o u s _ _ n q e HR.out hx HQ).mono ?_
      rintro e5 v5 ⟨rfl, hr5, hg5⟩
      have hl5 : Msgs v5 (w.heap.size + 1) (Ms.ofNums L) (.slice none 0 0) (.slice none 0 0) := HL.out.kept hg5 (by simp; omega)
      go_wp2_with (first
        | (refine store_part (by rfl) _ _ _ (by rfl) (w.heap.size + 1) k _ _ (Ms.cells (Ms.ofNums (L ++ [n])) (.slice none 0 0) (.slice none 0 0)) (.int .i64 n) [.int .i64 n] (by rfl) (by rfl) (by rfl) (by kernel_rfl) (by rfl) hl5 (show k + 1 ≤ 10 by omega) (by have h := Ms.ofNums_set L n (.slice none 0 0) (.slice none 0 0) (by rw [HLE.out]; exact hlt); rw [HLE.out] at h; exact h) ?_
           intro w6 hl hg
           obtain ⟨a1, a2, a3, a4⟩ := eget_end (by decide) hB (Nat.le_succ _) ho HB.out HS.out hr5 hg5 _ HL.out hl hg
           have HR6 := Lib.hid a1; have HB6 := Lib.hid a2; have HS6 := Lib.hid a3; have HL6 := Lib.hid hl
           have HK6 := Lib.hid (a4 _ _ _ (by omega) (by omega) HK.out)
           have HP6 := Lib.hid (a4 _ _ _ (by have := HZ.out; omega) (by have := HZ.out; omega) HP.out)
           clear a1 a2 a3 a4 hl hg hr5 hg5 hl5 hp)
        | fail)
      go_roundw
      case rel =>
        refine ⟨k + 1, by go_num, by omega, HB6, HS6, ?_, ?_, HK6, HP6⟩
        · show Rdr _ _ _ _ _ _ _
          rw [HST.out]
          exact HR6.out
        · show Msgs _ _ _ _ _
          rw [HST.out]
          exact HL6.out
      case measure => simp [intOf]; omega
    · obtain rfl : k = 7 := by omega
      go_wp2_with fail
      refine (entGet_any 1 _ B o u s _ _ rfl HR.out (Nat.le_trans hB HB.out.size)).mono ?_
      rintro e6 w6 ⟨ve, rfl, hle, hr6, hb6, hs6⟩
      obtain ⟨vo, vn, vc, rfl⟩ := hle.slice
      have HE6 := Lib.hid hle; have HR6 := Lib.hid hr6; have HB6 := Lib.hid (HB.out.trans hb6); have HS6 := Lib.hid (HS.out.trans hs6)
      have HL6 := Lib.hid (hs6 _ _ _ (by omega) HL.out); have HK6 := Lib.hid (hs6 _ _ _ (by omega) HK.out)
      obtain ⟨L, hL⟩ : ∃ L, L = (Ms.rnums s 7).1 := ⟨_, rfl⟩
      have HLL := Lib.hid hL
      rw [← hL] at HL6
      clear hle hr6 hb6 hs6 hL
      go_wp2_with (first
        | (refine store_part (by rfl) _ _ _ (by rfl) (w.heap.size + 1) 8 _ _ (Ms.cells (Ms.ofNums L) (.slice vo vn vc) (.slice none 0 0)) (.slice vo vn vc) [.slice vo vn vc] (by rfl) (by rfl) (by rfl) (by kernel_rfl) (by rfl) HL6.out (Nat.le_of_ble_eq_true rfl) (by rfl) ?_
           intro w7 hl hg
           have HR7 := Lib.hid (HR6.out.beside' hg (by omega) (fun h => HL6.out.not_row (by decide) HR6.out.owns h.symm))
           have HB7 := Lib.hid (HB6.out.grown hg (Nat.le_trans hB HB6.out.size) (by rintro x hx; cases hx; omega))
           have HE7 := Lib.hid (HE6.out.kept HL6.out (by decide) hg)
           have HL7 := Lib.hid hl; have HK7 := Lib.hid (HK6.out.kept hg (by simp))
           clear hl hg)
        | fail)
      obtain ⟨x, q, e, hq, hx⟩ : ∃ (x : List UInt8) (q : Nat) (e : Int), Ms.raw s (Ms.gotE s).2.1 (Ms.gotE s).2.2 = (x, (q : Int), e) ∧ (e ≠ 0 → x = []) := by
        rcases Ms.raw_cases s (Ms.gotE s).2.1 (Ms.gotE s).2.2 (En.get_le 1 s _ _ (Ms.rnums_le s 7)) with ⟨e, q, _, _, h⟩ | ⟨x, q, _, _, _, h, _⟩
        · exact ⟨[], q, e, h, fun _ => rfl⟩
        · exact ⟨x, q, 0, h, fun h => absurd rfl h⟩
      have HGR : Hid (Ms.gotR s = (x, (q : Int), e)) := hq
      have HXL : Hid (x.length ≤ 70368744177664) := by have := HINV.out; rw [HGR.out] at this; exact Nat.le_trans this hsm
      have HQ := Lib.hid hq
      clear hq
      refine (rrawM_any _ B o (u) s _ _ x q e HR7.out hx HXL.out HQ).mono ?_
      rintro e8 v8 ⟨vi, ⟨rfl, hr8, hg8⟩, hi8⟩
      obtain ⟨io, ic, rfl⟩ := hi8.shape
      obtain ⟨xn, hxn⟩ : ∃ xn, xn = x.length := ⟨_, rfl⟩
      rw [← hxn] at hi8 ⊢
      have HL8 := Lib.hid (HL7.out.kept hg8 (by simp; omega)); have HK8 := Lib.hid (HK7.out.kept hg8 (by simp; omega))
      have HE8 := Lib.hid (HE7.out.saves (SavesO.of_grown hg8)); have HI8 := Lib.hid hi8; have HR8 := Lib.hid hr8
      have HB8 := Lib.hid (HB7.out.grown hg8 (Nat.le_trans hB HB7.out.size) (by rintro x hx; cases hx; exact hr8.base))
      clear hg8 hi8 hr8 hxn
      obtain ⟨M, hM⟩ : ∃ M : Ms.Msg, M = ⟨Ms.nth L 0, Ms.nth L 1, Ms.nth L 2, ⟨Ms.nth L 3, Ms.nth L 4⟩, Ms.nth L 5, Ms.nth L 6, 0, (Ms.gotE s).1, x⟩ := ⟨_, rfl⟩
      have HMC : Hid (∀ a b, Ms.cells (Ms.ofNums L) a b = Ms.cells M a b) := fun a b => by rw [hM]; rfl
      have HMV : Hid (∀ a b, Ms.cells (Ms.gotM s) a b = Ms.cells {M with version := if Ms.hv M.kind = true then 1 else 0} a b) := fun a b => by rw [hM, HLL.out]; rfl
      have HGET : Hid (Ms.get s = (Ms.gotM s, q, e)) := by show _ = _; unfold Ms.get; rw [HGR.out]; simp
      have HFI : Hid ((Ms.gotM s).ents = (Ms.gotE s).1 ∧ (Ms.gotM s).img = x) := ⟨rfl, by show (Ms.gotR s).1 = x; rw [HGR.out]⟩
      have HV0 : Hid (M = {M with version := 0}) := by show _ = _; rw [hM]
      obtain ⟨b1, _, _, _, _, _⟩ := Ms.bits M.kind
      obtain ⟨t, ht⟩ : ∃ t, t = Ms.hv M.kind := ⟨_, rfl⟩
      rw [← ht] at b1 HMV
      have HBT := Lib.hid b1
      clear hM b1 ht
      go_wp2_with (first
        | (refine store_part (by rfl) _ _ _ (by rfl) (w.heap.size + 1) 9 _ _ (Ms.cells M (.slice vo vn vc) (.slice io xn ic)) (.slice io xn ic) [.slice io xn ic] (by rfl) (by rfl) (by rfl) (by kernel_rfl) (by rfl) HL8.out (Nat.le_of_ble_eq_true rfl) (by rw [← HMC.out]; rfl) ?_
           intro w9 hl hg
           have HR9 := Lib.hid (HR8.out.beside' hg (by omega) (fun h => HL8.out.not_row (by decide) HR8.out.owns h.symm))
           have HB9 := Lib.hid (HB8.out.grown hg (Nat.le_trans hB HB8.out.size) (by rintro x hx; cases hx; omega))
           have HE9 := Lib.hid (HE8.out.kept HL8.out (by decide) hg); have HI9 := Lib.hid (HI8.out.kept_msg HL8.out hg)
           have HL9 := Lib.hid hl; have HK9 := Lib.hid (HK8.out.kept hg (by simp))
           clear hl hg
           obtain ⟨p0, p1, p2, p3, p4, p5, p6, p7, p8, p9⟩ := Msgs.ten HL9.out)
        | fail)
      refine (hasM_any M (.slice vo vn vc) (.slice io xn ic) 1 t _ (HF.out _ HB9.out) HBT.out).mono ?_
      rintro ea wa ⟨rfl, hb⟩
      have HRa := Lib.hid (HR9.out.kept hb); have HBa := Lib.hid (HB9.out.trans (hb.mono (Nat.le_trans hB HB9.out.size)))
      have HEa := Lib.hid (HE9.out.saves (SavesO.of_below hb)); have HIa := Lib.hid (HI9.out.below hb)
      have HLa := Lib.hid (HL9.out.below hb HL9.out.lt); have HKa := Lib.hid (HK9.out.below hb HK9.out.lt)
      clear hb p0 p1 p2 p3 p4 p5 p6 p7 p8 p9
      cases t with
      | false =>
        obtain ⟨p0, p1, p2, p3, p4, p5, p6, p7, p8, p9⟩ := Msgs.ten HLa.out
        have HC : Hid (∀ a b, Ms.cells (Ms.gotM s) a b = Ms.cells M a b) := fun a b => by rw [HMV.out]; rw [HV0.out]; rfl
        go_wp2_with (refine store_msg (by rfl) _ _ (by rfl) w.heap.size Ms.zero _ _ M (.slice vo vn vc) (.slice io xn ic) (by rfl) (by rfl) rfl rfl HKa.out ?_; intro wb hlb hgb)
        refine ret_msg1 rfl rfl hlb rfl ?_
        rw [HGET.out, ← HC.out]
        exact ⟨_, _, rfl, by rw [HFI.out.1]; exact HEa.out.kept HKa.out (by decide) hgb, by rw [HFI.out.2]; exact HIa.out.kept_msg HKa.out hgb, HRa.out.beside' hgb (by omega) (fun h => HKa.out.not_row (by decide) HRa.out.owns h.symm), HBa.out.grown hgb (Nat.le_trans hB HBa.out.size) (by rintro x hx; cases hx; exact hB)⟩
      | true =>
        go_wp2_with (first
          | (refine store_part (by rfl) _ _ _ (by rfl) (w.heap.size + 1) 7 _ _ (Ms.cells {M with version := 1} (.slice vo vn vc) (.slice io xn ic)) (.int .i64 1) [.int .i64 1] (by rfl) (by rfl) (by rfl) (by kernel_rfl) (by rfl) HLa.out (Nat.le_of_ble_eq_true rfl) (by rfl) ?_
             intro wc hl hg
             have HRc := Lib.hid (HRa.out.beside' hg (by omega) (fun h => HLa.out.not_row (by decide) HRa.out.owns h.symm))
             have HBc := Lib.hid (HBa.out.grown hg (Nat.le_trans hB HBa.out.size) (by rintro x hx; cases hx; omega))
             have HEc := Lib.hid (HEa.out.kept HLa.out (by decide) hg); have HIc := Lib.hid (HIa.out.kept_msg HLa.out hg)
             have HLc := Lib.hid hl; have HKc := Lib.hid (HKa.out.kept hg (by simp))
             clear hl hg
             obtain ⟨p0, p1, p2, p3, p4, p5, p6, p7, p8, p9⟩ := Msgs.ten HLc.out)
          | (refine store_msg (by rfl) _ _ (by rfl) w.heap.size Ms.zero _ _ {M with version := 1} (.slice vo vn vc) (.slice io xn ic) (by rfl) (by rfl) rfl rfl HKc.out ?_; intro wb hlb hgb))
        refine ret_msg1 rfl rfl hlb rfl ?_
        rw [HGET.out]
        refine ⟨.slice vo vn vc, .slice io xn ic, by rw [HMV.out]; rfl, by rw [HFI.out.1]; exact HEc.out.kept HKc.out (by decide) hgb, by rw [HFI.out.2]; exact HIc.out.kept_msg HKc.out hgb, HRc.out.beside' hgb (by omega) (fun h => HKc.out.not_row (by decide) HRc.out.owns h.symm), HBc.out.grown hgb (Nat.le_trans hB HBc.out.size) (by rintro x hx; cases hx; exact hB)⟩

end Go.Proofs.YtndicjpbanmpjaaGreatDoor


namespace Go.Proofs.YtndicjpbanmpjaaGreatDoor
open Go.RowKit

/-- What a decoding gives. -/
def MDecd (w : World) (r : Ms.Msg × Int) (e : Ending) (w' : World) : Prop :=
  Below w.heap.size w w' ∧ ∃ ve vi, e = .returned (.tuple #[.agg (Ms.cells r.1 ve vi), .int .i64 r.2]) ∧ ReadsE w' ve r.1.ents ∧ Reads w' vi r.1.img ∧ ve.oneCell' = true ∧ vi.oneCell' = true

set_option maxRecDepth 4000 in
set_option maxHeartbeats 3200000 in
theorem decodeM_any (u : Value) (s : List UInt8) (w : World) (hF : FieldsIn w) (hW : WordsIn w) (hu : Reads w u s) (hb : s.length ≤ 100000) :
    Calls Tryz.prog 44 #[u] w (MDecd w (Ms.decode s)) := by
  obtain ⟨w1, e1, hl1, hB1, hz1⟩ := box_msg w Ms.zero (.slice none 0 0) (.slice none 0 0)
  dsimp only [Ms.cells, Ms.zero, Bl.zero] at e1
  have HK1 := Lib.hid hl1; have HB1 := Lib.hid hB1; have HU1 := Lib.hid (hu.below hB1); have HZ := Lib.hid hz1
  have HF := Lib.hid (fun W (h : Below w.heap.size w W) => hF.below h); have HW := Lib.hid (fun W (h : Below w.heap.size w W) => hW.below h)
  obtain ⟨r, hr⟩ : ∃ r, r = Ms.decode s := ⟨_, rfl⟩
  rw [← hr]
  unfold Ms.decode at hr
  obtain ⟨hinv1, hinv2, _, hinv4⟩ := Ms.get_inv s
  obtain ⟨t, ht⟩ : ∃ t, t = Ms.get s := ⟨_, rfl⟩
  rw [← ht] at hr hinv1 hinv2 hinv4
  have HT := Lib.hid ht; have HRES := Lib.hid hr
  have HSH : Hid (∀ e ∈ t.1.ents, e.cmd.Short 140737488355328) := fun e he => ⟨Nat.le_trans (hinv2 e he).1 (by omega), Nat.le_trans (hinv2 e he).2.1 (by omega), Nat.le_trans (hinv2 e he).2.2 (by omega)⟩
  clear hl1 hB1 hz1 hu hr ht hF hW hinv1 hinv2 hinv4
  go_enter Tryz.func44, Tryz.ntmps44
  go_wp2_with fail
  refine (newreader_any u s _ w1.heap.size (Nat.le_refl _) HU1.out (by omega)).mono ?_
  rintro e2 w2 ⟨o, rv, rfl, ho, hr2, hb2⟩
  have HK2 := Lib.hid (HK1.out.below hb2 HK1.out.lt); have HB2 := Lib.hid (HB1.out.trans (hb2.mono HB1.out.size)); have HR2 := Lib.hid hr2
  have HX2 := Lib.hid hb2
  have hlo : w.heap.size < o := by have := HZ.out; omega
  clear hr2 hb2
  go_wp2_with fail
  refine (readM_any _ w1.heap.size o rv s (fun W h => HF.out W (HB1.out.trans ((HX2.out.trans h).mono HB1.out.size))) HR2.out HX2.out.size).mono ?_
  rintro e3 w3 ⟨ve, vi, rfl, hle, hi, hr3, hb3⟩
  rw [← HT.out] at hle hi hr3 ⊢
  obtain ⟨vo, vn, vc, rfl⟩ := hle.slice
  obtain ⟨io, ic, rfl⟩ := hi.shape
  obtain ⟨xn, hxn⟩ : ∃ xn, xn = t.1.img.length := ⟨_, rfl⟩
  rw [← hxn] at hi ⊢
  have HE3 := Lib.hid hle; have HI3 := Lib.hid hi; have HR3 := Lib.hid hr3; have HB3 := Lib.hid (HB2.out.trans (hb3.mono (Nat.le_of_lt (by have := HZ.out; omega))))
  have HK3 := Lib.hid (HK2.out.below hb3 (by have := HZ.out; omega))
  clear hle hi hr3 hb3 hxn
  have hlt3 : w.heap.size < w3.heap.size := HK3.out.lt
  go_wp2_with (first
    | (refine store_msg (by rfl) _ _ (by rfl) w3.heap.size Ms.zero _ _ t.1 (.slice vo vn vc) (.slice io xn ic) (by rfl) (by rfl) rfl rfl (Lies.new _ _ _) ?_
       intro w4 hl4 hg4
       have hb := fresh_below hg4
       have HE4 := Lib.hid (HE3.out.saves (SavesO.of_below hb)); have HI4 := Lib.hid (HI3.out.below hb); have HR4 := Lib.hid (HR3.out.kept hb)
       have HK4 := Lib.hid (HK3.out.below hb HK3.out.lt); have HM4 := Lib.hid hl4; have HB4 := Lib.hid (HB3.out.trans (hb.mono HB3.out.size))
       clear hl4 hg4 hb)
    | fail)
  refine (rdone_any _ w1.heap.size o rv s t.2.1 t.2.2 HR4.out).mono ?_
  rintro e5 w5 ⟨rfl, q5, rfl⟩
  have hb := drawn w4 q5
  have HE5 := Lib.hid (HE4.out.saves (SavesO.of_below hb)); have HI5 := Lib.hid (HI4.out.below hb)
  have HK5 := Lib.hid (HK4.out.below hb HK4.out.lt); have HM5 := Lib.hid (HM4.out.below hb HM4.out.lt); have HB5 := Lib.hid (HB4.out.trans (hb.mono HB4.out.size))
  obtain ⟨w5, hw5⟩ : ∃ w5, w5 = w4.drewN q5 := ⟨_, rfl⟩
  rw [← hw5] at HE5 HI5 HK5 HM5 HB5 ⊢
  clear hb hw5
  obtain ⟨z, hz⟩ : ∃ z, z = Cm.done s t.2.1 t.2.2 := ⟨_, rfl⟩
  rw [show Pk.done s t.2.1 t.2.2 = z from hz.symm]
  rw [← hz] at HRES
  clear hz
  by_cases h0 : z = 0
  · subst h0
    have HR5 := Lib.hid (HRES.out.trans (if_neg (by simp)))
    obtain ⟨p0, p1, p2, p3, p4, p5, p6, p7, p8, p9⟩ := Msgs.ten HM5.out
    have HOL := Lib.hid (olderM_any t.1 (.slice vo vn vc) (.slice io xn ic) w5 (HF.out _ HB5.out) (HW.out _ HB5.out) HE5.out.reads HI5.out HSH.out)
    obtain ⟨y, hy⟩ : ∃ y, y = Ms.older t.1 := ⟨_, rfl⟩
    rw [← hy] at HOL HR5
    clear hy
    go_wp2_with fail
    refine HOL.out.mono ?_
    rintro e6 w6 ⟨rfl, hb⟩
    have HE6 := Lib.hid (HE5.out.saves (SavesO.of_below hb)); have HI6 := Lib.hid (HI5.out.below hb)
    have HK6 := Lib.hid (HK5.out.below hb HK5.out.lt); have HM6 := Lib.hid (HM5.out.below hb HM5.out.lt); have HB6 := Lib.hid (HB5.out.trans (hb.mono HB5.out.size))
    clear hb p0 p1 p2 p3 p4 p5 p6 p7 p8 p9
    obtain ⟨p0, p1, p2, p3, p4, p5, p6, p7, p8, p9⟩ := Msgs.ten HM6.out
    by_cases hy0 : y = 0
    · subst hy0
      have HZ2 : Hid (r = (t.1, 0)) := HR5.out.trans (if_neg (by simp))
      go_wp2_with (refine store_msg (by rfl) _ _ (by rfl) w.heap.size Ms.zero _ _ t.1 (.slice vo vn vc) (.slice io xn ic) (by rfl) (by rfl) rfl rfl HK6.out ?_; intro w7 hl7 hg7)
      refine ret_msg2 rfl rfl hl7 rfl ?_
      rw [HZ2.out]
      exact ⟨HB6.out.grown hg7 HB6.out.size (by rintro j hj; cases hj; exact Nat.le_refl _), _, _, rfl, (HE6.out.kept HK6.out (by decide) hg7).reads, HI6.out.kept_msg HK6.out hg7, rfl, rfl⟩
    · have hne : (y != 0) = true := by simpa using hy0
      have HZ2 : Hid (r = (Ms.zero, y)) := HR5.out.trans (if_pos hy0)
      clear hy0
      go_wp2_with (refine store_msg (by rfl) _ _ (by rfl) w.heap.size Ms.zero _ _ Ms.zero (.slice none 0 0) (.slice none 0 0) (by rfl) (by rfl) rfl rfl HK6.out ?_; intro w7 hl7 hg7)
      refine ret_msg2 rfl rfl hl7 rfl ?_
      rw [HZ2.out]
      exact ⟨HB6.out.grown hg7 HB6.out.size (by rintro j hj; cases hj; exact Nat.le_refl _), _, _, rfl, ReadsR.empty _ 10, Reads.empty _, rfl, rfl⟩
  · have hne : (z != 0) = true := by simpa using h0
    have heq : (z == 0) = false := by simpa using h0
    have HZ2 : Hid (r = (Ms.zero, z)) := HRES.out.trans (if_pos h0)
    clear h0
    go_wp2_with (refine store_msg (by rfl) _ _ (by rfl) w.heap.size Ms.zero _ _ Ms.zero (.slice none 0 0) (.slice none 0 0) (by rfl) (by rfl) rfl rfl HK5.out ?_; intro w7 hl7 hg7)
    refine ret_msg2 rfl rfl hl7 rfl ?_
    rw [HZ2.out]
    exact ⟨HB5.out.grown hg7 HB5.out.size (by rintro j hj; cases hj; exact Nat.le_refl _), _, _, rfl, ReadsR.empty _ 10, Reads.empty _, rfl, rfl⟩

end Go.Proofs.YtndicjpbanmpjaaGreatDoor
