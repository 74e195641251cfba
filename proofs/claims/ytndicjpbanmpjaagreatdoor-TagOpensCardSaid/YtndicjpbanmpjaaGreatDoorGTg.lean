/- Several texts of mine in one: TgMem TgEnc TgOpen. -/
import Derived.Test.YtndicjpbanmpjaaGreatDoorGMa
import Derived.Test.YtndicjpbanmpjaaGreatDoorEnMem
import Derived.Test.YtndicjpbanmpjaaGreatDoorTgMath
import Derived.Test.YtndicjpbanmpjaaGreatDoorGMu
import Derived.Test.YtndicjpbanmpjaaGreatDoorGMw
import Derived.Test.YtndicjpbanmpjaaGreatDoorGMp
import Derived.Test.YtndicjpbanmpjaaGreatDoorVers
import Derived.Test.YtndicjpbanmpjaaGreatDoorGFt
import Derived.Test.YtndicjpbanmpjaaGreatDoorGMv
namespace Go.Proofs.YtndicjpbanmpjaaGreatDoor
open Go.RowKit

/-- Bytes lie as they lay where a block that holds no byte is stored into. -/
theorem Reads.kept_of {w w' : World} {b : Nat} {T : TypeId} {vs : Array Value} {v : Value} {l : List UInt8} (h : Reads w v l) (hl : Lies w b T vs) (hno : ∀ (j : Nat) (x : Int), vs[j]? ≠ some (.int .u8 x)) (hg : w.grownBy w' (some b)) : Reads w' v l := by
  obtain ⟨ao, cap, rfl, h1, h2, h3, h4⟩ := h
  refine ⟨ao, cap, rfl, h1, h2, h3, fun x hx j u hu => ?_⟩
  have hc := h4 x hx j u hu
  rw [← hc]
  refine World.cell?_of_block ?_
  have hlt := World.block_lt_of_cell? w _ hc
  rw [add_block] at hlt ⊢
  refine hg.block _ hlt ?_
  intro hb
  obtain ⟨blk, off, spot⟩ := x
  obtain rfl : blk = b := by simpa using hb
  have hadd : (Addr.add ⟨blk, off, spot⟩ j) = ⟨blk, off + j, none⟩ := by
    have h := World.cell?_spot hc
    by_cases h0 : j = 0
    · subst h0
      simpa [Addr.add] using h
    · simp [Addr.add, h0]
  rw [hadd] at hc
  obtain ⟨c, hcm, rfl⟩ := List.mem_map.1 (List.mem_of_getElem? hu)
  have hl' : w.heap[blk]? = some (.cells vs T (0, 0)) := hl
  simp only [World.cell?, hl'] at hc
  exact hno _ _ (by simpa using hc)
/-- Entries lie as they lay where a block that holds no string is stored into. -/
theorem ReadsE.kept_of {w w' : World} {b : Nat} {T : TypeId} {vs : Array Value} {v : Value} {l : List En.Ent} (h : ReadsE w v l) (hl : Lies w b T vs) (hno : ∀ (j : Nat) (x : ByteArray), vs[j]? ≠ some (.string x)) (hg : w.grownBy w' (some b)) : ReadsE w' v l := by
  cases l with
  | nil =>
    obtain ⟨ao, cap, rfl, h1, h2, h3, h4⟩ := h
    exact ⟨ao, cap, rfl, h1, h2, h3, fun x hx i r hr => by simp at hr⟩
  | cons e t =>
    obtain ⟨ao, cap, rfl, h1, h2, h3, h4⟩ := h
    refine ⟨ao, cap, rfl, h1, h2, h3, fun x hx i r hr j u hu => ?_⟩
    have hc := h4 x hx i r hr j u hu
    have hs : w.cell? (x.add (0 * 10 + 6)) = some (.string ⟨e.cmd.key.toArray⟩) := h4 x hx 0 (En.cells e) rfl 6 _ rfl
    rw [← hc]
    refine World.cell?_of_block ?_
    have hlt := World.block_lt_of_cell? w _ hc
    rw [add_block] at hlt ⊢
    refine hg.block _ hlt ?_
    intro hb
    obtain ⟨blk, off, spot⟩ := x
    obtain rfl : blk = b := by simpa using hb
    have hadd : (Addr.add ⟨blk, off, spot⟩ (0 * 10 + 6)) = ⟨blk, off + 6, none⟩ := by simp [Addr.add]
    rw [hadd] at hs
    have hl' : w.heap[blk]? = some (.cells vs T (0, 0)) := hl
    simp only [World.cell?, hl'] at hs
    exact hno _ _ (by simpa using hs)
theorem Ms.zero_no8 (j : Nat) (x : Int) : (Ms.cells Ms.zero (.slice none 0 0) (.slice none 0 0))[j]? ≠ some (.int .u8 x) := by
  match j with
  | 0 => simp [Ms.cells]
  | 1 => simp [Ms.cells]
  | 2 => simp [Ms.cells]
  | 3 => simp [Ms.cells]
  | 4 => simp [Ms.cells]
  | 5 => simp [Ms.cells]
  | 6 => simp [Ms.cells]
  | 7 => simp [Ms.cells]
  | 8 => simp [Ms.cells]
  | 9 => simp [Ms.cells]
  | k + 10 => simp [Ms.cells]
theorem Ms.zero_nostr (j : Nat) (x : ByteArray) : (Ms.cells Ms.zero (.slice none 0 0) (.slice none 0 0))[j]? ≠ some (.string x) := by
  match j with
  | 0 => simp [Ms.cells]
  | 1 => simp [Ms.cells]
  | 2 => simp [Ms.cells]
  | 3 => simp [Ms.cells]
  | 4 => simp [Ms.cells]
  | 5 => simp [Ms.cells]
  | 6 => simp [Ms.cells]
  | 7 => simp [Ms.cells]
  | 8 => simp [Ms.cells]
  | 9 => simp [Ms.cells]
  | k + 10 => simp [Ms.cells]
theorem results_msg3 {fn : Func} {p u x : Tmp} {ty : TypeId} (h : fn.results = #[.cell p ty, .tmp u, .tmp x]) (tmps : Array Value) (P : Program) (w : World) :
    (results fn tmps).run P w = ((asAddr (tmps.getD p undef)).run P w).andThen fun a w₁ => ((loadVar ty a).run P w₁).andThen fun v w₂ => .ok (.tuple #[v, tmps.getD u undef, tmps.getD x undef]) w₂ := by
  simp only [results, h]
  simp [Sem.run_bind, Result.andThen]
theorem ret_msg3 {fn : Func} {R : Ending → World → Prop} {a : Act} {w : World} {p u x : Tmp} {g : Nat} {m : Ms.Msg} {ve vi : Value} (h : fn.results = #[.cell p 27, .tmp u, .tmp x]) (hp : a.tmps.getD p undef = .pointer (some ⟨g, 0, none⟩))
    (hl : Msgs w g m ve vi) (hd : a.defers = []) (hR : R (.returned (.tuple #[.agg (Ms.cells m ve vi), a.tmps.getD u undef, a.tmps.getD x undef])) w) : bodyPost Tryz.prog fn R .ret a w := by
  refine bodyPost_ret ?_ hd hR
  rw [results_msg3 h, hp]
  simp [asAddr, Result.andThen, run_msg w g m ve vi hl]

/-- All blocks but two lie as they lay. -/
def SavesT (g h : Nat) (w w' : World) : Prop := ∀ (k : Nat) (T : TypeId) (vs : Array Value), k ≠ g → k ≠ h → Lies w k T vs → Lies w' k T vs
theorem SavesT.of_below {g h : Nat} {w w' : World} (hb : Below w.heap.size w w') : SavesT g h w w' := fun _ _ _ _ _ hl => hl.below hb hl.lt
theorem SavesT.trans {g h : Nat} {a b c : World} (x : SavesT g h a b) (y : SavesT g h b c) : SavesT g h a c := fun j T vs h1 h2 h3 => y j T vs h1 h2 (x j T vs h1 h2 h3)
theorem SavesT.of_one {g h : Nat} {w w' : World} (k : w.grownBy w' (some g)) : SavesT g h w w' := fun _ _ _ h1 _ hl => hl.kept k (by intro e; cases e; exact h1 rfl)
theorem SavesT.of_two {g h : Nat} {w w' : World} (k : w.grownBy w' (some h)) : SavesT g h w w' := fun _ _ _ _ h2 hl => hl.kept k (by intro e; cases e; exact h2 rfl)

end Go.Proofs.YtndicjpbanmpjaaGreatDoor


namespace Go.Proofs.YtndicjpbanmpjaaGreatDoor
open Go.RowKit

/-- What an encoding in a version leaves. -/
def TgEncd (w : World) (c : Int) (l : List UInt8) (e : Ending) (w' : World) : Prop :=
  Below w.heap.size w w' ∧ ∃ u, e = .returned (.tuple #[u, .int .i64 c]) ∧ Reads w' u (if c = 0 then l else [])

set_option maxRecDepth 4000 in
set_option maxHeartbeats 1600000 in
theorem tgEncode_any (v : Int) (hv : v = 1 ∨ v = 2) (m : Ms.Msg) (ve vi : Value) (w : World) (hF : FieldsIn w) (hW : WordsIn w) (he : ReadsE w ve m.ents) (hi : Reads w vi m.img) (hf : m.Fits) (hs : ∀ e ∈ m.ents, e.cmd.Short 1000) (hn : m.ents.length ≤ 1000) (hk : m.img.length ≤ 100000) :
    Calls Tryz.prog 18 #[.int .i64 v, .agg (Ms.cells m ve vi)] w (TgEncd w (Tg.check v m) (Tg.bytes v m)) := by
  obtain ⟨w1, e1, hl1, hB1, hz1⟩ := box_msg w m ve vi
  obtain ⟨p0, p1, p2, p3, p4, p5, p6, p7, p8, p9⟩ := Msgs.ten hl1
  have HB1 := Lib.hid hB1
  have h1 := encodeM_any m ve vi w1 (hF.below hB1) (hW.below hB1) (he.below hB1) (hi.below hB1) hf hs hn hk
  have h2 := encodeMt_any m ve vi w1 (hF.below hB1) (hW.below hB1) (he.below hB1) (hi.below hB1) hf hs
  have H1 := Lib.hid h1; have H2 := Lib.hid h2
  clear hl1 hB1 hz1 hF hW he hi hf hs hn hk h1 h2
  rcases hv with rfl | rfl
  · have HZ : Hid (Tg.check 1 m = Ms.older m ∧ Tg.bytes 1 m = Ms.bytes m) := ⟨rfl, rfl⟩
    rw [HZ.out.1, HZ.out.2]
    go_enter Tryz.func18, Tryz.ntmps18
    go_wp2_with fail
    refine H1.out.mono ?_
    rintro e w2 ⟨hb, u, rfl, hu⟩
    go_wp2
    go_ret2
    exact ⟨HB1.out.trans (hb.mono HB1.out.size), u, rfl, hu⟩
  · have HZ : Hid (Tg.check 2 m = Ms.check m ∧ Tg.bytes 2 m = Mt.bytes m) := ⟨rfl, rfl⟩
    rw [HZ.out.1, HZ.out.2]
    go_enter Tryz.func18, Tryz.ntmps18
    go_wp2_with fail
    refine H2.out.mono ?_
    rintro e w2 ⟨hb, u, rfl, hu⟩
    go_wp2
    go_ret2
    exact ⟨HB1.out.trans (hb.mono HB1.out.size), u, rfl, hu⟩

set_option maxRecDepth 4000 in
set_option maxHeartbeats 1600000 in
theorem tgDecode_any (v : Int) (hv : v = 1 ∨ v = 2) (u : Value) (s : List UInt8) (w : World) (hF : FieldsIn w) (hW : WordsIn w) (hu : Reads w u s) (hb : s.length ≤ 100000) :
    Calls Tryz.prog 24 #[.int .i64 v, u] w (MDecd w (Tg.dec v s)) := by
  obtain ⟨w1, e1, hl1, hB1, hz1⟩ := box_msg w Ms.zero (.slice none 0 0) (.slice none 0 0)
  dsimp only [Ms.cells, Ms.zero, Bl.zero] at e1
  have HK1 := Lib.hid hl1; have HB1 := Lib.hid hB1
  clear hl1 hz1
  obtain ⟨ao, cap, rfl⟩ := hu.shape
  rcases hv with rfl | rfl
  · have HE := Lib.hid (decodeM_any _ s w1 (hF.below hB1) (hW.below hB1) (hu.below hB1) (by omega))
    rw [show Tg.dec 1 s = Ms.decode s from rfl]
    obtain ⟨r, hr⟩ : ∃ r, r = Ms.decode s := ⟨_, rfl⟩
    rw [← hr] at HE ⊢
    clear hB1 hF hW hu hb hr
    go_enter Tryz.func24, Tryz.ntmps24
    go_wp2_with fail
    refine HE.out.mono ?_
    rintro e w2 ⟨hb, ve, vi, rfl, hve, hvi, h1, h2⟩
    have HB2 := Lib.hid (HB1.out.trans (hb.mono HB1.out.size)); have HK2 := Lib.hid (HK1.out.below hb HK1.out.lt)
    have H1 := Lib.hid h1; have H2 := Lib.hid h2; have HVE := Lib.hid hve; have HVI := Lib.hid hvi
    clear hb hve hvi h1 h2
    go_wp2_with (refine store_msg (by rfl) _ _ (by rfl) w.heap.size Ms.zero _ _ r.1 ve vi (by rfl) (by rfl) H1.out H2.out HK2.out ?_; intro w7 hl7 hg7)
    refine ret_msg2 rfl rfl hl7 rfl ?_
    exact ⟨HB2.out.grown hg7 HB2.out.size (by rintro j hj; cases hj; exact Nat.le_refl _), _, _, rfl, ReadsE.kept_of HVE.out HK2.out Ms.zero_nostr hg7, HVI.out.kept_of HK2.out Ms.zero_no8 hg7, H1.out, H2.out⟩
  · have HE := Lib.hid (decodeMt_any _ s w1 (hF.below hB1) (hW.below hB1) (hu.below hB1) (by omega))
    rw [show Tg.dec 2 s = Mt.decode s from rfl]
    obtain ⟨r, hr⟩ : ∃ r, r = Mt.decode s := ⟨_, rfl⟩
    rw [← hr] at HE ⊢
    clear hB1 hF hW hu hb hr
    go_enter Tryz.func24, Tryz.ntmps24
    go_wp2_with fail
    refine HE.out.mono ?_
    rintro e w2 ⟨hb, ve, vi, rfl, hve, hvi, h1, h2⟩
    have HB2 := Lib.hid (HB1.out.trans (hb.mono HB1.out.size)); have HK2 := Lib.hid (HK1.out.below hb HK1.out.lt)
    have H1 := Lib.hid h1; have H2 := Lib.hid h2; have HVE := Lib.hid hve; have HVI := Lib.hid hvi
    clear hb hve hvi h1 h2
    go_wp2_with (refine store_msg (by rfl) _ _ (by rfl) w.heap.size Ms.zero _ _ r.1 ve vi (by rfl) (by rfl) H1.out H2.out HK2.out ?_; intro w7 hl7 hg7)
    refine ret_msg2 rfl rfl hl7 rfl ?_
    exact ⟨HB2.out.grown hg7 HB2.out.size (by rintro j hj; cases hj; exact Nat.le_refl _), _, _, rfl, ReadsE.kept_of HVE.out HK2.out Ms.zero_nostr hg7, HVI.out.kept_of HK2.out Ms.zero_no8 hg7, H1.out, H2.out⟩

set_option maxRecDepth 4000 in
set_option maxHeartbeats 3200000 in
theorem tgWrap_any (v : Int) (m : Ms.Msg) (ve vi : Value) (w : World) (hT : CrcTab w) (hF : FieldsIn w) (hW : WordsIn w) (he : ReadsE w ve m.ents) (hi : Reads w vi m.img) (hf : m.Fits) (hs : ∀ e ∈ m.ents, e.cmd.Short 1000) (hn : m.ents.length ≤ 1000) (hk : m.img.length ≤ 100000) :
    Calls Tryz.prog 8 #[.int .i64 v, .agg (Ms.cells m ve vi)] w (TgEncd w (Tg.check v m) (Tg.letter v m)) := by
  obtain ⟨w1, e1, hl1, hB1, hz1⟩ := box_msg w m ve vi
  obtain ⟨p0, p1, p2, p3, p4, p5, p6, p7, p8, p9⟩ := Msgs.ten hl1
  have HB1 := Lib.hid hB1
  have HT := Lib.hid (fun W (h : Below w.heap.size w W) => hT.below h)
  have hbody := fun h => Tg.body_len (v := v) (m := m) h hf
  have HBODY := Lib.hid hbody
  rcases Vs.may_or v with ⟨hm, hv⟩ | ⟨hm, h1, h2⟩
  · have hc := tgEncode_any v hv m ve vi w1 (hF.below hB1) (hW.below hB1) (he.below hB1) (hi.below hB1) hf hs hn hk
    have hm1 := may_any v w1
    rw [hm] at hm1
    have HC := Lib.hid hc; have HM := Lib.hid hm1
    clear hl1 hB1 hz1 hT hF hW he hi hf hs hn hk hc hm1 hbody hm
    obtain ⟨c, hcc⟩ : ∃ c, c = Tg.check v m := ⟨_, rfl⟩
    rw [← hcc] at HC HBODY ⊢
    clear hcc
    go_enter Tryz.func8, Tryz.ntmps8
    go_wp2_with fail
    refine HM.out.mono ?_
    rintro e w2 ⟨rfl, rfl⟩
    go_wp2_with fail
    refine HC.out.mono ?_
    rintro e w2 ⟨hb, u, rfl, hu⟩
    have HB2 := Lib.hid (HB1.out.trans (hb.mono HB1.out.size))
    clear hb p0 p1 p2 p3 p4 p5 p6 p7 p8 p9
    by_cases h0 : c = 0
    · subst h0
      rw [if_pos rfl] at hu
      obtain ⟨l1, l2⟩ := HBODY.out rfl
      have HU := Lib.hid hu
      obtain ⟨bo, bc, rfl⟩ := hu.shape
      obtain ⟨bn, hbn⟩ : ∃ bn, bn = (Tg.bytes v m).length := ⟨_, rfl⟩
      rw [← hbn] at HU ⊢
      have HL1 := Lib.hid l1; have HL2 := Lib.hid l2
      have HLB : Hid ((Tg.bytes v m).length ≤ 65536) := by show _ ≤ _; unfold Tg.body at l2; rw [List.length_cons] at l2; omega
      clear hu hbn l1 l2 HBODY
      have hz2 := HB2.out.size
      have hlit : ∀ (c : UInt8) (z : Int), z = (c.toNat : Int) → ∃ w3, w2.alloc (.cells #[.int .u8 z] 5) = w3 ∧ Owns w3 w.heap.size 5 (.slice (some ⟨w2.heap.size, 0, none⟩) 1 1) [c] ∧ Below w2.heap.size w2 w3 := fun c z h =>
        ⟨_, rfl, (Owns.laid w2 _ [c] 1 _ rfl (by rw [h]; rfl) (by decide)).mono hz2, (Below.refl _ w2).alloc (Nat.le_refl _) _⟩
      rcases hv with rfl | rfl
      · obtain ⟨w3, e3, ho3, hb3⟩ := hlit 1 1 rfl
        have HO3 := Lib.hid ho3; have HB3 := Lib.hid (HB2.out.trans (hb3.mono hz2)); have HU3 := Lib.hid (HU.out.below hb3)
        clear hlit ho3 hb3
        go_wp2_with (at_builtin; refine append_bytes rfl _ _ 25 5 rfl Tryz.underlying25 info_u8 w.heap.size [1] (Tg.bytes 1 m) (.slice (some ⟨w2.heap.size, 0, none⟩) 1 1) (.slice bo bn bc) rfl rfl HO3.out HU3.out (by have := HLB.out; simp; omega) w HB3.out (Nat.le_refl _) ?_; intro u4 w4 ho4 hb4 hg4; clear hg4)
        have HB4 := Lib.hid hb4; have HY4 : Hid (Reads w4 u4 (Tg.body 1 m)) := ho4.reads
        clear ho4 hb4
        refine (add_ok (.slice none 0 0) u4 [] (Tg.body 1 m) w4 (Reads.empty _) HY4.out (HT.out _ HB4.out) HL1.out HL2.out (by simp)).mono ?_
        rintro e w5 ⟨y, rfl, hy, hb5⟩
        have HY := Lib.hid hy; have HB5 := Lib.hid (HB4.out.trans (hb5.mono HB4.out.size))
        clear hb5 hy
        go_wp2
        go_ret2
        exact ⟨HB5.out, _, rfl, by rw [if_pos rfl]; exact HY.out.reads⟩
      · obtain ⟨w3, e3, ho3, hb3⟩ := hlit 2 2 rfl
        have HO3 := Lib.hid ho3; have HB3 := Lib.hid (HB2.out.trans (hb3.mono hz2)); have HU3 := Lib.hid (HU.out.below hb3)
        clear hlit ho3 hb3
        go_wp2_with (at_builtin; refine append_bytes rfl _ _ 25 5 rfl Tryz.underlying25 info_u8 w.heap.size [2] (Tg.bytes 2 m) (.slice (some ⟨w2.heap.size, 0, none⟩) 1 1) (.slice bo bn bc) rfl rfl HO3.out HU3.out (by have := HLB.out; simp; omega) w HB3.out (Nat.le_refl _) ?_; intro u4 w4 ho4 hb4 hg4; clear hg4)
        have HB4 := Lib.hid hb4; have HY4 : Hid (Reads w4 u4 (Tg.body 2 m)) := ho4.reads
        clear ho4 hb4
        refine (add_ok (.slice none 0 0) u4 [] (Tg.body 2 m) w4 (Reads.empty _) HY4.out (HT.out _ HB4.out) HL1.out HL2.out (by simp)).mono ?_
        rintro e w5 ⟨y, rfl, hy, hb5⟩
        have HY := Lib.hid hy; have HB5 := Lib.hid (HB4.out.trans (hb5.mono HB4.out.size))
        clear hb5 hy
        go_wp2
        go_ret2
        exact ⟨HB5.out, _, rfl, by rw [if_pos rfl]; exact HY.out.reads⟩
    · have hne : (c != 0) = true := by simpa using h0
      rw [if_neg h0] at hu
      obtain ⟨bo, bc, rfl⟩ := hu.shape
      have H0 := Lib.hid h0
      clear hu h0 HBODY
      go_wp2
      go_ret2
      exact ⟨HB2.out, _, rfl, by rw [if_neg H0.out]; exact Reads.empty _⟩
  · have HZ : Hid (Tg.check v m = 8) := by show _ = _; unfold Tg.check; rw [if_neg h1, if_neg h2]
    have hm1 := may_any v w1
    rw [hm] at hm1
    have HM := Lib.hid hm1
    clear hl1 hB1 hz1 hT hF hW he hi hf hs hn hk hm1 hbody hm h1 h2
    go_enter Tryz.func8, Tryz.ntmps8
    go_wp2_with fail
    refine HM.out.mono ?_
    rintro e w2 ⟨rfl, rfl⟩
    go_wp2
    go_ret2
    rw [HZ.out]
    exact ⟨HB1.out, _, rfl, Reads.empty _⟩

end Go.Proofs.YtndicjpbanmpjaaGreatDoor


namespace Go.Proofs.YtndicjpbanmpjaaGreatDoor
open Go.RowKit

theorem run_rest_bytes (w : World) (ao : Option Addr) (n cap f : Nat) (hf : f ≤ n) :
    (Instr.slice 25 (.slice ao n cap) (some (.int .i64 (f : Int))) none none).run Tryz.prog w = .ok (sliced ao f n cap 1) w := by
  have he : Tryz.prog.elem 25 = 5 := by kernel_rfl
  obtain ⟨i, h1, _⟩ := info_parts info_u8
  have hrun := run_slice_l (P := Tryz.prog) (w := w) 25 ao n cap (by rw [he]; exact Tryz.underlying25) .i64 (f : Int) (by omega) (by omega)
  rw [he] at hrun
  refine hrun.trans ?_
  rw [run_sizeOf _ h1, show Tryz.prog.cellsOf 5 = 1 by kernel_rfl]
  simp only [Result.andThen, Int.toNat_natCast]

/-- What the reading of a letter leaves in the two variables of its reader. -/
def TgRd (w : World) (B go gm : Nat) (r : Ms.Msg × Int × Int) (e : Ending) (w' : World) : Prop :=
  e = .returned (.int .i64 r.2.2) ∧ Below B w w' ∧ SavesT go gm w w' ∧
  (r.2.2 = 0 → ∃ ve vi, Lies w' go 3 #[.int .i64 r.2.1] ∧ Msgs w' gm r.1 ve vi ∧ ReadsE w' ve r.1.ents ∧ Reads w' vi r.1.img ∧ ve.oneCell' = true ∧ vi.oneCell' = true)

set_option maxRecDepth 4000 in
set_option maxHeartbeats 3200000 in
theorem tgRead_any (v : Int) (u : Value) (b : List UInt8) (w : World) (B gv gb go gm : Nat) (hT : CrcTab w) (hFW : ∀ W, Below B w W → FieldsIn W ∧ WordsIn W) (hu : Reads w u b) (hb : b.length ≤ 100000)
    (lv : Lies w gv 3 #[.int .i64 v]) (lb : Lies w gb 25 #[u]) (lo : Lies w go 3 #[.int .i64 0]) (lm : Msgs w gm Ms.zero (.slice none 0 0) (.slice none 0 0))
    (hvo : gv ≠ go) (hmo : gm ≠ go) (hBo : B ≤ go) (hBm : B ≤ gm) :
    Calls Tryz.prog 22 #[.pointer (some ⟨gv, 0, none⟩), .pointer (some ⟨gb, 0, none⟩), .pointer (some ⟨go, 0, none⟩), .pointer (some ⟨gm, 0, none⟩)] w (TgRd w B go gm (Tg.opened v b)) := by
  have hnx := next_any u b 0 w hu hT (by omega)
  obtain ⟨ao, cap, rfl⟩ := hu.shape
  have hBw : B ≤ w.heap.size := by have := lo.lt; omega
  have HFW := Lib.hid hFW
  obtain ⟨n, hn⟩ : ∃ n, n = b.length := ⟨_, rfl⟩
  have HN := Lib.hid hn
  rw [← hn] at hnx lb
  have HCV := Lib.hid (fun (W : World) (h : Lies W gv 3 #[.int .i64 v]) => (show W.cell? ⟨gv, 0, none⟩ = some (.int .i64 v) from h.cell 0 _ rfl))
  have HCB := Lib.hid (fun (W : World) (h : Lies W gb 25 #[.slice ao n cap]) => (show W.cell? ⟨gb, 0, none⟩ = some (.slice ao n cap) from h.cell 0 _ rfl))
  have cv := HCV.out _ lv; have cb := HCB.out _ lb
  have HLV := Lib.hid lv; have HLB := Lib.hid lb; have HLO := Lib.hid lo; have HLM := Lib.hid lm
  have hn1 : n ≤ 100000 := by omega
  have hm1 := may_any v w
  obtain ⟨r, hr⟩ : ∃ r, r = Tg.opened v b := ⟨_, rfl⟩
  rw [← hr]
  rcases Vs.may_or v with ⟨hm, hv⟩ | ⟨hm, _, _⟩
  · rw [hm] at hm1
    have HM := Lib.hid hm1
    obtain ⟨y, e1, z, hnr⟩ : ∃ y e1 z, Frm.next b 0 = (y, e1, z) := ⟨_, _, _, rfl⟩
    rw [hnr] at hnx
    have HX := Lib.hid hnx
    clear hT hFW hu hb lv lb lo lm hm1 hnx
    by_cases hz : z = 0
    · subst hz
      obtain ⟨c, rfl, _, hc2, hy1, hy2⟩ := Frm.next_ok (a := 0) hnr
      rw [← hn] at hc2
      by_cases hlt : c < n
      · have HR : Hid (r = (Ms.zero, 0, 3)) := by
          show _ = _
          rw [hr]; unfold Tg.opened
          rw [if_neg (by rw [hm]; simp), hnr, if_neg (by simp), if_pos (by simp; omega)]
        clear hr hn hnr hm
        go_enter Tryz.func22, Tryz.ntmps22
        go_wp2_with fail
        refine HM.out.mono ?_
        rintro e2 w2 ⟨rfl, rfl⟩
        go_wp2_with fail
        refine HX.out.mono ?_
        rintro e3 w3 ⟨x, rfl, ho, hb3⟩
        dsimp only at ho ⊢
        obtain ⟨xo, xc, rfl⟩ := ho.reads.shape
        have cb3 := HCB.out _ (HLB.out.below hb3 HLB.out.lt)
        have HB3 := Lib.hid hb3
        clear ho hb3 cv cb
        go_wp2
        go_ret
        exact ⟨(by rw [HR.out]; try rfl), HB3.out.mono hBw, SavesT.of_below HB3.out, fun h => by rw [HR.out] at h; simp at h⟩
      · have hO : Tg.opened v b = Tg.read v y := by
          unfold Tg.opened
          rw [if_neg (by rw [hm]; simp), hnr, if_neg (by simp), if_neg (by simp; omega)]
        rw [hO] at hr
        clear hO hnr
        obtain ⟨t, s, rfl⟩ : ∃ t s, y = t :: s := by
          cases y with
          | nil => simp at hy1
          | cons t s => exact ⟨t, s, rfl⟩
        rw [Tg.read_cons] at hr
        obtain ⟨k, hk⟩ : ∃ k : Nat, k = t.toNat := ⟨_, rfl⟩
        rw [← hk] at hr
        have hk8 : k < 256 := by rw [hk]; exact t.toNat_lt
        have HK := Lib.hid hk
        have HY : Hid (s.length ≤ 65536) := by show _ ≤ _; rw [List.length_cons] at hy2; omega
        obtain ⟨ns, hns⟩ : ∃ ns, ns = s.length := ⟨_, rfl⟩
        have HNS := Lib.hid hns
        have hns2 : ns ≤ 65536 := by have := HY.out; omega
        have HR := Lib.hid hr
        clear hn hk hy1 hy2 hns hm hr
        go_enter Tryz.func22, Tryz.ntmps22
        go_wp2_with fail
        refine HM.out.mono ?_
        rintro e2 w2 ⟨rfl, rfl⟩
        go_wp2_with fail
        refine HX.out.mono ?_
        rintro e3 w3 ⟨x, rfl, ho, hb3⟩
        dsimp only at ho ⊢
        have hrd := ho.reads
        obtain ⟨g, xc, rfl, hg1, hg2⟩ := ho.form (by simp)
        rw [List.length_cons, ← HNS.out]
        rw [List.length_cons, ← HNS.out] at ho hrd
        have cx := ho.cell 0 t rfl
        rw [← HK.out] at cx
        have hpt := hrd.part 1 (ns + 1) (by omega) (by rw [List.length_cons, HNS.out]; exact Nat.le_refl _)
        obtain ⟨so, sc, hsl⟩ := hpt.shape
        have hts : ((t :: s).drop 1).take (ns + 1 - 1) = s := by
          rw [List.drop_succ_cons, List.drop_zero]
          exact List.take_of_length_le (by have := HNS.out; omega)
        rw [hsl, hts, ← HNS.out] at hpt
        rw [hts, ← HNS.out] at hsl
        have hslice : ∀ W : World, (Instr.slice 25 (.slice (some ⟨g, 0, none⟩) (ns + 1) xc) (some (.int .i64 1)) none none).run Tryz.prog W = .ok (.slice so ns sc) W := fun W => (run_rest_bytes W _ _ _ 1 (by omega)).trans (by rw [hsl])
        have cb3 := HCB.out _ (HLB.out.below hb3 HLB.out.lt); have cv3 := HCV.out _ (HLV.out.below hb3 HLV.out.lt)
        have HB3 := Lib.hid hb3; have HLO3 := Lib.hid (HLO.out.below hb3 HLO.out.lt); have HLV3 := Lib.hid (HLV.out.below hb3 HLV.out.lt); have HLM3 := Lib.hid (HLM.out.below hb3 HLM.out.lt)
        have HPT3 := Lib.hid hpt
        clear ho hb3 cv cb hg1 hg2 hrd hpt hsl hts
        go_wp2_with (first
          | (refine store_part (by rfl) _ _ _ (by rfl) go 0 _ _ #[.int .i64 (k : Int)] (.int .i64 (k : Int)) [.int .i64 (k : Int)] (by rfl) (by rfl) (by rfl) (by kernel_rfl) (by rfl) HLO3.out (Nat.le_of_ble_eq_true rfl) (by rfl) ?_
             intro w4 hl4 hg4
             have cv4 := HCV.out _ (HLV3.out.kept hg4 (by simp; exact hvo))
             have co4 : w4.cell? ⟨go, 0, none⟩ = some (.int .i64 (k : Int)) := hl4.cell 0 _ rfl
             have HG4 := Lib.hid hg4; have HL4 := Lib.hid hl4
             clear hl4 hg4 cv3 cb3 cx)
          | fail)
        refine (may_any (k : Int) _).mono ?_
        rintro e5 w5 ⟨rfl, rfl⟩
        have HB4 : Hid (Below B w w4) := (HB3.out.mono hBw).grown HG4.out (Nat.le_trans hBw HB3.out.size) (by rintro x hx; cases hx; exact hBo)
        have HS4 : Hid (SavesT go gm w w4) := (SavesT.of_below HB3.out).trans (SavesT.of_one HG4.out)
        -- what the first byte tells
        rcases Vs.may_or (k : Int) with ⟨hmt, hk12⟩ | ⟨hmt, hk1, hk2⟩
        · rw [hmt]
          by_cases hvk : v < (k : Int)
          · have HZ : Hid (r = (Ms.zero, 0, 8)) := HR.out.trans (if_pos (.inr hvk))
            have hd2 : decide (v < (k : Int)) = true := decide_eq_true hvk
            clear hmt hk12 hvk hv
            go_wp2
            go_ret
            exact ⟨(by rw [HZ.out]; try rfl), HB4.out, HS4.out, fun h => by rw [HZ.out] at h; simp at h⟩
          · have hHZ := HR.out.trans (if_neg (by omega))
            have hd2 : decide (v < (k : Int)) = false := decide_eq_false hvk
            have HLM4 := Lib.hid (HLM3.out.kept HG4.out (by simp; exact hmo))
            have HPT4 := Lib.hid (HPT3.out.kept_of HLO3.out (fun j x => by match j with | 0 => simp | j + 1 => simp) HG4.out)
            have hdec := tgDecode_any (k : Int) hk12 (.slice so ns sc) s w4.drew (HFW.out _ HB4.out.drew).1 (HFW.out _ HB4.out.drew).2 HPT4.out.drew (by have := HY.out; omega)
            obtain ⟨q, hq⟩ : ∃ q, q = Tg.dec (k : Int) s := ⟨_, rfl⟩
            rw [← hq] at hdec hHZ
            have HH : Hid (r.2.2 = q.2) := by
              show _ = _
              by_cases h : q.2 = 0
              · rw [if_neg (by simpa using h)] at hHZ; rw [hHZ]; exact h.symm
              · rw [if_pos h] at hHZ; rw [hHZ]
            have HH2 : Hid (q.2 = 0 → r = (q.1, (k : Int), 0)) := fun h => by rw [if_neg (by simpa using h)] at hHZ; exact hHZ
            have HDEC := Lib.hid hdec
            clear hmt hk12 hvk hv hHZ hdec hq
            go_wp2
            go_region_with (first
              | (go_at_call 24
                 with_reducible refine HDEC.out.mono ?_
                 rintro e6 w6 ⟨hb6, ve, vi, rfl, hve, hvi, h1, h2⟩
                 obtain ⟨vo, vc, rfl, _, _⟩ := hve.shape
                 obtain ⟨io, ic, rfl⟩ := hvi.shape
                 obtain ⟨vn, hvn⟩ : ∃ vn, vn = q.1.ents.length := ⟨_, rfl⟩
                 obtain ⟨xn, hxn⟩ : ∃ xn, xn = q.1.img.length := ⟨_, rfl⟩
                 rw [← hvn] at hve ⊢
                 rw [← hxn] at hvi ⊢
                 have hb46 : Below w4.heap.size w4 w6 := ((Below.refl _ w4).drew).trans hb6
                 have hm6 := HLM4.out.below hb46 HLM4.out.lt
                 obtain ⟨c0, c1, c2, c3, c4, c5, c6, c7, c8, c9⟩ := Msgs.ten hm6
                 have f0 := hm6.free 0; have f1 := hm6.free 1; have f2 := hm6.free 2; have f3 := hm6.free 3; have f4 := hm6.free 4; have f5 := hm6.free 5; have f6 := hm6.free 6; have f7 := hm6.free 7; have f8 := hm6.free 8; have f9 := hm6.free 9
                 have HM6 := Lib.hid hm6; have HVE6 := Lib.hid hve; have HVI6 := Lib.hid hvi; have HB46 := Lib.hid hb46
                 clear hb6 hve hvi h1 h2 hvn hxn hb46 hm6
                 dsimp only [Ms.cells]))
            all_goals
              refine set_ten HM6.out _ _ _ _ _ _ _ _ _ _ ?_
              intro w7 hl7 hg7
              clear c0 c1 c2 c3 c4 c5 c6 c7 c8 c9 f0 f1 f2 f3 f4 f5 f6 f7 f8 f9
              have HL7 : Hid (Msgs w7 gm q.1 (.slice vo vn vc) (.slice io xn ic)) := hl7
              have hB6 := HB4.out.trans (HB46.out.mono (Nat.le_trans hBw HB4.out.size))
              have HB7 : Hid (Below B w w7) := hB6.grown hg7 (Nat.le_trans hBw hB6.size) (by rintro x hx; cases hx; exact hBm)
              have HS7 : Hid (SavesT go gm w w7) := (HS4.out.trans (SavesT.of_below HB46.out)).trans (SavesT.of_two hg7)
              have HO7 : Hid (Lies w7 go 3 #[.int .i64 (k : Int)]) := (HL4.out.below HB46.out HL4.out.lt).kept hg7 (by simp; exact fun h => hmo h.symm)
              have HE7 := Lib.hid (ReadsE.kept_of HVE6.out HM6.out Ms.zero_nostr hg7); have HI7 := Lib.hid (HVI6.out.kept_of HM6.out Ms.zero_no8 hg7)
              clear hl7 hg7 hB6
              go_wp2
              go_ret
              refine ⟨(by rw [HH.out]; try rfl), HB7.out, HS7.out, fun h => ?_⟩
              rw [HH.out] at h
              rw [HH2.out h]
              exact ⟨_, _, HO7.out, HL7.out, HE7.out, HI7.out, rfl, rfl⟩
        · rw [hmt]
          have HZ : Hid (r = (Ms.zero, 0, 8)) := HR.out.trans (if_pos (by omega))
          clear hmt hk1 hk2 hv
          go_wp2
          go_ret
          exact ⟨(by rw [HZ.out]; try rfl), HB4.out, HS4.out, fun h => by rw [HZ.out] at h; simp at h⟩
    · have HR : Hid (r = (Ms.zero, 0, z)) := by
        show _ = _
        rw [hr]; unfold Tg.opened
        rw [if_neg (by rw [hm]; simp), hnr, if_pos hz]
      have hne : (z != 0) = true := by simpa using hz
      have HZ := Lib.hid hz
      clear hr hn hnr hm hz
      go_enter Tryz.func22, Tryz.ntmps22
      go_wp2_with fail
      refine HM.out.mono ?_
      rintro e2 w2 ⟨rfl, rfl⟩
      go_wp2_with fail
      refine HX.out.mono ?_
      rintro e3 w3 ⟨x, rfl, ho, hb3⟩
      dsimp only at ho ⊢
      obtain ⟨xo, xc, rfl⟩ := ho.reads.shape
      have HB3 := Lib.hid hb3
      clear ho hb3 cv cb
      go_wp2
      go_ret
      exact ⟨(by rw [HR.out]; try rfl), HB3.out.mono hBw, SavesT.of_below HB3.out, fun h => by rw [HR.out] at h; exact absurd h HZ.out⟩
  · have HR : Hid (r = (Ms.zero, 0, 8)) := by show _ = _; rw [hr]; unfold Tg.opened; rw [if_pos hm]
    rw [hm] at hm1
    have HM := Lib.hid hm1
    clear hT hFW hu hb lv lb lo lm hm1 hnx hr hn hm
    go_enter Tryz.func22, Tryz.ntmps22
    go_wp2_with fail
    refine HM.out.mono ?_
    rintro e2 w2 ⟨rfl, rfl⟩
    go_wp2
    go_ret
    exact ⟨(by rw [HR.out]; try rfl), Below.refl _ _, fun _ _ _ _ _ h => h, fun h => by rw [HR.out] at h; simp at h⟩

/-- A letter opened. -/
def TgOpened (w : World) (r : Ms.Msg × Int × Int) (e : Ending) (w' : World) : Prop :=
  Below w.heap.size w w' ∧ ∃ ve vi, e = .returned (.tuple #[.agg (Ms.cells r.1 ve vi), .int .i64 r.2.1, .int .i64 r.2.2]) ∧ ReadsE w' ve r.1.ents ∧ Reads w' vi r.1.img ∧ ve.oneCell' = true ∧ vi.oneCell' = true

set_option maxRecDepth 4000 in
set_option maxHeartbeats 3200000 in
theorem tgOpen_any (v : Int) (u : Value) (b : List UInt8) (w : World) (hT : CrcTab w) (hF : FieldsIn w) (hW : WordsIn w) (hu : Reads w u b) (hb : b.length ≤ 100000) :
    Calls Tryz.prog 10 #[.int .i64 v, u] w (TgOpened w (Tg.opened v b)) := by
  have hmf : ∀ (fn : Fn) (first cap : Array Value) (w : World), (Instr.makeFunc fn first cap).run Tryz.prog w = .ok (.func fn first cap) w := fun _ _ _ _ => rfl
  obtain ⟨ao, cap, hsh⟩ := hu.shape
  obtain ⟨w1, e1, l1, b1, z1⟩ : ∃ w1, w.alloc (.cells #[.int .i64 v] 3) = w1 ∧ Lies w1 w.heap.size 3 #[.int .i64 v] ∧ Below w.heap.size w w1 ∧ w1.heap.size = w.heap.size + 1 := ⟨_, rfl, Lies.new _ _ _, (Below.refl _ w).alloc (Nat.le_refl _) _, by simp⟩
  obtain ⟨w2, e2, l2, b2, z2⟩ : ∃ w2, w1.alloc (.cells #[u] 25) = w2 ∧ Lies w2 w1.heap.size 25 #[u] ∧ Below w1.heap.size w1 w2 ∧ w2.heap.size = w1.heap.size + 1 := ⟨_, rfl, Lies.new _ _ _, (Below.refl _ w1).alloc (Nat.le_refl _) _, by simp⟩
  obtain ⟨w3, e3, l3, b3, z3⟩ := box_msg w2 Ms.zero (.slice none 0 0) (.slice none 0 0)
  obtain ⟨w4, e4, l4, b4, z4⟩ := box_msg w3 Ms.zero (.slice none 0 0) (.slice none 0 0)
  obtain ⟨w5, e5, l5, b5, z5⟩ : ∃ w5, w4.alloc (.cells #[.int .i64 0] 3) = w5 ∧ Lies w5 w4.heap.size 3 #[.int .i64 0] ∧ Below w4.heap.size w4 w5 ∧ w5.heap.size = w4.heap.size + 1 := ⟨_, rfl, Lies.new _ _ _, (Below.refl _ w4).alloc (Nat.le_refl _) _, by simp⟩
  dsimp only [Ms.cells, Ms.zero, Bl.zero] at e3 e4
  have b45 := b5
  have b35 := b4.trans (b45.mono b4.size)
  have b25 := b3.trans (b35.mono b3.size)
  have b15 := b2.trans (b25.mono b2.size)
  have b05 := b1.trans (b15.mono b1.size)
  have hcall := tgRead_any v u b w5 w.heap.size w.heap.size w1.heap.size w4.heap.size w3.heap.size (hT.below b05) (fun W h => ⟨hF.below (b05.trans h), hW.below (b05.trans h)⟩) (hu.below b05) hb
    (l1.below b15 l1.lt) (l2.below b25 l2.lt) l5 (l4.below b45 l4.lt) (by omega) (by omega) (by omega) (by omega)
  have hres := l3.below b35 l3.lt
  obtain ⟨r, hr⟩ : ∃ r, r = Tg.opened v b := ⟨_, rfl⟩
  have hnone := Tg.opened_none v b
  rw [← hr] at hcall hnone ⊢
  have HCALL := Lib.hid hcall; have HRES := Lib.hid hres; have HB5 := Lib.hid b05; have HNONE := Lib.hid hnone
  have HSZ : Hid (w.heap.size + 1 = w1.heap.size ∧ w1.heap.size + 1 = w2.heap.size ∧ w2.heap.size + 1 = w3.heap.size ∧ w3.heap.size + 1 = w4.heap.size) := ⟨z1.symm, z2.symm, z3.symm, z4.symm⟩
  clear hT hF hW hu hb l1 l2 l3 l4 l5 b1 b2 b3 b4 b5 b45 b35 b25 b15 b05 z1 z2 z3 z4 z5 hcall hres hr hnone
  subst hsh
  go_enter Tryz.func10, Tryz.ntmps10
  go_wp2_with fail
  refine HCALL.out.mono ?_
  rintro e6 w6 ⟨rfl, hb6, hs6, hok⟩
  have HK6 := Lib.hid (hs6 _ _ _ (by have := HSZ.out; omega) (by have := HSZ.out; omega) HRES.out)
  have HB6 := Lib.hid (HB5.out.trans hb6)
  have HOK := Lib.hid hok
  clear hb6 hs6 hok
  obtain ⟨z, hz⟩ : ∃ z, z = r.2.2 := ⟨_, rfl⟩
  rw [← hz] at HOK HNONE ⊢
  have HZ := Lib.hid hz
  clear hz
  by_cases h0 : z = 0
  · obtain ⟨ve, vi, lo, lm, he, hi, h1, h2⟩ := HOK.out h0
    subst h0
    have co : w6.cell? ⟨w4.heap.size, 0, none⟩ = some (.int .i64 r.2.1) := lo.cell 0 _ rfl
    have LM := Lib.hid lm; have LO := Lib.hid lo; have HE := Lib.hid he; have HI := Lib.hid hi
    obtain ⟨vo, vc, rfl, _, _⟩ := he.shape
    obtain ⟨io, ic, rfl⟩ := hi.shape
    obtain ⟨vn, hvn⟩ : ∃ vn, vn = r.1.ents.length := ⟨_, rfl⟩
    obtain ⟨xn, hxn⟩ : ∃ xn, xn = r.1.img.length := ⟨_, rfl⟩
    rw [← hvn] at LM HE
    rw [← hxn] at LM HI
    obtain ⟨p0, p1, p2, p3, p4, p5, p6, p7, p8, p9⟩ := Msgs.ten LM.out
    obtain ⟨c0, c1, c2, c3, c4, c5, c6, c7, c8, c9⟩ := Msgs.ten HK6.out
    have f0 := HK6.out.free 0; have f1 := HK6.out.free 1; have f2 := HK6.out.free 2; have f3 := HK6.out.free 3; have f4 := HK6.out.free 4; have f5 := HK6.out.free 5; have f6 := HK6.out.free 6; have f7 := HK6.out.free 7; have f8 := HK6.out.free 8; have f9 := HK6.out.free 9
    have n1 : ¬ w4.heap.size = w2.heap.size := by have := HSZ.out; omega
    have n2 : ¬ w2.heap.size = w4.heap.size := fun h => n1 h.symm
    clear lo lm he hi h1 h2 HOK HNONE hvn hxn
    go_wp2
    go_region
    all_goals
      refine set_ten (P := fun W => Exit.then _ _ _ _ W.drew) HK6.out _ _ _ _ _ _ _ _ _ _ ?_
      intro w7 hl7 hg7
      clear c0 c1 c2 c3 c4 c5 c6 c7 c8 c9 f0 f1 f2 f3 f4 f5 f6 f7 f8 f9 p0 p1 p2 p3 p4 p5 p6 p7 p8 p9 co
      have HL7 : Hid (Msgs w7.drew w2.heap.size r.1 (.slice vo vn vc) (.slice io xn ic)) := hl7
      have HB7 : Hid (Below w.heap.size w w7.drew) := (HB6.out.grown hg7 HB6.out.size (by rintro j hj; cases hj; have := HSZ.out; omega)).drew
      have HE7 := Lib.hid (ReadsR.below (ReadsE.kept_of HE.out HK6.out Ms.zero_nostr hg7) (Below.refl _ w7).drew : ReadsE w7.drew (.slice vo vn vc) r.1.ents); have HI7 := Lib.hid (HI.out.kept_of HK6.out Ms.zero_no8 hg7).drew
      clear hl7 hg7
      go_wp2
      refine ret_msg3 rfl rfl HL7.out rfl ?_
      refine ⟨HB7.out, .slice vo vn vc, .slice io xn ic, ?_, HE7.out, HI7.out, rfl, rfl⟩
      rw [← HZ.out]; rfl
  · have hne : (z != 0) = true := by simpa using h0
    have hz2 := HNONE.out h0
    clear HOK HNONE h0
    go_wp2_with (refine store_msg (by rfl) _ _ (by rfl) w2.heap.size Ms.zero _ _ Ms.zero (.slice none 0 0) (.slice none 0 0) (by rfl) (by rfl) rfl rfl HK6.out ?_; intro w7 hl7 hg7)
    refine ret_msg3 rfl rfl hl7 rfl ?_
    refine ⟨HB6.out.grown hg7 HB6.out.size (by rintro j hj; cases hj; have := HSZ.out; omega), .slice none 0 0, .slice none 0 0, ?_, ?_, ?_, rfl, rfl⟩
    · rw [hz2.1, hz2.2, ← HZ.out]; rfl
    · rw [hz2.1]; exact ReadsR.empty _ 10
    · rw [hz2.1]; exact Reads.empty _

/-- Bytes and an error. -/
def TgMade (w : World) (r : List UInt8 × Int) (e : Ending) (w' : World) : Prop :=
  Below w.heap.size w w' ∧ ∃ u, e = .returned (.tuple #[u, .int .i64 r.2]) ∧ Reads w' u r.1

set_option maxRecDepth 4000 in
set_option maxHeartbeats 3200000 in
theorem tgTranslate_any (v : Int) (u : Value) (b : List UInt8) (w : World) (hT : CrcTab w) (hF : FieldsIn w) (hW : WordsIn w) (hu : Reads w u b) (hb : b.length ≤ 100000) :
    Calls Tryz.prog 15 #[.int .i64 v, u] w (TgMade w (Tg.translate v b)) := by
  have hm1 := may_any v w
  have ho := tgOpen_any 2 u b w hT hF hW hu hb
  obtain ⟨ao, cap, rfl⟩ := hu.shape
  obtain ⟨n, hn⟩ : ∃ n, n = b.length := ⟨_, rfl⟩
  rw [← hn] at ho ⊢
  have HALL := Lib.hid (fun W (h : Below w.heap.size w W) => And.intro (hT.below h) (And.intro (hF.below h) (hW.below h)))
  rcases Vs.may_or v with ⟨hm, hv⟩ | ⟨hm, _, _⟩
  · have hx : Tg.translate v b = if (Tg.opened 2 b).2.2 ≠ 0 then ([], (Tg.opened 2 b).2.2) else Tg.wrap v (Tg.opened 2 b).1 := by
      unfold Tg.translate; rw [if_neg (by rw [hm]; simp)]
    have hok := Tg.opened_ok 2 b
    have hfit := Tg.opened_fits 2 b
    obtain ⟨r, hr⟩ : ∃ r, r = Tg.opened 2 b := ⟨_, rfl⟩
    rw [← hr] at hx ho hok hfit
    obtain ⟨t, ht⟩ : ∃ t, t = Tg.translate v b := ⟨_, rfl⟩
    rw [← ht] at hx ⊢
    rw [hm] at hm1
    have HM := Lib.hid hm1; have HO := Lib.hid ho; have HX := Lib.hid hx; have HOK := Lib.hid hok; have HFIT := Lib.hid hfit
    clear hm1 ho hx hok hfit hr ht hm hT hF hW hu hb hn
    go_enter Tryz.func15, Tryz.ntmps15
    go_wp2_with fail
    refine HM.out.mono ?_
    rintro e2 w2 ⟨rfl, rfl⟩
    go_wp2_with fail
    refine HO.out.mono ?_
    rintro e3 w3 ⟨hb3, ve, vi, rfl, he, hi, h1, h2⟩
    have HB3 := Lib.hid hb3; have HE3 := Lib.hid he; have HI3 := Lib.hid hi; have H1 := Lib.hid h1; have H2 := Lib.hid h2
    clear hb3 he hi h1 h2
    obtain ⟨z, hz⟩ : ∃ z, z = r.2.2 := ⟨_, rfl⟩
    rw [← hz] at HX HOK HFIT ⊢
    clear hz
    by_cases h0 : z = 0
    · subst h0
      have HX2 : Hid (t = Tg.wrap v r.1) := HX.out.trans (if_neg (by simp))
      have HGL := Lib.hid (Ms.good_len (Ms.check_good (Tg.check_good (HOK.out rfl).1).2)); have HF := Lib.hid (HFIT.out rfl)
      clear HOK HFIT HX
      go_wp2_with (first
        | (refine store_msg (by rfl) _ _ (by rfl) w3.heap.size Ms.zero _ _ r.1 ve vi (by rfl) (by rfl) H1.out H2.out (Lies.new _ _ _) ?_
           intro w4 hl4 hg4
           have hb := fresh_below hg4
           have HM4 := Lib.hid hl4; have HB4 := Lib.hid (HB3.out.trans (hb.mono HB3.out.size)); have HE4 := Lib.hid (ReadsR.below HE3.out hb : ReadsE w4 ve r.1.ents); have HI4 := Lib.hid (HI3.out.below hb)
           clear hl4 hg4 hb
           obtain ⟨p0, p1, p2, p3, p4, p5, p6, p7, p8, p9⟩ := Msgs.ten HM4.out)
        | fail)
      have hwr := tgWrap_any v r.1 ve vi w4 (HALL.out _ HB4.out).1 (HALL.out _ HB4.out).2.1 (HALL.out _ HB4.out).2.2 HE4.out HI4.out HF.out.1 (fun e h => Short.up (HF.out.2 e h) (by omega)) (by have := HGL.out; omega) (by have := HGL.out; omega)
      refine hwr.mono ?_
      rintro e5 w5 ⟨hb, u5, rfl, hu5⟩
      have HB5 := Lib.hid (HB4.out.trans (hb.mono HB4.out.size)); have HU5 := Lib.hid hu5
      clear hb hu5 hwr p0 p1 p2 p3 p4 p5 p6 p7 p8 p9
      go_wp2
      go_ret2
      rw [HX2.out]
      have hu6 := HU5.out
      refine ⟨HB5.out, u5, ?_, ?_⟩
      · unfold Tg.wrap; split <;> rename_i h <;> simp at h <;> simp [h]
      · unfold Tg.wrap
        by_cases h : Tg.check v r.1 = 0
        · rw [if_pos h] at hu6; rw [if_neg (by simpa using h)]; exact hu6
        · rw [if_neg h] at hu6; rw [if_pos h]; exact hu6
    · have hne : (z != 0) = true := by simpa using h0
      have HX2 : Hid (t = ([], z)) := HX.out.trans (if_pos h0)
      clear h0 HOK HFIT HX
      go_wp2_with (first
        | (refine store_msg (by rfl) _ _ (by rfl) w3.heap.size Ms.zero _ _ r.1 ve vi (by rfl) (by rfl) H1.out H2.out (Lies.new _ _ _) ?_
           intro w4 hl4 hg4
           have hb := fresh_below hg4
           have HM4 := Lib.hid hl4; have HB4 := Lib.hid (HB3.out.trans (hb.mono HB3.out.size)); have HE4 := Lib.hid (ReadsR.below HE3.out hb : ReadsE w4 ve r.1.ents); have HI4 := Lib.hid (HI3.out.below hb)
           clear hl4 hg4 hb
           obtain ⟨p0, p1, p2, p3, p4, p5, p6, p7, p8, p9⟩ := Msgs.ten HM4.out)
        | fail)
      go_ret2
      rw [HX2.out]
      exact ⟨HB4.out, _, rfl, Reads.empty _⟩
  · have HX : Hid (Tg.translate v b = ([], 8)) := by show _ = _; unfold Tg.translate; rw [if_pos hm]
    rw [hm] at hm1
    have HM := Lib.hid hm1
    clear hT hF hW hu hb hm1 ho hm hn
    go_enter Tryz.func15, Tryz.ntmps15
    go_wp2_with fail
    refine HM.out.mono ?_
    rintro e2 w2 ⟨rfl, rfl⟩
    go_wp2
    go_ret2
    rw [HX.out]
    exact ⟨Below.refl _ _, _, rfl, Reads.empty _⟩

end Go.Proofs.YtndicjpbanmpjaaGreatDoor
