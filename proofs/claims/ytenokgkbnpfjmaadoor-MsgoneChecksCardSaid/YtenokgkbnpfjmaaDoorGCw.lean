/- Several texts of mine in one: PkWr CmdPack CmdCode. -/
import Derived.Test.YtenokgkbnpfjmaaDoorRows
import Derived.Test.YtenokgkbnpfjmaaDoorPkMem
import Derived.Test.YtenokgkbnpfjmaaDoorGNum
import Derived.Test.YtenokgkbnpfjmaaDoorClone
import Derived.Deep.RegionHeld3
import Derived.Deep.RegionLaw
import Derived.Test.YtenokgkbnpfjmaaDoorGCa
import Derived.Test.YtenokgkbnpfjmaaDoorGRd
import Derived.Test.YtenokgkbnpfjmaaDoorCmdChk
namespace Go.Proofs.YtenokgkbnpfjmaaDoor
open Go.RowKit

/-- A writer of this program's. -/
abbrev Wrt (w : World) (B o : Nat) (v : Value) (l : List UInt8) : Prop := Wr 50 5 w B o v l

set_option maxRecDepth 4000 in
set_option maxHeartbeats 800000 in
theorem wnum_any (n : Int) (w : World) (B o : Nat) (v : Value) (l : List UInt8) (hw : Wrt w B o v l) (hB : B ≤ w.heap.size) (hlen : l.length ≤ 140737488351232) (h0 : -9223372036854775808 ≤ n) (h1 : n ≤ 9223372036854775807) :
    Calls Tryd.prog 28 #[.pointer (some ⟨o, 0, none⟩), .int .i64 n] w fun e w' => e = .returned (.tuple #[]) ∧ ∃ v', Wrt w' B o v' (l ++ enc n.toNat) ∧ Grew w w' o v := by
  have hc := hw.lies.cell 0 v rfl
  have hf := hw.lies.free 0
  have h9 := enc_nine (n := n.toNat) (by omega)
  obtain ⟨ec, hec⟩ : ∃ ec, ec = enc n.toNat := ⟨_, rfl⟩
  have HW := Lib.hid hw
  go_enter Tryd.func28, Tryd.ntmps28
  go_wp2_with fail
  go_region_law (first
      | (refine step_append_bytes (by rfl) _ _ 25 5 (by rfl) Tryd.underlying25 info_u8 B l (enc n.toNat) v _ (by rfl) (by rfl) hW1.owns ho1.reads (by omega) (by omega) ?_; intro v2 w2 ho2 hg2; obtain ⟨ao2, cap2, rfl⟩ := ho2.reads.shape
         have hl2 := hW1.lies.kept hg2 (hW1.lies.not_row (by decide) hW1.owns)
         have hc2 := hl2.cell 0 v rfl
         have hf2 := hl2.free 0)
      | (rw [if_pos (by rfl)]; go_simp; go_at_call 40; refine (put_any _ [] n _ (Reads.empty _) (by simp) h0 h1).mono ?_; rintro e' w1 ⟨u, rfl, ho1, hb1⟩; rw [List.nil_append] at ho1
         have hB1 : Below w.heap.size w w1 := on (drawn w 1) hb1
         have hW1 := HW.out.grown hB1
         have hc1 := hW1.lies.cell 0 v rfl
         have hz1 := hB1.size
         dsimp only))
  all_goals
    have hp := hW1.put (by decide) ho2 hg2
    have hq := Grew.on hB1 hp.2
    go_wp2
    go_end0
    simp only [List.length_append] at hp hq
    exact ⟨rfl, _, hp.1, hq⟩

set_option maxRecDepth 4000 in
set_option maxHeartbeats 800000 in
theorem wtext_any (s : List UInt8) (w : World) (B o : Nat) (v : Value) (l : List UInt8) (hw : Wrt w B o v l) (hB : B ≤ w.heap.size) (hlen : l.length ≤ 70368744177664) (hs : s.length ≤ 1048576) :
    Calls Tryd.prog 66 #[.pointer (some ⟨o, 0, none⟩), .string ⟨s.toArray⟩] w fun e w' => e = .returned (.tuple #[]) ∧ ∃ v', Wrt w' B o v' (l ++ Pk.text s) ∧ Below B w w' := by
  have hsz := str_size s
  have h9 := enc_nine (n := s.length) (by omega)
  go_enter Tryd.func66, Tryd.ntmps66
  go_wp2_with fail
  refine (wnum_any (s.length : Int) _ B o v l hw hB (by omega) (by omega) (by omega)).mono ?_
  rintro e1 w1 ⟨rfl, v1, hw1, hg1⟩
  rw [Int.toNat_natCast] at hw1
  have hB1 := hw.below hg1 hB
  have hc1 := hw1.lies.cell 0 v1 rfl
  go_wp2_with (at_builtin; refine append_text rfl _ _ 25 9 5 rfl Tryd.underlying25 Tryd.underlying9 info_u8 B (l ++ enc s.length) s v1 rfl rfl hw1.owns (by simp; omega) (by have := hB1.size; omega) ?_; intro v2 w2 ho2 hg2; obtain ⟨ao2, cap2, rfl⟩ := ho2.reads.shape; have hl2 := hw1.lies.kept hg2 (hw1.lies.not_row (by decide) hw1.owns); have hc2 := hl2.cell 0 v1 rfl; have hf2 := hl2.free 0)
  have hp := hw1.put (by decide) ho2 hg2
  have hq := hB1.trans (hw1.below hp.2 (by have := hB1.size; omega))
  go_end0
  simp only [List.length_append, Nat.add_assoc] at hp hq
  exact ⟨rfl, _, by unfold Pk.text; rw [← List.append_assoc]; exact hp.1, hq⟩

set_option maxRecDepth 4000 in
set_option maxHeartbeats 800000 in
theorem wraw_any (u : Value) (s : List UInt8) (w : World) (B o : Nat) (v : Value) (l : List UInt8) (hw : Wrt w B o v l) (hB : B ≤ w.heap.size) (hlen : l.length ≤ 70368744177664) (hs : s.length ≤ 1048576) (hu : Reads w u s)
    (hoff : ∀ x n c, u = .slice (some x) n c → x.block ≠ o ∧ some x.block ≠ v.ownBlock) :
    Calls Tryd.prog 30 #[.pointer (some ⟨o, 0, none⟩), u] w fun e w' => e = .returned (.tuple #[]) ∧ ∃ v', Wrt w' B o v' (l ++ Pk.text s) ∧ Below B w w' := by
  have h9 := enc_nine (n := s.length) (by omega)
  obtain ⟨uo, uc, rfl⟩ := hu.shape
  go_enter Tryd.func30, Tryd.ntmps30
  go_wp2_with fail
  refine (wnum_any (s.length : Int) _ B o v l hw hB (by omega) (by omega) (by omega)).mono ?_
  rintro e1 w1 ⟨rfl, v1, hw1, hg1⟩
  rw [Int.toNat_natCast] at hw1
  have hB1 := hw.below hg1 hB
  have hu1 := hu.grew hg1 hoff
  have hc1 := hw1.lies.cell 0 v1 rfl
  go_wp2_with (at_builtin; refine append_bytes rfl _ _ 25 5 rfl Tryd.underlying25 info_u8 B (l ++ enc s.length) s v1 _ rfl rfl hw1.owns hu1 (by simp; omega) w1 (Below.refl _ _) (by have := hB1.size; omega) ?_; intro v2 w2 ho2 hb2 hg2; obtain ⟨ao2, cap2, rfl⟩ := ho2.reads.shape; have hl2 := hw1.lies.kept hg2 (hw1.lies.not_row (by decide) hw1.owns); have hc2 := hl2.cell 0 v1 rfl; have hf2 := hl2.free 0)
  have hp := hw1.put (by decide) ho2 hg2
  have hq := hB1.trans (hw1.below hp.2 (by have := hB1.size; omega))
  go_end0
  simp only [List.length_append, Nat.add_assoc] at hp hq
  exact ⟨rfl, _, by unfold Pk.text; rw [← List.append_assoc]; exact hp.1, hq⟩

set_option maxRecDepth 4000 in
set_option maxHeartbeats 800000 in
theorem wbytes_any (w : World) (B o : Nat) (v : Value) (l : List UInt8) (hw : Wrt w B o v l) (hlen : l.length ≤ 70368744177664) :
    Calls Tryd.prog 31 #[.pointer (some ⟨o, 0, none⟩)] w (Makes w 5 l) := by
  have hc := hw.lies.cell 0 v rfl
  go_enter Tryd.func31, Tryd.ntmps31
  go_wp2_with fail
  refine (clone_any v l _ hw.owns.reads (by omega)).mono ?_
  rintro e1 w1 ⟨u, rfl, ho, hb⟩
  go_wp2
  go_ret
  exact ⟨_, rfl, ho, hb⟩

/-! Where there is no writer. -/
set_option maxHeartbeats 800000 in
theorem wnum_nil (n : Int) (w : World) : Calls Tryd.prog 28 #[.pointer none, .int .i64 n] w fun e w' => e = .returned (.tuple #[]) ∧ w = w' := by
  go_enter Tryd.func28, Tryd.ntmps28
  go_wp2
  go_end0
  exact ⟨rfl, rfl⟩
theorem wtext_nil (s : ByteArray) (w : World) : Calls Tryd.prog 66 #[.pointer none, .string s] w fun e w' => e = .returned (.tuple #[]) ∧ w = w' := by
  go_enter Tryd.func66, Tryd.ntmps66
  go_wp2
  go_end0
  exact ⟨rfl, rfl⟩
theorem wraw_nil (u : Value) (w : World) : Calls Tryd.prog 30 #[.pointer none, u] w fun e w' => e = .returned (.tuple #[]) ∧ w = w' := by
  go_enter Tryd.func30, Tryd.ntmps30
  go_wp2
  go_end0
  exact ⟨rfl, rfl⟩
theorem wbytes_nil (w : World) : Calls Tryd.prog 31 #[.pointer none] w fun e w' => e = .returned (.slice none 0 0) ∧ w = w' := by
  go_enter Tryd.func31, Tryd.ntmps31
  go_wp2
  go_ret
  exact ⟨rfl, rfl⟩
end Go.Proofs.YtenokgkbnpfjmaaDoor


namespace Go.Proofs.YtenokgkbnpfjmaaDoor
open Go.RowKit

/-- Blocks of structs, but the writer's, lie as they lay. -/
def Spares (o : Nat) (w w' : World) : Prop := ∀ (k : Nat) (T : TypeId) (vs : Array Value), k ≠ o → T ≠ 5 → Lies w k T vs → Lies w' k T vs
theorem Spares.refl (o : Nat) (w : World) : Spares o w w := fun _ _ _ _ _ h => h
theorem Spares.trans {o : Nat} {a b c : World} (h : Spares o a b) (k : Spares o b c) : Spares o a c := fun j T vs h1 h2 h3 => k j T vs h1 h2 (h j T vs h1 h2 h3)
theorem Spares.of_below {o : Nat} {w w' : World} (h : Below w.heap.size w w') : Spares o w w' := fun _ _ _ _ _ hl => hl.below h hl.lt
theorem Spares.of_grew {o B : Nat} {w w' : World} {v : Value} {l : List UInt8} (hw : Wrt w B o v l) (h : Grew w w' o v) : Spares o w w' :=
  fun k _ _ hk hT hl => (h.block k hl.lt hk (hl.not_row hT hw.owns)).trans hl
theorem FRow.spares {w w' : World} {lo o : Nat} {v : Value} {b : Nat} {fs : List Cm.F} (h : FRow w lo v b fs) (hs : Spares o w w') (ho : o < lo) : FRow w' lo v b fs := by
  rcases h with ⟨rfl, rfl⟩ | ⟨g, h1, rfl, h2⟩
  · exact .inl ⟨rfl, rfl⟩
  · exact .inr ⟨g, h1, rfl, hs g _ _ (by omega) (by decide) h2⟩

def PutGot (w : World) (B o : Nat) (m : List UInt8) (e : Ending) (w' : World) : Prop := e = .returned (.tuple #[]) ∧ ∃ v', Wrt w' B o v' m ∧ Spares o w w' ∧ Below B w w'

set_option maxRecDepth 4000 in
set_option maxHeartbeats 800000 in
theorem wtext_spares (s : List UInt8) (w : World) (B o : Nat) (v : Value) (l : List UInt8) (hw : Wrt w B o v l) (hB : B ≤ w.heap.size) (hlen : l.length ≤ 70368744177664) (hs : s.length ≤ 1048576) :
    Calls Tryd.prog 66 #[.pointer (some ⟨o, 0, none⟩), .string ⟨s.toArray⟩] w (PutGot w B o (l ++ Pk.text s)) := by
  have hsz := str_size s
  have h9 := enc_nine (n := s.length) (by omega)
  go_enter Tryd.func66, Tryd.ntmps66
  go_wp2_with fail
  refine (wnum_any (s.length : Int) _ B o v l hw hB (by omega) (by omega) (by omega)).mono ?_
  rintro e1 w1 ⟨rfl, v1, hw1, hg1⟩
  rw [Int.toNat_natCast] at hw1
  have hB1 := hw.below hg1 hB
  have hc1 := hw1.lies.cell 0 v1 rfl
  go_wp2_with (at_builtin; refine append_text rfl _ _ 25 9 5 rfl Tryd.underlying25 Tryd.underlying9 info_u8 B (l ++ enc s.length) s v1 rfl rfl hw1.owns (by simp; omega) (by have := hB1.size; omega) ?_; intro v2 w2 ho2 hg2; obtain ⟨ao2, cap2, rfl⟩ := ho2.reads.shape; have hl2 := hw1.lies.kept hg2 (hw1.lies.not_row (by decide) hw1.owns); have hc2 := hl2.cell 0 v1 rfl; have hf2 := hl2.free 0)
  have hp := hw1.put (by decide) ho2 hg2
  have hq := hB1.trans (hw1.below hp.2 (by have := hB1.size; omega))
  have hsp := (Spares.of_grew hw hg1).trans (Spares.of_grew hw1 hp.2)
  go_end0
  simp only [List.length_append, Nat.add_assoc] at hp hq hsp
  exact ⟨rfl, _, by unfold Pk.text; rw [← List.append_assoc]; exact hp.1, hsp, hq⟩

set_option maxRecDepth 4000 in
set_option maxHeartbeats 800000 in
theorem put_num (b i : Nat) (most x : Int) (w : World) (B o : Nat) (v : Value) (l : List UInt8) (hw : Wrt w B o v l) (hB : B ≤ w.heap.size) (hlen : l.length ≤ 70368744177664) (hc : w.cell? ⟨b, i, none⟩ = some (.int .i64 x)) (h0 : -9223372036854775808 ≤ x) (h1 : x ≤ 9223372036854775807) :
    Calls Tryd.prog 52 #[.pointer (some ⟨o, 0, none⟩), .iface 85 (.agg #[.pointer (some ⟨b, i, none⟩), .int .i64 most])] w (PutGot w B o (l ++ enc x.toNat)) := by
  have ha := isNum_yes
  have hno := isText_no
  have hst := store_nilFunc
  obtain ⟨w1, e1, c0, c1, cb, hB1⟩ := lay_pair w 85 (.pointer (some ⟨b, i, none⟩)) (.int .i64 most) b i _ hc
  have HB1 := Lib.hid hB1
  have HW1 := Lib.hid (hw.grown hB1)
  clear hB1 hw hc
  go_enter Tryd.func52, Tryd.ntmps52
  go_wp2_with fail
  refine (wnum_any x _ B o v l HW1.out (Nat.le_trans hB HB1.out.size) (by omega) h0 h1).mono ?_
  rintro e2 w2 ⟨rfl, v2, hw2, hg2⟩
  have hs2 := (Spares.of_below HB1.out).trans (Spares.of_grew HW1.out hg2)
  have hb2 := (HB1.out.mono hB).trans (HW1.out.below hg2 (Nat.le_trans hB HB1.out.size))
  go_wp2
  go_end0
  have ha2 := (Below.refl _ w2).alloc (Nat.le_refl _) (.cells #[.pointer none, .nilFunc] 90)
  exact ⟨rfl, v2, hw2.grown ha2, hs2.trans (Spares.of_below ha2), hb2.trans (ha2.mono (Nat.le_trans hB hb2.size))⟩

set_option maxRecDepth 4000 in
set_option maxHeartbeats 800000 in
theorem put_text (b i fn : Nat) (s : List UInt8) (w : World) (B o : Nat) (v : Value) (l : List UInt8) (hw : Wrt w B o v l) (hB : B ≤ w.heap.size) (hlen : l.length ≤ 70368744177664) (hc : w.cell? ⟨b, i, none⟩ = some (.string ⟨s.toArray⟩)) (hs : s.length ≤ 1048576) :
    Calls Tryd.prog 52 #[.pointer (some ⟨o, 0, none⟩), .iface 90 (.agg #[.pointer (some ⟨b, i, none⟩), .func (.func fn) #[] #[]])] w (PutGot w B o (l ++ Pk.text s)) := by
  have ha := isNum_no
  have hno := isText_yes
  have hst := store_func
  obtain ⟨w1, e1, c0, c1, cb, hB1⟩ := lay_pair2 w (.cells #[.pointer none, .int .i64 0] 85) 90 (.pointer (some ⟨b, i, none⟩)) (.func (.func fn) #[] #[]) b i _ hc
  have HB1 := Lib.hid hB1
  have HW1 := Lib.hid (hw.grown hB1)
  clear hB1 hw hc
  go_enter Tryd.func52, Tryd.ntmps52
  go_wp2_with fail
  refine (wtext_spares s _ B o v l HW1.out (Nat.le_trans hB HB1.out.size) hlen hs).mono ?_
  rintro e2 w2 ⟨rfl, v2, hw2, hs2, hb2⟩
  go_wp2
  go_end0
  exact ⟨rfl, v2, hw2, (Spares.of_below HB1.out).trans hs2, (HB1.out.mono hB).trans hb2⟩

theorem fput_any (b : Nat) (c : Cm.Cmd) (f : Cm.F) (w : World) (B o : Nat) (v : Value) (l : List UInt8) (hw : Wrt w B o v l) (hB : B ≤ w.heap.size) (hlen : l.length ≤ 70368744177664) (hl : Cmds w b c) (hf : c.Fits) (hs : c.Short 1048576) :
    Calls Tryd.prog 52 #[.pointer (some ⟨o, 0, none⟩), Cm.fv b f] w (PutGot w B o (l ++ Cm.fenc c f)) := by
  cases h : f.num with
  | true =>
    rw [show Cm.fv b f = _ from if_pos h, show Cm.fenc c f = enc (c.n f).toNat from if_pos h]
    exact put_num b f.at f.most (c.n f) w B o v l hw hB hlen (hl.cell _ _ (Cm.cells_num c f h)) (hf.n f).1 (hf.n f).2
  | false =>
    rw [show Cm.fv b f = _ from if_neg (by simp [h]), show Cm.fenc c f = Pk.text (c.s f) from if_neg (by simp [h])]
    exact put_text b f.at _ (c.s f) w B o v l hw hB hlen (hl.cell _ _ (Cm.cells_str c f h)) (hs.s f)

/-! A field got. -/
/-- All blocks of structs but two lie as they lay. -/
def Saves (o b : Nat) (w w' : World) : Prop := ∀ (k : Nat) (T : TypeId) (vs : Array Value), k ≠ o → k ≠ b → Lies w k T vs → Lies w' k T vs
theorem Saves.refl (o b : Nat) (w : World) : Saves o b w w := fun _ _ _ _ _ h => h
theorem Saves.trans {o b : Nat} {x y z : World} (h : Saves o b x y) (k : Saves o b y z) : Saves o b x z := fun j T vs h1 h2 h3 => k j T vs h1 h2 (h j T vs h1 h2 h3)
theorem Saves.of_below {o b : Nat} {w w' : World} (h : Below w.heap.size w w') : Saves o b w w' := fun _ _ _ _ _ hl => hl.below h hl.lt
theorem Saves.of_grown {o b : Nat} {w w' : World} (h : w.grownBy w' (some o)) : Saves o b w w' := fun _ _ _ h1 _ hl => hl.kept h (by intro e; cases e; exact h1 rfl)
theorem Saves.of_grown2 {o b : Nat} {w w' : World} (h : w.grownBy w' (some b)) : Saves o b w w' := fun _ _ _ _ h2 hl => hl.kept h (by intro e; cases e; exact h2 rfl)
theorem FRow.saves {w w' : World} {lo o b : Nat} {v : Value} {fs : List Cm.F} (h : FRow w lo v b fs) (hs : Saves o b w w') (ho : o < lo) (hb : b < lo) : FRow w' lo v b fs := by
  rcases h with ⟨rfl, rfl⟩ | ⟨g, h1, rfl, h2⟩
  · exact .inl ⟨rfl, rfl⟩
  · exact .inr ⟨g, h1, rfl, hs g _ _ (by omega) (by omega) h2⟩

theorem Cm.rnum_res (b : List UInt8) (p : Nat) (er : Int) : ∃ (n : Int) (q : Nat) (e : Int), Cm.rnum b p er = (n, (q : Int), e) ∧ (e ≠ 0 → n = 0) ∧ 0 ≤ n ∧ n ≤ 9223372036854775807 := by
  rcases Cm.rnum_cases b p er with ⟨e, he, hn⟩ | ⟨n, q, _, _, _, hb, hn, _⟩
  · exact ⟨_, _, _, hn, fun _ => rfl, by omega, by omega⟩
  · exact ⟨_, _, _, hn, fun h => absurd rfl h, by omega, by omega⟩
theorem Cm.rtxt_res (b : List UInt8) (p : Nat) (er : Int) (hp : p ≤ b.length) : ∃ (x : List UInt8) (q : Nat) (e : Int), Cm.rtxt b p er = (x, (q : Int), e) ∧ (e ≠ 0 → x = []) ∧ x.length ≤ b.length := by
  rcases Cm.rtxt_cases b p er hp with ⟨e, q, he, hq, hn⟩ | ⟨s, q, _, _, _, hl, hn, _⟩
  · exact ⟨_, _, _, hn, fun _ => rfl, by simp⟩
  · exact ⟨_, _, _, hn, fun h => absurd rfl h, hl⟩

end Go.Proofs.YtenokgkbnpfjmaaDoor


namespace Go.Proofs.YtenokgkbnpfjmaaDoor
open Go.RowKit

theorem Cmds.all {w : World} {b : Nat} {c : Cm.Cmd} (h : Cmds w b c) : w.cell? ⟨b, 0, none⟩ = some (.int .i64 c.kind) ∧ w.cell? ⟨b, 1, none⟩ = some (.int .i64 c.client) ∧ w.cell? ⟨b, 2, none⟩ = some (.int .i64 c.seq) ∧ w.cell? ⟨b, 3, none⟩ = some (.string ⟨c.key.toArray⟩) ∧
    w.cell? ⟨b, 4, none⟩ = some (.string ⟨c.val.toArray⟩) ∧ w.cell? ⟨b, 5, none⟩ = some (.string ⟨c.old.toArray⟩) ∧ w.cell? ⟨b, 6, none⟩ = some (.int .i64 c.node) :=
  ⟨h.cell 0 _ rfl, h.cell 1 _ rfl, h.cell 2 _ rfl, h.cell 3 _ rfl, h.cell 4 _ rfl, h.cell 5 _ rfl, h.cell 6 _ rfl⟩

theorem Wr.fresh (T E : TypeId) (w : World) (B : Nat) (hB : B ≤ w.heap.size) : Wr T E (w.alloc (.cells #[.slice none 0 0] T)) B w.heap.size (.slice none 0 0) [] :=
  ⟨hB, Lies.new _ _ _, Owns.empty _ _ _⟩
theorem Cm.fenc_len (c : Cm.Cmd) (hf : c.Fits) (hs : c.Short 1000) (f : Cm.F) : (Cm.fenc c f).length ≤ 1009 := by
  unfold Cm.fenc
  split
  · have := (hf.n f).2
    have := enc_nine (n := (c.n f).toNat) (by omega)
    omega
  · have := hs.s f
    have h9 := enc_nine (n := (c.s f).length) (by omega)
    simp [Pk.text]; omega
theorem Cm.flat_len (c : Cm.Cmd) (hf : c.Fits) (hs : c.Short 1000) : ∀ fs : List Cm.F, (fs.flatMap (Cm.fenc c)).length ≤ 1009 * fs.length := by
  intro fs
  induction fs with
  | nil => simp
  | cons f fs ih => rw [List.flatMap_cons, List.length_append, List.length_cons]; have := Cm.fenc_len c hf hs f; omega

set_option maxRecDepth 4000 in
set_option maxHeartbeats 1600000 in
theorem cput_any (v : Int) (c : Cm.Cmd) (w : World) (B o : Nat) (u : Value) (hm : Vs.may v = true) (hw : Wrt w B o u []) (hB : B ≤ w.heap.size) (hf : c.Fits) (hs : c.Short 1000) :
    Calls Tryd.prog 41 #[.pointer (some ⟨o, 0, none⟩), .int .i64 v, .agg (Cm.cells c)] w (PutGot w B o (Cm.bytes v c)) := by
  have ho := hw.lies.lt
  have hs2 : c.Short 1048576 := ⟨by have := hs.1; omega, by have := hs.2.1; omega, by have := hs.2.2; omega⟩
  obtain ⟨w1, e1, hl1, hB1, hz1⟩ := box_cmd w c
  have hk : w1.cell? ⟨w.heap.size, 0, none⟩ = some (.int .i64 c.kind) := hl1.cell 0 _ rfl
  have HL1 := Lib.hid hl1; have HB1 := Lib.hid hB1; have HZ1 := Lib.hid hz1
  have HW1 := Lib.hid (hw.grown hB1)
  clear hl1 hB1 hz1 hw
  go_enter Tryd.func41, Tryd.ntmps41
  go_wp2_with fail
  refine (may_any v _).mono ?_
  rintro e w2 ⟨rfl, rfl⟩
  rw [hm]
  go_wp2_with fail
  refine (wnum_any c.kind _ B o u [] HW1.out (Nat.le_trans hB HB1.out.size) (by simp) hf.k0 hf.k1).mono ?_
  rintro e w2 ⟨rfl, u2, hw2, hg2⟩
  have hp2 := Spares.of_grew HW1.out hg2
  have hb2 := HW1.out.below hg2 (Nat.le_trans hB HB1.out.size)
  have hl2 : Cmds w2 w.heap.size c := hp2 _ _ _ (by omega) (by decide) HL1.out
  have hk2 : w2.cell? ⟨w.heap.size, 0, none⟩ = some (.int .i64 c.kind) := hl2.cell 0 _ rfl
  rw [List.nil_append] at hw2
  have HB2 := Lib.hid ((HB1.out.mono hB).trans hb2)
  have HP2 := Lib.hid ((Spares.of_below (o := o) HB1.out).trans hp2)
  have HW2 := Lib.hid hw2
  have HL2 := Lib.hid hl2
  have hz2 : w.heap.size + 1 ≤ w2.heap.size := by have := hb2.size; have := HZ1.out; omega
  clear hp2 hb2 hl2 hw2 hg2
  go_wp2_with fail
  refine (encoded_any v w.heap.size c.kind _ hk2).mono ?_
  rintro e w3 ⟨r, rfl, hr, hB3⟩
  obtain ⟨ao, rfl⟩ := hr.shape
  have hn := Cm.encoded_len v c.kind
  have HBY : Hid (Cm.bytes v c = enc c.kind.toNat ++ (Cm.encoded v c.kind).flatMap (Cm.fenc c)) := rfl
  obtain ⟨fs, hfs⟩ : ∃ fs, fs = Cm.encoded v c.kind := ⟨_, rfl⟩
  rw [← hfs] at hr hn ⊢
  have HFS := Lib.hid hfs
  have HR := Lib.hid hr
  have HL3 := Lib.hid (HL2.out.below hB3 HL2.out.lt)
  have HW3 := Lib.hid (HW2.out.grown hB3)
  have HB3 := Lib.hid (HB2.out.trans (hB3.mono (Nat.le_trans hB HB2.out.size)))
  have HP3 := Lib.hid (HP2.out.trans (Spares.of_below (o := o) hB3))
  have H9 := Lib.hid (enc_nine (n := c.kind.toNat) (by have := hf.k1; omega))
  have HFL := Lib.hid (Cm.flat_len c hf hs)
  clear hr hfs hB3 hk hk2
  go_wp2
  go_loopw [7, 18] (fun _ i wr => ∃ (k : Nat) (u' : Value), i = .int .i64 (k : Int) ∧ k ≤ fs.length ∧ Hid (Below B w wr) ∧ Hid (Wrt wr B o u' (enc c.kind.toNat ++ (fs.take k).flatMap (Cm.fenc c))) ∧ Hid (Cmds wr w.heap.size c) ∧ Hid (FRow wr w2.heap.size (.slice ao fs.length fs.length) w.heap.size fs) ∧ Hid (Spares o w wr)) (fun _ i _ => fs.length - (intOf i).toNat)
  case atStart =>
    refine ⟨0, u2, rfl, by omega, HB3, ?_, HL3, HR, HP3⟩
    show Wrt _ _ _ _ _
    rw [List.take_zero, List.flatMap_nil, List.append_nil]
    exact HW3.out
  case round =>
    obtain ⟨k, u', rfl, hk, HB, HW, HL, HF, HP⟩ := hrel
    by_cases hlt : k < fs.length
    · have hlt' : (k : Int) < (fs.length : Int) := by omega
      obtain ⟨f, hff⟩ : ∃ f, fs[k]? = some f := ⟨_, List.getElem?_eq_getElem hlt⟩
      obtain ⟨g, rfl, hcell⟩ := HF.out.cell hff
      have HFK := Lib.hid hff
      have hlen : (enc c.kind.toNat ++ (fs.take k).flatMap (Cm.fenc c)).length ≤ 70368744177664 := by
        have := HFL.out (fs.take k)
        have := H9.out
        rw [List.length_append]
        rw [List.length_take] at *
        omega
      clear hff
      go_wp2_with fail
      refine (fput_any w.heap.size c f _ B o u' _ HW.out (Nat.le_trans hB HB.out.size) hlen HL.out hf hs2).mono ?_
      rintro e w4 ⟨rfl, u4, hw4, hp4, hb4⟩
      have HL4 := Lib.hid (hp4 _ _ _ (by omega) (by decide) HL.out)
      have HF4 := Lib.hid (HF.out.spares hp4 (by omega))
      have HP4 := Lib.hid (HP.out.trans hp4)
      have HB4 := Lib.hid (HB.out.trans hb4)
      have HW4 := Lib.hid hw4
      clear hw4 hp4 hb4 hlen
      go_wp2
      go_roundw
      case rel =>
        refine ⟨k + 1, u4, by go_num, by omega, HB4, ?_, HL4, HF4, HP4⟩
        show Wrt _ _ _ _ _
        have := HW4.out
        rw [List.take_add_one, HFK.out, List.flatMap_append, Option.toList_some, List.flatMap_singleton, ← List.append_assoc]
        exact this
      case measure => simp [intOf]; omega
    · have hlt' : ¬ (k : Int) < (fs.length : Int) := by omega
      have hw5 := HW.out
      rw [List.take_of_length_le (by omega), HFS.out, ← HBY.out] at hw5
      have HW5 := Lib.hid hw5
      clear hw5
      go_wp2
      go_end0
      exact ⟨rfl, u', HW5.out, HP.out, HB.out⟩

/-! A command that lies in a block, read and stored whole. -/
theorem run_command (w : World) (g : Nat) (c : Cm.Cmd) (h : Cmds w g c) : (loadVar 44 ⟨g, 0, none⟩).run Tryd.prog w = .ok (.agg (Cm.cells c)) w :=
  run_loadVar_row w g _ _ (Cm.cells c) (0, 0) _ h Tryd.underlying44 rfl (by kernel_rfl)
theorem ret_cmd1 {fn : Func} {R : Ending → World → Prop} {a : Act} {w : World} {p : Tmp} {g : Nat} {c : Cm.Cmd} (h : fn.results = #[.cell p 44]) (hp : a.tmps.getD p undef = .pointer (some ⟨g, 0, none⟩))
    (hl : Cmds w g c) (hd : a.defers = []) (hR : R (.returned (.agg (Cm.cells c))) w) : bodyPost Tryd.prog fn R .ret a w := by
  refine bodyPost_ret ?_ hd hR
  rw [results_one h, hp]
  simp [asAddr, Result.andThen, run_command w g c hl]
theorem ret_cmd2 {fn : Func} {R : Ending → World → Prop} {a : Act} {w : World} {p u : Tmp} {g : Nat} {c : Cm.Cmd} (h : fn.results = #[.cell p 44, .tmp u]) (hp : a.tmps.getD p undef = .pointer (some ⟨g, 0, none⟩))
    (hl : Cmds w g c) (hd : a.defers = []) (hR : R (.returned (.tuple #[.agg (Cm.cells c), a.tmps.getD u undef])) w) : bodyPost Tryd.prog fn R .ret a w := by
  refine bodyPost_ret ?_ hd hR
  rw [results_two h, hp]
  simp [asAddr, Result.andThen, run_command w g c hl]

theorem Cm.cells_one (c : Cm.Cmd) : (Cm.cells c).all (·.oneCell') = true := by simp [Cm.cells, Value.oneCell']
theorem Cm.cells_at (c : Cm.Cmd) (j : Nat) (hj : j < 7) : ∃ v, (Cm.cells c)[j]? = some v := ⟨_, Array.getElem?_eq_getElem (show j < (Cm.cells c).size from hj)⟩
set_option maxHeartbeats 1600000 in
theorem store_cmd {ops : Array Oper} {rest : List Oper} {op : Oper} {a : Act} {w : World} {Q : Exit → Act → World → Prop} (hgd : op.guard = none) (x y : Operand) (ho : op.op = .store 44 x y)
    (g : Nat) (c0 c : Cm.Cmd) (hx : a.eval x = .pointer (some ⟨g, 0, none⟩)) (hy : a.eval y = .agg (Cm.cells c)) (hl : Cmds w g c0)
    (h : ∀ w', Cmds w' g c → w.grownBy w' (some g) → wpList Tryd.prog ops Q rest (a.put op.dst undef) w') : wpList Tryd.prog ops Q (op :: rest) a w := by
  have h0 : ∀ j, j < 7 → (w.cell? ⟨g, j, none⟩).isSome = true := by
    intro j hj
    obtain ⟨v, hv⟩ := Cm.cells_at c0 j hj
    rw [hl.cell j v hv]; rfl
  have hone := Cm.cells_one c
  have hL : Cmds (((((((w.setCell ⟨g, 0, none⟩ (.int .i64 c.kind)).setCell ⟨g, 1, none⟩ (.int .i64 c.client)).setCell ⟨g, 2, none⟩ (.int .i64 c.seq)).setCell ⟨g, 3, none⟩ (.string ⟨c.key.toArray⟩)).setCell ⟨g, 4, none⟩ (.string ⟨c.val.toArray⟩)).setCell ⟨g, 5, none⟩ (.string ⟨c.old.toArray⟩)).setCell ⟨g, 6, none⟩ (.int .i64 c.node)) g c :=
    ((((((hl.set 0 _).set 1 _).set 2 _).set 3 _).set 4 _).set 5 _).set 6 _
  have hG : w.grownBy (((((((w.setCell ⟨g, 0, none⟩ (.int .i64 c.kind)).setCell ⟨g, 1, none⟩ (.int .i64 c.client)).setCell ⟨g, 2, none⟩ (.int .i64 c.seq)).setCell ⟨g, 3, none⟩ (.string ⟨c.key.toArray⟩)).setCell ⟨g, 4, none⟩ (.string ⟨c.val.toArray⟩)).setCell ⟨g, 5, none⟩ (.string ⟨c.old.toArray⟩)).setCell ⟨g, 6, none⟩ (.int .i64 c.node)) (some g) :=
    grown_on (grown_on (grown_on (grown_on (grown_on (grown_on (grown_set w g 0 _) (grown_set _ g 1 _)) (grown_set _ g 2 _)) (grown_set _ g 3 _)) (grown_set _ g 4 _)) (grown_set _ g 5 _)) (grown_set _ g 6 _)
  have hf := hl.free
  refine wpList_store_mid hgd _ x y ho g 0 (Cm.cells c) hx hy (fun j hj => ?_) (by kernel_rfl) hone (h _ hL hG)
  rw [Nat.zero_add]
  exact ⟨h0 j hj, hf j⟩
theorem load_cmd {ops : Array Oper} {rest : List Oper} {op : Oper} {a : Act} {w : World} {Q : Exit → Act → World → Prop} (hgd : op.guard = none) (x : Operand) (ho : op.op = .load 44 x)
    (g : Nat) (c : Cm.Cmd) (hx : a.eval x = .pointer (some ⟨g, 0, none⟩)) (hl : Cmds w g c)
    (h : wpList Tryd.prog ops Q rest (a.put op.dst (.agg (Cm.cells c))) w) : wpList Tryd.prog ops Q (op :: rest) a w :=
  wpList_load_mid hgd _ x ho g 0 hx (Cm.cells c).toList _ (fun j v hv => by rw [Nat.zero_add]; exact hl.cell j v (by simpa using hv)) Tryd.underlying44 rfl (by kernel_rfl) h

theorem Cm.checkIn_may {v : Int} {c : Cm.Cmd} (h : Cm.checkIn v c = 0) : Vs.may v = true := by
  unfold Cm.checkIn at h
  cases hm : Vs.may v with
  | true => rfl
  | false => rw [if_pos hm] at h; omega
theorem Cm.bytes_len (v : Int) (c : Cm.Cmd) (hf : c.Fits) (hs : c.Short 1000) : (Cm.bytes v c).length ≤ 6000 := by
  have h1 := enc_nine (n := c.kind.toNat) (by have := hf.k1; omega)
  have h2 := Cm.flat_len c hf hs (Cm.encoded v c.kind)
  have h3 := Cm.encoded_len v c.kind
  unfold Cm.bytes
  rw [List.length_append]
  omega

/-- What an encoding gives. -/
def Encd (w : World) (v : Int) (c : Cm.Cmd) (e : Ending) (w' : World) : Prop :=
  Below w.heap.size w w' ∧ ∃ u, e = .returned (.tuple #[u, .int .i64 (Cm.checkIn v c)]) ∧ Reads w' u (if Cm.checkIn v c = 0 then Cm.bytes v c else [])

theorem Cm.gstep_inv (b : List UInt8) (t : Cm.Cmd × Nat × Int) (f : Cm.F) (hp : t.2.1 ≤ b.length) (hs : t.1.Short b.length) (hf : t.1.Fits) : (Cm.gstep b t f).2.1 ≤ b.length ∧ (Cm.gstep b t f).1.Short b.length ∧ (Cm.gstep b t f).1.Fits := by
  obtain ⟨c, p, er⟩ := t
  dsimp only at hp hs hf
  unfold Cm.gstep
  cases h : f.num with
  | true =>
    rw [if_pos rfl]
    dsimp only
    rcases Cm.rnum_cases b p er with ⟨e, _, hn⟩ | ⟨n, q, _, _, hq, hb, hn, _⟩
    · rw [hn]; exact ⟨by simpa using hp, hs.setN f _, hf.setN f (by omega) (by omega)⟩
    · rw [hn]; exact ⟨by simpa using hq, hs.setN f _, hf.setN f (by simp only; omega) (by simp only; omega)⟩
  | false =>
    rw [if_neg (by simp)]
    dsimp only
    rcases Cm.rtxt_cases b p er hp with ⟨e, q, _, hq, hn⟩ | ⟨s, q, _, _, hq, hl, hn, _⟩
    · rw [hn]; exact ⟨by simpa using hq, hs.setS f (by simp), hf.setS f _⟩
    · rw [hn]; exact ⟨by simpa using hq, hs.setS f hl, hf.setS f _⟩
theorem Cm.fold_inv (b : List UInt8) : ∀ (fs : List Cm.F) (t : Cm.Cmd × Nat × Int), t.2.1 ≤ b.length → t.1.Short b.length → t.1.Fits → (fs.foldl (Cm.gstep b) t).2.1 ≤ b.length ∧ (fs.foldl (Cm.gstep b) t).1.Short b.length ∧ (fs.foldl (Cm.gstep b) t).1.Fits := by
  intro fs
  induction fs with
  | nil => intro t h1 h2 h3; exact ⟨h1, h2, h3⟩
  | cons f fs ih =>
    intro t h1 h2 h3
    obtain ⟨h4, h5, h6⟩ := Cm.gstep_inv b t f h1 h2 h3
    exact ih _ h4 h5 h6
theorem Cm.get_inv (v : Int) (b : List UInt8) : (Cm.get v b 0 0).2.1 ≤ b.length ∧ (Cm.get v b 0 0).1.Short b.length ∧ (Cm.get v b 0 0).1.Fits := by
  unfold Cm.get
  have hS : ∀ n, (Cm.bareOf n).Short b.length := fun n => ⟨by simp [Cm.bareOf], by simp [Cm.bareOf], by simp [Cm.bareOf]⟩
  rcases Cm.rnum_cases b 0 0 with ⟨e, _, hn⟩ | ⟨n, q, _, _, hq, hb, hn, _⟩
  · rw [hn]
    exact Cm.fold_inv b _ _ (by simp) (hS _) (by constructor <;> simp [Cm.bareOf])
  · rw [hn]
    exact Cm.fold_inv b _ _ (by simpa using hq) (hS _) (by constructor <;> simp [Cm.bareOf] <;> omega)

/-- What a decoding gives. -/
def Decd (w : World) (r : Cm.Cmd × Int) (e : Ending) (w' : World) : Prop := e = .returned (.tuple #[.agg (Cm.cells r.1), .int .i64 r.2]) ∧ Below w.heap.size w w'

end Go.Proofs.YtenokgkbnpfjmaaDoor
