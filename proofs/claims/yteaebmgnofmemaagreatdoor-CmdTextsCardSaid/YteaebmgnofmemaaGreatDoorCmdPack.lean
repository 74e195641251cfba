/- A command's field put into a writer, got from a reader. -/
import Derived.Test.YteaebmgnofmemaaGreatDoorCmdAll
import Derived.Test.YteaebmgnofmemaaGreatDoorGRd
import Derived.Test.YteaebmgnofmemaaGreatDoorPkWr
import Derived.Deep.RegionHeld3
namespace Go.Proofs.YteaebmgnofmemaaGreatDoor
open Go.RowKit

/-- Blocks of structs, but the writer's, lie as they lay. -/
def Spares (o : Nat) (w w' : World) : Prop := ∀ (k : Nat) (T : TypeId) (vs : Array Value), k ≠ o → T ≠ 5 → Lies w k T vs → Lies w' k T vs
theorem Spares.refl (o : Nat) (w : World) : Spares o w w := fun _ _ _ _ _ h => h
theorem Spares.trans {o : Nat} {a b c : World} (h : Spares o a b) (k : Spares o b c) : Spares o a c := fun j T vs h1 h2 h3 => k j T vs h1 h2 (h j T vs h1 h2 h3)
theorem Spares.of_below {o : Nat} {w w' : World} (h : Below w.heap.size w w') : Spares o w w' := fun _ _ _ _ _ hl => hl.below h hl.lt
theorem Spares.of_grew {o B : Nat} {w w' : World} {v : Value} {l : List UInt8} (hw : Wrt w B o v l) (h : Grew w w' o v) : Spares o w w' :=
  fun k _ _ hk hT hl => (h.block k hl.lt hk (hl.not_row hT hw.owns)).trans hl
theorem FRow.spares {w w' : World} {lo o : Nat} {v : Value} {b : Nat} {fs : List Cm.F} (h : FRow w lo v b fs) (hs : Spares o w w') (ho : o < lo) : FRow w' lo v b fs := by
  rcases h with ⟨rfl, rfl⟩ | ⟨g, h1, rfl, h2⟩
  · exact .inl ⟨rfl, rfl⟩
  · exact .inr ⟨g, h1, rfl, hs g _ _ (by omega) (by decide) h2⟩

def PutGot (w : World) (B o : Nat) (m : List UInt8) (e : Ending) (w' : World) : Prop := e = .returned (.tuple #[]) ∧ ∃ v', Wrt w' B o v' m ∧ Spares o w w' ∧ Below B w w'

set_option maxRecDepth 4000 in
set_option maxHeartbeats 800000 in
theorem wtext_spares (s : List UInt8) (w : World) (B o : Nat) (v : Value) (l : List UInt8) (hw : Wrt w B o v l) (hB : B ≤ w.heap.size) (hlen : l.length ≤ 70368744177664) (hs : s.length ≤ 1048576) :
    Calls Tryz.prog 67 #[.pointer (some ⟨o, 0, none⟩), .string ⟨s.toArray⟩] w (PutGot w B o (l ++ Pk.text s)) := by
  have hsz := str_size s
  have h9 := enc_nine (n := s.length) (by omega)
  go_enter Tryz.func67, Tryz.ntmps67
  go_wp2_with fail
  refine (wnum_any (s.length : Int) _ B o v l hw hB (by omega) (by omega) (by omega)).mono ?_
  rintro e1 w1 ⟨rfl, v1, hw1, hg1⟩
  rw [Int.toNat_natCast] at hw1
  have hB1 := hw.below hg1 hB
  have hc1 := hw1.lies.cell 0 v1 rfl
  go_wp2_with (at_builtin; refine append_text rfl _ _ 32 9 5 rfl Tryz.underlying32 Tryz.underlying9 info_u8 B (l ++ enc s.length) s v1 rfl rfl hw1.owns (by simp; omega) (by have := hB1.size; omega) ?_; intro v2 w2 ho2 hg2; obtain ⟨ao2, cap2, rfl⟩ := ho2.reads.shape; have hl2 := hw1.lies.kept hg2 (hw1.lies.not_row (by decide) hw1.owns); have hc2 := hl2.cell 0 v1 rfl; have hf2 := hl2.free 0)
  have hp := hw1.put (by decide) ho2 hg2
  have hq := hB1.trans (hw1.below hp.2 (by have := hB1.size; omega))
  have hsp := (Spares.of_grew hw hg1).trans (Spares.of_grew hw1 hp.2)
  go_end0
  simp only [List.length_append, Nat.add_assoc] at hp hq hsp
  exact ⟨rfl, _, by unfold Pk.text; rw [← List.append_assoc]; exact hp.1, hsp, hq⟩

set_option maxRecDepth 4000 in
set_option maxHeartbeats 800000 in
theorem put_num (b i : Nat) (most x : Int) (w : World) (B o : Nat) (v : Value) (l : List UInt8) (hw : Wrt w B o v l) (hB : B ≤ w.heap.size) (hlen : l.length ≤ 70368744177664) (hc : w.cell? ⟨b, i, none⟩ = some (.int .i64 x)) (h0 : -9223372036854775808 ≤ x) (h1 : x ≤ 9223372036854775807) :
    Calls Tryz.prog 48 #[.pointer (some ⟨o, 0, none⟩), .iface 61 (.agg #[.pointer (some ⟨b, i, none⟩), .int .i64 most])] w (PutGot w B o (l ++ enc x.toNat)) := by
  have ha := isNum_yes
  have hno := isText_no
  have hst := store_nilFunc
  obtain ⟨w1, e1, c0, c1, cb, hB1⟩ := lay_pair w 61 (.pointer (some ⟨b, i, none⟩)) (.int .i64 most) b i _ hc
  have HB1 := Lib.hid hB1
  have HW1 := Lib.hid (hw.grown hB1)
  clear hB1 hw hc
  go_enter Tryz.func48, Tryz.ntmps48
  go_wp2_with fail
  refine (wnum_any x _ B o v l HW1.out (Nat.le_trans hB HB1.out.size) (by omega) h0 h1).mono ?_
  rintro e2 w2 ⟨rfl, v2, hw2, hg2⟩
  have hs2 := (Spares.of_below HB1.out).trans (Spares.of_grew HW1.out hg2)
  have hb2 := (HB1.out.mono hB).trans (HW1.out.below hg2 (Nat.le_trans hB HB1.out.size))
  go_wp2
  go_end0
  have ha2 := (Below.refl _ w2).alloc (Nat.le_refl _) (.cells #[.pointer none, .nilFunc] 66)
  exact ⟨rfl, v2, hw2.grown ha2, hs2.trans (Spares.of_below ha2), hb2.trans (ha2.mono (Nat.le_trans hB hb2.size))⟩

set_option maxRecDepth 4000 in
set_option maxHeartbeats 800000 in
theorem put_text (b i fn : Nat) (s : List UInt8) (w : World) (B o : Nat) (v : Value) (l : List UInt8) (hw : Wrt w B o v l) (hB : B ≤ w.heap.size) (hlen : l.length ≤ 70368744177664) (hc : w.cell? ⟨b, i, none⟩ = some (.string ⟨s.toArray⟩)) (hs : s.length ≤ 1048576) :
    Calls Tryz.prog 48 #[.pointer (some ⟨o, 0, none⟩), .iface 66 (.agg #[.pointer (some ⟨b, i, none⟩), .func (.func fn) #[] #[]])] w (PutGot w B o (l ++ Pk.text s)) := by
  have ha := isNum_no
  have hno := isText_yes
  have hst := store_func
  obtain ⟨w1, e1, c0, c1, cb, hB1⟩ := lay_pair2 w (.cells #[.pointer none, .int .i64 0] 61) 66 (.pointer (some ⟨b, i, none⟩)) (.func (.func fn) #[] #[]) b i _ hc
  have HB1 := Lib.hid hB1
  have HW1 := Lib.hid (hw.grown hB1)
  clear hB1 hw hc
  go_enter Tryz.func48, Tryz.ntmps48
  go_wp2_with fail
  refine (wtext_spares s _ B o v l HW1.out (Nat.le_trans hB HB1.out.size) hlen hs).mono ?_
  rintro e2 w2 ⟨rfl, v2, hw2, hs2, hb2⟩
  go_wp2
  go_end0
  exact ⟨rfl, v2, hw2, (Spares.of_below HB1.out).trans hs2, (HB1.out.mono hB).trans hb2⟩

theorem fput_any (b : Nat) (c : Cm.Cmd) (f : Cm.F) (w : World) (B o : Nat) (v : Value) (l : List UInt8) (hw : Wrt w B o v l) (hB : B ≤ w.heap.size) (hlen : l.length ≤ 70368744177664) (hl : Cmds w b c) (hf : c.Fits) (hs : c.Short 1048576) :
    Calls Tryz.prog 48 #[.pointer (some ⟨o, 0, none⟩), Cm.fv b f] w (PutGot w B o (l ++ Cm.fenc c f)) := by
  cases h : f.num with
  | true =>
    rw [show Cm.fv b f = _ from if_pos h, show Cm.fenc c f = enc (c.n f).toNat from if_pos h]
    exact put_num b f.at f.most (c.n f) w B o v l hw hB hlen (hl.cell _ _ (Cm.cells_num c f h)) (hf.n f).1 (hf.n f).2
  | false =>
    rw [show Cm.fv b f = _ from if_neg (by simp [h]), show Cm.fenc c f = Pk.text (c.s f) from if_neg (by simp [h])]
    exact put_text b f.at _ (c.s f) w B o v l hw hB hlen (hl.cell _ _ (Cm.cells_str c f h)) (hs.s f)

/-! A field got. -/
/-- All blocks of structs but two lie as they lay. -/
def Saves (o b : Nat) (w w' : World) : Prop := ∀ (k : Nat) (T : TypeId) (vs : Array Value), k ≠ o → k ≠ b → Lies w k T vs → Lies w' k T vs
theorem Saves.refl (o b : Nat) (w : World) : Saves o b w w := fun _ _ _ _ _ h => h
theorem Saves.trans {o b : Nat} {x y z : World} (h : Saves o b x y) (k : Saves o b y z) : Saves o b x z := fun j T vs h1 h2 h3 => k j T vs h1 h2 (h j T vs h1 h2 h3)
theorem Saves.of_below {o b : Nat} {w w' : World} (h : Below w.heap.size w w') : Saves o b w w' := fun _ _ _ _ _ hl => hl.below h hl.lt
theorem Saves.of_grown {o b : Nat} {w w' : World} (h : w.grownBy w' (some o)) : Saves o b w w' := fun _ _ _ h1 _ hl => hl.kept h (by intro e; cases e; exact h1 rfl)
theorem Saves.of_grown2 {o b : Nat} {w w' : World} (h : w.grownBy w' (some b)) : Saves o b w w' := fun _ _ _ _ h2 hl => hl.kept h (by intro e; cases e; exact h2 rfl)
theorem FRow.saves {w w' : World} {lo o b : Nat} {v : Value} {fs : List Cm.F} (h : FRow w lo v b fs) (hs : Saves o b w w') (ho : o < lo) (hb : b < lo) : FRow w' lo v b fs := by
  rcases h with ⟨rfl, rfl⟩ | ⟨g, h1, rfl, h2⟩
  · exact .inl ⟨rfl, rfl⟩
  · exact .inr ⟨g, h1, rfl, hs g _ _ (by omega) (by omega) h2⟩

theorem Cm.rnum_res (b : List UInt8) (p : Nat) (er : Int) : ∃ (n : Int) (q : Nat) (e : Int), Cm.rnum b p er = (n, (q : Int), e) ∧ (e ≠ 0 → n = 0) ∧ 0 ≤ n ∧ n ≤ 9223372036854775807 := by
  rcases Cm.rnum_cases b p er with ⟨e, he, hn⟩ | ⟨n, q, _, _, _, hb, hn, _⟩
  · exact ⟨_, _, _, hn, fun _ => rfl, by omega, by omega⟩
  · exact ⟨_, _, _, hn, fun h => absurd rfl h, by omega, by omega⟩
theorem Cm.rtxt_res (b : List UInt8) (p : Nat) (er : Int) (hp : p ≤ b.length) : ∃ (x : List UInt8) (q : Nat) (e : Int), Cm.rtxt b p er = (x, (q : Int), e) ∧ (e ≠ 0 → x = []) ∧ x.length ≤ b.length := by
  rcases Cm.rtxt_cases b p er hp with ⟨e, q, he, hq, hn⟩ | ⟨s, q, _, _, _, hl, hn, _⟩
  · exact ⟨_, _, _, hn, fun _ => rfl, by simp⟩
  · exact ⟨_, _, _, hn, fun h => absurd rfl h, hl⟩

end Go.Proofs.YteaebmgnofmemaaGreatDoor
