/- A field filled from a word; the kind of a word. -/
import Derived.Test.YteaebmgnofmemaaGreatDoorCmdText
import Derived.Test.YteaebmgnofmemaaGreatDoorCmdCode
import Derived.Lib.AtoiAll
import Derived.Deep.RegionHeld3
namespace Go.Proofs.YteaebmgnofmemaaGreatDoor
open Go.RowKit

namespace Cm
def heardN (w : List UInt8) : Int := match Lib.atoiAll w with | .ok v => v | .range => Lib.atoiSat w | _ => 0
def heardS (w : List UInt8) : List UInt8 := match Qt.unq ⟨w.toArray⟩ with | some o => o | none => []
def hear (c : Cmd) (f : F) (w : List UInt8) : Cmd := if f.num = true then c.setN (heardN w) f else c.setS (heardS w) f

theorem heardN_fits (w : List UInt8) : -9223372036854775808 ≤ heardN w ∧ heardN w ≤ 9223372036854775807 := by
  unfold heardN
  split
  · rename_i v h
    unfold Lib.atoiAll at h
    split at h
    · cases h
    · dsimp only at h
      split at h
      · cases h
      · cases h
      · split at h
        · cases h
        · split at h
          · cases h
          · injection h with h
            subst h
            split <;> omega
  · unfold Lib.atoiSat; split <;> omega
  · omega
theorem heardS_len (w : List UInt8) : (heardS w).length ≤ 4 * w.length := by
  unfold heardS
  split
  · rename_i o h
    unfold Qt.unq at h
    split at h
    · injection h with h
      subst h
      have := Qt.got_len ⟨w.toArray⟩
      rw [str_size] at this
      exact this
    · cases h
  · simp
theorem told_tuple (s : ByteArray) : ∃ e : Int, Qt.told s = .tuple #[.string ⟨(heardS s.data.toList).toArray⟩, .int .i64 e] := by
  unfold Qt.told heardS
  rw [show (ByteArray.mk s.data.toList.toArray) = s from rfl]
  cases Qt.unq s with
  | some o => exact ⟨0, rfl⟩
  | none => exact ⟨3, rfl⟩
end Cm

/-- Go's own errors lie there. -/
def ErrsIn (w : World) : Prop := (∃ tp p, w.var? Tryz.prog "strconv.ErrSyntax" = some #[.iface tp p]) ∧ ∃ tp p, w.var? Tryz.prog "strconv.ErrRange" = some #[.iface tp p]
theorem ErrsIn.below {w w' : World} (h : ErrsIn w) (hb : Below w.heap.size w w') : ErrsIn w' := by
  obtain ⟨⟨t1, p1, h1⟩, t2, p2, h2⟩ := h
  exact ⟨⟨t1, p1, var_below h1 hb⟩, t2, p2, var_below h2 hb⟩

theorem atoi_any (s : ByteArray) (w : World) (he : ErrsIn w) (hs : s.size ≤ 281474976710656) :
    Calls Tryz.prog 35 #[.string s] w fun e w' => ∃ ev, e = .returned (.tuple #[.int .i64 (Cm.heardN s.data.toList), ev]) ∧ Below w.heap.size w w' := by
  obtain ⟨⟨t1, p1, h1⟩, t2, p2, h2⟩ := he
  unfold Cm.heardN
  rcases h : Lib.atoiAll s.data.toList with v | _ | _
  · refine (Tryz.strconv_Atoi_ok s (by omega) v h w).mono ?_
    rintro e w' ⟨rfl, hw⟩
    refine ⟨_, rfl, ?_⟩
    rcases hw with rfl | ⟨t, rfl⟩
    · exact Below.refl _ _
    · exact Lib.bytesWorld_below w _ t
  · refine (Any.strconv_Atoi_syntax_var Tryz.laysC172 s hs h t1 p1 w h1).mono ?_
    rintro e w' ⟨N, rfl, _, _, hb⟩
    exact ⟨_, rfl, hb⟩
  · refine (Tryz.strconv_Atoi_range_var s hs h t2 p2 w h2).mono ?_
    rintro e w' ⟨N, rfl, _, _, hb⟩
    exact ⟨_, rfl, hb⟩

/-- The store behind a word's reading. -/
theorem heard_end {w w1 w2 : World} {b : Nat} {T : TypeId} {vs : Array Value} (i : Nat) (x : Value) (hb1 : w.grownBy w1 (some b)) (hg : Below w1.drew.heap.size w1.drew w2) (hl : Lies w2 b T vs) :
    Lies (w2.setCell ⟨b, i, none⟩ x) b T (vs.setIfInBounds i x) ∧ w.grownBy (w2.setCell ⟨b, i, none⟩ x) (some b) :=
  ⟨hl.set i x, grown_on (grown_on (grown_on hb1 (grown_drewN w1 1 _)) (grown_of hg _)) (grown_set w2 b i x)⟩

set_option maxRecDepth 4000 in
set_option maxHeartbeats 800000 in
theorem hear_num (b i : Nat) (most z : Int) (s : ByteArray) (T : TypeId) (vs : Array Value) (w : World) (he : ErrsIn w) (hs : s.size ≤ 281474976710656) (hl : Lies w b T vs) (hv : vs[i]? = some (.int .i64 z)) :
    Calls Tryz.prog 20 #[.iface 61 (.agg #[.pointer (some ⟨b, i, none⟩), .int .i64 most]), .string s] w (Turned w b T (vs.setIfInBounds i (.int .i64 (Cm.heardN s.data.toList)))) := by
  have ha := isNum_yes
  have hno := isText_no
  have hst := store_nilFunc
  obtain ⟨x, hx⟩ : ∃ x, x = Cm.heardN s.data.toList := ⟨_, rfl⟩
  rw [← hx]
  have HXX := Lib.hid hx
  clear hx
  obtain ⟨w1, e1, c0, c1, cb, hB1⟩ := lay_pair w 61 (.pointer (some ⟨b, i, none⟩)) (.int .i64 most) b i _ (hl.cell i _ hv)
  have hlb := hl.lt
  have HB1 := Lib.hid hB1
  have HE := Lib.hid (he.below hB1)
  have HL1 := Lib.hid (hl.below hB1 hl.lt)
  have HV := Lib.hid hv
  clear hB1 hl hv he
  go_enter Tryz.func20, Tryz.ntmps20
  go_wp2
  have hsb : some w.heap.size ≠ some b := by simp; omega
  have hs1 : w.heap.size < w1.heap.size := World.block_lt_of_cell? w1 _ c0
  go_region_held3 (fun w' => w'.cell? ⟨w.heap.size, 0, none⟩ = some (.pointer (some ⟨b, i, none⟩))) (first | go_keep | exact c2 | exact c3) (first
        | (go_at_call 35; refine (atoi_any s _ (HE.out.below (Below.refl _ _).drew) hs).mono ?_; rintro e2 w2 ⟨ev, rfl, hg2⟩
           rw [← HXX.out]
           have hl2 := (HL1.out.below (Below.refl _ _).drew HL1.out.lt).below hg2 HL1.out.lt
           have cb2 := hl2.cell i _ HV.out
           have cf2 := hl2.free i
           have c2 : w2.cell? ⟨w.heap.size, 0, none⟩ = some (.pointer (some ⟨b, i, none⟩)) := by rw [← c0]; exact World.cell?_of_block (hg2.block w.heap.size hs1)
           have c3 : (w2.setCell ⟨b, i, none⟩ (.int .i64 x)).cell? ⟨w.heap.size, 0, none⟩ = some (.pointer (some ⟨b, i, none⟩)) := by rw [← c2]; exact World.cell?_of_block ((grown_set w2 b i _).block w.heap.size (Nat.lt_of_lt_of_le hs1 hg2.size) hsb)))
  all_goals
    obtain ⟨hl3, hg3⟩ := heard_end i (.int .i64 x) (grown_of HB1.out (some b)) hg2 hl2
    generalize w2.setCell ⟨b, i, none⟩ (.int .i64 x) = w3 at hl3 hg3 ⊢
    clear hl2 hg2 c3 c2 cb2 cf2
    go_wp2
    go_end0
    exact ⟨rfl, hl3.alloc _, grown_on hg3 (World.grownBy_alloc _ _ _)⟩

set_option maxRecDepth 4000 in
set_option maxHeartbeats 800000 in
theorem hear_text (b i fn : Nat) (z s : ByteArray) (T : TypeId) (vs : Array Value) (w : World) (hs : s.size ≤ 200000000000) (hl : Lies w b T vs) (hv : vs[i]? = some (.string z)) :
    Calls Tryz.prog 20 #[.iface 66 (.agg #[.pointer (some ⟨b, i, none⟩), .func (.func fn) #[] #[]]), .string s] w (Turned w b T (vs.setIfInBounds i (.string ⟨(Cm.heardS s.data.toList).toArray⟩))) := by
  have ha := isNum_no
  have hno := isText_yes
  have hst := store_func
  obtain ⟨er, her⟩ := Cm.told_tuple s
  obtain ⟨x, hx⟩ : ∃ x, x = ByteArray.mk (Cm.heardS s.data.toList).toArray := ⟨_, rfl⟩
  rw [← hx] at her ⊢
  have HXX := Lib.hid her
  clear hx her
  obtain ⟨w1, e1, c0, c1, cb, hB1⟩ := lay_pair2 w (.cells #[.pointer none, .int .i64 0] 61) 66 (.pointer (some ⟨b, i, none⟩)) (.func (.func fn) #[] #[]) b i _ (hl.cell i _ hv)
  have hlb := hl.lt
  have HB1 := Lib.hid hB1
  have HL1 := Lib.hid (hl.below hB1 hl.lt)
  have HV := Lib.hid hv
  clear hB1 hl hv
  go_enter Tryz.func20, Tryz.ntmps20
  go_wp2
  have hsb : some (w.heap.size + 1) ≠ some b := by simp; omega
  have hs1 : w.heap.size + 1 < w1.heap.size := World.block_lt_of_cell? w1 _ c0
  go_region_held3 (fun w' => w'.cell? ⟨w.heap.size + 1, 0, none⟩ = some (.pointer (some ⟨b, i, none⟩))) (first | go_keep | exact c2 | exact c3) (first
        | (go_at_call 36; refine (unquote_any s _ hs).mono ?_; rintro e2 w2 ⟨rfl, hg2⟩
           rw [HXX.out]
           have hl2 := (HL1.out.below (Below.refl _ _).drew HL1.out.lt).below hg2 HL1.out.lt
           have cb2 := hl2.cell i _ HV.out
           have cf2 := hl2.free i
           have c2 : w2.cell? ⟨w.heap.size + 1, 0, none⟩ = some (.pointer (some ⟨b, i, none⟩)) := by rw [← c0]; exact World.cell?_of_block (hg2.block (w.heap.size + 1) hs1)
           have c3 : (w2.setCell ⟨b, i, none⟩ (.string x)).cell? ⟨w.heap.size + 1, 0, none⟩ = some (.pointer (some ⟨b, i, none⟩)) := by rw [← c2]; exact World.cell?_of_block ((grown_set w2 b i _).block (w.heap.size + 1) (Nat.lt_of_lt_of_le hs1 hg2.size) hsb)))
  all_goals
    obtain ⟨hl3, hg3⟩ := heard_end i (.string x) (grown_of HB1.out (some b)) hg2 hl2
    generalize w2.setCell ⟨b, i, none⟩ (.string x) = w3 at hl3 hg3 ⊢
    clear hl2 hg2 c3 c2 cb2 cf2
    go_wp2
    go_end0
    exact ⟨rfl, hl3, hg3⟩

theorem fhear_any (b : Nat) (c : Cm.Cmd) (f : Cm.F) (s : ByteArray) (w : World) (he : ErrsIn w) (hs : s.size ≤ 200000000000) (hl : Cmds w b c) :
    Calls Tryz.prog 20 #[Cm.fv b f, .string s] w (Turned w b 23 (Cm.cells (Cm.hear c f s.data.toList))) := by
  cases h : f.num with
  | true =>
    rw [show Cm.fv b f = _ from if_pos h, show Cm.hear c f s.data.toList = c.setN (Cm.heardN s.data.toList) f from if_pos h, ← Cm.cells_setN c f _ h]
    exact hear_num b f.at f.most (c.n f) s _ _ w he (by omega) hl (Cm.cells_num c f h)
  | false =>
    rw [show Cm.fv b f = _ from if_neg (by simp [h]), show Cm.hear c f s.data.toList = c.setS (Cm.heardS s.data.toList) f from if_neg (by simp [h]), ← Cm.cells_setS c f _ h]
    exact hear_text b f.at _ _ s _ _ w hs hl (Cm.cells_str c f h)

end Go.Proofs.YteaebmgnofmemaaGreatDoor
