/- Text of a command. -/
import Derived.Test.YteaebmgnofmemaaDoorCmdChk
import Derived.Lib.ItoaNum
namespace Go.Proofs.YteaebmgnofmemaaDoor
open Go.RowKit

namespace Cm
/-- A field as a word of a line; the words of a command's line; its text. -/
def told (c : Cmd) (f : F) : List UInt8 := if f.num = true then Lib.itoa (c.n f) else Qt.quote ⟨(c.s f).toArray⟩
def ws (c : Cmd) : List (List UInt8) := word c.kind :: (fields c.kind).map (told c)
def line (c : Cmd) : List UInt8 := Lib.join (ws c) [32]
def text (c : Cmd) : List UInt8 := if check c = 0 then line c else []

theorem nDigits_le : ∀ (k u : Nat), u < 10 ^ (k + 1) → Lib.nDigits u ≤ k + 1 := by
  intro k
  induction k with
  | zero => intro u h; rw [Lib.nDigits_small (by simpa using h)]; omega
  | succ k ih =>
    intro u h
    by_cases h10 : u < 10
    · rw [Lib.nDigits_small h10]; omega
    · rw [Lib.nDigits_big h10]
      have := ih (u / 10) (by rw [Nat.pow_succ] at h; omega)
      omega
theorem itoa_len (n : Int) (h0 : -9223372036854775808 ≤ n) (h1 : n ≤ 9223372036854775807) : (Lib.itoa n).length ≤ 21 := by
  unfold Lib.itoa
  split
  · rw [List.length_cons, Lib.decDigits_length]
    have := nDigits_le 19 n.natAbs (by omega)
    omega
  · rw [Lib.decDigits_length]
    have := nDigits_le 19 n.toNat (by omega)
    omega
theorem told_len (c : Cmd) (hf : c.Fits) {m : Nat} (hs : c.Short m) (f : F) : (told c f).length ≤ 4 * m + 21 := by
  unfold told
  split
  · have := itoa_len (c.n f) (hf.n f).1 (hf.n f).2; omega
  · have := hs.s f
    have h2 := Qt.quote_len ⟨(c.s f).toArray⟩
    rw [str_size] at h2
    omega
theorem word_len (k : Int) : (word k).length ≤ 8 := by
  rcases Vs.kinds k with rfl | rfl | rfl | rfl | rfl | rfl | rfl | rfl | h
  rotate_right
  · rw [word_no h]; simp
  all_goals decide
theorem lens_le (m : Nat) : ∀ l : List (List UInt8), (∀ x ∈ l, x.length ≤ m) → Lib.lens l ≤ m * l.length := by
  intro l
  induction l with
  | nil => intro _; simp [Lib.lens]
  | cons x l ih =>
    intro h
    have h1 := h x (by simp)
    have h2 := ih fun y hy => h y (by simp [hy])
    have h3 : Lib.lens (x :: l) = x.length + Lib.lens l := by simp [Lib.lens]
    rw [h3, List.length_cons, Nat.mul_add, Nat.mul_one]
    omega
theorem line_len (c : Cmd) (hf : c.Fits) {m : Nat} (hs : c.Short m) : (line c).length ≤ 20 * m + 200 := by
  unfold line ws
  rw [Lib.join_cons, List.length_append, Lib.joinTail_length]
  have h1 := word_len c.kind
  have h2 := fields_len c.kind
  have h3 := lens_le (4 * m + 21) ((fields c.kind).map (told c)) (by
    intro x hx
    obtain ⟨f, _, rfl⟩ := List.mem_map.1 hx
    exact told_len c hf hs f)
  rw [List.length_map] at h3 ⊢
  have h4 : (4 * m + 21) * (fields c.kind).length ≤ (4 * m + 21) * 5 := Nat.mul_le_mul_left _ h2
  simp only [List.length_cons, List.length_nil]
  omega
end Cm

abbrev PowIn (w : World) : Prop := Lib.TabIs Tryd.prog w "internal/strconv.uint64pow10" .u64 Lib.pow10Tab
theorem PowIn.below {w w' : World} (h : PowIn w) (hb : Below w.heap.size w w') : PowIn w' := var_below h hb
theorem grow_below (w : World) (k : Nat) (os : Array Obj) : Below w.heap.size w (Go.Sort.grow (w.drewN k) os) := by
  refine ⟨rfl, rfl, rfl, ?_, fun j hj => ?_⟩
  · show _ ≤ (w.heap ++ os).size
    simp
  · show (w.heap ++ os)[j]? = _
    rw [Array.getElem?_append_left hj]

set_option maxHeartbeats 800000 in
theorem told_num (b i : Nat) (most x : Int) (w : World) (hp : PowIn w) (hc : w.cell? ⟨b, i, none⟩ = some (.int .i64 x)) (h0 : -9223372036854775808 ≤ x) (h1 : x ≤ 9223372036854775807) :
    Calls Tryd.prog 44 #[.iface 72 (.agg #[.pointer (some ⟨b, i, none⟩), .int .i64 most])] w (Looks w (.string ⟨(Lib.itoa x).toArray⟩)) := by
  have ha := isNum_yes
  obtain ⟨w1, e1, c0, c1, cb, hB1⟩ := lay_pair w 72 (.pointer (some ⟨b, i, none⟩)) (.int .i64 most) b i _ hc
  have HP1 := Lib.hid (hp.below hB1)
  have HB1 := Lib.hid hB1
  clear hB1 hc hp
  go_enter Tryd.func44, Tryd.ntmps44
  go_wp2_with fail
  refine (Tryd.strconv_Itoa x h0 h1 _ HP1.out).mono ?_
  rintro e2 w2 ⟨rfl, k, os, hw2⟩
  have hB2 : Below w1.heap.size w1 w2 := by rw [hw2]; exact grow_below _ _ _
  clear hw2
  have HB2 := Lib.hid (HB1.out.trans (hB2.mono HB1.out.size))
  clear hB2
  go_wp2
  go_ret
  exact ⟨rfl, HB2.out⟩

set_option maxHeartbeats 800000 in
theorem told_text (b i fn : Nat) (s : List UInt8) (w : World) (hc : w.cell? ⟨b, i, none⟩ = some (.string ⟨s.toArray⟩)) (hs : s.length ≤ 1000000000000) :
    Calls Tryd.prog 44 #[.iface 77 (.agg #[.pointer (some ⟨b, i, none⟩), .func (.func fn) #[] #[]])] w (Looks w (.string ⟨(Qt.quote ⟨s.toArray⟩).toArray⟩)) := by
  have ha := isNum_no
  have hno := isText_yes
  have hst := store_func
  have hsz : (ByteArray.mk s.toArray).size ≤ 1000000000000 := by rw [str_size]; exact hs
  obtain ⟨S, hS⟩ : ∃ S, S = ByteArray.mk s.toArray := ⟨_, rfl⟩
  rw [← hS] at hc hsz ⊢
  clear hS
  obtain ⟨w1, e1, c0, c1, cb, hB1⟩ := lay_pair2 w (.cells #[.pointer none, .int .i64 0] 72) 77 (.pointer (some ⟨b, i, none⟩)) (.func (.func fn) #[] #[]) b i _ hc
  have HB1 := Lib.hid hB1
  clear hB1 hc
  go_enter Tryd.func44, Tryd.ntmps44
  go_wp2_with fail
  refine (quote_any S _ hsz).mono ?_
  rintro e2 w2 ⟨rfl, hB2⟩
  have HB2 := Lib.hid (HB1.out.trans (hB2.mono HB1.out.size))
  clear hB2
  go_wp2
  go_ret
  exact ⟨rfl, HB2.out⟩

theorem ftold_any (b : Nat) (c : Cm.Cmd) (f : Cm.F) (w : World) (hp : PowIn w) (hl : Cmds w b c) (hf : c.Fits) (hs : c.Short 100000000) : Calls Tryd.prog 44 #[Cm.fv b f] w (Looks w (.string ⟨(Cm.told c f).toArray⟩)) := by
  cases h : f.num with
  | true =>
    rw [show Cm.fv b f = _ from if_pos h, show Cm.told c f = Lib.itoa (c.n f) from if_pos h]
    exact told_num b f.at f.most (c.n f) w hp (hl.cell _ _ (Cm.cells_num c f h)) (hf.n f).1 (hf.n f).2
  | false =>
    rw [show Cm.fv b f = _ from if_neg (by simp [h]), show Cm.told c f = Qt.quote ⟨(c.s f).toArray⟩ from if_neg (by simp [h])]
    exact told_text b f.at _ (c.s f) w (hl.cell _ _ (Cm.cells_str c f h)) (by have := hs.s f; omega)

/-- A row of one string, laid. -/
theorem OwnsS.one (w : World) (B : Nat) (hB : B ≤ w.heap.size) (E : TypeId) (u : ByteArray) : OwnsS (w.alloc (.cells #[.string u] E)) B E (.slice (some ⟨w.heap.size, 0, none⟩) 1 1) [u] := by
  refine ⟨by simp, .inr ⟨w.heap.size, 1, #[.string u], rfl, hB, heap_alloc_new w _, by simp, by unfold maxLen; omega, by simp, ?_⟩⟩
  simp
theorem FRow.row {w w' : World} {lo B b : Nat} {u v : Value} {fs : List Cm.F} {ls : List ByteArray} (h : FRow w lo u b fs) (ho : OwnsS w B 9 v ls) (hg : w.grownBy w' v.ownBlock) : FRow w' lo u b fs := by
  rcases h with ⟨rfl, rfl⟩ | ⟨g, h1, rfl, h2⟩
  · exact .inl ⟨rfl, rfl⟩
  · exact .inr ⟨g, h1, rfl, h2.kept hg (h2.not_row (by decide) ho)⟩

def Cm.bl (ls : List (List UInt8)) : List ByteArray := ls.map fun l => ⟨l.toArray⟩
theorem Cm.bl_back (ls : List (List UInt8)) : (Cm.bl ls).map (·.data.toList) = ls := by
  unfold Cm.bl
  rw [List.map_map]
  induction ls with
  | nil => rfl
  | cons l ls ih => rw [List.map_cons, ih]; rfl

theorem OwnsS.kept {w w' : World} {B : Nat} {E : TypeId} {v : Value} {ls : List ByteArray} (h : OwnsS w B E v ls) (hb : Below w.heap.size w w') : OwnsS w' B E v ls := by
  refine World.ownsRow.kept h (grown_of hb none) ?_
  cases v.ownBlock with
  | none => exact .inl rfl
  | some k => exact .inr (by simp)
theorem Cm.bl_next (c : Cm.Cmd) (fs : List Cm.F) (k : Nat) (f : Cm.F) (h : fs[k]? = some f) : Cm.bl ((fs.take (k + 1)).map (Cm.told c)) = Cm.bl ((fs.take k).map (Cm.told c)) ++ [⟨(Cm.told c f).toArray⟩] := by
  rw [List.take_add_one, h, List.map_append]
  unfold Cm.bl
  rw [List.map_append]
  rfl
theorem Cm.bl_len (ls : List (List UInt8)) : (Cm.bl ls).length = ls.length := by simp [Cm.bl]

set_option maxRecDepth 4000 in
set_option maxHeartbeats 1600000 in
theorem text_any (c : Cm.Cmd) (w : World) (hv : WordsIn w) (hp : PowIn w) (hf : c.Fits) (hs : c.Short 100000000) :
    Calls Tryd.prog 23 #[.agg (Cm.cells c)] w (Looks w (.string ⟨(Cm.text c).toArray⟩)) := by
  have hs2 : c.Short 140737488355328 := ⟨by have := hs.1; omega, by have := hs.2.1; omega, by have := hs.2.2; omega⟩
  obtain ⟨w1, e1, hl1, hB1, hz1⟩ := box_cmd w c
  have p0 : w1.cell? ⟨w.heap.size, 0, none⟩ = some (.int .i64 c.kind) := hl1.cell 0 _ rfl
  have p1 : w1.cell? ⟨w.heap.size, 1, none⟩ = some (.int .i64 c.client) := hl1.cell 1 _ rfl
  have p2 : w1.cell? ⟨w.heap.size, 2, none⟩ = some (.int .i64 c.seq) := hl1.cell 2 _ rfl
  have p3 : w1.cell? ⟨w.heap.size, 3, none⟩ = some (.string ⟨c.key.toArray⟩) := hl1.cell 3 _ rfl
  have p4 : w1.cell? ⟨w.heap.size, 4, none⟩ = some (.string ⟨c.val.toArray⟩) := hl1.cell 4 _ rfl
  have p5 : w1.cell? ⟨w.heap.size, 5, none⟩ = some (.string ⟨c.old.toArray⟩) := hl1.cell 5 _ rfl
  have p6 : w1.cell? ⟨w.heap.size, 6, none⟩ = some (.int .i64 c.node) := hl1.cell 6 _ rfl
  have HL1 := Lib.hid hl1; have HB1 := Lib.hid hB1
  have HV := Lib.hid hv; have HP := Lib.hid hp
  clear hl1 hB1 hz1 hv hp
  obtain ⟨T, hT⟩ : ∃ T, T = ByteArray.mk (Cm.text c).toArray := ⟨_, rfl⟩
  rw [← hT]
  have HT := Lib.hid hT
  clear hT
  go_enter Tryd.func23, Tryd.ntmps23
  go_wp2_with fail
  refine (check_any c _ (HV.out.below HB1.out) hs2).mono ?_
  rintro e w2 ⟨rfl, hB2⟩
  obtain ⟨z, hz⟩ : ∃ z, z = Cm.check c := ⟨_, rfl⟩
  rw [← hz]
  have HZ := Lib.hid hz
  clear hz
  have hl2 := HL1.out.below hB2 HL1.out.lt
  have k2 : w2.cell? ⟨w.heap.size, 0, none⟩ = some (.int .i64 c.kind) := hl2.cell 0 _ rfl
  have HL2 := Lib.hid hl2
  have HB2 := Lib.hid (HB1.out.trans (hB2.mono HB1.out.size))
  have hz2 : w.heap.size < w2.heap.size := HL2.out.lt
  clear hl2 hB2
  by_cases h0 : z = 0
  · subst h0
    have HTX : Hid (T = ByteArray.mk (Cm.line c).toArray) := by show _ = _; rw [HT.out, Cm.text, if_pos HZ.out.symm]
    go_wp2_with fail
    refine (word_kind_any c.kind _ (HV.out.below HB2.out)).mono ?_
    rintro e w3 ⟨rfl, rfl⟩
    obtain ⟨S, hS⟩ : ∃ S, S = ByteArray.mk (Cm.word c.kind).toArray := ⟨_, rfl⟩
    rw [← hS]
    have HS := Lib.hid hS
    clear hS
    obtain ⟨w3, e3, ho3, hB3⟩ : ∃ w3, w2.alloc (.cells #[.string S] 9) = w3 ∧ OwnsS w3 w.heap.size 9 (.slice (some ⟨w2.heap.size, 0, none⟩) 1 1) [S] ∧ Below w2.heap.size w2 w3 := ⟨_, rfl, OwnsS.one _ _ (by omega) _ _, (Below.refl _ _).alloc (Nat.le_refl _) _⟩
    have hl3 := HL2.out.below hB3 HL2.out.lt
    have k3 : w3.cell? ⟨w.heap.size, 0, none⟩ = some (.int .i64 c.kind) := hl3.cell 0 _ rfl
    have HO3 := Lib.hid ho3
    have HL3 := Lib.hid hl3
    have HB3 := Lib.hid (HB2.out.trans (hB3.mono HB2.out.size))
    clear ho3 hl3 hB3
    go_wp2_with fail
    refine (fields_any w.heap.size c.kind _ k3).mono ?_
    rintro e w4 ⟨r, rfl, hr, hB4⟩
    obtain ⟨ao, rfl⟩ := hr.shape
    have hn := Cm.fields_len c.kind
    obtain ⟨fs, hfs⟩ : ∃ fs, fs = Cm.fields c.kind := ⟨_, rfl⟩
    rw [← hfs] at hr hn ⊢
    have HFS := Lib.hid hfs
    have HR4 := Lib.hid hr
    have HL4 := Lib.hid (HL3.out.below hB4 HL3.out.lt)
    have HO4 : Hid (OwnsS w4 w.heap.size 9 (.slice (some ⟨w2.heap.size, 0, none⟩) 1 1) [S]) := World.ownsRow.kept HO3.out (grown_of hB4 none) (.inr (by simp [Value.ownBlock]))
    have HB4 := Lib.hid (HB3.out.trans (hB4.mono HB3.out.size))
    clear hr hfs hB4 k2 k3 p0 p1 p2 p3 p4 p5 p6
    go_wp2
    go_loopw [3, 5, 15] (fun l _ i wr => ∃ (k : Nat), i = .int .i64 (k : Int) ∧ k ≤ fs.length ∧ Hid (Below w.heap.size w wr) ∧ Hid (OwnsS wr w.heap.size 9 l (S :: Cm.bl ((fs.take k).map (Cm.told c)))) ∧ Hid (Cmds wr w.heap.size c) ∧ Hid (FRow wr w3.heap.size (.slice ao fs.length fs.length) w.heap.size fs)) (fun _ _ i _ => fs.length - (intOf i).toNat)
    case atStart => exact ⟨0, rfl, by omega, HB4, HO4, HL4, HR4⟩
    case round =>
      obtain ⟨k, rfl, hk, HB, HO, HL, HF⟩ := hrel
      by_cases hlt : k < fs.length
      · have hlt' : (k : Int) < (fs.length : Int) := by omega
        obtain ⟨f, hff⟩ : ∃ f, fs[k]? = some f := ⟨_, List.getElem?_eq_getElem hlt⟩
        obtain ⟨g, rfl, hcell⟩ := HF.out.cell hff
        have HFK := Lib.hid hff
        clear hff
        go_wp2_with fail
        refine (ftold_any w.heap.size c f _ (HP.out.below HB.out) HL.out hf hs).mono ?_
        rintro e5 w5 ⟨rfl, hB5⟩
        obtain ⟨W, hW⟩ : ∃ W, W = ByteArray.mk (Cm.told c f).toArray := ⟨_, rfl⟩
        rw [← hW]
        have HWW := Lib.hid hW
        clear hW
        have ho5 := HO.out.kept hB5
        have HL5 := Lib.hid (HL.out.below hB5 HL.out.lt)
        have HF5 := Lib.hid (HF.out.below hB5)
        have HB5 := Lib.hid (HB.out.trans (hB5.mono HB.out.size))
        have hsz := HB5.out.size
        have hln : (S :: Cm.bl ((fs.take k).map (Cm.told c))).length ≤ 1000000000000 := by
          rw [List.length_cons, Cm.bl_len, List.length_map, List.length_take]; omega
        clear hB5
        go_wp2_with (at_builtin; refine append_string rfl (.tmp 19) (.tmp 22) 67 9 rfl Tryd.underlying67 info_str w.heap.size (S :: Cm.bl ((fs.take k).map (Cm.told c))) W _ rfl rfl ho5 hln hsz ?_; intro v' w' ho' hg)
        have hoa := World.ownsRow.alloc ho5 (.cells #[.string W] 9)
        have HB6 := Lib.hid (rowBelow (HB5.out.alloc hsz _) hoa (by simp; omega) hg)
        have HL6 := Lib.hid ((HL5.out.alloc _).kept hg ((HL5.out.alloc _).not_row (by decide) hoa))
        have HF6 := Lib.hid ((HF5.out.below ((Below.refl _ _).alloc (Nat.le_refl _) (.cells #[.string W] 9))).row hoa hg)
        have HO6 := Lib.hid ho'
        clear hg hoa ho' ho5
        go_roundw
        case rel =>
          refine ⟨k + 1, by go_num, by omega, HB6, ?_, HL6, HF6⟩
          show OwnsS _ _ _ _ _
          rw [Cm.bl_next c fs k f HFK.out, ← HWW.out]
          exact HO6.out
        case measure => simp [intOf]; omega
      · have hlt' : ¬ (k : Int) < (fs.length : Int) := by omega
        have ho := HO.out
        rw [List.take_of_length_le (by omega), HFS.out] at ho
        have he : S :: Cm.bl ((Cm.fields c.kind).map (Cm.told c)) = Cm.bl (Cm.ws c) := by rw [HS.out]; rfl
        rw [he] at ho
        have hlen := Cm.line_len c hf hs
        have HRD := Lib.hid ho.reads
        have hj : (Lib.join ((Cm.bl (Cm.ws c)).map (·.data.toList)) [32]).length ≤ 140737488355328 := by
          rw [Cm.bl_back]
          show (Cm.line c).length ≤ _
          omega
        have hnn : (Cm.bl (Cm.ws c)).length ≤ 140737488355328 := by
          have := Cm.fields_len c.kind
          rw [Cm.bl_len]; unfold Cm.ws; rw [List.length_cons, List.length_map]; omega
        clear ho he hlen
        go_wp2_with fail
        refine (line_any (Cm.bl (Cm.ws c)) _ _ HRD.out hnn hj).mono ?_
        rintro e6 w6 ⟨rfl, hB6⟩
        have HB6 := Lib.hid (HB.out.trans (hB6.mono HB.out.size))
        go_wp2
        go_ret
        refine ⟨?_, HB6.out⟩
        rw [HTX.out, Cm.bl_back]
        rfl
  · have hne : (z != 0) = true := by simpa using h0
    have HTX : Hid (T = ByteArray.mk #[]) := by show _ = _; rw [HT.out, Cm.text, if_neg (by rw [← HZ.out]; exact h0)]
    go_wp2
    go_ret
    exact ⟨by rw [HTX.out]; rfl, HB2.out⟩

end Go.Proofs.YteaebmgnofmemaaDoor
