/- Several texts of mine in one: MtPut MtEnc. -/
import Derived.Test.YtndicjpbanmpjaaGreatDoorGMt
import Derived.Test.YtndicjpbanmpjaaGreatDoorGMp
namespace Go.Proofs.YtndicjpbanmpjaaGreatDoor
open Go.RowKit

set_option maxRecDepth 4000 in
set_option maxHeartbeats 1600000 in
theorem putMt_num (g k : Nat) (x : Int) (w : World) (B o : Nat) (u : Value) (pre : List UInt8) (hw : Wrt w B o u pre) (hB : B ≤ w.heap.size) (hlen : pre.length ≤ 70368744177664) (hc : w.cell? ⟨g, k, none⟩ = some (.int .i64 x)) (h0 : -9223372036854775808 ≤ x) (h1 : x ≤ 9223372036854775807) :
    Calls Tryz.prog 60 #[.pointer (some ⟨o, 0, none⟩), .iface 83 (.pointer (some ⟨g, k, none⟩))] w (PutGot w B o (pre ++ enc x.toNat)) := by
  have ha := isInt_num
  go_enter Tryz.func60, Tryz.ntmps60
  go_wp2_with fail
  refine (wnum_any x _ B o u pre hw hB (by omega) h0 h1).mono ?_
  rintro e2 w2 ⟨rfl, v2, hw2, hg2⟩
  have hs2 := Spares.of_grew hw hg2
  have hb2 := hw.below hg2 hB
  go_wp2
  go_end0
  exact ⟨rfl, v2, hw2, hs2, hb2⟩

set_option maxRecDepth 4000 in
set_option maxHeartbeats 1600000 in
theorem putMt_list (g : Nat) (m : Ms.Msg) (ve vi : Value) (w : World) (B o : Nat) (u : Value) (pre : List UInt8) (hw : Wrt w B o u pre) (hB : B ≤ w.heap.size) (hlen : pre.length ≤ 1000000000) (hl : Msgs w g m ve vi)
    (he : ∀ W, Below B w W → ReadsE W ve m.ents) (hf : ∀ e ∈ m.ents, e.Fits ∧ e.cmd.Short 1000) (hn : m.ents.length ≤ 1000000) :
    Calls Tryz.prog 60 #[.pointer (some ⟨o, 0, none⟩), .iface 106 (.pointer (some ⟨g, 8, none⟩))] w (Put w B o (pre ++ En.bytes 2 m.ents)) := by
  have hi := isInt_list
  have ha := isList_list
  have p8 := Msgs.c8 hl
  go_enter Tryz.func60, Tryz.ntmps60
  go_wp2_with fail
  refine (entPut_any 2 ve m.ents _ B o u pre rfl hw hB he hf hn hlen).mono ?_
  rintro e2 w2 ⟨rfl, v2, hw2, hb2⟩
  go_wp2
  go_end0
  exact ⟨rfl, v2, hw2, hb2⟩

set_option maxRecDepth 4000 in
set_option maxHeartbeats 1600000 in
theorem putMt_img (g : Nat) (m : Ms.Msg) (ve vi : Value) (w : World) (B o : Nat) (u : Value) (pre : List UInt8) (hw : Wrt w B o u pre) (hB : B ≤ w.heap.size) (hlen : pre.length ≤ 70368744177664) (hl : Msgs w g m ve vi)
    (hi : ∀ W, Below B w W → Reads W vi m.img) (hn : m.img.length ≤ 1048576) :
    Calls Tryz.prog 60 #[.pointer (some ⟨o, 0, none⟩), .iface 109 (.pointer (some ⟨g, 9, none⟩))] w (Put w B o (pre ++ Pk.text m.img)) := by
  have h1 := isInt_img
  have h2 := isList_img
  have ha := isImg_img
  have p9 := Msgs.c9 hl
  go_enter Tryz.func60, Tryz.ntmps60
  go_wp2_with fail
  refine (wraw_out vi m.img _ B o u pre hw hB hlen hn hi).mono ?_
  rintro e2 w2 ⟨rfl, v2, hw2, hb2⟩
  go_wp2
  go_end0
  exact ⟨rfl, v2, hw2, hb2⟩

set_option maxRecDepth 4000 in
set_option maxHeartbeats 3200000 in
theorem putMt_prop (g : Nat) (m : Ms.Msg) (x : En.Ent) (ve vi : Value) (w : World) (B o : Nat) (u : Value) (pre : List UInt8) (hw : Wrt w B o u pre) (hB : B ≤ w.heap.size) (hlen : pre.length ≤ 1000000000) (hl : Msgs w g m ve vi)
    (he : ∀ W, Below B w W → ReadsE W ve m.ents) (hx : m.ents = [x]) (hf : x.Fits) (hs : x.cmd.Short 1000) :
    Calls Tryz.prog 60 #[.pointer (some ⟨o, 0, none⟩), .iface 108 (.agg #[.pointer (some ⟨g, 0, none⟩)])] w (Put w B o (pre ++ Mt.one x)) := by
  have h1 := isInt_prop
  have h2 := isList_prop
  have h3 := isImg_prop
  have ha := isProp_prop
  have hrd := he w (Below.refl _ _)
  rw [hx] at hrd
  obtain ⟨ao, cap, rfl, hc1, hc2⟩ := ReadsE.shape hrd
  obtain ⟨bg, off, rfl, hgl, hcell⟩ := ReadsE.places hrd (by simp)
  have hat := fun W (h : Below w.heap.size w W) => hcell W h 0 x rfl
  have ho := hw.lies.lt
  obtain ⟨w1, e1, hl1, hb1, hz1⟩ : ∃ w1, w.alloc (.cells #[.pointer (some ⟨g, 0, none⟩)] 108) = w1 ∧ Lies w1 w.heap.size 108 #[.pointer (some ⟨g, 0, none⟩)] ∧ Below w.heap.size w w1 ∧ w1.heap.size = w.heap.size + 1 :=
    ⟨_, rfl, Lies.new _ _ _, (Below.refl _ w).alloc (Nat.le_refl _) _, by simp⟩
  have q0 := hl1.cell 0 _ rfl
  have p8 := Msgs.c8 (hl.below hb1 hl.lt)
  have HC := Lib.hid (hat w1 hb1); have HW1 := Lib.hid (hw.grown hb1); have HB1 := Lib.hid (hb1.mono hB)
  have HZ1 := Lib.hid hz1
  clear hl1 hb1 hat hcell hrd he hz1
  go_enter Tryz.func60, Tryz.ntmps60
  go_wp2_with (first
    | (refine load_ent rfl _ rfl bg (off + 0 * 10) x rfl HC.out ?_)
    | (refine store_ent (by rfl) _ _ (by rfl) w1.heap.size En.zero x (by rfl) (by rfl) (Lies.new _ _ _) ?_; intro w3 hl3 hg3
       have hb := fresh_below hg3
       have HB3 := Lib.hid (HB1.out.trans (hb.mono (Nat.le_trans hB HB1.out.size))); have HW3 := Lib.hid (HW1.out.grown hb); have HL3 := Lib.hid hl3
       clear hl3 hg3 hb
       obtain ⟨c0, c1, c2, c3, c4, c5, c6, c7, c8, c9⟩ := Ents.ten HL3.out)
    | fail)
  have hoe : w1.heap.size ≠ o := by have := HZ1.out; omega
  refine (wnum_any x.index _ B o u pre HW3.out (Nat.le_trans hB HB3.out.size) (by omega) hf.i0 hf.i1).mono ?_
  rintro e4 w4 ⟨rfl, u4, hw4, hg4⟩
  have HB4 := Lib.hid (HB3.out.trans (HW3.out.below hg4 (Nat.le_trans hB HB3.out.size)))
  have HL4 := Lib.hid (Spares.of_grew HW3.out hg4 _ _ _ hoe (by decide) HL3.out); have HW4 := Lib.hid hw4
  clear hw4 hg4 c0 c1 c2 c3 c4 c5 c6 c7 c8 c9
  have hn1 := enc_nine (n := x.index.toNat) (by have := hf.i1; omega)
  obtain ⟨c0, c1, c2, c3, c4, c5, c6, c7, c8, c9⟩ := Ents.ten HL4.out
  go_wp2_with fail
  refine (cput_at 2 x.cmd _ B o u4 _ rfl HW4.out (by rw [List.length_append]; omega) (Nat.le_trans hB HB4.out.size) hf.cmd hs).mono ?_
  rintro e7 w7 ⟨rfl, u7, hw7, _, hb7⟩
  have HB7 := Lib.hid (HB4.out.trans hb7); have HW7 := Lib.hid hw7
  clear hw7 hb7 c0 c1 c2 c3 c4 c5 c6 c7 c8 c9
  go_wp2
  go_end0
  exact ⟨rfl, u7, by have := HW7.out; unfold Mt.one; rwa [List.append_assoc] at this, HB7.out⟩

/-- An element put; where it is a number, all other blocks lie as they lay. -/
theorem putMt_any (e : Mt.El) (g : Nat) (m : Ms.Msg) (ve vi : Value) (w : World) (B o : Nat) (u : Value) (pre : List UInt8) (hc : Ms.check m = 0) (hk : e ∈ Mt.head ++ Mt.elems m.kind) (hw : Wrt w B o u pre) (hB : B ≤ w.heap.size) (hlen : pre.length ≤ 1000000000) (hl : Msgs w g m ve vi)
    (he : ∀ W, Below B w W → ReadsE W ve m.ents) (hi : ∀ W, Below B w W → Reads W vi m.img) (hf : ∀ e ∈ m.ents, e.Fits ∧ e.cmd.Short 1000) :
    Calls Tryz.prog 60 #[.pointer (some ⟨o, 0, none⟩), Mt.ev g e] w (fun en w' => Put w B o (pre ++ Mt.ebytes m e) en w' ∧ (∀ k, e = .num k → Spares o w w')) := by
  have hlen2 := Ms.good_len (Ms.check_good hc)
  cases e with
  | num k =>
    have hk8 : k < 8 := Mt.all_ok _ _ hk
    obtain ⟨h0, h1⟩ := Mt.val_good hc k hk8
    refine (putMt_num g k (Mt.val m k) w B o u pre hw hB (by omega) (hl.cell _ _ (Mt.cells_val m ve vi hk8)) (by omega) h1).mono ?_
    rintro en w2 ⟨rfl, v2, hw2, hs2, hb2⟩
    exact ⟨⟨rfl, v2, hw2, hb2⟩, fun _ _ => hs2⟩
  | list => exact (putMt_list g m ve vi w B o u pre hw hB hlen hl he hf (by omega)).mono fun en w2 h => ⟨h, fun k hk => by cases hk⟩
  | img => exact (putMt_img g m ve vi w B o u pre hw hB (by omega) hl hi (by omega)).mono fun en w2 h => ⟨h, fun k hk => by cases hk⟩
  | prop =>
    obtain ⟨x, hx, _⟩ := Mt.good_sole hc (Mt.prop_five hk)
    have hfx := hf x (by rw [hx]; simp)
    refine (putMt_prop g m x ve vi w B o u pre hw hB hlen hl he hx hfx.1 hfx.2).mono fun en w2 h => ⟨?_, fun k hk => by cases hk⟩
    rw [show Mt.ebytes m .prop = Mt.one x by unfold Mt.ebytes; rw [hx]; simp]
    exact h

end Go.Proofs.YtndicjpbanmpjaaGreatDoor


namespace Go.Proofs.YtndicjpbanmpjaaGreatDoor
open Go.RowKit

/-- Only numbers have others behind them. -/
theorem Mt.last {k : Int} {i : Nat} {e : Mt.El} (h : (Mt.head ++ Mt.elems k)[i]? = some e) : (∃ j, e = .num j) ∨ i + 1 = (Mt.head ++ Mt.elems k).length := by
  have key : ∀ (l : List Mt.El), (∀ i e, l[i]? = some e → (∃ j, e = .num j) ∨ i + 1 = l.length) → ∀ (x : Nat), ∀ i e, ((.num x : Mt.El) :: l)[i]? = some e → (∃ j, e = .num j) ∨ i + 1 = ((.num x : Mt.El) :: l).length := by
    intro l hl x i e hi
    cases i with
    | zero => simp at hi; exact .inl ⟨x, hi.symm⟩
    | succ i =>
      rcases hl i e (by simpa using hi) with h | h
      · exact .inl h
      · exact .inr (by simp; omega)
  have none : ∀ i (e : Mt.El), ([] : List Mt.El)[i]? = some e → (∃ j, e = .num j) ∨ i + 1 = ([] : List Mt.El).length := fun i e h => by simp at h
  have one : ∀ y : Mt.El, ∀ i e, [y][i]? = some e → (∃ j, e = .num j) ∨ i + 1 = [y].length := fun y i e h => by
    have := (List.getElem?_eq_some_iff.1 h).1
    simp at this
    exact .inr (by simp [this])
  revert i e h
  rcases Ms.kinds k with rfl | rfl | rfl | rfl | rfl | rfl | rfl | rfl | rfl | rfl | rfl | h
  rotate_right
  · rw [Mt.elems_no h]
    exact fun {i e} h => key _ (key _ (key _ none 2) 1) 0 i e h
  · exact fun {i e} h => key _ (key _ (key _ (key _ none 7) 2) 1) 0 i e h
  · exact fun {i e} h => key _ (key _ (key _ (key _ none 7) 2) 1) 0 i e h
  · exact fun {i e} h => key _ (key _ (key _ (key _ (key _ (key _ none 5) 4) 3) 2) 1) 0 i e h
  · exact fun {i e} h => key _ (key _ (key _ (key _ (key _ (key _ (key _ (one _) 6) 5) 4) 3) 2) 1) 0 i e h
  · exact fun {i e} h => key _ (key _ (key _ (key _ (key _ (one _) 4) 3) 2) 1) 0 i e h
  · exact fun {i e} h => key _ (key _ (key _ (key _ (key _ (key _ none 5) 4) 3) 2) 1) 0 i e h
  · exact fun {i e} h => key _ (key _ (key _ (key _ (key _ none 4) 3) 2) 1) 0 i e h
  · exact fun {i e} h => key _ (key _ (key _ (key _ (key _ (key _ none 6) 4) 3) 2) 1) 0 i e h
  · exact fun {i e} h => key _ (key _ (key _ (key _ none 5) 2) 1) 0 i e h
  · exact fun {i e} h => key _ (key _ (key _ (key _ (one _) 6) 2) 1) 0 i e h
  · exact fun {i e} h => key _ (key _ (key _ (one _) 2) 1) 0 i e h

/-- The bytes of the elements are not many. -/
theorem Mt.ebytes_len {m : Ms.Msg} (hc : Ms.check m = 0) (hf : ∀ e ∈ m.ents, e.Fits ∧ e.cmd.Short 1000) {e : Mt.El} (hk : e ∈ Mt.head ++ Mt.elems m.kind) : (Mt.ebytes m e).length ≤ 2000000 := by
  have hl := Ms.good_len (Ms.check_good hc)
  cases e with
  | num k =>
    have h1 := Mt.val_good hc k (Mt.all_ok _ _ hk)
    have := enc_nine (n := (Mt.val m k).toNat) (by omega)
    show (enc _).length ≤ _
    omega
  | list =>
    have h1 := En.flat_len 2 m.ents hf
    have h2 := enc_nine (n := m.ents.length) (by omega)
    show (En.bytes 2 m.ents).length ≤ _
    unfold En.bytes
    rw [List.length_append]
    omega
  | img =>
    have h2 := enc_nine (n := m.img.length) (by omega)
    show (Pk.text m.img).length ≤ _
    unfold Pk.text
    rw [List.length_append]
    omega
  | prop =>
    obtain ⟨x, hx, _⟩ := Mt.good_sole hc (Mt.prop_five hk)
    have hfx := hf x (by rw [hx]; simp)
    have h1 := En.ebytes_len 2 x hfx.1 hfx.2
    show (m.ents.flatMap Mt.one).length ≤ _
    rw [hx]
    unfold En.ebytes at h1
    simp only [List.flatMap_cons, List.flatMap_nil, List.append_nil, Mt.one, List.length_append] at h1 ⊢
    omega
theorem Mt.flat_len {m : Ms.Msg} (hc : Ms.check m = 0) (hf : ∀ e ∈ m.ents, e.Fits ∧ e.cmd.Short 1000) : ∀ (l : List Mt.El), (∀ e ∈ l, e ∈ Mt.head ++ Mt.elems m.kind) → (l.flatMap (Mt.ebytes m)).length ≤ 2000000 * l.length
  | [], _ => by simp
  | e :: l, h => by
    have h1 := Mt.ebytes_len hc hf (h e (by simp))
    have h2 := Mt.flat_len hc hf l fun x hx => h x (by simp [hx])
    rw [List.flatMap_cons, List.length_append, List.length_cons]
    omega

/-- What an encoding gives. -/
def MtEncd (w : World) (m : Ms.Msg) (e : Ending) (w' : World) : Prop :=
  Below w.heap.size w w' ∧ ∃ u, e = .returned (.tuple #[u, .int .i64 (Ms.check m)]) ∧ Reads w' u (if Ms.check m = 0 then Mt.bytes m else [])

set_option maxRecDepth 4000 in
set_option maxHeartbeats 3200000 in
theorem encodeMt_any (m : Ms.Msg) (ve vi : Value) (w : World) (hF : FieldsIn w) (hW : WordsIn w) (he : ReadsE w ve m.ents) (hi : Reads w vi m.img) (hf : m.Fits) (hs : ∀ e ∈ m.ents, e.cmd.Short 1000) :
    Calls Tryz.prog 31 #[.agg (Ms.cells m ve vi)] w (MtEncd w m) := by
  obtain ⟨w1, e1, hl1, hB1, hz1⟩ := box_msg w m ve vi
  obtain ⟨p0, p1, p2, p3, p4, p5, p6, p7, p8, p9⟩ := Msgs.ten hl1
  have HM1 := Lib.hid hl1; have HB1 := Lib.hid hB1; have HS := Lib.hid hz1
  have HE1 := Lib.hid (he.below hB1); have HI1 := Lib.hid (hi.below hB1)
  have HC1 := Lib.hid (checkM_any m ve vi w1 (hF.below hB1) (hW.below hB1) HE1.out HI1.out fun e h => ⟨Nat.le_trans (hs e h).1 (by omega), Nat.le_trans (hs e h).2.1 (by omega), Nat.le_trans (hs e h).2.2 (by omega)⟩)
  have HENT : Hid (∀ e ∈ m.ents, e.Fits ∧ e.cmd.Short 1000) := fun e h => ⟨hf.e e h, hs e h⟩
  unfold MtEncd
  obtain ⟨c, hc⟩ : ∃ c, c = Ms.check m := ⟨_, rfl⟩
  have HCC := Lib.hid hc
  rw [← hc] at HC1 ⊢
  clear hl1 hB1 hz1 hF hW he hi hs hf hc
  go_enter Tryz.func31, Tryz.ntmps31
  go_wp2_with fail
  refine HC1.out.mono ?_
  rintro e2 w2 ⟨rfl, hb⟩
  have HM2 := Lib.hid (HM1.out.below hb HM1.out.lt); have HB2 := Lib.hid hb
  have HX2 := Lib.hid (HB1.out.trans (hb.mono HB1.out.size))
  clear hb p0 p1 p2 p3 p4 p5 p6 p7 p8 p9
  by_cases h0 : c = 0
  · subst h0
    have HCK : Hid (Ms.check m = 0) := HCC.out.symm
    have hs1 := HS.out
    obtain ⟨w3, e3, hw3, hB3⟩ : ∃ w3, w2.alloc (.cells #[.slice none 0 0] 79) = w3 ∧ Wrt w3 w1.heap.size w2.heap.size (.slice none 0 0) [] ∧ Below w2.heap.size w2 w3 :=
      ⟨_, rfl, Wr.fresh _ _ _ _ HB2.out.size, (Below.refl _ _).alloc (Nat.le_refl _) _⟩
    have HM3 := Lib.hid (HM2.out.below hB3 HM2.out.lt); have HB3 := Lib.hid (HB2.out.trans (hB3.mono HB2.out.size)); have HW3 := Lib.hid hw3
    have HZ3 : Hid (w.heap.size < w2.heap.size ∧ w2.heap.size < w3.heap.size) := ⟨by have := HB2.out.size; omega, hw3.lies.lt⟩
    clear hw3 hB3 hs1
    go_wp2_with fail
    refine (headMt_any w.heap.size _).mono ?_
    rintro e4 w4 ⟨v4, rfl, hr4, hb⟩
    have HM4 := Lib.hid (HM3.out.below hb HM3.out.lt); have HB4 := Lib.hid (HB3.out.trans (hb.mono HB3.out.size)); have HW4 := Lib.hid (HW3.out.grown hb); have HR4 := Lib.hid hr4
    have HZ4 : Hid (w3.heap.size ≤ w4.heap.size) := hb.size
    clear hr4 hb
    go_wp2_with fail
    refine (fieldsMt_any w.heap.size m.kind _ (Msgs.c0 HM4.out)).mono ?_
    rintro e5 w5 ⟨v5, rfl, hr5, hb⟩
    have HM5 := Lib.hid (HM4.out.below hb HM4.out.lt); have HB5 := Lib.hid (HB4.out.trans (hb.mono HB4.out.size)); have HW5 := Lib.hid (HW4.out.grown hb)
    have hr45 := HR4.out.keep hb (Nat.le_refl _)
    have HZ5 : Hid (w4.heap.size ≤ w5.heap.size) := hb.size
    have HR5 := Lib.hid (hr5.reads (Mt.rows_sized _ _))
    clear hr5 hb
    have hle := (Mt.elems_len m.kind).1
    obtain ⟨l, hl⟩ : ∃ l, l = Mt.head ++ Mt.elems m.kind := ⟨_, rfl⟩
    have HL := Lib.hid hl
    have hll : l.length ≤ 8 := by rw [hl, List.length_append]; show 3 + _ ≤ 8; omega
    have hlp : 0 < l.length := by rw [hl, List.length_append]; show 0 < 3 + _; omega
    clear hl
    go_wp2_with (first
    | (at_builtin; refine append_rows rfl _ _ 89 20 1 16 (.nilIface) rfl Tryz.underlying89 (by kernel_rfl) (by rfl) (by omega) w3.heap.size (Mt.rows w.heap.size Mt.head) (Mt.rows w.heap.size (Mt.elems m.kind)) v4 v5 rfl rfl hr45 HR5.out (Mt.rows_sized _ _) (by rw [Mt.rows_len, Mt.rows_len]; show (3 + _) * _ ≤ _; omega) (by rw [Mt.rows_len, Mt.rows_len]; show 3 + _ ≤ _; omega) w5 (Below.refl _ _) (by have := HZ4.out; have := HZ5.out; omega) ?_
       intro v6 w6 ho6 hb6 hg6
       have hro : ERow w6 w3.heap.size v6 w.heap.size l := by rw [HL.out]; show OwnsR _ _ _ _ _ (Mt.rows _ _); rw [show Mt.rows w.heap.size (Mt.head ++ Mt.elems m.kind) = Mt.rows w.heap.size Mt.head ++ Mt.rows w.heap.size (Mt.elems m.kind) from List.map_append ..]; exact ho6
       obtain ⟨j6, cap6, cur6, rfl, hj6, hlr6, hcell6⟩ := hro.lies hlp
       have HM6 := Lib.hid (HM5.out.below hb6 (by have := HZ3.out; omega)); have HW6 := Lib.hid ((⟨HW5.out.base, HW5.out.lies.below hb6 HZ3.out.2, Owns.empty _ _ _⟩ : Wrt w6 w1.heap.size w2.heap.size (.slice none 0 0) []))
       have HB6 := Lib.hid (HB5.out.trans (hb6.mono (Nat.le_trans HB2.out.size (Nat.le_of_lt HZ3.out.2))))
       have HR6 := Lib.hid hlr6; have HC6 := Lib.hid hcell6; have HJ6 := Lib.hid hj6
       clear hlr6 hcell6 hj6 hro ho6 hb6 hg6)
    | fail)
    have HLEN : Hid (∀ k, ((l.take k).flatMap (Mt.ebytes m)).length ≤ 16000000) := by
      intro k
      have h := Mt.flat_len HCK.out HENT.out (l.take k) fun x hx => by have := List.mem_of_mem_take hx; rwa [HL.out] at this
      rw [List.length_take] at h
      omega
    have HALL : Hid (l.flatMap (Mt.ebytes m) = Mt.bytes m) := by show _ = _; rw [HL.out, Mt.bytes_elems]
    go_loopw [17] (fun i wr => ∃ (k : Nat) (u : Value), i = .int .i64 (k : Int) ∧ k ≤ l.length ∧ Hid (Below w1.heap.size w1 wr) ∧ Hid (Wrt wr w1.heap.size w2.heap.size u ((l.take k).flatMap (Mt.ebytes m))) ∧ Hid (Msgs wr w.heap.size m ve vi) ∧ Hid (k < l.length → Lies wr j6 20 cur6)) (fun i _ => l.length - (intOf i).toNat)
    case atStart => exact ⟨0, .slice none 0 0, rfl, by omega, HB6, HW6, HM6, fun _ => HR6.out⟩
    case round =>
      obtain ⟨k, u, rfl, hk, HB, HW, HM, HR⟩ := hrel
      by_cases hlt : k < l.length
      · have hlt' : (k : Int) < (l.length : Int) := by omega
        obtain ⟨e, he⟩ : ∃ e, l[k]? = some e := ⟨_, List.getElem?_eq_getElem hlt⟩
        have hcell := (HR.out hlt).cell k _ (HC6.out k e he)
        have HMEM : Hid (e ∈ Mt.head ++ Mt.elems m.kind) := by have := List.mem_of_getElem? he; rwa [HL.out] at this
        have HLAST : Hid ((∃ j, e = .num j) ∨ k + 1 = l.length) := by have h := he; rw [HL.out] at h; rw [HL.out]; exact Mt.last h
        have HST : Hid ((l.take (k + 1)).flatMap (Mt.ebytes m) = (l.take k).flatMap (Mt.ebytes m) ++ Mt.ebytes m e) := by show _ = _; rw [List.take_add_one, he]; simp
        have HLE := Lib.hid (HLEN.out k)
        clear he
        go_wp2_with fail
        refine (putMt_any e w.heap.size m ve vi _ w1.heap.size w2.heap.size u _ HCK.out HMEM.out HW.out HB.out.size (by have := HLE.out; omega) HM.out (fun W h => HE1.out.below (HB.out.trans h)) (fun W h => HI1.out.below (HB.out.trans h)) HENT.out).mono ?_
        rintro e7 w7 ⟨⟨rfl, u7, hw7, hb7⟩, hsp⟩
        rw [← HST.out] at hw7
        have HW7 := Lib.hid hw7; have HB7 := Lib.hid (HB.out.trans hb7)
        have HM7 := Lib.hid (HM.out.below hb7 (by have := HS.out; omega))
        have HR7 : Hid (k + 1 < l.length → Lies w7 j6 20 cur6) := by
          intro h
          rcases HLAST.out with ⟨j, hj⟩ | h'
          · exact hsp j hj _ _ _ (by have := HJ6.out; have := HZ3.out; omega) (by decide) (HR.out hlt)
          · omega
        clear hw7 hb7 hsp hcell
        go_wp2
        go_roundw
        case rel => exact ⟨k + 1, u7, by go_num, by omega, HB7, HW7, HM7, HR7⟩
        case measure => simp [intOf]; omega
      · have hlt' : ¬ (k : Int) < (l.length : Int) := by omega
        have hw9 := HW.out
        have hl9 := HLEN.out k
        rw [List.take_of_length_le (by omega), HALL.out] at hw9
        rw [List.take_of_length_le (by omega), HALL.out] at hl9
        have HW9 := Lib.hid hw9; have HL9 := Lib.hid hl9
        clear hw9 hl9
        go_wp2_with fail
        refine (wbytes_any _ w1.heap.size w2.heap.size u _ HW9.out (by have := HL9.out; omega)).mono ?_
        rintro e8 w8 ⟨u8, rfl, ho8, hb8⟩
        have HB8 := Lib.hid (HB1.out.trans ((HB.out.trans (hb8.mono HB.out.size)).mono HB1.out.size))
        go_wp2
        go_ret2
        exact ⟨HB8.out, u8, rfl, ho8.reads⟩
  · have hne : (c != 0) = true := by simpa using h0
    go_wp2
    go_ret2
    exact ⟨HX2.out, _, rfl, Reads.empty _⟩

end Go.Proofs.YtndicjpbanmpjaaGreatDoor
