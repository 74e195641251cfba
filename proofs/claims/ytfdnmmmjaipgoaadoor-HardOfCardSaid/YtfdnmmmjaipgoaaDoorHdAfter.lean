/- A record applied to a state, as the program has it. -/
import Derived.Test.YtfdnmmmjaipgoaaDoorHdCopy
import Derived.Test.YtfdnmmmjaipgoaaDoorGEf
import Derived.Test.YtfdnmmmjaipgoaaDoorGRf
import Derived.Test.YtfdnmmmjaipgoaaDoorGBm
namespace Go.Proofs.YtfdnmmmjaipgoaaDoor
open Go.RowKit

theorem En.drop_cut : ∀ {l : List En.Ent}, En.Asc l → ∀ x : Int, l.drop (En.below l (x + 1)) = En.cut x l
  | [], _, _ => rfl
  | a :: r, hp, x => by
    by_cases h : a.index < x + 1
    · rw [En.below_less r h, List.drop_succ_cons, En.drop_cut (List.pairwise_cons.1 hp).2 x, En.cut_cons, if_neg (by omega)]
    · rw [En.below_none hp h, List.drop_zero]
      refine (En.cut_all fun e he => ?_).symm
      rcases List.mem_cons.1 he with rfl | he
      · omega
      · have := (List.pairwise_cons.1 hp).1 e he; omega
theorem Hd.most_proms (p : Bl.Bal) (x : Re.Rec) (h : Re.hb x.kind = true) : Bl.most [p, x.bal] = Hd.proms p x := by
  show Bl.top p x.bal = _
  unfold Bl.top Hd.proms
  cases hl : Bl.less p x.bal
  · rw [if_neg (by simp), if_neg (by simp)]
  · rw [if_pos rfl, if_pos ⟨h, rfl⟩]
theorem Hd.own_index {x : Re.Rec} (f : Hd.Fine x) (h : Re.hi x.kind = false) : x.index = 0 := by
  have := congrArg Re.Rec.index f.own
  simp only [Re.own, h] at this
  simpa using this.symm
theorem Hd.proms_none (p : Bl.Bal) (x : Re.Rec) (h : Re.hb x.kind = false) : Hd.proms p x = p := by
  unfold Hd.proms; rw [if_neg (fun h2 => by rw [h] at h2; cases h2.1)]
/-- At or below the image's index: a promise at most. -/
theorem Hd.apply_low {h : Hd.Hard} {x : Re.Rec} (hk : Re.check x = 0) (hi : x.index ≤ h.base) : Hd.apply h x = ⟨Hd.proms h.prom x, h.base, h.img, h.acc, h.chs⟩ := by
  unfold Hd.apply
  rw [if_neg (by rw [hk]; simp), if_neg (fun h2 => by omega), Hd.two_out _ (.inr (.inl hi))]

/-- The program's state, the record and the result in their blocks, while it applies the one to the other. -/
structure AftR (w W : World) (h : Hd.Hard) (vi va vc : Value) (x : Re.Rec) (xi : Value) : Prop where
  st : SixAt W w.heap.size 51 h.prom h.base vi va vc
  re : Recs W (w.heap.size + 1) x xi
  out : SixAt W (w.heap.size + 2) 51 Bl.zero 0 Nil Nil Nil
  rows : HardR W h vi va vc
  img : Reads W xi x.img
  below : Below w.heap.size w W
theorem AftR.call {w W W' : World} {h : Hd.Hard} {vi va vc : Value} {x : Re.Rec} {xi : Value} (A : AftR w W h vi va vc x xi) (hb : Below W.heap.size W W') : AftR w W' h vi va vc x xi :=
  ⟨A.st.below hb A.st.lies.lt, A.re.below hb A.re.lt, A.out.below hb A.out.lies.lt, A.rows.below hb, A.img.below hb, A.below.trans (hb.mono A.below.size)⟩
theorem AftR.turn {w W W' : World} {h : Hd.Hard} {vi va vc : Value} {x : Re.Rec} {xi : Value} (A : AftR w W h vi va vc x xi) {h' : Hd.Hard} {vi' va' vc' : Value} (s : SixAt W' w.heap.size 51 h'.prom h'.base vi' va' vc') (hg : W.grownBy W' (some w.heap.size)) (r : HardR W h' vi' va' vc') : AftR w W' h' vi' va' vc' x xi :=
  ⟨s, A.re.kept hg (by simp), A.out.kept hg (by omega), r.over A.st hg, A.img.kept_of A.st.lies A.st.no8 hg, A.below.grown hg A.below.size (by rintro j hj; cases hj; exact Nat.le_refl _)⟩
theorem AftR.made {w W W' : World} {h : Hd.Hard} {vi va vc : Value} {x : Re.Rec} {xi : Value} (A : AftR w W h vi va vc x xi) (hg : W.grownBy W' (some (w.heap.size + 2))) : MadeH w h (.returned (.agg (Hd.six h.prom h.base vi va vc))) W' :=
  ⟨vi, va, vc, rfl, A.rows.over A.out hg, A.below.grown hg A.below.size (by rintro j hj; cases hj; omega)⟩
theorem box_three (w : World) (h : Hd.Hard) (vi va vc : Value) (x : Re.Rec) (xi : Value) (r : HardR w h vi va vc) (hx : Reads w xi x.img) :
    ∃ w3, ((w.alloc (.cells (Hd.cells h vi va vc) 51)).alloc (.cells (Re.cells x xi) 41)).alloc (.cells #[.int .i64 0, .int .i64 0, .int .i64 0, .slice none 0 0, .slice none 0 0, .slice none 0 0] 51) = w3 ∧ AftR w w3 h vi va vc x xi := by
  obtain ⟨w1, e1, hx1, hB1, hs1⟩ := box_six w 51 h vi va vc r
  obtain ⟨w2, e2, hl2, hB2, hs2⟩ := box_rec w1 x xi
  obtain ⟨w3, e3, hz3, hB3, hs3⟩ := box_zero w2 51
  rw [hs1] at hl2 hs2
  rw [hs2] at hz3
  have hB : Below w.heap.size w w3 := (hB1.trans (hB2.mono hB1.size)).trans (hB3.mono (Nat.le_trans hB1.size hB2.size))
  exact ⟨w3, by rw [e1, e2, e3], (hx1.below hB2 (by omega)).below hB3 (by omega), hl2.below hB3 (by omega), hz3, r.below hB, hx.below hB, hB⟩

set_option maxRecDepth 4000 in
set_option maxHeartbeats 12800000 in
theorem after_any (h : Hd.Hard) (vi va vc : Value) (x : Re.Rec) (xi : Value) (w : World) (hW : WordsIn w) (hr : HardR w h vi va vc) (hv : Hd.Valid h) (hla : h.acc.length ≤ 900000 ∧ h.chs.length ≤ 900000) (hx : Reads w xi x.img) (hs : x.cmd.Short 140737488355328) :
    Calls Tryd.prog 22 #[.agg (Hd.cells h vi va vc), .agg (Re.cells x xi)] w (MadeH w (Hd.apply h x)) := by
  obtain ⟨w3, e3, hA⟩ := box_three w h vi va vc x xi hr hx
  have A3 := Lib.hid hA; have HW := Lib.hid hW; have HV := Lib.hid hv; have HLEN := Lib.hid hla; have HS := Lib.hid hs
  have HXI : Hid (∃ o k c, xi = .slice o k c) := by obtain ⟨xo, xc, e⟩ := hx.shape; exact ⟨_, _, _, e⟩
  clear hA hW hr hv hla hx hs
  go_enter Tryd.func22, Tryd.ntmps22
  go_wp2_with (refine load_rec rfl _ rfl (w.heap.size + 1) x xi rfl A3.out.re ?_)
  refine (checkRe_any x xi w3 (HW.out.below A3.out.below) A3.out.img HS.out).mono ?_
  rintro e w4 ⟨rfl, hb4⟩
  have A4 := Lib.hid (A3.out.call hb4)
  obtain ⟨y, hy⟩ : ∃ y, y = Re.check x := ⟨_, rfl⟩
  rw [← hy]
  clear hb4 A3 e3
  by_cases hy0 : y = 0
  rotate_left
  · have hyb : (y != 0) = true := by simpa using hy0
    have HAP : Hid (Hd.apply h x = h) := Hd.apply_bad (by rw [← hy]; exact hy0)
    clear hy hy0
    go_wp2_with (first
      | (refine load_state rfl _ rfl rfl A4.out.st ?_)
      | (refine store_state rfl _ _ rfl rfl A4.out.out A4.out.st rfl ?_; intro w7 hx7 hg7; have HX7 := Lib.hid hx7; have HG7 := Lib.hid hg7; clear hx7 hg7)
    )
    refine ret_state1 rfl rfl HX7.out rfl ?_
    show MadeH w (Hd.apply _ _) _ _
    rw [HAP.out]
    exact A4.out.made HG7.out

  subst hy0
  have HY : Hid (Re.check x = 0) := hy.symm
  clear hy
  obtain ⟨kd, bal, ix, cm, im⟩ := x
  obtain ⟨p, b, img, acc, chs⟩ := h
  dsimp only at HV HLEN HS
  have hkn := Hd.check_known HY.out
  dsimp only at hkn
  obtain rfl | rfl | rfl | rfl : kd = 1 ∨ kd = 2 ∨ kd = 3 ∨ kd = 4 := by omega
  all_goals clear hkn
  · skip
    have HF := Lib.hid (Hd.check_fine.1 HY.out)
    have HAP := Lib.hid (fun h => Hd.apply_low (h := ⟨p, b, img, acc, chs⟩) (x := ⟨1, bal, ix, cm, im⟩) HY.out h)
    have HM : Hid (Bl.most [p, bal] = Hd.proms p ⟨1, bal, ix, cm, im⟩) := Hd.most_proms p ⟨1, bal, ix, cm, im⟩ rfl
    obtain ⟨mo, hmo⟩ : ∃ m, m = Bl.most [p, bal] := ⟨_, rfl⟩
    have HMO := Lib.hid hmo
    have hlit : ReadsB (w4.alloc (.cells #[.int .i64 p.round, .int .i64 p.node, .int .i64 bal.round, .int .i64 bal.node] 26)) (.slice (some ⟨w4.heap.size, 0, none⟩) 2 2) [p, bal] := ReadsR.lit (rs := [p, bal].map Bl.cells) (Lies.new _ _ _) (Sized.map (k := 2) (f := Bl.cells) (fun b => ⟨rfl, Bl.cells_one b⟩) [p, bal]) (by simp)
    have HMAX := Lib.hid (bmax_any _ _ _ hlit)
    clear hmo hlit
    obtain rfl : ix = 0 := Hd.own_index HF.out rfl
    have hb0 : 0 ≤ b := HV.out.base.1
    have c0 : w4.cell? ⟨w.heap.size, 0, none⟩ = some (.int .i64 p.round) := A4.out.st.lies.cell 0 _ rfl
    have c1 : w4.cell? ⟨w.heap.size, 1, none⟩ = some (.int .i64 p.node) := A4.out.st.lies.cell 1 _ rfl
    have d0 : w4.cell? ⟨w.heap.size + 1, 0, none⟩ = some (.int .i64 1) := A4.out.re.cell 0 _ rfl
    have d1 : w4.cell? ⟨w.heap.size + 1, 1, none⟩ = some (.int .i64 bal.round) := A4.out.re.cell 1 _ rfl
    have d2 : w4.cell? ⟨w.heap.size + 1, 2, none⟩ = some (.int .i64 bal.node) := A4.out.re.cell 2 _ rfl
    go_wp2_with fail
    refine HMAX.out.mono ?_
    rintro e w5 ⟨rfl, hb5⟩
    rw [← HMO.out]
    have A5 := Lib.hid (A4.out.call (((Below.refl _ w4).alloc (Nat.le_refl _) _).trans (hb5.mono (by simp))))
    clear hb5 c0 c1 d0 d1 d2
    go_wp2_with (first
      | (refine store_prom rfl _ _ rfl mo rfl rfl A5.out.st ?_; intro w6 hx6 hg6; have A6 := Lib.hid (A5.out.turn (h' := ⟨mo, b, img, acc, chs⟩) hx6 hg6 ⟨A5.out.rows.img, A5.out.rows.acc, A5.out.rows.chs⟩); clear hx6 hg6; have c2 : w6.cell? ⟨w.heap.size, 2, none⟩ = some (.int .i64 b) := A6.out.st.lies.cell 2 _ rfl; have d3 : w6.cell? ⟨w.heap.size + 1, 3, none⟩ = some (.int .i64 0) := A6.out.re.cell 3 _ rfl)
      | (refine load_state rfl _ rfl rfl A6.out.st ?_)
      | (refine store_state rfl _ _ rfl rfl A6.out.out A6.out.st rfl ?_; intro w7 hx7 hg7; have HX7 := Lib.hid hx7; have HG7 := Lib.hid hg7; clear hx7 hg7))
    refine ret_state1 rfl rfl HX7.out rfl ?_
    show MadeH w (Hd.apply _ _) _ _
    rw [HAP.out hb0, show Hd.proms p _ = mo by rw [HMO.out, HM.out]]
    exact A6.out.made HG7.out
  · skip
    have HF := Lib.hid (Hd.check_fine.1 HY.out)
    have HAP := Lib.hid (fun h => Hd.apply_low (h := ⟨p, b, img, acc, chs⟩) (x := ⟨2, bal, ix, cm, im⟩) HY.out h)
    have HM : Hid (Bl.most [p, bal] = Hd.proms p ⟨2, bal, ix, cm, im⟩) := Hd.most_proms p ⟨2, bal, ix, cm, im⟩ rfl
    obtain ⟨mo, hmo⟩ : ∃ m, m = Bl.most [p, bal] := ⟨_, rfl⟩
    have HMO := Lib.hid hmo
    have hlit : ReadsB (w4.alloc (.cells #[.int .i64 p.round, .int .i64 p.node, .int .i64 bal.round, .int .i64 bal.node] 26)) (.slice (some ⟨w4.heap.size, 0, none⟩) 2 2) [p, bal] := ReadsR.lit (rs := [p, bal].map Bl.cells) (Lies.new _ _ _) (Sized.map (k := 2) (f := Bl.cells) (fun b => ⟨rfl, Bl.cells_one b⟩) [p, bal]) (by simp)
    have HMAX := Lib.hid (bmax_any _ _ _ hlit)
    clear hmo hlit
    by_cases hbi : ix ≤ b
    · skip
      have c0 : w4.cell? ⟨w.heap.size, 0, none⟩ = some (.int .i64 p.round) := A4.out.st.lies.cell 0 _ rfl
      have c1 : w4.cell? ⟨w.heap.size, 1, none⟩ = some (.int .i64 p.node) := A4.out.st.lies.cell 1 _ rfl
      have d0 : w4.cell? ⟨w.heap.size + 1, 0, none⟩ = some (.int .i64 2) := A4.out.re.cell 0 _ rfl
      have d1 : w4.cell? ⟨w.heap.size + 1, 1, none⟩ = some (.int .i64 bal.round) := A4.out.re.cell 1 _ rfl
      have d2 : w4.cell? ⟨w.heap.size + 1, 2, none⟩ = some (.int .i64 bal.node) := A4.out.re.cell 2 _ rfl
      go_wp2_with fail
      refine HMAX.out.mono ?_
      rintro e w5 ⟨rfl, hb5⟩
      rw [← HMO.out]
      have A5 := Lib.hid (A4.out.call (((Below.refl _ w4).alloc (Nat.le_refl _) _).trans (hb5.mono (by simp))))
      clear hb5 c0 c1 d0 d1 d2
      go_wp2_with (first
        | (refine store_prom rfl _ _ rfl mo rfl rfl A5.out.st ?_; intro w6 hx6 hg6; have A6 := Lib.hid (A5.out.turn (h' := ⟨mo, b, img, acc, chs⟩) hx6 hg6 ⟨A5.out.rows.img, A5.out.rows.acc, A5.out.rows.chs⟩); clear hx6 hg6; have c2 : w6.cell? ⟨w.heap.size, 2, none⟩ = some (.int .i64 b) := A6.out.st.lies.cell 2 _ rfl; have d3 : w6.cell? ⟨w.heap.size + 1, 3, none⟩ = some (.int .i64 ix) := A6.out.re.cell 3 _ rfl)
        | (refine load_state rfl _ rfl rfl A6.out.st ?_)
        | (refine store_state rfl _ _ rfl rfl A6.out.out A6.out.st rfl ?_; intro w7 hx7 hg7; have HX7 := Lib.hid hx7; have HG7 := Lib.hid hg7; clear hx7 hg7))
      refine ret_state1 rfl rfl HX7.out rfl ?_
      show MadeH w (Hd.apply _ _) _ _
      rw [HAP.out hbi, show Hd.proms p _ = mo by rw [HMO.out, HM.out]]
      exact A6.out.made HG7.out
    · have HBI : Hid (b < ix) := by show _ < _; omega
      have hbi2 : decide (ix ≤ b) = false := decide_eq_false hbi
      have c0 : w4.cell? ⟨w.heap.size, 0, none⟩ = some (.int .i64 p.round) := A4.out.st.lies.cell 0 _ rfl
      have c1 : w4.cell? ⟨w.heap.size, 1, none⟩ = some (.int .i64 p.node) := A4.out.st.lies.cell 1 _ rfl
      have d0 : w4.cell? ⟨w.heap.size + 1, 0, none⟩ = some (.int .i64 2) := A4.out.re.cell 0 _ rfl
      have d1 : w4.cell? ⟨w.heap.size + 1, 1, none⟩ = some (.int .i64 bal.round) := A4.out.re.cell 1 _ rfl
      have d2 : w4.cell? ⟨w.heap.size + 1, 2, none⟩ = some (.int .i64 bal.node) := A4.out.re.cell 2 _ rfl
      go_wp2_with fail
      refine HMAX.out.mono ?_
      rintro e w5 ⟨rfl, hb5⟩
      rw [← HMO.out]
      have A5 := Lib.hid (A4.out.call (((Below.refl _ w4).alloc (Nat.le_refl _) _).trans (hb5.mono (by simp))))
      clear hb5 c0 c1 d0 d1 d2
      go_wp2_with (first
        | (refine store_prom rfl _ _ rfl mo rfl rfl A5.out.st ?_; intro w6 hx6 hg6; have A6 := Lib.hid (A5.out.turn (h' := ⟨mo, b, img, acc, chs⟩) hx6 hg6 ⟨A5.out.rows.img, A5.out.rows.acc, A5.out.rows.chs⟩); clear hx6 hg6; have c2 : w6.cell? ⟨w.heap.size, 2, none⟩ = some (.int .i64 b) := A6.out.st.lies.cell 2 _ rfl; have c4 : w6.cell? ⟨w.heap.size, 4, none⟩ = some (va) := A6.out.st.lies.cell 4 _ rfl; have d0 : w6.cell? ⟨w.heap.size + 1, 0, none⟩ = some (.int .i64 2) := A6.out.re.cell 0 _ rfl; have d1 : w6.cell? ⟨w.heap.size + 1, 1, none⟩ = some (.int .i64 bal.round) := A6.out.re.cell 1 _ rfl; have d2 : w6.cell? ⟨w.heap.size + 1, 2, none⟩ = some (.int .i64 bal.node) := A6.out.re.cell 2 _ rfl; have d3 : w6.cell? ⟨w.heap.size + 1, 3, none⟩ = some (.int .i64 ix) := A6.out.re.cell 3 _ rfl; have d4 : w6.cell? ⟨w.heap.size + 1, 4, none⟩ = some (.int .i64 cm.kind) := A6.out.re.cell 4 _ rfl; have d5 : w6.cell? ⟨w.heap.size + 1, 5, none⟩ = some (.int .i64 cm.client) := A6.out.re.cell 5 _ rfl; have d6 : w6.cell? ⟨w.heap.size + 1, 6, none⟩ = some (.int .i64 cm.seq) := A6.out.re.cell 6 _ rfl; have d7 : w6.cell? ⟨w.heap.size + 1, 7, none⟩ = some (.string ⟨cm.key.toArray⟩) := A6.out.re.cell 7 _ rfl; have d8 : w6.cell? ⟨w.heap.size + 1, 8, none⟩ = some (.string ⟨cm.val.toArray⟩) := A6.out.re.cell 8 _ rfl; have d9 : w6.cell? ⟨w.heap.size + 1, 9, none⟩ = some (.string ⟨cm.old.toArray⟩) := A6.out.re.cell 9 _ rfl; have d10 : w6.cell? ⟨w.heap.size + 1, 10, none⟩ = some (.int .i64 cm.node) := A6.out.re.cell 10 _ rfl)
        | (fail))
      refine (with_ent va acc ⟨ix, bal, cm⟩ w6 A6.out.rows.acc HV.out.ascA (by have := HLEN.out.1; omega)).mono ?_
      rintro e w7 ⟨v7, rfl, ho7, hb7⟩
      obtain ⟨uo, uc, hs7⟩ := ho7.shape
      have HO7 : Hid (ReadsE w7 v7 (En.put acc ⟨ix, bal, cm⟩)) := ho7.reads (En.sized _)
      have A7 := Lib.hid (A6.out.call hb7)
      clear ho7 hb7 c2 c4 d0 d1 d2 d3 d4 d5 d6 d7 d8 d9 d10
      subst hs7
      obtain ⟨un, hun⟩ : ∃ n, n = ((En.put acc ⟨ix, bal, cm⟩).map En.cells).length := ⟨_, rfl⟩
      rw [← hun] at HO7 ⊢
      clear hun
      go_wp2_with (first
        | (refine store_acc rfl _ _ rfl uo un uc rfl rfl A7.out.st ?_; intro w8 hx8 hg8; have A8 := Lib.hid (A7.out.turn (h' := ⟨mo, b, img, En.put acc ⟨ix, bal, cm⟩, chs⟩) hx8 hg8 ⟨A7.out.rows.img, HO7.out, A7.out.rows.chs⟩); clear hx8 hg8)
        | (refine load_state rfl _ rfl rfl A8.out.st ?_)
        | (refine store_state rfl _ _ rfl rfl A8.out.out A8.out.st rfl ?_; intro w9 hx9 hg9; have HX9 := Lib.hid hx9; have HG9 := Lib.hid hg9; clear hx9 hg9))
      refine ret_state1 rfl rfl HX9.out rfl ?_
      have HEQ : Hd.apply ⟨p, b, img, acc, chs⟩ ⟨2, bal, ix, cm, im⟩ = ⟨mo, b, img, En.put acc ⟨ix, bal, cm⟩, chs⟩ := by
        unfold Hd.apply
        rw [if_neg (by rw [HY.out]; simp), if_neg (fun h => by have := h.1; simp at this), Hd.two_in _ HY.out HBI.out rfl, if_pos rfl, HMO.out, HM.out]
        rfl
      show MadeH w (Hd.apply _ _) _ _
      rw [HEQ]
      exact A8.out.made HG9.out
  · skip
    have HF := Lib.hid (Hd.check_fine.1 HY.out)
    have HAP := Lib.hid (fun h => Hd.apply_low (h := ⟨p, b, img, acc, chs⟩) (x := ⟨3, bal, ix, cm, im⟩) HY.out h)
    have HPR : Hid (Hd.proms p ⟨3, bal, ix, cm, im⟩ = p) := Hd.proms_none p ⟨3, bal, ix, cm, im⟩ rfl
    obtain rfl : bal = Bl.zero := Hd.own_bal HF.out rfl
    by_cases hbi : ix ≤ b
    · skip
      have c2 : w4.cell? ⟨w.heap.size, 2, none⟩ = some (.int .i64 b) := A4.out.st.lies.cell 2 _ rfl
      have d0 : w4.cell? ⟨w.heap.size + 1, 0, none⟩ = some (.int .i64 3) := A4.out.re.cell 0 _ rfl
      have d3 : w4.cell? ⟨w.heap.size + 1, 3, none⟩ = some (.int .i64 ix) := A4.out.re.cell 3 _ rfl
      go_wp2_with (first
        | (refine load_state rfl _ rfl rfl A4.out.st ?_)
        | (refine store_state rfl _ _ rfl rfl A4.out.out A4.out.st rfl ?_; intro w7 hx7 hg7; have HX7 := Lib.hid hx7; have HG7 := Lib.hid hg7; clear hx7 hg7))
      refine ret_state1 rfl rfl HX7.out rfl ?_
      show MadeH w (Hd.apply _ _) _ _
      rw [HAP.out hbi, show Hd.proms p _ = p from HPR.out]
      exact A4.out.made HG7.out
    · have HBI : Hid (b < ix) := by show _ < _; omega
      have hbi2 : decide (ix ≤ b) = false := decide_eq_false hbi
      have c2 : w4.cell? ⟨w.heap.size, 2, none⟩ = some (.int .i64 b) := A4.out.st.lies.cell 2 _ rfl
      have c5 : w4.cell? ⟨w.heap.size, 5, none⟩ = some (vc) := A4.out.st.lies.cell 5 _ rfl
      have d0 : w4.cell? ⟨w.heap.size + 1, 0, none⟩ = some (.int .i64 3) := A4.out.re.cell 0 _ rfl
      have d3 : w4.cell? ⟨w.heap.size + 1, 3, none⟩ = some (.int .i64 ix) := A4.out.re.cell 3 _ rfl

      have HEQ : Hid (Hd.apply ⟨p, b, img, acc, chs⟩ ⟨3, Bl.zero, ix, cm, im⟩ = if En.found chs ix = true then ⟨p, b, img, acc, chs⟩ else ⟨p, b, img, acc, En.put chs ⟨ix, Bl.zero, cm⟩⟩) := by
        show _ = _
        unfold Hd.apply
        rw [if_neg (by rw [HY.out]; simp), if_neg (fun h => by have := h.1; simp at this), Hd.two_in _ HY.out HBI.out rfl, if_neg (by simp), HPR.out]
        by_cases hf : En.found chs ix = true
        · rw [if_pos hf, if_pos hf]
        · rw [if_neg hf, if_neg hf]
          rfl

      go_wp2_with fail
      refine (find_ent vc chs ix w4 A4.out.rows.chs HV.out.ascC (by have := HLEN.out.2; omega)).mono ?_
      rintro e w5 ⟨rfl, hb5⟩
      have A5 := Lib.hid (A4.out.call hb5)
      obtain ⟨fe, hfe⟩ : ∃ e, e = En.find chs ix := ⟨_, rfl⟩
      rw [← hfe]
      obtain ⟨f, hf⟩ : ∃ f, f = En.found chs ix := ⟨_, rfl⟩
      rw [← hf] at HEQ ⊢
      clear hb5 hfe hf c2 c5 d0 d3 hbi hbi2
      cases f with
      | true =>
        go_wp2_with (first
          | (refine store_ent rfl _ _ rfl w5.heap.size En.zero fe rfl rfl (Lies.new _ _ _) ?_; intro w6 hl6 hg6; have A6 := Lib.hid (A5.out.call (fresh_below hg6)); clear hl6 hg6)
          | (refine load_state rfl _ rfl rfl A6.out.st ?_)
          | (refine store_state rfl _ _ rfl rfl A6.out.out A6.out.st rfl ?_; intro w9 hx9 hg9; have HX9 := Lib.hid hx9; have HG9 := Lib.hid hg9; clear hx9 hg9))
        refine ret_state1 rfl rfl HX9.out rfl ?_
        show MadeH w (Hd.apply _ _) _ _
        rw [HEQ.out]
        simp only [↓reduceIte]
        exact A6.out.made HG9.out
      | false =>
        go_wp2_with ((refine store_ent rfl _ _ rfl w5.heap.size En.zero fe rfl rfl (Lies.new _ _ _) ?_; intro w6 hl6 hg6; have A6 := Lib.hid (A5.out.call (fresh_below hg6)); clear hl6 hg6; have c5 : w6.cell? ⟨w.heap.size, 5, none⟩ = some (vc) := A6.out.st.lies.cell 5 _ rfl; have d3 : w6.cell? ⟨w.heap.size + 1, 3, none⟩ = some (.int .i64 ix) := A6.out.re.cell 3 _ rfl; have d4 : w6.cell? ⟨w.heap.size + 1, 4, none⟩ = some (.int .i64 cm.kind) := A6.out.re.cell 4 _ rfl; have d5 : w6.cell? ⟨w.heap.size + 1, 5, none⟩ = some (.int .i64 cm.client) := A6.out.re.cell 5 _ rfl; have d6 : w6.cell? ⟨w.heap.size + 1, 6, none⟩ = some (.int .i64 cm.seq) := A6.out.re.cell 6 _ rfl; have d7 : w6.cell? ⟨w.heap.size + 1, 7, none⟩ = some (.string ⟨cm.key.toArray⟩) := A6.out.re.cell 7 _ rfl; have d8 : w6.cell? ⟨w.heap.size + 1, 8, none⟩ = some (.string ⟨cm.val.toArray⟩) := A6.out.re.cell 8 _ rfl; have d9 : w6.cell? ⟨w.heap.size + 1, 9, none⟩ = some (.string ⟨cm.old.toArray⟩) := A6.out.re.cell 9 _ rfl; have d10 : w6.cell? ⟨w.heap.size + 1, 10, none⟩ = some (.int .i64 cm.node) := A6.out.re.cell 10 _ rfl))
        refine (with_ent vc chs ⟨ix, Bl.zero, cm⟩ w6 A6.out.rows.chs HV.out.ascC (by have := HLEN.out.2; omega)).mono ?_
        rintro e w7 ⟨v7, rfl, ho7, hb7⟩
        obtain ⟨uo, uc, hs7⟩ := ho7.shape
        have HO7 : Hid (ReadsE w7 v7 (En.put chs ⟨ix, Bl.zero, cm⟩)) := ho7.reads (En.sized _)
        have A7 := Lib.hid (A6.out.call hb7)
        clear ho7 hb7 c5 d3 d4 d5 d6 d7 d8 d9 d10
        subst hs7
        obtain ⟨un, hun⟩ : ∃ n, n = ((En.put chs ⟨ix, Bl.zero, cm⟩).map En.cells).length := ⟨_, rfl⟩
        rw [← hun] at HO7 ⊢
        clear hun
        go_wp2_with (first
          | (refine store_chs rfl _ _ rfl uo un uc rfl rfl A7.out.st ?_; intro w8 hx8 hg8; have A8 := Lib.hid (A7.out.turn (h' := ⟨p, b, img, acc, En.put chs ⟨ix, Bl.zero, cm⟩⟩) hx8 hg8 ⟨A7.out.rows.img, A7.out.rows.acc, HO7.out⟩); clear hx8 hg8)
          | (refine load_state rfl _ rfl rfl A8.out.st ?_)
          | (refine store_state rfl _ _ rfl rfl A8.out.out A8.out.st rfl ?_; intro w9 hx9 hg9; have HX9 := Lib.hid hx9; have HG9 := Lib.hid hg9; clear hx9 hg9))
        refine ret_state1 rfl rfl HX9.out rfl ?_
        show MadeH w (Hd.apply _ _) _ _
        rw [HEQ.out]
        simp only [Bool.false_eq_true, ↓reduceIte]
        exact A8.out.made HG9.out
  · skip
    have HF := Lib.hid (Hd.check_fine.1 HY.out)
    have HAP := Lib.hid (fun h => Hd.apply_low (h := ⟨p, b, img, acc, chs⟩) (x := ⟨4, bal, ix, cm, im⟩) HY.out h)
    have HPR : Hid (Hd.proms p ⟨4, bal, ix, cm, im⟩ = p) := Hd.proms_none p ⟨4, bal, ix, cm, im⟩ rfl
    by_cases hbi : ix ≤ b
    · skip
      have c2 : w4.cell? ⟨w.heap.size, 2, none⟩ = some (.int .i64 b) := A4.out.st.lies.cell 2 _ rfl
      have d0 : w4.cell? ⟨w.heap.size + 1, 0, none⟩ = some (.int .i64 4) := A4.out.re.cell 0 _ rfl
      have d3 : w4.cell? ⟨w.heap.size + 1, 3, none⟩ = some (.int .i64 ix) := A4.out.re.cell 3 _ rfl
      go_wp2_with (first
        | (refine load_state rfl _ rfl rfl A4.out.st ?_)
        | (refine store_state rfl _ _ rfl rfl A4.out.out A4.out.st rfl ?_; intro w7 hx7 hg7; have HX7 := Lib.hid hx7; have HG7 := Lib.hid hg7; clear hx7 hg7))
      refine ret_state1 rfl rfl HX7.out rfl ?_
      show MadeH w (Hd.apply _ _) _ _
      rw [HAP.out hbi, show Hd.proms p _ = p from HPR.out]
      exact A4.out.made HG7.out
    · have HBI : Hid (b < ix) := by show _ < _; omega
      have hbi2 : decide (ix ≤ b) = false := decide_eq_false hbi
      have c2 : w4.cell? ⟨w.heap.size, 2, none⟩ = some (.int .i64 b) := A4.out.st.lies.cell 2 _ rfl
      have d0 : w4.cell? ⟨w.heap.size + 1, 0, none⟩ = some (.int .i64 4) := A4.out.re.cell 0 _ rfl
      have d3 : w4.cell? ⟨w.heap.size + 1, 3, none⟩ = some (.int .i64 ix) := A4.out.re.cell 3 _ rfl

      have HEQ : Hid (Hd.apply ⟨p, b, img, acc, chs⟩ ⟨4, bal, ix, cm, im⟩ = ⟨p, ix, im, En.cut ix acc, En.cut ix chs⟩) := by
        show _ = _
        unfold Hd.apply
        rw [if_neg (by rw [HY.out]; simp), if_pos ⟨rfl, HBI.out⟩]
      have hix : ix ≤ 4294967296 := (HF.out.index rfl).2
      have hix1 : 1 ≤ ix := (HF.out.index rfl).1
      go_wp2
      clear c2 d0 d3
      obtain ⟨xo, xk, xc, rfl⟩ := HXI.out
      obtain ⟨so, sk, sc, rfl⟩ := A4.out.rows.sl.1
      have c2 : w4.cell? ⟨w.heap.size, 2, none⟩ = some (.int .i64 b) := A4.out.st.lies.cell 2 _ rfl
      have c3 : w4.cell? ⟨w.heap.size, 3, none⟩ = some (.slice so sk sc) := A4.out.st.lies.cell 3 _ rfl
      have d3 : w4.cell? ⟨w.heap.size + 1, 3, none⟩ = some (.int .i64 ix) := A4.out.re.cell 3 _ rfl
      have d11 : w4.cell? ⟨w.heap.size + 1, 11, none⟩ = some (.slice xo xk xc) := A4.out.re.cell 11 _ rfl

      have f2 := A4.out.st.lies.free 2
      have f3 := A4.out.st.lies.free 3
      go_region
      obtain ⟨w6, hw6⟩ : ∃ w6, w6 = ((w4.setCell ⟨w.heap.size, 2, none⟩ (.int .i64 ix)).setCell ⟨w.heap.size, 3, none⟩ (.slice xo xk xc)).drew := ⟨_, rfl⟩
      rw [← hw6]
      have A6 : Hid (AftR w w6 ⟨p, ix, im, acc, chs⟩ (.slice xo xk xc) va vc ⟨4, bal, ix, cm, im⟩ (.slice xo xk xc)) := by
        rw [hw6]
        exact (A4.out.turn (h' := ⟨p, ix, im, acc, chs⟩) ⟨(A4.out.st.lies.set 2 (.int .i64 ix)).set 3 (.slice xo xk xc), ⟨_, _, _, rfl⟩, A4.out.st.va, A4.out.st.vc⟩ (grown_on (grown_set _ _ _ _) (grown_set _ _ _ _)) (show HardR w4 ⟨p, ix, im, acc, chs⟩ (.slice xo xk xc) va vc from ⟨A4.out.img, A4.out.rows.acc, A4.out.rows.chs⟩)).call ((Below.refl _ _).drew)
      clear hw6 c2 c3 d3 d11 f2 f3
      have c4 : w6.cell? ⟨w.heap.size, 4, none⟩ = some (va) := A6.out.st.lies.cell 4 _ rfl
      have d3 : w6.cell? ⟨w.heap.size + 1, 3, none⟩ = some (.int .i64 ix) := A6.out.re.cell 3 _ rfl

      go_wp2_with fail
      refine (from_ent va acc (ix + 1) w6 A6.out.rows.acc HV.out.ascA (by have := HLEN.out.1; omega)).mono ?_
      rintro e w7 ⟨v7, rfl, ho7, hb7⟩
      rw [En.drop_cut HV.out.ascA] at ho7
      obtain ⟨uo, uc, hs7⟩ := ho7.shape
      have HO7 : Hid (ReadsE w7 v7 (En.cut ix acc)) := ho7.reads (En.sized _)
      have A7 := Lib.hid (A6.out.call hb7)
      clear ho7 hb7 c4 d3
      subst hs7
      obtain ⟨un, hun⟩ : ∃ n, n = ((En.cut ix acc).map En.cells).length := ⟨_, rfl⟩
      rw [← hun] at HO7 ⊢
      clear hun
      go_wp2_with ((refine store_acc rfl _ _ rfl uo un uc rfl rfl A7.out.st ?_; intro w8 hx8 hg8; have A8 := Lib.hid (A7.out.turn (h' := ⟨p, ix, im, En.cut ix acc, chs⟩) hx8 hg8 ⟨A7.out.rows.img, HO7.out, A7.out.rows.chs⟩); clear hx8 hg8; have c5 : w8.cell? ⟨w.heap.size, 5, none⟩ = some (vc) := A8.out.st.lies.cell 5 _ rfl; have d3 : w8.cell? ⟨w.heap.size + 1, 3, none⟩ = some (.int .i64 ix) := A8.out.re.cell 3 _ rfl))
      refine (from_ent vc chs (ix + 1) w8 A8.out.rows.chs HV.out.ascC (by have := HLEN.out.2; omega)).mono ?_
      rintro e w9 ⟨v9, rfl, ho9, hb9⟩
      rw [En.drop_cut HV.out.ascC] at ho9
      obtain ⟨to, tc, hs9⟩ := ho9.shape
      have HO9 : Hid (ReadsE w9 v9 (En.cut ix chs)) := ho9.reads (En.sized _)
      have A9 := Lib.hid (A8.out.call hb9)
      clear ho9 hb9 c5 d3
      subst hs9
      obtain ⟨tn, htn⟩ : ∃ n, n = ((En.cut ix chs).map En.cells).length := ⟨_, rfl⟩
      rw [← htn] at HO9 ⊢
      clear htn
      go_wp2_with (first
        | (refine store_chs rfl _ _ rfl to tn tc rfl rfl A9.out.st ?_; intro w10 hx10 hg10; have A10 := Lib.hid (A9.out.turn (h' := ⟨p, ix, im, En.cut ix acc, En.cut ix chs⟩) hx10 hg10 ⟨A9.out.rows.img, A9.out.rows.acc, HO9.out⟩); clear hx10 hg10)
        | (refine load_state rfl _ rfl rfl A10.out.st ?_)
        | (refine store_state rfl _ _ rfl rfl A10.out.out A10.out.st rfl ?_; intro w11 hx11 hg11; have HX11 := Lib.hid hx11; have HG11 := Lib.hid hg11; clear hx11 hg11))
      refine ret_state1 rfl rfl HX11.out rfl ?_
      show MadeH w (Hd.apply _ _) _ _
      rw [HEQ.out]
      exact A10.out.made HG11.out
end Go.Proofs.YtfdnmmmjaipgoaaDoor
