/- The law HardApplies. Written by a program. -/
import Derived.Test.YtfdnmmmjaipgoaaDoorHdLaw2
namespace Go.Proofs.YtfdnmmmjaipgoaaDoor
open Go.RowKit

/-- append of a list that reads so. -/
theorem ListO.app {α : Type} {k : Nat} {cells : α → Value → Array Value} {bytes : α → List UInt8} {P : Program} {p : Nat → TypeId → Prop} {w : World} {base : Nat} {E t : TypeId} (ty : TypeId) {sz : Nat} {z : Value} {v u : Value} {l m : List α} (h : ListO k cells bytes p w base E v l) (hm : ListP k cells bytes p w u m) (hc : ∀ a u, (cells a u).size = k ∧ (u.oneCell' = true → (cells a u).all (·.oneCell') = true))
    (ht : P.underlying t = some (.slice E)) (hi : (P.info? E).map (fun i => (i.zero, i.size, i.bytes)) = some (some z, k, sz)) (hzk : z.cells.size = k) (hk : 0 < k) (hbase : base ≤ w.heap.size)
    (hlen : (l.length + m.length) * sz ≤ 140737488355328) (hlen2 : l.length + m.length ≤ 140737488355328) (hp : ∀ g, base ≤ g → ¬ p g E) :
    ∃ v' w', (Builtin.append_ #[t, t] ty #[v, u]).run P w = .ok v' w' ∧ ListO k cells bytes p w' base E v' (l ++ m) ∧ w.grownBy w' v.ownBlock := by
  obtain ⟨ps, e, h1, h2⟩ := h
  obtain ⟨qs, e', h3, h4⟩ := hm
  subst e
  subst e'
  have hl : (rowsOf cells ps).length = (ps.map (·.1)).length := rowsOf_len ps
  have hl' : (rowsOf cells qs).length = (qs.map (·.1)).length := rowsOf_len qs
  obtain ⟨v', w', hrun, h5, h6, _⟩ := run_append_rows_at (P := P) t ty E k sz z ht hi hzk hk base (rowsOf cells ps) (rowsOf cells qs) v _ h1 h3.1 (rowsOf_sized hc fun q hq => (h4 q hq).one) (by rw [hl, hl']; exact hlen) (by rw [hl, hl']; exact hlen2) hbase
  have hk' : Keep p w w' := Keep.of_grown h6 fun g' cs t' fr e' hcs => by
    obtain ⟨cs', hc', hb'⟩ := OwnsR.cells h1 e'
    rw [hc'] at hcs
    cases hcs
    exact hp g' hb'
  refine ⟨v', w', hrun, ⟨ps ++ qs, by simp, by simpa [rowsOf] using h5, fun q hq => ?_⟩, h6⟩
  rcases List.mem_append.1 hq with hq | hq
  · exact (h2 q hq).keep hk'
  · exact (h4 q hq).keep hk'
/-- An own row of records whose images lie in blocks below n. -/
abbrev RecsB (n : Nat) (w : World) (base : Nat) (v : Value) (l : List Re.Rec) : Prop := ListO 12 Re.cells Re.Rec.img (fun b _ => b < n) w base 41 v l
theorem RecsB.reads {n : Nat} {w : World} {base : Nat} {v : Value} {l : List Re.Rec} (h : RecsB n w base v l) : RecsP (fun k _ => k < w.heap.size) w v l :=
  ListO.reads (ListO.imp h fun b cs t fr e _ => lt_of_obj e) cellR_ok fun g e => by obtain ⟨cs, hc, _⟩ := ListO.blocks h e; exact lt_of_obj hc
theorem RecsB.bare {n : Nat} {w : World} (g : Nat) (hg : w.heap.size = g) : RecsB n (w.alloc (.cells #[] 41)) g (.slice (some ⟨g, 0, none⟩) 0 0) [] := by
  subst hg
  exact ⟨[], rfl, World.ownsRow_made w #[] 0 (Nat.le_refl _) (Nat.zero_le _) (by simp), fun q hq => by simp at hq⟩
theorem lies_next (w : World) {g : Nat} (h : w.heap.size = g) (T : TypeId) (vs : Array Value) : Lies (w.alloc (.cells vs T)) g T vs := by rw [← h]; exact Lies.new w T vs
theorem RecsB.new {n : Nat} (w : World) {b : Nat} (g : Nat) (hg : w.heap.size = g) (hb : b ≤ g) : RecsB n (w.alloc (.cells #[] 41)) b (.slice (some ⟨g, 0, none⟩) 0 0) [] := by
  obtain ⟨ps, e, h1, h2⟩ := RecsB.bare (n := n) (w := w) g hg
  exact ⟨ps, e, OwnsR.mono h1 hb, h2⟩
/-- What lies behind, told once: the rest of a walk, whatever some values and the world be. -/
theorem told_once {G : Prop} {P : Value → Value → Value → Value → Value → Value → World → Prop} {B : World → Prop} (rest : ∀ a b c d e f W, B W → P a b c d e f W) (main : (∀ a b c d e f W, B W → P a b c d e f W) → G) : G := main rest
theorem Hd.find_at {l : List En.Ent} (x : Int) (h : En.found l x = true) : ∃ e, l[En.below l x]? = some e ∧ e.index = x := En.found_at h

set_option maxRecDepth 8000 in
set_option maxHeartbeats 6400000 in
theorem hardAppliesLaw_any (v : Value) (l : List Re.Rec) (x : Re.Rec) (xi : Value) (w : World) (hW : WordsIn w) (hv : RecsP (fun k _ => k < w.heap.size) w v l) (hs : ∀ x ∈ l, x.cmd.Short 9223372036854775807) (hx : Reads w xi x.img) (hsx : x.cmd.Short 9223372036854775807) :
    Calls Tryd.prog 5 #[v, .agg (Re.cells x xi)] w (Truly w) := by
  obtain ⟨w1, e1, hl1, hB1, hs1⟩ := box_rec w x xi
  have HV : Hid (∀ W, Below w.heap.size w W → RecsP (fun k _ => k < w.heap.size) W v l) := fun W hb => ListP.below hv hb
  have HXI : Hid (∀ W, Below w.heap.size w W → ReadsP (fun k _ => k < w.heap.size) W xi x.img) := fun W hb => (ReadsP.of_reads hx (fun b t hb => hb)).keep (Keep.of_below hb)
  have HW := Lib.hid hW
  obtain ⟨xo, xc, rfl⟩ := hx.shape
  obtain ⟨xk, hxk⟩ : ∃ n, n = x.img.length := ⟨_, rfl⟩
  rw [← hxk] at HXI hl1 e1 ⊢
  have HL1 := Lib.hid hl1; have HB1 := Lib.hid hB1; have HSX0 := Lib.hid hsx
  have hlarge := largeH_any v l w1 (ListP.imp (HV.out w1 hB1) fun b _ t _ e _ => lt_of_obj e) hs
  clear hl1 hB1 hs1 hv hs hx hW hsx hxk
  go_enter Tryd.func5, Tryd.ntmps5
  go_wp2_with fail
  refine hlarge.mono ?_
  rintro e w2 ⟨t, rfl, hb2, hsm⟩
  have HB2 : Hid (Below w.heap.size w w2) := HB1.out.trans (hb2.mono HB1.out.size)
  have HL2 := Lib.hid (HL1.out.below hb2 HL1.out.lt)
  have HSM := Lib.hid hsm
  clear hlarge hb2 hsm e1
  cases t with
  | true =>
    go_wp2_with fail
    refine (awakeH_any w2 (HW.out.below HB2.out)).mono ?_
    rintro e w3 ⟨rfl, hb3⟩
    go_wp2
    go_ret
    exact truly_of (HB2.out.trans (hb3.mono HB2.out.size))
  | false =>
    have HLL : Hid (l.length ≤ 1000) := Nat.le_trans (HSM.out rfl).1 (by omega)
    have HLL9 : Hid (l.length ≤ 40) := (HSM.out rfl).1
    have HSS : Hid (∀ x ∈ l, x.cmd.Short 140737488355328) := fun x hx => Short.up (Re.small ((HSM.out rfl).2 x hx).1).1 (by omega)
    have HB3 : Hid (Below w.heap.size w (w2.alloc (.cells (Re.cells x (.slice xo xk xc)) 41))) := HB2.out.alloc HB2.out.size _
    have hl1 : Calls Tryd.prog 6 #[.slice (some ⟨w2.heap.size, 0, none⟩) 1 1] (w2.alloc (.cells (Re.cells x (.slice xo xk xc)) 41)) (LargishR (w2.alloc (.cells (Re.cells x (.slice xo xk xc)) 41)) [x]) :=
      largeH_any _ [x] _ (RecsP.lit (ps := [(x, .slice xo xk xc)]) (Lies.new _ _ _) (fun q hq => by
        obtain rfl : q = (x, .slice xo xk xc) := by simpa using hq
        exact (HXI.out _ HB3.out).imp fun b _ t _ e _ => lt_of_obj e) (by simp)) (fun d hd => by
        obtain rfl : d = x := by simpa using hd
        exact HSX0.out)
    obtain ⟨d0, d1, d2, d3, d4, d5, d6, d7, d8, d9, d10, d11⟩ := Recs.all HL2.out
    go_wp2_with fail
    refine hl1.mono ?_
    rintro e w3 ⟨t, rfl, hb3, hsm⟩
    have HB4 : Hid (Below w.heap.size w w3) := HB3.out.trans (hb3.mono HB3.out.size)
    have HL3 := Lib.hid (HL2.out.below ((HB3.out : _) |> fun _ => ((Below.refl _ w2).alloc (Nat.le_refl _) _).trans (hb3.mono (by simp))) HL2.out.lt)
    have HSM2 := Lib.hid hsm
    clear hl1 hb3 hsm d0 d1 d2 d3 d4 d5 d6 d7 d8 d9 d10 d11
    cases t with
    | true =>
      go_wp2_with fail
      refine (awakeH_any w3 (HW.out.below HB4.out)).mono ?_
      rintro e w5 ⟨rfl, hb5⟩
      go_wp2
      go_ret
      exact truly_of (HB4.out.trans (hb5.mono HB4.out.size))
    | false =>
    have HSX : Hid (x.cmd.Short 140737488355328) := Short.up (Re.small ((HSM2.out rfl).2 x (by simp)).1).1 (by omega)
    have HSS2 : Hid (∀ d ∈ l ++ [x], d.cmd.Short 140737488355328) := fun d hd => by
      rcases List.mem_append.1 hd with hd | hd
      · exact HSS.out d hd
      · obtain rfl : d = x := by simpa using hd
        exact HSX.out
    obtain ⟨h, hh⟩ : ∃ h, h = Hd.of l := ⟨_, rfl⟩
    have HOFH : Hid (Hd.of l = h) := hh.symm
    obtain ⟨y, hy⟩ : ∃ y, y = Hd.apply h x := ⟨_, rfl⟩
    have HAPP : Hid (Hd.apply h x = y) := hy.symm
    have HOFY : Hid (Hd.of (l ++ [x]) = y) := by show _ = _; rw [Hd.of_snoc, HOFH.out, hy]
    have HVH : Hid (Hd.Valid h) := by rw [hh]; exact Hd.valid_of l
    have HVY : Hid (Hd.Valid y) := by rw [hy]; exact Hd.valid_apply HVH.out x
    have HPR : Hid (Bl.less y.prom h.prom = false) := by show _ = _; rw [hy]; exact Hd.prom_apply h x
    have HBA : Hid (h.base ≤ y.base) := by show _ ≤ _; rw [hy]; exact Hd.base_apply h x
    have HCH : Hid (∀ e ∈ h.chs, (y.base < e.index → e ∈ y.chs) ∧ ∀ a ∈ y.chs, a.index = e.index → a = e) := fun e he => by rw [hy]; exact Hd.chs_apply HVH.out x he
    have HBADEQ : Hid (Re.check x ≠ 0 → y = h) := fun hc => by rw [hy]; exact Hd.apply_bad hc
    have HLEN : Hid (h.acc.length ≤ 1000 ∧ h.chs.length ≤ 1000 ∧ y.chs.length ≤ 1001) := by
      have h1 := Hd.of_len l
      have h2 := Hd.apply_len (Hd.of l) x
      rw [hy, hh]
      have := HLL.out
      exact ⟨by omega, by omega, by omega⟩
    clear hh hy
    go_wp2_with fail
    refine (refOf_any v l w3 (ListP.imp (HV.out _ HB4.out) fun b _ t _ e _ => lt_of_obj e) HSS.out HLL.out).mono ?_
    rw [HOFH.out]
    rintro e w4 ⟨vi, va, vc, rfl, hr4, hb4⟩
    have HR4 := Lib.hid hr4
    have HB5 : Hid (Below w.heap.size w w4) := HB4.out.trans (hb4.mono HB4.out.size)
    have HL4 := Lib.hid (HL3.out.below hb4 HL3.out.lt)
    have HX4 : Hid (SixAt (w4.alloc (.cells (Hd.cells h vi va vc) 30)) w4.heap.size 30 h.prom h.base vi va vc) := ⟨Lies.new _ _ _, hr4.sl.1, hr4.sl.2.1, hr4.sl.2.2⟩
    clear hr4 hb4
    go_wp2_with (first
      | (refine store_hard (p := Bl.zero) (b := 0) (vi := Nil) (va := Nil) (vc := Nil) rfl _ _ rfl rfl ⟨Lies.new w4 30 _, ⟨_, _, _, rfl⟩, ⟨_, _, _, rfl⟩, ⟨_, _, _, rfl⟩⟩ HX4.out rfl ?_; intro w5 hx5 hg5; have HX5 := Lib.hid hx5; have HG5 : Hid (Below w4.heap.size w4 w5) := fresh_below hg5; have HL5 := Lib.hid (HL4.out.below HG5.out HL4.out.lt); clear hx5 hg5)
      | (refine load_hard rfl _ rfl rfl HX5.out ?_)
      | (refine load_rec rfl _ rfl w.heap.size x (.slice xo xk xc) rfl HL5.out ?_))
    have HB6 : Hid (Below w.heap.size w w5) := HB5.out.trans (HG5.out.mono HB5.out.size)
    have HR5 := Lib.hid (HR4.out.below HG5.out)
    refine (apply_any h vi va vc x (.slice xo xk xc) w5 (HW.out.below HB6.out) HR5.out HVH.out ⟨by have := HLEN.out; omega, by have := HLEN.out; omega⟩ (HXI.out _ HB6.out).1 HSX.out).mono ?_
    rw [HAPP.out]
    rintro e w6 ⟨yi, ya, yc, rfl, hr6, hb6⟩
    have HR6 := Lib.hid hr6
    have HB7 : Hid (Below w.heap.size w w6) := HB6.out.trans (hb6.mono HB6.out.size)
    have HL6 := Lib.hid (HL5.out.below hb6 HL5.out.lt)
    have HX6 := Lib.hid (HX5.out.below hb6 HX5.out.lies.lt)
    have HH6 := Lib.hid (HR5.out.below hb6)
    have HY6 : Hid (SixAt (w6.alloc (.cells (Hd.cells y yi ya yc) 30)) w6.heap.size 30 y.prom y.base yi ya yc) := ⟨Lies.new _ _ _, hr6.sl.1, hr6.sl.2.1, hr6.sl.2.2⟩
    clear hr6 hb6 HL5 HG5 HX4 HL4
    go_wp2_with (refine store_hard (p := Bl.zero) (b := 0) (vi := Nil) (va := Nil) (vc := Nil) rfl _ _ rfl rfl ⟨Lies.new w6 30 _, ⟨_, _, _, rfl⟩, ⟨_, _, _, rfl⟩, ⟨_, _, _, rfl⟩⟩ HY6.out rfl ?_; intro w8 hy8 hg8; have HY := Lib.hid hy8; have HG8 : Hid (Below w6.heap.size w6 w8) := fresh_below hg8; clear hy8 hg8)
    have HB8 : Hid (Below w.heap.size w w8) := HB7.out.trans (HG8.out.mono HB7.out.size)
    have HL := Lib.hid (HL6.out.below HG8.out HL6.out.lt)
    have HX := Lib.hid (HX6.out.below HG8.out HX6.out.lies.lt)
    have HRX := Lib.hid (HH6.out.below HG8.out)
    have HRY := Lib.hid (HR6.out.below HG8.out)
    obtain ⟨g6, hg6⟩ : ∃ g, g = w6.heap.size := ⟨_, rfl⟩
    obtain ⟨g5, hg5⟩ : ∃ g, g = w4.heap.size := ⟨_, rfl⟩
    obtain ⟨gr, hgr⟩ : ∃ g, g = w.heap.size := ⟨_, rfl⟩
    rw [← hg6] at HY ⊢
    rw [← hg5] at HX ⊢
    have hLr : Recs w8 gr x (.slice xo xk xc) := by rw [hgr]; exact HL.out
    clear HL
    have HL := Lib.hid hLr
    have HGR := Lib.hid hgr
    rw [← hgr]
    clear hg6 hg5 hgr hLr HX6 HY6 HL6 HG8 HH6 HR6 HX5 HR5 HR4
    go_simp
    have hba : decide (y.base < h.base) = false := decide_eq_false (by have := HBA.out; omega)
    apply told_once (B := fun W => Hid (Below w8.heap.size w8 W))
    rotate_left
    · intro REST
      refine wp_region_held_drew (S := fun W => SixAt W g6 30 y.prom y.base yi ya yc ∧ SixAt W g5 30 h.prom h.base vi va vc ∧ Recs W gr x (.slice xo xk xc)) (by kernel_rfl) (⟨HY.out.below (drawn w8 1) HY.out.lies.lt, HX.out.below (drawn w8 1) HX.out.lies.lt, HL.out.below (drawn w8 1) HL.out.lt⟩) (fun hHeld => ?_)
      refine wpAnyH_take (i := 0) (v := ?v0) rfl (by kernel_rfl) (by kernel_rfl) (by kernel_rfl) (fun _ _ _ h => h) (Or.inl ⟨by kernel_rfl, ?hy0⟩) hHeld ?rest0
      case hy0 => (intro W hSw; obtain ⟨sy, _, _⟩ := hSw; obtain ⟨s0, s1, s2, s3, s4, s5⟩ := sy.all; go_simp; (try with_reducible rfl))
      refine wpAnyH_take (i := 2) (v := ?v2) rfl (by kernel_rfl) (by kernel_rfl) (by kernel_rfl) (fun _ _ _ h => h) (Or.inl ⟨by kernel_rfl, ?hy2⟩) hHeld ?rest2
      case hy2 => (intro W hSw; go_simp; (try with_reducible rfl))
      refine wpAnyH_take (i := 4) (v := ?v4) rfl (by kernel_rfl) (by kernel_rfl) (by kernel_rfl) (fun _ _ _ h => h) (Or.inl ⟨by kernel_rfl, ?hy4⟩) hHeld ?rest4
      case hy4 => (intro W hSw; obtain ⟨_, _, sx⟩ := hSw; obtain ⟨q0, q1, q2, q3, q4, q5, q6, q7, q8, q9, q10, q11⟩ := Recs.all sx; go_simp; (try with_reducible rfl))
      refine wpAnyH_ready (rs := [1, 5]) (by kernel_rfl) (by simp) ?_
      refine AllReadyH.cons rfl (fun K hK => ?_) (AllReadyH.cons rfl (fun K hK => ?_) AllReadyH.nil)
      · rw [if_pos (by kernel_rfl)]
        go_simp
        have HB9 : Hid (Below w8.heap.size w8 (w8.drew.alloc (.cells #[] 41))) := (drawn w8 1).alloc (drawn w8 1).size _
        refine hK.out _ _ ⟨HY.out.below HB9.out HY.out.lies.lt, HX.out.below HB9.out HX.out.lies.lt, HL.out.below HB9.out HL.out.lt⟩ (fun hHeld => ?_)
        clear hK K
        have HO9 : Hid (RecsB w.heap.size (w8.drew.alloc (.cells #[] 41)) w8.heap.size (.slice (some ⟨w8.heap.size, 0, none⟩) 0 0) []) := RecsB.bare _ rfl
        refine wpAnyH_ready (rs := [3, 5]) (by kernel_rfl) (by simp) ?_
        have HWB3 : Hid (Below w.heap.size w (w8.drew.alloc (.cells #[] 41))) := HB8.out.trans (HB9.out.mono HB8.out.size)
        obtain ⟨v10, w10, hrun, ho10, hg10⟩ := ListO.app (P := Tryd.prog) (t := 22) 22 HO9.out (HV.out _ HWB3.out) cellR_ok Tryd.underlying22 info_rec rfl (by decide) HB9.out.size (by have := HLL.out; simp; omega) (by have := HLL.out; simp; omega) (fun g hg => by have := HB8.out.size; omega)
        rw [List.nil_append] at ho10
        have HO10 := Lib.hid ho10
        have HB10 : Hid (Below w8.heap.size w8 w10) := HB9.out.grown hg10 HB9.out.size (by intro j hj; cases hj; first | exact Nat.le_refl _ | exact Nat.le_succ _)
        clear ho10 hg10
        refine AllReadyH.cons rfl (fun K hK => ?_) (AllReadyH.cons rfl (fun K hK => ?_) AllReadyH.nil)
        · rw [if_pos (by kernel_rfl)]
          refine op_append (.tmp 23) (.tmp 24) 22 rfl (.slice (some ⟨w8.heap.size, 0, none⟩) 0 0) v v10 (by kernel_rfl) (by kernel_rfl) hrun ?_
          refine hK.out _ _ ⟨HY.out.below HB10.out HY.out.lies.lt, HX.out.below HB10.out HX.out.lies.lt, HL.out.below HB10.out HL.out.lt⟩ (fun hHeld => ?_)
          clear hK K
          clear hrun
          have HB11 : Hid (Below w8.heap.size w8 (w10.alloc (.cells (Re.cells x (.slice xo xk xc)) 41))) := HB10.out.alloc HB10.out.size _
          refine wpAnyH_ready (rs := [5]) (by kernel_rfl) (by simp) ?_
          refine AllReadyH.cons rfl (fun K hK => ?_) AllReadyH.nil
          rw [if_pos (by kernel_rfl)]
          go_simp
          refine hK.out _ _ ⟨HY.out.below HB11.out HY.out.lies.lt, HX.out.below HB11.out HX.out.lies.lt, HL.out.below HB11.out HL.out.lt⟩ (fun hHeld => ?_)
          clear hK K
          have HWB6 : Hid (Below w.heap.size w (w10.alloc (.cells (Re.cells x (.slice xo xk xc)) 41))) := HB8.out.trans (HB11.out.mono HB8.out.size)
          obtain ⟨v12, w12, hrun, ho12, hg12, _⟩ := ListO.snoc (P := Tryd.prog) (t := 22) 22 (ListO.below HO10.out ((Below.refl _ w10).alloc (Nat.le_refl _) _)) cellR_ok Tryd.underlying22 info_rec rfl (by decide) HB11.out.size x (.slice xo xk xc) (Lies.new w10 _ _) (HXI.out _ HWB6.out) (by have := HLL.out; omega) (by have := HLL.out; omega) (fun g hg => by have := HB8.out.size; omega)
          have HO12 : Hid (RecsB w.heap.size w12 w8.heap.size v12 (l ++ [x])) := ho12
          have HB12 : Hid (Below w8.heap.size w8 w12) := HB11.out.grown hg12 HB11.out.size (fun g e => by obtain ⟨_, _, h2⟩ := ListO.blocks HO10.out e; exact h2)
          clear ho12 hg12
          refine wpAnyH_ready (rs := [6]) (by kernel_rfl) (by simp) ?_
          refine ready_append 6 (.tmp 25) (.tmp 27) 22 rfl rfl rfl v10 (.slice (some ⟨w10.heap.size, 0, none⟩) 1 1) v12 w12 ?s6a ?x6a hrun ⟨⟨HY.out.below HB12.out HY.out.lies.lt, HX.out.below HB12.out HX.out.lies.lt, HL.out.below HB12.out HL.out.lt⟩, fun hHeld => ?_⟩
          case s6a => kernel_rfl
          case x6a => kernel_rfl
          clear hrun
          refine wpAnyH_ready (rs := [7]) (by kernel_rfl) (by simp) ?_
          refine AllReadyH.cons rfl (fun K hK => ?_) AllReadyH.nil
          rw [if_pos (by kernel_rfl)]
          go_simp
          go_at_call 10
          refine (refOf_any v12 (l ++ [x]) w12 (RecsB.reads HO12.out) HSS2.out (by have := HLL9.out; simp; omega)).mono ?_
          rw [HOFY.out]
          rintro e w13 ⟨ui13, ua13, uc13, rfl, hr13, hb13⟩
          have HB13 : Hid (Below w8.heap.size w8 w13) := HB12.out.trans (hb13.mono HB12.out.size)
          have HG13 := Lib.hid hr13
          clear hr13 hb13
          dsimp only
          refine hK.out _ _ ⟨HY.out.below HB13.out HY.out.lies.lt, HX.out.below HB13.out HX.out.lies.lt, HL.out.below HB13.out HL.out.lt⟩ (fun hHeld => ?_)
          clear hK K
          refine wpAnyH_ready (rs := [8]) (by kernel_rfl) (by simp) ?_
          refine AllReadyH.cons rfl (fun K hK => ?_) AllReadyH.nil
          rw [if_pos (by kernel_rfl)]
          go_simp
          go_at_call 9
          refine (sameH_any y y yi ya yc ui13 ua13 uc13 w13 (HRY.out.below HB13.out) HG13.out).mono ?_
          rw [show decide (y = y) = true by simp]
          rintro e w14 ⟨rfl, hb14⟩
          have HB14 : Hid (Below w8.heap.size w8 w14) := HB13.out.trans (hb14.mono HB13.out.size)
          clear hb14
          dsimp only
          refine hK.out _ _ ⟨HY.out.below HB14.out HY.out.lies.lt, HX.out.below HB14.out HX.out.lies.lt, HL.out.below HB14.out HL.out.lt⟩ (fun hHeld => ?_)
          clear hK K
          refine wpAnyH_take (i := 9) (v := ?v9a) rfl (by kernel_rfl) (by kernel_rfl) (by kernel_rfl) (fun _ _ _ h => h) (Or.inl ⟨by kernel_rfl, ?hy9a⟩) hHeld ?rest9a
          case hy9a => (intro W hSw; go_simp; (try with_reducible rfl))
          refine wpAnyH_take (i := 10) (v := ?v10a) rfl (by kernel_rfl) (by kernel_rfl) (by kernel_rfl) (fun _ _ _ h => h) (Or.inl ⟨by kernel_rfl, ?hy10a⟩) hHeld ?rest10a
          case hy10a => (intro W hSw; go_simp; (try with_reducible rfl))
          refine wpAnyH_take (i := 11) (v := ?v11a) rfl (by kernel_rfl) (by kernel_rfl) (by kernel_rfl) (fun _ _ _ h => h) (Or.inl ⟨by kernel_rfl, ?hy11a⟩) hHeld ?rest11a
          case hy11a => (intro W hSw; obtain ⟨_, sh, _⟩ := hSw; obtain ⟨s0, s1, s2, s3, s4, s5⟩ := sh.all; go_simp; (try with_reducible rfl))
          refine wpAnyH_take (i := 12) (v := ?v12a) rfl (by kernel_rfl) (by kernel_rfl) (by kernel_rfl) (fun _ _ _ h => h) (Or.inl ⟨by kernel_rfl, ?hy12a⟩) hHeld ?rest12a
          case hy12a => (intro W hSw; go_simp; (try with_reducible rfl))
          refine wpAnyH_ready (rs := [13]) (by kernel_rfl) (by simp) ?_
          refine AllReadyH.cons rfl (fun K hK => ?_) AllReadyH.nil
          rw [if_pos (by kernel_rfl)]
          go_simp
          go_at_call 10
          refine (refOf_any v l w14 (HV.out _ (HB8.out.trans (HB14.out.mono HB8.out.size))) HSS.out HLL.out).mono ?_
          rw [HOFH.out]
          rintro e w15 ⟨ui15, ua15, uc15, rfl, hr15, hb15⟩
          have HB15 : Hid (Below w8.heap.size w8 w15) := HB14.out.trans (hb15.mono HB14.out.size)
          have HG15 := Lib.hid hr15
          clear hr15 hb15
          dsimp only
          refine hK.out _ _ ⟨HY.out.below HB15.out HY.out.lies.lt, HX.out.below HB15.out HX.out.lies.lt, HL.out.below HB15.out HL.out.lt⟩ (fun hHeld => ?_)
          clear hK K
          refine wpAnyH_ready (rs := [14]) (by kernel_rfl) (by simp) ?_
          refine AllReadyH.cons rfl (fun K hK => ?_) AllReadyH.nil
          rw [if_pos (by kernel_rfl)]
          go_simp
          go_at_call 9
          refine (sameH_any h h vi va vc ui15 ua15 uc15 w15 (HRX.out.below HB15.out) HG15.out).mono ?_
          rw [show decide (h = h) = true by simp]
          rintro e w16 ⟨rfl, hb16⟩
          have HB16 : Hid (Below w8.heap.size w8 w16) := HB15.out.trans (hb16.mono HB15.out.size)
          clear hb16
          dsimp only
          refine hK.out _ _ ⟨HY.out.below HB16.out HY.out.lies.lt, HX.out.below HB16.out HX.out.lies.lt, HL.out.below HB16.out HL.out.lt⟩ (fun hHeld => ?_)
          clear hK K
          refine wpAnyH_take (i := 15) (v := ?v15a) rfl (by kernel_rfl) (by kernel_rfl) (by kernel_rfl) (fun _ _ _ h => h) (Or.inl ⟨by kernel_rfl, ?hy15a⟩) hHeld ?rest15a
          case hy15a => (intro W hSw; go_simp; (try with_reducible rfl))
          refine wpAnyH_take (i := 16) (v := ?v16a) rfl (by kernel_rfl) (by kernel_rfl) (by kernel_rfl) (fun _ _ _ h => h) (Or.inl ⟨by kernel_rfl, ?hy16a⟩) hHeld ?rest16a
          case hy16a => (intro W hSw; go_simp; (try with_reducible rfl))
          refine wpAnyH_take (i := 17) (v := ?v17a) rfl (by kernel_rfl) (by kernel_rfl) (by kernel_rfl) (fun _ _ _ h => h) (Or.inl ⟨by kernel_rfl, ?hy17a⟩) hHeld ?rest17a
          case hy17a => (intro W hSw; go_simp; (try with_reducible rfl))
          refine wpAnyH_take (i := 18) (v := ?v18a) rfl (by kernel_rfl) (by kernel_rfl) (by kernel_rfl) (fun _ _ _ h => h) (Or.inl ⟨by kernel_rfl, ?hy18a⟩) hHeld ?rest18a
          case hy18a => (intro W hSw; go_simp; (try with_reducible rfl))
          refine wpAnyH_take (i := 19) (v := ?v19a) rfl (by kernel_rfl) (by kernel_rfl) (by kernel_rfl) (fun _ _ _ h => h) (Or.inl ⟨by kernel_rfl, ?hy19a⟩) hHeld ?rest19a
          case hy19a => (intro W hSw; obtain ⟨sy, _, _⟩ := hSw; obtain ⟨s0, s1, s2, s3, s4, s5⟩ := sy.all; go_simp; (try with_reducible rfl))
          refine wpAnyH_take (i := 20) (v := ?v20a) rfl (by kernel_rfl) (by kernel_rfl) (by kernel_rfl) (fun _ _ _ h => h) (Or.inl ⟨by kernel_rfl, ?hy20a⟩) hHeld ?rest20a
          case hy20a => (intro W hSw; go_simp; (try with_reducible rfl))
          refine wpAnyH_take (i := 21) (v := ?v21a) rfl (by kernel_rfl) (by kernel_rfl) (by kernel_rfl) (fun _ _ _ h => h) (Or.inl ⟨by kernel_rfl, ?hy21a⟩) hHeld ?rest21a
          case hy21a => (intro W hSw; obtain ⟨_, sh, _⟩ := hSw; obtain ⟨s0, s1, s2, s3, s4, s5⟩ := sh.all; go_simp; (try with_reducible rfl))
          refine wpAnyH_ready (rs := [22]) (by kernel_rfl) (by simp) ?_
          refine AllReadyH.cons rfl (fun K hK => ?_) AllReadyH.nil
          rw [if_pos (by kernel_rfl)]
          go_simp
          go_at_call 18
          refine (brefLess_any y.prom h.prom w16).mono ?_
          rw [HPR.out]
          rintro e w17 ⟨rfl, hb17⟩
          have HB17 : Hid (Below w8.heap.size w8 w17) := HB16.out.trans (hb17.mono HB16.out.size)
          clear hb17
          dsimp only
          refine hK.out _ _ ⟨HY.out.below HB17.out HY.out.lies.lt, HX.out.below HB17.out HX.out.lies.lt, HL.out.below HB17.out HL.out.lt⟩ (fun hHeld => ?_)
          clear hK K
          refine wpAnyH_take (i := 23) (v := ?v23a) rfl (by kernel_rfl) (by kernel_rfl) (by kernel_rfl) (fun _ _ _ h => h) (Or.inl ⟨by kernel_rfl, ?hy23a⟩) hHeld ?rest23a
          case hy23a => (intro W hSw; go_simp; (try with_reducible rfl))
          refine wpAnyH_take (i := 24) (v := ?v24a) rfl (by kernel_rfl) (by kernel_rfl) (by kernel_rfl) (fun _ _ _ h => h) (Or.inl ⟨by kernel_rfl, ?hy24a⟩) hHeld ?rest24a
          case hy24a => (intro W hSw; go_simp; (try with_reducible rfl))
          refine wpAnyH_take (i := 25) (v := ?v25a) rfl (by kernel_rfl) (by kernel_rfl) (by kernel_rfl) (fun _ _ _ h => h) (Or.inl ⟨by kernel_rfl, ?hy25a⟩) hHeld ?rest25a
          case hy25a => (intro W hSw; go_simp; (try with_reducible rfl))
          refine wpAnyH_take (i := 26) (v := ?v26a) rfl (by kernel_rfl) (by kernel_rfl) (by kernel_rfl) (fun _ _ _ h => h) (Or.inl ⟨by kernel_rfl, ?hy26a⟩) hHeld ?rest26a
          case hy26a => (intro W hSw; obtain ⟨sy, _, _⟩ := hSw; obtain ⟨s0, s1, s2, s3, s4, s5⟩ := sy.all; go_simp; (try with_reducible rfl))
          refine wpAnyH_take (i := 27) (v := ?v27a) rfl (by kernel_rfl) (by kernel_rfl) (by kernel_rfl) (fun _ _ _ h => h) (Or.inl ⟨by kernel_rfl, ?hy27a⟩) hHeld ?rest27a
          case hy27a => (intro W hSw; go_simp; (try with_reducible rfl))
          refine wpAnyH_take (i := 28) (v := ?v28a) rfl (by kernel_rfl) (by kernel_rfl) (by kernel_rfl) (fun _ _ _ h => h) (Or.inl ⟨by kernel_rfl, ?hy28a⟩) hHeld ?rest28a
          case hy28a => (intro W hSw; obtain ⟨_, sh, _⟩ := hSw; obtain ⟨s0, s1, s2, s3, s4, s5⟩ := sh.all; go_simp; (try with_reducible rfl))
          refine wpAnyH_take (i := 29) (v := ?v29a) rfl (by kernel_rfl) (by kernel_rfl) (by kernel_rfl) (fun _ _ _ h => h) (Or.inl ⟨by kernel_rfl, ?hy29a⟩) hHeld ?rest29a
          case hy29a => (intro W hSw; go_simp; (try with_reducible rfl))
          refine wpAnyH_take (i := 30) (v := ?v30a) rfl (by kernel_rfl) (by kernel_rfl) (by kernel_rfl) (fun _ _ _ h => h) (Or.inl ⟨by kernel_rfl, ?hy30a⟩) hHeld ?rest30a
          case hy30a => (intro W hSw; go_simp; (try with_reducible rfl))
          refine wpAnyH_done (by kernel_rfl) ?_ _
          clear hHeld
          go_simp
          generalize (Value.slice (some ⟨w8.heap.size, 0, none⟩) 0 0) = z23
          generalize (Value.slice (some ⟨w10.heap.size, 0, none⟩) 1 1) = z27
          generalize (Value.agg (Hd.cells y ui13 ua13 uc13)) = z29
          generalize (Value.agg (Hd.cells h ui15 ua15 uc15)) = z35
          exact REST z23 v10 z27 v12 z29 z35 w17 HB17
        · clear HO10 HB10 hrun
          rw [if_pos (by kernel_rfl)]
          go_simp
          have HB11 : Hid (Below w8.heap.size w8 ((w8.drew.alloc (.cells #[] 41)).alloc (.cells (Re.cells x (.slice xo xk xc)) 41))) := HB9.out.alloc HB9.out.size _
          refine hK.out _ _ ⟨HY.out.below HB11.out HY.out.lies.lt, HX.out.below HB11.out HX.out.lies.lt, HL.out.below HB11.out HL.out.lt⟩ (fun hHeld => ?_)
          clear hK K
          have HWB3 : Hid (Below w.heap.size w ((w8.drew.alloc (.cells #[] 41)).alloc (.cells (Re.cells x (.slice xo xk xc)) 41))) := HB8.out.trans (HB11.out.mono HB8.out.size)
          obtain ⟨v10, w10, hrun, ho10, hg10⟩ := ListO.app (P := Tryd.prog) (t := 22) 22 (ListO.below HO9.out ((Below.refl _ (w8.drew.alloc (.cells #[] 41))).alloc (Nat.le_refl _) _)) (HV.out _ HWB3.out) cellR_ok Tryd.underlying22 info_rec rfl (by decide) HB11.out.size (by have := HLL.out; simp; omega) (by have := HLL.out; simp; omega) (fun g hg => by have := HB8.out.size; omega)
          rw [List.nil_append] at ho10
          have HO10 := Lib.hid ho10
          have HB10 : Hid (Below w8.heap.size w8 w10) := HB11.out.grown hg10 HB11.out.size (by intro j hj; cases hj; first | exact Nat.le_refl _ | exact Nat.le_succ _)
          have HRC := Lib.hid ((show Recs ((w8.drew.alloc (.cells #[] 41)).alloc (.cells (Re.cells x (.slice xo xk xc)) 41)) (w8.heap.size + 1) x (.slice xo xk xc) from lies_next (w8.drew.alloc (.cells #[] 41)) (by simp) _ _).kept hg10 (by simp [Value.ownBlock]))
          clear ho10 hg10
          refine wpAnyH_ready (rs := [3]) (by kernel_rfl) (by simp) ?_
          refine ready_append 3 (.tmp 23) (.tmp 24) 22 rfl rfl rfl (.slice (some ⟨w8.heap.size, 0, none⟩) 0 0) v v10 w10 ?s3b ?x3b hrun ⟨⟨HY.out.below HB10.out HY.out.lies.lt, HX.out.below HB10.out HX.out.lies.lt, HL.out.below HB10.out HL.out.lt⟩, fun hHeld => ?_⟩
          case s3b => kernel_rfl
          case x3b => kernel_rfl
          clear hrun
          have HWB6 : Hid (Below w.heap.size w w10) := HB8.out.trans (HB10.out.mono HB8.out.size)
          obtain ⟨v12, w12, hrun, ho12, hg12, _⟩ := ListO.snoc (P := Tryd.prog) (t := 22) 22 HO10.out cellR_ok Tryd.underlying22 info_rec rfl (by decide) HB10.out.size x (.slice xo xk xc) HRC.out (HXI.out _ HWB6.out) (by have := HLL.out; omega) (by have := HLL.out; omega) (fun g hg => by have := HB8.out.size; omega)
          have HO12 : Hid (RecsB w.heap.size w12 w8.heap.size v12 (l ++ [x])) := ho12
          have HB12 : Hid (Below w8.heap.size w8 w12) := HB10.out.grown hg12 HB10.out.size (fun g e => by obtain ⟨_, _, h2⟩ := ListO.blocks HO10.out e; exact h2)
          clear ho12 hg12
          refine wpAnyH_ready (rs := [6]) (by kernel_rfl) (by simp) ?_
          refine ready_append 6 (.tmp 25) (.tmp 27) 22 rfl rfl rfl v10 (.slice (some ⟨w8.heap.size + 1, 0, none⟩) 1 1) v12 w12 ?s6b ?x6b hrun ⟨⟨HY.out.below HB12.out HY.out.lies.lt, HX.out.below HB12.out HX.out.lies.lt, HL.out.below HB12.out HL.out.lt⟩, fun hHeld => ?_⟩
          case s6b => kernel_rfl
          case x6b => kernel_rfl
          clear hrun
          refine wpAnyH_ready (rs := [7]) (by kernel_rfl) (by simp) ?_
          refine AllReadyH.cons rfl (fun K hK => ?_) AllReadyH.nil
          rw [if_pos (by kernel_rfl)]
          go_simp
          go_at_call 10
          refine (refOf_any v12 (l ++ [x]) w12 (RecsB.reads HO12.out) HSS2.out (by have := HLL9.out; simp; omega)).mono ?_
          rw [HOFY.out]
          rintro e w13 ⟨ui13, ua13, uc13, rfl, hr13, hb13⟩
          have HB13 : Hid (Below w8.heap.size w8 w13) := HB12.out.trans (hb13.mono HB12.out.size)
          have HG13 := Lib.hid hr13
          clear hr13 hb13
          dsimp only
          refine hK.out _ _ ⟨HY.out.below HB13.out HY.out.lies.lt, HX.out.below HB13.out HX.out.lies.lt, HL.out.below HB13.out HL.out.lt⟩ (fun hHeld => ?_)
          clear hK K
          refine wpAnyH_ready (rs := [8]) (by kernel_rfl) (by simp) ?_
          refine AllReadyH.cons rfl (fun K hK => ?_) AllReadyH.nil
          rw [if_pos (by kernel_rfl)]
          go_simp
          go_at_call 9
          refine (sameH_any y y yi ya yc ui13 ua13 uc13 w13 (HRY.out.below HB13.out) HG13.out).mono ?_
          rw [show decide (y = y) = true by simp]
          rintro e w14 ⟨rfl, hb14⟩
          have HB14 : Hid (Below w8.heap.size w8 w14) := HB13.out.trans (hb14.mono HB13.out.size)
          clear hb14
          dsimp only
          refine hK.out _ _ ⟨HY.out.below HB14.out HY.out.lies.lt, HX.out.below HB14.out HX.out.lies.lt, HL.out.below HB14.out HL.out.lt⟩ (fun hHeld => ?_)
          clear hK K
          refine wpAnyH_take (i := 9) (v := ?v9b) rfl (by kernel_rfl) (by kernel_rfl) (by kernel_rfl) (fun _ _ _ h => h) (Or.inl ⟨by kernel_rfl, ?hy9b⟩) hHeld ?rest9b
          case hy9b => (intro W hSw; go_simp; (try with_reducible rfl))
          refine wpAnyH_take (i := 10) (v := ?v10b) rfl (by kernel_rfl) (by kernel_rfl) (by kernel_rfl) (fun _ _ _ h => h) (Or.inl ⟨by kernel_rfl, ?hy10b⟩) hHeld ?rest10b
          case hy10b => (intro W hSw; go_simp; (try with_reducible rfl))
          refine wpAnyH_take (i := 11) (v := ?v11b) rfl (by kernel_rfl) (by kernel_rfl) (by kernel_rfl) (fun _ _ _ h => h) (Or.inl ⟨by kernel_rfl, ?hy11b⟩) hHeld ?rest11b
          case hy11b => (intro W hSw; obtain ⟨_, sh, _⟩ := hSw; obtain ⟨s0, s1, s2, s3, s4, s5⟩ := sh.all; go_simp; (try with_reducible rfl))
          refine wpAnyH_take (i := 12) (v := ?v12b) rfl (by kernel_rfl) (by kernel_rfl) (by kernel_rfl) (fun _ _ _ h => h) (Or.inl ⟨by kernel_rfl, ?hy12b⟩) hHeld ?rest12b
          case hy12b => (intro W hSw; go_simp; (try with_reducible rfl))
          refine wpAnyH_ready (rs := [13]) (by kernel_rfl) (by simp) ?_
          refine AllReadyH.cons rfl (fun K hK => ?_) AllReadyH.nil
          rw [if_pos (by kernel_rfl)]
          go_simp
          go_at_call 10
          refine (refOf_any v l w14 (HV.out _ (HB8.out.trans (HB14.out.mono HB8.out.size))) HSS.out HLL.out).mono ?_
          rw [HOFH.out]
          rintro e w15 ⟨ui15, ua15, uc15, rfl, hr15, hb15⟩
          have HB15 : Hid (Below w8.heap.size w8 w15) := HB14.out.trans (hb15.mono HB14.out.size)
          have HG15 := Lib.hid hr15
          clear hr15 hb15
          dsimp only
          refine hK.out _ _ ⟨HY.out.below HB15.out HY.out.lies.lt, HX.out.below HB15.out HX.out.lies.lt, HL.out.below HB15.out HL.out.lt⟩ (fun hHeld => ?_)
          clear hK K
          refine wpAnyH_ready (rs := [14]) (by kernel_rfl) (by simp) ?_
          refine AllReadyH.cons rfl (fun K hK => ?_) AllReadyH.nil
          rw [if_pos (by kernel_rfl)]
          go_simp
          go_at_call 9
          refine (sameH_any h h vi va vc ui15 ua15 uc15 w15 (HRX.out.below HB15.out) HG15.out).mono ?_
          rw [show decide (h = h) = true by simp]
          rintro e w16 ⟨rfl, hb16⟩
          have HB16 : Hid (Below w8.heap.size w8 w16) := HB15.out.trans (hb16.mono HB15.out.size)
          clear hb16
          dsimp only
          refine hK.out _ _ ⟨HY.out.below HB16.out HY.out.lies.lt, HX.out.below HB16.out HX.out.lies.lt, HL.out.below HB16.out HL.out.lt⟩ (fun hHeld => ?_)
          clear hK K
          refine wpAnyH_take (i := 15) (v := ?v15b) rfl (by kernel_rfl) (by kernel_rfl) (by kernel_rfl) (fun _ _ _ h => h) (Or.inl ⟨by kernel_rfl, ?hy15b⟩) hHeld ?rest15b
          case hy15b => (intro W hSw; go_simp; (try with_reducible rfl))
          refine wpAnyH_take (i := 16) (v := ?v16b) rfl (by kernel_rfl) (by kernel_rfl) (by kernel_rfl) (fun _ _ _ h => h) (Or.inl ⟨by kernel_rfl, ?hy16b⟩) hHeld ?rest16b
          case hy16b => (intro W hSw; go_simp; (try with_reducible rfl))
          refine wpAnyH_take (i := 17) (v := ?v17b) rfl (by kernel_rfl) (by kernel_rfl) (by kernel_rfl) (fun _ _ _ h => h) (Or.inl ⟨by kernel_rfl, ?hy17b⟩) hHeld ?rest17b
          case hy17b => (intro W hSw; go_simp; (try with_reducible rfl))
          refine wpAnyH_take (i := 18) (v := ?v18b) rfl (by kernel_rfl) (by kernel_rfl) (by kernel_rfl) (fun _ _ _ h => h) (Or.inl ⟨by kernel_rfl, ?hy18b⟩) hHeld ?rest18b
          case hy18b => (intro W hSw; go_simp; (try with_reducible rfl))
          refine wpAnyH_take (i := 19) (v := ?v19b) rfl (by kernel_rfl) (by kernel_rfl) (by kernel_rfl) (fun _ _ _ h => h) (Or.inl ⟨by kernel_rfl, ?hy19b⟩) hHeld ?rest19b
          case hy19b => (intro W hSw; obtain ⟨sy, _, _⟩ := hSw; obtain ⟨s0, s1, s2, s3, s4, s5⟩ := sy.all; go_simp; (try with_reducible rfl))
          refine wpAnyH_take (i := 20) (v := ?v20b) rfl (by kernel_rfl) (by kernel_rfl) (by kernel_rfl) (fun _ _ _ h => h) (Or.inl ⟨by kernel_rfl, ?hy20b⟩) hHeld ?rest20b
          case hy20b => (intro W hSw; go_simp; (try with_reducible rfl))
          refine wpAnyH_take (i := 21) (v := ?v21b) rfl (by kernel_rfl) (by kernel_rfl) (by kernel_rfl) (fun _ _ _ h => h) (Or.inl ⟨by kernel_rfl, ?hy21b⟩) hHeld ?rest21b
          case hy21b => (intro W hSw; obtain ⟨_, sh, _⟩ := hSw; obtain ⟨s0, s1, s2, s3, s4, s5⟩ := sh.all; go_simp; (try with_reducible rfl))
          refine wpAnyH_ready (rs := [22]) (by kernel_rfl) (by simp) ?_
          refine AllReadyH.cons rfl (fun K hK => ?_) AllReadyH.nil
          rw [if_pos (by kernel_rfl)]
          go_simp
          go_at_call 18
          refine (brefLess_any y.prom h.prom w16).mono ?_
          rw [HPR.out]
          rintro e w17 ⟨rfl, hb17⟩
          have HB17 : Hid (Below w8.heap.size w8 w17) := HB16.out.trans (hb17.mono HB16.out.size)
          clear hb17
          dsimp only
          refine hK.out _ _ ⟨HY.out.below HB17.out HY.out.lies.lt, HX.out.below HB17.out HX.out.lies.lt, HL.out.below HB17.out HL.out.lt⟩ (fun hHeld => ?_)
          clear hK K
          refine wpAnyH_take (i := 23) (v := ?v23b) rfl (by kernel_rfl) (by kernel_rfl) (by kernel_rfl) (fun _ _ _ h => h) (Or.inl ⟨by kernel_rfl, ?hy23b⟩) hHeld ?rest23b
          case hy23b => (intro W hSw; go_simp; (try with_reducible rfl))
          refine wpAnyH_take (i := 24) (v := ?v24b) rfl (by kernel_rfl) (by kernel_rfl) (by kernel_rfl) (fun _ _ _ h => h) (Or.inl ⟨by kernel_rfl, ?hy24b⟩) hHeld ?rest24b
          case hy24b => (intro W hSw; go_simp; (try with_reducible rfl))
          refine wpAnyH_take (i := 25) (v := ?v25b) rfl (by kernel_rfl) (by kernel_rfl) (by kernel_rfl) (fun _ _ _ h => h) (Or.inl ⟨by kernel_rfl, ?hy25b⟩) hHeld ?rest25b
          case hy25b => (intro W hSw; go_simp; (try with_reducible rfl))
          refine wpAnyH_take (i := 26) (v := ?v26b) rfl (by kernel_rfl) (by kernel_rfl) (by kernel_rfl) (fun _ _ _ h => h) (Or.inl ⟨by kernel_rfl, ?hy26b⟩) hHeld ?rest26b
          case hy26b => (intro W hSw; obtain ⟨sy, _, _⟩ := hSw; obtain ⟨s0, s1, s2, s3, s4, s5⟩ := sy.all; go_simp; (try with_reducible rfl))
          refine wpAnyH_take (i := 27) (v := ?v27b) rfl (by kernel_rfl) (by kernel_rfl) (by kernel_rfl) (fun _ _ _ h => h) (Or.inl ⟨by kernel_rfl, ?hy27b⟩) hHeld ?rest27b
          case hy27b => (intro W hSw; go_simp; (try with_reducible rfl))
          refine wpAnyH_take (i := 28) (v := ?v28b) rfl (by kernel_rfl) (by kernel_rfl) (by kernel_rfl) (fun _ _ _ h => h) (Or.inl ⟨by kernel_rfl, ?hy28b⟩) hHeld ?rest28b
          case hy28b => (intro W hSw; obtain ⟨_, sh, _⟩ := hSw; obtain ⟨s0, s1, s2, s3, s4, s5⟩ := sh.all; go_simp; (try with_reducible rfl))
          refine wpAnyH_take (i := 29) (v := ?v29b) rfl (by kernel_rfl) (by kernel_rfl) (by kernel_rfl) (fun _ _ _ h => h) (Or.inl ⟨by kernel_rfl, ?hy29b⟩) hHeld ?rest29b
          case hy29b => (intro W hSw; go_simp; (try with_reducible rfl))
          refine wpAnyH_take (i := 30) (v := ?v30b) rfl (by kernel_rfl) (by kernel_rfl) (by kernel_rfl) (fun _ _ _ h => h) (Or.inl ⟨by kernel_rfl, ?hy30b⟩) hHeld ?rest30b
          case hy30b => (intro W hSw; go_simp; (try with_reducible rfl))
          refine wpAnyH_done (by kernel_rfl) ?_ _
          clear hHeld
          go_simp
          generalize (Value.slice (some ⟨w8.heap.size, 0, none⟩) 0 0) = z23
          generalize (Value.slice (some ⟨w8.heap.size + 1, 0, none⟩) 1 1) = z27
          generalize (Value.agg (Hd.cells y ui13 ua13 uc13)) = z29
          generalize (Value.agg (Hd.cells h ui15 ua15 uc15)) = z35
          exact REST z23 v10 z27 v12 z29 z35 w17 HB17
      · rw [if_pos (by kernel_rfl)]
        go_simp
        have HB9 : Hid (Below w8.heap.size w8 (w8.drew.alloc (.cells (Re.cells x (.slice xo xk xc)) 41))) := (drawn w8 1).alloc (drawn w8 1).size _
        refine hK.out _ _ ⟨HY.out.below HB9.out HY.out.lies.lt, HX.out.below HB9.out HX.out.lies.lt, HL.out.below HB9.out HL.out.lt⟩ (fun hHeld => ?_)
        clear hK K
        have HB11 : Hid (Below w8.heap.size w8 ((w8.drew.alloc (.cells (Re.cells x (.slice xo xk xc)) 41)).alloc (.cells #[] 41))) := HB9.out.alloc HB9.out.size _
        refine wpAnyH_ready (rs := [1]) (by kernel_rfl) (by simp) ?_
        refine AllReadyH.cons rfl (fun K hK => ?_) AllReadyH.nil
        rw [if_pos (by kernel_rfl)]
        go_simp
        refine hK.out _ _ ⟨HY.out.below HB11.out HY.out.lies.lt, HX.out.below HB11.out HX.out.lies.lt, HL.out.below HB11.out HL.out.lt⟩ (fun hHeld => ?_)
        clear hK K
        have HO9 : Hid (RecsB w.heap.size ((w8.drew.alloc (.cells (Re.cells x (.slice xo xk xc)) 41)).alloc (.cells #[] 41)) w8.heap.size (.slice (some ⟨w8.heap.size + 1, 0, none⟩) 0 0) []) := RecsB.new (w8.drew.alloc (.cells (Re.cells x (.slice xo xk xc)) 41)) (w8.heap.size + 1) (by simp) (Nat.le_succ _)
        have HWB3 : Hid (Below w.heap.size w ((w8.drew.alloc (.cells (Re.cells x (.slice xo xk xc)) 41)).alloc (.cells #[] 41))) := HB8.out.trans (HB11.out.mono HB8.out.size)
        obtain ⟨v10, w10, hrun, ho10, hg10⟩ := ListO.app (P := Tryd.prog) (t := 22) 22 HO9.out (HV.out _ HWB3.out) cellR_ok Tryd.underlying22 info_rec rfl (by decide) HB11.out.size (by have := HLL.out; simp; omega) (by have := HLL.out; simp; omega) (fun g hg => by have := HB8.out.size; omega)
        rw [List.nil_append] at ho10
        have HO10 := Lib.hid ho10
        have HB10 : Hid (Below w8.heap.size w8 w10) := HB11.out.grown hg10 HB11.out.size (by intro j hj; cases hj; first | exact Nat.le_refl _ | exact Nat.le_succ _)
        have HRC := Lib.hid (((show Recs (w8.drew.alloc (.cells (Re.cells x (.slice xo xk xc)) 41)) w8.heap.size x (.slice xo xk xc) from Lies.new w8.drew _ _).alloc (.cells #[] 41)).kept hg10 (by simp [Value.ownBlock]))
        clear ho10 hg10
        refine wpAnyH_ready (rs := [3]) (by kernel_rfl) (by simp) ?_
        refine ready_append 3 (.tmp 23) (.tmp 24) 22 rfl rfl rfl (.slice (some ⟨w8.heap.size + 1, 0, none⟩) 0 0) v v10 w10 ?s3c ?x3c hrun ⟨⟨HY.out.below HB10.out HY.out.lies.lt, HX.out.below HB10.out HX.out.lies.lt, HL.out.below HB10.out HL.out.lt⟩, fun hHeld => ?_⟩
        case s3c => kernel_rfl
        case x3c => kernel_rfl
        clear hrun
        have HWB6 : Hid (Below w.heap.size w w10) := HB8.out.trans (HB10.out.mono HB8.out.size)
        obtain ⟨v12, w12, hrun, ho12, hg12, _⟩ := ListO.snoc (P := Tryd.prog) (t := 22) 22 HO10.out cellR_ok Tryd.underlying22 info_rec rfl (by decide) HB10.out.size x (.slice xo xk xc) HRC.out (HXI.out _ HWB6.out) (by have := HLL.out; omega) (by have := HLL.out; omega) (fun g hg => by have := HB8.out.size; omega)
        have HO12 : Hid (RecsB w.heap.size w12 w8.heap.size v12 (l ++ [x])) := ho12
        have HB12 : Hid (Below w8.heap.size w8 w12) := HB10.out.grown hg12 HB10.out.size (fun g e => by obtain ⟨_, _, h2⟩ := ListO.blocks HO10.out e; exact h2)
        clear ho12 hg12
        refine wpAnyH_ready (rs := [6]) (by kernel_rfl) (by simp) ?_
        refine ready_append 6 (.tmp 25) (.tmp 27) 22 rfl rfl rfl v10 (.slice (some ⟨w8.heap.size, 0, none⟩) 1 1) v12 w12 ?s6c ?x6c hrun ⟨⟨HY.out.below HB12.out HY.out.lies.lt, HX.out.below HB12.out HX.out.lies.lt, HL.out.below HB12.out HL.out.lt⟩, fun hHeld => ?_⟩
        case s6c => kernel_rfl
        case x6c => kernel_rfl
        clear hrun
        refine wpAnyH_ready (rs := [7]) (by kernel_rfl) (by simp) ?_
        refine AllReadyH.cons rfl (fun K hK => ?_) AllReadyH.nil
        rw [if_pos (by kernel_rfl)]
        go_simp
        go_at_call 10
        refine (refOf_any v12 (l ++ [x]) w12 (RecsB.reads HO12.out) HSS2.out (by have := HLL9.out; simp; omega)).mono ?_
        rw [HOFY.out]
        rintro e w13 ⟨ui13, ua13, uc13, rfl, hr13, hb13⟩
        have HB13 : Hid (Below w8.heap.size w8 w13) := HB12.out.trans (hb13.mono HB12.out.size)
        have HG13 := Lib.hid hr13
        clear hr13 hb13
        dsimp only
        refine hK.out _ _ ⟨HY.out.below HB13.out HY.out.lies.lt, HX.out.below HB13.out HX.out.lies.lt, HL.out.below HB13.out HL.out.lt⟩ (fun hHeld => ?_)
        clear hK K
        refine wpAnyH_ready (rs := [8]) (by kernel_rfl) (by simp) ?_
        refine AllReadyH.cons rfl (fun K hK => ?_) AllReadyH.nil
        rw [if_pos (by kernel_rfl)]
        go_simp
        go_at_call 9
        refine (sameH_any y y yi ya yc ui13 ua13 uc13 w13 (HRY.out.below HB13.out) HG13.out).mono ?_
        rw [show decide (y = y) = true by simp]
        rintro e w14 ⟨rfl, hb14⟩
        have HB14 : Hid (Below w8.heap.size w8 w14) := HB13.out.trans (hb14.mono HB13.out.size)
        clear hb14
        dsimp only
        refine hK.out _ _ ⟨HY.out.below HB14.out HY.out.lies.lt, HX.out.below HB14.out HX.out.lies.lt, HL.out.below HB14.out HL.out.lt⟩ (fun hHeld => ?_)
        clear hK K
        refine wpAnyH_take (i := 9) (v := ?v9c) rfl (by kernel_rfl) (by kernel_rfl) (by kernel_rfl) (fun _ _ _ h => h) (Or.inl ⟨by kernel_rfl, ?hy9c⟩) hHeld ?rest9c
        case hy9c => (intro W hSw; go_simp; (try with_reducible rfl))
        refine wpAnyH_take (i := 10) (v := ?v10c) rfl (by kernel_rfl) (by kernel_rfl) (by kernel_rfl) (fun _ _ _ h => h) (Or.inl ⟨by kernel_rfl, ?hy10c⟩) hHeld ?rest10c
        case hy10c => (intro W hSw; go_simp; (try with_reducible rfl))
        refine wpAnyH_take (i := 11) (v := ?v11c) rfl (by kernel_rfl) (by kernel_rfl) (by kernel_rfl) (fun _ _ _ h => h) (Or.inl ⟨by kernel_rfl, ?hy11c⟩) hHeld ?rest11c
        case hy11c => (intro W hSw; obtain ⟨_, sh, _⟩ := hSw; obtain ⟨s0, s1, s2, s3, s4, s5⟩ := sh.all; go_simp; (try with_reducible rfl))
        refine wpAnyH_take (i := 12) (v := ?v12c) rfl (by kernel_rfl) (by kernel_rfl) (by kernel_rfl) (fun _ _ _ h => h) (Or.inl ⟨by kernel_rfl, ?hy12c⟩) hHeld ?rest12c
        case hy12c => (intro W hSw; go_simp; (try with_reducible rfl))
        refine wpAnyH_ready (rs := [13]) (by kernel_rfl) (by simp) ?_
        refine AllReadyH.cons rfl (fun K hK => ?_) AllReadyH.nil
        rw [if_pos (by kernel_rfl)]
        go_simp
        go_at_call 10
        refine (refOf_any v l w14 (HV.out _ (HB8.out.trans (HB14.out.mono HB8.out.size))) HSS.out HLL.out).mono ?_
        rw [HOFH.out]
        rintro e w15 ⟨ui15, ua15, uc15, rfl, hr15, hb15⟩
        have HB15 : Hid (Below w8.heap.size w8 w15) := HB14.out.trans (hb15.mono HB14.out.size)
        have HG15 := Lib.hid hr15
        clear hr15 hb15
        dsimp only
        refine hK.out _ _ ⟨HY.out.below HB15.out HY.out.lies.lt, HX.out.below HB15.out HX.out.lies.lt, HL.out.below HB15.out HL.out.lt⟩ (fun hHeld => ?_)
        clear hK K
        refine wpAnyH_ready (rs := [14]) (by kernel_rfl) (by simp) ?_
        refine AllReadyH.cons rfl (fun K hK => ?_) AllReadyH.nil
        rw [if_pos (by kernel_rfl)]
        go_simp
        go_at_call 9
        refine (sameH_any h h vi va vc ui15 ua15 uc15 w15 (HRX.out.below HB15.out) HG15.out).mono ?_
        rw [show decide (h = h) = true by simp]
        rintro e w16 ⟨rfl, hb16⟩
        have HB16 : Hid (Below w8.heap.size w8 w16) := HB15.out.trans (hb16.mono HB15.out.size)
        clear hb16
        dsimp only
        refine hK.out _ _ ⟨HY.out.below HB16.out HY.out.lies.lt, HX.out.below HB16.out HX.out.lies.lt, HL.out.below HB16.out HL.out.lt⟩ (fun hHeld => ?_)
        clear hK K
        refine wpAnyH_take (i := 15) (v := ?v15c) rfl (by kernel_rfl) (by kernel_rfl) (by kernel_rfl) (fun _ _ _ h => h) (Or.inl ⟨by kernel_rfl, ?hy15c⟩) hHeld ?rest15c
        case hy15c => (intro W hSw; go_simp; (try with_reducible rfl))
        refine wpAnyH_take (i := 16) (v := ?v16c) rfl (by kernel_rfl) (by kernel_rfl) (by kernel_rfl) (fun _ _ _ h => h) (Or.inl ⟨by kernel_rfl, ?hy16c⟩) hHeld ?rest16c
        case hy16c => (intro W hSw; go_simp; (try with_reducible rfl))
        refine wpAnyH_take (i := 17) (v := ?v17c) rfl (by kernel_rfl) (by kernel_rfl) (by kernel_rfl) (fun _ _ _ h => h) (Or.inl ⟨by kernel_rfl, ?hy17c⟩) hHeld ?rest17c
        case hy17c => (intro W hSw; go_simp; (try with_reducible rfl))
        refine wpAnyH_take (i := 18) (v := ?v18c) rfl (by kernel_rfl) (by kernel_rfl) (by kernel_rfl) (fun _ _ _ h => h) (Or.inl ⟨by kernel_rfl, ?hy18c⟩) hHeld ?rest18c
        case hy18c => (intro W hSw; go_simp; (try with_reducible rfl))
        refine wpAnyH_take (i := 19) (v := ?v19c) rfl (by kernel_rfl) (by kernel_rfl) (by kernel_rfl) (fun _ _ _ h => h) (Or.inl ⟨by kernel_rfl, ?hy19c⟩) hHeld ?rest19c
        case hy19c => (intro W hSw; obtain ⟨sy, _, _⟩ := hSw; obtain ⟨s0, s1, s2, s3, s4, s5⟩ := sy.all; go_simp; (try with_reducible rfl))
        refine wpAnyH_take (i := 20) (v := ?v20c) rfl (by kernel_rfl) (by kernel_rfl) (by kernel_rfl) (fun _ _ _ h => h) (Or.inl ⟨by kernel_rfl, ?hy20c⟩) hHeld ?rest20c
        case hy20c => (intro W hSw; go_simp; (try with_reducible rfl))
        refine wpAnyH_take (i := 21) (v := ?v21c) rfl (by kernel_rfl) (by kernel_rfl) (by kernel_rfl) (fun _ _ _ h => h) (Or.inl ⟨by kernel_rfl, ?hy21c⟩) hHeld ?rest21c
        case hy21c => (intro W hSw; obtain ⟨_, sh, _⟩ := hSw; obtain ⟨s0, s1, s2, s3, s4, s5⟩ := sh.all; go_simp; (try with_reducible rfl))
        refine wpAnyH_ready (rs := [22]) (by kernel_rfl) (by simp) ?_
        refine AllReadyH.cons rfl (fun K hK => ?_) AllReadyH.nil
        rw [if_pos (by kernel_rfl)]
        go_simp
        go_at_call 18
        refine (brefLess_any y.prom h.prom w16).mono ?_
        rw [HPR.out]
        rintro e w17 ⟨rfl, hb17⟩
        have HB17 : Hid (Below w8.heap.size w8 w17) := HB16.out.trans (hb17.mono HB16.out.size)
        clear hb17
        dsimp only
        refine hK.out _ _ ⟨HY.out.below HB17.out HY.out.lies.lt, HX.out.below HB17.out HX.out.lies.lt, HL.out.below HB17.out HL.out.lt⟩ (fun hHeld => ?_)
        clear hK K
        refine wpAnyH_take (i := 23) (v := ?v23c) rfl (by kernel_rfl) (by kernel_rfl) (by kernel_rfl) (fun _ _ _ h => h) (Or.inl ⟨by kernel_rfl, ?hy23c⟩) hHeld ?rest23c
        case hy23c => (intro W hSw; go_simp; (try with_reducible rfl))
        refine wpAnyH_take (i := 24) (v := ?v24c) rfl (by kernel_rfl) (by kernel_rfl) (by kernel_rfl) (fun _ _ _ h => h) (Or.inl ⟨by kernel_rfl, ?hy24c⟩) hHeld ?rest24c
        case hy24c => (intro W hSw; go_simp; (try with_reducible rfl))
        refine wpAnyH_take (i := 25) (v := ?v25c) rfl (by kernel_rfl) (by kernel_rfl) (by kernel_rfl) (fun _ _ _ h => h) (Or.inl ⟨by kernel_rfl, ?hy25c⟩) hHeld ?rest25c
        case hy25c => (intro W hSw; go_simp; (try with_reducible rfl))
        refine wpAnyH_take (i := 26) (v := ?v26c) rfl (by kernel_rfl) (by kernel_rfl) (by kernel_rfl) (fun _ _ _ h => h) (Or.inl ⟨by kernel_rfl, ?hy26c⟩) hHeld ?rest26c
        case hy26c => (intro W hSw; obtain ⟨sy, _, _⟩ := hSw; obtain ⟨s0, s1, s2, s3, s4, s5⟩ := sy.all; go_simp; (try with_reducible rfl))
        refine wpAnyH_take (i := 27) (v := ?v27c) rfl (by kernel_rfl) (by kernel_rfl) (by kernel_rfl) (fun _ _ _ h => h) (Or.inl ⟨by kernel_rfl, ?hy27c⟩) hHeld ?rest27c
        case hy27c => (intro W hSw; go_simp; (try with_reducible rfl))
        refine wpAnyH_take (i := 28) (v := ?v28c) rfl (by kernel_rfl) (by kernel_rfl) (by kernel_rfl) (fun _ _ _ h => h) (Or.inl ⟨by kernel_rfl, ?hy28c⟩) hHeld ?rest28c
        case hy28c => (intro W hSw; obtain ⟨_, sh, _⟩ := hSw; obtain ⟨s0, s1, s2, s3, s4, s5⟩ := sh.all; go_simp; (try with_reducible rfl))
        refine wpAnyH_take (i := 29) (v := ?v29c) rfl (by kernel_rfl) (by kernel_rfl) (by kernel_rfl) (fun _ _ _ h => h) (Or.inl ⟨by kernel_rfl, ?hy29c⟩) hHeld ?rest29c
        case hy29c => (intro W hSw; go_simp; (try with_reducible rfl))
        refine wpAnyH_take (i := 30) (v := ?v30c) rfl (by kernel_rfl) (by kernel_rfl) (by kernel_rfl) (fun _ _ _ h => h) (Or.inl ⟨by kernel_rfl, ?hy30c⟩) hHeld ?rest30c
        case hy30c => (intro W hSw; go_simp; (try with_reducible rfl))
        refine wpAnyH_done (by kernel_rfl) ?_ _
        clear hHeld
        go_simp
        generalize (Value.slice (some ⟨w8.heap.size + 1, 0, none⟩) 0 0) = z23
        generalize (Value.slice (some ⟨w8.heap.size, 0, none⟩) 1 1) = z27
        generalize (Value.agg (Hd.cells y ui13 ua13 uc13)) = z29
        generalize (Value.agg (Hd.cells h ui15 ua15 uc15)) = z35
        exact REST z23 v10 z27 v12 z29 z35 w17 HB17
    intro z23 z25 z27 z28 z29 z35 w17 HB17
    clear hba
    (try dsimp only)
    obtain ⟨vco, vcc, hvc, _, _⟩ := ReadsE.shape HRX.out.chs
    obtain ⟨yco, ycc, hyc, hyn1, hyn2⟩ := ReadsE.shape HRY.out.chs
    subst hvc
    subst hyc
    have HPH := Lib.hid (fun z => ReadsE.places HRX.out.chs z)
    have HPY := Lib.hid (fun z => ReadsE.places HRY.out.chs z)
    obtain ⟨nc, hnc⟩ : ∃ n, n = h.chs.length := ⟨_, rfl⟩
    obtain ⟨yn, hyn⟩ : ∃ n, n = y.chs.length := ⟨_, rfl⟩
    rw [← hnc] at HX HRX HPH
    rw [← hyn] at HY HRY HPY hyn1
    have HYN := Lib.hid hyn
    have HYNB : Hid (yn < 9223372036854775808) := by show _ < _; omega
    have hncb : nc < 9223372036854775808 := by have := HLEN.out; omega
    rw [← hnc, ← hyn]
    clear hyn hyn1 hyn2
    have HNC := Lib.hid hnc
    clear hnc
    go_wp2
    go_loopw [7] (fun i wr => ∃ k : Nat, i = .int .i64 (k : Int) ∧ k ≤ nc ∧ Hid (Below w8.heap.size w8 wr)) (fun i _ => nc - (intOf i).toNat)
    case atStart => exact ⟨0, rfl, by omega, HB17⟩
    case round =>
      obtain ⟨k, rfl, hk, HBr⟩ := hrel
      have m5 : wr.cell? ⟨g5, 5, none⟩ = some (.slice vco nc vcc) := (HX.out.lies.below HBr.out HX.out.lies.lt).cell 5 _ rfl
      by_cases hlt : k < nc
      · obtain ⟨e, he⟩ : ∃ e, h.chs[k]? = some e := ⟨_, List.getElem?_eq_getElem (by have := HNC.out; omega)⟩
        obtain ⟨g, off, rfl, hgl, hcell⟩ := HPH.out (by have := HNC.out; omega)
        have HCELL : Hid (∀ W, Below w8.heap.size w8 W → EntAt W g (off + k * 10) e) := fun W hW => hcell W hW k e he
        have HEM := Lib.hid (List.mem_of_getElem? he)
        have HCE := Lib.hid (HCH.out e HEM.out)
        clear hcell he
        go_wp2
        clear m5
        have HFIND := Lib.hid (fun W (hb : Below w8.heap.size w8 W) => refFindE_any (.slice yco yn ycc) y.chs e.index W (HRY.out.chs.below hb) HVY.out.ascC)
        obtain ⟨q, hq⟩ : ∃ q, q = En.pos y.chs e.index := ⟨_, rfl⟩
        rw [← hq] at HFIND
        have HQ := Lib.hid hq
        have HPP := Lib.hid (fun p : Behind wr => HBr.out.trans (p.below.mono HBr.out.size))
        clear hq
        have ky5 := fun p : Behind wr => (show p.world.cell? ⟨g6, 5, none⟩ = some (.slice yco yn ycc) from (HY.out.lies.below (HBr.out.trans (p.below.mono HBr.out.size)) HY.out.lies.lt).cell 5 _ rfl)
        have kh5 := fun p : Behind wr => (show p.world.cell? ⟨g5, 5, none⟩ = some (.slice (some ⟨g, off, none⟩) nc vcc) from (HX.out.lies.below (HBr.out.trans (p.below.mono HBr.out.size)) HX.out.lies.lt).cell 5 _ rfl)
        have kc := fun p : Behind wr => (HCELL.out p.world (HPP.out p)).c0
        refine wp_region_behind (by kernel_rfl) (by kernel_rfl) ?_
        repeat (go_big_quiet_step ((go_at_call 19; exact Looks.behind (HFIND.out _ (HPP.out _)))))
        refine wpQuiet_nil ?_
        rintro w20 ⟨⟨w20, hB20⟩, rfl⟩
        --S1
        (try dsimp only)
        have HB20 : Hid (Below w8.heap.size w8 w20) := HBr.out.trans (hB20.mono HBr.out.size)
        clear ky5 kh5 kc hB20 HPP
        by_cases hf : En.found y.chs e.index = true
        · obtain ⟨a, ha, hax⟩ := En.found_at hf
          obtain ⟨m, hm⟩ : ∃ m, m = En.below y.chs e.index := ⟨_, rfl⟩
          rw [← hm] at ha
          obtain rfl : a = e := HCE.out.2 a (List.mem_of_getElem? ha) hax
          obtain rfl : q = (m : Int) := by rw [HQ.out, En.pos, if_pos hf, hm]
          have hmn : m < yn := by have h1 := (List.getElem?_eq_some_iff.1 ha).1; have := HYN.out; omega
          obtain ⟨gy, oy, rfl, _, hcy⟩ := HPY.out (by omega)
          have HCY : Hid (∀ W, Below w8.heap.size w8 W → EntAt W gy (oy + m * 10) a) := fun W hW => hcy W hW m a ha
          have hgd := guard_ent
          have hneq := fun W => run_neq_ent W a a
          rw [show decide (a = a) = true by simp] at hneq
          dsimp only [En.cells] at hneq
          have hm0 : decide ((m : Int) < 0) = false := decide_eq_false (by omega)
          have hm1 : decide (0 ≤ (m : Int)) = true := decide_eq_true (by omega)
          have hynb : yn < 9223372036854775808 := HYNB.out
          clear hf ha hm hax hcy
          go_wp2
          have ky5 := fun p : Behind w20 => (show p.world.cell? ⟨g6, 5, none⟩ = some (.slice (some ⟨gy, oy, none⟩) yn ycc) from (HY.out.lies.below (HB20.out.trans (p.below.mono HB20.out.size)) HY.out.lies.lt).cell 5 _ rfl)
          have kh5 := fun p : Behind w20 => (show p.world.cell? ⟨g5, 5, none⟩ = some (.slice (some ⟨g, off, none⟩) nc vcc) from (HX.out.lies.below (HB20.out.trans (p.below.mono HB20.out.size)) HX.out.lies.lt).cell 5 _ rfl)
          have ky2 := fun p : Behind w20 => (show p.world.cell? ⟨g6, 2, none⟩ = some (.int .i64 y.base) from (HY.out.lies.below (HB20.out.trans (p.below.mono HB20.out.size)) HY.out.lies.lt).cell 2 _ rfl)
          have ke0 := fun p : Behind w20 => (HCELL.out p.world (HB20.out.trans (p.below.mono HB20.out.size))).c0
          have ke1 := fun p : Behind w20 => (HCELL.out p.world (HB20.out.trans (p.below.mono HB20.out.size))).c1
          have ke2 := fun p : Behind w20 => (HCELL.out p.world (HB20.out.trans (p.below.mono HB20.out.size))).c2
          have ke3 := fun p : Behind w20 => (HCELL.out p.world (HB20.out.trans (p.below.mono HB20.out.size))).c3
          have ke4 := fun p : Behind w20 => (HCELL.out p.world (HB20.out.trans (p.below.mono HB20.out.size))).c4
          have ke5 := fun p : Behind w20 => (HCELL.out p.world (HB20.out.trans (p.below.mono HB20.out.size))).c5
          have ke6 := fun p : Behind w20 => (HCELL.out p.world (HB20.out.trans (p.below.mono HB20.out.size))).c6
          have ke7 := fun p : Behind w20 => (HCELL.out p.world (HB20.out.trans (p.below.mono HB20.out.size))).c7
          have ke8 := fun p : Behind w20 => (HCELL.out p.world (HB20.out.trans (p.below.mono HB20.out.size))).c8
          have ke9 := fun p : Behind w20 => (HCELL.out p.world (HB20.out.trans (p.below.mono HB20.out.size))).c9
          have kf0 := fun p : Behind w20 => (HCY.out p.world (HB20.out.trans (p.below.mono HB20.out.size))).c0
          have kf1 := fun p : Behind w20 => (HCY.out p.world (HB20.out.trans (p.below.mono HB20.out.size))).c1
          have kf2 := fun p : Behind w20 => (HCY.out p.world (HB20.out.trans (p.below.mono HB20.out.size))).c2
          have kf3 := fun p : Behind w20 => (HCY.out p.world (HB20.out.trans (p.below.mono HB20.out.size))).c3
          have kf4 := fun p : Behind w20 => (HCY.out p.world (HB20.out.trans (p.below.mono HB20.out.size))).c4
          have kf5 := fun p : Behind w20 => (HCY.out p.world (HB20.out.trans (p.below.mono HB20.out.size))).c5
          have kf6 := fun p : Behind w20 => (HCY.out p.world (HB20.out.trans (p.below.mono HB20.out.size))).c6
          have kf7 := fun p : Behind w20 => (HCY.out p.world (HB20.out.trans (p.below.mono HB20.out.size))).c7
          have kf8 := fun p : Behind w20 => (HCY.out p.world (HB20.out.trans (p.below.mono HB20.out.size))).c8
          have kf9 := fun p : Behind w20 => (HCY.out p.world (HB20.out.trans (p.below.mono HB20.out.size))).c9
          refine wp_region_behind (by kernel_rfl) (by kernel_rfl) ?_
          repeat (go_big_quiet_step (fail))
          refine wpQuiet_nil ?_
          --S2
          rintro w21 ⟨⟨w21, hB21⟩, rfl⟩
          --T3
          (try dsimp only)
          --S3
          have HB21 : Hid (Below w8.heap.size w8 w21) := HB20.out.trans (hB21.mono HB20.out.size)
          clear ky5 kh5 ky2 ke0 ke1 ke2 ke3 ke4 ke5 ke6 ke7 ke8 ke9 kf0 kf1 kf2 kf3 kf4 kf5 kf6 kf7 kf8 kf9 hB21 hneq
          go_wp2
          go_roundw
          case rel => exact ⟨k + 1, by go_num, by omega, HB21⟩
          case measure => simp [intOf]; omega
        · obtain rfl : q = -1 := by rw [HQ.out, En.pos, if_neg hf]
          have hbi : decide (y.base < e.index) = false := decide_eq_false fun h1 => hf ((En.found_iff HVY.out.ascC).2 ⟨e, HCE.out.1 h1, rfl⟩)
          clear hf
          go_wp2
          have ky5 := fun p : Behind w20 => (show p.world.cell? ⟨g6, 5, none⟩ = some (.slice yco yn ycc) from (HY.out.lies.below (HB20.out.trans (p.below.mono HB20.out.size)) HY.out.lies.lt).cell 5 _ rfl)
          have kh5 := fun p : Behind w20 => (show p.world.cell? ⟨g5, 5, none⟩ = some (.slice (some ⟨g, off, none⟩) nc vcc) from (HX.out.lies.below (HB20.out.trans (p.below.mono HB20.out.size)) HX.out.lies.lt).cell 5 _ rfl)
          have ky2 := fun p : Behind w20 => (show p.world.cell? ⟨g6, 2, none⟩ = some (.int .i64 y.base) from (HY.out.lies.below (HB20.out.trans (p.below.mono HB20.out.size)) HY.out.lies.lt).cell 2 _ rfl)
          have ke0 := fun p : Behind w20 => (HCELL.out p.world (HB20.out.trans (p.below.mono HB20.out.size))).c0
          refine wp_region_behind (by kernel_rfl) (by kernel_rfl) ?_
          repeat (go_big_quiet_step (fail))
          refine wpQuiet_nil ?_
          rintro w21 ⟨⟨w21, hB21⟩, rfl⟩
          (try dsimp only)
          have HB21 : Hid (Below w8.heap.size w8 w21) := HB20.out.trans (hB21.mono HB20.out.size)
          clear ky5 kh5 ky2 ke0 hB21
          go_wp2
          go_roundw
          case rel => exact ⟨k + 1, by go_num, by omega, HB21⟩
          case measure => simp [intOf]; omega
      · obtain rfl : nc = k := by omega
        go_wp2
        clear m5
        have HPP := Lib.hid (fun p : Behind wr => HBr.out.trans (p.below.mono HBr.out.size))
        obtain ⟨z, hz⟩ : ∃ z, z = decide (y = h) := ⟨_, rfl⟩
        have HCK := Lib.hid (fun W (hb : Below w8.heap.size w8 W) => refCheckRe_any x (.slice xo xk xc) W ((HXI.out W (HB8.out.trans (hb.mono HB8.out.size))).1) HSX.out)
        have HS1 := Lib.hid (fun W (hb : Below w8.heap.size w8 W) => sameH_any y h yi ya (.slice yco yn ycc) vi va (.slice vco nc vcc) W (HRY.out.below hb) (HRX.out.below hb))
        have HS2 := Lib.hid (fun W (hb : Below w8.heap.size w8 W) => hardSame_any y h yi ya (.slice yco yn ycc) vi va (.slice vco nc vcc) W (HRY.out.below hb) (HRX.out.below hb))
        rw [← hz] at HS1 HS2
        have HZ := Lib.hid hz
        obtain ⟨c, hc⟩ : ∃ c, c = Re.check x := ⟨_, rfl⟩
        rw [← hc] at HCK
        have HC := Lib.hid hc
        have HAW := Lib.hid (fun W (hb : Below w8.heap.size w8 W) => awakeH_any W (HW.out.below (HB8.out.trans (hb.mono HB8.out.size))))
        have hzz : (z == z) = true := by cases z <;> rfl
        clear hz hc
        have ky0 := fun p : Behind wr => (show p.world.cell? ⟨g6, 0, none⟩ = some (.int .i64 y.prom.round) from (HY.out.lies.below (HBr.out.trans (p.below.mono HBr.out.size)) HY.out.lies.lt).cell 0 _ rfl)
        have ky1 := fun p : Behind wr => (show p.world.cell? ⟨g6, 1, none⟩ = some (.int .i64 y.prom.node) from (HY.out.lies.below (HBr.out.trans (p.below.mono HBr.out.size)) HY.out.lies.lt).cell 1 _ rfl)
        have ky2 := fun p : Behind wr => (show p.world.cell? ⟨g6, 2, none⟩ = some (.int .i64 y.base) from (HY.out.lies.below (HBr.out.trans (p.below.mono HBr.out.size)) HY.out.lies.lt).cell 2 _ rfl)
        have ky3 := fun p : Behind wr => (show p.world.cell? ⟨g6, 3, none⟩ = some (yi) from (HY.out.lies.below (HBr.out.trans (p.below.mono HBr.out.size)) HY.out.lies.lt).cell 3 _ rfl)
        have ky4 := fun p : Behind wr => (show p.world.cell? ⟨g6, 4, none⟩ = some (ya) from (HY.out.lies.below (HBr.out.trans (p.below.mono HBr.out.size)) HY.out.lies.lt).cell 4 _ rfl)
        have ky5 := fun p : Behind wr => (show p.world.cell? ⟨g6, 5, none⟩ = some (.slice yco yn ycc) from (HY.out.lies.below (HBr.out.trans (p.below.mono HBr.out.size)) HY.out.lies.lt).cell 5 _ rfl)
        have kh0 := fun p : Behind wr => (show p.world.cell? ⟨g5, 0, none⟩ = some (.int .i64 h.prom.round) from (HX.out.lies.below (HBr.out.trans (p.below.mono HBr.out.size)) HX.out.lies.lt).cell 0 _ rfl)
        have kh1 := fun p : Behind wr => (show p.world.cell? ⟨g5, 1, none⟩ = some (.int .i64 h.prom.node) from (HX.out.lies.below (HBr.out.trans (p.below.mono HBr.out.size)) HX.out.lies.lt).cell 1 _ rfl)
        have kh2 := fun p : Behind wr => (show p.world.cell? ⟨g5, 2, none⟩ = some (.int .i64 h.base) from (HX.out.lies.below (HBr.out.trans (p.below.mono HBr.out.size)) HX.out.lies.lt).cell 2 _ rfl)
        have kh3 := fun p : Behind wr => (show p.world.cell? ⟨g5, 3, none⟩ = some (vi) from (HX.out.lies.below (HBr.out.trans (p.below.mono HBr.out.size)) HX.out.lies.lt).cell 3 _ rfl)
        have kh4 := fun p : Behind wr => (show p.world.cell? ⟨g5, 4, none⟩ = some (va) from (HX.out.lies.below (HBr.out.trans (p.below.mono HBr.out.size)) HX.out.lies.lt).cell 4 _ rfl)
        have kh5 := fun p : Behind wr => (show p.world.cell? ⟨g5, 5, none⟩ = some (.slice vco nc vcc) from (HX.out.lies.below (HBr.out.trans (p.below.mono HBr.out.size)) HX.out.lies.lt).cell 5 _ rfl)
        have kx0 := fun p : Behind wr => (show p.world.cell? ⟨gr, 0, none⟩ = some (.int .i64 x.kind) from (HL.out.below (HBr.out.trans (p.below.mono HBr.out.size)) HL.out.lt).cell 0 _ rfl)
        have kx1 := fun p : Behind wr => (show p.world.cell? ⟨gr, 1, none⟩ = some (.int .i64 x.bal.round) from (HL.out.below (HBr.out.trans (p.below.mono HBr.out.size)) HL.out.lt).cell 1 _ rfl)
        have kx2 := fun p : Behind wr => (show p.world.cell? ⟨gr, 2, none⟩ = some (.int .i64 x.bal.node) from (HL.out.below (HBr.out.trans (p.below.mono HBr.out.size)) HL.out.lt).cell 2 _ rfl)
        have kx3 := fun p : Behind wr => (show p.world.cell? ⟨gr, 3, none⟩ = some (.int .i64 x.index) from (HL.out.below (HBr.out.trans (p.below.mono HBr.out.size)) HL.out.lt).cell 3 _ rfl)
        have kx4 := fun p : Behind wr => (show p.world.cell? ⟨gr, 4, none⟩ = some (.int .i64 x.cmd.kind) from (HL.out.below (HBr.out.trans (p.below.mono HBr.out.size)) HL.out.lt).cell 4 _ rfl)
        have kx5 := fun p : Behind wr => (show p.world.cell? ⟨gr, 5, none⟩ = some (.int .i64 x.cmd.client) from (HL.out.below (HBr.out.trans (p.below.mono HBr.out.size)) HL.out.lt).cell 5 _ rfl)
        have kx6 := fun p : Behind wr => (show p.world.cell? ⟨gr, 6, none⟩ = some (.int .i64 x.cmd.seq) from (HL.out.below (HBr.out.trans (p.below.mono HBr.out.size)) HL.out.lt).cell 6 _ rfl)
        have kx7 := fun p : Behind wr => (show p.world.cell? ⟨gr, 7, none⟩ = some (.string ⟨x.cmd.key.toArray⟩) from (HL.out.below (HBr.out.trans (p.below.mono HBr.out.size)) HL.out.lt).cell 7 _ rfl)
        have kx8 := fun p : Behind wr => (show p.world.cell? ⟨gr, 8, none⟩ = some (.string ⟨x.cmd.val.toArray⟩) from (HL.out.below (HBr.out.trans (p.below.mono HBr.out.size)) HL.out.lt).cell 8 _ rfl)
        have kx9 := fun p : Behind wr => (show p.world.cell? ⟨gr, 9, none⟩ = some (.string ⟨x.cmd.old.toArray⟩) from (HL.out.below (HBr.out.trans (p.below.mono HBr.out.size)) HL.out.lt).cell 9 _ rfl)
        have kx10 := fun p : Behind wr => (show p.world.cell? ⟨gr, 10, none⟩ = some (.int .i64 x.cmd.node) from (HL.out.below (HBr.out.trans (p.below.mono HBr.out.size)) HL.out.lt).cell 10 _ rfl)
        have kx11 := fun p : Behind wr => (show p.world.cell? ⟨gr, 11, none⟩ = some (.slice xo xk xc) from (HL.out.below (HBr.out.trans (p.below.mono HBr.out.size)) HL.out.lt).cell 11 _ rfl)
        by_cases hc0 : c = 0
        · subst hc0
          have hcb : ((0 : Int) == 0) = true := rfl
          refine wp_region_behind (by kernel_rfl) (by kernel_rfl) ?_
          repeat (go_big_quiet_step (first
              | (go_at_call 20; exact Looks.behind (HCK.out _ (HPP.out _)))
              | (go_at_call 9; exact Looks.behind (HS1.out _ (HPP.out _)))
              | (go_at_call 15; exact Looks.behind (HS2.out _ (HPP.out _)))
              | (go_at_call 7; exact Truly.behind (HAW.out _ (HPP.out _)))))
          refine wpQuiet_nil ?_
          rintro w21 ⟨⟨w21, hB21⟩, rfl⟩
          (try dsimp only)
          have HB21 : Hid (Below w8.heap.size w8 w21) := HBr.out.trans (hB21.mono HBr.out.size)
          clear ky0 ky1 ky2 ky3 ky4 ky5 kh0 kh1 kh2 kh3 kh4 kh5 kx0 kx1 kx2 kx3 kx4 kx5 kx6 kx7 kx8 kx9 kx10 kx11 hB21
          go_wp2
          go_ret
          exact truly_of (HB8.out.trans (HB21.out.mono HB8.out.size))
        · have hcb : (c == 0) = false := by simpa using hc0
          obtain rfl : z = true := by rw [HZ.out, decide_eq_true_eq]; exact HBADEQ.out (by rw [← HC.out]; exact hc0)
          refine wp_region_behind (by kernel_rfl) (by kernel_rfl) ?_
          repeat (go_big_quiet_step (first
              | (go_at_call 20; exact Looks.behind (HCK.out _ (HPP.out _)))
              | (go_at_call 9; exact Looks.behind (HS1.out _ (HPP.out _)))
              | (go_at_call 15; exact Looks.behind (HS2.out _ (HPP.out _)))
              | (go_at_call 7; exact Truly.behind (HAW.out _ (HPP.out _)))))
          refine wpQuiet_nil ?_
          rintro w21 ⟨⟨w21, hB21⟩, rfl⟩
          (try dsimp only)
          have HB21 : Hid (Below w8.heap.size w8 w21) := HBr.out.trans (hB21.mono HBr.out.size)
          clear ky0 ky1 ky2 ky3 ky4 ky5 kh0 kh1 kh2 kh3 kh4 kh5 kx0 kx1 kx2 kx3 kx4 kx5 kx6 kx7 kx8 kx9 kx10 kx11 hB21
          go_wp2
          go_ret
          exact truly_of (HB8.out.trans (HB21.out.mono HB8.out.size))

end Go.Proofs.YtfdnmmmjaipgoaaDoor
