/- Several texts of mine in one: SgFile SgBehind SgPart SgEnds. -/
import Derived.Test.YteboceekcmchkaaGreatDoorGSb
import Derived.Test.YteboceekcmchkaaGreatDoorPRtRef
import Derived.Test.YteboceekcmchkaaGreatDoorPGFt
import Derived.Test.YteboceekcmchkaaGreatDoorGEf
namespace Go.Proofs.YteboceekcmchkaaGreatDoor
open Go.RowKit
set_option maxHeartbeats 3200000
set_option maxRecDepth 8000
theorem run_recsN {n : Nat} {w : World} {base : Nat} {out u : Value} {G M : List Re.Rec} (ty : TypeId) (h : RecsN n w base out G) (hm : RecsP (fun b _ => b < n) w u M) (hlen : G.length + M.length ≤ 10000000) (hn : n ≤ base) (hbase : base ≤ w.heap.size) :
 ∃ v' w', (Builtin.append_ #[34, 34] ty #[out, u]).run Tryz.prog w = .ok v' w' ∧ RecsN n w' base v' (G ++ M) ∧ w.grownBy w' out.ownBlock := by
 obtain ⟨ps, e, h1, h2⟩ := h
 obtain ⟨qs, e', h3, h4⟩ := hm
 subst e
 subst e'
 have hl : (rowsOf Re.cells ps).length = (ps.map (·.1)).length := rowsOf_len ps
 have hl' : (rowsOf Re.cells qs).length = (qs.map (·.1)).length := rowsOf_len qs
 obtain ⟨v', w', hrun, h5, h6, _⟩ := run_append_rows_at (P := Tryz.prog) 34 ty 42 12 136 _ Tryz.underlying34 info_recN rfl (by decide) base (rowsOf Re.cells ps) (rowsOf Re.cells qs) out _ h1 h3.1 (rowsOf_sized cellR_ok fun q hq => (h4 q hq).one) (by rw [hl, hl']; omega) (by rw [hl, hl']; omega) hbase
 have hk' : Keep (fun b _ => b < n) w w' := Keep.of_grown h6 fun g' cs t' fr e' hcs => by
  obtain ⟨cs', hc', hb'⟩ := OwnsR.cells h1 e'
  rw [hc'] at hcs
  cases hcs
  omega
 refine ⟨v', w', hrun, ⟨ps ++ qs, by simp, by simpa [rowsOf] using h5, fun q hq => ?_⟩, h6⟩
 rcases List.mem_append.1 hq with hq | hq
 ·exact (h2 q hq).keep hk'
 ·exact (h4 q hq).keep hk'
theorem step_recsN {n : Nat} {w : World} {ops : Array Oper} {rest : List Oper} {o : Oper} {a : Act} {Q : Exit → Act → World → Prop} (hg : o.guard = none) (s x : Operand) (ho : o.op = .call { callee := .builtin .append, args := #[s, x], argTypes := #[34, 34] })
 (base : Nat) (out u : Value) (G M : List Re.Rec) (hs : a.eval s = out) (hx : a.eval x = u) (hown : RecsN n w base out G) (hm : RecsP (fun b _ => b < n) w u M)
 (hlen : G.length + M.length ≤ 10000000) (hn : n ≤ base) (hbase : base ≤ w.heap.size) (hK : ∀ v' w', RecsN n w' base v' (G ++ M) → w.grownBy w' out.ownBlock → wpList Tryz.prog ops Q rest (a.put o.dst v') w') : wpList Tryz.prog ops Q (o :: rest) a w := by
 obtain ⟨v', w', hrun, h1, h2⟩ := run_recsN o.type hown hm hlen hn hbase
 exact step_append hg s x 34 ho out _ v' hs hx hrun (hK v' w' h1 h2)
theorem refFile_any (f : Int) (hf : f = 1 ∨ f = 2) (h : Hd.Hard) (vi va vc v : Value) (more : List Re.Rec) (w : World) (hr : HardR w h vi va vc) (hv : Hd.Valid h) (hl : h.acc.length ≤ 100 ∧ h.chs.length ≤ 100)
 (hm : RecsP (fun k _ => k < w.heap.size) w v more) (hml : more.length ≤ 1000) (hok : ∀ x ∈ Hd.recs h ++ more, Sg.Ok f x) (hrl : (Hd.recs h).length ≤ 1000) :
 Calls Tryz.prog 14 #[.int .i64 f, .agg (Hd.cells h vi va vc), v] w (Makes w 5 (Sg.file f h more)) := by
 obtain ⟨w1, e1, hx1, hB1, hs1⟩ := box_hard w h vi va vc
 have HS1 : Hid (SixAt w1 w.heap.size 27 h.prom h.base vi va vc) := SixAt.of hx1 hr
 have HB1 := Lib.hid hB1
 have HM : Hid (∀ W, Below w.heap.size w W → RecsP (fun k _ => k < w.heap.size) W v more) := fun W hb => ListP.below hm hb
 have HREC := Lib.hid (refRecords_any h vi va vc w1 (hr.below hB1) hv ⟨by omega, by omega⟩)
 have HOK := Lib.hid hok; have HML := Lib.hid hml; have HRL := Lib.hid hrl
 have hf0 : -9223372036854775808 ≤ f := by omega
 have hf1 : f ≤ 9223372036854775807 := by omega
 have HF := Lib.hid hf
 obtain ⟨vo, vcap, hvs, _, _⟩ := ListP.shape hm
 obtain ⟨R, hR⟩ : ∃ R, R = Hd.recs h := ⟨_, rfl⟩
 have HR := Lib.hid hR
 rw [← hR] at HREC HOK HRL
 clear hx1 hB1 hs1 hr hv hl hm hml hok hrl hf hvs hR
 go_enter Tryz.func14, Tryz.ntmps14
 go_wp2_with (refine load_hard rfl _ rfl rfl HS1.out ?_)
 refine HREC.out.mono ?_
 rintro e w2 ⟨v2, rfl, ho2, hb2⟩
 obtain ⟨ro, rc, hvr⟩ := RecsN.shape ho2
 have HO2 := Lib.hid ho2
 have HB2' : Hid (Below w1.heap.size w1 w2) := hb2
 have HB2 : Hid (Below w.heap.size w w2) := HB1.out.trans (hb2.mono HB1.out.size)
 obtain ⟨rn, hrn⟩ : ∃ n, n = R.length := ⟨_, rfl⟩
 rw [← hrn] at hvr
 have HRN := Lib.hid hrn
 subst hvr
 clear ho2 hb2 hrn
 go_wp2_with fail
 refine (bytes_any f w2 hf0 hf1).mono ?_
 rintro e w3 ⟨v3, rfl, ho3, hb3⟩
 have HO3 := Lib.hid ho3
 have HB3 : Hid (Below w2.heap.size w2 w3) := hb3
 clear ho3 hb3
 go_wp2_with fail
 refine (bytes_any (rn : Int) w3 (by omega) (by have := HRN.out; have := HRL.out; omega)).mono ?_
 rw [Int.toNat_natCast]
 rintro e w4 ⟨v4, rfl, ho4, hb4⟩
 have HO4 := Lib.hid ho4
 have HB4 : Hid (Below w2.heap.size w2 w4) := HB3.out.trans (hb4.mono HB3.out.size)
 have HO34 := Lib.hid (HO3.out.keep hb4 (Nat.le_refl _))
 clear ho4 hb4
 have hl1 := enc_nine (n := f.toNat) (by omega)
 have hl2 := enc_nine (n := rn) (by have := HRN.out; have := HRL.out; omega)
 go_wp2_with (at_builtin; refine append_bytes rfl _ _ 24 5 rfl Tryz.underlying24 info_u8 w2.heap.size (enc f.toNat) (enc rn) v3 v4 rfl rfl HO34.out HO4.out.reads (by omega) w2 HB4.out (Nat.le_refl _) ?_; intro v5 w5 ho5 hb5 hg5; have HO5 := Lib.hid ho5; have HB5 : Hid (Below w2.heap.size w2 w5) := hb5; clear ho5 hb5 hg5)
 refine (refFrame_any v5 (enc f.toNat ++ enc rn) w5 HO5.out.reads (by rw [List.length_append]; omega)).mono ?_
 rintro e w6 ⟨v6, rfl, ho6, hb6⟩
 have HO6 := Lib.hid ho6
 have HB6 : Hid (Below w2.heap.size w2 w6) := HB5.out.trans (hb6.mono HB5.out.size)
 have HSZ : Hid (w1.heap.size ≤ w2.heap.size ∧ w2.heap.size ≤ w5.heap.size) := ⟨HB2'.out.size, HB5.out.size⟩
 have HL6 := Lib.hid (ListO.below HO2.out HB6.out)
 clear ho6 hb6 hl1 hl2 HO34 HO4 HO3
 go_wp2_with (at_builtin; refine step_recsN rfl _ _ rfl w1.heap.size (.slice ro rn rc) v R more rfl rfl HL6.out (ListP.imp (HM.out w6 (HB2.out.trans (HB6.out.mono HB2.out.size))) fun b _ _ _ _ hb => Nat.lt_of_lt_of_le hb HB1.out.size) (by have := HRL.out; have := HML.out; omega) (Nat.le_refl _) (Nat.le_trans HB2'.out.size HB6.out.size) ?_; intro v7 w7 ho7 hg7; have HO7 := Lib.hid ho7; have HG7 := Lib.hid hg7; clear ho7 hg7)
 obtain ⟨lo, lc, hvl⟩ := RecsN.shape HO7.out
 obtain ⟨L, hL⟩ : ∃ L, L = R ++ more := ⟨_, rfl⟩
 rw [← hL] at HO7 hvl HOK
 have HLL := Lib.hid hL
 obtain ⟨N, hN⟩ : ∃ n, n = L.length := ⟨_, rfl⟩
 rw [← hN] at hvl
 have HN := Lib.hid hN
 have hNb : N ≤ 2000 := by have := HRL.out; have := HML.out; rw [hN, hL, List.length_append]; omega
 subst hvl
 have HB7 : Hid (Below w1.heap.size w1 w7) := RecsN.behind HL6.out (HB2'.out.trans (HB6.out.mono HB2'.out.size)) (Nat.le_refl _) HG7.out
 have HQ7 : Hid (RecsP (fun b t => b < w1.heap.size ∨ t = 42) w7 (.slice lo N lc) L) := ListO.reads (ListO.imp HO7.out fun b cs t fr e hb => .inl hb) cellR_ok fun g e => .inr rfl
 have HY7 : Hid (Owns w7 w1.heap.size 5 v6 (Frm.flat (Sg.first f rn :: (L.take 0).map (Rt.bytesIn f)))) := by
  have h1 : Owns w7 w5.heap.size 5 v6 (Frm.frame (enc f.toNat ++ enc rn)) := HO6.out.stays fun g e => by
   obtain ⟨cs, hc, hb⟩ := HO6.out.cells e
   refine HG7.out.block g (lt_of_obj hc) fun e2 => ?_
   obtain ⟨cs2, hc2, _⟩ := ListO.blocks HO2.out e2.symm
   have := lt_of_obj hc2
   have := HSZ.out.2
   omega
  have h2 := h1.mono (Nat.le_trans HSZ.out.1 HSZ.out.2)
  show Owns _ _ _ _ _
  simpa [Frm.flat, Sg.first] using h2
 have HEND : Hid (Frm.flat (Sg.first f rn :: L.map (Rt.bytesIn f)) = Sg.file f h more) := by
  show _ = _
  unfold Sg.file Sg.bodies
  rw [← HR.out, HRN.out, HLL.out]
 clear hN hL HO7 HG7 HO6
 go_wp2
 go_loopw [8, 9] (fun y i wr => ∃ k : Nat, i = .int .i64 (k : Int) ∧ k ≤ N ∧ Hid (RecsP (fun b t => b < w1.heap.size ∨ t = 42) wr (.slice lo N lc) L) ∧ Hid (Owns wr w1.heap.size 5 y (Frm.flat (Sg.first f rn :: (L.take k).map (Rt.bytesIn f)))) ∧ Hid (Below w1.heap.size w1 wr)) (fun _ i _ => N - (intOf i).toNat)
 case atStart => exact ⟨0, rfl, by omega, HQ7.out, HY7.out, HB7.out⟩
 case round =>
  obtain ⟨k, rfl, hk, HQ, HY, HBr⟩ := hrel
  obtain ⟨yo, yc, hyy⟩ := HY.out.reads.shape
  obtain ⟨yn, hyn⟩ : ∃ m, m = (Frm.flat (Sg.first f rn :: (L.take k).map (Rt.bytesIn f))).length := ⟨_, rfl⟩
  rw [← hyn] at hyy
  clear hyn
  subst hyy
  by_cases hlt : k < N
  ·obtain ⟨x, hxl⟩ : ∃ x, L[k]? = some x := ⟨_, List.getElem?_eq_getElem (by have := HN.out; omega)⟩
   obtain ⟨g, off, hlo, _, hc⟩ := ListP.places HQ.out cellR_first (by have := HN.out; omega)
   subst hlo
   obtain ⟨u, hu, hcell⟩ := hc k x hxl
   have HXO := Lib.hid (HOK.out x (List.mem_of_getElem? hxl))
   have HCELL : Hid (∀ j v, (Re.cells x u)[j]? = some v → wr.cell? ⟨g, off + k * 12 + j, none⟩ = some v) := fun j v hj => by rw [Nat.add_assoc]; exact hcell wr (Below.refl _ _) j v hj
   have HU := Lib.hid hu.1
   have HTK : Hid (Frm.flat (Sg.first f rn :: (L.take k).map (Rt.bytesIn f)) ++ Frm.frame (Rt.bytesIn f x) = Frm.flat (Sg.first f rn :: (L.take (k + 1)).map (Rt.bytesIn f))) := by show _ = _; rw [List.take_add_one, hxl]; simp [Frm.flat]
   have HFL : Hid ((Frm.flat (Sg.first f rn :: (L.take k).map (Rt.bytesIn f))).length + (Frm.frame (Rt.bytesIn f x)).length ≤ 140737488355328) := by
    have h1 := Sg.flat_len (f := f) (Sg.first f rn) (L.take k) (fun c hc => HOK.out c (List.mem_of_mem_take hc))
    have h2 : (L.take k).length ≤ L.length := List.length_take_le' _ _
    have h3 := Frm.frame_len (Sg.first f rn)
    have h4 := Frm.frame_len (Rt.bytesIn f x)
    have h5 := enc_nine (n := (Rt.bytesIn f x).length) (by have := HXO.out.2.2.2.2; omega)
    have h6 := HXO.out.2.2.2.2
    have h7 := enc_nine (n := f.toNat) (by omega)
    have h8 := enc_nine (n := rn) (by have := HRN.out; have := HRL.out; omega)
    have h9 : (Sg.first f rn).length = (enc f.toNat).length + (enc rn).length := by simp [Sg.first]
    have h10 := enc_nine (n := (Sg.first f rn).length) (by omega)
    have := HN.out
    show _ ≤ _
    omega
   clear hc hxl hu hcell
   go_wp2_with (refine load_rec_at rfl _ rfl g (off + k * 12) x u rfl HCELL.out ?_)
   refine (refBytesRt_any f x u wr HF.out HXO.out.1 HU.out HXO.out.2.1 HXO.out.2.2.1 HXO.out.2.2.2.1).mono ?_
   rintro e w9 ⟨v9, rfl, ho9, hb9⟩
   have HO9 := Lib.hid ho9
   have HB9 : Hid (Below wr.heap.size wr w9) := hb9
   clear ho9 hb9 HCELL HU
   go_wp2_with fail
   refine (refFrame_any v9 (Rt.bytesIn f x) w9 HO9.out.reads (by have := HXO.out.2.2.2.2; omega)).mono ?_
   rintro e w10 ⟨v10, rfl, ho10, hb10⟩
   have HO10 := Lib.hid ho10
   have HB10 : Hid (Below wr.heap.size wr w10) := HB9.out.trans (hb10.mono HB9.out.size)
   have HBX : Hid (Below w1.heap.size w1 w10) := HBr.out.trans (HB10.out.mono HBr.out.size)
   have HY10 := Lib.hid (HY.out.keep HB10.out (Nat.le_refl _))
   clear ho10 hb10 HO9
   go_wp2_with (at_builtin; refine append_bytes rfl _ _ 24 5 rfl Tryz.underlying24 info_u8 w1.heap.size _ (Frm.frame (Rt.bytesIn f x)) (.slice yo yn yc) v10 rfl rfl HY10.out HO10.out.reads HFL.out w1 HBX.out (Nat.le_refl _) ?_; intro v11 w11 ho11 hb11 hg11; have HO11 := Lib.hid ho11; have HB11 : Hid (Below w1.heap.size w1 w11) := hb11; have HG11 := Lib.hid hg11; clear ho11 hb11 hg11)
   rw [HTK.out] at HO11
   have HQ11 : Hid (RecsP (fun b t => b < w1.heap.size ∨ t = 42) w11 (.slice (some ⟨g, off, none⟩) N lc) L) := (HQ.out.keep (Keep.of_below HB10.out)).keep (Keep.of_grown HG11.out fun g' cs t fr e hcs => by
    obtain ⟨cs', hc', hb'⟩ := HY10.out.cells e
    rw [hc'] at hcs
    cases hcs
    rintro (h1 | h1)
    ·omega
    ·exact absurd h1 (by decide))
   go_roundw
   case rel => exact ⟨k + 1, by go_num, by omega, HQ11.out, HO11.out, HB11.out⟩
   case measure => simp [intOf]; omega
  ·obtain rfl : k = N := by omega
   have HFIN : Hid (Owns wr w1.heap.size 5 (.slice yo yn yc) (Sg.file f h more)) := by
    have h1 := HY.out
    rw [List.take_of_length_le (by have := HN.out; omega), HEND.out] at h1
    exact h1
   go_wp2
   go_ret
   exact ⟨_, rfl, HFIN.out.mono HB1.out.size, HB1.out.trans (HBr.out.mono HB1.out.size)⟩
theorem refBehind_any (h : Hd.Hard) (vi va vc v : Value) (more : List Re.Rec) (w : World) (hr : HardR w h vi va vc) (hv : Hd.Valid h) (hl : h.acc.length ≤ 100 ∧ h.chs.length ≤ 100)
 (hm : RecsP (fun k _ => k < w.heap.size) w v more) (hml : more.length ≤ 500) (hrl : (Hd.recs h).length ≤ 500) (hs : ∀ x ∈ Hd.recs h ++ more, x.cmd.Short 140737488355328) :
 Calls Tryz.prog 20 #[.agg (Hd.cells h vi va vc), v] w (MadeH w (Hd.of (Hd.recs h ++ more))) := by
 obtain ⟨w1, e1, hx1, hB1, hs1⟩ := box_hard w h vi va vc
 obtain ⟨w2, e2, hz2, hB2, hs2⟩ := box_zero w1 27
 have HS2 : Hid (SixAt w2 w.heap.size 27 h.prom h.base vi va vc) := (SixAt.of hx1 hr).below hB2 (by omega)
 have HZ2 := Lib.hid hz2
 have HB2 : Hid (Below w.heap.size w w2) := hB1.trans (hB2.mono hB1.size)
 have HNE : Hid (w1.heap.size = w.heap.size + 1) := hs1
 have HM : Hid (∀ W, Below w.heap.size w W → RecsP (fun k _ => k < w.heap.size) W v more) := fun W hb => ListP.below hm hb
 have HREC := Lib.hid (refRecords_any h vi va vc w2 (hr.below HB2.out) hv ⟨by omega, by omega⟩)
 have HML := Lib.hid hml; have HRL := Lib.hid hrl; have HSH := Lib.hid hs
 obtain ⟨R, hR⟩ : ∃ R, R = Hd.recs h := ⟨_, rfl⟩
 rw [← hR] at HREC HRL HSH ⊢
 clear hx1 hz2 hB1 hB2 hs1 hs2 hr hv hl hm hml hrl hs hR
 go_enter Tryz.func20, Tryz.ntmps20
 go_wp2_with (refine load_hard rfl _ rfl rfl HS2.out ?_)
 refine HREC.out.mono ?_
 rintro e w3 ⟨v3, rfl, ho3, hb3⟩
 have HO3 := Lib.hid ho3
 have HB3 : Hid (Below w2.heap.size w2 w3) := hb3
 have HBW : Hid (Below w.heap.size w w3) := HB2.out.trans (hb3.mono HB2.out.size)
 have HZ3 := Lib.hid (HZ2.out.below hb3 HZ2.out.lies.lt)
 clear ho3 hb3
 go_wp2_with (at_builtin; refine step_recsN rfl _ _ rfl w2.heap.size v3 v R more rfl rfl HO3.out (ListP.imp (HM.out w3 HBW.out) fun b _ _ _ _ hb => Nat.lt_of_lt_of_le hb HB2.out.size) (by have := HRL.out; have := HML.out; omega) (Nat.le_refl _) HB3.out.size ?_; intro v4 w4 ho4 hg4; have HO4 := Lib.hid ho4; have HB4 : Hid (Below w2.heap.size w2 w4) := RecsN.behind HO3.out HB3.out (Nat.le_refl _) hg4; clear ho4 hg4)
 have HZ4 := Lib.hid (HZ2.out.below HB4.out HZ2.out.lies.lt)
 have HBW4 : Hid (Below w.heap.size w w4) := HB2.out.trans (HB4.out.mono HB2.out.size)
 refine (refOf_any v4 (R ++ more) w4 (RecsN.reads HO4.out) HSH.out (by rw [List.length_append]; have := HRL.out; have := HML.out; omega)).mono ?_
 rintro e w5 ⟨ti, ta, tc, rfl, hr5, hb5⟩
 have HR5 := Lib.hid hr5
 have HB5 : Hid (Below w.heap.size w w5) := HBW4.out.trans (hb5.mono HBW4.out.size)
 have HZ5 := Lib.hid (HZ4.out.below hb5 HZ4.out.lies.lt)
 have HX5 : Hid (SixAt (w5.alloc (.cells (Hd.cells (Hd.of (R ++ more)) ti ta tc) 27)) w5.heap.size 27 (Hd.of (R ++ more)).prom (Hd.of (R ++ more)).base ti ta tc) := ⟨Lies.new _ _ _, hr5.sl.1, hr5.sl.2.1, hr5.sl.2.2⟩
 clear hr5 hb5
 go_wp2_with (refine store_hard rfl _ _ rfl rfl HZ5.out HX5.out rfl ?_; intro w9 hx9 hg9; have HX9 := Lib.hid hx9; have HG9 := Lib.hid hg9; clear hx9 hg9)
 refine ret_hard1 rfl rfl HX9.out rfl ?_
 exact ⟨_, _, _, rfl, HR5.out.over HZ5.out HG9.out, HB5.out.grown HG9.out HB5.out.size (by rintro j hj; cases hj; rw [HNE.out]; omega)⟩
theorem RecsP.take {p : Nat → TypeId → Prop} {w : World} {ao : Option Addr} {n cap : Nat} {l : List Re.Rec} (h : RecsP p w (.slice ao n cap) l) {m : Nat} (hm : m ≤ l.length) :
 ∃ ao2, sliced ao 0 m cap 12 = .slice ao2 m cap ∧ RecsP p w (.slice ao2 m cap) (l.take m) := by
 obtain ⟨ps, e, ⟨h1, h2⟩, h3⟩ := h
 subst e
 rw [List.length_map] at hm
 have hl : (rowsOf Re.cells ps).length = ps.length := by simp [rowsOf]
 obtain ⟨hn, hc, _⟩ := ReadsR.len h1
 rw [hl] at hn
 obtain ⟨ao2, hs, hr⟩ := ReadsR.part h1 0 m cap (Nat.zero_le _) (by omega) (by omega) (Nat.le_refl _)
 rw [Nat.sub_zero, Nat.sub_zero] at hs hr
 have e1 : ((rowsOf Re.cells ps).take m).drop 0 = rowsOf Re.cells (ps.take m) := by simp [rowsOf]
 rw [e1] at hr
 refine ⟨ao2, hs, ps.take m, by rw [List.map_take], ⟨hr, fun h0 => ?_⟩, fun q hq => h3 q (List.mem_of_mem_take hq)⟩
 have h0' : 0 < ps.length := by simp [rowsOf] at h0; omega
 obtain ⟨x, n', c', cs, t, fr, hv, hb, hp⟩ := h2 (by rw [hl]; exact h0')
 simp only [Value.slice.injEq] at hv
 obtain ⟨rfl, _, _⟩ := hv
 obtain ⟨x2, e2, hb2⟩ : ∃ x2 : Addr, ao2 = some x2 ∧ x2.block = x.block := by
  have hm0 : 0 < m := by simp [rowsOf] at h0; omega
  simp only [sliced, Value.slice.injEq] at hs
  obtain ⟨rfl, _⟩ := hs
  rw [if_neg (by omega)]
  exact ⟨_, rfl, add_block _ _⟩
 subst e2
 rw [← hb2] at hb hp
 exact ⟨x2, _, _, cs, t, fr, rfl, hb, hp⟩
theorem RecsP.first {p : Nat → TypeId → Prop} {w : World} {ao : Option Addr} {n cap : Nat} {l : List Re.Rec} (h : RecsP p w (.slice ao n cap) l) {m : Nat} (hm : m ≤ l.length) : RecsP p w (.slice ao m cap) (l.take m) := by
 obtain ⟨ps, e, ⟨h1, h2⟩, h3⟩ := h
 subst e
 rw [List.length_map] at hm
 have hl : (rowsOf Re.cells ps).length = ps.length := by simp [rowsOf]
 obtain ⟨ao', cap', hv, g1, g2, g3, g4⟩ := h1
 simp only [Value.slice.injEq] at hv
 obtain ⟨rfl, hn, rfl⟩ := hv
 have e1 : rowsOf Re.cells (ps.take m) = (rowsOf Re.cells ps).take m := by simp [rowsOf]
 have hl2 : (rowsOf Re.cells (ps.take m)).length = m := by simp [rowsOf]; omega
 refine ⟨ps.take m, by rw [List.map_take], ⟨⟨ao, cap, by rw [hl2], by rw [hl2]; omega, g2, g3, fun x hx i r hr j u hu => g4 x hx i r ?_ j u hu⟩, fun h0 => ?_⟩, fun q hq => h3 q (List.mem_of_mem_take hq)⟩
 ·rw [e1, List.getElem?_take] at hr
  split at hr
  ·exact hr
  ·cases hr
 ·obtain ⟨x, n', c', cs, t, fr, hv, hb, hp⟩ := h2 (by rw [hl]; rw [hl2] at h0; omega)
  simp only [Value.slice.injEq] at hv
  obtain ⟨rfl, _, _⟩ := hv
  exact ⟨x, _, _, cs, t, fr, rfl, hb, hp⟩
def Sg.ic (x : Nat) : Array Value := #[.int .i64 (x : Int)]
theorem Sg.ic_ok (x : Nat) : (Sg.ic x).size = 1 ∧ (Sg.ic x).all (·.oneCell') = true := ⟨rfl, by simp [Sg.ic, Value.oneCell']⟩
theorem info_intN : (Tryz.prog.info? 3).map (fun i => (i.zero, i.size, i.bytes)) = some (some (.int .i64 0), 1, 8) := by kernel_rfl
def Sg.endsTo (f : Int) (h : Hd.Hard) (more : List Re.Rec) (k : Nat) : List (Array Value) := ((List.range k).map (Frm.ends (Sg.bodies f h more))).map Sg.ic
theorem Sg.endsTo_snoc (f : Int) (h : Hd.Hard) (more : List Re.Rec) (k : Nat) : Sg.endsTo f h more (k + 1) = Sg.endsTo f h more k ++ [Sg.ic (Frm.ends (Sg.bodies f h more) k)] := by simp [Sg.endsTo, List.range_succ]
theorem Sg.endsTo_len (f : Int) (h : Hd.Hard) (more : List Re.Rec) (k : Nat) : (Sg.endsTo f h more k).length = k := by simp [Sg.endsTo]
theorem Sg.ends_head (f : Int) (h : Hd.Hard) (more : List Re.Rec) {k : Nat} (hk : k ≤ (Hd.recs h).length) : Frm.ends (Sg.bodies f h more) k = (Frm.flat (Sg.first f (Hd.recs h).length :: ((Hd.recs h).take k).map (Rt.bytesIn f))).length := by
 unfold Frm.ends Sg.bodies
 rw [List.take_succ_cons, ← List.map_take, List.take_append_of_le_length hk]
theorem Sg.ends_more (f : Int) (h : Hd.Hard) (more : List Re.Rec) (q : Nat) : Frm.ends (Sg.bodies f h more) ((Hd.recs h).length + q) = (Sg.file f h (more.take q)).length := by
 unfold Frm.ends Sg.file Sg.bodies
 rw [List.take_succ_cons, ← List.map_take, List.take_length_add_append]
def MadeEnds (f : Int) (h : Hd.Hard) (more : List Re.Rec) (w : World) (e : Ending) (w' : World) : Prop := ∃ u, e = .returned u ∧ OwnsR w' w.heap.size 3 1 u (Sg.endsTo f h more ((Hd.recs h).length + more.length + 1)) ∧ Below w.heap.size w w'
theorem refEnds_any (f : Int) (hf : f = 1 ∨ f = 2) (h : Hd.Hard) (vi va vc v : Value) (more : List Re.Rec) (w : World) (hr : HardR w h vi va vc) (hv : Hd.Valid h) (hl : h.acc.length ≤ 100 ∧ h.chs.length ≤ 100)
 (hm : RecsP (fun k _ => k < w.heap.size) w v more) (hml : more.length ≤ 1000) (hok : ∀ x ∈ Hd.recs h ++ more, Sg.Ok f x) (hrl : (Hd.recs h).length ≤ 1000) :
 Calls Tryz.prog 17 #[.int .i64 f, .agg (Hd.cells h vi va vc), v] w (MadeEnds f h more w) := by
 obtain ⟨w1, e1, hx1, hB1, hs1⟩ := box_hard w h vi va vc
 have HS1 : Hid (SixAt w1 w.heap.size 27 h.prom h.base vi va vc) := SixAt.of hx1 hr
 have HB1 := Lib.hid hB1
 have HM : Hid (∀ W, Below w.heap.size w W → RecsP (fun k _ => k < w.heap.size) W v more) := fun W hb => ListP.below hm hb
 have HRW : Hid (∀ W, Below w.heap.size w W → HardR W h vi va vc) := fun W hb => hr.below hb
 have HV := Lib.hid hv; have HLL := Lib.hid hl
 have HOK := Lib.hid hok; have HML := Lib.hid hml; have HRL := Lib.hid hrl
 have hf0 : -9223372036854775808 ≤ f := by omega
 have hf1 : f ≤ 9223372036854775807 := by omega
 have HF := Lib.hid hf
 have HREC := Lib.hid (fun W (hb : Below w.heap.size w W) => refRecords_any h vi va vc W (HRW.out W hb) hv ⟨by omega, by omega⟩)
 obtain ⟨vo, vcap, rfl, hvc1, hvc2⟩ := ListP.shape hm
 obtain ⟨mn, hmn⟩ : ∃ n, n = more.length := ⟨_, rfl⟩
 rw [← hmn] at HM HML hvc1 ⊢
 have HCAP : Hid (mn ≤ vcap) := hvc1
 have HMN := Lib.hid hmn
 obtain ⟨R, hR⟩ : ∃ R, R = Hd.recs h := ⟨_, rfl⟩
 have HR := Lib.hid hR
 rw [← hR] at HREC HOK HRL
 obtain ⟨rn, hrn⟩ : ∃ n, n = R.length := ⟨_, rfl⟩
 have HRN := Lib.hid hrn
 have hb1 : rn ≤ 1000 := by rw [hrn]; exact HRL.out
 have hb2 : mn ≤ 1000 := HML.out
 have HE : Hid (∀ W u, Below w1.heap.size w1 W → OwnsR W w1.heap.size 3 1 u (Sg.endsTo f h more (rn + mn + 1)) → MadeEnds f h more w (.returned u) W) := fun W u hb ho => ⟨u, rfl, by
  have := ho.mono hB1.size
  rwa [hrn, hR, hmn] at this, hB1.trans (hb.mono hB1.size)⟩
 obtain ⟨Q, hQ⟩ : ∃ Q, Q = MadeEnds f h more w := ⟨_, rfl⟩
 rw [← hQ] at HE ⊢
 clear hx1 hB1 hs1 hr hv hl hm hml hok hrl hf hmn hR hrn hQ hvc2 hvc1
 go_enter Tryz.func17, Tryz.ntmps17
 go_wp2_with (refine load_hard rfl _ rfl rfl HS1.out ?_)
 refine (HREC.out w1 HB1.out).mono ?_
 rintro e w2 ⟨v2, rfl, ho2, hb2'⟩
 obtain ⟨ro, rc, hvr⟩ := RecsN.shape ho2
 rw [← HRN.out] at hvr
 subst hvr
 have HB2 : Hid (Below w1.heap.size w1 w2) := hb2'
 clear ho2 hb2'
 go_wp2
 go_loopw [8, 9] (fun y i wr => ∃ k : Nat, i = .int .i64 (k : Int) ∧ k ≤ rn + mn + 1 ∧ Hid (OwnsR wr w1.heap.size 3 1 y (Sg.endsTo f h more k)) ∧ Hid (Below w1.heap.size w1 wr)) (fun _ i _ => rn + mn + 1 - (intOf i).toNat)
 case atStart => exact ⟨0, rfl, by omega, OwnsR.empty _ _ _ _, HB2.out⟩
 case round =>
  obtain ⟨k, rfl, hk, HY, HBr⟩ := hrel
  obtain ⟨zo, zc, hyy⟩ := HY.out.shape
  rw [Sg.endsTo_len] at hyy
  subst hyy
  have HBW : Hid (Below w.heap.size w wr) := HB1.out.trans (HBr.out.mono HB1.out.size)
  have HSr := Lib.hid (HS1.out.below HBr.out HS1.out.lies.lt)
  by_cases hlt : k < rn + mn + 1
  ·have hle : (k : Int) ≤ (rn : Int) + (mn : Int) := by omega
   by_cases hkr : k < rn
   ·have HEK : Hid (Frm.ends (Sg.bodies f h more) k = (Frm.flat (Sg.first f rn :: (R.take k).map (Rt.bytesIn f))).length) := by show _ = _; rw [Sg.ends_head f h more (by rw [← HR.out, ← HRN.out]; omega), ← HR.out, ← HRN.out]
    have hkr2 : (k : Int) < (rn : Int) := by omega
    obtain ⟨wo, hwo⟩ : ∃ wo, wo = wr := ⟨_, rfl⟩
    subst hwo
    go_wp2_with (refine load_hard rfl _ rfl rfl HSr.out ?_)
    refine (HREC.out wo HBW.out).mono ?_
    rintro e w3 ⟨v3, rfl, ho3, hb3⟩
    obtain ⟨ro3, rc3, hvr3⟩ := RecsN.shape ho3
    rw [← HRN.out] at hvr3
    subst hvr3
    have HO3 := Lib.hid ho3
    have HB3 : Hid (Below wo.heap.size wo w3) := hb3
    clear ho3 hb3
    go_wp2_with fail
    refine (bytes_any f w3 hf0 hf1).mono ?_
    rintro e w4 ⟨v4, rfl, ho4, hb4⟩
    have HO4 := Lib.hid ho4
    have HB4 : Hid (Below w3.heap.size w3 w4) := hb4
    clear ho4 hb4
    go_wp2_with fail
    refine (bytes_any (rn : Int) w4 (by omega) (by omega)).mono ?_
    rw [Int.toNat_natCast]
    rintro e w5 ⟨v5, rfl, ho5, hb5⟩
    have HO5 := Lib.hid ho5
    have HB5 : Hid (Below w3.heap.size w3 w5) := HB4.out.trans (hb5.mono HB4.out.size)
    have HO45 := Lib.hid (HO4.out.keep hb5 (Nat.le_refl _))
    clear ho5 hb5
    have hl1 := enc_nine (n := f.toNat) (by omega)
    have hl2 := enc_nine (n := rn) (by omega)
    go_wp2_with (at_builtin; refine append_bytes rfl _ _ 24 5 rfl Tryz.underlying24 info_u8 w3.heap.size (enc f.toNat) (enc rn) v4 v5 rfl rfl HO45.out HO5.out.reads (by omega) w3 HB5.out (Nat.le_refl _) ?_; intro v6 w6 ho6 hb6 hg6; have HO6 := Lib.hid ho6; have HB6 : Hid (Below w3.heap.size w3 w6) := hb6; clear ho6 hb6 hg6)
    refine (refFrame_any v6 (enc f.toNat ++ enc rn) w6 HO6.out.reads (by rw [List.length_append]; omega)).mono ?_
    rintro e w7 ⟨v7, rfl, ho7, hb7⟩
    have HO7 := Lib.hid ho7
    have HB7 : Hid (Below w3.heap.size w3 w7) := HB6.out.trans (hb7.mono HB6.out.size)
    have HBo : Hid (Below wo.heap.size wo w7) := HB3.out.trans (HB7.out.mono HB3.out.size)
    have HQ7 : Hid (RecsP (fun b t => b < wo.heap.size ∨ t = 42) w7 (.slice ro3 rn rc3) R) := ListO.reads (ListO.imp (ListO.below HO3.out HB7.out) fun b cs t fr e hb => .inl hb) cellR_ok fun g e => .inr rfl
    have HY7 : Hid (Owns w7 wo.heap.size 5 v7 (Frm.flat (Sg.first f rn :: (R.take 0).map (Rt.bytesIn f)))) := by
     have h2 := HO7.out.mono (Nat.le_trans HB3.out.size HB6.out.size)
     show Owns _ _ _ _ _
     simpa [Frm.flat, Sg.first] using h2
    clear hl1 hl2 HO45 HO4 HO5 HO6 HO7
    go_wp2
    go_loopw [11, 12] (fun y j wr => ∃ q : Nat, j = .int .i64 (q : Int) ∧ q ≤ k ∧ Hid (RecsP (fun b t => b < wo.heap.size ∨ t = 42) wr (.slice ro3 rn rc3) R) ∧ Hid (Owns wr wo.heap.size 5 y (Frm.flat (Sg.first f rn :: (R.take q).map (Rt.bytesIn f)))) ∧ Hid (Below wo.heap.size wo wr)) (fun _ j _ => k - (intOf j).toNat)
    case atStart => exact ⟨0, rfl, by omega, HQ7.out, HY7.out, HBo.out⟩
    case round =>
     obtain ⟨q, rfl, hq, HQ, HZ, HBq⟩ := hrel
     obtain ⟨yo, yc, hyy⟩ := HZ.out.reads.shape
     obtain ⟨yn, hyn⟩ : ∃ m, m = (Frm.flat (Sg.first f rn :: (R.take q).map (Rt.bytesIn f))).length := ⟨_, rfl⟩
     rw [← hyn] at hyy
     have HYN := Lib.hid hyn
     clear hyn
     subst hyy
     by_cases hlq : q < k
     ·obtain ⟨x, hxl⟩ : ∃ x, R[q]? = some x := ⟨_, List.getElem?_eq_getElem (by have := HRN.out; omega)⟩
      obtain ⟨g, off, hlo, _, hc⟩ := ListP.places HQ.out cellR_first (by have := HRN.out; omega)
      subst hlo
      obtain ⟨u, hu, hcell⟩ := hc q x hxl
      have HXO := Lib.hid (HOK.out x (List.mem_append_left _ (List.mem_of_getElem? hxl)))
      have HCELL : Hid (∀ j v, (Re.cells x u)[j]? = some v → wr.cell? ⟨g, off + q * 12 + j, none⟩ = some v) := fun j v hj => by rw [Nat.add_assoc]; exact hcell wr (Below.refl _ _) j v hj
      have HU := Lib.hid hu.1
      have HTK : Hid (Frm.flat (Sg.first f rn :: (R.take q).map (Rt.bytesIn f)) ++ Frm.frame (Rt.bytesIn f x) = Frm.flat (Sg.first f rn :: (R.take (q + 1)).map (Rt.bytesIn f))) := by show _ = _; rw [List.take_add_one, hxl]; simp [Frm.flat]
      have HFL : Hid ((Frm.flat (Sg.first f rn :: (R.take q).map (Rt.bytesIn f))).length + (Frm.frame (Rt.bytesIn f x)).length ≤ 140737488355328) := by
       have h1 := Sg.flat_len (f := f) (Sg.first f rn) (R.take q) (fun c hc => HOK.out c (List.mem_append_left _ (List.mem_of_mem_take hc)))
       have h2 : (R.take q).length ≤ R.length := List.length_take_le' _ _
       have h3 := Frm.frame_len (Sg.first f rn)
       have h4 := Frm.frame_len (Rt.bytesIn f x)
       have h5 := enc_nine (n := (Rt.bytesIn f x).length) (by have := HXO.out.2.2.2.2; omega)
       have h6 := HXO.out.2.2.2.2
       have h7 := enc_nine (n := f.toNat) (by omega)
       have h8 := enc_nine (n := rn) (by omega)
       have h9 : (Sg.first f rn).length = (enc f.toNat).length + (enc rn).length := by simp [Sg.first]
       have h10 := enc_nine (n := (Sg.first f rn).length) (by omega)
       have := HRN.out
       show _ ≤ _
       omega
      clear hc hxl hu hcell
      go_wp2_with (refine load_rec_at rfl _ rfl g (off + q * 12) x u rfl HCELL.out ?_)
      refine (refBytesRt_any f x u wr HF.out HXO.out.1 HU.out HXO.out.2.1 HXO.out.2.2.1 HXO.out.2.2.2.1).mono ?_
      rintro e w9 ⟨v9, rfl, ho9, hb9⟩
      have HO9 := Lib.hid ho9
      have HB9 : Hid (Below wr.heap.size wr w9) := hb9
      clear ho9 hb9 HCELL HU
      go_wp2_with fail
      refine (refFrame_any v9 (Rt.bytesIn f x) w9 HO9.out.reads (by have := HXO.out.2.2.2.2; omega)).mono ?_
      rintro e w10 ⟨v10, rfl, ho10, hb10⟩
      have HO10 := Lib.hid ho10
      have HB10 : Hid (Below wr.heap.size wr w10) := HB9.out.trans (hb10.mono HB9.out.size)
      have HBX : Hid (Below wo.heap.size wo w10) := HBq.out.trans (HB10.out.mono HBq.out.size)
      have HZ10 := Lib.hid (HZ.out.keep HB10.out (Nat.le_refl _))
      clear ho10 hb10 HO9
      go_wp2_with (at_builtin; refine append_bytes rfl _ _ 24 5 rfl Tryz.underlying24 info_u8 wo.heap.size _ (Frm.frame (Rt.bytesIn f x)) (.slice yo yn yc) v10 rfl rfl HZ10.out HO10.out.reads HFL.out wo HBX.out (Nat.le_refl _) ?_; intro v11 w11 ho11 hb11 hg11; have HO11 := Lib.hid ho11; have HB11 : Hid (Below wo.heap.size wo w11) := hb11; have HG11 := Lib.hid hg11; clear ho11 hb11 hg11)
      rw [HTK.out] at HO11
      have HQ11 : Hid (RecsP (fun b t => b < wo.heap.size ∨ t = 42) w11 (.slice (some ⟨g, off, none⟩) rn rc3) R) := (HQ.out.keep (Keep.of_below HB10.out)).keep (Keep.of_grown HG11.out fun g' cs t fr e hcs => by
       obtain ⟨cs', hc', hb'⟩ := HZ10.out.cells e
       rw [hc'] at hcs
       cases hcs
       rintro (h1 | h1)
       ·omega
       ·exact absurd h1 (by decide))
      go_roundw
      case rel => exact ⟨q + 1, by go_num, by omega, HQ11.out, HO11.out, HB11.out⟩
      case measure => simp [intOf]; omega
     ·obtain rfl : k = q := by omega
      have HYq := Lib.hid (HY.out.keep HBq.out (Nat.le_refl _))
      have HBE : Hid (Below w1.heap.size w1 wr) := HBr.out.trans (HBq.out.mono HBr.out.size)
      have HSZ : Hid (Sized 1 [Sg.ic yn]) := fun r hr => by
       obtain rfl : r = Sg.ic yn := by simpa using hr
       exact Sg.ic_ok yn
      have HEND : Hid (Sg.endsTo f h more k ++ [Sg.ic yn] = Sg.endsTo f h more (k + 1)) := by show _ = _; rw [Sg.endsTo_snoc, HEK.out, HYN.out]
      go_wp2_with (at_builtin; refine append_rows rfl _ _ 47 3 1 8 (.int .i64 0) rfl Tryz.underlying47 info_intN rfl (by decide) w1.heap.size (Sg.endsTo f h more k) [Sg.ic yn] _ _ rfl rfl (HYq.out.alloc (.cells #[.int .i64 (yn : Int)] 3)) (ReadsR.single (Lies.new wr 3 (Sg.ic yn))) HSZ.out (by rw [Sg.endsTo_len]; simp only [List.length_singleton]; omega) (by rw [Sg.endsTo_len]; simp only [List.length_singleton]; omega) w1 (HBE.out.alloc HBE.out.size _) (Nat.le_refl _) ?_; intro v12 w12 ho12 hb12 hg12; have HO12 := Lib.hid ho12; have HB12 : Hid (Below w1.heap.size w1 w12) := hb12; clear ho12 hb12 hg12)
      rw [HEND.out] at HO12
      go_roundw
      case rel => exact ⟨k + 1, by go_num, by omega, HO12, HB12⟩
      case measure => simp [intOf]; omega
   ·obtain ⟨q, rfl⟩ : ∃ q, k = rn + q := ⟨k - rn, by omega⟩
    have hqm : q ≤ mn := by omega
    have hkq : ((rn : Int) + (q : Int)) - (rn : Int) = (q : Int) := by omega
    have hkr2 : ¬ ((rn + q : Nat) : Int) < (rn : Int) := by omega
    have HT2 := Lib.hid (RecsP.first (HM.out wr HBW.out) (m := q) (by rw [← HMN.out]; exact hqm))
    have hwq : IntKind.i64.wrap (q : Int) = (q : Int) := by rw [IntKind.wrap_i64]; omega
    have hqc : q ≤ vcap := by have := HCAP.out; omega
    have HOK2 : Hid (∀ x ∈ Hd.recs h ++ more.take q, Sg.Ok f x) := fun x hx => by
     rcases List.mem_append.1 hx with hx | hx
     ·exact HOK.out x (List.mem_append_left _ (by rw [HR.out]; exact hx))
     ·exact HOK.out x (List.mem_append_right _ (List.mem_of_mem_take hx))
    obtain ⟨FL, hFL⟩ : ∃ n, n = (Sg.file f h (more.take q)).length := ⟨_, rfl⟩
    have HFL := Lib.hid hFL
    have HEND : Hid (Sg.endsTo f h more (rn + q) ++ [Sg.ic FL] = Sg.endsTo f h more (rn + q + 1)) := by show _ = _; rw [Sg.endsTo_snoc, HFL.out, HRN.out, HR.out, Sg.ends_more]
    clear hFL
    go_wp2
    refine wp_region_held_drew (S := fun W => W.cell? ⟨w.heap.size, 0, none⟩ = some (.int .i64 h.prom.round) ∧ W.cell? ⟨w.heap.size, 1, none⟩ = some (.int .i64 h.prom.node) ∧ W.cell? ⟨w.heap.size, 2, none⟩ = some (.int .i64 h.base) ∧ W.cell? ⟨w.heap.size, 3, none⟩ = some vi ∧ W.cell? ⟨w.heap.size, 4, none⟩ = some va ∧ W.cell? ⟨w.heap.size, 5, none⟩ = some vc) (by kernel_rfl) ((HSr.out.below (drawn wr 1) HSr.out.lies.lt).all) (fun hHeld => ?_)
    refine wpAnyH_take (i := 0) (v := ?v0) rfl (by kernel_rfl) (by kernel_rfl) (by kernel_rfl) (fun _ _ _ h => h) (Or.inl ⟨by kernel_rfl, ?hy0⟩) hHeld ?rest0
    case hy0 => (intro W hSw; go_simp; (try with_reducible rfl))
    refine wpAnyH_take (i := 1) (v := ?v1) rfl (by kernel_rfl) (by kernel_rfl) (by kernel_rfl) (fun _ _ _ h => h) (Or.inl ⟨by kernel_rfl, ?hy1⟩) hHeld ?rest1
    case hy1 => (intro W hSw; go_simp; (try with_reducible rfl))
    refine wpAnyH_take (i := 2) (v := ?v2) rfl (by kernel_rfl) (by kernel_rfl) (by kernel_rfl) (fun _ _ _ h => h) (Or.inl ⟨by kernel_rfl, ?hy2⟩) hHeld ?rest2
    case hy2 => (intro W hSw; obtain ⟨s0, s1, s2, s3, s4, s5⟩ := hSw; go_simp; (try with_reducible rfl))
    refine wpAnyH_take (i := 3) (v := ?v3) rfl (by kernel_rfl) (by kernel_rfl) (by kernel_rfl) (fun _ _ _ h => h) (Or.inl ⟨by kernel_rfl, ?hy3⟩) hHeld ?rest3
    case hy3 => (intro W hSw; go_simp; (try with_reducible rfl))
    refine wpAnyH_take (i := 4) (v := ?v4) rfl (by kernel_rfl) (by kernel_rfl) (by kernel_rfl) (fun _ _ _ h => h) (Or.inl ⟨by kernel_rfl, ?hy4⟩) hHeld ?rest4
    case hy4 => (intro W hSw; go_simp; (try with_reducible rfl))
    refine wpAnyH_take (i := 5) (v := ?v5) rfl (by kernel_rfl) (by kernel_rfl) (by kernel_rfl) (fun _ _ _ h => h) (Or.inl ⟨by kernel_rfl, ?hy5⟩) hHeld ?rest5
    case hy5 => (intro W hSw; go_simp; (try with_reducible rfl))
    refine wpAnyH_take (i := 6) (v := ?v6) rfl (by kernel_rfl) (by kernel_rfl) (by kernel_rfl) (fun _ _ _ h => h) (Or.inl ⟨by kernel_rfl, ?hy6⟩) hHeld ?rest6
    case hy6 => (intro W hSw; go_simp; (try with_reducible rfl))
    refine wpAnyH_take (i := 7) (v := ?v7) rfl (by kernel_rfl) (by kernel_rfl) (by kernel_rfl) (fun _ _ _ h => h) (Or.inl ⟨by kernel_rfl, ?hy7⟩) hHeld ?rest7
    case hy7 => (intro W hSw; go_simp; (try with_reducible rfl))
    refine wpAnyH_ready (rs := [8]) (by kernel_rfl) (by simp) ?_
    refine AllReadyH.cons rfl (fun K hK => ?_) AllReadyH.nil
    rw [if_pos (by kernel_rfl)]
    go_simp
    go_at_call 14
    refine (refFile_any f HF.out h vi va vc (.slice vo q vcap) (more.take q) wr.drew (HRW.out _ (HBW.out.trans ((drawn wr 1).mono HBW.out.size))) HV.out HLL.out ((ListP.below HT2.out (drawn wr 1)).imp fun b _ t _ e _ => lt_of_obj e) (by rw [List.length_take]; omega) HOK2.out (by rw [← HR.out]; exact HRL.out)).mono ?_
    rintro e w3 ⟨v3, rfl, ho3, hb3⟩
    obtain ⟨fo, fc, rfl⟩ := ho3.reads.shape
    rw [← HFL.out]
    have HB3 : Hid (Below wr.heap.size wr w3) := (drawn wr 1).trans (hb3.mono (drawn wr 1).size)
    clear ho3 hb3
    dsimp only
    refine hK.out _ _ (HSr.out.below HB3.out HSr.out.lies.lt).all (fun hHeld => ?_)
    clear hK K
    refine wpAnyH_take (i := 9) (v := ?v9) rfl (by kernel_rfl) (by kernel_rfl) (by kernel_rfl) (fun _ _ _ h => h) (Or.inl ⟨by kernel_rfl, ?hy9⟩) hHeld ?rest9
    case hy9 => (intro W hSw; go_simp; (try with_reducible rfl))
    have HB4 : Hid (Below wr.heap.size wr (w3.alloc (.cells (Sg.ic FL) 3))) := HB3.out.alloc HB3.out.size _
    refine wpAnyH_ready (rs := [10]) (by kernel_rfl) (by simp) ?_
    refine AllReadyH.cons rfl (fun K hK => ?_) AllReadyH.nil
    rw [if_pos (by kernel_rfl)]
    go_simp
    refine hK.out _ _ (HSr.out.below HB4.out HSr.out.lies.lt).all (fun hHeld => ?_)
    clear hK K
    have HBE : Hid (Below w1.heap.size w1 (w3.alloc (.cells (Sg.ic FL) 3))) := HBr.out.trans (HB4.out.mono HBr.out.size)
    have HSZ : Hid (Sized 1 [Sg.ic FL]) := fun r hr => by
     obtain rfl : r = Sg.ic FL := by simpa using hr
     exact Sg.ic_ok FL
    obtain ⟨v5, w5, hrun, ho5, hg5, _⟩ := run_append_rows_at (P := Tryz.prog) 47 47 3 1 8 _ Tryz.underlying47 info_intN rfl (by decide) w1.heap.size (Sg.endsTo f h more (rn + q)) [Sg.ic FL] _ _ (HY.out.keep HB4.out (Nat.le_refl _)) (ReadsR.single (Lies.new w3 3 (Sg.ic FL))) HSZ.out (by rw [Sg.endsTo_len]; simp only [List.length_singleton]; omega) (by rw [Sg.endsTo_len]; simp only [List.length_singleton]; omega) HBE.out.size
    rw [HEND.out] at ho5
    have HO5 := Lib.hid ho5
    have HB5 : Hid (Below w1.heap.size w1 w5) := HBE.out.grown hg5 HBE.out.size (fun g e => by obtain ⟨_, _, h2⟩ := OwnsR.cells HY.out e; exact h2)
    have HB5r : Hid (SixAt w5 w.heap.size 27 h.prom h.base vi va vc) := HS1.out.below HB5.out HS1.out.lies.lt
    clear ho5 hg5
    refine wpAnyH_ready (rs := [11]) (by kernel_rfl) (by simp) ?_
    refine ready_append 11 (.tmp 54) (.tmp 64) 47 rfl rfl rfl (.slice zo (rn + q) zc) (.slice (some ⟨w3.heap.size, 0, none⟩) 1 1) v5 w5 ?s11 ?x11 hrun ⟨HB5r.out.all, fun hHeld => ?_⟩
    case s11 => kernel_rfl
    case x11 => kernel_rfl
    refine wpAnyH_take (i := 12) (v := ?v12) rfl (by kernel_rfl) (by kernel_rfl) (by kernel_rfl) (fun _ _ _ h => h) (Or.inl ⟨by kernel_rfl, ?hy12⟩) hHeld ?rest12
    case hy12 => (intro W hSw; go_simp; (try with_reducible rfl))
    refine wpAnyH_done (by kernel_rfl) ?_ _
    clear hHeld hwq hqc hrun
    go_wp2
    go_roundw
    case rel => exact ⟨rn + q + 1, by go_num, by omega, HO5, HB5⟩
    case measure => simp [intOf]; omega
  ·obtain rfl : k = rn + mn + 1 := by omega
   have hle : ¬ ((rn + mn + 1 : Nat) : Int) ≤ (rn : Int) + (mn : Int) := by omega
   go_wp2
   exact HE.out _ _ HBr.out HY.out
end Go.Proofs.YteboceekcmchkaaGreatDoor
