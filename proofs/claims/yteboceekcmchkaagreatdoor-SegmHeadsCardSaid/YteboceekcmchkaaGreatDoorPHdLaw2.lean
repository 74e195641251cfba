/- Several texts of mine in one: GSc HdLaw1 HdCame HdLaw2. -/
import Derived.Test.YteboceekcmchkaaGreatDoorGSb
import Derived.Test.YteboceekcmchkaaGreatDoorPRtRef
import Derived.Test.YteboceekcmchkaaGreatDoorPGFt
import Derived.Test.YteboceekcmchkaaGreatDoorGEf
import Derived.Test.YteboceekcmchkaaGreatDoorGHc
import Derived.Test.YteboceekcmchkaaGreatDoorPGHd
import Derived.Test.YteboceekcmchkaaGreatDoorGMg
import Derived.Test.YteboceekcmchkaaGreatDoorGHa
import Derived.Test.YteboceekcmchkaaGreatDoorMsCame
import Derived.Test.YteboceekcmchkaaGreatDoorHdMake
import Derived.Test.YteboceekcmchkaaGreatDoorPGMp
namespace Go.Proofs.YteboceekcmchkaaGreatDoor
open Go.RowKit
set_option maxHeartbeats 3200000
set_option maxRecDepth 4000
theorem run_recsN {n : Nat} {w : World} {base : Nat} {out u : Value} {G M : List Re.Rec} (ty : TypeId) (h : RecsN n w base out G) (hm : RecsP (fun b _ => b < n) w u M) (hlen : G.length + M.length ≤ 10000000) (hn : n ≤ base) (hbase : base ≤ w.heap.size) :
 ∃ v' w', (Builtin.append_ #[34, 34] ty #[out, u]).run Tryz.prog w = .ok v' w' ∧ RecsN n w' base v' (G ++ M) ∧ w.grownBy w' out.ownBlock := by
 obtain ⟨ps, e, h1, h2⟩ := h
 obtain ⟨qs, e', h3, h4⟩ := hm
 subst e
 subst e'
 have hl : (rowsOf Re.cells ps).length = (ps.map (·.1)).length := rowsOf_len ps
 have hl' : (rowsOf Re.cells qs).length = (qs.map (·.1)).length := rowsOf_len qs
 obtain ⟨v', w', hrun, h5, h6, _⟩ := run_append_rows_at (P := Tryz.prog) 34 ty 42 12 136 _ Tryz.underlying34 info_recN rfl (by decide) base (rowsOf Re.cells ps) (rowsOf Re.cells qs) out _ h1 h3.1 (rowsOf_sized cellR_ok fun q hq => (h4 q hq).one) (by rw [hl, hl']; omega) (by rw [hl, hl']; omega) hbase
 have hk' : Keep (fun b _ => b < n) w w' := Keep.of_grown h6 fun g' cs t' fr e' hcs => by
  obtain ⟨cs', hc', hb'⟩ := OwnsR.cells h1 e'
  rw [hc'] at hcs
  cases hcs
  omega
 refine ⟨v', w', hrun, ⟨ps ++ qs, by simp, by simpa [rowsOf] using h5, fun q hq => ?_⟩, h6⟩
 rcases List.mem_append.1 hq with hq | hq
 ·exact (h2 q hq).keep hk'
 ·exact (h4 q hq).keep hk'
theorem step_recsN {n : Nat} {w : World} {ops : Array Oper} {rest : List Oper} {o : Oper} {a : Act} {Q : Exit → Act → World → Prop} (hg : o.guard = none) (s x : Operand) (ho : o.op = .call { callee := .builtin .append, args := #[s, x], argTypes := #[34, 34] })
 (base : Nat) (out u : Value) (G M : List Re.Rec) (hs : a.eval s = out) (hx : a.eval x = u) (hown : RecsN n w base out G) (hm : RecsP (fun b _ => b < n) w u M)
 (hlen : G.length + M.length ≤ 10000000) (hn : n ≤ base) (hbase : base ≤ w.heap.size) (hK : ∀ v' w', RecsN n w' base v' (G ++ M) → w.grownBy w' out.ownBlock → wpList Tryz.prog ops Q rest (a.put o.dst v') w') : wpList Tryz.prog ops Q (o :: rest) a w := by
 obtain ⟨v', w', hrun, h1, h2⟩ := run_recsN o.type hown hm hlen hn hbase
 exact step_append hg s x 34 ho out _ v' hs hx hrun (hK v' w' h1 h2)
theorem refFile_any (f : Int) (hf : f = 1 ∨ f = 2) (h : Hd.Hard) (vi va vc v : Value) (more : List Re.Rec) (w : World) (hr : HardR w h vi va vc) (hv : Hd.Valid h) (hl : h.acc.length ≤ 100 ∧ h.chs.length ≤ 100)
 (hm : RecsP (fun k _ => k < w.heap.size) w v more) (hml : more.length ≤ 1000) (hok : ∀ x ∈ Hd.recs h ++ more, Sg.Ok f x) (hrl : (Hd.recs h).length ≤ 1000) :
 Calls Tryz.prog 14 #[.int .i64 f, .agg (Hd.cells h vi va vc), v] w (Makes w 5 (Sg.file f h more)) := by
 obtain ⟨w1, e1, hx1, hB1, hs1⟩ := box_hard w h vi va vc
 have HS1 : Hid (SixAt w1 w.heap.size 27 h.prom h.base vi va vc) := SixAt.of hx1 hr
 have HB1 := Lib.hid hB1
 have HM : Hid (∀ W, Below w.heap.size w W → RecsP (fun k _ => k < w.heap.size) W v more) := fun W hb => ListP.below hm hb
 have HREC := Lib.hid (refRecords_any h vi va vc w1 (hr.below hB1) hv ⟨by omega, by omega⟩)
 have HOK := Lib.hid hok; have HML := Lib.hid hml; have HRL := Lib.hid hrl
 have hf0 : -9223372036854775808 ≤ f := by omega
 have hf1 : f ≤ 9223372036854775807 := by omega
 have HF := Lib.hid hf
 obtain ⟨vo, vcap, hvs, _, _⟩ := ListP.shape hm
 obtain ⟨R, hR⟩ : ∃ R, R = Hd.recs h := ⟨_, rfl⟩
 have HR := Lib.hid hR
 rw [← hR] at HREC HOK HRL
 clear hx1 hB1 hs1 hr hv hl hm hml hok hrl hf hvs hR
 go_enter Tryz.func14, Tryz.ntmps14
 go_wp2_with (refine load_hard rfl _ rfl rfl HS1.out ?_)
 refine HREC.out.mono ?_
 rintro e w2 ⟨v2, rfl, ho2, hb2⟩
 obtain ⟨ro, rc, hvr⟩ := RecsN.shape ho2
 have HO2 := Lib.hid ho2
 have HB2' : Hid (Below w1.heap.size w1 w2) := hb2
 have HB2 : Hid (Below w.heap.size w w2) := HB1.out.trans (hb2.mono HB1.out.size)
 obtain ⟨rn, hrn⟩ : ∃ n, n = R.length := ⟨_, rfl⟩
 rw [← hrn] at hvr
 have HRN := Lib.hid hrn
 subst hvr
 clear ho2 hb2 hrn
 go_wp2_with fail
 refine (bytes_any f w2 hf0 hf1).mono ?_
 rintro e w3 ⟨v3, rfl, ho3, hb3⟩
 have HO3 := Lib.hid ho3
 have HB3 : Hid (Below w2.heap.size w2 w3) := hb3
 clear ho3 hb3
 go_wp2_with fail
 refine (bytes_any (rn : Int) w3 (by omega) (by have := HRN.out; have := HRL.out; omega)).mono ?_
 rw [Int.toNat_natCast]
 rintro e w4 ⟨v4, rfl, ho4, hb4⟩
 have HO4 := Lib.hid ho4
 have HB4 : Hid (Below w2.heap.size w2 w4) := HB3.out.trans (hb4.mono HB3.out.size)
 have HO34 := Lib.hid (HO3.out.keep hb4 (Nat.le_refl _))
 clear ho4 hb4
 have hl1 := enc_nine (n := f.toNat) (by omega)
 have hl2 := enc_nine (n := rn) (by have := HRN.out; have := HRL.out; omega)
 go_wp2_with (at_builtin; refine append_bytes rfl _ _ 24 5 rfl Tryz.underlying24 info_u8 w2.heap.size (enc f.toNat) (enc rn) v3 v4 rfl rfl HO34.out HO4.out.reads (by omega) w2 HB4.out (Nat.le_refl _) ?_; intro v5 w5 ho5 hb5 hg5; have HO5 := Lib.hid ho5; have HB5 : Hid (Below w2.heap.size w2 w5) := hb5; clear ho5 hb5 hg5)
 refine (refFrame_any v5 (enc f.toNat ++ enc rn) w5 HO5.out.reads (by rw [List.length_append]; omega)).mono ?_
 rintro e w6 ⟨v6, rfl, ho6, hb6⟩
 have HO6 := Lib.hid ho6
 have HB6 : Hid (Below w2.heap.size w2 w6) := HB5.out.trans (hb6.mono HB5.out.size)
 have HSZ : Hid (w1.heap.size ≤ w2.heap.size ∧ w2.heap.size ≤ w5.heap.size) := ⟨HB2'.out.size, HB5.out.size⟩
 have HL6 := Lib.hid (ListO.below HO2.out HB6.out)
 clear ho6 hb6 hl1 hl2 HO34 HO4 HO3
 go_wp2_with (at_builtin; refine step_recsN rfl _ _ rfl w1.heap.size (.slice ro rn rc) v R more rfl rfl HL6.out (ListP.imp (HM.out w6 (HB2.out.trans (HB6.out.mono HB2.out.size))) fun b _ _ _ _ hb => Nat.lt_of_lt_of_le hb HB1.out.size) (by have := HRL.out; have := HML.out; omega) (Nat.le_refl _) (Nat.le_trans HB2'.out.size HB6.out.size) ?_; intro v7 w7 ho7 hg7; have HO7 := Lib.hid ho7; have HG7 := Lib.hid hg7; clear ho7 hg7)
 obtain ⟨lo, lc, hvl⟩ := RecsN.shape HO7.out
 obtain ⟨L, hL⟩ : ∃ L, L = R ++ more := ⟨_, rfl⟩
 rw [← hL] at HO7 hvl HOK
 have HLL := Lib.hid hL
 obtain ⟨N, hN⟩ : ∃ n, n = L.length := ⟨_, rfl⟩
 rw [← hN] at hvl
 have HN := Lib.hid hN
 have hNb : N ≤ 2000 := by have := HRL.out; have := HML.out; rw [hN, hL, List.length_append]; omega
 subst hvl
 have HB7 : Hid (Below w1.heap.size w1 w7) := RecsN.behind HL6.out (HB2'.out.trans (HB6.out.mono HB2'.out.size)) (Nat.le_refl _) HG7.out
 have HQ7 : Hid (RecsP (fun b t => b < w1.heap.size ∨ t = 42) w7 (.slice lo N lc) L) := ListO.reads (ListO.imp HO7.out fun b cs t fr e hb => .inl hb) cellR_ok fun g e => .inr rfl
 have HY7 : Hid (Owns w7 w1.heap.size 5 v6 (Frm.flat (Sg.first f rn :: (L.take 0).map (Rt.bytesIn f)))) := by
  have h1 : Owns w7 w5.heap.size 5 v6 (Frm.frame (enc f.toNat ++ enc rn)) := HO6.out.stays fun g e => by
   obtain ⟨cs, hc, hb⟩ := HO6.out.cells e
   refine HG7.out.block g (lt_of_obj hc) fun e2 => ?_
   obtain ⟨cs2, hc2, _⟩ := ListO.blocks HO2.out e2.symm
   have := lt_of_obj hc2
   have := HSZ.out.2
   omega
  have h2 := h1.mono (Nat.le_trans HSZ.out.1 HSZ.out.2)
  show Owns _ _ _ _ _
  simpa [Frm.flat, Sg.first] using h2
 have HEND : Hid (Frm.flat (Sg.first f rn :: L.map (Rt.bytesIn f)) = Sg.file f h more) := by
  show _ = _
  unfold Sg.file Sg.bodies
  rw [← HR.out, HRN.out, HLL.out]
 clear hN hL HO7 HG7 HO6
 go_wp2
 go_loopw [8, 9] (fun y i wr => ∃ k : Nat, i = .int .i64 (k : Int) ∧ k ≤ N ∧ Hid (RecsP (fun b t => b < w1.heap.size ∨ t = 42) wr (.slice lo N lc) L) ∧ Hid (Owns wr w1.heap.size 5 y (Frm.flat (Sg.first f rn :: (L.take k).map (Rt.bytesIn f)))) ∧ Hid (Below w1.heap.size w1 wr)) (fun _ i _ => N - (intOf i).toNat)
 case atStart => exact ⟨0, rfl, by omega, HQ7.out, HY7.out, HB7.out⟩
 case round =>
  obtain ⟨k, rfl, hk, HQ, HY, HBr⟩ := hrel
  obtain ⟨yo, yc, hyy⟩ := HY.out.reads.shape
  obtain ⟨yn, hyn⟩ : ∃ m, m = (Frm.flat (Sg.first f rn :: (L.take k).map (Rt.bytesIn f))).length := ⟨_, rfl⟩
  rw [← hyn] at hyy
  clear hyn
  subst hyy
  by_cases hlt : k < N
  ·obtain ⟨x, hxl⟩ : ∃ x, L[k]? = some x := ⟨_, List.getElem?_eq_getElem (by have := HN.out; omega)⟩
   obtain ⟨g, off, hlo, _, hc⟩ := ListP.places HQ.out cellR_first (by have := HN.out; omega)
   subst hlo
   obtain ⟨u, hu, hcell⟩ := hc k x hxl
   have HXO := Lib.hid (HOK.out x (List.mem_of_getElem? hxl))
   have HCELL : Hid (∀ j v, (Re.cells x u)[j]? = some v → wr.cell? ⟨g, off + k * 12 + j, none⟩ = some v) := fun j v hj => by rw [Nat.add_assoc]; exact hcell wr (Below.refl _ _) j v hj
   have HU := Lib.hid hu.1
   have HTK : Hid (Frm.flat (Sg.first f rn :: (L.take k).map (Rt.bytesIn f)) ++ Frm.frame (Rt.bytesIn f x) = Frm.flat (Sg.first f rn :: (L.take (k + 1)).map (Rt.bytesIn f))) := by show _ = _; rw [List.take_add_one, hxl]; simp [Frm.flat]
   have HFL : Hid ((Frm.flat (Sg.first f rn :: (L.take k).map (Rt.bytesIn f))).length + (Frm.frame (Rt.bytesIn f x)).length ≤ 140737488355328) := by
    have h1 := Sg.flat_len (f := f) (Sg.first f rn) (L.take k) (fun c hc => HOK.out c (List.mem_of_mem_take hc))
    have h2 : (L.take k).length ≤ L.length := List.length_take_le' _ _
    have h3 := Frm.frame_len (Sg.first f rn)
    have h4 := Frm.frame_len (Rt.bytesIn f x)
    have h5 := enc_nine (n := (Rt.bytesIn f x).length) (by have := HXO.out.2.2.2.2; omega)
    have h6 := HXO.out.2.2.2.2
    have h7 := enc_nine (n := f.toNat) (by omega)
    have h8 := enc_nine (n := rn) (by have := HRN.out; have := HRL.out; omega)
    have h9 : (Sg.first f rn).length = (enc f.toNat).length + (enc rn).length := by simp [Sg.first]
    have h10 := enc_nine (n := (Sg.first f rn).length) (by omega)
    have := HN.out
    show _ ≤ _
    omega
   clear hc hxl hu hcell
   go_wp2_with (refine load_rec_at rfl _ rfl g (off + k * 12) x u rfl HCELL.out ?_)
   refine (refBytesRt_any f x u wr HF.out HXO.out.1 HU.out HXO.out.2.1 HXO.out.2.2.1 HXO.out.2.2.2.1).mono ?_
   rintro e w9 ⟨v9, rfl, ho9, hb9⟩
   have HO9 := Lib.hid ho9
   have HB9 : Hid (Below wr.heap.size wr w9) := hb9
   clear ho9 hb9 HCELL HU
   go_wp2_with fail
   refine (refFrame_any v9 (Rt.bytesIn f x) w9 HO9.out.reads (by have := HXO.out.2.2.2.2; omega)).mono ?_
   rintro e w10 ⟨v10, rfl, ho10, hb10⟩
   have HO10 := Lib.hid ho10
   have HB10 : Hid (Below wr.heap.size wr w10) := HB9.out.trans (hb10.mono HB9.out.size)
   have HBX : Hid (Below w1.heap.size w1 w10) := HBr.out.trans (HB10.out.mono HBr.out.size)
   have HY10 := Lib.hid (HY.out.keep HB10.out (Nat.le_refl _))
   clear ho10 hb10 HO9
   go_wp2_with (at_builtin; refine append_bytes rfl _ _ 24 5 rfl Tryz.underlying24 info_u8 w1.heap.size _ (Frm.frame (Rt.bytesIn f x)) (.slice yo yn yc) v10 rfl rfl HY10.out HO10.out.reads HFL.out w1 HBX.out (Nat.le_refl _) ?_; intro v11 w11 ho11 hb11 hg11; have HO11 := Lib.hid ho11; have HB11 : Hid (Below w1.heap.size w1 w11) := hb11; have HG11 := Lib.hid hg11; clear ho11 hb11 hg11)
   rw [HTK.out] at HO11
   have HQ11 : Hid (RecsP (fun b t => b < w1.heap.size ∨ t = 42) w11 (.slice (some ⟨g, off, none⟩) N lc) L) := (HQ.out.keep (Keep.of_below HB10.out)).keep (Keep.of_grown HG11.out fun g' cs t fr e hcs => by
    obtain ⟨cs', hc', hb'⟩ := HY10.out.cells e
    rw [hc'] at hcs
    cases hcs
    rintro (h1 | h1)
    ·omega
    ·exact absurd h1 (by decide))
   go_roundw
   case rel => exact ⟨k + 1, by go_num, by omega, HQ11.out, HO11.out, HB11.out⟩
   case measure => simp [intOf]; omega
  ·obtain rfl : k = N := by omega
   have HFIN : Hid (Owns wr w1.heap.size 5 (.slice yo yn yc) (Sg.file f h more)) := by
    have h1 := HY.out
    rw [List.take_of_length_le (by have := HN.out; omega), HEND.out] at h1
    exact h1
   go_wp2
   go_ret
   exact ⟨_, rfl, HFIN.out.mono HB1.out.size, HB1.out.trans (HBr.out.mono HB1.out.size)⟩
theorem RecsP.take {p : Nat → TypeId → Prop} {w : World} {ao : Option Addr} {n cap : Nat} {l : List Re.Rec} (h : RecsP p w (.slice ao n cap) l) {m : Nat} (hm : m ≤ l.length) :
 ∃ ao2, sliced ao 0 m cap 12 = .slice ao2 m cap ∧ RecsP p w (.slice ao2 m cap) (l.take m) := by
 obtain ⟨ps, e, ⟨h1, h2⟩, h3⟩ := h
 subst e
 rw [List.length_map] at hm
 have hl : (rowsOf Re.cells ps).length = ps.length := by simp [rowsOf]
 obtain ⟨hn, hc, _⟩ := ReadsR.len h1
 rw [hl] at hn
 obtain ⟨ao2, hs, hr⟩ := ReadsR.part h1 0 m cap (Nat.zero_le _) (by omega) (by omega) (Nat.le_refl _)
 rw [Nat.sub_zero, Nat.sub_zero] at hs hr
 have e1 : ((rowsOf Re.cells ps).take m).drop 0 = rowsOf Re.cells (ps.take m) := by simp [rowsOf]
 rw [e1] at hr
 refine ⟨ao2, hs, ps.take m, by rw [List.map_take], ⟨hr, fun h0 => ?_⟩, fun q hq => h3 q (List.mem_of_mem_take hq)⟩
 have h0' : 0 < ps.length := by simp [rowsOf] at h0; omega
 obtain ⟨x, n', c', cs, t, fr, hv, hb, hp⟩ := h2 (by rw [hl]; exact h0')
 simp only [Value.slice.injEq] at hv
 obtain ⟨rfl, _, _⟩ := hv
 obtain ⟨x2, e2, hb2⟩ : ∃ x2 : Addr, ao2 = some x2 ∧ x2.block = x.block := by
  have hm0 : 0 < m := by simp [rowsOf] at h0; omega
  simp only [sliced, Value.slice.injEq] at hs
  obtain ⟨rfl, _⟩ := hs
  rw [if_neg (by omega)]
  exact ⟨_, rfl, add_block _ _⟩
 subst e2
 rw [← hb2] at hb hp
 exact ⟨x2, _, _, cs, t, fr, rfl, hb, hp⟩
theorem RecsP.first {p : Nat → TypeId → Prop} {w : World} {ao : Option Addr} {n cap : Nat} {l : List Re.Rec} (h : RecsP p w (.slice ao n cap) l) {m : Nat} (hm : m ≤ l.length) : RecsP p w (.slice ao m cap) (l.take m) := by
 obtain ⟨ps, e, ⟨h1, h2⟩, h3⟩ := h
 subst e
 rw [List.length_map] at hm
 have hl : (rowsOf Re.cells ps).length = ps.length := by simp [rowsOf]
 obtain ⟨ao', cap', hv, g1, g2, g3, g4⟩ := h1
 simp only [Value.slice.injEq] at hv
 obtain ⟨rfl, hn, rfl⟩ := hv
 have e1 : rowsOf Re.cells (ps.take m) = (rowsOf Re.cells ps).take m := by simp [rowsOf]
 have hl2 : (rowsOf Re.cells (ps.take m)).length = m := by simp [rowsOf]; omega
 refine ⟨ps.take m, by rw [List.map_take], ⟨⟨ao, cap, by rw [hl2], by rw [hl2]; omega, g2, g3, fun x hx i r hr j u hu => g4 x hx i r ?_ j u hu⟩, fun h0 => ?_⟩, fun q hq => h3 q (List.mem_of_mem_take hq)⟩
 ·rw [e1, List.getElem?_take] at hr
  split at hr
  ·exact hr
  ·cases hr
 ·obtain ⟨x, n', c', cs, t, fr, hv, hb, hp⟩ := h2 (by rw [hl]; rw [hl2] at h0; omega)
  simp only [Value.slice.injEq] at hv
  obtain ⟨rfl, _, _⟩ := hv
  exact ⟨x, _, _, cs, t, fr, rfl, hb, hp⟩
def Sg.ic (x : Nat) : Array Value := #[.int .i64 (x : Int)]
theorem Sg.ends_more (f : Int) (h : Hd.Hard) (more : List Re.Rec) (q : Nat) : Frm.ends (Sg.bodies f h more) ((Hd.recs h).length + q) = (Sg.file f h (more.take q)).length := by
 unfold Frm.ends Sg.file Sg.bodies
 rw [List.take_succ_cons, ← List.map_take, List.take_length_add_append]
end Go.Proofs.YteboceekcmchkaaGreatDoor

namespace Go.Proofs.YteboceekcmchkaaGreatDoor
open Go.RowKit
theorem RecsP.lit {w : World} {g : Nat} {ps : List (Re.Rec × Value)} (h : Lies w g 42 (flatR (rowsOf Re.cells ps)).toArray) (hps : ∀ q ∈ ps, ReadsP (fun k _ => k < w.heap.size) w q.2 q.1.img) (hn : ps.length ≤ 1000) :
 RecsP (fun k _ => k < w.heap.size) w (.slice (some ⟨g, 0, none⟩) ps.length ps.length) (ps.map (·.1)) := by
 have hs : Sized 12 (rowsOf Re.cells ps) := rowsOf_sized cellR_ok fun q hq => (hps q hq).one
 have hl : (rowsOf Re.cells ps).length = ps.length := by simp [rowsOf]
 have hr := ReadsR.lit h hs (by omega)
 rw [hl] at hr
 exact ⟨ps, rfl, RowP.of_reads hr (by omega) hs fun b t hb => hb, hps⟩
theorem Hd.entry_short {l : List En.Ent} (h : En.check 0 l = 0) : ∀ e ∈ l, e.cmd.Short 140737488355328 := fun e he => Short.up (Cm.check_short (((En.check_iff _ _).1 h).2 e he).2.1) (by omega)
end Go.Proofs.YteboceekcmchkaaGreatDoor

namespace Go.Proofs.YteboceekcmchkaaGreatDoor
open Go.RowKit
set_option maxRecDepth 20000
section
structure Hd.Hard.Fits (h : Hd.Hard) : Prop where
 prom : h.prom.Fits
 base : -9223372036854775808 ≤ h.base ∧ h.base ≤ 9223372036854775807
 acc : ∀ e ∈ h.acc, e.Fits ∧ e.cmd.Short 9223372036854775807
 chs : ∀ e ∈ h.chs, e.Fits ∧ e.cmd.Short 9223372036854775807
section
variable {H : Type} {enc : TypeId × Value → H} {w : World} {b0 base : Nat} {held : Bool}
theorem el_hard (m : Nat) (cs : List Value) (y : DataW H × List MemPlace) (h : DataW.trod enc Tryz.prog w base (fun _ => true) held m 27 cs = some y) :
 ∃ (a : Hd.Hard) (vi va vc : Value), cs = (Hd.cells a vi va vc).toList ∧ HardR w a vi va vc ∧ a.Fits := by
 obtain ⟨ys, n, _, _, hl, hlen, hat⟩ := DataW.trod_struct Tryz.underlying27 h
 have hce : Tryz.prog.cellsOf 27 = 6 := by kernel_rfl
 have hci : Tryz.prog.cellsOf 3 = 1 := by kernel_rfl
 have hcb : Tryz.prog.cellsOf 23 = 2 := by kernel_rfl
 have hcs : Tryz.prog.cellsOf 25 = 1 := by kernel_rfl
 have hcu : Tryz.prog.cellsOf 24 = 1 := by kernel_rfl
 have g0 := hat 0 _ rfl
 have g1 := hat 1 _ rfl
 have g2 := hat 2 _ rfl
 have g3 := hat 3 _ rfl
 have g4 := hat 4 _ rfl
 rw [List.getElem?_eq_getElem (by rw [hlen]; simp)] at g0 g1 g2 g3 g4
 have g0' : DataW.trod enc Tryz.prog w base (fun _ => true) held n 23 ((cs.drop 0).take (Tryz.prog.cellsOf 23)) = some _ := g0
 rw [hcb] at g0'
 obtain ⟨b, e0, fb⟩ := el_bal _ _ _ g0'
 have g1' : DataW.trod enc Tryz.prog w base (fun _ => true) held n 3 ((cs.drop 2).take (Tryz.prog.cellsOf 3)) = some _ := g1
 obtain ⟨bs, e1, a1, b1⟩ := one_int Tryz.underlying3 g1' hci
 have g2' : DataW.trod enc Tryz.prog w base (fun _ => true) held n 24 ((cs.drop 3).take (Tryz.prog.cellsOf 24)) = some _ := g2
 rw [hcu] at g2'
 obtain ⟨vi, img, e2, hri⟩ := el_bytes _ _ _ g2'
 have g3' : DataW.trod enc Tryz.prog w base (fun _ => true) held n 25 ((cs.drop 4).take (Tryz.prog.cellsOf 25)) = some _ := g3
 rw [hcs] at g3'
 obtain ⟨va, l, e3, hra, hfa⟩ := el_rows En.cells (fun e => e.Fits ∧ e.cmd.Short 9223372036854775807) Tryz.underlying25 (by kernel_rfl) (fun m cs y hm => el_ent m cs y hm) g3'
 have g4' : DataW.trod enc Tryz.prog w base (fun _ => true) held n 25 ((cs.drop 5).take (Tryz.prog.cellsOf 25)) = some _ := g4
 rw [hcs] at g4'
 obtain ⟨vc, k, e4, hrc, hfc⟩ := el_rows En.cells (fun e => e.Fits ∧ e.cmd.Short 9223372036854775807) Tryz.underlying25 (by kernel_rfl) (fun m cs y hm => el_ent m cs y hm) g4'
 rw [hce] at hl
 obtain ⟨c0, c1, c2, c3, c4, c5, rfl⟩ : ∃ c0 c1 c2 c3 c4 c5, cs = [c0, c1, c2, c3, c4, c5] := by
  match cs, hl with
  | [c0, c1, c2, c3, c4, c5], _ => exact ⟨_, _, _, _, _, _, rfl⟩
 refine ⟨⟨b, bs, img, l, k⟩, vi, va, vc, ?_, ⟨hri, hra, hrc⟩, ⟨fb, ⟨a1, b1⟩, hfa, hfc⟩⟩
 simp [Bl.cells] at e0 e1 e2 e3 e4
 simp [Hd.cells, e0, e1, e2, e3, e4]
theorem came_hard {v : Value} {d : DataW H} {p : List MemPlace} (hv : Value.okWide Tryz.prog w .any b0 27 v) (h : DataW.Trod enc Tryz.prog w base (fun _ => true) held 27 v d p) :
 ∃ (a : Hd.Hard) (vi va vc : Value), v = .agg (Hd.cells a vi va vc) ∧ HardR w a vi va vc ∧ a.Fits := by
 obtain ⟨cs, rfl, hsz⟩ := WideShapes.okWide_struct Tryz.underlying27 hv
 obtain ⟨fuel, hf⟩ := h
 obtain ⟨a, vi, va, vc, he, hrest⟩ := el_hard fuel _ _ hf
 refine ⟨a, vi, va, vc, ?_, hrest⟩
 have : cs.toList = (Hd.cells a vi va vc).toList := he
 rw [Array.toList_inj.1 this]
end
end
end Go.Proofs.YteboceekcmchkaaGreatDoor

namespace Go.Proofs.YteboceekcmchkaaGreatDoor
open Go.RowKit
theorem Hd.recs_len (h : Hd.Hard) : (Hd.recs h).length ≤ 2 + h.acc.length + h.chs.length := by
 unfold Hd.recs
 simp only [List.length_append, List.length_map]
 split <;> split <;> simp <;> omega
theorem Hd.recs_short (h : Hd.Hard) (ha : ∀ e ∈ h.acc, e.cmd.Short 140737488355328) (hc : ∀ e ∈ h.chs, e.cmd.Short 140737488355328) : ∀ x ∈ Hd.recs h, x.cmd.Short 140737488355328 := by
 have hz : Cm.zero.Short 140737488355328 := ⟨by simp [Cm.zero, Cm.bareOf], by simp [Cm.zero, Cm.bareOf], by simp [Cm.zero, Cm.bareOf]⟩
 intro x hx
 unfold Hd.recs at hx
 rcases List.mem_append.1 hx with hx | hx
 ·rcases List.mem_append.1 hx with hx | hx
  ·rcases List.mem_append.1 hx with hx | hx
   ·split at hx
    ·obtain rfl : x = Hd.recI h := by simpa using hx
     exact hz
    ·simp at hx
   ·split at hx
    ·obtain rfl : x = Hd.recP h := by simpa using hx
     exact hz
    ·simp at hx
  ·obtain ⟨e, he, rfl⟩ := List.mem_map.1 hx
   exact ha e he
 ·obtain ⟨e, he, rfl⟩ := List.mem_map.1 hx
  exact hc e he
end Go.Proofs.YteboceekcmchkaaGreatDoor
