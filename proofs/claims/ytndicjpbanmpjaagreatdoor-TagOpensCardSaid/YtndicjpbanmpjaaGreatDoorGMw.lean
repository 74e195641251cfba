/- Several texts of mine in one: MtRead MtDec. -/
import Derived.Test.YtndicjpbanmpjaaGreatDoorGMv
import Derived.Test.YtndicjpbanmpjaaGreatDoorGMu
import Derived.Test.YtndicjpbanmpjaaGreatDoorGMg
namespace Go.Proofs.YtndicjpbanmpjaaGreatDoor
open Go.RowKit

theorem Mt.last_of {k : Int} {i : Nat} {e : Mt.El} (h : (Mt.elems k)[i]? = some e) : (∃ j, e = .num j) ∨ i + 1 = (Mt.elems k).length := by
  have h3 : (Mt.head ++ Mt.elems k)[i + 3]? = some e := by rw [List.getElem?_append_right (show Mt.head.length ≤ i + 3 by show 3 ≤ _; omega)]; exact h
  rcases Mt.last h3 with h | h
  · exact .inl h
  · rw [List.length_append] at h
    have : Mt.head.length = 3 := rfl
    exact .inr (by omega)
theorem ListE.nil {o : Nat} {w : World} {l : List En.Ent} (h : ListE o w (.slice none 0 0) l) : l = [] := by
  rcases h with ⟨_, h⟩ | ⟨g, _, h, _⟩
  · exact h
  · cases h
theorem Reads.nil {w : World} {l : List UInt8} (h : Reads w (.slice none 0 0) l) : l = [] := by
  obtain ⟨ao, cap, h⟩ := h.shape
  simp only [Value.slice.injEq] at h
  exact List.eq_nil_of_length_eq_zero h.2.1.symm
/-- A row, whether it has elements or not. -/
theorem ERow.lies_or {w : World} {lo g : Nat} {v : Value} {l : List Mt.El} (h : ERow w lo v g l) :
    ∃ ao cap j cur, v = .slice ao l.length cap ∧ (0 < l.length → ao = some ⟨j, 0, none⟩ ∧ lo ≤ j ∧ Lies w j 20 cur) ∧ ∀ (k : Nat) (e : Mt.El), l[k]? = some e → cur[k]? = some (Mt.ev g e) := by
  by_cases hl : 0 < l.length
  · obtain ⟨j, cap, cur, h1, h2, h3, h4⟩ := h.lies hl
    exact ⟨_, cap, j, cur, h1, fun _ => ⟨rfl, h2, h3⟩, h4⟩
  · obtain ⟨ao, cap, h1⟩ := h.shape
    obtain rfl : l = [] := List.eq_nil_of_length_eq_zero (by omega)
    exact ⟨ao, cap, 0, #[], h1, fun h => absurd h hl, fun k e he => by simp at he⟩

/-- An element got. -/
theorem getMt_any (e : Mt.El) (hk : e.ok) (g : Nat) (t : Ms.Msg × Nat × Int) (w : World) (B o : Nat) (u : Value) (s : List UInt8) (hr : Rdr w B o u s t.2.1 t.2.2) (hl : Msgs w g t.1 (.slice none 0 0) (.slice none 0 0)) (hgo : g ≠ o) (hBg : B ≤ g) (h0 : t.1.ents = []) (h9 : t.1.img = []) :
    Calls Tryz.prog 91 #[.pointer (some ⟨o, 0, none⟩), Mt.ev g e] w (MtElGot w B o g u s (∃ j, e = .num j) (Mt.gstep s t e)) := by
  obtain ⟨M, p, er⟩ := t
  cases e with
  | num k =>
    refine (getMt_num k g M p er w B o u s hk hr hl hgo hBg h0 h9).mono ?_
    rintro en w' ⟨h1, ve, vi, a, b, c, d, e, f, g⟩
    exact ⟨h1, ve, vi, a, b, c, d, e, f, fun _ => g trivial⟩
  | list =>
    refine (getMt_list g M p er w B o u s hr hl hgo hBg h9).mono ?_
    rintro en w' ⟨h1, ve, vi, a, b, c, d, e, f, g⟩
    exact ⟨h1, ve, vi, a, b, c, d, e, f, fun ⟨j, h⟩ => by cases h⟩
  | img =>
    refine (getMt_img g M p er w B o u s hr hl hgo hBg h0).mono ?_
    rintro en w' ⟨h1, ve, vi, a, b, c, d, e, f, g⟩
    exact ⟨h1, ve, vi, a, b, c, d, e, f, fun ⟨j, h⟩ => by cases h⟩
  | prop =>
    refine (getMt_prop g M p er w B o u s hr hl hgo hBg h9).mono ?_
    rintro en w' ⟨h1, ve, vi, a, b, c, d, e, f, g⟩
    exact ⟨h1, ve, vi, a, b, c, d, e, f, fun ⟨j, h⟩ => by cases h⟩

/-- What a reading gives. -/
def MtGotR (w : World) (B o : Nat) (r : Ms.Msg × Int) (e : Ending) (w' : World) : Prop :=
  ∃ ve vi, e = .returned (.tuple #[.agg (Ms.cells r.1 ve vi), .int .i64 r.2]) ∧ ListE o w' ve r.1.ents ∧ Reads w' vi r.1.img ∧ Below B w w'

set_option maxRecDepth 4000 in
set_option maxHeartbeats 3200000 in
theorem readMt_any (w : World) (B o : Nat) (u : Value) (s : List UInt8) (hr : Rdr w B o u s 0 0) (hB : B ≤ w.heap.size) :
    Calls Tryz.prog 70 #[.pointer (some ⟨o, 0, none⟩)] w (MtGotR w B o (Mt.got s)) := by
  have ho := hr.lies.lt
  obtain ⟨w1, e1, hk1, hl1, hB1, hz1⟩ := box_msgs w Ms.zero (.slice none 0 0) (.slice none 0 0) Ms.zero (.slice none 0 0) (.slice none 0 0)
  dsimp only [Ms.cells, Ms.zero, Bl.zero] at e1
  have HL1 := Lib.hid hl1; have HK1 := Lib.hid hk1; have HB1 := Lib.hid (hB1.mono hB)
  have HR1 := Lib.hid (hr.kept hB1); have HZ := Lib.hid hz1
  clear hk1 hl1 hB1 hz1 hr
  go_enter Tryz.func70, Tryz.ntmps70
  go_wp2_with fail
  refine (headMt_any (w.heap.size + 1) _).mono ?_
  rintro e2 w2 ⟨v2, rfl, hrow2, hb2⟩
  obtain ⟨l, hl⟩ : ∃ l, l = Mt.head := ⟨_, rfl⟩
  have HL := Lib.hid hl
  have hlen : 0 < l.length := by rw [hl]; decide
  have hll : l.length ≤ 8 := by rw [hl]; decide
  rw [← hl] at hrow2
  obtain ⟨j, cap, cur, rfl, hj, hlr, hcell⟩ := hrow2.lies hlen
  have HL2 := Lib.hid (HL1.out.below hb2 HL1.out.lt); have HK2 := Lib.hid (HK1.out.below hb2 HK1.out.lt)
  have HR2 := Lib.hid (HR1.out.kept hb2); have HB2 := Lib.hid (HB1.out.trans (hb2.mono (Nat.le_trans hB HB1.out.size)))
  have HJ : Hid (w.heap.size + 1 < j) := by show _ < _; have := HZ.out; omega
  have HW2 := Lib.hid hlr; have HC := Lib.hid hcell
  clear hrow2 hb2 hl hj hlr hcell
  go_wp2
  go_loopw [12] (fun i wr => ∃ (k : Nat) (t : Ms.Msg × Nat × Int), i = .int .i64 (k : Int) ∧ k ≤ l.length ∧ Hid (Below B w wr) ∧ Hid (t = (l.take k).foldl (Mt.gstep s) (Ms.zero, 0, 0)) ∧ Hid (Rdr wr B o u s t.2.1 t.2.2) ∧ Hid (Msgs wr (w.heap.size + 1) t.1 (.slice none 0 0) (.slice none 0 0)) ∧ Hid (t.1.ents = [] ∧ t.1.img = []) ∧ Hid (Lies wr j 20 cur) ∧ Hid (Msgs wr w.heap.size Ms.zero (.slice none 0 0) (.slice none 0 0))) (fun i _ => l.length - (intOf i).toNat)
  case atStart => exact ⟨0, (Ms.zero, 0, 0), rfl, by omega, HB2, rfl, HR2, HL2, ⟨rfl, rfl⟩, HW2, HK2⟩
  case round =>
    obtain ⟨k, t, rfl, hk, HB, HT, HR, HM, HN, HW, HK⟩ := hrel
    by_cases hlt : k < l.length
    · have hlt' : (k : Int) < (l.length : Int) := by omega
      obtain ⟨e, he⟩ : ∃ e, l[k]? = some e := ⟨_, List.getElem?_eq_getElem hlt⟩
      have hcell := HW.out.cell k _ (HC.out k e he)
      have HOK : Hid (e.ok ∧ ∃ j, e = .num j) := by
        have h1 := List.mem_of_getElem? he
        rw [HL.out] at h1
        refine ⟨Mt.all_ok 0 e (List.mem_append_left _ h1), ?_⟩
        simp only [Mt.head, List.mem_cons, List.not_mem_nil, or_false] at h1
        rcases h1 with rfl | rfl | rfl <;> exact ⟨_, rfl⟩
      have HST : Hid ((l.take (k + 1)).foldl (Mt.gstep s) (Ms.zero, 0, 0) = Mt.gstep s t e) := by show _ = _; rw [List.take_add_one, he, List.foldl_append, ← HT.out]; rfl
      clear he
      go_wp2_with fail
      refine (getMt_any e HOK.out.1 (w.heap.size + 1) t _ B o u s HR.out HM.out (by omega) (by omega) HN.out.1 HN.out.2).mono ?_
      rintro e5 w5 ⟨rfl, ve, vi, hm5, he5, hi5, hr5, hs5, hb5, hn5⟩
      obtain ⟨rfl, rfl⟩ := hn5 HOK.out.2
      have HM5 := Lib.hid hm5; have HR5 := Lib.hid hr5; have HB5 := Lib.hid (HB.out.trans hb5)
      have HN5 : Hid ((Mt.gstep s t e).1.ents = [] ∧ (Mt.gstep s t e).1.img = []) := ⟨he5.nil, hi5.nil⟩
      have HW5 := Lib.hid (hs5 _ _ _ (by have := HJ.out; omega) (by have := HJ.out; omega) HW.out)
      have HK5 := Lib.hid (hs5 _ _ _ (by omega) (by omega) HK.out)
      clear hm5 he5 hi5 hr5 hs5 hb5 hn5 hcell
      go_wp2
      go_roundw
      case rel => exact ⟨k + 1, Mt.gstep s t e, by go_num, by omega, HB5, HST.out.symm, HR5, HM5, HN5, HW5, HK5⟩
      case measure => simp [intOf]; omega
    · have hlt' : ¬ (k : Int) < (l.length : Int) := by omega
      have ht := HT.out
      rw [List.take_of_length_le (by omega), HL.out, Mt.head_fold] at ht
      have HTS : Hid (t = Mt.start s) := ht
      have hkind : t.1.kind = Mt.kindOf s := by rw [ht]; rfl
      have hc0 := Msgs.c0 HM.out
      rw [hkind] at hc0
      have HRES : Hid (Mt.got s = if t.2.2 = 0 ∧ Ms.known (Mt.kindOf s) = false then (t.1, 3) else ((Mt.all s).1, Cm.done s (Mt.all s).2.1 (Mt.all s).2.2)) := by rw [ht]; rfl
      clear ht hkind
      go_wp2_with fail
      refine (fieldsMt_any (w.heap.size + 1) (Mt.kindOf s) _ hc0).mono ?_
      rintro e4 w4 ⟨v4, rfl, hrow4, hb4⟩
      have hel := Mt.elems_len (Mt.kindOf s)
      obtain ⟨l2, hl2⟩ : ∃ l2, l2 = Mt.elems (Mt.kindOf s) := ⟨_, rfl⟩
      have HL2' := Lib.hid hl2
      rw [← hl2] at hrow4 hel
      obtain ⟨ao, cap2, j2, cur2, rfl, hlies, hcell2⟩ := hrow4.lies_or
      have HM4 := Lib.hid (HM.out.below hb4 HM.out.lt); have HK4 := Lib.hid (HK.out.below hb4 HK.out.lt)
      have HR4 := Lib.hid (HR.out.kept hb4); have HB4 := Lib.hid (HB.out.trans (hb4.mono (Nat.le_trans hB HB.out.size)))
      have HJ2 : Hid (0 < l2.length → w.heap.size + 1 < j2) := fun h => by have := (hlies h).2.1; have := HM.out.lt; omega
      have HLI := Lib.hid hlies; have HC2 := Lib.hid hcell2
      clear hc0 hrow4 hl2 hlies hcell2 hb4
      obtain ⟨hl5, hl0⟩ := hel
      go_wp2_with fail
      refine (rerr_any _ B o u s t.2.1 t.2.2 HR4.out).mono ?_
      rintro e5 w5 ⟨rfl, rfl⟩
      obtain ⟨er, her⟩ : ∃ er, er = t.2.2 := ⟨_, rfl⟩
      have HER := Lib.hid her
      rw [← her] at HRES ⊢
      clear her
      by_cases hcase : er = 0 ∧ Ms.known (Mt.kindOf s) = false
      · have HRES2 := Lib.hid (HRES.out.trans (if_pos hcase))
        obtain ⟨h0, hk⟩ := hcase
        have hz := hl0.2 hk
        subst h0
        clear hk hl0 HRES
        rw [hz]
        obtain ⟨p0, p1, p2, p3, p4, p5, p6, p7, p8, p9⟩ := Msgs.ten HM4.out
        go_wp2_with (refine store_msg (by rfl) _ _ (by rfl) w.heap.size Ms.zero _ _ t.1 (.slice none 0 0) (.slice none 0 0) (by rfl) (by rfl) rfl rfl HK4.out ?_; intro w7 hl7 hg7)
        refine ret_msg2 rfl rfl hl7 rfl ?_
        rw [HRES2.out]
        exact ⟨_, _, rfl, .inl ⟨rfl, HN.out.1⟩, by show Reads _ _ t.1.img; rw [HN.out.2]; exact Reads.empty _, HB4.out.grown hg7 (Nat.le_trans hB HB4.out.size) (by rintro x hx; cases hx; exact hB)⟩
      · have HRES2 := Lib.hid (HRES.out.trans (if_neg hcase))
        have hsub : (er = 0 ∧ ((l2.length : Int) == 0) = false) ∨ (er == 0) = false := by
          by_cases h0 : er = 0
          · refine .inl ⟨h0, ?_⟩
            have : l2.length ≠ 0 := fun h => hcase ⟨h0, hl0.1 h⟩
            simp only [beq_eq_false_iff_ne]
            omega
          · exact .inr (by simpa using h0)
        clear hcase hl0 HRES
        have HT4 := Lib.hid (HTS.out)
        rcases hsub with ⟨h0, hne⟩ | hne
        subst h0
        all_goals go_wp2
        all_goals
          go_loopw [32] (fun i wr => ∃ (k : Nat) (t : Ms.Msg × Nat × Int) (ve vi : Value), i = .int .i64 (k : Int) ∧ k ≤ l2.length ∧ Hid (Below B w wr) ∧ Hid (t = (l2.take k).foldl (Mt.gstep s) (Mt.start s)) ∧ Hid (Rdr wr B o u s t.2.1 t.2.2) ∧ Hid (Msgs wr (w.heap.size + 1) t.1 ve vi) ∧ Hid (ListE o wr ve t.1.ents) ∧ Hid (Reads wr vi t.1.img) ∧ Hid (k < l2.length → ve = .slice none 0 0 ∧ vi = .slice none 0 0) ∧ Hid (k < l2.length → Lies wr j2 20 cur2) ∧ Hid (Msgs wr w.heap.size Ms.zero (.slice none 0 0) (.slice none 0 0))) (fun i _ => l2.length - (intOf i).toNat)
          case atStart => exact ⟨0, t, _, _, rfl, by omega, HB4, HTS.out, HR4, HM4, .inl ⟨rfl, HN.out.1⟩, (by show Reads _ _ t.1.img; rw [HN.out.2]; exact Reads.empty _), (fun _ => ⟨rfl, rfl⟩), (fun h => (HLI.out h).2.2), HK4⟩
          case round =>
            clear hk
            obtain ⟨i, T, ve, vi, rfl, hi, HB5, HT5, HR5, HM5, HE5, HI5, HNIL, HROW, HK5⟩ := hrel
            by_cases hlt2 : i < l2.length
            · have hlt2' : (i : Int) < (l2.length : Int) := by omega
              obtain ⟨rfl, rfl⟩ := HNIL.out hlt2
              obtain ⟨rfl, _, _⟩ := HLI.out (by omega)
              obtain ⟨e, he⟩ : ∃ e, l2[i]? = some e := ⟨_, List.getElem?_eq_getElem hlt2⟩
              have hcell := (HROW.out hlt2).cell i _ (HC2.out i e he)
              have HOK : Hid (e.ok) := by
                have h1 := List.mem_of_getElem? he
                rw [HL2'.out] at h1
                exact Mt.all_ok _ e (List.mem_append_right _ h1)
              have HLAST : Hid ((∃ j, e = .num j) ∨ i + 1 = l2.length) := by have h := he; rw [HL2'.out] at h; rw [HL2'.out]; exact Mt.last_of h
              have HST : Hid ((l2.take (i + 1)).foldl (Mt.gstep s) (Mt.start s) = Mt.gstep s T e) := by show _ = _; rw [List.take_add_one, he, List.foldl_append, ← HT5.out]; rfl
              have HJ3 := Lib.hid (HJ2.out (by omega))
              clear he
              go_wp2_with fail
              refine (getMt_any e HOK.out (w.heap.size + 1) T _ B o u s HR5.out HM5.out (by omega) (by omega) HE5.out.nil HI5.out.nil).mono ?_
              rintro e6 w6 ⟨rfl, ve, vi, hm6, he6, hi6, hr6, hs6, hb6, hn6⟩
              have HM6 := Lib.hid hm6; have HR6 := Lib.hid hr6; have HB6 := Lib.hid (HB5.out.trans hb6); have HE6 := Lib.hid he6; have HI6 := Lib.hid hi6
              have HNIL6 : Hid (i + 1 < l2.length → ve = .slice none 0 0 ∧ vi = .slice none 0 0) := fun h => by
                rcases HLAST.out with hj | h'
                · exact hn6 hj
                · omega
              have HROW6 : Hid (i + 1 < l2.length → Lies w6 j2 20 cur2) := fun _ => hs6 _ _ _ (by have := HJ3.out; omega) (by have := HJ3.out; omega) (HROW.out hlt2)
              have HK6 := Lib.hid (hs6 _ _ _ (by omega) (by omega) HK5.out)
              clear hm6 he6 hi6 hr6 hs6 hb6 hn6 hcell
              go_wp2
              go_roundw
              case rel => exact ⟨i + 1, Mt.gstep s T e, ve, vi, by go_num, by omega, HB6, HST.out.symm, HR6, HM6, HE6, HI6, HNIL6, HROW6, HK6⟩
              case measure => simp [intOf]; omega
            · have hlt2' : ¬ (i : Int) < (l2.length : Int) := by omega
              have hT := HT5.out
              rw [List.take_of_length_le (by omega), HL2'.out] at hT
              have HTA : Hid (T = Mt.all s) := hT
              obtain ⟨vo, vn, vc, rfl⟩ := HE5.out.slice
              obtain ⟨io, ic, hio⟩ := HI5.out.shape
              obtain ⟨xn, hxn⟩ : ∃ xn, xn = T.1.img.length := ⟨_, rfl⟩
              rw [← hxn] at hio
              subst hio
              clear hT hxn
              obtain ⟨p0, p1, p2, p3, p4, p5, p6, p7, p8, p9⟩ := Msgs.ten HM5.out
              have HD : Hid (Calls Tryz.prog 69 #[.pointer (some ⟨o, 0, none⟩)] wr.drew (fun en w' => en = .returned (.int .i64 (Cm.done s T.2.1 T.2.2)) ∧ Msgs w' (w.heap.size + 1) T.1 (.slice vo vn vc) (.slice io xn ic) ∧ Msgs w' w.heap.size Ms.zero (.slice none 0 0) (.slice none 0 0) ∧ Below wr.heap.size wr w')) := by
                refine (rdone_any wr.drew B o u s T.2.1 T.2.2 (HR5.out.kept (Below.refl _ _).drew)).mono ?_
                rintro en w' ⟨rfl, q6, rfl⟩
                have hd : Below wr.heap.size wr (wr.drew.drewN q6) := ((Below.refl _ _).drew).trans (drawnAt wr.drew q6)
                exact ⟨rfl, HM5.out.below hd HM5.out.lt, HK5.out.below hd HK5.out.lt, hd⟩
              obtain ⟨z0, z1, z2, z3, z4, z5, z6, z7, z8, z9⟩ := Msgs.ten HK5.out
              dsimp only [Ms.zero, Bl.zero] at z0 z1 z2 z3 z4 z5 z6 z7
              have f0 := HK5.out.free 0; have f1 := HK5.out.free 1; have f2 := HK5.out.free 2; have f3 := HK5.out.free 3; have f4 := HK5.out.free 4; have f5 := HK5.out.free 5; have f6 := HK5.out.free 6; have f7 := HK5.out.free 7; have f8 := HK5.out.free 8; have f9 := HK5.out.free 9
              go_wp2
              go_region_with (first
                | (go_at_call 69
                   with_reducible refine HD.out.mono ?_
                   rintro e6 w6 ⟨rfl, hm6, hk6, hd6⟩
                   obtain ⟨p0, p1, p2, p3, p4, p5, p6, p7, p8, p9⟩ := Msgs.ten hm6
                   have HAT : Hid (Msgs w6 w.heap.size Ms.zero (.slice none 0 0) (.slice none 0 0) ∧ Below wr.heap.size wr w6) := ⟨hk6, hd6⟩
                   obtain ⟨z0, z1, z2, z3, z4, z5, z6, z7, z8, z9⟩ := Msgs.ten hk6
                   dsimp only [Ms.zero, Bl.zero] at z0 z1 z2 z3 z4 z5 z6 z7
                   have f0 := hk6.free 0; have f1 := hk6.free 1; have f2 := hk6.free 2; have f3 := hk6.free 3; have f4 := hk6.free 4; have f5 := hk6.free 5; have f6 := hk6.free 6; have f7 := hk6.free 7; have f8 := hk6.free 8; have f9 := hk6.free 9))
              all_goals
                refine set_ten HAT.out.1 _ _ _ _ _ _ _ _ _ _ ?_
                intro w7 hl7 hg7
                clear p0 p1 p2 p3 p4 p5 p6 p7 p8 p9 z0 z1 z2 z3 z4 z5 z6 z7 z8 z9 f0 f1 f2 f3 f4 f5 f6 f7 f8 f9
                have HL7 : Hid (Msgs w7 w.heap.size T.1 (.slice vo vn vc) (.slice io xn ic)) := hl7
                have HE7 := Lib.hid ((HE5.out.saves (SavesO.of_below HAT.out.2)).kept HAT.out.1 (by decide) hg7)
                have HI7 := Lib.hid ((HI5.out.below HAT.out.2).kept_msg HAT.out.1 hg7)
                have HB7 := Lib.hid ((HB5.out.trans (HAT.out.2.mono (Nat.le_trans hB HB5.out.size))).grown hg7 (Nat.le_trans hB (Nat.le_trans HB5.out.size HAT.out.2.size)) (by rintro x hx; cases hx; exact hB))
                clear hl7 hg7
                go_wp2
                refine ret_msg2 rfl rfl HL7.out rfl ?_
                rw [HRES2.out, ← HTA.out]
                exact ⟨_, _, rfl, HE7.out, HI7.out, HB7.out⟩

end Go.Proofs.YtndicjpbanmpjaaGreatDoor


namespace Go.Proofs.YtndicjpbanmpjaaGreatDoor
open Go.RowKit

set_option maxRecDepth 4000 in
set_option maxHeartbeats 3200000 in
theorem decodeMt_any (u : Value) (s : List UInt8) (w : World) (hF : FieldsIn w) (hW : WordsIn w) (hu : Reads w u s) (hb : s.length ≤ 1000000000) :
    Calls Tryz.prog 45 #[u] w (MDecd w (Mt.decode s)) := by
  obtain ⟨w1, e1, hl1, hB1, hz1⟩ := box_msg w Ms.zero (.slice none 0 0) (.slice none 0 0)
  dsimp only [Ms.cells, Ms.zero, Bl.zero] at e1
  have HK1 := Lib.hid hl1; have HB1 := Lib.hid hB1; have HU1 := Lib.hid (hu.below hB1); have HZ := Lib.hid hz1
  have HF := Lib.hid (fun W (h : Below w.heap.size w W) => hF.below h); have HW := Lib.hid (fun W (h : Below w.heap.size w W) => hW.below h)
  obtain ⟨hinv1, hinv2, _, hinv4⟩ := Mt.got_inv s
  have hr := Mt.decode_got s
  obtain ⟨r, hrr⟩ : ∃ r, r = Mt.decode s := ⟨_, rfl⟩
  rw [← hrr] at hr ⊢
  obtain ⟨t, ht⟩ : ∃ t, t = Mt.got s := ⟨_, rfl⟩
  rw [← ht] at hr hinv1 hinv2 hinv4
  have HT := Lib.hid ht; have HRES := Lib.hid hr
  have HSH : Hid (∀ e ∈ t.1.ents, e.cmd.Short 140737488355328) := fun e he => ⟨Nat.le_trans (hinv2 e he).1 (by omega), Nat.le_trans (hinv2 e he).2.1 (by omega), Nat.le_trans (hinv2 e he).2.2 (by omega)⟩
  clear hl1 hB1 hz1 hu hr hrr ht hF hW hinv1 hinv2 hinv4
  go_enter Tryz.func45, Tryz.ntmps45
  go_wp2_with fail
  refine (newreader_any u s _ w1.heap.size (Nat.le_refl _) HU1.out (by omega)).mono ?_
  rintro e2 w2 ⟨o, rv, rfl, ho, hr2, hb2⟩
  have HK2 := Lib.hid (HK1.out.below hb2 HK1.out.lt); have HB2 := Lib.hid (HB1.out.trans (hb2.mono HB1.out.size)); have HR2 := Lib.hid hr2
  have HX2 := Lib.hid hb2
  have hlo : w.heap.size < o := by have := HZ.out; omega
  clear hr2 hb2
  go_wp2_with fail
  refine (readMt_any _ w1.heap.size o rv s HR2.out HX2.out.size).mono ?_
  rintro e3 w3 ⟨ve, vi, rfl, hle, hi, hb3⟩
  rw [← HT.out] at hle hi ⊢
  obtain ⟨vo, vn, vc, rfl⟩ := hle.slice
  obtain ⟨io, ic, rfl⟩ := hi.shape
  obtain ⟨xn, hxn⟩ : ∃ xn, xn = t.1.img.length := ⟨_, rfl⟩
  rw [← hxn] at hi ⊢
  obtain ⟨z, hz⟩ : ∃ z, z = t.2 := ⟨_, rfl⟩
  rw [← hz] at HRES ⊢
  have HE3 := Lib.hid hle; have HI3 := Lib.hid hi; have HB3 := Lib.hid (HB2.out.trans (hb3.mono (Nat.le_of_lt (by have := HZ.out; omega))))
  have HK3 := Lib.hid (HK2.out.below hb3 (by have := HZ.out; omega))
  clear hle hi hb3 hxn hz
  have hlt3 : w.heap.size < w3.heap.size := HK3.out.lt
  by_cases h0 : z = 0
  · subst h0
    have HR5 := Lib.hid (HRES.out.trans (if_neg (by simp)))
    go_wp2_with (first
      | (refine store_msg (by rfl) _ _ (by rfl) w3.heap.size Ms.zero _ _ t.1 (.slice vo vn vc) (.slice io xn ic) (by rfl) (by rfl) rfl rfl (Lies.new _ _ _) ?_
         intro w5 hl4 hg4
         have hb := fresh_below hg4
         have HE5 := Lib.hid (HE3.out.saves (SavesO.of_below hb)); have HI5 := Lib.hid (HI3.out.below hb)
         have HK5 := Lib.hid (HK3.out.below hb HK3.out.lt); have HM5 := Lib.hid hl4; have HB5 := Lib.hid (HB3.out.trans (hb.mono HB3.out.size))
         clear hl4 hg4 hb
         obtain ⟨p0, p1, p2, p3, p4, p5, p6, p7, p8, p9⟩ := Msgs.ten HM5.out)
      | fail)
    have HC5 := Lib.hid (checkM_any t.1 (.slice vo vn vc) (.slice io xn ic) w5 (HF.out _ HB5.out) (HW.out _ HB5.out) HE5.out.reads HI5.out HSH.out)
    obtain ⟨y, hy⟩ : ∃ y, y = Ms.check t.1 := ⟨_, rfl⟩
    rw [← hy] at HC5 HR5
    clear hy
    refine HC5.out.mono ?_
    rintro e6 w6 ⟨rfl, hb⟩
    have HE6 := Lib.hid (HE5.out.saves (SavesO.of_below hb)); have HI6 := Lib.hid (HI5.out.below hb)
    have HK6 := Lib.hid (HK5.out.below hb HK5.out.lt); have HM6 := Lib.hid (HM5.out.below hb HM5.out.lt); have HB6 := Lib.hid (HB5.out.trans (hb.mono HB5.out.size))
    clear hb p0 p1 p2 p3 p4 p5 p6 p7 p8 p9
    obtain ⟨p0, p1, p2, p3, p4, p5, p6, p7, p8, p9⟩ := Msgs.ten HM6.out
    by_cases hy0 : y = 0
    · subst hy0
      have HZ2 : Hid (r = (t.1, 0)) := HR5.out.trans (if_neg (by simp))
      go_wp2_with (refine store_msg (by rfl) _ _ (by rfl) w.heap.size Ms.zero _ _ t.1 (.slice vo vn vc) (.slice io xn ic) (by rfl) (by rfl) rfl rfl HK6.out ?_; intro w7 hl7 hg7)
      refine ret_msg2 rfl rfl hl7 rfl ?_
      rw [HZ2.out]
      exact ⟨HB6.out.grown hg7 HB6.out.size (by rintro j hj; cases hj; exact Nat.le_refl _), _, _, rfl, (HE6.out.kept HK6.out (by decide) hg7).reads, HI6.out.kept_msg HK6.out hg7, rfl, rfl⟩
    · have hne : (y != 0) = true := by simpa using hy0
      have HZ2 : Hid (r = (Ms.zero, y)) := HR5.out.trans (if_pos hy0)
      clear hy0
      go_wp2_with (refine store_msg (by rfl) _ _ (by rfl) w.heap.size Ms.zero _ _ Ms.zero (.slice none 0 0) (.slice none 0 0) (by rfl) (by rfl) rfl rfl HK6.out ?_; intro w7 hl7 hg7)
      refine ret_msg2 rfl rfl hl7 rfl ?_
      rw [HZ2.out]
      exact ⟨HB6.out.grown hg7 HB6.out.size (by rintro j hj; cases hj; exact Nat.le_refl _), _, _, rfl, ReadsR.empty _ 10, Reads.empty _, rfl, rfl⟩
  · have hne : (z != 0) = true := by simpa using h0
    have heq : (z == 0) = false := by simpa using h0
    have HZ2 : Hid (r = (Ms.zero, z)) := HRES.out.trans (if_pos h0)
    clear h0
    go_wp2_with (first
      | (refine store_msg (by rfl) _ _ (by rfl) w3.heap.size Ms.zero _ _ t.1 (.slice vo vn vc) (.slice io xn ic) (by rfl) (by rfl) rfl rfl (Lies.new _ _ _) ?_
         intro w5 hl4 hg4
         have hb := fresh_below hg4
         have HE5 := Lib.hid (HE3.out.saves (SavesO.of_below hb)); have HI5 := Lib.hid (HI3.out.below hb)
         have HK5 := Lib.hid (HK3.out.below hb HK3.out.lt); have HM5 := Lib.hid hl4; have HB5 := Lib.hid (HB3.out.trans (hb.mono HB3.out.size))
         clear hl4 hg4 hb
         obtain ⟨p0, p1, p2, p3, p4, p5, p6, p7, p8, p9⟩ := Msgs.ten HM5.out)
      | (refine store_msg (by rfl) _ _ (by rfl) w.heap.size Ms.zero _ _ Ms.zero (.slice none 0 0) (.slice none 0 0) (by rfl) (by rfl) rfl rfl HK5.out ?_; intro w7 hl7 hg7)
      | fail)
    refine ret_msg2 rfl rfl hl7 rfl ?_
    rw [HZ2.out]
    exact ⟨HB5.out.grown hg7 HB5.out.size (by rintro j hj; cases hj; exact Nat.le_refl _), _, _, rfl, ReadsR.empty _ 10, Reads.empty _, rfl, rfl⟩

end Go.Proofs.YtndicjpbanmpjaaGreatDoor
