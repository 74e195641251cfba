/- Decode of a snapshot in schema 1. -/
import Derived.Test.YtggipagbmmjfbaaSnList
import Derived.Test.YtggipagbmmjfbaaSnOne
import Derived.Test.YtggipagbmmjfbaaSnLaw
import Derived.Test.YtggipagbmmjfbaaGSy
namespace Go.Proofs.Ytggipagbmmjfbaa
open Go.RowKit

namespace Sn
abbrev big : Lim := ⟨9223372036854775807, 9223372036854775807, 0⟩
/-- What is read: the state, the error. -/
def rd (b : List UInt8) : Mg.St × Int :=
  if (rnm 2 b 0 0).2.2 ≠ 0 then (Mg.zero, (rnm 2 b 0 0).2.2)
  else if (rnm 2 b 0 0).1 ≠ 1 then (Mg.zero, 3)
  else (⟨1, (read 1 big b (rnm 2 b 0 0).2.1.toNat 0).1.1, (read 1 big b (rnm 2 b 0 0).2.1.toNat 0).1.2⟩,
    Pk.done b (read 1 big b (rnm 2 b 0 0).2.1.toNat 0).2.1 (read 1 big b (rnm 2 b 0 0).2.1.toNat 0).2.2)
theorem rd_ok {b : List UInt8} (h : (rd b).2 = 0) : (rd b).1.schema = 1 ∧ bytes (rd b).1 = b := by
  obtain ⟨n, q, e, hn, _, h0, _, hq, ht⟩ := rnm_res 2 b 0 0 (by omega)
  unfold rd at h ⊢
  rw [hn] at h ⊢
  dsimp only at h ⊢
  split at h
  · rename_i hc
    exact absurd h hc
  · rename_i he
    rw [if_neg he]
    split at h
    · cases h
    · rename_i hc
      rw [if_neg hc]
      have hn1 : n = 1 := Decidable.byContradiction hc
      have he0 : e = 0 := Decidable.byContradiction he
      subst hn1
      subst he0
      simp only [Int.toNat_natCast] at h ⊢
      have hle := read_le 1 big b q 0 hq
      unfold Pk.done at h
      by_cases he : (read 1 big b q 0).2.2 = 0
      · rw [if_neg (by simpa using he)] at h
        have hlen : (read 1 big b q 0).2.1 = b.length := by
          by_cases hlt : (read 1 big b q 0).2.1 < b.length
          · rw [if_pos hlt] at h; omega
          · omega
        refine ⟨by trivial, ?_⟩
        exact whole_ok hq (by simpa using (ht rfl).2) he hlen
      · rw [if_pos (by simpa using he)] at h
        exact absurd h he
theorem rd_back {y : Mg.St} (h : Mg.check y = true) (h1 : y.schema = 1) : rd (bytes y) = (y, 0) := by
  obtain ⟨hmid, _, _⟩ := mid_of h
  obtain ⟨a1, a2, a3, a4⟩ := ok_of (m := ⟨9223372036854775807, 9223372036854775807, 4294967296⟩) (by show (4294967296 : Int) ≤ 4294967296; omega) h (fun e he => by have := hmid.kv e he; exact ⟨⟨by omega, by show (_ : Int) ≤ 9223372036854775807; omega⟩, by omega, by show (_ : Int) ≤ 9223372036854775807; omega⟩) (fun e he => by have := hmid.ses e he; omega)
  have a1' : ∀ p ∈ y.pairs, PairOk y.schema big p := fun p hp => by
    have := a1 p hp
    have h0 := this.one (by omega)
    exact ⟨this.key, this.val, ⟨this.rev.1, by show p.rev ≤ 0; omega⟩, this.one⟩
  have hr := read_at y.schema big y.pairs y.sess a1' a2 a3 a4 (enc y.schema.toNat) []
  have hn := Pk.num_enc [] (body y.schema y.pairs y.sess) (N := y.schema.toNat) (most := 2) (by omega) (by omega)
  simp only [List.nil_append, List.length_nil, Nat.zero_add] at hn
  have hb : bytes y = enc y.schema.toNat ++ body y.schema y.pairs y.sess := rfl
  rw [List.append_nil, ← hb] at hr
  rw [← hb] at hn
  have hrn : rnm 2 (bytes y) 0 0 = (y.schema, (((enc y.schema.toNat).length : Nat) : Int), 0) := by
    unfold rnm
    rw [if_pos rfl, hn, Int.toNat_of_nonneg (by omega)]
  unfold rd
  rw [hrn]
  dsimp only
  rw [if_neg (by simp), if_neg (by simpa using h1)]
  simp only [Int.toNat_natCast]
  rw [h1] at hr ⊢
  rw [hr]
  dsimp only
  unfold Pk.done
  rw [if_neg (by simp), if_neg (by omega)]
  obtain ⟨v, l, m⟩ := y
  dsimp only at h1
  subst h1
  rfl
theorem few_of {x : Mg.St} {b : List UInt8} (h : bytes x = b) (hb : b.length ≤ 1000000) : x.Few := by
  have hl : (bytes x).length ≤ 1000000 := by rw [h]; exact hb
  unfold bytes body Lc.bytes at hl
  simp only [List.length_append] at hl
  have f1 := Lc.flat_ge (pair_codes x.schema big) x.pairs
  have f2 := Lc.flat_ge (ses_codes x.schema) x.sess
  have mem : ∀ {α : Type} (e : α → List UInt8) (l : List α) (a : α), a ∈ l → (e a).length ≤ (l.flatMap e).length := fun e l a ha => by
    induction l with
    | nil => simp at ha
    | cons x r ih =>
      rw [List.flatMap_cons, List.length_append]
      rcases List.mem_cons.1 ha with rfl | ha
      · omega
      · have := ih ha; omega
  refine ⟨by omega, fun p hp => ?_, fun s hs => ?_, by omega⟩
  · have h1 := mem (pbytes x.schema) x.pairs p hp
    have h2 : p.key.length + p.val.length ≤ (pbytes x.schema p).length := by
      unfold pbytes Pk.text
      simp only [List.length_append]
      omega
    omega
  · have h1 := mem (sbytes x.schema) x.sess s hs
    have h2 : s.last.val.length ≤ (sbytes x.schema s).length := by
      unfold sbytes An.bytes Pk.text
      simp only [List.length_append]
      omega
    omega
end Sn

theorem LstK.shape {o : Nat} {w : World} {v : Value} {l : List Kv.Item} (h : LstK o w v l) : ∃ ao cap, v = .slice ao l.length cap := by
  obtain ⟨ao, cap, e, _⟩ := ReadsK.shape h.reads
  exact ⟨ao, cap, e⟩
theorem LstS.shape {o : Nat} {w : World} {v : Value} {l : List Se.Ses} (h : LstS o w v l) : ∃ ao cap, v = .slice ao l.length cap := by
  obtain ⟨ao, cap, e, _⟩ := ReadsN.shape h.reads
  exact ⟨ao, cap, e⟩
/-- What the reading of a state gives. -/
def StGot (w : World) (B o : Nat) (u : Value) (b : List UInt8) (t : (List Kv.Item × List Se.Ses) × Nat × Int) (e : Ending) (w' : World) : Prop :=
  ∃ vp vs, e = .returned (.agg (Mg.cells 1 vp vs)) ∧ LstK o w' vp t.1.1 ∧ LstS o w' vs t.1.2 ∧ Rdr w' B o u b t.2.1 t.2.2 ∧ Below B w w'

set_option maxRecDepth 4000 in
set_option maxHeartbeats 3200000 in
theorem readState_any (w : World) (B o : Nat) (u : Value) (b : List UInt8) (p : Nat) (er : Int) (hr : Rdr w B o u b p er) (hB : B ≤ w.heap.size) :
    Calls Try.prog 24 #[.pointer (some ⟨o, 0, none⟩)] w (StGot w B o u b (Sn.read 1 Sn.big b p er)) := by
  have ho := hr.lies.lt
  obtain ⟨t, ht⟩ : ∃ t, t = Sn.read 1 Sn.big b p er := ⟨_, rfl⟩
  rw [← ht]
  unfold Sn.read at ht
  dsimp only at ht
  have HT := Lib.hid ht
  clear ht
  obtain ⟨w1, e1, hx1, hB1, hz1⟩ := box_st0 w
  have HX1 := Lib.hid hx1; have HB1 := Lib.hid (hB1.mono hB); have HS1 := Lib.hid (SavesS.of_below (o := o) hB1)
  have HR1 := Lib.hid (hr.kept hB1)
  clear hx1 hB1 hz1 hr
  dsimp only [Mg.cells] at e1
  go_enter Try.func24, Try.ntmps24
  go_wp2_with fail
  refine (listK_any (Sn.getP 1 Sn.big) 64 (by omega) _ B o u b p er HR1.out (Nat.le_trans hB HB1.out.size) (fun W p' er' a1 a2 => pairGot_any W B o u b p' er' a1 a2)).mono ?_
  rintro e w6 ⟨v6, rfl, hk6, hr6, hb6, hs6⟩
  obtain ⟨P, hP⟩ : ∃ P, P = Lc.get (Sn.getP 1 Sn.big) 64 b p er := ⟨_, rfl⟩
  rw [← hP] at hk6 hr6 HT
  obtain ⟨po, pc, hv6⟩ := hk6.shape
  have HK6 := Lib.hid hk6
  have HR6 := Lib.hid hr6
  have HB6 := Lib.hid (HB1.out.trans hb6)
  have HX6 : Hid (StAt w6 w.heap.size 0 (.slice none 0 0) (.slice none 0 0)) := ⟨hs6 _ _ _ (by omega) HX1.out.lies, HX1.out.vp, HX1.out.vs⟩
  obtain ⟨pn, hpn⟩ : ∃ k, k = P.1.length := ⟨_, rfl⟩
  rw [← hpn] at hv6
  clear hk6 hr6 hb6 hs6 hP hpn
  subst hv6
  go_wp2_with fail
  refine (listS_any (Sn.getS 1) 8 (by omega) _ B o u b P.2.1 P.2.2 HR6.out (Nat.le_trans hB HB6.out.size) (fun W p' er' a1 a2 => sesGot_any W B o u b p' er' a1 a2)).mono ?_
  rintro e w8 ⟨v8, rfl, hk8, hr8, hb8, hs8⟩
  obtain ⟨Z, hZ⟩ : ∃ Z, Z = Lc.get (Sn.getS 1) 8 b P.2.1 P.2.2 := ⟨_, rfl⟩
  rw [← hZ] at hk8 hr8 HT
  obtain ⟨so, sc, hv8⟩ := hk8.shape
  have HM8 := Lib.hid hk8
  have HK8 := Lib.hid (HK6.out.saves hs8)
  have HR8 := Lib.hid hr8
  have HB8 := Lib.hid (HB6.out.trans hb8)
  have HX8 : Hid (StAt w8 w.heap.size 0 (.slice none 0 0) (.slice none 0 0)) := ⟨hs8 _ _ _ (by omega) HX6.out.lies, HX6.out.vp, HX6.out.vs⟩
  obtain ⟨sn, hsn⟩ : ∃ k, k = Z.1.length := ⟨_, rfl⟩
  rw [← hsn] at hv8
  clear hk8 hr8 hb8 hs8 hZ hsn
  subst hv8
  go_wp2_with (first
    | (refine store_st (m := 1) (up := .slice po pn pc) (us := .slice so sn sc) rfl _ _ rfl rfl HX8.out ⟨⟨_, _, _, rfl⟩, ⟨_, _, _, rfl⟩⟩ rfl ?_; intro w9 hx9 hg9; have HX9 := Lib.hid hx9; have HG9 := Lib.hid hg9; clear hx9 hg9))
  refine ret_st1 rfl rfl HX9.out rfl ?_
  rw [HT.out]
  exact ⟨_, _, rfl, HK8.out.kept HX8.out.lies (by decide) HG9.out, HM8.out.kept HX8.out.lies (by decide) HG9.out,
    HR8.out.beside' HG9.out (by omega) (fun h => HX8.out.lies.not_row (by decide) HR8.out.owns h.symm), HB8.out.grown HG9.out (Nat.le_trans hB HB8.out.size) (by rintro x hx; cases hx; exact hB)⟩

set_option maxRecDepth 4000 in
set_option maxHeartbeats 1600000 in
theorem readSchema_any (w : World) (B o : Nat) (u : Value) (b : List UInt8) (n : Int) (q : Nat) (f : Int) (hr : Rdr w B o u b 0 0) (y : f ≠ 0 → n = 0) (h : Hid (Sn.rnm 2 b 0 0 = (n, (q : Int), f))) :
    Calls Try.prog 23 #[.pointer (some ⟨o, 0, none⟩)] w (Gave w B o u b q f (.int .i64 (if f ≠ 0 then f else if n ≠ 1 then 3 else 0))) := by
  obtain ⟨E, hE, hk⟩ : ∃ E, (if f ≠ 0 then f else if n ≠ 1 then 3 else 0) = E ∧ ((f != 0) = true ∧ E = f ∨ (f != 0) = false ∧ (n != 1) = false ∧ E = 0 ∨ (f != 0) = false ∧ (n != 1) = true ∧ E = 3) := by
    refine ⟨_, rfl, ?_⟩
    by_cases h0 : f = 0
    · rw [if_neg (by simpa using h0)]
      by_cases h1 : n = 1
      · exact .inr (.inl ⟨by simpa using h0, by simpa using h1, if_neg (by simpa using h1)⟩)
      · exact .inr (.inr ⟨by simpa using h0, by simpa using h1, if_pos h1⟩)
    · exact .inl ⟨by simpa using h0, if_pos h0⟩
  rw [hE]
  have HR := Lib.hid hr
  have HH := Lib.hid h.out
  clear hr hE h
  go_enter Try.func23, Try.ntmps23
  go_wp2_with fail
  refine (rnumL_any 2 _ B o u b 0 0 n q f HR.out y HH).mono ?_
  rintro e v3 ⟨rfl, hr3, hg3⟩
  have HR3 := Lib.hid hr3
  have HG3 := Lib.hid hg3
  clear hr3 hg3 HR y HH
  go_wp2_with fail
  refine (rerr_any _ B o u b q f HR3.out).mono ?_
  rintro e w5 ⟨rfl, rfl⟩
  rcases hk with ⟨d0, rfl⟩ | ⟨d0, d1, rfl⟩ | ⟨d0, d1, rfl⟩ <;> (
    go_wp2
    go_ret
    exact ⟨rfl, HR3.out, HG3.out⟩)

end Go.Proofs.Ytggipagbmmjfbaa
