/- Several texts of mine in one: PkFld PkRef CmdBytes. -/
import Derived.Test.YteboceekcmchkaaGreatDoorRows
import Derived.Test.YteboceekcmchkaaGreatDoorPGRd
import Derived.Deep.Slices
import Derived.Deep.Fields
import Derived.ChangeSame
import Derived.Test.YteboceekcmchkaaGreatDoorPPkMath
import Derived.Laws.IdiomStrings
import Derived.Test.YteboceekcmchkaaGreatDoorGCr
import Derived.Test.YteboceekcmchkaaGreatDoorGCw
namespace Go.Proofs.YteboceekcmchkaaGreatDoor
open Go.RowKit
set_option maxHeartbeats 1600000
set_option maxRecDepth 4000
def ReadsF (w : World) (v : Value) (l : List Fld) : Prop :=
 ∃ (ao : Option Addr) (cap : Nat), v = .slice ao l.length cap ∧ l.length ≤ cap ∧ cap ≤ maxLen ∧ (ao = none → cap = 0) ∧
  (∀ x, ao = some x → ∀ (i : Nat) (f : Fld), l[i]? = some f → ∀ (j : Nat) (u : Value), f.cells[j]? = some u → w.cell? (x.add (i * 4 + j)) = some u) ∧ ∀ f ∈ l, f.Fits
theorem ReadsF.shape {w : World} {v : Value} {l : List Fld} (h : ReadsF w v l) : ∃ ao cap, v = .slice ao l.length cap ∧ l.length ≤ cap ∧ cap ≤ 9223372036854775807 := by
 obtain ⟨ao, cap, rfl, h1, h2, _⟩ := h
 exact ⟨ao, cap, rfl, h1, by unfold maxLen at h2; exact h2⟩
theorem ReadsF.empty (w : World) : ReadsF w (.slice none 0 0) [] := ⟨none, 0, rfl, by simp, by simp [maxLen], fun _ => rfl, (fun x hx => by cases hx), fun f hf => by simp at hf⟩
theorem ReadsF.below {w w' : World} {v : Value} {l : List Fld} (h : ReadsF w v l) (hb : Below w.heap.size w w') : ReadsF w' v l := by
 obtain ⟨ao, cap, rfl, h1, h2, h3, h4, h5⟩ := h
 refine ⟨ao, cap, rfl, h1, h2, h3, fun x hx i f hf j u hu => ?_, h5⟩
 have hc := h4 x hx i f hf j u hu
 rw [← hc]
 exact hb.cell (World.block_lt_of_cell? w _ hc)
theorem ReadsF.place {w : World} {ao : Option Addr} {n cap : Nat} {l : List Fld} (h : ReadsF w (.slice ao n cap) l) (hl : 0 < l.length) :
 ∃ b off, ao = some ⟨b, off, none⟩ ∧ ∀ i f, l[i]? = some f → w.cell? ⟨b, off + i * 4, none⟩ = some (.int .i64 f.kind) ∧ w.cell? ⟨b, off + i * 4 + 1, none⟩ = some (.int .i64 f.n) ∧
  w.cell? ⟨b, off + i * 4 + 2, none⟩ = some (.string ⟨f.s.toArray⟩) ∧ w.cell? ⟨b, off + i * 4 + 3, none⟩ = some (.bool f.is) := by
 obtain ⟨ao', cap', hv, h1, h2, h3, h4, h5⟩ := h
 simp only [Value.slice.injEq] at hv
 obtain ⟨rfl, rfl, rfl⟩ := hv
 cases ao with
 | none => exact absurd (h3 rfl) (by omega)
 | some x =>
  obtain ⟨b, off, spot⟩ := x
  have hc := h4 _ rfl 0 _ (List.getElem?_eq_getElem (by omega)) 0 _ rfl
  have hspot : spot = none := by simpa [Addr.add] using World.cell?_spot hc
  subst hspot
  refine ⟨b, off, rfl, fun i f hf => ⟨?_, ?_, ?_, ?_⟩⟩
  ·have := h4 _ rfl i f hf 0 _ rfl; rwa [Addr.add_lit] at this
  ·have := h4 _ rfl i f hf 1 _ rfl; rwa [Addr.add_lit, ← Nat.add_assoc] at this
  ·have := h4 _ rfl i f hf 2 _ rfl; rwa [Addr.add_lit, ← Nat.add_assoc] at this
  ·have := h4 _ rfl i f hf 3 _ rfl; rwa [Addr.add_lit, ← Nat.add_assoc] at this
theorem ReadsF.places {w : World} {ao : Option Addr} {n cap : Nat} {l : List Fld} (h : ReadsF w (.slice ao n cap) l) (hl : 0 < l.length) :
 ∃ b off, ao = some ⟨b, off, none⟩ ∧ ∀ w', Below w.heap.size w w' → ∀ i f, l[i]? = some f → w'.cell? ⟨b, off + i * 4, none⟩ = some (.int .i64 f.kind) ∧ w'.cell? ⟨b, off + i * 4 + 1, none⟩ = some (.int .i64 f.n) ∧
  w'.cell? ⟨b, off + i * 4 + 2, none⟩ = some (.string ⟨f.s.toArray⟩) ∧ w'.cell? ⟨b, off + i * 4 + 3, none⟩ = some (.bool f.is) := by
 obtain ⟨b, off, rfl, _⟩ := h.place hl
 refine ⟨b, off, rfl, fun w' hb => ?_⟩
 obtain ⟨b', off', he, hc⟩ := (h.below hb).place hl
 cases he
 exact hc
def Pk.large (l : List Fld) : Bool := (l.take 60).any (fun f => decide (200 < f.s.length)) || decide (60 < l.length)
theorem refText_any (s : List UInt8) (w : World) (hs : s.length ≤ 1048576) : Calls Tryz.prog 86 #[.string ⟨s.toArray⟩] w (Makes w 5 (Pk.text s)) := by
 have hsz := str_size s
 have h9 := enc_nine (n := s.length) (by omega)
 go_enter Tryz.func86, Tryz.ntmps86
 go_wp2_with fail
 refine (bytes_any (s.length : Int) _ (by omega) (by omega)).mono ?_
 rintro e1 w1 ⟨u, rfl, ho, hb⟩
 rw [Int.toNat_natCast] at ho
 go_wp2_with (at_builtin; refine append_text rfl _ _ 24 9 5 rfl Tryz.underlying24 Tryz.underlying9 info_u8 w.heap.size (enc s.length) s u rfl rfl ho (by omega) hb.size ?_; intro v2 w2 ho2 hg2)
 go_ret
 exact ⟨_, rfl, ho2, hb.grown hg2 hb.size fun k hk => (World.ownsRow.lt ho k hk).1⟩
theorem Pk.take_next {l : List Fld} {i : Nat} {f : Fld} (h : l[i]? = some f) : Pk.all (l.take (i + 1)) = Pk.all (l.take i) ++ Pk.one f := by
 rw [List.take_add_one, h]
 exact Pk.all_snoc _ _
theorem refBytes_v1 (c : Cm.Cmd) (w : World) (hf : c.Fits) (hs : c.Short 1000) :
 Calls Tryz.prog 59 #[.int .i64 1, .agg (Cm.cells c)] w (Makes w 5 (Cm.bytes 1 c)) := by
 obtain ⟨w1, e1, hl1, hB1, hz1⟩ := box_cmd w c
 obtain ⟨p0, p1, p2, p3, p4, p5, p6⟩ := Cmds.all hl1
 have HRES : Hid (Cm.bytes 1 c = (((((enc c.kind.toNat ++ enc c.client.toNat) ++ enc c.seq.toNat) ++ Pk.text c.key) ++ Pk.text c.val) ++ enc c.node.toNat)) := by
  show _ = _
  simp [Cm.bytes, Cm.encoded, Cm.fenc, Cm.F.num, Cm.Cmd.n, Cm.Cmd.s]
 have HK := Lib.hid hf
 have HS := Lib.hid hs
 have hlen0 : (enc c.kind.toNat).length ≤ 9 := enc_nine (by have := hf.k1; omega)
 obtain ⟨P0, hP0⟩ : ∃ P0, P0 = enc c.kind.toNat := ⟨_, rfl⟩
 rw [← hP0] at hlen0
 have HL1 := Lib.hid hl1; have HB1 := Lib.hid hB1
 have HP0 := Lib.hid hP0
 clear hl1 hB1 hz1 hf hs hP0
 go_enter Tryz.func59, Tryz.ntmps59
 go_wp2_with fail
 refine (bytes_any c.kind _ (by exact HK.out.k0) (by exact HK.out.k1)).mono ?_
 rintro e w2 ⟨v0, rfl, ho2, hb2⟩
 have ho0 : Owns w2 w.heap.size 5 v0 P0 := by
  have := ho2.mono HB1.out.size
  rw [HP0.out]; exact this
 have hl2 := HL1.out.below hb2 HL1.out.lt
 obtain ⟨p0, p1, p2, p3, p4, p5, p6⟩ := Cmds.all hl2
 have HO0 := Lib.hid ho0; have HL2 := Lib.hid hl2; have HB2 := Lib.hid (HB1.out.trans (hb2.mono HB1.out.size))
 clear ho0 ho2 hb2 hl2
 go_wp2_with fail
 refine (bytes_any c.client _ HK.out.c0 HK.out.c1).mono ?_
 rintro e wa0 ⟨ua0, rfl, hoa0, hba0⟩
 have hln0 : (enc c.client.toNat).length ≤ 9 := enc_nine (by have := HK.out.c1; omega)
 obtain ⟨M0, hM0⟩ : ∃ M0, M0 = enc c.client.toNat := ⟨_, rfl⟩
 rw [← hM0] at hoa0 hln0
 have HM0 := Lib.hid hM0
 have hown0 := HO0.out.keep hba0 (Nat.le_refl _)
 have hBa0 := HB2.out.trans (hba0.mono HB2.out.size)
 have hLa0 := HL2.out.below hba0 HL2.out.lt
 clear hM0 hba0
 go_wp2_with (at_builtin; refine append_bytes rfl _ _ 24 5 rfl Tryz.underlying24 info_u8 w.heap.size P0 M0 _ _ rfl rfl hown0 hoa0.reads (by omega) w hBa0 (Nat.le_refl _) ?_; intro v1 w3 ho1 hb3 hg0; have hl3 := hLa0.kept hg0 (hLa0.not_row (by decide) hown0); obtain ⟨p0, p1, p2, p3, p4, p5, p6⟩ := Cmds.all hl3)
 obtain ⟨P1, hP1⟩ : ∃ P1, P1 = P0 ++ M0 := ⟨_, rfl⟩
 have hlen1 : P1.length ≤ 1018 := by rw [hP1, List.length_append]; omega
 rw [← hP1] at ho1
 have HP1 := Lib.hid hP1; have HO1 := Lib.hid ho1; have HL3 := Lib.hid hl3; have HB3 := Lib.hid hb3
 clear hP1 ho1 hl3 hb3 hg0 hown0 hLa0 hBa0 hoa0
 go_wp2_with fail
 refine (bytes_any c.seq _ HK.out.q0 HK.out.q1).mono ?_
 rintro e wa1 ⟨ua1, rfl, hoa1, hba1⟩
 have hln1 : (enc c.seq.toNat).length ≤ 9 := enc_nine (by have := HK.out.q1; omega)
 obtain ⟨M1, hM1⟩ : ∃ M1, M1 = enc c.seq.toNat := ⟨_, rfl⟩
 rw [← hM1] at hoa1 hln1
 have HM1 := Lib.hid hM1
 have hown1 := HO1.out.keep hba1 (Nat.le_refl _)
 have hBa1 := HB3.out.trans (hba1.mono HB3.out.size)
 have hLa1 := HL3.out.below hba1 HL3.out.lt
 clear hM1 hba1
 go_wp2_with (at_builtin; refine append_bytes rfl _ _ 24 5 rfl Tryz.underlying24 info_u8 w.heap.size P1 M1 _ _ rfl rfl hown1 hoa1.reads (by omega) w hBa1 (Nat.le_refl _) ?_; intro v2 w4 ho2 hb4 hg1; have hl4 := hLa1.kept hg1 (hLa1.not_row (by decide) hown1); obtain ⟨p0, p1, p2, p3, p4, p5, p6⟩ := Cmds.all hl4)
 obtain ⟨P2, hP2⟩ : ∃ P2, P2 = P1 ++ M1 := ⟨_, rfl⟩
 have hlen2 : P2.length ≤ 2027 := by rw [hP2, List.length_append]; omega
 rw [← hP2] at ho2
 have HP2 := Lib.hid hP2; have HO2 := Lib.hid ho2; have HL4 := Lib.hid hl4; have HB4 := Lib.hid hb4
 clear hP2 ho2 hl4 hb4 hg1 hown1 hLa1 hBa1 hoa1
 go_wp2_with fail
 refine (refText_any c.key _ (by have := HS.out.1; omega)).mono ?_
 rintro e wa2 ⟨ua2, rfl, hoa2, hba2⟩
 have hln2 : (Pk.text c.key).length ≤ 1009 := by have := HS.out.1; have h9 := enc_nine (n := c.key.length) (by omega); simp [Pk.text]; omega
 obtain ⟨M2, hM2⟩ : ∃ M2, M2 = Pk.text c.key := ⟨_, rfl⟩
 rw [← hM2] at hoa2 hln2
 have HM2 := Lib.hid hM2
 have hown2 := HO2.out.keep hba2 (Nat.le_refl _)
 have hBa2 := HB4.out.trans (hba2.mono HB4.out.size)
 have hLa2 := HL4.out.below hba2 HL4.out.lt
 clear hM2 hba2
 go_wp2_with (at_builtin; refine append_bytes rfl _ _ 24 5 rfl Tryz.underlying24 info_u8 w.heap.size P2 M2 _ _ rfl rfl hown2 hoa2.reads (by omega) w hBa2 (Nat.le_refl _) ?_; intro v3 w5 ho3 hb5 hg2; have hl5 := hLa2.kept hg2 (hLa2.not_row (by decide) hown2); obtain ⟨p0, p1, p2, p3, p4, p5, p6⟩ := Cmds.all hl5)
 obtain ⟨P3, hP3⟩ : ∃ P3, P3 = P2 ++ M2 := ⟨_, rfl⟩
 have hlen3 : P3.length ≤ 3036 := by rw [hP3, List.length_append]; omega
 rw [← hP3] at ho3
 have HP3 := Lib.hid hP3; have HO3 := Lib.hid ho3; have HL5 := Lib.hid hl5; have HB5 := Lib.hid hb5
 clear hP3 ho3 hl5 hb5 hg2 hown2 hLa2 hBa2 hoa2
 go_wp2_with fail
 refine (refText_any c.val _ (by have := HS.out.2.2; omega)).mono ?_
 rintro e wa3 ⟨ua3, rfl, hoa3, hba3⟩
 have hln3 : (Pk.text c.val).length ≤ 1009 := by have := HS.out.2.2; have h9 := enc_nine (n := c.val.length) (by omega); simp [Pk.text]; omega
 obtain ⟨M3, hM3⟩ : ∃ M3, M3 = Pk.text c.val := ⟨_, rfl⟩
 rw [← hM3] at hoa3 hln3
 have HM3 := Lib.hid hM3
 have hown3 := HO3.out.keep hba3 (Nat.le_refl _)
 have hBa3 := HB5.out.trans (hba3.mono HB5.out.size)
 have hLa3 := HL5.out.below hba3 HL5.out.lt
 clear hM3 hba3
 go_wp2_with (at_builtin; refine append_bytes rfl _ _ 24 5 rfl Tryz.underlying24 info_u8 w.heap.size P3 M3 _ _ rfl rfl hown3 hoa3.reads (by omega) w hBa3 (Nat.le_refl _) ?_; intro v4 w6 ho4 hb6 hg3; have hl6 := hLa3.kept hg3 (hLa3.not_row (by decide) hown3); obtain ⟨p0, p1, p2, p3, p4, p5, p6⟩ := Cmds.all hl6)
 obtain ⟨P4, hP4⟩ : ∃ P4, P4 = P3 ++ M3 := ⟨_, rfl⟩
 have hlen4 : P4.length ≤ 4045 := by rw [hP4, List.length_append]; omega
 rw [← hP4] at ho4
 have HP4 := Lib.hid hP4; have HO4 := Lib.hid ho4; have HL6 := Lib.hid hl6; have HB6 := Lib.hid hb6
 clear hP4 ho4 hl6 hb6 hg3 hown3 hLa3 hBa3 hoa3
 go_wp2_with fail
 refine (bytes_any c.node _ HK.out.n0 HK.out.n1).mono ?_
 rintro e wa4 ⟨ua4, rfl, hoa4, hba4⟩
 have hln4 : (enc c.node.toNat).length ≤ 9 := enc_nine (by have := HK.out.n1; omega)
 obtain ⟨M4, hM4⟩ : ∃ M4, M4 = enc c.node.toNat := ⟨_, rfl⟩
 rw [← hM4] at hoa4 hln4
 have HM4 := Lib.hid hM4
 have hown4 := HO4.out.keep hba4 (Nat.le_refl _)
 have hBa4 := HB6.out.trans (hba4.mono HB6.out.size)
 have hLa4 := HL6.out.below hba4 HL6.out.lt
 clear hM4 hba4
 go_wp2_with (at_builtin; refine append_bytes rfl _ _ 24 5 rfl Tryz.underlying24 info_u8 w.heap.size P4 M4 _ _ rfl rfl hown4 hoa4.reads (by omega) w hBa4 (Nat.le_refl _) ?_; intro v5 w7 ho5 hb7 hg4; have hl7 := hLa4.kept hg4 (hLa4.not_row (by decide) hown4); obtain ⟨p0, p1, p2, p3, p4, p5, p6⟩ := Cmds.all hl7)
 obtain ⟨P5, hP5⟩ : ∃ P5, P5 = P4 ++ M4 := ⟨_, rfl⟩
 have hlen5 : P5.length ≤ 5054 := by rw [hP5, List.length_append]; omega
 rw [← hP5] at ho5
 have HP5 := Lib.hid hP5; have HO5 := Lib.hid ho5; have HL7 := Lib.hid hl7; have HB7 := Lib.hid hb7
 clear hP5 ho5 hl7 hb7 hg4 hown4 hLa4 hBa4 hoa4
 go_ret
 refine ⟨v5, rfl, ?_, HB7.out⟩
 rw [HRES.out, ← HP0.out, ← HM0.out, ← HP1.out, ← HM1.out, ← HP2.out, ← HM2.out, ← HP3.out, ← HM3.out, ← HP4.out, ← HM4.out, ← HP5.out]
 exact HO5.out
theorem refBytes_1 (c : Cm.Cmd) (w : World) (hf : c.Fits) (hs : c.Short 1000) (hk : c.kind = 1) :
 Calls Tryz.prog 59 #[.int .i64 2, .agg (Cm.cells c)] w (Makes w 5 (Cm.bytes 2 c)) := by
 obtain ⟨w1, e1, hl1, hB1, hz1⟩ := box_cmd w c
 obtain ⟨p0, p1, p2, p3, p4, p5, p6⟩ := Cmds.all hl1
 rw [hk] at p0
 have HRES : Hid (Cm.bytes 2 c = enc c.kind.toNat) := by
  show _ = _
  simp [Cm.bytes, Cm.encoded, hk, Cm.fields]
 have HK := Lib.hid hf
 have HS := Lib.hid hs
 have hlen0 : (enc c.kind.toNat).length ≤ 9 := enc_nine (by have := hf.k1; omega)
 obtain ⟨P0, hP0⟩ : ∃ P0, P0 = enc c.kind.toNat := ⟨_, rfl⟩
 rw [← hP0] at hlen0
 have HL1 := Lib.hid hl1; have HB1 := Lib.hid hB1
 have HP0 := Lib.hid hP0
 clear hl1 hB1 hz1 hf hs hP0
 have HKD := Lib.hid hk
 clear hk
 go_enter Tryz.func59, Tryz.ntmps59
 go_wp2_with fail
 refine (bytes_any 1 _ (by omega) (by omega)).mono ?_
 rintro e w2 ⟨v0, rfl, ho2, hb2⟩
 have ho0 : Owns w2 w.heap.size 5 v0 P0 := by
  have := ho2.mono HB1.out.size
  rw [HP0.out, HKD.out]; exact this
 have hl2 := HL1.out.below hb2 HL1.out.lt
 obtain ⟨p0, p1, p2, p3, p4, p5, p6⟩ := Cmds.all hl2
 rw [HKD.out] at p0
 have HO0 := Lib.hid ho0; have HL2 := Lib.hid hl2; have HB2 := Lib.hid (HB1.out.trans (hb2.mono HB1.out.size))
 clear ho0 ho2 hb2 hl2
 go_wp2_with fail
 refine (refOwned_any _ _).mono ?_
 rintro e w9 ⟨rfl, rfl⟩
 rw [show Cm.owned 1 = false from rfl]
 go_wp2_with fail
 refine (refMember_any _ _).mono ?_
 rintro e w9 ⟨rfl, rfl⟩
 rw [show Cm.member 1 = false from rfl]
 go_wp2
 go_ret
 refine ⟨v0, rfl, ?_, HB2.out⟩
 rw [HRES.out, ← HP0.out]
 exact HO0.out
theorem refBytes_2 (c : Cm.Cmd) (w : World) (hf : c.Fits) (hs : c.Short 1000) (hk : c.kind = 2) :
 Calls Tryz.prog 59 #[.int .i64 2, .agg (Cm.cells c)] w (Makes w 5 (Cm.bytes 2 c)) := by
 obtain ⟨w1, e1, hl1, hB1, hz1⟩ := box_cmd w c
 obtain ⟨p0, p1, p2, p3, p4, p5, p6⟩ := Cmds.all hl1
 rw [hk] at p0
 have HRES : Hid (Cm.bytes 2 c = ((((enc c.kind.toNat ++ enc c.client.toNat) ++ enc c.seq.toNat) ++ Pk.text c.key) ++ Pk.text c.val)) := by
  show _ = _
  simp [Cm.bytes, Cm.encoded, Cm.fenc, Cm.F.num, Cm.Cmd.n, Cm.Cmd.s, hk, Cm.fields]
 have HK := Lib.hid hf
 have HS := Lib.hid hs
 have hlen0 : (enc c.kind.toNat).length ≤ 9 := enc_nine (by have := hf.k1; omega)
 obtain ⟨P0, hP0⟩ : ∃ P0, P0 = enc c.kind.toNat := ⟨_, rfl⟩
 rw [← hP0] at hlen0
 have HL1 := Lib.hid hl1; have HB1 := Lib.hid hB1
 have HP0 := Lib.hid hP0
 clear hl1 hB1 hz1 hf hs hP0
 have HKD := Lib.hid hk
 clear hk
 go_enter Tryz.func59, Tryz.ntmps59
 go_wp2_with fail
 refine (bytes_any 2 _ (by omega) (by omega)).mono ?_
 rintro e w2 ⟨v0, rfl, ho2, hb2⟩
 have ho0 : Owns w2 w.heap.size 5 v0 P0 := by
  have := ho2.mono HB1.out.size
  rw [HP0.out, HKD.out]; exact this
 have hl2 := HL1.out.below hb2 HL1.out.lt
 obtain ⟨p0, p1, p2, p3, p4, p5, p6⟩ := Cmds.all hl2
 rw [HKD.out] at p0
 have HO0 := Lib.hid ho0; have HL2 := Lib.hid hl2; have HB2 := Lib.hid (HB1.out.trans (hb2.mono HB1.out.size))
 clear ho0 ho2 hb2 hl2
 go_wp2_with fail
 refine (refOwned_any _ _).mono ?_
 rintro e w9 ⟨rfl, rfl⟩
 rw [show Cm.owned 2 = true from rfl]
 go_wp2_with fail
 refine (bytes_any c.client _ HK.out.c0 HK.out.c1).mono ?_
 rintro e wa0 ⟨ua0, rfl, hoa0, hba0⟩
 have hln0 : (enc c.client.toNat).length ≤ 9 := enc_nine (by have := HK.out.c1; omega)
 obtain ⟨M0, hM0⟩ : ∃ M0, M0 = enc c.client.toNat := ⟨_, rfl⟩
 rw [← hM0] at hoa0 hln0
 have HM0 := Lib.hid hM0
 have hown0 := HO0.out.keep hba0 (Nat.le_refl _)
 have hBa0 := HB2.out.trans (hba0.mono HB2.out.size)
 have hLa0 := HL2.out.below hba0 HL2.out.lt
 clear hM0 hba0
 go_wp2_with (at_builtin; refine append_bytes rfl _ _ 24 5 rfl Tryz.underlying24 info_u8 w.heap.size P0 M0 _ _ rfl rfl hown0 hoa0.reads (by omega) w hBa0 (Nat.le_refl _) ?_; intro v1 w3 ho1 hb3 hg0; have hl3 := hLa0.kept hg0 (hLa0.not_row (by decide) hown0); obtain ⟨p0, p1, p2, p3, p4, p5, p6⟩ := Cmds.all hl3; rw [HKD.out] at p0)
 obtain ⟨P1, hP1⟩ : ∃ P1, P1 = P0 ++ M0 := ⟨_, rfl⟩
 have hlen1 : P1.length ≤ 1018 := by rw [hP1, List.length_append]; omega
 rw [← hP1] at ho1
 have HP1 := Lib.hid hP1; have HO1 := Lib.hid ho1; have HL3 := Lib.hid hl3; have HB3 := Lib.hid hb3
 clear hP1 ho1 hl3 hb3 hg0 hown0 hLa0 hBa0 hoa0
 go_wp2_with fail
 refine (bytes_any c.seq _ HK.out.q0 HK.out.q1).mono ?_
 rintro e wa1 ⟨ua1, rfl, hoa1, hba1⟩
 have hln1 : (enc c.seq.toNat).length ≤ 9 := enc_nine (by have := HK.out.q1; omega)
 obtain ⟨M1, hM1⟩ : ∃ M1, M1 = enc c.seq.toNat := ⟨_, rfl⟩
 rw [← hM1] at hoa1 hln1
 have HM1 := Lib.hid hM1
 have hown1 := HO1.out.keep hba1 (Nat.le_refl _)
 have hBa1 := HB3.out.trans (hba1.mono HB3.out.size)
 have hLa1 := HL3.out.below hba1 HL3.out.lt
 clear hM1 hba1
 go_wp2_with (at_builtin; refine append_bytes rfl _ _ 24 5 rfl Tryz.underlying24 info_u8 w.heap.size P1 M1 _ _ rfl rfl hown1 hoa1.reads (by omega) w hBa1 (Nat.le_refl _) ?_; intro v2 w4 ho2 hb4 hg1; have hl4 := hLa1.kept hg1 (hLa1.not_row (by decide) hown1); obtain ⟨p0, p1, p2, p3, p4, p5, p6⟩ := Cmds.all hl4; rw [HKD.out] at p0)
 obtain ⟨P2, hP2⟩ : ∃ P2, P2 = P1 ++ M1 := ⟨_, rfl⟩
 have hlen2 : P2.length ≤ 2027 := by rw [hP2, List.length_append]; omega
 rw [← hP2] at ho2
 have HP2 := Lib.hid hP2; have HO2 := Lib.hid ho2; have HL4 := Lib.hid hl4; have HB4 := Lib.hid hb4
 clear hP2 ho2 hl4 hb4 hg1 hown1 hLa1 hBa1 hoa1
 go_wp2_with fail
 refine (refText_any c.key _ (by have := HS.out.1; omega)).mono ?_
 rintro e wa2 ⟨ua2, rfl, hoa2, hba2⟩
 have hln2 : (Pk.text c.key).length ≤ 1009 := by have := HS.out.1; have h9 := enc_nine (n := c.key.length) (by omega); simp [Pk.text]; omega
 obtain ⟨M2, hM2⟩ : ∃ M2, M2 = Pk.text c.key := ⟨_, rfl⟩
 rw [← hM2] at hoa2 hln2
 have HM2 := Lib.hid hM2
 have hown2 := HO2.out.keep hba2 (Nat.le_refl _)
 have hBa2 := HB4.out.trans (hba2.mono HB4.out.size)
 have hLa2 := HL4.out.below hba2 HL4.out.lt
 clear hM2 hba2
 go_wp2_with (at_builtin; refine append_bytes rfl _ _ 24 5 rfl Tryz.underlying24 info_u8 w.heap.size P2 M2 _ _ rfl rfl hown2 hoa2.reads (by omega) w hBa2 (Nat.le_refl _) ?_; intro v3 w5 ho3 hb5 hg2; have hl5 := hLa2.kept hg2 (hLa2.not_row (by decide) hown2); obtain ⟨p0, p1, p2, p3, p4, p5, p6⟩ := Cmds.all hl5; rw [HKD.out] at p0)
 obtain ⟨P3, hP3⟩ : ∃ P3, P3 = P2 ++ M2 := ⟨_, rfl⟩
 have hlen3 : P3.length ≤ 3036 := by rw [hP3, List.length_append]; omega
 rw [← hP3] at ho3
 have HP3 := Lib.hid hP3; have HO3 := Lib.hid ho3; have HL5 := Lib.hid hl5; have HB5 := Lib.hid hb5
 clear hP3 ho3 hl5 hb5 hg2 hown2 hLa2 hBa2 hoa2
 go_wp2_with fail
 refine (refText_any c.val _ (by have := HS.out.2.2; omega)).mono ?_
 rintro e wa3 ⟨ua3, rfl, hoa3, hba3⟩
 have hln3 : (Pk.text c.val).length ≤ 1009 := by have := HS.out.2.2; have h9 := enc_nine (n := c.val.length) (by omega); simp [Pk.text]; omega
 obtain ⟨M3, hM3⟩ : ∃ M3, M3 = Pk.text c.val := ⟨_, rfl⟩
 rw [← hM3] at hoa3 hln3
 have HM3 := Lib.hid hM3
 have hown3 := HO3.out.keep hba3 (Nat.le_refl _)
 have hBa3 := HB5.out.trans (hba3.mono HB5.out.size)
 have hLa3 := HL5.out.below hba3 HL5.out.lt
 clear hM3 hba3
 go_wp2_with (at_builtin; refine append_bytes rfl _ _ 24 5 rfl Tryz.underlying24 info_u8 w.heap.size P3 M3 _ _ rfl rfl hown3 hoa3.reads (by omega) w hBa3 (Nat.le_refl _) ?_; intro v4 w6 ho4 hb6 hg3; have hl6 := hLa3.kept hg3 (hLa3.not_row (by decide) hown3); obtain ⟨p0, p1, p2, p3, p4, p5, p6⟩ := Cmds.all hl6; rw [HKD.out] at p0)
 obtain ⟨P4, hP4⟩ : ∃ P4, P4 = P3 ++ M3 := ⟨_, rfl⟩
 have hlen4 : P4.length ≤ 4045 := by rw [hP4, List.length_append]; omega
 rw [← hP4] at ho4
 have HP4 := Lib.hid hP4; have HO4 := Lib.hid ho4; have HL6 := Lib.hid hl6; have HB6 := Lib.hid hb6
 clear hP4 ho4 hl6 hb6 hg3 hown3 hLa3 hBa3 hoa3
 go_wp2_with fail
 refine (refMember_any _ _).mono ?_
 rintro e w9 ⟨rfl, rfl⟩
 rw [show Cm.member 2 = false from rfl]
 go_wp2
 go_ret
 refine ⟨v4, rfl, ?_, HB6.out⟩
 rw [HRES.out, ← HP0.out, ← HM0.out, ← HP1.out, ← HM1.out, ← HP2.out, ← HM2.out, ← HP3.out, ← HM3.out, ← HP4.out]
 exact HO4.out
theorem refBytes_3 (c : Cm.Cmd) (w : World) (hf : c.Fits) (hs : c.Short 1000) (hk : c.kind = 3) :
 Calls Tryz.prog 59 #[.int .i64 2, .agg (Cm.cells c)] w (Makes w 5 (Cm.bytes 2 c)) := by
 obtain ⟨w1, e1, hl1, hB1, hz1⟩ := box_cmd w c
 obtain ⟨p0, p1, p2, p3, p4, p5, p6⟩ := Cmds.all hl1
 rw [hk] at p0
 have HRES : Hid (Cm.bytes 2 c = (((enc c.kind.toNat ++ enc c.client.toNat) ++ enc c.seq.toNat) ++ Pk.text c.key)) := by
  show _ = _
  simp [Cm.bytes, Cm.encoded, Cm.fenc, Cm.F.num, Cm.Cmd.n, Cm.Cmd.s, hk, Cm.fields]
 have HK := Lib.hid hf
 have HS := Lib.hid hs
 have hlen0 : (enc c.kind.toNat).length ≤ 9 := enc_nine (by have := hf.k1; omega)
 obtain ⟨P0, hP0⟩ : ∃ P0, P0 = enc c.kind.toNat := ⟨_, rfl⟩
 rw [← hP0] at hlen0
 have HL1 := Lib.hid hl1; have HB1 := Lib.hid hB1
 have HP0 := Lib.hid hP0
 clear hl1 hB1 hz1 hf hs hP0
 have HKD := Lib.hid hk
 clear hk
 go_enter Tryz.func59, Tryz.ntmps59
 go_wp2_with fail
 refine (bytes_any 3 _ (by omega) (by omega)).mono ?_
 rintro e w2 ⟨v0, rfl, ho2, hb2⟩
 have ho0 : Owns w2 w.heap.size 5 v0 P0 := by
  have := ho2.mono HB1.out.size
  rw [HP0.out, HKD.out]; exact this
 have hl2 := HL1.out.below hb2 HL1.out.lt
 obtain ⟨p0, p1, p2, p3, p4, p5, p6⟩ := Cmds.all hl2
 rw [HKD.out] at p0
 have HO0 := Lib.hid ho0; have HL2 := Lib.hid hl2; have HB2 := Lib.hid (HB1.out.trans (hb2.mono HB1.out.size))
 clear ho0 ho2 hb2 hl2
 go_wp2_with fail
 refine (refOwned_any _ _).mono ?_
 rintro e w9 ⟨rfl, rfl⟩
 rw [show Cm.owned 3 = true from rfl]
 go_wp2_with fail
 refine (bytes_any c.client _ HK.out.c0 HK.out.c1).mono ?_
 rintro e wa0 ⟨ua0, rfl, hoa0, hba0⟩
 have hln0 : (enc c.client.toNat).length ≤ 9 := enc_nine (by have := HK.out.c1; omega)
 obtain ⟨M0, hM0⟩ : ∃ M0, M0 = enc c.client.toNat := ⟨_, rfl⟩
 rw [← hM0] at hoa0 hln0
 have HM0 := Lib.hid hM0
 have hown0 := HO0.out.keep hba0 (Nat.le_refl _)
 have hBa0 := HB2.out.trans (hba0.mono HB2.out.size)
 have hLa0 := HL2.out.below hba0 HL2.out.lt
 clear hM0 hba0
 go_wp2_with (at_builtin; refine append_bytes rfl _ _ 24 5 rfl Tryz.underlying24 info_u8 w.heap.size P0 M0 _ _ rfl rfl hown0 hoa0.reads (by omega) w hBa0 (Nat.le_refl _) ?_; intro v1 w3 ho1 hb3 hg0; have hl3 := hLa0.kept hg0 (hLa0.not_row (by decide) hown0); obtain ⟨p0, p1, p2, p3, p4, p5, p6⟩ := Cmds.all hl3; rw [HKD.out] at p0)
 obtain ⟨P1, hP1⟩ : ∃ P1, P1 = P0 ++ M0 := ⟨_, rfl⟩
 have hlen1 : P1.length ≤ 1018 := by rw [hP1, List.length_append]; omega
 rw [← hP1] at ho1
 have HP1 := Lib.hid hP1; have HO1 := Lib.hid ho1; have HL3 := Lib.hid hl3; have HB3 := Lib.hid hb3
 clear hP1 ho1 hl3 hb3 hg0 hown0 hLa0 hBa0 hoa0
 go_wp2_with fail
 refine (bytes_any c.seq _ HK.out.q0 HK.out.q1).mono ?_
 rintro e wa1 ⟨ua1, rfl, hoa1, hba1⟩
 have hln1 : (enc c.seq.toNat).length ≤ 9 := enc_nine (by have := HK.out.q1; omega)
 obtain ⟨M1, hM1⟩ : ∃ M1, M1 = enc c.seq.toNat := ⟨_, rfl⟩
 rw [← hM1] at hoa1 hln1
 have HM1 := Lib.hid hM1
 have hown1 := HO1.out.keep hba1 (Nat.le_refl _)
 have hBa1 := HB3.out.trans (hba1.mono HB3.out.size)
 have hLa1 := HL3.out.below hba1 HL3.out.lt
 clear hM1 hba1
 go_wp2_with (at_builtin; refine append_bytes rfl _ _ 24 5 rfl Tryz.underlying24 info_u8 w.heap.size P1 M1 _ _ rfl rfl hown1 hoa1.reads (by omega) w hBa1 (Nat.le_refl _) ?_; intro v2 w4 ho2 hb4 hg1; have hl4 := hLa1.kept hg1 (hLa1.not_row (by decide) hown1); obtain ⟨p0, p1, p2, p3, p4, p5, p6⟩ := Cmds.all hl4; rw [HKD.out] at p0)
 obtain ⟨P2, hP2⟩ : ∃ P2, P2 = P1 ++ M1 := ⟨_, rfl⟩
 have hlen2 : P2.length ≤ 2027 := by rw [hP2, List.length_append]; omega
 rw [← hP2] at ho2
 have HP2 := Lib.hid hP2; have HO2 := Lib.hid ho2; have HL4 := Lib.hid hl4; have HB4 := Lib.hid hb4
 clear hP2 ho2 hl4 hb4 hg1 hown1 hLa1 hBa1 hoa1
 go_wp2_with fail
 refine (refText_any c.key _ (by have := HS.out.1; omega)).mono ?_
 rintro e wa2 ⟨ua2, rfl, hoa2, hba2⟩
 have hln2 : (Pk.text c.key).length ≤ 1009 := by have := HS.out.1; have h9 := enc_nine (n := c.key.length) (by omega); simp [Pk.text]; omega
 obtain ⟨M2, hM2⟩ : ∃ M2, M2 = Pk.text c.key := ⟨_, rfl⟩
 rw [← hM2] at hoa2 hln2
 have HM2 := Lib.hid hM2
 have hown2 := HO2.out.keep hba2 (Nat.le_refl _)
 have hBa2 := HB4.out.trans (hba2.mono HB4.out.size)
 have hLa2 := HL4.out.below hba2 HL4.out.lt
 clear hM2 hba2
 go_wp2_with (at_builtin; refine append_bytes rfl _ _ 24 5 rfl Tryz.underlying24 info_u8 w.heap.size P2 M2 _ _ rfl rfl hown2 hoa2.reads (by omega) w hBa2 (Nat.le_refl _) ?_; intro v3 w5 ho3 hb5 hg2; have hl5 := hLa2.kept hg2 (hLa2.not_row (by decide) hown2); obtain ⟨p0, p1, p2, p3, p4, p5, p6⟩ := Cmds.all hl5; rw [HKD.out] at p0)
 obtain ⟨P3, hP3⟩ : ∃ P3, P3 = P2 ++ M2 := ⟨_, rfl⟩
 have hlen3 : P3.length ≤ 3036 := by rw [hP3, List.length_append]; omega
 rw [← hP3] at ho3
 have HP3 := Lib.hid hP3; have HO3 := Lib.hid ho3; have HL5 := Lib.hid hl5; have HB5 := Lib.hid hb5
 clear hP3 ho3 hl5 hb5 hg2 hown2 hLa2 hBa2 hoa2
 go_wp2_with fail
 refine (refMember_any _ _).mono ?_
 rintro e w9 ⟨rfl, rfl⟩
 rw [show Cm.member 3 = false from rfl]
 go_wp2
 go_ret
 refine ⟨v3, rfl, ?_, HB5.out⟩
 rw [HRES.out, ← HP0.out, ← HM0.out, ← HP1.out, ← HM1.out, ← HP2.out, ← HM2.out, ← HP3.out]
 exact HO3.out
theorem refBytes_4 (c : Cm.Cmd) (w : World) (hf : c.Fits) (hs : c.Short 1000) (hk : c.kind = 4) :
 Calls Tryz.prog 59 #[.int .i64 2, .agg (Cm.cells c)] w (Makes w 5 (Cm.bytes 2 c)) := by
 obtain ⟨w1, e1, hl1, hB1, hz1⟩ := box_cmd w c
 obtain ⟨p0, p1, p2, p3, p4, p5, p6⟩ := Cmds.all hl1
 rw [hk] at p0
 have HRES : Hid (Cm.bytes 2 c = (((enc c.kind.toNat ++ enc c.client.toNat) ++ enc c.seq.toNat) ++ Pk.text c.key)) := by
  show _ = _
  simp [Cm.bytes, Cm.encoded, Cm.fenc, Cm.F.num, Cm.Cmd.n, Cm.Cmd.s, hk, Cm.fields]
 have HK := Lib.hid hf
 have HS := Lib.hid hs
 have hlen0 : (enc c.kind.toNat).length ≤ 9 := enc_nine (by have := hf.k1; omega)
 obtain ⟨P0, hP0⟩ : ∃ P0, P0 = enc c.kind.toNat := ⟨_, rfl⟩
 rw [← hP0] at hlen0
 have HL1 := Lib.hid hl1; have HB1 := Lib.hid hB1
 have HP0 := Lib.hid hP0
 clear hl1 hB1 hz1 hf hs hP0
 have HKD := Lib.hid hk
 clear hk
 go_enter Tryz.func59, Tryz.ntmps59
 go_wp2_with fail
 refine (bytes_any 4 _ (by omega) (by omega)).mono ?_
 rintro e w2 ⟨v0, rfl, ho2, hb2⟩
 have ho0 : Owns w2 w.heap.size 5 v0 P0 := by
  have := ho2.mono HB1.out.size
  rw [HP0.out, HKD.out]; exact this
 have hl2 := HL1.out.below hb2 HL1.out.lt
 obtain ⟨p0, p1, p2, p3, p4, p5, p6⟩ := Cmds.all hl2
 rw [HKD.out] at p0
 have HO0 := Lib.hid ho0; have HL2 := Lib.hid hl2; have HB2 := Lib.hid (HB1.out.trans (hb2.mono HB1.out.size))
 clear ho0 ho2 hb2 hl2
 go_wp2_with fail
 refine (refOwned_any _ _).mono ?_
 rintro e w9 ⟨rfl, rfl⟩
 rw [show Cm.owned 4 = true from rfl]
 go_wp2_with fail
 refine (bytes_any c.client _ HK.out.c0 HK.out.c1).mono ?_
 rintro e wa0 ⟨ua0, rfl, hoa0, hba0⟩
 have hln0 : (enc c.client.toNat).length ≤ 9 := enc_nine (by have := HK.out.c1; omega)
 obtain ⟨M0, hM0⟩ : ∃ M0, M0 = enc c.client.toNat := ⟨_, rfl⟩
 rw [← hM0] at hoa0 hln0
 have HM0 := Lib.hid hM0
 have hown0 := HO0.out.keep hba0 (Nat.le_refl _)
 have hBa0 := HB2.out.trans (hba0.mono HB2.out.size)
 have hLa0 := HL2.out.below hba0 HL2.out.lt
 clear hM0 hba0
 go_wp2_with (at_builtin; refine append_bytes rfl _ _ 24 5 rfl Tryz.underlying24 info_u8 w.heap.size P0 M0 _ _ rfl rfl hown0 hoa0.reads (by omega) w hBa0 (Nat.le_refl _) ?_; intro v1 w3 ho1 hb3 hg0; have hl3 := hLa0.kept hg0 (hLa0.not_row (by decide) hown0); obtain ⟨p0, p1, p2, p3, p4, p5, p6⟩ := Cmds.all hl3; rw [HKD.out] at p0)
 obtain ⟨P1, hP1⟩ : ∃ P1, P1 = P0 ++ M0 := ⟨_, rfl⟩
 have hlen1 : P1.length ≤ 1018 := by rw [hP1, List.length_append]; omega
 rw [← hP1] at ho1
 have HP1 := Lib.hid hP1; have HO1 := Lib.hid ho1; have HL3 := Lib.hid hl3; have HB3 := Lib.hid hb3
 clear hP1 ho1 hl3 hb3 hg0 hown0 hLa0 hBa0 hoa0
 go_wp2_with fail
 refine (bytes_any c.seq _ HK.out.q0 HK.out.q1).mono ?_
 rintro e wa1 ⟨ua1, rfl, hoa1, hba1⟩
 have hln1 : (enc c.seq.toNat).length ≤ 9 := enc_nine (by have := HK.out.q1; omega)
 obtain ⟨M1, hM1⟩ : ∃ M1, M1 = enc c.seq.toNat := ⟨_, rfl⟩
 rw [← hM1] at hoa1 hln1
 have HM1 := Lib.hid hM1
 have hown1 := HO1.out.keep hba1 (Nat.le_refl _)
 have hBa1 := HB3.out.trans (hba1.mono HB3.out.size)
 have hLa1 := HL3.out.below hba1 HL3.out.lt
 clear hM1 hba1
 go_wp2_with (at_builtin; refine append_bytes rfl _ _ 24 5 rfl Tryz.underlying24 info_u8 w.heap.size P1 M1 _ _ rfl rfl hown1 hoa1.reads (by omega) w hBa1 (Nat.le_refl _) ?_; intro v2 w4 ho2 hb4 hg1; have hl4 := hLa1.kept hg1 (hLa1.not_row (by decide) hown1); obtain ⟨p0, p1, p2, p3, p4, p5, p6⟩ := Cmds.all hl4; rw [HKD.out] at p0)
 obtain ⟨P2, hP2⟩ : ∃ P2, P2 = P1 ++ M1 := ⟨_, rfl⟩
 have hlen2 : P2.length ≤ 2027 := by rw [hP2, List.length_append]; omega
 rw [← hP2] at ho2
 have HP2 := Lib.hid hP2; have HO2 := Lib.hid ho2; have HL4 := Lib.hid hl4; have HB4 := Lib.hid hb4
 clear hP2 ho2 hl4 hb4 hg1 hown1 hLa1 hBa1 hoa1
 go_wp2_with fail
 refine (refText_any c.key _ (by have := HS.out.1; omega)).mono ?_
 rintro e wa2 ⟨ua2, rfl, hoa2, hba2⟩
 have hln2 : (Pk.text c.key).length ≤ 1009 := by have := HS.out.1; have h9 := enc_nine (n := c.key.length) (by omega); simp [Pk.text]; omega
 obtain ⟨M2, hM2⟩ : ∃ M2, M2 = Pk.text c.key := ⟨_, rfl⟩
 rw [← hM2] at hoa2 hln2
 have HM2 := Lib.hid hM2
 have hown2 := HO2.out.keep hba2 (Nat.le_refl _)
 have hBa2 := HB4.out.trans (hba2.mono HB4.out.size)
 have hLa2 := HL4.out.below hba2 HL4.out.lt
 clear hM2 hba2
 go_wp2_with (at_builtin; refine append_bytes rfl _ _ 24 5 rfl Tryz.underlying24 info_u8 w.heap.size P2 M2 _ _ rfl rfl hown2 hoa2.reads (by omega) w hBa2 (Nat.le_refl _) ?_; intro v3 w5 ho3 hb5 hg2; have hl5 := hLa2.kept hg2 (hLa2.not_row (by decide) hown2); obtain ⟨p0, p1, p2, p3, p4, p5, p6⟩ := Cmds.all hl5; rw [HKD.out] at p0)
 obtain ⟨P3, hP3⟩ : ∃ P3, P3 = P2 ++ M2 := ⟨_, rfl⟩
 have hlen3 : P3.length ≤ 3036 := by rw [hP3, List.length_append]; omega
 rw [← hP3] at ho3
 have HP3 := Lib.hid hP3; have HO3 := Lib.hid ho3; have HL5 := Lib.hid hl5; have HB5 := Lib.hid hb5
 clear hP3 ho3 hl5 hb5 hg2 hown2 hLa2 hBa2 hoa2
 go_wp2_with fail
 refine (refMember_any _ _).mono ?_
 rintro e w9 ⟨rfl, rfl⟩
 rw [show Cm.member 4 = false from rfl]
 go_wp2
 go_ret
 refine ⟨v3, rfl, ?_, HB5.out⟩
 rw [HRES.out, ← HP0.out, ← HM0.out, ← HP1.out, ← HM1.out, ← HP2.out, ← HM2.out, ← HP3.out]
 exact HO3.out
theorem refBytes_5 (c : Cm.Cmd) (w : World) (hf : c.Fits) (hs : c.Short 1000) (hk : c.kind = 5) :
 Calls Tryz.prog 59 #[.int .i64 2, .agg (Cm.cells c)] w (Makes w 5 (Cm.bytes 2 c)) := by
 obtain ⟨w1, e1, hl1, hB1, hz1⟩ := box_cmd w c
 obtain ⟨p0, p1, p2, p3, p4, p5, p6⟩ := Cmds.all hl1
 rw [hk] at p0
 have HRES : Hid (Cm.bytes 2 c = (((((enc c.kind.toNat ++ enc c.client.toNat) ++ enc c.seq.toNat) ++ Pk.text c.key) ++ Pk.text c.old) ++ Pk.text c.val)) := by
  show _ = _
  simp [Cm.bytes, Cm.encoded, Cm.fenc, Cm.F.num, Cm.Cmd.n, Cm.Cmd.s, hk, Cm.fields]
 have HK := Lib.hid hf
 have HS := Lib.hid hs
 have hlen0 : (enc c.kind.toNat).length ≤ 9 := enc_nine (by have := hf.k1; omega)
 obtain ⟨P0, hP0⟩ : ∃ P0, P0 = enc c.kind.toNat := ⟨_, rfl⟩
 rw [← hP0] at hlen0
 have HL1 := Lib.hid hl1; have HB1 := Lib.hid hB1
 have HP0 := Lib.hid hP0
 clear hl1 hB1 hz1 hf hs hP0
 have HKD := Lib.hid hk
 clear hk
 go_enter Tryz.func59, Tryz.ntmps59
 go_wp2_with fail
 refine (bytes_any 5 _ (by omega) (by omega)).mono ?_
 rintro e w2 ⟨v0, rfl, ho2, hb2⟩
 have ho0 : Owns w2 w.heap.size 5 v0 P0 := by
  have := ho2.mono HB1.out.size
  rw [HP0.out, HKD.out]; exact this
 have hl2 := HL1.out.below hb2 HL1.out.lt
 obtain ⟨p0, p1, p2, p3, p4, p5, p6⟩ := Cmds.all hl2
 rw [HKD.out] at p0
 have HO0 := Lib.hid ho0; have HL2 := Lib.hid hl2; have HB2 := Lib.hid (HB1.out.trans (hb2.mono HB1.out.size))
 clear ho0 ho2 hb2 hl2
 go_wp2_with fail
 refine (refOwned_any _ _).mono ?_
 rintro e w9 ⟨rfl, rfl⟩
 rw [show Cm.owned 5 = true from rfl]
 go_wp2_with fail
 refine (bytes_any c.client _ HK.out.c0 HK.out.c1).mono ?_
 rintro e wa0 ⟨ua0, rfl, hoa0, hba0⟩
 have hln0 : (enc c.client.toNat).length ≤ 9 := enc_nine (by have := HK.out.c1; omega)
 obtain ⟨M0, hM0⟩ : ∃ M0, M0 = enc c.client.toNat := ⟨_, rfl⟩
 rw [← hM0] at hoa0 hln0
 have HM0 := Lib.hid hM0
 have hown0 := HO0.out.keep hba0 (Nat.le_refl _)
 have hBa0 := HB2.out.trans (hba0.mono HB2.out.size)
 have hLa0 := HL2.out.below hba0 HL2.out.lt
 clear hM0 hba0
 go_wp2_with (at_builtin; refine append_bytes rfl _ _ 24 5 rfl Tryz.underlying24 info_u8 w.heap.size P0 M0 _ _ rfl rfl hown0 hoa0.reads (by omega) w hBa0 (Nat.le_refl _) ?_; intro v1 w3 ho1 hb3 hg0; have hl3 := hLa0.kept hg0 (hLa0.not_row (by decide) hown0); obtain ⟨p0, p1, p2, p3, p4, p5, p6⟩ := Cmds.all hl3; rw [HKD.out] at p0)
 obtain ⟨P1, hP1⟩ : ∃ P1, P1 = P0 ++ M0 := ⟨_, rfl⟩
 have hlen1 : P1.length ≤ 1018 := by rw [hP1, List.length_append]; omega
 rw [← hP1] at ho1
 have HP1 := Lib.hid hP1; have HO1 := Lib.hid ho1; have HL3 := Lib.hid hl3; have HB3 := Lib.hid hb3
 clear hP1 ho1 hl3 hb3 hg0 hown0 hLa0 hBa0 hoa0
 go_wp2_with fail
 refine (bytes_any c.seq _ HK.out.q0 HK.out.q1).mono ?_
 rintro e wa1 ⟨ua1, rfl, hoa1, hba1⟩
 have hln1 : (enc c.seq.toNat).length ≤ 9 := enc_nine (by have := HK.out.q1; omega)
 obtain ⟨M1, hM1⟩ : ∃ M1, M1 = enc c.seq.toNat := ⟨_, rfl⟩
 rw [← hM1] at hoa1 hln1
 have HM1 := Lib.hid hM1
 have hown1 := HO1.out.keep hba1 (Nat.le_refl _)
 have hBa1 := HB3.out.trans (hba1.mono HB3.out.size)
 have hLa1 := HL3.out.below hba1 HL3.out.lt
 clear hM1 hba1
 go_wp2_with (at_builtin; refine append_bytes rfl _ _ 24 5 rfl Tryz.underlying24 info_u8 w.heap.size P1 M1 _ _ rfl rfl hown1 hoa1.reads (by omega) w hBa1 (Nat.le_refl _) ?_; intro v2 w4 ho2 hb4 hg1; have hl4 := hLa1.kept hg1 (hLa1.not_row (by decide) hown1); obtain ⟨p0, p1, p2, p3, p4, p5, p6⟩ := Cmds.all hl4; rw [HKD.out] at p0)
 obtain ⟨P2, hP2⟩ : ∃ P2, P2 = P1 ++ M1 := ⟨_, rfl⟩
 have hlen2 : P2.length ≤ 2027 := by rw [hP2, List.length_append]; omega
 rw [← hP2] at ho2
 have HP2 := Lib.hid hP2; have HO2 := Lib.hid ho2; have HL4 := Lib.hid hl4; have HB4 := Lib.hid hb4
 clear hP2 ho2 hl4 hb4 hg1 hown1 hLa1 hBa1 hoa1
 go_wp2_with fail
 refine (refText_any c.key _ (by have := HS.out.1; omega)).mono ?_
 rintro e wa2 ⟨ua2, rfl, hoa2, hba2⟩
 have hln2 : (Pk.text c.key).length ≤ 1009 := by have := HS.out.1; have h9 := enc_nine (n := c.key.length) (by omega); simp [Pk.text]; omega
 obtain ⟨M2, hM2⟩ : ∃ M2, M2 = Pk.text c.key := ⟨_, rfl⟩
 rw [← hM2] at hoa2 hln2
 have HM2 := Lib.hid hM2
 have hown2 := HO2.out.keep hba2 (Nat.le_refl _)
 have hBa2 := HB4.out.trans (hba2.mono HB4.out.size)
 have hLa2 := HL4.out.below hba2 HL4.out.lt
 clear hM2 hba2
 go_wp2_with (at_builtin; refine append_bytes rfl _ _ 24 5 rfl Tryz.underlying24 info_u8 w.heap.size P2 M2 _ _ rfl rfl hown2 hoa2.reads (by omega) w hBa2 (Nat.le_refl _) ?_; intro v3 w5 ho3 hb5 hg2; have hl5 := hLa2.kept hg2 (hLa2.not_row (by decide) hown2); obtain ⟨p0, p1, p2, p3, p4, p5, p6⟩ := Cmds.all hl5; rw [HKD.out] at p0)
 obtain ⟨P3, hP3⟩ : ∃ P3, P3 = P2 ++ M2 := ⟨_, rfl⟩
 have hlen3 : P3.length ≤ 3036 := by rw [hP3, List.length_append]; omega
 rw [← hP3] at ho3
 have HP3 := Lib.hid hP3; have HO3 := Lib.hid ho3; have HL5 := Lib.hid hl5; have HB5 := Lib.hid hb5
 clear hP3 ho3 hl5 hb5 hg2 hown2 hLa2 hBa2 hoa2
 go_wp2_with fail
 refine (refText_any c.old _ (by have := HS.out.2.1; omega)).mono ?_
 rintro e wa3 ⟨ua3, rfl, hoa3, hba3⟩
 have hln3 : (Pk.text c.old).length ≤ 1009 := by have := HS.out.2.1; have h9 := enc_nine (n := c.old.length) (by omega); simp [Pk.text]; omega
 obtain ⟨M3, hM3⟩ : ∃ M3, M3 = Pk.text c.old := ⟨_, rfl⟩
 rw [← hM3] at hoa3 hln3
 have HM3 := Lib.hid hM3
 have hown3 := HO3.out.keep hba3 (Nat.le_refl _)
 have hBa3 := HB5.out.trans (hba3.mono HB5.out.size)
 have hLa3 := HL5.out.below hba3 HL5.out.lt
 clear hM3 hba3
 go_wp2_with (at_builtin; refine append_bytes rfl _ _ 24 5 rfl Tryz.underlying24 info_u8 w.heap.size P3 M3 _ _ rfl rfl hown3 hoa3.reads (by omega) w hBa3 (Nat.le_refl _) ?_; intro v4 w6 ho4 hb6 hg3; have hl6 := hLa3.kept hg3 (hLa3.not_row (by decide) hown3); obtain ⟨p0, p1, p2, p3, p4, p5, p6⟩ := Cmds.all hl6; rw [HKD.out] at p0)
 obtain ⟨P4, hP4⟩ : ∃ P4, P4 = P3 ++ M3 := ⟨_, rfl⟩
 have hlen4 : P4.length ≤ 4045 := by rw [hP4, List.length_append]; omega
 rw [← hP4] at ho4
 have HP4 := Lib.hid hP4; have HO4 := Lib.hid ho4; have HL6 := Lib.hid hl6; have HB6 := Lib.hid hb6
 clear hP4 ho4 hl6 hb6 hg3 hown3 hLa3 hBa3 hoa3
 go_wp2_with fail
 refine (refText_any c.val _ (by have := HS.out.2.2; omega)).mono ?_
 rintro e wa4 ⟨ua4, rfl, hoa4, hba4⟩
 have hln4 : (Pk.text c.val).length ≤ 1009 := by have := HS.out.2.2; have h9 := enc_nine (n := c.val.length) (by omega); simp [Pk.text]; omega
 obtain ⟨M4, hM4⟩ : ∃ M4, M4 = Pk.text c.val := ⟨_, rfl⟩
 rw [← hM4] at hoa4 hln4
 have HM4 := Lib.hid hM4
 have hown4 := HO4.out.keep hba4 (Nat.le_refl _)
 have hBa4 := HB6.out.trans (hba4.mono HB6.out.size)
 have hLa4 := HL6.out.below hba4 HL6.out.lt
 clear hM4 hba4
 go_wp2_with (at_builtin; refine append_bytes rfl _ _ 24 5 rfl Tryz.underlying24 info_u8 w.heap.size P4 M4 _ _ rfl rfl hown4 hoa4.reads (by omega) w hBa4 (Nat.le_refl _) ?_; intro v5 w7 ho5 hb7 hg4; have hl7 := hLa4.kept hg4 (hLa4.not_row (by decide) hown4); obtain ⟨p0, p1, p2, p3, p4, p5, p6⟩ := Cmds.all hl7; rw [HKD.out] at p0)
 obtain ⟨P5, hP5⟩ : ∃ P5, P5 = P4 ++ M4 := ⟨_, rfl⟩
 have hlen5 : P5.length ≤ 5054 := by rw [hP5, List.length_append]; omega
 rw [← hP5] at ho5
 have HP5 := Lib.hid hP5; have HO5 := Lib.hid ho5; have HL7 := Lib.hid hl7; have HB7 := Lib.hid hb7
 clear hP5 ho5 hl7 hb7 hg4 hown4 hLa4 hBa4 hoa4
 go_wp2_with fail
 refine (refMember_any _ _).mono ?_
 rintro e w9 ⟨rfl, rfl⟩
 rw [show Cm.member 5 = false from rfl]
 go_wp2
 go_ret
 refine ⟨v5, rfl, ?_, HB7.out⟩
 rw [HRES.out, ← HP0.out, ← HM0.out, ← HP1.out, ← HM1.out, ← HP2.out, ← HM2.out, ← HP3.out, ← HM3.out, ← HP4.out, ← HM4.out, ← HP5.out]
 exact HO5.out
theorem refBytes_6 (c : Cm.Cmd) (w : World) (hf : c.Fits) (hs : c.Short 1000) (hk : c.kind = 6) :
 Calls Tryz.prog 59 #[.int .i64 2, .agg (Cm.cells c)] w (Makes w 5 (Cm.bytes 2 c)) := by
 obtain ⟨w1, e1, hl1, hB1, hz1⟩ := box_cmd w c
 obtain ⟨p0, p1, p2, p3, p4, p5, p6⟩ := Cmds.all hl1
 rw [hk] at p0
 have HRES : Hid (Cm.bytes 2 c = enc c.kind.toNat) := by
  show _ = _
  simp [Cm.bytes, Cm.encoded, hk, Cm.fields]
 have HK := Lib.hid hf
 have HS := Lib.hid hs
 have hlen0 : (enc c.kind.toNat).length ≤ 9 := enc_nine (by have := hf.k1; omega)
 obtain ⟨P0, hP0⟩ : ∃ P0, P0 = enc c.kind.toNat := ⟨_, rfl⟩
 rw [← hP0] at hlen0
 have HL1 := Lib.hid hl1; have HB1 := Lib.hid hB1
 have HP0 := Lib.hid hP0
 clear hl1 hB1 hz1 hf hs hP0
 have HKD := Lib.hid hk
 clear hk
 go_enter Tryz.func59, Tryz.ntmps59
 go_wp2_with fail
 refine (bytes_any 6 _ (by omega) (by omega)).mono ?_
 rintro e w2 ⟨v0, rfl, ho2, hb2⟩
 have ho0 : Owns w2 w.heap.size 5 v0 P0 := by
  have := ho2.mono HB1.out.size
  rw [HP0.out, HKD.out]; exact this
 have hl2 := HL1.out.below hb2 HL1.out.lt
 obtain ⟨p0, p1, p2, p3, p4, p5, p6⟩ := Cmds.all hl2
 rw [HKD.out] at p0
 have HO0 := Lib.hid ho0; have HL2 := Lib.hid hl2; have HB2 := Lib.hid (HB1.out.trans (hb2.mono HB1.out.size))
 clear ho0 ho2 hb2 hl2
 go_wp2_with fail
 refine (refOwned_any _ _).mono ?_
 rintro e w9 ⟨rfl, rfl⟩
 rw [show Cm.owned 6 = false from rfl]
 go_wp2_with fail
 refine (refMember_any _ _).mono ?_
 rintro e w9 ⟨rfl, rfl⟩
 rw [show Cm.member 6 = false from rfl]
 go_wp2
 go_ret
 refine ⟨v0, rfl, ?_, HB2.out⟩
 rw [HRES.out, ← HP0.out]
 exact HO0.out
theorem refBytes_7 (c : Cm.Cmd) (w : World) (hf : c.Fits) (hs : c.Short 1000) (hk : c.kind = 7) :
 Calls Tryz.prog 59 #[.int .i64 2, .agg (Cm.cells c)] w (Makes w 5 (Cm.bytes 2 c)) := by
 obtain ⟨w1, e1, hl1, hB1, hz1⟩ := box_cmd w c
 obtain ⟨p0, p1, p2, p3, p4, p5, p6⟩ := Cmds.all hl1
 rw [hk] at p0
 have HRES : Hid (Cm.bytes 2 c = (enc c.kind.toNat ++ enc c.node.toNat)) := by
  show _ = _
  simp [Cm.bytes, Cm.encoded, Cm.fenc, Cm.F.num, Cm.Cmd.n, hk, Cm.fields]
 have HK := Lib.hid hf
 have HS := Lib.hid hs
 have hlen0 : (enc c.kind.toNat).length ≤ 9 := enc_nine (by have := hf.k1; omega)
 obtain ⟨P0, hP0⟩ : ∃ P0, P0 = enc c.kind.toNat := ⟨_, rfl⟩
 rw [← hP0] at hlen0
 have HL1 := Lib.hid hl1; have HB1 := Lib.hid hB1
 have HP0 := Lib.hid hP0
 clear hl1 hB1 hz1 hf hs hP0
 have HKD := Lib.hid hk
 clear hk
 go_enter Tryz.func59, Tryz.ntmps59
 go_wp2_with fail
 refine (bytes_any 7 _ (by omega) (by omega)).mono ?_
 rintro e w2 ⟨v0, rfl, ho2, hb2⟩
 have ho0 : Owns w2 w.heap.size 5 v0 P0 := by
  have := ho2.mono HB1.out.size
  rw [HP0.out, HKD.out]; exact this
 have hl2 := HL1.out.below hb2 HL1.out.lt
 obtain ⟨p0, p1, p2, p3, p4, p5, p6⟩ := Cmds.all hl2
 rw [HKD.out] at p0
 have HO0 := Lib.hid ho0; have HL2 := Lib.hid hl2; have HB2 := Lib.hid (HB1.out.trans (hb2.mono HB1.out.size))
 clear ho0 ho2 hb2 hl2
 go_wp2_with fail
 refine (refOwned_any _ _).mono ?_
 rintro e w9 ⟨rfl, rfl⟩
 rw [show Cm.owned 7 = false from rfl]
 go_wp2_with fail
 refine (refMember_any _ _).mono ?_
 rintro e w9 ⟨rfl, rfl⟩
 rw [show Cm.member 7 = true from rfl]
 go_wp2_with fail
 refine (bytes_any c.node _ HK.out.n0 HK.out.n1).mono ?_
 rintro e wa0 ⟨ua0, rfl, hoa0, hba0⟩
 have hln0 : (enc c.node.toNat).length ≤ 9 := enc_nine (by have := HK.out.n1; omega)
 obtain ⟨M0, hM0⟩ : ∃ M0, M0 = enc c.node.toNat := ⟨_, rfl⟩
 rw [← hM0] at hoa0 hln0
 have HM0 := Lib.hid hM0
 have hown0 := HO0.out.keep hba0 (Nat.le_refl _)
 have hBa0 := HB2.out.trans (hba0.mono HB2.out.size)
 have hLa0 := HL2.out.below hba0 HL2.out.lt
 clear hM0 hba0
 go_wp2_with (at_builtin; refine append_bytes rfl _ _ 24 5 rfl Tryz.underlying24 info_u8 w.heap.size P0 M0 _ _ rfl rfl hown0 hoa0.reads (by omega) w hBa0 (Nat.le_refl _) ?_; intro v1 w3 ho1 hb3 hg0; have hl3 := hLa0.kept hg0 (hLa0.not_row (by decide) hown0); obtain ⟨p0, p1, p2, p3, p4, p5, p6⟩ := Cmds.all hl3; rw [HKD.out] at p0)
 obtain ⟨P1, hP1⟩ : ∃ P1, P1 = P0 ++ M0 := ⟨_, rfl⟩
 have hlen1 : P1.length ≤ 1018 := by rw [hP1, List.length_append]; omega
 rw [← hP1] at ho1
 have HP1 := Lib.hid hP1; have HO1 := Lib.hid ho1; have HL3 := Lib.hid hl3; have HB3 := Lib.hid hb3
 clear hP1 ho1 hl3 hb3 hg0 hown0 hLa0 hBa0 hoa0
 go_ret
 refine ⟨v1, rfl, ?_, HB3.out⟩
 rw [HRES.out, ← HP0.out, ← HM0.out, ← HP1.out]
 exact HO1.out
theorem refBytes_8 (c : Cm.Cmd) (w : World) (hf : c.Fits) (hs : c.Short 1000) (hk : c.kind = 8) :
 Calls Tryz.prog 59 #[.int .i64 2, .agg (Cm.cells c)] w (Makes w 5 (Cm.bytes 2 c)) := by
 obtain ⟨w1, e1, hl1, hB1, hz1⟩ := box_cmd w c
 obtain ⟨p0, p1, p2, p3, p4, p5, p6⟩ := Cmds.all hl1
 rw [hk] at p0
 have HRES : Hid (Cm.bytes 2 c = (enc c.kind.toNat ++ enc c.node.toNat)) := by
  show _ = _
  simp [Cm.bytes, Cm.encoded, Cm.fenc, Cm.F.num, Cm.Cmd.n, hk, Cm.fields]
 have HK := Lib.hid hf
 have HS := Lib.hid hs
 have hlen0 : (enc c.kind.toNat).length ≤ 9 := enc_nine (by have := hf.k1; omega)
 obtain ⟨P0, hP0⟩ : ∃ P0, P0 = enc c.kind.toNat := ⟨_, rfl⟩
 rw [← hP0] at hlen0
 have HL1 := Lib.hid hl1; have HB1 := Lib.hid hB1
 have HP0 := Lib.hid hP0
 clear hl1 hB1 hz1 hf hs hP0
 have HKD := Lib.hid hk
 clear hk
 go_enter Tryz.func59, Tryz.ntmps59
 go_wp2_with fail
 refine (bytes_any 8 _ (by omega) (by omega)).mono ?_
 rintro e w2 ⟨v0, rfl, ho2, hb2⟩
 have ho0 : Owns w2 w.heap.size 5 v0 P0 := by
  have := ho2.mono HB1.out.size
  rw [HP0.out, HKD.out]; exact this
 have hl2 := HL1.out.below hb2 HL1.out.lt
 obtain ⟨p0, p1, p2, p3, p4, p5, p6⟩ := Cmds.all hl2
 rw [HKD.out] at p0
 have HO0 := Lib.hid ho0; have HL2 := Lib.hid hl2; have HB2 := Lib.hid (HB1.out.trans (hb2.mono HB1.out.size))
 clear ho0 ho2 hb2 hl2
 go_wp2_with fail
 refine (refOwned_any _ _).mono ?_
 rintro e w9 ⟨rfl, rfl⟩
 rw [show Cm.owned 8 = false from rfl]
 go_wp2_with fail
 refine (refMember_any _ _).mono ?_
 rintro e w9 ⟨rfl, rfl⟩
 rw [show Cm.member 8 = true from rfl]
 go_wp2_with fail
 refine (bytes_any c.node _ HK.out.n0 HK.out.n1).mono ?_
 rintro e wa0 ⟨ua0, rfl, hoa0, hba0⟩
 have hln0 : (enc c.node.toNat).length ≤ 9 := enc_nine (by have := HK.out.n1; omega)
 obtain ⟨M0, hM0⟩ : ∃ M0, M0 = enc c.node.toNat := ⟨_, rfl⟩
 rw [← hM0] at hoa0 hln0
 have HM0 := Lib.hid hM0
 have hown0 := HO0.out.keep hba0 (Nat.le_refl _)
 have hBa0 := HB2.out.trans (hba0.mono HB2.out.size)
 have hLa0 := HL2.out.below hba0 HL2.out.lt
 clear hM0 hba0
 go_wp2_with (at_builtin; refine append_bytes rfl _ _ 24 5 rfl Tryz.underlying24 info_u8 w.heap.size P0 M0 _ _ rfl rfl hown0 hoa0.reads (by omega) w hBa0 (Nat.le_refl _) ?_; intro v1 w3 ho1 hb3 hg0; have hl3 := hLa0.kept hg0 (hLa0.not_row (by decide) hown0); obtain ⟨p0, p1, p2, p3, p4, p5, p6⟩ := Cmds.all hl3; rw [HKD.out] at p0)
 obtain ⟨P1, hP1⟩ : ∃ P1, P1 = P0 ++ M0 := ⟨_, rfl⟩
 have hlen1 : P1.length ≤ 1018 := by rw [hP1, List.length_append]; omega
 rw [← hP1] at ho1
 have HP1 := Lib.hid hP1; have HO1 := Lib.hid ho1; have HL3 := Lib.hid hl3; have HB3 := Lib.hid hb3
 clear hP1 ho1 hl3 hb3 hg0 hown0 hLa0 hBa0 hoa0
 go_ret
 refine ⟨v1, rfl, ?_, HB3.out⟩
 rw [HRES.out, ← HP0.out, ← HM0.out, ← HP1.out]
 exact HO1.out
theorem refBytesCmd_any (v : Int) (c : Cm.Cmd) (w : World) (hv : v = 1 ∨ v = 2) (hk0 : 1 ≤ c.kind) (hk1 : c.kind ≤ 8) (hf : c.Fits) (hs : c.Short 1000) :
 Calls Tryz.prog 59 #[.int .i64 v, .agg (Cm.cells c)] w (Makes w 5 (Cm.bytes v c)) := by
 rcases hv with rfl | rfl
 ·exact refBytes_v1 c w hf hs
 ·rcases Vs.kinds c.kind with h | h | h | h | h | h | h | h | h
  ·exact refBytes_1 c w hf hs h
  ·exact refBytes_2 c w hf hs h
  ·exact refBytes_3 c w hf hs h
  ·exact refBytes_4 c w hf hs h
  ·exact refBytes_5 c w hf hs h
  ·exact refBytes_6 c w hf hs h
  ·exact refBytes_7 c w hf hs h
  ·exact refBytes_8 c w hf hs h
  ·omega
end Go.Proofs.YteboceekcmchkaaGreatDoor
