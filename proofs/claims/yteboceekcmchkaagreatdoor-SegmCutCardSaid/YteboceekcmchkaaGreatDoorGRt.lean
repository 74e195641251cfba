/- Several texts of mine in one: RtLink RtEnc. -/
import Derived.Test.YteboceekcmchkaaGreatDoorPGBl
import Derived.Test.YteboceekcmchkaaGreatDoorGMb
import Derived.Test.YteboceekcmchkaaGreatDoorGRg
import Derived.Test.YteboceekcmchkaaGreatDoorGRf
import Derived.Test.YteboceekcmchkaaGreatDoorPRtMath
import Derived.Deep.RegionHeld3
namespace Go.Proofs.YteboceekcmchkaaGreatDoor
open Go.RowKit
abbrev Fun2 (w : World) (g f a b : Nat) : Prop := Lies w g 1 #[.func (.func f) #[] #[.pointer (some ⟨a, 0, none⟩), .pointer (some ⟨b, 0, none⟩)]]
abbrev Rt.link (g : Nat) : Value := .func (.func 122) #[] #[.pointer (some ⟨g, 0, none⟩)]
theorem rtWith_any (f a b : Nat) (w : World) :
 Calls Tryz.prog 92 #[.func (.func f) #[] #[.pointer (some ⟨a, 0, none⟩), .pointer (some ⟨b, 0, none⟩)]] w
  fun e w' => e = .returned (Rt.link w.heap.size) ∧ Fun2 w' w.heap.size f a b ∧ Below w.heap.size w w' ∧ w.heap.size < w'.heap.size := by
 have hmf : ∀ (fn : Fn) (first cap : Array Value) (w : World), (Instr.makeFunc fn first cap).run Tryz.prog w = .ok (.func fn first cap) w := fun _ _ _ _ => rfl
 obtain ⟨w1, e1, hl1, hb1⟩ : ∃ w1, w.alloc (.cells #[.func (.func f) #[] #[.pointer (some ⟨a, 0, none⟩), .pointer (some ⟨b, 0, none⟩)]] 1) = w1 ∧ Fun2 w1 w.heap.size f a b ∧ Below w.heap.size w w1 :=
  ⟨_, rfl, Lies.new _ _ _, (Below.refl _ w).alloc (Nat.le_refl _) _⟩
 have HL := Lib.hid hl1; have HB := Lib.hid hb1
 clear hl1 hb1
 go_enter Tryz.func92, Tryz.ntmps92
 go_wp2
 go_ret
 exact ⟨rfl, HL.out, HB.out, HL.out.lt⟩
theorem rtWith_some (f a b : Nat) (w : World) :
 Calls Tryz.prog 92 #[.func (.func f) #[] #[.pointer (some ⟨a, 0, none⟩), .pointer (some ⟨b, 0, none⟩)]] w
  fun e w' => ∃ g, e = .returned (Rt.link g) ∧ Fun2 w' g f a b ∧ w.heap.size ≤ g ∧ Below w.heap.size w w' := by
 refine (rtWith_any f a b w).mono ?_
 rintro e w' ⟨h1, h2, h3, _⟩
 exact ⟨_, h1, h2, Nat.le_refl _, h3⟩
theorem rtLink_r2 (t : Bool) (g a b : Nat) (w : World) (P : World → Prop) (hl : Fun2 w g 127 a b)
 (h1 : t = true → Calls Tryz.prog 127 #[.pointer (some ⟨a, 0, none⟩), .pointer (some ⟨b, 0, none⟩)] w fun e w' => e = .returned (.tuple #[]) ∧ P w') (h0 : t = false → P w) :
 Calls Tryz.prog 122 #[.bool t, .pointer (some ⟨g, 0, none⟩)] w fun e w' => e = .returned (.tuple #[]) ∧ P w' := by
 have c0 := hl.cell 0 _ rfl
 cases t with
 | true =>
  have H1 := Lib.hid (h1 rfl)
  clear h1 h0 hl
  go_enter Tryz.func122, Tryz.ntmps122
  go_wp2_with fail
  refine H1.out.mono ?_
  rintro e1 w1 ⟨rfl, h⟩
  have H := Lib.hid h
  clear h
  go_wp2
  go_end0
  exact ⟨rfl, H.out⟩
 | false =>
  have H0 := Lib.hid (h0 rfl)
  clear h1 h0 hl
  go_enter Tryz.func122, Tryz.ntmps122
  go_wp2
  go_end0
  exact ⟨rfl, H0.out⟩
theorem rtLink_r3 (t : Bool) (g a b : Nat) (w : World) (P : World → Prop) (hl : Fun2 w g 128 a b)
 (h1 : t = true → Calls Tryz.prog 128 #[.pointer (some ⟨a, 0, none⟩), .pointer (some ⟨b, 0, none⟩)] w fun e w' => e = .returned (.tuple #[]) ∧ P w') (h0 : t = false → P w) :
 Calls Tryz.prog 122 #[.bool t, .pointer (some ⟨g, 0, none⟩)] w fun e w' => e = .returned (.tuple #[]) ∧ P w' := by
 have c0 := hl.cell 0 _ rfl
 cases t with
 | true =>
  have H1 := Lib.hid (h1 rfl)
  clear h1 h0 hl
  go_enter Tryz.func122, Tryz.ntmps122
  go_wp2_with fail
  refine H1.out.mono ?_
  rintro e1 w1 ⟨rfl, h⟩
  have H := Lib.hid h
  clear h
  go_wp2
  go_end0
  exact ⟨rfl, H.out⟩
 | false =>
  have H0 := Lib.hid (h0 rfl)
  clear h1 h0 hl
  go_enter Tryz.func122, Tryz.ntmps122
  go_wp2
  go_end0
  exact ⟨rfl, H0.out⟩
theorem rtLink_r4 (t : Bool) (g a b : Nat) (w : World) (P : World → Prop) (hl : Fun2 w g 129 a b)
 (h1 : t = true → Calls Tryz.prog 129 #[.pointer (some ⟨a, 0, none⟩), .pointer (some ⟨b, 0, none⟩)] w fun e w' => e = .returned (.tuple #[]) ∧ P w') (h0 : t = false → P w) :
 Calls Tryz.prog 122 #[.bool t, .pointer (some ⟨g, 0, none⟩)] w fun e w' => e = .returned (.tuple #[]) ∧ P w' := by
 have c0 := hl.cell 0 _ rfl
 cases t with
 | true =>
  have H1 := Lib.hid (h1 rfl)
  clear h1 h0 hl
  go_enter Tryz.func122, Tryz.ntmps122
  go_wp2_with fail
  refine H1.out.mono ?_
  rintro e1 w1 ⟨rfl, h⟩
  have H := Lib.hid h
  clear h
  go_wp2
  go_end0
  exact ⟨rfl, H.out⟩
 | false =>
  have H0 := Lib.hid (h0 rfl)
  clear h1 h0 hl
  go_enter Tryz.func122, Tryz.ntmps122
  go_wp2
  go_end0
  exact ⟨rfl, H0.out⟩
theorem rtLink_r5 (t : Bool) (g a b : Nat) (w : World) (P : World → Prop) (hl : Fun2 w g 130 a b)
 (h1 : t = true → Calls Tryz.prog 130 #[.pointer (some ⟨a, 0, none⟩), .pointer (some ⟨b, 0, none⟩)] w fun e w' => e = .returned (.tuple #[]) ∧ P w') (h0 : t = false → P w) :
 Calls Tryz.prog 122 #[.bool t, .pointer (some ⟨g, 0, none⟩)] w fun e w' => e = .returned (.tuple #[]) ∧ P w' := by
 have c0 := hl.cell 0 _ rfl
 cases t with
 | true =>
  have H1 := Lib.hid (h1 rfl)
  clear h1 h0 hl
  go_enter Tryz.func122, Tryz.ntmps122
  go_wp2_with fail
  refine H1.out.mono ?_
  rintro e1 w1 ⟨rfl, h⟩
  have H := Lib.hid h
  clear h
  go_wp2
  go_end0
  exact ⟨rfl, H.out⟩
 | false =>
  have H0 := Lib.hid (h0 rfl)
  clear h1 h0 hl
  go_enter Tryz.func122, Tryz.ntmps122
  go_wp2
  go_end0
  exact ⟨rfl, H0.out⟩
section
def Rt.tail (x : Re.Rec) : List UInt8 := Mt.part (Re.hb x.kind) (enc x.bal.round.toNat ++ enc x.bal.node.toNat) ++ (Mt.part (Re.hi x.kind) (enc x.index.toNat) ++ (Mt.part (Re.hc x.kind) (Cm.bytes 2 x.cmd) ++ Mt.part (Re.hm x.kind) (Pk.text x.img)))
theorem Mt.part_app (t : Bool) (a b : List UInt8) : Mt.part t (a ++ b) = Mt.part t a ++ Mt.part t b := by
 cases t
 ·rw [Mt.part_no, Mt.part_no, Mt.part_no]; rfl
 ·rw [Mt.part_yes, Mt.part_yes, Mt.part_yes]
theorem Rt.bytes_tail (x : Re.Rec) : Rt.bytes x = enc (x.kind + 16).toNat ++ Rt.tail x := by
 unfold Rt.bytes Rt.tail
 rw [Mt.part_app]
 simp only [List.append_assoc]
theorem Rt.bytes_len {m : Re.Rec} (hk : Re.known m.kind = true) (hf : m.Fits) (hs : m.cmd.Short 1000) (hm : m.img.length ≤ 100000) : (Rt.bytes m).length ≤ 110000 := by
 have f1 := hf.n m.bal.round (by simp [Re.nums]); have f2 := hf.n m.bal.node (by simp [Re.nums]); have f3 := hf.n m.index (by simp [Re.nums])
 have q1 := enc_nine (n := m.bal.round.toNat) (by omega); have q2 := enc_nine (n := m.bal.node.toNat) (by omega); have q3 := enc_nine (n := m.index.toNat) (by omega)
 have hk14 : 1 ≤ m.kind ∧ m.kind ≤ 4 := by unfold Re.known at hk; simpa using hk
 have q0 := enc_nine (n := (m.kind + 16).toNat) (by omega)
 have q4 := Cm.bytes_len 2 m.cmd hf.c hs
 have q5 := enc_nine (n := m.img.length) (by omega)
 rw [Rt.bytes_tail]
 unfold Rt.tail
 have L1 := Mt.part_le (Re.hb m.kind) (enc m.bal.round.toNat ++ enc m.bal.node.toNat)
 have L2 := Mt.part_le (Re.hi m.kind) (enc m.index.toNat)
 have L3 := Mt.part_le (Re.hc m.kind) (Cm.bytes 2 m.cmd)
 have L4 := Mt.part_le (Re.hm m.kind) (Pk.text m.img)
 rw [show (Pk.text m.img).length = (enc m.img.length).length + m.img.length by simp [Pk.text]] at L4
 simp only [List.length_append] at L1 ⊢
 omega
structure Rt.Chain (w : World) (g1 g2 g3 g4 f1 f2 f3 f4 a c b : Nat) : Prop where
 l1 : Fun2 w g1 f1 a b
 l2 : Fun2 w g2 f2 a b
 l3 : Fun2 w g3 f3 c b
 l4 : Fun2 w g4 f4 c b
theorem Rt.Chain.by {w w' : World} {g1 g2 g3 g4 f1 f2 f3 f4 a c b : Nat} (h : Rt.Chain w g1 g2 g3 g4 f1 f2 f3 f4 a c b) (k : ∀ g f x y, g = g1 ∨ g = g2 ∨ g = g3 ∨ g = g4 → Fun2 w g f x y → Fun2 w' g f x y) : Rt.Chain w' g1 g2 g3 g4 f1 f2 f3 f4 a c b :=
 ⟨k _ _ _ _ (.inl rfl) h.l1, k _ _ _ _ (.inr (.inl rfl)) h.l2, k _ _ _ _ (.inr (.inr (.inl rfl))) h.l3, k _ _ _ _ (.inr (.inr (.inr rfl))) h.l4⟩
section
variable (t : Bool) (g : Nat) (m : Re.Rec) (vi : Value) (w : World) (B o gx : Nat) (u : Value) (pre : List UInt8) (hw : Wrt w B o u pre) (hB : B ≤ w.heap.size) (hl : Recs w gx m vi)
end
end
end Go.Proofs.YteboceekcmchkaaGreatDoor
