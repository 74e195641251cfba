/- Several texts of mine in one: SnLaw SnRd SoLaw SoRd. -/
import Derived.Test.YtammfmmpldahhaaGreatSnRef
import Derived.Test.YtammfmmpldahhaaGreatGSx
import Derived.Test.YtammfmmpldahhaaGreatGSy
namespace Go.Proofs.YtammfmmpldahhaaGreat
open Go.RowKit

theorem Kv.valid_len {p : Kv.Item} (h : Kv.valid p = true) : p.key.length ≤ 24 ∧ p.val.length ≤ 48 ∧ p.rev = 0 := by
  unfold Kv.valid Rn.key Rn.val at h
  simp only [Bool.and_eq_true, decide_eq_true_eq, beq_iff_eq, str_size] at h
  exact ⟨h.1.1.2, h.2.1.1.1, h.2.2⟩
theorem Kv.valid2_len {p : Kv.Item} (h : Kv.valid2 p = true) : p.key.length ≤ 24 ∧ p.val.length ≤ 48 ∧ 1 ≤ p.rev ∧ p.rev ≤ 4294967296 := by
  unfold Kv.valid2 Kv.inRev Rn.key Rn.val at h
  simp only [Bool.and_eq_true, decide_eq_true_eq, str_size] at h
  exact ⟨h.1.1.2, h.2.1.1.1, h.2.2.1, h.2.2.2⟩
theorem An.check_len {a : An.Ans} (h : An.check a = 0) : a.val.length ≤ 48 := by
  unfold An.check at h
  split at h
  · cases h
  · split at h
    · cases h
    · rename_i hv
      have hv' : Rn.val ⟨a.val.toArray⟩ = true := by simpa using hv
      unfold Rn.val at hv'
      simp only [Bool.and_eq_true, decide_eq_true_eq, str_size] at hv'
      exact hv'.1.1
/-- A state that may be is small. -/
theorem Sn.mid_of {s : Mg.St} (h : Mg.check s = true) : s.Mid ∧ s.Few ∧ s.Came := by
  have hsch := Mg.schema_of h
  unfold Mg.check at h
  rw [Bool.and_eq_true] at h
  obtain ⟨hp, hs⟩ := h
  have hP : (∀ p ∈ s.pairs, (p.key.length ≤ 24 ∧ p.val.length ≤ 48) ∧ 0 ≤ p.rev ∧ p.rev ≤ 4294967296) ∧ s.pairs.length ≤ 64 := by
    unfold Mg.pairsOk at hp
    rcases hsch with h1 | h2
    · rw [if_pos h1] at hp
      unfold Kv.refCheck at hp
      split at hp
      · rename_i ha
        rw [Bool.and_eq_true, decide_eq_true_eq] at hp
        refine ⟨fun p hm => ?_, hp.1⟩
        have := Kv.valid_len (List.all_eq_true.1 ha p hm)
        omega
      · cases hp
    · rw [if_neg (by omega), if_pos h2] at hp
      unfold Kv.refCheck2 at hp
      split at hp
      · rename_i ha
        rw [Bool.and_eq_true, decide_eq_true_eq] at hp
        refine ⟨fun p hm => ?_, hp.1⟩
        have := Kv.valid2_len (List.all_eq_true.1 ha p hm)
        omega
      · cases hp
  have hS1 : Se.refCheck s.sess = true := by
    unfold Mg.sessOk at hs
    split at hs
    · cases hs
    · exact hs
  unfold Se.refCheck at hS1
  split at hS1
  · rename_i ha
    have hall : ∀ x ∈ s.sess, x.last.client = x.client ∧ An.check x.last = 0 := fun x hx => by
      have := List.all_eq_true.1 ha x hx
      unfold Se.valid at this
      simp only [Bool.and_eq_true, beq_iff_eq] at this
      exact ⟨this.1, this.2.2⟩
    have h8 : s.sess.length ≤ 8 := by
      have hasc : Se.Asc s.sess := of_decide_eq_true hS1
      have := Sn.clients_few s.sess 0 (fun x hx => by
        obtain ⟨e1, e3⟩ := hall x hx
        have := An.check_num e3
        omega) hasc
      omega
    have hv : ∀ x ∈ s.sess, x.last.val.length ≤ 48 := fun x hx => An.check_len (hall x hx).2
    exact ⟨⟨by omega, fun p hp => by have := hP.1 p hp; omega, fun x hx => ⟨An.check_fits (hall x hx).2, by have := hv x hx; omega⟩, by have := hP.2; omega, by omega⟩,
      ⟨by have := hP.2; omega, fun p hp => by have := hP.1 p hp; omega, fun x hx => by have := hv x hx; omega, by omega⟩,
      ⟨fun p hp => by have := hP.1 p hp; omega, fun x hx => by have := hv x hx; omega⟩⟩
  · cases hS1

theorem Sn.bytes_few {s : Mg.St} (h : Mg.check s = true) : (Sn.bytes s).length ≤ 1000000 := by
  obtain ⟨hm, _, _⟩ := Sn.mid_of h
  have hsch := Mg.schema_of h
  have h1 := Sn.flat_len (Sn.pbytes s.schema) 3000 s.pairs fun p hp => Sn.pbytes_len _ p (hm.kv p hp)
  have h2 := Sn.flat_len (Sn.sbytes s.schema) 1050 s.sess fun x hx => An.bytes_len s.schema x.last (hm.ses x hx).1 (hm.ses x hx).2 (by omega)
  have a1 : s.pairs.length ≤ 64 ∧ s.sess.length ≤ 8 := by
    have hk : ∀ e ∈ s.pairs, (e.key.length ≤ 9223372036854775807 ∧ (e.key.length : Int) ≤ 9223372036854775807) ∧ e.val.length ≤ 9223372036854775807 ∧ (e.val.length : Int) ≤ 9223372036854775807 := fun e he => by have := hm.kv e he; omega
    exact (Sn.ok_of (m := ⟨9223372036854775807, 9223372036854775807, 9223372036854775807⟩) (by show (4294967296 : Int) ≤ 9223372036854775807; omega) h hk fun e he => by have := hm.ses e he; omega).2.2
  have e1 := enc_nine (n := s.schema.toNat) (by omega)
  have e2 := enc_nine (n := s.pairs.length) (by omega)
  have e3 := enc_nine (n := s.sess.length) (by omega)
  have b1 : 3000 * s.pairs.length ≤ 3000 * 64 := Nat.mul_le_mul_left _ a1.1
  have b2 : 1050 * s.sess.length ≤ 1050 * 8 := Nat.mul_le_mul_left _ a1.2
  unfold Sn.bytes Sn.body Lc.bytes
  simp only [List.length_append]
  omega

/-- What Encode gives of a state: its bytes, the error. -/
def Sn.enc1 (s : Mg.St) : List UInt8 × Int := if Mg.check s = false then ([], 3) else if s.schema = 1 then (Sn.bytes s, 0) else ([], 8)
theorem Sn.enc1_no {s : Mg.St} (h : Mg.check s = false) : Sn.enc1 s = ([], 3) := if_pos h
theorem Sn.enc1_yes {s : Mg.St} (h : Mg.check s = true) (h1 : s.schema = 1) : Sn.enc1 s = (Sn.bytes s, 0) := by
  unfold Sn.enc1
  rw [if_neg (by rw [h]; decide), if_pos h1]
theorem Sn.enc1_late {s : Mg.St} (h : Mg.check s = true) (h1 : s.schema ≠ 1) : Sn.enc1 s = ([], 8) := by
  unfold Sn.enc1
  rw [if_neg (by rw [h]; decide), if_neg h1]
def EncSn (w : World) (s : Mg.St) (e : Ending) (w' : World) : Prop := ∃ v, e = .returned (.tuple #[v, .int .i64 (Sn.enc1 s).2]) ∧ Reads w' v (Sn.enc1 s).1 ∧ Below w.heap.size w w'
/-- What Decode gives of bytes. -/
structure Sn.DecOk (b : List UInt8) (x : Mg.St) (e : Int) : Prop where
  no : e ≠ 0 → x = Mg.zero
  ok : e = 0 → Mg.check x = true ∧ x.schema = 1 ∧ Sn.bytes x = b
  back : ∀ y, Mg.check y = true → y.schema = 1 → Sn.bytes y = b → e = 0 ∧ x = y
def DecSn (w : World) (b : List UInt8) (e : Ending) (w' : World) : Prop := ∃ x er vp vs, e = .returned (.tuple #[.agg (Mg.cells x.schema vp vs), .int .i64 er]) ∧ StR w' x vp vs ∧ Below w.heap.size w w' ∧ Sn.DecOk b x er

theorem Sn.empty_bytes : Sn.enc1 ⟨1, [], []⟩ = ([1, 0, 0], 0) := by decide +kernel

end Go.Proofs.YtammfmmpldahhaaGreat


namespace Go.Proofs.YtammfmmpldahhaaGreat
open Go.RowKit

namespace Sn
abbrev big : Lim := ⟨9223372036854775807, 9223372036854775807, 0⟩
/-- What is read: the state, the error. -/
def rd (b : List UInt8) : Mg.St × Int :=
  if (rnm 2 b 0 0).2.2 ≠ 0 then (Mg.zero, (rnm 2 b 0 0).2.2)
  else if (rnm 2 b 0 0).1 ≠ 1 then (Mg.zero, 3)
  else (⟨1, (read 1 big b (rnm 2 b 0 0).2.1.toNat 0).1.1, (read 1 big b (rnm 2 b 0 0).2.1.toNat 0).1.2⟩,
    Pk.done b (read 1 big b (rnm 2 b 0 0).2.1.toNat 0).2.1 (read 1 big b (rnm 2 b 0 0).2.1.toNat 0).2.2)
theorem rd_ok {b : List UInt8} (h : (rd b).2 = 0) : (rd b).1.schema = 1 ∧ bytes (rd b).1 = b := by
  obtain ⟨n, q, e, hn, _, h0, _, hq, ht⟩ := rnm_res 2 b 0 0 (by omega)
  unfold rd at h ⊢
  rw [hn] at h ⊢
  dsimp only at h ⊢
  split at h
  · rename_i hc
    exact absurd h hc
  · rename_i he
    rw [if_neg he]
    split at h
    · cases h
    · rename_i hc
      rw [if_neg hc]
      have hn1 : n = 1 := Decidable.byContradiction hc
      have he0 : e = 0 := Decidable.byContradiction he
      subst hn1
      subst he0
      simp only [Int.toNat_natCast] at h ⊢
      have hle := read_le 1 big b q 0 hq
      unfold Pk.done at h
      by_cases he : (read 1 big b q 0).2.2 = 0
      · rw [if_neg (by simpa using he)] at h
        have hlen : (read 1 big b q 0).2.1 = b.length := by
          by_cases hlt : (read 1 big b q 0).2.1 < b.length
          · rw [if_pos hlt] at h; omega
          · omega
        refine ⟨by trivial, ?_⟩
        exact whole_ok hq (by simpa using (ht rfl).2) he hlen
      · rw [if_pos (by simpa using he)] at h
        exact absurd h he
theorem rd_back {y : Mg.St} (h : Mg.check y = true) (h1 : y.schema = 1) : rd (bytes y) = (y, 0) := by
  obtain ⟨hmid, _, _⟩ := mid_of h
  obtain ⟨a1, a2, a3, a4⟩ := ok_of (m := ⟨9223372036854775807, 9223372036854775807, 4294967296⟩) (by show (4294967296 : Int) ≤ 4294967296; omega) h (fun e he => by have := hmid.kv e he; exact ⟨⟨by omega, by show (_ : Int) ≤ 9223372036854775807; omega⟩, by omega, by show (_ : Int) ≤ 9223372036854775807; omega⟩) (fun e he => by have := hmid.ses e he; omega)
  have a1' : ∀ p ∈ y.pairs, PairOk y.schema big p := fun p hp => by
    have := a1 p hp
    have h0 := this.one (by omega)
    exact ⟨this.key, this.val, ⟨this.rev.1, by show p.rev ≤ 0; omega⟩, this.one⟩
  have hr := read_at y.schema big y.pairs y.sess a1' a2 a3 a4 (enc y.schema.toNat) []
  have hn := Pk.num_enc [] (body y.schema y.pairs y.sess) (N := y.schema.toNat) (most := 2) (by omega) (by omega)
  simp only [List.nil_append, List.length_nil, Nat.zero_add] at hn
  have hb : bytes y = enc y.schema.toNat ++ body y.schema y.pairs y.sess := rfl
  rw [List.append_nil, ← hb] at hr
  rw [← hb] at hn
  have hrn : rnm 2 (bytes y) 0 0 = (y.schema, (((enc y.schema.toNat).length : Nat) : Int), 0) := by
    unfold rnm
    rw [if_pos rfl, hn, Int.toNat_of_nonneg (by omega)]
  unfold rd
  rw [hrn]
  dsimp only
  rw [if_neg (by simp), if_neg (by simpa using h1)]
  simp only [Int.toNat_natCast]
  rw [h1] at hr ⊢
  rw [hr]
  dsimp only
  unfold Pk.done
  rw [if_neg (by simp), if_neg (by omega)]
  obtain ⟨v, l, m⟩ := y
  dsimp only at h1
  subst h1
  rfl
theorem few_of {x : Mg.St} {b : List UInt8} (h : bytes x = b) (hb : b.length ≤ 1000000) : x.Few := by
  have hl : (bytes x).length ≤ 1000000 := by rw [h]; exact hb
  unfold bytes body Lc.bytes at hl
  simp only [List.length_append] at hl
  have f1 := Lc.flat_ge (pair_codes x.schema big) x.pairs
  have f2 := Lc.flat_ge (ses_codes x.schema) x.sess
  have mem : ∀ {α : Type} (e : α → List UInt8) (l : List α) (a : α), a ∈ l → (e a).length ≤ (l.flatMap e).length := fun e l a ha => by
    induction l with
    | nil => simp at ha
    | cons x r ih =>
      rw [List.flatMap_cons, List.length_append]
      rcases List.mem_cons.1 ha with rfl | ha
      · omega
      · have := ih ha; omega
  refine ⟨by omega, fun p hp => ?_, fun s hs => ?_, by omega⟩
  · have h1 := mem (pbytes x.schema) x.pairs p hp
    have h2 : p.key.length + p.val.length ≤ (pbytes x.schema p).length := by
      unfold pbytes Pk.text
      simp only [List.length_append]
      omega
    omega
  · have h1 := mem (sbytes x.schema) x.sess s hs
    have h2 : s.last.val.length ≤ (sbytes x.schema s).length := by
      unfold sbytes An.bytes Pk.text
      simp only [List.length_append]
      omega
    omega
/-- What Decode of schema 1 gives. -/
def dec (b : List UInt8) : Mg.St × Int := if (rd b).2 ≠ 0 then (Mg.zero, (rd b).2) else if Mg.check (rd b).1 = false then (Mg.zero, 3) else ((rd b).1, 0)
theorem dec_no {b : List UInt8} (h : (rd b).2 ≠ 0) : dec b = (Mg.zero, (rd b).2) := if_pos h
theorem dec_form {b : List UInt8} (h : (rd b).2 = 0) (hc : Mg.check (rd b).1 = false) : dec b = (Mg.zero, 3) := by
  unfold dec
  rw [if_neg (by simpa using h), if_pos hc]
theorem dec_yes {b : List UInt8} (h : (rd b).2 = 0) (hc : Mg.check (rd b).1 = true) : dec b = ((rd b).1, 0) := by
  unfold dec
  rw [if_neg (by simpa using h), if_neg (by rw [hc]; decide)]
theorem dec_is (b : List UInt8) : DecOk b (dec b).1 (dec b).2 := by
  by_cases h : (rd b).2 = 0
  · cases hc : Mg.check (rd b).1 with
    | true =>
      rw [dec_yes h hc]
      refine ⟨fun h0 => absurd rfl h0, fun _ => ⟨hc, (rd_ok h).1, (rd_ok h).2⟩, fun y h1 h2 h3 => ?_⟩
      have := rd_back h1 h2
      rw [h3] at this
      exact ⟨rfl, by rw [this]⟩
    | false =>
      rw [dec_form h hc]
      refine ⟨fun _ => rfl, fun h0 => (by cases h0), fun y h1 h2 h3 => ?_⟩
      have := rd_back h1 h2
      rw [h3] at this
      rw [this] at hc
      rw [h1] at hc
      cases hc
  · rw [dec_no h]
    refine ⟨fun _ => rfl, fun h0 => absurd h0 h, fun y h1 h2 h3 => ?_⟩
    have := rd_back h1 h2
    rw [h3] at this
    rw [this] at h
    exact absurd rfl h
end Sn
/-- .. left by a call. -/
def IsSn (w : World) (b : List UInt8) (e : Ending) (w' : World) : Prop := ∃ vp vs, e = .returned (.tuple #[.agg (Mg.cells (Sn.dec b).1.schema vp vs), .int .i64 (Sn.dec b).2]) ∧ StR w' (Sn.dec b).1 vp vs ∧ Below w.heap.size w w'
theorem IsSn.dec {w : World} {b : List UInt8} (e : Ending) (w' : World) (h : IsSn w b e w') : DecSn w b e w' := by
  obtain ⟨vp, vs, h1, h2, h3⟩ := h
  exact ⟨_, _, vp, vs, h1, h2, h3, Sn.dec_is b⟩

end Go.Proofs.YtammfmmpldahhaaGreat


namespace Go.Proofs.YtammfmmpldahhaaGreat
open Go.RowKit

namespace Sn
/-- What Encode of schema 2, Put, Migrate give: bytes, the error. -/
def enc2 (s : Mg.St) : List UInt8 × Int := if Mg.check s = false then ([], 3) else if s.schema = 2 then (bytes s, 0) else ([], 8)
theorem enc2_no {s : Mg.St} (h : Mg.check s = false) : enc2 s = ([], 3) := if_pos h
theorem enc2_yes {s : Mg.St} (h : Mg.check s = true) (h1 : s.schema = 2) : enc2 s = (bytes s, 0) := by
  unfold enc2
  rw [if_neg (by rw [h]; decide), if_pos h1]
theorem enc2_late {s : Mg.St} (h : Mg.check s = true) (h1 : s.schema ≠ 2) : enc2 s = ([], 8) := by
  unfold enc2
  rw [if_neg (by rw [h]; decide), if_neg h1]
def putb (s : Mg.St) : List UInt8 × Int := if Mg.check s = false then ([], 3) else (bytes s, 0)
theorem putb_no {s : Mg.St} (h : Mg.check s = false) : putb s = ([], 3) := if_pos h
theorem putb_yes {s : Mg.St} (h : Mg.check s = true) : putb s = (bytes s, 0) := by
  unfold putb
  rw [if_neg (by rw [h]; decide)]
def mig (b : List UInt8) : List UInt8 × Int := if (dec b).2 ≠ 0 then ([], (dec b).2) else (bytes (Mg.revd (dec b).1 2 1), 0)
theorem mig_no {b : List UInt8} (h : (dec b).2 ≠ 0) : mig b = ([], (dec b).2) := if_pos h
theorem mig_yes {b : List UInt8} (h : (dec b).2 = 0) : mig b = (bytes (Mg.revd (dec b).1 2 1), 0) := by
  unfold mig
  rw [if_neg (by simpa using h)]
theorem mig_of {s : Mg.St} (h : Mg.check s = true) (h1 : s.schema = 1) : mig (bytes s) = (bytes (Mg.revd s 2 1), 0) := by
  obtain ⟨h2, h3⟩ := (dec_is (bytes s)).back s h h1 rfl
  rw [mig_yes h2, h3]
/-- What Get, Decode of schema 2 give of bytes. -/
structure GetOk (b : List UInt8) (x : Mg.St) (e : Int) : Prop where
  no : e ≠ 0 → x = Mg.zero
  ok : e = 0 → Mg.check x = true ∧ bytes x = b
  back : ∀ y, Mg.check y = true → bytes y = b → e = 0 ∧ x = y
structure Dec2Ok (b : List UInt8) (x : Mg.St) (e : Int) : Prop where
  no : e ≠ 0 → x = Mg.zero
  ok : e = 0 → Mg.check x = true ∧ x.schema = 2 ∧ bytes x = b
  back : ∀ y, Mg.check y = true → y.schema = 2 → bytes y = b → e = 0 ∧ x = y
/-- What the one refuses, the other refuses. -/
theorem GetOk.both {b : List UInt8} {x y : Mg.St} {e f : Int} (h : GetOk b x e) (k : Dec2Ok b y f) (he : e ≠ 0) : f ≠ 0 := fun h0 => by
  obtain ⟨h1, _, h3⟩ := k.ok h0
  exact he (h.back y h1 h3).1
theorem GetOk.two {b : List UInt8} {x y : Mg.St} {e f : Int} (h : GetOk b x e) (k : Dec2Ok b y f) (he : e = 0) : f = 0 ↔ x.schema = 2 := by
  obtain ⟨h1, h2⟩ := h.ok he
  constructor
  · intro h0
    obtain ⟨k1, k2, k3⟩ := k.ok h0
    rw [(h.back y k1 k3).2, k2]
  · intro h0
    exact (k.back x h1 h0 h2).1
theorem none_bytes : bytes ⟨1, [], []⟩ = [1, 0, 0] := by decide +kernel
theorem none_mig : mig [1, 0, 0] = ([2, 0, 0], 0) := by
  rw [← none_bytes, mig_of (by decide +kernel) rfl]
  decide +kernel
theorem none_enc2 : enc2 ⟨2, [], []⟩ = ([2, 0, 0], 0) := by decide +kernel
end Sn
/-- What a call of theirs leaves. -/
def BytesSo (w : World) (r : List UInt8 × Int) (e : Ending) (w' : World) : Prop := ∃ v, e = .returned (.tuple #[v, .int .i64 r.2]) ∧ Reads w' v r.1 ∧ Below w.heap.size w w'
def GetSo (w : World) (b : List UInt8) (e : Ending) (w' : World) : Prop := ∃ x er vp vs, e = .returned (.tuple #[.agg (Mg.cells x.schema vp vs), .int .i64 er]) ∧ StR w' x vp vs ∧ Below w.heap.size w w' ∧ Sn.GetOk b x er
def DecSo (w : World) (b : List UInt8) (e : Ending) (w' : World) : Prop := ∃ x er vp vs, e = .returned (.tuple #[.agg (Mg.cells x.schema vp vs), .int .i64 er]) ∧ StR w' x vp vs ∧ Below w.heap.size w w' ∧ Sn.Dec2Ok b x er
theorem IsSn.getSo {w : World} {b : List UInt8} (hn : ∀ y, Mg.check y = true → Sn.bytes y = b → y.schema = 1) (e : Ending) (w' : World) (h : IsSn w b e w') : GetSo w b e w' := by
  obtain ⟨vp, vs, h1, h2, h3⟩ := h
  have h4 := Sn.dec_is b
  exact ⟨_, _, vp, vs, h1, h2, h3, h4.no, fun h0 => ⟨(h4.ok h0).1, (h4.ok h0).2.2⟩, fun y a b => h4.back y a (hn y a b) b⟩
theorem DecSo.getSo {w : World} {b : List UInt8} (hn : ∀ y, Mg.check y = true → Sn.bytes y = b → y.schema = 2) (e : Ending) (w' : World) (h : DecSo w b e w') : GetSo w b e w' := by
  obtain ⟨x, er, vp, vs, h1, h2, h3, h4⟩ := h
  exact ⟨x, er, vp, vs, h1, h2, h3, h4.no, fun h0 => ⟨(h4.ok h0).1, (h4.ok h0).2.2⟩, fun y a b => h4.back y a (hn y a b) b⟩

set_option maxRecDepth 4000 in
set_option maxHeartbeats 1600000 in
theorem awakeSo_any (hE : ∀ (s : Mg.St) (vp vs : Value) (w : World), StR w s vp vs → s.Few → Calls Tryz.prog 9 #[.agg (Mg.cells s.schema vp vs)] w (BytesSo w (Sn.enc2 s)))
    (hM : ∀ (v : Value) (b : List UInt8) (w : World), Reads w v b → b.length ≤ 1000000 → Calls Tryz.prog 16 #[v] w (BytesSo w (Sn.mig b)))
    (w : World) : Calls Tryz.prog 7 #[] w (Truly w) := by
  have hcall := hE ⟨2, [], []⟩ (.slice none 0 0) (.slice none 0 0) w ⟨ReadsR.empty w 3, ReadsR.empty w 8⟩ ⟨by simp, by simp, by simp, by simp⟩
  rw [Sn.none_enc2] at hcall
  have hmig := fun v W h => hM v [1, 0, 0] W h (by simp)
  rw [Sn.none_mig] at hmig
  unfold BytesSo at hcall hmig
  have HMIG := Lib.hid hmig
  clear hE hM hmig
  go_enter Tryz.func7, Tryz.ntmps7
  go_wp2_with fail
  refine hcall.mono ?_
  rintro e w2 ⟨v2, rfl, hr2, hB2⟩
  have HR2 := Lib.hid hr2
  have HB2 := Lib.hid hB2
  clear hr2 hB2 hcall
  obtain ⟨w3, hw3⟩ : ∃ w3, w2.alloc (.cells #[.int .u8 1, .int .u8 0, .int .u8 0] 5) = w3 := ⟨_, rfl⟩
  have hb3 : Below w2.heap.size w2 w3 := by rw [← hw3]; exact (Below.refl _ w2).alloc (Nat.le_refl _) _
  have hr3 : Reads w3 (.slice (some ⟨w2.heap.size, 0, none⟩) 3 3) [1, 0, 0] := by rw [← hw3]; exact Reads.fresh w2 _ [1, 0, 0] 3 _ rfl rfl (by omega)
  have HB3 := Lib.hid (HB2.out.trans (hb3.mono HB2.out.size))
  have HL3 := Lib.hid (HR2.out.below hb3)
  have HCM := Lib.hid (HMIG.out _ w3 hr3)
  clear hb3 hr3
  go_wp2_with fail
  refine HCM.out.mono ?_
  rintro e w4 ⟨v4, rfl, hr4, hB4⟩
  have HR4 := Lib.hid hr4
  have HL4 := Lib.hid (HL3.out.below hB4)
  have HB4 := Lib.hid (HB3.out.trans (hB4.mono HB3.out.size))
  obtain ⟨ao, cap, rfl⟩ := HR2.out.shape
  clear hr4 hB4 HCM
  dsimp only [List.length_cons, List.length_nil] at *
  go_wp2_with fail
  refine (same_any _ _ _ _ w4 HL4.out HR4.out).mono ?_
  rintro e w5 ⟨rfl, n5, rfl⟩
  rw [show (([2, 0, 0] : List UInt8) == [2, 0, 0]) = true from rfl]
  have hb5 := drawn w4 n5
  have HB5 := Lib.hid (HB4.out.trans (hb5.mono HB4.out.size))
  clear hb5
  go_wp2
  go_ret
  exact truly_of HB5.out

end Go.Proofs.YtammfmmpldahhaaGreat


namespace Go.Proofs.YtammfmmpldahhaaGreat
open Go.RowKit

namespace Sn
abbrev big2 : Lim := ⟨9223372036854775807, 9223372036854775807, 9223372036854775807⟩
/-- What is read: the state, the error. -/
def rd2 (b : List UInt8) : Mg.St × Int :=
  if (rnm 2 b 0 0).2.2 ≠ 0 then (Mg.zero, (rnm 2 b 0 0).2.2)
  else if (rnm 2 b 0 0).1 ≠ 2 then (Mg.zero, 3)
  else (⟨2, (read 2 big2 b (rnm 2 b 0 0).2.1.toNat 0).1.1, (read 2 big2 b (rnm 2 b 0 0).2.1.toNat 0).1.2⟩,
    Pk.done b (read 2 big2 b (rnm 2 b 0 0).2.1.toNat 0).2.1 (read 2 big2 b (rnm 2 b 0 0).2.1.toNat 0).2.2)
theorem rd2_ok {b : List UInt8} (h : (rd2 b).2 = 0) : (rd2 b).1.schema = 2 ∧ bytes (rd2 b).1 = b := by
  obtain ⟨n, q, e, hn, _, h0, _, hq, ht⟩ := rnm_res 2 b 0 0 (by omega)
  unfold rd2 at h ⊢
  rw [hn] at h ⊢
  dsimp only at h ⊢
  split at h
  · rename_i hc
    exact absurd h hc
  · rename_i he
    rw [if_neg he]
    split at h
    · cases h
    · rename_i hc
      rw [if_neg hc]
      have hn1 : n = 2 := Decidable.byContradiction hc
      have he0 : e = 0 := Decidable.byContradiction he
      subst hn1
      subst he0
      simp only [Int.toNat_natCast] at h ⊢
      have hle := read_le 2 big2 b q 0 hq
      unfold Pk.done at h
      by_cases he : (read 2 big2 b q 0).2.2 = 0
      · rw [if_neg (by simpa using he)] at h
        have hlen : (read 2 big2 b q 0).2.1 = b.length := by
          by_cases hlt : (read 2 big2 b q 0).2.1 < b.length
          · rw [if_pos hlt] at h; omega
          · omega
        refine ⟨by trivial, ?_⟩
        exact whole_ok hq (by simpa using (ht rfl).2) he hlen
      · rw [if_pos (by simpa using he)] at h
        exact absurd h he
theorem rd2_back {y : Mg.St} (h : Mg.check y = true) (h1 : y.schema = 2) : rd2 (bytes y) = (y, 0) := by
  obtain ⟨hmid, _, _⟩ := mid_of h
  obtain ⟨a1, a2, a3, a4⟩ := ok_of (m := big2) (by show (4294967296 : Int) ≤ 9223372036854775807; omega) h (fun e he => by have := hmid.kv e he; exact ⟨⟨by omega, by show (_ : Int) ≤ 9223372036854775807; omega⟩, by omega, by show (_ : Int) ≤ 9223372036854775807; omega⟩) (fun e he => by have := hmid.ses e he; omega)
  have hr := read_at y.schema big2 y.pairs y.sess a1 a2 a3 a4 (enc y.schema.toNat) []
  have hn := Pk.num_enc [] (body y.schema y.pairs y.sess) (N := y.schema.toNat) (most := 2) (by omega) (by omega)
  simp only [List.nil_append, List.length_nil, Nat.zero_add] at hn
  have hb : bytes y = enc y.schema.toNat ++ body y.schema y.pairs y.sess := rfl
  rw [List.append_nil, ← hb] at hr
  rw [← hb] at hn
  have hrn : rnm 2 (bytes y) 0 0 = (y.schema, (((enc y.schema.toNat).length : Nat) : Int), 0) := by
    unfold rnm
    rw [if_pos rfl, hn, Int.toNat_of_nonneg (by omega)]
  unfold rd2
  rw [hrn]
  dsimp only
  rw [if_neg (by simp), if_neg (by simpa using h1)]
  simp only [Int.toNat_natCast]
  rw [h1] at hr ⊢
  rw [hr]
  dsimp only
  unfold Pk.done
  rw [if_neg (by simp), if_neg (by omega)]
  obtain ⟨v, l, m⟩ := y
  dsimp only at h1
  subst h1
  rfl
/-- What Decode of schema 2 gives. -/
def dec2 (b : List UInt8) : Mg.St × Int := if (rd2 b).2 ≠ 0 then (Mg.zero, (rd2 b).2) else if Mg.check (rd2 b).1 = false then (Mg.zero, 3) else ((rd2 b).1, 0)
theorem dec2_no {b : List UInt8} (h : (rd2 b).2 ≠ 0) : dec2 b = (Mg.zero, (rd2 b).2) := if_pos h
theorem dec2_form {b : List UInt8} (h : (rd2 b).2 = 0) (hc : Mg.check (rd2 b).1 = false) : dec2 b = (Mg.zero, 3) := by
  unfold dec2
  rw [if_neg (by simpa using h), if_pos hc]
theorem dec2_yes {b : List UInt8} (h : (rd2 b).2 = 0) (hc : Mg.check (rd2 b).1 = true) : dec2 b = ((rd2 b).1, 0) := by
  unfold dec2
  rw [if_neg (by simpa using h), if_neg (by rw [hc]; decide)]
theorem dec2_is (b : List UInt8) : Dec2Ok b (dec2 b).1 (dec2 b).2 := by
  by_cases h : (rd2 b).2 = 0
  · cases hc : Mg.check (rd2 b).1 with
    | true =>
      rw [dec2_yes h hc]
      refine ⟨fun h0 => absurd rfl h0, fun _ => ⟨hc, (rd2_ok h).1, (rd2_ok h).2⟩, fun y h1 h2 h3 => ?_⟩
      have := rd2_back h1 h2
      rw [h3] at this
      exact ⟨rfl, by rw [this]⟩
    | false =>
      rw [dec2_form h hc]
      refine ⟨fun _ => rfl, fun h0 => (by cases h0), fun y h1 h2 h3 => ?_⟩
      have := rd2_back h1 h2
      rw [h3] at this
      rw [this] at hc
      rw [h1] at hc
      cases hc
  · rw [dec2_no h]
    refine ⟨fun _ => rfl, fun h0 => absurd h0 h, fun y h1 h2 h3 => ?_⟩
    have := rd2_back h1 h2
    rw [h3] at this
    rw [this] at h
    exact absurd rfl h
end Sn
/-- .. left by a call. -/
def IsSo (w : World) (b : List UInt8) (e : Ending) (w' : World) : Prop := ∃ vp vs, e = .returned (.tuple #[.agg (Mg.cells (Sn.dec2 b).1.schema vp vs), .int .i64 (Sn.dec2 b).2]) ∧ StR w' (Sn.dec2 b).1 vp vs ∧ Below w.heap.size w w'
theorem IsSo.dec {w : World} {b : List UInt8} (e : Ending) (w' : World) (h : IsSo w b e w') : DecSo w b e w' := by
  obtain ⟨vp, vs, h1, h2, h3⟩ := h
  exact ⟨_, _, vp, vs, h1, h2, h3, Sn.dec2_is b⟩

end Go.Proofs.YtammfmmpldahhaaGreat
