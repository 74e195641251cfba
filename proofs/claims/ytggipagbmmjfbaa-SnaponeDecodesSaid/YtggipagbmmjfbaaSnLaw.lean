/- What Encode and Decode of snapshots in schema 1 leave; the laws of stage 26 out of that. -/
import Derived.Test.YtggipagbmmjfbaaSnRef
import Derived.Test.YtggipagbmmjfbaaGSx
import Derived.Test.YtggipagbmmjfbaaGSy
namespace Go.Proofs.Ytggipagbmmjfbaa
open Go.RowKit

theorem Kv.valid_len {p : Kv.Item} (h : Kv.valid p = true) : p.key.length ≤ 24 ∧ p.val.length ≤ 48 ∧ p.rev = 0 := by
  unfold Kv.valid Rn.key Rn.val at h
  simp only [Bool.and_eq_true, decide_eq_true_eq, beq_iff_eq, str_size] at h
  exact ⟨h.1.1.2, h.2.1.1.1, h.2.2⟩
theorem Kv.valid2_len {p : Kv.Item} (h : Kv.valid2 p = true) : p.key.length ≤ 24 ∧ p.val.length ≤ 48 ∧ 1 ≤ p.rev ∧ p.rev ≤ 4294967296 := by
  unfold Kv.valid2 Kv.inRev Rn.key Rn.val at h
  simp only [Bool.and_eq_true, decide_eq_true_eq, str_size] at h
  exact ⟨h.1.1.2, h.2.1.1.1, h.2.2.1, h.2.2.2⟩
theorem An.check_len {a : An.Ans} (h : An.check a = 0) : a.val.length ≤ 48 := by
  unfold An.check at h
  split at h
  · cases h
  · split at h
    · cases h
    · rename_i hv
      have hv' : Rn.val ⟨a.val.toArray⟩ = true := by simpa using hv
      unfold Rn.val at hv'
      simp only [Bool.and_eq_true, decide_eq_true_eq, str_size] at hv'
      exact hv'.1.1
/-- A state that may be is small. -/
theorem Sn.mid_of {s : Mg.St} (h : Mg.check s = true) : s.Mid ∧ s.Few ∧ s.Came := by
  have hsch := Mg.schema_of h
  unfold Mg.check at h
  rw [Bool.and_eq_true] at h
  obtain ⟨hp, hs⟩ := h
  have hP : (∀ p ∈ s.pairs, (p.key.length ≤ 24 ∧ p.val.length ≤ 48) ∧ 0 ≤ p.rev ∧ p.rev ≤ 4294967296) ∧ s.pairs.length ≤ 64 := by
    unfold Mg.pairsOk at hp
    rcases hsch with h1 | h2
    · rw [if_pos h1] at hp
      unfold Kv.refCheck at hp
      split at hp
      · rename_i ha
        rw [Bool.and_eq_true, decide_eq_true_eq] at hp
        refine ⟨fun p hm => ?_, hp.1⟩
        have := Kv.valid_len (List.all_eq_true.1 ha p hm)
        omega
      · cases hp
    · rw [if_neg (by omega), if_pos h2] at hp
      unfold Kv.refCheck2 at hp
      split at hp
      · rename_i ha
        rw [Bool.and_eq_true, decide_eq_true_eq] at hp
        refine ⟨fun p hm => ?_, hp.1⟩
        have := Kv.valid2_len (List.all_eq_true.1 ha p hm)
        omega
      · cases hp
  have hS1 : Se.refCheck s.sess = true := by
    unfold Mg.sessOk at hs
    split at hs
    · cases hs
    · exact hs
  unfold Se.refCheck at hS1
  split at hS1
  · rename_i ha
    have hall : ∀ x ∈ s.sess, x.last.client = x.client ∧ An.check x.last = 0 := fun x hx => by
      have := List.all_eq_true.1 ha x hx
      unfold Se.valid at this
      simp only [Bool.and_eq_true, beq_iff_eq] at this
      exact ⟨this.1, this.2.2⟩
    have h8 : s.sess.length ≤ 8 := by
      have hasc : Se.Asc s.sess := of_decide_eq_true hS1
      have := Sn.clients_few s.sess 0 (fun x hx => by
        obtain ⟨e1, e3⟩ := hall x hx
        have := An.check_num e3
        omega) hasc
      omega
    have hv : ∀ x ∈ s.sess, x.last.val.length ≤ 48 := fun x hx => An.check_len (hall x hx).2
    exact ⟨⟨by omega, fun p hp => by have := hP.1 p hp; omega, fun x hx => ⟨An.check_fits (hall x hx).2, by have := hv x hx; omega⟩, by have := hP.2; omega, by omega⟩,
      ⟨by have := hP.2; omega, fun p hp => by have := hP.1 p hp; omega, fun x hx => by have := hv x hx; omega, by omega⟩,
      ⟨fun p hp => by have := hP.1 p hp; omega, fun x hx => by have := hv x hx; omega⟩⟩
  · cases hS1

/-- What Encode gives of a state: its bytes, the error. -/
def Sn.enc1 (s : Mg.St) : List UInt8 × Int := if Mg.check s = false then ([], 3) else if s.schema = 1 then (Sn.bytes s, 0) else ([], 8)
theorem Sn.enc1_no {s : Mg.St} (h : Mg.check s = false) : Sn.enc1 s = ([], 3) := if_pos h
theorem Sn.enc1_yes {s : Mg.St} (h : Mg.check s = true) (h1 : s.schema = 1) : Sn.enc1 s = (Sn.bytes s, 0) := by
  unfold Sn.enc1
  rw [if_neg (by rw [h]; decide), if_pos h1]
theorem Sn.enc1_late {s : Mg.St} (h : Mg.check s = true) (h1 : s.schema ≠ 1) : Sn.enc1 s = ([], 8) := by
  unfold Sn.enc1
  rw [if_neg (by rw [h]; decide), if_neg h1]
def EncSn (w : World) (s : Mg.St) (e : Ending) (w' : World) : Prop := ∃ v, e = .returned (.tuple #[v, .int .i64 (Sn.enc1 s).2]) ∧ Reads w' v (Sn.enc1 s).1 ∧ Below w.heap.size w w'
/-- What Decode gives of bytes. -/
structure Sn.DecOk (b : List UInt8) (x : Mg.St) (e : Int) : Prop where
  no : e ≠ 0 → x = Mg.zero
  ok : e = 0 → Mg.check x = true ∧ x.schema = 1 ∧ Sn.bytes x = b
  back : ∀ y, Mg.check y = true → y.schema = 1 → Sn.bytes y = b → e = 0 ∧ x = y
def DecSn (w : World) (b : List UInt8) (e : Ending) (w' : World) : Prop := ∃ x er vp vs, e = .returned (.tuple #[.agg (Mg.cells x.schema vp vs), .int .i64 er]) ∧ StR w' x vp vs ∧ Below w.heap.size w w' ∧ Sn.DecOk b x er

theorem Sn.empty_bytes : Sn.enc1 ⟨1, [], []⟩ = ([1, 0, 0], 0) := by decide +kernel

set_option maxRecDepth 4000 in
set_option maxHeartbeats 1600000 in
theorem awakeSn_any (hE : ∀ (s : Mg.St) (vp vs : Value) (w : World), StR w s vp vs → s.Few → Calls Try.prog 7 #[.agg (Mg.cells s.schema vp vs)] w (EncSn w s)) (w : World) : Calls Try.prog 6 #[] w (Truly w) := by
  have hcall := hE ⟨1, [], []⟩ (.slice none 0 0) (.slice none 0 0) w ⟨ReadsR.empty w 3, ReadsR.empty w 8⟩ ⟨by simp, by simp, by simp, by simp⟩
  unfold EncSn at hcall
  rw [Sn.empty_bytes] at hcall
  clear hE
  go_enter Try.func6, Try.ntmps6
  go_wp2_with fail
  refine hcall.mono ?_
  rintro e w2 ⟨v2, rfl, hr2, hB2⟩
  have HB2 := Lib.hid hB2
  obtain ⟨ao, cap, rfl⟩ := hr2.shape
  obtain ⟨b, off, rfl, hc⟩ := hr2.place (by simp)
  have c0 : w2.cell? ⟨b, off, none⟩ = some (.int .u8 1) := by simpa using hc 0 1 rfl
  rw [show ([1, 0, 0] : List UInt8).length = 3 from rfl] at *
  clear hcall hr2 hB2 hc
  go_wp2
  go_ret
  exact truly_of HB2.out

end Go.Proofs.Ytggipagbmmjfbaa
