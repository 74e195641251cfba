/- What Get may tell, as plain facts. No program is spoken of. -/
import Derived.Test.YtpdblmicgpgiaaaGet
namespace Go.Proofs.Ytpdblmicgpgiaaa

/-- What is read from the front is the very encoding of the number. -/
theorem getv_canon : ∀ (l : List UInt8) (k acc n c : Nat), getv k acc l = (n, c, 0) → ∃ m, n = acc + m * 128 ^ k ∧ c = k + (enc m).length ∧ l.take (enc m).length = enc m ∧ (0 < k → 0 < m) := by
  intro l
  induction l with
  | nil => intro k acc n c h; simp [getv] at h
  | cons b r ih =>
    intro k acc n c h
    have hb := b.toNat_lt
    unfold getv at h
    split at h
    · simp at h
    · rename_i h1
      split at h
      · rename_i h2
        simp only [Prod.mk.injEq] at h
        refine ⟨b.toNat, h.1.symm, ?_, ?_, by omega⟩
        · rw [enc_lt h2]; simp; omega
        · rw [enc_lt h2]; simp
      · rename_i h2
        obtain ⟨m, e1, e2, e3, e4⟩ := ih _ _ _ _ h
        have hm := e4 (by omega)
        refine ⟨b.toNat - 128 + 128 * m, ?_, ?_, ?_, by omega⟩
        · rw [e1, Nat.pow_succ, Nat.add_mul, Nat.mul_comm 128 m, Nat.mul_assoc m 128, Nat.mul_comm 128 (128 ^ k)]; omega
        · rw [enc_ge (by omega), show (b.toNat - 128 + 128 * m) / 128 = m by omega, e2]; simp; omega
        · rw [enc_ge (by omega), show (b.toNat - 128 + 128 * m) / 128 = m by omega]
          simp only [List.length_cons, List.take_succ_cons, e3, List.cons.injEq, and_true]
          apply UInt8.toNat_inj.1
          rw [high]; omega

/-- What Get may tell. -/
theorem getp_cases (l : List UInt8) (pl : Int) :
    (∃ e : Int, e ≠ 0 ∧ getp l pl = (0, 0, e)) ∨
    (∃ p n c : Nat, pl = (p : Int) ∧ p + c ≤ l.length ∧ 0 < c ∧ n ≤ 9223372036854775807 ∧ getp l pl = ((n : Int), ((p + c : Nat) : Int), 0) ∧ (l.drop p).take c = enc n) := by
  unfold getp
  by_cases h : pl < 0 ∨ (l.length : Int) < pl
  · rw [if_pos h]; exact .inl ⟨6, by omega, rfl⟩
  · rw [if_neg h]
    obtain ⟨p, rfl⟩ := Int.eq_ofNat_of_zero_le (show 0 ≤ pl by omega)
    have hp : p ≤ l.length := by omega
    simp only [Int.toNat_natCast]
    obtain ⟨r, hr⟩ : ∃ r, r = getv 0 0 (l.drop p) := ⟨_, rfl⟩
    rw [← hr]
    by_cases h0 : r.2.2 = 0
    · right
      rw [if_pos h0]
      obtain ⟨n, c, e⟩ := r
      simp only at h0
      subst h0
      obtain ⟨m, e1, e2, e3, _⟩ := getv_canon _ _ _ _ _ hr.symm
      have hb := getv_bound (l.drop p) 0 0 (by simp) (by omega)
      have hk := getv_count (l.drop p) 0 0
      rw [← hr] at hb hk
      simp at e1 e2
      subst e1
      have := enc_pos n
      refine ⟨p, n, c, rfl, ?_, by omega, by simp at hb; omega, by simp, by rw [e2]; exact e3⟩
      simp at hk; omega
    · rw [if_neg h0]
      exact .inl ⟨_, by omega, rfl⟩

end Go.Proofs.Ytpdblmicgpgiaaa
