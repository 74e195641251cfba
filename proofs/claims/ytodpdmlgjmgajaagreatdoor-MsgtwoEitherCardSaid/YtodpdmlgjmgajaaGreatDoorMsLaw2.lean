/- MsgoneEncodes, MsgoneDecodes. -/
import Derived.Test.YtodpdmlgjmgajaaGreatDoorGMg
import Derived.Test.YtodpdmlgjmgajaaGreatDoorMsRefB
import Derived.Test.YtodpdmlgjmgajaaGreatDoorMsRefD
import Derived.Test.YtodpdmlgjmgajaaGreatDoorMsAwake
namespace Go.Proofs.YtodpdmlgjmgajaaGreatDoor
open Go.RowKit

/-- What is not large. -/
theorem Ms.small2 {m : Ms.Msg} (h : Ms.large m = false) : m.ents.length ≤ 40 ∧ m.img.length ≤ 32780 ∧ ∀ e ∈ m.ents, e.cmd.Short 200 := by
  unfold Ms.large at h
  rw [Bool.or_eq_false_iff, Bool.or_eq_false_iff] at h
  obtain ⟨h1, h2⟩ := En.small h.1
  have h3 := of_decide_eq_false h.2.2
  exact ⟨h1, by omega, h2⟩
/-- The kinds of the commands of a valid message. -/
theorem Ms.ent_kinds {m : Ms.Msg} (h : Ms.check m = 0) : ∀ e ∈ m.ents, 1 ≤ e.cmd.kind ∧ e.cmd.kind ≤ 8 := fun e he => by
  have h1 := (Cm.check_ok (Ms.ents_ok _ _ (Ms.check_good h).ents e he).2).1
  unfold Cm.known at h1
  simpa using h1
/-- Its bytes are not many. -/
theorem Ms.bytes_len {m : Ms.Msg} (hf : m.Fits) (hs : ∀ e ∈ m.ents, e.cmd.Short 200) (hn : m.ents.length ≤ 40) (hk : m.img.length ≤ 32780) : (Ms.bytes m).length ≤ 100000 := by
  have h1 := Ms.nbytes_len (Ms.nums m) fun x hx => (hf.n x hx).2
  have h7 : (Ms.nums m).length = 7 := rfl
  have h2 := enc_nine (n := m.ents.length) (by omega)
  have h3 := enc_nine (n := m.img.length) (by omega)
  have he : ∀ e ∈ m.ents, (En.ebytes 1 e).length ≤ 1000 := fun e h => by
    have hfe := hf.e e h
    have hse := hs e h
    have a1 := enc_nine (n := e.index.toNat) (by have := hfe.i1; omega)
    have a2 := enc_nine (n := e.bal.round.toNat) (by have := hfe.bal.r1; omega)
    have a3 := enc_nine (n := e.bal.node.toNat) (by have := hfe.bal.n1; omega)
    have a4 := enc_nine (n := e.cmd.kind.toNat) (by have := hfe.cmd.k1; omega)
    have a5 := enc_nine (n := e.cmd.client.toNat) (by have := hfe.cmd.c1; omega)
    have a6 := enc_nine (n := e.cmd.seq.toNat) (by have := hfe.cmd.q1; omega)
    have a7 := enc_nine (n := e.cmd.node.toNat) (by have := hfe.cmd.n1; omega)
    have a8 := enc_nine (n := e.cmd.key.length) (by have := hse.1; omega)
    have a9 := enc_nine (n := e.cmd.val.length) (by have := hse.2.2; omega)
    have c1 := hse.1
    have c2 := hse.2.2
    unfold En.ebytes
    rw [show Cm.bytes 1 e.cmd = enc e.cmd.kind.toNat ++ (enc e.cmd.client.toNat ++ (enc e.cmd.seq.toNat ++ (Pk.text e.cmd.key ++ (Pk.text e.cmd.val ++ enc e.cmd.node.toNat)))) by simp [Cm.bytes, Cm.encoded, Cm.fenc, Cm.F.num, Cm.Cmd.n, Cm.Cmd.s]]
    unfold Pk.text
    simp only [List.length_append]
    omega
  have hfl : ∀ l : List En.Ent, (∀ e ∈ l, (En.ebytes 1 e).length ≤ 1000) → (l.flatMap (En.ebytes 1)).length ≤ 1000 * l.length := by
    intro l
    induction l with
    | nil => intro _; simp
    | cons a r ih =>
      intro h
      have q1 := h a (by simp)
      have q2 := ih fun e he => h e (by simp [he])
      rw [List.flatMap_cons, List.length_append, List.length_cons]
      omega
  have h4 := hfl m.ents he
  unfold Ms.bytes En.bytes Pk.text
  simp only [List.length_append]
  omega
/-- The texts of a valid command are short. -/
theorem Cm.check_short {c : Cm.Cmd} (h : Cm.check c = 0) : c.Short 48 := by
  obtain ⟨hk, ha⟩ := Cm.check_ok h
  unfold Cm.check at h
  rw [hk, if_neg (by simp)] at h
  by_cases h6 : (Cm.fields c.kind).all (Cm.within c) = false
  · rw [if_pos h6] at h; omega
  rw [if_neg h6] at h
  by_cases h7 : (Cm.fields c.kind).all (Cm.spelt c) = false
  · rw [if_pos h7] at h; omega
  have hw : (Cm.fields c.kind).all (Cm.spelt c) = true := by simpa using h7
  have h' := of_decide_eq_true ha
  have hkey : ∀ s : List UInt8, Rn.key ⟨s.toArray⟩ = true → s.length ≤ 48 := fun s hs => by
    unfold Rn.key at hs
    simp only [Bool.and_eq_true, decide_eq_true_eq] at hs
    have := hs.1.2
    rw [str_size] at this
    omega
  have hval : ∀ s : List UInt8, Rn.val ⟨s.toArray⟩ = true → s.length ≤ 48 := fun s hs => by
    unfold Rn.val at hs
    simp only [Bool.and_eq_true, decide_eq_true_eq] at hs
    have := hs.1.1
    rwa [str_size] at this
  clear h ha h6 h7
  obtain ⟨k, cl, sq, nd, ky, od, vl⟩ := c
  dsimp only at hk hw h'
  rcases Vs.kinds k with rfl | rfl | rfl | rfl | rfl | rfl | rfl | rfl | h
  rotate_right
  · simp [Cm.known] at hk; omega
  all_goals
    simp [Cm.fields, Cm.wipe, Cm.F.num, Cm.Cmd.setN, Cm.Cmd.setS, Cm.bareOf] at h'
    simp [Cm.fields, Cm.spelt, Cm.F.num, Cm.okS, Cm.Cmd.s] at hw
    refine ⟨?_, ?_, ?_⟩ <;> dsimp only <;> first | (rw [h'.1]; simp; done) | (rw [h'.2]; simp; done) | (rw [h'.2.1]; simp; done) | (rw [h'.2.2]; simp; done) | exact hkey _ hw | exact hkey _ hw.1 | exact hkey _ hw.2 | exact hval _ hw.2 | exact hval _ hw.1 | exact hval _ hw.2.1 | exact hval _ hw.2.2 | grind
theorem Short.up {c : Cm.Cmd} {a b : Nat} (h : c.Short a) (hab : a ≤ b) : c.Short b := ⟨Nat.le_trans h.1 hab, Nat.le_trans h.2.1 hab, Nat.le_trans h.2.2 hab⟩

end Go.Proofs.YtodpdmlgjmgajaaGreatDoor
