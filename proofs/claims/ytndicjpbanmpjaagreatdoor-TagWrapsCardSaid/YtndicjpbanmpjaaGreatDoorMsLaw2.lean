/- MsgoneEncodes, MsgoneDecodes. -/
import Derived.Test.YtndicjpbanmpjaaGreatDoorGMg
import Derived.Test.YtndicjpbanmpjaaGreatDoorMsRefB
import Derived.Test.YtndicjpbanmpjaaGreatDoorMsRefD
import Derived.Test.YtndicjpbanmpjaaGreatDoorGMp
namespace Go.Proofs.YtndicjpbanmpjaaGreatDoor
open Go.RowKit

/-- What is not large. -/
theorem Ms.small2 {m : Ms.Msg} (h : Ms.large m = false) : m.ents.length ≤ 40 ∧ m.img.length ≤ 32780 ∧ ∀ e ∈ m.ents, e.cmd.Short 200 := by
  unfold Ms.large at h
  rw [Bool.or_eq_false_iff, Bool.or_eq_false_iff] at h
  obtain ⟨h1, h2⟩ := En.small h.1
  have h3 := of_decide_eq_false h.2.2
  exact ⟨h1, by omega, h2⟩
/-- Its bytes are not many. -/
theorem Ms.bytes_len {m : Ms.Msg} (hf : m.Fits) (hs : ∀ e ∈ m.ents, e.cmd.Short 200) (hn : m.ents.length ≤ 40) (hk : m.img.length ≤ 32780) : (Ms.bytes m).length ≤ 100000 := by
  have h1 := Ms.nbytes_len (Ms.nums m) fun x hx => (hf.n x hx).2
  have h7 : (Ms.nums m).length = 7 := rfl
  have h2 := enc_nine (n := m.ents.length) (by omega)
  have h3 := enc_nine (n := m.img.length) (by omega)
  have he : ∀ e ∈ m.ents, (En.ebytes 1 e).length ≤ 1000 := fun e h => by
    have hfe := hf.e e h
    have hse := hs e h
    have a1 := enc_nine (n := e.index.toNat) (by have := hfe.i1; omega)
    have a2 := enc_nine (n := e.bal.round.toNat) (by have := hfe.bal.r1; omega)
    have a3 := enc_nine (n := e.bal.node.toNat) (by have := hfe.bal.n1; omega)
    have a4 := enc_nine (n := e.cmd.kind.toNat) (by have := hfe.cmd.k1; omega)
    have a5 := enc_nine (n := e.cmd.client.toNat) (by have := hfe.cmd.c1; omega)
    have a6 := enc_nine (n := e.cmd.seq.toNat) (by have := hfe.cmd.q1; omega)
    have a7 := enc_nine (n := e.cmd.node.toNat) (by have := hfe.cmd.n1; omega)
    have a8 := enc_nine (n := e.cmd.key.length) (by have := hse.1; omega)
    have a9 := enc_nine (n := e.cmd.val.length) (by have := hse.2.2; omega)
    have c1 := hse.1
    have c2 := hse.2.2
    unfold En.ebytes
    rw [show Cm.bytes 1 e.cmd = enc e.cmd.kind.toNat ++ (enc e.cmd.client.toNat ++ (enc e.cmd.seq.toNat ++ (Pk.text e.cmd.key ++ (Pk.text e.cmd.val ++ enc e.cmd.node.toNat)))) by simp [Cm.bytes, Cm.encoded, Cm.fenc, Cm.F.num, Cm.Cmd.n, Cm.Cmd.s]]
    unfold Pk.text
    simp only [List.length_append]
    omega
  have hfl : ∀ l : List En.Ent, (∀ e ∈ l, (En.ebytes 1 e).length ≤ 1000) → (l.flatMap (En.ebytes 1)).length ≤ 1000 * l.length := by
    intro l
    induction l with
    | nil => intro _; simp
    | cons a r ih =>
      intro h
      have q1 := h a (by simp)
      have q2 := ih fun e he => h e (by simp [he])
      rw [List.flatMap_cons, List.length_append, List.length_cons]
      omega
  have h4 := hfl m.ents he
  unfold Ms.bytes En.bytes Pk.text
  simp only [List.length_append]
  omega

end Go.Proofs.YtndicjpbanmpjaaGreatDoor
