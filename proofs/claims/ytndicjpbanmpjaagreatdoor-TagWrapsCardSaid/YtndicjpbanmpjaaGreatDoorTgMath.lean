/- Letters, plain: what is wrong with one, its bytes, how it is opened, turned into the other version. No program is spoken of. -/
import Derived.Test.YtndicjpbanmpjaaGreatDoorGMt
import Derived.Test.YtndicjpbanmpjaaGreatDoorGFr
namespace Go.Proofs.YtndicjpbanmpjaaGreatDoor

/-- Bytes that are one whole frame. -/
theorem Frm.next_inv {l y : List UInt8} {e : Int} (h : Frm.next l 0 = (y, e, 0)) (he : ¬ e < (l.length : Int)) : l = Frm.frame y ∧ 0 < y.length ∧ y.length ≤ 65536 := by
  obtain ⟨c0, hc0, _, hc2, h0, h1⟩ := Frm.next_ok (a := 0) h
  refine ⟨?_, h0, h1⟩
  rcases Frm.next_cases l 0 with ⟨e', he', _, hn⟩ | ⟨p, n, c, hp, hpl, _, _, _, henc, hcase⟩
  · rw [hn] at h
    simp only [Prod.mk.injEq] at h
    exact absurd h.2.2 he'
  · obtain rfl : p = 0 := by omega
    rcases hcase with ⟨_, hn⟩ | ⟨_, hn⟩ | ⟨hn0, hn1, ⟨_, hn⟩ | ⟨hlen, ⟨htail, hn⟩ | ⟨_, hn⟩⟩⟩
    · rw [hn] at h; simp at h
    · rw [hn] at h; simp at h
    · rw [hn] at h; simp at h
    · rw [hn] at h
      simp only [Prod.mk.injEq, and_true] at h
      obtain ⟨rfl, rfl⟩ := h
      simp only [Nat.zero_add, List.drop_zero] at henc hlen htail he ⊢
      have hlen2 : l.length = c + n + 4 := by omega
      have hy : ((l.drop c).take n).length = n := by rw [List.length_take, List.length_drop]; omega
      unfold Frm.frame
      rw [hy, ← htail, ← henc]
      have e1 : (l.drop (c + n)).take 4 = l.drop (c + n) := List.take_of_length_le (by rw [List.length_drop]; omega)
      rw [e1, List.append_assoc]
      conv => lhs; rw [← List.take_append_drop c l]
      congr 1
      rw [← List.drop_drop, List.take_append_drop]
    · rw [hn] at h; simp at h

/-- The bytes of a valid command are few. -/
theorem Cm.bytes_few (v : Int) (c : Cm.Cmd) (hf : c.Fits) (hs : c.Short 48) : (Cm.bytes v c).length ≤ 198 := by
  have a4 := enc_nine (n := c.kind.toNat) (by have := hf.k1; omega)
  have a5 := enc_nine (n := c.client.toNat) (by have := hf.c1; omega)
  have a6 := enc_nine (n := c.seq.toNat) (by have := hf.q1; omega)
  have a7 := enc_nine (n := c.node.toNat) (by have := hf.n1; omega)
  have a8 := enc_nine (n := c.key.length) (by have := hs.1; omega)
  have a9 := enc_nine (n := c.val.length) (by have := hs.2.2; omega)
  have a10 := enc_nine (n := c.old.length) (by have := hs.2.1; omega)
  have c1 := hs.1
  have c2 := hs.2.1
  have c3 := hs.2.2
  have h : ((Cm.encoded v c.kind).flatMap (Cm.fenc c)).length ≤ 189 := by
    unfold Cm.encoded
    by_cases h1 : v = 1
    · rw [if_pos h1]
      simp [Cm.fenc, Cm.F.num, Cm.Cmd.n, Cm.Cmd.s, Pk.text]
      omega
    · rw [if_neg h1]
      rcases Vs.kinds c.kind with q | q | q | q | q | q | q | q | q
      rotate_right
      · rw [Cm.fields_no (by omega) (by omega) (by omega) (by omega) (by omega) (by omega)]; simp
      all_goals
        rw [q]
        simp [Cm.fields, Cm.fenc, Cm.F.num, Cm.Cmd.n, Cm.Cmd.s, Pk.text] <;> omega
  unfold Cm.bytes
  rw [List.length_append]
  omega

namespace Tg
def check (v : Int) (m : Ms.Msg) : Int := if v = 1 then Ms.older m else if v = 2 then Ms.check m else 8
def bytes (v : Int) (m : Ms.Msg) : List UInt8 := if v = 1 then Ms.bytes m else Mt.bytes m
def body (v : Int) (m : Ms.Msg) : List UInt8 := UInt8.ofNat v.toNat :: bytes v m
def letter (v : Int) (m : Ms.Msg) : List UInt8 := Frm.frame (body v m)
def wrap (v : Int) (m : Ms.Msg) : List UInt8 × Int := if check v m ≠ 0 then ([], check v m) else (letter v m, 0)
def dec (v : Int) (b : List UInt8) : Ms.Msg × Int := if v = 1 then Ms.decode b else Mt.decode b
/-- What a letter's body tells a reader. -/
def read (r : Int) : List UInt8 → Ms.Msg × Int × Int
  | [] => (Ms.zero, 0, 8)
  | t :: c => if (t.toNat : Int) < 1 ∨ r < (t.toNat : Int) then (Ms.zero, 0, 8) else if (dec t.toNat c).2 ≠ 0 then (Ms.zero, 0, (dec t.toNat c).2) else ((dec t.toNat c).1, (t.toNat : Int), 0)
def opened (r : Int) (b : List UInt8) : Ms.Msg × Int × Int :=
  if Vs.may r = false then (Ms.zero, 0, 8)
  else if (Frm.next b 0).2.2 ≠ 0 then (Ms.zero, 0, (Frm.next b 0).2.2)
  else if (Frm.next b 0).2.1 < (b.length : Int) then (Ms.zero, 0, 3)
  else read r (Frm.next b 0).1
def translate (v : Int) (b : List UInt8) : List UInt8 × Int :=
  if Vs.may v = false then ([], 8) else if (opened 2 b).2.2 ≠ 0 then ([], (opened 2 b).2.2) else wrap v (opened 2 b).1

theorem read_cons (r : Int) (t : UInt8) (c : List UInt8) : read r (t :: c) = if (t.toNat : Int) < 1 ∨ r < (t.toNat : Int) then (Ms.zero, 0, 8) else if (dec t.toNat c).2 ≠ 0 then (Ms.zero, 0, (dec t.toNat c).2) else ((dec t.toNat c).1, (t.toNat : Int), 0) := rfl
theorem check_good {v : Int} {m : Ms.Msg} (h : check v m = 0) : (v = 1 ∨ v = 2) ∧ Ms.check m = 0 := by
  unfold check at h
  by_cases h1 : v = 1
  · rw [if_pos h1] at h
    exact ⟨.inl h1, (Ms.older_good h).1⟩
  · rw [if_neg h1] at h
    by_cases h2 : v = 2
    · rw [if_pos h2] at h; exact ⟨.inr h2, h⟩
    · rw [if_neg h2] at h; omega
/-- A letter's body fits into a frame. -/
theorem body_len {v : Int} {m : Ms.Msg} (h : check v m = 0) (hf : m.Fits) : 0 < (body v m).length ∧ (body v m).length ≤ 65536 := by
  obtain ⟨_, hc⟩ := check_good h
  have hg := Ms.check_good hc
  obtain ⟨hl, hl2⟩ := Ms.good_len hg
  have hsh : ∀ e ∈ m.ents, e.cmd.Short 48 := fun e he => Cm.check_short (Ms.ents_ok _ _ hg.ents e he).2
  have he1 : ∀ v, ∀ e ∈ m.ents, (En.ebytes v e).length ≤ 225 := fun v e he => by
    have hfe := hf.e e he
    have a1 := enc_nine (n := e.index.toNat) (by have := hfe.i1; omega)
    have a2 := enc_nine (n := e.bal.round.toNat) (by have := hfe.bal.r1; omega)
    have a3 := enc_nine (n := e.bal.node.toNat) (by have := hfe.bal.n1; omega)
    have a4 := Cm.bytes_few v e.cmd hfe.cmd (hsh e he)
    unfold En.ebytes
    simp only [List.length_append]
    omega
  have hfl : ∀ v, ∀ l : List En.Ent, (∀ e ∈ l, e ∈ m.ents) → (l.flatMap (En.ebytes v)).length ≤ 225 * l.length := by
    intro v l
    induction l with
    | nil => intro _; simp
    | cons a r ih =>
      intro h
      have q1 := he1 v a (h a (by simp))
      have q2 := ih fun e he => h e (by simp [he])
      rw [List.flatMap_cons, List.length_append, List.length_cons]
      omega
  have hone : (m.ents.flatMap Mt.one).length ≤ (m.ents.flatMap (En.ebytes 2)).length := by
    generalize m.ents = l
    induction l with
    | nil => simp
    | cons e r ih =>
      rw [List.flatMap_cons, List.flatMap_cons, List.length_append, List.length_append]
      unfold Mt.one En.ebytes at *
      simp only [List.length_append] at *
      omega
  have hent : ∀ v, (En.bytes v m.ents).length ≤ 9 + 225 * m.ents.length := fun v => by
    have q1 := enc_nine (n := m.ents.length) (by omega)
    have q2 := hfl v m.ents fun _ h => h
    unfold En.bytes
    rw [List.length_append]
    omega
  -- entries and an image are never together
  have hboth : 225 * m.ents.length + m.img.length ≤ 57600 := by
    by_cases hm : Ms.hm m.kind = true
    · have hk : m.kind = 11 := by unfold Ms.hm at hm; simpa using hm
      have he0 : m.ents = [] := by
        have := congrArg Ms.Msg.ents hg.own
        rw [← this]
        show (if Ms.he m.kind = true then _ else _) = _
        rw [hk]
        rfl
      rw [he0]
      simp only [List.length_nil]
      omega
    · have hi0 : m.img = [] := by
        have := congrArg Ms.Msg.img hg.own
        rw [← this]
        exact if_neg hm
      rw [hi0]
      simp only [List.length_nil]
      omega
  have himg := enc_nine (n := m.img.length) (by omega)
  have hb : (bytes v m).length ≤ 60000 := by
    unfold bytes
    by_cases h1 : v = 1
    · rw [if_pos h1]
      have n1 := Ms.nbytes_len (Ms.nums m) fun x hx => (hf.n x hx).2
      have h7 : (Ms.nums m).length = 7 := rfl
      have n2 := hent 1
      unfold Ms.bytes Pk.text
      simp only [List.length_append]
      omega
    · rw [if_neg h1]
      have p := Mt.part_le
      have n1 := Ms.nbytes_len [m.kind, m.frm, m.dst] fun x hx => by
        refine (hf.n x ?_).2
        simp [Ms.nums] at hx ⊢
        rcases hx with h | h | h <;> simp [h]
      have v3 := Mt.val_good hc 3 (by omega); have v4 := Mt.val_good hc 4 (by omega); have v5 := Mt.val_good hc 5 (by omega); have v6 := Mt.val_good hc 6 (by omega); have v7 := Mt.val_good hc 7 (by omega)
      have e3 : (enc m.bal.round.toNat).length ≤ 9 := enc_nine (by have : m.bal.round ≤ _ := v3.2; omega)
      have e4 : (enc m.bal.node.toNat).length ≤ 9 := enc_nine (by have : m.bal.node ≤ _ := v4.2; omega)
      have e5 : (enc m.index.toNat).length ≤ 9 := enc_nine (by have : m.index ≤ _ := v5.2; omega)
      have e6 : (enc m.commit.toNat).length ≤ 9 := enc_nine (by have : m.commit ≤ _ := v6.2; omega)
      have e7 : (enc m.version.toNat).length ≤ 9 := enc_nine (by have : m.version ≤ _ := v7.2; omega)
      have p1 := p (Ms.hb m.kind) (enc m.bal.round.toNat); have p2 := p (Ms.hb m.kind) (enc m.bal.node.toNat)
      have p3 := p (Ms.hi m.kind) (enc m.index.toNat); have p4 := p (Ms.hc m.kind) (enc m.commit.toNat); have p5 := p (Ms.hv m.kind) (enc m.version.toNat)
      have p6 := p (Ms.hm m.kind) (Pk.text m.img)
      have p7 : (Mt.ents m).length ≤ 9 + 225 * m.ents.length := by
        unfold Mt.ents
        split
        · have := hfl 2 m.ents fun _ h => h
          omega
        · exact Nat.le_trans (p _ _) (hent 2)
      unfold Pk.text at p6
      unfold Mt.bytes Pk.text
      simp only [List.length_append, List.length_cons, List.length_nil] at n1 p6 ⊢
      omega
  unfold body
  rw [List.length_cons]
  omega
theorem letter_len {v : Int} {m : Ms.Msg} (h : check v m = 0) (hf : m.Fits) : (letter v m).length ≤ 65600 := by
  have h1 := body_len h hf
  have h2 := enc_nine (n := (body v m).length) (by omega)
  unfold letter
  rw [Frm.frame_len]
  omega
theorem dec_back {v : Int} {m : Ms.Msg} (h : check v m = 0) (hf : m.Fits) : dec v (bytes v m) = (m, 0) := by
  obtain ⟨_, hc⟩ := check_good h
  have hsh : ∀ e ∈ m.ents, e.cmd.Short 48 := fun e he => Cm.check_short (Ms.ents_ok _ _ (Ms.check_good hc).ents e he).2
  unfold dec bytes
  by_cases h1 : v = 1
  · rw [if_pos h1, if_pos h1]
    unfold check at h
    rw [if_pos h1] at h
    exact Ms.decode_back h hf hsh (by omega)
  · rw [if_neg h1, if_neg h1]
    exact Mt.decode_back hc hf hsh (by omega)
theorem next_letter {v : Int} {m : Ms.Msg} (h : check v m = 0) (hf : m.Fits) : Frm.next (letter v m) 0 = (body v m, ((letter v m).length : Int), 0) := by
  obtain ⟨h0, h1⟩ := body_len h hf
  have := Frm.next_frame (l := letter v m) (post := []) (y := body v m) (a := 0) (by rw [List.drop_zero, List.append_nil]; rfl) (Nat.zero_le _) h0 h1
  rw [Nat.zero_add] at this
  exact this
/-- Who can open a letter. -/
theorem opened_letter {v : Int} {m : Ms.Msg} (h : check v m = 0) (hf : m.Fits) (r : Int) : opened r (letter v m) = if Vs.may r = false ∨ r < v then (Ms.zero, 0, 8) else (m, v, 0) := by
  have hv := (check_good h).1
  unfold opened
  by_cases h1 : Vs.may r = false
  · rw [if_pos h1, if_pos (.inl h1)]
  · rw [if_neg h1, next_letter h hf, if_neg (by simp), if_neg (by simp)]
    dsimp only
    unfold body
    rw [read_cons]
    have ht : ((UInt8.ofNat v.toNat).toNat : Int) = v := by rcases hv with rfl | rfl <;> rfl
    rw [ht]
    by_cases h2 : r < v
    · rw [if_pos (.inr h2), if_pos (.inr h2)]
    · have n1 : ¬ (v < 1 ∨ r < v) := by omega
      have n2 : ¬ (Vs.may r = false ∨ r < v) := fun h => h.elim h1 h2
      rw [if_neg n1, if_neg n2, dec_back h hf, if_neg (by simp)]
theorem read_none (r : Int) (x : List UInt8) (h : (read r x).2.2 ≠ 0) : (read r x).1 = Ms.zero ∧ (read r x).2.1 = 0 := by
  cases x with
  | nil => exact ⟨rfl, rfl⟩
  | cons t c =>
    rw [read_cons] at h ⊢
    by_cases h1 : (t.toNat : Int) < 1 ∨ r < (t.toNat : Int)
    · rw [if_pos h1]; exact ⟨rfl, rfl⟩
    · rw [if_neg h1] at h ⊢
      by_cases h2 : (dec t.toNat c).2 ≠ 0
      · rw [if_pos h2]; exact ⟨rfl, rfl⟩
      · rw [if_neg h2] at h; exact absurd rfl h
theorem opened_none (r : Int) (b : List UInt8) (h : (opened r b).2.2 ≠ 0) : (opened r b).1 = Ms.zero ∧ (opened r b).2.1 = 0 := by
  unfold opened at h ⊢
  by_cases h1 : Vs.may r = false
  · rw [if_pos h1]; exact ⟨rfl, rfl⟩
  · rw [if_neg h1] at h ⊢
    by_cases h2 : (Frm.next b 0).2.2 ≠ 0
    · rw [if_pos h2]; exact ⟨rfl, rfl⟩
    · rw [if_neg h2] at h ⊢
      by_cases h3 : (Frm.next b 0).2.1 < (b.length : Int)
      · rw [if_pos h3]; exact ⟨rfl, rfl⟩
      · rw [if_neg h3] at h ⊢
        exact read_none r _ h
/-- What was opened has just that letter. -/
theorem opened_ok (r : Int) (b : List UInt8) (h : (opened r b).2.2 = 0) : check (opened r b).2.1 (opened r b).1 = 0 ∧ letter (opened r b).2.1 (opened r b).1 = b ∧ 1 ≤ (opened r b).2.1 ∧ (opened r b).2.1 ≤ r := by
  unfold opened at h ⊢
  by_cases h1 : Vs.may r = false
  · rw [if_pos h1] at h; simp at h
  rw [if_neg h1] at h ⊢
  by_cases h2 : (Frm.next b 0).2.2 = 0
  · rw [if_neg (by simpa using h2)] at h ⊢
    by_cases h3 : (Frm.next b 0).2.1 < (b.length : Int)
    · rw [if_pos h3] at h; simp at h
    · rw [if_neg h3] at h ⊢
      rcases hn : Frm.next b 0 with ⟨y, e, z⟩
      rw [hn] at h h2 h3
      dsimp only at h h2 h3 ⊢
      subst h2
      obtain ⟨hb, _, _⟩ := Frm.next_inv hn h3
      have hr : r ≤ 2 := by
        rcases Vs.may_or r with ⟨_, q | q⟩ | ⟨q, _, _⟩
        · omega
        · omega
        · exact absurd q h1
      cases y with
      | nil => simp [read] at h
      | cons t c =>
        rw [read_cons] at h ⊢
        by_cases h4 : (t.toNat : Int) < 1 ∨ r < (t.toNat : Int)
        · rw [if_pos h4] at h; simp at h
        · rw [if_neg h4] at h ⊢
          by_cases h5 : (dec t.toNat c).2 = 0
          · rw [if_neg (by simpa using h5)] at h ⊢
            dsimp only
            have ht : UInt8.ofNat (t.toNat : Int).toNat = t := by simp
            have hv : (t.toNat : Int) = 1 ∨ (t.toNat : Int) = 2 := by omega
            generalize hvv : (t.toNat : Int) = v at *
            rcases hv with rfl | rfl
            · obtain ⟨d1, d2, d3⟩ := Ms.decode_ok c (by simpa [dec] using h5)
              have hd : dec 1 c = Ms.decode c := rfl
              rw [hd, d1]
              refine ⟨by simpa [check] using d2, ?_, by omega, by omega⟩
              rw [hb]
              unfold letter body
              rw [ht, show bytes 1 (Ms.get c).1 = Ms.bytes (Ms.get c).1 from rfl, d3]
            · obtain ⟨d1, d2, d3⟩ := Mt.decode_ok c (by simpa [dec] using h5)
              have hd : dec 2 c = Mt.decode c := rfl
              rw [hd, d1]
              refine ⟨by simpa [check] using d2, ?_, by omega, by omega⟩
              rw [hb]
              unfold letter body
              rw [ht, show bytes 2 (Mt.gotM c) = Mt.bytes (Mt.gotM c) from rfl, d3]
          · rw [if_pos h5] at h; exact absurd h h5
  · rw [if_pos h2] at h; exact absurd h h2
/-- What was opened is a message of the machine's numbers. -/
theorem dec_fits (v : Int) (b : List UInt8) (h : (dec v b).2 = 0) : (dec v b).1.Fits := by
  unfold dec at h ⊢
  split
  · rename_i h1
    rw [if_pos h1] at h
    rw [(Ms.decode_ok b h).1]
    exact (Ms.get_inv b).1
  · rename_i h1
    rw [if_neg h1] at h
    have hg := Mt.decode_got b
    rw [hg] at h ⊢
    by_cases h2 : (Mt.got b).2 = 0
    · rw [if_neg (by simpa using h2)] at h ⊢
      by_cases h3 : Ms.check (Mt.got b).1 = 0
      · rw [if_neg (by simpa using h3)]
        exact (Mt.got_inv b).1
      · rw [if_pos h3] at h; exact absurd h h3
    · rw [if_pos h2] at h; exact absurd h h2
theorem read_fits (r : Int) (x : List UInt8) (h : (read r x).2.2 = 0) : (read r x).1.Fits := by
  cases x with
  | nil => simp [read] at h
  | cons t c =>
    rw [read_cons] at h ⊢
    by_cases h1 : (t.toNat : Int) < 1 ∨ r < (t.toNat : Int)
    · rw [if_pos h1] at h; simp at h
    · rw [if_neg h1] at h ⊢
      by_cases h2 : (dec t.toNat c).2 = 0
      · rw [if_neg (by simpa using h2)]
        exact dec_fits _ _ h2
      · rw [if_pos h2] at h; exact absurd h h2
theorem opened_fits (r : Int) (b : List UInt8) (h : (opened r b).2.2 = 0) : (opened r b).1.Fits ∧ ∀ e ∈ (opened r b).1.ents, e.cmd.Short 48 := by
  refine ⟨?_, fun e he => Cm.check_short (Ms.ents_ok _ _ (Ms.check_good (check_good (opened_ok r b h).1).2).ents e he).2⟩
  unfold opened at h ⊢
  by_cases h1 : Vs.may r = false
  · rw [if_pos h1] at h; simp at h
  · rw [if_neg h1] at h ⊢
    by_cases h2 : (Frm.next b 0).2.2 ≠ 0
    · rw [if_pos h2] at h; exact absurd h h2
    · rw [if_neg h2] at h ⊢
      by_cases h3 : (Frm.next b 0).2.1 < (b.length : Int)
      · rw [if_pos h3] at h; simp at h
      · rw [if_neg h3] at h ⊢
        exact read_fits r _ h
/-- A letter in another version. -/
theorem translate_letter {v : Int} {m : Ms.Msg} (h : check v m = 0) (hf : m.Fits) (to : Int) : translate to (letter v m) = wrap to m := by
  have hv := (check_good h).1
  have ho : opened 2 (letter v m) = (m, v, 0) := by
    rw [opened_letter h hf 2]
    refine if_neg fun q => ?_
    rcases q with q | q
    · exact absurd q (by decide)
    · omega
  unfold translate
  rw [ho]
  by_cases h1 : Vs.may to = false
  · rw [if_pos h1]
    unfold wrap check
    rcases Vs.may_or to with ⟨q, _⟩ | ⟨_, q1, q2⟩
    · rw [q] at h1; cases h1
    · rw [if_neg q1, if_neg q2, if_pos (by simp)]
  · rw [if_neg h1, if_neg (by simp)]
end Tg
end Go.Proofs.YtndicjpbanmpjaaGreatDoor
