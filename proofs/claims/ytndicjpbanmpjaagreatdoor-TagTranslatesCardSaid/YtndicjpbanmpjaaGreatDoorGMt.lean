/- Several texts of mine in one: MtMath MtEl MtMem. -/
import Derived.Test.YtndicjpbanmpjaaGreatDoorGPl
import Derived.Test.YtndicjpbanmpjaaGreatDoorGMg
import Derived.Test.YtndicjpbanmpjaaGreatDoorGMa
import Derived.Test.YtndicjpbanmpjaaGreatDoorGMb
import Derived.BigRegion
import Derived.Deep.QuietTactic
import Derived.BigQuiet
namespace Go.Proofs.YtndicjpbanmpjaaGreatDoor
namespace Mt

/-! Bytes. -/
def part (t : Bool) (l : List UInt8) : List UInt8 := if t = true then l else []
def one (e : En.Ent) : List UInt8 := enc e.index.toNat ++ Cm.bytes 2 e.cmd
def ents (m : Ms.Msg) : List UInt8 := if m.kind = 5 then m.ents.flatMap one else part (Ms.he m.kind) (En.bytes 2 m.ents)
def bytes (m : Ms.Msg) : List UInt8 :=
  Ms.nbytes [m.kind, m.frm, m.dst] ++ (part (Ms.hb m.kind) (enc m.bal.round.toNat) ++ (part (Ms.hb m.kind) (enc m.bal.node.toNat) ++ (part (Ms.hi m.kind) (enc m.index.toNat) ++ (part (Ms.hc m.kind) (enc m.commit.toNat) ++ (part (Ms.hv m.kind) (enc m.version.toNat) ++ (ents m ++ part (Ms.hm m.kind) (Pk.text m.img)))))))

/-! How they are read: the place and the error go on from field to field. -/
def num (t : Bool) (b : List UInt8) (s : Nat × Int) : Int × Nat × Int := if t = true then ((Cm.rnum b s.1 s.2).1, (Cm.rnum b s.1 s.2).2.1.toNat, (Cm.rnum b s.1 s.2).2.2) else (0, s)
def list (k : Int) (bal : Bl.Bal) (b : List UInt8) (s : Nat × Int) : List En.Ent × Nat × Int :=
  if k = 5 then ([⟨(Cm.rnum b s.1 s.2).1, bal, (Cm.get 2 b (Cm.rnum b s.1 s.2).2.1.toNat (Cm.rnum b s.1 s.2).2.2).1⟩], (Cm.get 2 b (Cm.rnum b s.1 s.2).2.1.toNat (Cm.rnum b s.1 s.2).2.2).2)
  else if Ms.he k = true then En.get 2 b s.1 s.2 else ([], s)
def img (t : Bool) (b : List UInt8) (s : Nat × Int) : List UInt8 × Nat × Int := if t = true then ((Ms.raw b s.1 s.2).1, (Ms.raw b s.1 s.2).2.1.toNat, (Ms.raw b s.1 s.2).2.2) else ([], s)
def kindOf (b : List UInt8) : Int := Ms.nth (Ms.rnums b 3).1 0
def r1 (b : List UInt8) := num (Ms.hb (kindOf b)) b (Ms.rnums b 3).2
def r2 (b : List UInt8) := num (Ms.hb (kindOf b)) b (r1 b).2
def r3 (b : List UInt8) := num (Ms.hi (kindOf b)) b (r2 b).2
def r4 (b : List UInt8) := num (Ms.hc (kindOf b)) b (r3 b).2
def r5 (b : List UInt8) := num (Ms.hv (kindOf b)) b (r4 b).2
def r6 (b : List UInt8) := list (kindOf b) ⟨(r1 b).1, (r2 b).1⟩ b (r5 b).2
def r7 (b : List UInt8) := img (Ms.hm (kindOf b)) b (r6 b).2
def gotM (b : List UInt8) : Ms.Msg := ⟨kindOf b, Ms.nth (Ms.rnums b 3).1 1, Ms.nth (Ms.rnums b 3).1 2, ⟨(r1 b).1, (r2 b).1⟩, (r3 b).1, (r4 b).1, (r5 b).1, (r6 b).1, (r7 b).1⟩
def decode (b : List UInt8) : Ms.Msg × Int :=
  if (Ms.rnums b 3).2.2 ≠ 0 then (Ms.zero, (Ms.rnums b 3).2.2)
  else if Ms.known (kindOf b) = false then (Ms.zero, 3)
  else if Cm.done b (r7 b).2.1 (r7 b).2.2 ≠ 0 then (Ms.zero, Cm.done b (r7 b).2.1 (r7 b).2.2)
  else if Ms.check (gotM b) ≠ 0 then (Ms.zero, Ms.check (gotM b)) else (gotM b, 0)

theorem part_yes (l : List UInt8) : part true l = l := rfl
theorem part_no (l : List UInt8) : part false l = [] := rfl
theorem num_at (t : Bool) (pre post : List UInt8) {n : Int} (h0 : 0 ≤ n) (h1 : n ≤ 9223372036854775807) (hz : t = false → n = 0) :
    num t (pre ++ (part t (enc n.toNat) ++ post)) (pre.length, 0) = (n, (pre ++ part t (enc n.toNat)).length, 0) := by
  cases t with
  | true =>
    rw [part_yes]
    unfold num
    rw [if_pos rfl, Cm.rnum_at pre post (by omega), Int.toNat_of_nonneg h0]
    simp
    omega
  | false =>
    rw [part_no, hz rfl]
    simp [num]
theorem num_ok (t : Bool) (b : List UInt8) (s : Nat × Int) (hs : s.1 ≤ b.length) (h : (num t b s).2.2 = 0) :
    s.2 = 0 ∧ (num t b s).2.1 ≤ b.length ∧ b.take (num t b s).2.1 = b.take s.1 ++ part t (enc (num t b s).1.toNat) := by
  cases t with
  | true =>
    unfold num at h ⊢
    rw [if_pos rfl] at h ⊢
    obtain ⟨h1, _, _, h4, h5⟩ := Cm.rnum_ok b s.1 s.2 h
    exact ⟨h1, h4, h5⟩
  | false =>
    unfold num at h ⊢
    rw [if_neg (by simp)] at h ⊢
    exact ⟨h, hs, by rw [part_no, List.append_nil]⟩
theorem num_le (t : Bool) (b : List UInt8) (s : Nat × Int) (hs : s.1 ≤ b.length) : (num t b s).2.1 ≤ b.length := by
  unfold num
  split
  · exact Cm.rnum_le b s.1 s.2 hs
  · exact hs
theorem img_at (t : Bool) (pre post : List UInt8) {l : List UInt8} (h : l.length ≤ 32768) (hz : t = false → l = []) :
    img t (pre ++ (part t (Pk.text l) ++ post)) (pre.length, 0) = (l, (pre ++ part t (Pk.text l)).length, 0) := by
  cases t with
  | true =>
    rw [part_yes]
    unfold img
    rw [if_pos rfl, Ms.raw_at pre post h]
    simp
    omega
  | false =>
    rw [part_no, hz rfl]
    simp [img]
theorem img_ok (t : Bool) (b : List UInt8) (s : Nat × Int) (hs : s.1 ≤ b.length) (h : (img t b s).2.2 = 0) :
    s.2 = 0 ∧ (img t b s).2.1 ≤ b.length ∧ b.take (img t b s).2.1 = b.take s.1 ++ part t (Pk.text (img t b s).1) := by
  cases t with
  | true =>
    unfold img at h ⊢
    rw [if_pos rfl] at h ⊢
    rcases Ms.raw_cases b s.1 s.2 hs with ⟨e, q, he, _, hr⟩ | ⟨x, q, h0, hq, _, hr, ht⟩
    · rw [hr] at h; exact absurd h he
    · rw [hr] at h ⊢
      simp only [Int.toNat_natCast]
      exact ⟨h0, hq, ht⟩
  | false =>
    unfold img at h ⊢
    rw [if_neg (by simp)] at h ⊢
    exact ⟨h, hs, by rw [part_no, List.append_nil]⟩
theorem has_two {k : Int} (h : Cm.known k = true) : Vs.has 2 k = true := by
  unfold Cm.known at h
  simp only [Bool.and_eq_true, decide_eq_true_eq] at h
  rcases Vs.kinds k with rfl | rfl | rfl | rfl | rfl | rfl | rfl | rfl | h'
  rotate_right
  · omega
  all_goals decide
theorem cmd_two {c : Cm.Cmd} (h : Cm.check c = 0) : Cm.restrict 2 c = c := by
  refine Cm.restrict_ok 2 c ?_
  unfold Cm.checkIn
  rw [if_neg (by decide), if_neg (by simpa using h), if_neg (by rw [has_two (Cm.check_ok h).1]; simp)]
theorem ent_two {e : En.Ent} (h : Cm.check e.cmd = 0) : En.restrict 2 e = e := by
  unfold En.restrict
  rw [cmd_two h]

/-- The entries, or the one entry of an accept, come back. -/
theorem list_at {m : Ms.Msg} (hg : Ms.Good m) (hf : ∀ e ∈ m.ents, e.Fits) {s : Nat} (hs : ∀ e ∈ m.ents, e.cmd.Short s) (hs2 : s ≤ 9223372036854775807) (pre post : List UInt8) :
    list m.kind m.bal (pre ++ (ents m ++ post)) (pre.length, 0) = (m.ents, (pre ++ ents m).length, 0) := by
  have hents : ∀ e ∈ m.ents, e.Pos ∧ e.Fits ∧ En.restrict 2 e = e := fun e he => by
    obtain ⟨h1, h2⟩ := Ms.ents_ok _ _ hg.ents e he
    exact ⟨Ms.ent_pos h1 h2, hf e he, ent_two h2⟩
  unfold list ents
  by_cases h5 : m.kind = 5
  · rw [if_pos h5, if_pos h5]
    have hw := hg.whole
    unfold Ms.whole at hw
    rw [if_pos h5] at hw
    unfold Ms.sole at hw
    obtain ⟨e, he, hb⟩ : ∃ e, m.ents = [e] ∧ e.bal = m.bal := by
      match hm : m.ents, hw with
      | [e], hw => exact ⟨e, rfl, of_decide_eq_true hw⟩
    obtain ⟨hp, hfe, hre⟩ := hents e (by rw [he]; simp)
    have h1 := hp.i; have h2 := hfe.i1
    have hre2 : Cm.restrict 2 e.cmd = e.cmd := by have := congrArg En.Ent.cmd hre; exact this
    rw [he]
    have e1 : [e].flatMap one = enc e.index.toNat ++ Cm.bytes 2 e.cmd := by simp [one]
    have e2 : pre ++ ([e].flatMap one ++ post) = pre ++ (enc e.index.toNat ++ (Cm.bytes 2 e.cmd ++ post)) := by rw [e1]; simp
    have a1 := Cm.rnum_at pre (Cm.bytes 2 e.cmd ++ post) (n := e.index.toNat) (by omega)
    have a2 := Cm.get_at 2 e.cmd hp.c hfe.cmd (hs e (by rw [he]; simp)) hs2 (pre ++ enc e.index.toNat) post
    have e3 : pre ++ enc e.index.toNat ++ (Cm.bytes 2 e.cmd ++ post) = pre ++ (enc e.index.toNat ++ (Cm.bytes 2 e.cmd ++ post)) := by simp
    rw [e3, hre2] at a2
    rw [e2]
    dsimp only
    rw [a1]
    simp only [Int.toNat_natCast]
    rw [a2, e1, Int.toNat_of_nonneg h1, ← hb]
    simp
  · rw [if_neg h5, if_neg h5]
    by_cases he : Ms.he m.kind = true
    · rw [if_pos he, he, part_yes]
      have h2 := En.get_at 2 m.ents (Ms.good_len hg).1 (fun e he => ⟨(hents e he).1, (hents e he).2.1⟩) hs hs2 pre post
      rw [show m.ents.map (En.restrict 2) = m.ents from by
        conv => rhs; rw [← List.map_id m.ents]
        exact List.map_congr_left fun e he => (hents e he).2.2] at h2
      exact h2
    · have hz : m.ents = [] := by
        have := congrArg Ms.Msg.ents hg.own
        rw [← this]
        exact if_neg he
      rw [if_neg he, Bool.not_eq_true] at *
      rw [he, part_no, hz]
      simp
theorem list_ok {k : Int} (bal : Bl.Bal) (b : List UInt8) (s : Nat × Int) (hs : s.1 ≤ b.length) (h : (list k bal b s).2.2 = 0) :
    s.2 = 0 ∧ (list k bal b s).2.1 ≤ b.length ∧ b.take (list k bal b s).2.1 = b.take s.1 ++ (if k = 5 then (list k bal b s).1.flatMap one else part (Ms.he k) (En.bytes 2 (list k bal b s).1)) := by
  unfold list at h ⊢
  by_cases h5 : k = 5
  · rw [if_pos h5] at h
    simp only [if_pos h5]
    have l1 := Cm.rnum_le b s.1 s.2 hs
    obtain ⟨g0, g1, g2⟩ := Cm.get_ok 2 b _ _ h l1
    obtain ⟨z1, _, _, _, b1⟩ := Cm.rnum_ok b s.1 s.2 g0
    refine ⟨z1, g1, ?_⟩
    rw [g2, b1]
    simp [one]
  · rw [if_neg h5] at h
    simp only [if_neg h5]
    by_cases he : Ms.he k = true
    · rw [if_pos he] at h
      simp only [if_pos he]
      obtain ⟨z, _, ht⟩ := En.get_ok 2 b s.1 s.2 h hs
      exact ⟨z, En.get_le 2 b s.1 s.2 hs, by rw [ht, he, part_yes]⟩
    · rw [if_neg he] at h
      simp only [if_neg he]
      rw [Bool.not_eq_true] at he
      exact ⟨h, hs, by rw [he, part_no, List.append_nil]⟩
theorem list_le (k : Int) (bal : Bl.Bal) (b : List UInt8) (s : Nat × Int) (hs : s.1 ≤ b.length) : (list k bal b s).2.1 ≤ b.length := by
  unfold list
  split
  · exact Cm.get_le 2 b _ _ (Cm.rnum_le b s.1 s.2 hs)
  · split
    · exact En.get_le 2 b s.1 s.2 hs
    · exact hs

/-! What was put comes back. -/
theorem decode_back {m : Ms.Msg} (h : Ms.check m = 0) (hf : m.Fits) {s : Nat} (hs : ∀ e ∈ m.ents, e.cmd.Short s) (hs2 : s ≤ 9223372036854775807) : decode (bytes m) = (m, 0) := by
  have hg := Ms.check_good h
  have hpos := Ms.good_pos hg
  obtain ⟨hl, hl2⟩ := Ms.good_len hg
  have hown := hg.own
  have zb : Ms.hb m.kind = false → m.bal = Bl.zero := fun q => by have := congrArg Ms.Msg.bal hown; rw [← this]; exact if_neg (by rw [q]; simp)
  have zi : Ms.hi m.kind = false → m.index = 0 := fun q => by have := congrArg Ms.Msg.index hown; rw [← this]; exact if_neg (by rw [q]; simp)
  have zc : Ms.hc m.kind = false → m.commit = 0 := fun q => by have := congrArg Ms.Msg.commit hown; rw [← this]; exact if_neg (by rw [q]; simp)
  have zv : Ms.hv m.kind = false → m.version = 0 := fun q => by have := congrArg Ms.Msg.version hown; rw [← this]; exact if_neg (by rw [q]; simp)
  have zm : Ms.hm m.kind = false → m.img = [] := fun q => by have := congrArg Ms.Msg.img hown; rw [← this]; exact if_neg (by rw [q]; simp)
  have hver : 0 ≤ m.version ∧ m.version ≤ 2 := by
    by_cases hk : Ms.hv m.kind = true
    · have hr := hg.ranged
      unfold Ms.ranged at hr
      rw [hk] at hr
      simp only [Bool.true_and, Bool.and_eq_true, Bool.not_eq_true', Bool.not_eq_false'] at hr
      rcases Vs.may_or m.version with ⟨_, h1 | h1⟩ | ⟨h1, _, _⟩
      · omega
      · omega
      · rw [h1] at hr; simp at hr
    · rw [zv (by simpa using hk)]; omega
  have q0 := hpos m.kind (by simp [Ms.nums]); have q3 := hpos m.bal.round (by simp [Ms.nums]); have q4 := hpos m.bal.node (by simp [Ms.nums])
  have q5 := hpos m.index (by simp [Ms.nums]); have q6 := hpos m.commit (by simp [Ms.nums])
  obtain ⟨B, hB⟩ : ∃ B, B = bytes m := ⟨_, rfl⟩
  obtain ⟨A0, hA0⟩ : ∃ A, A = Ms.nbytes [m.kind, m.frm, m.dst] := ⟨_, rfl⟩
  obtain ⟨A1, hA1⟩ : ∃ A, A = part (Ms.hb m.kind) (enc m.bal.round.toNat) := ⟨_, rfl⟩
  obtain ⟨A2, hA2⟩ : ∃ A, A = part (Ms.hb m.kind) (enc m.bal.node.toNat) := ⟨_, rfl⟩
  obtain ⟨A3, hA3⟩ : ∃ A, A = part (Ms.hi m.kind) (enc m.index.toNat) := ⟨_, rfl⟩
  obtain ⟨A4, hA4⟩ : ∃ A, A = part (Ms.hc m.kind) (enc m.commit.toNat) := ⟨_, rfl⟩
  obtain ⟨A5, hA5⟩ : ∃ A, A = part (Ms.hv m.kind) (enc m.version.toNat) := ⟨_, rfl⟩
  obtain ⟨A6, hA6⟩ : ∃ A, A = ents m := ⟨_, rfl⟩
  obtain ⟨A7, hA7⟩ : ∃ A, A = part (Ms.hm m.kind) (Pk.text m.img) := ⟨_, rfl⟩
  have hBB : B = A0 ++ (A1 ++ (A2 ++ (A3 ++ (A4 ++ (A5 ++ (A6 ++ A7)))))) := by rw [hB, hA0, hA1, hA2, hA3, hA4, hA5, hA6, hA7]; rfl
  have g0 := Ms.rnums_at [m.kind, m.frm, m.dst] (fun x hx => hpos x (by simp [Ms.nums] at hx ⊢; rcases hx with h | h | h <;> simp [h])) B (A1 ++ (A2 ++ (A3 ++ (A4 ++ (A5 ++ (A6 ++ A7)))))) (by rw [← hA0]; exact hBB) 3 (Nat.le_refl _)
  rw [show [m.kind, m.frm, m.dst].take 3 = [m.kind, m.frm, m.dst] from rfl, ← hA0] at g0
  have hk : kindOf B = m.kind := by unfold kindOf; rw [g0]; rfl
  have g1 : r1 B = (m.bal.round, (A0 ++ A1).length, 0) := by
    have := num_at (Ms.hb m.kind) A0 (A2 ++ (A3 ++ (A4 ++ (A5 ++ (A6 ++ A7))))) q3.1 q3.2 (fun q => by rw [zb q]; rfl)
    rw [← hA1, ← hBB] at this
    unfold r1; rw [hk, g0]; exact this
  have g2 : r2 B = (m.bal.node, (A0 ++ A1 ++ A2).length, 0) := by
    have := num_at (Ms.hb m.kind) (A0 ++ A1) (A3 ++ (A4 ++ (A5 ++ (A6 ++ A7)))) q4.1 q4.2 (fun q => by rw [zb q]; rfl)
    rw [← hA2, show A0 ++ A1 ++ (A2 ++ (A3 ++ (A4 ++ (A5 ++ (A6 ++ A7))))) = B by rw [hBB]; simp] at this
    unfold r2; rw [hk, g1]; exact this
  have g3 : r3 B = (m.index, (A0 ++ A1 ++ A2 ++ A3).length, 0) := by
    have := num_at (Ms.hi m.kind) (A0 ++ A1 ++ A2) (A4 ++ (A5 ++ (A6 ++ A7))) q5.1 q5.2 zi
    rw [← hA3, show A0 ++ A1 ++ A2 ++ (A3 ++ (A4 ++ (A5 ++ (A6 ++ A7)))) = B by rw [hBB]; simp] at this
    unfold r3; rw [hk, g2]; exact this
  have g4 : r4 B = (m.commit, (A0 ++ A1 ++ A2 ++ A3 ++ A4).length, 0) := by
    have := num_at (Ms.hc m.kind) (A0 ++ A1 ++ A2 ++ A3) (A5 ++ (A6 ++ A7)) q6.1 q6.2 zc
    rw [← hA4, show A0 ++ A1 ++ A2 ++ A3 ++ (A4 ++ (A5 ++ (A6 ++ A7))) = B by rw [hBB]; simp] at this
    unfold r4; rw [hk, g3]; exact this
  have g5 : r5 B = (m.version, (A0 ++ A1 ++ A2 ++ A3 ++ A4 ++ A5).length, 0) := by
    have := num_at (Ms.hv m.kind) (A0 ++ A1 ++ A2 ++ A3 ++ A4) (A6 ++ A7) hver.1 (by omega) zv
    rw [← hA5, show A0 ++ A1 ++ A2 ++ A3 ++ A4 ++ (A5 ++ (A6 ++ A7)) = B by rw [hBB]; simp] at this
    unfold r5; rw [hk, g4]; exact this
  have g6 : r6 B = (m.ents, (A0 ++ A1 ++ A2 ++ A3 ++ A4 ++ A5 ++ A6).length, 0) := by
    have := list_at hg hf.e hs hs2 (A0 ++ A1 ++ A2 ++ A3 ++ A4 ++ A5) A7
    rw [← hA6, show A0 ++ A1 ++ A2 ++ A3 ++ A4 ++ A5 ++ (A6 ++ A7) = B by rw [hBB]; simp] at this
    unfold r6; rw [hk, g5, g1, g2]; exact this
  have g7 : r7 B = (m.img, B.length, 0) := by
    have := img_at (Ms.hm m.kind) (A0 ++ A1 ++ A2 ++ A3 ++ A4 ++ A5 ++ A6) [] hl2 zm
    rw [← hA7, List.append_nil, show A0 ++ A1 ++ A2 ++ A3 ++ A4 ++ A5 ++ A6 ++ A7 = B by rw [hBB]; simp] at this
    unfold r7; rw [hk, g6]; exact this
  have gm : gotM B = m := by
    unfold gotM
    rw [hk, g0, g1, g2, g3, g4, g5, g6, g7]
    rfl
  rw [← hB]
  unfold decode
  rw [hk, gm, g7, if_neg (by rw [g0]; simp), if_neg (by rw [hg.kind]; simp)]
  dsimp only
  rw [Cm.done_end, if_neg (by simp), if_neg (by simpa using h)]

theorem decode_ok (b : List UInt8) (h : (decode b).2 = 0) : (decode b).1 = gotM b ∧ Ms.check (gotM b) = 0 ∧ bytes (gotM b) = b := by
  unfold decode at h ⊢
  by_cases h1 : (Ms.rnums b 3).2.2 = 0
  · rw [if_neg (by simpa using h1)] at h ⊢
    by_cases h2 : Ms.known (kindOf b) = false
    · rw [if_pos h2] at h; simp at h
    · rw [if_neg h2] at h ⊢
      by_cases h3 : Cm.done b (r7 b).2.1 (r7 b).2.2 = 0
      · rw [if_neg (by simpa using h3)] at h ⊢
        by_cases h4 : Ms.check (gotM b) = 0
        · rw [if_neg (by simpa using h4)]
          refine ⟨rfl, h4, ?_⟩
          have her : (r7 b).2.2 = 0 := by
            unfold Cm.done at h3
            split at h3
            · rename_i hne; exact absurd h3 hne
            · rename_i hne; simpa using hne
          have hpl : ¬ (r7 b).2.1 < b.length := by
            unfold Cm.done at h3
            rw [if_neg (by simpa using her)] at h3
            intro hlt
            rw [if_pos hlt] at h3
            omega
          have l0 := Ms.rnums_le b 3
          have l1 := num_le (Ms.hb (kindOf b)) b (Ms.rnums b 3).2 l0
          have l2 := num_le (Ms.hb (kindOf b)) b (r1 b).2 l1
          have l3 := num_le (Ms.hi (kindOf b)) b (r2 b).2 l2
          have l4 := num_le (Ms.hc (kindOf b)) b (r3 b).2 l3
          have l5 := num_le (Ms.hv (kindOf b)) b (r4 b).2 l4
          have l6 := list_le (kindOf b) ⟨(r1 b).1, (r2 b).1⟩ b (r5 b).2 l5
          obtain ⟨z6, _, t7⟩ := img_ok (Ms.hm (kindOf b)) b (r6 b).2 l6 her
          obtain ⟨z5, _, t6⟩ := list_ok (k := kindOf b) ⟨(r1 b).1, (r2 b).1⟩ b (r5 b).2 l5 z6
          obtain ⟨z4, _, t5⟩ := num_ok (Ms.hv (kindOf b)) b (r4 b).2 l4 z5
          obtain ⟨z3, _, t4⟩ := num_ok (Ms.hc (kindOf b)) b (r3 b).2 l3 z4
          obtain ⟨z2, _, t3⟩ := num_ok (Ms.hi (kindOf b)) b (r2 b).2 l2 z3
          obtain ⟨z1, _, t2⟩ := num_ok (Ms.hb (kindOf b)) b (r1 b).2 l1 z2
          obtain ⟨z0, _, t1⟩ := num_ok (Ms.hb (kindOf b)) b (Ms.rnums b 3).2 l0 z1
          have t0 := Ms.rnums_ok b 3 z0
          have h3n : [kindOf b, Ms.nth (Ms.rnums b 3).1 1, Ms.nth (Ms.rnums b 3).1 2] = (Ms.rnums b 3).1 := by
            have hl := Ms.rnums_len b 3
            unfold kindOf
            match (Ms.rnums b 3).1, hl with
            | [a, c, d], _ => rfl
          have hb : b = b.take (r7 b).2.1 := (List.take_of_length_le (by omega)).symm
          conv => rhs; rw [hb]
          rw [show b.take (r7 b).2.1 = b.take (r6 b).2.1 ++ part (Ms.hm (kindOf b)) (Pk.text (r7 b).1) from t7]
          rw [show b.take (r6 b).2.1 = b.take (r5 b).2.1 ++ (if kindOf b = 5 then (r6 b).1.flatMap one else part (Ms.he (kindOf b)) (En.bytes 2 (r6 b).1)) from t6]
          rw [show b.take (r5 b).2.1 = b.take (r4 b).2.1 ++ part (Ms.hv (kindOf b)) (enc (r5 b).1.toNat) from t5]
          rw [show b.take (r4 b).2.1 = b.take (r3 b).2.1 ++ part (Ms.hc (kindOf b)) (enc (r4 b).1.toNat) from t4]
          rw [show b.take (r3 b).2.1 = b.take (r2 b).2.1 ++ part (Ms.hi (kindOf b)) (enc (r3 b).1.toNat) from t3]
          rw [show b.take (r2 b).2.1 = b.take (r1 b).2.1 ++ part (Ms.hb (kindOf b)) (enc (r2 b).1.toNat) from t2]
          rw [show b.take (r1 b).2.1 = b.take (Ms.rnums b 3).2.1 ++ part (Ms.hb (kindOf b)) (enc (r1 b).1.toNat) from t1, t0]
          unfold bytes ents
          rw [show (gotM b).kind = kindOf b from rfl, show [kindOf b, (gotM b).frm, (gotM b).dst] = (Ms.rnums b 3).1 from h3n]
          simp only [List.append_assoc]
          rfl
        · rw [if_pos h4] at h; exact absurd h h4
      · rw [if_pos h3] at h; exact absurd h h3
  · rw [if_pos h1] at h; exact absurd h h1

/-! V2 never has more bytes than V1, of what V1 has. -/
theorem cmd_less {c : Cm.Cmd} (h : Vs.has 1 c.kind = true) : (Cm.bytes 2 c).length ≤ (Cm.bytes 1 c).length := by
  have h1 : Cm.encoded 1 c.kind = [.client, .seq, .key, .val, .node] := rfl
  have h2 : Cm.encoded 2 c.kind = Cm.fields c.kind := rfl
  unfold Cm.bytes
  rw [h1, h2]
  rcases Vs.kinds c.kind with q | q | q | q | q | q | q | q | q
  rotate_right
  · rw [Cm.fields_no (by omega) (by omega) (by omega) (by omega) (by omega) (by omega)]; simp
  all_goals (rw [q] at h ⊢; first | exact absurd h (by decide) | (simp [Cm.fields] <;> omega))
theorem ents_less (l : List En.Ent) (h : En.has 1 l = true) : (l.flatMap (En.ebytes 2)).length ≤ (l.flatMap (En.ebytes 1)).length := by
  induction l with
  | nil => simp
  | cons e r ih =>
    unfold En.has at h
    rw [List.all_cons, Bool.and_eq_true] at h
    have h1 := ih h.2
    have h2 := cmd_less h.1
    rw [List.flatMap_cons, List.flatMap_cons, List.length_append, List.length_append]
    unfold En.ebytes at h1 ⊢
    simp only [List.length_append] at h1 ⊢
    omega
theorem part_le (t : Bool) (l : List UInt8) : (part t l).length ≤ l.length := by cases t <;> simp [part]
theorem less {m : Ms.Msg} (h : Ms.older m = 0) : (bytes m).length ≤ (Ms.bytes m).length := by
  obtain ⟨hc, hn⟩ := Ms.older_good h
  have hg := Ms.check_good hc
  have hhas : En.has 1 m.ents = true := by unfold Ms.newer at hn; simp at hn; exact hn.2
  have he := ents_less m.ents hhas
  have p1 := part_le (Ms.hb m.kind) (enc m.bal.round.toNat); have p2 := part_le (Ms.hb m.kind) (enc m.bal.node.toNat)
  have p3 := part_le (Ms.hi m.kind) (enc m.index.toNat); have p4 := part_le (Ms.hc m.kind) (enc m.commit.toNat)
  have p7 := part_le (Ms.hm m.kind) (Pk.text m.img)
  have e0 := enc_pos m.ents.length
  have e1 := enc_pos m.img.length
  have e2 := enc_pos m.index.toNat
  have hv : (part (Ms.hv m.kind) (enc m.version.toNat)).length + (part (Ms.hi m.kind) (enc m.index.toNat)).length ≤ (enc m.index.toNat).length := by
    cases hk : Ms.hv m.kind with
    | false => rw [part_no]; simpa using p3
    | true =>
      have hver := Ms.good_version hg hn
      rw [hk, if_pos rfl] at hver
      have hi : Ms.hi m.kind = false := by
        have hk' : m.kind = 1 ∨ m.kind = 2 := by unfold Ms.hv at hk; simpa using hk
        rcases hk' with q | q <;> rw [q] <;> decide
      rw [hver, hi, part_no, part_yes]
      have : (enc (1 : Int).toNat).length = 1 := by decide +kernel
      simp only [List.length_nil]
      omega
  have hen : (ents m).length ≤ (En.bytes 1 m.ents).length := by
    unfold ents En.bytes
    by_cases h5 : m.kind = 5
    · rw [if_pos h5]
      have hl : (m.ents.flatMap one).length ≤ (m.ents.flatMap (En.ebytes 2)).length := by
        generalize m.ents = l
        induction l with
        | nil => simp
        | cons e r ih =>
          rw [List.flatMap_cons, List.flatMap_cons, List.length_append, List.length_append]
          unfold one En.ebytes at *
          simp only [List.length_append] at *
          omega
      rw [List.length_append]
      omega
    · rw [if_neg h5]
      have := part_le (Ms.he m.kind) (enc m.ents.length ++ m.ents.flatMap (En.ebytes 2))
      rw [List.length_append] at this ⊢
      omega
  unfold bytes Ms.bytes
  have n1 : (Ms.nbytes (Ms.nums m)).length = (Ms.nbytes [m.kind, m.frm, m.dst]).length + ((enc m.bal.round.toNat).length + ((enc m.bal.node.toNat).length + ((enc m.index.toNat).length + (enc m.commit.toNat).length))) := by
    simp [Ms.nbytes, Ms.nums]; omega
  simp only [List.length_append]
  rw [n1]
  omega
end Mt
end Go.Proofs.YtndicjpbanmpjaaGreatDoor


namespace Go.Proofs.YtndicjpbanmpjaaGreatDoor
namespace Mt

/-- An element: a number (the message's cell), its entries, its image, the one entry of an accept. -/
inductive El where
  | num (k : Nat)
  | list
  | img
  | prop
def head : List El := [.num 0, .num 1, .num 2]
def elems (k : Int) : List El :=
  if k = 1 ∨ k = 2 then [.num 7]
  else if k = 3 ∨ k = 6 then [.num 3, .num 4, .num 5]
  else if k = 4 then [.num 3, .num 4, .num 5, .num 6, .list]
  else if k = 5 then [.num 3, .num 4, .prop]
  else if k = 7 then [.num 3, .num 4]
  else if k = 8 then [.num 3, .num 4, .num 6]
  else if k = 9 then [.num 5]
  else if k = 10 then [.num 6, .list]
  else if k = 11 then [.img] else []
def El.ok : El → Prop
  | .num k => k < 8
  | _ => True
theorem elems_no {k : Int} (h : k < 1 ∨ 11 < k) : elems k = [] := by
  unfold elems
  rw [if_neg (by omega), if_neg (by omega), if_neg (by omega), if_neg (by omega), if_neg (by omega), if_neg (by omega), if_neg (by omega), if_neg (by omega), if_neg (by omega)]
theorem elems_len (k : Int) : (elems k).length ≤ 5 ∧ ((elems k).length = 0 ↔ Ms.known k = false) := by
  rcases Ms.kinds k with rfl | rfl | rfl | rfl | rfl | rfl | rfl | rfl | rfl | rfl | rfl | h
  rotate_right
  · rw [elems_no h, (Ms.has_no h).2.2.2.2.2.2]; simp
  all_goals decide
theorem all_ok (k : Int) : ∀ e ∈ head ++ elems k, e.ok := by
  intro e he
  rcases List.mem_append.1 he with he | he
  · simp only [head, List.mem_cons, List.not_mem_nil, or_false] at he
    rcases he with rfl | rfl | rfl <;> simp [El.ok]
  · rcases Ms.kinds k with rfl | rfl | rfl | rfl | rfl | rfl | rfl | rfl | rfl | rfl | rfl | h
    rotate_right
    · rw [elems_no h] at he; simp at he
    all_goals
      simp [elems] at he
      first
        | (rcases he with rfl | rfl | rfl | rfl | rfl <;> simp [El.ok])
        | (rcases he with rfl | rfl | rfl | rfl <;> simp [El.ok])
        | (rcases he with rfl | rfl | rfl <;> simp [El.ok])
        | (rcases he with rfl | rfl <;> simp [El.ok])
        | (subst he; simp [El.ok])

/-- The numbers of a message, each by its cell. -/
def val (m : Ms.Msg) (k : Nat) : Int := Ms.nth [m.kind, m.frm, m.dst, m.bal.round, m.bal.node, m.index, m.commit, m.version] k
def setN (m : Ms.Msg) (n : Int) : Nat → Ms.Msg
  | 0 => {m with kind := n}
  | 1 => {m with frm := n}
  | 2 => {m with dst := n}
  | 3 => {m with bal := ⟨n, m.bal.node⟩}
  | 4 => {m with bal := ⟨m.bal.round, n⟩}
  | 5 => {m with index := n}
  | 6 => {m with commit := n}
  | 7 => {m with version := n}
  | _ => m
theorem eight {k : Nat} (h : k < 8) : k = 0 ∨ k = 1 ∨ k = 2 ∨ k = 3 ∨ k = 4 ∨ k = 5 ∨ k = 6 ∨ k = 7 := by omega
theorem cells_val (m : Ms.Msg) (ve vi : Value) {k : Nat} (h : k < 8) : (Ms.cells m ve vi)[k]? = some (.int .i64 (val m k)) := by
  rcases eight h with rfl | rfl | rfl | rfl | rfl | rfl | rfl | rfl <;> rfl
theorem cells_set (m : Ms.Msg) (n : Int) (ve vi : Value) {k : Nat} (h : k < 8) : (Ms.cells (setN m n k) ve vi).toList = (Ms.cells m ve vi).toList.take k ++ [.int .i64 n] ++ (Ms.cells m ve vi).toList.drop (k + 1) := by
  rcases eight h with rfl | rfl | rfl | rfl | rfl | rfl | rfl | rfl <;> rfl
theorem setN_ents (m : Ms.Msg) (n : Int) (k : Nat) : (setN m n k).ents = m.ents ∧ (setN m n k).img = m.img := by
  match k with
  | 0 | 1 | 2 | 3 | 4 | 5 | 6 | 7 => exact ⟨rfl, rfl⟩
  | k + 8 => exact ⟨rfl, rfl⟩

/-! Bytes. -/
def ebytes (m : Ms.Msg) : El → List UInt8
  | .num k => enc (val m k).toNat
  | .list => En.bytes 2 m.ents
  | .img => Pk.text m.img
  | .prop => m.ents.flatMap one
theorem bytes_elems (m : Ms.Msg) : bytes m = (head ++ elems m.kind).flatMap (ebytes m) := by
  have hh : head.flatMap (ebytes m) = Ms.nbytes [m.kind, m.frm, m.dst] := by
    simp [head, ebytes, val, Ms.nth, Ms.nbytes]
  rw [List.flatMap_append, hh]
  unfold bytes ents
  generalize Ms.nbytes [m.kind, m.frm, m.dst] = H
  obtain ⟨k, f, d, ⟨r, n⟩, i, c, v, es, g⟩ := m
  dsimp only
  rcases Ms.kinds k with rfl | rfl | rfl | rfl | rfl | rfl | rfl | rfl | rfl | rfl | rfl | h
  rotate_right
  · obtain ⟨h1, h2, h3, h4, h5, h6, _⟩ := Ms.has_no h
    rw [elems_no h, h1, h2, h3, h4, h5, h6, if_neg (by omega)]
    simp [part]
  all_goals simp [elems, ebytes, part, Ms.hb, Ms.hi, Ms.hc, Ms.hv, Ms.he, Ms.hm, val, Ms.nth]

/-! How they are read. -/
def gstep (b : List UInt8) (t : Ms.Msg × Nat × Int) : El → Ms.Msg × Nat × Int
  | .num k => (setN t.1 (Cm.rnum b t.2.1 t.2.2).1 k, (Cm.rnum b t.2.1 t.2.2).2.1.toNat, (Cm.rnum b t.2.1 t.2.2).2.2)
  | .list => ({t.1 with ents := (En.get 2 b t.2.1 t.2.2).1}, (En.get 2 b t.2.1 t.2.2).2)
  | .img => ({t.1 with img := (Ms.raw b t.2.1 t.2.2).1}, (Ms.raw b t.2.1 t.2.2).2.1.toNat, (Ms.raw b t.2.1 t.2.2).2.2)
  | .prop => ({t.1 with ents := [⟨(Cm.rnum b t.2.1 t.2.2).1, t.1.bal, (Cm.get 2 b (Cm.rnum b t.2.1 t.2.2).2.1.toNat (Cm.rnum b t.2.1 t.2.2).2.2).1⟩]}, (Cm.get 2 b (Cm.rnum b t.2.1 t.2.2).2.1.toNat (Cm.rnum b t.2.1 t.2.2).2.2).2)
def start (b : List UInt8) : Ms.Msg × Nat × Int := (Ms.ofNums (Ms.rnums b 3).1, (Ms.rnums b 3).2)
def all (b : List UInt8) : Ms.Msg × Nat × Int := (elems (kindOf b)).foldl (gstep b) (start b)
theorem head_fold (b : List UInt8) : head.foldl (gstep b) (Ms.zero, 0, 0) = start b := rfl

/-- An error stays, and so does the place. -/
theorem rnum_err (b : List UInt8) (p : Nat) (er : Int) (h : er ≠ 0) : Cm.rnum b p er = (0, (p : Int), er) := if_neg h
theorem cfold_err (b : List UInt8) : ∀ (fs : List Cm.F) (t : Cm.Cmd × Nat × Int), t.2.2 ≠ 0 → (fs.foldl (Cm.gstep b) t).2 = t.2
  | [], _, _ => rfl
  | f :: fs, t, h => by
    have hs : (Cm.gstep b t f).2 = t.2 := by
      unfold Cm.gstep
      split
      · rw [rnum_err b _ _ h]; simp
      · rw [show Cm.rtxt b t.2.1 t.2.2 = ([], (t.2.1 : Int), t.2.2) from if_neg h]; simp
    rw [List.foldl_cons, cfold_err b fs _ (by rw [hs]; exact h), hs]
theorem cget_err (v : Int) (b : List UInt8) (p : Nat) (er : Int) (h : er ≠ 0) : (Cm.get v b p er).2 = (p, er) := by
  unfold Cm.get
  rw [rnum_err b p er h]
  exact cfold_err b _ _ h
theorem eget_err (v : Int) (b : List UInt8) (p : Nat) (er : Int) (h : er ≠ 0) : (En.get v b p er).2 = (p, er) := by
  unfold En.get En.count
  rw [if_neg h]
  rfl
theorem raw_err (b : List UInt8) (p : Nat) (er : Int) (h : er ≠ 0) : Ms.raw b p er = ([], (p : Int), er) := if_neg h
theorem gstep_err (b : List UInt8) (t : Ms.Msg × Nat × Int) (e : El) (h : t.2.2 ≠ 0) : (gstep b t e).2 = t.2 := by
  cases e with
  | num k => unfold gstep; rw [rnum_err b _ _ h]; simp
  | list => exact eget_err 2 b _ _ h
  | img => unfold gstep; rw [raw_err b _ _ h]; simp
  | prop =>
    show (Cm.get 2 b (Cm.rnum b t.2.1 t.2.2).2.1.toNat (Cm.rnum b t.2.1 t.2.2).2.2).2 = _
    rw [rnum_err b _ _ h]
    simp only [Int.toNat_natCast]
    exact cget_err 2 b _ _ h
theorem fold_err (b : List UInt8) : ∀ (l : List El) (t : Ms.Msg × Nat × Int), t.2.2 ≠ 0 → (l.foldl (gstep b) t).2 = t.2
  | [], _, _ => rfl
  | e :: l, t, h => by
    have hs := gstep_err b t e h
    rw [List.foldl_cons, fold_err b l _ (by rw [hs]; exact h), hs]
/-- Where the kind exists, all is as it was said. -/
theorem all_got (b : List UInt8) (h : Ms.known (kindOf b) = true) : all b = (gotM b, (r7 b).2) := by
  unfold all gotM r7 r6 r5 r4 r3 r2 r1
  have h0 : kindOf b = Ms.nth (Ms.rnums b 3).1 0 := rfl
  have hst : start b = (⟨kindOf b, Ms.nth (Ms.rnums b 3).1 1, Ms.nth (Ms.rnums b 3).1 2, ⟨0, 0⟩, 0, 0, 0, [], []⟩, (Ms.rnums b 3).2) := by
    have hl := Ms.rnums_len b 3
    unfold start kindOf
    match (Ms.rnums b 3).1, hl with
    | [a, c, d], _ => rfl
  rw [hst]
  generalize kindOf b = k at h ⊢
  generalize (Ms.rnums b 3).2 = s
  generalize Ms.nth (Ms.rnums b 3).1 1 = x1
  generalize Ms.nth (Ms.rnums b 3).1 2 = x2
  obtain ⟨p, er⟩ := s
  rcases Ms.kinds k with rfl | rfl | rfl | rfl | rfl | rfl | rfl | rfl | rfl | rfl | rfl | q
  rotate_right
  · rw [(Ms.has_no q).2.2.2.2.2.2] at h; cases h
  all_goals rfl

/-- What the reading tells: the message, and what is wrong. -/
def got (b : List UInt8) : Ms.Msg × Int := if (Ms.rnums b 3).2.2 = 0 ∧ Ms.known (kindOf b) = false then ((start b).1, 3) else ((all b).1, Cm.done b (all b).2.1 (all b).2.2)
theorem decode_got (b : List UInt8) : decode b = if (got b).2 ≠ 0 then (Ms.zero, (got b).2) else if Ms.check (got b).1 ≠ 0 then (Ms.zero, Ms.check (got b).1) else ((got b).1, 0) := by
  unfold decode
  by_cases h1 : (Ms.rnums b 3).2.2 = 0
  · rw [if_neg (by simpa using h1)]
    cases hk : Ms.known (kindOf b) with
    | false =>
      have hg : got b = ((start b).1, 3) := if_pos ⟨h1, hk⟩
      rw [hg, if_pos rfl, if_pos (by simp)]
    | true =>
      have hg : got b = ((all b).1, Cm.done b (all b).2.1 (all b).2.2) := if_neg fun h => by rw [hk] at h; cases h.2
      rw [hg, all_got b hk, if_neg (by simp)]
  · have hg : got b = ((all b).1, Cm.done b (all b).2.1 (all b).2.2) := if_neg fun h => h1 h.1
    have hz : (all b).2 = (start b).2 := fold_err b _ _ h1
    have hd : Cm.done b (start b).2.1 (start b).2.2 = (Ms.rnums b 3).2.2 := if_pos h1
    rw [hg, hz, hd, if_pos h1, if_pos h1]

/-! What is read is small. -/
def Inv (b : List UInt8) (t : Ms.Msg × Nat × Int) : Prop := (∀ k, k < 8 → -9223372036854775808 ≤ val t.1 k ∧ val t.1 k ≤ 9223372036854775807) ∧ (∀ e ∈ t.1.ents, e.cmd.Short b.length ∧ e.Fits) ∧ t.1.ents.length ≤ 256 ∧ t.1.img.length ≤ b.length ∧ t.2.1 ≤ b.length
theorem val_setN (m : Ms.Msg) (n : Int) (k j : Nat) (hj : j < 8) : val (setN m n k) j = if j = k then n else val m j := by
  match k with
  | 0 | 1 | 2 | 3 | 4 | 5 | 6 | 7 => rcases eight hj with rfl | rfl | rfl | rfl | rfl | rfl | rfl | rfl <;> rfl
  | k + 8 => rw [if_neg (by omega)]; rfl
theorem Inv.step {b : List UInt8} {t : Ms.Msg × Nat × Int} (h : Inv b t) (e : El) : Inv b (gstep b t e) := by
  obtain ⟨h1, h2, h3, h4, h5⟩ := h
  have hn := Ms.rnum_num b t.2.1 t.2.2
  have hl := Cm.rnum_le b t.2.1 t.2.2 h5
  cases e with
  | num k =>
    refine ⟨fun j hj => ?_, ?_, ?_, ?_, hl⟩
    · show _ ≤ val (setN t.1 _ k) j ∧ val (setN t.1 _ k) j ≤ _
      rw [val_setN _ _ _ _ hj]
      split
      · omega
      · exact h1 j hj
    · show ∀ e ∈ (setN t.1 _ k).ents, _
      rw [(setN_ents _ _ _).1]; exact h2
    · show (setN t.1 _ k).ents.length ≤ _
      rw [(setN_ents _ _ _).1]; exact h3
    · show (setN t.1 _ k).img.length ≤ _
      rw [(setN_ents _ _ _).2]; exact h4
  | list =>
    obtain ⟨g1, g2⟩ := En.get_inv 2 b t.2.1 t.2.2 h5
    exact ⟨h1, g1, g2, h4, En.get_le 2 b _ _ h5⟩
  | img =>
    rcases Ms.raw_cases b t.2.1 t.2.2 h5 with ⟨e, q, _, hq, hr⟩ | ⟨s, q, _, hq, hs, hr, _⟩
    · refine ⟨h1, h2, h3, ?_, ?_⟩
      · show (Ms.raw b _ _).1.length ≤ _; rw [hr]; simp
      · show (Ms.raw b _ _).2.1.toNat ≤ _; rw [hr]; simpa using hq
    · refine ⟨h1, h2, h3, ?_, ?_⟩
      · show (Ms.raw b _ _).1.length ≤ _; rw [hr]; exact hs
      · show (Ms.raw b _ _).2.1.toNat ≤ _; rw [hr]; simpa using hq
  | prop =>
    obtain ⟨g1, g2, g3⟩ := Cm.get_inv_at 2 b _ (Cm.rnum b t.2.1 t.2.2).2.2 hl
    have a3 := h1 3 (by omega); have a4 := h1 4 (by omega)
    refine ⟨h1, fun e he => ?_, by show 1 ≤ 256; omega, h4, g1⟩
    obtain rfl := List.mem_singleton.1 he
    exact ⟨g2, ⟨by dsimp only; omega, by dsimp only; omega, ⟨a3.1, a3.2, a4.1, a4.2⟩, g3⟩⟩
theorem Inv.fold {b : List UInt8} : ∀ (l : List El) {t : Ms.Msg × Nat × Int}, Inv b t → Inv b (l.foldl (gstep b) t)
  | [], _, h => h
  | e :: l, _, h => Inv.fold l (h.step e)
theorem Inv.zero (b : List UInt8) : Inv b (Ms.zero, 0, 0) := by
  refine ⟨fun k hk => ?_, fun e he => by simp [Ms.zero] at he, by simp [Ms.zero], by simp [Ms.zero], by simp⟩
  rcases eight hk with rfl | rfl | rfl | rfl | rfl | rfl | rfl | rfl <;> decide
theorem start_inv (b : List UInt8) : Inv b (start b) := Inv.fold head (Inv.zero b)
theorem all_inv (b : List UInt8) : Inv b (all b) := Inv.fold _ (start_inv b)
theorem got_inv (b : List UInt8) : (got b).1.Fits ∧ (∀ e ∈ (got b).1.ents, e.cmd.Short b.length) ∧ (got b).1.ents.length ≤ 256 ∧ (got b).1.img.length ≤ b.length := by
  have key : ∀ t : Ms.Msg × Nat × Int, Inv b t → t.1.Fits ∧ (∀ e ∈ t.1.ents, e.cmd.Short b.length) ∧ t.1.ents.length ≤ 256 ∧ t.1.img.length ≤ b.length := fun t ⟨h1, h2, h3, h4, _⟩ => by
    refine ⟨⟨fun x hx => ?_, fun e he => (h2 e he).2⟩, fun e he => (h2 e he).1, h3, h4⟩
    have a0 := h1 0 (by omega); have a1 := h1 1 (by omega); have a2 := h1 2 (by omega); have a3 := h1 3 (by omega); have a4 := h1 4 (by omega); have a5 := h1 5 (by omega); have a6 := h1 6 (by omega)
    simp only [Ms.nums, List.mem_cons, List.not_mem_nil, or_false] at hx
    rcases hx with rfl | rfl | rfl | rfl | rfl | rfl | rfl
    · exact a0
    · exact a1
    · exact a2
    · exact a3
    · exact a4
    · exact a5
    · exact a6
  unfold got
  split
  · exact key _ (start_inv b)
  · exact key _ (all_inv b)

/-- The numbers of a valid message. -/
theorem val_good {m : Ms.Msg} (h : Ms.check m = 0) (k : Nat) (hk : k < 8) : 0 ≤ val m k ∧ val m k ≤ 9223372036854775807 := by
  have hg := Ms.check_good h
  have hpos := Ms.good_pos hg
  rcases eight hk with rfl | rfl | rfl | rfl | rfl | rfl | rfl | rfl
  rotate_right
  · show 0 ≤ m.version ∧ m.version ≤ _
    by_cases hv : Ms.hv m.kind = true
    · have hr := hg.ranged
      unfold Ms.ranged at hr
      rw [hv] at hr
      simp only [Bool.true_and, Bool.and_eq_true, Bool.not_eq_true', Bool.not_eq_false'] at hr
      rcases Vs.may_or m.version with ⟨_, h1 | h1⟩ | ⟨h1, _, _⟩
      · omega
      · omega
      · rw [h1] at hr; simp at hr
    · have := congrArg Ms.Msg.version hg.own
      rw [show (Ms.own m).version = if Ms.hv m.kind = true then m.version else 0 from rfl, if_neg hv] at this
      omega
  · exact hpos m.kind (by simp [Ms.nums])
  · exact hpos m.frm (by simp [Ms.nums])
  · exact hpos m.dst (by simp [Ms.nums])
  · exact hpos m.bal.round (by simp [Ms.nums])
  · exact hpos m.bal.node (by simp [Ms.nums])
  · exact hpos m.index (by simp [Ms.nums])
  · exact hpos m.commit (by simp [Ms.nums])
/-- An accept has one entry. -/
theorem good_sole {m : Ms.Msg} (h : Ms.check m = 0) (h5 : m.kind = 5) : ∃ e, m.ents = [e] ∧ e.bal = m.bal := by
  have hw := (Ms.check_good h).whole
  unfold Ms.whole at hw
  rw [if_pos h5] at hw
  unfold Ms.sole at hw
  match hm : m.ents, hw with
  | [e], hw => exact ⟨e, rfl, of_decide_eq_true hw⟩
theorem prop_five {k : Int} (h : El.prop ∈ head ++ elems k) : k = 5 := by
  rcases List.mem_append.1 h with h | h
  · simp [head] at h
  · rcases Ms.kinds k with rfl | rfl | rfl | rfl | rfl | rfl | rfl | rfl | rfl | rfl | rfl | q
    rotate_right
    · rw [elems_no q] at h; simp at h
    all_goals first
      | rfl
      | (simp [elems] at h)
end Mt
end Go.Proofs.YtndicjpbanmpjaaGreatDoor


namespace Go.Proofs.YtndicjpbanmpjaaGreatDoor
open Go.RowKit

theorem drawnAt {B : Nat} (w : World) (n : Nat) : Below B w (w.drewN n) := ⟨rfl, rfl, rfl, Nat.le_refl _, fun _ _ => rfl⟩

/-- An element as a value: the message lies in block g. -/
def Mt.ev (g : Nat) : Mt.El → Value
  | .num k => .iface 83 (.pointer (some ⟨g, k, none⟩))
  | .list => .iface 106 (.pointer (some ⟨g, 8, none⟩))
  | .img => .iface 109 (.pointer (some ⟨g, 9, none⟩))
  | .prop => .iface 108 (.agg #[.pointer (some ⟨g, 0, none⟩)])

/-! Type assertions on an element. -/
theorem isInt_num (v : Value) (W : World) : (Instr.typeAssert (.iface 83 v) 20 83 true).run Tryz.prog W = .ok (.tuple #[v, .bool true]) W := by kernel_rfl
theorem isInt_list (v : Value) (W : World) : (Instr.typeAssert (.iface 106 v) 20 83 true).run Tryz.prog W = .ok (.tuple #[.pointer none, .bool false]) W := by kernel_rfl
theorem isInt_img (v : Value) (W : World) : (Instr.typeAssert (.iface 109 v) 20 83 true).run Tryz.prog W = .ok (.tuple #[.pointer none, .bool false]) W := by kernel_rfl
theorem isInt_prop (v : Value) (W : World) : (Instr.typeAssert (.iface 108 v) 20 83 true).run Tryz.prog W = .ok (.tuple #[.pointer none, .bool false]) W := by kernel_rfl
theorem isList_list (v : Value) (W : World) : (Instr.typeAssert (.iface 106 v) 20 106 true).run Tryz.prog W = .ok (.tuple #[v, .bool true]) W := by kernel_rfl
theorem isList_img (v : Value) (W : World) : (Instr.typeAssert (.iface 109 v) 20 106 true).run Tryz.prog W = .ok (.tuple #[.pointer none, .bool false]) W := by kernel_rfl
theorem isList_prop (v : Value) (W : World) : (Instr.typeAssert (.iface 108 v) 20 106 true).run Tryz.prog W = .ok (.tuple #[.pointer none, .bool false]) W := by kernel_rfl
theorem isImg_img (v : Value) (W : World) : (Instr.typeAssert (.iface 109 v) 20 109 true).run Tryz.prog W = .ok (.tuple #[v, .bool true]) W := by kernel_rfl
theorem isImg_prop (v : Value) (W : World) : (Instr.typeAssert (.iface 108 v) 20 109 true).run Tryz.prog W = .ok (.tuple #[.pointer none, .bool false]) W := by kernel_rfl
theorem isProp_prop (v : Value) (W : World) : (Instr.typeAssert (.iface 108 v) 20 108 true).run Tryz.prog W = .ok (.tuple #[v, .bool true]) W := by kernel_rfl

/-- A row of elements' values, laid behind lo. -/
def Mt.rows (g : Nat) (l : List Mt.El) : List (Array Value) := l.map fun e => #[Mt.ev g e]
theorem Mt.rows_len (g : Nat) (l : List Mt.El) : (Mt.rows g l).length = l.length := List.length_map ..
theorem Mt.ev_one (g : Nat) (e : Mt.El) : (Mt.ev g e).oneCell' = true := by cases e <;> rfl
theorem Mt.rows_sized (g : Nat) (l : List Mt.El) : Sized 1 (Mt.rows g l) := Sized.map (f := fun e => #[Mt.ev g e]) (fun e => ⟨rfl, by simp [Mt.ev_one]⟩) l
theorem Mt.rows_flat (g : Nat) (l : List Mt.El) : flatR (Mt.rows g l) = l.map (Mt.ev g) := by
  induction l with
  | nil => rfl
  | cons e l ih => rw [List.map_cons, ← ih]; rfl
abbrev ERow (w : World) (lo : Nat) (v : Value) (g : Nat) (l : List Mt.El) : Prop := OwnsR w lo 20 1 v (Mt.rows g l)
/-- A row just laid. -/
theorem ERow.new {w w1 : World} {lo g n : Nat} (l : List Mt.El) (hn : l.length = n) (hlo : lo ≤ w.heap.size) (hb : Below (w.heap.size + 1) (w.alloc (.cells (l.map (Mt.ev g)).toArray 20)) w1) (hs : l.length ≤ 100) : ERow w1 lo (.slice (some ⟨w.heap.size, 0, none⟩) n n) g l := by
  subst hn
  have hl : Lies w1 w.heap.size 20 (l.map (Mt.ev g)).toArray := (Lies.new w _ _).below hb (Nat.lt_succ_self _)
  refine ⟨by rw [Mt.rows_flat, Mt.rows_len]; simp, .inr ⟨w.heap.size, l.length, _, by rw [Mt.rows_len], hlo, hl, by rw [Mt.rows_len]; exact Nat.le_refl _, by unfold maxLen; omega, by simp, ?_⟩⟩
  rw [Mt.rows_flat, Mt.rows_len, Nat.mul_one]
  exact List.take_of_length_le (by simp)
/-- A row that has elements lies in a block of its own. -/
theorem ERow.lies {w : World} {lo g : Nat} {v : Value} {l : List Mt.El} (h : ERow w lo v g l) (hl : 0 < l.length) :
    ∃ j cap cur, v = .slice (some ⟨j, 0, none⟩) l.length cap ∧ lo ≤ j ∧ Lies w j 20 cur ∧ ∀ (k : Nat) (e : Mt.El), l[k]? = some e → cur[k]? = some (Mt.ev g e) := by
  rcases h.2 with ⟨_, h0⟩ | ⟨j, cap, cur, rfl, hj, hg, _, _, _, ht⟩
  · rw [Mt.rows_len] at h0; omega
  · rw [Mt.rows_len, Mt.rows_flat, Nat.mul_one] at ht
    refine ⟨j, cap, cur, by rw [Mt.rows_len], hj, hg, fun k e hk => ?_⟩
    have h1 : (l.map (Mt.ev g))[k]? = some (Mt.ev g e) := by rw [List.getElem?_map, hk]; rfl
    rw [← ht, List.getElem?_take] at h1
    split at h1
    · rwa [Array.getElem?_toList] at h1
    · cases h1
def ERowed (w : World) (g : Nat) (l : List Mt.El) (e : Ending) (w' : World) : Prop := ∃ v, e = .returned v ∧ ERow w' w.heap.size v g l ∧ Below w.heap.size w w'

set_option maxRecDepth 4000 in
set_option maxHeartbeats 3200000 in
theorem headMt_any (g : Nat) (w : World) : Calls Tryz.prog 58 #[.pointer (some ⟨g, 0, none⟩)] w (ERowed w g Mt.head) := by
  obtain ⟨w1, e1, hb1, hB1⟩ : ∃ w1, w.alloc (.cells #[.iface 83 (.pointer (some ⟨g, 0, none⟩)), .iface 83 (.pointer (some ⟨g, 1, none⟩)), .iface 83 (.pointer (some ⟨g, 2, none⟩))] 20) = w1
      ∧ Below (w.heap.size + 1) (w.alloc (.cells (Mt.head.map (Mt.ev g)).toArray 20)) w1 ∧ Below w.heap.size w w1 := ⟨_, rfl, Below.refl _ _, (Below.refl _ w).alloc (Nat.le_refl _) _⟩
  have HL := Lib.hid hb1; have HB := Lib.hid hB1
  clear hb1 hB1
  go_enter Tryz.func58, Tryz.ntmps58
  go_wp2
  go_region
  all_goals
    go_wp2
    go_ret
    exact ⟨_, rfl, ERow.new Mt.head rfl (Nat.le_refl _) (HL.out.trans (drawnAt _ _)) (by decide), on HB.out (drawn _ _)⟩

set_option maxRecDepth 4000 in
set_option maxHeartbeats 6400000 in
theorem fieldsMt_any (g : Nat) (k : Int) (w : World) (hc : w.cell? ⟨g, 0, none⟩ = some (.int .i64 k)) :
    Calls Tryz.prog 59 #[.pointer (some ⟨g, 0, none⟩)] w (ERowed w g (Mt.elems k)) := by
  go_enter Tryz.func59, Tryz.ntmps59
  go_wp2
  go_quiet (fail)
  have hb := drawn w nq
  have hc' := (World.cell?_of_block (hb.block g (World.block_lt_of_cell? w _ hc))).trans hc
  generalize w.drewN nq = w2 at hb hc' ⊢
  have HB := Lib.hid hb
  have hsz := hb.size
  clear hb hc
  rcases Ms.kinds k with rfl | rfl | rfl | rfl | rfl | rfl | rfl | rfl | rfl | rfl | rfl | h
  · go_wp2
    go_ret
    exact ⟨_, rfl, ERow.new (Mt.elems 1) rfl hsz (Below.refl _ _) (by decide), HB.out.alloc hsz _⟩
  · go_wp2
    go_ret
    exact ⟨_, rfl, ERow.new (Mt.elems 2) rfl hsz (Below.refl _ _) (by decide), HB.out.alloc hsz _⟩
  · go_wp2
    go_ret
    exact ⟨_, rfl, ERow.new (Mt.elems 3) rfl hsz (Below.refl _ _) (by decide), HB.out.alloc hsz _⟩
  · obtain ⟨w3, e3, hb3, hB3⟩ : ∃ w3, w2.alloc (.cells #[.iface 83 (.pointer (some ⟨g, 3, none⟩)), .iface 83 (.pointer (some ⟨g, 4, none⟩)), .iface 83 (.pointer (some ⟨g, 5, none⟩)), .iface 83 (.pointer (some ⟨g, 6, none⟩)), .iface 106 (.pointer (some ⟨g, 8, none⟩))] 20) = w3
        ∧ Below (w2.heap.size + 1) (w2.alloc (.cells ((Mt.elems 4).map (Mt.ev g)).toArray 20)) w3 ∧ Below w2.heap.size w2 w3 := ⟨_, rfl, Below.refl _ _, (Below.refl _ w2).alloc (Nat.le_refl _) _⟩
    have HL := Lib.hid hb3; have HB3 := Lib.hid (HB.out.trans (hB3.mono hsz))
    clear hb3 hB3
    go_wp2
    go_region
    all_goals
      go_wp2
      go_ret
      exact ⟨_, rfl, ERow.new (Mt.elems 4) rfl hsz (HL.out.trans (drawnAt _ _)) (by decide), HB3.out.trans (drawnAt _ _)⟩
  · go_wp2
    go_ret
    exact ⟨_, rfl, ERow.new (Mt.elems 5) rfl hsz (Below.refl _ _) (by decide), HB.out.alloc hsz _⟩
  · go_wp2
    go_ret
    exact ⟨_, rfl, ERow.new (Mt.elems 6) rfl hsz (Below.refl _ _) (by decide), HB.out.alloc hsz _⟩
  · go_wp2
    go_ret
    exact ⟨_, rfl, ERow.new (Mt.elems 7) rfl hsz (Below.refl _ _) (by decide), HB.out.alloc hsz _⟩
  · go_wp2
    go_ret
    exact ⟨_, rfl, ERow.new (Mt.elems 8) rfl hsz (Below.refl _ _) (by decide), HB.out.alloc hsz _⟩
  · go_wp2
    go_ret
    exact ⟨_, rfl, ERow.new (Mt.elems 9) rfl hsz (Below.refl _ _) (by decide), HB.out.alloc hsz _⟩
  · obtain ⟨w3, e3, hb3, hB3⟩ : ∃ w3, w2.alloc (.cells #[.iface 83 (.pointer (some ⟨g, 6, none⟩)), .iface 106 (.pointer (some ⟨g, 8, none⟩))] 20) = w3
        ∧ Below (w2.heap.size + 1) (w2.alloc (.cells ((Mt.elems 10).map (Mt.ev g)).toArray 20)) w3 ∧ Below w2.heap.size w2 w3 := ⟨_, rfl, Below.refl _ _, (Below.refl _ w2).alloc (Nat.le_refl _) _⟩
    have HL := Lib.hid hb3; have HB3 := Lib.hid (HB.out.trans (hB3.mono hsz))
    clear hb3 hB3
    go_wp2
    go_region
    all_goals
      go_wp2
      go_ret
      exact ⟨_, rfl, ERow.new (Mt.elems 10) rfl hsz (HL.out.trans (drawnAt _ _)) (by decide), HB3.out.trans (drawnAt _ _)⟩
  · go_wp2
    go_ret
    exact ⟨_, rfl, ERow.new (Mt.elems 11) rfl hsz (Below.refl _ _) (by decide), HB.out.alloc hsz _⟩
  · have n1 : (k == 1) = false := by simp; omega
    have n2 : (k == 2) = false := by simp; omega
    have n3 : (k == 3) = false := by simp; omega
    have n4 : (k == 4) = false := by simp; omega
    have n5 : (k == 5) = false := by simp; omega
    have n6 : (k == 6) = false := by simp; omega
    have n7 : (k == 7) = false := by simp; omega
    have n8 : (k == 8) = false := by simp; omega
    have n9 : (k == 9) = false := by simp; omega
    have n10 : (k == 10) = false := by simp; omega
    have n11 : (k == 11) = false := by simp; omega
    go_wp2
    go_ret
    rw [Mt.elems_no h]
    exact ⟨_, rfl, OwnsR.empty _ _ _ _, HB.out⟩

end Go.Proofs.YtndicjpbanmpjaaGreatDoor
