/- A command comes back from its bytes; bytes that are decoded are its own. No program is spoken of. -/
import Derived.Test.YteaebmgnofmemaaDoorCmdMath
namespace Go.Proofs.YteaebmgnofmemaaDoor

namespace Cm
/-- No number is below nothing. -/
def Cmd.Pos (c : Cmd) : Prop := 0 ≤ c.kind ∧ 0 ≤ c.client ∧ 0 ≤ c.seq ∧ 0 ≤ c.node
theorem Cmd.Pos.n {c : Cmd} (h : c.Pos) (f : F) : 0 ≤ c.n f := by
  obtain ⟨_, _, _, _⟩ := h
  cases f <;> simp [Cmd.n] <;> omega
def copy (c a : Cmd) (f : F) : Cmd := if f.num = true then a.setN (c.n f) f else a.setS (c.s f) f
def restrict (v : Int) (c : Cmd) : Cmd := (encoded v c.kind).foldl (copy c) (bareOf c.kind)

theorem gstep_back (c a : Cmd) (hp : c.Pos) (hf : c.Fits) {m : Nat} (hs : c.Short m) (hm : m ≤ 9223372036854775807) (pre post : List UInt8) (f : F) :
    gstep (pre ++ (fenc c f ++ post)) (a, pre.length, 0) f = (copy c a f, (pre ++ fenc c f).length, 0) := by
  unfold gstep copy fenc
  cases h : f.num with
  | true =>
    rw [if_pos rfl, if_pos rfl, if_pos rfl]
    have h0 := hp.n f
    have h1 := (hf.n f).2
    have hn := Pk.num_enc pre post (N := (c.n f).toNat) (most := big) (by omega) (by unfold big; omega)
    have e : rnum (pre ++ (enc (c.n f).toNat ++ post)) pre.length 0 = (((c.n f).toNat : Int), ((pre.length + (enc (c.n f).toNat).length : Nat) : Int), 0) := by unfold rnum; rw [if_pos rfl]; exact hn
    dsimp only
    rw [e]
    simp only [Int.toNat_natCast, List.length_append, Prod.mk.injEq, and_true]
    rw [Int.toNat_of_nonneg h0]
  | false =>
    rw [if_neg (by simp), if_neg (by simp), if_neg (by simp)]
    have h1 := hs.s f
    have hn := Pk.txt_text pre post (s := c.s f) (most := big) (by omega) (by unfold big; omega)
    have e : rtxt (pre ++ (Pk.text (c.s f) ++ post)) pre.length 0 = (c.s f, ((pre.length + (Pk.text (c.s f)).length : Nat) : Int), 0) := by unfold rtxt; rw [if_pos rfl]; exact hn
    dsimp only
    rw [e]
    simp only [Int.toNat_natCast, List.length_append]

theorem fold_back (c : Cmd) (hp : c.Pos) (hf : c.Fits) {m : Nat} (hs : c.Short m) (hm : m ≤ 9223372036854775807) (b : List UInt8) : ∀ (fs : List F) (a : Cmd) (pre post : List UInt8), b = pre ++ (fs.flatMap (fenc c) ++ post) →
    fs.foldl (gstep b) (a, pre.length, 0) = (fs.foldl (copy c) a, (pre ++ fs.flatMap (fenc c)).length, 0) := by
  intro fs
  induction fs with
  | nil => intro a pre post _; simp
  | cons f fs ih =>
    intro a pre post hb
    rw [List.foldl_cons, List.foldl_cons]
    have h1 : gstep b (a, pre.length, 0) f = (copy c a f, (pre ++ fenc c f).length, 0) := by
      rw [hb, List.flatMap_cons, List.append_assoc]
      exact gstep_back c a hp hf hs hm pre _ f
    rw [h1, ih (copy c a f) (pre ++ fenc c f) post (by rw [hb]; simp)]
    simp

theorem get_back (v : Int) (c : Cmd) (hp : c.Pos) (hf : c.Fits) {m : Nat} (hs : c.Short m) (hm : m ≤ 9223372036854775807) : get v (bytes v c) 0 0 = (restrict v c, (bytes v c).length, 0) := by
  have hk : rnum (bytes v c) 0 0 = (c.kind, (((enc c.kind.toNat).length : Nat) : Int), 0) := by
    unfold rnum bytes
    rw [if_pos rfl]
    have h1 := hf.k1
    have h0 := hp.1
    have := Pk.num_enc [] ((encoded v c.kind).flatMap (fenc c)) (N := c.kind.toNat) (most := big) (by omega) (by unfold big; omega)
    simp only [List.nil_append, List.length_nil, Nat.zero_add] at this
    rw [this, Int.toNat_of_nonneg h0]
  unfold get
  rw [hk]
  simp only [Int.toNat_natCast]
  rw [fold_back c hp hf hs hm (bytes v c) (encoded v c.kind) (bareOf c.kind) (enc c.kind.toNat) [] (by simp [bytes])]
  rfl

theorem restrict_flat (c : Cmd) (h : c.old = []) : restrict 1 c = c := by
  obtain ⟨k, cl, sq, nd, ky, od, vl⟩ := c
  dsimp only at h
  subst h
  rfl
theorem restrict_alone (v : Int) (hv : v ≠ 1) (c : Cmd) (h : alone c = true) : restrict v c = c := by
  obtain ⟨k, cl, sq, nd, ky, od, vl⟩ := c
  have h' := of_decide_eq_true h
  unfold restrict encoded
  rw [if_neg hv]
  dsimp only at h' ⊢
  rcases Vs.kinds k with rfl | rfl | rfl | rfl | rfl | rfl | rfl | rfl | hk
  rotate_right
  · have hf : fields k = [] := fields_no (by omega) (by omega) (by omega) (by omega) (by omega) (by omega)
    rw [hf] at h' ⊢
    exact h'.symm
  all_goals
    simp [fields, wipe, F.num, Cmd.setN, Cmd.setS, bareOf] at h'
    simp [fields, copy, F.num, Cmd.setN, Cmd.setS, Cmd.n, Cmd.s, bareOf, h']
theorem all_same (p q : F → Bool) : ∀ l : List F, (∀ f ∈ l, p f = q f) → l.all p = l.all q := by
  intro l
  induction l with
  | nil => intro _; rfl
  | cons f l ih => intro h; rw [List.all_cons, List.all_cons, h f (by simp), ih fun g hg => h g (by simp [hg])]
theorem check_restrict (v : Int) (hv : v ≠ 1) (c : Cmd) (hk : known c.kind = true) (h0 : check c ≠ 0) (h3 : check c ≠ 3) : check (restrict v c) ≠ 0 := by
  have e : restrict v c = (fields c.kind).foldl (copy c) (bareOf c.kind) := by unfold restrict encoded; rw [if_neg hv]
  have hk2 : (restrict v c).kind = c.kind := by
    rw [e]
    obtain ⟨k, cl, sq, nd, ky, od, vl⟩ := c
    dsimp only
    rcases Vs.kinds k with rfl | rfl | rfl | rfl | rfl | rfl | rfl | rfl | hk
    rotate_right
    · rw [fields_no (by omega) (by omega) (by omega) (by omega) (by omega) (by omega)]; rfl
    all_goals rfl
  have hsame : ∀ f ∈ fields c.kind, (restrict v c).n f = c.n f ∧ (restrict v c).s f = c.s f := by
    rw [e]
    clear hk2 e hk h0 h3
    obtain ⟨k, cl, sq, nd, ky, od, vl⟩ := c
    dsimp only
    rcases Vs.kinds k with rfl | rfl | rfl | rfl | rfl | rfl | rfl | rfl | hk
    rotate_right
    · rw [fields_no (by omega) (by omega) (by omega) (by omega) (by omega) (by omega)]
      intro f hf
      cases hf
    all_goals
      intro f hf
      cases f <;> first | exact ⟨rfl, rfl⟩ | (simp [fields] at hf)
  have hw : (fields c.kind).all (within (restrict v c)) = (fields c.kind).all (within c) := all_same _ _ _ fun f hf => by unfold within; rw [(hsame f hf).1]
  have hq : (fields c.kind).all (spelt (restrict v c)) = (fields c.kind).all (spelt c) := all_same _ _ _ fun f hf => by unfold spelt; rw [(hsame f hf).2]
  unfold check at h0 h3 ⊢
  rw [hk2, hw, hq]
  rw [hk, if_neg (by simp)] at h0 h3 ⊢
  by_cases h6 : (fields c.kind).all (within c) = false
  · rw [if_pos h6]; omega
  · rw [if_neg h6] at h0 h3 ⊢
    by_cases h7 : (fields c.kind).all (spelt c) = false
    · rw [if_pos h7]; omega
    · rw [if_neg h7] at h0 h3
      by_cases ha : alone c = false
      · rw [if_pos ha] at h3; omega
      · rw [if_neg ha] at h0; omega

theorem check_ok {c : Cmd} (h : check c = 0) : known c.kind = true ∧ alone c = true := by
  unfold check at h
  cases hk : known c.kind with
  | false => rw [if_pos hk] at h; omega
  | true =>
    rw [if_neg (by rw [hk]; simp)] at h
    split at h
    · omega
    · split at h
      · omega
      · split at h
        · omega
        · rename_i ha
          exact ⟨rfl, by simpa using ha⟩
theorem check_pos {c : Cmd} (h : check c = 0) : c.Pos := by
  obtain ⟨hk, ha⟩ := check_ok h
  unfold check at h
  rw [hk, if_neg (by simp)] at h
  by_cases h6 : (fields c.kind).all (within c) = false
  · rw [if_pos h6] at h; omega
  · have hw : (fields c.kind).all (within c) = true := by simpa using h6
    have h' := of_decide_eq_true ha
    clear h ha h6
    obtain ⟨k, cl, sq, nd, ky, od, vl⟩ := c
    dsimp only at hk hw h'
    rcases Vs.kinds k with rfl | rfl | rfl | rfl | rfl | rfl | rfl | rfl | h
    rotate_right
    · simp [known] at hk; omega
    all_goals
      simp [fields, wipe, F.num, Cmd.setN, Cmd.setS, bareOf] at h'
      simp [fields, within, F.num, F.most, Cmd.n] at hw
      refine ⟨?_, ?_, ?_, ?_⟩ <;> dsimp only <;> first | omega | grind
theorem checkIn_ok {v : Int} {c : Cmd} (h : checkIn v c = 0) : Vs.may v = true ∧ check c = 0 ∧ Vs.has v c.kind = true := by
  unfold checkIn at h
  by_cases h1 : Vs.may v = false
  · rw [if_pos h1] at h; omega
  · rw [if_neg h1] at h
    by_cases h2 : check c = 0
    · rw [if_neg (by simpa using h2)] at h
      by_cases h3 : Vs.has v c.kind = false
      · rw [if_pos h3] at h; omega
      · exact ⟨by simpa using h1, h2, by simpa using h3⟩
    · rw [if_pos h2] at h; omega
theorem restrict_ok (v : Int) (c : Cmd) (h : checkIn v c = 0) : restrict v c = c := by
  obtain ⟨_, hc, hh⟩ := checkIn_ok h
  obtain ⟨hk, ha⟩ := check_ok hc
  by_cases hv : v = 1
  · subst hv
    apply restrict_flat
    have h' := of_decide_eq_true ha
    clear h hc ha
    obtain ⟨k, cl, sq, nd, ky, od, vl⟩ := c
    dsimp only at hk hh h' ⊢
    rcases Vs.kinds k with rfl | rfl | rfl | rfl | rfl | rfl | rfl | rfl | h
    rotate_right
    · simp [known] at hk; omega
    all_goals first | (simp [Vs.has, Vs.common] at hh; done) | skip
    all_goals
      simp [fields, wipe, F.num, Cmd.setN, Cmd.setS, bareOf] at h'
      simp [h']
  · exact restrict_alone v hv c ha

theorem done_end (b : List UInt8) : done b b.length 0 = 0 := by unfold done; simp
/-- What decoding makes of a command's own bytes. -/
theorem decode_own (v : Int) (c : Cmd) (hm : Vs.may v = true) (hp : c.Pos) (hf : c.Fits) {m : Nat} (hs : c.Short m) (hm2 : m ≤ 9223372036854775807) :
    decode v (bytes v c) = if checkIn v (restrict v c) ≠ 0 then (zero, checkIn v (restrict v c)) else (restrict v c, 0) := by
  unfold decode
  rw [get_back v c hp hf hs hm2, if_neg (by rw [hm]; simp)]
  dsimp only
  rw [done_end, if_neg (by simp)]
theorem decode_bytes (v : Int) (c : Cmd) (h : checkIn v c = 0) (hf : c.Fits) {m : Nat} (hs : c.Short m) (hm : m ≤ 9223372036854775807) : decode v (bytes v c) = (c, 0) := by
  obtain ⟨hmay, hc, _⟩ := checkIn_ok h
  rw [decode_own v c hmay (check_pos hc) hf hs hm, restrict_ok v c h, h]
  simp

/-! What is decoded has these bytes. -/
theorem gstep_other (b : List UInt8) (t : Cmd × Nat × Int) (f g : F) (h : g ≠ f) : (gstep b t f).1.n g = t.1.n g ∧ (gstep b t f).1.s g = t.1.s g := by
  unfold gstep
  split
  · dsimp only
    cases f <;> cases g <;> first | exact ⟨rfl, rfl⟩ | exact absurd rfl h
  · dsimp only
    cases f <;> cases g <;> first | exact ⟨rfl, rfl⟩ | exact absurd rfl h
theorem fold_other (b : List UInt8) : ∀ (fs : List F) (t : Cmd × Nat × Int) (g : F), g ∉ fs → (fs.foldl (gstep b) t).1.n g = t.1.n g ∧ (fs.foldl (gstep b) t).1.s g = t.1.s g := by
  intro fs
  induction fs with
  | nil => intro t g _; exact ⟨rfl, rfl⟩
  | cons f fs ih =>
    intro t g hg
    have h1 := ih (gstep b t f) g (fun h => hg (List.mem_cons_of_mem _ h))
    have h2 := gstep_other b t f g (fun h => hg (by rw [h]; simp))
    rw [List.foldl_cons, h1.1, h1.2, h2.1, h2.2]
    exact ⟨rfl, rfl⟩
theorem gstep_kind (b : List UInt8) (t : Cmd × Nat × Int) (f : F) : (gstep b t f).1.kind = t.1.kind := by
  unfold gstep
  split
  · exact Cmd.setN_kind _ _ _
  · exact Cmd.setS_kind _ _ _
theorem foldg_kind (b : List UInt8) : ∀ (fs : List F) (t : Cmd × Nat × Int), (fs.foldl (gstep b) t).1.kind = t.1.kind := by
  intro fs
  induction fs with
  | nil => intro t; rfl
  | cons f fs ih => intro t; rw [List.foldl_cons, ih, gstep_kind]
theorem fenc_same (c d : Cmd) (f : F) (h : c.n f = d.n f ∧ c.s f = d.s f) : fenc c f = fenc d f := by unfold fenc; rw [h.1, h.2]

/-- One step that goes well. -/
theorem gstep_ok (b : List UInt8) (c : Cmd) (p : Nat) (er : Int) (f : F) (hp : p ≤ b.length) (h : (gstep b (c, p, er) f).2.2 = 0) :
    er = 0 ∧ (gstep b (c, p, er) f).2.1 ≤ b.length ∧ b.take (gstep b (c, p, er) f).2.1 = b.take p ++ fenc (gstep b (c, p, er) f).1 f := by
  unfold gstep at h ⊢
  cases hn : f.num with
  | true =>
    rw [hn, if_pos rfl] at h
    rw [if_pos rfl]
    dsimp only at h ⊢
    rcases rnum_cases b p er with ⟨e, he, hr⟩ | ⟨n, q, h0, _, hq, _, hr, ht⟩
    · rw [hr] at h; exact absurd h he
    · rw [hr]
      simp only [Int.toNat_natCast]
      refine ⟨h0, hq, ?_⟩
      rw [ht]
      unfold fenc
      rw [if_pos hn]
      cases f <;> first | rfl | cases hn
  | false =>
    rw [hn, if_neg (by simp)] at h
    rw [if_neg (by simp)]
    dsimp only at h ⊢
    rcases rtxt_cases b p er hp with ⟨e, q, he, _, hr⟩ | ⟨s, q, h0, _, hq, _, hr, ht⟩
    · rw [hr] at h; exact absurd h he
    · rw [hr]
      simp only [Int.toNat_natCast]
      refine ⟨h0, hq, ?_⟩
      rw [ht]
      unfold fenc
      rw [if_neg (by rw [hn]; simp)]
      cases f <;> first | rfl | cases hn

theorem gstep_err (b : List UInt8) (c : Cmd) (p : Nat) (er : Int) (f : F) (hp : p ≤ b.length) : (gstep b (c, p, er) f).2.1 ≤ b.length := by
  unfold gstep
  split
  · dsimp only
    rcases rnum_cases b p er with ⟨e, _, hr⟩ | ⟨n, q, _, _, hq, _, hr, _⟩
    · rw [hr]; simpa using hp
    · rw [hr]; simpa using hq
  · dsimp only
    rcases rtxt_cases b p er hp with ⟨e, q, _, hq, hr⟩ | ⟨s, q, _, _, hq, _, hr, _⟩
    · rw [hr]; simpa using hq
    · rw [hr]; simpa using hq

theorem fold_bytes (b : List UInt8) : ∀ (fs : List F) (t : Cmd × Nat × Int), fs.Nodup → t.2.1 ≤ b.length → (fs.foldl (gstep b) t).2.2 = 0 →
    t.2.2 = 0 ∧ (fs.foldl (gstep b) t).2.1 ≤ b.length ∧ b.take (fs.foldl (gstep b) t).2.1 = b.take t.2.1 ++ fs.flatMap (fenc (fs.foldl (gstep b) t).1) := by
  intro fs
  induction fs with
  | nil => intro t _ hp h; exact ⟨h, hp, by simp⟩
  | cons f fs ih =>
    intro t hn hp h
    obtain ⟨c, p, er⟩ := t
    have hn' := List.nodup_cons.1 hn
    rw [List.foldl_cons] at h ⊢
    obtain ⟨h1, h2, h3⟩ := ih (gstep b (c, p, er) f) hn'.2 (gstep_err b c p er f hp) h
    obtain ⟨h4, _, h6⟩ := gstep_ok b c p er f hp h1
    refine ⟨h4, h2, ?_⟩
    rw [h3, h6, List.flatMap_cons, List.append_assoc, fenc_same _ _ f (fold_other b fs (gstep b (c, p, er) f) f hn'.1)]

theorem decode_ok (v : Int) (b : List UInt8) (h : (decode v b).2 = 0) : (v = 1 ∨ v = 2) ∧ check (decode v b).1 = 0 ∧ Vs.has v (decode v b).1.kind = true ∧ bytes v (decode v b).1 = b := by
  unfold decode at h ⊢
  by_cases h1 : Vs.may v = false
  · rw [if_pos h1] at h; cases h
  · rw [if_neg h1] at h ⊢
    by_cases h2 : done b (get v b 0 0).2.1 (get v b 0 0).2.2 = 0
    · rw [if_neg (by simpa using h2)] at h ⊢
      by_cases h3 : checkIn v (get v b 0 0).1 = 0
      · rw [if_neg (by simpa using h3)] at h ⊢
        dsimp only
        obtain ⟨hm, hc, hh⟩ := checkIn_ok h3
        refine ⟨(Vs.may_or v).elim (fun x => x.2) (fun x => by rw [hm] at x; cases x.1), hc, hh, ?_⟩
        have her : (get v b 0 0).2.2 = 0 := by
          unfold done at h2
          split at h2
          · rename_i hne; exact absurd h2 hne
          · rename_i hne; simpa using hne
        have hpl : ¬ (get v b 0 0).2.1 < b.length := by
          unfold done at h2
          rw [if_neg (by simpa using her)] at h2
          intro hlt
          rw [if_pos hlt] at h2
          omega
        unfold get at her hpl ⊢
        rcases rnum_cases b 0 0 with ⟨e, he, hr⟩ | ⟨n, q, _, _, hq, hnb, hr, ht⟩
        · rw [hr] at her
          have := (fold_bytes b _ _ (encoded_once v 0) (by simp) her).1
          exact absurd this he
        · rw [hr] at her hpl ⊢
          simp only [Int.toNat_natCast] at her hpl ⊢
          obtain ⟨_, h5, h6⟩ := fold_bytes b _ _ (encoded_once v (n : Int)) (by exact hq) her
          rw [List.take_of_length_le (by omega)] at h6
          unfold bytes
          rw [foldg_kind]
          show enc (n : Int).toNat ++ (encoded v (n : Int)).flatMap _ = b
          rw [Int.toNat_natCast]
          conv => rhs; rw [h6]
          dsimp only
          rw [ht]
          simp
      · rw [if_pos h3] at h; exact absurd h h3
    · rw [if_pos h2] at h; exact absurd h h2
theorem decode_none (v : Int) (b : List UInt8) (h : (decode v b).2 ≠ 0) : (decode v b).1 = zero := by
  unfold decode at h ⊢
  by_cases h1 : Vs.may v = false
  · rw [if_pos h1]
  · rw [if_neg h1] at h ⊢
    by_cases h2 : done b (get v b 0 0).2.1 (get v b 0 0).2.2 = 0
    · rw [if_neg (by simpa using h2)] at h ⊢
      by_cases h3 : checkIn v (get v b 0 0).1 = 0
      · rw [if_neg (by simpa using h3)] at h; exact absurd rfl h
      · rw [if_pos h3]
    · rw [if_pos h2]
end Cm
end Go.Proofs.YteaebmgnofmemaaDoor
