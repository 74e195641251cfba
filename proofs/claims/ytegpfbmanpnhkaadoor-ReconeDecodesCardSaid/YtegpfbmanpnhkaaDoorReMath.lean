/- Records, plain: which fields a kind has, what is wrong with a record, what F1 has, its bytes in F1, how these are read. No program is spoken of. -/
import Derived.Test.YtegpfbmanpnhkaaDoorGMg
namespace Go.Proofs.YtegpfbmanpnhkaaDoor

/-- A record. -/
structure Re.Rec where
  kind : Int
  bal : Bl.Bal
  index : Int
  cmd : Cm.Cmd
  img : List UInt8
  deriving DecidableEq
namespace Re

def zero : Rec := ⟨0, Bl.zero, 0, Cm.zero, []⟩
def cells (x : Rec) (vi : Value) : Array Value := #[.int .i64 x.kind, .int .i64 x.bal.round, .int .i64 x.bal.node, .int .i64 x.index, .int .i64 x.cmd.kind, .int .i64 x.cmd.client, .int .i64 x.cmd.seq, .string ⟨x.cmd.key.toArray⟩, .string ⟨x.cmd.val.toArray⟩, .string ⟨x.cmd.old.toArray⟩, .int .i64 x.cmd.node, vi]

/-! The fields that a kind has. -/
def hb (k : Int) : Bool := decide (k = 1) || decide (k = 2)
def hi (k : Int) : Bool := decide (k = 2) || (decide (k = 3) || decide (k = 4))
def hc (k : Int) : Bool := decide (k = 2) || decide (k = 3)
def hm (k : Int) : Bool := decide (k = 4)
def known (k : Int) : Bool := decide (1 ≤ k) && decide (k ≤ 4)
theorem kinds (k : Int) : k = 1 ∨ k = 2 ∨ k = 3 ∨ k = 4 ∨ (k < 1 ∨ 4 < k) := by omega
theorem has_no {k : Int} (h : k < 1 ∨ 4 < k) : hb k = false ∧ hi k = false ∧ hc k = false ∧ hm k = false ∧ known k = false := by
  unfold hb hi hc hm known
  simp only [Bool.or_eq_false_iff, Bool.and_eq_false_iff, decide_eq_false_iff_not]
  omega

def ranged (x : Rec) : Bool := !(hb x.kind && !Ms.owned x.bal) && !(hi x.kind && !Ms.within x.index 1 4294967296)
def own (x : Rec) : Rec := ⟨x.kind, if hb x.kind = true then x.bal else Bl.zero, if hi x.kind = true then x.index else 0, if hc x.kind = true then x.cmd else Cm.zero, if hm x.kind = true then x.img else []⟩
def whole (x : Rec) : Bool := !(hm x.kind && decide (x.img = []))
def check (x : Rec) : Int :=
  if known x.kind = false then 5
  else if ranged x = false then 6
  else if (hm x.kind && decide (32768 < x.img.length)) = true then 2
  else if hc x.kind = true ∧ Cm.check x.cmd ≠ 0 then Cm.check x.cmd
  else if (decide (own x = x) && whole x) = false then 3 else 0
/-- F1 has it not. -/
def newer (x : Rec) : Bool := hc x.kind && !Vs.has 1 x.cmd.kind
def older (x : Rec) : Int := if check x ≠ 0 then check x else if newer x = true then 8 else 0
def large (x : Rec) : Bool := decide (200 < x.cmd.key.length) || (decide (200 < x.cmd.val.length) || (decide (200 < x.cmd.old.length) || ((decide (300 < x.img.length) && decide (x.img.length < 32760)) || decide (32780 < x.img.length))))

/-! Bytes. -/
def nums (x : Rec) : List Int := [x.kind, x.bal.round, x.bal.node, x.index]
def tail (x : Rec) : List UInt8 := if hc x.kind = true then Cm.bytes 1 x.cmd else if hm x.kind = true then Pk.text x.img else []
def bytes (x : Rec) : List UInt8 := Ms.nbytes (nums x) ++ tail x

/-- The machine's numbers. -/
structure Rec.Fits (x : Rec) : Prop where
  n : ∀ z ∈ nums x, -9223372036854775808 ≤ z ∧ z ≤ 9223372036854775807
  c : x.cmd.Fits

/-! How they are read. -/
def base (l : List Int) : Rec := ⟨Ms.nth l 0, ⟨Ms.nth l 1, Ms.nth l 2⟩, Ms.nth l 3, Cm.zero, []⟩
def got (b : List UInt8) : Rec × Nat × Int :=
  if hc (Ms.nth (Ms.rnums b 4).1 0) = true then ({base (Ms.rnums b 4).1 with cmd := (Cm.get 1 b (Ms.rnums b 4).2.1 (Ms.rnums b 4).2.2).1}, (Cm.get 1 b (Ms.rnums b 4).2.1 (Ms.rnums b 4).2.2).2.1, (Cm.get 1 b (Ms.rnums b 4).2.1 (Ms.rnums b 4).2.2).2.2)
  else if hm (Ms.nth (Ms.rnums b 4).1 0) = true then ({base (Ms.rnums b 4).1 with img := (Ms.raw b (Ms.rnums b 4).2.1 (Ms.rnums b 4).2.2).1}, (Ms.raw b (Ms.rnums b 4).2.1 (Ms.rnums b 4).2.2).2.1.toNat, (Ms.raw b (Ms.rnums b 4).2.1 (Ms.rnums b 4).2.2).2.2)
  else if Ms.nth (Ms.rnums b 4).1 0 = 1 then (base (Ms.rnums b 4).1, (Ms.rnums b 4).2.1, (Ms.rnums b 4).2.2)
  else (base (Ms.rnums b 4).1, (Ms.rnums b 4).2.1, if (Ms.rnums b 4).2.2 = 0 then 3 else (Ms.rnums b 4).2.2)
def decode (b : List UInt8) : Rec × Int :=
  if Cm.done b (got b).2.1 (got b).2.2 ≠ 0 then (zero, Cm.done b (got b).2.1 (got b).2.2)
  else if older (got b).1 ≠ 0 then (zero, older (got b).1) else ((got b).1, 0)

/-- What a valid record is. -/
structure Good (x : Rec) : Prop where
  kind : known x.kind = true
  ranged : ranged x = true
  long : (hm x.kind && decide (32768 < x.img.length)) = false
  cmd : hc x.kind = true → Cm.check x.cmd = 0
  own : own x = x
  whole : whole x = true
theorem check_good {x : Rec} (h : check x = 0) : Good x := by
  unfold check at h
  by_cases h1 : known x.kind = false
  · rw [if_pos h1] at h; omega
  rw [if_neg h1] at h
  by_cases h2 : Re.ranged x = false
  · rw [if_pos h2] at h; omega
  rw [if_neg h2] at h
  by_cases h3 : (hm x.kind && decide (32768 < x.img.length)) = true
  · rw [if_pos h3] at h; omega
  rw [if_neg h3] at h
  by_cases h4 : hc x.kind = true ∧ Cm.check x.cmd ≠ 0
  · rw [if_pos h4] at h; exact absurd h h4.2
  · rw [if_neg h4] at h
    by_cases h5 : (decide (Re.own x = x) && Re.whole x) = false
    · rw [if_pos h5] at h; omega
    · simp only [Bool.not_eq_false, Bool.and_eq_true, decide_eq_true_eq] at h5
      exact ⟨by simpa using h1, by simpa using h2, by simpa using h3, fun hk => by by_cases hq : Cm.check x.cmd = 0; exact hq; exact absurd ⟨hk, hq⟩ h4, h5.1, h5.2⟩
theorem older_good {x : Rec} (h : older x = 0) : check x = 0 ∧ newer x = false := by
  unfold older at h
  by_cases h1 : check x = 0
  · rw [if_neg (by simpa using h1)] at h
    by_cases h2 : newer x = true
    · rw [if_pos h2] at h; omega
    · exact ⟨h1, by simpa using h2⟩
  · rw [if_pos h1] at h; exact absurd h h1
theorem good_len {x : Rec} (h : Good x) : x.img.length ≤ 32768 := by
  by_cases hx : hm x.kind = true
  · have := h.long
    rw [hx] at this
    simp at this
    omega
  · have := congrArg Rec.img h.own
    rw [← this, show (Re.own x).img = if hm x.kind = true then x.img else [] from rfl, if_neg hx]
    simp
theorem good_cmd {x : Rec} (h : Good x) (hk : hc x.kind = false) : x.cmd = Cm.zero := by
  have := congrArg Rec.cmd h.own
  rw [← this]
  show (if hc x.kind = true then x.cmd else Cm.zero) = Cm.zero
  rw [if_neg (by rw [hk]; simp)]
theorem good_img {x : Rec} (h : Good x) (hk : hm x.kind = false) : x.img = [] := by
  have := congrArg Rec.img h.own
  rw [← this]
  show (if hm x.kind = true then x.img else []) = []
  rw [if_neg (by rw [hk]; simp)]
/-- A record that is valid has numbers of which none is below nothing. -/
theorem good_pos {x : Rec} (h : Good x) : ∀ z ∈ nums x, 0 ≤ z ∧ z ≤ 9223372036854775807 := by
  have hk := h.kind; have hr := h.ranged
  unfold known at hk
  simp only [Bool.and_eq_true, decide_eq_true_eq] at hk
  unfold Re.ranged at hr
  simp only [Bool.and_eq_true] at hr
  have hb : (0 ≤ x.bal.round ∧ x.bal.round ≤ 4294967296) ∧ (0 ≤ x.bal.node ∧ x.bal.node ≤ 9) := by
    by_cases hx : hb x.kind = true
    · have ho : Ms.owned x.bal = true := by
        have := hr.1
        rw [hx] at this
        simpa using this
      unfold Ms.owned at ho
      have hmay := (Bool.and_eq_true_iff.1 ho).1
      unfold Bl.may Bl.within at hmay
      rcases Bool.or_eq_true_iff.1 hmay with h1 | h1
      · rw [of_decide_eq_true h1]; simp [Bl.zero]
      · simp only [Bool.and_eq_true, decide_eq_true_eq] at h1
        omega
    · have := congrArg Rec.bal h.own
      rw [← this, show (Re.own x).bal = if hb x.kind = true then x.bal else Bl.zero from rfl, if_neg hx]
      simp [Bl.zero]
  have hix : 0 ≤ x.index ∧ x.index ≤ 4294967296 := by
    by_cases hx : hi x.kind = true
    · have := hr.2
      rw [hx] at this
      simp [Ms.within] at this
      omega
    · have := congrArg Rec.index h.own
      rw [← this, show (Re.own x).index = if hi x.kind = true then x.index else 0 from rfl, if_neg hx]
      simp
  intro z hz
  simp only [nums, List.mem_cons, List.not_mem_nil, or_false] at hz
  rcases hz with rfl | rfl | rfl | rfl <;> omega
theorem four {l : List Int} (h : l.length = 4) : [Ms.nth l 0, Ms.nth l 1, Ms.nth l 2, Ms.nth l 3] = l := by
  match l, h with
  | [_, _, _, _], _ => rfl
theorem base_nums (x : Rec) : base (nums x) = {x with cmd := Cm.zero, img := []} := rfl

theorem decode_back {x : Rec} (h : older x = 0) (hf : x.Fits) {s : Nat} (hs : x.cmd.Short s) (hs2 : s ≤ 9223372036854775807) : decode (bytes x) = (x, 0) := by
  obtain ⟨hck, hn⟩ := older_good h
  have hg := check_good hck
  have h1 := Ms.rnums_at (nums x) (good_pos hg) (bytes x) (tail x) rfl 4 (Nat.le_refl _)
  rw [show (nums x).take 4 = nums x from rfl] at h1
  have h0 : Ms.nth (nums x) 0 = x.kind := rfl
  have hget : got (bytes x) = (x, (bytes x).length, 0) := by
    unfold got
    rw [h1]
    dsimp only
    rw [h0, base_nums]
    by_cases hc1 : hc x.kind = true
    · rw [if_pos hc1]
      have hcm := hg.cmd hc1
      have hm0 : hm x.kind = false := by unfold hc at hc1; unfold hm; simp at hc1 ⊢; omega
      have hin : Cm.checkIn 1 x.cmd = 0 := by
        unfold newer at hn
        rw [hc1] at hn
        unfold Cm.checkIn
        rw [if_neg (by decide), if_neg (by simpa using hcm), if_neg (by simp at hn; rw [hn]; simp)]
      have hga := Cm.get_at 1 x.cmd (Cm.check_pos hcm) hf.c hs hs2 (Ms.nbytes (nums x)) []
      have ht : tail x = Cm.bytes 1 x.cmd := if_pos hc1
      have hb : bytes x = Ms.nbytes (nums x) ++ Cm.bytes 1 x.cmd := by unfold bytes; rw [ht]
      rw [List.append_nil, Cm.restrict_ok 1 x.cmd hin, ← hb] at hga
      rw [hga]
      dsimp only
      rw [show ({x with cmd := x.cmd, img := []} : Rec) = x from by rw [show ([] : List UInt8) = x.img from (good_img hg hm0).symm]]
    · rw [if_neg hc1]
      have hc0 : hc x.kind = false := by simpa using hc1
      by_cases hm1 : hm x.kind = true
      · rw [if_pos hm1]
        have ht : tail x = Pk.text x.img := (if_neg hc1).trans (if_pos hm1)
        have hb : bytes x = Ms.nbytes (nums x) ++ Pk.text x.img := by unfold bytes; rw [ht]
        have hra := Ms.raw_at (Ms.nbytes (nums x)) [] (good_len hg)
        rw [List.append_nil, ← hb] at hra
        rw [hra]
        dsimp only
        rw [show ({x with cmd := Cm.zero, img := x.img} : Rec) = x from by rw [← good_cmd hg hc0]]
        rfl
      · rw [if_neg hm1]
        have hm0 : hm x.kind = false := by simpa using hm1
        have hk1 : x.kind = 1 := by
          have hk := hg.kind
          unfold known at hk
          unfold hc at hc0
          unfold hm at hm0
          simp at hk hc0 hm0
          omega
        have ht : tail x = [] := (if_neg hc1).trans (if_neg hm1)
        rw [if_pos hk1, show ({x with cmd := Cm.zero, img := []} : Rec) = x from by rw [← good_cmd hg hc0, ← good_img hg hm0]]
        unfold bytes
        rw [ht, List.append_nil]
  unfold decode
  rw [hget]
  dsimp only
  rw [Cm.done_end, if_neg (by simp), if_neg (by simpa using h)]
theorem decode_none (b : List UInt8) (h : (decode b).2 ≠ 0) : (decode b).1 = zero := by
  unfold decode at h ⊢
  by_cases h2 : Cm.done b (got b).2.1 (got b).2.2 = 0
  · rw [if_neg (by simpa using h2)] at h ⊢
    by_cases h3 : older (got b).1 = 0
    · rw [if_neg (by simpa using h3)] at h; exact absurd rfl h
    · rw [if_pos h3]
  · rw [if_pos h2]
theorem got_le (b : List UInt8) : (got b).2.1 ≤ b.length := by
  have l1 := Ms.rnums_le b 4
  unfold got
  split
  · exact Cm.get_le 1 b _ _ l1
  · split
    · rcases Ms.raw_cases b (Ms.rnums b 4).2.1 (Ms.rnums b 4).2.2 l1 with ⟨e, q, _, hq, hr⟩ | ⟨s, q, _, hq, _, hr, _⟩
      · rw [hr]; simpa using hq
      · rw [hr]; simpa using hq
    · split <;> exact l1
theorem decode_ok (b : List UInt8) (h : (decode b).2 = 0) : (decode b).1 = (got b).1 ∧ older (got b).1 = 0 ∧ bytes (got b).1 = b := by
  unfold decode at h ⊢
  by_cases h2 : Cm.done b (got b).2.1 (got b).2.2 = 0
  · rw [if_neg (by simpa using h2)] at h ⊢
    by_cases h3 : older (got b).1 = 0
    · rw [if_neg (by simpa using h3)]
      refine ⟨rfl, h3, ?_⟩
      have her : (got b).2.2 = 0 := by
        unfold Cm.done at h2
        split at h2
        · rename_i hne; exact absurd h2 hne
        · rename_i hne; simpa using hne
      have hpl : ¬ (got b).2.1 < b.length := by
        unfold Cm.done at h2
        rw [if_neg (by simpa using her)] at h2
        intro hlt
        rw [if_pos hlt] at h2
        omega
      clear h h2 h3
      have l1 := Ms.rnums_le b 4
      have hn4 : ∀ x : Rec, x.kind = (base (Ms.rnums b 4).1).kind → x.bal = (base (Ms.rnums b 4).1).bal → x.index = (base (Ms.rnums b 4).1).index → nums x = (Ms.rnums b 4).1 := fun x h1 h2 h3 => by
        unfold nums
        rw [h1, h2, h3]
        exact four (Ms.rnums_len b 4)
      unfold got at her hpl ⊢
      by_cases hc1 : hc (Ms.nth (Ms.rnums b 4).1 0) = true
      · rw [if_pos hc1] at her hpl ⊢
        dsimp only at her hpl ⊢
        obtain ⟨k0, k1, k2⟩ := Cm.get_ok 1 b _ _ her l1
        have k3 := Ms.rnums_ok b 4 k0
        rw [List.take_of_length_le (by omega), k3] at k2
        conv => rhs; rw [k2]
        unfold bytes
        exact congr (congrArg _ (congrArg Ms.nbytes (hn4 _ rfl rfl rfl))) (if_pos hc1)
      · rw [if_neg hc1] at her hpl ⊢
        by_cases hm1 : hm (Ms.nth (Ms.rnums b 4).1 0) = true
        · rw [if_pos hm1] at her hpl ⊢
          dsimp only at her hpl ⊢
          rcases Ms.raw_cases b (Ms.rnums b 4).2.1 (Ms.rnums b 4).2.2 l1 with ⟨e, q, he, _, hr⟩ | ⟨s, q, h0, hq, _, hr, ht⟩
          · rw [hr] at her; exact absurd her he
          · rw [hr] at hpl ⊢
            simp only [Int.toNat_natCast] at hpl
            rw [List.take_of_length_le (by omega), Ms.rnums_ok b 4 h0] at ht
            conv => rhs; rw [ht]
            unfold bytes
            exact congr (congrArg _ (congrArg Ms.nbytes (hn4 _ rfl rfl rfl))) ((if_neg hc1).trans (if_pos hm1))
        · rw [if_neg hm1] at her hpl ⊢
          by_cases hk1 : Ms.nth (Ms.rnums b 4).1 0 = 1
          · rw [if_pos hk1] at her hpl ⊢
            dsimp only at her hpl ⊢
            have k3 := Ms.rnums_ok b 4 her
            rw [List.take_of_length_le (by omega)] at k3
            conv => rhs; rw [k3]
            unfold bytes
            rw [hn4 _ rfl rfl rfl, show tail (base (Ms.rnums b 4).1) = [] from (if_neg hc1).trans (if_neg hm1), List.append_nil]
          · rw [if_neg hk1] at her
            dsimp only at her
            split at her <;> omega
    · rw [if_pos h3] at h; exact absurd h h3
  · rw [if_pos h2] at h; exact absurd h h2
/-- What is read is small. -/
theorem got_inv (b : List UInt8) : (got b).1.Fits ∧ (got b).1.cmd.Short b.length ∧ (got b).1.img.length ≤ b.length := by
  have l1 := Ms.rnums_le b 4
  have hz : Cm.zero.Fits ∧ Cm.zero.Short b.length := ⟨by constructor <;> simp [Cm.zero, Cm.bareOf], by simp [Cm.zero, Cm.bareOf], by simp [Cm.zero, Cm.bareOf], by simp [Cm.zero, Cm.bareOf]⟩
  have hn : ∀ z ∈ (Ms.rnums b 4).1, -9223372036854775808 ≤ z ∧ z ≤ 9223372036854775807 := fun z hz => by
    have := Ms.rnums_num b 4 z hz
    omega
  have h4 : nums (base (Ms.rnums b 4).1) = (Ms.rnums b 4).1 := four (Ms.rnums_len b 4)
  unfold got
  split
  · obtain ⟨_, h2, h3⟩ := Cm.get_inv_at 1 b _ (Ms.rnums b 4).2.2 l1
    exact ⟨⟨fun z hz => hn z (h4 ▸ hz), h3⟩, h2, Nat.zero_le _⟩
  · split
    · refine ⟨⟨fun z hz => hn z (h4 ▸ hz), hz.1⟩, hz.2, ?_⟩
      rcases Ms.raw_cases b (Ms.rnums b 4).2.1 (Ms.rnums b 4).2.2 l1 with ⟨e, q, _, _, hr⟩ | ⟨s, q, _, _, hs, hr, _⟩
      · rw [hr]; simp
      · rw [hr]; exact hs
    · split <;> exact ⟨⟨fun z hz => hn z (h4 ▸ hz), hz.1⟩, hz.2, Nat.zero_le _⟩
theorem small {x : Rec} (h : large x = false) : x.cmd.Short 200 ∧ x.img.length ≤ 32780 := by
  unfold large at h
  simp only [Bool.or_eq_false_iff, decide_eq_false_iff_not] at h
  exact ⟨⟨by omega, by omega, by omega⟩, by omega⟩
/-- Its bytes are not many. -/
theorem bytes_len {x : Rec} (hf : x.Fits) (hs : x.cmd.Short 1000) (hm : x.img.length ≤ 100000) : (bytes x).length ≤ 110000 := by
  have n1 := Ms.nbytes_len (nums x) fun z hz => (hf.n z hz).2
  have h4 : (nums x).length = 4 := rfl
  have h5 := enc_nine (n := x.img.length) (by omega)
  have h6 : (Cm.bytes 1 x.cmd).length ≤ 4000 := by
    have a4 := enc_nine (n := x.cmd.kind.toNat) (by have := hf.c.k1; omega)
    have a5 := enc_nine (n := x.cmd.client.toNat) (by have := hf.c.c1; omega)
    have a6 := enc_nine (n := x.cmd.seq.toNat) (by have := hf.c.q1; omega)
    have a7 := enc_nine (n := x.cmd.node.toNat) (by have := hf.c.n1; omega)
    have a8 := enc_nine (n := x.cmd.key.length) (by have := hs.1; omega)
    have a9 := enc_nine (n := x.cmd.val.length) (by have := hs.2.2; omega)
    have c1 := hs.1
    have c3 := hs.2.2
    unfold Cm.bytes Cm.encoded
    rw [if_pos rfl]
    simp [Cm.fenc, Cm.F.num, Cm.Cmd.n, Cm.Cmd.s, Pk.text]
    omega
  have h7 : (tail x).length ≤ 100009 := by
    unfold tail
    split
    · omega
    · split
      · unfold Pk.text; rw [List.length_append]; omega
      · simp
  unfold bytes
  rw [List.length_append]
  omega
end Re

end Go.Proofs.YtegpfbmanpnhkaaDoor
