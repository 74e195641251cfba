/- The document's own frame (changeoverref03.Frame), and its reading at a place (changeoverref03.Next). -/
import Derived.Test.YtmhabcabbefncaaDoorFrmLeaf
import Derived.Test.YtmhabcabbefncaaDoorRefGet
import Derived.Test.YtmhabcabbefncaaDoorCrcRef
import Derived.Test.YtmhabcabbefncaaDoorSame
namespace Go.Proofs.YtmhabcabbefncaaDoor
open Go.RowKit

theorem le_take (s k : Nat) (hk : k < 4) : (Frm.le s).take (k + 1) = (Frm.le s).take k ++ [UInt8.ofNat (s / 256 ^ k)] := by
  match k, hk with
  | 0, _ => simp [Frm.le]
  | 1, _ => simp [Frm.le]
  | 2, _ => simp [Frm.le]
  | 3, _ => simp [Frm.le]

set_option maxRecDepth 4000 in
set_option maxHeartbeats 800000 in
theorem refFrame_any (v : Value) (m : List UInt8) (w : World) (hv : Reads w v m) (hlen : m.length ≤ 140737488000000) :
    Calls Tryd.prog 11 #[v] w (Makes w 5 (Frm.frame m)) := by
  obtain ⟨ao, cap, rfl⟩ := hv.shape
  have h9 := enc_nine (n := m.length) (by omega)
  go_enter Tryd.func11, Tryd.ntmps11
  go_wp2_with fail
  refine (bytes_any m.length _ (by omega) (by omega)).mono ?_
  rintro e w1 ⟨x1, rfl, ho1, hb1⟩
  rw [Int.toNat_natCast] at ho1
  go_wp2_with (at_builtin; refine append_bytes rfl _ _ 22 5 rfl Tryd.underlying22 info_u8 w.heap.size _ m _ _ rfl rfl ho1 (hv.below hb1) (by omega) w hb1 (Nat.le_refl _) ?_; intro x2 w2 ho2 hb2 _)
  go_wp2_with fail
  refine (refSum_any _ m _ (hv.below hb2)).mono ?_
  rintro e w3 ⟨rfl, rfl⟩
  obtain ⟨s, hs⟩ : ∃ s, s = (Crc.sum m).toNat := ⟨_, rfl⟩
  have hsl : s < 4294967296 := by rw [hs]; exact (Crc.sum m).isLt
  rw [← hs]
  have HS : Hid (Frm.tail m = Frm.le s) := by show _ = _; rw [hs]; rfl
  clear hs ho1 hb1
  go_wp2_with fail
  go_loopw [3, 4, 5] (fun x s' i wr => ∃ k q : Nat, i = .int .i64 (k : Int) ∧ s' = .int .u32 (q : Int) ∧ k ≤ 4 ∧ q < 4294967296 ∧ Hid (q = s / 256 ^ k) ∧ Owns wr w.heap.size 5 x (enc m.length ++ m ++ (Frm.le s).take k) ∧ Below w.heap.size w wr) (fun _ _ i _ => 4 - (intOf i).toNat)
  case atStart => exact ⟨0, s, rfl, rfl, by omega, hsl, show s = s / 256 ^ 0 by simp, by simpa using ho2, hb2⟩
  case round =>
    clear ho2 hb2
    obtain ⟨k, q, rfl, rfl, hk, hq, HQ, ho, hb⟩ := hrel
    by_cases hk4 : k < 4
    · have hsz := hb.size
      have hl2 : (enc m.length ++ m ++ (Frm.le s).take k).length + 1 ≤ 140737488355328 := by simp; omega
      have H2 : Hid ((Frm.le s).take (k + 1) = (Frm.le s).take k ++ [UInt8.ofNat q]) := by show _ = _; rw [le_take s k hk4, HQ.out]
      have H3 : Hid (q / 256 = s / 256 ^ (k + 1)) := by show _ = _; rw [HQ.out, Nat.div_div_eq_div_mul, Nat.pow_succ]
      go_wp2_with (at_builtin; refine append_bytes rfl _ _ 22 5 rfl Tryd.underlying22 info_u8 w.heap.size _ [UInt8.ofNat q] _ _ rfl rfl (ho.alloc _) (Reads.one _ _ _ _ (by rw [UInt8.toNat_ofNat']; omega)) hl2 w (hb.alloc (by omega) _) (Nat.le_refl _) ?_; intro x' w' ho' hb' _)
      go_roundw
      case rel => exact ⟨k + 1, q / 256, by go_num, by go_num, by omega, by omega, H3, by rw [H2.out, ← List.append_assoc]; exact ho', hb'⟩
      case measure => simp [intOf]; omega
    · rw [List.take_of_length_le (by rw [Frm.le_len]; omega)] at ho
      go_wp2
      go_ret
      exact ⟨_, rfl, by unfold Frm.frame; rw [HS.out]; exact ho, hb⟩

/-- b[f:t], which has a byte at least. -/
theorem Reads.cut {w : World} {b off n cap : Nat} {l : List UInt8} (h : Reads w (.slice (some ⟨b, off, none⟩) n cap) l) (f k : Nat) (hk : f + k ≤ l.length) : Reads w (.slice (some ⟨b, off + f, none⟩) k (cap - f)) ((l.drop f).take k) := by
  obtain ⟨ao', cap', hv, h1, h2, h3, h4⟩ := h
  simp only [Value.slice.injEq] at hv
  obtain ⟨rfl, rfl, rfl⟩ := hv
  have e : ((l.drop f).take k).length = k := by simp; omega
  refine ⟨some ⟨b, off + f, none⟩, cap - f, by rw [e], by rw [e]; omega, by omega, (fun h => by cases h), fun x hx j u hu => ?_⟩
  cases hx
  have := h4 _ rfl (f + j) u (by
    simp only [cellsOf, List.getElem?_map, List.getElem?_take, List.getElem?_drop] at hu ⊢
    split at hu
    · exact hu
    · simp at hu)
  rw [Addr.add_lit] at this ⊢
  rw [Nat.add_assoc]; exact this

/-- What a reading at a place leaves: a part of what was read, or nothing. -/
def Parts (w : World) (vb : Value) (l : List UInt8) (r : List UInt8 × Int × Int) (e : Ending) (w' : World) : Prop :=
  ∃ v, e = .returned (.tuple #[v, .int .i64 r.2.1, .int .i64 r.2.2]) ∧ (∀ w0, Reads w0 vb l → Reads w0 v r.1) ∧ Below w.heap.size w w'

theorem Parts.none (w : World) (vb : Value) (l : List UInt8) (e : Int) (w' : World) (h : Below w.heap.size w w') : Parts w vb l ([], 0, e) (.returned (.tuple #[.slice none 0 0, .int .i64 0, .int .i64 e])) w' :=
  ⟨_, rfl, fun w0 _ => Reads.empty w0, h⟩

set_option maxRecDepth 4000 in
set_option maxHeartbeats 1600000 in
theorem refNext_any (v : Value) (l : List UInt8) (pl : Int) (w : World) (hv : Reads w v l) (hlen : l.length ≤ 140737487000000) :
    Calls Tryd.prog 13 #[v, .int .i64 pl] w (Parts w v l (Frm.next l pl)) := by
  obtain ⟨ao, cap, rfl⟩ := hv.shape
  obtain ⟨_, hc1, hc2, _⟩ := hv.len
  rcases Frm.next_cases l pl with ⟨e, he, hg, hn⟩ | ⟨p, n, c, rfl, h2, h3, h4, hg, h5, hcase⟩
  · rw [hn]
    have HG := Lib.hid hg; clear hg hn
    go_enter Tryd.func13, Tryd.ntmps13
    go_wp2_with fail
    refine (refGet_is _ l pl _ _ _ _ hv HG).mono ?_
    rintro e' w' ⟨rfl, rfl⟩
    go_wp2_with fail
    go_ret3
    exact Parts.none _ _ _ _ _ (Below.refl _ _)
  · have HG := Lib.hid hg; clear hg
    obtain ⟨f, hf⟩ : ∃ f, f = p + c := ⟨_, rfl⟩
    rw [← hf] at h2 HG hcase
    have hpf : p < f := by omega
    have HF := Lib.hid hf; clear hf
    have H5 := Lib.hid h5; clear h5
    rcases hcase with ⟨h0, hn⟩ | ⟨h0, hn⟩ | ⟨h0, h1, ⟨hs, hn⟩ | ⟨hs, hcase⟩⟩
    · rw [hn]; clear hn
      subst h0
      go_enter Tryd.func13, Tryd.ntmps13
      go_wp2_with fail
      refine (refGet_is _ l p _ _ _ _ hv HG).mono ?_
      rintro e' w' ⟨rfl, rfl⟩
      go_wp2_with fail
      go_ret3
      exact Parts.none _ _ _ _ _ (Below.refl _ _)
    · rw [hn]; clear hn
      go_enter Tryd.func13, Tryd.ntmps13
      go_wp2_with fail
      refine (refGet_is _ l p _ _ _ _ hv HG).mono ?_
      rintro e' w' ⟨rfl, rfl⟩
      go_wp2_with fail
      go_ret3
      exact Parts.none _ _ _ _ _ (Below.refl _ _)
    · rw [hn]; clear hn
      go_enter Tryd.func13, Tryd.ntmps13
      go_wp2_with fail
      refine (refGet_is _ l p _ _ _ _ hv HG).mono ?_
      rintro e' w' ⟨rfl, rfl⟩
      go_wp2_with fail
      go_ret3
      exact Parts.none _ _ _ _ _ (Below.refl _ _)
    · have hf := HF.out
      obtain ⟨b, off, rfl, _⟩ := hv.place (by omega)
      have hr1 := hv.cut f n (by omega)
      have hr2 := hv.cut p (f + n + 4 - p) (by omega)
      have hsame := Frm.frame_there (l := l) (p := p) (n := n) (c := c) (by omega) H5.out
      rw [← hf, show c + n + 4 = f + n + 4 - p by omega] at hsame
      have hl1 : ((l.drop f).take n).length ≤ 140737488000000 := by simp; omega
      have hfc : ¬ cap = f := by omega
      have hpc : ¬ cap = p := by omega
      have HL := Lib.hid hl1
      clear hf hl1 H5
      have hw : ∀ {t : Bool} {r : List UInt8 × Int × Int}, Hid ((Frm.frame ((l.drop f).take n) == (l.drop p).take (f + n + 4 - p)) = t) →
          (∀ w2 : World, Below w.heap.size w w2 → if t = true then Parts w (.slice (some ⟨b, off, none⟩) l.length cap) l r (.returned (.tuple #[.slice (some ⟨b, off + f, none⟩) (f + n - f) (cap - f), .int .i64 ((f : Int) + (n : Int) + 4), .int .i64 0])) w2
            else Parts w (.slice (some ⟨b, off, none⟩) l.length cap) l r (.returned (.tuple #[.slice none 0 0, .int .i64 0, .int .i64 4])) w2) →
          Calls Tryd.prog 13 #[.slice (some ⟨b, off, none⟩) l.length cap, .int .i64 (p : Int)] w (Parts w (.slice (some ⟨b, off, none⟩) l.length cap) l r) := by
        intro t r HT hP
        go_enter Tryd.func13, Tryd.ntmps13
        go_wp2_with fail
        refine (refGet_is _ l p _ _ _ _ hv HG).mono ?_
        rintro e' w' ⟨rfl, rfl⟩
        go_wp2_with fail
        refine (refFrame_any _ _ _ hr1 HL.out).mono ?_
        rintro e' w1 ⟨x1, rfl, ho1, hb1⟩
        obtain ⟨x1o, x1c, rfl⟩ := ho1.reads.shape
        go_wp2_with fail
        refine (same_any _ _ _ _ _ ho1.reads (hr2.below hb1)).mono ?_
        rintro e' w2 ⟨rfl, q, rfl⟩
        rw [HT.out]
        have hP2 := hP _ (on hb1 (drawn _ q))
        cases t with
        | true =>
          rw [if_pos rfl] at hP2
          go_wp2_with fail
          go_ret3
          exact hP2
        | false =>
          rw [if_neg (by simp)] at hP2
          go_wp2_with fail
          go_ret3
          exact hP2
      have hf := HF.out
      rcases hcase with ⟨he, hn⟩ | ⟨he, hn⟩
      · rw [hn]
        refine hw (t := true) (hsame.trans (by simpa using he)) fun w2 hb2 => ?_
        rw [if_pos rfl]
        exact ⟨_, rfl, fun w0 h0 => by rw [Nat.add_sub_cancel_left]; exact h0.cut f n (by omega), hb2⟩
      · rw [hn]
        refine hw (t := false) (hsame.trans (by simpa using he)) fun w2 hb2 => ?_
        rw [if_neg (by simp)]
        exact Parts.none _ _ _ _ _ hb2
end Go.Proofs.YtmhabcabbefncaaDoor
