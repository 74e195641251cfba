/- frame.Next: the frame at a place. -/
import Derived.Test.YtmhabcabbefncaaDoorFrmLeaf
import Derived.Test.YtmhabcabbefncaaDoorFrmRef
import Derived.Deep.RegionWith
namespace Go.Proofs.YtmhabcabbefncaaDoor
open Go.RowKit

/-- What a reading at a place leaves: new memory of its own, or nothing. -/
def Fresh (w : World) (r : List UInt8 × Int × Int) (e : Ending) (w' : World) : Prop :=
  ∃ v, e = .returned (.tuple #[v, .int .i64 r.2.1, .int .i64 r.2.2]) ∧ Owns w' w.heap.size 5 v r.1 ∧ Below w.heap.size w w'

theorem Fresh.none (w : World) (e : Int) (w' : World) (h : Below w.heap.size w w') : Fresh w ([], 0, e) (.returned (.tuple #[.slice none 0 0, .int .i64 0, .int .i64 e])) w' :=
  ⟨_, rfl, Owns.empty _ _ _, h⟩

set_option maxRecDepth 4000 in
set_option maxHeartbeats 1600000 in
theorem next_any (v : Value) (l : List UInt8) (pl : Int) (w : World) (hv : Reads w v l) (hT : CrcTab w) (hlen : l.length ≤ 140737487000000) :
    Calls Tryd.prog 12 #[v, .int .i64 pl] w (Fresh w (Frm.next l pl)) := by
  obtain ⟨ao, cap, rfl⟩ := hv.shape
  obtain ⟨_, hc1, hc2, _⟩ := hv.len
  rcases Frm.next_cases l pl with ⟨e, he, hg, hn⟩ | ⟨p, n, c, rfl, h2, h3, h4, hg, h5, hcase⟩
  · rw [hn]
    have HG := Lib.hid hg; clear hg hn
    go_enter Tryd.func12, Tryd.ntmps12
    go_wp2_with fail
    refine (get_is _ l pl _ _ _ _ hv HG).mono ?_
    rintro e' w' ⟨rfl, rfl⟩
    go_wp2_with fail
    go_ret3
    exact Fresh.none _ _ _ (Below.refl _ _)
  · have HG := Lib.hid hg; clear hg h5
    obtain ⟨f, hf⟩ : ∃ f, f = p + c := ⟨_, rfl⟩
    rw [← hf] at h2 HG hcase
    have hpf : p < f := by omega
    clear hf
    have hs0 : sizeErr (n : Int) = 3 ∧ n = 0 ∨ sizeErr (n : Int) = 2 ∧ 65536 < n ∨ sizeErr (n : Int) = 0 ∧ 0 < n ∧ n ≤ 65536 := by unfold sizeErr; split; omega; split <;> omega
    rcases hcase with ⟨h0, hn⟩ | ⟨h0, hn⟩ | ⟨h0, h1, ⟨hs, hn⟩ | ⟨hs, hcase⟩⟩
    · rw [hn]; clear hn hs0
      subst h0
      have HS : Hid (sizeErr 0 = 3) := rfl
      go_enter Tryd.func12, Tryd.ntmps12
      go_wp2_with fail
      refine (get_is _ l p _ _ _ _ hv HG).mono ?_
      rintro e' w' ⟨rfl, rfl⟩
      go_wp2_with fail
      refine (sizeError_any _ _).mono ?_
      rintro e' w' ⟨rfl, rfl⟩
      rw [HS.out]
      go_wp2_with fail
      go_ret3
      exact Fresh.none _ _ _ (Below.refl _ _)
    · rw [hn]; clear hn
      have HS : Hid (sizeErr (n : Int) = 2) := by show _ = _; omega
      clear hs0
      go_enter Tryd.func12, Tryd.ntmps12
      go_wp2_with fail
      refine (get_is _ l p _ _ _ _ hv HG).mono ?_
      rintro e' w' ⟨rfl, rfl⟩
      go_wp2_with fail
      refine (sizeError_any _ _).mono ?_
      rintro e' w' ⟨rfl, rfl⟩
      rw [HS.out]
      go_wp2_with fail
      go_ret3
      exact Fresh.none _ _ _ (Below.refl _ _)
    · rw [hn]; clear hn
      have HS : Hid (sizeErr (n : Int) = 0) := by show _ = _; omega
      clear hs0
      go_enter Tryd.func12, Tryd.ntmps12
      go_wp2_with fail
      refine (get_is _ l p _ _ _ _ hv HG).mono ?_
      rintro e' w' ⟨rfl, rfl⟩
      go_wp2_with fail
      refine (sizeError_any _ _).mono ?_
      rintro e' w' ⟨rfl, rfl⟩
      rw [HS.out]
      go_wp2_with fail
      go_ret3
      exact Fresh.none _ _ _ (Below.refl _ _)
    · obtain ⟨b, off, rfl, _⟩ := hv.place (by omega)
      have hr1 := hv.cut f n (by omega)
      have hr2 := hv.cut (f + n) 4 (by omega)
      have hfc : ¬ cap = f := by omega
      have hfn : ¬ cap = f + n := by omega
      have hl1 : ((l.drop f).take n).length ≤ 140737488000000 := by simp; omega
      have HL := Lib.hid hl1
      have HS : Hid (sizeErr (n : Int) = 0) := by show _ = _; omega
      clear hs0 hl1
      have hw : ∀ {t : Bool} {r : List UInt8 × Int × Int}, Hid (((l.drop (f + n)).take 4 == Frm.tail ((l.drop f).take n)) = t) →
          (∀ (w2 : World), Below w.heap.size w w2 → if t = true then ∀ x, Owns w2 w.heap.size 5 x ((l.drop f).take n) → Fresh w r (.returned (.tuple #[x, .int .i64 ((f : Int) + (n : Int) + 4), .int .i64 0])) w2
            else Fresh w r (.returned (.tuple #[.slice none 0 0, .int .i64 0, .int .i64 4])) w2) →
          Calls Tryd.prog 12 #[.slice (some ⟨b, off, none⟩) l.length cap, .int .i64 (p : Int)] w (Fresh w r) := by
        intro t r HT hP
        have HP := Lib.hid hP; clear hP
        go_enter Tryd.func12, Tryd.ntmps12
        go_wp2_with fail
        refine (get_is _ l p _ _ _ _ hv HG).mono ?_
        rintro e' w' ⟨rfl, rfl⟩
        go_wp2_with fail
        refine (sizeError_any _ _).mono ?_
        rintro e' w' ⟨rfl, rfl⟩
        rw [HS.out]
        go_wp2_with fail
        go_region_with (first
          | (go_at_call 20; refine (tail_any _ ((l.drop f).take n) _ ?h1 ?h2).mono ?_; (case h1 => exact hr1); (case h2 => exact hT); rintro e' w1 ⟨x1, rfl, ho1, hb1⟩; obtain ⟨x1o, x1c, rfl⟩ := ho1.reads.shape)
          | (go_at_call 25; refine (equal_any _ _ ((l.drop (f + n)).take 4) (Frm.tail ((l.drop f).take n)) _ ?h1 ?h2).mono ?_; (case h1 => exact hr2.below (on (Below.refl _ w).drew hb1)); (case h2 => exact ho1.reads); rintro e' w2 ⟨rfl, rfl⟩; rw [HT.out]))
        all_goals
          have hB := on (Below.refl w.heap.size w).drew hb1
          cases t with
          | true =>
            go_wp2_with fail
            refine (clone_any _ ((l.drop f).take n) _ (hr1.below hB) (by have := HL.out; omega)).mono ?_
            rintro e' w3 ⟨x3, rfl, ho3, hb3⟩
            go_wp2_with fail
            go_ret3
            have hP := HP.out w3 (on hB hb3)
            simp only [if_true] at hP
            exact hP x3 (ho3.mono hB.size)
          | false =>
            go_wp2_with fail
            go_ret3
            have hP := HP.out _ hB
            rw [if_neg (by simp)] at hP
            exact hP
      rcases hcase with ⟨he, hn⟩ | ⟨he, hn⟩
      · rw [hn]
        refine hw (t := true) (by show _ = _; simpa using he) fun w2 hb2 => ?_
        rw [if_pos rfl]
        exact fun x hx => ⟨x, by simp, hx, hb2⟩
      · rw [hn]
        refine hw (t := false) (by show _ = _; simpa using he) fun w2 hb2 => ?_
        rw [if_neg (by simp)]
        exact Fresh.none _ _ _ hb2
end Go.Proofs.YtmhabcabbefncaaDoor
