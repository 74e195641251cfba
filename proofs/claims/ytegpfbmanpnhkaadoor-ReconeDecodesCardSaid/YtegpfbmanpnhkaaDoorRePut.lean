/- A record encoded in F1. -/
import Derived.Test.YtegpfbmanpnhkaaDoorReOld
import Derived.Test.YtegpfbmanpnhkaaDoorGMp
import Derived.BigRegion
namespace Go.Proofs.YtegpfbmanpnhkaaDoor
open Go.RowKit

/-- Where the four numbers of a record are that lies in block g. -/
abbrev RPtrs (w : World) (h g : Nat) : Prop := Lies w h 51 #[.pointer (some ⟨g, 0, none⟩), .pointer (some ⟨g, 1, none⟩), .pointer (some ⟨g, 2, none⟩), .pointer (some ⟨g, 3, none⟩)]
theorem RPtrs.at {w : World} {h g : Nat} (hp : RPtrs w h g) (k : Nat) (hk : k < 4) : w.cell? ⟨h, k, none⟩ = some (.pointer (some ⟨g, k, none⟩)) := by
  have : k = 0 ∨ k = 1 ∨ k = 2 ∨ k = 3 := by omega
  rcases this with rfl | rfl | rfl | rfl <;> exact hp.cell _ _ rfl

set_option maxRecDepth 4000 in
set_option maxHeartbeats 3200000 in
theorem reNumbers_any (g : Nat) (w : World) : Calls Tryd.prog 26 #[.pointer (some ⟨g, 0, none⟩)] w
    fun e w' => e = .returned (.slice (some ⟨w.heap.size, 0, none⟩) 4 4) ∧ RPtrs w' w.heap.size g ∧ Below w.heap.size w w' := by
  obtain ⟨w1, e1, hl1, hB1⟩ : ∃ w1, w.alloc (.cells #[.pointer (some ⟨g, 0, none⟩), .pointer (some ⟨g, 1, none⟩), .pointer (some ⟨g, 2, none⟩), .pointer (some ⟨g, 3, none⟩)] 51) = w1 ∧ RPtrs w1 w.heap.size g ∧ Below w.heap.size w w1 :=
    ⟨_, rfl, Lies.new _ _ _, (Below.refl _ w).alloc (Nat.le_refl _) _⟩
  have HL := Lib.hid hl1; have HB := Lib.hid hB1
  clear hl1 hB1
  go_enter Tryd.func26, Tryd.ntmps26
  go_wp2
  go_region
  all_goals
    go_wp2
    go_ret
    exact ⟨rfl, HL.out.below (drawn _ _) HL.out.lt, on HB.out (drawn _ _)⟩

/-- What an encoding gives. -/
def REncd (w : World) (x : Re.Rec) (e : Ending) (w' : World) : Prop :=
  Below w.heap.size w w' ∧ ∃ u, e = .returned (.tuple #[u, .int .i64 (Re.older x)]) ∧ Reads w' u (if Re.older x = 0 then Re.bytes x else [])

theorem Re.nums_at (m : Re.Rec) (k : Nat) (hk : k < 4) : Ms.nbytes ((Re.nums m).take (k + 1)) = Ms.nbytes ((Re.nums m).take k) ++ enc (Ms.nth (Re.nums m) k).toNat := by
  have h : (Re.nums m)[k]? = some (Ms.nth (Re.nums m) k) := by
    unfold Ms.nth
    rw [List.getD_eq_getElem?_getD, List.getElem?_eq_getElem (show k < (Re.nums m).length from hk)]
    rfl
  rw [List.take_add_one, h, Ms.nbytes_app]
  show _ ++ Ms.nbytes [_] = _
  rw [Ms.nbytes_one]
theorem Re.nth_in (m : Re.Rec) {k : Nat} (hk : k < 4) : Ms.nth (Re.nums m) k ∈ Re.nums m := by
  have : k = 0 ∨ k = 1 ∨ k = 2 ∨ k = 3 := by omega
  rcases this with rfl | rfl | rfl | rfl <;> simp [Ms.nth, Re.nums]
/-- What stands behind the numbers, by the kind. -/
theorem Re.tails {x : Re.Rec} (h : Re.older x = 0) : (x.kind = 1 ∧ Re.bytes x = Ms.nbytes (Re.nums x)) ∨ (x.kind = 2 ∧ Re.bytes x = Ms.nbytes (Re.nums x) ++ Cm.bytes 1 x.cmd) ∨ (x.kind = 3 ∧ Re.bytes x = Ms.nbytes (Re.nums x) ++ Cm.bytes 1 x.cmd) ∨ (x.kind = 4 ∧ Re.bytes x = Ms.nbytes (Re.nums x) ++ Pk.text x.img) := by
  have hk := (Re.check_good (Re.older_good h).1).kind
  unfold Re.bytes Re.tail
  rcases Re.kinds x.kind with h | h | h | h | h
  · exact .inl ⟨h, by rw [h]; show _ ++ [] = _; rw [List.append_nil]⟩
  · exact .inr (.inl ⟨h, by rw [h]; rfl⟩)
  · exact .inr (.inr (.inl ⟨h, by rw [h]; rfl⟩))
  · exact .inr (.inr (.inr ⟨h, by rw [h]; rfl⟩))
  · rw [(Re.has_no h).2.2.2.2] at hk; cases hk

set_option maxRecDepth 4000 in
set_option maxHeartbeats 3200000 in
theorem encodeRe_any (m : Re.Rec) (vi : Value) (w : World) (hW : WordsIn w) (hi : Reads w vi m.img) (hf : m.Fits) (hs : m.cmd.Short 1000) (hk : m.img.length ≤ 100000) :
    Calls Tryd.prog 12 #[.agg (Re.cells m vi)] w (REncd w m) := by
  obtain ⟨w1, e1, hl1, hB1, hz1⟩ := box_rec w m vi
  obtain ⟨p0, p1, p2, p3, p4, p5, p6, p7, p8, p9, p10, p11⟩ := Recs.all hl1
  have HM1 := Lib.hid hl1; have HB1 := Lib.hid hB1; have HS := Lib.hid hz1
  have HI1 := Lib.hid (hi.below hB1)
  have HC1 := Lib.hid (olderRe_any m vi w1 (hW.below hB1) HI1.out ⟨Nat.le_trans hs.1 (by omega), Nat.le_trans hs.2.1 (by omega), Nat.le_trans hs.2.2 (by omega)⟩)
  have HFIT := Lib.hid hf; have HSH := Lib.hid hs
  have HNUM : Hid (∀ k, k < 4 → -9223372036854775808 ≤ Ms.nth (Re.nums m) k ∧ Ms.nth (Re.nums m) k ≤ 9223372036854775807) := fun k hk => hf.n _ (Re.nth_in m hk)
  have HNB : Hid (∀ k, (Ms.nbytes ((Re.nums m).take k)).length ≤ 36) := by
    intro k
    have := Ms.nbytes_len ((Re.nums m).take k) fun x hx => (hf.n x (List.mem_of_mem_take hx)).2
    rw [List.length_take] at this
    have h4 : (Re.nums m).length = 4 := rfl
    omega
  have HKK := Lib.hid hk
  have HBL : Hid ((Re.bytes m).length ≤ 110000) := Re.bytes_len hf hs hk
  have HTAIL := Lib.hid (fun h : Re.older m = 0 => Re.tails h)
  unfold REncd
  obtain ⟨c, hc⟩ : ∃ c, c = Re.older m := ⟨_, rfl⟩
  rw [← hc] at HC1 HTAIL ⊢
  clear hl1 hB1 hz1 hW hi hs hf hk hc
  go_enter Tryd.func12, Tryd.ntmps12
  go_wp2_with fail
  refine HC1.out.mono ?_
  rintro e2 w2 ⟨rfl, hb⟩
  have HM2 := Lib.hid (HM1.out.below hb HM1.out.lt); have HB2 := Lib.hid hb
  have HX2 := Lib.hid (HB1.out.trans (hb.mono HB1.out.size))
  clear hb p0 p1 p2 p3 p4 p5 p6 p7 p8 p9 p10 p11
  by_cases h0 : c = 0
  · subst h0
    have HT := Lib.hid (HTAIL.out rfl)
    clear HTAIL
    have hs1 := HS.out
    obtain ⟨w3, e3, hw3, hB3⟩ : ∃ w3, w2.alloc (.cells #[.slice none 0 0] 47) = w3 ∧ Wrt w3 w1.heap.size w2.heap.size (.slice none 0 0) [] ∧ Below w2.heap.size w2 w3 :=
      ⟨_, rfl, Wr.fresh _ _ _ _ HB2.out.size, (Below.refl _ _).alloc (Nat.le_refl _) _⟩
    have HM3 := Lib.hid (HM2.out.below hB3 HM2.out.lt); have HB3 := Lib.hid (HB2.out.trans (hB3.mono HB2.out.size)); have HW3 := Lib.hid hw3
    have HZ3 : Hid (w.heap.size < w2.heap.size ∧ w2.heap.size < w3.heap.size) := ⟨by have := HB2.out.size; omega, hw3.lies.lt⟩
    clear hw3 hB3 hs1
    go_wp2_with fail
    refine (reNumbers_any w.heap.size _).mono ?_
    rintro e4 w4 ⟨rfl, hp4, hb⟩
    have HM4 := Lib.hid (HM3.out.below hb HM3.out.lt); have HB4 := Lib.hid (HB3.out.trans (hb.mono HB3.out.size)); have HW4 := Lib.hid (HW3.out.grown hb); have HP4 := Lib.hid hp4
    clear hp4 hb
    go_wp2
    go_loopw [15] (fun i wr => ∃ (k : Nat) (u : Value), i = .int .i64 (k : Int) ∧ k ≤ 4 ∧ Hid (Below w1.heap.size w1 wr) ∧ Hid (Wrt wr w1.heap.size w2.heap.size u (Ms.nbytes ((Re.nums m).take k))) ∧ Hid (Recs wr w.heap.size m vi) ∧ Hid (RPtrs wr w3.heap.size w.heap.size)) (fun i _ => 4 - (intOf i).toNat)
    case atStart => exact ⟨0, .slice none 0 0, rfl, by omega, HB4, HW4, HM4, HP4⟩
    case round =>
      obtain ⟨k, u, rfl, hk, HB, HW, HM, HP⟩ := hrel
      by_cases hlt : k < 4
      · have hp := HP.out.at k hlt
        have hq := Recs.num HM.out k hlt
        have HX := Lib.hid (HNUM.out k hlt)
        have HST := Lib.hid (Re.nums_at m k hlt)
        have HLE := Lib.hid (HNB.out k)
        obtain ⟨x, hx⟩ : ∃ x, x = Ms.nth (Re.nums m) k := ⟨_, rfl⟩
        rw [← hx] at hq HX HST
        clear hx
        go_wp2_with fail
        refine (wnum_any x _ w1.heap.size w2.heap.size u _ HW.out (Nat.le_trans (Nat.le_refl _) HB.out.size) (by have := HLE.out; omega) HX.out.1 HX.out.2).mono ?_
        rintro e5 w5 ⟨rfl, u5, hw5, hg5⟩
        have HB5 := Lib.hid (HB.out.trans (HW.out.below hg5 HB.out.size))
        have hsp := Spares.of_grew HW.out hg5
        have HM5 := Lib.hid (hsp _ _ _ (by have := HZ3.out; omega) (by decide) HM.out)
        have HP5 := Lib.hid (hsp _ _ _ (by have := HZ3.out; omega) (by decide) HP.out)
        rw [← HST.out] at hw5
        have HW5 := Lib.hid hw5
        clear hsp hw5 hg5 hp hq
        go_wp2
        go_roundw
        case rel => exact ⟨k + 1, u5, by go_num, by omega, HB5, HW5, HM5, HP5⟩
        case measure => simp [intOf]; omega
      · obtain rfl : k = 4 := by omega
        have hw5 := HW.out
        rw [show (Re.nums m).take 4 = Re.nums m from rfl] at hw5
        have HW5 := Lib.hid hw5
        have HLE := Lib.hid (HNB.out 4)
        rw [show (Re.nums m).take 4 = Re.nums m from rfl] at HLE
        obtain ⟨p0, p1, p2, p3, p4, p5, p6, p7, p8, p9, p10, p11⟩ := Recs.all HM.out
        clear hw5
        have hend : ∀ W U, Wrt W w1.heap.size w2.heap.size U (Re.bytes m) → Below w1.heap.size w1 W → Calls Tryd.prog 30 #[.pointer (some ⟨w2.heap.size, 0, none⟩)] W (fun e w' => ∃ u8, e = .returned u8 ∧ Reads w' u8 (Re.bytes m) ∧ Below w.heap.size w w') := by
          intro W U hU hb
          refine (wbytes_any _ w1.heap.size w2.heap.size U _ hU (by have := HBL.out; omega)).mono ?_
          rintro e8 w8 ⟨u8, rfl, ho8, hb8⟩
          exact ⟨u8, rfl, ho8.reads, HB1.out.trans ((hb.trans (hb8.mono hb.size)).mono HB1.out.size)⟩
        have HEND := Lib.hid hend
        clear hend
        rcases HT.out with ⟨hk, hby⟩ | ⟨hk, hby⟩ | ⟨hk, hby⟩ | ⟨hk, hby⟩
        · rw [hk] at p0
          have HW6 : Hid (Wrt wr w1.heap.size w2.heap.size u (Re.bytes m)) := by show Wrt _ _ _ _ _; rw [hby]; exact HW5.out
          clear hk hby
          go_wp2_with fail
          refine (HEND.out _ _ HW6.out HB.out).mono ?_
          rintro e8 w8 ⟨u8, rfl, ho8, hb8⟩
          have HO8 := Lib.hid ho8; have HB8 := Lib.hid hb8
          clear ho8 hb8
          go_wp2
          go_ret2
          exact ⟨HB8.out, u8, rfl, HO8.out⟩
        · rw [hk] at p0
          have HBY := Lib.hid hby
          clear hk hby
          go_wp2_with fail
          refine (cput_at 1 m.cmd _ w1.heap.size w2.heap.size u _ rfl HW5.out (by have := HLE.out; omega) HB.out.size HFIT.out.c HSH.out).mono ?_
          rintro e6 w6 ⟨rfl, u6, hw6, _, hb6⟩
          have HW6 : Hid (Wrt w6 w1.heap.size w2.heap.size u6 (Re.bytes m)) := by show Wrt _ _ _ _ _; rw [HBY.out]; exact hw6
          have HB6 := Lib.hid (HB.out.trans hb6)
          clear hw6 hb6 p0 p1 p2 p3 p4 p5 p6 p7 p8 p9 p10 p11
          go_wp2_with fail
          refine (HEND.out _ _ HW6.out HB6.out).mono ?_
          rintro e8 w8 ⟨u8, rfl, ho8, hb8⟩
          have HO8 := Lib.hid ho8; have HB8 := Lib.hid hb8
          clear ho8 hb8
          go_wp2
          go_ret2
          exact ⟨HB8.out, u8, rfl, HO8.out⟩
        · rw [hk] at p0
          have HBY := Lib.hid hby
          clear hk hby
          go_wp2_with fail
          refine (cput_at 1 m.cmd _ w1.heap.size w2.heap.size u _ rfl HW5.out (by have := HLE.out; omega) HB.out.size HFIT.out.c HSH.out).mono ?_
          rintro e6 w6 ⟨rfl, u6, hw6, _, hb6⟩
          have HW6 : Hid (Wrt w6 w1.heap.size w2.heap.size u6 (Re.bytes m)) := by show Wrt _ _ _ _ _; rw [HBY.out]; exact hw6
          have HB6 := Lib.hid (HB.out.trans hb6)
          clear hw6 hb6 p0 p1 p2 p3 p4 p5 p6 p7 p8 p9 p10 p11
          go_wp2_with fail
          refine (HEND.out _ _ HW6.out HB6.out).mono ?_
          rintro e8 w8 ⟨u8, rfl, ho8, hb8⟩
          have HO8 := Lib.hid ho8; have HB8 := Lib.hid hb8
          clear ho8 hb8
          go_wp2
          go_ret2
          exact ⟨HB8.out, u8, rfl, HO8.out⟩
        · rw [hk] at p0
          have HBY := Lib.hid hby
          clear hk hby
          go_wp2_with fail
          refine (wraw_out vi m.img _ w1.heap.size w2.heap.size u _ HW5.out HB.out.size (by have := HLE.out; omega) (by have := HKK.out; omega) (fun W h => HI1.out.below (HB.out.trans h))).mono ?_
          rintro e6 w6 ⟨rfl, u6, hw6, hb6⟩
          have HW6 : Hid (Wrt w6 w1.heap.size w2.heap.size u6 (Re.bytes m)) := by show Wrt _ _ _ _ _; rw [HBY.out]; exact hw6
          have HB6 := Lib.hid (HB.out.trans hb6)
          clear hw6 hb6 p0 p1 p2 p3 p4 p5 p6 p7 p8 p9 p10 p11
          go_wp2_with fail
          refine (HEND.out _ _ HW6.out HB6.out).mono ?_
          rintro e8 w8 ⟨u8, rfl, ho8, hb8⟩
          have HO8 := Lib.hid ho8; have HB8 := Lib.hid hb8
          clear ho8 hb8
          go_wp2
          go_ret2
          exact ⟨HB8.out, u8, rfl, HO8.out⟩
  · have hne : (c != 0) = true := by simpa using h0
    go_wp2
    go_ret2
    exact ⟨HX2.out, _, rfl, Reads.empty _⟩

end Go.Proofs.YtegpfbmanpnhkaaDoor
