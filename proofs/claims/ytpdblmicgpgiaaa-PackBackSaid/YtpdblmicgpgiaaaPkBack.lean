/- PackBack's walk. -/
import Derived.Test.YtpdblmicgpgiaaaPkPut
import Derived.Deep.RegionHeld3
namespace Go.Proofs.Ytpdblmicgpgiaaa
open Go.RowKit

theorem Pk.all_app (l m : List Fld) : Pk.all (l ++ m) = Pk.all l ++ Pk.all m := by simp [Pk.all]
/-- The bytes before a field, its own, and those behind it. -/
theorem Pk.all_split {l : List Fld} {i : Nat} {f : Fld} (h : l[i]? = some f) : ∃ post, Pk.all l = Pk.all (l.take i) ++ (Pk.one f ++ post) := by
  refine ⟨Pk.all (l.drop (i + 1)), ?_⟩
  rw [← Pk.all_cons, ← Pk.all_app, ← drop_at h, List.take_append_drop]

theorem Pk.num_long (pre post : List UInt8) {N : Nat} {most : Int} (hN : N ≤ 9223372036854775807) (hm : most < (N : Int)) :
    Pk.num (pre ++ (enc N ++ post)) (pre.length : Nat) most = (0, ((pre.length : Nat) : Int), 2) := by
  unfold Pk.num
  rw [Pk.getp_enc pre post hN]
  simp [hm]

theorem Rdr.drew {w : World} {B o : Nat} {v : Value} {b : List UInt8} {p : Nat} {er : Int} (h : Rdr w B o v b p er) : Rdr w.drew B o v b p er := h.kept (Below.refl _ w).drew

set_option maxRecDepth 4000 in
set_option maxHeartbeats 3200000 in
theorem packBack_any (v : Value) (l : List Fld) (w : World) (hv : ReadsF w v l) : Calls Try.prog 5 #[v] w (Truly w) := by
  obtain ⟨t, ht⟩ : ∃ t, Pk.large l = t := ⟨_, rfl⟩
  obtain ⟨ao, cap, rfl, hc1, hc2⟩ := hv.shape
  have HT := Lib.hid ht
  cases t with
  | true =>
    clear ht
    go_enter Try.func5, Try.ntmps5
    go_wp2_with fail
    refine (large_any _ l _ hv).mono ?_
    rintro e0 w0 ⟨rfl, rfl⟩
    rw [HT.out]
    go_wp2_with fail
    refine (awake_any _).mono ?_
    rintro e w1 ⟨rfl, hb⟩
    go_wp2
    go_ret
    exact ⟨rfl, hb⟩
  | false =>
    have hfit := hv.fits
    have hlen := Pk.take_len ht hfit
    have hsm := (Pk.large_not ht).2
    have hlen' : (Pk.all l).length ≤ 12540 := by have := hlen l.length; rwa [List.take_length] at this
    obtain ⟨n, hn⟩ : ∃ n, n = l.length := ⟨_, rfl⟩
    have hpl : 0 < l.length → ∃ b off, ao = some ⟨b, off, none⟩ ∧ ∀ w', Below w.heap.size w w' → ∀ i f, l[i]? = some f → w'.cell? ⟨b, off + i * 4, none⟩ = some (.int .i64 f.kind) ∧ w'.cell? ⟨b, off + i * 4 + 1, none⟩ = some (.int .i64 f.n) ∧
      w'.cell? ⟨b, off + i * 4 + 2, none⟩ = some (.string ⟨f.s.toArray⟩) ∧ w'.cell? ⟨b, off + i * 4 + 3, none⟩ = some (.bool f.is) := fun h => hv.places h
    have hend : ∀ (wr : World) (o : Nat) (u : Value), Rdr wr w.heap.size o u (Pk.all l) (Pk.all l).length 0 → Pk.done (Pk.all l) (Pk.all l).length 0 = 0 := fun _ _ _ _ => by simp [Pk.done]
    go_enter Try.func5, Try.ntmps5
    go_wp2_with fail
    refine (large_any _ l _ hv).mono ?_
    rintro e0 w0 ⟨rfl, rfl⟩
    rw [HT.out]
    go_wp2_with fail
    refine (lawput_any _ l _ hv ht).mono ?_
    rintro e1 w1 ⟨u1, rfl, ho1, hb1⟩
    go_wp2_with fail
    refine (newreader_any _ _ _ w.heap.size hb1.size ho1.reads (by omega)).mono ?_
    rintro e2 w2 ⟨o, rv, rfl, hoo, hr0, hb2⟩
    have hb2 := on hb1 hb2
    have hob : w.heap.size ≤ o := Nat.le_trans hb1.size hoo
    clear ho1 hb1 hoo hv ht HT
    have HN := Lib.hid hn
    have HP := Lib.hid hpl
    have HF := Lib.hid hfit
    have HL := Lib.hid hlen
    have HS := Lib.hid hsm
    have HE := Lib.hid hend
    rw [← hn] at hc1 ⊢
    clear hn hpl hfit hlen hsm hend
    go_wp2
    go_loopw [4] (fun y wr => ∃ i : Nat, y = .int .i64 (i : Int) ∧ i ≤ n ∧ Rdr wr w.heap.size o rv (Pk.all l) (Pk.all (l.take i)).length 0 ∧ Below w.heap.size w wr) (fun y _ => n - (intOf y).toNat)
    case atStart => exact ⟨0, rfl, by omega, by rw [List.take_zero]; exact hr0, hb2⟩
    case round =>
      obtain ⟨i, rfl, hi, hr, hb⟩ := hrel
      clear hr0 hb2
      have hsz := hb.size
      by_cases hlt : i < n
      · obtain ⟨f, hf⟩ : ∃ f, l[i]? = some f := ⟨_, List.getElem?_eq_getElem (by have := HN.out; omega)⟩
        have hm := List.mem_of_getElem? hf
        obtain ⟨hk0, hk1, hz0, hz1, hs1⟩ := HF.out f hm
        have hs := HS.out f hm
        obtain ⟨b, off, rfl, hc⟩ := HP.out (by have := HN.out; omega)
        have hcell := fun w' (hb' : Below w.heap.size w w') => hc w' hb' i f hf
        obtain ⟨hc0, hc1', hc2', hc3⟩ := hcell _ hb
        obtain ⟨post, hpost⟩ := Pk.all_split hf
        have hnx := Pk.take_next hf
        obtain ⟨k, z, s, t⟩ := f
        dsimp only at *
        have HCELL := Lib.hid hcell
        clear hf hm hc hcell
        obtain ⟨A, hA⟩ : ∃ A, A = Pk.all (l.take i) := ⟨_, rfl⟩
        rw [← hA] at hr hpost hnx
        have hlA := hr.inn
        have HX := Lib.hid hnx
        have HPO := Lib.hid hpost
        clear hnx hA hpost
        rcases (show k = 1 ∨ k = 2 ∨ k = 3 ∨ (k ≠ 1 ∧ k ≠ 2 ∧ k ≠ 3) by omega) with rfl | rfl | rfl | ⟨n1, n2, n3⟩
        · by_cases hz : z ≤ 4611686018427387904
          · have hnum : Hid (Pk.num (Pk.all l) (A.length : Nat) 4611686018427387904 = ((z.toNat : Int), ((A.length + (Pk.one ⟨1, z, s, t⟩).length : Nat) : Int), 0)) := by
              show _ = _
              rw [HPO.out]
              exact Pk.num_enc A post (N := z.toNat) (by omega) (by omega)
            have hzz : ¬ (4611686018427387904 : Int) < z := by omega
            obtain ⟨y, hy⟩ : ∃ y, y = (z.toNat : Int) := ⟨_, rfl⟩
            obtain ⟨q, hq⟩ : ∃ q, q = A.length + (Pk.one ⟨1, z, s, t⟩).length := ⟨_, rfl⟩
            rw [← hy, ← hq] at hnum
            have hq' : q = (Pk.all (l.take (i + 1))).length := by rw [HX.out, List.length_append, hq]
            have HQ := Lib.hid hq'
            clear hq hq'
            rcases (show z < 0 ∧ y = 0 ∨ 0 ≤ z ∧ y = z by omega) with ⟨hneg, rfl⟩ | ⟨hpos, rfl⟩
            all_goals
              clear hy
              first
                | (have hne : ((0 : Int) != z) = true := by simp; omega
                   have hge : decide ((0 : Int) ≤ z) = false := by simp; omega)
                | have hne : (y != y) = false := by simp
              go_wp2
              first | (go_region_with (first
                | (go_at_call 17; refine (rnum_is 4611686018427387904 _ w.heap.size o rv (Pk.all l) A.length _ q 0 hr.drew (by simp) hnum).mono ?_; rintro e1 w1 ⟨rfl, hr1, hg1⟩; have hb1 := hb.drew.grown hg1 hsz (by rintro k hk; cases hk; exact hob); obtain ⟨hd0, hd1, hd2, hd3⟩ := HCELL.out _ hb1))) | fail
            all_goals
              go_wp2
              go_roundw
              case rel => exact ⟨i + 1, by go_num, by omega, by rw [← HQ.out]; exact hr1, hb1⟩
              case measure => simp [intOf]; omega
          · have hnum : Hid (Pk.num (Pk.all l) (A.length : Nat) 4611686018427387904 = (0, ((A.length : Nat) : Int), 2)) := by
              show _ = _
              rw [HPO.out]
              exact Pk.num_long A post (N := z.toNat) (by omega) (by omega)
            have hzz : (4611686018427387904 : Int) < z := by omega
            have hne : ((0 : Int) != z) = true := by simp; omega
            have hge : decide ((0 : Int) ≤ z) = true := by simp; omega
            have hle : decide (z ≤ (4611686018427387904 : Int)) = false := by simp; omega
            clear hz
            go_wp2
            first
              | (go_region_with (first
                  | (go_at_call 17; refine (rnum_is 4611686018427387904 _ w.heap.size o rv (Pk.all l) A.length 0 A.length 2 hr.drew (by simp) hnum).mono ?_; rintro e1 w1 ⟨rfl, hr1, hg1⟩; have hb1 := hb.drew.grown hg1 hsz (by rintro k hk; cases hk; exact hob); obtain ⟨hd0, hd1, hd2, hd3⟩ := HCELL.out _ hb1)))
              | fail
            all_goals
              go_wp2_with fail
              refine (awake_any _).mono ?_
              rintro e2 w2 ⟨rfl, hb2⟩
              go_wp2
              go_ret
              exact ⟨rfl, hb1.trans (hb2.mono hb1.size)⟩
        · have htxt : Hid (Pk.txt (Pk.all l) (A.length : Nat) 200 = (s, ((A.length + (Pk.one ⟨2, z, s, t⟩).length : Nat) : Int), 0)) := by
            show _ = _
            rw [HPO.out]
            rw [show Pk.one ⟨2, z, s, t⟩ = Pk.text s by simp [Pk.one]]
            exact Pk.txt_text A post (s := s) (by omega) (by omega)
          obtain ⟨q, hq⟩ : ∃ q, q = A.length + (Pk.one ⟨2, z, s, t⟩).length := ⟨_, rfl⟩
          rw [← hq] at htxt
          have hq' : q = (Pk.all (l.take (i + 1))).length := by rw [HX.out, List.length_append, hq]
          have HQ := Lib.hid hq'
          clear hq hq'
          obtain ⟨S, hS⟩ : ∃ S : ByteArray, S = ⟨s.toArray⟩ := ⟨_, rfl⟩
          rw [← hS] at hc2'
          have HSS := Lib.hid hS
          have HCS : Hid (∀ w', Below w.heap.size w w' → w'.cell? ⟨b, off + i * 4 + 2, none⟩ = some (.string S)) := by
            show ∀ w', _ → _
            intro w' hb'
            rw [HSS.out]
            exact (HCELL.out w' hb').2.2.1
          clear HCELL hS
          go_wp2
          first
            | (go_region_held3 (fun w' => w'.cell? ⟨b, off + i * 4 + 2, none⟩ = some (.string S)) (first | go_keep | exact hd2) (first
                | (go_at_call 18; refine (rtext_is 200 _ w.heap.size o rv (Pk.all l) A.length s q 0 hr.drew (by simp) htxt).mono ?_; rintro e1 w1 ⟨rfl, hr1, hg1⟩; rw [← HSS.out]; have hb1 := hb.drew.grown hg1 hsz (by rintro k hk; cases hk; exact hob); have hd2 := HCS.out _ hb1)))
            | fail
          all_goals
            go_wp2
            go_roundw
            case rel => exact ⟨i + 1, by go_num, by omega, by rw [← HQ.out]; exact hr1, hb1⟩
            case measure => simp [intOf]; omega
        · have hflg : Hid (Pk.flg (Pk.all l) (A.length : Nat) = (t, ((A.length + (Pk.one ⟨3, z, s, t⟩).length : Nat) : Int), 0)) := by
            show _ = _
            rw [HPO.out]
            exact Pk.flg_flag A post t
          obtain ⟨q, hq⟩ : ∃ q, q = A.length + (Pk.one ⟨3, z, s, t⟩).length := ⟨_, rfl⟩
          rw [← hq] at hflg
          have hq' : q = (Pk.all (l.take (i + 1))).length := by rw [HX.out, List.length_append, hq]
          have HQ := Lib.hid hq'
          clear hq hq'
          go_wp2
          first
            | (go_region_held3 (fun w' => w'.cell? ⟨b, off + i * 4 + 3, none⟩ = some (.bool t)) (first | go_keep | exact hd3) (first
                | (go_at_call 19; refine (rflag_is _ w.heap.size o rv (Pk.all l) A.length t q 0 hr.drew (by simp) hflg).mono ?_; rintro e1 w1 ⟨rfl, hr1, hg1⟩; have hb1 := hb.drew.grown hg1 hsz (by rintro k hk; cases hk; exact hob); obtain ⟨hd0, hd1, hd2, hd3⟩ := HCELL.out _ hb1)))
            | fail
          all_goals
            go_wp2
            go_roundw
            case rel => exact ⟨i + 1, by go_num, by omega, by rw [← HQ.out]; exact hr1, hb1⟩
            case measure => simp [intOf]; omega
        · go_wp2
          go_roundw
          case rel => exact ⟨i + 1, by go_num, by omega, by rw [HX.out]; unfold Pk.one; simp [n1, n2, n3]; exact hr, hb⟩
          case measure => simp [intOf]; omega
      · obtain rfl : i = n := by omega
        have hall : l.take i = l := List.take_of_length_le (by have := HN.out; omega)
        rw [hall] at hr
        clear hall
        have hd := HE.out _ _ _ hr
        have HD := Lib.hid hd
        clear hd
        go_wp2_with fail
        refine (rdone_any _ w.heap.size o rv _ _ 0 hr).mono ?_
        rintro e1 w1 ⟨rfl, q, rfl⟩
        rw [HD.out]
        have hb1 := hb.trans ((drawn _ q).mono hsz)
        go_wp2_with fail
        refine (awake_any _).mono ?_
        rintro e2 w2 ⟨rfl, hb2⟩
        go_wp2
        go_ret
        exact ⟨rfl, hb1.trans (hb2.mono hb1.size)⟩
end Go.Proofs.Ytpdblmicgpgiaaa
