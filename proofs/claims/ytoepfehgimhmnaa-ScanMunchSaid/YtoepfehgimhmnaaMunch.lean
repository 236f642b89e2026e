/- The law ScanMunch: its walk. -/
import Derived.Test.YtoepfehgimhmnaaPair
import Derived.Deep.DeepCutAuto
import Derived.IntWalk
namespace Go.Proofs.Ytoepfehgimhmnaa
open Go.RowKit Go.Shelf

theorem munch_bad (s : ByteArray) (w : World) (hs : s.size ≤ maxLen) (hL : LibVar w) (h : scanErr s ≠ 0) :
    Calls Try.prog 7 #[.string s] w fun e w' => e = .returned (.bool true) ∧ Below w.heap.size w w' := by
  have HA := alive_any w hL
  have HC := fun w1 (hb : Below w.heap.size w w1) => scan_row s w1 hs (libVar_below hb hL)
  have ho : scanOf s = [] := by unfold scanOf; rw [if_neg h]
  rw [ho] at HC
  obtain ⟨n, hn⟩ : ∃ n, scanErr s = n := ⟨_, rfl⟩
  rw [hn] at HC h
  have hb0 : (n != 0) = true := by simpa using h
  clear hn ho
  go_enter Try.func7, Try.ntmps7
  go_wp2_with fail
  refine HA.mono ?_
  rintro e w1 ⟨rfl, hb1⟩
  go_wp2_with fail
  refine (HC _ hb1).mono ?_
  rintro e w2 ⟨⟨a, cap, rfl, hrow⟩, hb2⟩
  have hBB := hb1.trans (hb2.mono hb1.size)
  go_wp2
  go_ret
  exact ⟨rfl, hBB⟩

set_option maxRecDepth 100000 in
set_option maxHeartbeats 4000000 in
theorem munch_ok (s : ByteArray) (w : World) (hs : s.size ≤ maxLen) (hL : LibVar w) (h : scanErr s = 0) :
    Calls Try.prog 7 #[.string s] w fun e w' => e = .returned (.bool true) ∧ Below w.heap.size w w' := by
  obtain ⟨hz, hn⟩ := scan_size h
  have HA := alive_any w hL
  have HC := fun w1 (hb : Below w.heap.size w w1) => scan_row s w1 hs (libVar_below hb hL)
  rw [h] at HC
  have HM := Lib.hid (fun i y1 y2 => munch_pair (s := s) h (i := i) (y1 := y1) (y2 := y2))
  clear h hs
  obtain ⟨ys, hys⟩ : ∃ ys, scanOf s = ys := ⟨_, rfl⟩
  rw [hys] at HC HM hn
  clear hys
  go_enter Try.func7, Try.ntmps7
  go_wp2_with fail
  refine HA.mono ?_
  rintro e w1 ⟨rfl, hb1⟩
  go_wp2_with fail
  refine (HC _ hb1).mono ?_
  rintro e w2 ⟨⟨a, cap, rfl, hrow⟩, hb2⟩
  have hBB := hb1.trans (hb2.mono hb1.size)
  have HR := Lib.hid hrow
  clear hrow HA HC
  go_wp2
  go_loopg [6, 7, 8] (ys.length) (fun g i _ _ wx => ∃ j : Nat, j ≤ ys.length ∧ i = .int .i64 ((j : Int) + 1) ∧ g = ys.length - j ∧ Below w2.heap.size w2 wx)
  case atStart => exact ⟨0, Nat.zero_le _, rfl, rfl, Below.refl _ _⟩
  case round =>
    obtain ⟨j, hj, rfl, rfl, hbx⟩ := hrel
    by_cases hlt : j + 1 < ys.length
    · obtain ⟨y1, hy1⟩ : ∃ y, ys[j]? = some y := ⟨_, List.getElem?_eq_getElem (by omega)⟩
      obtain ⟨y2, hy2⟩ : ∃ y, ys[j + 1]? = some y := ⟨_, List.getElem?_eq_getElem hlt⟩
      obtain ⟨g, rfl, hg0, hg1, hrow⟩ := HR.out (by omega)
      obtain ⟨p0, p1, -⟩ := (hrow.below hbx hg1) j y1 hy1
      obtain ⟨q0, q1, -, -, q4⟩ := (hrow.below hbx hg1) (j + 1) y2 hy2
      have HP := HM.out j y1 y2 hy1 hy2
      clear hrow hy1 hy2
      have j1 : (j : Int) + 1 < (ys.length : Int) := by omega
      have j0 : (0 : Int) ≤ (j : Int) + 1 := by omega
      have j2 : ((j : Int) + 1).toNat = j + 1 := by omega
      have j3 : (0 : Int) ≤ (j : Int) := by omega
      have j4 : (j : Int) < (ys.length : Int) := by omega
      have j5 : (j : Int) + 1 - 1 = (j : Int) := by omega
      by_cases hsp : y2.sp = true
      · rw [hsp] at q4
        clear HP hsp j5
        go_wp2
        go_roundg (ys.length - (j + 1))
        case rel => exact ⟨j + 1, by omega, by go_num, rfl, hbx⟩
        case measure => omega
      · have hsp0 : y2.sp = false := Bool.eq_false_iff.2 hsp
        rw [hsp0] at q4
        have HP := HP hsp0
        clear hsp hsp0
        by_cases hk2 : y2.k = 7
        · have b2 : ((y2.k : Int) == 7) = true := by simp [hk2]
          clear HP hk2 j5
          go_wp2
          go_roundg (ys.length - (j + 1))
          case rel => exact ⟨j + 1, by omega, by go_num, rfl, hbx⟩
          case measure => omega
        · have b2 : ((y2.k : Int) == 7) = false := by simp; omega
          by_cases hk1 : y1.k = 7
          · have b1 : ((y1.k : Int) == 7) = true := by simp [hk1]
            clear HP hk2 hk1 j5
            go_wp2
            go_roundg (ys.length - (j + 1))
            case rel => exact ⟨j + 1, by omega, by go_num, rfl, hbx⟩
            case measure => omega
          · have b1 : ((y1.k : Int) == 7) = false := by simp; omega
            obtain ⟨hf, z1, z2⟩ := HP hk1 hk2
            have F := fun w' (hb : Below w.heap.size w w') => fuses_any y1.tx y2.tx w' (by omega) (by omega) (libVar_below hb hL)
            rw [hf] at F
            have hbw := hBB.trans (hbx.mono hBB.size)
            have hbd : Below w.heap.size w wr.drew := below_drewN hbw 1
            have hbe : Below w2.heap.size w2 wr.drew := below_drewN hbx 1
            clear hk1 hk2 HP hf j5
            go_upto_region 9 with (fail)
            go_cut [7, 8] from 22 to 69 (fun f c wx => f = .bool false ∧ c = .int .i64 0 ∧ Below w2.heap.size w2 wx)
            case first =>
              have j6 : (j : Int).toNat = j := Int.toNat_natCast j
              have v0 : IntKind.i64.wrap (j : Int) = (j : Int) := IntWalk.i64_in _ (by omega)
              have v1 : IntKind.i64.wrap ((j : Int) + 1 - 1) = (j : Int) := by rw [show (j : Int) + 1 - 1 = (j : Int) by omega]; exact v0
              go_region_with (first | (go_at_call 11; refine (F _ hbd).mono ?_; rintro e w3 ⟨rfl, hb3⟩))
              all_goals (go_wp2_with fail; go_meet; exact ⟨rfl, rfl, hbe.trans (hb3.mono hbe.size)⟩)
            case rest =>
              obtain ⟨rfl, rfl, hbc⟩ := hcut
              go_wp2
              go_roundg (ys.length - (j + 1))
              case rel => exact ⟨j + 1, by omega, by go_num, rfl, hbc⟩
              case measure => omega
    · have j1 : ¬ (j : Int) + 1 < (ys.length : Int) := by omega
      go_wp2
      go_ret
      exact ⟨rfl, hBB.trans (hbx.mono hBB.size)⟩

theorem munch_any (s : ByteArray) (w : World) (hs : s.size ≤ maxLen) (hL : LibVar w) :
    Calls Try.prog 7 #[.string s] w fun e w' => e = .returned (.bool true) ∧ Below w.heap.size w w' := by
  by_cases h : scanErr s = 0
  · exact munch_ok s w hs hL h
  · exact munch_bad s w hs hL h

end Go.Proofs.Ytoepfehgimhmnaa
