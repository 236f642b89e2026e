/- The document's answer: the longest token (its walk). -/
import Derived.Test.YtenmapahigbbeaaRefG
import Derived.Deep.LoopGhost
namespace Go.Proofs.Ytenmapahigbbeaa
open Go.RowKit

theorem rii {a b c d : Int} (h : a = c) (h2 : b = d) : Ending.returned (.tuple #[.int .i64 a, .int .i64 b]) = .returned (.tuple #[.int .i64 c, .int .i64 d]) := by rw [h, h2]

set_option maxRecDepth 100000 in
set_option maxHeartbeats 2000000 in
theorem rlongest_any (s : ByteArray) (w : World) (hs : s.size ≤ 2000) (h0 : 0 < s.size) :
    Calls Try.prog 66 #[.string s] w fun e w' => e = .returned (.tuple #[.int .i64 ((longestOf s.data.toList).1 : Nat), .int .i64 ((longestOf s.data.toList).2 : Nat)]) ∧ Below w.heap.size w w' := by
  have HQ := Lib.hid (longR_eq (l := s.data.toList) (fun e => by have := congrArg List.length e; rw [size_list, List.length_nil] at this; omega))
  have hrl := runLen_le' notNl s.data.toList
  rw [size_list] at hrl
  go_enter Try.func66, Try.ntmps66
  go_wp2
  go_loop [4] (fun i => ∃ k : Nat, k ≤ s.size ∧ i = .int .i64 k ∧ runLen notNl s.data.toList = k + runLen notNl (s.data.toList.drop k)) (fun i => s.size - (intOf i).toNat)
  case atStart => exact ⟨0, Nat.zero_le _, rfl, by simp⟩
  case round =>
    obtain ⟨k, hk, rfl, he⟩ := hrel
    have HE0 := Lib.hid he; clear he
    by_cases hgo : ∃ h : k < s.size, s[k] ≠ 10
    · obtain ⟨hlt, h10⟩ := hgo
      have h4 : notNl s[k] = true := by unfold notNl; simp [h10]
      have HN := Lib.hid (HE0.out.trans (show _ = (k + 1) + runLen notNl (s.data.toList.drop (k + 1)) by rw [runLen_yes hlt h4]; omega))
      have b3 : ((s[k].toNat : Int) != 10) = true := by rw [bne_iff_ne]; exact fun h => h10 (u8_int.2 h)
      clear HE0 h10 h4
      go_wp2
      go_round
      case rel => exact ⟨k + 1, by omega, by go_num, HN.out⟩
      case measure => simp [intOf]; omega
    · have HK : Hid (runLen notNl s.data.toList = k) := Lib.hid (by
        rw [HE0.out]
        by_cases hlt : k < s.size
        · have h10 : s[k] = 10 := Classical.byContradiction (fun h => hgo ⟨hlt, h⟩)
          rw [runLen_no hlt (by rw [h10]; rfl)]; rfl
        · rw [runLen_end (by omega)]; rfl)
      have b3 : ∀ h : k < s.size, ((s[k].toNat : Int) != 10) = false := fun h => by
        have h10 : s[k] = 10 := Classical.byContradiction (fun h' => hgo ⟨h, h'⟩)
        rw [h10]; rfl
      clear HE0 hgo
      by_cases hlt : k < s.size
      · have b4 := b3 hlt
        clear b3
        have HR : Hid (runLen notNl s.data.toList = k) := HK
        clear HK
        by_cases hR : k = 0
        · have HN : Hid (longestOf s.data.toList = (9, 1)) := Lib.hid (by rw [← HQ.out]; unfold longR; rw [if_pos (by rw [HR.out]; exact hR)])
          subst hR
          clear HR
          go_wp2
          go_ret2
          exact ⟨rii (by rw [HN.out]; rfl) (by rw [HN.out]; rfl), Below.refl _ _⟩
        · have HN : Hid (longestOf s.data.toList = downK s.data.toList k) := Lib.hid (by rw [← HQ.out]; unfold longR; rw [if_neg (by rw [HR.out]; exact hR), HR.out])
          have b9 : ((k : Int) == 0) = false := beq_eq_false_iff_ne.2 (by omega)
          clear HQ HR
          go_wp2
          go_loopg [4] k (fun g i wx => ∃ j : Nat, j ≤ k ∧ i = .int .i64 j ∧ j = g ∧ Hid (longestOf s.data.toList = downK s.data.toList j) ∧ Below w.heap.size w wx)
          case atStart => exact ⟨k, Nat.le_refl _, rfl, rfl, HN, Below.refl _ _⟩
          case round =>
            obtain ⟨j, hj, rfl, rfl, HE, hbx⟩ := hrel
            cases j with
            | zero =>
              clear HN
              cases hq : isQuote s[0] with
              | true =>
                have HN2 : Hid (longestOf s.data.toList = (0, 0)) := Lib.hid (by
                  have hd := data_drop s 0 h0
                  rw [List.drop_zero] at hd
                  rw [HE.out, downK, if_pos (by rw [hd]; exact hq)])
                unfold isQuote at hq
                by_cases h39 : s[0] = 39
                · have e0 : ((s[0].toNat : Int) == 39) = true := by rw [h39]; rfl
                  clear HE hq h39
                  go_wp2
                  go_ret2
                  exact ⟨rii (by rw [HN2.out]; rfl) (by rw [HN2.out]; rfl), hbx⟩
                · have e0 : ((s[0].toNat : Int) == 39) = false := beq_eq_false_iff_ne.2 (fun h => h39 (u8_int.2 h))
                  have e1 : ((s[0].toNat : Int) == 34) = true := by
                    have : s[0] = 34 := by simpa [h39] using hq
                    rw [this]; rfl
                  clear HE hq h39
                  go_wp2
                  go_ret2
                  exact ⟨rii (by rw [HN2.out]; rfl) (by rw [HN2.out]; rfl), hbx⟩
              | false =>
                have HN2 : Hid (longestOf s.data.toList = (6, 1)) := Lib.hid (by
                  have hd := data_drop s 0 h0
                  rw [List.drop_zero] at hd
                  rw [HE.out, downK, if_neg (by rw [hd, List.headD_cons, hq]; decide)])
                unfold isQuote at hq
                rw [Bool.or_eq_false_iff] at hq
                have e0 : ((s[0].toNat : Int) == 39) = false := beq_eq_false_iff_ne.2 (fun h => (beq_eq_false_iff_ne.1 hq.1) (u8_int.2 h))
                have e1 : ((s[0].toNat : Int) == 34) = false := beq_eq_false_iff_ne.2 (fun h => (beq_eq_false_iff_ne.1 hq.2) (u8_int.2 h))
                clear HE hq
                go_wp2
                go_ret2
                exact ⟨rii (by rw [HN2.out]; rfl) (by rw [HN2.out]; rfl), hbx⟩
            | succ j =>
              have C : ∀ w' : World, Calls Try.prog 73 #[.string (s.extract 0 (j + 1))] w' fun e w'' => e = .returned (.int .i64 (kindR (s.data.toList.take (j + 1)) : Nat)) ∧ Below w'.heap.size w' w'' := fun w' => by
                have := rKind_any (s.extract 0 (j + 1)) w' (by rw [ByteArray.size_extract]; omega)
                rw [extract_list, List.drop_zero] at this
                exact this
              have HD : Hid (downK s.data.toList (j + 1) = if kindR (s.data.toList.take (j + 1)) = 0 then downK s.data.toList j else (kindR (s.data.toList.take (j + 1)), j + 1)) := Lib.hid rfl
              obtain ⟨K, hK⟩ : ∃ K, kindR (s.data.toList.take (j + 1)) = K := ⟨_, rfl⟩
              rw [hK] at C HD
              clear hK
              have j1 : (0 : Int) < (j : Int) + 1 := by omega
              have j2 : ((j : Int) + 1).toNat = j + 1 := by omega
              have j3 : (j : Int) + 1 ≤ (s.size : Int) := by omega
              have v1 : wrap64 ((j : Int) + 1 - 1) = (j : Int) := by rw [show (j : Int) + 1 - 1 = (j : Int) by omega]; exact IntWalk.wrap64_in _ (by omega)
              have v2 : (j : Int) + 1 - 1 = (j : Int) := by omega
              by_cases hK0 : K = 0
              · have HN3 : Hid (longestOf s.data.toList = downK s.data.toList j) := Lib.hid (by rw [HE.out, HD.out, if_pos hK0])
                subst hK0
                clear HE HD HN
                go_wp2_with fail
                refine (C _).mono ?_
                rintro e w1 ⟨rfl, hb1⟩
                go_wp2
                go_roundg j
                case rel => exact ⟨j, by omega, by go_num, rfl, HN3, hbx.trans (hb1.mono hbx.size)⟩
                case measure => omega
              · have HN3 : Hid (longestOf s.data.toList = (K, j + 1)) := Lib.hid (by rw [HE.out, HD.out, if_neg hK0])
                have k0 : (0 : Int) < (K : Int) := by omega
                clear HE HD HN
                go_wp2_with fail
                refine (C _).mono ?_
                rintro e w1 ⟨rfl, hb1⟩
                go_wp2
                go_ret2
                exact ⟨rii (by rw [HN3.out]) (by rw [HN3.out]; rfl), hbx.trans (hb1.mono hbx.size)⟩
      · clear b3
        have HR : Hid (runLen notNl s.data.toList = k) := HK
        clear HK
        by_cases hR : k = 0
        · exact absurd h0 (by omega)
        · have HN : Hid (longestOf s.data.toList = downK s.data.toList k) := Lib.hid (by rw [← HQ.out]; unfold longR; rw [if_neg (by rw [HR.out]; exact hR), HR.out])
          have b9 : ((k : Int) == 0) = false := beq_eq_false_iff_ne.2 (by omega)
          clear HQ HR
          go_wp2
          go_loopg [4] k (fun g i wx => ∃ j : Nat, j ≤ k ∧ i = .int .i64 j ∧ j = g ∧ Hid (longestOf s.data.toList = downK s.data.toList j) ∧ Below w.heap.size w wx)
          case atStart => exact ⟨k, Nat.le_refl _, rfl, rfl, HN, Below.refl _ _⟩
          case round =>
            obtain ⟨j, hj, rfl, rfl, HE, hbx⟩ := hrel
            cases j with
            | zero =>
              clear HN
              cases hq : isQuote s[0] with
              | true =>
                have HN2 : Hid (longestOf s.data.toList = (0, 0)) := Lib.hid (by
                  have hd := data_drop s 0 h0
                  rw [List.drop_zero] at hd
                  rw [HE.out, downK, if_pos (by rw [hd]; exact hq)])
                unfold isQuote at hq
                by_cases h39 : s[0] = 39
                · have e0 : ((s[0].toNat : Int) == 39) = true := by rw [h39]; rfl
                  clear HE hq h39
                  go_wp2
                  go_ret2
                  exact ⟨rii (by rw [HN2.out]; rfl) (by rw [HN2.out]; rfl), hbx⟩
                · have e0 : ((s[0].toNat : Int) == 39) = false := beq_eq_false_iff_ne.2 (fun h => h39 (u8_int.2 h))
                  have e1 : ((s[0].toNat : Int) == 34) = true := by
                    have : s[0] = 34 := by simpa [h39] using hq
                    rw [this]; rfl
                  clear HE hq h39
                  go_wp2
                  go_ret2
                  exact ⟨rii (by rw [HN2.out]; rfl) (by rw [HN2.out]; rfl), hbx⟩
              | false =>
                have HN2 : Hid (longestOf s.data.toList = (6, 1)) := Lib.hid (by
                  have hd := data_drop s 0 h0
                  rw [List.drop_zero] at hd
                  rw [HE.out, downK, if_neg (by rw [hd, List.headD_cons, hq]; decide)])
                unfold isQuote at hq
                rw [Bool.or_eq_false_iff] at hq
                have e0 : ((s[0].toNat : Int) == 39) = false := beq_eq_false_iff_ne.2 (fun h => (beq_eq_false_iff_ne.1 hq.1) (u8_int.2 h))
                have e1 : ((s[0].toNat : Int) == 34) = false := beq_eq_false_iff_ne.2 (fun h => (beq_eq_false_iff_ne.1 hq.2) (u8_int.2 h))
                clear HE hq
                go_wp2
                go_ret2
                exact ⟨rii (by rw [HN2.out]; rfl) (by rw [HN2.out]; rfl), hbx⟩
            | succ j =>
              have C : ∀ w' : World, Calls Try.prog 73 #[.string (s.extract 0 (j + 1))] w' fun e w'' => e = .returned (.int .i64 (kindR (s.data.toList.take (j + 1)) : Nat)) ∧ Below w'.heap.size w' w'' := fun w' => by
                have := rKind_any (s.extract 0 (j + 1)) w' (by rw [ByteArray.size_extract]; omega)
                rw [extract_list, List.drop_zero] at this
                exact this
              have HD : Hid (downK s.data.toList (j + 1) = if kindR (s.data.toList.take (j + 1)) = 0 then downK s.data.toList j else (kindR (s.data.toList.take (j + 1)), j + 1)) := Lib.hid rfl
              obtain ⟨K, hK⟩ : ∃ K, kindR (s.data.toList.take (j + 1)) = K := ⟨_, rfl⟩
              rw [hK] at C HD
              clear hK
              have j1 : (0 : Int) < (j : Int) + 1 := by omega
              have j2 : ((j : Int) + 1).toNat = j + 1 := by omega
              have j3 : (j : Int) + 1 ≤ (s.size : Int) := by omega
              have v1 : wrap64 ((j : Int) + 1 - 1) = (j : Int) := by rw [show (j : Int) + 1 - 1 = (j : Int) by omega]; exact IntWalk.wrap64_in _ (by omega)
              have v2 : (j : Int) + 1 - 1 = (j : Int) := by omega
              by_cases hK0 : K = 0
              · have HN3 : Hid (longestOf s.data.toList = downK s.data.toList j) := Lib.hid (by rw [HE.out, HD.out, if_pos hK0])
                subst hK0
                clear HE HD HN
                go_wp2_with fail
                refine (C _).mono ?_
                rintro e w1 ⟨rfl, hb1⟩
                go_wp2
                go_roundg j
                case rel => exact ⟨j, by omega, by go_num, rfl, HN3, hbx.trans (hb1.mono hbx.size)⟩
                case measure => omega
              · have HN3 : Hid (longestOf s.data.toList = (K, j + 1)) := Lib.hid (by rw [HE.out, HD.out, if_neg hK0])
                have k0 : (0 : Int) < (K : Int) := by omega
                clear HE HD HN
                go_wp2_with fail
                refine (C _).mono ?_
                rintro e w1 ⟨rfl, hb1⟩
                go_wp2
                go_ret2
                exact ⟨rii (by rw [HN3.out]) (by rw [HN3.out]; rfl), hbx.trans (hb1.mono hbx.size)⟩

end Go.Proofs.Ytenmapahigbbeaa
