/- The document's answer: comments. -/
import Derived.Test.YtenmapahigbbeaaRefN
namespace Go.Proofs.Ytenmapahigbbeaa
open Go.RowKit

/-- How many bytes a comment at the beginning has; 0: there is none; -1: it does not end. -/
def remR (l : List UInt8) : Int := if isComment l then (if commentLen l = 0 then -1 else (commentLen l : Nat)) else 0
theorem two_at {s : ByteArray} (h : 2 ≤ s.size) : s.data.toList = s[0] :: s[1] :: s.data.toList.drop 2 := by
  have h0 := data_drop s 0 (by omega)
  have h1 := data_drop s 1 (by omega)
  rw [h1, List.drop_zero] at h0
  exact h0
theorem rem_short {s : ByteArray} (h : s.size < 2) : remR s.data.toList = 0 := by
  unfold remR
  rw [if_neg]
  intro hc
  rw [isComment, Bool.or_eq_true] at hc
  rcases hc with hc | hc <;> (have := (List.isPrefixOf_iff_prefix.1 hc).length_le; rw [size_list] at this; simp at this; omega)
theorem rem_no {s : ByteArray} (h : 2 ≤ s.size) (h1 : s[0] ≠ 47 ∨ (s[1] ≠ 47 ∧ s[1] ≠ 42)) : remR s.data.toList = 0 := by
  unfold remR
  rw [two_at h, isComment_cons, if_neg]
  rcases h1 with h1 | h1
  · simp [h1]
  · simp [h1.1, h1.2]
theorem rem_line {s : ByteArray} (h : 2 ≤ s.size) (h0 : s[0] = 47) (h1 : s[1] = 47) : remR s.data.toList = ((2 + runLen notNl (s.data.toList.drop 2) : Nat) : Int) := by
  have hc : isComment s.data.toList = true := by rw [two_at h, isComment_cons, h0, h1]; rfl
  have hl : commentLen s.data.toList = 2 + runLen notNl (s.data.toList.drop 2) := by
    unfold commentLen
    rw [if_pos]
    rw [two_at h, h0, h1]; rfl
  unfold remR
  rw [if_pos hc, hl, if_neg (by omega)]
def remC : Option Nat → Int
  | some n => (n : Int) + 4
  | none => -1
theorem rem_star {s : ByteArray} (h : 2 ≤ s.size) (h0 : s[0] = 47) (h1 : s[1] = 42) : remR s.data.toList = remC (closeC (s.data.toList.drop 2)) := by
  have hc : isComment s.data.toList = true := by rw [two_at h, isComment_cons, h0, h1]; rfl
  have hl : commentLen s.data.toList = match closeC (s.data.toList.drop 2) with | some n => n + 4 | none => 0 := by
    unfold commentLen
    rw [if_neg (show ¬ [47, 47].isPrefixOf s.data.toList = true by rw [two_at h, h0, h1]; simp [List.isPrefixOf])]
    cases closeC (s.data.toList.drop 2) <;> rfl
  unfold remR
  rw [if_pos hc, hl]
  cases closeC (s.data.toList.drop 2) <;> rfl
def closeS (s : ByteArray) (k : Nat) : Option Nat := closeC (s.data.toList.drop k)
theorem cs_end {s : ByteArray} {k : Nat} (h : s.size ≤ k + 1) : closeS s k = none := by
  unfold closeS
  rcases Nat.lt_or_ge k s.size with h1 | h1
  · rw [data_drop s k h1, List.drop_eq_nil_of_le (by rw [size_list]; exact h), closeC_cons]; simp [closeC]
  · rw [List.drop_eq_nil_of_le (by rw [size_list]; exact h1), closeC]
theorem cs_hit {s : ByteArray} {k : Nat} (h : k + 1 < s.size) (h1 : s[k] = 42) (h2 : s[k + 1] = 47) : closeS s k = some 0 := by
  unfold closeS
  rw [data_drop s k (by omega), data_drop s (k + 1) h, closeC_cons, if_pos (by simp [h1, h2])]
theorem cs_step {s : ByteArray} {k : Nat} (h : k + 1 < s.size) (h1 : s[k] ≠ 42 ∨ s[k + 1] ≠ 47) : closeS s k = (closeS s (k + 1)).map (· + 1) := by
  unfold closeS
  rw [data_drop s k (by omega), closeC_cons, if_neg]
  rw [data_drop s (k + 1) h]
  rcases h1 with h1 | h1 <;> simp [h1]

set_option maxHeartbeats 2000000 in
theorem rremark_any (s : ByteArray) (w : World) (hs : s.size ≤ maxLen) :
    Calls Try.prog 65 #[.string s] w fun e w' => e = .returned (.int .i64 (remR s.data.toList)) ∧ w = w' := by
  unfold maxLen at hs
  by_cases hz : s.size < 2
  · have HN := Lib.hid (rem_short hz)
    have b0 : (s.size : Int) < 2 := by omega
    clear hz
    go_enter Try.func65, Try.ntmps65
    go_wp2
    go_ret
    exact ⟨ri (by rw [HN.out]), rfl⟩
  · have hz2 : 2 ≤ s.size := by omega
    have b0 : ¬ (s.size : Int) < 2 := by omega
    have i0 : (0 : Int) < (s.size : Int) := by omega
    have i1 : (1 : Int) < (s.size : Int) := by omega
    by_cases h0 : s[0] = 47
    · have e0 : (s[0].toNat : Int) = 47 := by rw [h0]; rfl
      by_cases h1 : s[1] = 47
      · have HL := Lib.hid (rem_line hz2 h0 h1)
        have e1 : (s[1].toNat : Int) = 47 := by rw [h1]; rfl
        clear h0 h1
        go_enter Try.func65, Try.ntmps65
        go_wp2
        go_loop [3] (fun i => ∃ k : Nat, 2 ≤ k ∧ k ≤ s.size ∧ i = .int .i64 k ∧ Hid (runLen notNl (s.data.toList.drop 2) = (k - 2) + runLen notNl (s.data.toList.drop k))) (fun i => s.size - (intOf i).toNat)
        case atStart => exact ⟨2, Nat.le_refl _, hz2, rfl, Lib.hid (by simp)⟩
        case round =>
          obtain ⟨k, hk2, hk, rfl, HE⟩ := hrel
          by_cases hlt : k < s.size
          · by_cases h3 : s[k] = 10
            · have HN : Hid (remR s.data.toList = (k : Int)) := Lib.hid (by
                have h4 : notNl s[k] = false := by rw [h3]; rfl
                rw [HL.out, HE.out, runLen_no hlt h4]; omega)
              have b3 : ((s[k].toNat : Int) == 10) = true := by rw [h3]; rfl
              clear HE HL h3
              go_wp2
              go_ret
              exact ⟨ri (by rw [HN.out]), rfl⟩
            · have h4 : notNl s[k] = true := by unfold notNl; simp [h3]
              have HN := Lib.hid (HE.out.trans (show _ = (k + 1 - 2) + runLen notNl (s.data.toList.drop (k + 1)) by rw [runLen_yes hlt h4]; omega))
              have b3 : ((s[k].toNat : Int) == 10) = false := beq_eq_false_iff_ne.2 (fun h => h3 (u8_int.2 h))
              clear HE h3 h4
              go_wp2
              go_round
              case rel => exact ⟨k + 1, by omega, by omega, by go_num, HN⟩
              case measure => simp [intOf]; omega
          · have HN : Hid (remR s.data.toList = (s.size : Int)) := Lib.hid (by
              rw [HL.out, HE.out, runLen_end (by omega)]; omega)
            go_wp2
            go_ret
            exact ⟨ri (by rw [HN.out]), rfl⟩
      · by_cases h2 : s[1] = 42
        · have HL := Lib.hid (rem_star hz2 h0 h2)
          have e1 : (s[1].toNat : Int) = 42 := by rw [h2]; rfl
          clear h0 h1 h2
          go_enter Try.func65, Try.ntmps65
          go_wp2
          go_loop [3] (fun i => ∃ k : Nat, 2 ≤ k ∧ k ≤ s.size ∧ i = .int .i64 k ∧ ((k = 2 ∧ Hid (remR s.data.toList = remC (closeS s 2))) ∨ (2 < k ∧ Hid (closeS s 2 = (closeS s (k - 1)).map (· + (k - 3)))))) (fun i => s.size - (intOf i).toNat)
          case atStart => exact ⟨2, Nat.le_refl _, hz2, rfl, .inl ⟨rfl, HL⟩⟩
          case round =>
            obtain ⟨k, hk2, hk, rfl, HE⟩ := hrel
            by_cases hlt : k < s.size
            · rcases HE with ⟨rfl, HE⟩ | ⟨hk3, HE⟩
              · go_wp2
                go_round
                case rel => exact ⟨3, by omega, by omega, by go_num, .inr ⟨by omega, Lib.hid (by rw [mapAdd0])⟩⟩
                case measure => simp [intOf]; omega
              · obtain ⟨j, rfl⟩ : ∃ j, k = j + 1 := ⟨k - 1, by omega⟩
                have b5 : (2 : Int) < (j : Int) + 1 := by omega
                have v1 : wrap64 ((j : Int) + 1 - 1) = (j : Int) := by rw [show (j : Int) + 1 - 1 = (j : Int) by omega]; exact IntWalk.wrap64_in _ (by omega)
                have v2 : (j : Int) < (s.size : Int) := by omega
                have v3 : (j : Int) + 1 < (s.size : Int) := by omega
                have v4 : ((j : Int) + 1).toNat = j + 1 := by omega
                have v5 : (0 : Int) ≤ (j : Int) + 1 := by omega
                have v6 : (0 : Int) ≤ (j : Int) := by omega
                have v7 : (j : Int) + 1 - 1 = (j : Int) := by omega
                by_cases h3 : s[j + 1] = 47
                · have b3 : ((s[j + 1].toNat : Int) == 47) = true := by rw [h3]; rfl
                  by_cases h4 : s[j] = 42
                  · have HN : Hid (remR s.data.toList = (j : Int) + 1 + 1) := Lib.hid (by
                      have h5 := HE.out
                      rw [show j + 1 - 1 = j from rfl, cs_hit hlt h4 h3] at h5
                      rw [HL.out, show closeC (s.data.toList.drop 2) = closeS s 2 from rfl, h5]
                      show ((0 + (j + 1 - 3) : Nat) : Int) + 4 = _
                      omega)
                    have b4 : ((s[j].toNat : Int) == 42) = true := by rw [h4]; rfl
                    clear HE HL h3 h4
                    go_wp2
                    go_ret
                    exact ⟨ri (by rw [HN.out]), rfl⟩
                  · have HN := Lib.hid (HE.out.trans (show _ = (closeS s (j + 1 + 1 - 1)).map (· + (j + 1 + 1 - 3)) by rw [show j + 1 - 1 = j from rfl, cs_step hlt (.inl h4), mapAdd2, show 1 + (j + 1 - 3) = j + 1 + 1 - 3 by omega]; rfl))
                    have b4 : ((s[j].toNat : Int) == 42) = false := beq_eq_false_iff_ne.2 (fun h => h4 (u8_int.2 h))
                    clear HE h3 h4
                    go_wp2
                    go_round
                    case rel => exact ⟨j + 1 + 1, by omega, by omega, by go_num, .inr ⟨by omega, HN⟩⟩
                    case measure => simp [intOf]; omega
                · have HN := Lib.hid (HE.out.trans (show _ = (closeS s (j + 1 + 1 - 1)).map (· + (j + 1 + 1 - 3)) by rw [show j + 1 - 1 = j from rfl, cs_step hlt (.inr h3), mapAdd2, show 1 + (j + 1 - 3) = j + 1 + 1 - 3 by omega]; rfl))
                  have b3 : ((s[j + 1].toNat : Int) == 47) = false := beq_eq_false_iff_ne.2 (fun h => h3 (u8_int.2 h))
                  clear HE h3
                  go_wp2
                  go_round
                  case rel => exact ⟨j + 1 + 1, by omega, by omega, by go_num, .inr ⟨by omega, HN⟩⟩
                  case measure => simp [intOf]; omega
            · have HN : Hid (remR s.data.toList = -1) := Lib.hid (by
                rcases HE with ⟨h5, HE⟩ | ⟨hk3, HE⟩
                · rw [HE.out, cs_end (by omega)]; rfl
                · rw [HL.out, show closeC (s.data.toList.drop 2) = closeS s 2 from rfl, HE.out, cs_end (by omega)]; rfl)
              clear HE
              go_wp2
              go_ret
              exact ⟨ri (by rw [HN.out]), rfl⟩
        · have HN := Lib.hid (rem_no hz2 (.inr ⟨h1, h2⟩))
          have b1 : ((s[1].toNat : Int) != 47) = true := by rw [bne_iff_ne]; exact fun h => h1 (u8_int.2 h)
          have b2 : ((s[1].toNat : Int) != 42) = true := by rw [bne_iff_ne]; exact fun h => h2 (u8_int.2 h)
          clear h0 h1 h2
          go_enter Try.func65, Try.ntmps65
          go_wp2
          go_ret
          exact ⟨ri (by rw [HN.out]), rfl⟩
    · have HN := Lib.hid (rem_no hz2 (.inl h0))
      have b1 : ((s[0].toNat : Int) != 47) = true := by rw [bne_iff_ne]; exact fun h => h0 (u8_int.2 h)
      clear h0
      go_enter Try.func65, Try.ntmps65
      go_wp2
      go_ret
      exact ⟨ri (by rw [HN.out]), rfl⟩

end Go.Proofs.Ytenmapahigbbeaa
