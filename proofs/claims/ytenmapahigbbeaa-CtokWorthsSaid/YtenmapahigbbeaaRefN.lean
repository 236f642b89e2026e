/- The document's answer: headers' names, comments, the longest token. -/
import Derived.Test.YtenmapahigbbeaaRefK
import Derived.Test.YtenmapahigbbeaaHead
import Derived.Test.YtenmapahigbbeaaExtN
namespace Go.Proofs.Ytenmapahigbbeaa
open Go.RowKit

set_option maxHeartbeats 2000000 in
theorem rnamed_any (s : ByteArray) (w : World) (hs : s.size ≤ maxLen) (h0 : 0 < s.size) :
    Calls Try.prog 64 #[.string s] w fun e w' => e = .returned (.int .i64 (headerLen s.data.toList : Nat)) ∧ w = w' := by
  unfold maxLen at hs
  have HH := Lib.hid (header_at h0)
  have h0i : (0 : Int) < (s.size : Int) := by omega
  by_cases h1 : s[0] = 34
  · have HL : Hid (headerLen s.data.toList = headOf (closeAt 34 s 1)) := Lib.hid (by rw [HH.out, if_pos (by simp [h1])])
    have e0 : (s[0].toNat : Int) = 34 := by rw [h1]; rfl
    clear h1 HH
    go_enter Try.func64, Try.ntmps64
    go_wp2
    go_loop [4] (fun i => ∃ k : Nat, 1 ≤ k ∧ k ≤ s.size ∧ i = .int .i64 k ∧ Hid (closeAt 34 s 1 = (closeAt 34 s k).map (· + (k - 1)))) (fun i => s.size - (intOf i).toNat)
    case atStart => exact ⟨1, Nat.le_refl _, h0, rfl, Lib.hid (by rw [Nat.sub_self, mapAdd0])⟩
    case round =>
      obtain ⟨k, hk1, hk, rfl, HE⟩ := hrel
      by_cases hlt : k < s.size
      · cases h3 : (s[k] == 10) with
        | true =>
          have HN : Hid (headerLen s.data.toList = 0) := Lib.hid (by rw [HL.out, HE.out, close_nl hlt h3]; rfl)
          have b3 : ((s[k].toNat : Int) != 10) = false := by rw [eq_of_beq h3]; rfl
          clear HE HL h3
          go_wp2
          go_ret
          exact ⟨ri (by rw [HN.out]; rfl), rfl⟩
        | false =>
          have b3 : ((s[k].toNat : Int) != 10) = true := by rw [bne_iff_ne]; exact fun h => (beq_eq_false_iff_ne.1 h3) (u8_int.2 h)
          cases h4 : (s[k] == 34) with
          | true =>
            have HN : Hid (headerLen s.data.toList = k + 1) := Lib.hid (by rw [HL.out, HE.out, close_hit hlt h3 h4]; show 0 + (k - 1) + 2 = k + 1; omega)
            have b4 : ((s[k].toNat : Int) == 34) = true := by rw [eq_of_beq h4]; rfl
            clear HE HL h3 h4
            go_wp2
            go_ret
            exact ⟨ri (by rw [HN.out]; rfl), rfl⟩
          | false =>
            have HN := Lib.hid (HE.out.trans (by rw [close_step hlt h3 h4, mapAdd2, show 1 + (k - 1) = k + 1 - 1 by omega] : _ = (closeAt 34 s (k + 1)).map (· + (k + 1 - 1))))
            have b4 : ((s[k].toNat : Int) == 34) = false := beq_eq_false_iff_ne.2 (fun h => (beq_eq_false_iff_ne.1 h4) (u8_int.2 h))
            clear HE h3 h4
            go_wp2
            go_round
            case rel => exact ⟨k + 1, by omega, by omega, by go_num, HN⟩
            case measure => simp [intOf]; omega
      · have HN : Hid (headerLen s.data.toList = 0) := Lib.hid (by rw [HL.out, HE.out, close_end (by omega)]; rfl)
        go_wp2
        go_ret
        exact ⟨ri (by rw [HN.out]; rfl), rfl⟩
  · by_cases h2 : s[0] = 60
    · have HL : Hid (headerLen s.data.toList = headOf (closeAt 62 s 1)) := Lib.hid (by rw [HH.out, if_neg (by simp [h2]), if_pos (by simp [h2])])
      have e0 : (s[0].toNat : Int) = 60 := by rw [h2]; rfl
      clear h1 h2 HH
      go_enter Try.func64, Try.ntmps64
      go_wp2
      go_loop [4] (fun i => ∃ k : Nat, 1 ≤ k ∧ k ≤ s.size ∧ i = .int .i64 k ∧ Hid (closeAt 62 s 1 = (closeAt 62 s k).map (· + (k - 1)))) (fun i => s.size - (intOf i).toNat)
      case atStart => exact ⟨1, Nat.le_refl _, h0, rfl, Lib.hid (by rw [Nat.sub_self, mapAdd0])⟩
      case round =>
        obtain ⟨k, hk1, hk, rfl, HE⟩ := hrel
        by_cases hlt : k < s.size
        · cases h3 : (s[k] == 10) with
          | true =>
            have HN : Hid (headerLen s.data.toList = 0) := Lib.hid (by rw [HL.out, HE.out, close_nl hlt h3]; rfl)
            have b3 : ((s[k].toNat : Int) != 10) = false := by rw [eq_of_beq h3]; rfl
            clear HE HL h3
            go_wp2
            go_ret
            exact ⟨ri (by rw [HN.out]; rfl), rfl⟩
          | false =>
            have b3 : ((s[k].toNat : Int) != 10) = true := by rw [bne_iff_ne]; exact fun h => (beq_eq_false_iff_ne.1 h3) (u8_int.2 h)
            cases h4 : (s[k] == 62) with
            | true =>
              have HN : Hid (headerLen s.data.toList = k + 1) := Lib.hid (by rw [HL.out, HE.out, close_hit hlt h3 h4]; show 0 + (k - 1) + 2 = k + 1; omega)
              have b4 : ((s[k].toNat : Int) == 62) = true := by rw [eq_of_beq h4]; rfl
              clear HE HL h3 h4
              go_wp2
              go_ret
              exact ⟨ri (by rw [HN.out]; rfl), rfl⟩
            | false =>
              have HN := Lib.hid (HE.out.trans (by rw [close_step hlt h3 h4, mapAdd2, show 1 + (k - 1) = k + 1 - 1 by omega] : _ = (closeAt 62 s (k + 1)).map (· + (k + 1 - 1))))
              have b4 : ((s[k].toNat : Int) == 62) = false := beq_eq_false_iff_ne.2 (fun h => (beq_eq_false_iff_ne.1 h4) (u8_int.2 h))
              clear HE h3 h4
              go_wp2
              go_round
              case rel => exact ⟨k + 1, by omega, by omega, by go_num, HN⟩
              case measure => simp [intOf]; omega
        · have HN : Hid (headerLen s.data.toList = 0) := Lib.hid (by rw [HL.out, HE.out, close_end (by omega)]; rfl)
          go_wp2
          go_ret
          exact ⟨ri (by rw [HN.out]; rfl), rfl⟩
    · have HL : Hid (headerLen s.data.toList = 0) := Lib.hid (by rw [HH.out, if_neg (by simp [h1]), if_neg (by simp [h2])])
      have b1 : ((s[0].toNat : Int) != 34) = true := by rw [bne_iff_ne]; exact fun h => h1 (u8_int.2 h)
      have b2 : ((s[0].toNat : Int) != 60) = true := by rw [bne_iff_ne]; exact fun h => h2 (u8_int.2 h)
      clear h1 h2 HH
      go_enter Try.func64, Try.ntmps64
      go_wp2
      go_ret
      exact ⟨ri (by rw [HL.out]; rfl), rfl⟩

end Go.Proofs.Ytenmapahigbbeaa
