/- scan.header and scan.comment. -/
import Derived.Test.YtaodjipnffgihaaRun
import Derived.Test.YtaodjipnffgihaaShelf
import Derived.Deep.LoopGhost
namespace Go.Proofs.Ytaodjipnffgihaa
open Go.RowKit

theorem mapAdd0 (o : Option Nat) : o.map (· + 0) = o := by cases o <;> rfl
theorem mapAdd2 (o : Option Nat) (a b : Nat) : (o.map (· + a)).map (· + b) = o.map (· + (a + b)) := by
  cases o
  · rfl
  · simp; omega

/-- Where a name's closing byte stands behind a place. -/
def closeAt (q : UInt8) (s : ByteArray) (k : Nat) : Option Nat := closeN q (s.data.toList.drop k)
theorem close_end {q : UInt8} {s : ByteArray} {k : Nat} (h : s.size ≤ k) : closeAt q s k = none := by
  unfold closeAt; rw [List.drop_eq_nil_of_le (by rw [size_list]; exact h), closeN]
theorem close_nl {q : UInt8} {s : ByteArray} {k : Nat} (h : k < s.size) (h1 : (s[k] == 10) = true) : closeAt q s k = none := by
  unfold closeAt; rw [data_drop s k h, closeN, if_pos h1]
theorem close_hit {q : UInt8} {s : ByteArray} {k : Nat} (h : k < s.size) (h1 : (s[k] == 10) = false) (h2 : (s[k] == q) = true) : closeAt q s k = some 0 := by
  unfold closeAt; rw [data_drop s k h, closeN, if_neg (by rw [h1]; decide), if_pos h2]
theorem close_step {q : UInt8} {s : ByteArray} {k : Nat} (h : k < s.size) (h1 : (s[k] == 10) = false) (h2 : (s[k] == q) = false) : closeAt q s k = (closeAt q s (k + 1)).map (· + 1) := by
  unfold closeAt; rw [data_drop s k h, closeN, if_neg (by rw [h1]; decide), if_neg (by rw [h2]; decide)]

def headOf : Option Nat → Nat
  | some n => n + 2
  | none => 0
theorem header_at {s : ByteArray} (h : 0 < s.size) : headerLen s.data.toList = if s[0] == 34 then headOf (closeAt 34 s 1) else if s[0] == 60 then headOf (closeAt 62 s 1) else 0 := by
  have hd := data_drop s 0 h
  rw [List.drop_zero] at hd
  unfold closeAt
  rw [hd, headerLen, List.drop_succ_cons, List.drop_zero]
  by_cases h1 : (s[0] == 34) = true
  · rw [if_pos h1, if_pos h1]
    generalize closeN 34 _ = o; cases o <;> rfl
  · rw [if_neg h1, if_neg h1]
    by_cases h2 : (s[0] == 60) = true
    · rw [if_pos h2, if_pos h2]
      generalize closeN 62 _ = o; cases o <;> rfl
    · rw [if_neg h2, if_neg h2]

set_option maxHeartbeats 1000000 in
theorem header_any (s : ByteArray) (w : World) (hs : s.size ≤ maxLen) (h0 : 0 < s.size) :
    Calls Try.prog 77 #[.string s] w fun e w' => e = .returned (.int .i64 (headerLen s.data.toList : Nat)) ∧ w = w' := by
  unfold maxLen at hs
  have HH := Lib.hid (header_at h0)
  cases h1 : ((s[0].toNat : Int) == 34)
  case true =>
    have HL : Hid (headerLen s.data.toList = headOf (closeAt 34 s 1)) := Lib.hid (by rw [HH.out, if_pos (b_eq 34 h1)])
    clear HH
    go_enter Try.func77, Try.ntmps77
    go_wp2
    go_loop [4] (fun i => ∃ k : Nat, 1 ≤ k ∧ k ≤ s.size ∧ i = .int .i64 k ∧ Hid (closeAt 34 s 1 = (closeAt 34 s k).map (· + (k - 1)))) (fun i => s.size - (intOf i).toNat)
    case atStart => exact ⟨1, Nat.le_refl _, h0, rfl, Lib.hid (by rw [Nat.sub_self, mapAdd0])⟩
    case round =>
      obtain ⟨k, hk1, hk, rfl, HE⟩ := hrel
      by_cases hlt : k < s.size
      · go_wp2
        · have h3 : (s[k] == 10) = false := by
            have h : ((s[k].toNat : Int) != 10) = true := by assumption
            exact b_ne 10 (by simpa using h)
          have h4 : (s[k] == 34) = true := b_eq 34 (by assumption)
          go_ret
          refine ⟨ri ?_, rfl⟩
          rw [HL.out, HE.out, close_hit hlt h3 h4]
          show (k : Int) + 1 = ((0 + (k - 1) + 2 : Nat) : Int)
          omega
        · have h3 : (s[k] == 10) = false := by
            have h : ((s[k].toNat : Int) != 10) = true := by assumption
            exact b_ne 10 (by simpa using h)
          have h4 : (s[k] == 34) = false := b_ne 34 (by assumption)
          go_round
          case rel => exact ⟨k + 1, by omega, by omega, by go_num, Lib.hid (by rw [HE.out, close_step hlt h3 h4, mapAdd2, show 1 + (k - 1) = k + 1 - 1 by omega])⟩
          case measure => simp [intOf]; omega
        · have h3 : (s[k] == 10) = true := by
            have h : ((s[k].toNat : Int) != 10) = false := by assumption
            exact b_eq 10 (by simpa using h)
          go_ret
          exact ⟨ri (by rw [HL.out, HE.out, close_nl hlt h3]; rfl), rfl⟩
      · go_wp2
        go_ret
        exact ⟨ri (by rw [HL.out, HE.out, close_end (by omega)]; rfl), rfl⟩
  case false =>
    cases h2 : ((s[0].toNat : Int) == 60)
    case true =>
      have HL : Hid (headerLen s.data.toList = headOf (closeAt 62 s 1)) := Lib.hid (by rw [HH.out, if_neg (by rw [b_ne 34 h1]; decide), if_pos (b_eq 60 h2)])
      go_enter Try.func77, Try.ntmps77
      go_wp2
      go_loop [4] (fun i => ∃ k : Nat, 1 ≤ k ∧ k ≤ s.size ∧ i = .int .i64 k ∧ Hid (closeAt 62 s 1 = (closeAt 62 s k).map (· + (k - 1)))) (fun i => s.size - (intOf i).toNat)
      case atStart => exact ⟨1, Nat.le_refl _, h0, rfl, Lib.hid (by rw [Nat.sub_self, mapAdd0])⟩
      case round =>
        obtain ⟨k, hk1, hk, rfl, HE⟩ := hrel
        by_cases hlt : k < s.size
        · go_wp2
          · have h3 : (s[k] == 10) = false := by
              have h : ((s[k].toNat : Int) != 10) = true := by assumption
              exact b_ne 10 (by simpa using h)
            have h4 : (s[k] == 62) = true := b_eq 62 (by assumption)
            go_ret
            refine ⟨ri ?_, rfl⟩
            rw [HL.out, HE.out, close_hit hlt h3 h4]
            show (k : Int) + 1 = ((0 + (k - 1) + 2 : Nat) : Int)
            omega
          · have h3 : (s[k] == 10) = false := by
              have h : ((s[k].toNat : Int) != 10) = true := by assumption
              exact b_ne 10 (by simpa using h)
            have h4 : (s[k] == 62) = false := b_ne 62 (by assumption)
            go_round
            case rel => exact ⟨k + 1, by omega, by omega, by go_num, Lib.hid (by rw [HE.out, close_step hlt h3 h4, mapAdd2, show 1 + (k - 1) = k + 1 - 1 by omega])⟩
            case measure => simp [intOf]; omega
          · have h3 : (s[k] == 10) = true := by
              have h : ((s[k].toNat : Int) != 10) = false := by assumption
              exact b_eq 10 (by simpa using h)
            go_ret
            exact ⟨ri (by rw [HL.out, HE.out, close_nl hlt h3]; rfl), rfl⟩
        · go_wp2
          go_ret
          exact ⟨ri (by rw [HL.out, HE.out, close_end (by omega)]; rfl), rfl⟩
    case false =>
      have HL : Hid (headerLen s.data.toList = 0) := Lib.hid (by rw [HH.out, if_neg (by rw [b_ne 34 h1]; decide), if_neg (by rw [b_ne 60 h2]; decide)])
      go_enter Try.func77, Try.ntmps77
      go_wp2
      go_ret
      exact ⟨ri (by rw [HL.out]; rfl), rfl⟩

end Go.Proofs.Ytaodjipnffgihaa
