/- scan.next; what a line's tokens are. -/
import Derived.Test.YtaodjipnffgihaaComm
import Derived.Test.YtaodjipnffgihaaLong
namespace Go.Proofs.Ytaodjipnffgihaa
open Go.RowKit

theorem isComment_or (l : List UInt8) : isComment l = (Lib.hasPrefix l [47, 42] || Lib.hasPrefix l [47, 47]) := rfl

/-- next, where no header begins there. -/
def restN (l : List UInt8) : Nat × Nat × Nat :=
  if isComment l then (if commentLen l = 0 then (0, 0, 20) else (8, commentLen l, 0)) else if (longestOf l).2 = 0 then (0, 0, 21) else ((longestOf l).1, (longestOf l).2, 0)
theorem next_head {inc : Bool} {l : List UInt8} (hi : inc = true) (h : 0 < headerLen l) : nextOf inc l = (7, headerLen l, 0) := by
  rw [nextOf, if_pos (by rw [hi]; simp; omega)]
theorem next_not {inc : Bool} {l : List UInt8} (h : inc = false ∨ headerLen l = 0) : nextOf inc l = restN l := by
  rw [nextOf, if_neg]
  · rfl
  · rcases h with h | h <;> simp [h]
theorem rest_c0 {l : List UInt8} (h : isComment l = true) (h2 : commentLen l = 0) : restN l = (0, 0, 20) := by rw [restN, if_pos h, if_pos h2]
theorem rest_c {l : List UInt8} (h : isComment l = true) (h2 : ¬ commentLen l = 0) : restN l = (8, commentLen l, 0) := by rw [restN, if_pos h, if_neg h2]
theorem rest_l0 {l : List UInt8} (h : isComment l = false) (h2 : (longestOf l).2 = 0) : restN l = (0, 0, 21) := by rw [restN, if_neg (by rw [h]; decide), if_pos h2]
theorem rest_l {l : List UInt8} (h : isComment l = false) (h2 : ¬ (longestOf l).2 = 0) : restN l = ((longestOf l).1, (longestOf l).2, 0) := by rw [restN, if_neg (by rw [h]; decide), if_neg h2]

theorem pre_two (s : ByteArray) (w : World) : Calls Try.prog 65 #[.string s, .string ⟨#[47, 42]⟩] w fun e w' => e = .returned (.bool (Lib.hasPrefix s.data.toList [47, 42])) ∧ w = w' := hasPre_any s ⟨#[47, 42]⟩ w
theorem pre_sl (s : ByteArray) (w : World) : Calls Try.prog 65 #[.string s, .string ⟨#[47, 47]⟩] w fun e w' => e = .returned (.bool (Lib.hasPrefix s.data.toList [47, 47])) ∧ w = w' := hasPre_any s ⟨#[47, 47]⟩ w

set_option maxHeartbeats 2000000 in
theorem next_any (s : ByteArray) (inc : Bool) (w : World) (hs : s.size ≤ 200000) (h0 : 0 < s.size) (hL : LibVar w) :
    Calls Try.prog 62 #[.string s, .bool inc] w fun e w' => e = .returned (.tuple #[.int .i64 ((nextOf inc s.data.toList).1 : Nat), .int .i64 ((nextOf inc s.data.toList).2.1 : Nat), .int .i64 ((nextOf inc s.data.toList).2.2 : Nat)]) ∧ Below w.heap.size w w' := by
  have hs' : s.size ≤ maxLen := by unfold maxLen; omega
  have HH := fun w => header_any s w hs' h0
  have HP := fun w => pre_two s w
  have HS := fun w => pre_sl s w
  by_cases hhd : inc = true ∧ 0 < headerLen s.data.toList
  · have HL := Lib.hid (next_head hhd.1 hhd.2)
    obtain ⟨rfl, hh⟩ := hhd
    generalize headerLen s.data.toList = n at *
    go_enter Try.func62, Try.ntmps62
    go_wp2_with (go_at_call 77; refine (HH _).mono ?_; rintro e w' ⟨rfl, rfl⟩)
    go_ret3
    exact ⟨by rw [HL.out]; rfl, Below.refl _ _⟩
  · have hor : inc = false ∨ headerLen s.data.toList = 0 := by
      cases inc
      · exact .inl rfl
      · exact .inr (Nat.eq_zero_of_not_pos (fun h => hhd ⟨rfl, h⟩))
    have HL := Lib.hid (next_not hor)
    clear hhd
    have hinc : inc = false ∨ (inc = true ∧ headerLen s.data.toList = 0) := by
      rcases hor with h | h
      · exact .inl h
      · cases inc
        · exact .inl rfl
        · exact .inr ⟨rfl, h⟩
    clear hor
    have HG := longest_any s w hs h0
    cases hcm : isComment s.data.toList with
    | true =>
      have HC := comment_any s w hs hcm hL
      have hc := hcm
      rw [isComment_or] at hc
      have hpp : Lib.hasPrefix s.data.toList [47, 42] = true ∨ (Lib.hasPrefix s.data.toList [47, 42] = false ∧ Lib.hasPrefix s.data.toList [47, 47] = true) := by
        cases h : Lib.hasPrefix s.data.toList [47, 42]
        · rw [h] at hc; exact .inr ⟨rfl, hc⟩
        · exact .inl rfl
      clear hc HG
      by_cases hz : commentLen s.data.toList = 0
      · have HR := Lib.hid (rest_c0 hcm hz)
        rw [hz] at HC
        clear hcm hz
        rcases hinc with rfl | ⟨rfl, hh⟩
        · rcases hpp with h1 | ⟨h1, h2⟩
          · rw [h1] at HP
            clear h1
            go_enter Try.func62, Try.ntmps62
            go_wp2_with (first | ((with_reducible go_at_call 65); with_reducible refine (HP _).mono ?_; rintro e w' ⟨rfl, rfl⟩) | ((with_reducible go_at_call 65); with_reducible refine (HS _).mono ?_; rintro e w' ⟨rfl, rfl⟩) | (go_at_call 78; refine HC.mono ?_; rintro e w1 ⟨rfl, hb⟩))
            go_ret3
            exact ⟨by rw [HL.out, HR.out]; rfl, hb⟩
          · rw [h1] at HP; rw [h2] at HS
            clear h1 h2
            go_enter Try.func62, Try.ntmps62
            go_wp2_with (first | ((with_reducible go_at_call 65); with_reducible refine (HP _).mono ?_; rintro e w' ⟨rfl, rfl⟩) | ((with_reducible go_at_call 65); with_reducible refine (HS _).mono ?_; rintro e w' ⟨rfl, rfl⟩) | (go_at_call 78; refine HC.mono ?_; rintro e w1 ⟨rfl, hb⟩))
            go_ret3
            exact ⟨by rw [HL.out, HR.out]; rfl, hb⟩
        · rw [hh] at HH
          clear hh
          rcases hpp with h1 | ⟨h1, h2⟩
          · rw [h1] at HP
            clear h1
            go_enter Try.func62, Try.ntmps62
            go_wp2_with (first | (go_at_call 77; refine (HH _).mono ?_; rintro e w' ⟨rfl, rfl⟩) | ((with_reducible go_at_call 65); with_reducible refine (HP _).mono ?_; rintro e w' ⟨rfl, rfl⟩) | ((with_reducible go_at_call 65); with_reducible refine (HS _).mono ?_; rintro e w' ⟨rfl, rfl⟩) | (go_at_call 78; refine HC.mono ?_; rintro e w1 ⟨rfl, hb⟩))
            go_ret3
            exact ⟨by rw [HL.out, HR.out]; rfl, hb⟩
          · rw [h1] at HP; rw [h2] at HS
            clear h1 h2
            go_enter Try.func62, Try.ntmps62
            go_wp2_with (first | (go_at_call 77; refine (HH _).mono ?_; rintro e w' ⟨rfl, rfl⟩) | ((with_reducible go_at_call 65); with_reducible refine (HP _).mono ?_; rintro e w' ⟨rfl, rfl⟩) | ((with_reducible go_at_call 65); with_reducible refine (HS _).mono ?_; rintro e w' ⟨rfl, rfl⟩) | (go_at_call 78; refine HC.mono ?_; rintro e w1 ⟨rfl, hb⟩))
            go_ret3
            exact ⟨by rw [HL.out, HR.out]; rfl, hb⟩
      · have HR := Lib.hid (rest_c hcm hz)
        have hz' : 0 < commentLen s.data.toList := by omega
        clear hcm hz
        generalize commentLen s.data.toList = n at *
        rcases hinc with rfl | ⟨rfl, hh⟩
        · rcases hpp with h1 | ⟨h1, h2⟩
          · rw [h1] at HP
            clear h1
            go_enter Try.func62, Try.ntmps62
            go_wp2_with (first | ((with_reducible go_at_call 65); with_reducible refine (HP _).mono ?_; rintro e w' ⟨rfl, rfl⟩) | ((with_reducible go_at_call 65); with_reducible refine (HS _).mono ?_; rintro e w' ⟨rfl, rfl⟩) | (go_at_call 78; refine HC.mono ?_; rintro e w1 ⟨rfl, hb⟩))
            go_ret3
            exact ⟨by rw [HL.out, HR.out]; rfl, hb⟩
          · rw [h1] at HP; rw [h2] at HS
            clear h1 h2
            go_enter Try.func62, Try.ntmps62
            go_wp2_with (first | ((with_reducible go_at_call 65); with_reducible refine (HP _).mono ?_; rintro e w' ⟨rfl, rfl⟩) | ((with_reducible go_at_call 65); with_reducible refine (HS _).mono ?_; rintro e w' ⟨rfl, rfl⟩) | (go_at_call 78; refine HC.mono ?_; rintro e w1 ⟨rfl, hb⟩))
            go_ret3
            exact ⟨by rw [HL.out, HR.out]; rfl, hb⟩
        · rw [hh] at HH
          clear hh
          rcases hpp with h1 | ⟨h1, h2⟩
          · rw [h1] at HP
            clear h1
            go_enter Try.func62, Try.ntmps62
            go_wp2_with (first | (go_at_call 77; refine (HH _).mono ?_; rintro e w' ⟨rfl, rfl⟩) | ((with_reducible go_at_call 65); with_reducible refine (HP _).mono ?_; rintro e w' ⟨rfl, rfl⟩) | ((with_reducible go_at_call 65); with_reducible refine (HS _).mono ?_; rintro e w' ⟨rfl, rfl⟩) | (go_at_call 78; refine HC.mono ?_; rintro e w1 ⟨rfl, hb⟩))
            go_ret3
            exact ⟨by rw [HL.out, HR.out]; rfl, hb⟩
          · rw [h1] at HP; rw [h2] at HS
            clear h1 h2
            go_enter Try.func62, Try.ntmps62
            go_wp2_with (first | (go_at_call 77; refine (HH _).mono ?_; rintro e w' ⟨rfl, rfl⟩) | ((with_reducible go_at_call 65); with_reducible refine (HP _).mono ?_; rintro e w' ⟨rfl, rfl⟩) | ((with_reducible go_at_call 65); with_reducible refine (HS _).mono ?_; rintro e w' ⟨rfl, rfl⟩) | (go_at_call 78; refine HC.mono ?_; rintro e w1 ⟨rfl, hb⟩))
            go_ret3
            exact ⟨by rw [HL.out, HR.out]; rfl, hb⟩
    | false =>
      have hc := hcm
      rw [isComment_or, Bool.or_eq_false_iff] at hc
      obtain ⟨h1, h2⟩ := hc
      rw [h1] at HP; rw [h2] at HS
      clear h1 h2
      by_cases hz : (longestOf s.data.toList).2 = 0
      · have HR := Lib.hid (rest_l0 hcm hz)
        clear hcm
        generalize longestOf s.data.toList = p at *
        obtain ⟨a, c⟩ := p
        obtain rfl : c = 0 := hz
        rcases hinc with rfl | ⟨rfl, hh⟩
        · skip
          go_enter Try.func62, Try.ntmps62
          go_wp2_with (first | ((with_reducible go_at_call 65); with_reducible refine (HP _).mono ?_; rintro e w' ⟨rfl, rfl⟩) | ((with_reducible go_at_call 65); with_reducible refine (HS _).mono ?_; rintro e w' ⟨rfl, rfl⟩) | (go_at_call 79; refine HG.mono ?_; rintro e w1 ⟨rfl, hb⟩))
          go_ret3
          exact ⟨by rw [HL.out, HR.out]; rfl, hb⟩
        · rw [hh] at HH
          clear hh
          go_enter Try.func62, Try.ntmps62
          go_wp2_with (first | (go_at_call 77; refine (HH _).mono ?_; rintro e w' ⟨rfl, rfl⟩) | ((with_reducible go_at_call 65); with_reducible refine (HP _).mono ?_; rintro e w' ⟨rfl, rfl⟩) | ((with_reducible go_at_call 65); with_reducible refine (HS _).mono ?_; rintro e w' ⟨rfl, rfl⟩) | (go_at_call 79; refine HG.mono ?_; rintro e w1 ⟨rfl, hb⟩))
          go_ret3
          exact ⟨by rw [HL.out, HR.out]; rfl, hb⟩
      · have HR := Lib.hid (rest_l hcm hz)
        clear hcm
        generalize longestOf s.data.toList = p at *
        obtain ⟨a, c⟩ := p
        have hz' : 0 < c := by
          have : ¬ c = 0 := hz
          omega
        clear hz
        rcases hinc with rfl | ⟨rfl, hh⟩
        · skip
          go_enter Try.func62, Try.ntmps62
          go_wp2_with (first | ((with_reducible go_at_call 65); with_reducible refine (HP _).mono ?_; rintro e w' ⟨rfl, rfl⟩) | ((with_reducible go_at_call 65); with_reducible refine (HS _).mono ?_; rintro e w' ⟨rfl, rfl⟩) | (go_at_call 79; refine HG.mono ?_; rintro e w1 ⟨rfl, hb⟩))
          go_ret3
          exact ⟨by rw [HL.out, HR.out]; rfl, hb⟩
        · rw [hh] at HH
          clear hh
          go_enter Try.func62, Try.ntmps62
          go_wp2_with (first | (go_at_call 77; refine (HH _).mono ?_; rintro e w' ⟨rfl, rfl⟩) | ((with_reducible go_at_call 65); with_reducible refine (HP _).mono ?_; rintro e w' ⟨rfl, rfl⟩) | ((with_reducible go_at_call 65); with_reducible refine (HS _).mono ?_; rintro e w' ⟨rfl, rfl⟩) | (go_at_call 79; refine HG.mono ?_; rintro e w1 ⟨rfl, hb⟩))
          go_ret3
          exact ⟨by rw [HL.out, HR.out]; rfl, hb⟩

theorem lw8 {st k : Nat} {t : ByteArray} (h : ((k : Int) == 8) = true) : lineWith st k t.data.toList = st := by
  have := eq_of_beq h
  rw [lineWith, if_pos (by omega)]
theorem lw9 {st k : Nat} {t : ByteArray} (h : ((k : Int) == 9) = true) : lineWith st k t.data.toList = 0 := by
  have := eq_of_beq h
  rw [lineWith, if_neg (by omega), if_pos (by omega)]
theorem lwE {st k : Nat} {t : ByteArray} (h : ((k : Int) == 8) = false) (h9 : ((k : Int) == 9) = false) : lineWith st k t.data.toList = if st = 0 && (t.toList == [35] || t.toList == [37, 58]) then 1 else if st = 1 && t.toList == [105, 110, 99, 108, 117, 100, 101] then 2 else 3 := by
  have h8 := ne_of_beq_false h
  have h9 := ne_of_beq_false h9
  rw [ByteArray.toList_eq, lineWith, if_neg (by omega), if_neg (by omega)]

set_option maxHeartbeats 1000000 in
theorem with_any (st k a e : Nat) (t : ByteArray) (sp : Bool) (w : World) (hst : st ≤ 3) (hk : k ≤ 9) :
    Calls Try.prog 63 #[.int .i64 st, .agg #[.int .i64 k, .string t, .int .i64 a, .int .i64 e, .bool sp]] w fun e' w' => e' = .returned (.int .i64 (lineWith st k t.data.toList : Nat)) ∧ w' = w.alloc (.cells #[.int .i64 k, .string t, .int .i64 a, .int .i64 e, .bool sp] 49) := by
  go_enter Try.func63, Try.ntmps63
  go_wp2
  · have h : ((k : Int) == 8) = true := by assumption
    go_ret
    exact ⟨ri (by rw [lw8 h]), rfl⟩
  · have h : ((k : Int) == 9) = true := by assumption
    go_ret
    exact ⟨ri (by rw [lw9 h]; rfl), rfl⟩
  all_goals
    have h : ((k : Int) == 8) = false := by assumption
    have h9 : ((k : Int) == 9) = false := by assumption
    have HE := lwE (st := st) (t := t) h h9
    go_ret
    refine ⟨ri ?_, rfl⟩
    rw [HE]
  · have h1 : st = 0 := by assumption
    have h2 : t.toList = [35] := by assumption
    rw [h1, h2]; rfl
  · have h1 : st = 0 := by assumption
    have h2 : (t.toList == [35]) = true ∨ (t.toList == [37, 58]) = true := by assumption
    rw [h1, if_pos (by simpa using h2)]; rfl
  · have h1 : st = 0 := by assumption
    have h2 : (t.toList == [35]) = false ∧ (t.toList == [37, 58]) = false := by assumption
    rw [h1, h2.1, h2.2]; rfl
  · have h1 : (st : Int) = 1 := by assumption
    have h2 : (t.toList == [105, 110, 99, 108, 117, 100, 101]) = true := by assumption
    obtain rfl : st = 1 := by omega
    rw [h2]; rfl
  · have h1 : (st : Int) = 1 := by assumption
    have h2 : (t.toList == [105, 110, 99, 108, 117, 100, 101]) = false := by assumption
    obtain rfl : st = 1 := by omega
    rw [h2]; rfl
  · have h1 : ¬ st = 0 := by assumption
    have h2 : ¬ (st : Int) = 1 := by assumption
    have h3 : ¬ st = 1 := by omega
    rw [if_neg (by simp [h1]), if_neg (by simp [h3])]; rfl

end Go.Proofs.Ytaodjipnffgihaa
