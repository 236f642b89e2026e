/- Several texts laid together. -/
import Derived.Test.YtaodjipnffgihaaGreatMzD
import Derived.Below
import Derived.RangeFuncBox

namespace Go.Proofs.YtaodjipnffgihaaGreat
open Go.RowKit

theorem mcells {w : World} {vs : Array Value} {t : TypeId} (j : Nat) (u : Value) (h : vs[j]? = some u) : (w.alloc (.cells vs t)).cell? ⟨w.heap.size, j, none⟩ = some u := by
  have hb := World.alloc_heap_new w (.cells vs t)
  rw [Lib.cell_of_heap hb]; exact h

def chB4 : List ByteArray := [⟨#[]⟩, ⟨#[117]⟩, ⟨#[85]⟩, ⟨#[76]⟩]
def stB5 : List ByteArray := [⟨#[]⟩, ⟨#[117, 56]⟩, ⟨#[117]⟩, ⟨#[85]⟩, ⟨#[76]⟩]
theorem chB4_list : chB4.map (·.data.toList) = chPre := rfl
theorem stB5_list : stB5.map (·.data.toList) = stPre := rfl

theorem quot_ch (s : ByteArray) (w : World) (hs : s.size ≤ maxLen) :
    Calls Tryz.prog 119 #[.string s, .int .u8 39, .int .i64 1, .slice (some ⟨w.heap.size, 0, none⟩) 4 4] (w.alloc (.cells #[.string ⟨#[]⟩, .string ⟨#[117]⟩, .string ⟨#[85]⟩, .string ⟨#[76]⟩] 9)) fun e w' => e = .returned (.int .i64 (measureOf 3 s.data.toList : Nat)) ∧ w.alloc (.cells #[.string ⟨#[]⟩, .string ⟨#[117]⟩, .string ⟨#[85]⟩, .string ⟨#[76]⟩] 9) = w' := by
  have h := quoted_any s 39 1 (Nat.le_refl _) w.heap.size chB4 4 rfl (by decide) (w.alloc (.cells #[.string ⟨#[]⟩, .string ⟨#[117]⟩, .string ⟨#[85]⟩, .string ⟨#[76]⟩] 9)) hs (fun j T hj => ?_) (by unfold chB4; simp; decide)
  · rw [chB4_list] at h; exact h
  · refine mcells j _ ?_
    match j, hj with
    | 0, hj => cases hj; rfl
    | 1, hj => cases hj; rfl
    | 2, hj => cases hj; rfl
    | 3, hj => cases hj; rfl
    | j + 4, hj => simp [chB4] at hj
theorem quot_st (s : ByteArray) (w : World) (hs : s.size ≤ maxLen) :
    Calls Tryz.prog 119 #[.string s, .int .u8 34, .int .i64 0, .slice (some ⟨w.heap.size, 0, none⟩) 5 5] (w.alloc (.cells #[.string ⟨#[]⟩, .string ⟨#[117, 56]⟩, .string ⟨#[117]⟩, .string ⟨#[85]⟩, .string ⟨#[76]⟩] 9)) fun e w' => e = .returned (.int .i64 (measureOf 4 s.data.toList : Nat)) ∧ w.alloc (.cells #[.string ⟨#[]⟩, .string ⟨#[117, 56]⟩, .string ⟨#[117]⟩, .string ⟨#[85]⟩, .string ⟨#[76]⟩] 9) = w' := by
  have h := quoted_any s 34 0 (by decide) w.heap.size stB5 5 rfl (by decide) (w.alloc (.cells #[.string ⟨#[]⟩, .string ⟨#[117, 56]⟩, .string ⟨#[117]⟩, .string ⟨#[85]⟩, .string ⟨#[76]⟩] 9)) hs (fun j T hj => ?_) (by unfold stB5; simp; decide)
  · rw [stB5_list] at h; exact h
  · refine mcells j _ ?_
    match j, hj with
    | 0, hj => cases hj; rfl
    | 1, hj => cases hj; rfl
    | 2, hj => cases hj; rfl
    | 3, hj => cases hj; rfl
    | 4, hj => cases hj; rfl
    | j + 5, hj => simp [stB5] at hj

set_option maxHeartbeats 1000000 in
theorem measure_any (k : Nat) (hk : k = 1 ∨ k = 2 ∨ k = 3 ∨ k = 4 ∨ k = 5 ∨ k = 9) (s : ByteArray) (w : World) (hs : s.size ≤ 200000) (h0 : 0 < s.size) :
    Calls Tryz.prog 108 #[.int .i64 k, .string s] w fun e w' => e = .returned (.int .i64 (measureOf k s.data.toList : Nat)) ∧ Below w.heap.size w w' := by
  have hs' : s.size ≤ maxLen := by unfold maxLen; omega
  rcases hk with rfl | rfl | rfl | rfl | rfl | rfl
  · go_enter Tryz.func108, Tryz.ntmps108
    go_wp2_with (go_at_call 117; refine (word_any s _ hs' h0).mono ?_; rintro e w' ⟨rfl, rfl⟩)
    go_ret
    exact ⟨rfl, Below.refl _ _⟩
  · go_enter Tryz.func108, Tryz.ntmps108
    go_wp2_with (go_at_call 118; refine (number_any s _ hs' h0).mono ?_; rintro e w' ⟨rfl, rfl⟩)
    go_ret
    exact ⟨rfl, Below.refl _ _⟩
  · have C := quot_ch s w hs'
    go_enter Tryz.func108, Tryz.ntmps108
    go_wp2_with (go_at_call 119; refine C.mono ?_; rintro e w' ⟨rfl, rfl⟩)
    go_ret
    exact ⟨rfl, (Below.refl _ _).alloc (Nat.le_refl _) _⟩
  · have C := quot_st s w hs'
    go_enter Tryz.func108, Tryz.ntmps108
    go_wp2_with (go_at_call 119; refine C.mono ?_; rintro e w' ⟨rfl, rfl⟩)
    go_ret
    exact ⟨rfl, (Below.refl _ _).alloc (Nat.le_refl _) _⟩
  · go_enter Tryz.func108, Tryz.ntmps108
    go_wp2_with (go_at_call 120; refine (punct_any s _ hs').mono ?_; rintro e w' ⟨rfl, rfl⟩)
    go_ret
    exact ⟨rfl, Below.refl _ _⟩
  · go_enter Tryz.func108, Tryz.ntmps108
    go_wp2_with (go_at_call 121; refine (newline_any s _ hs' h0).mono ?_; rintro e w' ⟨rfl, rfl⟩)
    go_ret
    exact ⟨rfl, Below.refl _ _⟩

/-- The kinds that are measured; the best of so many of them. -/
def kindAt (k : Nat) : Nat := if k < 5 then k + 1 else 9
def bestOf (l : List UInt8) (k : Nat) : Nat × Nat := ([1, 2, 3, 4, 5, 9].take k).foldl (better l) (0, 0)
theorem best_succ (l : List UInt8) (k : Nat) (h : k < 6) : bestOf l (k + 1) = better l (bestOf l k) (kindAt k) := by
  match k, h with
  | 0, _ => rfl
  | 1, _ => rfl
  | 2, _ => rfl
  | 3, _ => rfl
  | 4, _ => rfl
  | 5, _ => rfl
theorem best_yes {l : List UInt8} {k : Nat} (h : k < 6) (h2 : (bestOf l k).2 < measureOf (kindAt k) l) : bestOf l (k + 1) = (kindAt k, measureOf (kindAt k) l) := by
  rw [best_succ l k h, better, if_pos h2]
theorem best_no {l : List UInt8} {k : Nat} (h : k < 6) (h2 : ¬ (bestOf l k).2 < measureOf (kindAt k) l) : bestOf l (k + 1) = bestOf l k := by
  rw [best_succ l k h, better, if_neg h2]

theorem numLen_le (l : List UInt8) : numLen l ≤ l.length := by
  unfold numLen
  split
  · omega
  · have h := numTail_le (l.drop (numStart l))
    rw [List.length_drop] at h
    have h2 : numStart l ≤ l.length := by
      match l with
      | [] => simp [numStart]
      | [c] => simp only [numStart]; split <;> simp
      | c :: d :: r => simp only [numStart]; split <;> (try split) <;> simp
    omega

theorem longest_best (l : List UInt8) : longestOf l = if (bestOf l 6).2 = 0 && !isQuote (l.headD 0) then (6, 1) else bestOf l 6 := rfl

theorem idx6_0 : ∀ w : World, (Instr.index 148 (.agg #[.int .i64 1, .int .i64 2, .int .i64 3, .int .i64 4, .int .i64 5, .int .i64 9]) (.int .i64 0)).run Tryz.prog w = .ok (.int .i64 1) w := fun _ => by kernel_rfl
theorem idx6_1 : ∀ w : World, (Instr.index 148 (.agg #[.int .i64 1, .int .i64 2, .int .i64 3, .int .i64 4, .int .i64 5, .int .i64 9]) (.int .i64 1)).run Tryz.prog w = .ok (.int .i64 2) w := fun _ => by kernel_rfl
theorem idx6_2 : ∀ w : World, (Instr.index 148 (.agg #[.int .i64 1, .int .i64 2, .int .i64 3, .int .i64 4, .int .i64 5, .int .i64 9]) (.int .i64 2)).run Tryz.prog w = .ok (.int .i64 3) w := fun _ => by kernel_rfl
theorem idx6_3 : ∀ w : World, (Instr.index 148 (.agg #[.int .i64 1, .int .i64 2, .int .i64 3, .int .i64 4, .int .i64 5, .int .i64 9]) (.int .i64 3)).run Tryz.prog w = .ok (.int .i64 4) w := fun _ => by kernel_rfl
theorem idx6_4 : ∀ w : World, (Instr.index 148 (.agg #[.int .i64 1, .int .i64 2, .int .i64 3, .int .i64 4, .int .i64 5, .int .i64 9]) (.int .i64 4)).run Tryz.prog w = .ok (.int .i64 5) w := fun _ => by kernel_rfl
theorem idx6_5 : ∀ w : World, (Instr.index 148 (.agg #[.int .i64 1, .int .i64 2, .int .i64 3, .int .i64 4, .int .i64 5, .int .i64 9]) (.int .i64 5)).run Tryz.prog w = .ok (.int .i64 9) w := fun _ => by kernel_rfl
theorem idx6 (k : Nat) (h : k < 6) (w : World) : (Instr.index 148 (.agg #[.int .i64 1, .int .i64 2, .int .i64 3, .int .i64 4, .int .i64 5, .int .i64 9]) (.int .i64 k)).run Tryz.prog w = .ok (.int .i64 (kindAt k : Nat)) w := by
  obtain rfl | rfl | rfl | rfl | rfl | rfl : k = 0 ∨ k = 1 ∨ k = 2 ∨ k = 3 ∨ k = 4 ∨ k = 5 := by omega
  · exact idx6_0 w
  · exact idx6_1 w
  · exact idx6_2 w
  · exact idx6_3 w
  · exact idx6_4 w
  · exact idx6_5 w
theorem kindAt_ok (k : Nat) : kindAt k = 1 ∨ kindAt k = 2 ∨ kindAt k = 3 ∨ kindAt k = 4 ∨ kindAt k = 5 ∨ kindAt k = 9 := by
  unfold kindAt; split <;> omega
theorem quote_head {s : ByteArray} (h0 : 0 < s.size) : isQuote (s.data.toList.headD 0) = (((s[0].toNat : Int) == 39) || ((s[0].toNat : Int) == 34)) := by
  have hd := data_drop s 0 h0
  rw [List.drop_zero] at hd
  rw [hd]
  show (s[0] == 39 || s[0] == 34) = _
  congr 1
  · cases h : ((s[0].toNat : Int) == 39)
    · exact b_ne 39 h
    · exact b_eq 39 h
  · cases h : ((s[0].toNat : Int) == 34)
    · exact b_ne 34 h
    · exact b_eq 34 h

set_option maxRecDepth 100000 in
set_option maxHeartbeats 4000000 in
theorem longest_any (s : ByteArray) (w : World) (hs : s.size ≤ 200000) (h0 : 0 < s.size) :
    Calls Tryz.prog 96 #[.string s] w fun e w' => e = .returned (.tuple #[.int .i64 ((longestOf s.data.toList).1 : Nat), .int .i64 ((longestOf s.data.toList).2 : Nat)]) ∧ Below w.heap.size w w' := by
  go_enter Tryz.func96, Tryz.ntmps96
  go_wp2
  go_loopg [2, 3, 5, 6, 8] 6 (fun g a b _ _ i wx => ∃ k : Nat, k + g = 6 ∧ i = .int .i64 k ∧ a = .int .i64 ((bestOf s.data.toList k).1 : Nat) ∧ b = .int .i64 ((bestOf s.data.toList k).2 : Nat) ∧ Below w.heap.size w wx)
  case atStart => exact ⟨0, rfl, rfl, rfl, rfl, Below.refl _ _⟩
  case round =>
    obtain ⟨k, hkg, rfl, rfl, rfl, hbx⟩ := hrel
    cases gk with
    | zero =>
      obtain rfl : k = 6 := by omega
      have HL := Lib.hid (longest_best s.data.toList)
      have HQ := Lib.hid (quote_head h0)
      generalize bestOf s.data.toList 6 = p at *
      obtain ⟨a, c⟩ := p
      by_cases hc : c = 0
      · subst hc
        cases h1 : ((s[0].toNat : Int) == 39)
        · have n1 : ((s[0].toNat : Int) != 39) = true := by simp [bne, h1]
          cases h2 : ((s[0].toNat : Int) == 34)
          · have n2 : ((s[0].toNat : Int) != 34) = true := by simp [bne, h2]
            rw [h1, h2] at HQ
            have HR : Hid (longestOf s.data.toList = (6, 1)) := Lib.hid (by rw [HL.out, HQ.out]; rfl)
            clear HL HQ
            go_wp2
            go_ret2
            exact ⟨by rw [HR.out]; rfl, hbx⟩
          · have n2 : ((s[0].toNat : Int) != 34) = false := by simp [bne, h2]
            rw [h1, h2] at HQ
            have HR : Hid (longestOf s.data.toList = (a, 0)) := Lib.hid (by rw [HL.out, HQ.out]; rfl)
            clear HL HQ
            go_wp2
            go_ret2
            exact ⟨by rw [HR.out]; rfl, hbx⟩
        · have n1 : ((s[0].toNat : Int) != 39) = false := by simp [bne, h1]
          rw [h1] at HQ
          have HR : Hid (longestOf s.data.toList = (a, 0)) := Lib.hid (by rw [HL.out, HQ.out]; rfl)
          clear HL HQ
          go_wp2
          go_ret2
          exact ⟨by rw [HR.out]; rfl, hbx⟩
      · have HR : Hid (longestOf s.data.toList = (a, c)) := Lib.hid (by rw [HL.out, if_neg (by simp [hc])])
        clear HL HQ
        go_wp2
        go_ret2
        exact ⟨by rw [HR.out]; rfl, hbx⟩
    | succ g =>
      have hk6 : k < 6 := by omega
      have hi := fun w => idx6 k hk6 w
      have hy := best_yes (l := s.data.toList) hk6
      have hno := best_no (l := s.data.toList) hk6
      have M := fun w => measure_any (kindAt k) (kindAt_ok k) s w hs h0
      generalize hp : bestOf s.data.toList k = p at *
      obtain ⟨a, c⟩ := p
      generalize hm : measureOf (kindAt k) s.data.toList = m at *
      generalize hkd : kindAt k = kd at *
      clear hp hm hkd
      by_cases hlt : c < m
      · have HY := Lib.hid (hy hlt)
        clear hy hno
        go_wp2_with (go_at_call 108; refine (M _).mono ?_; rintro e w1 ⟨rfl, hb1⟩)
        go_roundg g
        case rel => exact ⟨k + 1, by omega, by go_num, by rw [HY.out], by rw [HY.out], hbx.trans (hb1.mono hbx.size)⟩
        case measure => omega
      · have HY := Lib.hid (hno hlt)
        clear hy hno
        go_wp2_with (go_at_call 108; refine (M _).mono ?_; rintro e w1 ⟨rfl, hb1⟩)
        go_roundg g
        case rel => exact ⟨k + 1, by omega, by go_num, by rw [HY.out], by rw [HY.out], hbx.trans (hb1.mono hbx.size)⟩
        case measure => omega

end Go.Proofs.YtaodjipnffgihaaGreat

namespace Go.Proofs.YtaodjipnffgihaaGreat
open Go.RowKit

theorem isComment_or (l : List UInt8) : isComment l = (Lib.hasPrefix l [47, 42] || Lib.hasPrefix l [47, 47]) := rfl

/-- next, where no header begins there. -/
def restN (l : List UInt8) : Nat × Nat × Nat :=
  if isComment l then (if commentLen l = 0 then (0, 0, 20) else (8, commentLen l, 0)) else if (longestOf l).2 = 0 then (0, 0, 21) else ((longestOf l).1, (longestOf l).2, 0)
theorem next_head {inc : Bool} {l : List UInt8} (hi : inc = true) (h : 0 < headerLen l) : nextOf inc l = (7, headerLen l, 0) := by
  rw [nextOf, if_pos (by rw [hi]; simp; omega)]
theorem next_not {inc : Bool} {l : List UInt8} (h : inc = false ∨ headerLen l = 0) : nextOf inc l = restN l := by
  rw [nextOf, if_neg]
  · rfl
  · rcases h with h | h <;> simp [h]
theorem rest_c0 {l : List UInt8} (h : isComment l = true) (h2 : commentLen l = 0) : restN l = (0, 0, 20) := by rw [restN, if_pos h, if_pos h2]
theorem rest_c {l : List UInt8} (h : isComment l = true) (h2 : ¬ commentLen l = 0) : restN l = (8, commentLen l, 0) := by rw [restN, if_pos h, if_neg h2]
theorem rest_l0 {l : List UInt8} (h : isComment l = false) (h2 : (longestOf l).2 = 0) : restN l = (0, 0, 21) := by rw [restN, if_neg (by rw [h]; decide), if_pos h2]
theorem rest_l {l : List UInt8} (h : isComment l = false) (h2 : ¬ (longestOf l).2 = 0) : restN l = ((longestOf l).1, (longestOf l).2, 0) := by rw [restN, if_neg (by rw [h]; decide), if_neg h2]

theorem pre_two (s : ByteArray) (w : World) : Calls Tryz.prog 48 #[.string s, .string ⟨#[47, 42]⟩] w fun e w' => e = .returned (.bool (Lib.hasPrefix s.data.toList [47, 42])) ∧ w = w' := hasPre_any s ⟨#[47, 42]⟩ w
theorem pre_sl (s : ByteArray) (w : World) : Calls Tryz.prog 48 #[.string s, .string ⟨#[47, 47]⟩] w fun e w' => e = .returned (.bool (Lib.hasPrefix s.data.toList [47, 47])) ∧ w = w' := hasPre_any s ⟨#[47, 47]⟩ w

set_option maxHeartbeats 2000000 in
theorem next_any (s : ByteArray) (inc : Bool) (w : World) (hs : s.size ≤ 200000) (h0 : 0 < s.size) (hL : LibVar w) :
    Calls Tryz.prog 74 #[.string s, .bool inc] w fun e w' => e = .returned (.tuple #[.int .i64 ((nextOf inc s.data.toList).1 : Nat), .int .i64 ((nextOf inc s.data.toList).2.1 : Nat), .int .i64 ((nextOf inc s.data.toList).2.2 : Nat)]) ∧ Below w.heap.size w w' := by
  have hs' : s.size ≤ maxLen := by unfold maxLen; omega
  have HH := fun w => header_any s w hs' h0
  have HP := fun w => pre_two s w
  have HS := fun w => pre_sl s w
  by_cases hhd : inc = true ∧ 0 < headerLen s.data.toList
  · have HL := Lib.hid (next_head hhd.1 hhd.2)
    obtain ⟨rfl, hh⟩ := hhd
    generalize headerLen s.data.toList = n at *
    go_enter Tryz.func74, Tryz.ntmps74
    go_wp2_with (go_at_call 94; refine (HH _).mono ?_; rintro e w' ⟨rfl, rfl⟩)
    go_ret3
    exact ⟨by rw [HL.out]; rfl, Below.refl _ _⟩
  · have hor : inc = false ∨ headerLen s.data.toList = 0 := by
      cases inc
      · exact .inl rfl
      · exact .inr (Nat.eq_zero_of_not_pos (fun h => hhd ⟨rfl, h⟩))
    have HL := Lib.hid (next_not hor)
    clear hhd
    have hinc : inc = false ∨ (inc = true ∧ headerLen s.data.toList = 0) := by
      rcases hor with h | h
      · exact .inl h
      · cases inc
        · exact .inl rfl
        · exact .inr ⟨rfl, h⟩
    clear hor
    have HG := longest_any s w hs h0
    cases hcm : isComment s.data.toList with
    | true =>
      have HC := comment_any s w hs hcm hL
      have hc := hcm
      rw [isComment_or] at hc
      have hpp : Lib.hasPrefix s.data.toList [47, 42] = true ∨ (Lib.hasPrefix s.data.toList [47, 42] = false ∧ Lib.hasPrefix s.data.toList [47, 47] = true) := by
        cases h : Lib.hasPrefix s.data.toList [47, 42]
        · rw [h] at hc; exact .inr ⟨rfl, hc⟩
        · exact .inl rfl
      clear hc HG
      by_cases hz : commentLen s.data.toList = 0
      · have HR := Lib.hid (rest_c0 hcm hz)
        rw [hz] at HC
        clear hcm hz
        rcases hinc with rfl | ⟨rfl, hh⟩
        · rcases hpp with h1 | ⟨h1, h2⟩
          · rw [h1] at HP
            clear h1
            go_enter Tryz.func74, Tryz.ntmps74
            go_wp2_with (first | ((with_reducible go_at_call 48); with_reducible refine (HP _).mono ?_; rintro e w' ⟨rfl, rfl⟩) | ((with_reducible go_at_call 48); with_reducible refine (HS _).mono ?_; rintro e w' ⟨rfl, rfl⟩) | (go_at_call 95; refine HC.mono ?_; rintro e w1 ⟨rfl, hb⟩))
            go_ret3
            exact ⟨by rw [HL.out, HR.out]; rfl, hb⟩
          · rw [h1] at HP; rw [h2] at HS
            clear h1 h2
            go_enter Tryz.func74, Tryz.ntmps74
            go_wp2_with (first | ((with_reducible go_at_call 48); with_reducible refine (HP _).mono ?_; rintro e w' ⟨rfl, rfl⟩) | ((with_reducible go_at_call 48); with_reducible refine (HS _).mono ?_; rintro e w' ⟨rfl, rfl⟩) | (go_at_call 95; refine HC.mono ?_; rintro e w1 ⟨rfl, hb⟩))
            go_ret3
            exact ⟨by rw [HL.out, HR.out]; rfl, hb⟩
        · rw [hh] at HH
          clear hh
          rcases hpp with h1 | ⟨h1, h2⟩
          · rw [h1] at HP
            clear h1
            go_enter Tryz.func74, Tryz.ntmps74
            go_wp2_with (first | (go_at_call 94; refine (HH _).mono ?_; rintro e w' ⟨rfl, rfl⟩) | ((with_reducible go_at_call 48); with_reducible refine (HP _).mono ?_; rintro e w' ⟨rfl, rfl⟩) | ((with_reducible go_at_call 48); with_reducible refine (HS _).mono ?_; rintro e w' ⟨rfl, rfl⟩) | (go_at_call 95; refine HC.mono ?_; rintro e w1 ⟨rfl, hb⟩))
            go_ret3
            exact ⟨by rw [HL.out, HR.out]; rfl, hb⟩
          · rw [h1] at HP; rw [h2] at HS
            clear h1 h2
            go_enter Tryz.func74, Tryz.ntmps74
            go_wp2_with (first | (go_at_call 94; refine (HH _).mono ?_; rintro e w' ⟨rfl, rfl⟩) | ((with_reducible go_at_call 48); with_reducible refine (HP _).mono ?_; rintro e w' ⟨rfl, rfl⟩) | ((with_reducible go_at_call 48); with_reducible refine (HS _).mono ?_; rintro e w' ⟨rfl, rfl⟩) | (go_at_call 95; refine HC.mono ?_; rintro e w1 ⟨rfl, hb⟩))
            go_ret3
            exact ⟨by rw [HL.out, HR.out]; rfl, hb⟩
      · have HR := Lib.hid (rest_c hcm hz)
        have hz' : 0 < commentLen s.data.toList := by omega
        clear hcm hz
        generalize commentLen s.data.toList = n at *
        rcases hinc with rfl | ⟨rfl, hh⟩
        · rcases hpp with h1 | ⟨h1, h2⟩
          · rw [h1] at HP
            clear h1
            go_enter Tryz.func74, Tryz.ntmps74
            go_wp2_with (first | ((with_reducible go_at_call 48); with_reducible refine (HP _).mono ?_; rintro e w' ⟨rfl, rfl⟩) | ((with_reducible go_at_call 48); with_reducible refine (HS _).mono ?_; rintro e w' ⟨rfl, rfl⟩) | (go_at_call 95; refine HC.mono ?_; rintro e w1 ⟨rfl, hb⟩))
            go_ret3
            exact ⟨by rw [HL.out, HR.out]; rfl, hb⟩
          · rw [h1] at HP; rw [h2] at HS
            clear h1 h2
            go_enter Tryz.func74, Tryz.ntmps74
            go_wp2_with (first | ((with_reducible go_at_call 48); with_reducible refine (HP _).mono ?_; rintro e w' ⟨rfl, rfl⟩) | ((with_reducible go_at_call 48); with_reducible refine (HS _).mono ?_; rintro e w' ⟨rfl, rfl⟩) | (go_at_call 95; refine HC.mono ?_; rintro e w1 ⟨rfl, hb⟩))
            go_ret3
            exact ⟨by rw [HL.out, HR.out]; rfl, hb⟩
        · rw [hh] at HH
          clear hh
          rcases hpp with h1 | ⟨h1, h2⟩
          · rw [h1] at HP
            clear h1
            go_enter Tryz.func74, Tryz.ntmps74
            go_wp2_with (first | (go_at_call 94; refine (HH _).mono ?_; rintro e w' ⟨rfl, rfl⟩) | ((with_reducible go_at_call 48); with_reducible refine (HP _).mono ?_; rintro e w' ⟨rfl, rfl⟩) | ((with_reducible go_at_call 48); with_reducible refine (HS _).mono ?_; rintro e w' ⟨rfl, rfl⟩) | (go_at_call 95; refine HC.mono ?_; rintro e w1 ⟨rfl, hb⟩))
            go_ret3
            exact ⟨by rw [HL.out, HR.out]; rfl, hb⟩
          · rw [h1] at HP; rw [h2] at HS
            clear h1 h2
            go_enter Tryz.func74, Tryz.ntmps74
            go_wp2_with (first | (go_at_call 94; refine (HH _).mono ?_; rintro e w' ⟨rfl, rfl⟩) | ((with_reducible go_at_call 48); with_reducible refine (HP _).mono ?_; rintro e w' ⟨rfl, rfl⟩) | ((with_reducible go_at_call 48); with_reducible refine (HS _).mono ?_; rintro e w' ⟨rfl, rfl⟩) | (go_at_call 95; refine HC.mono ?_; rintro e w1 ⟨rfl, hb⟩))
            go_ret3
            exact ⟨by rw [HL.out, HR.out]; rfl, hb⟩
    | false =>
      have hc := hcm
      rw [isComment_or, Bool.or_eq_false_iff] at hc
      obtain ⟨h1, h2⟩ := hc
      rw [h1] at HP; rw [h2] at HS
      clear h1 h2
      by_cases hz : (longestOf s.data.toList).2 = 0
      · have HR := Lib.hid (rest_l0 hcm hz)
        clear hcm
        generalize longestOf s.data.toList = p at *
        obtain ⟨a, c⟩ := p
        obtain rfl : c = 0 := hz
        rcases hinc with rfl | ⟨rfl, hh⟩
        · skip
          go_enter Tryz.func74, Tryz.ntmps74
          go_wp2_with (first | ((with_reducible go_at_call 48); with_reducible refine (HP _).mono ?_; rintro e w' ⟨rfl, rfl⟩) | ((with_reducible go_at_call 48); with_reducible refine (HS _).mono ?_; rintro e w' ⟨rfl, rfl⟩) | (go_at_call 96; refine HG.mono ?_; rintro e w1 ⟨rfl, hb⟩))
          go_ret3
          exact ⟨by rw [HL.out, HR.out]; rfl, hb⟩
        · rw [hh] at HH
          clear hh
          go_enter Tryz.func74, Tryz.ntmps74
          go_wp2_with (first | (go_at_call 94; refine (HH _).mono ?_; rintro e w' ⟨rfl, rfl⟩) | ((with_reducible go_at_call 48); with_reducible refine (HP _).mono ?_; rintro e w' ⟨rfl, rfl⟩) | ((with_reducible go_at_call 48); with_reducible refine (HS _).mono ?_; rintro e w' ⟨rfl, rfl⟩) | (go_at_call 96; refine HG.mono ?_; rintro e w1 ⟨rfl, hb⟩))
          go_ret3
          exact ⟨by rw [HL.out, HR.out]; rfl, hb⟩
      · have HR := Lib.hid (rest_l hcm hz)
        clear hcm
        generalize longestOf s.data.toList = p at *
        obtain ⟨a, c⟩ := p
        have hz' : 0 < c := by
          have : ¬ c = 0 := hz
          omega
        clear hz
        rcases hinc with rfl | ⟨rfl, hh⟩
        · skip
          go_enter Tryz.func74, Tryz.ntmps74
          go_wp2_with (first | ((with_reducible go_at_call 48); with_reducible refine (HP _).mono ?_; rintro e w' ⟨rfl, rfl⟩) | ((with_reducible go_at_call 48); with_reducible refine (HS _).mono ?_; rintro e w' ⟨rfl, rfl⟩) | (go_at_call 96; refine HG.mono ?_; rintro e w1 ⟨rfl, hb⟩))
          go_ret3
          exact ⟨by rw [HL.out, HR.out]; rfl, hb⟩
        · rw [hh] at HH
          clear hh
          go_enter Tryz.func74, Tryz.ntmps74
          go_wp2_with (first | (go_at_call 94; refine (HH _).mono ?_; rintro e w' ⟨rfl, rfl⟩) | ((with_reducible go_at_call 48); with_reducible refine (HP _).mono ?_; rintro e w' ⟨rfl, rfl⟩) | ((with_reducible go_at_call 48); with_reducible refine (HS _).mono ?_; rintro e w' ⟨rfl, rfl⟩) | (go_at_call 96; refine HG.mono ?_; rintro e w1 ⟨rfl, hb⟩))
          go_ret3
          exact ⟨by rw [HL.out, HR.out]; rfl, hb⟩

theorem lw8 {st k : Nat} {t : ByteArray} (h : ((k : Int) == 8) = true) : lineWith st k t.data.toList = st := by
  have := eq_of_beq h
  rw [lineWith, if_pos (by omega)]
theorem lw9 {st k : Nat} {t : ByteArray} (h : ((k : Int) == 9) = true) : lineWith st k t.data.toList = 0 := by
  have := eq_of_beq h
  rw [lineWith, if_neg (by omega), if_pos (by omega)]
theorem lwE {st k : Nat} {t : ByteArray} (h : ((k : Int) == 8) = false) (h9 : ((k : Int) == 9) = false) : lineWith st k t.data.toList = if st = 0 && (t.toList == [35] || t.toList == [37, 58]) then 1 else if st = 1 && t.toList == [105, 110, 99, 108, 117, 100, 101] then 2 else 3 := by
  have h8 := ne_of_beq_false h
  have h9 := ne_of_beq_false h9
  rw [ByteArray.toList_eq, lineWith, if_neg (by omega), if_neg (by omega)]

set_option maxHeartbeats 1000000 in
theorem with_any (st k a e : Nat) (t : ByteArray) (sp : Bool) (w : World) (hst : st ≤ 3) (hk : k ≤ 9) :
    Calls Tryz.prog 75 #[.int .i64 st, .agg #[.int .i64 k, .string t, .int .i64 a, .int .i64 e, .bool sp]] w fun e' w' => e' = .returned (.int .i64 (lineWith st k t.data.toList : Nat)) ∧ w' = w.alloc (.cells #[.int .i64 k, .string t, .int .i64 a, .int .i64 e, .bool sp] 83) := by
  go_enter Tryz.func75, Tryz.ntmps75
  go_wp2
  · have h : ((k : Int) == 8) = true := by assumption
    go_ret
    exact ⟨ri (by rw [lw8 h]), rfl⟩
  · have h : ((k : Int) == 9) = true := by assumption
    go_ret
    exact ⟨ri (by rw [lw9 h]; rfl), rfl⟩
  all_goals
    have h : ((k : Int) == 8) = false := by assumption
    have h9 : ((k : Int) == 9) = false := by assumption
    have HE := lwE (st := st) (t := t) h h9
    go_ret
    refine ⟨ri ?_, rfl⟩
    rw [HE]
  · have h1 : st = 0 := by assumption
    have h2 : t.toList = [35] := by assumption
    rw [h1, h2]; rfl
  · have h1 : st = 0 := by assumption
    have h2 : (t.toList == [35]) = true ∨ (t.toList == [37, 58]) = true := by assumption
    rw [h1, if_pos (by simpa using h2)]; rfl
  · have h1 : st = 0 := by assumption
    have h2 : (t.toList == [35]) = false ∧ (t.toList == [37, 58]) = false := by assumption
    rw [h1, h2.1, h2.2]; rfl
  · have h1 : (st : Int) = 1 := by assumption
    have h2 : (t.toList == [105, 110, 99, 108, 117, 100, 101]) = true := by assumption
    obtain rfl : st = 1 := by omega
    rw [h2]; rfl
  · have h1 : (st : Int) = 1 := by assumption
    have h2 : (t.toList == [105, 110, 99, 108, 117, 100, 101]) = false := by assumption
    obtain rfl : st = 1 := by omega
    rw [h2]; rfl
  · have h1 : ¬ st = 0 := by assumption
    have h2 : ¬ (st : Int) = 1 := by assumption
    have h3 : ¬ st = 1 := by omega
    rw [if_neg (by simp [h1]), if_neg (by simp [h3])]; rfl

end Go.Proofs.YtaodjipnffgihaaGreat
