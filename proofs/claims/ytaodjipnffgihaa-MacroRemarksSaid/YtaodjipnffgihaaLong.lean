/- scan.measure and scan.longest. -/
import Derived.Test.YtaodjipnffgihaaNum
import Derived.Test.YtaodjipnffgihaaQuot
import Derived.Below
import Derived.RangeFuncBox
namespace Go.Proofs.Ytaodjipnffgihaa
open Go.RowKit

theorem mcells {w : World} {vs : Array Value} {t : TypeId} (j : Nat) (u : Value) (h : vs[j]? = some u) : (w.alloc (.cells vs t)).cell? ⟨w.heap.size, j, none⟩ = some u := by
  have hb := World.alloc_heap_new w (.cells vs t)
  rw [Lib.cell_of_heap hb]; exact h

def chB4 : List ByteArray := [⟨#[]⟩, ⟨#[117]⟩, ⟨#[85]⟩, ⟨#[76]⟩]
def stB5 : List ByteArray := [⟨#[]⟩, ⟨#[117, 56]⟩, ⟨#[117]⟩, ⟨#[85]⟩, ⟨#[76]⟩]
theorem chB4_list : chB4.map (·.data.toList) = chPre := rfl
theorem stB5_list : stB5.map (·.data.toList) = stPre := rfl

theorem quot_ch (s : ByteArray) (w : World) (hs : s.size ≤ maxLen) :
    Calls Try.prog 93 #[.string s, .int .u8 39, .int .i64 1, .slice (some ⟨w.heap.size, 0, none⟩) 4 4] (w.alloc (.cells #[.string ⟨#[]⟩, .string ⟨#[117]⟩, .string ⟨#[85]⟩, .string ⟨#[76]⟩] 9)) fun e w' => e = .returned (.int .i64 (measureOf 3 s.data.toList : Nat)) ∧ w.alloc (.cells #[.string ⟨#[]⟩, .string ⟨#[117]⟩, .string ⟨#[85]⟩, .string ⟨#[76]⟩] 9) = w' := by
  have h := quoted_any s 39 1 (Nat.le_refl _) w.heap.size chB4 4 rfl (by decide) (w.alloc (.cells #[.string ⟨#[]⟩, .string ⟨#[117]⟩, .string ⟨#[85]⟩, .string ⟨#[76]⟩] 9)) hs (fun j T hj => ?_) (by unfold chB4; simp; decide)
  · rw [chB4_list] at h; exact h
  · refine mcells j _ ?_
    match j, hj with
    | 0, hj => cases hj; rfl
    | 1, hj => cases hj; rfl
    | 2, hj => cases hj; rfl
    | 3, hj => cases hj; rfl
    | j + 4, hj => simp [chB4] at hj
theorem quot_st (s : ByteArray) (w : World) (hs : s.size ≤ maxLen) :
    Calls Try.prog 93 #[.string s, .int .u8 34, .int .i64 0, .slice (some ⟨w.heap.size, 0, none⟩) 5 5] (w.alloc (.cells #[.string ⟨#[]⟩, .string ⟨#[117, 56]⟩, .string ⟨#[117]⟩, .string ⟨#[85]⟩, .string ⟨#[76]⟩] 9)) fun e w' => e = .returned (.int .i64 (measureOf 4 s.data.toList : Nat)) ∧ w.alloc (.cells #[.string ⟨#[]⟩, .string ⟨#[117, 56]⟩, .string ⟨#[117]⟩, .string ⟨#[85]⟩, .string ⟨#[76]⟩] 9) = w' := by
  have h := quoted_any s 34 0 (by decide) w.heap.size stB5 5 rfl (by decide) (w.alloc (.cells #[.string ⟨#[]⟩, .string ⟨#[117, 56]⟩, .string ⟨#[117]⟩, .string ⟨#[85]⟩, .string ⟨#[76]⟩] 9)) hs (fun j T hj => ?_) (by unfold stB5; simp; decide)
  · rw [stB5_list] at h; exact h
  · refine mcells j _ ?_
    match j, hj with
    | 0, hj => cases hj; rfl
    | 1, hj => cases hj; rfl
    | 2, hj => cases hj; rfl
    | 3, hj => cases hj; rfl
    | 4, hj => cases hj; rfl
    | j + 5, hj => simp [stB5] at hj

set_option maxHeartbeats 1000000 in
theorem measure_any (k : Nat) (hk : k = 1 ∨ k = 2 ∨ k = 3 ∨ k = 4 ∨ k = 5 ∨ k = 9) (s : ByteArray) (w : World) (hs : s.size ≤ 200000) (h0 : 0 < s.size) :
    Calls Try.prog 88 #[.int .i64 k, .string s] w fun e w' => e = .returned (.int .i64 (measureOf k s.data.toList : Nat)) ∧ Below w.heap.size w w' := by
  have hs' : s.size ≤ maxLen := by unfold maxLen; omega
  rcases hk with rfl | rfl | rfl | rfl | rfl | rfl
  · go_enter Try.func88, Try.ntmps88
    go_wp2_with (go_at_call 91; refine (word_any s _ hs' h0).mono ?_; rintro e w' ⟨rfl, rfl⟩)
    go_ret
    exact ⟨rfl, Below.refl _ _⟩
  · go_enter Try.func88, Try.ntmps88
    go_wp2_with (go_at_call 92; refine (number_any s _ hs' h0).mono ?_; rintro e w' ⟨rfl, rfl⟩)
    go_ret
    exact ⟨rfl, Below.refl _ _⟩
  · have C := quot_ch s w hs'
    go_enter Try.func88, Try.ntmps88
    go_wp2_with (go_at_call 93; refine C.mono ?_; rintro e w' ⟨rfl, rfl⟩)
    go_ret
    exact ⟨rfl, (Below.refl _ _).alloc (Nat.le_refl _) _⟩
  · have C := quot_st s w hs'
    go_enter Try.func88, Try.ntmps88
    go_wp2_with (go_at_call 93; refine C.mono ?_; rintro e w' ⟨rfl, rfl⟩)
    go_ret
    exact ⟨rfl, (Below.refl _ _).alloc (Nat.le_refl _) _⟩
  · go_enter Try.func88, Try.ntmps88
    go_wp2_with (go_at_call 94; refine (punct_any s _ hs').mono ?_; rintro e w' ⟨rfl, rfl⟩)
    go_ret
    exact ⟨rfl, Below.refl _ _⟩
  · go_enter Try.func88, Try.ntmps88
    go_wp2_with (go_at_call 95; refine (newline_any s _ hs' h0).mono ?_; rintro e w' ⟨rfl, rfl⟩)
    go_ret
    exact ⟨rfl, Below.refl _ _⟩

/-- The kinds that are measured; the best of so many of them. -/
def kindAt (k : Nat) : Nat := if k < 5 then k + 1 else 9
def bestOf (l : List UInt8) (k : Nat) : Nat × Nat := ([1, 2, 3, 4, 5, 9].take k).foldl (better l) (0, 0)
theorem best_succ (l : List UInt8) (k : Nat) (h : k < 6) : bestOf l (k + 1) = better l (bestOf l k) (kindAt k) := by
  match k, h with
  | 0, _ => rfl
  | 1, _ => rfl
  | 2, _ => rfl
  | 3, _ => rfl
  | 4, _ => rfl
  | 5, _ => rfl
theorem best_yes {l : List UInt8} {k : Nat} (h : k < 6) (h2 : (bestOf l k).2 < measureOf (kindAt k) l) : bestOf l (k + 1) = (kindAt k, measureOf (kindAt k) l) := by
  rw [best_succ l k h, better, if_pos h2]
theorem best_no {l : List UInt8} {k : Nat} (h : k < 6) (h2 : ¬ (bestOf l k).2 < measureOf (kindAt k) l) : bestOf l (k + 1) = bestOf l k := by
  rw [best_succ l k h, better, if_neg h2]

theorem numLen_le (l : List UInt8) : numLen l ≤ l.length := by
  unfold numLen
  split
  · omega
  · have h := numTail_le (l.drop (numStart l))
    rw [List.length_drop] at h
    have h2 : numStart l ≤ l.length := by
      match l with
      | [] => simp [numStart]
      | [c] => simp only [numStart]; split <;> simp
      | c :: d :: r => simp only [numStart]; split <;> (try split) <;> simp
    omega

theorem longest_best (l : List UInt8) : longestOf l = if (bestOf l 6).2 = 0 && !isQuote (l.headD 0) then (6, 1) else bestOf l 6 := rfl

theorem idx6_0 : ∀ w : World, (Instr.index 134 (.agg #[.int .i64 1, .int .i64 2, .int .i64 3, .int .i64 4, .int .i64 5, .int .i64 9]) (.int .i64 0)).run Try.prog w = .ok (.int .i64 1) w := fun _ => by kernel_rfl
theorem idx6_1 : ∀ w : World, (Instr.index 134 (.agg #[.int .i64 1, .int .i64 2, .int .i64 3, .int .i64 4, .int .i64 5, .int .i64 9]) (.int .i64 1)).run Try.prog w = .ok (.int .i64 2) w := fun _ => by kernel_rfl
theorem idx6_2 : ∀ w : World, (Instr.index 134 (.agg #[.int .i64 1, .int .i64 2, .int .i64 3, .int .i64 4, .int .i64 5, .int .i64 9]) (.int .i64 2)).run Try.prog w = .ok (.int .i64 3) w := fun _ => by kernel_rfl
theorem idx6_3 : ∀ w : World, (Instr.index 134 (.agg #[.int .i64 1, .int .i64 2, .int .i64 3, .int .i64 4, .int .i64 5, .int .i64 9]) (.int .i64 3)).run Try.prog w = .ok (.int .i64 4) w := fun _ => by kernel_rfl
theorem idx6_4 : ∀ w : World, (Instr.index 134 (.agg #[.int .i64 1, .int .i64 2, .int .i64 3, .int .i64 4, .int .i64 5, .int .i64 9]) (.int .i64 4)).run Try.prog w = .ok (.int .i64 5) w := fun _ => by kernel_rfl
theorem idx6_5 : ∀ w : World, (Instr.index 134 (.agg #[.int .i64 1, .int .i64 2, .int .i64 3, .int .i64 4, .int .i64 5, .int .i64 9]) (.int .i64 5)).run Try.prog w = .ok (.int .i64 9) w := fun _ => by kernel_rfl
theorem idx6 (k : Nat) (h : k < 6) (w : World) : (Instr.index 134 (.agg #[.int .i64 1, .int .i64 2, .int .i64 3, .int .i64 4, .int .i64 5, .int .i64 9]) (.int .i64 k)).run Try.prog w = .ok (.int .i64 (kindAt k : Nat)) w := by
  obtain rfl | rfl | rfl | rfl | rfl | rfl : k = 0 ∨ k = 1 ∨ k = 2 ∨ k = 3 ∨ k = 4 ∨ k = 5 := by omega
  · exact idx6_0 w
  · exact idx6_1 w
  · exact idx6_2 w
  · exact idx6_3 w
  · exact idx6_4 w
  · exact idx6_5 w
theorem kindAt_ok (k : Nat) : kindAt k = 1 ∨ kindAt k = 2 ∨ kindAt k = 3 ∨ kindAt k = 4 ∨ kindAt k = 5 ∨ kindAt k = 9 := by
  unfold kindAt; split <;> omega
theorem quote_head {s : ByteArray} (h0 : 0 < s.size) : isQuote (s.data.toList.headD 0) = (((s[0].toNat : Int) == 39) || ((s[0].toNat : Int) == 34)) := by
  have hd := data_drop s 0 h0
  rw [List.drop_zero] at hd
  rw [hd]
  show (s[0] == 39 || s[0] == 34) = _
  congr 1
  · cases h : ((s[0].toNat : Int) == 39)
    · exact b_ne 39 h
    · exact b_eq 39 h
  · cases h : ((s[0].toNat : Int) == 34)
    · exact b_ne 34 h
    · exact b_eq 34 h

set_option maxRecDepth 100000 in
set_option maxHeartbeats 4000000 in
theorem longest_any (s : ByteArray) (w : World) (hs : s.size ≤ 200000) (h0 : 0 < s.size) :
    Calls Try.prog 79 #[.string s] w fun e w' => e = .returned (.tuple #[.int .i64 ((longestOf s.data.toList).1 : Nat), .int .i64 ((longestOf s.data.toList).2 : Nat)]) ∧ Below w.heap.size w w' := by
  go_enter Try.func79, Try.ntmps79
  go_wp2
  go_loopg [2, 3, 5, 6, 8] 6 (fun g a b _ _ i wx => ∃ k : Nat, k + g = 6 ∧ i = .int .i64 k ∧ a = .int .i64 ((bestOf s.data.toList k).1 : Nat) ∧ b = .int .i64 ((bestOf s.data.toList k).2 : Nat) ∧ Below w.heap.size w wx)
  case atStart => exact ⟨0, rfl, rfl, rfl, rfl, Below.refl _ _⟩
  case round =>
    obtain ⟨k, hkg, rfl, rfl, rfl, hbx⟩ := hrel
    cases gk with
    | zero =>
      obtain rfl : k = 6 := by omega
      have HL := Lib.hid (longest_best s.data.toList)
      have HQ := Lib.hid (quote_head h0)
      generalize bestOf s.data.toList 6 = p at *
      obtain ⟨a, c⟩ := p
      by_cases hc : c = 0
      · subst hc
        cases h1 : ((s[0].toNat : Int) == 39)
        · have n1 : ((s[0].toNat : Int) != 39) = true := by simp [bne, h1]
          cases h2 : ((s[0].toNat : Int) == 34)
          · have n2 : ((s[0].toNat : Int) != 34) = true := by simp [bne, h2]
            rw [h1, h2] at HQ
            have HR : Hid (longestOf s.data.toList = (6, 1)) := Lib.hid (by rw [HL.out, HQ.out]; rfl)
            clear HL HQ
            go_wp2
            go_ret2
            exact ⟨by rw [HR.out]; rfl, hbx⟩
          · have n2 : ((s[0].toNat : Int) != 34) = false := by simp [bne, h2]
            rw [h1, h2] at HQ
            have HR : Hid (longestOf s.data.toList = (a, 0)) := Lib.hid (by rw [HL.out, HQ.out]; rfl)
            clear HL HQ
            go_wp2
            go_ret2
            exact ⟨by rw [HR.out]; rfl, hbx⟩
        · have n1 : ((s[0].toNat : Int) != 39) = false := by simp [bne, h1]
          rw [h1] at HQ
          have HR : Hid (longestOf s.data.toList = (a, 0)) := Lib.hid (by rw [HL.out, HQ.out]; rfl)
          clear HL HQ
          go_wp2
          go_ret2
          exact ⟨by rw [HR.out]; rfl, hbx⟩
      · have HR : Hid (longestOf s.data.toList = (a, c)) := Lib.hid (by rw [HL.out, if_neg (by simp [hc])])
        clear HL HQ
        go_wp2
        go_ret2
        exact ⟨by rw [HR.out]; rfl, hbx⟩
    | succ g =>
      have hk6 : k < 6 := by omega
      have hi := fun w => idx6 k hk6 w
      have hy := best_yes (l := s.data.toList) hk6
      have hno := best_no (l := s.data.toList) hk6
      have M := fun w => measure_any (kindAt k) (kindAt_ok k) s w hs h0
      generalize hp : bestOf s.data.toList k = p at *
      obtain ⟨a, c⟩ := p
      generalize hm : measureOf (kindAt k) s.data.toList = m at *
      generalize hkd : kindAt k = kd at *
      clear hp hm hkd
      by_cases hlt : c < m
      · have HY := Lib.hid (hy hlt)
        clear hy hno
        go_wp2_with (go_at_call 88; refine (M _).mono ?_; rintro e w1 ⟨rfl, hb1⟩)
        go_roundg g
        case rel => exact ⟨k + 1, by omega, by go_num, by rw [HY.out], by rw [HY.out], hbx.trans (hb1.mono hbx.size)⟩
        case measure => omega
      · have HY := Lib.hid (hno hlt)
        clear hy hno
        go_wp2_with (go_at_call 88; refine (M _).mono ?_; rintro e w1 ⟨rfl, hb1⟩)
        go_roundg g
        case rel => exact ⟨k + 1, by omega, by go_num, by rw [HY.out], by rw [HY.out], hbx.trans (hb1.mono hbx.size)⟩
        case measure => omega

end Go.Proofs.Ytaodjipnffgihaa
