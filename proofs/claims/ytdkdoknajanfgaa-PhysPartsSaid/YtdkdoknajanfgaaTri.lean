/- phys.trigraph; the reference's tri and splice. -/
import Derived.Test.YtdkdoknajanfgaaThird
import Derived.Test.YtdkdoknajanfgaaBytes
import Derived.Lib.Hide
namespace Go.Proofs.Ytdkdoknajanfgaa
open Go.RowKit

theorem trigraph_hit {s : ByteArray} (h : 3 ≤ s.size) (h2 : (!(s.extract 0 2).toList == [63, 63]) = false) : tri s.data.toList = third s[2] := by
  rw [extract02 h] at h2
  simp at h2
  rw [tri0 h, if_pos h2]

theorem trigraph_miss {s : ByteArray} (h : 3 ≤ s.size) (h2 : (!(s.extract 0 2).toList == [63, 63]) = true) : tri s.data.toList = none := by
  rw [extract02 h] at h2
  simp at h2
  rw [tri0 h, if_neg (fun h => by rcases h2 with h2 | h2; exact h2 h.1; exact h2 h.2)]

set_option maxHeartbeats 400000 in
/-- phys.trigraph AT EVERY TEXT. -/
theorem trigraph_any (s : ByteArray) (w : World) (hs : s.size ≤ maxLen) :
    Calls Try.prog 41 #[.string s] w fun e w' => e = .returned (.tuple #[.int .u8 (triOf s.data.toList).toNat, .bool (isTri s.data.toList)]) ∧ w = w' := by
  unfold maxLen at hs
  by_cases h : s.size < 3
  · have ht : tri s.data.toList = none := tri_short (by rw [size_list]; exact h)
    have H := Lib.hid ht; clear ht
    go_enter Try.func41, Try.ntmps41
    go_wp2
    go_ret2
    refine ⟨?_, rfl⟩
    simp [triOf, isTri, H.out]
  · have h' : 3 ≤ s.size := by omega
    go_enter Try.func41, Try.ntmps41
    go_wp2_with (go_at_call 22; refine (third_any _ _).mono ?_; rintro e w' ⟨rfl, rfl⟩)
    · have h2 : (s.size : Int) < 3 ∨ (!(s.extract 0 2).toList == [63, 63]) = true := by assumption
      go_ret2
      refine ⟨?_, rfl⟩
      simp [triOf, isTri, trigraph_miss h' (h2.resolve_left (by omega))]
    · have h2 : 3 ≤ (s.size : Int) ∧ (!(s.extract 0 2).toList == [63, 63]) = false := by assumption
      go_ret2
      refine ⟨?_, rfl⟩
      simp [triOf, isTri, thirdOf, isThird, trigraph_hit h' h2.2]

theorem rtri_hit {s : ByteArray} {k : Nat} (h : k + 3 ≤ s.size) (h1 : (s[k].toNat : Int) = 63) (h2 : ((s[k + 1].toNat : Int) != 63) = false) : tri (s.data.toList.drop k) = third s[k + 2] := by
  rw [triAt h, if_pos]
  simp at h2
  exact ⟨UInt8.toNat_inj.1 (by simp; omega), UInt8.toNat_inj.1 (by simp; omega)⟩

theorem rtri_miss1 {s : ByteArray} {k : Nat} (h : k + 3 ≤ s.size) (h1 : ¬ (s[k].toNat : Int) = 63) : tri (s.data.toList.drop k) = none := by
  rw [triAt h, if_neg]
  rintro ⟨h2, _⟩
  rw [h2] at h1
  exact h1 rfl

theorem rtri_miss2 {s : ByteArray} {k : Nat} (h : k + 3 ≤ s.size) (h1 : ((s[k + 1].toNat : Int) != 63) = true) : tri (s.data.toList.drop k) = none := by
  rw [triAt h, if_neg]
  rintro ⟨_, h2⟩
  rw [h2] at h1
  exact absurd h1 (by decide)

set_option maxHeartbeats 400000 in
/-- The reference's tri AT EVERY TEXT AND PLACE. -/
theorem rtri_any (s : ByteArray) (k : Nat) (w : World) (hs : s.size ≤ 65536) (hk : k ≤ s.size) :
    Calls Try.prog 34 #[.string s, .int .i64 k] w fun e w' => e = .returned (.tuple #[.int .u8 (triOf (s.data.toList.drop k)).toNat, .bool (isTri (s.data.toList.drop k))]) ∧ w = w' := by
  by_cases h : s.size < k + 3
  · have H := Lib.hid (triAt_short h)
    go_enter Try.func34, Try.ntmps34
    go_wp2
    go_ret2
    refine ⟨?_, rfl⟩
    simp [triOf, isTri, H.out]
  · have h' : k + 3 ≤ s.size := by omega
    go_enter Try.func34, Try.ntmps34
    go_wp2_with (go_at_call 23; refine (rthird_any _ _).mono ?_; rintro e w' ⟨rfl, rfl⟩)
    · have h2 : (s.size : Int) < k + 3 ∨ ((s[k + 1].toNat : Int) != 63) = true := by assumption
      go_ret2
      refine ⟨?_, rfl⟩
      simp [triOf, isTri, rtri_miss2 h' (h2.resolve_left (by omega))]
    · have h1 : (s[k].toNat : Int) = 63 := by assumption
      have h2 : (k : Int) + 3 ≤ s.size ∧ ((s[k + 1].toNat : Int) != 63) = false := by assumption
      go_ret2
      refine ⟨?_, rfl⟩
      simp [triOf, isTri, thirdOf, isThird, rtri_hit h' h1 h2.2]
    · have h1 : ¬ (s[k].toNat : Int) = 63 := by assumption
      go_ret2
      refine ⟨?_, rfl⟩
      simp [triOf, isTri, rtri_miss1 h' h1]

/-- How many bytes the splice has with which a list begins; 0: there is none. -/
def spliceN (l : List UInt8) : Nat := if isSplice l then partN l else 0

theorem ret_int {k : IntKind} {a b : Int} (h : a = b) : Ending.returned (.int k a) = .returned (.int k b) := by rw [h]
theorem ret_bool {a b : Bool} (h : a = b) : Ending.returned (.bool a) = .returned (.bool b) := by rw [h]

/-- A list does not begin with a backslash and a line's end. -/
def Not1 (l : List UInt8) : Prop := ¬ (l[0]? = some 92 ∧ l[1]? = some 10)
def Not2 (l : List UInt8) : Prop := ¬ (isTri l = true ∧ triOf l = 92 ∧ l[3]? = some 10)

theorem isTri_head {l : List UInt8} (h : isTri l = true) : l[0]? = some 63 := by
  match l, h with
  | [], h => simp [isTri, tri] at h
  | [_], h => simp [isTri, tri] at h
  | [_, _], h => simp [isTri, tri] at h
  | a :: b :: c :: r, h =>
    by_cases h2 : a = 63 ∧ b = 63
    · simp [h2.1]
    · simp [isTri, tri, h2] at h

theorem head_drop (l : List UInt8) (n : Nat) : (l.drop n).head? = l[n]? := by rw [List.head?_drop]

theorem splice_two {l : List UInt8} (h0 : l[0]? = some 92) (h1 : l[1]? = some 10) : spliceN l = 2 := by
  have ht : isTri l = false := by
    cases h : isTri l with
    | false => rfl
    | true => have := isTri_head h; rw [h0] at this; exact absurd this (by decide)
  have hb : charB l = 92 := by
    unfold charB; rw [ht]
    match l, h0 with
    | a :: r, h0 => simpa using h0
  have hn : charN l = 1 := by unfold charN; rw [ht]; rfl
  have hs : isSplice l = true := by simp [isSplice, hb, hn, h1]
  simp [spliceN, partN, hs, hn]

theorem splice_four {l : List UInt8} (ht : isTri l = true) (h0 : triOf l = 92) (h1 : l[3]? = some 10) : spliceN l = 4 := by
  have hb : charB l = 92 := by unfold charB; rw [ht]; exact h0
  have hn : charN l = 3 := by unfold charN; rw [ht]; rfl
  have hs : isSplice l = true := by simp [isSplice, hb, hn, h1]
  simp [spliceN, partN, hs, hn]

theorem splice_zero {l : List UInt8} (h1 : Not1 l) (h2 : Not2 l) : spliceN l = 0 := by
  have hs : isSplice l = false := by
    cases h : isSplice l with
    | false => rfl
    | true =>
      simp only [isSplice, Bool.and_eq_true, beq_iff_eq, head_drop] at h
      cases ht : isTri l with
      | true =>
        have hb : charB l = triOf l := by unfold charB; rw [ht]; rfl
        have hn : charN l = 3 := by unfold charN; rw [ht]; rfl
        rw [hb, hn] at h
        exact absurd ⟨ht, h.1, h.2⟩ h2
      | false =>
        have hb : charB l = l.headD 0 := by unfold charB; rw [ht]; rfl
        have hn : charN l = 1 := by unfold charN; rw [ht]; rfl
        rw [hb, hn] at h
        match l, h, h1 with
        | [], h, _ => simp at h
        | a :: r, h, h1 => exact absurd ⟨by simpa using h.1, h.2⟩ h1
  simp [spliceN, hs]

section
variable {s : ByteArray} {k : Nat}
theorem drop_get (j : Nat) (h : k + j < s.size) : (s.data.toList.drop k)[j]? = some s[k + j] := by
  rw [List.getElem?_drop, data_get s _ h]
theorem drop_none (j : Nat) (h : s.size ≤ k + j) : (s.data.toList.drop k)[j]? = none := by
  rw [List.getElem?_drop, List.getElem?_eq_none (by rw [size_list]; exact h)]

theorem n1a (hl : k < s.size) (h : ¬ (s[k].toNat : Int) = 92) : Not1 (s.data.toList.drop k) := by
  rintro ⟨h0, _⟩
  rw [drop_get 0 (by omega)] at h0
  simp only [Nat.add_zero, Option.some.injEq] at h0
  rw [h0] at h; exact h rfl
theorem n1b (hl : 0 ≤ (k : Int) + 1 ∧ (k : Int) + 1 < s.size) (h : ((s[k + 1].toNat : Int) == 10) = false) : Not1 (s.data.toList.drop k) := by
  rintro ⟨_, h0⟩
  rw [drop_get 1 (by omega)] at h0
  simp only [Option.some.injEq] at h0
  rw [h0] at h; exact absurd h (by decide)
theorem n1c (hl : (s.size : Int) < k + 2) : Not1 (s.data.toList.drop k) := by
  rintro ⟨_, h0⟩
  rw [drop_none 1 (by omega)] at h0
  cases h0
theorem n2a (h : ¬ isTri (s.data.toList.drop k) = true) : Not2 (s.data.toList.drop k) := fun h2 => h h2.1
theorem n2b (h : ¬ ((triOf (s.data.toList.drop k)).toNat : Int) = 92) : Not2 (s.data.toList.drop k) := fun h2 => by
  rw [h2.2.1] at h; exact h rfl
theorem n2c (hl : (s.size : Int) < k + 4) : Not2 (s.data.toList.drop k) := by
  rintro ⟨_, _, h0⟩
  rw [drop_none 3 (by omega)] at h0
  cases h0
theorem n2d (hl : 0 ≤ (k : Int) + 3 ∧ (k : Int) + 3 < s.size) (h : ((s[k + 3].toNat : Int) == 10) = false) : Not2 (s.data.toList.drop k) := by
  rintro ⟨_, _, h0⟩
  rw [drop_get 3 (by omega)] at h0
  simp only [Option.some.injEq] at h0
  rw [h0] at h; exact absurd h (by decide)

theorem sp2 (hk : k < s.size) (hl : 0 ≤ (k : Int) + 1 ∧ (k : Int) + 1 < s.size) (h0 : (s[k].toNat : Int) = 92) (h1 : ((s[k + 1].toNat : Int) == 10) = true) : (2 : Int) = spliceN (s.data.toList.drop k) := by
  rw [splice_two]
  · rfl
  · rw [drop_get 0 (by omega)]; exact congrArg some (UInt8.toNat_inj.1 (by simp; omega))
  · rw [drop_get 1 (by omega)]; exact congrArg some (eq_u8 10 h1)
theorem sp4 (ht : isTri (s.data.toList.drop k) = true) (h0 : ((triOf (s.data.toList.drop k)).toNat : Int) = 92) (hl : 0 ≤ (k : Int) + 3 ∧ (k : Int) + 3 < s.size) (h1 : ((s[k + 3].toNat : Int) == 10) = true) : (4 : Int) = spliceN (s.data.toList.drop k) := by
  rw [splice_four ht]
  · rfl
  · exact UInt8.toNat_inj.1 (by simp; omega)
  · rw [drop_get 3 (by omega)]; exact congrArg some (eq_u8 10 h1)
theorem sp0 (h1 : Not1 (s.data.toList.drop k)) (h2 : Not2 (s.data.toList.drop k)) : (0 : Int) = spliceN (s.data.toList.drop k) := by
  rw [splice_zero h1 h2]; rfl
end

set_option maxHeartbeats 1000000 in
/-- The reference's splice AT EVERY TEXT AND PLACE. -/
theorem rsplice_any (s : ByteArray) (k : Nat) (w : World) (hs : s.size ≤ 65536) (hk : k ≤ s.size) :
    Calls Try.prog 38 #[.string s, .int .i64 k] w fun e w' => e = .returned (.int .i64 (spliceN (s.data.toList.drop k))) ∧ w = w' := by
  go_enter Try.func38, Try.ntmps38
  go_wp2_with (go_at_call 34; refine (rtri_any _ _ _ hs hk).mono ?_; rintro e w' ⟨rfl, rfl⟩)
  all_goals go_ret
  all_goals refine ⟨ret_int ?_, rfl⟩
  all_goals first
    | exact sp2 (by assumption) (by assumption) (by assumption) (by assumption)
    | exact sp4 (by assumption) (by assumption) (by assumption) (by assumption)
    | exact sp0 (by first | exact n1a (by assumption) (by assumption) | exact n1b (by assumption) (by assumption) | exact n1c (by assumption)) (by first | exact n2a (by assumption) | exact n2b (by assumption) | exact n2c (by assumption) | exact n2d (by assumption) (by assumption))

end Go.Proofs.Ytdkdoknajanfgaa
