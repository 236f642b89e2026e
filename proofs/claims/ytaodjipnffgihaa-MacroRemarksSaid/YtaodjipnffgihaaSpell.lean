/- phys.misread and Spell. -/
import Derived.Test.YtaodjipnffgihaaMyD
import Derived.Test.YtaodjipnffgihaaBuildS
import Derived.Test.YtaodjipnffgihaaSpellSpec
import Derived.BigCall
namespace Go.Proofs.Ytaodjipnffgihaa
open Go.RowKit

theorem beq_some (c a : UInt8) : (c == a) = (some a == some c) := by
  rw [Bool.eq_iff_iff]
  constructor <;> intro h <;> simp at h ⊢ <;> exact h.symm

theorem hasPrefix_two (l : List UInt8) : Lib.hasPrefix l [92, 10] = (l[0]? == some 92 && l[1]? == some 10) := by
  match l with
  | [] => rfl
  | [a] =>
    show ((92 == a) && false) = ((some a == some 92) && (none == some 10))
    rw [beq_some]; rfl
  | a :: b :: r =>
    show ((92 == a) && ((10 == b) && true)) = ((some a == some 92) && (some b == some 10))
    rw [beq_some, beq_some, Bool.and_true]

theorem misr_yes {l : List UInt8} (h : Lib.hasPrefix l [92, 10] = true) : misr l = true := by
  rw [hasPrefix_two] at h; simp [misr, h]
theorem misr_no {l : List UInt8} (h : Lib.hasPrefix l [92, 10] = false) : misr l = isTri l := by
  rw [hasPrefix_two] at h; simp [misr, h]

set_option maxHeartbeats 400000 in
/-- phys.misread AT EVERY TEXT. -/
theorem misread_any (s : ByteArray) (w : World) (hs : s.size ≤ maxLen) :
    Calls Try.prog 41 #[.string s] w fun e w' => e = .returned (.bool (misr s.data.toList)) ∧ w = w' := by
  go_enter Try.func41, Try.ntmps41
  go_wp2_with (first
    | (go_at_call 65; refine (Try.strings_HasPrefix _ _ _).mono ?_; rintro e w' ⟨rfl, rfl⟩)
    | (go_at_call 66; refine (trigraph_any _ _ hs).mono ?_; rintro e w' ⟨rfl, rfl⟩))
  · have h : Lib.hasPrefix s.data.toList [92, 10] = true := by assumption
    go_ret
    exact ⟨ret_bool (misr_yes h).symm, rfl⟩
  · have h : Lib.hasPrefix s.data.toList [92, 10] = false := by assumption
    go_ret
    exact ⟨ret_bool (misr_no h).symm, rfl⟩

theorem spell_result {a : List UInt8} {n : Int} {p : List UInt8 × Int} (h : p = (a, n)) :
    Ending.returned (.tuple #[.string ⟨a.toArray⟩, .int .i64 n]) = .returned (.tuple #[.string ⟨p.1.toArray⟩, .int .i64 p.2]) := by rw [h]

set_option maxRecDepth 100000 in
set_option maxHeartbeats 1000000 in
/-- phys.Spell AT EVERY TEXT. -/
theorem spell_any (s : ByteArray) (w : World) (hs : s.size ≤ maxLen) :
    Calls Try.prog 21 #[.string s] w fun e w' => e = .returned (.tuple #[.string ⟨(spellOut s.data.toList).1.toArray⟩, .int .i64 (spellOut s.data.toList).2]) ∧ Below w.heap.size w w' := by
  by_cases hl : 65536 < s.size
  · have H := Lib.hid (spellOut_long hl)
    unfold maxLen at hs
    go_enter Try.func21, Try.ntmps21
    go_wp2
    go_ret2
    exact ⟨spell_result H.out, Below.refl _ _⟩
  · by_cases he : endsTen s.data.toList = true
    · have HE := Lib.hid he
      have hd : s.toList = [] ∨ (1 ≤ (s.size : Int) ∧ (s.size : Int) - 1 < s.size ∧ ¬ s.toList = [] ∧ ∀ h : s.size - 1 < s.size, ((s[s.size - 1].toNat : Int) != 10) = false) := by
        rcases Nat.eq_zero_or_pos s.size with h0 | h0
        · exact .inl (by rw [ByteArray.toList_eq]; exact List.length_eq_zero_iff.1 (by rw [size_list]; exact h0))
        · refine .inr ⟨by omega, by omega, fun h2 => ?_, fun h => ?_⟩
          · rw [ByteArray.toList_eq] at h2
            have := size_list s; rw [h2] at this; simp at this; omega
          · rw [ends_last h0] at he
            have := of_decide_eq_true he
            rw [this]; rfl
      clear he
      rcases hd with hd | ⟨h1, h2, h3, h4⟩
      all_goals
        go_enter Try.func21, Try.ntmps21
        go_wp2
      all_goals
        go_loopw [21] (fun i wr => ∃ k : Nat, k ≤ s.size ∧ i = .int .i64 k ∧ Lib.IsBuilderF 80 5 w.heap.size w.heap.size (Lib.byteCells (spellUpto s.data.toList k)) wr ∧ Below w.heap.size w wr) (fun i _ => s.size - (intOf i).toNat)
        case atStart => exact ⟨0, Nat.zero_le _, rfl, Lib.IsBuilderF.of (Lib.fresh_isBuilder _ _ w), below1 _ _⟩
        case round =>
          obtain ⟨k, hk, rfl, hI, hB⟩ := hrel
          by_cases hlt : k < s.size
          · have hx : (s.extract k s.size).size ≤ maxLen := by rw [ByteArray.size_extract]; unfold maxLen; omega
            have HE := Lib.hid (extract_end s k)
            have hu := spellUpto_le s.data.toList k
            have hlen : (Lib.byteCells (spellUpto s.data.toList k)).length + 1 ≤ 140737488355328 := by rw [Lib.byteCells_length]; omega
            have hlen2 : ∀ x : Value, (Lib.byteCells (spellUpto s.data.toList k) ++ [x]).length + (⟨#[92, 10]⟩ : ByteArray).size ≤ 140737488355328 := fun x => by
              rw [List.length_append, Lib.byteCells_length]
              show _ + 1 + 2 ≤ _
              omega
            cases hm : misr (s.data.toList.drop k)
            · have HS := Lib.hid (spellStep_no hlt hm)
              have hm' := hm
              go_wp2_with (first
                | (go_at_call 40; refine (writeByte_k w.heap.size w.heap.size _ _ _ hI hlen hB.size).mono ?_; rintro e w1 ⟨rfl, hI1, hB1, _⟩)
                | (go_at_call 41; refine (misread_any _ _ hx).mono ?_; rintro e w' ⟨rfl, rfl⟩; rw [HE.out]))
              go_roundw
              case rel =>
                refine ⟨k + 1, by omega, by go_num, ?_, hB.trans hB1⟩
                simp only [spellUpto, HS.out, Lib.byteCells_append]
                exact .inr hI1
              case measure => simp [intOf]; omega
            · have HS := Lib.hid (spellStep_yes hlt hm)
              have hm' := hm
              go_wp2_with (first
                | (go_at_call 40; refine (writeByte_k w.heap.size w.heap.size _ _ _ hI hlen hB.size).mono ?_; rintro e w1 ⟨rfl, hI1, hB1, _⟩)
                | (go_at_call 41; refine (misread_any _ _ hx).mono ?_; rintro e w' ⟨rfl, rfl⟩; rw [HE.out])
                | (go_at_call 42; refine (writeString_k w.heap.size w.heap.size _ _ _ (.inr hI1) (hlen2 _) (hB.trans hB1).size).mono ?_; rintro e w2 ⟨rfl, hI2, hB2, _⟩))
              go_roundw
              case rel =>
                refine ⟨k + 1, by omega, by go_num, ?_, (hB.trans hB1).trans hB2⟩
                simp only [spellUpto, HS.out, Lib.byteCells_append, ← List.append_assoc]
                exact .inr hI2
              case measure => simp [intOf]; omega
          · obtain rfl : k = s.size := by omega
            have hu := spellUpto_le s.data.toList s.size
            by_cases hb : 65536 < (spellUpto s.data.toList s.size).length
            · have HB := Lib.hid (spellOut_big hl HE.out hb)
              go_wp2_with (go_at_call 43; refine (Try.Builder_Len_f _ _ _ _ hI).mono ?_; rintro e w' ⟨rfl, rfl⟩; rw [Lib.byteCells_length])
              go_ret2
              exact ⟨spell_result HB.out, hB⟩
            · have HB := Lib.hid (spellOut_ok hl HE.out hb)
              go_wp2_with (first
                | (go_at_call 43; refine (Try.Builder_Len_f _ _ _ _ hI).mono ?_; rintro e w' ⟨rfl, rfl⟩; rw [Lib.byteCells_length])
                | (go_at_call 44; refine (Try.Builder_String_any_k w.heap.size w.heap.size _ _ hI hB.size).mono ?_; rintro e w1 ⟨rfl, _, hB1, _⟩))
              go_ret2
              exact ⟨spell_result HB.out, hB.trans hB1⟩
    · have he' : endsTen s.data.toList = false := by simpa using he
      have h0 : 0 < s.size := by
        rcases Nat.eq_zero_or_pos s.size with h0 | h0
        · exact absurd (ends_empty h0) he
        · exact h0
      have HE := Lib.hid (spellOut_end hl he')
      have h1 : 1 ≤ (s.size : Int) := by omega
      have h2 : (s.size : Int) - 1 < s.size := by omega
      have h3 : ¬ s.toList = [] := fun h2 => by
        rw [ByteArray.toList_eq] at h2
        have := size_list s; rw [h2] at this; simp at this; omega
      have h5 : (!s.toList.isEmpty) = true := by simpa using h3
      have h4 : ∀ h : s.size - 1 < s.size, ((s[s.size - 1].toNat : Int) != 10) = true := fun h => by
        rw [ends_last h0] at he'
        have h7 := of_decide_eq_false he'
        simp only [bne_iff_ne, ne_eq]
        intro h6
        exact h7 (UInt8.toNat_inj.1 (by simp; omega))
      clear he he'
      go_enter Try.func21, Try.ntmps21
      go_wp2
      go_ret2
      exact ⟨spell_result HE.out, Below.refl _ _⟩

end Go.Proofs.Ytaodjipnffgihaa
