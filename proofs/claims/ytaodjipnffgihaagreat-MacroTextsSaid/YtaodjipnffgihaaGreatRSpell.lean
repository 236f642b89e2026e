/- The reference's Spell. -/
import Derived.Test.YtaodjipnffgihaaGreatMzG
import Derived.Test.YtaodjipnffgihaaGreatMzH
import Derived.Test.YtaodjipnffgihaaGreatGen
import Derived.Test.YtaodjipnffgihaaGreatMzC
import Derived.RangeFuncBox
import Derived.Lib.BufferRead
import Derived.Maps.AppendAt
import Derived.WalkSmall
namespace Go.Proofs.YtaodjipnffgihaaGreat
open Go.RowKit

/-- string(b) of a row of bytes that the call owns. -/
theorem conv_row {w : World} {base : Nat} {a : Option Addr} {cap : Nat} {l : List UInt8} {n : Nat} (hn : n = l.length) (h : w.ownsRow base 5 1 (.slice a n cap) n (Lib.byteCells l)) :
    (convert 59 9 (.slice a n cap)).run Tryz.prog w = .ok (.string ⟨l.toArray⟩) w := by
  subst hn
  rcases h.2 with ⟨hv, h0⟩ | ⟨g, cap', cur, hv, _, hg, _, _, _, ht⟩
  · have : l = [] := List.length_eq_zero_iff.1 h0
    subst this
    cases hv
    exact Lib.run_convert_nil_bytes w _ _ _ 0 Tryz.underlying59 Tryz.underlying5 Tryz.underlying9
  · cases hv
    refine run_convert_bytes_back w _ _ _ _ _ l Tryz.underlying59 Tryz.underlying5 Tryz.underlying9 ?_
    exact Lib.bytes_of_row hg (by simpa using ht)

theorem infoU8 : (Tryz.prog.info? 5).map (fun i => (i.zero, i.size, i.bytes)) = some (some (.int .u8 0), 1, 1) := by kernel_rfl

theorem spell_result' {a : List UInt8} {n : Int} {p : List UInt8 × Int} (h : p = (a, n)) :
    Ending.returned (.tuple #[.string ⟨a.toArray⟩, .int .i64 n]) = .returned (.tuple #[.string ⟨p.1.toArray⟩, .int .i64 p.2]) := by rw [h]

theorem misr_tri {l : List UInt8} (h : isTri l = true) : misr l = true := by simp [misr, h]
theorem misr_two {s : ByteArray} {k : Nat} (hk : k < s.size) (hl : (k : Int) + 1 < s.size) (h0 : (s[k].toNat : Int) = 92) (h1 : ((s[k + 1].toNat : Int) == 10) = true) : misr (s.data.toList.drop k) = true := by
  have e0 : (s.data.toList.drop k)[0]? = some 92 := by rw [drop_get 0 (by omega)]; exact congrArg some (UInt8.toNat_inj.1 (by simp; omega))
  have e1 : (s.data.toList.drop k)[1]? = some 10 := by rw [drop_get 1 (by omega)]; exact congrArg some (eq_u8 10 h1)
  simp [misr, e0, e1]
theorem misr_not {l : List UInt8} (h : ¬ isTri l = true) (h1 : Not1 l) : misr l = false := by
  cases hm : misr l with
  | false => rfl
  | true =>
    simp only [misr, Bool.or_eq_true, Bool.and_eq_true, beq_iff_eq] at hm
    rcases hm with hm | hm
    · exact absurd hm h1
    · exact absurd hm h

theorem row_no {s : ByteArray} {k base : Nat} {w : World} {v : Value} (hk : k < s.size) (hm : misr (s.data.toList.drop k) = false)
    (h : w.ownsRow base 5 1 v ((spellUpto s.data.toList k).length + 1) (Lib.byteCells (spellUpto s.data.toList k) ++ [.int .u8 s[k].toNat])) :
    w.ownsRow base 5 1 v (spellUpto s.data.toList (k + 1)).length (Lib.byteCells (spellUpto s.data.toList (k + 1))) := by
  simp only [spellUpto, spellStep_no hk hm, Lib.byteCells_append, List.length_append]
  exact h
theorem row_yes {s : ByteArray} {k base : Nat} {w : World} {v : Value} (hk : k < s.size) (hm : misr (s.data.toList.drop k) = true)
    (h : w.ownsRow base 5 1 v ((spellUpto s.data.toList k).length + 1 + 2) (Lib.byteCells (spellUpto s.data.toList k) ++ [.int .u8 s[k].toNat] ++ [.int .u8 92, .int .u8 10])) :
    w.ownsRow base 5 1 v (spellUpto s.data.toList (k + 1)).length (Lib.byteCells (spellUpto s.data.toList (k + 1))) := by
  simp only [spellUpto, spellStep_yes hk hm, Lib.byteCells_append, List.length_append, ← List.append_assoc]
  exact h

set_option maxRecDepth 100000 in
set_option maxHeartbeats 1000000 in
theorem rspell_long (s : ByteArray) (w : World) (hs : s.size ≤ maxLen) (hl : 65536 < s.size) :
    Calls Tryz.prog 14 #[.string s] w fun e w' => e = .returned (.tuple #[.string ⟨(spellOut s.data.toList).1.toArray⟩, .int .i64 (spellOut s.data.toList).2]) ∧ Below w.heap.size w w' := by
  have H := Lib.hid (spellOut_long hl)
  unfold maxLen at hs
  go_enter Tryz.func14, Tryz.ntmps14
  go_wp2
  go_ret2
  exact ⟨spell_result' H.out, Below.refl _ _⟩

set_option maxRecDepth 100000 in
set_option maxHeartbeats 1000000 in
theorem rspell_bad (s : ByteArray) (w : World) (hl : ¬ 65536 < s.size) (he : endsTen s.data.toList = false) :
    Calls Tryz.prog 14 #[.string s] w fun e w' => e = .returned (.tuple #[.string ⟨(spellOut s.data.toList).1.toArray⟩, .int .i64 (spellOut s.data.toList).2]) ∧ Below w.heap.size w w' := by
  have h0 : 0 < s.size := by
    rcases Nat.eq_zero_or_pos s.size with h0 | h0
    · rw [ends_empty h0] at he; cases he
    · exact h0
  have HE := Lib.hid (spellOut_end hl he)
  have h1 : 1 ≤ (s.size : Int) := by omega
  have h2 : (s.size : Int) - 1 < s.size := by omega
  have h4 : ∀ h : s.size - 1 < s.size, ((s[s.size - 1].toNat : Int) != 10) = true := fun h => by
    rw [ends_last h0] at he
    have h7 := of_decide_eq_false he
    simp only [bne_iff_ne, ne_eq]
    intro h6
    exact h7 (UInt8.toNat_inj.1 (by simp; omega))
  clear he
  go_enter Tryz.func14, Tryz.ntmps14
  go_wp2
  go_ret2
  exact ⟨spell_result' HE.out, Below.refl _ _⟩

set_option maxRecDepth 100000 in
set_option maxHeartbeats 1000000 in
theorem rspell_good (s : ByteArray) (w : World) (hl : ¬ 65536 < s.size) (h0 : 0 < s.size) (he : endsTen s.data.toList = true) :
    Calls Tryz.prog 14 #[.string s] w fun e w' => e = .returned (.tuple #[.string ⟨(spellOut s.data.toList).1.toArray⟩, .int .i64 (spellOut s.data.toList).2]) ∧ Below w.heap.size w w' := by
  have HE := Lib.hid he
  have h1 : 1 ≤ (s.size : Int) := by omega
  have h2 : (s.size : Int) - 1 < s.size := by omega
  have h4 : ∀ h : s.size - 1 < s.size, ((s[s.size - 1].toNat : Int) != 10) = false := fun h => by
    rw [ends_last h0] at he
    have := of_decide_eq_true he
    rw [this]; rfl
  clear he
  go_enter Tryz.func14, Tryz.ntmps14
  go_wp2
  go_loopw [4, 5] (fun v i wr => ∃ k : Nat, k ≤ s.size ∧ i = .int .i64 k ∧ wr.ownsRow w.heap.size 5 1 v (spellUpto s.data.toList k).length (Lib.byteCells (spellUpto s.data.toList k)) ∧ Below w.heap.size w wr) (fun _ i _ => s.size - (intOf i).toNat)
  case atStart => exact ⟨0, Nat.zero_le _, rfl, World.ownsRow_nil _ _ _ _, Below.refl _ _⟩
  case round =>
    obtain ⟨k, hk, rfl, hown, hB⟩ := hrel
    have hu := spellUpto_le s.data.toList k
    obtain ⟨i0, hi, hz0, hz1, hz2⟩ := info_parts infoU8
    by_cases hlt : k < s.size
    · have hown0 := hown
      go_wp2_with (first
        | (at_builtin; refine wpList_append_own _ rfl _ _ 59 rfl w.heap.size 5 i0 (.int .u8 0) 1 1 Tryz.underlying59 hi hz0 hz1 hz2 rfl (by decide) _ _ _ rfl (hown.alloc _) ⟨wr.heap.size, 0, none⟩ 1 1 [.int .u8 s[k].toNat] rfl rfl (cell_one_new _ _ _) (by simp [Value.oneCell']) (by unfold maxLen; omega) (by omega) (by have := hB.size; simp; omega) ?_; intro v1 w1 hown1 hg1 hn1; clear hown hn1; have hB1 := (hB.alloc hB.size _).grown hg1 (by have := hB.size; simp; omega) (fun j e => (hown0.lt j e).1))
        | (at_builtin; refine wpList_append_own _ rfl _ _ 59 rfl w.heap.size 5 i0 (.int .u8 0) 1 1 Tryz.underlying59 hi hz0 hz1 hz2 rfl (by decide) _ _ _ rfl (hown1.alloc _) ⟨w1.heap.size, 0, none⟩ 2 2 [.int .u8 92, .int .u8 10] rfl rfl (cell_two_new _ _ _ _) (by simp [Value.oneCell']) (by unfold maxLen; omega) (by omega) (by have := hB1.size; simp; omega) ?_; intro v2 w2 hown2 hg2 hn2; clear hn2; have hB2 := (hB1.alloc hB1.size _).grown hg2 (by have := hB1.size; simp; omega) (fun j e => (hown1.lt j e).1))
        | (go_at_call 36; refine (rtri_any _ _ _ (by omega) (by omega)).mono ?_; rintro e w' ⟨rfl, rfl⟩))
      · have ht : isTri (s.data.toList.drop k) = true := by assumption
        go_roundw
        case rel => exact ⟨k + 1, by omega, by go_num, row_yes hlt (misr_tri ht) hown2, hB2⟩
        case measure => simp [intOf]; omega
      · have ha : (k : Int) + 1 < s.size := by assumption
        have hb : (s[k].toNat : Int) = 92 := by assumption
        have hc : ((s[k + 1].toNat : Int) == 10) = true := by assumption
        go_roundw
        case rel => exact ⟨k + 1, by omega, by go_num, row_yes hlt (misr_two hlt ha hb hc) hown2, hB2⟩
        case measure => simp [intOf]; omega
      · have ht : ¬ isTri (s.data.toList.drop k) = true := by assumption
        have hc : ((s[k + 1].toNat : Int) == 10) = false := by assumption
        go_roundw
        case rel => exact ⟨k + 1, by omega, by go_num, row_no hlt (misr_not ht (n1b (by omega) hc)) hown1, hB1⟩
        case measure => simp [intOf]; omega
      · have ht : ¬ isTri (s.data.toList.drop k) = true := by assumption
        have hb : ¬ (s[k].toNat : Int) = 92 := by assumption
        go_roundw
        case rel => exact ⟨k + 1, by omega, by go_num, row_no hlt (misr_not ht (n1a hlt hb)) hown1, hB1⟩
        case measure => simp [intOf]; omega
      · have ht : ¬ isTri (s.data.toList.drop k) = true := by assumption
        have ha : ¬ (k : Int) + 1 < s.size := by assumption
        go_roundw
        case rel => exact ⟨k + 1, by omega, by go_num, row_no hlt (misr_not ht (n1c (by omega))) hown1, hB1⟩
        case measure => simp [intOf]; omega
    · obtain rfl : k = s.size := by omega
      obtain ⟨a, cap, rfl⟩ := row_shape hown
      have hcv := conv_row rfl hown
      by_cases hb : 65536 < (spellUpto s.data.toList s.size).length
      · have HB := Lib.hid (spellOut_big hl HE.out hb)
        go_wp2
        go_ret2
        exact ⟨spell_result' HB.out, hB⟩
      · have HB := Lib.hid (spellOut_ok hl HE.out hb)
        go_wp2
        go_ret2
        exact ⟨spell_result' HB.out, hB⟩

set_option maxRecDepth 100000 in
set_option maxHeartbeats 1000000 in
theorem rspell_empty (s : ByteArray) (w : World) (h0 : s.size = 0) :
    Calls Tryz.prog 14 #[.string s] w fun e w' => e = .returned (.tuple #[.string ⟨(spellOut s.data.toList).1.toArray⟩, .int .i64 (spellOut s.data.toList).2]) ∧ Below w.heap.size w w' := by
  have HB := Lib.hid (spellOut_ok (s := s) (by omega) (ends_empty h0) (by rw [h0]; show ¬ 65536 < ([] : List UInt8).length; decide))
  have hz : s.size ≤ 0 := by omega
  have H0 := Lib.hid h0
  clear h0
  go_enter Tryz.func14, Tryz.ntmps14
  go_wp2
  go_loopw [4, 5] (fun v i wr => i = .int .i64 0 ∧ v = .slice none 0 0 ∧ Below w.heap.size w wr) (fun _ i _ => 0)
  case atStart => exact ⟨rfl, rfl, Below.refl _ _⟩
  case round =>
    obtain ⟨rfl, rfl, hB⟩ := hrel
    have hcv := Lib.run_convert_nil_bytes (P := Tryz.prog) wr 59 9 5 0 Tryz.underlying59 Tryz.underlying5 Tryz.underlying9
    go_wp2
    go_ret2
    refine ⟨?_, hB⟩
    rw [HB.out, H0.out]
    rfl

/-- The reference's Spell AT EVERY TEXT. -/
theorem rspell_any (s : ByteArray) (w : World) (hs : s.size ≤ maxLen) :
    Calls Tryz.prog 14 #[.string s] w fun e w' => e = .returned (.tuple #[.string ⟨(spellOut s.data.toList).1.toArray⟩, .int .i64 (spellOut s.data.toList).2]) ∧ Below w.heap.size w w' := by
  by_cases hl : 65536 < s.size
  · exact rspell_long s w hs hl
  · cases he : endsTen s.data.toList with
    | false => exact rspell_bad s w hl he
    | true =>
      rcases Nat.eq_zero_or_pos s.size with h0 | h0
      · exact rspell_empty s w h0
      · exact rspell_good s w hl h0 he

end Go.Proofs.YtaodjipnffgihaaGreat
