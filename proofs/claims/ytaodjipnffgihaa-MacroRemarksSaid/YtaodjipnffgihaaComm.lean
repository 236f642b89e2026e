/- scan.comment. -/
import Derived.Test.YtaodjipnffgihaaHead
import Derived.WalkSmall
import Derived.Below
namespace Go.Proofs.Ytaodjipnffgihaa
open Go.RowKit

/-- The library's own number, that strings.Cut reads: it holds some number. -/
def LibVar (w : World) : Prop := ∃ m, w.cell? ⟨0, 0, none⟩ = some (.int .i64 m)

theorem libVar_lt {w : World} (h : LibVar w) : 0 < w.heap.size := by
  obtain ⟨m, hm⟩ := h
  refine Classical.byContradiction fun hn => ?_
  have h2 : w.heap[0]? = none := Array.getElem?_eq_none (by omega)
  simp [World.cell?, h2] at hm
theorem libVar_below {w w' : World} (hb : Below w.heap.size w w') (h : LibVar w) : LibVar w' := by
  have hl := libVar_lt h
  obtain ⟨m, hm⟩ := h
  exact ⟨m, (hb.cell (p := ⟨0, 0, none⟩) hl).trans hm⟩

theorem indexByte_ge (l : List UInt8) (c : UInt8) : -1 ≤ Lib.indexByte l c := by
  induction l with
  | nil => exact Int.le_refl _
  | cons b l ih =>
    unfold Lib.indexByte
    split
    · decide
    · split
      · exact Int.le_refl _
      · omega
theorem run_indexByte (l : List UInt8) : (runLen notNl l : Int) = if 0 ≤ Lib.indexByte l 10 then Lib.indexByte l 10 else l.length := by
  induction l with
  | nil => rfl
  | cons b l ih =>
    have hg := indexByte_ge l 10
    unfold Lib.indexByte
    rw [runLen]
    unfold notNl at *
    cases hb : b == 10
    · simp only [Bool.not_false, if_true, Bool.false_eq_true, if_false]
      by_cases h2 : Lib.indexByte l 10 = -1
      · rw [if_neg (by rw [h2]; decide)] at ih
        rw [h2]
        simp only [beq_self_eq_true, if_true, List.length_cons]
        rw [if_neg (by decide)]
        omega
      · rw [if_pos (by omega)] at ih
        rw [if_neg (show ¬ (Lib.indexByte l 10 == -1) = true by simpa using h2), if_pos (by omega)]
        omega
    · simp

theorem comment_line {l : List UInt8} (h : Lib.hasPrefix l [47, 47] = true) : (commentLen l : Int) = if 0 ≤ Lib.indexByte l 10 then Lib.indexByte l 10 else l.length := by
  rw [← run_indexByte]
  have h' : [47, 47].isPrefixOf l = true := h
  rw [commentLen, if_pos h']
  obtain ⟨r, rfl⟩ := List.isPrefixOf_iff_prefix.1 h'
  have h1 : notNl 47 = true := by decide
  simp only [List.cons_append, List.nil_append, List.drop_succ_cons, List.drop_zero, runLen, h1, if_true]
  omega
def commOf : Option Nat → Nat
  | some n => n + 4
  | none => 0
theorem comment_block {l : List UInt8} (h : Lib.hasPrefix l [47, 47] = false) : commentLen l = commOf (closeC (l.drop 2)) := by
  have h' : [47, 47].isPrefixOf l = false := h
  rw [commentLen, if_neg (by rw [h']; decide)]
  generalize closeC _ = o
  cases o <;> rfl

theorem closeC_index (l : List UInt8) : closeC l = if 0 ≤ Lib.index l [42, 47] then some (Lib.index l [42, 47]).toNat else none := by
  induction l with
  | nil => rfl
  | cons b l ih =>
    have hg := Lib.index_ge l [42, 47]
    have hp : [42, 47].isPrefixOf (b :: l) = (b == 42 && l.head? == some 47) := by
      cases l with
      | nil => simp [List.isPrefixOf]
      | cons d l =>
        show (42 == b && (47 == d && true)) = (b == 42 && (some d == some 47))
        rw [Bool.eq_iff_iff]
        simp only [Bool.and_eq_true, beq_iff_eq, Option.some.injEq, and_true]
        constructor <;> rintro ⟨rfl, rfl⟩ <;> exact ⟨rfl, rfl⟩
    unfold Lib.index
    rw [closeC, hp]
    cases hc : (b == 42 && l.head? == some 47)
    · simp only [Bool.false_eq_true, if_false]
      rw [ih]
      by_cases h2 : Lib.index l [42, 47] = -1
      · rw [h2]; rfl
      · rw [if_pos (by omega), if_neg (show ¬ (Lib.index l [42, 47] == -1) = true by simpa using h2), if_pos (by omega)]
        simp; omega
    · simp

theorem closeC_len : ∀ (l : List UInt8) {n : Nat}, closeC l = some n → n + 2 ≤ l.length
  | [], n, h => by simp [closeC] at h
  | c :: r, n, h => by
    rw [closeC] at h
    split at h
    · rename_i hc
      cases h
      cases r with
      | nil => simp at hc
      | cons d r => simp
    · cases hr : closeC r with
      | none => rw [hr] at h; simp at h
      | some m =>
        rw [hr] at h
        have := closeC_len r hr
        simp at h
        simp; omega

theorem cut_no (r : ByteArray) (w : World) (hs : r.size ≤ 200000) (hL : LibVar w) (h : closeC r.data.toList = none) :
    Calls Try.prog 87 #[.string r, .string ⟨#[42, 47]⟩] w fun e w' => (∃ c1 c2, e = .returned (.tuple #[.string c1, .string c2, .bool false])) ∧ Below w.heap.size w w' := by
  obtain ⟨m, hm⟩ := hL
  refine (Try.strings_Cut r ⟨#[42, 47]⟩ m w (by omega) hm).mono ?_
  rintro e w' ⟨rfl, n, rfl⟩
  refine ⟨⟨⟨(Lib.cut r.data.toList [42, 47]).1.toArray⟩, ⟨(Lib.cut r.data.toList [42, 47]).2.1.toArray⟩, ?_⟩, below_drewN (Below.refl _ _) n⟩
  rw [closeC_index] at h
  have h0 : ¬ 0 ≤ Lib.index r.data.toList [42, 47] := fun h0 => by rw [if_pos h0] at h; cases h
  have h3 : (Lib.cut r.data.toList [42, 47]).2.2 = false := by rw [Lib.cut, if_neg h0]
  show _ = Ending.returned (.tuple #[_, _, .bool false])
  rw [← h3]
theorem cut_yes (r : ByteArray) (k : Nat) (w : World) (hs : r.size ≤ 200000) (hL : LibVar w) (h : closeC r.data.toList = some k) :
    Calls Try.prog 87 #[.string r, .string ⟨#[42, 47]⟩] w fun e w' => (∃ c1 c2 : ByteArray, c1.size = k ∧ e = .returned (.tuple #[.string c1, .string c2, .bool true])) ∧ Below w.heap.size w w' := by
  obtain ⟨m, hm⟩ := hL
  refine (Try.strings_Cut r ⟨#[42, 47]⟩ m w (by omega) hm).mono ?_
  rintro e w' ⟨rfl, n, rfl⟩
  rw [closeC_index] at h
  have h0 : 0 ≤ Lib.index r.data.toList [42, 47] := Classical.byContradiction fun h0 => by rw [if_neg h0] at h; cases h
  rw [if_pos h0] at h
  have h3 : (Lib.cut r.data.toList [42, 47]).2.2 = true := by rw [Lib.cut, if_pos h0]
  have h4 : (Lib.cut r.data.toList [42, 47]).1 = r.data.toList.take k := by rw [Lib.cut, if_pos h0, Option.some.inj h]
  refine ⟨⟨⟨(Lib.cut r.data.toList [42, 47]).1.toArray⟩, ⟨(Lib.cut r.data.toList [42, 47]).2.1.toArray⟩, ?_, ?_⟩, below_drewN (Below.refl _ _) n⟩
  · rw [← size_list]
    simp only
    rw [h4, List.length_take]
    have := closeC_len r.data.toList (closeC_index r.data.toList ▸ (by rw [if_pos h0, Option.some.inj h]) : closeC r.data.toList = some k)
    omega
  · show _ = Ending.returned (.tuple #[_, _, .bool true])
    rw [← h3]

theorem hasPre_any (s p : ByteArray) (w : World) : Calls Try.prog 65 #[.string s, .string p] w fun e w' => e = .returned (.bool (Lib.hasPrefix s.data.toList p.data.toList)) ∧ w = w' :=
  (Try.strings_HasPrefix s p w).mono fun _ _ ⟨h, h2⟩ => ⟨h, h2.symm⟩
theorem idx_any (s : ByteArray) (w : World) : Calls Try.prog 86 #[.string s, .int .u8 10] w fun e w' => e = .returned (.int .i64 (Lib.indexByte s.data.toList 10)) ∧ w = w' := by
  refine (Try.strings_IndexByte s _ w).mono ?_
  rintro e w' ⟨rfl, rfl⟩
  exact ⟨rfl, rfl⟩

set_option maxHeartbeats 1000000 in
theorem comment_any (s : ByteArray) (w : World) (hs : s.size ≤ 200000) (hc : isComment s.data.toList = true) (hL : LibVar w) :
    Calls Try.prog 78 #[.string s] w fun e w' => e = .returned (.int .i64 (commentLen s.data.toList : Nat)) ∧ Below w.heap.size w w' := by
  have C := fun w => hasPre_any s ⟨#[47, 47]⟩ w
  have D := fun w => idx_any s w
  cases hp : Lib.hasPrefix s.data.toList [47, 47] with
  | true =>
    rw [show (⟨#[47, 47]⟩ : ByteArray).data.toList = [47, 47] from rfl, hp] at C
    have HL := Lib.hid (comment_line hp)
    have hg := indexByte_ge s.data.toList 10
    generalize Lib.indexByte s.data.toList 10 = x at *
    clear hp
    by_cases hx : 0 ≤ x
    all_goals
      go_enter Try.func78, Try.ntmps78
      go_wp2_with (first | (go_at_call 65; refine (C _).mono ?_; rintro e w' ⟨rfl, rfl⟩) | (go_at_call 86; refine (D _).mono ?_; rintro e w' ⟨rfl, rfl⟩))
      go_ret
      refine ⟨ri ?_, Below.refl _ _⟩
      rw [HL.out]
      first | rw [if_pos (by omega)] | (rw [if_neg (by omega)]; rfl)
  | false =>
    rw [show (⟨#[47, 47]⟩ : ByteArray).data.toList = [47, 47] from rfl, hp] at C
    have HL := Lib.hid (comment_block hp)
    have h2 : 2 ≤ s.size := by
      have h3 : [47, 42].isPrefixOf s.data.toList = true := by
        rw [isComment, show [47, 47].isPrefixOf s.data.toList = false from hp, Bool.or_false] at hc
        exact hc
      exact (List.isPrefixOf_iff_prefix.1 h3).length_le
    clear hp hc D
    have hr : (s.extract 2 s.size).data.toList = s.data.toList.drop 2 := extract_end s 2
    have hrs : (s.extract 2 s.size).size ≤ 200000 := by rw [ByteArray.size_extract]; omega
    cases ho : closeC (s.data.toList.drop 2) with
    | none =>
      rw [ho] at HL
      have E := cut_no (s.extract 2 s.size) w hrs hL (by rw [hr]; exact ho)
      clear ho hr hrs
      go_enter Try.func78, Try.ntmps78
      go_wp2_with (first | (go_at_call 65; refine (C _).mono ?_; rintro e w' ⟨rfl, rfl⟩) | (go_at_call 87; refine E.mono ?_; rintro e w1 ⟨⟨c1, c2, rfl⟩, hb⟩))
      go_ret
      exact ⟨ri (by rw [HL.out]; rfl), hb⟩
    | some n =>
      rw [ho] at HL
      have E := cut_yes (s.extract 2 s.size) n w hrs hL (by rw [hr]; exact ho)
      have hn := closeC_len _ ho
      rw [List.length_drop, size_list] at hn
      clear ho hr hrs
      go_enter Try.func78, Try.ntmps78
      go_wp2_with (first | (go_at_call 65; refine (C _).mono ?_; rintro e w' ⟨rfl, rfl⟩) | (go_at_call 87; refine E.mono ?_; rintro e w1 ⟨⟨c1, c2, hcs, rfl⟩, hb⟩))
      go_ret
      refine ⟨ri ?_, hb⟩
      rw [HL.out]
      simp only [commOf]
      omega

end Go.Proofs.Ytaodjipnffgihaa
