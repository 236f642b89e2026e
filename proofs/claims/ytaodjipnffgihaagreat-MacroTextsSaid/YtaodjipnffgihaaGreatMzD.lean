/- Several texts laid together. -/
import Derived.Test.YtaodjipnffgihaaGreatRun
import Derived.Test.YtaodjipnffgihaaGreatShelf
import Derived.Deep.LoopGhost
import Derived.WalkSmall
import Derived.Below
import Derived.WalkKit
import Derived.WalkSpells
import Derived.WalkLawsBesides
import Derived.Test.YtaodjipnffgihaaGreatMzB
import Derived.IntWalk
import Derived.Test.YtaodjipnffgihaaGreatMzA
import Derived.Shelf.Vars

namespace Go.Proofs.YtaodjipnffgihaaGreat
open Go.RowKit

theorem mapAdd0 (o : Option Nat) : o.map (· + 0) = o := by cases o <;> rfl
theorem mapAdd2 (o : Option Nat) (a b : Nat) : (o.map (· + a)).map (· + b) = o.map (· + (a + b)) := by
  cases o
  · rfl
  · simp; omega

/-- Where a name's closing byte stands behind a place. -/
def closeAt (q : UInt8) (s : ByteArray) (k : Nat) : Option Nat := closeN q (s.data.toList.drop k)
theorem close_end {q : UInt8} {s : ByteArray} {k : Nat} (h : s.size ≤ k) : closeAt q s k = none := by
  unfold closeAt; rw [List.drop_eq_nil_of_le (by rw [size_list]; exact h), closeN]
theorem close_nl {q : UInt8} {s : ByteArray} {k : Nat} (h : k < s.size) (h1 : (s[k] == 10) = true) : closeAt q s k = none := by
  unfold closeAt; rw [data_drop s k h, closeN, if_pos h1]
theorem close_hit {q : UInt8} {s : ByteArray} {k : Nat} (h : k < s.size) (h1 : (s[k] == 10) = false) (h2 : (s[k] == q) = true) : closeAt q s k = some 0 := by
  unfold closeAt; rw [data_drop s k h, closeN, if_neg (by rw [h1]; decide), if_pos h2]
theorem close_step {q : UInt8} {s : ByteArray} {k : Nat} (h : k < s.size) (h1 : (s[k] == 10) = false) (h2 : (s[k] == q) = false) : closeAt q s k = (closeAt q s (k + 1)).map (· + 1) := by
  unfold closeAt; rw [data_drop s k h, closeN, if_neg (by rw [h1]; decide), if_neg (by rw [h2]; decide)]

def headOf : Option Nat → Nat
  | some n => n + 2
  | none => 0
theorem header_at {s : ByteArray} (h : 0 < s.size) : headerLen s.data.toList = if s[0] == 34 then headOf (closeAt 34 s 1) else if s[0] == 60 then headOf (closeAt 62 s 1) else 0 := by
  have hd := data_drop s 0 h
  rw [List.drop_zero] at hd
  unfold closeAt
  rw [hd, headerLen, List.drop_succ_cons, List.drop_zero]
  by_cases h1 : (s[0] == 34) = true
  · rw [if_pos h1, if_pos h1]
    generalize closeN 34 _ = o; cases o <;> rfl
  · rw [if_neg h1, if_neg h1]
    by_cases h2 : (s[0] == 60) = true
    · rw [if_pos h2, if_pos h2]
      generalize closeN 62 _ = o; cases o <;> rfl
    · rw [if_neg h2, if_neg h2]

set_option maxHeartbeats 1000000 in
theorem header_any (s : ByteArray) (w : World) (hs : s.size ≤ maxLen) (h0 : 0 < s.size) :
    Calls Tryz.prog 94 #[.string s] w fun e w' => e = .returned (.int .i64 (headerLen s.data.toList : Nat)) ∧ w = w' := by
  unfold maxLen at hs
  have HH := Lib.hid (header_at h0)
  cases h1 : ((s[0].toNat : Int) == 34)
  case true =>
    have HL : Hid (headerLen s.data.toList = headOf (closeAt 34 s 1)) := Lib.hid (by rw [HH.out, if_pos (b_eq 34 h1)])
    clear HH
    go_enter Tryz.func94, Tryz.ntmps94
    go_wp2
    go_loop [4] (fun i => ∃ k : Nat, 1 ≤ k ∧ k ≤ s.size ∧ i = .int .i64 k ∧ Hid (closeAt 34 s 1 = (closeAt 34 s k).map (· + (k - 1)))) (fun i => s.size - (intOf i).toNat)
    case atStart => exact ⟨1, Nat.le_refl _, h0, rfl, Lib.hid (by rw [Nat.sub_self, mapAdd0])⟩
    case round =>
      obtain ⟨k, hk1, hk, rfl, HE⟩ := hrel
      by_cases hlt : k < s.size
      · go_wp2
        · have h3 : (s[k] == 10) = false := by
            have h : ((s[k].toNat : Int) != 10) = true := by assumption
            exact b_ne 10 (by simpa using h)
          have h4 : (s[k] == 34) = true := b_eq 34 (by assumption)
          go_ret
          refine ⟨ri ?_, rfl⟩
          rw [HL.out, HE.out, close_hit hlt h3 h4]
          show (k : Int) + 1 = ((0 + (k - 1) + 2 : Nat) : Int)
          omega
        · have h3 : (s[k] == 10) = false := by
            have h : ((s[k].toNat : Int) != 10) = true := by assumption
            exact b_ne 10 (by simpa using h)
          have h4 : (s[k] == 34) = false := b_ne 34 (by assumption)
          go_round
          case rel => exact ⟨k + 1, by omega, by omega, by go_num, Lib.hid (by rw [HE.out, close_step hlt h3 h4, mapAdd2, show 1 + (k - 1) = k + 1 - 1 by omega])⟩
          case measure => simp [intOf]; omega
        · have h3 : (s[k] == 10) = true := by
            have h : ((s[k].toNat : Int) != 10) = false := by assumption
            exact b_eq 10 (by simpa using h)
          go_ret
          exact ⟨ri (by rw [HL.out, HE.out, close_nl hlt h3]; rfl), rfl⟩
      · go_wp2
        go_ret
        exact ⟨ri (by rw [HL.out, HE.out, close_end (by omega)]; rfl), rfl⟩
  case false =>
    cases h2 : ((s[0].toNat : Int) == 60)
    case true =>
      have HL : Hid (headerLen s.data.toList = headOf (closeAt 62 s 1)) := Lib.hid (by rw [HH.out, if_neg (by rw [b_ne 34 h1]; decide), if_pos (b_eq 60 h2)])
      go_enter Tryz.func94, Tryz.ntmps94
      go_wp2
      go_loop [4] (fun i => ∃ k : Nat, 1 ≤ k ∧ k ≤ s.size ∧ i = .int .i64 k ∧ Hid (closeAt 62 s 1 = (closeAt 62 s k).map (· + (k - 1)))) (fun i => s.size - (intOf i).toNat)
      case atStart => exact ⟨1, Nat.le_refl _, h0, rfl, Lib.hid (by rw [Nat.sub_self, mapAdd0])⟩
      case round =>
        obtain ⟨k, hk1, hk, rfl, HE⟩ := hrel
        by_cases hlt : k < s.size
        · go_wp2
          · have h3 : (s[k] == 10) = false := by
              have h : ((s[k].toNat : Int) != 10) = true := by assumption
              exact b_ne 10 (by simpa using h)
            have h4 : (s[k] == 62) = true := b_eq 62 (by assumption)
            go_ret
            refine ⟨ri ?_, rfl⟩
            rw [HL.out, HE.out, close_hit hlt h3 h4]
            show (k : Int) + 1 = ((0 + (k - 1) + 2 : Nat) : Int)
            omega
          · have h3 : (s[k] == 10) = false := by
              have h : ((s[k].toNat : Int) != 10) = true := by assumption
              exact b_ne 10 (by simpa using h)
            have h4 : (s[k] == 62) = false := b_ne 62 (by assumption)
            go_round
            case rel => exact ⟨k + 1, by omega, by omega, by go_num, Lib.hid (by rw [HE.out, close_step hlt h3 h4, mapAdd2, show 1 + (k - 1) = k + 1 - 1 by omega])⟩
            case measure => simp [intOf]; omega
          · have h3 : (s[k] == 10) = true := by
              have h : ((s[k].toNat : Int) != 10) = false := by assumption
              exact b_eq 10 (by simpa using h)
            go_ret
            exact ⟨ri (by rw [HL.out, HE.out, close_nl hlt h3]; rfl), rfl⟩
        · go_wp2
          go_ret
          exact ⟨ri (by rw [HL.out, HE.out, close_end (by omega)]; rfl), rfl⟩
    case false =>
      have HL : Hid (headerLen s.data.toList = 0) := Lib.hid (by rw [HH.out, if_neg (by rw [b_ne 34 h1]; decide), if_neg (by rw [b_ne 60 h2]; decide)])
      go_enter Tryz.func94, Tryz.ntmps94
      go_wp2
      go_ret
      exact ⟨ri (by rw [HL.out]; rfl), rfl⟩

end Go.Proofs.YtaodjipnffgihaaGreat

namespace Go.Proofs.YtaodjipnffgihaaGreat
open Go.RowKit

/-- The library's own number, that strings.Cut reads: it holds some number. -/
def LibVar (w : World) : Prop := ∃ m, w.cell? ⟨0, 0, none⟩ = some (.int .i64 m)

theorem libVar_lt {w : World} (h : LibVar w) : 0 < w.heap.size := by
  obtain ⟨m, hm⟩ := h
  refine Classical.byContradiction fun hn => ?_
  have h2 : w.heap[0]? = none := Array.getElem?_eq_none (by omega)
  simp [World.cell?, h2] at hm
theorem libVar_below {w w' : World} (hb : Below w.heap.size w w') (h : LibVar w) : LibVar w' := by
  have hl := libVar_lt h
  obtain ⟨m, hm⟩ := h
  exact ⟨m, (hb.cell (p := ⟨0, 0, none⟩) hl).trans hm⟩

theorem indexByte_ge (l : List UInt8) (c : UInt8) : -1 ≤ Lib.indexByte l c := by
  induction l with
  | nil => exact Int.le_refl _
  | cons b l ih =>
    unfold Lib.indexByte
    split
    · decide
    · split
      · exact Int.le_refl _
      · omega
theorem run_indexByte (l : List UInt8) : (runLen notNl l : Int) = if 0 ≤ Lib.indexByte l 10 then Lib.indexByte l 10 else l.length := by
  induction l with
  | nil => rfl
  | cons b l ih =>
    have hg := indexByte_ge l 10
    unfold Lib.indexByte
    rw [runLen]
    unfold notNl at *
    cases hb : b == 10
    · simp only [Bool.not_false, if_true, Bool.false_eq_true, if_false]
      by_cases h2 : Lib.indexByte l 10 = -1
      · rw [if_neg (by rw [h2]; decide)] at ih
        rw [h2]
        simp only [beq_self_eq_true, if_true, List.length_cons]
        rw [if_neg (by decide)]
        omega
      · rw [if_pos (by omega)] at ih
        rw [if_neg (show ¬ (Lib.indexByte l 10 == -1) = true by simpa using h2), if_pos (by omega)]
        omega
    · simp

theorem comment_line {l : List UInt8} (h : Lib.hasPrefix l [47, 47] = true) : (commentLen l : Int) = if 0 ≤ Lib.indexByte l 10 then Lib.indexByte l 10 else l.length := by
  rw [← run_indexByte]
  have h' : [47, 47].isPrefixOf l = true := h
  rw [commentLen, if_pos h']
  obtain ⟨r, rfl⟩ := List.isPrefixOf_iff_prefix.1 h'
  have h1 : notNl 47 = true := by decide
  simp only [List.cons_append, List.nil_append, List.drop_succ_cons, List.drop_zero, runLen, h1, if_true]
  omega
def commOf : Option Nat → Nat
  | some n => n + 4
  | none => 0
theorem comment_block {l : List UInt8} (h : Lib.hasPrefix l [47, 47] = false) : commentLen l = commOf (closeC (l.drop 2)) := by
  have h' : [47, 47].isPrefixOf l = false := h
  rw [commentLen, if_neg (by rw [h']; decide)]
  generalize closeC _ = o
  cases o <;> rfl

theorem closeC_index (l : List UInt8) : closeC l = if 0 ≤ Lib.index l [42, 47] then some (Lib.index l [42, 47]).toNat else none := by
  induction l with
  | nil => rfl
  | cons b l ih =>
    have hg := Lib.index_ge l [42, 47]
    have hp : [42, 47].isPrefixOf (b :: l) = (b == 42 && l.head? == some 47) := by
      cases l with
      | nil => simp [List.isPrefixOf]
      | cons d l =>
        show (42 == b && (47 == d && true)) = (b == 42 && (some d == some 47))
        rw [Bool.eq_iff_iff]
        simp only [Bool.and_eq_true, beq_iff_eq, Option.some.injEq, and_true]
        constructor <;> rintro ⟨rfl, rfl⟩ <;> exact ⟨rfl, rfl⟩
    unfold Lib.index
    rw [closeC, hp]
    cases hc : (b == 42 && l.head? == some 47)
    · simp only [Bool.false_eq_true, if_false]
      rw [ih]
      by_cases h2 : Lib.index l [42, 47] = -1
      · rw [h2]; rfl
      · rw [if_pos (by omega), if_neg (show ¬ (Lib.index l [42, 47] == -1) = true by simpa using h2), if_pos (by omega)]
        simp; omega
    · simp

theorem closeC_len : ∀ (l : List UInt8) {n : Nat}, closeC l = some n → n + 2 ≤ l.length
  | [], n, h => by simp [closeC] at h
  | c :: r, n, h => by
    rw [closeC] at h
    split at h
    · rename_i hc
      cases h
      cases r with
      | nil => simp at hc
      | cons d r => simp
    · cases hr : closeC r with
      | none => rw [hr] at h; simp at h
      | some m =>
        rw [hr] at h
        have := closeC_len r hr
        simp at h
        simp; omega

theorem cut_no (r : ByteArray) (w : World) (hs : r.size ≤ 200000) (hL : LibVar w) (h : closeC r.data.toList = none) :
    Calls Tryz.prog 107 #[.string r, .string ⟨#[42, 47]⟩] w fun e w' => (∃ c1 c2, e = .returned (.tuple #[.string c1, .string c2, .bool false])) ∧ Below w.heap.size w w' := by
  obtain ⟨m, hm⟩ := hL
  refine (Tryz.strings_Cut r ⟨#[42, 47]⟩ m w (by omega) hm).mono ?_
  rintro e w' ⟨rfl, n, rfl⟩
  refine ⟨⟨⟨(Lib.cut r.data.toList [42, 47]).1.toArray⟩, ⟨(Lib.cut r.data.toList [42, 47]).2.1.toArray⟩, ?_⟩, below_drewN (Below.refl _ _) n⟩
  rw [closeC_index] at h
  have h0 : ¬ 0 ≤ Lib.index r.data.toList [42, 47] := fun h0 => by rw [if_pos h0] at h; cases h
  have h3 : (Lib.cut r.data.toList [42, 47]).2.2 = false := by rw [Lib.cut, if_neg h0]
  show _ = Ending.returned (.tuple #[_, _, .bool false])
  rw [← h3]
theorem cut_yes (r : ByteArray) (k : Nat) (w : World) (hs : r.size ≤ 200000) (hL : LibVar w) (h : closeC r.data.toList = some k) :
    Calls Tryz.prog 107 #[.string r, .string ⟨#[42, 47]⟩] w fun e w' => (∃ c1 c2 : ByteArray, c1.size = k ∧ e = .returned (.tuple #[.string c1, .string c2, .bool true])) ∧ Below w.heap.size w w' := by
  obtain ⟨m, hm⟩ := hL
  refine (Tryz.strings_Cut r ⟨#[42, 47]⟩ m w (by omega) hm).mono ?_
  rintro e w' ⟨rfl, n, rfl⟩
  rw [closeC_index] at h
  have h0 : 0 ≤ Lib.index r.data.toList [42, 47] := Classical.byContradiction fun h0 => by rw [if_neg h0] at h; cases h
  rw [if_pos h0] at h
  have h3 : (Lib.cut r.data.toList [42, 47]).2.2 = true := by rw [Lib.cut, if_pos h0]
  have h4 : (Lib.cut r.data.toList [42, 47]).1 = r.data.toList.take k := by rw [Lib.cut, if_pos h0, Option.some.inj h]
  refine ⟨⟨⟨(Lib.cut r.data.toList [42, 47]).1.toArray⟩, ⟨(Lib.cut r.data.toList [42, 47]).2.1.toArray⟩, ?_, ?_⟩, below_drewN (Below.refl _ _) n⟩
  · rw [← size_list]
    simp only
    rw [h4, List.length_take]
    have := closeC_len r.data.toList (closeC_index r.data.toList ▸ (by rw [if_pos h0, Option.some.inj h]) : closeC r.data.toList = some k)
    omega
  · show _ = Ending.returned (.tuple #[_, _, .bool true])
    rw [← h3]

theorem hasPre_any (s p : ByteArray) (w : World) : Calls Tryz.prog 48 #[.string s, .string p] w fun e w' => e = .returned (.bool (Lib.hasPrefix s.data.toList p.data.toList)) ∧ w = w' :=
  (Tryz.strings_HasPrefix s p w).mono fun _ _ ⟨h, h2⟩ => ⟨h, h2.symm⟩
theorem idx_any (s : ByteArray) (w : World) : Calls Tryz.prog 88 #[.string s, .int .u8 10] w fun e w' => e = .returned (.int .i64 (Lib.indexByte s.data.toList 10)) ∧ w = w' := by
  refine (Tryz.strings_IndexByte s _ w).mono ?_
  rintro e w' ⟨rfl, rfl⟩
  exact ⟨rfl, rfl⟩

set_option maxHeartbeats 1000000 in
theorem comment_any (s : ByteArray) (w : World) (hs : s.size ≤ 200000) (hc : isComment s.data.toList = true) (hL : LibVar w) :
    Calls Tryz.prog 95 #[.string s] w fun e w' => e = .returned (.int .i64 (commentLen s.data.toList : Nat)) ∧ Below w.heap.size w w' := by
  have C := fun w => hasPre_any s ⟨#[47, 47]⟩ w
  have D := fun w => idx_any s w
  cases hp : Lib.hasPrefix s.data.toList [47, 47] with
  | true =>
    rw [show (⟨#[47, 47]⟩ : ByteArray).data.toList = [47, 47] from rfl, hp] at C
    have HL := Lib.hid (comment_line hp)
    have hg := indexByte_ge s.data.toList 10
    generalize Lib.indexByte s.data.toList 10 = x at *
    clear hp
    by_cases hx : 0 ≤ x
    all_goals
      go_enter Tryz.func95, Tryz.ntmps95
      go_wp2_with (first | (go_at_call 48; refine (C _).mono ?_; rintro e w' ⟨rfl, rfl⟩) | (go_at_call 88; refine (D _).mono ?_; rintro e w' ⟨rfl, rfl⟩))
      go_ret
      refine ⟨ri ?_, Below.refl _ _⟩
      rw [HL.out]
      first | rw [if_pos (by omega)] | (rw [if_neg (by omega)]; rfl)
  | false =>
    rw [show (⟨#[47, 47]⟩ : ByteArray).data.toList = [47, 47] from rfl, hp] at C
    have HL := Lib.hid (comment_block hp)
    have h2 : 2 ≤ s.size := by
      have h3 : [47, 42].isPrefixOf s.data.toList = true := by
        rw [isComment, show [47, 47].isPrefixOf s.data.toList = false from hp, Bool.or_false] at hc
        exact hc
      exact (List.isPrefixOf_iff_prefix.1 h3).length_le
    clear hp hc D
    have hr : (s.extract 2 s.size).data.toList = s.data.toList.drop 2 := extract_end s 2
    have hrs : (s.extract 2 s.size).size ≤ 200000 := by rw [ByteArray.size_extract]; omega
    cases ho : closeC (s.data.toList.drop 2) with
    | none =>
      rw [ho] at HL
      have E := cut_no (s.extract 2 s.size) w hrs hL (by rw [hr]; exact ho)
      clear ho hr hrs
      go_enter Tryz.func95, Tryz.ntmps95
      go_wp2_with (first | (go_at_call 48; refine (C _).mono ?_; rintro e w' ⟨rfl, rfl⟩) | (go_at_call 107; refine E.mono ?_; rintro e w1 ⟨⟨c1, c2, rfl⟩, hb⟩))
      go_ret
      exact ⟨ri (by rw [HL.out]; rfl), hb⟩
    | some n =>
      rw [ho] at HL
      have E := cut_yes (s.extract 2 s.size) n w hrs hL (by rw [hr]; exact ho)
      have hn := closeC_len _ ho
      rw [List.length_drop, size_list] at hn
      clear ho hr hrs
      go_enter Tryz.func95, Tryz.ntmps95
      go_wp2_with (first | (go_at_call 48; refine (C _).mono ?_; rintro e w' ⟨rfl, rfl⟩) | (go_at_call 107; refine E.mono ?_; rintro e w1 ⟨⟨c1, c2, hcs, rfl⟩, hb⟩))
      go_ret
      refine ⟨ri ?_, hb⟩
      rw [HL.out]
      simp only [commOf]
      omega

end Go.Proofs.YtaodjipnffgihaaGreat

namespace Go.Proofs.YtaodjipnffgihaaGreat
open Go.RowKit

theorem nt_two {s : ByteArray} {k : Nat} (h : k + 1 < s.size) (h1 : isExp s[k] = true) (h2 : isSgn s[k + 1] = true) : numTail (s.data.toList.drop k) = numTail (s.data.toList.drop (k + 2)) + 2 := by
  rw [data_drop s k (by omega), data_drop s (k + 1) h, numTail, if_pos (by rw [h1, h2]; rfl)]
def notTwo (s : ByteArray) (k : Nat) : Prop := ∀ h : k + 1 < s.size, isExp s[k] = true → isSgn s[k + 1] = true → False
theorem nt_else {s : ByteArray} {k : Nat} (h : k < s.size) (hn : notTwo s k) : numTail (s.data.toList.drop k) = if isNum s[k] then numTail (s.data.toList.drop (k + 1)) + 1 else 0 := by
  rw [data_drop s k h]
  by_cases h2 : k + 1 < s.size
  · rw [data_drop s (k + 1) h2, numTail, if_neg]
    intro h3
    rw [Bool.and_eq_true] at h3
    exact hn h2 h3.1 h3.2
  · rw [List.drop_eq_nil_of_le (by rw [size_list]; omega), numTail]
    simp [numTail]
theorem nt_one {s : ByteArray} {k : Nat} (h : k < s.size) (hn : notTwo s k) (h1 : isNum s[k] = true) : numTail (s.data.toList.drop k) = numTail (s.data.toList.drop (k + 1)) + 1 := by
  rw [nt_else h hn, if_pos h1]
theorem nt_no {s : ByteArray} {k : Nat} (h : k < s.size) (hn : notTwo s k) (h1 : isNum s[k] = false) : numTail (s.data.toList.drop k) = 0 := by
  rw [nt_else h hn, if_neg (by rw [h1]; decide)]
theorem nt_end {s : ByteArray} {k : Nat} (h : s.size ≤ k) : numTail (s.data.toList.drop k) = 0 := by
  rw [List.drop_eq_nil_of_le (by rw [size_list]; exact h), numTail]

theorem ntA {s : ByteArray} {k : Nat} (hk : k < s.size) (h : ¬ isExp s[k] = true) : notTwo s k := fun _ h1 _ => h h1
theorem ntB {s : ByteArray} {k : Nat} (h : (s.size : Int) ≤ (k : Int) + 1) : notTwo s k := fun _ _ _ => by omega
theorem ntC {s : ByteArray} {k : Nat} (hk : k + 1 < s.size) (h : isSgn s[k + 1] = false) : notTwo s k := fun _ _ h2 => bt _ h2 h
theorem nD {c : UInt8} (h : isDig c = true) : isNum c = true := by unfold isNum; rw [h]; rfl
theorem nL {c : UInt8} (h : isLet c = true) : isNum c = true := by unfold isNum; rw [h, Bool.or_true]; rfl
theorem nP {c : UInt8} (h : ((c.toNat : Int) == 46) = true) : isNum c = true := by unfold isNum; rw [b_eq 46 h, Bool.or_true]
theorem nN {c : UInt8} (h : isDig c = false) (h2 : isLet c = false) (h3 : ((c.toNat : Int) == 46) = false) : isNum c = false := by unfold isNum; rw [h, h2, b_ne 46 h3]; rfl

theorem numTail_le : ∀ l : List UInt8, numTail l ≤ l.length
  | [] => Nat.le_refl _
  | [c] => by simp only [numTail]; split <;> simp
  | c :: d :: r => by
    have h1 := numTail_le r
    have h2 := numTail_le (d :: r)
    simp only [numTail]
    simp only [List.length_cons] at *
    split
    · omega
    · split <;> omega

/-- What is left behind a point. -/
def restOf (s : ByteArray) : ByteArray := ⟨(Lib.trimPrefix s.data.toList [46]).toArray⟩
theorem restOf_list (s : ByteArray) : (restOf s).data.toList = Lib.trimPrefix s.data.toList [46] := by simp [restOf]
theorem restOf_size {s : ByteArray} : (restOf s).size ≤ s.size ∧ s.size ≤ (restOf s).size + 1 := by
  rw [← size_list, ← size_list, restOf_list, Lib.trimPrefix]
  split
  · rw [List.length_drop]; simp only [List.length_cons, List.length_nil]; omega
  · omega
theorem numStart_rest {s : ByteArray} : numStart s.data.toList = match (restOf s).data.toList with | [] => 0 | d :: _ => if isDig d then s.size - (restOf s).size + 1 else 0 := by
  rw [← size_list s, ← size_list (restOf s), restOf_list]
  generalize s.data.toList = l
  match l with
  | [] => simp [numStart, Lib.trimPrefix, Lib.hasPrefix]
  | c :: r =>
    by_cases hc : c = 46
    · subst hc
      have : Lib.trimPrefix (46 :: r) [46] = r := by simp [Lib.trimPrefix, Lib.hasPrefix]
      rw [this]
      match r with
      | [] => decide
      | d :: r => simp [numStart, show isDig 46 = false by decide]
    · have : Lib.trimPrefix (c :: r) [46] = c :: r := by
        have h2 : Lib.hasPrefix (c :: r) [46] = false := by
          show (46 == c && _) = false
          rw [beq_eq_false_iff_ne.2 (Ne.symm hc)]; rfl
        simp [Lib.trimPrefix, h2]
      rw [this]
      simp [numStart, hc]
theorem num_none {s : ByteArray} (h : (restOf s).size = 0) : numLen s.data.toList = 0 := by
  have h2 : (restOf s).data.toList = [] := List.length_eq_zero_iff.1 (by rw [size_list]; exact h)
  have h3 : numStart s.data.toList = 0 := by rw [numStart_rest, h2]
  rw [numLen, if_pos h3]
theorem num_not {s : ByteArray} (h : 0 < (restOf s).size) (hd : isDig (restOf s)[0] = false) : numLen s.data.toList = 0 := by
  have h2 := data_drop (restOf s) 0 h
  rw [List.drop_zero] at h2
  have h3 : numStart s.data.toList = 0 := by rw [numStart_rest, h2]; simp [hd]
  rw [numLen, if_pos h3]
theorem num_yes {s : ByteArray} (h : 0 < (restOf s).size) (hd : isDig (restOf s)[0] = true) : numLen s.data.toList = (s.size - (restOf s).size + 1) + numTail (s.data.toList.drop (s.size - (restOf s).size + 1)) := by
  have h2 := data_drop (restOf s) 0 h
  rw [List.drop_zero] at h2
  have h3 : numStart s.data.toList = s.size - (restOf s).size + 1 := by rw [numStart_rest, h2]; simp [hd]
  rw [numLen, if_neg (by rw [h3]; exact Nat.succ_ne_zero _), h3]

theorem trim_any (s : ByteArray) (w : World) : Calls Tryz.prog 125 #[.string s, .string ⟨#[46]⟩] w fun e w' => e = .returned (.string (restOf s)) ∧ w = w' :=
  (Tryz.strings_TrimPrefix s ⟨#[46]⟩ w).mono fun _ _ ⟨h, h2⟩ => ⟨h, h2.symm⟩

set_option maxHeartbeats 1000000 in
theorem number_any (s : ByteArray) (w : World) (hs : s.size ≤ maxLen) (h0 : 0 < s.size) :
    Calls Tryz.prog 118 #[.string s] w fun e w' => e = .returned (.int .i64 (numLen s.data.toList : Nat)) ∧ w = w' := by
  unfold maxLen at hs
  have HT := fun w => trim_any s w
  have hr1 := (restOf_size (s := s)).1
  have hr2 := (restOf_size (s := s)).2
  by_cases hr0 : (restOf s).size = 0
  · have HL := Lib.hid (num_none hr0)
    have he : (restOf s).toList = [] := by rw [ByteArray.toList_eq]; exact List.length_eq_zero_iff.1 hr0
    generalize restOf s = r at *
    go_enter Tryz.func118, Tryz.ntmps118
    go_wp2
    go_step3
    go_wp2_with (go_at_call 125; refine (HT _).mono ?_; rintro e w' ⟨rfl, rfl⟩)
    rw [Exit.noGoto_ret]
    go_ret
    exact ⟨ri (by rw [HL.out]; rfl), rfl⟩
  · have hr0' : 0 < (restOf s).size := by omega
    have he : (restOf s).toList.isEmpty = false := by
      rw [ByteArray.toList_eq]
      cases h : (restOf s).data.toList with
      | nil => exact absurd (congrArg List.length h) hr0
      | cons a b => rfl
    cases hd : isDig (restOf s)[0] with
    | false =>
      have HL := Lib.hid (num_not hr0' hd)
      have C := fun w => isDigit_any (restOf s)[0] w
      rw [hd] at C
      clear hd
      generalize restOf s = r at *
      go_enter Tryz.func118, Tryz.ntmps118
      go_wp2
      go_step3
      go_wp2_with (first | (go_at_call 125; refine (HT _).mono ?_; rintro e w' ⟨rfl, rfl⟩) | (go_at_call 124; refine (C _).mono ?_; rintro e w' ⟨rfl, rfl⟩))
      rw [Exit.noGoto_ret]
      go_ret
      exact ⟨ri (by rw [HL.out]; rfl), rfl⟩
    | true =>
      have HL := Lib.hid (num_yes hr0' hd)
      have C := fun w => isDigit_any (restOf s)[0] w
      rw [hd] at C
      clear hd
      generalize restOf s = r at *
      go_enter Tryz.func118, Tryz.ntmps118
      go_wp2
      go_step3
      go_wp2_with (first | (go_at_call 125; refine (HT _).mono ?_; rintro e w' ⟨rfl, rfl⟩) | (go_at_call 124; refine (C _).mono ?_; rintro e w' ⟨rfl, rfl⟩))
      go_step3
      go_wp2
      clear C HT
      go_loop [4, 5, 29, 48] (fun n _ _ _ => ∃ k : Nat, 1 ≤ k ∧ k ≤ s.size ∧ n = .int .i64 k ∧ numLen s.data.toList = k + numTail (s.data.toList.drop k)) (fun n _ _ _ => s.size - (intOf n).toNat)
      case atStart => exact ⟨s.size - r.size + 1, by omega, by omega, by go_num, HL.out⟩
      case round =>
        obtain ⟨k, hk1, hk, rfl, he⟩ := hrel
        have HE := Lib.hid he; clear he HL
        by_cases hlt : k < s.size
        · go_wp2_with (first | (go_at_call 126; refine (isExponent_any _ _).mono ?_; rintro e w' ⟨rfl, rfl⟩) | (go_at_call 127; refine (isSign_any _ _).mono ?_; rintro e w' ⟨rfl, rfl⟩) | (go_at_call 124; refine (isDigit_any _ _).mono ?_; rintro e w' ⟨rfl, rfl⟩) | (go_at_call 123; refine (isLetter_any _ _).mono ?_; rintro e w' ⟨rfl, rfl⟩))
          all_goals first
            | exact (bt _ (by assumption) (by assumption)).elim
            | (have hl2 : k + 1 < s.size := by omega
               have h1 : isExp s[k] = true := by assumption
               have h2 : isSgn (s[k + 1]'hl2) = true := by assumption
               go_round
               case rel => exact ⟨k + 2, by omega, by omega, by go_num, by rw [HE.out, nt_two hl2 h1 h2]; omega⟩
               case measure => simp [intOf]; omega)
            | (have hn : notTwo s k := by first | exact ntA hlt (by assumption) | exact ntB (by assumption) | exact ntC (by omega) (by assumption)
               have h1 : isNum s[k] = true := by first | exact nD (by assumption) | exact nL (by assumption) | exact nP (by assumption)
               go_round
               case rel => exact ⟨k + 1, by omega, by omega, by go_num, by rw [HE.out, nt_one hlt hn h1]; omega⟩
               case measure => simp [intOf]; omega)
            | (have hn : notTwo s k := by first | exact ntA hlt (by assumption) | exact ntB (by assumption) | exact ntC (by omega) (by assumption)
               have h1 : isNum s[k] = false := nN (by assumption) (by assumption) (by assumption)
               rw [Exit.noGoto_ret]
               go_ret
               exact ⟨ri (by rw [HE.out, nt_no hlt hn h1]; rfl), rfl⟩)
        · go_wp2
          try rw [Exit.noGoto_ret]
          go_ret
          exact ⟨ri (by rw [HE.out, nt_end (by omega)]; rfl), rfl⟩

end Go.Proofs.YtaodjipnffgihaaGreat

namespace Go.Proofs.YtaodjipnffgihaaGreat
open Go.RowKit

theorem bodyLen_cons (q c : UInt8) (r : List UInt8) : bodyLen q (c :: r) = if c == q then some 0 else if c == 10 then none else if c == 92 then
      (match r with | [] => none | d :: r' => if d == 10 then none else (bodyLen q r').map (· + 2))
    else (bodyLen q r).map (· + 1) := by
  cases r <;> simp [bodyLen]

/-- What is left of a body behind some of its pieces: none: it is not closed. -/
def bodyAt (q : UInt8) (r : ByteArray) (k : Nat) : Option Nat := bodyLen q (r.data.toList.drop k)

theorem body_end {q : UInt8} {r : ByteArray} {k : Nat} (h : r.size ≤ k) : bodyAt q r k = none := by
  unfold bodyAt; rw [List.drop_eq_nil_of_le (by rw [size_list]; exact h), bodyLen]
theorem body_hit {q : UInt8} {r : ByteArray} {k : Nat} (h : k < r.size) (h1 : (r[k] == q) = true) : bodyAt q r k = some 0 := by
  unfold bodyAt; rw [data_drop r k h, bodyLen_cons, if_pos h1]
theorem body_nl {q : UInt8} {r : ByteArray} {k : Nat} (h : k < r.size) (h1 : (r[k] == q) = false) (h2 : (r[k] == 10) = true) : bodyAt q r k = none := by
  unfold bodyAt; rw [data_drop r k h, bodyLen_cons, if_neg (by rw [h1]; decide), if_pos h2]
theorem body_step {q : UInt8} {r : ByteArray} {k : Nat} (h : k < r.size) (h1 : (r[k] == q) = false) (h2 : (r[k] == 10) = false) (h3 : (r[k] == 92) = false) : bodyAt q r k = (bodyAt q r (k + 1)).map (· + 1) := by
  unfold bodyAt; rw [data_drop r k h, bodyLen_cons, if_neg (by rw [h1]; decide), if_neg (by rw [h2]; decide), if_neg (by rw [h3]; decide)]
theorem body_esc0 {q : UInt8} {r : ByteArray} {k : Nat} (h : k < r.size) (h1 : (r[k] == q) = false) (h2 : (r[k] == 10) = false) (h3 : (r[k] == 92) = true) (h4 : r.size ≤ k + 1) : bodyAt q r k = none := by
  unfold bodyAt; rw [data_drop r k h, bodyLen_cons, if_neg (by rw [h1]; decide), if_neg (by rw [h2]; decide), if_pos h3, List.drop_eq_nil_of_le (by rw [size_list]; exact h4)]
theorem body_esc1 {q : UInt8} {r : ByteArray} {k : Nat} (h : k < r.size) (h1 : (r[k] == q) = false) (h2 : (r[k] == 10) = false) (h3 : (r[k] == 92) = true) (h4 : k + 1 < r.size) (h5 : (r[k + 1] == 10) = true) : bodyAt q r k = none := by
  unfold bodyAt; rw [data_drop r k h, bodyLen_cons, if_neg (by rw [h1]; decide), if_neg (by rw [h2]; decide), if_pos h3, data_drop r (k + 1) h4]
  simp only [h5, if_true]
theorem body_esc2 {q : UInt8} {r : ByteArray} {k : Nat} (h : k < r.size) (h1 : (r[k] == q) = false) (h2 : (r[k] == 10) = false) (h3 : (r[k] == 92) = true) (h4 : k + 1 < r.size) (h5 : (r[k + 1] == 10) = false) : bodyAt q r k = (bodyAt q r (k + 2)).map (· + 2) := by
  unfold bodyAt; rw [data_drop r k h, bodyLen_cons, if_neg (by rw [h1]; decide), if_neg (by rw [h2]; decide), if_pos h3, data_drop r (k + 1) h4]
  simp only [h5]
  rfl

/-- The literal behind one prefix: its length with the prefix; 0: there is none. -/
def oneLen (q : UInt8) (f : Nat) (l p : List UInt8) : Nat := if p.isPrefixOf l && litLen q f (l.drop p.length) != 0 then p.length + litLen q f (l.drop p.length) else 0
theorem quoted_cons (q : UInt8) (f : Nat) (l p : List UInt8) (ps : List (List UInt8)) : quotedLen q f l (p :: ps) = if oneLen q f l p = 0 then quotedLen q f l ps else oneLen q f l p := by
  rw [quotedLen, oneLen]
  by_cases h : (p.isPrefixOf l && litLen q f (l.drop p.length) != 0) = true
  · rw [if_pos h, if_pos h, if_neg]
    simp at h; omega
  · rw [if_neg h, if_neg h, if_pos rfl]

/-- What CutPrefix leaves of a text. -/
def cutOf (s p : ByteArray) : ByteArray := ⟨(Lib.trimPrefix s.data.toList p.data.toList).toArray⟩
theorem cutOf_list (s p : ByteArray) : (cutOf s p).data.toList = Lib.trimPrefix s.data.toList p.data.toList := by simp [cutOf]
theorem cutOf_size (s p : ByteArray) : (cutOf s p).size ≤ s.size := by
  rw [← size_list, ← size_list, cutOf_list, Lib.trimPrefix]
  split
  · rw [List.length_drop]; omega
  · exact Nat.le_refl _
theorem cut_any (s p : ByteArray) (w : World) : Calls Tryz.prog 128 #[.string s, .string p] w fun e w' => e = .returned (.tuple #[.string (cutOf s p), .bool (Lib.hasPrefix s.data.toList p.data.toList)]) ∧ w = w' :=
  (Tryz.strings_CutPrefix s p w).mono fun _ _ ⟨h, h2⟩ => ⟨h, h2.symm⟩

theorem one_nopre {q : UInt8} {f : Nat} {s p : ByteArray} (h : Lib.hasPrefix s.data.toList p.data.toList = false) : oneLen q f s.data.toList p.data.toList = 0 := by
  unfold oneLen
  rw [show p.data.toList.isPrefixOf s.data.toList = false from h]; rfl
theorem cutOf_pre {s p : ByteArray} (h : Lib.hasPrefix s.data.toList p.data.toList = true) : (cutOf s p).data.toList = s.data.toList.drop p.size := by
  rw [cutOf_list, Lib.trimPrefix, if_pos h]; rfl
theorem one_pre {q : UInt8} {f : Nat} {s p : ByteArray} (h : Lib.hasPrefix s.data.toList p.data.toList = true) :
    oneLen q f s.data.toList p.data.toList = if litLen q f (cutOf s p).data.toList = 0 then 0 else p.size + litLen q f (cutOf s p).data.toList := by
  rw [cutOf_pre h]
  unfold oneLen
  rw [show p.data.toList.isPrefixOf s.data.toList = true from h, Bool.true_and]
  rw [show p.data.toList.length = p.size from rfl]
  by_cases h2 : litLen q f (s.data.toList.drop p.size) = 0
  · rw [h2]; rfl
  · rw [if_neg h2, if_pos (by simpa using h2)]
theorem cutOf_add {s p : ByteArray} (h : Lib.hasPrefix s.data.toList p.data.toList = true) : (cutOf s p).size + p.size ≤ s.size := by
  have h2 : p.data.toList.length ≤ s.data.toList.length := (List.isPrefixOf_iff_prefix.1 h).length_le
  rw [← size_list (cutOf s p), cutOf_pre h, List.length_drop]
  rw [size_list, size_list] at h2
  rw [size_list]
  omega
theorem lit_empty {q : UInt8} {f : Nat} {r : ByteArray} (h : r.size = 0) : litLen q f r.data.toList = 0 := by
  rw [List.length_eq_zero_iff.1 (show r.data.toList.length = 0 from h), litLen]
theorem lit_not {q : UInt8} {f : Nat} {r : ByteArray} (h : 0 < r.size) (h2 : (r[0] == q) = false) : litLen q f r.data.toList = 0 := by
  have hd := data_drop r 0 h
  rw [List.drop_zero] at hd
  rw [hd, litLen, if_neg (by rw [h2]; decide)]
/-- A literal that begins with its quote. -/
def litOf (f : Nat) : Option Nat → Nat
  | some n => if n < f then 0 else n + 2
  | none => 0
theorem lit_yes {q : UInt8} {f : Nat} {r : ByteArray} (h : 0 < r.size) (h2 : (r[0] == q) = true) : litLen q f r.data.toList = litOf f (bodyAt q r 1) := by
  have hd := data_drop r 0 h
  rw [List.drop_zero] at hd
  unfold bodyAt
  rw [hd, litLen, if_pos h2, List.drop_succ_cons, List.drop_zero]
  unfold litOf
  generalize bodyLen q _ = o
  cases o <;> rfl

theorem mapAdd_zero (o : Option Nat) : o.map (· + 0) = o := by cases o <;> rfl
theorem mapAdd_add (o : Option Nat) (a b : Nat) : (o.map (· + a)).map (· + b) = o.map (· + (a + b)) := by
  cases o
  · rfl
  · simp; omega

set_option maxRecDepth 100000 in
set_option maxHeartbeats 2000000 in
theorem quoted_any (s : ByteArray) (q : UInt8) (f : Nat) (hf : f ≤ 1) (b : Nat) (ps : List ByteArray) (n : Nat) (hn : ps.length = n) (hn5 : n ≤ 5) (w : World) (hs : s.size ≤ maxLen)
    (hTc : ∀ (j : Nat) T, ps[j]? = some T → w.cell? ⟨b, j, none⟩ = some (.string T)) (hsm : ∀ T ∈ ps, T.size ≤ 2) :
    Calls Tryz.prog 119 #[.string s, .int .u8 q.toNat, .int .i64 f, .slice (some ⟨b, 0, none⟩) n n] w fun e w' => e = .returned (.int .i64 (quotedLen q f s.data.toList (ps.map (·.data.toList)) : Nat)) ∧ w = w' := by
  unfold maxLen at hs
  have HTc := Lib.hid hTc
  have HSm := Lib.hid hsm
  have HN := Lib.hid hn
  clear hTc hsm hn
  go_enter Tryz.func119, Tryz.ntmps119
  go_wp2
  go_step3
  go_wp2
  go_step3
  go_wp2
  go_loopg [17] n (fun g i wx => ∃ k : Nat, k + g = n ∧ i = .int .i64 k ∧ w = wx ∧ Hid (quotedLen q f s.data.toList (ps.map (·.data.toList)) = quotedLen q f s.data.toList ((ps.drop k).map (·.data.toList))))
  case atStart => exact ⟨0, by omega, rfl, rfl, Lib.hid rfl⟩
  case round =>
    obtain ⟨k, hkg, rfl, rfl, HQ⟩ := hrel
    cases gk with
    | zero =>
      obtain rfl : k = n := by omega
      go_wp2
      try rw [Exit.noGoto_ret]
      go_ret
      refine ⟨ri ?_, rfl⟩
      rw [HQ.out, List.drop_eq_nil_of_le (by rw [HN.out]; exact Nat.le_refl _)]
      rfl
    | succ g =>
      have hkn : k < n := by omega
      have hkp : k < ps.length := by rw [HN.out]; exact hkn
      obtain ⟨T, hT⟩ : ∃ T, ps[k]? = some T := ⟨_, List.getElem?_eq_getElem hkp⟩
      have hc := HTc.out k T hT
      have hTs : T.size ≤ 2 := HSm.out T (List.mem_of_getElem? hT)
      have HD : Hid ((ps.drop k).map (·.data.toList) = T.data.toList :: (ps.drop (k + 1)).map (·.data.toList)) := Lib.hid (by
        rw [List.drop_eq_getElem_cons hkp]
        rw [List.getElem?_eq_getElem hkp] at hT
        rw [Option.some.inj hT]; rfl)
      clear hT hkp
      have hnext : Hid (oneLen q f s.data.toList T.data.toList = 0 → quotedLen q f s.data.toList (ps.map (·.data.toList)) = quotedLen q f s.data.toList ((ps.drop (k + 1)).map (·.data.toList))) := Lib.hid (fun h => by
        rw [HQ.out, HD.out, quoted_cons, if_pos h])
      have hlast : Hid (oneLen q f s.data.toList T.data.toList ≠ 0 → quotedLen q f s.data.toList (ps.map (·.data.toList)) = oneLen q f s.data.toList T.data.toList) := Lib.hid (fun h => by
        rw [HQ.out, HD.out, quoted_cons, if_neg h])
      clear HQ HD
      have C := fun w => cut_any s T w
      have hcs := cutOf_size s T
      cases hp : Lib.hasPrefix s.data.toList T.data.toList with
      | false =>
        have H0 := Lib.hid (one_nopre (q := q) (f := f) hp)
        rw [hp] at C
        clear hp
        generalize cutOf s T = r at *
        go_wp2_with (go_at_call 128; refine (C _).mono ?_; rintro e w' ⟨rfl, rfl⟩)
        go_roundg g
        case rel => exact ⟨k + 1, by omega, by go_num, rfl, Lib.hid (hnext.out H0.out)⟩
        case measure => omega
      | true =>
        have HP := Lib.hid (one_pre (q := q) (f := f) hp)
        have hca := cutOf_add hp
        rw [hp] at C
        clear hp
        generalize cutOf s T = r at *
        by_cases hr : r.size = 0
        · have H0 : Hid (oneLen q f s.data.toList T.data.toList = 0) := Lib.hid (by rw [HP.out, if_pos (lit_empty hr)])
          have he : r.toList = [] := by rw [ByteArray.toList_eq]; exact List.length_eq_zero_iff.1 hr
          go_wp2_with (go_at_call 128; refine (C _).mono ?_; rintro e w' ⟨rfl, rfl⟩)
          go_roundg g
          case rel => exact ⟨k + 1, by omega, by go_num, rfl, Lib.hid (hnext.out H0.out)⟩
          case measure => omega
        · have hr0 : 0 < r.size := by omega
          have he : r.toList.isEmpty = false := by
            rw [ByteArray.toList_eq]
            cases h : r.data.toList with
            | nil => exact absurd (congrArg List.length h) hr
            | cons a b => rfl
          clear hr
          cases hq : ((r[0].toNat : Int) != (q.toNat : Int))
          case true =>
            have h1 : (r[0] == q) = false := b_ne q (by simpa using hq)
            go_wp2_with (go_at_call 128; refine (C _).mono ?_; rintro e w' ⟨rfl, rfl⟩)
            have H0 : Hid (oneLen q f s.data.toList T.data.toList = 0) := Lib.hid (by rw [HP.out, if_pos (lit_not hr0 h1)])
            go_roundg g
            case rel => exact ⟨k + 1, by omega, by go_num, rfl, Lib.hid (hnext.out H0.out)⟩
            case measure => omega
          case false =>
            have h1 : (r[0] == q) = true := b_eq q (by simpa using hq)
            go_wp2_with (go_at_call 128; refine (C _).mono ?_; rintro e w' ⟨rfl, rfl⟩)
            have HP2 : Hid (oneLen q f s.data.toList T.data.toList = if litOf f (bodyAt q r 1) = 0 then 0 else T.size + litOf f (bodyAt q r 1)) := Lib.hid (by rw [HP.out, lit_yes hr0 h1])
            clear h1 HP
            go_loopg [13, 14] (r.size - 1) (fun g2 p i wx => ∃ m pc : Nat, 1 ≤ m ∧ m + g2 = r.size ∧ p = .int .i64 pc ∧ pc ≤ m ∧ i = .int .i64 m ∧ w = wx ∧ Hid (pc = 0 ↔ m = 1) ∧ Hid (bodyAt q r 1 = (bodyAt q r m).map (· + (m - 1))))
            case atStart => exact ⟨1, 0, Nat.le_refl _, by omega, rfl, by omega, rfl, rfl, Lib.hid (by simp), Lib.hid (by rw [Nat.sub_self, mapAdd_zero])⟩
            case round =>
              obtain ⟨m, pc, hm1, hmg, rfl, hpm, rfl, rfl, HPC, HB⟩ := hrel
              cases gk with
              | zero =>
                obtain rfl : m = r.size := by omega
                have H0 : Hid (oneLen q f s.data.toList T.data.toList = 0) := Lib.hid (by rw [HP2.out, HB.out, body_end (Nat.le_refl _)]; rfl)
                go_wp2
                go_roundg g
                case rel => exact ⟨k + 1, by omega, by go_num, rfl, Lib.hid (hnext.out H0.out)⟩
                case measure => omega
              | succ g2 =>
                have hmr : m < r.size := by omega
                go_wp2
                · have h1 : (r[m] == q) = true := b_eq q (by assumption)
                  have hpf : pc < f := by assumption
                  have h0 : pc = 0 := by omega
                  have H0 : Hid (oneLen q f s.data.toList T.data.toList = 0) := Lib.hid (by
                    have h2 : m = 1 := HPC.out.1 h0
                    have hv : litOf f (bodyAt q r 1) = 0 := by
                      rw [HB.out, body_hit hmr h1]
                      show (if 0 + (m - 1) < f then 0 else 0 + (m - 1) + 2) = 0
                      rw [if_pos (by omega)]
                    rw [HP2.out, hv]; rfl)
                  clear h0
                  go_roundg g
                  case rel => exact ⟨k + 1, by omega, by go_num, rfl, Lib.hid (hnext.out H0.out)⟩
                  case measure => omega
                · have h1 : (r[m] == q) = true := b_eq q (by assumption)
                  have hpf : ¬ pc < f := by assumption
                  have H0 : Hid (oneLen q f s.data.toList T.data.toList = T.size + m + 1) := Lib.hid (by
                    have h2 : ¬ m - 1 < f := by
                      intro h3
                      have h4 : m = 1 := by omega
                      have h5 := HPC.out.2 h4
                      omega
                    have hv : litOf f (bodyAt q r 1) = m + 1 := by
                      rw [HB.out, body_hit hmr h1]
                      show (if 0 + (m - 1) < f then 0 else 0 + (m - 1) + 2) = m + 1
                      rw [if_neg (by omega)]; omega
                    rw [HP2.out, hv, if_neg (Nat.succ_ne_zero m)]; omega)
                  rw [Exit.noGoto_ret]
                  go_ret
                  refine ⟨ri ?_, rfl⟩
                  rw [hlast.out (by rw [H0.out]; omega), H0.out]
                  omega
                · have h1 : (r[m] == q) = false := b_ne q (by assumption)
                  have h2 : (r[m] == 10) = true := b_eq 10 (by assumption)
                  have H0 : Hid (oneLen q f s.data.toList T.data.toList = 0) := Lib.hid (by rw [HP2.out, HB.out, body_nl hmr h1 h2]; rfl)
                  go_roundg g
                  case rel => exact ⟨k + 1, by omega, by go_num, rfl, Lib.hid (hnext.out H0.out)⟩
                  case measure => omega
                · have h1 : (r[m] == q) = false := b_ne q (by assumption)
                  have h2 : (r[m] == 10) = false := b_ne 10 (by assumption)
                  have h3 : (r[m] == 92) = true := b_eq 92 (by assumption)
                  have H0 : Hid (oneLen q f s.data.toList T.data.toList = 0) := Lib.hid (by rw [HP2.out, HB.out, body_esc0 hmr h1 h2 h3 (by omega)]; rfl)
                  go_roundg g
                  case rel => exact ⟨k + 1, by omega, by go_num, rfl, Lib.hid (hnext.out H0.out)⟩
                  case measure => omega
                · have h1 : (r[m] == q) = false := b_ne q (by assumption)
                  have h2 : (r[m] == 10) = false := b_ne 10 (by assumption)
                  have h3 : (r[m] == 92) = true := b_eq 92 (by assumption)
                  have hm2 : m + 1 < r.size := by omega
                  have h4 : (r[m + 1] == 10) = true := by
                    have h : ((m : Int) + 1 == (r.size : Int)) = true ∨ ((r[m + 1].toNat : Int) == 10) = true := by assumption
                    exact b_eq 10 (h.resolve_left (by rw [beq_iff_eq]; omega))
                  have H0 : Hid (oneLen q f s.data.toList T.data.toList = 0) := Lib.hid (by rw [HP2.out, HB.out, body_esc1 hmr h1 h2 h3 hm2 h4]; rfl)
                  go_roundg g
                  case rel => exact ⟨k + 1, by omega, by go_num, rfl, Lib.hid (hnext.out H0.out)⟩
                  case measure => omega
                · have h1 : (r[m] == q) = false := b_ne q (by assumption)
                  have h2 : (r[m] == 10) = false := b_ne 10 (by assumption)
                  have h3 : (r[m] == 92) = true := b_eq 92 (by assumption)
                  have hm2 : m + 1 < r.size := by omega
                  have h4 : (r[m + 1] == 10) = false := by
                    have h : ((m : Int) + 1 == (r.size : Int)) = false ∧ ((r[m + 1].toNat : Int) == 10) = false := by assumption
                    exact b_ne 10 h.2
                  have HB2 : Hid (bodyAt q r 1 = (bodyAt q r (m + 2)).map (· + (m + 2 - 1))) := Lib.hid (by
                    rw [HB.out, body_esc2 hmr h1 h2 h3 hm2 h4, mapAdd_add, show 2 + (m - 1) = m + 2 - 1 by omega])
                  obtain ⟨g3, rfl⟩ : ∃ g3, g2 = g3 + 1 := ⟨g2 - 1, by omega⟩
                  go_roundg g3
                  case rel => exact ⟨m + 2, pc + 1, by omega, by omega, by go_num, by omega, by go_num, rfl, Lib.hid (by omega), HB2⟩
                  case measure => omega
                · have h1 : (r[m] == q) = false := b_ne q (by assumption)
                  have h2 : (r[m] == 10) = false := b_ne 10 (by assumption)
                  have h3 : (r[m] == 92) = false := b_ne 92 (by assumption)
                  have HB2 : Hid (bodyAt q r 1 = (bodyAt q r (m + 1)).map (· + (m + 1 - 1))) := Lib.hid (by
                    rw [HB.out, body_step hmr h1 h2 h3, mapAdd_add, show 1 + (m - 1) = m + 1 - 1 by omega])
                  go_roundg g2
                  case rel => exact ⟨m + 1, pc + 1, by omega, by omega, by go_num, by omega, by go_num, rfl, Lib.hid (by omega), HB2⟩
                  case measure => omega

end Go.Proofs.YtaodjipnffgihaaGreat

namespace Go.Proofs.YtaodjipnffgihaaGreat
open Go.RowKit

theorem sizeBuilder : (Tryz.prog.info? 61).map (·.size) = some 2 := by kernel_rfl
theorem liesBuilder : liesAt Tryz.prog Tryz.prog.depth 61 (2 / Tryz.prog.cellsOf 61) 0 61 1 = true := by kernel_rfl
theorem infoByte : (Tryz.prog.info? 5).map (fun i => (i.zero, i.size, i.bytes)) = some (some (.int .u8 0), 1, 1) := by kernel_rfl

set_option maxHeartbeats 1000000 in
set_option maxRecDepth 100000 in
theorem copyCheck_used (b : Nat) (w : World) (h0 : w.cell? ⟨b, 0, none⟩ = some (.pointer (some ⟨b, 0, none⟩))) :
    Calls Tryz.prog 47 #[.pointer (some ⟨b, 0, none⟩)] w fun e w' => e = .returned (.tuple #[]) ∧ w' = w := by
  obtain ⟨j, hj, _⟩ := Option.map_eq_some_iff.1 sizeBuilder
  go_enter Tryz.func47, Tryz.ntmps47
  go_wp2
  rw [Lib.run_neq_ptr_same w _ Tryz.underlying58 hj]
  go_wp2
  go_end0
  exact ⟨rfl, rfl⟩

set_option maxHeartbeats 1000000 in
set_option maxRecDepth 100000 in
theorem copyCheck_fresh (b : Nat) (w : World) (h0 : w.cell? ⟨b, 0, none⟩ = some (.pointer none)) (hsh : w.shape? b = some (61, 2)) (hfz : w.frozen? ⟨b, 0, none⟩ = false) :
    Calls Tryz.prog 47 #[.pointer (some ⟨b, 0, none⟩)] w fun e w' => e = .returned (.tuple #[]) ∧ w' = w.setCell ⟨b, 0, none⟩ (.pointer (some ⟨b, 0, none⟩)) := by
  obtain ⟨j, hj, hjs⟩ := Option.map_eq_some_iff.1 sizeBuilder
  go_enter Tryz.func47, Tryz.ntmps47
  go_wp2
  rw [Lib.run_to_unsafe w ⟨b, 0, none⟩ Tryz.underlying58 Tryz.underlying115 hj (by rw [hjs]; decide) hsh (Nat.zero_lt_succ 1)]
  simp only [Result.andThen]
  rw [Oper.upon_value]
  go_wp2
  rw [run_callFunc_extern Tryz.func67 (by kernel_rfl) (by kernel_rfl) (by kernel_rfl) (e := Extern.AbiNoEscape.same) (by kernel_rfl)]
  rw [Lib.run_noEscape]
  simp only [Result.andThen]
  rw [Oper.upon_value]
  go_wp2
  rw [Lib.run_from_unsafe w ⟨b, 0, none⟩ Tryz.underlying115 Tryz.underlying58 hj hsh liesBuilder]
  simp only [Result.andThen]
  rw [Oper.upon_value]
  go_wp2
  go_end0
  exact ⟨rfl, rfl⟩

/-- copyCheck: behind it the builder holds its own address; its bytes are as they were. -/
theorem copyCheck_k (B b : Nat) (bs : List Value) (w : World) (h : Lib.IsBuilderF 61 5 B b bs w) :
    Calls Tryz.prog 47 #[.pointer (some ⟨b, 0, none⟩)] w fun e w' => e = .returned (.tuple #[]) ∧ (Lib.BuilderAtF 61 5 B b (.pointer (some ⟨b, 0, none⟩)) bs w' ∧ Below B w w' ∧ Lib.OthersKept 5 (some b) w w') := by
  rcases h with h | h
  · refine (copyCheck_fresh b w h.cell0 h.shape h.frozen0).mono ?_
    rintro e w' ⟨rfl, rfl⟩
    exact ⟨rfl, h.used _, (Below.refl B w).setCell (p := ⟨b, 0, none⟩) h.1 _, (Lib.OthersKept.refl _ _ w).setCell ⟨b, 0, none⟩ rfl _⟩
  · refine (copyCheck_used b w h.cell0).mono ?_
    rintro e w' ⟨rfl, rfl⟩
    exact ⟨rfl, h, Below.refl B _, Lib.OthersKept.refl _ _ _⟩

set_option maxHeartbeats 2000000 in
set_option maxRecDepth 100000 in
/-- WriteByte: the byte goes behind those that the builder holds. -/
theorem writeByte_k (B b : Nat) (bs : List Value) (c : Int) (w : World) (h : Lib.IsBuilderF 61 5 B b bs w) (hlen : bs.length + 1 ≤ 140737488355328) (hBw : B ≤ w.heap.size) :
    Calls Tryz.prog 30 #[.pointer (some ⟨b, 0, none⟩), .int .u8 c] w fun e w' => e = .returned .nilIface ∧ (Lib.BuilderAtF 61 5 B b (.pointer (some ⟨b, 0, none⟩)) (bs ++ [.int .u8 c]) w' ∧ Below B w w' ∧ Lib.OthersKept 5 (some b) w w') := by
  obtain ⟨i0, hi, hz0, hz1, hz2⟩ := info_parts infoByte
  go_enter Tryz.func30, Tryz.ntmps30
  go_wp2_with (go_at_call 47; refine (copyCheck_k B b bs _ h).mono ?_)
  rintro e w1 ⟨rfl, h1, hb1, hk1⟩
  obtain ⟨hB, v, hbk, hown, hne⟩ := h1
  have c0 : w1.cell? ⟨b, 0, none⟩ = some (.pointer (some ⟨b, 0, none⟩)) := by rw [Lib.cell_of_heap hbk]; rfl
  have c1 : w1.cell? ⟨b, 1, none⟩ = some v := by rw [Lib.cell_of_heap hbk]; rfl
  go_wp2_with (at_builtin; refine wpList_append_ownF _ rfl _ _ 59 rfl B 5 i0 (.int .u8 0) 1 1 Tryz.underlying59 hi hz0 hz1 hz2 rfl (by decide) _ _ _ rfl (hown.alloc _) ⟨w1.heap.size, 0, none⟩ 1 1 [.int .u8 c] rfl rfl ?c1 ?c2 ?c3 ?c4 ?c5 ?_)
  case c1 =>
    intro j u hj
    match j, hj with
    | 0, hj => simp at hj; subst hj; simp [Addr.add]
  case c2 => intro u hu; simp at hu; subst hu; rfl
  case c3 => unfold maxLen; omega
  case c4 => omega
  case c5 => have := hb1.size; simp; omega
  intro v' w2 hown' hgrow _
  have hlt : b < w1.heap.size := by
    rcases Nat.lt_or_ge b w1.heap.size with h' | h'
    · exact h'
    · simp [Array.getElem?_eq_none h'] at hbk
  have hb2 : w2.heap[b]? = some (.cells #[.pointer (some ⟨b, 0, none⟩), v] 61 (0, 0)) := by
    rw [hgrow.block b (by simp; omega) (fun e => hne e.symm), Lib.alloc_old w1 _ b hlt]
    exact hbk
  have d0 : w2.cell? ⟨b, 0, none⟩ = some (.pointer (some ⟨b, 0, none⟩)) := by rw [Lib.cell_of_heap hb2]; rfl
  have d1 : w2.cell? ⟨b, 1, none⟩ = some v := by rw [Lib.cell_of_heap hb2]; rfl
  have f1 : w2.frozen? ⟨b, 1, none⟩ = false := Lib.frozen_of_heap hb2 1
  obtain ⟨g, cap, rfl⟩ : ∃ g cap, v' = .slice (some ⟨g, 0, none⟩) (bs.length + 1) cap := by
    rcases hown'.2 with ⟨_, h0⟩ | ⟨g, cap, cur, fz, hv, _⟩
    · omega
    · exact ⟨g, cap, hv⟩
  go_wp2
  go_ret
  refine ⟨rfl, ?_, ?_, ((hk1.alloc _).grown hgrow (Lib.ownsRowF_kind (hown.alloc _))).setCell ⟨b, 1, none⟩ rfl _⟩
  · exact Lib.BuilderAtF.put (T := 61) (e := 5) hB hb2 (bs' := bs ++ [.int .u8 c]) (by simpa using hown') (by decide)
  · exact ((hb1.alloc (by have := hb1.size; omega) _).grown hgrow (by have := hb1.size; simp; omega) (fun k hk => (hown.lt k hk).1)).setCell (p := ⟨b, 1, none⟩) hB _

end Go.Proofs.YtaodjipnffgihaaGreat

namespace Go.Proofs.YtaodjipnffgihaaGreat
open Go.RowKit

set_option maxHeartbeats 2000000 in
set_option maxRecDepth 100000 in
/-- WriteString: the text goes behind what the builder holds. -/
theorem writeString_k (B b : Nat) (bs : List Value) (s : ByteArray) (w : World) (h : Lib.IsBuilderF 61 5 B b bs w) (hlen : bs.length + s.size ≤ 140737488355328) (hBw : B ≤ w.heap.size) :
    Calls Tryz.prog 27 #[.pointer (some ⟨b, 0, none⟩), .string s] w fun e w' => e = .returned (.tuple #[.int .i64 s.size, .nilIface]) ∧ (Lib.BuilderAtF 61 5 B b (.pointer (some ⟨b, 0, none⟩)) (bs ++ Lib.strCells s) w' ∧ Below B w w' ∧ Lib.OthersKept 5 (some b) w w') := by
  obtain ⟨i0, hi, hz0, hz1, hz2⟩ := info_parts infoByte
  go_enter Tryz.func27, Tryz.ntmps27
  go_wp2_with (go_at_call 47; refine (copyCheck_k B b bs _ h).mono ?_)
  rintro e w1 ⟨rfl, h1, hb1, hk1⟩
  obtain ⟨hB, v, hbk, hown, hne⟩ := h1
  have c0 : w1.cell? ⟨b, 0, none⟩ = some (.pointer (some ⟨b, 0, none⟩)) := by rw [Lib.cell_of_heap hbk]; rfl
  have c1 : w1.cell? ⟨b, 1, none⟩ = some v := by rw [Lib.cell_of_heap hbk]; rfl
  go_wp2_with (at_builtin; refine Lib.wpList_append_own_stringF _ rfl _ _ 59 9 rfl B 5 i0 Tryz.underlying59 Tryz.underlying9 hi hz0 hz1 hz2 _ _ _ rfl hown s rfl ?c3 ?c4 ?c5 ?_)
  case c3 => unfold maxLen; omega
  case c4 => omega
  case c5 => have := hb1.size; omega
  intro v' w2 hown' hgrow _
  have hlt : b < w1.heap.size := by
    rcases Nat.lt_or_ge b w1.heap.size with h' | h'
    · exact h'
    · simp [Array.getElem?_eq_none h'] at hbk
  have hb2 : w2.heap[b]? = some (.cells #[.pointer (some ⟨b, 0, none⟩), v] 61 (0, 0)) := by
    rw [hgrow.block b hlt (fun e => hne e.symm)]
    exact hbk
  have d0 : w2.cell? ⟨b, 0, none⟩ = some (.pointer (some ⟨b, 0, none⟩)) := by rw [Lib.cell_of_heap hb2]; rfl
  have d1 : w2.cell? ⟨b, 1, none⟩ = some v := by rw [Lib.cell_of_heap hb2]; rfl
  have f1 : w2.frozen? ⟨b, 1, none⟩ = false := Lib.frozen_of_heap hb2 1
  obtain ⟨ao, n', cap, rfl⟩ : ∃ ao n' cap, v' = .slice ao n' cap := by
    rcases hown'.2 with ⟨hv, _⟩ | ⟨g, cap, cur, fz, hv, _⟩
    · exact ⟨_, _, _, hv⟩
    · exact ⟨_, _, _, hv⟩
  go_wp2
  go_ret2
  refine ⟨rfl, ?_, ?_, (hk1.grown hgrow (Lib.ownsRowF_kind hown)).setCell ⟨b, 1, none⟩ rfl _⟩
  · exact Lib.BuilderAtF.put (T := 61) (e := 5) hB hb2 (bs' := bs ++ Lib.strCells s) (by simpa [Lib.strCells_length] using hown') (by decide)
  · exact (hb1.grown hgrow (by have := hb1.size; omega) (fun k hk => (hown.lt k hk).1)).setCell (p := ⟨b, 1, none⟩) hB _

end Go.Proofs.YtaodjipnffgihaaGreat

namespace Go.Proofs.YtaodjipnffgihaaGreat
open Go.RowKit

/-! ### Words -/
def wbAt (L : List UInt8) (k : Nat) : Bool := if k = 0 then wordB L else (L.drop k).all isAln
theorem all_yes {s : ByteArray} {k : Nat} {p : UInt8 → Bool} (hk : k < s.size) (h : p s[k] = true) : (s.data.toList.drop k).all p = (s.data.toList.drop (k + 1)).all p := by
  rw [data_drop s k hk, List.all_cons, h, Bool.true_and]
theorem all_no {s : ByteArray} {k : Nat} {p : UInt8 → Bool} (hk : k < s.size) (h : p s[k] = false) : (s.data.toList.drop k).all p = false := by
  rw [data_drop s k hk, List.all_cons, h, Bool.false_and]
theorem wordB_cons {s : ByteArray} (h : 0 < s.size) : wordB s.data.toList = (isLet s[0] && (s.data.toList.drop 1).all isAln) := by
  have hd := data_drop s 0 h
  rw [List.drop_zero] at hd
  rw [hd, wordB]; rfl
theorem wb_let {s : ByteArray} {k : Nat} (hk : k < s.size) (h : isLet s[k] = true) : wbAt s.data.toList k = wbAt s.data.toList (k + 1) := by
  unfold wbAt
  rw [if_neg (show ¬ k + 1 = 0 by omega)]
  by_cases h0 : k = 0
  · subst h0
    rw [if_pos rfl, wordB_cons hk, h, Bool.true_and]
  · rw [if_neg h0, all_yes hk (by unfold isAln; rw [h]; rfl)]
theorem wb_dig {s : ByteArray} {k : Nat} (hk : k < s.size) (h0 : k ≠ 0) (h : isDig s[k] = true) : wbAt s.data.toList k = wbAt s.data.toList (k + 1) := by
  unfold wbAt
  rw [if_neg (show ¬ k + 1 = 0 by omega), if_neg h0, all_yes hk (by unfold isAln; rw [h, Bool.or_true])]
theorem wb_no {s : ByteArray} {k : Nat} (hk : k < s.size) (h : isLet s[k] = false) (h2 : k = 0 ∨ isDig s[k] = false) : wbAt s.data.toList k = false := by
  unfold wbAt
  by_cases h0 : k = 0
  · subst h0
    rw [if_pos rfl, wordB_cons hk, h, Bool.false_and]
  · rw [if_neg h0, all_no hk]
    unfold isAln
    rw [h, h2.resolve_left h0]; rfl
theorem wb_end {s : ByteArray} (h : 0 < s.size) : wbAt s.data.toList s.size = true := by
  unfold wbAt
  rw [if_neg (by omega), List.drop_eq_nil_of_le (by rw [size_list]; exact Nat.le_refl _)]; rfl
theorem wb_nil {s : ByteArray} (h : s.size = 0) : wbAt s.data.toList s.size = false := by
  unfold wbAt
  rw [if_pos h, List.length_eq_zero_iff.1 ((size_list s).trans h)]; rfl

set_option maxHeartbeats 1000000 in
theorem rIsWord_any (s : ByteArray) (w : World) (hs : s.size ≤ maxLen) :
    Calls Tryz.prog 101 #[.string s] w fun e w' => e = .returned (.bool (wordB s.data.toList)) ∧ w = w' := by
  unfold maxLen at hs
  go_enter Tryz.func101, Tryz.ntmps101
  go_wp2
  go_loop [3] (fun i => ∃ k : Nat, k ≤ s.size ∧ i = .int .i64 k ∧ wordB s.data.toList = wbAt s.data.toList k) (fun i => s.size - (intOf i).toNat)
  case atStart => exact ⟨0, Nat.zero_le _, rfl, rfl⟩
  case round =>
    obtain ⟨k, hk, rfl, he⟩ := hrel
    have HE := Lib.hid he; clear he
    by_cases hlt : k < s.size
    · have CL := fun w => rletter_any s[k] w
      have CD := fun w => rdigit_any s[k] w
      cases hl : isLet s[k] with
      | true =>
        have HN := Lib.hid (HE.out.trans (wb_let hlt hl))
        rw [hl] at CL
        clear hl CD HE
        go_wp2_with (go_at_call 110; refine (CL _).mono ?_; rintro e w' ⟨rfl, rfl⟩)
        go_round
        case rel => exact ⟨k + 1, by omega, by go_num, HN.out⟩
        case measure => simp [intOf]; omega
      | false =>
        rw [hl] at CL
        by_cases h0 : k = 0
        · have HN := Lib.hid (HE.out.trans (wb_no hlt hl (.inl h0)))
          have h00 : ((k : Int) == 0) = true := by simp [h0]
          clear hl CD HE h0
          go_wp2_with (go_at_call 110; refine (CL _).mono ?_; rintro e w' ⟨rfl, rfl⟩)
          go_ret
          exact ⟨rb (by rw [HN.out]), rfl⟩
        · have h00 : ((k : Int) == 0) = false := by simp; omega
          cases hd : isDig s[k] with
          | true =>
            have HN := Lib.hid (HE.out.trans (wb_dig hlt h0 hd))
            rw [hd] at CD
            clear hl hd HE h0
            go_wp2_with (first | (go_at_call 110; refine (CL _).mono ?_; rintro e w' ⟨rfl, rfl⟩) | (go_at_call 111; refine (CD _).mono ?_; rintro e w' ⟨rfl, rfl⟩))
            go_round
            case rel => exact ⟨k + 1, by omega, by go_num, HN.out⟩
            case measure => simp [intOf]; omega
          | false =>
            have HN := Lib.hid (HE.out.trans (wb_no hlt hl (.inr hd)))
            rw [hd] at CD
            clear hl hd HE h0
            go_wp2_with (first | (go_at_call 110; refine (CL _).mono ?_; rintro e w' ⟨rfl, rfl⟩) | (go_at_call 111; refine (CD _).mono ?_; rintro e w' ⟨rfl, rfl⟩))
            go_ret
            exact ⟨rb (by rw [HN.out]), rfl⟩
    · obtain rfl : k = s.size := by omega
      by_cases hz : 0 < s.size
      · have HN := Lib.hid (HE.out.trans (wb_end hz))
        have hz2 : (0 : Int) < (s.size : Int) := by omega
        go_wp2
        go_ret
        exact ⟨rb (by rw [HN.out]), rfl⟩
      · have HN := Lib.hid (HE.out.trans (wb_nil (s := s) (by omega)))
        go_wp2
        go_ret
        exact ⟨rb (by rw [HN.out]), rfl⟩

/-! ### Numbers -/
theorem take_snoc {s : ByteArray} {j : Nat} (h : s.size = j + 1) : s.data.toList = s.data.toList.take j ++ [s[j]] := by
  conv => lhs; rw [← List.take_append_drop j s.data.toList]
  rw [data_drop s j (by omega), List.drop_eq_nil_of_le (by rw [size_list]; omega)]
theorem take_pair {s : ByteArray} {j : Nat} (h : s.size = j + 2) : s.data.toList = s.data.toList.take j ++ [s[j], s[j + 1]] := by
  conv => lhs; rw [← List.take_append_drop j s.data.toList]
  rw [data_drop s j (by omega), data_drop s (j + 1) (by omega), List.drop_eq_nil_of_le (by rw [size_list]; omega)]
theorem rn_one {s : ByteArray} (h : s.size = 1) : numF s.data.toList = isDig s[0] := by
  have := take_snoc (s := s) (j := 0) h
  rw [this, List.take_zero, List.nil_append, numF_one]
theorem rn_dot {s : ByteArray} (h : s.size = 2) (h0 : s[0] = 46) : numF s.data.toList = isDig s[1] := by
  have := take_pair (s := s) (j := 0) h
  rw [this, List.take_zero, List.nil_append, h0, numF_dot]
theorem rn_two {s : ByteArray} (h : s.size = 2) (h0 : s[0] ≠ 46) (h1 : isSgn s[1] = true) : numF s.data.toList = false := by
  have := take_pair (s := s) (j := 0) h
  rw [this, List.take_zero, List.nil_append, numF_two h0 h1]
theorem rn_pair {s : ByteArray} {j : Nat} (h : s.size = j + 3) (h1 : isSgn s[j + 2] = true) : numF s.data.toList = (isExp s[j + 1] && numF (s.data.toList.take (j + 1))) := by
  conv => lhs; rw [take_pair (s := s) (j := j + 1) h]
  refine numF_exp ?_ h1
  intro e
  have := congrArg List.length e
  rw [List.length_take, size_list, List.length_nil] at this
  omega
theorem rn_snoc {s : ByteArray} {j : Nat} (h : s.size = j + 2) (hx : j = 0 → s[0] ≠ 46) (h1 : isSgn s[j + 1] = false) : numF s.data.toList = (isNum s[j + 1] && numF (s.data.toList.take (j + 1))) := by
  conv => lhs; rw [take_snoc (s := s) (j := j + 1) h]
  refine numF_snoc ?_ ?_ h1
  · intro e
    have := congrArg List.length e
    rw [List.length_take, size_list, List.length_nil] at this
    omega
  · intro e
    have h2 := congrArg List.length e
    rw [List.length_take, size_list, List.length_cons, List.length_nil] at h2
    obtain rfl : j = 0 := by omega
    refine hx rfl ?_
    have h3 := data_drop s 0 (by omega)
    rw [List.drop_zero] at h3
    rw [h3] at e
    simpa using e

set_option maxHeartbeats 2000000 in
theorem rIsNumber_any : ∀ (m : Nat) (s : ByteArray), s.size ≤ m → ∀ (w : World), s.size ≤ maxLen →
    Calls Tryz.prog 102 #[.string s] w fun e w' => e = .returned (.bool (numF s.data.toList)) ∧ w = w' := by
  intro m
  induction m with
  | zero =>
    intro s hm w hs
    have h0 : s.size = 0 := by omega
    have HN : Hid (numF s.data.toList = false) := Lib.hid (by rw [List.length_eq_zero_iff.1 ((size_list s).trans h0)]; rfl)
    have h00 : ((s.size : Int) == 0) = true := by simp [h0]
    clear hm h0
    go_enter Tryz.func102, Tryz.ntmps102
    go_wp2_with fail
    go_ret
    exact ⟨rb (by rw [HN.out]), rfl⟩
  | succ m ih =>
    intro s hm w hs
    by_cases h0 : s.size = 0
    · exact ih s (by omega) w hs
    · have h00 : ((s.size : Int) == 0) = false := beq_eq_false_iff_ne.2 (by omega)
      by_cases h1 : s.size = 1
      · have HN := Lib.hid (rn_one h1)
        have h10 : ((s.size : Int) == 1) = true := by simp [h1]
        clear ih
        go_enter Tryz.func102, Tryz.ntmps102
        go_wp2_with (go_at_call 111; refine (rdigit_any _ _).mono ?_; rintro e w' ⟨rfl, rfl⟩)
        go_ret
        exact ⟨rb (by rw [HN.out]), rfl⟩
      · have h10 : ((s.size : Int) == 1) = false := beq_eq_false_iff_ne.2 (by omega)
        by_cases h2 : s.size = 2
        · have h20 : ((s.size : Int) == 2) = true := by simp [h2]
          have j0 : (0 : Int) < (s.size : Int) := by omega
          have j1 : (1 : Int) < (s.size : Int) := by omega
          by_cases hp : s[0] = 46
          · have HN := Lib.hid (rn_dot h2 hp)
            have hp0 : ((s[0].toNat : Int) == 46) = true := by rw [hp]; rfl
            clear ih hp
            go_enter Tryz.func102, Tryz.ntmps102
            go_wp2_with (go_at_call 111; refine (rdigit_any _ _).mono ?_; rintro e w' ⟨rfl, rfl⟩)
            go_ret
            exact ⟨rb (by rw [HN.out]), rfl⟩
          · have hp0 : ((s[0].toNat : Int) == 46) = false := beq_eq_false_iff_ne.2 (fun h => hp (UInt8.toNat_inj.1 (by simp; omega)))
            have CS := fun w => rsign_any s[1] w
            cases hsg : isSgn s[1] with
            | true =>
              have HN := Lib.hid (rn_two h2 hp hsg)
              rw [hsg] at CS
              clear ih hp hsg
              go_enter Tryz.func102, Tryz.ntmps102
              go_wp2_with (go_at_call 112; refine (CS _).mono ?_; rintro e w' ⟨rfl, rfl⟩)
              go_ret
              exact ⟨rb (by rw [HN.out]), rfl⟩
            | false =>
              have HN := Lib.hid (rn_snoc (j := 0) h2 (fun _ => hp) hsg)
              have IH := fun w => ih (s.extract 0 1) (by rw [ByteArray.size_extract]; omega) w (by rw [ByteArray.size_extract]; unfold maxLen; omega)
              rw [show (s.extract 0 1).data.toList = s.data.toList.take 1 from extract_list s 0 1] at IH
              rw [hsg] at CS
              clear ih hp hsg
              go_enter Tryz.func102, Tryz.ntmps102
              go_wp2_with (first | (go_at_call 112; refine (CS _).mono ?_; rintro e w' ⟨rfl, rfl⟩) | (go_at_call 111; refine (rdigit_any _ _).mono ?_; rintro e w' ⟨rfl, rfl⟩) | (go_at_call 110; refine (rletter_any _ _).mono ?_; rintro e w' ⟨rfl, rfl⟩) | (go_at_call 102; refine (IH _).mono ?_; rintro e w' ⟨rfl, rfl⟩))
              all_goals
                go_ret
                refine ⟨rb ?_, rfl⟩
                rw [HN.out]
                first
                  | (have hq : isDig s[0 + 1] = true := by assumption
                     rw [nD hq]; rfl)
                  | (have hq : isLet s[0 + 1] = true := by assumption
                     rw [nL hq]; rfl)
                  | (have hq : ((s[0 + 1].toNat : Int) == 46) = true := by first | assumption | exact beq_iff_eq.2 (by assumption)
                     rw [nP hq]; rfl)
                  | (have hq : isDig s[0 + 1] = false := by first | assumption | exact Bool.eq_false_iff.2 (by assumption)
                     have hq2 : isLet s[0 + 1] = false := by first | assumption | exact Bool.eq_false_iff.2 (by assumption)
                     have hq3 : ((s[0 + 1].toNat : Int) == 46) = false := by first | assumption | exact beq_eq_false_iff_ne.2 (by assumption)
                     rw [nN hq hq2 hq3]; rfl)
        · obtain ⟨j, hj⟩ : ∃ j, s.size = j + 3 := ⟨s.size - 3, by omega⟩
          have h20 : ((s.size : Int) == 2) = false := beq_eq_false_iff_ne.2 (by omega)
          have CS := fun w => rsign_any s[j + 2] w
          cases hsg : isSgn s[j + 2] with
          | true =>
            have HN := Lib.hid (rn_pair hj hsg)
            rw [hsg] at CS
            have IH := fun w => ih (s.extract 0 (j + 1)) (by rw [ByteArray.size_extract]; omega) w (by rw [ByteArray.size_extract]; omega)
            rw [show (s.extract 0 (j + 1)).data.toList = s.data.toList.take (j + 1) from extract_list s 0 (j + 1)] at IH
            unfold maxLen at hs
            have v1 : wrap64 ((j : Int) + 3 - 1) = (j : Int) + 2 := by rw [show (j : Int) + 3 - 1 = (j : Int) + 2 by omega]; exact IntWalk.wrap64_in _ (by omega)
            have v2 : wrap64 ((j : Int) + 3 - 2) = (j : Int) + 1 := by rw [show (j : Int) + 3 - 2 = (j : Int) + 1 by omega]; exact IntWalk.wrap64_in _ (by omega)
            have v3 : ((j : Int) + 2).toNat = j + 2 := by omega
            have v4 : ((j : Int) + 1).toNat = j + 1 := by omega
            have v5 : ((j : Int) + 3 == 2) = false := beq_eq_false_iff_ne.2 (by omega)
            have v6 : ((j : Int) + 3 == 1) = false := beq_eq_false_iff_ne.2 (by omega)
            have v7 : ((j : Int) + 3 == 0) = false := beq_eq_false_iff_ne.2 (by omega)
            have v8 : (2 : Int) < (j : Int) + 3 := by omega
            have CE := fun w => rexpo_any s[j + 1] w
            cases he : isExp s[j + 1] with
            | false =>
              rw [he] at CE
              have HN2 : Hid (numF s.data.toList = false) := Lib.hid (by rw [HN.out, he]; rfl)
              clear ih hsg h0 h1 h2 hm HN he h00 h10 h20 hs IH
              go_enter Tryz.func102, Tryz.ntmps102
              go_wp2_with (first | (go_at_call 112; refine (CS _).mono ?_; rintro e w' ⟨rfl, rfl⟩) | (go_at_call 113; refine (CE _).mono ?_; rintro e w' ⟨rfl, rfl⟩))
              go_ret
              exact ⟨rb (by rw [HN2.out]), rfl⟩
            | true =>
              rw [he] at CE
              have HN2 : Hid (numF s.data.toList = numF (s.data.toList.take (j + 1))) := Lib.hid (by rw [HN.out, he]; rfl)
              clear ih hsg h0 h1 h2 hm HN he h00 h10 h20 hs
              go_enter Tryz.func102, Tryz.ntmps102
              go_wp2_with (first | (go_at_call 112; refine (CS _).mono ?_; rintro e w' ⟨rfl, rfl⟩) | (go_at_call 113; refine (CE _).mono ?_; rintro e w' ⟨rfl, rfl⟩) | (go_at_call 102; refine (IH _).mono ?_; rintro e w' ⟨rfl, rfl⟩))
              go_ret
              exact ⟨rb (by rw [HN2.out]), rfl⟩
          | false =>
            have HN := Lib.hid (rn_snoc (s := s) (j := j + 1) hj (fun h => by omega) hsg)
            rw [hsg] at CS
            have IH := fun w => ih (s.extract 0 (j + 2)) (by rw [ByteArray.size_extract]; omega) w (by rw [ByteArray.size_extract]; omega)
            rw [show (s.extract 0 (j + 2)).data.toList = s.data.toList.take (j + 2) from extract_list s 0 (j + 2)] at IH
            unfold maxLen at hs
            have v1 : wrap64 ((j : Int) + 3 - 1) = (j : Int) + 2 := by rw [show (j : Int) + 3 - 1 = (j : Int) + 2 by omega]; exact IntWalk.wrap64_in _ (by omega)
            have v3 : ((j : Int) + 2).toNat = j + 2 := by omega
            have v5 : ((j : Int) + 3 == 2) = false := beq_eq_false_iff_ne.2 (by omega)
            have v6 : ((j : Int) + 3 == 1) = false := beq_eq_false_iff_ne.2 (by omega)
            have v7 : ((j : Int) + 3 == 0) = false := beq_eq_false_iff_ne.2 (by omega)
            clear ih hsg h0 h1 h2 hm h00 h10 h20 hs
            go_enter Tryz.func102, Tryz.ntmps102
            go_wp2_with (first | (go_at_call 112; refine (CS _).mono ?_; rintro e w' ⟨rfl, rfl⟩) | (go_at_call 111; refine (rdigit_any _ _).mono ?_; rintro e w' ⟨rfl, rfl⟩) | (go_at_call 110; refine (rletter_any _ _).mono ?_; rintro e w' ⟨rfl, rfl⟩) | (go_at_call 102; refine (IH _).mono ?_; rintro e w' ⟨rfl, rfl⟩))
            all_goals
              go_ret
              refine ⟨rb ?_, rfl⟩
              rw [HN.out]
              first
                | (have hq : isDig s[j + 1 + 1] = true := by assumption
                   rw [nD hq]; rfl)
                | (have hq : isLet s[j + 1 + 1] = true := by assumption
                   rw [nL hq]; rfl)
                | (have hq : ((s[j + 1 + 1].toNat : Int) == 46) = true := by first | assumption | exact beq_iff_eq.2 (by assumption)
                   rw [nP hq]; rfl)
                | (have hq : isDig s[j + 1 + 1] = false := by first | assumption | exact Bool.eq_false_iff.2 (by assumption)
                   have hq2 : isLet s[j + 1 + 1] = false := by first | assumption | exact Bool.eq_false_iff.2 (by assumption)
                   have hq3 : ((s[j + 1 + 1].toNat : Int) == 46) = false := by first | assumption | exact beq_eq_false_iff_ne.2 (by assumption)
                   rw [nN hq hq2 hq3]; rfl)

/-! ### Pieces -/
theorem pc_end {q : UInt8} {s : ByteArray} {k : Nat} (h : s.size ≤ k) : piecesB q (s.data.toList.drop k) = true := by
  rw [List.drop_eq_nil_of_le (by rw [size_list]; exact h), piecesB]
theorem pc_quote {q : UInt8} {s : ByteArray} {k : Nat} (hk : k < s.size) (h : s[k] = q ∨ s[k] = 10) : piecesB q (s.data.toList.drop k) = false := by
  rw [data_drop s k hk, piecesB_eq, if_pos]
  rcases h with h | h <;> simp [h]
theorem pc_plain {q : UInt8} {s : ByteArray} {k : Nat} (hk : k < s.size) (h : s[k] ≠ q) (h1 : s[k] ≠ 10) (h2 : s[k] ≠ 92) : piecesB q (s.data.toList.drop k) = piecesB q (s.data.toList.drop (k + 1)) := by
  rw [data_drop s k hk, piecesB_eq, if_neg (by simp [h, h1]), if_neg (by simp [h2])]
theorem pc_last {q : UInt8} {s : ByteArray} {k : Nat} (hk : k + 1 = s.size) (h2 : s[k] = 92) : piecesB q (s.data.toList.drop k) = false := by
  rw [data_drop s k (by omega), piecesB_eq, List.drop_eq_nil_of_le (by rw [size_list]; omega)]
  simp [h2]
theorem pc_bad {q : UInt8} {s : ByteArray} {k : Nat} (hk : k + 1 < s.size) (h2 : s[k] = 92) (h3 : s[k + 1] = 10) : piecesB q (s.data.toList.drop k) = false := by
  rw [data_drop s k (by omega), data_drop s (k + 1) hk, piecesB_eq]
  simp [h2, h3]
theorem pc_pair {q : UInt8} {s : ByteArray} {k : Nat} (hk : k + 1 < s.size) (h : s[k] ≠ q) (h2 : s[k] = 92) (h3 : s[k + 1] ≠ 10) : piecesB q (s.data.toList.drop k) = piecesB q (s.data.toList.drop (k + 2)) := by
  rw [data_drop s k (by omega), data_drop s (k + 1) hk, piecesB_eq, if_neg (by rw [h2] at h ⊢; simp [h]), if_pos (by simp [h2])]
  simp only
  rw [if_neg (by simp [h3])]
theorem u8_int {a b : UInt8} : a = b ↔ (a.toNat : Int) = (b.toNat : Int) := by
  rw [← UInt8.toNat_inj]; omega

set_option maxHeartbeats 2000000 in
theorem rpieces_any (s : ByteArray) (q : UInt8) (w : World) (hs : s.size ≤ maxLen) :
    Calls Tryz.prog 114 #[.string s, .int .u8 q.toNat] w fun e w' => e = .returned (.bool (piecesB q s.data.toList)) ∧ w = w' := by
  unfold maxLen at hs
  go_enter Tryz.func114, Tryz.ntmps114
  go_wp2
  go_loop [5] (fun i => ∃ k : Nat, k ≤ s.size ∧ i = .int .i64 k ∧ piecesB q s.data.toList = piecesB q (s.data.toList.drop k)) (fun i => s.size - (intOf i).toNat)
  case atStart => exact ⟨0, Nat.zero_le _, rfl, rfl⟩
  case round =>
    obtain ⟨k, hk, rfl, he⟩ := hrel
    have HE := Lib.hid he; clear he
    by_cases hlt : k < s.size
    · by_cases h1 : s[k] = q
      · have HN := Lib.hid (HE.out.trans (pc_quote hlt (.inl h1)))
        have b1 : ((s[k].toNat : Int) == (q.toNat : Int)) = true := by rw [h1]; simp
        clear h1 HE
        go_wp2
        go_ret
        exact ⟨rb (by rw [HN.out]), rfl⟩
      · have b1 : ((s[k].toNat : Int) == (q.toNat : Int)) = false := beq_eq_false_iff_ne.2 (fun h => h1 (u8_int.2 h))
        by_cases h2 : s[k] = 10
        · have HN := Lib.hid (HE.out.trans (pc_quote hlt (.inr h2)))
          have b2 : ((s[k].toNat : Int) == 10) = true := by rw [h2]; rfl
          clear h1 h2 HE
          go_wp2
          go_ret
          exact ⟨rb (by rw [HN.out]), rfl⟩
        · have b2 : ((s[k].toNat : Int) == 10) = false := beq_eq_false_iff_ne.2 (fun h => h2 (u8_int.2 h))
          by_cases h3 : s[k] = 92
          · have b3 : ((s[k].toNat : Int) == 92) = true := by rw [h3]; rfl
            by_cases h4 : k + 1 = s.size
            · have HN := Lib.hid (HE.out.trans (pc_last h4 h3))
              have b4 : ((k : Int) + 1 == (s.size : Int)) = true := by simp; omega
              clear h1 h2 h3 HE h4
              go_wp2
              go_ret
              exact ⟨rb (by rw [HN.out]), rfl⟩
            · have b4 : ((k : Int) + 1 == (s.size : Int)) = false := beq_eq_false_iff_ne.2 (by omega)
              have h5 : k + 1 < s.size := by omega
              have b5 : (k : Int) + 1 < (s.size : Int) := by omega
              have b6 : (0 : Int) ≤ (k : Int) + 1 := by omega
              have b7 : ((k : Int) + 1).toNat = k + 1 := by omega
              by_cases h6 : s[k + 1] = 10
              · have HN := Lib.hid (HE.out.trans (pc_bad h5 h3 h6))
                have b8 : ((s[k + 1].toNat : Int) == 10) = true := by rw [h6]; rfl
                clear h1 h2 h3 h4 h6 HE
                go_wp2
                go_ret
                exact ⟨rb (by rw [HN.out]), rfl⟩
              · have HN := Lib.hid (HE.out.trans (pc_pair h5 h1 h3 h6))
                have b8 : ((s[k + 1].toNat : Int) == 10) = false := beq_eq_false_iff_ne.2 (fun h => h6 (u8_int.2 h))
                clear h1 h2 h3 h4 h6 HE
                go_wp2
                go_round
                case rel => exact ⟨k + 2, by omega, by go_num, HN.out⟩
                case measure => simp [intOf]; omega
          · have HN := Lib.hid (HE.out.trans (pc_plain hlt h1 h2 h3))
            have b3 : ((s[k].toNat : Int) == 92) = false := beq_eq_false_iff_ne.2 (fun h => h3 (u8_int.2 h))
            clear h1 h2 h3 HE
            go_wp2
            go_round
            case rel => exact ⟨k + 1, by omega, by go_num, HN.out⟩
            case measure => simp [intOf]; omega
    · have HN := Lib.hid (HE.out.trans (pc_end (by omega)))
      go_wp2
      go_ret
      exact ⟨rb (by rw [HN.out]), rfl⟩

end Go.Proofs.YtaodjipnffgihaaGreat

namespace Go.Proofs.YtaodjipnffgihaaGreat
open Go.RowKit

theorem libVar_shaped {W : World} (h : W.ShapedOpen Tryz.prog) : LibVar W :=
  Go.Proofs.cell_of_shapedOpen_int (zero := #[.int .i64 0]) (t := 3) h (of_decide_eq_true (by kernel_rfl)) (by kernel_rfl) rfl (by kernel_rfl) (by kernel_rfl) Tryz.underlying3

end Go.Proofs.YtaodjipnffgihaaGreat
