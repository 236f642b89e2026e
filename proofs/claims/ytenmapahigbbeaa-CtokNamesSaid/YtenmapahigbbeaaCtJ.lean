/- ctok's suffixes; ctok.Int. -/
import Derived.Test.YtenmapahigbbeaaCtI
import Derived.Deep.LoopGhost
namespace Go.Proofs.Ytenmapahigbbeaa
open Go.RowKit Go.Shelf

theorem idxU (a b : ByteArray) : (∀ w : World, (Instr.index 97 (.agg #[.string a, .string b]) (.int .i64 0)).run Try.prog w = .ok (.string a) w) ∧ (∀ w : World, (Instr.index 97 (.agg #[.string a, .string b]) (.int .i64 1)).run Try.prog w = .ok (.string b) w) := ⟨fun _ => by kernel_rfl, fun _ => by kernel_rfl⟩

def sufOf (s p : ByteArray) : ByteArray := ⟨(Lib.trimSuffix s.data.toList p.data.toList).toArray⟩
theorem sufOf_list (s p : ByteArray) : (sufOf s p).data.toList = Lib.trimSuffix s.data.toList p.data.toList := by simp [sufOf]
theorem cutSuf_any (s p : ByteArray) (w : World) (hs : s.size ≤ maxLen) : Calls Try.prog 59 #[.string s, .string p] w fun e w' => e = .returned (.tuple #[.string (sufOf s p), .bool (Lib.hasSuffix s.data.toList p.data.toList)]) ∧ w = w' :=
  (Try.strings_CutSuffix s p w (by unfold maxLen at hs; omega)).mono fun _ _ ⟨h, h2⟩ => ⟨h, h2.symm⟩
theorem pre_head (l : List UInt8) (u : UInt8) : Lib.hasPrefix l [u] = true ↔ l.head? = some u := by
  unfold Lib.hasPrefix
  cases l with
  | nil => simp
  | cons c l => simp [List.isPrefixOf]; exact eq_comm
theorem suf_last (l : List UInt8) (u : UInt8) : Lib.hasSuffix l [u] = true ↔ l.getLast? = some u := by
  unfold Lib.hasSuffix
  rw [List.isSuffixOf_iff_suffix]
  constructor
  · rintro ⟨t, rfl⟩; simp
  · intro h
    obtain ⟨t, rfl⟩ := List.getLast?_eq_some_iff.1 h
    exact ⟨t, rfl⟩
theorem trim_head {l : List UInt8} {u : UInt8} (h : Lib.hasPrefix l [u] = true) : Lib.trimPrefix l [u] = l.tail := by
  unfold Lib.trimPrefix
  rw [if_pos h]; simp
theorem trim_last {l : List UInt8} {u : UInt8} (h : Lib.hasSuffix l [u] = true) : Lib.trimSuffix l [u] = l.dropLast := by
  unfold Lib.trimSuffix
  rw [if_pos h, List.dropLast_eq_take]; rfl

set_option maxRecDepth 100000 in
set_option maxHeartbeats 2000000 in
theorem cutUnsigned_any (s : ByteArray) (w : World) (hs : s.size ≤ maxLen) :
    Calls Try.prog 45 #[.string s] w fun e w' => (∃ d : ByteArray, e = .returned (.tuple #[.string d, .bool (cutU s.data.toList).2]) ∧ d.data.toList = (cutU s.data.toList).1) ∧ w = w' := by
  obtain ⟨i0, i1⟩ := idxU ⟨#[117]⟩ ⟨#[85]⟩
  have P1 := fun w => cut_any s ⟨#[117]⟩ w
  have P2 := fun w => cut_any s ⟨#[85]⟩ w
  have S1 := fun w => cutSuf_any s ⟨#[117]⟩ w hs
  have S2 := fun w => cutSuf_any s ⟨#[85]⟩ w hs
  have l1 : (cutOf s ⟨#[117]⟩).data.toList = Lib.trimPrefix s.data.toList [117] := cutOf_list _ _
  have l2 : (cutOf s ⟨#[85]⟩).data.toList = Lib.trimPrefix s.data.toList [85] := cutOf_list _ _
  have m1 : (sufOf s ⟨#[117]⟩).data.toList = Lib.trimSuffix s.data.toList [117] := sufOf_list _ _
  have m2 : (sufOf s ⟨#[85]⟩).data.toList = Lib.trimSuffix s.data.toList [85] := sufOf_list _ _
  rw [show (⟨#[117]⟩ : ByteArray).data.toList = [117] from rfl] at P1 S1
  rw [show (⟨#[85]⟩ : ByteArray).data.toList = [85] from rfl] at P2 S2
  generalize cutOf s ⟨#[117]⟩ = d1 at *
  generalize cutOf s ⟨#[85]⟩ = d2 at *
  generalize sufOf s ⟨#[117]⟩ = d3 at *
  generalize sufOf s ⟨#[85]⟩ = d4 at *
  have HU : Hid (cutU s.data.toList = if s.data.toList.head? = some 117 then (s.data.toList.tail, true) else if s.data.toList.getLast? = some 117 then (s.data.toList.dropLast, true) else if s.data.toList.head? = some 85 then (s.data.toList.tail, true) else if s.data.toList.getLast? = some 85 then (s.data.toList.dropLast, true) else (s.data.toList, false)) := Lib.hid rfl
  cases h1 : Lib.hasPrefix s.data.toList [117] with
  | true =>
    rw [h1] at P1
    have HD : Hid (cutU s.data.toList = (d1.data.toList, true)) := Lib.hid (by rw [HU.out, if_pos ((pre_head _ _).1 h1), l1, trim_head h1])
    clear h1 l1 l2 m1 m2 HU P2 S1 S2
    go_enter Try.func45, Try.ntmps45
    go_wp2
    go_loopg [11] 2 (fun g i wx => g = 2 ∧ i = .int .i64 0 ∧ wx = w)
    case atStart => exact ⟨rfl, rfl, rfl⟩
    case round =>
      obtain ⟨rfl, rfl, rfl⟩ := hrel
      go_wp2_with (go_at_call 52; refine (P1 _).mono ?_; rintro e w' ⟨rfl, rfl⟩)
      go_ret2
      exact ⟨⟨d1, rsb rfl (by rw [HD.out]), by rw [HD.out]⟩, rfl⟩
  | false =>
    rw [h1] at P1
    cases h2 : Lib.hasSuffix s.data.toList [117] with
    | true =>
      rw [h2] at S1
      have HD : Hid (cutU s.data.toList = (d3.data.toList, true)) := Lib.hid (by rw [HU.out, if_neg (fun h => by rw [(pre_head _ _).2 h] at h1; cases h1), if_pos ((suf_last _ _).1 h2), m1, trim_last h2])
      clear h1 h2 l1 l2 m1 m2 HU P2 S2
      go_enter Try.func45, Try.ntmps45
      go_wp2
      go_loopg [11] 2 (fun g i wx => g = 2 ∧ i = .int .i64 0 ∧ wx = w)
      case atStart => exact ⟨rfl, rfl, rfl⟩
      case round =>
        obtain ⟨rfl, rfl, rfl⟩ := hrel
        go_wp2_with (first | (go_at_call 52; refine (P1 _).mono ?_; rintro e w' ⟨rfl, rfl⟩) | (go_at_call 59; refine (S1 _).mono ?_; rintro e w' ⟨rfl, rfl⟩))
        go_ret2
        exact ⟨⟨d3, rsb rfl (by rw [HD.out]), by rw [HD.out]⟩, rfl⟩
    | false =>
      rw [h2] at S1
      have HN : Hid (cutU s.data.toList = if s.data.toList.head? = some 85 then (s.data.toList.tail, true) else if s.data.toList.getLast? = some 85 then (s.data.toList.dropLast, true) else (s.data.toList, false)) := Lib.hid (by
        rw [HU.out, if_neg (fun h => by rw [(pre_head _ _).2 h] at h1; cases h1), if_neg (fun h => by rw [(suf_last _ _).2 h] at h2; cases h2)])
      clear h1 h2 HU l1 m1
      cases h3 : Lib.hasPrefix s.data.toList [85] with
      | true =>
        rw [h3] at P2
        have HD : Hid (cutU s.data.toList = (d2.data.toList, true)) := Lib.hid (by rw [HN.out, if_pos ((pre_head _ _).1 h3), l2, trim_head h3])
        clear h3 l2 m2 HN S2
        go_enter Try.func45, Try.ntmps45
        go_wp2
        go_loopg [11] 2 (fun g i wx => ((g = 2 ∧ i = .int .i64 0) ∨ (g = 1 ∧ i = .int .i64 1)) ∧ wx = w)
        case atStart => exact ⟨.inl ⟨rfl, rfl⟩, rfl⟩
        case round =>
          obtain ⟨⟨rfl, rfl⟩ | ⟨rfl, rfl⟩, rfl⟩ := hrel
          · go_wp2_with (first | (go_at_call 52; refine (P1 _).mono ?_; rintro e w' ⟨rfl, rfl⟩) | (go_at_call 59; refine (S1 _).mono ?_; rintro e w' ⟨rfl, rfl⟩))
            go_roundg 1
            case rel => exact ⟨.inr ⟨rfl, rfl⟩, rfl⟩
            case measure => decide
          · go_wp2_with (go_at_call 52; refine (P2 _).mono ?_; rintro e w' ⟨rfl, rfl⟩)
            go_ret2
            exact ⟨⟨d2, rsb rfl (by rw [HD.out]), by rw [HD.out]⟩, rfl⟩
      | false =>
        rw [h3] at P2
        cases h4 : Lib.hasSuffix s.data.toList [85] with
        | true =>
          rw [h4] at S2
          have HD : Hid (cutU s.data.toList = (d4.data.toList, true)) := Lib.hid (by rw [HN.out, if_neg (fun h => by rw [(pre_head _ _).2 h] at h3; cases h3), if_pos ((suf_last _ _).1 h4), m2, trim_last h4])
          clear h3 h4 l2 m2 HN
          go_enter Try.func45, Try.ntmps45
          go_wp2
          go_loopg [11] 2 (fun g i wx => ((g = 2 ∧ i = .int .i64 0) ∨ (g = 1 ∧ i = .int .i64 1)) ∧ wx = w)
          case atStart => exact ⟨.inl ⟨rfl, rfl⟩, rfl⟩
          case round =>
            obtain ⟨⟨rfl, rfl⟩ | ⟨rfl, rfl⟩, rfl⟩ := hrel
            · go_wp2_with (first | (go_at_call 52; refine (P1 _).mono ?_; rintro e w' ⟨rfl, rfl⟩) | (go_at_call 59; refine (S1 _).mono ?_; rintro e w' ⟨rfl, rfl⟩))
              go_roundg 1
              case rel => exact ⟨.inr ⟨rfl, rfl⟩, rfl⟩
              case measure => decide
            · go_wp2_with (first | (go_at_call 52; refine (P2 _).mono ?_; rintro e w' ⟨rfl, rfl⟩) | (go_at_call 59; refine (S2 _).mono ?_; rintro e w' ⟨rfl, rfl⟩))
              go_ret2
              exact ⟨⟨d4, rsb rfl (by rw [HD.out]), by rw [HD.out]⟩, rfl⟩
        | false =>
          rw [h4] at S2
          have HD : Hid (cutU s.data.toList = (s.data.toList, false)) := Lib.hid (by rw [HN.out, if_neg (fun h => by rw [(pre_head _ _).2 h] at h3; cases h3), if_neg (fun h => by rw [(suf_last _ _).2 h] at h4; cases h4)])
          clear h3 h4 l2 m2 HN
          go_enter Try.func45, Try.ntmps45
          go_wp2
          go_loopg [11] 2 (fun g i wx => ((g = 2 ∧ i = .int .i64 0) ∨ (g = 1 ∧ i = .int .i64 1) ∨ (g = 0 ∧ i = .int .i64 2)) ∧ wx = w)
          case atStart => exact ⟨.inl ⟨rfl, rfl⟩, rfl⟩
          case round =>
            obtain ⟨⟨rfl, rfl⟩ | ⟨rfl, rfl⟩ | ⟨rfl, rfl⟩, rfl⟩ := hrel
            · go_wp2_with (first | (go_at_call 52; refine (P1 _).mono ?_; rintro e w' ⟨rfl, rfl⟩) | (go_at_call 59; refine (S1 _).mono ?_; rintro e w' ⟨rfl, rfl⟩))
              go_roundg 1
              case rel => exact ⟨.inr (.inl ⟨rfl, rfl⟩), rfl⟩
              case measure => decide
            · go_wp2_with (first | (go_at_call 52; refine (P2 _).mono ?_; rintro e w' ⟨rfl, rfl⟩) | (go_at_call 59; refine (S2 _).mono ?_; rintro e w' ⟨rfl, rfl⟩))
              go_roundg 0
              case rel => exact ⟨.inr (.inr ⟨rfl, rfl⟩), rfl⟩
              case measure => decide
            · go_wp2
              go_ret2
              exact ⟨⟨s, rsb rfl (by rw [HD.out]), by rw [HD.out]⟩, rfl⟩

theorem rbb {a b c d : Bool} (h : a = b) (h2 : c = d) : Ending.returned (.tuple #[.bool a, .bool c]) = .returned (.tuple #[.bool b, .bool d]) := by rw [h, h2]

theorem lC_tests (d : ByteArray) : lC d.data.toList = (d.toList.isEmpty || (d.toList == [108]) || (d.toList == [76]) || (d.toList == [108, 108]) || (d.toList == [76, 76])) := by
  rw [ByteArray.toList_eq]
  unfold lC
  congr 4
  cases d.data.toList <;> rfl
theorem two_sides {p : Bool} {q : Prop} (h : p = true) (h2 : p = false) : q := absurd (h.symm.trans h2) (by decide)

set_option maxHeartbeats 2000000 in
theorem suffix_any (s : ByteArray) (w : World) (hs : s.size ≤ maxLen) :
    Calls Try.prog 26 #[.string s] w fun e w' => e = .returned (.tuple #[.bool ((sufC s.data.toList).1 && (sufC s.data.toList).2), .bool (sufC s.data.toList).1]) ∧ w = w' := by
  have C := fun w => cutUnsigned_any s w hs
  obtain ⟨h1, h2⟩ := cutU_suf s.data.toList
  have H1 := Lib.hid h1
  have H2 := Lib.hid h2
  clear h1 h2
  go_enter Try.func26, Try.ntmps26
  go_wp2_with fail
  refine (C _).mono ?_
  rintro e w' ⟨⟨d, rfl, hd⟩, rfl⟩
  have hlC : Hid ((d.toList.isEmpty || (d.toList == [108]) || (d.toList == [76]) || (d.toList == [108, 108]) || (d.toList == [76, 76])) = (sufC s.data.toList).1) := Lib.hid (by rw [← lC_tests, hd]; exact H1.out)
  clear hd H1 C
  obtain ⟨b, hb⟩ : ∃ b, (cutU s.data.toList).2 = b := ⟨_, rfl⟩
  rw [hb] at H2
  simp only [hb]
  clear hb
  go_wp2
  all_goals first
    | exact two_sides (show d.toList.isEmpty = true by assumption) (by assumption)
    | exact two_sides (show (d.toList == [108]) = true by assumption) (by assumption)
    | exact two_sides (show (d.toList == [76]) = true by assumption) (by assumption)
    | exact two_sides (show (d.toList == [108, 108]) = true by assumption) (by assumption)
    | exact two_sides (show (d.toList == [76, 76]) = true by assumption) (by assumption)
    | (have hy : (sufC s.data.toList).1 = true := by rw [← hlC.out]; simp [*]
       go_ret2
       exact ⟨rbb (by rw [hy, H2.out hy]; rfl) hy.symm, rfl⟩)
    | (have hy : (sufC s.data.toList).1 = false := by rw [← hlC.out]; simp [*]
       go_ret2
       exact ⟨rbb (by rw [hy]; rfl) hy.symm, rfl⟩)

/-- What Int answers. -/
def intR (l : List UInt8) : Nat × Bool × Nat := match intC l with
  | none => (0, false, 40)
  | some (v, u) => (v, u, 0)
/-- Its answer, by the parts of a text: the base, how many digits, what they are worth, the suffix. -/
def intP (b n v : Nat) (is u : Bool) : Nat × Bool × Nat :=
  if n = 0 ∨ 18446744073709551615 < v ∨ is = false then (0, false, 40) else if 9223372036854775807 < v ∧ u = false then (if b = 10 then (0, false, 40) else (v, true, 0)) else (v, u, 0)
theorem base_le (l : List UInt8) : 0 < (baseC l).1 ∧ (baseC l).1 ≤ 16 := by
  unfold baseC
  split
  · split
    · exact ⟨Nat.le_of_ble_eq_true rfl, Nat.le_of_ble_eq_true rfl⟩
    · exact ⟨Nat.le_of_ble_eq_true rfl, Nat.le_of_ble_eq_true rfl⟩
  · exact ⟨Nat.le_of_ble_eq_true rfl, Nat.le_of_ble_eq_true rfl⟩
theorem int_parts (l : List UInt8) : ∃ b q n v is u, baseC l = (b, q) ∧ 0 < b ∧ b ≤ 16 ∧ (digitsC b q).length = n ∧ numC b (digitsC b q) = v ∧ sufC (restC b q) = (is, u) ∧ intR l = intP b n v is u := by
  obtain ⟨h0, h16⟩ := base_le l
  refine ⟨(baseC l).1, (baseC l).2, _, _, (sufC (restC (baseC l).1 (baseC l).2)).1, (sufC (restC (baseC l).1 (baseC l).2)).2, rfl, h0, h16, rfl, rfl, rfl, ?_⟩
  unfold intR intC intP
  simp only
  generalize sufC (restC (baseC l).1 (baseC l).2) = su
  obtain ⟨is, u⟩ := su
  generalize (baseC l).1 = b at *
  generalize digitsC b (baseC l).2 = ds
  generalize numC b ds = v
  simp only [← List.length_eq_zero_iff]
  by_cases h1 : ds.length = 0
  · simp [h1]
  · cases is
    · simp
    · by_cases h2 : 18446744073709551615 < v
      · simp [h1, h2]
      · by_cases h3 : 9223372036854775807 < v
        · by_cases h4 : b = 10
          · cases u <;> simp [h1, h2, h3, h4]
          · cases u <;> simp [h1, h2, h3, h4]
        · simp [h1, h2, h3]
theorem rubi {a b : Nat} {c d : Bool} {x y : Nat} (h : (b, d, y) = (a, c, x)) : Ending.returned (.tuple #[.int .u64 a, .bool c, .int .i64 x]) = .returned (.tuple #[.int .u64 b, .bool d, .int .i64 y]) := by cases h; rfl

set_option maxHeartbeats 4000000 in
theorem Int_any (s : ByteArray) (w : World) (hs : s.size ≤ maxLen) :
    Calls Try.prog 8 #[.string s] w fun e w' => e = .returned (.tuple #[.int .u64 ((intR s.data.toList).1 : Nat), .bool (intR s.data.toList).2.1, .int .i64 ((intR s.data.toList).2.2 : Nat)]) ∧ Below w.heap.size w w' := by
  have CB := fun w => cutBase_any s w hs
  obtain ⟨b, q, n, v, is, u, e1, hb0, hb16, e2, e3, e4, HR⟩ := int_parts s.data.toList
  simp only [e1] at CB
  replace HR := Lib.hid HR
  generalize intR s.data.toList = R at *
  clear e1
  go_enter Try.func8, Try.ntmps8
  go_wp2_with fail
  refine (CB _).mono ?_
  rintro e w' ⟨⟨d, rfl, hd, hds⟩, rfl⟩
  have hdm : d.size ≤ maxLen := Nat.le_trans hds hs
  have CN := fun w => ctNum_any d b 18446744073709551615 w hdm hb0 hb16 (by decide) (Nat.le_refl _)
  have hlen := digits_len b d.data.toList
  rw [size_list] at hlen
  have CS := fun w => suffix_any (d.extract (digitsC b d.data.toList).length d.size) w (by rw [ByteArray.size_extract]; unfold maxLen at *; omega)
  rw [extract_end, ← rest_drop] at CS
  unfold numV at CN
  simp only [hd, e2, e3] at CN
  rw [hd, e2] at hlen
  simp only [hd, e2, e4] at CS
  clear CB hd e2 e3 e4 hds hs
  unfold maxLen at hdm
  by_cases hv : v ≤ 18446744073709551615
  · rw [if_pos hv, decide_eq_true hv] at CN
    by_cases hn : n = 0
    · have HO : Hid (R = (0, false, 40)) := Lib.hid (by rw [HR.out]; unfold intP; rw [if_pos (.inl hn)])
      have i1 : ((n : Int) == 0) = true := by simp [hn]
      clear hn HR
      go_wp2_with (first | (go_at_call 25; refine (CN _).mono ?_; rintro e w1 ⟨rfl, hb1⟩) | (go_at_call 26; refine (CS _).mono ?_; rintro e w2 ⟨rfl, rfl⟩))
      go_ret3
      exact ⟨rubi (by rw [HO.out]), hb1⟩
    · have i1 : ((n : Int) == 0) = false := beq_eq_false_iff_ne.2 (by omega)
      cases is with
      | false =>
        have HO : Hid (R = (0, false, 40)) := Lib.hid (by rw [HR.out]; unfold intP; rw [if_pos (.inr (.inr rfl))])
        clear hn HR
        go_wp2_with (first | (go_at_call 25; refine (CN _).mono ?_; rintro e w1 ⟨rfl, hb1⟩) | (go_at_call 26; refine (CS _).mono ?_; rintro e w2 ⟨rfl, rfl⟩))
        go_ret3
        exact ⟨rubi (by rw [HO.out]), hb1⟩
      | true =>
        have HO : Hid (R = if 9223372036854775807 < v ∧ u = false then (if b = 10 then (0, false, 40) else (v, true, 0)) else (v, u, 0)) := Lib.hid (by rw [HR.out]; unfold intP; rw [if_neg (by simp [hn, hv])])
        clear hn HR
        by_cases hh : 9223372036854775807 < v
        · have i2 : (9223372036854775807 : Int) < (v : Int) := by omega
          cases u with
          | true =>
            have HO2 := Lib.hid (HO.out.trans (if_neg (by simp)))
            clear HO hh
            go_wp2_with (first | (go_at_call 25; refine (CN _).mono ?_; rintro e w1 ⟨rfl, hb1⟩) | (go_at_call 26; refine (CS _).mono ?_; rintro e w2 ⟨rfl, rfl⟩))
            go_ret3
            exact ⟨rubi (by rw [HO2.out]), hb1⟩
          | false =>
            have HO2 := Lib.hid (HO.out.trans (if_pos ⟨hh, rfl⟩))
            clear HO hh
            by_cases hb : b = 10
            · have HO3 := Lib.hid (HO2.out.trans (if_pos hb))
              have i3 : ((b : Int) == 10) = true := by simp [hb]
              clear HO2 hb
              go_wp2_with (first | (go_at_call 25; refine (CN _).mono ?_; rintro e w1 ⟨rfl, hb1⟩) | (go_at_call 26; refine (CS _).mono ?_; rintro e w2 ⟨rfl, rfl⟩))
              go_ret3
              exact ⟨rubi (by rw [HO3.out]), hb1⟩
            · have HO3 := Lib.hid (HO2.out.trans (if_neg hb))
              have i3 : ((b : Int) == 10) = false := beq_eq_false_iff_ne.2 (by omega)
              clear HO2 hb
              go_wp2_with (first | (go_at_call 25; refine (CN _).mono ?_; rintro e w1 ⟨rfl, hb1⟩) | (go_at_call 26; refine (CS _).mono ?_; rintro e w2 ⟨rfl, rfl⟩))
              go_ret3
              exact ⟨rubi (by rw [HO3.out]), hb1⟩
        · have HO2 := Lib.hid (HO.out.trans (if_neg (fun h => hh h.1)))
          have i2 : ¬ (9223372036854775807 : Int) < (v : Int) := by omega
          clear HO hh
          go_wp2_with (first | (go_at_call 25; refine (CN _).mono ?_; rintro e w1 ⟨rfl, hb1⟩) | (go_at_call 26; refine (CS _).mono ?_; rintro e w2 ⟨rfl, rfl⟩))
          go_ret3
          exact ⟨rubi (by rw [HO2.out]), hb1⟩
  · rw [if_neg hv, decide_eq_false hv] at CN
    have HO : Hid (R = (0, false, 40)) := Lib.hid (by rw [HR.out]; unfold intP; rw [if_pos (.inr (.inl (by omega)))])
    clear HR
    go_wp2_with (first | (go_at_call 25; refine (CN _).mono ?_; rintro e w1 ⟨rfl, hb1⟩) | (go_at_call 26; refine (CS _).mono ?_; rintro e w2 ⟨rfl, rfl⟩))
    all_goals
      go_ret3
      exact ⟨rubi (by rw [HO.out]), hb1⟩

end Go.Proofs.Ytenmapahigbbeaa
