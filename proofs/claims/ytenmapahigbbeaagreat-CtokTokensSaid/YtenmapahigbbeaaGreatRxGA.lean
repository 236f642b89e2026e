/- Several texts laid together. -/
import Derived.Test.YtenmapahigbbeaaGreatCtJ
import Derived.Test.YtenmapahigbbeaaGreatCtQ
import Derived.Test.YtenmapahigbbeaaGreatCtN
import Derived.Test.YtenmapahigbbeaaGreatCtF

namespace Go.Proofs.YtenmapahigbbeaaGreat
open Go.RowKit Go.Shelf

set_option maxHeartbeats 1000000 in
theorem rdig_any (c : UInt8) (w : World) : Calls Tryz.prog 39 #[.int .u8 c.toNat] w fun e w' => e = .returned (.int .i64 (worthC c : Nat)) ∧ w = w' := by
  have hc := c.toNat_lt
  go_enter Tryz.func39, Tryz.ntmps39
  go_wp2
  all_goals
    go_ret
    refine ⟨ri ?_, rfl⟩
    rw [worthC_nat]
    repeat' split
    all_goals omega

theorem digits_one {b : Nat} {s : ByteArray} {k : Nat} (hk : k < s.size) (h : worthC s[k] < b) : (digitsC b (s.data.toList.drop k)).length = (digitsC b (s.data.toList.drop (k + 1))).length + 1 := by
  rw [data_drop s k hk]
  unfold digitsC
  rw [List.takeWhile_cons, decide_eq_true h]
  rfl
theorem digits_none {b : Nat} {s : ByteArray} {k : Nat} (hk : k < s.size) (h : ¬ worthC s[k] < b) : (digitsC b (s.data.toList.drop k)).length = 0 := by
  rw [data_drop s k hk]
  unfold digitsC
  rw [List.takeWhile_cons, decide_eq_false h]
  rfl
theorem digits_end {b : Nat} {s : ByteArray} {k : Nat} (hk : s.size ≤ k) : (digitsC b (s.data.toList.drop k)).length = 0 := by
  rw [List.drop_eq_nil_of_le (by rw [size_list]; exact hk)]; rfl

set_option maxHeartbeats 2000000 in
theorem run_any (s : ByteArray) (at' b : Nat) (w : World) (hs : s.size ≤ maxLen) (ha : at' ≤ s.size) (hb : b ≤ 16) :
    Calls Tryz.prog 24 #[.string s, .int .i64 at', .int .i64 b] w fun e w' => e = .returned (.int .i64 ((digitsC b (s.data.toList.drop at')).length : Nat)) ∧ w = w' := by
  unfold maxLen at hs
  go_enter Tryz.func24, Tryz.ntmps24
  go_wp2
  go_loop [7] (fun n => ∃ k : Nat, at' + k ≤ s.size ∧ n = .int .i64 k ∧ Hid ((digitsC b (s.data.toList.drop at')).length = k + (digitsC b (s.data.toList.drop (at' + k))).length)) (fun n => s.size - (intOf n).toNat)
  case atStart => exact ⟨0, ha, rfl, Lib.hid (by simp)⟩
  case round =>
    obtain ⟨k, hk, rfl, HE⟩ := hrel
    by_cases hlt : at' + k < s.size
    · have C := fun w => rdig_any s[at' + k] w
      have i1 : (at' : Int) + (k : Int) < (s.size : Int) := by omega
      have i2 : (0 : Int) ≤ (at' : Int) + (k : Int) := by omega
      have i3 : ((at' : Int) + (k : Int)).toNat = at' + k := by omega
      by_cases hd : worthC s[at' + k] < b
      · have HN : Hid ((digitsC b (s.data.toList.drop at')).length = k + 1 + (digitsC b (s.data.toList.drop (at' + (k + 1)))).length) := Lib.hid (by
          rw [HE.out, digits_one hlt hd, show at' + k + 1 = at' + (k + 1) by omega]; omega)
        have i4 : ((worthC s[at' + k] : Nat) : Int) < (b : Int) := by omega
        clear HE
        go_wp2_with (go_at_call 39; refine (C _).mono ?_; rintro e w' ⟨rfl, rfl⟩)
        go_round
        case rel => exact ⟨k + 1, by omega, by go_num, HN⟩
        case measure => simp [intOf]; omega
      · have HN : Hid ((digitsC b (s.data.toList.drop at')).length = k) := Lib.hid (by rw [HE.out, digits_none hlt hd]; omega)
        have i4 : ¬ ((worthC s[at' + k] : Nat) : Int) < (b : Int) := by omega
        clear HE
        go_wp2_with (go_at_call 39; refine (C _).mono ?_; rintro e w' ⟨rfl, rfl⟩)
        go_ret
        exact ⟨ri (by rw [HN.out]), rfl⟩
    · have HN : Hid ((digitsC b (s.data.toList.drop at')).length = k) := Lib.hid (by rw [HE.out, digits_end (by omega)]; omega)
      have i1 : ¬ (at' : Int) + (k : Int) < (s.size : Int) := by omega
      clear HE
      go_wp2
      go_ret
      exact ⟨ri (by rw [HN.out]), rfl⟩

/-! ### The sign of a base -/
theorem hexB_short {s : ByteArray} (h : ¬ 1 < s.size) : hexB s.data.toList = false := by
  cases hx : hexB s.data.toList with
  | false => rfl
  | true =>
    have := (base_hex hx).2
    rw [size_list] at this; omega
theorem hexB_two {s : ByteArray} (h : 1 < s.size) : hexB s.data.toList = (((s[0].toNat : Int) == 48) && (((s[1].toNat : Int) == 120) || ((s[1].toNat : Int) == 88))) := by
  have h0 := data_drop s 0 (by omega)
  have h1 := data_drop s 1 h
  rw [List.drop_zero] at h0
  rw [h0, h1]
  have e : ∀ (a b : UInt8), (a == b) = ((b.toNat : Int) == (a.toNat : Int)) := fun a b => by
    rw [Bool.eq_iff_iff, beq_iff_eq, beq_iff_eq, ← UInt8.toNat_inj]; omega
  unfold hexB
  simp only [List.isPrefixOf, Bool.and_true]
  rw [e 48, e 120, e 88]
  show ((s[0].toNat : Int) == 48 && (s[1].toNat : Int) == 120 || (s[0].toNat : Int) == 48 && (s[1].toNat : Int) == 88) = _
  cases ((s[0].toNat : Int) == 48) <;> simp

set_option maxHeartbeats 1000000 in
theorem hex_any (s : ByteArray) (w : World) (hs : s.size ≤ maxLen) : Calls Tryz.prog 23 #[.string s] w fun e w' => e = .returned (.bool (hexB s.data.toList)) ∧ w = w' := by
  unfold maxLen at hs
  by_cases h : 1 < s.size
  · have HB := Lib.hid (hexB_two h)
    generalize hexB s.data.toList = B at *
    have i1 : (1 : Int) < (s.size : Int) := by omega
    have i2 : (0 : Int) < (s.size : Int) := by omega
    cases h0 : ((s[0].toNat : Int) == 48) <;> cases h1 : ((s[1].toNat : Int) == 120) <;> cases h2 : ((s[1].toNat : Int) == 88)
    all_goals
      have HO := Lib.hid (HB.out.trans (by rw [h0, h1, h2]))
      clear HB
      go_enter Tryz.func23, Tryz.ntmps23
      go_wp2
      go_ret
      exact ⟨rb (by rw [HO.out]; rfl), rfl⟩
  · have HB := Lib.hid (hexB_short h)
    have i1 : ¬ (1 : Int) < (s.size : Int) := by omega
    go_enter Tryz.func23, Tryz.ntmps23
    go_wp2
    go_ret
    exact ⟨rb (by rw [HB.out]), rfl⟩

/-! ### Suffixes -/
theorem suf_nil {s : ByteArray} (h : s.size = 0) : sufC s.data.toList = (true, false) := by
  rw [List.length_eq_zero_iff.1 ((size_list s).trans h)]; decide
theorem uC_int (c : UInt8) : uC c = (((c.toNat : Int) == 117) || ((c.toNat : Int) == 85)) := by
  have e : ∀ (a b : UInt8), (b == a) = ((b.toNat : Int) == (a.toNat : Int)) := fun a b => by
    rw [Bool.eq_iff_iff, beq_iff_eq, beq_iff_eq, ← UInt8.toNat_inj]; omega
  unfold uC
  rw [e 117, e 85]; rfl
theorem last_at {s : ByteArray} (h : 0 < s.size) : s.data.toList.getLast? = some (s[s.size - 1]'(by omega)) := by
  rw [List.getLast?_eq_getElem?, size_list, data_get s (s.size - 1) (by omega)]
theorem head_of {s : ByteArray} (h : 0 < s.size) : s.data.toList.head? = some s[0] := by
  have := data_drop s 0 h
  rw [List.drop_zero] at this
  rw [this]; rfl
theorem suf_cases {s : ByteArray} (h : 0 < s.size) : sufC s.data.toList = if uC s[0] = true then (lC (s.extract 1 s.size).data.toList, true) else if uC (s[s.size - 1]'(by omega)) = true then (lC (s.extract 0 (s.size - 1)).data.toList, true) else (lC s.data.toList, false) := by
  unfold sufC
  rw [head_of h, last_at h]
  simp only [Option.map_some, Option.getD_some]
  rw [extract_end, List.drop_one, extract_list, List.drop_zero, List.dropLast_eq_take, size_list]
theorem lC_text (d : ByteArray) : lC d.data.toList = (d.toList.isEmpty || ((d.toList == [108]) || ((d.toList == [76]) || ((d.toList == [108, 108]) || (d.toList == [76, 76]))))) := by
  rw [lC_tests]
  simp only [Bool.or_assoc]

set_option maxRecDepth 100000 in
set_option maxHeartbeats 4000000 in
theorem rsuffix_any (s : ByteArray) (w : World) (hs : s.size ≤ maxLen) : Calls Tryz.prog 45 #[.string s] w fun e w' => e = .returned (.tuple #[.bool (sufC s.data.toList).1, .bool (sufC s.data.toList).2]) ∧ w = w' := by
  unfold maxLen at hs
  by_cases h : 0 < s.size
  · have hc := suf_cases h
    rw [uC_int, uC_int, lC_text, lC_text, lC_text] at hc
    have HB := Lib.hid hc
    clear hc
    generalize sufC s.data.toList = B at *
    have i1 : (0 : Int) < (s.size : Int) := by omega
    have v1 : wrap64 ((s.size : Int) - 1) = (s.size : Int) - 1 := IntWalk.wrap64_in _ (by omega)
    have v2 : ((s.size : Int) - 1).toNat = s.size - 1 := by omega
    have i2 : (0 : Int) ≤ (s.size : Int) - 1 := by omega
    have i3 : (s.size : Int) - 1 < (s.size : Int) := by omega
    have i4 : (s.size : Int) - 1 ≤ (s.size : Int) := by omega
    have i5 : (1 : Int) ≤ (s.size : Int) := by omega
    have close : ∀ (r : ByteArray) (b : Bool) (hO : Hid (B = (r.toList.isEmpty || ((r.toList == [108]) || ((r.toList == [76]) || ((r.toList == [108, 108]) || (r.toList == [76, 76])))), b))), Hid (B.2 = b) ∧ Hid (B.1 = (r.toList.isEmpty || (r.toList == [108]) || (r.toList == [76]) || (r.toList == [108, 108]) || (r.toList == [76, 76]))) := fun r b hO =>
      ⟨Lib.hid (by rw [hO.out]), Lib.hid (by rw [hO.out]; simp only [Bool.or_assoc])⟩
    cases h0 : ((s[0].toNat : Int) == 117)
    · cases h1 : ((s[0].toNat : Int) == 85)
      · have HB2 := Lib.hid (HB.out.trans (if_neg (by rw [h0, h1]; decide)))
        clear HB
        cases h2 : (((s[s.size - 1]'(by omega)).toNat : Int) == 117)
        · cases h3 : (((s[s.size - 1]'(by omega)).toNat : Int) == 85)
          · have HO := Lib.hid (HB2.out.trans (if_neg (by rw [h2, h3]; decide)))
            clear HB2
            obtain ⟨H2, H1⟩ := close s false HO
            clear HO close
            go_enter Tryz.func45, Tryz.ntmps45
            go_wp2
            all_goals first
              | exact two_sides (show s.toList.isEmpty = true by assumption) (by assumption)
              | exact two_sides (show (s.toList == [108]) = true by assumption) (by assumption)
              | exact two_sides (show (s.toList == [76]) = true by assumption) (by assumption)
              | exact two_sides (show (s.toList == [108, 108]) = true by assumption) (by assumption)
              | exact two_sides (show (s.toList == [76, 76]) = true by assumption) (by assumption)
              | (go_ret2; exact ⟨rbb H1.out.symm H2.out.symm, rfl⟩)
              | (go_ret2; exact ⟨rbb (by rw [H1.out]; simp [*]) H2.out.symm, rfl⟩)
          · have HO := Lib.hid (HB2.out.trans (if_pos (by rw [h3, Bool.or_true])))
            clear HB2
            obtain ⟨r, hr⟩ : ∃ r, s.extract 0 (s.size - 1) = r := ⟨_, rfl⟩
            rw [hr] at HO
            obtain ⟨H2, H1⟩ := close r true HO
            clear HO close
            go_enter Tryz.func45, Tryz.ntmps45
            go_wp2
            all_goals first
              | exact two_sides (show r.toList.isEmpty = true by assumption) (by assumption)
              | exact two_sides (show (r.toList == [108]) = true by assumption) (by assumption)
              | exact two_sides (show (r.toList == [76]) = true by assumption) (by assumption)
              | exact two_sides (show (r.toList == [108, 108]) = true by assumption) (by assumption)
              | exact two_sides (show (r.toList == [76, 76]) = true by assumption) (by assumption)
              | (go_ret2; exact ⟨rbb H1.out.symm H2.out.symm, rfl⟩)
              | (go_ret2; exact ⟨rbb (by rw [H1.out]; simp [*]) H2.out.symm, rfl⟩)
        · have HO := Lib.hid (HB2.out.trans (if_pos (by rw [h2, Bool.true_or])))
          clear HB2
          obtain ⟨r, hr⟩ : ∃ r, s.extract 0 (s.size - 1) = r := ⟨_, rfl⟩
          rw [hr] at HO
          obtain ⟨H2, H1⟩ := close r true HO
          clear HO close
          go_enter Tryz.func45, Tryz.ntmps45
          go_wp2
          all_goals first
            | exact two_sides (show r.toList.isEmpty = true by assumption) (by assumption)
            | exact two_sides (show (r.toList == [108]) = true by assumption) (by assumption)
            | exact two_sides (show (r.toList == [76]) = true by assumption) (by assumption)
            | exact two_sides (show (r.toList == [108, 108]) = true by assumption) (by assumption)
            | exact two_sides (show (r.toList == [76, 76]) = true by assumption) (by assumption)
            | (go_ret2; exact ⟨rbb H1.out.symm H2.out.symm, rfl⟩)
            | (go_ret2; exact ⟨rbb (by rw [H1.out]; simp [*]) H2.out.symm, rfl⟩)
      · have HO := Lib.hid (HB.out.trans (if_pos (by rw [h1, Bool.or_true])))
        clear HB
        obtain ⟨r, hr⟩ : ∃ r, s.extract 1 s.size = r := ⟨_, rfl⟩
        rw [hr] at HO
        obtain ⟨H2, H1⟩ := close r true HO
        clear HO close
        go_enter Tryz.func45, Tryz.ntmps45
        go_wp2
        all_goals first
          | exact two_sides (show r.toList.isEmpty = true by assumption) (by assumption)
          | exact two_sides (show (r.toList == [108]) = true by assumption) (by assumption)
          | exact two_sides (show (r.toList == [76]) = true by assumption) (by assumption)
          | exact two_sides (show (r.toList == [108, 108]) = true by assumption) (by assumption)
          | exact two_sides (show (r.toList == [76, 76]) = true by assumption) (by assumption)
          | (go_ret2; exact ⟨rbb H1.out.symm H2.out.symm, rfl⟩)
          | (go_ret2; exact ⟨rbb (by rw [H1.out]; simp [*]) H2.out.symm, rfl⟩)
    · have HO := Lib.hid (HB.out.trans (if_pos (by rw [h0]; rfl)))
      clear HB
      obtain ⟨r, hr⟩ : ∃ r, s.extract 1 s.size = r := ⟨_, rfl⟩
      rw [hr] at HO
      obtain ⟨H2, H1⟩ := close r true HO
      clear HO close
      go_enter Tryz.func45, Tryz.ntmps45
      go_wp2
      all_goals first
        | exact two_sides (show r.toList.isEmpty = true by assumption) (by assumption)
        | exact two_sides (show (r.toList == [108]) = true by assumption) (by assumption)
        | exact two_sides (show (r.toList == [76]) = true by assumption) (by assumption)
        | exact two_sides (show (r.toList == [108, 108]) = true by assumption) (by assumption)
        | exact two_sides (show (r.toList == [76, 76]) = true by assumption) (by assumption)
        | (go_ret2; exact ⟨rbb H1.out.symm H2.out.symm, rfl⟩)
        | (go_ret2; exact ⟨rbb (by rw [H1.out]; simp [*]) H2.out.symm, rfl⟩)
  · have hz : s.size = 0 := by omega
    have hse : s = ⟨#[]⟩ := by
      apply ByteArray.ext
      apply Array.toList_inj.1
      exact List.length_eq_zero_iff.1 ((size_list s).trans hz)
    subst hse
    have e1 : sufC (⟨#[]⟩ : ByteArray).data.toList = (true, false) := by decide
    rw [e1]
    clear e1
    go_enter Tryz.func45, Tryz.ntmps45
    go_wp2
    go_ret2
    exact ⟨rfl, rfl⟩

end Go.Proofs.YtenmapahigbbeaaGreat

namespace Go.Proofs.YtenmapahigbbeaaGreat
open Go.RowKit Go.Shelf

theorem num_ge (b : Nat) (hb : 0 < b) : ∀ (l : List UInt8) (v : Nat), v ≤ l.foldl (fun v c => v * b + worthC c) v
  | [], v => Nat.le_refl v
  | c :: l, v => by
    rw [List.foldl_cons]
    have h := Nat.le_mul_of_pos_right v hb
    exact Nat.le_trans (by omega) (num_ge b hb l _)
theorem num_take {b : Nat} (hb : 0 < b) (l : List UInt8) (k : Nat) : numC b (l.take k) ≤ numC b l := by
  conv => rhs; rw [← List.take_append_drop k l]
  unfold numC
  rw [List.foldl_append]
  exact num_ge b hb _ _
theorem rnum_step {b at' k : Nat} {s : ByteArray} (hk : k < (digitsC b (s.data.toList.drop at')).length) : ∃ h : at' + k < s.size, worthC s[at' + k] < b ∧ numC b ((digitsC b (s.data.toList.drop at')).take (k + 1)) = numC b ((digitsC b (s.data.toList.drop at')).take k) * b + worthC s[at' + k] := by
  obtain ⟨h1, h2⟩ := split_digits b (s.data.toList.drop at')
  have h3 : (s.data.toList.drop at')[k]? = some (digitsC b (s.data.toList.drop at'))[k] := by
    conv => lhs; rw [h2]
    rw [List.getElem?_append_left hk, List.getElem?_eq_getElem hk]
  rw [List.getElem?_drop] at h3
  have h4 : at' + k < s.size := by
    rw [← size_list]
    exact (List.getElem?_eq_some_iff.1 h3).1
  rw [data_get s _ h4] at h3
  have h5 : s[at' + k] = (digitsC b (s.data.toList.drop at'))[k] := Option.some.inj h3
  refine ⟨h4, ?_, ?_⟩
  · rw [h5]; exact h1 _ (List.getElem_mem hk)
  · rw [h5, List.take_succ_eq_append_getElem hk, numC_snoc]

theorem lead_eight {s : ByteArray} (h : hexB s.data.toList = false) (h0 : 0 < s.size) (h1 : ((s[0].toNat : Int) == 48) = true) : baseC s.data.toList = (8, s.data.toList) := by
  refine base_eight h ?_
  have := data_drop s 0 h0
  rw [List.drop_zero] at this
  rw [this]
  have e : s[0] = 48 := by
    apply UInt8.toNat_inj.1
    have := eq_of_beq h1
    show s[0].toNat = 48
    omega
  rw [e]; rfl
theorem lead_ten {s : ByteArray} (h1 : ∀ h : 0 < s.size, ((s[0].toNat : Int) == 48) = false) : baseC s.data.toList = (10, s.data.toList) := by
  refine base_else ?_
  by_cases h0 : 0 < s.size
  · have := data_drop s 0 h0
    rw [List.drop_zero] at this
    rw [this]
    have e : s[0] ≠ 48 := fun e => by
      have := h1 h0
      rw [e] at this; exact absurd this (by decide)
    simp only [List.isPrefixOf, Bool.and_true]
    exact beq_eq_false_iff_ne.2 (fun h => e h.symm)
  · rw [List.length_eq_zero_iff.1 (show s.data.toList.length = 0 by rw [size_list]; omega)]; rfl

theorem rint_facts (s : ByteArray) (b at' : Nat) (hb : 0 < b) (hbase : baseC s.data.toList = (b, s.data.toList.drop at')) (ha : at' ≤ s.size) : ∃ (gd : Nat → Nat) (n v : Nat) (is u : Bool), (digitsC b (s.data.toList.drop at')).length = n ∧ at' + n ≤ s.size ∧ sufC (s.extract (at' + n) s.size).data.toList = (is, u) ∧ Hid (intR s.data.toList = intP b n v is u) ∧
    Hid (∀ k, k < n → ∃ h : at' + k < s.size, worthC s[at' + k] < b ∧ gd (k + 1) = gd k * b + worthC s[at' + k]) ∧ Hid (∀ k, gd k ≤ v) ∧ gd n = v ∧ gd 0 = 0 := by
  obtain ⟨b', q, n, v, is, u, e1, hb0, hb16, e2, e3, e4, HR⟩ := int_parts s.data.toList
  obtain ⟨rfl, rfl⟩ := Prod.mk.inj (hbase.symm.trans e1)
  have hlen := digits_len b (s.data.toList.drop at')
  rw [List.length_drop, size_list, e2] at hlen
  refine ⟨fun k => numC b ((digitsC b (s.data.toList.drop at')).take k), n, v, is, u, e2, by omega, ?_, Lib.hid HR, Lib.hid ?_, Lib.hid ?_, ?_, rfl⟩
  · rw [extract_end, ← e4, rest_drop, List.drop_drop, e2]
  · intro k hk
    exact rnum_step (by rw [e2]; exact hk)
  · intro k
    show numC b ((digitsC b (s.data.toList.drop at')).take k) ≤ v
    rw [← e3]
    exact num_take hb _ _
  · show numC b ((digitsC b (s.data.toList.drop at')).take n) = v
    rw [← e2, List.take_length]; exact e3
theorem bool_of_int {a b : Bool} (h : (a = true) ↔ (b = true)) : a = b := Bool.eq_iff_iff.2 h

set_option maxRecDepth 100000 in
set_option maxHeartbeats 2000000 in
theorem rInt_hex (s : ByteArray) (w : World) (hs : s.size ≤ maxLen) (hx : hexB s.data.toList = true) : Calls Tryz.prog 32 #[.string s] w fun e w' => e = .returned (.tuple #[.int .u64 ((intR s.data.toList).1 : Nat), .bool (intR s.data.toList).2.1, .int .i64 ((intR s.data.toList).2.2 : Nat)]) ∧ w = w' := by
  have CH := fun w => hex_any s w hs
  have hbase := (base_hex hx).1
  have hsz := (base_hex hx).2
  rw [size_list] at hsz
  rw [hx] at CH
  clear hx
  obtain ⟨gd, n, v, is, u, e2, hlen, e4, HR, HN, HT, HZ, H0⟩ := rint_facts s 16 2 (by decide) hbase (by omega)
  generalize intR s.data.toList = R at *
  have CR := fun w => run_any s 2 16 w hs (by omega) (by decide)
  rw [e2] at CR
  have em : (min (s.size : Int) ((2 : Int) + (n : Int))).toNat = 2 + n := by omega
  have CS := fun w => rsuffix_any (s.extract (min (s.size : Int) ((2 : Int) + (n : Int))).toNat s.size) w (by rw [ByteArray.size_extract]; unfold maxLen at *; omega)
  rw [show sufC (s.extract (min (s.size : Int) ((2 : Int) + (n : Int))).toNat s.size).data.toList = (is, u) by rw [em]; exact e4] at CS
  skip
  clear em
  clear hbase e2 e4
  unfold maxLen at hs
  by_cases hn : n = 0
  · have HO : Hid (R = (0, false, 40)) := Lib.hid (by rw [HR.out]; unfold intP; rw [if_pos (.inl hn)])
    have i1 : ((n : Int) == 0) = true := by simp [hn]
    clear hn HR
    go_enter Tryz.func32, Tryz.ntmps32
    go_wp2_with (first | (go_at_call 23; refine (CH _).mono ?_; rintro e w' ⟨rfl, rfl⟩) | (go_at_call 24; refine (CR _).mono ?_; rintro e w' ⟨rfl, rfl⟩) | (go_at_call 45; refine (CS _).mono ?_; rintro e w' ⟨rfl, rfl⟩))
    go_ret3
    exact ⟨rubi (by rw [HO.out]), rfl⟩
  · have i1 : ((n : Int) == 0) = false := beq_eq_false_iff_ne.2 (by omega)
    cases is with
    | false =>
      have HO : Hid (R = (0, false, 40)) := Lib.hid (by rw [HR.out]; unfold intP; rw [if_pos (.inr (.inr rfl))])
      clear HR
      go_enter Tryz.func32, Tryz.ntmps32
      go_wp2_with (first | (go_at_call 23; refine (CH _).mono ?_; rintro e w' ⟨rfl, rfl⟩) | (go_at_call 24; refine (CR _).mono ?_; rintro e w' ⟨rfl, rfl⟩) | (go_at_call 45; refine (CS _).mono ?_; rintro e w' ⟨rfl, rfl⟩))
      go_ret3
      exact ⟨rubi (by rw [HO.out]), rfl⟩
    | true =>
      go_enter Tryz.func32, Tryz.ntmps32
      go_wp2_with (first | (go_at_call 23; refine (CH _).mono ?_; rintro e w' ⟨rfl, rfl⟩) | (go_at_call 24; refine (CR _).mono ?_; rintro e w' ⟨rfl, rfl⟩) | (go_at_call 45; refine (CS _).mono ?_; rintro e w' ⟨rfl, rfl⟩))
      go_loop [10, 11, 12] (fun v i _ => ∃ k : Nat, k ≤ n ∧ v = .int .u64 (gd k) ∧ i = .int .i64 ((2 : Int) + (k : Int)) ∧ gd k ≤ 18446744073709551615) (fun _ i _ => 2 + n - (intOf i).toNat)
      case atStart => exact ⟨0, Nat.zero_le _, by rw [H0]; rfl, rfl, by rw [H0]; decide⟩
      case round =>
        obtain ⟨k, hk, rfl, rfl, hle⟩ := hrel
        by_cases hlt : k < n
        · obtain ⟨h1, h2, h3⟩ := HN.out k hlt
          have C := fun w => rdig_any s[2 + k] w
          obtain ⟨x, hx⟩ : ∃ x, worthC s[2 + k] = x := ⟨_, rfl⟩
          simp only [hx] at C h2 h3
          clear hx
          have i2 : (2 : Int) + (k : Int) < (2 : Int) + (n : Int) := by omega
          have i3 : (2 : Int) + (k : Int) < (s.size : Int) := by omega
          have i4 : (0 : Int) ≤ (2 : Int) + (k : Int) := by omega
          have i5 : ((2 : Int) + (k : Int)).toNat = 2 + k := by omega
          have i6 : (0 : Int) ≤ (x : Nat) := by omega
          have i8 : ((x : Nat) : Int) < 16 := by omega
          clear HZ
          by_cases hv : gd k ≤ (18446744073709551615 - x) / 16
          · have j1 : ((gd k : Nat) : Int) ≤ (18446744073709551615 - ((x : Nat) : Int)) / 16 := by omega
            have HJ := Lib.hid h3
            have j3 : gd k * 16 + x ≤ 18446744073709551615 := by omega
            have j4 : gd (k + 1) ≤ 18446744073709551615 := by omega
            clear HT HR h3
            go_wp2_with (go_at_call 39; refine (C _).mono ?_; rintro e w' ⟨rfl, rfl⟩)
            go_round
            case rel => exact ⟨k + 1, hlt, by rw [HJ.out]; simp, by go_num, j4⟩
            case measure => simp [intOf]; omega
          · have j1 : ¬ ((gd k : Nat) : Int) ≤ (18446744073709551615 - ((x : Nat) : Int)) / 16 := by omega
            have h4 := HT.out (k + 1)
            have HO : Hid (R = (0, false, 40)) := Lib.hid (by rw [HR.out]; unfold intP; rw [if_pos (.inr (.inl (by omega)))])
            clear HT HR h4 h3
            go_wp2_with (go_at_call 39; refine (C _).mono ?_; rintro e w' ⟨rfl, rfl⟩)
            go_ret3
            exact ⟨rubi (by rw [HO.out]), rfl⟩
        · obtain rfl : k = n := by omega
          have i2 : ¬ (2 : Int) + (k : Int) < (2 : Int) + (k : Int) := by omega
          rw [HZ] at hle ⊢
          have HO : Hid (R = if 9223372036854775807 < v ∧ u = false then (if 16 = 10 then (0, false, 40) else (v, true, 0)) else (v, u, 0)) := Lib.hid (by rw [HR.out]; unfold intP; rw [if_neg (by simp [hn]; omega)])
          clear HR HT HN HZ
          by_cases hh : 9223372036854775807 < v
          · have i7 : (9223372036854775807 : Int) < (v : Int) := by omega
            cases u with
            | true =>
              have HO2 := Lib.hid (HO.out.trans (if_neg (by simp)))
              clear HO hh
              go_wp2
              go_ret3
              exact ⟨rubi (by rw [HO2.out]), rfl⟩
            | false =>
              have HO2 := Lib.hid ((HO.out.trans (if_pos ⟨hh, rfl⟩)).trans (if_neg (by decide)))
              clear HO hh
              go_wp2
              go_ret3
              exact ⟨rubi (by rw [HO2.out]), rfl⟩
          · have HO2 := Lib.hid (HO.out.trans (if_neg (fun h => hh h.1)))
            have i7 : ¬ (9223372036854775807 : Int) < (v : Int) := by omega
            clear HO hh
            cases u
            all_goals
              go_wp2
              go_ret3
              exact ⟨rubi (by rw [HO2.out]), rfl⟩

set_option maxRecDepth 100000 in
set_option maxHeartbeats 2000000 in
theorem rInt_eight (s : ByteArray) (w : World) (hs : s.size ≤ maxLen) (hx : hexB s.data.toList = false) (h0 : 0 < s.size) (h1 : ((s[0].toNat : Int) == 48) = true) : Calls Tryz.prog 32 #[.string s] w fun e w' => e = .returned (.tuple #[.int .u64 ((intR s.data.toList).1 : Nat), .bool (intR s.data.toList).2.1, .int .i64 ((intR s.data.toList).2.2 : Nat)]) ∧ w = w' := by
  have CH := fun w => hex_any s w hs
  have hbase := lead_eight hx h0 h1
  have h0i : (0 : Int) < (s.size : Int) := by omega
  rw [hx] at CH
  clear hx
  obtain ⟨gd, n, v, is, u, e2, hlen, e4, HR, HN, HT, HZ, H0⟩ := rint_facts s 8 0 (by decide) hbase (by omega)
  generalize intR s.data.toList = R at *
  have CR := fun w => run_any s 0 8 w hs (by omega) (by decide)
  rw [e2] at CR
  have em : (min (s.size : Int) ((n : Int))).toNat = 0 + n := by omega
  have CS := fun w => rsuffix_any (s.extract (min (s.size : Int) ((n : Int))).toNat s.size) w (by rw [ByteArray.size_extract]; unfold maxLen at *; omega)
  rw [show sufC (s.extract (min (s.size : Int) ((n : Int))).toNat s.size).data.toList = (is, u) by rw [em]; exact e4] at CS
  simp only [Nat.zero_add] at HN hlen
  clear em
  clear hbase e2 e4
  unfold maxLen at hs
  by_cases hn : n = 0
  · have HO : Hid (R = (0, false, 40)) := Lib.hid (by rw [HR.out]; unfold intP; rw [if_pos (.inl hn)])
    have i1 : ((n : Int) == 0) = true := by simp [hn]
    clear hn HR
    go_enter Tryz.func32, Tryz.ntmps32
    go_wp2_with (first | (go_at_call 23; refine (CH _).mono ?_; rintro e w' ⟨rfl, rfl⟩) | (go_at_call 24; refine (CR _).mono ?_; rintro e w' ⟨rfl, rfl⟩) | (go_at_call 45; refine (CS _).mono ?_; rintro e w' ⟨rfl, rfl⟩))
    go_ret3
    exact ⟨rubi (by rw [HO.out]), rfl⟩
  · have i1 : ((n : Int) == 0) = false := beq_eq_false_iff_ne.2 (by omega)
    cases is with
    | false =>
      have HO : Hid (R = (0, false, 40)) := Lib.hid (by rw [HR.out]; unfold intP; rw [if_pos (.inr (.inr rfl))])
      clear HR
      go_enter Tryz.func32, Tryz.ntmps32
      go_wp2_with (first | (go_at_call 23; refine (CH _).mono ?_; rintro e w' ⟨rfl, rfl⟩) | (go_at_call 24; refine (CR _).mono ?_; rintro e w' ⟨rfl, rfl⟩) | (go_at_call 45; refine (CS _).mono ?_; rintro e w' ⟨rfl, rfl⟩))
      go_ret3
      exact ⟨rubi (by rw [HO.out]), rfl⟩
    | true =>
      go_enter Tryz.func32, Tryz.ntmps32
      go_wp2_with (first | (go_at_call 23; refine (CH _).mono ?_; rintro e w' ⟨rfl, rfl⟩) | (go_at_call 24; refine (CR _).mono ?_; rintro e w' ⟨rfl, rfl⟩) | (go_at_call 45; refine (CS _).mono ?_; rintro e w' ⟨rfl, rfl⟩))
      go_loop [10, 11, 12] (fun v i _ => ∃ k : Nat, k ≤ n ∧ v = .int .u64 (gd k) ∧ i = .int .i64 k ∧ gd k ≤ 18446744073709551615) (fun _ i _ => n - (intOf i).toNat)
      case atStart => exact ⟨0, Nat.zero_le _, by rw [H0]; rfl, rfl, by rw [H0]; decide⟩
      case round =>
        obtain ⟨k, hk, rfl, rfl, hle⟩ := hrel
        by_cases hlt : k < n
        · obtain ⟨h1, h2, h3⟩ := HN.out k hlt
          have C := fun w => rdig_any s[k] w
          obtain ⟨x, hx⟩ : ∃ x, worthC s[k] = x := ⟨_, rfl⟩
          simp only [hx] at C h2 h3
          clear hx
          have i2 : (k : Int) < (n : Int) := by omega
          have i3 : (k : Int) < (s.size : Int) := by omega
          have i4 : (0 : Int) ≤ (k : Int) := by omega
          have i5 : ((k : Int)).toNat = k := by omega
          have i6 : (0 : Int) ≤ (x : Nat) := by omega
          have i8 : ((x : Nat) : Int) < 8 := by omega
          clear HZ
          by_cases hv : gd k ≤ (18446744073709551615 - x) / 8
          · have j1 : ((gd k : Nat) : Int) ≤ (18446744073709551615 - ((x : Nat) : Int)) / 8 := by omega
            have HJ := Lib.hid h3
            have j3 : gd k * 8 + x ≤ 18446744073709551615 := by omega
            have j4 : gd (k + 1) ≤ 18446744073709551615 := by omega
            clear HT HR h3
            go_wp2_with (go_at_call 39; refine (C _).mono ?_; rintro e w' ⟨rfl, rfl⟩)
            go_round
            case rel => exact ⟨k + 1, hlt, by rw [HJ.out]; simp, by go_num, j4⟩
            case measure => simp [intOf]; omega
          · have j1 : ¬ ((gd k : Nat) : Int) ≤ (18446744073709551615 - ((x : Nat) : Int)) / 8 := by omega
            have h4 := HT.out (k + 1)
            have HO : Hid (R = (0, false, 40)) := Lib.hid (by rw [HR.out]; unfold intP; rw [if_pos (.inr (.inl (by omega)))])
            clear HT HR h4 h3
            go_wp2_with (go_at_call 39; refine (C _).mono ?_; rintro e w' ⟨rfl, rfl⟩)
            go_ret3
            exact ⟨rubi (by rw [HO.out]), rfl⟩
        · obtain rfl : k = n := by omega
          have i2 : ¬ (k : Int) < (k : Int) := by omega
          rw [HZ] at hle ⊢
          have HO : Hid (R = if 9223372036854775807 < v ∧ u = false then (if 8 = 10 then (0, false, 40) else (v, true, 0)) else (v, u, 0)) := Lib.hid (by rw [HR.out]; unfold intP; rw [if_neg (by simp [hn]; omega)])
          clear HR HT HN HZ
          by_cases hh : 9223372036854775807 < v
          · have i7 : (9223372036854775807 : Int) < (v : Int) := by omega
            cases u with
            | true =>
              have HO2 := Lib.hid (HO.out.trans (if_neg (by simp)))
              clear HO hh
              go_wp2
              go_ret3
              exact ⟨rubi (by rw [HO2.out]), rfl⟩
            | false =>
              have HO2 := Lib.hid ((HO.out.trans (if_pos ⟨hh, rfl⟩)).trans (if_neg (by decide)))
              clear HO hh
              go_wp2
              go_ret3
              exact ⟨rubi (by rw [HO2.out]), rfl⟩
          · have HO2 := Lib.hid (HO.out.trans (if_neg (fun h => hh h.1)))
            have i7 : ¬ (9223372036854775807 : Int) < (v : Int) := by omega
            clear HO hh
            cases u
            all_goals
              go_wp2
              go_ret3
              exact ⟨rubi (by rw [HO2.out]), rfl⟩

set_option maxRecDepth 100000 in
set_option maxHeartbeats 2000000 in
theorem rInt_ten (s : ByteArray) (w : World) (hs : s.size ≤ maxLen) (hx : hexB s.data.toList = false) (h0 : 0 < s.size) (h1 : ((s[0].toNat : Int) == 48) = false) : Calls Tryz.prog 32 #[.string s] w fun e w' => e = .returned (.tuple #[.int .u64 ((intR s.data.toList).1 : Nat), .bool (intR s.data.toList).2.1, .int .i64 ((intR s.data.toList).2.2 : Nat)]) ∧ w = w' := by
  have CH := fun w => hex_any s w hs
  have hbase := lead_ten (s := s) (fun _ => h1)
  have h0i : (0 : Int) < (s.size : Int) := by omega
  rw [hx] at CH
  clear hx
  obtain ⟨gd, n, v, is, u, e2, hlen, e4, HR, HN, HT, HZ, H0⟩ := rint_facts s 10 0 (by decide) hbase (by omega)
  generalize intR s.data.toList = R at *
  have CR := fun w => run_any s 0 10 w hs (by omega) (by decide)
  rw [e2] at CR
  have em : (min (s.size : Int) ((n : Int))).toNat = 0 + n := by omega
  have CS := fun w => rsuffix_any (s.extract (min (s.size : Int) ((n : Int))).toNat s.size) w (by rw [ByteArray.size_extract]; unfold maxLen at *; omega)
  rw [show sufC (s.extract (min (s.size : Int) ((n : Int))).toNat s.size).data.toList = (is, u) by rw [em]; exact e4] at CS
  simp only [Nat.zero_add] at HN hlen
  clear em
  clear hbase e2 e4
  unfold maxLen at hs
  by_cases hn : n = 0
  · have HO : Hid (R = (0, false, 40)) := Lib.hid (by rw [HR.out]; unfold intP; rw [if_pos (.inl hn)])
    have i1 : ((n : Int) == 0) = true := by simp [hn]
    clear hn HR
    go_enter Tryz.func32, Tryz.ntmps32
    go_wp2_with (first | (go_at_call 23; refine (CH _).mono ?_; rintro e w' ⟨rfl, rfl⟩) | (go_at_call 24; refine (CR _).mono ?_; rintro e w' ⟨rfl, rfl⟩) | (go_at_call 45; refine (CS _).mono ?_; rintro e w' ⟨rfl, rfl⟩))
    go_ret3
    exact ⟨rubi (by rw [HO.out]), rfl⟩
  · have i1 : ((n : Int) == 0) = false := beq_eq_false_iff_ne.2 (by omega)
    cases is with
    | false =>
      have HO : Hid (R = (0, false, 40)) := Lib.hid (by rw [HR.out]; unfold intP; rw [if_pos (.inr (.inr rfl))])
      clear HR
      go_enter Tryz.func32, Tryz.ntmps32
      go_wp2_with (first | (go_at_call 23; refine (CH _).mono ?_; rintro e w' ⟨rfl, rfl⟩) | (go_at_call 24; refine (CR _).mono ?_; rintro e w' ⟨rfl, rfl⟩) | (go_at_call 45; refine (CS _).mono ?_; rintro e w' ⟨rfl, rfl⟩))
      go_ret3
      exact ⟨rubi (by rw [HO.out]), rfl⟩
    | true =>
      go_enter Tryz.func32, Tryz.ntmps32
      go_wp2_with (first | (go_at_call 23; refine (CH _).mono ?_; rintro e w' ⟨rfl, rfl⟩) | (go_at_call 24; refine (CR _).mono ?_; rintro e w' ⟨rfl, rfl⟩) | (go_at_call 45; refine (CS _).mono ?_; rintro e w' ⟨rfl, rfl⟩))
      go_loop [10, 11, 12] (fun v i _ => ∃ k : Nat, k ≤ n ∧ v = .int .u64 (gd k) ∧ i = .int .i64 k ∧ gd k ≤ 18446744073709551615) (fun _ i _ => n - (intOf i).toNat)
      case atStart => exact ⟨0, Nat.zero_le _, by rw [H0]; rfl, rfl, by rw [H0]; decide⟩
      case round =>
        obtain ⟨k, hk, rfl, rfl, hle⟩ := hrel
        by_cases hlt : k < n
        · obtain ⟨h1, h2, h3⟩ := HN.out k hlt
          have C := fun w => rdig_any s[k] w
          obtain ⟨x, hx⟩ : ∃ x, worthC s[k] = x := ⟨_, rfl⟩
          simp only [hx] at C h2 h3
          clear hx
          have i2 : (k : Int) < (n : Int) := by omega
          have i3 : (k : Int) < (s.size : Int) := by omega
          have i4 : (0 : Int) ≤ (k : Int) := by omega
          have i5 : ((k : Int)).toNat = k := by omega
          have i6 : (0 : Int) ≤ (x : Nat) := by omega
          have i8 : ((x : Nat) : Int) < 10 := by omega
          clear HZ
          by_cases hv : gd k ≤ (18446744073709551615 - x) / 10
          · have j1 : ((gd k : Nat) : Int) ≤ (18446744073709551615 - ((x : Nat) : Int)) / 10 := by omega
            have HJ := Lib.hid h3
            have j3 : gd k * 10 + x ≤ 18446744073709551615 := by omega
            have j4 : gd (k + 1) ≤ 18446744073709551615 := by omega
            clear HT HR h3
            go_wp2_with (go_at_call 39; refine (C _).mono ?_; rintro e w' ⟨rfl, rfl⟩)
            go_round
            case rel => exact ⟨k + 1, hlt, by rw [HJ.out]; simp, by go_num, j4⟩
            case measure => simp [intOf]; omega
          · have j1 : ¬ ((gd k : Nat) : Int) ≤ (18446744073709551615 - ((x : Nat) : Int)) / 10 := by omega
            have h4 := HT.out (k + 1)
            have HO : Hid (R = (0, false, 40)) := Lib.hid (by rw [HR.out]; unfold intP; rw [if_pos (.inr (.inl (by omega)))])
            clear HT HR h4 h3
            go_wp2_with (go_at_call 39; refine (C _).mono ?_; rintro e w' ⟨rfl, rfl⟩)
            go_ret3
            exact ⟨rubi (by rw [HO.out]), rfl⟩
        · obtain rfl : k = n := by omega
          have i2 : ¬ (k : Int) < (k : Int) := by omega
          rw [HZ] at hle ⊢
          have HO : Hid (R = if 9223372036854775807 < v ∧ u = false then (if 10 = 10 then (0, false, 40) else (v, true, 0)) else (v, u, 0)) := Lib.hid (by rw [HR.out]; unfold intP; rw [if_neg (by simp [hn]; omega)])
          clear HR HT HN HZ
          by_cases hh : 9223372036854775807 < v
          · have i7 : (9223372036854775807 : Int) < (v : Int) := by omega
            cases u with
            | true =>
              have HO2 := Lib.hid (HO.out.trans (if_neg (by simp)))
              clear HO hh
              go_wp2
              go_ret3
              exact ⟨rubi (by rw [HO2.out]), rfl⟩
            | false =>
              have HO2 := Lib.hid ((HO.out.trans (if_pos ⟨hh, rfl⟩)).trans (if_pos rfl))
              clear HO hh
              go_wp2
              go_ret3
              exact ⟨rubi (by rw [HO2.out]), rfl⟩
          · have HO2 := Lib.hid (HO.out.trans (if_neg (fun h => hh h.1)))
            have i7 : ¬ (9223372036854775807 : Int) < (v : Int) := by omega
            clear HO hh
            cases u
            all_goals
              go_wp2
              go_ret3
              exact ⟨rubi (by rw [HO2.out]), rfl⟩

set_option maxRecDepth 100000 in
set_option maxHeartbeats 2000000 in
theorem rInt_none (s : ByteArray) (w : World) (hs : s.size ≤ maxLen) (hx : hexB s.data.toList = false) (h0 : ¬ 0 < s.size) : Calls Tryz.prog 32 #[.string s] w fun e w' => e = .returned (.tuple #[.int .u64 ((intR s.data.toList).1 : Nat), .bool (intR s.data.toList).2.1, .int .i64 ((intR s.data.toList).2.2 : Nat)]) ∧ w = w' := by
  have CH := fun w => hex_any s w hs
  have hbase := lead_ten (s := s) (fun h => absurd h h0)
  have h0i : ¬ (0 : Int) < (s.size : Int) := by omega
  rw [hx] at CH
  clear hx
  obtain ⟨gd, n, v, is, u, e2, hlen, e4, HR, HN, HT, HZ, H0⟩ := rint_facts s 10 0 (by decide) hbase (by omega)
  generalize intR s.data.toList = R at *
  have CR := fun w => run_any s 0 10 w hs (by omega) (by decide)
  rw [e2] at CR
  have em : (min (s.size : Int) ((n : Int))).toNat = 0 + n := by omega
  have CS := fun w => rsuffix_any (s.extract (min (s.size : Int) ((n : Int))).toNat s.size) w (by rw [ByteArray.size_extract]; unfold maxLen at *; omega)
  rw [show sufC (s.extract (min (s.size : Int) ((n : Int))).toNat s.size).data.toList = (is, u) by rw [em]; exact e4] at CS
  simp only [Nat.zero_add] at HN hlen
  clear em
  clear hbase e2 e4
  unfold maxLen at hs
  have hn : n = 0 := by omega
  have HO : Hid (R = (0, false, 40)) := Lib.hid (by rw [HR.out]; unfold intP; rw [if_pos (.inl hn)])
  have i1 : ((n : Int) == 0) = true := by simp [hn]
  clear hn HR
  go_enter Tryz.func32, Tryz.ntmps32
  go_wp2_with (first | (go_at_call 23; refine (CH _).mono ?_; rintro e w' ⟨rfl, rfl⟩) | (go_at_call 24; refine (CR _).mono ?_; rintro e w' ⟨rfl, rfl⟩) | (go_at_call 45; refine (CS _).mono ?_; rintro e w' ⟨rfl, rfl⟩))
  go_ret3
  exact ⟨rubi (by rw [HO.out]), rfl⟩

theorem rInt_any (s : ByteArray) (w : World) (hs : s.size ≤ maxLen) : Calls Tryz.prog 32 #[.string s] w fun e w' => e = .returned (.tuple #[.int .u64 ((intR s.data.toList).1 : Nat), .bool (intR s.data.toList).2.1, .int .i64 ((intR s.data.toList).2.2 : Nat)]) ∧ w = w' := by
  cases hx : hexB s.data.toList with
  | true => exact rInt_hex s w hs hx
  | false =>
    by_cases h0 : 0 < s.size
    · cases h1 : ((s[0].toNat : Int) == 48) with
      | true => exact rInt_eight s w hs hx h0 h1
      | false => exact rInt_ten s w hs hx h0 h1
    · exact rInt_none s w hs hx h0

end Go.Proofs.YtenmapahigbbeaaGreat

namespace Go.Proofs.YtenmapahigbbeaaGreat
open Go.RowKit Go.Shelf

theorem simpleC_nat (c : UInt8) : simpleC c = if c.toNat = 39 ∨ c.toNat = 34 ∨ c.toNat = 63 ∨ c.toNat = 92 then c.toNat else if c.toNat = 97 then 7 else if c.toNat = 98 then 8 else if c.toNat = 102 then 12 else if c.toNat = 110 then 10 else if c.toNat = 114 then 13 else if c.toNat = 116 then 9 else if c.toNat = 118 then 11 else 0 := by
  have h : ∀ n, n < 256 → (fun c : UInt8 => simpleC c = if c.toNat = 39 ∨ c.toNat = 34 ∨ c.toNat = 63 ∨ c.toNat = 92 then c.toNat else if c.toNat = 97 then 7 else if c.toNat = 98 then 8 else if c.toNat = 102 then 12 else if c.toNat = 110 then 10 else if c.toNat = 114 then 13 else if c.toNat = 116 then 9 else if c.toNat = 118 then 11 else 0) (UInt8.ofNat n) := by decide +kernel
  have := h c.toNat c.toNat_lt
  rwa [UInt8.ofNat_toNat] at this

set_option maxHeartbeats 2000000 in
theorem rsimple_any (c : UInt8) (w : World) : Calls Tryz.prog 70 #[.int .u8 c.toNat] w fun e w' => e = .returned (.int .i64 (simpleC c : Nat)) ∧ w = w' := by
  have hc := c.toNat_lt
  have HS := Lib.hid (simpleC_nat c)
  generalize simpleC c = v at *
  generalize c.toNat = n at *
  go_enter Tryz.func70, Tryz.ntmps70
  go_wp2
  all_goals
    go_ret
    refine ⟨ri ?_, rfl⟩
    rw [HS.out]
    simp only [beq_iff_eq, beq_eq_false_iff_ne, ne_eq] at *
    repeat' split
    all_goals omega

/-! ### What stands ahead of a quote -/
theorem noQ_int (c : UInt8) : noQ c = (((c.toNat : Int) != 39) && ((c.toNat : Int) != 34)) := by
  have e : ∀ (a b : UInt8), (a == b) = ((a.toNat : Int) == (b.toNat : Int)) := fun a b => by
    rw [Bool.eq_iff_iff, beq_iff_eq, beq_iff_eq, ← UInt8.toNat_inj]; omega
  unfold noQ
  simp only [bne, e]; rfl
theorem pre_yes {l r : List UInt8} {c : UInt8} (h : l = c :: r) (hc : noQ c = true) : (preC l).length = (preC r).length + 1 := by
  subst h
  unfold preC
  rw [List.takeWhile_cons, hc, if_pos rfl]; rfl
theorem pre_no {l r : List UInt8} {c : UInt8} (h : l = c :: r) (hc : noQ c = false) : (preC l).length = 0 := by
  subst h
  unfold preC
  rw [List.takeWhile_cons, hc]; rfl

set_option maxHeartbeats 1000000 in
theorem rprefix_any (s : ByteArray) (w : World) (hs : s.size ≤ maxLen) (hq : (preC s.data.toList).length < s.size) :
    Calls Tryz.prog 47 #[.string s] w fun e w' => e = .returned (.int .i64 ((preC s.data.toList).length : Nat)) ∧ w = w' := by
  unfold maxLen at hs
  go_enter Tryz.func47, Tryz.ntmps47
  go_wp2
  go_loop [3] (fun n => ∃ k : Nat, k < s.size ∧ n = .int .i64 k ∧ Hid ((preC s.data.toList).length = k + (preC (s.data.toList.drop k)).length)) (fun n => s.size - (intOf n).toNat)
  case atStart => exact ⟨0, by omega, rfl, Lib.hid (by simp)⟩
  case round =>
    obtain ⟨k, hk, rfl, HE⟩ := hrel
    have hd := data_drop s k hk
    have hn := noQ_int s[k]
    cases h : noQ s[k] with
    | true =>
      have HN : Hid ((preC s.data.toList).length = k + 1 + (preC (s.data.toList.drop (k + 1))).length) := Lib.hid (by rw [HE.out, pre_yes hd h]; omega)
      have hk1 : k + 1 < s.size := by have := HN.out; omega
      rw [h] at hn
      have hn1 := hn.symm
      rw [Bool.and_eq_true] at hn1
      obtain ⟨h1, h2⟩ := hn1
      clear HE hd hn h
      go_wp2
      go_round
      case rel => exact ⟨k + 1, hk1, by go_num, HN⟩
      case measure => simp [intOf]; omega
    | false =>
      have HN : Hid ((preC s.data.toList).length = k) := Lib.hid (by rw [HE.out, pre_no hd h]; omega)
      rw [h] at hn
      have hn1 := hn.symm
      clear HE hd hn h
      cases h1 : ((s[k].toNat : Int) != 39) with
      | false =>
        clear hn1
        go_wp2
        go_ret
        exact ⟨ri (by rw [HN.out]), rfl⟩
      | true =>
        rw [h1, Bool.true_and] at hn1
        go_wp2
        go_ret
        exact ⟨ri (by rw [HN.out]), rfl⟩

/-! ### One element -/
theorem capC_snoc (b : Nat) (l : List UInt8) (c : UInt8) : capC b (l ++ [c]) = min (capC b l * b + worthC c) 1099511627776 := by
  unfold capC; rw [List.foldl_append]; rfl
theorem capC_le (b : Nat) : ∀ l : List UInt8, capC b l ≤ 1099511627776 := by
  intro l
  rcases List.eq_nil_or_concat l with rfl | ⟨q, c, rfl⟩
  · exact Nat.zero_le _
  · rw [List.concat_eq_append, capC_snoc]; exact Nat.min_le_right _ _
theorem rcap_facts (s : ByteArray) (b at' : Nat) (dt r : List UInt8) (hp : s.data.toList.drop at' = dt ++ r) (hall : ∀ c ∈ dt, worthC c < b) : ∃ gd : Nat → Nat, (at' ≤ s.size → at' + dt.length ≤ s.size) ∧
    Hid (∀ k, k < dt.length → ∃ h : at' + k < s.size, worthC s[at' + k] < b ∧ gd (k + 1) = min (gd k * b + worthC s[at' + k]) 1099511627776) ∧ (∀ k, gd k ≤ 1099511627776) ∧ gd dt.length = capC b dt ∧ gd 0 = 0 := by
  refine ⟨fun k => capC b (dt.take k), ?_, Lib.hid ?_, fun k => capC_le b _, ?_, rfl⟩
  · intro ha
    have := congrArg List.length hp
    rw [List.length_drop, List.length_append, size_list] at this
    omega
  · intro k hk
    have h3 : (s.data.toList.drop at')[k]? = some dt[k] := by
      rw [hp, List.getElem?_append_left hk, List.getElem?_eq_getElem hk]
    rw [List.getElem?_drop] at h3
    have h4 : at' + k < s.size := by
      rw [← size_list]
      exact (List.getElem?_eq_some_iff.1 h3).1
    rw [data_get s _ h4] at h3
    have h5 : s[at' + k] = dt[k] := Option.some.inj h3
    refine ⟨h4, ?_, ?_⟩
    · rw [h5]; exact hall _ (List.getElem_mem hk)
    · show capC b (dt.take (k + 1)) = _
      rw [h5, List.take_succ_eq_append_getElem hk, capC_snoc]
  · show capC b (dt.take dt.length) = _
    rw [List.take_length]

theorem rnn {a b x y : Nat} (h : a = b) (h2 : x = y) : Ending.returned (.tuple #[.int .i64 a, .int .i64 x]) = .returned (.tuple #[.int .i64 b, .int .i64 y]) := by rw [h, h2]

end Go.Proofs.YtenmapahigbbeaaGreat

namespace Go.Proofs.YtenmapahigbbeaaGreat
open Go.RowKit Go.Shelf

theorem one_plain {c : UInt8} {r : List UInt8} (h : ((c.toNat : Int) != 92) = true) : oneC (c :: r) = (c.toNat, 1) := by
  have hc : c ≠ 92 := fun e => by rw [e] at h; exact absurd h (by decide)
  show (if c ≠ 92 then (c.toNat, 1) else _) = _
  rw [if_pos hc]
theorem is_92 {c : UInt8} (h : ((c.toNat : Int) != 92) = false) : c = 92 := by
  apply UInt8.toNat_inj.1
  have : (c.toNat : Int) = 92 := by simpa using h
  show c.toNat = 92
  omega
theorem one_two {d : UInt8} {r : List UInt8} (h : 0 < simpleC d) : oneC (92 :: d :: r) = (simpleC d, 2) := by
  rw [oneC, if_neg (by simp), if_pos h]
theorem one_hex {r : List UInt8} : oneC (92 :: 120 :: r) = if (digitsC 16 r).length = 0 then (0, 0) else (capC 16 (digitsC 16 r), (digitsC 16 r).length + 2) := by
  rw [oneC, if_neg (by simp), if_neg (show ¬ 0 < simpleC 120 by decide), if_pos rfl]
theorem one_eight {d : UInt8} {r : List UInt8} (h : simpleC d = 0) (h2 : d ≠ 120) : oneC (92 :: d :: r) = if (digitsC 8 (d :: r)).length = 0 then (0, 0) else (capC 8 ((digitsC 8 (d :: r)).take 3), min 3 (digitsC 8 (d :: r)).length + 1) := by
  rw [oneC, if_neg (by simp), if_neg (by omega), if_neg h2]

set_option maxRecDepth 100000 in
set_option maxHeartbeats 2000000 in
theorem rone_plain (s : ByteArray) (at' : Nat) (w : World) (hs : s.size ≤ maxLen) (ha : at' < s.size) (h : ((s[at'].toNat : Int) != 92) = true) : Calls Tryz.prog 58 #[.string s, .int .i64 at'] w fun e w' => e = .returned (.tuple #[.int .i64 ((oneC (s.data.toList.drop at')).1 : Nat), .int .i64 ((oneC (s.data.toList.drop at')).2 : Nat)]) ∧ w = w' := by
  unfold maxLen at hs
  rw [data_drop s at' ha, one_plain h]
  have hc := s[at'].toNat_lt
  go_enter Tryz.func58, Tryz.ntmps58
  go_wp2
  go_ret2
  exact ⟨rfl, rfl⟩

set_option maxRecDepth 100000 in
set_option maxHeartbeats 2000000 in
theorem rone_end (s : ByteArray) (at' : Nat) (w : World) (hs : s.size ≤ maxLen) (ha : at' < s.size) (h : ((s[at'].toNat : Int) != 92) = false) (h1 : at' + 1 = s.size) : Calls Tryz.prog 58 #[.string s, .int .i64 at'] w fun e w' => e = .returned (.tuple #[.int .i64 ((oneC (s.data.toList.drop at')).1 : Nat), .int .i64 ((oneC (s.data.toList.drop at')).2 : Nat)]) ∧ w = w' := by
  unfold maxLen at hs
  have HO : Hid (oneC (s.data.toList.drop at') = (0, 0)) := Lib.hid (by
    rw [data_drop s at' ha, is_92 h, List.drop_eq_nil_of_le (by rw [size_list]; omega)]; rfl)
  generalize oneC (s.data.toList.drop at') = R at *
  have i1 : ((at' : Int) + 1 == (s.size : Int)) = true := by rw [beq_iff_eq]; omega
  clear h1
  go_enter Tryz.func58, Tryz.ntmps58
  go_wp2
  go_ret2
  exact ⟨rnn (by rw [HO.out]) (by rw [HO.out]), rfl⟩

set_option maxRecDepth 100000 in
set_option maxHeartbeats 2000000 in
theorem rone_two (s : ByteArray) (at' : Nat) (w : World) (hs : s.size ≤ maxLen) (ha : at' < s.size) (h : ((s[at'].toNat : Int) != 92) = false) (h1 : at' + 1 < s.size) (h2 : 0 < simpleC s[at' + 1]) : Calls Tryz.prog 58 #[.string s, .int .i64 at'] w fun e w' => e = .returned (.tuple #[.int .i64 ((oneC (s.data.toList.drop at')).1 : Nat), .int .i64 ((oneC (s.data.toList.drop at')).2 : Nat)]) ∧ w = w' := by
  unfold maxLen at hs
  have HO : Hid (oneC (s.data.toList.drop at') = (simpleC s[at' + 1], 2)) := Lib.hid (by
    rw [data_drop s at' ha, is_92 h, data_drop s (at' + 1) h1, one_two h2])
  generalize oneC (s.data.toList.drop at') = R at *
  have i1 : ((at' : Int) + 1 == (s.size : Int)) = false := by rw [beq_eq_false_iff_ne]; omega
  have i2 : (at' : Int) + 1 < (s.size : Int) := by omega
  have i3 : ((at' : Int) + 1).toNat = at' + 1 := by omega
  have C := fun w => rsimple_any s[at' + 1] w
  obtain ⟨v, hv⟩ : ∃ v, simpleC s[at' + 1] = v := ⟨_, rfl⟩
  simp only [hv] at C HO h2
  clear hv
  have i4 : (0 : Int) < (v : Int) := by omega
  go_enter Tryz.func58, Tryz.ntmps58
  go_wp2_with (go_at_call 70; refine (C _).mono ?_; rintro e w' ⟨rfl, rfl⟩)
  go_ret2
  exact ⟨rnn (by rw [HO.out]) (by rw [HO.out]), rfl⟩

set_option maxRecDepth 100000 in
set_option maxHeartbeats 2000000 in
theorem rone_hex (s : ByteArray) (at' : Nat) (w : World) (hs : s.size ≤ maxLen) (ha : at' < s.size) (h : ((s[at'].toNat : Int) != 92) = false) (h1 : at' + 1 < s.size) (h2 : simpleC s[at' + 1] = 0) (h3 : s[at' + 1] = 120) : Calls Tryz.prog 58 #[.string s, .int .i64 at'] w fun e w' => e = .returned (.tuple #[.int .i64 ((oneC (s.data.toList.drop at')).1 : Nat), .int .i64 ((oneC (s.data.toList.drop at')).2 : Nat)]) ∧ w = w' := by
  have i1 : ((at' : Int) + 1 == (s.size : Int)) = false := by rw [beq_eq_false_iff_ne]; omega
  have i2 : (at' : Int) + 1 < (s.size : Int) := by omega
  have i3 : ((at' : Int) + 1).toNat = at' + 1 := by omega
  have CS := fun w => rsimple_any s[at' + 1] w
  simp only [h2] at CS
  have C8 := fun w => run_any s (at' + 1) 8 w hs (by omega) (by decide)
  have C16 := fun w => run_any s (at' + 2) 16 w hs (by omega) (by decide)
  have j1 : ((s[at' + 1].toNat : Int) == 120) = true := by rw [h3]; rfl
  obtain ⟨ha1, ha2⟩ := split_digits 16 (s.data.toList.drop (at' + 2))
  obtain ⟨gd, hsz, HN, hL, HZ, H0⟩ := rcap_facts s 16 (at' + 2) _ _ ha2 ha1
  have hdd := digits_len 16 (s.data.toList.drop (at' + 2))
  rw [List.length_drop, size_list] at hdd
  have HO : Hid (oneC (s.data.toList.drop at') = if (digitsC 16 (s.data.toList.drop (at' + 2))).length = 0 then (0, 0) else (capC 16 (digitsC 16 (s.data.toList.drop (at' + 2))), (digitsC 16 (s.data.toList.drop (at' + 2))).length + 2)) := Lib.hid (by
    rw [data_drop s at' ha, is_92 h, data_drop s (at' + 1) h1, h3, one_hex])
  generalize oneC (s.data.toList.drop at') = R at *
  generalize capC 16 (digitsC 16 (s.data.toList.drop (at' + 2))) = V at *
  generalize (digitsC 16 (s.data.toList.drop (at' + 2))).length = n at *
  generalize (digitsC 8 (s.data.toList.drop (at' + 1))).length = n8 at *
  have HL := Lib.hid hL
  have hsz2 := hsz (by omega)
  clear ha1 ha2 hsz h2 h3 hL
  unfold maxLen at hs
  push_cast at C8 C16
  by_cases hn : n = 0
  · have HO2 := Lib.hid (HO.out.trans (if_pos hn))
    have j2 : ((n : Int) == 0) = true := by simp [hn]
    clear hn HO HN HL HZ
    go_enter Tryz.func58, Tryz.ntmps58
    go_wp2_with (go_at_call 70; refine (CS _).mono ?_; rintro e w' ⟨rfl, rfl⟩)
    refine (C8 _).mono ?_
    rintro e w' ⟨rfl, rfl⟩
    go_wp2_with fail
    refine (C16 _).mono ?_
    rintro e w' ⟨rfl, rfl⟩
    go_wp2
    go_ret2
    exact ⟨rnn (by rw [HO2.out]) (by rw [HO2.out]), rfl⟩
  · have HO2 := Lib.hid (HO.out.trans (if_neg hn))
    have j2 : ((n : Int) == 0) = false := beq_eq_false_iff_ne.2 (by omega)
    clear HO
    have HO := HO2
    clear HO2
    go_enter Tryz.func58, Tryz.ntmps58
    go_wp2_with (go_at_call 70; refine (CS _).mono ?_; rintro e w' ⟨rfl, rfl⟩)
    refine (C8 _).mono ?_
    rintro e w' ⟨rfl, rfl⟩
    go_wp2_with fail
    refine (C16 _).mono ?_
    rintro e w' ⟨rfl, rfl⟩
    go_wp2
    go_loop [6, 10] (fun v i => ∃ k : Nat, k ≤ n ∧ v = .int .i64 (gd k) ∧ i = .int .i64 ((at' : Int) + 2 + (k : Int))) (fun _ i => at' + 2 + n - (intOf i).toNat)
    case atStart => exact ⟨0, Nat.zero_le _, by rw [H0]; rfl, by go_num⟩
    case round =>
      obtain ⟨k, hk, rfl, rfl⟩ := hrel
      have hle := HL.out k
      by_cases hlt : k < n
      · obtain ⟨h1, h2, h3⟩ := HN.out k hlt
        have C := fun w => rdig_any s[at' + 2 + k] w
        obtain ⟨x, hx⟩ : ∃ x, worthC s[at' + 2 + k] = x := ⟨_, rfl⟩
        simp only [hx] at C h2 h3
        clear hx
        have HJ := Lib.hid h3
        have i2 : (at' : Int) + 2 + (k : Int) < (at' : Int) + 2 + (n : Int) := by omega
        have i3 : (at' : Int) + 2 + (k : Int) < (s.size : Int) := by omega
        have i4 : (0 : Int) ≤ (at' : Int) + 2 + (k : Int) := by omega
        have i5 : ((at' : Int) + 2 + (k : Int)).toNat = at' + 2 + k := by omega
        have hle2 := HL.out (k + 1)
        clear h3 HZ HN HL HO
        go_wp2_with (go_at_call 39; refine (C _).mono ?_; rintro e w' ⟨rfl, rfl⟩)
        go_round
        case rel => exact ⟨k + 1, hlt, by have := HJ.out; exact congrArg (Value.int .i64) (by omega), by go_num⟩
        case measure => simp [intOf]; omega
      · obtain rfl : k = n := by omega
        have i2 : ¬ (at' : Int) + 2 + (k : Int) < (at' : Int) + 2 + (k : Int) := by omega
        rw [HZ]
        clear HN HL
        go_wp2
        go_ret2
        refine ⟨?_, rfl⟩
        rw [HO.out]
        exact congrArg (fun x => Ending.returned (.tuple #[.int .i64 _, .int .i64 x])) (by simp; omega)

set_option maxRecDepth 100000 in
set_option maxHeartbeats 2000000 in
theorem rone_eight (s : ByteArray) (at' : Nat) (w : World) (hs : s.size ≤ maxLen) (ha : at' < s.size) (h : ((s[at'].toNat : Int) != 92) = false) (h1 : at' + 1 < s.size) (h2 : simpleC s[at' + 1] = 0) (h3 : s[at' + 1] ≠ 120) : Calls Tryz.prog 58 #[.string s, .int .i64 at'] w fun e w' => e = .returned (.tuple #[.int .i64 ((oneC (s.data.toList.drop at')).1 : Nat), .int .i64 ((oneC (s.data.toList.drop at')).2 : Nat)]) ∧ w = w' := by
  have i1 : ((at' : Int) + 1 == (s.size : Int)) = false := by rw [beq_eq_false_iff_ne]; omega
  have i2 : (at' : Int) + 1 < (s.size : Int) := by omega
  have i3 : ((at' : Int) + 1).toNat = at' + 1 := by omega
  have CS := fun w => rsimple_any s[at' + 1] w
  simp only [h2] at CS
  have C8 := fun w => run_any s (at' + 1) 8 w hs (by omega) (by decide)
  have j1 : ((s[at' + 1].toNat : Int) == 120) = false := by
    rw [beq_eq_false_iff_ne]
    intro e
    exact h3 (UInt8.toNat_inj.1 (show s[at' + 1].toNat = 120 by omega))
  obtain ⟨ha1, ha2⟩ := split_digits 8 (s.data.toList.drop (at' + 1))
  obtain ⟨gd, hsz, HN, hL, HZ, H0⟩ := rcap_facts s 8 (at' + 1) ((digitsC 8 (s.data.toList.drop (at' + 1))).take 3) ((digitsC 8 (s.data.toList.drop (at' + 1))).drop 3 ++ restC 8 (s.data.toList.drop (at' + 1))) (by rw [← List.append_assoc, List.take_append_drop]; exact ha2) (fun c hc => ha1 c (List.mem_of_mem_take hc))
  have hdd := digits_len 8 (s.data.toList.drop (at' + 1))
  rw [List.length_drop, size_list] at hdd
  have HO : Hid (oneC (s.data.toList.drop at') = if (digitsC 8 (s.data.toList.drop (at' + 1))).length = 0 then (0, 0) else (capC 8 ((digitsC 8 (s.data.toList.drop (at' + 1))).take 3), min 3 (digitsC 8 (s.data.toList.drop (at' + 1))).length + 1)) := Lib.hid (by
    rw [data_drop s at' ha, is_92 h, data_drop s (at' + 1) h1, one_eight h2 h3])
  have hnm : ((digitsC 8 (s.data.toList.drop (at' + 1))).take 3).length = min 3 (digitsC 8 (s.data.toList.drop (at' + 1))).length := List.length_take
  rw [← hnm] at HO
  generalize oneC (s.data.toList.drop at') = R at *
  generalize capC 8 ((digitsC 8 (s.data.toList.drop (at' + 1))).take 3) = V at *
  generalize ((digitsC 8 (s.data.toList.drop (at' + 1))).take 3).length = n at *
  generalize (digitsC 8 (s.data.toList.drop (at' + 1))).length = n8 at *
  have HL := Lib.hid hL
  have hsz2 := hsz (by omega)
  have j3 : (min (3 : Int) (n8 : Int)) = (n : Int) := by omega
  clear ha1 ha2 hsz h2 h3 hL
  unfold maxLen at hs
  push_cast at C8
  by_cases hn : n8 = 0
  · have HO2 := Lib.hid (HO.out.trans (if_pos hn))
    have j2 : ((n : Int) == 0) = true := by rw [beq_iff_eq]; omega
    clear hn HO HN HL HZ hnm
    go_enter Tryz.func58, Tryz.ntmps58
    go_wp2_with (go_at_call 70; refine (CS _).mono ?_; rintro e w' ⟨rfl, rfl⟩)
    refine (C8 _).mono ?_
    rintro e w' ⟨rfl, rfl⟩
    go_wp2
    go_ret2
    exact ⟨rnn (by rw [HO2.out]) (by rw [HO2.out]), rfl⟩
  · have HO2 := Lib.hid (HO.out.trans (if_neg hn))
    have j2 : ((n : Int) == 0) = false := beq_eq_false_iff_ne.2 (by omega)
    clear HO
    have HO := HO2
    clear HO2 hnm
    go_enter Tryz.func58, Tryz.ntmps58
    go_wp2_with (go_at_call 70; refine (CS _).mono ?_; rintro e w' ⟨rfl, rfl⟩)
    refine (C8 _).mono ?_
    rintro e w' ⟨rfl, rfl⟩
    go_wp2
    go_loop [6, 10] (fun v i => ∃ k : Nat, k ≤ n ∧ v = .int .i64 (gd k) ∧ i = .int .i64 ((at' : Int) + 1 + (k : Int))) (fun _ i => at' + 1 + n - (intOf i).toNat)
    case atStart => exact ⟨0, Nat.zero_le _, by rw [H0]; rfl, by go_num⟩
    case round =>
      obtain ⟨k, hk, rfl, rfl⟩ := hrel
      have hle := HL.out k
      by_cases hlt : k < n
      · obtain ⟨h1, h2, h3⟩ := HN.out k hlt
        have C := fun w => rdig_any s[at' + 1 + k] w
        obtain ⟨x, hx⟩ : ∃ x, worthC s[at' + 1 + k] = x := ⟨_, rfl⟩
        simp only [hx] at C h2 h3
        clear hx
        have HJ := Lib.hid h3
        have i2 : (at' : Int) + 1 + (k : Int) < (at' : Int) + 1 + (n : Int) := by omega
        have i3 : (at' : Int) + 1 + (k : Int) < (s.size : Int) := by omega
        have i4 : (0 : Int) ≤ (at' : Int) + 1 + (k : Int) := by omega
        have i5 : ((at' : Int) + 1 + (k : Int)).toNat = at' + 1 + k := by omega
        have hle2 := HL.out (k + 1)
        clear h3 HZ HN HL HO
        go_wp2_with (go_at_call 39; refine (C _).mono ?_; rintro e w' ⟨rfl, rfl⟩)
        go_round
        case rel => exact ⟨k + 1, hlt, by have := HJ.out; exact congrArg (Value.int .i64) (by omega), by go_num⟩
        case measure => simp [intOf]; omega
      · obtain rfl : k = n := by omega
        have i2 : ¬ (at' : Int) + 1 + (k : Int) < (at' : Int) + 1 + (k : Int) := by omega
        rw [HZ]
        clear HN HL
        go_wp2
        go_ret2
        refine ⟨?_, rfl⟩
        rw [HO.out]
        exact congrArg (fun x => Ending.returned (.tuple #[.int .i64 _, .int .i64 x])) (by simp; omega)

theorem rone_any (s : ByteArray) (at' : Nat) (w : World) (hs : s.size ≤ maxLen) (ha : at' < s.size) : Calls Tryz.prog 58 #[.string s, .int .i64 at'] w fun e w' => e = .returned (.tuple #[.int .i64 ((oneC (s.data.toList.drop at')).1 : Nat), .int .i64 ((oneC (s.data.toList.drop at')).2 : Nat)]) ∧ w = w' := by
  cases h : ((s[at'].toNat : Int) != 92) with
  | true => exact rone_plain s at' w hs ha h
  | false =>
    by_cases h1 : at' + 1 = s.size
    · exact rone_end s at' w hs ha h h1
    · by_cases h2 : 0 < simpleC (s[at' + 1]'(by omega))
      · exact rone_two s at' w hs ha h (by omega) h2
      · by_cases h3 : s[at' + 1]'(by omega) = 120
        · exact rone_hex s at' w hs ha h (by omega) (by omega) h3
        · exact rone_eight s at' w hs ha h (by omega) (by omega) h3

end Go.Proofs.YtenmapahigbbeaaGreat

namespace Go.Proofs.YtenmapahigbbeaaGreat
open Go.RowKit Go.Shelf

theorem byte_int (a b : UInt8) : (a == b) = ((a.toNat : Int) == (b.toNat : Int)) := by
  rw [Bool.eq_iff_iff, beq_iff_eq, beq_iff_eq, ← UInt8.toNat_inj]; omega
theorem byte_of {a b : UInt8} (h : ((a.toNat : Int) == (b.toNat : Int)) = true) : a = b := eq_of_beq ((byte_int a b).trans h)
theorem byte_not {a b : UInt8} (h : ((a.toNat : Int) == (b.toNat : Int)) = false) : a ≠ b := fun e => by
  rw [e] at h; simp at h
theorem ends_yes {s : ByteArray} {at' : Nat} {small great : UInt8} (may : Bool) (h : at' < s.size) (h2 : s[at'] = small ∨ s[at'] = great) : endsC small great may (s.data.toList.drop at') = if (digitsC 10 (signC (s.data.toList.drop (at' + 1)))).length = 0 then false else fC (restC 10 (signC (s.data.toList.drop (at' + 1)))) := by
  rw [data_drop s at' h]
  unfold endsC
  rw [if_pos (by simpa using h2), List.tail_cons]
  simp only [List.length_eq_zero_iff]
theorem ends_no {s : ByteArray} {at' : Nat} {small great : UInt8} (may : Bool) (h : ∀ h : at' < s.size, s[at'] ≠ small ∧ s[at'] ≠ great) : endsC small great may (s.data.toList.drop at') = (may && fC (s.extract at' s.size).data.toList) := by
  rw [extract_end]
  unfold endsC
  rw [if_neg]
  by_cases hlt : at' < s.size
  · rw [data_drop s at' hlt]
    have := h hlt
    simp only [List.head?_cons, Option.some.injEq]
    exact fun e => e.elim this.1 this.2
  · rw [List.drop_eq_nil_of_le (by rw [size_list]; omega)]
    simp
theorem sign_yes {s : ByteArray} {k : Nat} (h : k < s.size) (h2 : s[k] = 43 ∨ s[k] = 45) : signC (s.data.toList.drop k) = s.data.toList.drop (k + 1) := by
  rw [data_drop s k h]
  unfold signC
  rw [if_pos (by simpa using h2), List.tail_cons]
theorem sign_no {s : ByteArray} {k : Nat} (h : ∀ h : k < s.size, s[k] ≠ 43 ∧ s[k] ≠ 45) : signC (s.data.toList.drop k) = s.data.toList.drop k := by
  unfold signC
  rw [if_neg]
  by_cases hlt : k < s.size
  · rw [data_drop s k hlt]
    have := h hlt
    simp only [List.head?_cons, Option.some.injEq]
    exact fun e => e.elim this.1 this.2
  · rw [List.drop_eq_nil_of_le (by rw [size_list]; omega)]
    simp
theorem rest_at (s : ByteArray) (k : Nat) : restC 10 (s.data.toList.drop k) = (s.extract (k + (digitsC 10 (s.data.toList.drop k)).length) s.size).data.toList := by
  rw [extract_end, rest_drop, List.drop_drop]
theorem fC_text (d : ByteArray) : fC d.data.toList = (d.toList.isEmpty || (d.toList == [102]) || (d.toList == [70]) || (d.toList == [108]) || (d.toList == [76])) := by
  rw [ByteArray.toList_eq]
  unfold fC
  congr 4
  cases d.data.toList <;> rfl

set_option maxRecDepth 100000 in
set_option maxHeartbeats 4000000 in
theorem rends_end (s : ByteArray) (at' : Nat) (small great : UInt8) (may : Bool) (w : World) (hs : s.size ≤ maxLen) (ha : at' ≤ s.size) (h : ¬ at' < s.size) : Calls Tryz.prog 25 #[.string s, .int .i64 at', .int .u8 small.toNat, .int .u8 great.toNat, .bool may] w fun e w' => e = .returned (.bool (endsC small great may (s.data.toList.drop at'))) ∧ w = w' := by
  have HO := Lib.hid (ends_no (s := s) (at' := at') (small := small) (great := great) may (fun e => absurd e h))
  have j1 : ¬ (at' : Int) < (s.size : Int) := by omega
  generalize endsC small great may (s.data.toList.drop at') = R at *
  unfold maxLen at hs
  cases may with
  | false =>
    have HO2 : Hid (R = false) := Lib.hid HO.out
    clear HO
    go_enter Tryz.func25, Tryz.ntmps25
    go_wp2
    go_ret
    exact ⟨rb HO2.out.symm, rfl⟩
  | true =>
    have i1 : ((at' : Int)).toNat = at' := by omega
    obtain ⟨r, hr⟩ : ∃ r, s.extract at' s.size = r := ⟨_, rfl⟩
    rw [hr, Bool.true_and, fC_text] at HO
    go_enter Tryz.func25, Tryz.ntmps25
    go_wp2
    all_goals first
      | exact two_sides (show r.toList.isEmpty = true by assumption) (by assumption)
      | exact two_sides (show (r.toList == [102]) = true by assumption) (by assumption)
      | exact two_sides (show (r.toList == [70]) = true by assumption) (by assumption)
      | exact two_sides (show (r.toList == [108]) = true by assumption) (by assumption)
      | exact two_sides (show (r.toList == [76]) = true by assumption) (by assumption)
      | (go_ret; exact ⟨rb HO.out.symm, rfl⟩)
      | (go_ret; exact ⟨rb (by rw [HO.out]; simp [*]), rfl⟩)

set_option maxRecDepth 100000 in
set_option maxHeartbeats 4000000 in
theorem rends_no (s : ByteArray) (at' : Nat) (small great : UInt8) (may : Bool) (w : World) (hs : s.size ≤ maxLen) (ha : at' ≤ s.size) (h : at' < s.size) (h1 : ((s[at'].toNat : Int) == (small.toNat : Int)) = false) (h2 : ((s[at'].toNat : Int) == (great.toNat : Int)) = false) : Calls Tryz.prog 25 #[.string s, .int .i64 at', .int .u8 small.toNat, .int .u8 great.toNat, .bool may] w fun e w' => e = .returned (.bool (endsC small great may (s.data.toList.drop at'))) ∧ w = w' := by
  have HO := Lib.hid (ends_no (s := s) (at' := at') (small := small) (great := great) may (fun _ => ⟨byte_not h1, byte_not h2⟩))
  have j1 : (at' : Int) < (s.size : Int) := by omega
  generalize endsC small great may (s.data.toList.drop at') = R at *
  unfold maxLen at hs
  cases may with
  | false =>
    have HO2 : Hid (R = false) := Lib.hid HO.out
    clear HO
    go_enter Tryz.func25, Tryz.ntmps25
    go_wp2
    go_ret
    exact ⟨rb HO2.out.symm, rfl⟩
  | true =>
    have i1 : ((at' : Int)).toNat = at' := by omega
    obtain ⟨r, hr⟩ : ∃ r, s.extract at' s.size = r := ⟨_, rfl⟩
    rw [hr, Bool.true_and, fC_text] at HO
    go_enter Tryz.func25, Tryz.ntmps25
    go_wp2
    all_goals first
      | exact two_sides (show r.toList.isEmpty = true by assumption) (by assumption)
      | exact two_sides (show (r.toList == [102]) = true by assumption) (by assumption)
      | exact two_sides (show (r.toList == [70]) = true by assumption) (by assumption)
      | exact two_sides (show (r.toList == [108]) = true by assumption) (by assumption)
      | exact two_sides (show (r.toList == [76]) = true by assumption) (by assumption)
      | (go_ret; exact ⟨rb HO.out.symm, rfl⟩)
      | (go_ret; exact ⟨rb (by rw [HO.out]; simp [*]), rfl⟩)

set_option maxRecDepth 100000 in
set_option maxHeartbeats 4000000 in
theorem rends_00 (s : ByteArray) (at' : Nat) (small great : UInt8) (may : Bool) (w : World) (hs : s.size ≤ maxLen) (ha : at' ≤ s.size) (h : at' < s.size) (h1 : ((s[at'].toNat : Int) == (small.toNat : Int)) = true) (g : ¬ at' + 1 < s.size) : Calls Tryz.prog 25 #[.string s, .int .i64 at', .int .u8 small.toNat, .int .u8 great.toNat, .bool may] w fun e w' => e = .returned (.bool (endsC small great may (s.data.toList.drop at'))) ∧ w = w' := by
  have hO := ends_yes (great := great) (small := small) may h (.inl (byte_of h1))
  rw [sign_no (s := s) (k := at' + 1) (fun e => absurd e g), rest_at] at hO
  have CR := fun w => run_any s (at' + 1) 10 w hs (by omega) (by decide)
  have hl := digits_len 10 (s.data.toList.drop (at' + 1))
  rw [List.length_drop, size_list] at hl
  generalize (digitsC 10 (s.data.toList.drop (at' + 1))).length = n at *
  have HB := Lib.hid hO
  clear hO
  generalize endsC small great may (s.data.toList.drop at') = R at *
  push_cast at CR
  unfold maxLen at hs
  have j1 : (at' : Int) < (s.size : Int) := by omega
  have j2 : ¬ (at' : Int) + 1 < (s.size : Int) := by omega
  by_cases hn : n = 0
  · have HO : Hid (R = false) := Lib.hid (HB.out.trans (if_pos hn))
    have i1 : ((n : Int) == 0) = true := by simp [hn]
    clear hn HB
    go_enter Tryz.func25, Tryz.ntmps25
    go_wp2_with (go_at_call 24; refine (CR _).mono ?_; rintro e w' ⟨rfl, rfl⟩)
    go_ret
    exact ⟨rb HO.out.symm, rfl⟩
  · have HO := Lib.hid (HB.out.trans (if_neg hn))
    have i1 : ((n : Int) == 0) = false := beq_eq_false_iff_ne.2 (by omega)
    have i2 : ((at' : Int) + 1 + (n : Int)).toNat = at' + 1 + n := by omega
    have i3 : (0 : Int) ≤ (at' : Int) + 1 + (n : Int) := by omega
    have i4 : (at' : Int) + 1 + (n : Int) ≤ (s.size : Int) := by omega
    obtain ⟨r, hr⟩ : ∃ r, s.extract (at' + 1 + n) s.size = r := ⟨_, rfl⟩
    rw [hr, fC_text] at HO
    clear hn HB
    go_enter Tryz.func25, Tryz.ntmps25
    go_wp2_with (go_at_call 24; refine (CR _).mono ?_; rintro e w' ⟨rfl, rfl⟩)
    all_goals first
      | exact two_sides (show r.toList.isEmpty = true by assumption) (by assumption)
      | exact two_sides (show (r.toList == [102]) = true by assumption) (by assumption)
      | exact two_sides (show (r.toList == [70]) = true by assumption) (by assumption)
      | exact two_sides (show (r.toList == [108]) = true by assumption) (by assumption)
      | exact two_sides (show (r.toList == [76]) = true by assumption) (by assumption)
      | (go_ret; exact ⟨rb HO.out.symm, rfl⟩)
      | (go_ret; exact ⟨rb (by rw [HO.out]; simp [*]), rfl⟩)

set_option maxRecDepth 100000 in
set_option maxHeartbeats 4000000 in
theorem rends_01 (s : ByteArray) (at' : Nat) (small great : UInt8) (may : Bool) (w : World) (hs : s.size ≤ maxLen) (ha : at' ≤ s.size) (h : at' < s.size) (h1 : ((s[at'].toNat : Int) == (small.toNat : Int)) = true) (g : at' + 1 < s.size) (g1 : ((s[at' + 1].toNat : Int) == 43) = true) : Calls Tryz.prog 25 #[.string s, .int .i64 at', .int .u8 small.toNat, .int .u8 great.toNat, .bool may] w fun e w' => e = .returned (.bool (endsC small great may (s.data.toList.drop at'))) ∧ w = w' := by
  have hO := ends_yes (great := great) (small := small) may h (.inl (byte_of h1))
  rw [sign_yes g (.inl (byte_of (b := 43) g1)), rest_at] at hO
  have CR := fun w => run_any s (at' + 1 + 1) 10 w hs (by omega) (by decide)
  have hl := digits_len 10 (s.data.toList.drop (at' + 1 + 1))
  rw [List.length_drop, size_list] at hl
  generalize (digitsC 10 (s.data.toList.drop (at' + 1 + 1))).length = n at *
  have HB := Lib.hid hO
  clear hO
  generalize endsC small great may (s.data.toList.drop at') = R at *
  push_cast at CR
  unfold maxLen at hs
  have j1 : (at' : Int) < (s.size : Int) := by omega
  have j2 : (at' : Int) + 1 < (s.size : Int) := by omega
  have j3 : ((at' : Int) + 1).toNat = at' + 1 := by omega
  have j4 : (0 : Int) ≤ (at' : Int) + 1 := by omega
  by_cases hn : n = 0
  · have HO : Hid (R = false) := Lib.hid (HB.out.trans (if_pos hn))
    have i1 : ((n : Int) == 0) = true := by simp [hn]
    clear hn HB
    go_enter Tryz.func25, Tryz.ntmps25
    go_wp2_with (go_at_call 24; refine (CR _).mono ?_; rintro e w' ⟨rfl, rfl⟩)
    go_ret
    exact ⟨rb HO.out.symm, rfl⟩
  · have HO := Lib.hid (HB.out.trans (if_neg hn))
    have i1 : ((n : Int) == 0) = false := beq_eq_false_iff_ne.2 (by omega)
    have i2 : ((at' : Int) + 1 + 1 + (n : Int)).toNat = at' + 1 + 1 + n := by omega
    have i3 : (0 : Int) ≤ (at' : Int) + 1 + 1 + (n : Int) := by omega
    have i4 : (at' : Int) + 1 + 1 + (n : Int) ≤ (s.size : Int) := by omega
    obtain ⟨r, hr⟩ : ∃ r, s.extract (at' + 1 + 1 + n) s.size = r := ⟨_, rfl⟩
    rw [hr, fC_text] at HO
    clear hn HB
    go_enter Tryz.func25, Tryz.ntmps25
    go_wp2_with (go_at_call 24; refine (CR _).mono ?_; rintro e w' ⟨rfl, rfl⟩)
    all_goals first
      | exact two_sides (show r.toList.isEmpty = true by assumption) (by assumption)
      | exact two_sides (show (r.toList == [102]) = true by assumption) (by assumption)
      | exact two_sides (show (r.toList == [70]) = true by assumption) (by assumption)
      | exact two_sides (show (r.toList == [108]) = true by assumption) (by assumption)
      | exact two_sides (show (r.toList == [76]) = true by assumption) (by assumption)
      | (go_ret; exact ⟨rb HO.out.symm, rfl⟩)
      | (go_ret; exact ⟨rb (by rw [HO.out]; simp [*]), rfl⟩)

set_option maxRecDepth 100000 in
set_option maxHeartbeats 4000000 in
theorem rends_02 (s : ByteArray) (at' : Nat) (small great : UInt8) (may : Bool) (w : World) (hs : s.size ≤ maxLen) (ha : at' ≤ s.size) (h : at' < s.size) (h1 : ((s[at'].toNat : Int) == (small.toNat : Int)) = true) (g : at' + 1 < s.size) (g1 : ((s[at' + 1].toNat : Int) == 43) = false) (g2 : ((s[at' + 1].toNat : Int) == 45) = true) : Calls Tryz.prog 25 #[.string s, .int .i64 at', .int .u8 small.toNat, .int .u8 great.toNat, .bool may] w fun e w' => e = .returned (.bool (endsC small great may (s.data.toList.drop at'))) ∧ w = w' := by
  have hO := ends_yes (great := great) (small := small) may h (.inl (byte_of h1))
  rw [sign_yes g (.inr (byte_of (b := 45) g2)), rest_at] at hO
  have CR := fun w => run_any s (at' + 1 + 1) 10 w hs (by omega) (by decide)
  have hl := digits_len 10 (s.data.toList.drop (at' + 1 + 1))
  rw [List.length_drop, size_list] at hl
  generalize (digitsC 10 (s.data.toList.drop (at' + 1 + 1))).length = n at *
  have HB := Lib.hid hO
  clear hO
  generalize endsC small great may (s.data.toList.drop at') = R at *
  push_cast at CR
  unfold maxLen at hs
  have j1 : (at' : Int) < (s.size : Int) := by omega
  have j2 : (at' : Int) + 1 < (s.size : Int) := by omega
  have j3 : ((at' : Int) + 1).toNat = at' + 1 := by omega
  have j4 : (0 : Int) ≤ (at' : Int) + 1 := by omega
  by_cases hn : n = 0
  · have HO : Hid (R = false) := Lib.hid (HB.out.trans (if_pos hn))
    have i1 : ((n : Int) == 0) = true := by simp [hn]
    clear hn HB
    go_enter Tryz.func25, Tryz.ntmps25
    go_wp2_with (go_at_call 24; refine (CR _).mono ?_; rintro e w' ⟨rfl, rfl⟩)
    go_ret
    exact ⟨rb HO.out.symm, rfl⟩
  · have HO := Lib.hid (HB.out.trans (if_neg hn))
    have i1 : ((n : Int) == 0) = false := beq_eq_false_iff_ne.2 (by omega)
    have i2 : ((at' : Int) + 1 + 1 + (n : Int)).toNat = at' + 1 + 1 + n := by omega
    have i3 : (0 : Int) ≤ (at' : Int) + 1 + 1 + (n : Int) := by omega
    have i4 : (at' : Int) + 1 + 1 + (n : Int) ≤ (s.size : Int) := by omega
    obtain ⟨r, hr⟩ : ∃ r, s.extract (at' + 1 + 1 + n) s.size = r := ⟨_, rfl⟩
    rw [hr, fC_text] at HO
    clear hn HB
    go_enter Tryz.func25, Tryz.ntmps25
    go_wp2_with (go_at_call 24; refine (CR _).mono ?_; rintro e w' ⟨rfl, rfl⟩)
    all_goals first
      | exact two_sides (show r.toList.isEmpty = true by assumption) (by assumption)
      | exact two_sides (show (r.toList == [102]) = true by assumption) (by assumption)
      | exact two_sides (show (r.toList == [70]) = true by assumption) (by assumption)
      | exact two_sides (show (r.toList == [108]) = true by assumption) (by assumption)
      | exact two_sides (show (r.toList == [76]) = true by assumption) (by assumption)
      | (go_ret; exact ⟨rb HO.out.symm, rfl⟩)
      | (go_ret; exact ⟨rb (by rw [HO.out]; simp [*]), rfl⟩)

set_option maxRecDepth 100000 in
set_option maxHeartbeats 4000000 in
theorem rends_03 (s : ByteArray) (at' : Nat) (small great : UInt8) (may : Bool) (w : World) (hs : s.size ≤ maxLen) (ha : at' ≤ s.size) (h : at' < s.size) (h1 : ((s[at'].toNat : Int) == (small.toNat : Int)) = true) (g : at' + 1 < s.size) (g1 : ((s[at' + 1].toNat : Int) == 43) = false) (g2 : ((s[at' + 1].toNat : Int) == 45) = false) : Calls Tryz.prog 25 #[.string s, .int .i64 at', .int .u8 small.toNat, .int .u8 great.toNat, .bool may] w fun e w' => e = .returned (.bool (endsC small great may (s.data.toList.drop at'))) ∧ w = w' := by
  have hO := ends_yes (great := great) (small := small) may h (.inl (byte_of h1))
  rw [sign_no (s := s) (k := at' + 1) (fun _ => ⟨byte_not (b := 43) g1, byte_not (b := 45) g2⟩), rest_at] at hO
  have CR := fun w => run_any s (at' + 1) 10 w hs (by omega) (by decide)
  have hl := digits_len 10 (s.data.toList.drop (at' + 1))
  rw [List.length_drop, size_list] at hl
  generalize (digitsC 10 (s.data.toList.drop (at' + 1))).length = n at *
  have HB := Lib.hid hO
  clear hO
  generalize endsC small great may (s.data.toList.drop at') = R at *
  push_cast at CR
  unfold maxLen at hs
  have j1 : (at' : Int) < (s.size : Int) := by omega
  have j2 : (at' : Int) + 1 < (s.size : Int) := by omega
  have j3 : ((at' : Int) + 1).toNat = at' + 1 := by omega
  have j4 : (0 : Int) ≤ (at' : Int) + 1 := by omega
  by_cases hn : n = 0
  · have HO : Hid (R = false) := Lib.hid (HB.out.trans (if_pos hn))
    have i1 : ((n : Int) == 0) = true := by simp [hn]
    clear hn HB
    go_enter Tryz.func25, Tryz.ntmps25
    go_wp2_with (go_at_call 24; refine (CR _).mono ?_; rintro e w' ⟨rfl, rfl⟩)
    go_ret
    exact ⟨rb HO.out.symm, rfl⟩
  · have HO := Lib.hid (HB.out.trans (if_neg hn))
    have i1 : ((n : Int) == 0) = false := beq_eq_false_iff_ne.2 (by omega)
    have i2 : ((at' : Int) + 1 + (n : Int)).toNat = at' + 1 + n := by omega
    have i3 : (0 : Int) ≤ (at' : Int) + 1 + (n : Int) := by omega
    have i4 : (at' : Int) + 1 + (n : Int) ≤ (s.size : Int) := by omega
    obtain ⟨r, hr⟩ : ∃ r, s.extract (at' + 1 + n) s.size = r := ⟨_, rfl⟩
    rw [hr, fC_text] at HO
    clear hn HB
    go_enter Tryz.func25, Tryz.ntmps25
    go_wp2_with (go_at_call 24; refine (CR _).mono ?_; rintro e w' ⟨rfl, rfl⟩)
    all_goals first
      | exact two_sides (show r.toList.isEmpty = true by assumption) (by assumption)
      | exact two_sides (show (r.toList == [102]) = true by assumption) (by assumption)
      | exact two_sides (show (r.toList == [70]) = true by assumption) (by assumption)
      | exact two_sides (show (r.toList == [108]) = true by assumption) (by assumption)
      | exact two_sides (show (r.toList == [76]) = true by assumption) (by assumption)
      | (go_ret; exact ⟨rb HO.out.symm, rfl⟩)
      | (go_ret; exact ⟨rb (by rw [HO.out]; simp [*]), rfl⟩)

set_option maxRecDepth 100000 in
set_option maxHeartbeats 4000000 in
theorem rends_10 (s : ByteArray) (at' : Nat) (small great : UInt8) (may : Bool) (w : World) (hs : s.size ≤ maxLen) (ha : at' ≤ s.size) (h : at' < s.size) (h1 : ((s[at'].toNat : Int) == (small.toNat : Int)) = false) (h2 : ((s[at'].toNat : Int) == (great.toNat : Int)) = true) (g : ¬ at' + 1 < s.size) : Calls Tryz.prog 25 #[.string s, .int .i64 at', .int .u8 small.toNat, .int .u8 great.toNat, .bool may] w fun e w' => e = .returned (.bool (endsC small great may (s.data.toList.drop at'))) ∧ w = w' := by
  have hO := ends_yes (great := great) (small := small) may h (.inr (byte_of h2))
  rw [sign_no (s := s) (k := at' + 1) (fun e => absurd e g), rest_at] at hO
  have CR := fun w => run_any s (at' + 1) 10 w hs (by omega) (by decide)
  have hl := digits_len 10 (s.data.toList.drop (at' + 1))
  rw [List.length_drop, size_list] at hl
  generalize (digitsC 10 (s.data.toList.drop (at' + 1))).length = n at *
  have HB := Lib.hid hO
  clear hO
  generalize endsC small great may (s.data.toList.drop at') = R at *
  push_cast at CR
  unfold maxLen at hs
  have j1 : (at' : Int) < (s.size : Int) := by omega
  have j2 : ¬ (at' : Int) + 1 < (s.size : Int) := by omega
  by_cases hn : n = 0
  · have HO : Hid (R = false) := Lib.hid (HB.out.trans (if_pos hn))
    have i1 : ((n : Int) == 0) = true := by simp [hn]
    clear hn HB
    go_enter Tryz.func25, Tryz.ntmps25
    go_wp2_with (go_at_call 24; refine (CR _).mono ?_; rintro e w' ⟨rfl, rfl⟩)
    go_ret
    exact ⟨rb HO.out.symm, rfl⟩
  · have HO := Lib.hid (HB.out.trans (if_neg hn))
    have i1 : ((n : Int) == 0) = false := beq_eq_false_iff_ne.2 (by omega)
    have i2 : ((at' : Int) + 1 + (n : Int)).toNat = at' + 1 + n := by omega
    have i3 : (0 : Int) ≤ (at' : Int) + 1 + (n : Int) := by omega
    have i4 : (at' : Int) + 1 + (n : Int) ≤ (s.size : Int) := by omega
    obtain ⟨r, hr⟩ : ∃ r, s.extract (at' + 1 + n) s.size = r := ⟨_, rfl⟩
    rw [hr, fC_text] at HO
    clear hn HB
    go_enter Tryz.func25, Tryz.ntmps25
    go_wp2_with (go_at_call 24; refine (CR _).mono ?_; rintro e w' ⟨rfl, rfl⟩)
    all_goals first
      | exact two_sides (show r.toList.isEmpty = true by assumption) (by assumption)
      | exact two_sides (show (r.toList == [102]) = true by assumption) (by assumption)
      | exact two_sides (show (r.toList == [70]) = true by assumption) (by assumption)
      | exact two_sides (show (r.toList == [108]) = true by assumption) (by assumption)
      | exact two_sides (show (r.toList == [76]) = true by assumption) (by assumption)
      | (go_ret; exact ⟨rb HO.out.symm, rfl⟩)
      | (go_ret; exact ⟨rb (by rw [HO.out]; simp [*]), rfl⟩)

set_option maxRecDepth 100000 in
set_option maxHeartbeats 4000000 in
theorem rends_11 (s : ByteArray) (at' : Nat) (small great : UInt8) (may : Bool) (w : World) (hs : s.size ≤ maxLen) (ha : at' ≤ s.size) (h : at' < s.size) (h1 : ((s[at'].toNat : Int) == (small.toNat : Int)) = false) (h2 : ((s[at'].toNat : Int) == (great.toNat : Int)) = true) (g : at' + 1 < s.size) (g1 : ((s[at' + 1].toNat : Int) == 43) = true) : Calls Tryz.prog 25 #[.string s, .int .i64 at', .int .u8 small.toNat, .int .u8 great.toNat, .bool may] w fun e w' => e = .returned (.bool (endsC small great may (s.data.toList.drop at'))) ∧ w = w' := by
  have hO := ends_yes (great := great) (small := small) may h (.inr (byte_of h2))
  rw [sign_yes g (.inl (byte_of (b := 43) g1)), rest_at] at hO
  have CR := fun w => run_any s (at' + 1 + 1) 10 w hs (by omega) (by decide)
  have hl := digits_len 10 (s.data.toList.drop (at' + 1 + 1))
  rw [List.length_drop, size_list] at hl
  generalize (digitsC 10 (s.data.toList.drop (at' + 1 + 1))).length = n at *
  have HB := Lib.hid hO
  clear hO
  generalize endsC small great may (s.data.toList.drop at') = R at *
  push_cast at CR
  unfold maxLen at hs
  have j1 : (at' : Int) < (s.size : Int) := by omega
  have j2 : (at' : Int) + 1 < (s.size : Int) := by omega
  have j3 : ((at' : Int) + 1).toNat = at' + 1 := by omega
  have j4 : (0 : Int) ≤ (at' : Int) + 1 := by omega
  by_cases hn : n = 0
  · have HO : Hid (R = false) := Lib.hid (HB.out.trans (if_pos hn))
    have i1 : ((n : Int) == 0) = true := by simp [hn]
    clear hn HB
    go_enter Tryz.func25, Tryz.ntmps25
    go_wp2_with (go_at_call 24; refine (CR _).mono ?_; rintro e w' ⟨rfl, rfl⟩)
    go_ret
    exact ⟨rb HO.out.symm, rfl⟩
  · have HO := Lib.hid (HB.out.trans (if_neg hn))
    have i1 : ((n : Int) == 0) = false := beq_eq_false_iff_ne.2 (by omega)
    have i2 : ((at' : Int) + 1 + 1 + (n : Int)).toNat = at' + 1 + 1 + n := by omega
    have i3 : (0 : Int) ≤ (at' : Int) + 1 + 1 + (n : Int) := by omega
    have i4 : (at' : Int) + 1 + 1 + (n : Int) ≤ (s.size : Int) := by omega
    obtain ⟨r, hr⟩ : ∃ r, s.extract (at' + 1 + 1 + n) s.size = r := ⟨_, rfl⟩
    rw [hr, fC_text] at HO
    clear hn HB
    go_enter Tryz.func25, Tryz.ntmps25
    go_wp2_with (go_at_call 24; refine (CR _).mono ?_; rintro e w' ⟨rfl, rfl⟩)
    all_goals first
      | exact two_sides (show r.toList.isEmpty = true by assumption) (by assumption)
      | exact two_sides (show (r.toList == [102]) = true by assumption) (by assumption)
      | exact two_sides (show (r.toList == [70]) = true by assumption) (by assumption)
      | exact two_sides (show (r.toList == [108]) = true by assumption) (by assumption)
      | exact two_sides (show (r.toList == [76]) = true by assumption) (by assumption)
      | (go_ret; exact ⟨rb HO.out.symm, rfl⟩)
      | (go_ret; exact ⟨rb (by rw [HO.out]; simp [*]), rfl⟩)

set_option maxRecDepth 100000 in
set_option maxHeartbeats 4000000 in
theorem rends_12 (s : ByteArray) (at' : Nat) (small great : UInt8) (may : Bool) (w : World) (hs : s.size ≤ maxLen) (ha : at' ≤ s.size) (h : at' < s.size) (h1 : ((s[at'].toNat : Int) == (small.toNat : Int)) = false) (h2 : ((s[at'].toNat : Int) == (great.toNat : Int)) = true) (g : at' + 1 < s.size) (g1 : ((s[at' + 1].toNat : Int) == 43) = false) (g2 : ((s[at' + 1].toNat : Int) == 45) = true) : Calls Tryz.prog 25 #[.string s, .int .i64 at', .int .u8 small.toNat, .int .u8 great.toNat, .bool may] w fun e w' => e = .returned (.bool (endsC small great may (s.data.toList.drop at'))) ∧ w = w' := by
  have hO := ends_yes (great := great) (small := small) may h (.inr (byte_of h2))
  rw [sign_yes g (.inr (byte_of (b := 45) g2)), rest_at] at hO
  have CR := fun w => run_any s (at' + 1 + 1) 10 w hs (by omega) (by decide)
  have hl := digits_len 10 (s.data.toList.drop (at' + 1 + 1))
  rw [List.length_drop, size_list] at hl
  generalize (digitsC 10 (s.data.toList.drop (at' + 1 + 1))).length = n at *
  have HB := Lib.hid hO
  clear hO
  generalize endsC small great may (s.data.toList.drop at') = R at *
  push_cast at CR
  unfold maxLen at hs
  have j1 : (at' : Int) < (s.size : Int) := by omega
  have j2 : (at' : Int) + 1 < (s.size : Int) := by omega
  have j3 : ((at' : Int) + 1).toNat = at' + 1 := by omega
  have j4 : (0 : Int) ≤ (at' : Int) + 1 := by omega
  by_cases hn : n = 0
  · have HO : Hid (R = false) := Lib.hid (HB.out.trans (if_pos hn))
    have i1 : ((n : Int) == 0) = true := by simp [hn]
    clear hn HB
    go_enter Tryz.func25, Tryz.ntmps25
    go_wp2_with (go_at_call 24; refine (CR _).mono ?_; rintro e w' ⟨rfl, rfl⟩)
    go_ret
    exact ⟨rb HO.out.symm, rfl⟩
  · have HO := Lib.hid (HB.out.trans (if_neg hn))
    have i1 : ((n : Int) == 0) = false := beq_eq_false_iff_ne.2 (by omega)
    have i2 : ((at' : Int) + 1 + 1 + (n : Int)).toNat = at' + 1 + 1 + n := by omega
    have i3 : (0 : Int) ≤ (at' : Int) + 1 + 1 + (n : Int) := by omega
    have i4 : (at' : Int) + 1 + 1 + (n : Int) ≤ (s.size : Int) := by omega
    obtain ⟨r, hr⟩ : ∃ r, s.extract (at' + 1 + 1 + n) s.size = r := ⟨_, rfl⟩
    rw [hr, fC_text] at HO
    clear hn HB
    go_enter Tryz.func25, Tryz.ntmps25
    go_wp2_with (go_at_call 24; refine (CR _).mono ?_; rintro e w' ⟨rfl, rfl⟩)
    all_goals first
      | exact two_sides (show r.toList.isEmpty = true by assumption) (by assumption)
      | exact two_sides (show (r.toList == [102]) = true by assumption) (by assumption)
      | exact two_sides (show (r.toList == [70]) = true by assumption) (by assumption)
      | exact two_sides (show (r.toList == [108]) = true by assumption) (by assumption)
      | exact two_sides (show (r.toList == [76]) = true by assumption) (by assumption)
      | (go_ret; exact ⟨rb HO.out.symm, rfl⟩)
      | (go_ret; exact ⟨rb (by rw [HO.out]; simp [*]), rfl⟩)

set_option maxRecDepth 100000 in
set_option maxHeartbeats 4000000 in
theorem rends_13 (s : ByteArray) (at' : Nat) (small great : UInt8) (may : Bool) (w : World) (hs : s.size ≤ maxLen) (ha : at' ≤ s.size) (h : at' < s.size) (h1 : ((s[at'].toNat : Int) == (small.toNat : Int)) = false) (h2 : ((s[at'].toNat : Int) == (great.toNat : Int)) = true) (g : at' + 1 < s.size) (g1 : ((s[at' + 1].toNat : Int) == 43) = false) (g2 : ((s[at' + 1].toNat : Int) == 45) = false) : Calls Tryz.prog 25 #[.string s, .int .i64 at', .int .u8 small.toNat, .int .u8 great.toNat, .bool may] w fun e w' => e = .returned (.bool (endsC small great may (s.data.toList.drop at'))) ∧ w = w' := by
  have hO := ends_yes (great := great) (small := small) may h (.inr (byte_of h2))
  rw [sign_no (s := s) (k := at' + 1) (fun _ => ⟨byte_not (b := 43) g1, byte_not (b := 45) g2⟩), rest_at] at hO
  have CR := fun w => run_any s (at' + 1) 10 w hs (by omega) (by decide)
  have hl := digits_len 10 (s.data.toList.drop (at' + 1))
  rw [List.length_drop, size_list] at hl
  generalize (digitsC 10 (s.data.toList.drop (at' + 1))).length = n at *
  have HB := Lib.hid hO
  clear hO
  generalize endsC small great may (s.data.toList.drop at') = R at *
  push_cast at CR
  unfold maxLen at hs
  have j1 : (at' : Int) < (s.size : Int) := by omega
  have j2 : (at' : Int) + 1 < (s.size : Int) := by omega
  have j3 : ((at' : Int) + 1).toNat = at' + 1 := by omega
  have j4 : (0 : Int) ≤ (at' : Int) + 1 := by omega
  by_cases hn : n = 0
  · have HO : Hid (R = false) := Lib.hid (HB.out.trans (if_pos hn))
    have i1 : ((n : Int) == 0) = true := by simp [hn]
    clear hn HB
    go_enter Tryz.func25, Tryz.ntmps25
    go_wp2_with (go_at_call 24; refine (CR _).mono ?_; rintro e w' ⟨rfl, rfl⟩)
    go_ret
    exact ⟨rb HO.out.symm, rfl⟩
  · have HO := Lib.hid (HB.out.trans (if_neg hn))
    have i1 : ((n : Int) == 0) = false := beq_eq_false_iff_ne.2 (by omega)
    have i2 : ((at' : Int) + 1 + (n : Int)).toNat = at' + 1 + n := by omega
    have i3 : (0 : Int) ≤ (at' : Int) + 1 + (n : Int) := by omega
    have i4 : (at' : Int) + 1 + (n : Int) ≤ (s.size : Int) := by omega
    obtain ⟨r, hr⟩ : ∃ r, s.extract (at' + 1 + n) s.size = r := ⟨_, rfl⟩
    rw [hr, fC_text] at HO
    clear hn HB
    go_enter Tryz.func25, Tryz.ntmps25
    go_wp2_with (go_at_call 24; refine (CR _).mono ?_; rintro e w' ⟨rfl, rfl⟩)
    all_goals first
      | exact two_sides (show r.toList.isEmpty = true by assumption) (by assumption)
      | exact two_sides (show (r.toList == [102]) = true by assumption) (by assumption)
      | exact two_sides (show (r.toList == [70]) = true by assumption) (by assumption)
      | exact two_sides (show (r.toList == [108]) = true by assumption) (by assumption)
      | exact two_sides (show (r.toList == [76]) = true by assumption) (by assumption)
      | (go_ret; exact ⟨rb HO.out.symm, rfl⟩)
      | (go_ret; exact ⟨rb (by rw [HO.out]; simp [*]), rfl⟩)

theorem rends_any (s : ByteArray) (at' : Nat) (small great : UInt8) (may : Bool) (w : World) (hs : s.size ≤ maxLen) (ha : at' ≤ s.size) : Calls Tryz.prog 25 #[.string s, .int .i64 at', .int .u8 small.toNat, .int .u8 great.toNat, .bool may] w fun e w' => e = .returned (.bool (endsC small great may (s.data.toList.drop at'))) ∧ w = w' := by
  by_cases h : at' < s.size
  · cases h1 : ((s[at'].toNat : Int) == (small.toNat : Int)) with
    | true =>
      by_cases g : at' + 1 < s.size
      · cases g1 : ((s[at' + 1].toNat : Int) == 43) with
        | true => exact rends_01 s at' small great may w hs ha h h1 g g1
        | false =>
          cases g2 : ((s[at' + 1].toNat : Int) == 45) with
          | true => exact rends_02 s at' small great may w hs ha h h1 g g1 g2
          | false => exact rends_03 s at' small great may w hs ha h h1 g g1 g2
      · exact rends_00 s at' small great may w hs ha h h1 g
    | false =>
      cases h2 : ((s[at'].toNat : Int) == (great.toNat : Int)) with
      | true =>
        by_cases g : at' + 1 < s.size
        · cases g1 : ((s[at' + 1].toNat : Int) == 43) with
          | true => exact rends_11 s at' small great may w hs ha h h1 h2 g g1
          | false =>
            cases g2 : ((s[at' + 1].toNat : Int) == 45) with
            | true => exact rends_12 s at' small great may w hs ha h h1 h2 g g1 g2
            | false => exact rends_13 s at' small great may w hs ha h h1 h2 g g1 g2
        · exact rends_10 s at' small great may w hs ha h h1 h2 g
      | false => exact rends_no s at' small great may w hs ha h h1 h2
  · exact rends_end s at' small great may w hs ha h

end Go.Proofs.YtenmapahigbbeaaGreat
