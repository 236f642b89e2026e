/- Several texts laid together. -/
import Derived.Test.YtenmapahigbbeaaCtJ
import Derived.Test.YtenmapahigbbeaaCtQ
import Derived.Test.YtenmapahigbbeaaCtN
import Derived.Test.YtenmapahigbbeaaCtU
import Derived.Test.YtenmapahigbbeaaRefUS

namespace Go.Proofs.Ytenmapahigbbeaa
open Go.RowKit Go.Shelf

set_option maxHeartbeats 1000000 in
theorem rdig_any (c : UInt8) (w : World) : Calls Try.prog 30 #[.int .u8 c.toNat] w fun e w' => e = .returned (.int .i64 (worthC c : Nat)) ∧ w = w' := by
  have hc := c.toNat_lt
  go_enter Try.func30, Try.ntmps30
  go_wp2
  all_goals
    go_ret
    refine ⟨ri ?_, rfl⟩
    rw [worthC_nat]
    repeat' split
    all_goals omega

theorem digits_one {b : Nat} {s : ByteArray} {k : Nat} (hk : k < s.size) (h : worthC s[k] < b) : (digitsC b (s.data.toList.drop k)).length = (digitsC b (s.data.toList.drop (k + 1))).length + 1 := by
  rw [data_drop s k hk]
  unfold digitsC
  rw [List.takeWhile_cons, decide_eq_true h]
  rfl
theorem digits_none {b : Nat} {s : ByteArray} {k : Nat} (hk : k < s.size) (h : ¬ worthC s[k] < b) : (digitsC b (s.data.toList.drop k)).length = 0 := by
  rw [data_drop s k hk]
  unfold digitsC
  rw [List.takeWhile_cons, decide_eq_false h]
  rfl
theorem digits_end {b : Nat} {s : ByteArray} {k : Nat} (hk : s.size ≤ k) : (digitsC b (s.data.toList.drop k)).length = 0 := by
  rw [List.drop_eq_nil_of_le (by rw [size_list]; exact hk)]; rfl

set_option maxHeartbeats 2000000 in
theorem run_any (s : ByteArray) (at' b : Nat) (w : World) (hs : s.size ≤ maxLen) (ha : at' ≤ s.size) (hb : b ≤ 16) :
    Calls Try.prog 28 #[.string s, .int .i64 at', .int .i64 b] w fun e w' => e = .returned (.int .i64 ((digitsC b (s.data.toList.drop at')).length : Nat)) ∧ w = w' := by
  unfold maxLen at hs
  go_enter Try.func28, Try.ntmps28
  go_wp2
  go_loop [7] (fun n => ∃ k : Nat, at' + k ≤ s.size ∧ n = .int .i64 k ∧ Hid ((digitsC b (s.data.toList.drop at')).length = k + (digitsC b (s.data.toList.drop (at' + k))).length)) (fun n => s.size - (intOf n).toNat)
  case atStart => exact ⟨0, ha, rfl, Lib.hid (by simp)⟩
  case round =>
    obtain ⟨k, hk, rfl, HE⟩ := hrel
    by_cases hlt : at' + k < s.size
    · have C := fun w => rdig_any s[at' + k] w
      have i1 : (at' : Int) + (k : Int) < (s.size : Int) := by omega
      have i2 : (0 : Int) ≤ (at' : Int) + (k : Int) := by omega
      have i3 : ((at' : Int) + (k : Int)).toNat = at' + k := by omega
      by_cases hd : worthC s[at' + k] < b
      · have HN : Hid ((digitsC b (s.data.toList.drop at')).length = k + 1 + (digitsC b (s.data.toList.drop (at' + (k + 1)))).length) := Lib.hid (by
          rw [HE.out, digits_one hlt hd, show at' + k + 1 = at' + (k + 1) by omega]; omega)
        have i4 : ((worthC s[at' + k] : Nat) : Int) < (b : Int) := by omega
        clear HE
        go_wp2_with (go_at_call 30; refine (C _).mono ?_; rintro e w' ⟨rfl, rfl⟩)
        go_round
        case rel => exact ⟨k + 1, by omega, by go_num, HN⟩
        case measure => simp [intOf]; omega
      · have HN : Hid ((digitsC b (s.data.toList.drop at')).length = k) := Lib.hid (by rw [HE.out, digits_none hlt hd]; omega)
        have i4 : ¬ ((worthC s[at' + k] : Nat) : Int) < (b : Int) := by omega
        clear HE
        go_wp2_with (go_at_call 30; refine (C _).mono ?_; rintro e w' ⟨rfl, rfl⟩)
        go_ret
        exact ⟨ri (by rw [HN.out]), rfl⟩
    · have HN : Hid ((digitsC b (s.data.toList.drop at')).length = k) := Lib.hid (by rw [HE.out, digits_end (by omega)]; omega)
      have i1 : ¬ (at' : Int) + (k : Int) < (s.size : Int) := by omega
      clear HE
      go_wp2
      go_ret
      exact ⟨ri (by rw [HN.out]), rfl⟩

/-! ### The sign of a base -/
theorem hexB_short {s : ByteArray} (h : ¬ 1 < s.size) : hexB s.data.toList = false := by
  cases hx : hexB s.data.toList with
  | false => rfl
  | true =>
    have := (base_hex hx).2
    rw [size_list] at this; omega
theorem hexB_two {s : ByteArray} (h : 1 < s.size) : hexB s.data.toList = (((s[0].toNat : Int) == 48) && (((s[1].toNat : Int) == 120) || ((s[1].toNat : Int) == 88))) := by
  have h0 := data_drop s 0 (by omega)
  have h1 := data_drop s 1 h
  rw [List.drop_zero] at h0
  rw [h0, h1]
  have e : ∀ (a b : UInt8), (a == b) = ((b.toNat : Int) == (a.toNat : Int)) := fun a b => by
    rw [Bool.eq_iff_iff, beq_iff_eq, beq_iff_eq, ← UInt8.toNat_inj]; omega
  unfold hexB
  simp only [List.isPrefixOf, Bool.and_true]
  rw [e 48, e 120, e 88]
  show ((s[0].toNat : Int) == 48 && (s[1].toNat : Int) == 120 || (s[0].toNat : Int) == 48 && (s[1].toNat : Int) == 88) = _
  cases ((s[0].toNat : Int) == 48) <;> simp

set_option maxHeartbeats 1000000 in
theorem hex_any (s : ByteArray) (w : World) (hs : s.size ≤ maxLen) : Calls Try.prog 27 #[.string s] w fun e w' => e = .returned (.bool (hexB s.data.toList)) ∧ w = w' := by
  unfold maxLen at hs
  by_cases h : 1 < s.size
  · have HB := Lib.hid (hexB_two h)
    generalize hexB s.data.toList = B at *
    have i1 : (1 : Int) < (s.size : Int) := by omega
    have i2 : (0 : Int) < (s.size : Int) := by omega
    cases h0 : ((s[0].toNat : Int) == 48) <;> cases h1 : ((s[1].toNat : Int) == 120) <;> cases h2 : ((s[1].toNat : Int) == 88)
    all_goals
      have HO := Lib.hid (HB.out.trans (by rw [h0, h1, h2]))
      clear HB
      go_enter Try.func27, Try.ntmps27
      go_wp2
      go_ret
      exact ⟨rb (by rw [HO.out]; rfl), rfl⟩
  · have HB := Lib.hid (hexB_short h)
    have i1 : ¬ (1 : Int) < (s.size : Int) := by omega
    go_enter Try.func27, Try.ntmps27
    go_wp2
    go_ret
    exact ⟨rb (by rw [HB.out]), rfl⟩

/-! ### Suffixes -/
theorem suf_nil {s : ByteArray} (h : s.size = 0) : sufC s.data.toList = (true, false) := by
  rw [List.length_eq_zero_iff.1 ((size_list s).trans h)]; decide
theorem uC_int (c : UInt8) : uC c = (((c.toNat : Int) == 117) || ((c.toNat : Int) == 85)) := by
  have e : ∀ (a b : UInt8), (b == a) = ((b.toNat : Int) == (a.toNat : Int)) := fun a b => by
    rw [Bool.eq_iff_iff, beq_iff_eq, beq_iff_eq, ← UInt8.toNat_inj]; omega
  unfold uC
  rw [e 117, e 85]; rfl
theorem last_at {s : ByteArray} (h : 0 < s.size) : s.data.toList.getLast? = some (s[s.size - 1]'(by omega)) := by
  rw [List.getLast?_eq_getElem?, size_list, data_get s (s.size - 1) (by omega)]
theorem head_of {s : ByteArray} (h : 0 < s.size) : s.data.toList.head? = some s[0] := by
  have := data_drop s 0 h
  rw [List.drop_zero] at this
  rw [this]; rfl
theorem suf_cases {s : ByteArray} (h : 0 < s.size) : sufC s.data.toList = if uC s[0] = true then (lC (s.extract 1 s.size).data.toList, true) else if uC (s[s.size - 1]'(by omega)) = true then (lC (s.extract 0 (s.size - 1)).data.toList, true) else (lC s.data.toList, false) := by
  unfold sufC
  rw [head_of h, last_at h]
  simp only [Option.map_some, Option.getD_some]
  rw [extract_end, List.drop_one, extract_list, List.drop_zero, List.dropLast_eq_take, size_list]
theorem lC_text (d : ByteArray) : lC d.data.toList = (d.toList.isEmpty || ((d.toList == [108]) || ((d.toList == [76]) || ((d.toList == [108, 108]) || (d.toList == [76, 76]))))) := by
  rw [lC_tests]
  simp only [Bool.or_assoc]

set_option maxRecDepth 100000 in
set_option maxHeartbeats 4000000 in
theorem rsuffix_any (s : ByteArray) (w : World) (hs : s.size ≤ maxLen) : Calls Try.prog 29 #[.string s] w fun e w' => e = .returned (.tuple #[.bool (sufC s.data.toList).1, .bool (sufC s.data.toList).2]) ∧ w = w' := by
  unfold maxLen at hs
  by_cases h : 0 < s.size
  · have hc := suf_cases h
    rw [uC_int, uC_int, lC_text, lC_text, lC_text] at hc
    have HB := Lib.hid hc
    clear hc
    generalize sufC s.data.toList = B at *
    have i1 : (0 : Int) < (s.size : Int) := by omega
    have v1 : wrap64 ((s.size : Int) - 1) = (s.size : Int) - 1 := IntWalk.wrap64_in _ (by omega)
    have v2 : ((s.size : Int) - 1).toNat = s.size - 1 := by omega
    have i2 : (0 : Int) ≤ (s.size : Int) - 1 := by omega
    have i3 : (s.size : Int) - 1 < (s.size : Int) := by omega
    have i4 : (s.size : Int) - 1 ≤ (s.size : Int) := by omega
    have i5 : (1 : Int) ≤ (s.size : Int) := by omega
    have close : ∀ (r : ByteArray) (b : Bool) (hO : Hid (B = (r.toList.isEmpty || ((r.toList == [108]) || ((r.toList == [76]) || ((r.toList == [108, 108]) || (r.toList == [76, 76])))), b))), Hid (B.2 = b) ∧ Hid (B.1 = (r.toList.isEmpty || (r.toList == [108]) || (r.toList == [76]) || (r.toList == [108, 108]) || (r.toList == [76, 76]))) := fun r b hO =>
      ⟨Lib.hid (by rw [hO.out]), Lib.hid (by rw [hO.out]; simp only [Bool.or_assoc])⟩
    cases h0 : ((s[0].toNat : Int) == 117)
    · cases h1 : ((s[0].toNat : Int) == 85)
      · have HB2 := Lib.hid (HB.out.trans (if_neg (by rw [h0, h1]; decide)))
        clear HB
        cases h2 : (((s[s.size - 1]'(by omega)).toNat : Int) == 117)
        · cases h3 : (((s[s.size - 1]'(by omega)).toNat : Int) == 85)
          · have HO := Lib.hid (HB2.out.trans (if_neg (by rw [h2, h3]; decide)))
            clear HB2
            obtain ⟨H2, H1⟩ := close s false HO
            clear HO close
            go_enter Try.func29, Try.ntmps29
            go_wp2
            all_goals first
              | exact two_sides (show s.toList.isEmpty = true by assumption) (by assumption)
              | exact two_sides (show (s.toList == [108]) = true by assumption) (by assumption)
              | exact two_sides (show (s.toList == [76]) = true by assumption) (by assumption)
              | exact two_sides (show (s.toList == [108, 108]) = true by assumption) (by assumption)
              | exact two_sides (show (s.toList == [76, 76]) = true by assumption) (by assumption)
              | (go_ret2; exact ⟨rbb H1.out.symm H2.out.symm, rfl⟩)
              | (go_ret2; exact ⟨rbb (by rw [H1.out]; simp [*]) H2.out.symm, rfl⟩)
          · have HO := Lib.hid (HB2.out.trans (if_pos (by rw [h3, Bool.or_true])))
            clear HB2
            obtain ⟨r, hr⟩ : ∃ r, s.extract 0 (s.size - 1) = r := ⟨_, rfl⟩
            rw [hr] at HO
            obtain ⟨H2, H1⟩ := close r true HO
            clear HO close
            go_enter Try.func29, Try.ntmps29
            go_wp2
            all_goals first
              | exact two_sides (show r.toList.isEmpty = true by assumption) (by assumption)
              | exact two_sides (show (r.toList == [108]) = true by assumption) (by assumption)
              | exact two_sides (show (r.toList == [76]) = true by assumption) (by assumption)
              | exact two_sides (show (r.toList == [108, 108]) = true by assumption) (by assumption)
              | exact two_sides (show (r.toList == [76, 76]) = true by assumption) (by assumption)
              | (go_ret2; exact ⟨rbb H1.out.symm H2.out.symm, rfl⟩)
              | (go_ret2; exact ⟨rbb (by rw [H1.out]; simp [*]) H2.out.symm, rfl⟩)
        · have HO := Lib.hid (HB2.out.trans (if_pos (by rw [h2, Bool.true_or])))
          clear HB2
          obtain ⟨r, hr⟩ : ∃ r, s.extract 0 (s.size - 1) = r := ⟨_, rfl⟩
          rw [hr] at HO
          obtain ⟨H2, H1⟩ := close r true HO
          clear HO close
          go_enter Try.func29, Try.ntmps29
          go_wp2
          all_goals first
            | exact two_sides (show r.toList.isEmpty = true by assumption) (by assumption)
            | exact two_sides (show (r.toList == [108]) = true by assumption) (by assumption)
            | exact two_sides (show (r.toList == [76]) = true by assumption) (by assumption)
            | exact two_sides (show (r.toList == [108, 108]) = true by assumption) (by assumption)
            | exact two_sides (show (r.toList == [76, 76]) = true by assumption) (by assumption)
            | (go_ret2; exact ⟨rbb H1.out.symm H2.out.symm, rfl⟩)
            | (go_ret2; exact ⟨rbb (by rw [H1.out]; simp [*]) H2.out.symm, rfl⟩)
      · have HO := Lib.hid (HB.out.trans (if_pos (by rw [h1, Bool.or_true])))
        clear HB
        obtain ⟨r, hr⟩ : ∃ r, s.extract 1 s.size = r := ⟨_, rfl⟩
        rw [hr] at HO
        obtain ⟨H2, H1⟩ := close r true HO
        clear HO close
        go_enter Try.func29, Try.ntmps29
        go_wp2
        all_goals first
          | exact two_sides (show r.toList.isEmpty = true by assumption) (by assumption)
          | exact two_sides (show (r.toList == [108]) = true by assumption) (by assumption)
          | exact two_sides (show (r.toList == [76]) = true by assumption) (by assumption)
          | exact two_sides (show (r.toList == [108, 108]) = true by assumption) (by assumption)
          | exact two_sides (show (r.toList == [76, 76]) = true by assumption) (by assumption)
          | (go_ret2; exact ⟨rbb H1.out.symm H2.out.symm, rfl⟩)
          | (go_ret2; exact ⟨rbb (by rw [H1.out]; simp [*]) H2.out.symm, rfl⟩)
    · have HO := Lib.hid (HB.out.trans (if_pos (by rw [h0]; rfl)))
      clear HB
      obtain ⟨r, hr⟩ : ∃ r, s.extract 1 s.size = r := ⟨_, rfl⟩
      rw [hr] at HO
      obtain ⟨H2, H1⟩ := close r true HO
      clear HO close
      go_enter Try.func29, Try.ntmps29
      go_wp2
      all_goals first
        | exact two_sides (show r.toList.isEmpty = true by assumption) (by assumption)
        | exact two_sides (show (r.toList == [108]) = true by assumption) (by assumption)
        | exact two_sides (show (r.toList == [76]) = true by assumption) (by assumption)
        | exact two_sides (show (r.toList == [108, 108]) = true by assumption) (by assumption)
        | exact two_sides (show (r.toList == [76, 76]) = true by assumption) (by assumption)
        | (go_ret2; exact ⟨rbb H1.out.symm H2.out.symm, rfl⟩)
        | (go_ret2; exact ⟨rbb (by rw [H1.out]; simp [*]) H2.out.symm, rfl⟩)
  · have hz : s.size = 0 := by omega
    have hse : s = ⟨#[]⟩ := by
      apply ByteArray.ext
      apply Array.toList_inj.1
      exact List.length_eq_zero_iff.1 ((size_list s).trans hz)
    subst hse
    have e1 : sufC (⟨#[]⟩ : ByteArray).data.toList = (true, false) := by decide
    rw [e1]
    clear e1
    go_enter Try.func29, Try.ntmps29
    go_wp2
    go_ret2
    exact ⟨rfl, rfl⟩

end Go.Proofs.Ytenmapahigbbeaa

namespace Go.Proofs.Ytenmapahigbbeaa
open Go.RowKit Go.Shelf

theorem num_ge (b : Nat) (hb : 0 < b) : ∀ (l : List UInt8) (v : Nat), v ≤ l.foldl (fun v c => v * b + worthC c) v
  | [], v => Nat.le_refl v
  | c :: l, v => by
    rw [List.foldl_cons]
    have h := Nat.le_mul_of_pos_right v hb
    exact Nat.le_trans (by omega) (num_ge b hb l _)
theorem num_take {b : Nat} (hb : 0 < b) (l : List UInt8) (k : Nat) : numC b (l.take k) ≤ numC b l := by
  conv => rhs; rw [← List.take_append_drop k l]
  unfold numC
  rw [List.foldl_append]
  exact num_ge b hb _ _
theorem rnum_step {b at' k : Nat} {s : ByteArray} (hk : k < (digitsC b (s.data.toList.drop at')).length) : ∃ h : at' + k < s.size, worthC s[at' + k] < b ∧ numC b ((digitsC b (s.data.toList.drop at')).take (k + 1)) = numC b ((digitsC b (s.data.toList.drop at')).take k) * b + worthC s[at' + k] := by
  obtain ⟨h1, h2⟩ := split_digits b (s.data.toList.drop at')
  have h3 : (s.data.toList.drop at')[k]? = some (digitsC b (s.data.toList.drop at'))[k] := by
    conv => lhs; rw [h2]
    rw [List.getElem?_append_left hk, List.getElem?_eq_getElem hk]
  rw [List.getElem?_drop] at h3
  have h4 : at' + k < s.size := by
    rw [← size_list]
    exact (List.getElem?_eq_some_iff.1 h3).1
  rw [data_get s _ h4] at h3
  have h5 : s[at' + k] = (digitsC b (s.data.toList.drop at'))[k] := Option.some.inj h3
  refine ⟨h4, ?_, ?_⟩
  · rw [h5]; exact h1 _ (List.getElem_mem hk)
  · rw [h5, List.take_succ_eq_append_getElem hk, numC_snoc]

theorem lead_eight {s : ByteArray} (h : hexB s.data.toList = false) (h0 : 0 < s.size) (h1 : ((s[0].toNat : Int) == 48) = true) : baseC s.data.toList = (8, s.data.toList) := by
  refine base_eight h ?_
  have := data_drop s 0 h0
  rw [List.drop_zero] at this
  rw [this]
  have e : s[0] = 48 := by
    apply UInt8.toNat_inj.1
    have := eq_of_beq h1
    show s[0].toNat = 48
    omega
  rw [e]; rfl
theorem lead_ten {s : ByteArray} (h1 : ∀ h : 0 < s.size, ((s[0].toNat : Int) == 48) = false) : baseC s.data.toList = (10, s.data.toList) := by
  refine base_else ?_
  by_cases h0 : 0 < s.size
  · have := data_drop s 0 h0
    rw [List.drop_zero] at this
    rw [this]
    have e : s[0] ≠ 48 := fun e => by
      have := h1 h0
      rw [e] at this; exact absurd this (by decide)
    simp only [List.isPrefixOf, Bool.and_true]
    exact beq_eq_false_iff_ne.2 (fun h => e h.symm)
  · rw [List.length_eq_zero_iff.1 (show s.data.toList.length = 0 by rw [size_list]; omega)]; rfl

theorem rint_facts (s : ByteArray) (b at' : Nat) (hb : 0 < b) (hbase : baseC s.data.toList = (b, s.data.toList.drop at')) (ha : at' ≤ s.size) : ∃ (gd : Nat → Nat) (n v : Nat) (is u : Bool), (digitsC b (s.data.toList.drop at')).length = n ∧ at' + n ≤ s.size ∧ sufC (s.extract (at' + n) s.size).data.toList = (is, u) ∧ Hid (intR s.data.toList = intP b n v is u) ∧
    Hid (∀ k, k < n → ∃ h : at' + k < s.size, worthC s[at' + k] < b ∧ gd (k + 1) = gd k * b + worthC s[at' + k]) ∧ Hid (∀ k, gd k ≤ v) ∧ gd n = v ∧ gd 0 = 0 := by
  obtain ⟨b', q, n, v, is, u, e1, hb0, hb16, e2, e3, e4, HR⟩ := int_parts s.data.toList
  obtain ⟨rfl, rfl⟩ := Prod.mk.inj (hbase.symm.trans e1)
  have hlen := digits_len b (s.data.toList.drop at')
  rw [List.length_drop, size_list, e2] at hlen
  refine ⟨fun k => numC b ((digitsC b (s.data.toList.drop at')).take k), n, v, is, u, e2, by omega, ?_, Lib.hid HR, Lib.hid ?_, Lib.hid ?_, ?_, rfl⟩
  · rw [extract_end, ← e4, rest_drop, List.drop_drop, e2]
  · intro k hk
    exact rnum_step (by rw [e2]; exact hk)
  · intro k
    show numC b ((digitsC b (s.data.toList.drop at')).take k) ≤ v
    rw [← e3]
    exact num_take hb _ _
  · show numC b ((digitsC b (s.data.toList.drop at')).take n) = v
    rw [← e2, List.take_length]; exact e3
theorem bool_of_int {a b : Bool} (h : (a = true) ↔ (b = true)) : a = b := Bool.eq_iff_iff.2 h

set_option maxRecDepth 100000 in
set_option maxHeartbeats 2000000 in
theorem rInt_hex (s : ByteArray) (w : World) (hs : s.size ≤ maxLen) (hx : hexB s.data.toList = true) : Calls Try.prog 9 #[.string s] w fun e w' => e = .returned (.tuple #[.int .u64 ((intR s.data.toList).1 : Nat), .bool (intR s.data.toList).2.1, .int .i64 ((intR s.data.toList).2.2 : Nat)]) ∧ w = w' := by
  have CH := fun w => hex_any s w hs
  have hbase := (base_hex hx).1
  have hsz := (base_hex hx).2
  rw [size_list] at hsz
  rw [hx] at CH
  clear hx
  obtain ⟨gd, n, v, is, u, e2, hlen, e4, HR, HN, HT, HZ, H0⟩ := rint_facts s 16 2 (by decide) hbase (by omega)
  generalize intR s.data.toList = R at *
  have CR := fun w => run_any s 2 16 w hs (by omega) (by decide)
  rw [e2] at CR
  have em : (min (s.size : Int) ((2 : Int) + (n : Int))).toNat = 2 + n := by omega
  have CS := fun w => rsuffix_any (s.extract (min (s.size : Int) ((2 : Int) + (n : Int))).toNat s.size) w (by rw [ByteArray.size_extract]; unfold maxLen at *; omega)
  rw [show sufC (s.extract (min (s.size : Int) ((2 : Int) + (n : Int))).toNat s.size).data.toList = (is, u) by rw [em]; exact e4] at CS
  skip
  clear em
  clear hbase e2 e4
  unfold maxLen at hs
  by_cases hn : n = 0
  · have HO : Hid (R = (0, false, 40)) := Lib.hid (by rw [HR.out]; unfold intP; rw [if_pos (.inl hn)])
    have i1 : ((n : Int) == 0) = true := by simp [hn]
    clear hn HR
    go_enter Try.func9, Try.ntmps9
    go_wp2_with (first | (go_at_call 27; refine (CH _).mono ?_; rintro e w' ⟨rfl, rfl⟩) | (go_at_call 28; refine (CR _).mono ?_; rintro e w' ⟨rfl, rfl⟩) | (go_at_call 29; refine (CS _).mono ?_; rintro e w' ⟨rfl, rfl⟩))
    go_ret3
    exact ⟨rubi (by rw [HO.out]), rfl⟩
  · have i1 : ((n : Int) == 0) = false := beq_eq_false_iff_ne.2 (by omega)
    cases is with
    | false =>
      have HO : Hid (R = (0, false, 40)) := Lib.hid (by rw [HR.out]; unfold intP; rw [if_pos (.inr (.inr rfl))])
      clear HR
      go_enter Try.func9, Try.ntmps9
      go_wp2_with (first | (go_at_call 27; refine (CH _).mono ?_; rintro e w' ⟨rfl, rfl⟩) | (go_at_call 28; refine (CR _).mono ?_; rintro e w' ⟨rfl, rfl⟩) | (go_at_call 29; refine (CS _).mono ?_; rintro e w' ⟨rfl, rfl⟩))
      go_ret3
      exact ⟨rubi (by rw [HO.out]), rfl⟩
    | true =>
      go_enter Try.func9, Try.ntmps9
      go_wp2_with (first | (go_at_call 27; refine (CH _).mono ?_; rintro e w' ⟨rfl, rfl⟩) | (go_at_call 28; refine (CR _).mono ?_; rintro e w' ⟨rfl, rfl⟩) | (go_at_call 29; refine (CS _).mono ?_; rintro e w' ⟨rfl, rfl⟩))
      go_loop [10, 11, 12] (fun v i _ => ∃ k : Nat, k ≤ n ∧ v = .int .u64 (gd k) ∧ i = .int .i64 ((2 : Int) + (k : Int)) ∧ gd k ≤ 18446744073709551615) (fun _ i _ => 2 + n - (intOf i).toNat)
      case atStart => exact ⟨0, Nat.zero_le _, by rw [H0]; rfl, rfl, by rw [H0]; decide⟩
      case round =>
        obtain ⟨k, hk, rfl, rfl, hle⟩ := hrel
        by_cases hlt : k < n
        · obtain ⟨h1, h2, h3⟩ := HN.out k hlt
          have C := fun w => rdig_any s[2 + k] w
          obtain ⟨x, hx⟩ : ∃ x, worthC s[2 + k] = x := ⟨_, rfl⟩
          simp only [hx] at C h2 h3
          clear hx
          have i2 : (2 : Int) + (k : Int) < (2 : Int) + (n : Int) := by omega
          have i3 : (2 : Int) + (k : Int) < (s.size : Int) := by omega
          have i4 : (0 : Int) ≤ (2 : Int) + (k : Int) := by omega
          have i5 : ((2 : Int) + (k : Int)).toNat = 2 + k := by omega
          have i6 : (0 : Int) ≤ (x : Nat) := by omega
          have i8 : ((x : Nat) : Int) < 16 := by omega
          clear HZ
          by_cases hv : gd k ≤ (18446744073709551615 - x) / 16
          · have j1 : ((gd k : Nat) : Int) ≤ (18446744073709551615 - ((x : Nat) : Int)) / 16 := by omega
            have HJ := Lib.hid h3
            have j3 : gd k * 16 + x ≤ 18446744073709551615 := by omega
            have j4 : gd (k + 1) ≤ 18446744073709551615 := by omega
            clear HT HR h3
            go_wp2_with (go_at_call 30; refine (C _).mono ?_; rintro e w' ⟨rfl, rfl⟩)
            go_round
            case rel => exact ⟨k + 1, hlt, by rw [HJ.out]; simp, by go_num, j4⟩
            case measure => simp [intOf]; omega
          · have j1 : ¬ ((gd k : Nat) : Int) ≤ (18446744073709551615 - ((x : Nat) : Int)) / 16 := by omega
            have h4 := HT.out (k + 1)
            have HO : Hid (R = (0, false, 40)) := Lib.hid (by rw [HR.out]; unfold intP; rw [if_pos (.inr (.inl (by omega)))])
            clear HT HR h4 h3
            go_wp2_with (go_at_call 30; refine (C _).mono ?_; rintro e w' ⟨rfl, rfl⟩)
            go_ret3
            exact ⟨rubi (by rw [HO.out]), rfl⟩
        · obtain rfl : k = n := by omega
          have i2 : ¬ (2 : Int) + (k : Int) < (2 : Int) + (k : Int) := by omega
          rw [HZ] at hle ⊢
          have HO : Hid (R = if 9223372036854775807 < v ∧ u = false then (if 16 = 10 then (0, false, 40) else (v, true, 0)) else (v, u, 0)) := Lib.hid (by rw [HR.out]; unfold intP; rw [if_neg (by simp [hn]; omega)])
          clear HR HT HN HZ
          by_cases hh : 9223372036854775807 < v
          · have i7 : (9223372036854775807 : Int) < (v : Int) := by omega
            cases u with
            | true =>
              have HO2 := Lib.hid (HO.out.trans (if_neg (by simp)))
              clear HO hh
              go_wp2
              go_ret3
              exact ⟨rubi (by rw [HO2.out]), rfl⟩
            | false =>
              have HO2 := Lib.hid ((HO.out.trans (if_pos ⟨hh, rfl⟩)).trans (if_neg (by decide)))
              clear HO hh
              go_wp2
              go_ret3
              exact ⟨rubi (by rw [HO2.out]), rfl⟩
          · have HO2 := Lib.hid (HO.out.trans (if_neg (fun h => hh h.1)))
            have i7 : ¬ (9223372036854775807 : Int) < (v : Int) := by omega
            clear HO hh
            cases u
            all_goals
              go_wp2
              go_ret3
              exact ⟨rubi (by rw [HO2.out]), rfl⟩

set_option maxRecDepth 100000 in
set_option maxHeartbeats 2000000 in
theorem rInt_eight (s : ByteArray) (w : World) (hs : s.size ≤ maxLen) (hx : hexB s.data.toList = false) (h0 : 0 < s.size) (h1 : ((s[0].toNat : Int) == 48) = true) : Calls Try.prog 9 #[.string s] w fun e w' => e = .returned (.tuple #[.int .u64 ((intR s.data.toList).1 : Nat), .bool (intR s.data.toList).2.1, .int .i64 ((intR s.data.toList).2.2 : Nat)]) ∧ w = w' := by
  have CH := fun w => hex_any s w hs
  have hbase := lead_eight hx h0 h1
  have h0i : (0 : Int) < (s.size : Int) := by omega
  rw [hx] at CH
  clear hx
  obtain ⟨gd, n, v, is, u, e2, hlen, e4, HR, HN, HT, HZ, H0⟩ := rint_facts s 8 0 (by decide) hbase (by omega)
  generalize intR s.data.toList = R at *
  have CR := fun w => run_any s 0 8 w hs (by omega) (by decide)
  rw [e2] at CR
  have em : (min (s.size : Int) ((n : Int))).toNat = 0 + n := by omega
  have CS := fun w => rsuffix_any (s.extract (min (s.size : Int) ((n : Int))).toNat s.size) w (by rw [ByteArray.size_extract]; unfold maxLen at *; omega)
  rw [show sufC (s.extract (min (s.size : Int) ((n : Int))).toNat s.size).data.toList = (is, u) by rw [em]; exact e4] at CS
  simp only [Nat.zero_add] at HN hlen
  clear em
  clear hbase e2 e4
  unfold maxLen at hs
  by_cases hn : n = 0
  · have HO : Hid (R = (0, false, 40)) := Lib.hid (by rw [HR.out]; unfold intP; rw [if_pos (.inl hn)])
    have i1 : ((n : Int) == 0) = true := by simp [hn]
    clear hn HR
    go_enter Try.func9, Try.ntmps9
    go_wp2_with (first | (go_at_call 27; refine (CH _).mono ?_; rintro e w' ⟨rfl, rfl⟩) | (go_at_call 28; refine (CR _).mono ?_; rintro e w' ⟨rfl, rfl⟩) | (go_at_call 29; refine (CS _).mono ?_; rintro e w' ⟨rfl, rfl⟩))
    go_ret3
    exact ⟨rubi (by rw [HO.out]), rfl⟩
  · have i1 : ((n : Int) == 0) = false := beq_eq_false_iff_ne.2 (by omega)
    cases is with
    | false =>
      have HO : Hid (R = (0, false, 40)) := Lib.hid (by rw [HR.out]; unfold intP; rw [if_pos (.inr (.inr rfl))])
      clear HR
      go_enter Try.func9, Try.ntmps9
      go_wp2_with (first | (go_at_call 27; refine (CH _).mono ?_; rintro e w' ⟨rfl, rfl⟩) | (go_at_call 28; refine (CR _).mono ?_; rintro e w' ⟨rfl, rfl⟩) | (go_at_call 29; refine (CS _).mono ?_; rintro e w' ⟨rfl, rfl⟩))
      go_ret3
      exact ⟨rubi (by rw [HO.out]), rfl⟩
    | true =>
      go_enter Try.func9, Try.ntmps9
      go_wp2_with (first | (go_at_call 27; refine (CH _).mono ?_; rintro e w' ⟨rfl, rfl⟩) | (go_at_call 28; refine (CR _).mono ?_; rintro e w' ⟨rfl, rfl⟩) | (go_at_call 29; refine (CS _).mono ?_; rintro e w' ⟨rfl, rfl⟩))
      go_loop [10, 11, 12] (fun v i _ => ∃ k : Nat, k ≤ n ∧ v = .int .u64 (gd k) ∧ i = .int .i64 k ∧ gd k ≤ 18446744073709551615) (fun _ i _ => n - (intOf i).toNat)
      case atStart => exact ⟨0, Nat.zero_le _, by rw [H0]; rfl, rfl, by rw [H0]; decide⟩
      case round =>
        obtain ⟨k, hk, rfl, rfl, hle⟩ := hrel
        by_cases hlt : k < n
        · obtain ⟨h1, h2, h3⟩ := HN.out k hlt
          have C := fun w => rdig_any s[k] w
          obtain ⟨x, hx⟩ : ∃ x, worthC s[k] = x := ⟨_, rfl⟩
          simp only [hx] at C h2 h3
          clear hx
          have i2 : (k : Int) < (n : Int) := by omega
          have i3 : (k : Int) < (s.size : Int) := by omega
          have i4 : (0 : Int) ≤ (k : Int) := by omega
          have i5 : ((k : Int)).toNat = k := by omega
          have i6 : (0 : Int) ≤ (x : Nat) := by omega
          have i8 : ((x : Nat) : Int) < 8 := by omega
          clear HZ
          by_cases hv : gd k ≤ (18446744073709551615 - x) / 8
          · have j1 : ((gd k : Nat) : Int) ≤ (18446744073709551615 - ((x : Nat) : Int)) / 8 := by omega
            have HJ := Lib.hid h3
            have j3 : gd k * 8 + x ≤ 18446744073709551615 := by omega
            have j4 : gd (k + 1) ≤ 18446744073709551615 := by omega
            clear HT HR h3
            go_wp2_with (go_at_call 30; refine (C _).mono ?_; rintro e w' ⟨rfl, rfl⟩)
            go_round
            case rel => exact ⟨k + 1, hlt, by rw [HJ.out]; simp, by go_num, j4⟩
            case measure => simp [intOf]; omega
          · have j1 : ¬ ((gd k : Nat) : Int) ≤ (18446744073709551615 - ((x : Nat) : Int)) / 8 := by omega
            have h4 := HT.out (k + 1)
            have HO : Hid (R = (0, false, 40)) := Lib.hid (by rw [HR.out]; unfold intP; rw [if_pos (.inr (.inl (by omega)))])
            clear HT HR h4 h3
            go_wp2_with (go_at_call 30; refine (C _).mono ?_; rintro e w' ⟨rfl, rfl⟩)
            go_ret3
            exact ⟨rubi (by rw [HO.out]), rfl⟩
        · obtain rfl : k = n := by omega
          have i2 : ¬ (k : Int) < (k : Int) := by omega
          rw [HZ] at hle ⊢
          have HO : Hid (R = if 9223372036854775807 < v ∧ u = false then (if 8 = 10 then (0, false, 40) else (v, true, 0)) else (v, u, 0)) := Lib.hid (by rw [HR.out]; unfold intP; rw [if_neg (by simp [hn]; omega)])
          clear HR HT HN HZ
          by_cases hh : 9223372036854775807 < v
          · have i7 : (9223372036854775807 : Int) < (v : Int) := by omega
            cases u with
            | true =>
              have HO2 := Lib.hid (HO.out.trans (if_neg (by simp)))
              clear HO hh
              go_wp2
              go_ret3
              exact ⟨rubi (by rw [HO2.out]), rfl⟩
            | false =>
              have HO2 := Lib.hid ((HO.out.trans (if_pos ⟨hh, rfl⟩)).trans (if_neg (by decide)))
              clear HO hh
              go_wp2
              go_ret3
              exact ⟨rubi (by rw [HO2.out]), rfl⟩
          · have HO2 := Lib.hid (HO.out.trans (if_neg (fun h => hh h.1)))
            have i7 : ¬ (9223372036854775807 : Int) < (v : Int) := by omega
            clear HO hh
            cases u
            all_goals
              go_wp2
              go_ret3
              exact ⟨rubi (by rw [HO2.out]), rfl⟩

set_option maxRecDepth 100000 in
set_option maxHeartbeats 2000000 in
theorem rInt_ten (s : ByteArray) (w : World) (hs : s.size ≤ maxLen) (hx : hexB s.data.toList = false) (h0 : 0 < s.size) (h1 : ((s[0].toNat : Int) == 48) = false) : Calls Try.prog 9 #[.string s] w fun e w' => e = .returned (.tuple #[.int .u64 ((intR s.data.toList).1 : Nat), .bool (intR s.data.toList).2.1, .int .i64 ((intR s.data.toList).2.2 : Nat)]) ∧ w = w' := by
  have CH := fun w => hex_any s w hs
  have hbase := lead_ten (s := s) (fun _ => h1)
  have h0i : (0 : Int) < (s.size : Int) := by omega
  rw [hx] at CH
  clear hx
  obtain ⟨gd, n, v, is, u, e2, hlen, e4, HR, HN, HT, HZ, H0⟩ := rint_facts s 10 0 (by decide) hbase (by omega)
  generalize intR s.data.toList = R at *
  have CR := fun w => run_any s 0 10 w hs (by omega) (by decide)
  rw [e2] at CR
  have em : (min (s.size : Int) ((n : Int))).toNat = 0 + n := by omega
  have CS := fun w => rsuffix_any (s.extract (min (s.size : Int) ((n : Int))).toNat s.size) w (by rw [ByteArray.size_extract]; unfold maxLen at *; omega)
  rw [show sufC (s.extract (min (s.size : Int) ((n : Int))).toNat s.size).data.toList = (is, u) by rw [em]; exact e4] at CS
  simp only [Nat.zero_add] at HN hlen
  clear em
  clear hbase e2 e4
  unfold maxLen at hs
  by_cases hn : n = 0
  · have HO : Hid (R = (0, false, 40)) := Lib.hid (by rw [HR.out]; unfold intP; rw [if_pos (.inl hn)])
    have i1 : ((n : Int) == 0) = true := by simp [hn]
    clear hn HR
    go_enter Try.func9, Try.ntmps9
    go_wp2_with (first | (go_at_call 27; refine (CH _).mono ?_; rintro e w' ⟨rfl, rfl⟩) | (go_at_call 28; refine (CR _).mono ?_; rintro e w' ⟨rfl, rfl⟩) | (go_at_call 29; refine (CS _).mono ?_; rintro e w' ⟨rfl, rfl⟩))
    go_ret3
    exact ⟨rubi (by rw [HO.out]), rfl⟩
  · have i1 : ((n : Int) == 0) = false := beq_eq_false_iff_ne.2 (by omega)
    cases is with
    | false =>
      have HO : Hid (R = (0, false, 40)) := Lib.hid (by rw [HR.out]; unfold intP; rw [if_pos (.inr (.inr rfl))])
      clear HR
      go_enter Try.func9, Try.ntmps9
      go_wp2_with (first | (go_at_call 27; refine (CH _).mono ?_; rintro e w' ⟨rfl, rfl⟩) | (go_at_call 28; refine (CR _).mono ?_; rintro e w' ⟨rfl, rfl⟩) | (go_at_call 29; refine (CS _).mono ?_; rintro e w' ⟨rfl, rfl⟩))
      go_ret3
      exact ⟨rubi (by rw [HO.out]), rfl⟩
    | true =>
      go_enter Try.func9, Try.ntmps9
      go_wp2_with (first | (go_at_call 27; refine (CH _).mono ?_; rintro e w' ⟨rfl, rfl⟩) | (go_at_call 28; refine (CR _).mono ?_; rintro e w' ⟨rfl, rfl⟩) | (go_at_call 29; refine (CS _).mono ?_; rintro e w' ⟨rfl, rfl⟩))
      go_loop [10, 11, 12] (fun v i _ => ∃ k : Nat, k ≤ n ∧ v = .int .u64 (gd k) ∧ i = .int .i64 k ∧ gd k ≤ 18446744073709551615) (fun _ i _ => n - (intOf i).toNat)
      case atStart => exact ⟨0, Nat.zero_le _, by rw [H0]; rfl, rfl, by rw [H0]; decide⟩
      case round =>
        obtain ⟨k, hk, rfl, rfl, hle⟩ := hrel
        by_cases hlt : k < n
        · obtain ⟨h1, h2, h3⟩ := HN.out k hlt
          have C := fun w => rdig_any s[k] w
          obtain ⟨x, hx⟩ : ∃ x, worthC s[k] = x := ⟨_, rfl⟩
          simp only [hx] at C h2 h3
          clear hx
          have i2 : (k : Int) < (n : Int) := by omega
          have i3 : (k : Int) < (s.size : Int) := by omega
          have i4 : (0 : Int) ≤ (k : Int) := by omega
          have i5 : ((k : Int)).toNat = k := by omega
          have i6 : (0 : Int) ≤ (x : Nat) := by omega
          have i8 : ((x : Nat) : Int) < 10 := by omega
          clear HZ
          by_cases hv : gd k ≤ (18446744073709551615 - x) / 10
          · have j1 : ((gd k : Nat) : Int) ≤ (18446744073709551615 - ((x : Nat) : Int)) / 10 := by omega
            have HJ := Lib.hid h3
            have j3 : gd k * 10 + x ≤ 18446744073709551615 := by omega
            have j4 : gd (k + 1) ≤ 18446744073709551615 := by omega
            clear HT HR h3
            go_wp2_with (go_at_call 30; refine (C _).mono ?_; rintro e w' ⟨rfl, rfl⟩)
            go_round
            case rel => exact ⟨k + 1, hlt, by rw [HJ.out]; simp, by go_num, j4⟩
            case measure => simp [intOf]; omega
          · have j1 : ¬ ((gd k : Nat) : Int) ≤ (18446744073709551615 - ((x : Nat) : Int)) / 10 := by omega
            have h4 := HT.out (k + 1)
            have HO : Hid (R = (0, false, 40)) := Lib.hid (by rw [HR.out]; unfold intP; rw [if_pos (.inr (.inl (by omega)))])
            clear HT HR h4 h3
            go_wp2_with (go_at_call 30; refine (C _).mono ?_; rintro e w' ⟨rfl, rfl⟩)
            go_ret3
            exact ⟨rubi (by rw [HO.out]), rfl⟩
        · obtain rfl : k = n := by omega
          have i2 : ¬ (k : Int) < (k : Int) := by omega
          rw [HZ] at hle ⊢
          have HO : Hid (R = if 9223372036854775807 < v ∧ u = false then (if 10 = 10 then (0, false, 40) else (v, true, 0)) else (v, u, 0)) := Lib.hid (by rw [HR.out]; unfold intP; rw [if_neg (by simp [hn]; omega)])
          clear HR HT HN HZ
          by_cases hh : 9223372036854775807 < v
          · have i7 : (9223372036854775807 : Int) < (v : Int) := by omega
            cases u with
            | true =>
              have HO2 := Lib.hid (HO.out.trans (if_neg (by simp)))
              clear HO hh
              go_wp2
              go_ret3
              exact ⟨rubi (by rw [HO2.out]), rfl⟩
            | false =>
              have HO2 := Lib.hid ((HO.out.trans (if_pos ⟨hh, rfl⟩)).trans (if_pos rfl))
              clear HO hh
              go_wp2
              go_ret3
              exact ⟨rubi (by rw [HO2.out]), rfl⟩
          · have HO2 := Lib.hid (HO.out.trans (if_neg (fun h => hh h.1)))
            have i7 : ¬ (9223372036854775807 : Int) < (v : Int) := by omega
            clear HO hh
            cases u
            all_goals
              go_wp2
              go_ret3
              exact ⟨rubi (by rw [HO2.out]), rfl⟩

set_option maxRecDepth 100000 in
set_option maxHeartbeats 2000000 in
theorem rInt_none (s : ByteArray) (w : World) (hs : s.size ≤ maxLen) (hx : hexB s.data.toList = false) (h0 : ¬ 0 < s.size) : Calls Try.prog 9 #[.string s] w fun e w' => e = .returned (.tuple #[.int .u64 ((intR s.data.toList).1 : Nat), .bool (intR s.data.toList).2.1, .int .i64 ((intR s.data.toList).2.2 : Nat)]) ∧ w = w' := by
  have CH := fun w => hex_any s w hs
  have hbase := lead_ten (s := s) (fun h => absurd h h0)
  have h0i : ¬ (0 : Int) < (s.size : Int) := by omega
  rw [hx] at CH
  clear hx
  obtain ⟨gd, n, v, is, u, e2, hlen, e4, HR, HN, HT, HZ, H0⟩ := rint_facts s 10 0 (by decide) hbase (by omega)
  generalize intR s.data.toList = R at *
  have CR := fun w => run_any s 0 10 w hs (by omega) (by decide)
  rw [e2] at CR
  have em : (min (s.size : Int) ((n : Int))).toNat = 0 + n := by omega
  have CS := fun w => rsuffix_any (s.extract (min (s.size : Int) ((n : Int))).toNat s.size) w (by rw [ByteArray.size_extract]; unfold maxLen at *; omega)
  rw [show sufC (s.extract (min (s.size : Int) ((n : Int))).toNat s.size).data.toList = (is, u) by rw [em]; exact e4] at CS
  simp only [Nat.zero_add] at HN hlen
  clear em
  clear hbase e2 e4
  unfold maxLen at hs
  have hn : n = 0 := by omega
  have HO : Hid (R = (0, false, 40)) := Lib.hid (by rw [HR.out]; unfold intP; rw [if_pos (.inl hn)])
  have i1 : ((n : Int) == 0) = true := by simp [hn]
  clear hn HR
  go_enter Try.func9, Try.ntmps9
  go_wp2_with (first | (go_at_call 27; refine (CH _).mono ?_; rintro e w' ⟨rfl, rfl⟩) | (go_at_call 28; refine (CR _).mono ?_; rintro e w' ⟨rfl, rfl⟩) | (go_at_call 29; refine (CS _).mono ?_; rintro e w' ⟨rfl, rfl⟩))
  go_ret3
  exact ⟨rubi (by rw [HO.out]), rfl⟩

theorem rInt_any (s : ByteArray) (w : World) (hs : s.size ≤ maxLen) : Calls Try.prog 9 #[.string s] w fun e w' => e = .returned (.tuple #[.int .u64 ((intR s.data.toList).1 : Nat), .bool (intR s.data.toList).2.1, .int .i64 ((intR s.data.toList).2.2 : Nat)]) ∧ w = w' := by
  cases hx : hexB s.data.toList with
  | true => exact rInt_hex s w hs hx
  | false =>
    by_cases h0 : 0 < s.size
    · cases h1 : ((s[0].toNat : Int) == 48) with
      | true => exact rInt_eight s w hs hx h0 h1
      | false => exact rInt_ten s w hs hx h0 h1
    · exact rInt_none s w hs hx h0

end Go.Proofs.Ytenmapahigbbeaa

namespace Go.Proofs.Ytenmapahigbbeaa
open Go.RowKit Go.Shelf

theorem simpleC_nat (c : UInt8) : simpleC c = if c.toNat = 39 ∨ c.toNat = 34 ∨ c.toNat = 63 ∨ c.toNat = 92 then c.toNat else if c.toNat = 97 then 7 else if c.toNat = 98 then 8 else if c.toNat = 102 then 12 else if c.toNat = 110 then 10 else if c.toNat = 114 then 13 else if c.toNat = 116 then 9 else if c.toNat = 118 then 11 else 0 := by
  have h : ∀ n, n < 256 → (fun c : UInt8 => simpleC c = if c.toNat = 39 ∨ c.toNat = 34 ∨ c.toNat = 63 ∨ c.toNat = 92 then c.toNat else if c.toNat = 97 then 7 else if c.toNat = 98 then 8 else if c.toNat = 102 then 12 else if c.toNat = 110 then 10 else if c.toNat = 114 then 13 else if c.toNat = 116 then 9 else if c.toNat = 118 then 11 else 0) (UInt8.ofNat n) := by decide +kernel
  have := h c.toNat c.toNat_lt
  rwa [UInt8.ofNat_toNat] at this

set_option maxHeartbeats 2000000 in
theorem rsimple_any (c : UInt8) (w : World) : Calls Try.prog 67 #[.int .u8 c.toNat] w fun e w' => e = .returned (.int .i64 (simpleC c : Nat)) ∧ w = w' := by
  have hc := c.toNat_lt
  have HS := Lib.hid (simpleC_nat c)
  generalize simpleC c = v at *
  generalize c.toNat = n at *
  go_enter Try.func67, Try.ntmps67
  go_wp2
  all_goals
    go_ret
    refine ⟨ri ?_, rfl⟩
    rw [HS.out]
    simp only [beq_iff_eq, beq_eq_false_iff_ne, ne_eq] at *
    repeat' split
    all_goals omega

/-! ### What stands ahead of a quote -/
theorem noQ_int (c : UInt8) : noQ c = (((c.toNat : Int) != 39) && ((c.toNat : Int) != 34)) := by
  have e : ∀ (a b : UInt8), (a == b) = ((a.toNat : Int) == (b.toNat : Int)) := fun a b => by
    rw [Bool.eq_iff_iff, beq_iff_eq, beq_iff_eq, ← UInt8.toNat_inj]; omega
  unfold noQ
  simp only [bne, e]; rfl
theorem pre_yes {l r : List UInt8} {c : UInt8} (h : l = c :: r) (hc : noQ c = true) : (preC l).length = (preC r).length + 1 := by
  subst h
  unfold preC
  rw [List.takeWhile_cons, hc, if_pos rfl]; rfl
theorem pre_no {l r : List UInt8} {c : UInt8} (h : l = c :: r) (hc : noQ c = false) : (preC l).length = 0 := by
  subst h
  unfold preC
  rw [List.takeWhile_cons, hc]; rfl

set_option maxHeartbeats 1000000 in
theorem rprefix_any (s : ByteArray) (w : World) (hs : s.size ≤ maxLen) (hq : (preC s.data.toList).length < s.size) :
    Calls Try.prog 34 #[.string s] w fun e w' => e = .returned (.int .i64 ((preC s.data.toList).length : Nat)) ∧ w = w' := by
  unfold maxLen at hs
  go_enter Try.func34, Try.ntmps34
  go_wp2
  go_loop [3] (fun n => ∃ k : Nat, k < s.size ∧ n = .int .i64 k ∧ Hid ((preC s.data.toList).length = k + (preC (s.data.toList.drop k)).length)) (fun n => s.size - (intOf n).toNat)
  case atStart => exact ⟨0, by omega, rfl, Lib.hid (by simp)⟩
  case round =>
    obtain ⟨k, hk, rfl, HE⟩ := hrel
    have hd := data_drop s k hk
    have hn := noQ_int s[k]
    cases h : noQ s[k] with
    | true =>
      have HN : Hid ((preC s.data.toList).length = k + 1 + (preC (s.data.toList.drop (k + 1))).length) := Lib.hid (by rw [HE.out, pre_yes hd h]; omega)
      have hk1 : k + 1 < s.size := by have := HN.out; omega
      rw [h] at hn
      have hn1 := hn.symm
      rw [Bool.and_eq_true] at hn1
      obtain ⟨h1, h2⟩ := hn1
      clear HE hd hn h
      go_wp2
      go_round
      case rel => exact ⟨k + 1, hk1, by go_num, HN⟩
      case measure => simp [intOf]; omega
    | false =>
      have HN : Hid ((preC s.data.toList).length = k) := Lib.hid (by rw [HE.out, pre_no hd h]; omega)
      rw [h] at hn
      have hn1 := hn.symm
      clear HE hd hn h
      cases h1 : ((s[k].toNat : Int) != 39) with
      | false =>
        clear hn1
        go_wp2
        go_ret
        exact ⟨ri (by rw [HN.out]), rfl⟩
      | true =>
        rw [h1, Bool.true_and] at hn1
        go_wp2
        go_ret
        exact ⟨ri (by rw [HN.out]), rfl⟩

/-! ### One element -/
theorem capC_snoc (b : Nat) (l : List UInt8) (c : UInt8) : capC b (l ++ [c]) = min (capC b l * b + worthC c) 1099511627776 := by
  unfold capC; rw [List.foldl_append]; rfl
theorem capC_le (b : Nat) : ∀ l : List UInt8, capC b l ≤ 1099511627776 := by
  intro l
  rcases List.eq_nil_or_concat l with rfl | ⟨q, c, rfl⟩
  · exact Nat.zero_le _
  · rw [List.concat_eq_append, capC_snoc]; exact Nat.min_le_right _ _
theorem rcap_facts (s : ByteArray) (b at' : Nat) (dt r : List UInt8) (hp : s.data.toList.drop at' = dt ++ r) (hall : ∀ c ∈ dt, worthC c < b) : ∃ gd : Nat → Nat, (at' ≤ s.size → at' + dt.length ≤ s.size) ∧
    Hid (∀ k, k < dt.length → ∃ h : at' + k < s.size, worthC s[at' + k] < b ∧ gd (k + 1) = min (gd k * b + worthC s[at' + k]) 1099511627776) ∧ (∀ k, gd k ≤ 1099511627776) ∧ gd dt.length = capC b dt ∧ gd 0 = 0 := by
  refine ⟨fun k => capC b (dt.take k), ?_, Lib.hid ?_, fun k => capC_le b _, ?_, rfl⟩
  · intro ha
    have := congrArg List.length hp
    rw [List.length_drop, List.length_append, size_list] at this
    omega
  · intro k hk
    have h3 : (s.data.toList.drop at')[k]? = some dt[k] := by
      rw [hp, List.getElem?_append_left hk, List.getElem?_eq_getElem hk]
    rw [List.getElem?_drop] at h3
    have h4 : at' + k < s.size := by
      rw [← size_list]
      exact (List.getElem?_eq_some_iff.1 h3).1
    rw [data_get s _ h4] at h3
    have h5 : s[at' + k] = dt[k] := Option.some.inj h3
    refine ⟨h4, ?_, ?_⟩
    · rw [h5]; exact hall _ (List.getElem_mem hk)
    · show capC b (dt.take (k + 1)) = _
      rw [h5, List.take_succ_eq_append_getElem hk, capC_snoc]
  · show capC b (dt.take dt.length) = _
    rw [List.take_length]

theorem rnn {a b x y : Nat} (h : a = b) (h2 : x = y) : Ending.returned (.tuple #[.int .i64 a, .int .i64 x]) = .returned (.tuple #[.int .i64 b, .int .i64 y]) := by rw [h, h2]

end Go.Proofs.Ytenmapahigbbeaa

namespace Go.Proofs.Ytenmapahigbbeaa
open Go.RowKit Go.Shelf

theorem one_plain {c : UInt8} {r : List UInt8} (h : ((c.toNat : Int) != 92) = true) : oneC (c :: r) = (c.toNat, 1) := by
  have hc : c ≠ 92 := fun e => by rw [e] at h; exact absurd h (by decide)
  show (if c ≠ 92 then (c.toNat, 1) else _) = _
  rw [if_pos hc]
theorem is_92 {c : UInt8} (h : ((c.toNat : Int) != 92) = false) : c = 92 := by
  apply UInt8.toNat_inj.1
  have : (c.toNat : Int) = 92 := by simpa using h
  show c.toNat = 92
  omega
theorem one_two {d : UInt8} {r : List UInt8} (h : 0 < simpleC d) : oneC (92 :: d :: r) = (simpleC d, 2) := by
  rw [oneC, if_neg (by simp), if_pos h]
theorem one_hex {r : List UInt8} : oneC (92 :: 120 :: r) = if (digitsC 16 r).length = 0 then (0, 0) else (capC 16 (digitsC 16 r), (digitsC 16 r).length + 2) := by
  rw [oneC, if_neg (by simp), if_neg (show ¬ 0 < simpleC 120 by decide), if_pos rfl]
theorem one_eight {d : UInt8} {r : List UInt8} (h : simpleC d = 0) (h2 : d ≠ 120) : oneC (92 :: d :: r) = if (digitsC 8 (d :: r)).length = 0 then (0, 0) else (capC 8 ((digitsC 8 (d :: r)).take 3), min 3 (digitsC 8 (d :: r)).length + 1) := by
  rw [oneC, if_neg (by simp), if_neg (by omega), if_neg h2]

set_option maxRecDepth 100000 in
set_option maxHeartbeats 2000000 in
theorem rone_plain (s : ByteArray) (at' : Nat) (w : World) (hs : s.size ≤ maxLen) (ha : at' < s.size) (h : ((s[at'].toNat : Int) != 92) = true) : Calls Try.prog 50 #[.string s, .int .i64 at'] w fun e w' => e = .returned (.tuple #[.int .i64 ((oneC (s.data.toList.drop at')).1 : Nat), .int .i64 ((oneC (s.data.toList.drop at')).2 : Nat)]) ∧ w = w' := by
  unfold maxLen at hs
  rw [data_drop s at' ha, one_plain h]
  have hc := s[at'].toNat_lt
  go_enter Try.func50, Try.ntmps50
  go_wp2
  go_ret2
  exact ⟨rfl, rfl⟩

set_option maxRecDepth 100000 in
set_option maxHeartbeats 2000000 in
theorem rone_end (s : ByteArray) (at' : Nat) (w : World) (hs : s.size ≤ maxLen) (ha : at' < s.size) (h : ((s[at'].toNat : Int) != 92) = false) (h1 : at' + 1 = s.size) : Calls Try.prog 50 #[.string s, .int .i64 at'] w fun e w' => e = .returned (.tuple #[.int .i64 ((oneC (s.data.toList.drop at')).1 : Nat), .int .i64 ((oneC (s.data.toList.drop at')).2 : Nat)]) ∧ w = w' := by
  unfold maxLen at hs
  have HO : Hid (oneC (s.data.toList.drop at') = (0, 0)) := Lib.hid (by
    rw [data_drop s at' ha, is_92 h, List.drop_eq_nil_of_le (by rw [size_list]; omega)]; rfl)
  generalize oneC (s.data.toList.drop at') = R at *
  have i1 : ((at' : Int) + 1 == (s.size : Int)) = true := by rw [beq_iff_eq]; omega
  clear h1
  go_enter Try.func50, Try.ntmps50
  go_wp2
  go_ret2
  exact ⟨rnn (by rw [HO.out]) (by rw [HO.out]), rfl⟩

set_option maxRecDepth 100000 in
set_option maxHeartbeats 2000000 in
theorem rone_two (s : ByteArray) (at' : Nat) (w : World) (hs : s.size ≤ maxLen) (ha : at' < s.size) (h : ((s[at'].toNat : Int) != 92) = false) (h1 : at' + 1 < s.size) (h2 : 0 < simpleC s[at' + 1]) : Calls Try.prog 50 #[.string s, .int .i64 at'] w fun e w' => e = .returned (.tuple #[.int .i64 ((oneC (s.data.toList.drop at')).1 : Nat), .int .i64 ((oneC (s.data.toList.drop at')).2 : Nat)]) ∧ w = w' := by
  unfold maxLen at hs
  have HO : Hid (oneC (s.data.toList.drop at') = (simpleC s[at' + 1], 2)) := Lib.hid (by
    rw [data_drop s at' ha, is_92 h, data_drop s (at' + 1) h1, one_two h2])
  generalize oneC (s.data.toList.drop at') = R at *
  have i1 : ((at' : Int) + 1 == (s.size : Int)) = false := by rw [beq_eq_false_iff_ne]; omega
  have i2 : (at' : Int) + 1 < (s.size : Int) := by omega
  have i3 : ((at' : Int) + 1).toNat = at' + 1 := by omega
  have C := fun w => rsimple_any s[at' + 1] w
  obtain ⟨v, hv⟩ : ∃ v, simpleC s[at' + 1] = v := ⟨_, rfl⟩
  simp only [hv] at C HO h2
  clear hv
  have i4 : (0 : Int) < (v : Int) := by omega
  go_enter Try.func50, Try.ntmps50
  go_wp2_with (go_at_call 67; refine (C _).mono ?_; rintro e w' ⟨rfl, rfl⟩)
  go_ret2
  exact ⟨rnn (by rw [HO.out]) (by rw [HO.out]), rfl⟩

set_option maxRecDepth 100000 in
set_option maxHeartbeats 2000000 in
theorem rone_hex (s : ByteArray) (at' : Nat) (w : World) (hs : s.size ≤ maxLen) (ha : at' < s.size) (h : ((s[at'].toNat : Int) != 92) = false) (h1 : at' + 1 < s.size) (h2 : simpleC s[at' + 1] = 0) (h3 : s[at' + 1] = 120) : Calls Try.prog 50 #[.string s, .int .i64 at'] w fun e w' => e = .returned (.tuple #[.int .i64 ((oneC (s.data.toList.drop at')).1 : Nat), .int .i64 ((oneC (s.data.toList.drop at')).2 : Nat)]) ∧ w = w' := by
  have i1 : ((at' : Int) + 1 == (s.size : Int)) = false := by rw [beq_eq_false_iff_ne]; omega
  have i2 : (at' : Int) + 1 < (s.size : Int) := by omega
  have i3 : ((at' : Int) + 1).toNat = at' + 1 := by omega
  have CS := fun w => rsimple_any s[at' + 1] w
  simp only [h2] at CS
  have C8 := fun w => run_any s (at' + 1) 8 w hs (by omega) (by decide)
  have C16 := fun w => run_any s (at' + 2) 16 w hs (by omega) (by decide)
  have j1 : ((s[at' + 1].toNat : Int) == 120) = true := by rw [h3]; rfl
  obtain ⟨ha1, ha2⟩ := split_digits 16 (s.data.toList.drop (at' + 2))
  obtain ⟨gd, hsz, HN, hL, HZ, H0⟩ := rcap_facts s 16 (at' + 2) _ _ ha2 ha1
  have hdd := digits_len 16 (s.data.toList.drop (at' + 2))
  rw [List.length_drop, size_list] at hdd
  have HO : Hid (oneC (s.data.toList.drop at') = if (digitsC 16 (s.data.toList.drop (at' + 2))).length = 0 then (0, 0) else (capC 16 (digitsC 16 (s.data.toList.drop (at' + 2))), (digitsC 16 (s.data.toList.drop (at' + 2))).length + 2)) := Lib.hid (by
    rw [data_drop s at' ha, is_92 h, data_drop s (at' + 1) h1, h3, one_hex])
  generalize oneC (s.data.toList.drop at') = R at *
  generalize capC 16 (digitsC 16 (s.data.toList.drop (at' + 2))) = V at *
  generalize (digitsC 16 (s.data.toList.drop (at' + 2))).length = n at *
  generalize (digitsC 8 (s.data.toList.drop (at' + 1))).length = n8 at *
  have HL := Lib.hid hL
  have hsz2 := hsz (by omega)
  clear ha1 ha2 hsz h2 h3 hL
  unfold maxLen at hs
  push_cast at C8 C16
  by_cases hn : n = 0
  · have HO2 := Lib.hid (HO.out.trans (if_pos hn))
    have j2 : ((n : Int) == 0) = true := by simp [hn]
    clear hn HO HN HL HZ
    go_enter Try.func50, Try.ntmps50
    go_wp2_with (go_at_call 67; refine (CS _).mono ?_; rintro e w' ⟨rfl, rfl⟩)
    refine (C8 _).mono ?_
    rintro e w' ⟨rfl, rfl⟩
    go_wp2_with fail
    refine (C16 _).mono ?_
    rintro e w' ⟨rfl, rfl⟩
    go_wp2
    go_ret2
    exact ⟨rnn (by rw [HO2.out]) (by rw [HO2.out]), rfl⟩
  · have HO2 := Lib.hid (HO.out.trans (if_neg hn))
    have j2 : ((n : Int) == 0) = false := beq_eq_false_iff_ne.2 (by omega)
    clear HO
    have HO := HO2
    clear HO2
    go_enter Try.func50, Try.ntmps50
    go_wp2_with (go_at_call 67; refine (CS _).mono ?_; rintro e w' ⟨rfl, rfl⟩)
    refine (C8 _).mono ?_
    rintro e w' ⟨rfl, rfl⟩
    go_wp2_with fail
    refine (C16 _).mono ?_
    rintro e w' ⟨rfl, rfl⟩
    go_wp2
    go_loop [6, 10] (fun v i => ∃ k : Nat, k ≤ n ∧ v = .int .i64 (gd k) ∧ i = .int .i64 ((at' : Int) + 2 + (k : Int))) (fun _ i => at' + 2 + n - (intOf i).toNat)
    case atStart => exact ⟨0, Nat.zero_le _, by rw [H0]; rfl, by go_num⟩
    case round =>
      obtain ⟨k, hk, rfl, rfl⟩ := hrel
      have hle := HL.out k
      by_cases hlt : k < n
      · obtain ⟨h1, h2, h3⟩ := HN.out k hlt
        have C := fun w => rdig_any s[at' + 2 + k] w
        obtain ⟨x, hx⟩ : ∃ x, worthC s[at' + 2 + k] = x := ⟨_, rfl⟩
        simp only [hx] at C h2 h3
        clear hx
        have HJ := Lib.hid h3
        have i2 : (at' : Int) + 2 + (k : Int) < (at' : Int) + 2 + (n : Int) := by omega
        have i3 : (at' : Int) + 2 + (k : Int) < (s.size : Int) := by omega
        have i4 : (0 : Int) ≤ (at' : Int) + 2 + (k : Int) := by omega
        have i5 : ((at' : Int) + 2 + (k : Int)).toNat = at' + 2 + k := by omega
        have hle2 := HL.out (k + 1)
        clear h3 HZ HN HL HO
        go_wp2_with (go_at_call 30; refine (C _).mono ?_; rintro e w' ⟨rfl, rfl⟩)
        go_round
        case rel => exact ⟨k + 1, hlt, by have := HJ.out; exact congrArg (Value.int .i64) (by omega), by go_num⟩
        case measure => simp [intOf]; omega
      · obtain rfl : k = n := by omega
        have i2 : ¬ (at' : Int) + 2 + (k : Int) < (at' : Int) + 2 + (k : Int) := by omega
        rw [HZ]
        clear HN HL
        go_wp2
        go_ret2
        refine ⟨?_, rfl⟩
        rw [HO.out]
        exact congrArg (fun x => Ending.returned (.tuple #[.int .i64 _, .int .i64 x])) (by simp; omega)

set_option maxRecDepth 100000 in
set_option maxHeartbeats 2000000 in
theorem rone_eight (s : ByteArray) (at' : Nat) (w : World) (hs : s.size ≤ maxLen) (ha : at' < s.size) (h : ((s[at'].toNat : Int) != 92) = false) (h1 : at' + 1 < s.size) (h2 : simpleC s[at' + 1] = 0) (h3 : s[at' + 1] ≠ 120) : Calls Try.prog 50 #[.string s, .int .i64 at'] w fun e w' => e = .returned (.tuple #[.int .i64 ((oneC (s.data.toList.drop at')).1 : Nat), .int .i64 ((oneC (s.data.toList.drop at')).2 : Nat)]) ∧ w = w' := by
  have i1 : ((at' : Int) + 1 == (s.size : Int)) = false := by rw [beq_eq_false_iff_ne]; omega
  have i2 : (at' : Int) + 1 < (s.size : Int) := by omega
  have i3 : ((at' : Int) + 1).toNat = at' + 1 := by omega
  have CS := fun w => rsimple_any s[at' + 1] w
  simp only [h2] at CS
  have C8 := fun w => run_any s (at' + 1) 8 w hs (by omega) (by decide)
  have j1 : ((s[at' + 1].toNat : Int) == 120) = false := by
    rw [beq_eq_false_iff_ne]
    intro e
    exact h3 (UInt8.toNat_inj.1 (show s[at' + 1].toNat = 120 by omega))
  obtain ⟨ha1, ha2⟩ := split_digits 8 (s.data.toList.drop (at' + 1))
  obtain ⟨gd, hsz, HN, hL, HZ, H0⟩ := rcap_facts s 8 (at' + 1) ((digitsC 8 (s.data.toList.drop (at' + 1))).take 3) ((digitsC 8 (s.data.toList.drop (at' + 1))).drop 3 ++ restC 8 (s.data.toList.drop (at' + 1))) (by rw [← List.append_assoc, List.take_append_drop]; exact ha2) (fun c hc => ha1 c (List.mem_of_mem_take hc))
  have hdd := digits_len 8 (s.data.toList.drop (at' + 1))
  rw [List.length_drop, size_list] at hdd
  have HO : Hid (oneC (s.data.toList.drop at') = if (digitsC 8 (s.data.toList.drop (at' + 1))).length = 0 then (0, 0) else (capC 8 ((digitsC 8 (s.data.toList.drop (at' + 1))).take 3), min 3 (digitsC 8 (s.data.toList.drop (at' + 1))).length + 1)) := Lib.hid (by
    rw [data_drop s at' ha, is_92 h, data_drop s (at' + 1) h1, one_eight h2 h3])
  have hnm : ((digitsC 8 (s.data.toList.drop (at' + 1))).take 3).length = min 3 (digitsC 8 (s.data.toList.drop (at' + 1))).length := List.length_take
  rw [← hnm] at HO
  generalize oneC (s.data.toList.drop at') = R at *
  generalize capC 8 ((digitsC 8 (s.data.toList.drop (at' + 1))).take 3) = V at *
  generalize ((digitsC 8 (s.data.toList.drop (at' + 1))).take 3).length = n at *
  generalize (digitsC 8 (s.data.toList.drop (at' + 1))).length = n8 at *
  have HL := Lib.hid hL
  have hsz2 := hsz (by omega)
  have j3 : (min (3 : Int) (n8 : Int)) = (n : Int) := by omega
  clear ha1 ha2 hsz h2 h3 hL
  unfold maxLen at hs
  push_cast at C8
  by_cases hn : n8 = 0
  · have HO2 := Lib.hid (HO.out.trans (if_pos hn))
    have j2 : ((n : Int) == 0) = true := by rw [beq_iff_eq]; omega
    clear hn HO HN HL HZ hnm
    go_enter Try.func50, Try.ntmps50
    go_wp2_with (go_at_call 67; refine (CS _).mono ?_; rintro e w' ⟨rfl, rfl⟩)
    refine (C8 _).mono ?_
    rintro e w' ⟨rfl, rfl⟩
    go_wp2
    go_ret2
    exact ⟨rnn (by rw [HO2.out]) (by rw [HO2.out]), rfl⟩
  · have HO2 := Lib.hid (HO.out.trans (if_neg hn))
    have j2 : ((n : Int) == 0) = false := beq_eq_false_iff_ne.2 (by omega)
    clear HO
    have HO := HO2
    clear HO2 hnm
    go_enter Try.func50, Try.ntmps50
    go_wp2_with (go_at_call 67; refine (CS _).mono ?_; rintro e w' ⟨rfl, rfl⟩)
    refine (C8 _).mono ?_
    rintro e w' ⟨rfl, rfl⟩
    go_wp2
    go_loop [6, 10] (fun v i => ∃ k : Nat, k ≤ n ∧ v = .int .i64 (gd k) ∧ i = .int .i64 ((at' : Int) + 1 + (k : Int))) (fun _ i => at' + 1 + n - (intOf i).toNat)
    case atStart => exact ⟨0, Nat.zero_le _, by rw [H0]; rfl, by go_num⟩
    case round =>
      obtain ⟨k, hk, rfl, rfl⟩ := hrel
      have hle := HL.out k
      by_cases hlt : k < n
      · obtain ⟨h1, h2, h3⟩ := HN.out k hlt
        have C := fun w => rdig_any s[at' + 1 + k] w
        obtain ⟨x, hx⟩ : ∃ x, worthC s[at' + 1 + k] = x := ⟨_, rfl⟩
        simp only [hx] at C h2 h3
        clear hx
        have HJ := Lib.hid h3
        have i2 : (at' : Int) + 1 + (k : Int) < (at' : Int) + 1 + (n : Int) := by omega
        have i3 : (at' : Int) + 1 + (k : Int) < (s.size : Int) := by omega
        have i4 : (0 : Int) ≤ (at' : Int) + 1 + (k : Int) := by omega
        have i5 : ((at' : Int) + 1 + (k : Int)).toNat = at' + 1 + k := by omega
        have hle2 := HL.out (k + 1)
        clear h3 HZ HN HL HO
        go_wp2_with (go_at_call 30; refine (C _).mono ?_; rintro e w' ⟨rfl, rfl⟩)
        go_round
        case rel => exact ⟨k + 1, hlt, by have := HJ.out; exact congrArg (Value.int .i64) (by omega), by go_num⟩
        case measure => simp [intOf]; omega
      · obtain rfl : k = n := by omega
        have i2 : ¬ (at' : Int) + 1 + (k : Int) < (at' : Int) + 1 + (k : Int) := by omega
        rw [HZ]
        clear HN HL
        go_wp2
        go_ret2
        refine ⟨?_, rfl⟩
        rw [HO.out]
        exact congrArg (fun x => Ending.returned (.tuple #[.int .i64 _, .int .i64 x])) (by simp; omega)

theorem rone_any (s : ByteArray) (at' : Nat) (w : World) (hs : s.size ≤ maxLen) (ha : at' < s.size) : Calls Try.prog 50 #[.string s, .int .i64 at'] w fun e w' => e = .returned (.tuple #[.int .i64 ((oneC (s.data.toList.drop at')).1 : Nat), .int .i64 ((oneC (s.data.toList.drop at')).2 : Nat)]) ∧ w = w' := by
  cases h : ((s[at'].toNat : Int) != 92) with
  | true => exact rone_plain s at' w hs ha h
  | false =>
    by_cases h1 : at' + 1 = s.size
    · exact rone_end s at' w hs ha h h1
    · by_cases h2 : 0 < simpleC (s[at' + 1]'(by omega))
      · exact rone_two s at' w hs ha h (by omega) h2
      · by_cases h3 : s[at' + 1]'(by omega) = 120
        · exact rone_hex s at' w hs ha h (by omega) (by omega) h3
        · exact rone_eight s at' w hs ha h (by omega) (by omega) h3

end Go.Proofs.Ytenmapahigbbeaa

namespace Go.Proofs.Ytenmapahigbbeaa
open Go.RowKit Go.Shelf

theorem elems_fuel (top : Nat) : ∀ (f g : Nat) (l : List UInt8), l.length ≤ f → l.length ≤ g → elemsC top f l = elemsC top g l
  | 0, 0, l, _, _ => rfl
  | 0, g + 1, l, h, _ => by
    obtain rfl : l = [] := List.length_eq_zero_iff.1 (by omega)
    rfl
  | f + 1, 0, l, _, h => by
    obtain rfl : l = [] := List.length_eq_zero_iff.1 (by omega)
    rfl
  | f + 1, g + 1, l, h, h2 => by
    rw [elemsC, elemsC]
    by_cases hl : l = []
    · rw [if_pos hl, if_pos hl]
    · rw [if_neg hl, if_neg hl]
      by_cases h3 : (oneC l).2 = 0 ∨ top < (oneC l).1
      · rw [if_pos h3, if_pos h3]
      · rw [if_neg h3, if_neg h3]
        have h4 : (l.drop (oneC l).2).length + 1 ≤ l.length := by
          rw [List.length_drop]
          have : 0 < l.length := List.length_pos_iff.2 hl
          omega
        rw [elems_fuel top f g _ (by omega) (by omega)]
def elB (top : Nat) (l : List UInt8) : Option (List Nat) := elemsC top l.length l
theorem elB_stop {top : Nat} {l : List UInt8} (hl : l ≠ []) (h : (oneC l).2 = 0 ∨ top < (oneC l).1) : elB top l = none := by
  unfold elB
  obtain ⟨c, r, rfl⟩ := List.exists_cons_of_ne_nil hl
  rw [List.length_cons, elemsC, if_neg hl, if_pos h]
theorem elB_more {top : Nat} {l : List UInt8} (hl : l ≠ []) (h : ¬ ((oneC l).2 = 0 ∨ top < (oneC l).1)) : elB top l = (elB top (l.drop (oneC l).2)).map ((oneC l).1 :: ·) := by
  unfold elB
  obtain ⟨c, r, rfl⟩ := List.exists_cons_of_ne_nil hl
  rw [List.length_cons, elemsC, if_neg hl, if_neg h]
  rw [elems_fuel top r.length _ _ (by rw [List.length_drop, List.length_cons]; omega) (Nat.le_refl _)]

def ElR (w : World) (top : Nat) (l : List UInt8) (e : Ending) (w' : World) : Prop := (match elB top l with
  | some ns => ∃ v, e = .returned (.tuple #[v, .bool true]) ∧ w'.ownsRow w.heap.size 2 1 v ns.length (intCells ns)
  | none => e = .returned (.tuple #[.slice none 0 0, .bool false])) ∧ Below w.heap.size w w'
theorem one_len' (l : List UInt8) : (oneC l).2 ≤ l.length := by
  cases l with
  | nil => exact Nat.le_refl _
  | cons c r =>
    show (if c ≠ 92 then (c.toNat, 1) else _ : Nat × Nat).2 ≤ _
    split
    · simp
    · cases r with
      | nil => simp
      | cons d q =>
        have h1 := digits_len 16 q
        have h2 := digits_len 8 (d :: q)
        simp only [List.length_cons] at h2 ⊢
        split
        · simp
        · split
          · split
            · simp
            · simp; omega
          · split
            · simp
            · simp; omega
theorem top_cases (p : ByteArray) : ((p.toList == [117]) = true ∧ (p.toList == [85]) = false ∧ (p.toList == [76]) = false ∧ Hid (topC p.data.toList = 65535)) ∨ ((p.toList == [117]) = false ∧ (p.toList == [85]) = true ∧ (p.toList == [76]) = false ∧ Hid (topC p.data.toList = 4294967295)) ∨ ((p.toList == [117]) = false ∧ (p.toList == [85]) = false ∧ (p.toList == [76]) = true ∧ Hid (topC p.data.toList = 4294967295)) ∨ ((p.toList == [117]) = false ∧ (p.toList == [85]) = false ∧ (p.toList == [76]) = false ∧ Hid (topC p.data.toList = 255)) := by
  rw [ByteArray.toList_eq]
  unfold topC
  by_cases h1 : p.data.toList = [117]
  · exact .inl ⟨by rw [h1]; rfl, by rw [h1]; rfl, by rw [h1]; rfl, Lib.hid (if_pos h1)⟩
  · have g1 : (p.data.toList == [117]) = false := beq_eq_false_iff_ne.2 h1
    rw [if_neg h1]
    by_cases h2 : p.data.toList = [85]
    · exact .inr (.inl ⟨g1, by rw [h2]; rfl, by rw [h2]; rfl, Lib.hid (if_pos (.inl h2))⟩)
    · have g2 : (p.data.toList == [85]) = false := beq_eq_false_iff_ne.2 h2
      by_cases h3 : p.data.toList = [76]
      · exact .inr (.inr (.inl ⟨g1, g2, by rw [h3]; rfl, Lib.hid (if_pos (.inr h3))⟩))
      · exact .inr (.inr (.inr ⟨g1, g2, beq_eq_false_iff_ne.2 h3, Lib.hid (if_neg (fun h => h.elim h2 h3))⟩))

set_option maxRecDepth 100000 in
set_option maxHeartbeats 8000000 in
theorem relems_any (s : ByteArray) (k : Nat) (w : World) (hs : s.size ≤ 200000) (hk : k + 2 ≤ s.size) :
    Calls Try.prog 35 #[.string s, .int .i64 k] w (ElR w (topC (s.extract 0 k).data.toList) (s.extract (k + 1) (s.size - 1)).data.toList) := by
  obtain ⟨i0, hi, hz0, hz1, hz2⟩ := info_parts infoI64
  obtain ⟨p, hp⟩ : ∃ p, s.extract 0 k = p := ⟨_, rfl⟩
  obtain ⟨b, hb⟩ : ∃ b, s.extract (k + 1) (s.size - 1) = b := ⟨_, rfl⟩
  have hbs0 : b.size ≤ s.size := by rw [← hb, ByteArray.size_extract]; omega
  have hbm : b.size ≤ maxLen := by unfold maxLen; omega
  have HC := top_cases p
  rw [hp, hb]
  have v1 : wrap64 ((s.size : Int) - 1) = (s.size : Int) - 1 := IntWalk.wrap64_in _ (by omega)
  have v2 : ((s.size : Int) - 1).toNat = s.size - 1 := by omega
  have v3 : ((k : Int) + 1).toNat = k + 1 := by omega
  have i1 : (0 : Int) ≤ (s.size : Int) - 1 := by omega
  have i2 : (s.size : Int) - 1 ≤ (s.size : Int) := by omega
  have i3 : (k : Int) + 1 ≤ (s.size : Int) - 1 := by omega
  have i4 : (k : Int) ≤ (s.size : Int) := by omega
  have htop := topC_le p.data.toList
  generalize topC p.data.toList = g at *
  clear htop
  rcases HC with ⟨h1, h2, h3, h4⟩ | ⟨h1, h2, h3, h4⟩ | ⟨h1, h2, h3, h4⟩ | ⟨h1, h2, h3, h4⟩
  · have h4o := h4.out
    subst h4o
    clear h4
    go_enter Try.func35, Try.ntmps35
    go_wp2
    go_loopg [8, 9, 10, 11] b.size (fun m out at' _ _ wx => ∃ (pre : List Nat) (a : Nat), a ≤ b.size ∧ pre.length ≤ a ∧ at' = .int .i64 a ∧ m = b.size - a ∧ Hid (elB 65535 b.data.toList = (elB 65535 (b.data.toList.drop a)).map (pre ++ ·)) ∧ wx.ownsRow w.heap.size 2 1 out pre.length (intCells pre) ∧ Below w.heap.size w wx)
    case atStart => exact ⟨[], 0, Nat.zero_le _, Nat.le_refl _, rfl, rfl, Lib.hid (by simp), World.ownsRow_nil _ _ _ _, Below.refl _ _⟩
    case round =>
      obtain ⟨pre, a, ha, hpl, rfl, rfl, HE, hrow, hbx⟩ := hrel
      clear h1 h2 h3 hp hb v1 v2 v3 i1 i2 i3 i4
      by_cases hlt : a < b.size
      · have C := fun w => rone_any b a w hbm hlt
        have hne : b.data.toList.drop a ≠ [] := by
          intro e
          have := congrArg List.length e
          rw [List.length_drop, size_list, List.length_nil] at this
          omega
        have hol := one_len' (b.data.toList.drop a)
        rw [List.length_drop, size_list] at hol
        have i1 : (a : Int) < (b.size : Int) := by omega
        have hbs := hbx.size
        by_cases hst : (oneC (b.data.toList.drop a)).2 = 0 ∨ 65535 < (oneC (b.data.toList.drop a)).1
        · have HO : Hid (elB 65535 b.data.toList = none) := Lib.hid (by rw [HE.out, elB_stop hne hst]; rfl)
          clear hne HE
          generalize oneC (b.data.toList.drop a) = o at *
          obtain ⟨v, n⟩ := o
          simp only at C hol hst
          by_cases hn : n = 0
          · have i2 : ((n : Int) == 0) = true := by simp [hn]
            clear hst
            subst hn
            go_wp2_with (go_at_call 50; refine (C _).mono ?_; rintro e w' ⟨rfl, rfl⟩)
            go_ret2
            refine ⟨?_, hbx⟩
            rw [HO.out]
            rfl
          · have i2 : ((n : Int) == 0) = false := beq_eq_false_iff_ne.2 (by omega)
            have i3 : (65535 : Int) < (v : Int) := by omega
            clear hst
            go_wp2_with (go_at_call 50; refine (C _).mono ?_; rintro e w' ⟨rfl, rfl⟩)
            go_ret2
            refine ⟨?_, hbx⟩
            rw [HO.out]
            rfl
        · have HN := elB_more hne hst
          rw [List.drop_drop] at HN
          have HE2 := HE.out
          rw [HN] at HE2
          clear HN HE hne
          generalize oneC (b.data.toList.drop a) = o at *
          obtain ⟨v, n⟩ := o
          simp only at C hol hst HE2
          have HN : Hid (elB 65535 b.data.toList = (elB 65535 (b.data.toList.drop (a + n))).map ((pre ++ [v]) ++ ·)) := Lib.hid (by
            rw [HE2, Option.map_map]
            congr 1
            funext x
            simp)
          have hn0 : ¬ n = 0 := fun e => hst (.inl e)
          have i2 : ((n : Int) == 0) = false := beq_eq_false_iff_ne.2 (by omega)
          have i3 : ¬ (65535 : Int) < (v : Int) := by omega
          have i4 : (a : Int) + (n : Int) ≤ (b.size : Int) := by omega
          clear hst HE2
          go_wp2_with (first
            | (go_at_call 50; refine (C _).mono ?_; rintro e w' ⟨rfl, rfl⟩)
            | (at_builtin; refine wpList_append_own _ rfl _ _ 32 rfl w.heap.size 2 i0 (.int .i64 0) 1 8 Try.underlying32 hi hz0 hz1 hz2 rfl (by decide) _ _ _ rfl (hrow.alloc _) ⟨wr.heap.size, 0, none⟩ 1 1 [intCell v] rfl rfl (cell_one_new _ _ _) (by simp [Value.oneCell', intCell]) (by unfold maxLen; omega) (by omega) (by simp; omega) ?_; intro v' w3 hown hgrow hn3; clear hn3; have hL4 := hrow.lt; have hB4 := (hbx.alloc hbs (.cells #[intCell v] 2)).grown hgrow (by simp; omega) (fun j e => (hL4 j e).1)))
          go_roundg (b.size - (a + n))
          case rel =>
            refine ⟨pre ++ [v], a + n, by omega, by rw [List.length_append]; simp; omega, by go_num, rfl, HN, ?_, hB4⟩
            rw [List.length_append, intCells_snoc]
            exact hown
          case measure => omega
      · have i1 : ¬ (a : Int) < (b.size : Int) := by omega
        have HO : Hid (elB 65535 b.data.toList = some pre) := Lib.hid (by
          rw [HE.out, List.drop_eq_nil_of_le (by rw [size_list]; omega)]
          show some (pre ++ []) = _
          rw [List.append_nil])
        clear HE
        go_wp2
        go_ret2
        refine ⟨?_, hbx⟩
        rw [HO.out]
        exact ⟨_, rfl, hrow⟩
  · have h4o := h4.out
    subst h4o
    clear h4
    go_enter Try.func35, Try.ntmps35
    go_wp2
    go_loopg [8, 9, 10, 11] b.size (fun m out at' _ _ wx => ∃ (pre : List Nat) (a : Nat), a ≤ b.size ∧ pre.length ≤ a ∧ at' = .int .i64 a ∧ m = b.size - a ∧ Hid (elB 4294967295 b.data.toList = (elB 4294967295 (b.data.toList.drop a)).map (pre ++ ·)) ∧ wx.ownsRow w.heap.size 2 1 out pre.length (intCells pre) ∧ Below w.heap.size w wx)
    case atStart => exact ⟨[], 0, Nat.zero_le _, Nat.le_refl _, rfl, rfl, Lib.hid (by simp), World.ownsRow_nil _ _ _ _, Below.refl _ _⟩
    case round =>
      obtain ⟨pre, a, ha, hpl, rfl, rfl, HE, hrow, hbx⟩ := hrel
      clear h1 h2 h3 hp hb v1 v2 v3 i1 i2 i3 i4
      by_cases hlt : a < b.size
      · have C := fun w => rone_any b a w hbm hlt
        have hne : b.data.toList.drop a ≠ [] := by
          intro e
          have := congrArg List.length e
          rw [List.length_drop, size_list, List.length_nil] at this
          omega
        have hol := one_len' (b.data.toList.drop a)
        rw [List.length_drop, size_list] at hol
        have i1 : (a : Int) < (b.size : Int) := by omega
        have hbs := hbx.size
        by_cases hst : (oneC (b.data.toList.drop a)).2 = 0 ∨ 4294967295 < (oneC (b.data.toList.drop a)).1
        · have HO : Hid (elB 4294967295 b.data.toList = none) := Lib.hid (by rw [HE.out, elB_stop hne hst]; rfl)
          clear hne HE
          generalize oneC (b.data.toList.drop a) = o at *
          obtain ⟨v, n⟩ := o
          simp only at C hol hst
          by_cases hn : n = 0
          · have i2 : ((n : Int) == 0) = true := by simp [hn]
            clear hst
            subst hn
            go_wp2_with (go_at_call 50; refine (C _).mono ?_; rintro e w' ⟨rfl, rfl⟩)
            go_ret2
            refine ⟨?_, hbx⟩
            rw [HO.out]
            rfl
          · have i2 : ((n : Int) == 0) = false := beq_eq_false_iff_ne.2 (by omega)
            have i3 : (4294967295 : Int) < (v : Int) := by omega
            clear hst
            go_wp2_with (go_at_call 50; refine (C _).mono ?_; rintro e w' ⟨rfl, rfl⟩)
            go_ret2
            refine ⟨?_, hbx⟩
            rw [HO.out]
            rfl
        · have HN := elB_more hne hst
          rw [List.drop_drop] at HN
          have HE2 := HE.out
          rw [HN] at HE2
          clear HN HE hne
          generalize oneC (b.data.toList.drop a) = o at *
          obtain ⟨v, n⟩ := o
          simp only at C hol hst HE2
          have HN : Hid (elB 4294967295 b.data.toList = (elB 4294967295 (b.data.toList.drop (a + n))).map ((pre ++ [v]) ++ ·)) := Lib.hid (by
            rw [HE2, Option.map_map]
            congr 1
            funext x
            simp)
          have hn0 : ¬ n = 0 := fun e => hst (.inl e)
          have i2 : ((n : Int) == 0) = false := beq_eq_false_iff_ne.2 (by omega)
          have i3 : ¬ (4294967295 : Int) < (v : Int) := by omega
          have i4 : (a : Int) + (n : Int) ≤ (b.size : Int) := by omega
          clear hst HE2
          go_wp2_with (first
            | (go_at_call 50; refine (C _).mono ?_; rintro e w' ⟨rfl, rfl⟩)
            | (at_builtin; refine wpList_append_own _ rfl _ _ 32 rfl w.heap.size 2 i0 (.int .i64 0) 1 8 Try.underlying32 hi hz0 hz1 hz2 rfl (by decide) _ _ _ rfl (hrow.alloc _) ⟨wr.heap.size, 0, none⟩ 1 1 [intCell v] rfl rfl (cell_one_new _ _ _) (by simp [Value.oneCell', intCell]) (by unfold maxLen; omega) (by omega) (by simp; omega) ?_; intro v' w3 hown hgrow hn3; clear hn3; have hL4 := hrow.lt; have hB4 := (hbx.alloc hbs (.cells #[intCell v] 2)).grown hgrow (by simp; omega) (fun j e => (hL4 j e).1)))
          go_roundg (b.size - (a + n))
          case rel =>
            refine ⟨pre ++ [v], a + n, by omega, by rw [List.length_append]; simp; omega, by go_num, rfl, HN, ?_, hB4⟩
            rw [List.length_append, intCells_snoc]
            exact hown
          case measure => omega
      · have i1 : ¬ (a : Int) < (b.size : Int) := by omega
        have HO : Hid (elB 4294967295 b.data.toList = some pre) := Lib.hid (by
          rw [HE.out, List.drop_eq_nil_of_le (by rw [size_list]; omega)]
          show some (pre ++ []) = _
          rw [List.append_nil])
        clear HE
        go_wp2
        go_ret2
        refine ⟨?_, hbx⟩
        rw [HO.out]
        exact ⟨_, rfl, hrow⟩
  · have h4o := h4.out
    subst h4o
    clear h4
    go_enter Try.func35, Try.ntmps35
    go_wp2
    go_loopg [8, 9, 10, 11] b.size (fun m out at' _ _ wx => ∃ (pre : List Nat) (a : Nat), a ≤ b.size ∧ pre.length ≤ a ∧ at' = .int .i64 a ∧ m = b.size - a ∧ Hid (elB 4294967295 b.data.toList = (elB 4294967295 (b.data.toList.drop a)).map (pre ++ ·)) ∧ wx.ownsRow w.heap.size 2 1 out pre.length (intCells pre) ∧ Below w.heap.size w wx)
    case atStart => exact ⟨[], 0, Nat.zero_le _, Nat.le_refl _, rfl, rfl, Lib.hid (by simp), World.ownsRow_nil _ _ _ _, Below.refl _ _⟩
    case round =>
      obtain ⟨pre, a, ha, hpl, rfl, rfl, HE, hrow, hbx⟩ := hrel
      clear h1 h2 h3 hp hb v1 v2 v3 i1 i2 i3 i4
      by_cases hlt : a < b.size
      · have C := fun w => rone_any b a w hbm hlt
        have hne : b.data.toList.drop a ≠ [] := by
          intro e
          have := congrArg List.length e
          rw [List.length_drop, size_list, List.length_nil] at this
          omega
        have hol := one_len' (b.data.toList.drop a)
        rw [List.length_drop, size_list] at hol
        have i1 : (a : Int) < (b.size : Int) := by omega
        have hbs := hbx.size
        by_cases hst : (oneC (b.data.toList.drop a)).2 = 0 ∨ 4294967295 < (oneC (b.data.toList.drop a)).1
        · have HO : Hid (elB 4294967295 b.data.toList = none) := Lib.hid (by rw [HE.out, elB_stop hne hst]; rfl)
          clear hne HE
          generalize oneC (b.data.toList.drop a) = o at *
          obtain ⟨v, n⟩ := o
          simp only at C hol hst
          by_cases hn : n = 0
          · have i2 : ((n : Int) == 0) = true := by simp [hn]
            clear hst
            subst hn
            go_wp2_with (go_at_call 50; refine (C _).mono ?_; rintro e w' ⟨rfl, rfl⟩)
            go_ret2
            refine ⟨?_, hbx⟩
            rw [HO.out]
            rfl
          · have i2 : ((n : Int) == 0) = false := beq_eq_false_iff_ne.2 (by omega)
            have i3 : (4294967295 : Int) < (v : Int) := by omega
            clear hst
            go_wp2_with (go_at_call 50; refine (C _).mono ?_; rintro e w' ⟨rfl, rfl⟩)
            go_ret2
            refine ⟨?_, hbx⟩
            rw [HO.out]
            rfl
        · have HN := elB_more hne hst
          rw [List.drop_drop] at HN
          have HE2 := HE.out
          rw [HN] at HE2
          clear HN HE hne
          generalize oneC (b.data.toList.drop a) = o at *
          obtain ⟨v, n⟩ := o
          simp only at C hol hst HE2
          have HN : Hid (elB 4294967295 b.data.toList = (elB 4294967295 (b.data.toList.drop (a + n))).map ((pre ++ [v]) ++ ·)) := Lib.hid (by
            rw [HE2, Option.map_map]
            congr 1
            funext x
            simp)
          have hn0 : ¬ n = 0 := fun e => hst (.inl e)
          have i2 : ((n : Int) == 0) = false := beq_eq_false_iff_ne.2 (by omega)
          have i3 : ¬ (4294967295 : Int) < (v : Int) := by omega
          have i4 : (a : Int) + (n : Int) ≤ (b.size : Int) := by omega
          clear hst HE2
          go_wp2_with (first
            | (go_at_call 50; refine (C _).mono ?_; rintro e w' ⟨rfl, rfl⟩)
            | (at_builtin; refine wpList_append_own _ rfl _ _ 32 rfl w.heap.size 2 i0 (.int .i64 0) 1 8 Try.underlying32 hi hz0 hz1 hz2 rfl (by decide) _ _ _ rfl (hrow.alloc _) ⟨wr.heap.size, 0, none⟩ 1 1 [intCell v] rfl rfl (cell_one_new _ _ _) (by simp [Value.oneCell', intCell]) (by unfold maxLen; omega) (by omega) (by simp; omega) ?_; intro v' w3 hown hgrow hn3; clear hn3; have hL4 := hrow.lt; have hB4 := (hbx.alloc hbs (.cells #[intCell v] 2)).grown hgrow (by simp; omega) (fun j e => (hL4 j e).1)))
          go_roundg (b.size - (a + n))
          case rel =>
            refine ⟨pre ++ [v], a + n, by omega, by rw [List.length_append]; simp; omega, by go_num, rfl, HN, ?_, hB4⟩
            rw [List.length_append, intCells_snoc]
            exact hown
          case measure => omega
      · have i1 : ¬ (a : Int) < (b.size : Int) := by omega
        have HO : Hid (elB 4294967295 b.data.toList = some pre) := Lib.hid (by
          rw [HE.out, List.drop_eq_nil_of_le (by rw [size_list]; omega)]
          show some (pre ++ []) = _
          rw [List.append_nil])
        clear HE
        go_wp2
        go_ret2
        refine ⟨?_, hbx⟩
        rw [HO.out]
        exact ⟨_, rfl, hrow⟩
  · have h4o := h4.out
    subst h4o
    clear h4
    go_enter Try.func35, Try.ntmps35
    go_wp2
    go_loopg [8, 9, 10, 11] b.size (fun m out at' _ _ wx => ∃ (pre : List Nat) (a : Nat), a ≤ b.size ∧ pre.length ≤ a ∧ at' = .int .i64 a ∧ m = b.size - a ∧ Hid (elB 255 b.data.toList = (elB 255 (b.data.toList.drop a)).map (pre ++ ·)) ∧ wx.ownsRow w.heap.size 2 1 out pre.length (intCells pre) ∧ Below w.heap.size w wx)
    case atStart => exact ⟨[], 0, Nat.zero_le _, Nat.le_refl _, rfl, rfl, Lib.hid (by simp), World.ownsRow_nil _ _ _ _, Below.refl _ _⟩
    case round =>
      obtain ⟨pre, a, ha, hpl, rfl, rfl, HE, hrow, hbx⟩ := hrel
      clear h1 h2 h3 hp hb v1 v2 v3 i1 i2 i3 i4
      by_cases hlt : a < b.size
      · have C := fun w => rone_any b a w hbm hlt
        have hne : b.data.toList.drop a ≠ [] := by
          intro e
          have := congrArg List.length e
          rw [List.length_drop, size_list, List.length_nil] at this
          omega
        have hol := one_len' (b.data.toList.drop a)
        rw [List.length_drop, size_list] at hol
        have i1 : (a : Int) < (b.size : Int) := by omega
        have hbs := hbx.size
        by_cases hst : (oneC (b.data.toList.drop a)).2 = 0 ∨ 255 < (oneC (b.data.toList.drop a)).1
        · have HO : Hid (elB 255 b.data.toList = none) := Lib.hid (by rw [HE.out, elB_stop hne hst]; rfl)
          clear hne HE
          generalize oneC (b.data.toList.drop a) = o at *
          obtain ⟨v, n⟩ := o
          simp only at C hol hst
          by_cases hn : n = 0
          · have i2 : ((n : Int) == 0) = true := by simp [hn]
            clear hst
            subst hn
            go_wp2_with (go_at_call 50; refine (C _).mono ?_; rintro e w' ⟨rfl, rfl⟩)
            go_ret2
            refine ⟨?_, hbx⟩
            rw [HO.out]
            rfl
          · have i2 : ((n : Int) == 0) = false := beq_eq_false_iff_ne.2 (by omega)
            have i3 : (255 : Int) < (v : Int) := by omega
            clear hst
            go_wp2_with (go_at_call 50; refine (C _).mono ?_; rintro e w' ⟨rfl, rfl⟩)
            go_ret2
            refine ⟨?_, hbx⟩
            rw [HO.out]
            rfl
        · have HN := elB_more hne hst
          rw [List.drop_drop] at HN
          have HE2 := HE.out
          rw [HN] at HE2
          clear HN HE hne
          generalize oneC (b.data.toList.drop a) = o at *
          obtain ⟨v, n⟩ := o
          simp only at C hol hst HE2
          have HN : Hid (elB 255 b.data.toList = (elB 255 (b.data.toList.drop (a + n))).map ((pre ++ [v]) ++ ·)) := Lib.hid (by
            rw [HE2, Option.map_map]
            congr 1
            funext x
            simp)
          have hn0 : ¬ n = 0 := fun e => hst (.inl e)
          have i2 : ((n : Int) == 0) = false := beq_eq_false_iff_ne.2 (by omega)
          have i3 : ¬ (255 : Int) < (v : Int) := by omega
          have i4 : (a : Int) + (n : Int) ≤ (b.size : Int) := by omega
          clear hst HE2
          go_wp2_with (first
            | (go_at_call 50; refine (C _).mono ?_; rintro e w' ⟨rfl, rfl⟩)
            | (at_builtin; refine wpList_append_own _ rfl _ _ 32 rfl w.heap.size 2 i0 (.int .i64 0) 1 8 Try.underlying32 hi hz0 hz1 hz2 rfl (by decide) _ _ _ rfl (hrow.alloc _) ⟨wr.heap.size, 0, none⟩ 1 1 [intCell v] rfl rfl (cell_one_new _ _ _) (by simp [Value.oneCell', intCell]) (by unfold maxLen; omega) (by omega) (by simp; omega) ?_; intro v' w3 hown hgrow hn3; clear hn3; have hL4 := hrow.lt; have hB4 := (hbx.alloc hbs (.cells #[intCell v] 2)).grown hgrow (by simp; omega) (fun j e => (hL4 j e).1)))
          go_roundg (b.size - (a + n))
          case rel =>
            refine ⟨pre ++ [v], a + n, by omega, by rw [List.length_append]; simp; omega, by go_num, rfl, HN, ?_, hB4⟩
            rw [List.length_append, intCells_snoc]
            exact hown
          case measure => omega
      · have i1 : ¬ (a : Int) < (b.size : Int) := by omega
        have HO : Hid (elB 255 b.data.toList = some pre) := Lib.hid (by
          rw [HE.out, List.drop_eq_nil_of_le (by rw [size_list]; omega)]
          show some (pre ++ []) = _
          rw [List.append_nil])
        clear HE
        go_wp2
        go_ret2
        refine ⟨?_, hbx⟩
        rw [HO.out]
        exact ⟨_, rfl, hrow⟩

end Go.Proofs.Ytenmapahigbbeaa

namespace Go.Proofs.Ytenmapahigbbeaa
open Go.RowKit Go.Shelf

attribute [local go_sem] Oper.semAt_some

def TrE (_ : List (Nat × Bool)) (_ : Value) : Prop := True
/-- What a round keeps; how the loop is left. -/
def LitI (w : World) (p : ByteArray) (pre : List (Nat × Bool)) (W : World) : Prop :=
  ((∃ v, Boxed W (w.heap.size + 1) 32 v ∧ W.ownsRow w.heap.size 2 1 v pre.length (intCells (pre.map (·.1))) ∧ TrE pre v) ∧ (Boxed W w.heap.size 9 (.string p) ∧ Boxed W (w.heap.size + 1 + 1) 4 (.bool true)) ∧ Below w.heap.size w W) ∧ allYes pre
def LitX (w : World) (c : Code) (pre : List (Nat × Bool)) (W : World) : Prop := ∃ q x, TriW w.heap.size ⟨#[]⟩ (.slice none 0 0) false W ∧ Below w.heap.size w W ∧ c = .ret ∧ pre = q ++ [x] ∧ x.2 = false
/-- What numbers answers at a literal. -/
def LitR (w : World) (s : ByteArray) (e : Ending) (w' : World) : Prop := (match litC s.data.toList with
  | some ns => ∃ (p : ByteArray) (v : Value), e = .returned (.tuple #[.string p, v, .bool true]) ∧ p.data.toList = preC s.data.toList ∧ w'.ownsRow w.heap.size 2 1 v ns.length (intCells ns)
  | none => e = .returned (.tuple #[.string ⟨#[]⟩, .slice none 0 0, .bool false])) ∧ Below w.heap.size w w'

set_option maxRecDepth 100000 in
set_option maxHeartbeats 4000000 in
theorem numbers_lit (s : ByteArray) (k : Nat) (w : World) (hs : s.size ≤ 200000) (hL : LibVar w) (hk : k = 3 ∨ k = 4) (h : oneOf s = (k, true)) :
    Calls Try.prog 31 #[.int .i64 k, .string s] w (LitR w s) := by
  obtain ⟨i0, hi, hz0, hz1, hz2⟩ := info_parts infoI64
  have C := fun w' (hb : Below w.heap.size w w') => cutQuotes_yes s k w' hs (libVar_below hb hL) hk h
  have T := tri_new w
  have hB := below3 w (.cells #[.string ⟨#[]⟩] 9) (.cells #[.slice none 0 0] 32) (.cells #[.bool false] 4)
  obtain ⟨W1, hW1⟩ : ∃ W1, ((w.alloc (.cells #[.string ⟨#[]⟩] 9)).alloc (.cells #[.slice none 0 0] 32)).alloc (.cells #[.bool false] 4) = W1 := ⟨_, rfl⟩
  rw [hW1] at T hB
  refine (callsIn_wide (n := 20)).1 ?_
  refine callsIn_of_wp_marks Try.func31 rfl trivial ?_ rfl
  simp only [Try.ntmps31, List.size_toArray, List.length_cons, List.length_nil, Nat.reduceAdd, Nat.reduceSub, Array.replicate_succ, Array.replicate_zero, List.push_toArray, List.append_toArray, List.nil_append, List.cons_append]
  gi_wp2
  refine ⟨trivial, (callsIn_wide.2 (C _ hB)).mono ?_⟩
  rintro e w1 ⟨⟨p, b, rfl, hpl, hbl, hbs⟩, hb1⟩
  have T1 := T.below hb1
  have hB1 := hB.trans (hb1.mono hB.size)
  have T2 := (T1.setP p).setF true
  have HP := Lib.hid hpl
  have HBl := Lib.hid hbl
  have hsz := hB1.size
  clear T C hW1 hpl hbl hk h
  have c0 := T1.pre.cell
  have c1 := T1.row.cell
  have c2 := T1.fit.cell
  have f0 := T1.pre.frozen
  have f1 := T1.row.frozen
  have f2 := T1.fit.frozen
  gi_wp2
  clear c0 c1 c2 f0 f1 f2
  have hB2 : Below w.heap.size w ((w1.setCell ⟨w.heap.size, 0, none⟩ (.string p)).setCell ⟨w.heap.size + 1 + 1, 0, none⟩ (.bool true)) := (hB1.setCell (Nat.le_refl _) _).setCell (by simp; omega) _
  obtain ⟨W2, hW2⟩ : ∃ W2, (w1.setCell ⟨w.heap.size, 0, none⟩ (.string p)).setCell ⟨w.heap.size + 1 + 1, 0, none⟩ (.bool true) = W2 := ⟨_, rfl⟩
  rw [hW2] at T2 hB2 ⊢
  clear hW2 T1 hB1
  refine ⟨trivial, (callsIn_wide.2 (greatest_any _ _)).mono ?_⟩
  rintro e w' ⟨rfl, rfl⟩
  gi_wp2
  obtain ⟨g, hg⟩ : ∃ g, topC p.data.toList = g := ⟨_, rfl⟩
  obtain ⟨hg1, hg2⟩ := topC_le p.data.toList
  rw [hg] at hg1 hg2 ⊢
  have HG := Lib.hid hg
  clear hg
  refine ⟨trivial, (callsIn_wide.2 (elements_any _ _ _)).mono ?_⟩
  rintro e w' ⟨rfl, rfl⟩
  gi_wp2
  have hsz2 := hB2.size
  have bS := (Boxed.new W2 9 (.string b)).alloc (.cells #[.int .u64 g] 22)
  have bG := Boxed.new (W2.alloc (.cells #[.string b] 9)) 22 (.int .u64 g)
  simp only [World.size_alloc] at bG
  have hsz3 : w.heap.size + 1 + 1 < W2.heap.size := T2.fit.lt
  have hb23 := below2 W2 (.cells #[.string b] 9) (.cells #[.int .u64 g] 22)
  have T3 := T2.below hb23
  have hB3 := hB2.trans (hb23.mono hsz2)
  have hsz4 : W2.heap.size + 2 ≤ ((W2.alloc (.cells #[.string b] 9)).alloc (.cells #[.int .u64 g] 22)).heap.size := by simp
  obtain ⟨W0, hW0⟩ : ∃ W0, (W2.alloc (.cells #[.string b] 9)).alloc (.cells #[.int .u64 g] 22) = W0 := ⟨_, rfl⟩
  rw [hW0] at bS bG T3 hB3 hsz4 ⊢
  clear hW0 hb23 T2 hB2
  have hel := elA_len g _ b.data.toList (Nat.le_refl _)
  rw [size_list] at hel
  have hbm : b.size ≤ maxLen := by unfold maxLen; omega
  refine wpIn_rangeFunc_ownH rfl (by decide) (gf := 61) (lb := #[.pointer (some ⟨W2.heap.size, 0, none⟩), .pointer (some ⟨W2.heap.size + 1, 0, none⟩)]) rfl trivial (enters_of Try.func61 (by kernel_rfl) rfl)
    (elements_stops _ (by decide) b g hbm hg1 hg2 W2.heap.size (W2.heap.size + 1) W0 bS bG) twoKept_t (twoKept_b (n := W0.heap.size)) (Below.refl _ _) (fun _ => rfl)
    (LitI w p) (LitX w)
    (OwnFrom.and (OwnFrom.and (Own.from (holdsRow_own w.heap.size (w.heap.size + 1) 32 2 1 (fun pre => pre.length) (fun pre => intCells (pre.map (·.1))) TrE) _) (OwnFrom.and (OwnFrom.and (Own.from (boxed_own _ _ _) _) (Own.from (boxed_own _ _ _) _)) (ownFrom_below (Nat.le_refl _) (by omega)))) (ownFrom_pure _ _))
    (fun c pre X Y row hs' hg' hr => by
      obtain ⟨q, x, h1, h2, h3⟩ := hs'
      exact ⟨q, x, h1.grow hg' hr, (ownFrom_below (β := Unit) (Nat.le_refl _) (by omega)) () X Y row h2 hg' hr, h3⟩)
    ⟨⟨⟨_, T3.row, World.ownsRow_nil _ _ _ _, trivial⟩, ⟨T3.pre, T3.fit⟩, hB3⟩, fun _ h => by cases h⟩
    (fun x a' W => a' = { tmps := #[.int .i64 k, .string s, undef, undef, .pointer (some ⟨w.heap.size, 0, none⟩), .pointer (some ⟨w.heap.size + 1, 0, none⟩), .pointer (some ⟨w.heap.size + 1 + 1, 0, none⟩), .string b, .int .i64 x.1, .bool x.2, .tuple #[.string p, .string b, .bool true], .int .i64 k, .string s, .tuple #[.string p, .string b, .bool true], .string p, .string b, .bool true, .bool true, .bool false, .string b, .string p, .int .u64 g, .func (.func 61) #[] #[.pointer (some ⟨W2.heap.size, 0, none⟩), .pointer (some ⟨W2.heap.size + 1, 0, none⟩)], .int .i64 x.1, .bool x.2, undef, undef, undef, undef, undef, undef, undef, undef], defers := [] })
    (fun x a' _ X Y row hs' hg hr => hs')
    ?assign ?body ?done ?stop
  case assign =>
    rintro l pre x W K hI hK
    unfold encE
    gi_wp2
    exact hK _ _ (KeepsFrom.refl _ _) ⟨fun _ h => h, fun _ h => h⟩ hI rfl
  case body =>
    rintro l pre x a' W hl ⟨r, hr⟩ ⟨⟨⟨v, bL1, hrow, _⟩, ⟨bP1, bF1⟩, hB1⟩, hp⟩ rfl hlt
    have c0 := bP1.cell
    have c1 := bL1.cell
    have c2 := bF1.cell
    have f0 := bP1.frozen
    have f1 := bL1.frozen
    have f2 := bF1.frozen
    have lR := bL1.lt
    obtain ⟨n, y⟩ := x
    cases y with
    | false =>
      clear hsz4
      gi_wp2
      have T5 := (((⟨bP1, bL1, bF1⟩ : TriW w.heap.size p v true W).setP ⟨#[]⟩).setV (.slice none 0 0)).setF false
      refine ⟨(((KeepsOthers.setCell _ _ _).from _).trans ((KeepsOthers.setCell _ _ _).from _)).trans ((KeepsOthers.setCell _ _ _).from _), pre, (n, false), T5, ((hB1.setCell (Nat.le_refl _) _).setCell (by simp) _).setCell (by simp; omega) _, rfl, rfl, rfl⟩
    | true =>
      gi_wp2_with (gi_at_builtin; refine wpListIn_append_own _ rfl _ _ 32 rfl w.heap.size 2 i0 (.int .i64 0) 1 8 Try.underlying32 hi hz0 hz1 hz2 rfl (by decide) _ _ _ rfl (hrow.alloc _) ⟨W.heap.size, 0, none⟩ 1 1 [intCell n] rfl rfl (cell_one_new _ _ _) (by simp [Value.oneCell', intCell]) (by unfold maxLen; omega) (by omega) (by have := hB1.size; simp; omega) ?_; intro v' w2 hown' hgrow _; obtain ⟨g', cap', rfl⟩ := ownsRow_succ hown'; obtain ⟨hv1, hv2, hr2, hk2, hb2⟩ := bL1.appended (by decide) hrow hB1.size (Nat.le_succ _) hown' hgrow; have hc1 := hv1.cell; have hf1 := hv1.frozen; have bP2 := box_app bP1 (by decide) hrow hgrow; have bF2 := box_app bF1 (by decide) hrow hgrow; have hkt : TwoKept W2.heap.size (W2.heap.size + 1) W (w2.setCell ⟨w.heap.size + 1, 0, none⟩ (.slice (some ⟨g', 0, none⟩) (pre.length + 1) cap')) := ⟨fun u hu => (box_app hu (by decide) hrow hgrow).other (by omega) _, fun u hu => (box_app hu (by decide) hrow hgrow).other (by omega) _⟩)
      refine ⟨hk2.from _, hkt, ⟨⟨⟨_, hv2, ?_, trivial⟩, ⟨bP2.other (by omega) _, bF2.other (by omega) _⟩, hB1.trans hb2⟩, allYes_snoc hp rfl⟩⟩
      rw [List.map_append, List.length_append, List.map_singleton, intCells_snoc]
      exact hr2
  case done =>
    rintro D ys W hD rfl ⟨⟨⟨v, bL1, hrow, _⟩, ⟨bP1, bF1⟩, hB1⟩, hp⟩ hK
    have c0 := bP1.cell
    have c1 := bL1.cell
    have c2 := bF1.cell
    have f0 := bP1.frozen
    have f1 := bL1.frozen
    have f2 := bF1.frozen
    have e2 := fun k => boxed_self (show Boxed (W.drewN k) w.heap.size 9 (.string p) from bP1)
    have e3 := fun k => boxed_self (show Boxed (W.drewN k) (w.heap.size + 1) 32 v from bL1)
    have e4 := fun k => boxed_self (show Boxed (W.drewN k) (w.heap.size + 1 + 1) 4 (.bool true) from bF1)
    have HE : Hid (litC s.data.toList = some ((elA g b.data.toList).map (·.1))) := Lib.hid (by
      unfold litC
      rw [← HP.out, HG.out, ← HBl.out]
      exact elems_done hp)
    obtain ⟨ys, hys⟩ : ∃ ys, elA g b.data.toList = ys := ⟨_, rfl⟩
    rw [hys] at HE hrow
    clear hys hp hel
    obtain ⟨va, vc, rfl⟩ := row_shape hrow
    gi_wp2
    refine wpIn_wide.2 ?_
    go_big_quiet (fail)
    gi_wp2
    have hK2 : (W.drewN nq).heap[D]? = some (.deferred (some [])) := hK
    have hoth : ∀ B, B < W0.heap.size → ((W.drewN nq).putObj D (.deferred none)).cell? ⟨B, 0, none⟩ = W.cell? ⟨B, 0, none⟩ := fun B hB => World.cell?_of_block (a := ⟨B, 0, none⟩) (World.putObj_heap_other (by simp only; omega))
    refine ⟨by simp, .inl ⟨_, _, rfl, run_takeDeferred hK2, ?_⟩⟩
    refine ⟨_, results_tri _ w.heap.size (w.heap.size + 1) (w.heap.size + 1 + 1) _ _ _ _ rfl rfl rfl ((hoth _ (by omega)).trans c0) ((hoth _ (by omega)).trans c1) ((hoth _ (by omega)).trans c2), ?_⟩
    unfold LitR
    rw [HE.out]
    refine ⟨⟨p, _, rfl, HP.out, ?_⟩, (below_drewN hB1 nq).trans (belowK_b (w := w) (Nat.le_refl _) (W.drewN nq) D _ _ (by omega) hK2 rfl rfl)⟩
    rw [List.length_map]
    exact ownsRow_putObj (W := W.drewN nq) hrow _ hK2 rfl
  case stop =>
    rintro D c pre W hD hpre ⟨q, x, T5, hB1, rfl, rfl, hx⟩ hK
    have HE : Hid (litC s.data.toList = none) := Lib.hid (by
      unfold litC
      rw [← HP.out, HG.out, ← HBl.out]
      exact elems_stop hpre hx)
    clear hpre
    gi_wp2
    have hoth : ∀ B, B < W0.heap.size → (W.putObj D (.deferred none)).cell? ⟨B, 0, none⟩ = W.cell? ⟨B, 0, none⟩ := fun B hB => World.cell?_of_block (a := ⟨B, 0, none⟩) (World.putObj_heap_other (by simp only; omega))
    refine ⟨by simp, .inl ⟨_, _, rfl, run_takeDeferred hK, ?_⟩⟩
    refine ⟨_, results_tri _ w.heap.size (w.heap.size + 1) (w.heap.size + 1 + 1) _ _ _ _ rfl rfl rfl ((hoth _ (by omega)).trans T5.pre.cell) ((hoth _ (by omega)).trans T5.row.cell) ((hoth _ (by omega)).trans T5.fit.cell), ?_⟩
    unfold LitR
    rw [HE.out]
    exact ⟨rfl, hB1.trans (belowK_b (w := w) (Nat.le_refl _) W D _ _ (by omega) hK rfl rfl)⟩

end Go.Proofs.Ytenmapahigbbeaa

namespace Go.Proofs.Ytenmapahigbbeaa
open Go.RowKit Go.Shelf

theorem elems_le (top : Nat) : ∀ (f : Nat) (l : List UInt8) (ns : List Nat), elemsC top f l = some ns → ∀ n ∈ ns, n ≤ top
  | 0, l, ns, h => by
    rw [elemsC] at h
    split at h
    · cases h; intro n hn; cases hn
    · cases h
  | f + 1, l, ns, h => by
    rw [elemsC] at h
    split at h
    · cases h; intro n hn; cases hn
    · split at h
      · cases h
      · rename_i h1 h2
        cases he : elemsC top f (l.drop (oneC l).2) with
        | none => rw [he] at h; cases h
        | some ms =>
          rw [he] at h
          simp only [Option.map_some, Option.some.injEq] at h
          subst h
          intro n hn
          rcases List.mem_cons.1 hn with rfl | hn
          · omega
          · exact elems_le top f _ ms he n hn
def foldV (ns : List Nat) : Nat := ns.foldl (fun v n => 256 * v + n) 0
theorem foldV_snoc (ns : List Nat) (n : Nat) : foldV (ns ++ [n]) = 256 * foldV ns + n := by unfold foldV; rw [List.foldl_append]; rfl
theorem packC_eq (ns : List Nat) : packC ns = if 256 ^ ns.length / 2 ≤ foldV ns then (foldV ns : Int) - (256 ^ ns.length : Nat) else (foldV ns : Int) := rfl
/-- Some of a constant's numbers, packed. -/
structure Pk (ns : List Nat) (k v z : Nat) : Prop where
  val : foldV (ns.take k) = v
  end_ : 256 ^ k = z
  lt : v < z
  le : z ≤ 256 ^ k
theorem Pk.start (ns : List Nat) : Pk ns 0 0 1 := ⟨by simp [foldV], rfl, by decide, Nat.le_refl _⟩
theorem Pk.next {ns : List Nat} {k v z n : Nat} (h : Pk ns k v z) (hn : ns[k]? = some n) (h255 : n ≤ 255) : Pk ns (k + 1) (256 * v + n) (256 * z) := by
  have h1 := h.lt
  have h2 := h.le
  refine ⟨?_, ?_, by omega, ?_⟩
  · rw [List.take_add_one, hn, ← h.val]
    exact foldV_snoc _ _
  · rw [Nat.pow_succ, h.end_, Nat.mul_comm]
  · rw [Nat.pow_succ]; omega

set_option maxRecDepth 100000 in
set_option maxHeartbeats 2000000 in
theorem packed_any (ns : List Nat) (a : Option Addr) (n cap : Nat) (w : World) (hn : ns.length = n) (h4 : n ≤ 4) (h255 : ∀ x ∈ ns, x ≤ 255) (hr : 0 < n → ∃ g, a = some ⟨g, 0, none⟩ ∧ ∀ j u, (intCells ns)[j]? = some u → w.cell? ⟨g, j, none⟩ = some u) :
    Calls Try.prog 32 #[.slice a n cap] w fun e w' => e = .returned (.int .i64 (packC ns)) ∧ w = w' := by
  have HN := Lib.hid hn
  have H255 := Lib.hid h255
  have HR := Lib.hid hr
  clear hn h255 hr
  go_enter Try.func32, Try.ntmps32
  go_wp2
  go_loop [3, 4, 9] (fun value end_ i => ∃ k v z : Nat, k ≤ n ∧ i = .int .i64 k ∧ value = .int .i64 v ∧ end_ = .int .i64 z ∧ Hid (Pk ns k v z) ∧ v < z ∧ z ≤ 4294967296) (fun _ _ i => n - (intOf i).toNat)
  case atStart => exact ⟨0, 0, 1, Nat.zero_le _, rfl, rfl, rfl, Lib.hid (Pk.start ns), by decide, by decide⟩
  case round =>
    obtain ⟨k, v, z, hk, rfl, rfl, rfl, HP, hvz, hz⟩ := hrel
    by_cases hlt : k < n
    · obtain ⟨x, hx⟩ : ∃ x, ns[k]? = some x := ⟨_, List.getElem?_eq_getElem (by rw [HN.out]; exact hlt)⟩
      obtain ⟨g, rfl, hc⟩ := HR.out (by omega)
      have hx255 := H255.out x (List.mem_of_getElem? hx)
      have c0 := hc k (intCell x) (by unfold intCells; rw [List.getElem?_map, hx]; rfl)
      unfold intCell at c0
      have HP2 := Lib.hid (HP.out.next hx hx255)
      have hz2 : 256 * z ≤ 4294967296 := by
        rw [← HP.out.end_, Nat.mul_comm, ← Nat.pow_succ]
        exact Nat.le_trans (Nat.pow_le_pow_right (by decide) (show k + 1 ≤ 4 by omega)) (by decide)
      have i1 : (k : Int) < (n : Int) := by omega
      have i2 : (0 : Int) ≤ (k : Int) := by omega
      clear hx hc HP
      go_wp2
      go_round
      case rel => exact ⟨k + 1, 256 * v + x, 256 * z, by omega, by go_num, by go_num, by go_num, HP2, by omega, hz2⟩
      case measure => simp [intOf]; omega
    · obtain rfl : k = n := by omega
      have hv := HP.out.val
      have hz3 := HP.out.end_
      rw [← HN.out, List.take_length] at hv
      rw [← HN.out] at hz3
      have HO : Hid (packC ns = if z / 2 ≤ v then (v : Int) - (z : Nat) else (v : Int)) := Lib.hid (by rw [packC_eq, hv, hz3])
      clear hv hz3 HP
      have i1 : ¬ (k : Int) < (k : Int) := by omega
      by_cases hh : z / 2 ≤ v
      · have i3 : (z : Int) / 2 ≤ (v : Int) := by omega
        have HO2 := Lib.hid (HO.out.trans (if_pos hh))
        clear hh HO
        go_wp2
        go_ret
        exact ⟨ri (by rw [HO2.out]), rfl⟩
      · have i3 : ¬ (z : Int) / 2 ≤ (v : Int) := by omega
        have HO2 := Lib.hid (HO.out.trans (if_neg hh))
        clear hh HO
        go_wp2
        go_ret
        exact ⟨ri (by rw [HO2.out]), rfl⟩

/-! ### Char and Str -/
def charR (s : ByteArray) : Int × Nat := errI (charC s)
theorem iI {a b : Int} {x y : Nat} (h : (b, y) = (a, x)) : Ending.returned (.tuple #[.int .i64 a, .int .i64 x]) = .returned (.tuple #[.int .i64 b, .int .i64 y]) := by cases h; rfl
theorem pre_nil {p : ByteArray} {l : List UInt8} (h : p.data.toList = l) : p.toList.isEmpty = (l == []) := by
  rw [ByteArray.toList_eq, h]
  cases l <;> rfl
theorem oneI_not {ns : List Nat} (h : ns.length ≠ 1) : oneI ns = none := by
  match ns, h with
  | [], _ => rfl
  | [n], h => exact absurd rfl h
  | a :: b :: r, _ => rfl

set_option maxRecDepth 100000 in
set_option maxHeartbeats 2000000 in
theorem Char_any (s : ByteArray) (w : World) (hs : s.size ≤ 200000) (hL : LibVar w) :
    Calls Try.prog 10 #[.string s] w fun e w' => e = .returned (.tuple #[.int .i64 (charR s).1, .int .i64 ((charR s).2 : Nat)]) ∧ Below w.heap.size w w' := by
  obtain ⟨R, hR⟩ : ∃ R, charR s = R := ⟨_, rfl⟩
  unfold charR charC at hR
  have hR' : charR s = R := by unfold charR charC; exact hR
  rw [hR']
  clear hR'
  by_cases h : oneOf s = (3, true)
  · have C := numbers_lit s 3 w hs hL (.inl rfl) h
    rw [if_pos h] at hR
    have HL : ∀ ns, litC s.data.toList = some ns → preC s.data.toList = [] → ∀ x ∈ ns, x ≤ 255 := fun ns h1 h2 x hx => by
      unfold litC at h1
      have := elems_le _ _ _ _ h1 x hx
      rw [h2] at this
      exact this
    unfold LitR at C
    generalize litC s.data.toList = O at *
    generalize preC s.data.toList = pr at *
    cases O with
    | none =>
      have HO : Hid (R = (0, 40)) := Lib.hid hR.symm
      clear HL h hR
      go_enter Try.func10, Try.ntmps10
      go_wp2_with fail
      refine C.mono ?_
      rintro e w1 ⟨rfl, hb1⟩
      go_wp2
      go_ret2
      exact ⟨iI (by rw [HO.out]), hb1⟩
    | some ns =>
      have HL2 := HL ns rfl
      have hR : errI (valC pr ns) = R := hR
      clear HL h
      unfold valC at hR
      by_cases hp : pr = []
      · have HL3 := Lib.hid (HL2 hp)
        rw [if_pos hp] at hR
        clear HL2
        go_enter Try.func10, Try.ntmps10
        go_wp2_with fail
        refine C.mono ?_
        rintro e w1 ⟨⟨p, v, rfl, hpl, hrow⟩, hb1⟩
        have hpe := pre_nil hpl
        rw [hp] at hpe
        obtain ⟨n, hn⟩ : ∃ n, ns.length = n := ⟨_, rfl⟩
        have HN := Lib.hid hn
        rw [hn] at hrow hR
        obtain ⟨a, cap, rfl⟩ := row_shape hrow
        have hne : p.toList.isEmpty = true := by rw [hpe]; rfl
        clear hpl hp C hn hpe
        by_cases h4 : 4 < n
        · rw [if_pos h4] at hR
          have HO := Lib.hid hR
          have i1 : (4 : Int) < (n : Int) := by omega
          clear hrow hR
          go_wp2
          go_ret2
          exact ⟨iI (by rw [← HO.out]; rfl), hb1⟩
        · rw [if_neg h4] at hR
          have HO := Lib.hid hR
          have i1 : ¬ (4 : Int) < (n : Int) := by omega
          have CP := packed_any ns a n cap w1 HN.out (by omega) HL3.out (fun h0 => by
            obtain ⟨g, ha, _, hc⟩ := row_pos h0 hrow
            exact ⟨g, ha, hc⟩)
          clear hrow hR
          go_wp2_with fail
          refine CP.mono ?_
          rintro e w' ⟨rfl, rfl⟩
          go_wp2
          go_ret2
          exact ⟨iI (by rw [← HO.out]; rfl), hb1⟩
      · rw [if_neg hp] at hR
        clear HL2
        go_enter Try.func10, Try.ntmps10
        go_wp2_with fail
        refine C.mono ?_
        rintro e w1 ⟨⟨p, v, rfl, hpl, hrow⟩, hb1⟩
        have hpe := pre_nil hpl
        have hne : p.toList.isEmpty = false := by
          rw [hpe]
          cases pr with
          | nil => exact absurd rfl hp
          | cons c r => rfl
        obtain ⟨n, hn⟩ : ∃ n, ns.length = n := ⟨_, rfl⟩
        by_cases h1 : n = 1
        · subst h1
          obtain ⟨x, rfl⟩ : ∃ x, ns = [x] := by
            match ns, hn with
            | [x], _ => exact ⟨x, rfl⟩
          obtain ⟨g, cap, rfl, hc⟩ := row_some (n := 0) hrow
          have c0 : w1.cell? ⟨g, 0, none⟩ = some (.int .i64 (x : Nat)) := hc 0 _ rfl
          have HO := Lib.hid hR
          clear hpl hp C hn hpe hrow hc hR
          go_wp2
          go_ret2
          exact ⟨iI (by rw [← HO.out]; rfl), hb1⟩
        · rw [oneI_not (by rw [hn]; exact h1)] at hR
          rw [hn] at hrow
          obtain ⟨a, cap, rfl⟩ := row_shape hrow
          have HO := Lib.hid hR
          have i1 : ((n : Int) != 1) = true := by rw [bne_iff_ne]; omega
          clear hpl hp C hn hpe hrow hR h1
          go_wp2
          go_ret2
          exact ⟨iI (by rw [← HO.out]; rfl), hb1⟩
  · have C := numbers_not s 3 w hs hL h
    rw [if_neg h] at hR
    have HO := Lib.hid hR
    clear h hR
    go_enter Try.func10, Try.ntmps10
    go_wp2_with fail
    refine C.mono ?_
    rintro e w1 ⟨rfl, hb1⟩
    go_wp2
    go_ret2
    exact ⟨iI (by rw [← HO.out]; rfl), hb1⟩

/-- What Str answers: a row, or nothing and the error. -/
def StrR (w : World) (s : ByteArray) (e : Ending) (w' : World) : Prop := (match strC s with
  | some ns => ∃ v, e = .returned (.tuple #[v, .int .i64 0]) ∧ w'.ownsRow w.heap.size 2 1 v ns.length (intCells ns)
  | none => e = .returned (.tuple #[.slice none 0 0, .int .i64 40])) ∧ Below w.heap.size w w'
set_option maxRecDepth 100000 in
set_option maxHeartbeats 2000000 in
theorem Str_any (s : ByteArray) (w : World) (hs : s.size ≤ 200000) (hL : LibVar w) :
    Calls Try.prog 12 #[.string s] w (StrR w s) := by
  unfold StrR strC
  by_cases h : oneOf s = (4, true)
  · have C := numbers_lit s 4 w hs hL (.inr rfl) h
    rw [if_pos h]
    unfold LitR at C
    generalize litC s.data.toList = O at *
    clear h
    cases O with
    | none =>
      go_enter Try.func12, Try.ntmps12
      go_wp2_with fail
      refine C.mono ?_
      rintro e w1 ⟨rfl, hb1⟩
      go_wp2
      go_ret2
      exact ⟨rfl, hb1⟩
    | some ns =>
      go_enter Try.func12, Try.ntmps12
      go_wp2_with fail
      refine C.mono ?_
      rintro e w1 ⟨⟨p, v, rfl, -, hrow⟩, hb1⟩
      obtain ⟨a, cap, rfl⟩ := row_shape hrow
      have HROW := Lib.hid hrow
      clear hrow C
      go_wp2
      go_ret2
      exact ⟨⟨_, rfl, HROW.out⟩, hb1⟩
  · have C := numbers_not s 4 w hs hL h
    rw [if_neg h]
    clear h
    go_enter Try.func12, Try.ntmps12
    go_wp2_with fail
    refine C.mono ?_
    rintro e w1 ⟨rfl, hb1⟩
    go_wp2
    go_ret2
    exact ⟨rfl, hb1⟩

end Go.Proofs.Ytenmapahigbbeaa

namespace Go.Proofs.Ytenmapahigbbeaa
open Go.RowKit Go.Shelf

theorem row_base_le {w : World} {b b' n : Nat} {e : TypeId} {size : Nat} {v : Value} {xs : List Value} (hb : b' ≤ b) (h : w.ownsRow b e size v n xs) : w.ownsRow b' e size v n xs := by
  refine ⟨h.1, ?_⟩
  rcases h.2 with h1 | ⟨g, cap, cur, h1, h2, h3⟩
  · exact .inl h1
  · exact .inr ⟨g, cap, cur, h1, Nat.le_trans hb h2, h3⟩

theorem elB_lit (l : List UInt8) : elB (topC (preC l)) (bodyC l) = litC l := rfl
theorem lit_ne {s : ByteArray} {ns : List Nat} (h : oneOf s = (3, true)) (h2 : litC s.data.toList = some ns) : ns ≠ [] := by
  obtain ⟨p, t, hp, h1, ht⟩ := char_text h
  have hb : bodyC s.data.toList = t := by rw [h1]; exact body_of (chPre_noQ p hp) rfl
  intro e
  subst e
  have h3 : elB (topC (preC s.data.toList)) (bodyC s.data.toList) = some [] := h2
  have hne : bodyC s.data.toList ≠ [] := by rw [hb]; intro e; rw [e] at ht; simp at ht
  by_cases hst : (oneC (bodyC s.data.toList)).2 = 0 ∨ topC (preC s.data.toList) < (oneC (bodyC s.data.toList)).1
  · rw [elB_stop hne hst] at h3; cases h3
  · rw [elB_more hne hst] at h3
    cases he : elB (topC (preC s.data.toList)) ((bodyC s.data.toList).drop (oneC (bodyC s.data.toList)).2) with
    | none => rw [he] at h3; cases h3
    | some ms => rw [he] at h3; cases h3
/-- What the document's answer sees of a constant or a string. -/
theorem rlit_facts {s : ByteArray} {k : Nat} (hs : s.size ≤ 1000) (hk : k = 3 ∨ k = 4) (h : oneOf s = (k, true)) : ∃ n, n + 2 ≤ s.size ∧ (n = 0 ↔ preC s.data.toList = []) ∧
    (∀ w, Calls Try.prog 34 #[.string s] w fun e w' => e = .returned (.int .i64 (n : Nat)) ∧ w = w') ∧
    (∀ w, Calls Try.prog 35 #[.string s, .int .i64 n] w fun e w' => (match litC s.data.toList with
      | some ns => ∃ v, e = .returned (.tuple #[v, .bool true]) ∧ w'.ownsRow w.heap.size 2 1 v ns.length (intCells ns)
      | none => e = .returned (.tuple #[.slice none 0 0, .bool false])) ∧ Below w.heap.size w w') := by
  obtain ⟨n, -, h1, h2, -, h3, h4⟩ := lit_parts hk h
  refine ⟨n, h1, ?_, fun w => ?_, fun w => ?_⟩
  · rw [h2]; exact List.length_eq_zero_iff
  · have := rprefix_any s w (by unfold maxLen; omega) (by omega)
    rw [← h2] at this
    exact this
  · have := relems_any s n w (by omega) h1
    rw [h3, h4] at this
    exact this

set_option maxRecDepth 100000 in
set_option maxHeartbeats 4000000 in
theorem rStr_any (s : ByteArray) (w : World) (hs : s.size ≤ 1000) :
    Calls Try.prog 13 #[.string s] w (StrR w s) := by
  have CO := fun w => rOne_any s w hs
  unfold StrR strC
  by_cases h : oneOf s = (4, true)
  · obtain ⟨n, h1, -, CP, CE⟩ := rlit_facts hs (.inr rfl) h
    rw [if_pos h]
    simp only [h] at CO
    clear h
    generalize litC s.data.toList = O at *
    cases O with
    | none =>
      go_enter Try.func13, Try.ntmps13
      go_wp2_with fail
      refine (CO _).mono ?_
      rintro e w1 ⟨rfl, hb1⟩
      go_wp2_with fail
      refine (CP _).mono ?_
      rintro e w' ⟨rfl, rfl⟩
      go_wp2_with fail
      refine (CE _).mono ?_
      rintro e w2 ⟨rfl, hb2⟩
      go_wp2
      go_ret2
      exact ⟨rfl, hb1.trans (hb2.mono hb1.size)⟩
    | some ns =>
      go_enter Try.func13, Try.ntmps13
      go_wp2_with fail
      refine (CO _).mono ?_
      rintro e w1 ⟨rfl, hb1⟩
      go_wp2_with fail
      refine (CP _).mono ?_
      rintro e w' ⟨rfl, rfl⟩
      go_wp2_with fail
      refine (CE _).mono ?_
      rintro e w2 ⟨⟨v, rfl, hrow⟩, hb2⟩
      go_wp2
      go_ret2
      exact ⟨⟨_, rfl, row_base_le hb1.size hrow⟩, hb1.trans (hb2.mono hb1.size)⟩
  · rw [if_neg h]
    generalize oneOf s = o at *
    obtain ⟨k, is⟩ := o
    simp only at CO
    cases is with
    | false =>
      clear h
      go_enter Try.func13, Try.ntmps13
      go_wp2_with fail
      refine (CO _).mono ?_
      rintro e w1 ⟨rfl, hb1⟩
      go_wp2
      go_ret2
      exact ⟨rfl, hb1⟩
    | true =>
      have i1 : ((k : Int) != 4) = true := by
        rw [bne_iff_ne]
        intro e
        exact h (by rw [show k = 4 by omega])
      clear h
      go_enter Try.func13, Try.ntmps13
      go_wp2_with fail
      refine (CO _).mono ?_
      rintro e w1 ⟨rfl, hb1⟩
      go_wp2
      go_ret2
      exact ⟨rfl, hb1⟩

set_option maxRecDepth 100000 in
set_option maxHeartbeats 4000000 in
theorem rChar_lit (s : ByteArray) (w : World) (hs : s.size ≤ 1000) (h : oneOf s = (3, true)) :
    Calls Try.prog 11 #[.string s] w fun e w' => e = .returned (.tuple #[.int .i64 (charR s).1, .int .i64 ((charR s).2 : Nat)]) ∧ Below w.heap.size w w' := by
  have CO := fun w => rOne_any s w hs
  obtain ⟨R, hR⟩ : ∃ R, charR s = R := ⟨_, rfl⟩
  rw [hR]
  unfold charR charC at hR
  rw [if_pos h] at hR
  obtain ⟨m, h1, hm, CP, CE⟩ := rlit_facts hs (.inl rfl) h
  have HE := fun ns h2 => lit_ne (s := s) (ns := ns) h h2
  have HL : ∀ ns, litC s.data.toList = some ns → (∀ x ∈ ns, x ≤ 4294967295) ∧ (preC s.data.toList = [] → ∀ x ∈ ns, x ≤ 255) := fun ns h1 => by
    unfold litC at h1
    have := elems_le _ _ _ _ h1
    refine ⟨fun x hx => Nat.le_trans (this x hx) (topC_le _).2, fun h2 x hx => ?_⟩
    rw [h2] at this
    exact this x hx
  simp only [h] at CO
  clear h
  generalize litC s.data.toList = O at *
  generalize preC s.data.toList = pr at *
  cases O with
  | none =>
    have HO : Hid (R = (0, 40)) := Lib.hid hR.symm
    clear HL HE hR hm
    go_enter Try.func11, Try.ntmps11
    go_wp2_with fail
    refine (CO _).mono ?_
    rintro e w1 ⟨rfl, hb1⟩
    go_wp2_with fail
    refine (CP _).mono ?_
    rintro e w' ⟨rfl, rfl⟩
    go_wp2_with fail
    refine (CE _).mono ?_
    rintro e w2 ⟨rfl, hb2⟩
    go_wp2
    go_ret2
    exact ⟨iI (by rw [HO.out]), hb1.trans (hb2.mono hb1.size)⟩
  | some ns =>
    obtain ⟨HL1, HL2⟩ := HL ns rfl
    have hne := HE ns rfl
    have hR : errI (valC pr ns) = R := hR
    clear HL HE
    unfold valC at hR
    obtain ⟨n, hn⟩ : ∃ n, ns.length = n := ⟨_, rfl⟩
    have hn0 : 0 < n := by rw [← hn]; exact List.length_pos_iff.2 hne
    have HN := Lib.hid hn
    clear hne
    simp only [hn] at CE
    by_cases hp : pr = []
    · have HL3 := Lib.hid (HL2 hp)
      obtain rfl : m = 0 := hm.2 hp
      rw [if_pos hp, hn] at hR
      clear HL2 HL1 hm hp hn h1
      go_enter Try.func11, Try.ntmps11
      go_wp2_with fail
      refine (CO _).mono ?_
      rintro e w1 ⟨rfl, hb1⟩
      go_wp2_with fail
      refine (CP _).mono ?_
      rintro e w' ⟨rfl, rfl⟩
      go_wp2_with fail
      refine (CE _).mono ?_
      rintro e w2 ⟨⟨v, rfl, hrow⟩, hb2⟩
      have hB := hb1.trans (hb2.mono hb1.size)
      obtain ⟨a, cap, rfl⟩ := row_shape hrow
      clear CO CP CE
      by_cases h4 : 4 < n
      · rw [if_pos h4] at hR
        have HO := Lib.hid hR
        have i1 : (4 : Int) < (n : Int) := by omega
        clear hrow hR
        go_wp2
        go_ret2
        exact ⟨iI (by rw [← HO.out]; rfl), hB⟩
      · rw [if_neg h4] at hR
        have HO := Lib.hid hR
        have i1 : ¬ (4 : Int) < (n : Int) := by omega
        obtain ⟨g, rfl, _, hc⟩ := row_pos hn0 hrow
        have HC := Lib.hid hc
        clear hrow hR hc
        go_wp2
        go_loop [9, 10, 11] (fun value end_ i => ∃ k v z : Nat, k ≤ n ∧ i = .int .i64 k ∧ value = .int .i64 v ∧ end_ = .int .i64 z ∧ Hid (Pk ns k v z) ∧ v < z ∧ z ≤ 4294967296) (fun _ _ i => n - (intOf i).toNat)
        case atStart => exact ⟨0, 0, 1, Nat.zero_le _, rfl, rfl, rfl, Lib.hid (Pk.start ns), by decide, by decide⟩
        case round =>
          obtain ⟨k, v, z, hk, rfl, rfl, rfl, HP, hvz, hz⟩ := hrel
          by_cases hlt : k < n
          · obtain ⟨x, hx⟩ : ∃ x, ns[k]? = some x := ⟨_, List.getElem?_eq_getElem (by rw [HN.out]; exact hlt)⟩
            have hx255 := HL3.out x (List.mem_of_getElem? hx)
            have c0 := HC.out k (intCell x) (by unfold intCells; rw [List.getElem?_map, hx]; rfl)
            unfold intCell at c0
            have HP2 := Lib.hid (HP.out.next hx hx255)
            have hz2 : 256 * z ≤ 4294967296 := by
              rw [← HP.out.end_, Nat.mul_comm, ← Nat.pow_succ]
              exact Nat.le_trans (Nat.pow_le_pow_right (by decide) (show k + 1 ≤ 4 by omega)) (by decide)
            have i1 : (k : Int) < (n : Int) := by omega
            have i2 : (0 : Int) ≤ (k : Int) := by omega
            clear hx HP HO
            go_wp2
            go_round
            case rel => exact ⟨k + 1, 256 * v + x, 256 * z, by omega, by go_num, by go_num, by go_num, HP2, by omega, hz2⟩
            case measure => simp [intOf]; omega
          · obtain rfl : k = n := by omega
            have hv := HP.out.val
            have hz3 := HP.out.end_
            rw [← HN.out, List.take_length] at hv
            rw [← HN.out] at hz3
            have HO2 : Hid (R = ((if z / 2 ≤ v then (v : Int) - (z : Nat) else (v : Int)), 0)) := Lib.hid (by rw [← HO.out, packC_eq, hv, hz3]; rfl)
            clear hv hz3 HP HO
            have i1 : ¬ (k : Int) < (k : Int) := by omega
            by_cases hh : z / 2 ≤ v
            · have i3 : (z : Int) / 2 ≤ (v : Int) := by omega
              have HO3 : Hid (R = ((v : Int) - (z : Nat), 0)) := Lib.hid (by rw [HO2.out, if_pos hh])
              clear hh HO2
              go_wp2
              go_ret2
              exact ⟨iI (by rw [HO3.out]), hB⟩
            · have i3 : ¬ (z : Int) / 2 ≤ (v : Int) := by omega
              have HO3 : Hid (R = ((v : Int), 0)) := Lib.hid (by rw [HO2.out, if_neg hh])
              clear hh HO2
              go_wp2
              go_ret2
              exact ⟨iI (by rw [HO3.out]), hB⟩
    · have hm0 : 0 < m := Nat.pos_of_ne_zero (fun e => hp (hm.1 e))
      rw [if_neg hp] at hR
      have HL3 := Lib.hid HL1
      clear HL2 HL1 hm hp
      have i0 : (0 : Int) < (m : Int) := by omega
      have i00 : ((m : Int) == 0) = false := beq_eq_false_iff_ne.2 (by omega)
      by_cases h2 : n = 1
      · obtain ⟨x, rfl⟩ : ∃ x, ns = [x] := by
          match ns, hn.trans h2 with
          | [x], _ => exact ⟨x, rfl⟩
        have hx := HL3.out x (by simp)
        have HO : Hid (R = ((x : Int), 0)) := Lib.hid hR.symm
        subst h2
        clear hR hn HN
        go_enter Try.func11, Try.ntmps11
        go_wp2_with fail
        refine (CO _).mono ?_
        rintro e w1 ⟨rfl, hb1⟩
        go_wp2_with fail
        refine (CP _).mono ?_
        rintro e w' ⟨rfl, rfl⟩
        go_wp2_with fail
        refine (CE _).mono ?_
        rintro e w2 ⟨⟨v, rfl, hrow⟩, hb2⟩
        have hB := hb1.trans (hb2.mono hb1.size)
        obtain ⟨a, cap, rfl⟩ := row_shape hrow
        obtain ⟨g, rfl, _, hc⟩ := row_pos hn0 hrow
        have c0 : w2.cell? ⟨g, 0, none⟩ = some (.int .i64 (x : Nat)) := hc 0 _ rfl
        clear hrow hc CO CP CE
        go_wp2
        go_loop [9, 10, 11] (fun value end_ i => (i = .int .i64 0 ∧ value = .int .i64 0 ∧ end_ = .int .i64 1) ∨ (i = .int .i64 1 ∧ value = .int .i64 x ∧ end_ = .int .i64 256)) (fun _ _ i => 1 - (intOf i).toNat)
        case atStart => exact .inl ⟨rfl, rfl, rfl⟩
        case round =>
          obtain ⟨rfl, rfl, rfl⟩ | ⟨rfl, rfl, rfl⟩ := hrel
          · go_wp2
            go_round
            case rel => exact .inr ⟨rfl, by go_num, rfl⟩
            case measure => decide
          · go_wp2
            go_ret2
            exact ⟨iI (by rw [HO.out]), hB⟩
      · rw [oneI_not (by rw [hn]; exact h2)] at hR
        have HO := Lib.hid hR
        have i1 : (1 : Int) < (n : Int) := by omega
        clear hR hn HN h2
        go_enter Try.func11, Try.ntmps11
        go_wp2_with fail
        refine (CO _).mono ?_
        rintro e w1 ⟨rfl, hb1⟩
        go_wp2_with fail
        refine (CP _).mono ?_
        rintro e w' ⟨rfl, rfl⟩
        go_wp2_with fail
        refine (CE _).mono ?_
        rintro e w2 ⟨⟨v, rfl, hrow⟩, hb2⟩
        have hB := hb1.trans (hb2.mono hb1.size)
        obtain ⟨a, cap, rfl⟩ := row_shape hrow
        clear hrow CO CP CE
        go_wp2
        all_goals
          go_ret2
          exact ⟨iI (by rw [← HO.out]; rfl), hB⟩

set_option maxHeartbeats 1000000 in
theorem rChar_any (s : ByteArray) (w : World) (hs : s.size ≤ 1000) :
    Calls Try.prog 11 #[.string s] w fun e w' => e = .returned (.tuple #[.int .i64 (charR s).1, .int .i64 ((charR s).2 : Nat)]) ∧ Below w.heap.size w w' := by
  by_cases h : oneOf s = (3, true)
  · exact rChar_lit s w hs h
  · have CO := fun w => rOne_any s w hs
    have hR : charR s = (0, 40) := by unfold charR charC; rw [if_neg h]; rfl
    rw [hR]
    clear hR
    generalize oneOf s = o at *
    obtain ⟨k, is⟩ := o
    simp only at CO
    cases is with
    | false =>
      clear h
      go_enter Try.func11, Try.ntmps11
      go_wp2_with fail
      refine (CO _).mono ?_
      rintro e w1 ⟨rfl, hb1⟩
      go_wp2
      go_ret2
      exact ⟨rfl, hb1⟩
    | true =>
      have i1 : ((k : Int) != 3) = true := by
        rw [bne_iff_ne]
        intro e
        exact h (by rw [show k = 3 by omega])
      clear h
      go_enter Try.func11, Try.ntmps11
      go_wp2_with fail
      refine (CO _).mono ?_
      rintro e w1 ⟨rfl, hb1⟩
      go_wp2
      go_ret2
      exact ⟨rfl, hb1⟩

end Go.Proofs.Ytenmapahigbbeaa

namespace Go.Proofs.Ytenmapahigbbeaa
open Go.RowKit Go.Shelf

/-- Only this row was written to. -/
structure WroteO (g : Nat) (T : TypeId) (n : Nat) (W W' : World) : Prop where
  size : W'.heap.size = W.heap.size
  other : ∀ b, b ≠ g → W'.heap[b]? = W.heap[b]?
  own : ∃ cur, W'.heap[g]? = some (.cells cur T (0, 0)) ∧ n ≤ cur.size
  below : ∀ B, B ≤ g → Below B W W'
theorem WroteO.set {g n : Nat} (j : Nat) {T : TypeId} {W W' : World} (h : WroteO g T n W W') (u : Value) : WroteO g T n W (W'.setCell ⟨g, j, none⟩ u) where
  size := by rw [← h.size]; simp [World.setCell]
  other := fun b hb => by rw [Below.heap_setCell _ _ _ _ hb]; exact h.other b hb
  own := by
    obtain ⟨cur, h1, h2⟩ := h.own
    refine ⟨cur.setIfInBounds j u, ?_, by simpa using h2⟩
    simp [World.setCell, Array.getElem?_modify, h1]
  below := fun B hB => (h.below B hB).setCell hB u
theorem WroteO.cell {g j n : Nat} {T : TypeId} {W W' : World} (h : WroteO g T n W W') (hj : j < n) : ∃ u, W'.cell? ⟨g, j, none⟩ = some u := by
  obtain ⟨cur, h1, h2⟩ := h.own
  rw [Lib.cell_of_heap h1]
  exact ⟨_, Array.getElem?_eq_getElem (by omega)⟩
theorem WroteO.frozen {g n : Nat} (j : Nat) {T : TypeId} {W W' : World} (h : WroteO g T n W W') : W'.frozen? ⟨g, j, none⟩ = false := by
  obtain ⟨cur, h1, h2⟩ := h.own
  simp [World.frozen?, h1]

/-- Where a row of numbers lies, and what is there. -/
def IntRow (W : World) (a : Option Addr) (ns : List Nat) : Prop := 0 < ns.length → ∃ g, a = some ⟨g, 0, none⟩ ∧ g < W.heap.size ∧ ∀ j u, (intCells ns)[j]? = some u → W.cell? ⟨g, j, none⟩ = some u
theorem IntRow.below {B : Nat} {W W' : World} {a : Option Addr} {ns : List Nat} (h : IntRow W a ns) (hb : Below B W W') (hB : W.heap.size ≤ B) : IntRow W' a ns := fun hp => by
  obtain ⟨g, e, hg, hc⟩ := h hp
  exact ⟨g, e, Nat.lt_of_lt_of_le hg hb.size, fun j u hj => (hb.cell (p := ⟨g, j, none⟩) (show g < B by omega)).trans (hc j u hj)⟩
theorem intRow_of {W : World} {base n cap : Nat} {a : Option Addr} {ns : List Nat} (hn : ns.length = n) (h : W.ownsRow base 2 1 (.slice a n cap) n (intCells ns)) : IntRow W a ns := fun hp => by
  obtain ⟨g, e, hg, hc⟩ := row_pos (by omega) h
  exact ⟨g, e, hg, hc⟩
theorem ints_row {W : World} {base n : Nat} {v : Value} {ns : List Nat} (hn : ns.length = n) (h : W.ownsRow base 2 1 v n (intCells ns)) : ∃ a cap, v = .slice a n cap ∧ n ≤ maxLen ∧ IntRow W a ns ∧ (0 < n → ∃ g, a = some ⟨g, 0, none⟩ ∧ base ≤ g ∧ g < W.heap.size ∧ WroteO g 2 n W W) := by
  subst hn
  rcases h.2 with ⟨rfl, h0⟩ | ⟨g, cap, cur, rfl, hg, hh, hc1, hc2, hc3, hc4⟩
  · exact ⟨none, 0, by rw [h0], by rw [h0]; exact Nat.zero_le _, fun hp => by omega, fun hp => by omega⟩
  · refine ⟨_, _, rfl, Nat.le_trans hc1 hc2, intRow_of rfl h, fun hp => ⟨g, rfl, hg, (Array.getElem?_eq_some_iff.1 hh).1, rfl, fun _ _ => rfl, ⟨cur, hh, by rw [hc3]; omega⟩, fun _ _ => Below.refl _ _⟩⟩

theorem WroteO.start {g n : Nat} {T : TypeId} {W W' : World} (h : WroteO g T n W W) (hb : Below W.heap.size W W') (hg : g < W.heap.size) : WroteO g T n W' W' where
  size := rfl
  other := fun _ _ => rfl
  own := by
    obtain ⟨cur, h1, h2⟩ := h.own
    exact ⟨cur, (hb.block g hg).trans h1, h2⟩
  below := fun _ _ => Below.refl _ _
/-- A row that may be empty was written to. -/
def WrA (a : Option Addr) (n : Nat) (W W' : World) : Prop := (n = 0 ∧ W' = W) ∨ ∃ g, 0 < n ∧ a = some ⟨g, 0, none⟩ ∧ WroteO g 2 n W W'
theorem WrA.below {a : Option Addr} {n B : Nat} {W W' : World} (h : WrA a n W W') (hB : ∀ g, a = some ⟨g, 0, none⟩ → 0 < n → B ≤ g) : Below B W W' := by
  rcases h with ⟨_, rfl⟩ | ⟨g, hn, rfl, h⟩
  · exact Below.refl _ _
  · exact h.below B (hB g rfl hn)
theorem WrA.row {a b : Option Addr} {n : Nat} {W W' : World} {ns : List Nat} (h : WrA a n W W') (hr : IntRow W b ns) (hne : ∀ g g', a = some ⟨g, 0, none⟩ → b = some ⟨g', 0, none⟩ → g' ≠ g) : IntRow W' b ns := by
  rcases h with ⟨_, rfl⟩ | ⟨g, hn, rfl, h⟩
  · exact hr
  · intro hp
    obtain ⟨g', e, hg, hc⟩ := hr hp
    exact ⟨g', e, by rw [h.size]; exact hg, fun j u hj => (World.cell?_of_block (a := ⟨g', j, none⟩) (h.other g' (hne g g' rfl e))).trans (hc j u hj)⟩

set_option maxHeartbeats 1000000 in
theorem rNumbers_same (ns : List Nat) (n : Nat) (hn : ns.length = n) (hm : n ≤ maxLen) (a b : Option Addr) (ca cb : Nat) (w : World) (ha : IntRow w a ns) (hb : IntRow w b ns) :
    Calls Try.prog 14 #[.slice a n ca, .slice b n cb] w fun e w' => e = .returned (.bool true) ∧ Below w.heap.size w w' := by
  unfold maxLen at hm
  have HA := Lib.hid ha
  have HB := Lib.hid hb
  have HN := Lib.hid hn
  clear ha hb hn
  go_enter Try.func14, Try.ntmps14
  go_wp2
  go_loopw [5] (fun i wr => ∃ k : Nat, k ≤ n ∧ i = .int .i64 k ∧ Below w.heap.size w wr) (fun i _ => n - (intOf i).toNat)
  case atStart => exact ⟨0, Nat.zero_le _, rfl, Below.refl _ _⟩
  case round =>
    obtain ⟨k, hk, rfl, hbx⟩ := hrel
    by_cases hlt : k < n
    · obtain ⟨x, hx⟩ : ∃ x, ns[k]? = some x := ⟨_, List.getElem?_eq_getElem (by rw [HN.out]; exact hlt)⟩
      obtain ⟨g1, rfl, _, h1⟩ := (HA.out.below hbx (Nat.le_refl _)) (by rw [HN.out]; omega)
      obtain ⟨g2, rfl, _, h2⟩ := (HB.out.below hbx (Nat.le_refl _)) (by rw [HN.out]; omega)
      have c1 := h1 k (intCell x) (by unfold intCells; rw [List.getElem?_map, hx]; rfl)
      have c2 := h2 k (intCell x) (by unfold intCells; rw [List.getElem?_map, hx]; rfl)
      unfold intCell at c1 c2
      have i1 : (k : Int) < (n : Int) := by omega
      have i2 : (0 : Int) ≤ (k : Int) := by omega
      clear h1 h2 hx
      go_wp2
      go_big_quiet (fail)
      go_wp2
      go_roundw
      case rel => exact ⟨k + 1, by omega, by go_num, below_drewN hbx _⟩
      case measure => simp [intOf]; omega
    · have i1 : ¬ (k : Int) < (n : Int) := by omega
      go_wp2
      go_ret
      exact ⟨rfl, hbx⟩

/-- What Str answers, with or without the error. -/
def strL (s : ByteArray) : List Nat := (strC s).getD []
def strN (s : ByteArray) : Nat := if (strC s).isSome then 0 else 40
theorem strR_row {w w' : World} {s : ByteArray} {e : Ending} (h : StrR w s e w') : ∃ v, e = .returned (.tuple #[v, .int .i64 (strN s : Nat)]) ∧ w'.ownsRow w.heap.size 2 1 v (strL s).length (intCells (strL s)) ∧ Below w.heap.size w w' := by
  unfold StrR at h
  unfold strN strL
  cases hs : strC s with
  | none => rw [hs] at h; exact ⟨_, h.1, World.ownsRow_nil _ _ _ _, h.2⟩
  | some ns =>
    rw [hs] at h
    obtain ⟨⟨v, h1, h2⟩, h3⟩ := h
    exact ⟨v, h1, h2, h3⟩

set_option maxRecDepth 100000 in
set_option maxHeartbeats 4000000 in
theorem worths_any (s : ByteArray) (w : World) (hm : s.size ≤ maxLen) (hL : LibVar w) :
    Calls Try.prog 3 #[.string s] w fun e w' => e = .returned (.bool true) ∧ Below w.heap.size w w' := by
  unfold maxLen at hm
  by_cases hs : 1000 < s.size
  · have i1 : (1000 : Int) < (s.size : Int) := by omega
    go_enter Try.func3, Try.ntmps3
    go_wp2
    go_ret
    exact ⟨rfl, Below.refl _ _⟩
  · have i1 : ¬ (1000 : Int) < (s.size : Int) := by omega
    have hs1 : s.size ≤ 1000 := by omega
    have hsm : s.size ≤ maxLen := by unfold maxLen; omega
    have C1 := fun w => Int_any s w hsm
    have C2 := fun w => rInt_any s w hsm
    have C3 := fun w hL => Char_any s w (by omega) hL
    have C4 := fun w => rChar_any s w hs1
    have C5 := fun w hL => (Str_any s w (by omega) hL).mono fun _ _ h => strR_row h
    have C6 := fun w => (rStr_any s w hs1).mono fun _ _ h => strR_row h
    obtain ⟨L, hLn⟩ : ∃ L, strL s = L := ⟨_, rfl⟩
    obtain ⟨n, hn⟩ : ∃ n, L.length = n := ⟨_, rfl⟩
    simp only [hLn, hn] at C5 C6
    generalize strN s = N at *
    generalize charR s = Q at *
    generalize intR s.data.toList = R at *
    obtain ⟨q1, q2⟩ := Q
    obtain ⟨r1, r2, r3⟩ := R
    simp only at C1 C2 C3 C4
    clear hs hsm
    go_enter Try.func3, Try.ntmps3
    go_wp2_with fail
    refine (C1 _).mono ?_
    rintro e w1 ⟨rfl, hb1⟩
    go_wp2_with fail
    refine (C2 _).mono ?_
    rintro e w' ⟨rfl, rfl⟩
    go_wp2_with fail
    refine (C3 _ (libVar_below hb1 hL)).mono ?_
    rintro e w2 ⟨rfl, hb2⟩
    have B2 := hb1.trans (hb2.mono hb1.size)
    go_wp2_with fail
    refine (C4 _).mono ?_
    rintro e w3 ⟨rfl, hb3⟩
    have B3 := B2.trans (hb3.mono B2.size)
    go_wp2_with fail
    refine (C5 _ (libVar_below B3 hL)).mono ?_
    rintro e w4 ⟨v1, rfl, hr1, hb4⟩
    have B4 := B3.trans (hb4.mono B3.size)
    obtain ⟨a1, c1, rfl, hnm, h1, o1⟩ := ints_row hn hr1
    go_wp2_with fail
    refine (C6 _).mono ?_
    rintro e w5 ⟨v2, rfl, hr2, hb5⟩
    have B5 := B4.trans (hb5.mono B4.size)
    obtain ⟨a2, c2, rfl, -, h2, o2⟩ := ints_row hn hr2
    have h1' := h1.below hb5 (Nat.le_refl _)
    have x1 : ((q1 : Int) != q1) = false := by simp
    have x2 : ((q2 : Int) != (q2 : Int)) = false := by simp
    have x3 : ((r1 : Int) != (r1 : Int)) = false := by simp
    have x4 : (r2 != r2) = false := by simp
    have x5 : ((r3 : Int) != (r3 : Int)) = false := by simp
    have x6 : ((N : Int) != (N : Int)) = false := by simp
    have CN := rNumbers_same L n hn hnm a1 a2 c1 c2 w5 h1' h2
    go_wp2_with (go_at_call 14; refine CN.mono ?_; rintro e w6 ⟨rfl, hb6⟩)
    have B6 := B5.trans (hb6.mono B5.size)
    have g2 := h2.below hb6 (Nat.le_refl _)
    have hne : ∀ g g', a1 = some ⟨g, 0, none⟩ → a2 = some ⟨g', 0, none⟩ → 0 < n → g' ≠ g := fun g g' e e' hp => by
      obtain ⟨_, e1, _, hx1, _⟩ := o1 hp
      obtain ⟨_, e2, hx2, _, _⟩ := o2 hp
      rw [e1] at e
      rw [e2] at e'
      cases e
      cases e'
      omega
    have hlo : ∀ g, a1 = some ⟨g, 0, none⟩ → 0 < n → w.heap.size ≤ g := fun g e hp => by
      obtain ⟨_, e1, hx1, _, _⟩ := o1 hp
      rw [e1] at e
      cases e
      have := B3.size
      omega
    have hst : WrA a1 n w6 w6 := by
      by_cases hp : 0 < n
      · obtain ⟨g, e, _, hg, hw⟩ := o1 hp
        exact .inr ⟨g, hp, e, hw.start (hb5.trans (hb6.mono hb5.size)) hg⟩
      · exact .inl ⟨by omega, rfl⟩
    clear o1 o2 h1 h1' h2 hr1 hr2 CN B2 B3 B4 B5 hb1 hb2 hb3 hb4 hb5 hb6 C1 C2 C3 C4 C6
    unfold maxLen at hnm
    go_loopw [17] (fun i wr => ∃ k : Nat, k ≤ n ∧ i = .int .i64 k ∧ WrA a1 n w6 wr) (fun i _ => n - (intOf i).toNat)
    case atStart => exact ⟨0, Nat.zero_le _, rfl, hst⟩
    case round =>
      obtain ⟨k, hk, rfl, hW⟩ := hrel
      by_cases hlt : k < n
      · obtain ⟨h0, _⟩ | ⟨g, hp, rfl, hw⟩ := hW
        · omega
        · obtain ⟨u, hu⟩ := hw.cell (j := k) hlt
          have hf := hw.frozen k
          have i2 : (k : Int) < (n : Int) := by omega
          have i3 : (0 : Int) ≤ (k : Int) := by omega
          go_wp2
          go_roundw
          case rel => exact ⟨k + 1, by omega, by go_num, .inr ⟨g, hp, rfl, hw.set _ _⟩⟩
          case measure => simp [intOf]; omega
      · have i2 : ¬ (k : Int) < (n : Int) := by omega
        have BR := B6.trans (hW.below hlo)
        have hLr := libVar_below BR hL
        have g2r : IntRow wr a2 L := fun hp => hW.row g2 (fun g g' e e' => hne g g' e e' (by omega)) hp
        clear hst hW g2 hne hlo
        go_wp2_with fail
        refine (C5 _ hLr).mono ?_
        rintro e w7 ⟨v3, rfl, hr3, hb7⟩
        have B7 := BR.trans (hb7.mono BR.size)
        obtain ⟨a3, c3, rfl, -, h3, -⟩ := ints_row hn hr3
        have h4 := g2r.below hb7 (Nat.le_refl _)
        have CN := rNumbers_same L n hn (by unfold maxLen; omega) a3 a2 c3 c2 w7 h3 h4
        go_wp2_with (go_at_call 14; refine CN.mono ?_; rintro e w8 ⟨rfl, hb8⟩)
        go_ret
        exact ⟨rfl, B7.trans (hb8.mono B7.size)⟩

end Go.Proofs.Ytenmapahigbbeaa
