/- ctok.Canon, classOf, Class. -/
import Derived.Test.YtenmapahigbbeaaCtX
import Derived.Test.YtenmapahigbbeaaCtL
import Derived.Test.YtenmapahigbbeaaCtJ
import Derived.Test.YtenmapahigbbeaaCtY
import Derived.Test.YtenmapahigbbeaaBare
namespace Go.Proofs.Ytenmapahigbbeaa
open Go.RowKit Go.Shelf

/-- An operator's first spelling. -/
def canB (s : ByteArray) : ByteArray :=
  if (s.toList == [60, 58]) = true then ⟨#[91]⟩ else if (s.toList == [58, 62]) = true then ⟨#[93]⟩ else if (s.toList == [60, 37]) = true then ⟨#[123]⟩ else if (s.toList == [37, 62]) = true then ⟨#[125]⟩ else if (s.toList == [37, 58]) = true then ⟨#[35]⟩ else if (s.toList == [37, 58, 37, 58]) = true then ⟨#[35, 35]⟩ else s
theorem rst {a b : ByteArray} (h : a = b) : Ending.returned (.string a) = .returned (.string b) := by rw [h]

set_option maxHeartbeats 2000000 in
theorem Canon_any (s : ByteArray) (w : World) (hs : s.size ≤ 281474976710656) : Calls Try.prog 40 #[.string s] w fun e w' => e = .returned (.string (canB s)) ∧ Below w.heap.size w w' := by
  have C := fun w => clone_any s w hs
  obtain ⟨B, hB⟩ : ∃ B, canB s = B := ⟨_, rfl⟩
  rw [hB]
  unfold canB at hB
  cases h1 : (s.toList == [60, 58]) with
  | true =>
    rw [if_pos h1] at hB
    have HO := Lib.hid hB
    clear hB C
    go_enter Try.func40, Try.ntmps40
    go_wp2
    go_ret
    exact ⟨rst HO.out, Below.refl _ _⟩
  | false =>
  rw [if_neg (by rw [h1]; decide)] at hB
  cases h2 : (s.toList == [58, 62]) with
  | true =>
    rw [if_pos h2] at hB
    have HO := Lib.hid hB
    clear hB C
    go_enter Try.func40, Try.ntmps40
    go_wp2
    go_ret
    exact ⟨rst HO.out, Below.refl _ _⟩
  | false =>
  rw [if_neg (by rw [h2]; decide)] at hB
  cases h3 : (s.toList == [60, 37]) with
  | true =>
    rw [if_pos h3] at hB
    have HO := Lib.hid hB
    clear hB C
    go_enter Try.func40, Try.ntmps40
    go_wp2
    go_ret
    exact ⟨rst HO.out, Below.refl _ _⟩
  | false =>
  rw [if_neg (by rw [h3]; decide)] at hB
  cases h4 : (s.toList == [37, 62]) with
  | true =>
    rw [if_pos h4] at hB
    have HO := Lib.hid hB
    clear hB C
    go_enter Try.func40, Try.ntmps40
    go_wp2
    go_ret
    exact ⟨rst HO.out, Below.refl _ _⟩
  | false =>
  rw [if_neg (by rw [h4]; decide)] at hB
  cases h5 : (s.toList == [37, 58]) with
  | true =>
    rw [if_pos h5] at hB
    have HO := Lib.hid hB
    clear hB C
    go_enter Try.func40, Try.ntmps40
    go_wp2
    go_ret
    exact ⟨rst HO.out, Below.refl _ _⟩
  | false =>
  rw [if_neg (by rw [h5]; decide)] at hB
  cases h6 : (s.toList == [37, 58, 37, 58]) with
  | true =>
    rw [if_pos h6] at hB
    have HO := Lib.hid hB
    clear hB C
    go_enter Try.func40, Try.ntmps40
    go_wp2
    go_ret
    exact ⟨rst HO.out, Below.refl _ _⟩
  | false =>
  rw [if_neg (by rw [h6]; decide)] at hB
  have HO := Lib.hid hB
  clear hB
  go_enter Try.func40, Try.ntmps40
  go_wp2_with (go_at_call 41; refine (C _).mono ?_; rintro e w1 ⟨rfl, hb1⟩)
  go_ret
  exact ⟨rst HO.out, hb1⟩

/-! ### Class -/
def clsN (k : Int) (s : ByteArray) : Nat :=
  if k = 1 then (if kwB s.data.toList then 1 else 2) else if k = 2 then (if (intR s.data.toList).2.2 = 0 then 3 else if floatC s.data.toList then 4 else 0)
  else if k = 3 then (if (charR s).2 = 0 then 5 else 0) else if k = 4 then (if (strC s).isSome then 6 else 0) else if k = 5 then 7 else 0
theorem rin {a b : Nat} (h : a = b) : Ending.returned (.int .i64 a) = .returned (.int .i64 b) := by rw [h]

set_option maxRecDepth 100000 in
set_option maxHeartbeats 4000000 in
theorem classOf_any (k : Int) (s : ByteArray) (w : World) (hs : s.size ≤ 200000) (hL : LibVar w) :
    Calls Try.prog 39 #[.int .i64 k, .string s] w fun e w' => e = .returned (.int .i64 (clsN k s : Nat)) ∧ Below w.heap.size w w' := by
  obtain ⟨c, hc⟩ : ∃ c, clsN k s = c := ⟨_, rfl⟩
  rw [hc]
  unfold clsN at hc
  by_cases k1 : k = 1
  · rw [if_pos k1] at hc
    have i1 : (k == 1) = true := by simp [k1]
    have C := fun w => Keyword_any s w
    clear k1
    cases hb : kwB s.data.toList with
    | true =>
      rw [hb, if_pos rfl] at hc
      rw [hb] at C
      have HO := Lib.hid hc
      clear hc hb
      go_enter Try.func39, Try.ntmps39
      go_wp2_with (go_at_call 54; refine (C _).mono ?_; rintro e w' ⟨rfl, rfl⟩)
      go_ret
      exact ⟨rin HO.out, Below.refl _ _⟩
    | false =>
      rw [hb, if_neg (by decide)] at hc
      rw [hb] at C
      have HO := Lib.hid hc
      clear hc hb
      go_enter Try.func39, Try.ntmps39
      go_wp2_with (go_at_call 54; refine (C _).mono ?_; rintro e w' ⟨rfl, rfl⟩)
      go_ret
      exact ⟨rin HO.out, Below.refl _ _⟩
  · rw [if_neg k1] at hc
    have i1 : (k == 1) = false := beq_eq_false_iff_ne.2 k1
    clear k1
    by_cases k2 : k = 2
    · rw [if_pos k2] at hc
      have i2 : (k == 2) = true := by simp [k2]
      clear k2
      have hsm : s.size ≤ maxLen := by unfold maxLen; omega
      have C := fun w => Int_any s w hsm
      obtain ⟨R, hR⟩ : ∃ R, intR s.data.toList = R := ⟨_, rfl⟩
      rw [hR] at hc
      simp only [hR] at C
      clear hR
      obtain ⟨v, u, e0⟩ := R
      simp only at C hc
      by_cases he : e0 = 0
      · rw [if_pos he] at hc
        subst he
        have HO := Lib.hid hc
        clear hc
        go_enter Try.func39, Try.ntmps39
        go_wp2_with (go_at_call 8; refine (C _).mono ?_; rintro e w1 ⟨rfl, hb1⟩)
        go_ret
        exact ⟨rin HO.out, hb1⟩
      · rw [if_neg he] at hc
        have i3 : ((e0 : Int) == 0) = false := beq_eq_false_iff_ne.2 (by omega)
        have C2 := fun w => Float_any s w hsm
        clear he
        cases hf : floatC s.data.toList with
        | true =>
          rw [hf, if_pos rfl] at hc
          rw [hf] at C2
          have HO := Lib.hid hc
          clear hc hf
          go_enter Try.func39, Try.ntmps39
          go_wp2_with (first | (go_at_call 8; refine (C _).mono ?_; rintro e w1 ⟨rfl, hb1⟩) | (go_at_call 17; refine (C2 _).mono ?_; rintro e w2 ⟨rfl, hb2⟩))
          go_ret
          exact ⟨rin HO.out, hb1.trans (hb2.mono hb1.size)⟩
        | false =>
          rw [hf, if_neg (by decide)] at hc
          rw [hf] at C2
          have HO := Lib.hid hc
          clear hc hf
          go_enter Try.func39, Try.ntmps39
          go_wp2_with (first | (go_at_call 8; refine (C _).mono ?_; rintro e w1 ⟨rfl, hb1⟩) | (go_at_call 17; refine (C2 _).mono ?_; rintro e w2 ⟨rfl, hb2⟩))
          go_ret
          exact ⟨rin HO.out, hb1.trans (hb2.mono hb1.size)⟩
    · rw [if_neg k2] at hc
      have i2 : (k == 2) = false := beq_eq_false_iff_ne.2 k2
      clear k2
      by_cases k3 : k = 3
      · rw [if_pos k3] at hc
        have i3 : (k == 3) = true := by simp [k3]
        clear k3
        have C := Char_any s w hs hL
        obtain ⟨R, hR⟩ : ∃ R, charR s = R := ⟨_, rfl⟩
        rw [hR] at hc C
        clear hR
        obtain ⟨v, e0⟩ := R
        simp only at C hc
        by_cases he : e0 = 0
        · rw [if_pos he] at hc
          subst he
          have HO := Lib.hid hc
          clear hc
          go_enter Try.func39, Try.ntmps39
          go_wp2_with (go_at_call 10; refine C.mono ?_; rintro e w1 ⟨rfl, hb1⟩)
          go_ret
          exact ⟨rin HO.out, hb1⟩
        · rw [if_neg he] at hc
          have i4 : ((e0 : Int) == 0) = false := beq_eq_false_iff_ne.2 (by omega)
          have HO := Lib.hid hc
          clear hc he
          go_enter Try.func39, Try.ntmps39
          go_wp2_with (go_at_call 10; refine C.mono ?_; rintro e w1 ⟨rfl, hb1⟩)
          go_ret
          exact ⟨rin HO.out, hb1⟩
      · rw [if_neg k3] at hc
        have i3 : (k == 3) = false := beq_eq_false_iff_ne.2 k3
        clear k3
        by_cases k4 : k = 4
        · rw [if_pos k4] at hc
          have i4 : (k == 4) = true := by simp [k4]
          clear k4
          have C := Str_any s w hs hL
          unfold StrR at C
          generalize strC s = S at *
          cases S with
          | none =>
            have HO := Lib.hid hc
            clear hc
            go_enter Try.func39, Try.ntmps39
            go_wp2_with fail
            refine C.mono ?_
            rintro e w1 ⟨rfl, hb1⟩
            go_wp2
            go_ret
            exact ⟨rin (by rw [← HO.out]; rfl), hb1⟩
          | some ns =>
            have HO := Lib.hid hc
            clear hc
            go_enter Try.func39, Try.ntmps39
            go_wp2_with fail
            refine C.mono ?_
            rintro e w1 ⟨⟨v, rfl, hrow⟩, hb1⟩
            obtain ⟨a, cap, rfl⟩ := row_shape hrow
            clear hrow
            go_wp2
            go_ret
            exact ⟨rin (by rw [← HO.out]; rfl), hb1⟩
        · rw [if_neg k4] at hc
          have i4 : (k == 4) = false := beq_eq_false_iff_ne.2 k4
          clear k4
          by_cases k5 : k = 5
          · rw [if_pos k5] at hc
            have i5 : (k == 5) = true := by simp [k5]
            have HO := Lib.hid hc
            clear k5 hc
            go_enter Try.func39, Try.ntmps39
            go_wp2
            go_ret
            exact ⟨rin HO.out, Below.refl _ _⟩
          · rw [if_neg k5] at hc
            have i5 : (k == 5) = false := beq_eq_false_iff_ne.2 k5
            have HO := Lib.hid hc
            clear k5 hc
            go_enter Try.func39, Try.ntmps39
            go_wp2
            go_ret
            exact ⟨rin HO.out, Below.refl _ _⟩

end Go.Proofs.Ytenmapahigbbeaa
