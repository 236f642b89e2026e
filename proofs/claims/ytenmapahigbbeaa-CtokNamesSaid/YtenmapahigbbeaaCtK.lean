/- ctok's floating constants. -/
import Derived.Test.YtenmapahigbbeaaCtI
import Derived.IntWalk
namespace Go.Proofs.Ytenmapahigbbeaa
open Go.RowKit Go.Shelf

/-- What stands behind a mantissa; whether it has a point; whether it is one. -/
def manC (b : Nat) (l : List UInt8) : List UInt8 × Bool × Bool :=
  if (restC b l).head? = some 46 then (restC b (restC b l).tail, true, decide (0 < (digitsC b l).length + (digitsC b (restC b l).tail).length)) else (restC b l, false, decide (0 < (digitsC b l).length))
/-- What stands behind an exponent; whether there is one. -/
def expC (small great : UInt8) (l : List UInt8) : List UInt8 × Bool :=
  if l.head? = some small ∨ l.head? = some great then (if (digitsC 10 (signC l.tail)).length = 0 then (l, false) else (restC 10 (signC l.tail), true)) else (l, false)
theorem fC_head {c : UInt8} {r : List UInt8} (h1 : c ≠ 102) (h2 : c ≠ 70) (h3 : c ≠ 108) (h4 : c ≠ 76) : fC (c :: r) = false := by
  unfold fC
  simp [h1, h2, h3, h4]
theorem ends_exp {small great : UInt8} (hs : small ≠ 102 ∧ small ≠ 70 ∧ small ≠ 108 ∧ small ≠ 76) (hg : great ≠ 102 ∧ great ≠ 70 ∧ great ≠ 108 ∧ great ≠ 76) (may : Bool) (l : List UInt8) :
    endsC small great may l = if (expC small great l).2 = false ∧ may = false then false else fC (expC small great l).1 := by
  unfold endsC expC
  by_cases h : l.head? = some small ∨ l.head? = some great
  · rw [if_pos h, if_pos h]
    by_cases h2 : digitsC 10 (signC l.tail) = []
    · have h3 : (digitsC 10 (signC l.tail)).length = 0 := by rw [h2]; rfl
      rw [if_pos h2]
      simp only [if_pos h3]
      have : fC l = false := by
        cases l with
        | nil => simp at h
        | cons c r =>
          simp only [List.head?_cons, Option.some.injEq] at h
          rcases h with rfl | rfl
          · exact fC_head hs.1 hs.2.1 hs.2.2.1 hs.2.2.2
          · exact fC_head hg.1 hg.2.1 hg.2.2.1 hg.2.2.2
      simp [this]
    · rw [if_neg h2, if_neg (fun h => h2 (List.length_eq_zero_iff.1 h))]
      simp
  · rw [if_neg h, if_neg h]
    cases may <;> simp
/-- Its answer, by the parts of a text. -/
def floP (b : Nat) (m : List UInt8 × Bool × Bool) : Bool :=
  if m.2.2 = false then false
  else if b = 16 then (if (expC 112 80 m.1).2 = false then false else fC (expC 112 80 m.1).1)
  else (if (expC 101 69 m.1).2 = false ∧ m.2.1 = false then false else fC (expC 101 69 m.1).1)
theorem float_parts (l : List UInt8) : floatC l = floP (baseF l).1 (manC (baseF l).1 (baseF l).2) := by
  unfold floatC floP manC
  generalize (baseF l).1 = b
  generalize (baseF l).2 = q
  simp only
  have ht : ∀ p x, tailF b p x = if b = 16 then (if (expC 112 80 x).2 = false then false else fC (expC 112 80 x).1) else (if (expC 101 69 x).2 = false ∧ p = false then false else fC (expC 101 69 x).1) := fun p x => by
    unfold tailF
    rw [ends_exp (by decide) (by decide), ends_exp (by decide) (by decide)]
    simp
  have h16 : ¬ (true = false) := by decide
  by_cases h : (restC b q).head? = some 46
  · rw [if_pos h, if_pos h]
    simp only
    by_cases h2 : digitsC b q = [] ∧ digitsC b (restC b q).tail = []
    · rw [if_pos h2, if_pos (by rw [h2.1, h2.2]; rfl)]
    · have e : 0 < (digitsC b q).length + (digitsC b (restC b q).tail).length := Nat.pos_of_ne_zero (fun h3 => h2 ⟨List.length_eq_zero_iff.1 (by omega), List.length_eq_zero_iff.1 (by omega)⟩)
      rw [if_neg h2, ht, decide_eq_true e, if_neg h16]
  · rw [if_neg h, if_neg h]
    simp only
    by_cases h2 : digitsC b q = []
    · rw [if_pos h2, if_pos (by rw [h2]; rfl)]
    · have e : 0 < (digitsC b q).length := Nat.pos_of_ne_zero (fun h3 => h2 (List.length_eq_zero_iff.1 h3))
      rw [if_neg h2, ht, decide_eq_true e, if_neg h16]
      simp

theorem pre_hd (l : List UInt8) (u : UInt8) : Lib.hasPrefix l [u] = true ↔ l.head? = some u := by
  unfold Lib.hasPrefix
  cases l with
  | nil => simp
  | cons c l => simp [List.isPrefixOf]; exact eq_comm
theorem trim_hd {l : List UInt8} {u : UInt8} (h : Lib.hasPrefix l [u] = true) : Lib.trimPrefix l [u] = l.tail := by
  unfold Lib.trimPrefix
  rw [if_pos h]; simp
theorem trim_no {l : List UInt8} {u : UInt8} (h : Lib.hasPrefix l [u] = false) : Lib.trimPrefix l [u] = l := by
  unfold Lib.trimPrefix
  rw [if_neg (by rw [h]; decide)]
theorem rsbb {s d : ByteArray} {a b x y : Bool} (h : s = d) (h2 : a = b) (h3 : x = y) : Ending.returned (.tuple #[.string s, .bool a, .bool x]) = .returned (.tuple #[.string d, .bool b, .bool y]) := by rw [h, h2, h3]

set_option maxHeartbeats 4000000 in
theorem cutMantissa_any (s : ByteArray) (b : Nat) (w : World) (hs : s.size ≤ maxLen) (hb : 0 < b) (hb2 : b ≤ 16) :
    Calls Try.prog 37 #[.string s, .int .u64 b] w fun e w' => (∃ d : ByteArray, e = .returned (.tuple #[.string d, .bool (manC b s.data.toList).2.1, .bool (manC b s.data.toList).2.2]) ∧ d.data.toList = (manC b s.data.toList).1 ∧ d.size ≤ s.size) ∧ Below w.heap.size w w' := by
  have C1 := fun w => countDigits_any s b w hs hb hb2
  have hlen := digits_len b s.data.toList
  rw [size_list] at hlen
  obtain ⟨r, hr⟩ : ∃ r, s.extract (digitsC b s.data.toList).length s.size = r := ⟨_, rfl⟩
  have hrl : r.data.toList = restC b s.data.toList := by rw [← hr, extract_end, ← rest_drop]
  have hrz : r.size = s.size - (digitsC b s.data.toList).length := by rw [← hr, ByteArray.size_extract]; omega
  have hrs : r.size ≤ s.size := by rw [← hr, ByteArray.size_extract]; omega
  have C2 := fun w => cut_any r ⟨#[46]⟩ w
  rw [show (⟨#[46]⟩ : ByteArray).data.toList = [46] from rfl] at C2
  have hcs := cutOf_size r ⟨#[46]⟩
  have hcl := cutOf_list r ⟨#[46]⟩
  rw [show (⟨#[46]⟩ : ByteArray).data.toList = [46] from rfl] at hcl
  obtain ⟨d, hd⟩ : ∃ d, cutOf r ⟨#[46]⟩ = d := ⟨_, rfl⟩
  rw [hd] at hcs hcl C2
  clear hd
  obtain ⟨M, hM⟩ : ∃ M, manC b s.data.toList = M := ⟨_, rfl⟩
  have HM : Hid (M = if (restC b s.data.toList).head? = some 46 then (restC b (restC b s.data.toList).tail, true, decide (0 < (digitsC b s.data.toList).length + (digitsC b (restC b s.data.toList).tail).length)) else (restC b s.data.toList, false, decide (0 < (digitsC b s.data.toList).length))) := Lib.hid hM.symm
  rw [hM]
  clear hM
  obtain ⟨n, hn⟩ : ∃ n, (digitsC b s.data.toList).length = n := ⟨_, rfl⟩
  rw [hn] at C1 hlen hr HM hrz
  clear hn
  unfold maxLen at hs
  cases hp : Lib.hasPrefix r.data.toList [46] with
  | false =>
    rw [hp] at C2
    rw [trim_no hp] at hcl
    have HO : Hid (M = (d.data.toList, false, decide (0 < n))) := Lib.hid (by
      rw [HM.out, if_neg (by rw [← hrl]; exact fun h => by rw [(pre_hd _ _).2 h] at hp; cases hp), hcl, hrl])
    clear hrz
    subst hr
    clear hp hcl hrl HM
    go_enter Try.func37, Try.ntmps37
    go_wp2_with (first | (go_at_call 51; refine (C1 _).mono ?_; rintro e w1 ⟨rfl, hb1⟩) | (go_at_call 52; refine (C2 _).mono ?_; rintro e w2 ⟨rfl, rfl⟩))
    go_ret3
    refine ⟨⟨d, rsbb rfl (by rw [HO.out]) ?_, by rw [HO.out], by omega⟩, hb1⟩
    rw [HO.out]
  | true =>
    rw [hp] at C2
    rw [trim_hd hp] at hcl
    have hdm : d.size ≤ maxLen := by unfold maxLen; omega
    have C3 := fun w => countDigits_any d b w hdm hb hb2
    have hlen2 := digits_len b d.data.toList
    rw [size_list] at hlen2
    have hzl : (d.extract (digitsC b d.data.toList).length d.size).data.toList = restC b d.data.toList := by rw [extract_end, ← rest_drop]
    have hdl : d.data.toList = (restC b s.data.toList).tail := by rw [hcl, hrl]
    have HO : Hid (M = ((d.extract (digitsC b d.data.toList).length d.size).data.toList, true, decide (0 < n + (digitsC b d.data.toList).length))) := Lib.hid (by
      rw [HM.out, if_pos (by rw [← hrl]; exact (pre_hd _ _).1 hp), ← hdl, hzl])
    obtain ⟨k, hk⟩ : ∃ k, (digitsC b d.data.toList).length = k := ⟨_, rfl⟩
    rw [hk] at C3 hlen2 HO
    have hsum : n + k ≤ s.size := by omega
    clear hrz
    subst hr
    clear hp hcl hrl HM hzl hdl hk
    go_enter Try.func37, Try.ntmps37
    go_wp2_with fail
    refine (C1 _).mono ?_
    rintro e w1 ⟨rfl, hb1⟩
    go_wp2_with (go_at_call 52; refine (C2 _).mono ?_; rintro e w2 ⟨rfl, rfl⟩)
    refine (C3 _).mono ?_
    rintro e w3 ⟨rfl, hb3⟩
    go_wp2
    go_ret3
    refine ⟨⟨d.extract k d.size, rsbb rfl (by rw [HO.out]) ?_, by rw [HO.out], by rw [ByteArray.size_extract]; omega⟩, hb1.trans (hb3.mono hb1.size)⟩
    rw [HO.out]
    simp only [decide_eq_decide]
    omega

theorem idx_two (a b c : UInt8) : (Lib.indexByte [a, b] c < 0) ↔ c ≠ a ∧ c ≠ b := by
  have e : Lib.indexByte [a, b] c = if a = c then 0 else if b = c then 1 else -1 := by
    by_cases h : a = c
    · simp [Lib.indexByte, h]
    · by_cases h2 : b = c
      · simp [Lib.indexByte, h, h2]
      · simp [Lib.indexByte, h, h2]
  rw [e]
  by_cases h : a = c
  · rw [if_pos h]; simp [h]
  · rw [if_neg h]
    by_cases h2 : b = c
    · rw [if_pos h2]; simp [h2]
    · rw [if_neg h2]; simp [Ne.symm h, Ne.symm h2]
theorem empty_size {s : ByteArray} (h : s.size = 0) : s.toList.isEmpty = true := by
  rw [ByteArray.toList_eq, List.length_eq_zero_iff.1 ((size_list s).trans h)]; rfl
theorem empty_not {s : ByteArray} (h : 0 < s.size) : s.toList.isEmpty = false := by
  rw [ByteArray.toList_eq]
  cases hl : s.data.toList with
  | nil => have := size_list s; rw [hl] at this; simp at this; omega
  | cons c l => rfl
theorem head_at {s : ByteArray} (h : 0 < s.size) : s.data.toList.head? = some s[0] := by
  have := data_drop s 0 h
  rw [List.drop_zero] at this
  rw [this]; rfl
theorem tail_ex (s : ByteArray) : (s.extract 1 s.size).data.toList = s.data.toList.tail := by rw [extract_end, List.drop_one]

set_option maxHeartbeats 4000000 in
theorem cutExponent_any (s : ByteArray) (a g : UInt8) (w : World) (hs : s.size ≤ maxLen) :
    Calls Try.prog 38 #[.string s, .string ⟨#[a, g]⟩] w fun e w' => (∃ d : ByteArray, e = .returned (.tuple #[.string d, .bool (expC a g s.data.toList).2]) ∧ d.data.toList = (expC a g s.data.toList).1) ∧ Below w.heap.size w w' := by
  obtain ⟨E, hE⟩ : ∃ E, expC a g s.data.toList = E := ⟨_, rfl⟩
  have HE : Hid (E = if s.data.toList.head? = some a ∨ s.data.toList.head? = some g then (if (digitsC 10 (signC s.data.toList.tail)).length = 0 then (s.data.toList, false) else (restC 10 (signC s.data.toList.tail), true)) else (s.data.toList, false)) := Lib.hid hE.symm
  rw [hE]
  clear hE
  by_cases h0 : s.size = 0
  · have HO : Hid (E = (s.data.toList, false)) := Lib.hid (by rw [HE.out, List.length_eq_zero_iff.1 ((size_list s).trans h0)]; rfl)
    have i0 := empty_size h0
    clear HE h0
    go_enter Try.func38, Try.ntmps38
    go_wp2
    go_ret2
    exact ⟨⟨s, rsb rfl (by rw [HO.out]), by rw [HO.out]⟩, Below.refl _ _⟩
  · have hpos : 0 < s.size := Nat.pos_of_ne_zero h0
    have i0 := empty_not hpos
    have hh := head_at hpos
    have CI : ∀ w, Calls Try.prog 53 #[.string ⟨#[a, g]⟩, .int .u8 (s[0].toNat : Nat)] w fun e w' => e = .returned (.int .i64 (Lib.indexByte [a, g] s[0])) ∧ w = w' := fun w => by
      refine (Try.strings_IndexByte ⟨#[a, g]⟩ _ w).mono ?_
      rintro e w' ⟨rfl, rfl⟩
      rw [toNat_u8]
      exact ⟨rfl, rfl⟩
    have hx := idx_two a g s[0]
    generalize Lib.indexByte [a, g] s[0] = x at *
    by_cases hn : x < 0
    · have hno := hx.1 hn
      have HO : Hid (E = (s.data.toList, false)) := Lib.hid (by rw [HE.out, hh, if_neg (by simp [hno.1, hno.2])])
      have j0 : (0 : Int) < (s.size : Int) := by omega
      clear HE hh hx hno
      go_enter Try.func38, Try.ntmps38
      go_wp2_with (first | (go_at_call 53; refine (CI _).mono ?_; rintro e w2 ⟨rfl, rfl⟩))
      go_ret2
      exact ⟨⟨s, rsb rfl (by rw [HO.out]), by rw [HO.out]⟩, Below.refl _ _⟩
    · have hyes : s.data.toList.head? = some a ∨ s.data.toList.head? = some g := by
        rw [hh]
        by_cases h1 : s[0] = a
        · exact .inl (by rw [h1])
        · by_cases h2 : s[0] = g
          · exact .inr (by rw [h2])
          · exact absurd (hx.2 ⟨h1, h2⟩) hn
      have j0 : (0 : Int) < (s.size : Int) := by omega
      have HY : Hid (E = if (digitsC 10 (signC s.data.toList.tail)).length = 0 then (s.data.toList, false) else (restC 10 (signC s.data.toList.tail), true)) := Lib.hid (by rw [HE.out, if_pos hyes])
      clear HE hh hx hyes h0
      obtain ⟨r, hr⟩ : ∃ r, s.extract 1 s.size = r := ⟨_, rfl⟩
      have hrl : r.data.toList = s.data.toList.tail := by rw [← hr]; exact tail_ex s
      have hrz : r.size ≤ s.size := by rw [← hr, ByteArray.size_extract]; omega
      rw [← hrl] at HY
      have P1 := fun w => hasPre_any r ⟨#[43]⟩ w
      have P2 := fun w => hasPre_any r ⟨#[45]⟩ w
      rw [show (⟨#[43]⟩ : ByteArray).data.toList = [43] from rfl] at P1
      rw [show (⟨#[45]⟩ : ByteArray).data.toList = [45] from rfl] at P2
      unfold maxLen at hs
      have tailP : ∀ t : ByteArray, t.size ≤ s.size → t.data.toList = signC r.data.toList → (∀ w, Calls Try.prog 51 #[.string t, .int .u64 10] w fun e w' => e = .returned (.int .i64 ((digitsC 10 t.data.toList).length : Nat)) ∧ Below w.heap.size w w') ∧ (digitsC 10 t.data.toList).length ≤ t.size ∧ (E = if (digitsC 10 t.data.toList).length = 0 then (s.data.toList, false) else ((t.extract (digitsC 10 t.data.toList).length t.size).data.toList, true)) := fun t ht hl => by
        refine ⟨fun w => countDigits_any t 10 w (by unfold maxLen; omega) (by decide) (by decide), by have := digits_len 10 t.data.toList; rw [size_list] at this; exact this, ?_⟩
        rw [HY.out, ← hl, extract_end, ← rest_drop]
      cases h1 : Lib.hasPrefix r.data.toList [43] with
      | true =>
        rw [h1] at P1
        have hrp : 1 ≤ r.size := by
          have h2 := (List.isPrefixOf_iff_prefix.1 (show [43].isPrefixOf r.data.toList = true from h1)).length_le
          rw [size_list] at h2
          exact h2
        obtain ⟨C, hlen, HO⟩ := tailP (r.extract 1 r.size) (by rw [ByteArray.size_extract]; omega) (by rw [tail_ex]; unfold signC; rw [if_pos (.inl ((pre_hd _ _).1 h1))])
        obtain ⟨t, ht⟩ : ∃ t, r.extract 1 r.size = t := ⟨_, rfl⟩
        rw [ht] at C hlen HO
        obtain ⟨n, hne⟩ : ∃ n, (digitsC 10 t.data.toList).length = n := ⟨_, rfl⟩
        rw [hne] at C hlen HO
        replace HO := Lib.hid HO
        clear tailP HY h1 hne hrl P2
        by_cases hn0 : n = 0
        · have i1 : ((n : Int) == 0) = true := by simp [hn0]
          have HO2 := Lib.hid (HO.out.trans (if_pos hn0))
          clear hn0 HO
          go_enter Try.func38, Try.ntmps38
          go_wp2_with (go_at_call 53; refine (CI _).mono ?_; rintro e w2 ⟨rfl, rfl⟩)
          refine (P1 _).mono ?_
          rintro e w2 ⟨rfl, rfl⟩
          go_wp2_with fail
          refine (C _).mono ?_
          rintro e w3 ⟨rfl, hb3⟩
          go_wp2
          go_ret2
          exact ⟨⟨_, rsb rfl (by rw [HO2.out]), by rw [HO2.out]⟩, hb3⟩
        · have i1 : ((n : Int) == 0) = false := beq_eq_false_iff_ne.2 (by omega)
          have HO2 := Lib.hid (HO.out.trans (if_neg hn0))
          clear hn0 HO
          go_enter Try.func38, Try.ntmps38
          go_wp2_with (go_at_call 53; refine (CI _).mono ?_; rintro e w2 ⟨rfl, rfl⟩)
          refine (P1 _).mono ?_
          rintro e w2 ⟨rfl, rfl⟩
          go_wp2_with fail
          refine (C _).mono ?_
          rintro e w3 ⟨rfl, hb3⟩
          go_wp2
          go_ret2
          exact ⟨⟨_, rsb rfl (by rw [HO2.out]), by rw [HO2.out]⟩, hb3⟩
      | false =>
        rw [h1] at P1
        cases h2 : Lib.hasPrefix r.data.toList [45] with
        | true =>
          rw [h2] at P2
          have hrp : 1 ≤ r.size := by
            have h3 := (List.isPrefixOf_iff_prefix.1 (show [45].isPrefixOf r.data.toList = true from h2)).length_le
            rw [size_list] at h3
            exact h3
          obtain ⟨C, hlen, HO⟩ := tailP (r.extract 1 r.size) (by rw [ByteArray.size_extract]; omega) (by rw [tail_ex]; unfold signC; rw [if_pos (.inr ((pre_hd _ _).1 h2))])
          obtain ⟨t, ht⟩ : ∃ t, r.extract 1 r.size = t := ⟨_, rfl⟩
          rw [ht] at C hlen HO
          obtain ⟨n, hne⟩ : ∃ n, (digitsC 10 t.data.toList).length = n := ⟨_, rfl⟩
          rw [hne] at C hlen HO
          replace HO := Lib.hid HO
          clear tailP HY h1 h2 hne hrl
          by_cases hn0 : n = 0
          · have i1 : ((n : Int) == 0) = true := by simp [hn0]
            have HO2 := Lib.hid (HO.out.trans (if_pos hn0))
            clear hn0 HO
            go_enter Try.func38, Try.ntmps38
            go_wp2_with (go_at_call 53; refine (CI _).mono ?_; rintro e w2 ⟨rfl, rfl⟩)
            refine (P1 _).mono ?_
            rintro e w2 ⟨rfl, rfl⟩
            go_wp2_with fail
            refine (P2 _).mono ?_
            rintro e w2 ⟨rfl, rfl⟩
            go_wp2_with fail
            refine (C _).mono ?_
            rintro e w3 ⟨rfl, hb3⟩
            go_wp2
            go_ret2
            exact ⟨⟨_, rsb rfl (by rw [HO2.out]), by rw [HO2.out]⟩, hb3⟩
          · have i1 : ((n : Int) == 0) = false := beq_eq_false_iff_ne.2 (by omega)
            have HO2 := Lib.hid (HO.out.trans (if_neg hn0))
            clear hn0 HO
            go_enter Try.func38, Try.ntmps38
            go_wp2_with (go_at_call 53; refine (CI _).mono ?_; rintro e w2 ⟨rfl, rfl⟩)
            refine (P1 _).mono ?_
            rintro e w2 ⟨rfl, rfl⟩
            go_wp2_with fail
            refine (P2 _).mono ?_
            rintro e w2 ⟨rfl, rfl⟩
            go_wp2_with fail
            refine (C _).mono ?_
            rintro e w3 ⟨rfl, hb3⟩
            go_wp2
            go_ret2
            exact ⟨⟨_, rsb rfl (by rw [HO2.out]), by rw [HO2.out]⟩, hb3⟩
        | false =>
          rw [h2] at P2
          obtain ⟨C, hlen, HO⟩ := tailP r hrz (by
            unfold signC
            rw [if_neg]
            rintro (h3 | h3)
            · rw [(pre_hd _ _).2 h3] at h1; cases h1
            · rw [(pre_hd _ _).2 h3] at h2; cases h2)
          obtain ⟨n, hne⟩ : ∃ n, (digitsC 10 r.data.toList).length = n := ⟨_, rfl⟩
          rw [hne] at C hlen HO
          replace HO := Lib.hid HO
          clear tailP HY h1 h2 hne hrl
          by_cases hn0 : n = 0
          · have i1 : ((n : Int) == 0) = true := by simp [hn0]
            have HO2 := Lib.hid (HO.out.trans (if_pos hn0))
            clear hn0 HO
            go_enter Try.func38, Try.ntmps38
            go_wp2_with (go_at_call 53; refine (CI _).mono ?_; rintro e w2 ⟨rfl, rfl⟩)
            refine (P1 _).mono ?_
            rintro e w2 ⟨rfl, rfl⟩
            go_wp2_with fail
            refine (P2 _).mono ?_
            rintro e w2 ⟨rfl, rfl⟩
            go_wp2_with fail
            refine (C _).mono ?_
            rintro e w3 ⟨rfl, hb3⟩
            go_wp2
            go_ret2
            exact ⟨⟨_, rsb rfl (by rw [HO2.out]), by rw [HO2.out]⟩, hb3⟩
          · have i1 : ((n : Int) == 0) = false := beq_eq_false_iff_ne.2 (by omega)
            have HO2 := Lib.hid (HO.out.trans (if_neg hn0))
            clear hn0 HO
            go_enter Try.func38, Try.ntmps38
            go_wp2_with (go_at_call 53; refine (CI _).mono ?_; rintro e w2 ⟨rfl, rfl⟩)
            refine (P1 _).mono ?_
            rintro e w2 ⟨rfl, rfl⟩
            go_wp2_with fail
            refine (P2 _).mono ?_
            rintro e w2 ⟨rfl, rfl⟩
            go_wp2_with fail
            refine (C _).mono ?_
            rintro e w3 ⟨rfl, hb3⟩
            go_wp2
            go_ret2
            exact ⟨⟨_, rsb rfl (by rw [HO2.out]), by rw [HO2.out]⟩, hb3⟩

end Go.Proofs.Ytenmapahigbbeaa
