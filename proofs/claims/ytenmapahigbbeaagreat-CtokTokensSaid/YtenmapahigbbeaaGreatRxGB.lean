/- Several texts laid together. -/
import Derived.Test.YtenmapahigbbeaaGreatCtI
import Derived.IntWalk
import Derived.Test.YtenmapahigbbeaaGreatGen
import Derived.Test.YtenmapahigbbeaaGreatRun
import Derived.Test.YtenmapahigbbeaaGreatShelf
import Derived.Test.YtenmapahigbbeaaGreatRxGA
import Derived.Test.YtenmapahigbbeaaGreatRxRA

namespace Go.Proofs.YtenmapahigbbeaaGreat
open Go.RowKit Go.Shelf

/-- What stands behind a mantissa; whether it has a point; whether it is one. -/
def manC (b : Nat) (l : List UInt8) : List UInt8 × Bool × Bool :=
  if (restC b l).head? = some 46 then (restC b (restC b l).tail, true, decide (0 < (digitsC b l).length + (digitsC b (restC b l).tail).length)) else (restC b l, false, decide (0 < (digitsC b l).length))
/-- What stands behind an exponent; whether there is one. -/
def expC (small great : UInt8) (l : List UInt8) : List UInt8 × Bool :=
  if l.head? = some small ∨ l.head? = some great then (if (digitsC 10 (signC l.tail)).length = 0 then (l, false) else (restC 10 (signC l.tail), true)) else (l, false)
theorem fC_head {c : UInt8} {r : List UInt8} (h1 : c ≠ 102) (h2 : c ≠ 70) (h3 : c ≠ 108) (h4 : c ≠ 76) : fC (c :: r) = false := by
  unfold fC
  simp [h1, h2, h3, h4]
theorem ends_exp {small great : UInt8} (hs : small ≠ 102 ∧ small ≠ 70 ∧ small ≠ 108 ∧ small ≠ 76) (hg : great ≠ 102 ∧ great ≠ 70 ∧ great ≠ 108 ∧ great ≠ 76) (may : Bool) (l : List UInt8) :
    endsC small great may l = if (expC small great l).2 = false ∧ may = false then false else fC (expC small great l).1 := by
  unfold endsC expC
  by_cases h : l.head? = some small ∨ l.head? = some great
  · rw [if_pos h, if_pos h]
    by_cases h2 : digitsC 10 (signC l.tail) = []
    · have h3 : (digitsC 10 (signC l.tail)).length = 0 := by rw [h2]; rfl
      rw [if_pos h2]
      simp only [if_pos h3]
      have : fC l = false := by
        cases l with
        | nil => simp at h
        | cons c r =>
          simp only [List.head?_cons, Option.some.injEq] at h
          rcases h with rfl | rfl
          · exact fC_head hs.1 hs.2.1 hs.2.2.1 hs.2.2.2
          · exact fC_head hg.1 hg.2.1 hg.2.2.1 hg.2.2.2
      simp [this]
    · rw [if_neg h2, if_neg (fun h => h2 (List.length_eq_zero_iff.1 h))]
      simp
  · rw [if_neg h, if_neg h]
    cases may <;> simp
/-- Its answer, by the parts of a text. -/
def floP (b : Nat) (m : List UInt8 × Bool × Bool) : Bool :=
  if m.2.2 = false then false
  else if b = 16 then (if (expC 112 80 m.1).2 = false then false else fC (expC 112 80 m.1).1)
  else (if (expC 101 69 m.1).2 = false ∧ m.2.1 = false then false else fC (expC 101 69 m.1).1)
theorem float_parts (l : List UInt8) : floatC l = floP (baseF l).1 (manC (baseF l).1 (baseF l).2) := by
  unfold floatC floP manC
  generalize (baseF l).1 = b
  generalize (baseF l).2 = q
  simp only
  have ht : ∀ p x, tailF b p x = if b = 16 then (if (expC 112 80 x).2 = false then false else fC (expC 112 80 x).1) else (if (expC 101 69 x).2 = false ∧ p = false then false else fC (expC 101 69 x).1) := fun p x => by
    unfold tailF
    rw [ends_exp (by decide) (by decide), ends_exp (by decide) (by decide)]
    simp
  have h16 : ¬ (true = false) := by decide
  by_cases h : (restC b q).head? = some 46
  · rw [if_pos h, if_pos h]
    simp only
    by_cases h2 : digitsC b q = [] ∧ digitsC b (restC b q).tail = []
    · rw [if_pos h2, if_pos (by rw [h2.1, h2.2]; rfl)]
    · have e : 0 < (digitsC b q).length + (digitsC b (restC b q).tail).length := Nat.pos_of_ne_zero (fun h3 => h2 ⟨List.length_eq_zero_iff.1 (by omega), List.length_eq_zero_iff.1 (by omega)⟩)
      rw [if_neg h2, ht, decide_eq_true e, if_neg h16]
  · rw [if_neg h, if_neg h]
    simp only
    by_cases h2 : digitsC b q = []
    · rw [if_pos h2, if_pos (by rw [h2]; rfl)]
    · have e : 0 < (digitsC b q).length := Nat.pos_of_ne_zero (fun h3 => h2 (List.length_eq_zero_iff.1 h3))
      rw [if_neg h2, ht, decide_eq_true e, if_neg h16]
      simp

theorem pre_hd (l : List UInt8) (u : UInt8) : Lib.hasPrefix l [u] = true ↔ l.head? = some u := by
  unfold Lib.hasPrefix
  cases l with
  | nil => simp
  | cons c l => simp [List.isPrefixOf]; exact eq_comm
theorem trim_hd {l : List UInt8} {u : UInt8} (h : Lib.hasPrefix l [u] = true) : Lib.trimPrefix l [u] = l.tail := by
  unfold Lib.trimPrefix
  rw [if_pos h]; simp
theorem trim_no {l : List UInt8} {u : UInt8} (h : Lib.hasPrefix l [u] = false) : Lib.trimPrefix l [u] = l := by
  unfold Lib.trimPrefix
  rw [if_neg (by rw [h]; decide)]
theorem rsbb {s d : ByteArray} {a b x y : Bool} (h : s = d) (h2 : a = b) (h3 : x = y) : Ending.returned (.tuple #[.string s, .bool a, .bool x]) = .returned (.tuple #[.string d, .bool b, .bool y]) := by rw [h, h2, h3]

set_option maxHeartbeats 4000000 in
theorem cutMantissa_any (s : ByteArray) (b : Nat) (w : World) (hs : s.size ≤ maxLen) (hb : 0 < b) (hb2 : b ≤ 16) :
    Calls Tryz.prog 21 #[.string s, .int .u64 b] w fun e w' => (∃ d : ByteArray, e = .returned (.tuple #[.string d, .bool (manC b s.data.toList).2.1, .bool (manC b s.data.toList).2.2]) ∧ d.data.toList = (manC b s.data.toList).1 ∧ d.size ≤ s.size) ∧ Below w.heap.size w w' := by
  have C1 := fun w => countDigits_any s b w hs hb hb2
  have hlen := digits_len b s.data.toList
  rw [size_list] at hlen
  obtain ⟨r, hr⟩ : ∃ r, s.extract (digitsC b s.data.toList).length s.size = r := ⟨_, rfl⟩
  have hrl : r.data.toList = restC b s.data.toList := by rw [← hr, extract_end, ← rest_drop]
  have hrz : r.size = s.size - (digitsC b s.data.toList).length := by rw [← hr, ByteArray.size_extract]; omega
  have hrs : r.size ≤ s.size := by rw [← hr, ByteArray.size_extract]; omega
  have C2 := fun w => cut_any r ⟨#[46]⟩ w
  rw [show (⟨#[46]⟩ : ByteArray).data.toList = [46] from rfl] at C2
  have hcs := cutOf_size r ⟨#[46]⟩
  have hcl := cutOf_list r ⟨#[46]⟩
  rw [show (⟨#[46]⟩ : ByteArray).data.toList = [46] from rfl] at hcl
  obtain ⟨d, hd⟩ : ∃ d, cutOf r ⟨#[46]⟩ = d := ⟨_, rfl⟩
  rw [hd] at hcs hcl C2
  clear hd
  obtain ⟨M, hM⟩ : ∃ M, manC b s.data.toList = M := ⟨_, rfl⟩
  have HM : Hid (M = if (restC b s.data.toList).head? = some 46 then (restC b (restC b s.data.toList).tail, true, decide (0 < (digitsC b s.data.toList).length + (digitsC b (restC b s.data.toList).tail).length)) else (restC b s.data.toList, false, decide (0 < (digitsC b s.data.toList).length))) := Lib.hid hM.symm
  rw [hM]
  clear hM
  obtain ⟨n, hn⟩ : ∃ n, (digitsC b s.data.toList).length = n := ⟨_, rfl⟩
  rw [hn] at C1 hlen hr HM hrz
  clear hn
  unfold maxLen at hs
  cases hp : Lib.hasPrefix r.data.toList [46] with
  | false =>
    rw [hp] at C2
    rw [trim_no hp] at hcl
    have HO : Hid (M = (d.data.toList, false, decide (0 < n))) := Lib.hid (by
      rw [HM.out, if_neg (by rw [← hrl]; exact fun h => by rw [(pre_hd _ _).2 h] at hp; cases hp), hcl, hrl])
    clear hrz
    subst hr
    clear hp hcl hrl HM
    go_enter Tryz.func21, Tryz.ntmps21
    go_wp2_with (first | (go_at_call 36; refine (C1 _).mono ?_; rintro e w1 ⟨rfl, hb1⟩) | (go_at_call 37; refine (C2 _).mono ?_; rintro e w2 ⟨rfl, rfl⟩))
    go_ret3
    refine ⟨⟨d, rsbb rfl (by rw [HO.out]) ?_, by rw [HO.out], by omega⟩, hb1⟩
    rw [HO.out]
  | true =>
    rw [hp] at C2
    rw [trim_hd hp] at hcl
    have hdm : d.size ≤ maxLen := by unfold maxLen; omega
    have C3 := fun w => countDigits_any d b w hdm hb hb2
    have hlen2 := digits_len b d.data.toList
    rw [size_list] at hlen2
    have hzl : (d.extract (digitsC b d.data.toList).length d.size).data.toList = restC b d.data.toList := by rw [extract_end, ← rest_drop]
    have hdl : d.data.toList = (restC b s.data.toList).tail := by rw [hcl, hrl]
    have HO : Hid (M = ((d.extract (digitsC b d.data.toList).length d.size).data.toList, true, decide (0 < n + (digitsC b d.data.toList).length))) := Lib.hid (by
      rw [HM.out, if_pos (by rw [← hrl]; exact (pre_hd _ _).1 hp), ← hdl, hzl])
    obtain ⟨k, hk⟩ : ∃ k, (digitsC b d.data.toList).length = k := ⟨_, rfl⟩
    rw [hk] at C3 hlen2 HO
    have hsum : n + k ≤ s.size := by omega
    clear hrz
    subst hr
    clear hp hcl hrl HM hzl hdl hk
    go_enter Tryz.func21, Tryz.ntmps21
    go_wp2_with fail
    refine (C1 _).mono ?_
    rintro e w1 ⟨rfl, hb1⟩
    go_wp2_with (go_at_call 37; refine (C2 _).mono ?_; rintro e w2 ⟨rfl, rfl⟩)
    refine (C3 _).mono ?_
    rintro e w3 ⟨rfl, hb3⟩
    go_wp2
    go_ret3
    refine ⟨⟨d.extract k d.size, rsbb rfl (by rw [HO.out]) ?_, by rw [HO.out], by rw [ByteArray.size_extract]; omega⟩, hb1.trans (hb3.mono hb1.size)⟩
    rw [HO.out]
    simp only [decide_eq_decide]
    omega

theorem idx_two (a b c : UInt8) : (Lib.indexByte [a, b] c < 0) ↔ c ≠ a ∧ c ≠ b := by
  have e : Lib.indexByte [a, b] c = if a = c then 0 else if b = c then 1 else -1 := by
    by_cases h : a = c
    · simp [Lib.indexByte, h]
    · by_cases h2 : b = c
      · simp [Lib.indexByte, h, h2]
      · simp [Lib.indexByte, h, h2]
  rw [e]
  by_cases h : a = c
  · rw [if_pos h]; simp [h]
  · rw [if_neg h]
    by_cases h2 : b = c
    · rw [if_pos h2]; simp [h2]
    · rw [if_neg h2]; simp [Ne.symm h, Ne.symm h2]
theorem empty_size {s : ByteArray} (h : s.size = 0) : s.toList.isEmpty = true := by
  rw [ByteArray.toList_eq, List.length_eq_zero_iff.1 ((size_list s).trans h)]; rfl
theorem empty_not {s : ByteArray} (h : 0 < s.size) : s.toList.isEmpty = false := by
  rw [ByteArray.toList_eq]
  cases hl : s.data.toList with
  | nil => have := size_list s; rw [hl] at this; simp at this; omega
  | cons c l => rfl
theorem head_at {s : ByteArray} (h : 0 < s.size) : s.data.toList.head? = some s[0] := by
  have := data_drop s 0 h
  rw [List.drop_zero] at this
  rw [this]; rfl
theorem tail_ex (s : ByteArray) : (s.extract 1 s.size).data.toList = s.data.toList.tail := by rw [extract_end, List.drop_one]

set_option maxHeartbeats 4000000 in
theorem cutExponent_any (s : ByteArray) (a g : UInt8) (w : World) (hs : s.size ≤ maxLen) :
    Calls Tryz.prog 22 #[.string s, .string ⟨#[a, g]⟩] w fun e w' => (∃ d : ByteArray, e = .returned (.tuple #[.string d, .bool (expC a g s.data.toList).2]) ∧ d.data.toList = (expC a g s.data.toList).1) ∧ Below w.heap.size w w' := by
  obtain ⟨E, hE⟩ : ∃ E, expC a g s.data.toList = E := ⟨_, rfl⟩
  have HE : Hid (E = if s.data.toList.head? = some a ∨ s.data.toList.head? = some g then (if (digitsC 10 (signC s.data.toList.tail)).length = 0 then (s.data.toList, false) else (restC 10 (signC s.data.toList.tail), true)) else (s.data.toList, false)) := Lib.hid hE.symm
  rw [hE]
  clear hE
  by_cases h0 : s.size = 0
  · have HO : Hid (E = (s.data.toList, false)) := Lib.hid (by rw [HE.out, List.length_eq_zero_iff.1 ((size_list s).trans h0)]; rfl)
    have i0 := empty_size h0
    clear HE h0
    go_enter Tryz.func22, Tryz.ntmps22
    go_wp2
    go_ret2
    exact ⟨⟨s, rsb rfl (by rw [HO.out]), by rw [HO.out]⟩, Below.refl _ _⟩
  · have hpos : 0 < s.size := Nat.pos_of_ne_zero h0
    have i0 := empty_not hpos
    have hh := head_at hpos
    have CI : ∀ w, Calls Tryz.prog 38 #[.string ⟨#[a, g]⟩, .int .u8 (s[0].toNat : Nat)] w fun e w' => e = .returned (.int .i64 (Lib.indexByte [a, g] s[0])) ∧ w = w' := fun w => by
      refine (Tryz.strings_IndexByte ⟨#[a, g]⟩ _ w).mono ?_
      rintro e w' ⟨rfl, rfl⟩
      rw [toNat_u8]
      exact ⟨rfl, rfl⟩
    have hx := idx_two a g s[0]
    generalize Lib.indexByte [a, g] s[0] = x at *
    by_cases hn : x < 0
    · have hno := hx.1 hn
      have HO : Hid (E = (s.data.toList, false)) := Lib.hid (by rw [HE.out, hh, if_neg (by simp [hno.1, hno.2])])
      have j0 : (0 : Int) < (s.size : Int) := by omega
      clear HE hh hx hno
      go_enter Tryz.func22, Tryz.ntmps22
      go_wp2_with (first | (go_at_call 38; refine (CI _).mono ?_; rintro e w2 ⟨rfl, rfl⟩))
      go_ret2
      exact ⟨⟨s, rsb rfl (by rw [HO.out]), by rw [HO.out]⟩, Below.refl _ _⟩
    · have hyes : s.data.toList.head? = some a ∨ s.data.toList.head? = some g := by
        rw [hh]
        by_cases h1 : s[0] = a
        · exact .inl (by rw [h1])
        · by_cases h2 : s[0] = g
          · exact .inr (by rw [h2])
          · exact absurd (hx.2 ⟨h1, h2⟩) hn
      have j0 : (0 : Int) < (s.size : Int) := by omega
      have HY : Hid (E = if (digitsC 10 (signC s.data.toList.tail)).length = 0 then (s.data.toList, false) else (restC 10 (signC s.data.toList.tail), true)) := Lib.hid (by rw [HE.out, if_pos hyes])
      clear HE hh hx hyes h0
      obtain ⟨r, hr⟩ : ∃ r, s.extract 1 s.size = r := ⟨_, rfl⟩
      have hrl : r.data.toList = s.data.toList.tail := by rw [← hr]; exact tail_ex s
      have hrz : r.size ≤ s.size := by rw [← hr, ByteArray.size_extract]; omega
      rw [← hrl] at HY
      have P1 := fun w => hasPre_any r ⟨#[43]⟩ w
      have P2 := fun w => hasPre_any r ⟨#[45]⟩ w
      rw [show (⟨#[43]⟩ : ByteArray).data.toList = [43] from rfl] at P1
      rw [show (⟨#[45]⟩ : ByteArray).data.toList = [45] from rfl] at P2
      unfold maxLen at hs
      have tailP : ∀ t : ByteArray, t.size ≤ s.size → t.data.toList = signC r.data.toList → (∀ w, Calls Tryz.prog 36 #[.string t, .int .u64 10] w fun e w' => e = .returned (.int .i64 ((digitsC 10 t.data.toList).length : Nat)) ∧ Below w.heap.size w w') ∧ (digitsC 10 t.data.toList).length ≤ t.size ∧ (E = if (digitsC 10 t.data.toList).length = 0 then (s.data.toList, false) else ((t.extract (digitsC 10 t.data.toList).length t.size).data.toList, true)) := fun t ht hl => by
        refine ⟨fun w => countDigits_any t 10 w (by unfold maxLen; omega) (by decide) (by decide), by have := digits_len 10 t.data.toList; rw [size_list] at this; exact this, ?_⟩
        rw [HY.out, ← hl, extract_end, ← rest_drop]
      cases h1 : Lib.hasPrefix r.data.toList [43] with
      | true =>
        rw [h1] at P1
        have hrp : 1 ≤ r.size := by
          have h2 := (List.isPrefixOf_iff_prefix.1 (show [43].isPrefixOf r.data.toList = true from h1)).length_le
          rw [size_list] at h2
          exact h2
        obtain ⟨C, hlen, HO⟩ := tailP (r.extract 1 r.size) (by rw [ByteArray.size_extract]; omega) (by rw [tail_ex]; unfold signC; rw [if_pos (.inl ((pre_hd _ _).1 h1))])
        obtain ⟨t, ht⟩ : ∃ t, r.extract 1 r.size = t := ⟨_, rfl⟩
        rw [ht] at C hlen HO
        obtain ⟨n, hne⟩ : ∃ n, (digitsC 10 t.data.toList).length = n := ⟨_, rfl⟩
        rw [hne] at C hlen HO
        replace HO := Lib.hid HO
        clear tailP HY h1 hne hrl P2
        by_cases hn0 : n = 0
        · have i1 : ((n : Int) == 0) = true := by simp [hn0]
          have HO2 := Lib.hid (HO.out.trans (if_pos hn0))
          clear hn0 HO
          go_enter Tryz.func22, Tryz.ntmps22
          go_wp2_with (go_at_call 38; refine (CI _).mono ?_; rintro e w2 ⟨rfl, rfl⟩)
          refine (P1 _).mono ?_
          rintro e w2 ⟨rfl, rfl⟩
          go_wp2_with fail
          refine (C _).mono ?_
          rintro e w3 ⟨rfl, hb3⟩
          go_wp2
          go_ret2
          exact ⟨⟨_, rsb rfl (by rw [HO2.out]), by rw [HO2.out]⟩, hb3⟩
        · have i1 : ((n : Int) == 0) = false := beq_eq_false_iff_ne.2 (by omega)
          have HO2 := Lib.hid (HO.out.trans (if_neg hn0))
          clear hn0 HO
          go_enter Tryz.func22, Tryz.ntmps22
          go_wp2_with (go_at_call 38; refine (CI _).mono ?_; rintro e w2 ⟨rfl, rfl⟩)
          refine (P1 _).mono ?_
          rintro e w2 ⟨rfl, rfl⟩
          go_wp2_with fail
          refine (C _).mono ?_
          rintro e w3 ⟨rfl, hb3⟩
          go_wp2
          go_ret2
          exact ⟨⟨_, rsb rfl (by rw [HO2.out]), by rw [HO2.out]⟩, hb3⟩
      | false =>
        rw [h1] at P1
        cases h2 : Lib.hasPrefix r.data.toList [45] with
        | true =>
          rw [h2] at P2
          have hrp : 1 ≤ r.size := by
            have h3 := (List.isPrefixOf_iff_prefix.1 (show [45].isPrefixOf r.data.toList = true from h2)).length_le
            rw [size_list] at h3
            exact h3
          obtain ⟨C, hlen, HO⟩ := tailP (r.extract 1 r.size) (by rw [ByteArray.size_extract]; omega) (by rw [tail_ex]; unfold signC; rw [if_pos (.inr ((pre_hd _ _).1 h2))])
          obtain ⟨t, ht⟩ : ∃ t, r.extract 1 r.size = t := ⟨_, rfl⟩
          rw [ht] at C hlen HO
          obtain ⟨n, hne⟩ : ∃ n, (digitsC 10 t.data.toList).length = n := ⟨_, rfl⟩
          rw [hne] at C hlen HO
          replace HO := Lib.hid HO
          clear tailP HY h1 h2 hne hrl
          by_cases hn0 : n = 0
          · have i1 : ((n : Int) == 0) = true := by simp [hn0]
            have HO2 := Lib.hid (HO.out.trans (if_pos hn0))
            clear hn0 HO
            go_enter Tryz.func22, Tryz.ntmps22
            go_wp2_with (go_at_call 38; refine (CI _).mono ?_; rintro e w2 ⟨rfl, rfl⟩)
            refine (P1 _).mono ?_
            rintro e w2 ⟨rfl, rfl⟩
            go_wp2_with fail
            refine (P2 _).mono ?_
            rintro e w2 ⟨rfl, rfl⟩
            go_wp2_with fail
            refine (C _).mono ?_
            rintro e w3 ⟨rfl, hb3⟩
            go_wp2
            go_ret2
            exact ⟨⟨_, rsb rfl (by rw [HO2.out]), by rw [HO2.out]⟩, hb3⟩
          · have i1 : ((n : Int) == 0) = false := beq_eq_false_iff_ne.2 (by omega)
            have HO2 := Lib.hid (HO.out.trans (if_neg hn0))
            clear hn0 HO
            go_enter Tryz.func22, Tryz.ntmps22
            go_wp2_with (go_at_call 38; refine (CI _).mono ?_; rintro e w2 ⟨rfl, rfl⟩)
            refine (P1 _).mono ?_
            rintro e w2 ⟨rfl, rfl⟩
            go_wp2_with fail
            refine (P2 _).mono ?_
            rintro e w2 ⟨rfl, rfl⟩
            go_wp2_with fail
            refine (C _).mono ?_
            rintro e w3 ⟨rfl, hb3⟩
            go_wp2
            go_ret2
            exact ⟨⟨_, rsb rfl (by rw [HO2.out]), by rw [HO2.out]⟩, hb3⟩
        | false =>
          rw [h2] at P2
          obtain ⟨C, hlen, HO⟩ := tailP r hrz (by
            unfold signC
            rw [if_neg]
            rintro (h3 | h3)
            · rw [(pre_hd _ _).2 h3] at h1; cases h1
            · rw [(pre_hd _ _).2 h3] at h2; cases h2)
          obtain ⟨n, hne⟩ : ∃ n, (digitsC 10 r.data.toList).length = n := ⟨_, rfl⟩
          rw [hne] at C hlen HO
          replace HO := Lib.hid HO
          clear tailP HY h1 h2 hne hrl
          by_cases hn0 : n = 0
          · have i1 : ((n : Int) == 0) = true := by simp [hn0]
            have HO2 := Lib.hid (HO.out.trans (if_pos hn0))
            clear hn0 HO
            go_enter Tryz.func22, Tryz.ntmps22
            go_wp2_with (go_at_call 38; refine (CI _).mono ?_; rintro e w2 ⟨rfl, rfl⟩)
            refine (P1 _).mono ?_
            rintro e w2 ⟨rfl, rfl⟩
            go_wp2_with fail
            refine (P2 _).mono ?_
            rintro e w2 ⟨rfl, rfl⟩
            go_wp2_with fail
            refine (C _).mono ?_
            rintro e w3 ⟨rfl, hb3⟩
            go_wp2
            go_ret2
            exact ⟨⟨_, rsb rfl (by rw [HO2.out]), by rw [HO2.out]⟩, hb3⟩
          · have i1 : ((n : Int) == 0) = false := beq_eq_false_iff_ne.2 (by omega)
            have HO2 := Lib.hid (HO.out.trans (if_neg hn0))
            clear hn0 HO
            go_enter Tryz.func22, Tryz.ntmps22
            go_wp2_with (go_at_call 38; refine (CI _).mono ?_; rintro e w2 ⟨rfl, rfl⟩)
            refine (P1 _).mono ?_
            rintro e w2 ⟨rfl, rfl⟩
            go_wp2_with fail
            refine (P2 _).mono ?_
            rintro e w2 ⟨rfl, rfl⟩
            go_wp2_with fail
            refine (C _).mono ?_
            rintro e w3 ⟨rfl, hb3⟩
            go_wp2
            go_ret2
            exact ⟨⟨_, rsb rfl (by rw [HO2.out]), by rw [HO2.out]⟩, hb3⟩

end Go.Proofs.YtenmapahigbbeaaGreat

namespace Go.Proofs.YtenmapahigbbeaaGreat
open Go.RowKit Go.Shelf

theorem baseF_hex {l : List UInt8} (h : hexB l = true) : baseF l = (16, l.drop 2) := by
  unfold baseF
  rw [(base_hex h).1]; rfl
theorem baseF_no {l : List UInt8} (h : hexB l = false) : baseF l = (10, l) := by
  unfold baseF
  cases h2 : [48].isPrefixOf l with
  | true => rw [base_eight h h2, if_neg (show ¬ (8, l).1 = 16 by simp)]
  | false => rw [base_else h2, if_neg (show ¬ (10, l).1 = 16 by simp)]
theorem fC_tests (d : ByteArray) : fC d.data.toList = (d.toList.isEmpty || (d.toList == [102]) || (d.toList == [70]) || (d.toList == [108]) || (d.toList == [76])) := by
  rw [ByteArray.toList_eq]
  unfold fC
  congr 4
  cases d.data.toList <;> rfl
theorem two_ways {p : Bool} {q : Prop} (h : p = true) (h2 : p = false) : q := absurd (h.symm.trans h2) (by decide)

set_option maxRecDepth 100000 in
set_option maxHeartbeats 4000000 in
theorem Float_hex (s : ByteArray) (w : World) (hs : s.size ≤ maxLen) (hx : hexB s.data.toList = true) :
    Calls Tryz.prog 11 #[.string s] w fun e w' => e = .returned (.bool (floatC s.data.toList)) ∧ Below w.heap.size w w' := by
  have C1 := fun w => cutHex_any s w hs
  rw [hx, if_pos rfl] at C1
  obtain ⟨r, hr⟩ : ∃ r, s.extract 2 s.size = r := ⟨_, rfl⟩
  have hrl : r.data.toList = s.data.toList.drop 2 := by rw [← hr]; exact extract_end s 2
  have hrs : r.size ≤ maxLen := by rw [← hr, ByteArray.size_extract]; unfold maxLen at *; omega
  rw [hr] at C1
  have C2 := fun w => cutMantissa_any r 16 w hrs (by decide) (by decide)
  have HF : Hid (floatC s.data.toList = floP 16 (manC 16 r.data.toList)) := Lib.hid (by rw [float_parts, baseF_hex hx, hrl])
  clear hr hrl
  obtain ⟨M, hM⟩ : ∃ M, manC 16 r.data.toList = M := ⟨_, rfl⟩
  rw [hM] at HF
  simp only [hM] at C2
  clear hM hx
  obtain ⟨m1, mp, mi⟩ := M
  simp only at C2
  generalize floatC s.data.toList = R at *
  cases mi with
  | false =>
    have HO : Hid (R = false) := Lib.hid (by rw [HF.out]; rfl)
    clear HF
    go_enter Tryz.func11, Tryz.ntmps11
    go_wp2_with (go_at_call 20; refine (C1 _).mono ?_; rintro e w' ⟨rfl, rfl⟩)
    refine (C2 _).mono ?_
    rintro e w1 ⟨⟨d, rfl, hd, hds⟩, hb1⟩
    go_wp2
    go_ret
    exact ⟨rb HO.out.symm, hb1⟩
  | true =>
    have HO : Hid (R = floP 16 (m1, mp, true)) := Lib.hid HF.out
    clear HF
    go_enter Tryz.func11, Tryz.ntmps11
    go_wp2_with (go_at_call 20; refine (C1 _).mono ?_; rintro e w' ⟨rfl, rfl⟩)
    refine (C2 _).mono ?_
    rintro e w1 ⟨⟨d, rfl, hd, hds⟩, hb1⟩
    have hdm : d.size ≤ maxLen := Nat.le_trans hds hrs
    have C3 := fun w => cutExponent_any d 112 80 w hdm
    rw [hd] at C3
    obtain ⟨X, hX⟩ : ∃ X, expC 112 80 m1 = X := ⟨_, rfl⟩
    have HX : Hid (R = if X.2 = false then false else fC X.1) := Lib.hid (by rw [HO.out, ← hX]; unfold floP; rw [if_neg (show ¬ (true = false) by decide), if_pos rfl])
    simp only [hX] at C3
    clear hX HO C1 C2 hd hds hdm
    obtain ⟨x1, x2⟩ := X
    simp only at C3
    go_wp2_with fail
    refine (C3 _).mono ?_
    rintro e w2 ⟨⟨z, rfl, hz⟩, hb2⟩
    have HZ : Hid (R = if x2 = false then false else (z.toList.isEmpty || (z.toList == [102]) || (z.toList == [70]) || (z.toList == [108]) || (z.toList == [76]))) := Lib.hid (by rw [HX.out, ← hz, fC_tests])
    clear hz HX C3
    have hB := hb1.trans (hb2.mono hb1.size)
    cases x2
    all_goals
      go_wp2
      all_goals first
        | exact two_ways (show z.toList.isEmpty = true by assumption) (by assumption)
        | exact two_ways (show (z.toList == [102]) = true by assumption) (by assumption)
        | exact two_ways (show (z.toList == [70]) = true by assumption) (by assumption)
        | exact two_ways (show (z.toList == [108]) = true by assumption) (by assumption)
        | exact two_ways (show (z.toList == [76]) = true by assumption) (by assumption)
        | (go_ret
           refine ⟨rb ?_, hB⟩
           rw [HZ.out]
           simp [*]
           done)

set_option maxRecDepth 100000 in
set_option maxHeartbeats 4000000 in
theorem Float_dec (s : ByteArray) (w : World) (hs : s.size ≤ maxLen) (hx : hexB s.data.toList = false) :
    Calls Tryz.prog 11 #[.string s] w fun e w' => e = .returned (.bool (floatC s.data.toList)) ∧ Below w.heap.size w w' := by
  have C1 := fun w => cutHex_any s w hs
  rw [hx, if_neg (by decide)] at C1
  have C2 := fun w => cutMantissa_any s 10 w hs (by decide) (by decide)
  have HF : Hid (floatC s.data.toList = floP 10 (manC 10 s.data.toList)) := Lib.hid (by rw [float_parts, baseF_no hx])
  
  obtain ⟨M, hM⟩ : ∃ M, manC 10 s.data.toList = M := ⟨_, rfl⟩
  rw [hM] at HF
  simp only [hM] at C2
  clear hM hx
  obtain ⟨m1, mp, mi⟩ := M
  simp only at C2
  generalize floatC s.data.toList = R at *
  cases mi with
  | false =>
    have HO : Hid (R = false) := Lib.hid (by rw [HF.out]; rfl)
    clear HF
    go_enter Tryz.func11, Tryz.ntmps11
    go_wp2_with (go_at_call 20; refine (C1 _).mono ?_; rintro e w' ⟨rfl, rfl⟩)
    refine (C2 _).mono ?_
    rintro e w1 ⟨⟨d, rfl, hd, hds⟩, hb1⟩
    go_wp2
    go_ret
    exact ⟨rb HO.out.symm, hb1⟩
  | true =>
    have HO : Hid (R = floP 10 (m1, mp, true)) := Lib.hid HF.out
    clear HF
    go_enter Tryz.func11, Tryz.ntmps11
    go_wp2_with (go_at_call 20; refine (C1 _).mono ?_; rintro e w' ⟨rfl, rfl⟩)
    refine (C2 _).mono ?_
    rintro e w1 ⟨⟨d, rfl, hd, hds⟩, hb1⟩
    have hdm : d.size ≤ maxLen := Nat.le_trans hds hs
    have C3 := fun w => cutExponent_any d 101 69 w hdm
    rw [hd] at C3
    obtain ⟨X, hX⟩ : ∃ X, expC 101 69 m1 = X := ⟨_, rfl⟩
    have HX : Hid (R = if (X.2 = false ∧ mp = false) then false else fC X.1) := Lib.hid (by rw [HO.out, ← hX]; unfold floP; rw [if_neg (show ¬ (true = false) by decide), if_neg (show ¬ (10 = 16) by decide)])
    simp only [hX] at C3
    clear hX HO C1 C2 hd hds hdm
    obtain ⟨x1, x2⟩ := X
    simp only at C3
    go_wp2_with fail
    refine (C3 _).mono ?_
    rintro e w2 ⟨⟨z, rfl, hz⟩, hb2⟩
    have HZ : Hid (R = if (x2 = false ∧ mp = false) then false else (z.toList.isEmpty || (z.toList == [102]) || (z.toList == [70]) || (z.toList == [108]) || (z.toList == [76]))) := Lib.hid (by rw [HX.out, ← hz, fC_tests])
    clear hz HX C3
    have hB := hb1.trans (hb2.mono hb1.size)
    cases x2 <;> cases mp
    all_goals
      go_wp2
      all_goals first
        | exact two_ways (show z.toList.isEmpty = true by assumption) (by assumption)
        | exact two_ways (show (z.toList == [102]) = true by assumption) (by assumption)
        | exact two_ways (show (z.toList == [70]) = true by assumption) (by assumption)
        | exact two_ways (show (z.toList == [108]) = true by assumption) (by assumption)
        | exact two_ways (show (z.toList == [76]) = true by assumption) (by assumption)
        | (go_ret
           refine ⟨rb ?_, hB⟩
           rw [HZ.out]
           simp [*]
           done)

theorem Float_any (s : ByteArray) (w : World) (hs : s.size ≤ maxLen) :
    Calls Tryz.prog 11 #[.string s] w fun e w' => e = .returned (.bool (floatC s.data.toList)) ∧ Below w.heap.size w w' := by
  cases hx : hexB s.data.toList with
  | true => exact Float_hex s w hs hx
  | false => exact Float_dec s w hs hx

end Go.Proofs.YtenmapahigbbeaaGreat

namespace Go.Proofs.YtenmapahigbbeaaGreat
open Go.RowKit Go.Shelf

def kwL : List (List UInt8) := [[97, 117, 116, 111], [98, 114, 101, 97, 107], [99, 97, 115, 101], [99, 104, 97, 114], [99, 111, 110, 115, 116], [99, 111, 110, 116, 105, 110, 117, 101], [100, 101, 102, 97, 117, 108, 116], [100, 111], [100, 111, 117, 98, 108, 101], [101, 108, 115, 101], [101, 110, 117, 109], [101, 120, 116, 101, 114, 110], [102, 108, 111, 97, 116], [102, 111, 114], [103, 111, 116, 111], [105, 102], [105, 110, 108, 105, 110, 101], [105, 110, 116], [108, 111, 110, 103], [114, 101, 103, 105, 115, 116, 101, 114], [114, 101, 115, 116, 114, 105, 99, 116], [114, 101, 116, 117, 114, 110], [115, 104, 111, 114, 116], [115, 105, 103, 110, 101, 100], [115, 105, 122, 101, 111, 102], [115, 116, 97, 116, 105, 99], [115, 116, 114, 117, 99, 116], [115, 119, 105, 116, 99, 104], [116, 121, 112, 101, 100, 101, 102], [117, 110, 105, 111, 110], [117, 110, 115, 105, 103, 110, 101, 100], [118, 111, 105, 100], [118, 111, 108, 97, 116, 105, 108, 101], [119, 104, 105, 108, 101], [95, 65, 108, 105, 103, 110, 97, 115], [95, 65, 108, 105, 103, 110, 111, 102], [95, 65, 116, 111, 109, 105, 99], [95, 66, 111, 111, 108], [95, 67, 111, 109, 112, 108, 101, 120], [95, 71, 101, 110, 101, 114, 105, 99], [95, 73, 109, 97, 103, 105, 110, 97, 114, 121], [95, 78, 111, 114, 101, 116, 117, 114, 110], [95, 83, 116, 97, 116, 105, 99, 95, 97, 115, 115, 101, 114, 116], [95, 84, 104, 114, 101, 97, 100, 95, 108, 111, 99, 97, 108]]
def kwB (l : List UInt8) : Bool := kwL.contains l
theorem kw_tests (s : ByteArray) : kwB s.data.toList = ((s.toList == [97, 117, 116, 111]) || ((s.toList == [98, 114, 101, 97, 107]) || ((s.toList == [99, 97, 115, 101]) || ((s.toList == [99, 104, 97, 114]) || ((s.toList == [99, 111, 110, 115, 116]) || ((s.toList == [99, 111, 110, 116, 105, 110, 117, 101]) || ((s.toList == [100, 101, 102, 97, 117, 108, 116]) || ((s.toList == [100, 111]) || ((s.toList == [100, 111, 117, 98, 108, 101]) || ((s.toList == [101, 108, 115, 101]) || ((s.toList == [101, 110, 117, 109]) || ((s.toList == [101, 120, 116, 101, 114, 110]) || ((s.toList == [102, 108, 111, 97, 116]) || ((s.toList == [102, 111, 114]) || ((s.toList == [103, 111, 116, 111]) || ((s.toList == [105, 102]) || ((s.toList == [105, 110, 108, 105, 110, 101]) || ((s.toList == [105, 110, 116]) || ((s.toList == [108, 111, 110, 103]) || ((s.toList == [114, 101, 103, 105, 115, 116, 101, 114]) || ((s.toList == [114, 101, 115, 116, 114, 105, 99, 116]) || ((s.toList == [114, 101, 116, 117, 114, 110]) || ((s.toList == [115, 104, 111, 114, 116]) || ((s.toList == [115, 105, 103, 110, 101, 100]) || ((s.toList == [115, 105, 122, 101, 111, 102]) || ((s.toList == [115, 116, 97, 116, 105, 99]) || ((s.toList == [115, 116, 114, 117, 99, 116]) || ((s.toList == [115, 119, 105, 116, 99, 104]) || ((s.toList == [116, 121, 112, 101, 100, 101, 102]) || ((s.toList == [117, 110, 105, 111, 110]) || ((s.toList == [117, 110, 115, 105, 103, 110, 101, 100]) || ((s.toList == [118, 111, 105, 100]) || ((s.toList == [118, 111, 108, 97, 116, 105, 108, 101]) || ((s.toList == [119, 104, 105, 108, 101]) || ((s.toList == [95, 65, 108, 105, 103, 110, 97, 115]) || ((s.toList == [95, 65, 108, 105, 103, 110, 111, 102]) || ((s.toList == [95, 65, 116, 111, 109, 105, 99]) || ((s.toList == [95, 66, 111, 111, 108]) || ((s.toList == [95, 67, 111, 109, 112, 108, 101, 120]) || ((s.toList == [95, 71, 101, 110, 101, 114, 105, 99]) || ((s.toList == [95, 73, 109, 97, 103, 105, 110, 97, 114, 121]) || ((s.toList == [95, 78, 111, 114, 101, 116, 117, 114, 110]) || ((s.toList == [95, 83, 116, 97, 116, 105, 99, 95, 97, 115, 115, 101, 114, 116]) || ((s.toList == [95, 84, 104, 114, 101, 97, 100, 95, 108, 111, 99, 97, 108]))))))))))))))))))))))))))))))))))))))))))))) := by
  rw [ByteArray.toList_eq]
  unfold kwB kwL
  simp only [List.contains_cons, List.contains_nil, Bool.or_false]
theorem two_kw {p : Bool} {q : Prop} (h : p = true) (h2 : p = false) : q := absurd (h.symm.trans h2) (by decide)

set_option maxRecDepth 100000 in
set_option maxHeartbeats 8000000 in
theorem Keyword_any (s : ByteArray) (w : World) : Calls Tryz.prog 7 #[.string s] w fun e w' => e = .returned (.bool (kwB s.data.toList)) ∧ w = w' := by
  have HK := Lib.hid (kw_tests s)
  generalize kwB s.data.toList = B at *
  go_enter Tryz.func7, Tryz.ntmps7
  cases h0 : (s.toList == [97, 117, 116, 111]) with
  | true =>
    have HO : Hid (B = true) := Lib.hid (by rw [HK.out]; simp only [h0, Bool.true_or, Bool.false_or])
    clear HK
    go_wp2
    go_ret
    exact ⟨rb HO.out.symm, rfl⟩
  | false =>
   cases h1 : (s.toList == [98, 114, 101, 97, 107]) with
   | true =>
     have HO : Hid (B = true) := Lib.hid (by rw [HK.out]; simp only [h0, h1, Bool.true_or, Bool.false_or])
     clear HK
     go_wp2
     go_ret
     exact ⟨rb HO.out.symm, rfl⟩
   | false =>
    cases h2 : (s.toList == [99, 97, 115, 101]) with
    | true =>
      have HO : Hid (B = true) := Lib.hid (by rw [HK.out]; simp only [h0, h1, h2, Bool.true_or, Bool.false_or])
      clear HK
      go_wp2
      go_ret
      exact ⟨rb HO.out.symm, rfl⟩
    | false =>
     cases h3 : (s.toList == [99, 104, 97, 114]) with
     | true =>
       have HO : Hid (B = true) := Lib.hid (by rw [HK.out]; simp only [h0, h1, h2, h3, Bool.true_or, Bool.false_or])
       clear HK
       go_wp2
       go_ret
       exact ⟨rb HO.out.symm, rfl⟩
     | false =>
      cases h4 : (s.toList == [99, 111, 110, 115, 116]) with
      | true =>
        have HO : Hid (B = true) := Lib.hid (by rw [HK.out]; simp only [h0, h1, h2, h3, h4, Bool.true_or, Bool.false_or])
        clear HK
        go_wp2
        go_ret
        exact ⟨rb HO.out.symm, rfl⟩
      | false =>
       cases h5 : (s.toList == [99, 111, 110, 116, 105, 110, 117, 101]) with
       | true =>
         have HO : Hid (B = true) := Lib.hid (by rw [HK.out]; simp only [h0, h1, h2, h3, h4, h5, Bool.true_or, Bool.false_or])
         clear HK
         go_wp2
         go_ret
         exact ⟨rb HO.out.symm, rfl⟩
       | false =>
        cases h6 : (s.toList == [100, 101, 102, 97, 117, 108, 116]) with
        | true =>
          have HO : Hid (B = true) := Lib.hid (by rw [HK.out]; simp only [h0, h1, h2, h3, h4, h5, h6, Bool.true_or, Bool.false_or])
          clear HK
          go_wp2
          go_ret
          exact ⟨rb HO.out.symm, rfl⟩
        | false =>
         cases h7 : (s.toList == [100, 111]) with
         | true =>
           have HO : Hid (B = true) := Lib.hid (by rw [HK.out]; simp only [h0, h1, h2, h3, h4, h5, h6, h7, Bool.true_or, Bool.false_or])
           clear HK
           go_wp2
           go_ret
           exact ⟨rb HO.out.symm, rfl⟩
         | false =>
          cases h8 : (s.toList == [100, 111, 117, 98, 108, 101]) with
          | true =>
            have HO : Hid (B = true) := Lib.hid (by rw [HK.out]; simp only [h0, h1, h2, h3, h4, h5, h6, h7, h8, Bool.true_or, Bool.false_or])
            clear HK
            go_wp2
            go_ret
            exact ⟨rb HO.out.symm, rfl⟩
          | false =>
           cases h9 : (s.toList == [101, 108, 115, 101]) with
           | true =>
             have HO : Hid (B = true) := Lib.hid (by rw [HK.out]; simp only [h0, h1, h2, h3, h4, h5, h6, h7, h8, h9, Bool.true_or, Bool.false_or])
             clear HK
             go_wp2
             go_ret
             exact ⟨rb HO.out.symm, rfl⟩
           | false =>
            cases h10 : (s.toList == [101, 110, 117, 109]) with
            | true =>
              have HO : Hid (B = true) := Lib.hid (by rw [HK.out]; simp only [h0, h1, h2, h3, h4, h5, h6, h7, h8, h9, h10, Bool.true_or, Bool.false_or])
              clear HK
              go_wp2
              go_ret
              exact ⟨rb HO.out.symm, rfl⟩
            | false =>
             cases h11 : (s.toList == [101, 120, 116, 101, 114, 110]) with
             | true =>
               have HO : Hid (B = true) := Lib.hid (by rw [HK.out]; simp only [h0, h1, h2, h3, h4, h5, h6, h7, h8, h9, h10, h11, Bool.true_or, Bool.false_or])
               clear HK
               go_wp2
               go_ret
               exact ⟨rb HO.out.symm, rfl⟩
             | false =>
              cases h12 : (s.toList == [102, 108, 111, 97, 116]) with
              | true =>
                have HO : Hid (B = true) := Lib.hid (by rw [HK.out]; simp only [h0, h1, h2, h3, h4, h5, h6, h7, h8, h9, h10, h11, h12, Bool.true_or, Bool.false_or])
                clear HK
                go_wp2
                go_ret
                exact ⟨rb HO.out.symm, rfl⟩
              | false =>
               cases h13 : (s.toList == [102, 111, 114]) with
               | true =>
                 have HO : Hid (B = true) := Lib.hid (by rw [HK.out]; simp only [h0, h1, h2, h3, h4, h5, h6, h7, h8, h9, h10, h11, h12, h13, Bool.true_or, Bool.false_or])
                 clear HK
                 go_wp2
                 go_ret
                 exact ⟨rb HO.out.symm, rfl⟩
               | false =>
                cases h14 : (s.toList == [103, 111, 116, 111]) with
                | true =>
                  have HO : Hid (B = true) := Lib.hid (by rw [HK.out]; simp only [h0, h1, h2, h3, h4, h5, h6, h7, h8, h9, h10, h11, h12, h13, h14, Bool.true_or, Bool.false_or])
                  clear HK
                  go_wp2
                  go_ret
                  exact ⟨rb HO.out.symm, rfl⟩
                | false =>
                 cases h15 : (s.toList == [105, 102]) with
                 | true =>
                   have HO : Hid (B = true) := Lib.hid (by rw [HK.out]; simp only [h0, h1, h2, h3, h4, h5, h6, h7, h8, h9, h10, h11, h12, h13, h14, h15, Bool.true_or, Bool.false_or])
                   clear HK
                   go_wp2
                   go_ret
                   exact ⟨rb HO.out.symm, rfl⟩
                 | false =>
                  cases h16 : (s.toList == [105, 110, 108, 105, 110, 101]) with
                  | true =>
                    have HO : Hid (B = true) := Lib.hid (by rw [HK.out]; simp only [h0, h1, h2, h3, h4, h5, h6, h7, h8, h9, h10, h11, h12, h13, h14, h15, h16, Bool.true_or, Bool.false_or])
                    clear HK
                    go_wp2
                    go_ret
                    exact ⟨rb HO.out.symm, rfl⟩
                  | false =>
                   cases h17 : (s.toList == [105, 110, 116]) with
                   | true =>
                     have HO : Hid (B = true) := Lib.hid (by rw [HK.out]; simp only [h0, h1, h2, h3, h4, h5, h6, h7, h8, h9, h10, h11, h12, h13, h14, h15, h16, h17, Bool.true_or, Bool.false_or])
                     clear HK
                     go_wp2
                     go_ret
                     exact ⟨rb HO.out.symm, rfl⟩
                   | false =>
                    cases h18 : (s.toList == [108, 111, 110, 103]) with
                    | true =>
                      have HO : Hid (B = true) := Lib.hid (by rw [HK.out]; simp only [h0, h1, h2, h3, h4, h5, h6, h7, h8, h9, h10, h11, h12, h13, h14, h15, h16, h17, h18, Bool.true_or, Bool.false_or])
                      clear HK
                      go_wp2
                      go_ret
                      exact ⟨rb HO.out.symm, rfl⟩
                    | false =>
                     cases h19 : (s.toList == [114, 101, 103, 105, 115, 116, 101, 114]) with
                     | true =>
                       have HO : Hid (B = true) := Lib.hid (by rw [HK.out]; simp only [h0, h1, h2, h3, h4, h5, h6, h7, h8, h9, h10, h11, h12, h13, h14, h15, h16, h17, h18, h19, Bool.true_or, Bool.false_or])
                       clear HK
                       go_wp2
                       go_ret
                       exact ⟨rb HO.out.symm, rfl⟩
                     | false =>
                      cases h20 : (s.toList == [114, 101, 115, 116, 114, 105, 99, 116]) with
                      | true =>
                        have HO : Hid (B = true) := Lib.hid (by rw [HK.out]; simp only [h0, h1, h2, h3, h4, h5, h6, h7, h8, h9, h10, h11, h12, h13, h14, h15, h16, h17, h18, h19, h20, Bool.true_or, Bool.false_or])
                        clear HK
                        go_wp2
                        go_ret
                        exact ⟨rb HO.out.symm, rfl⟩
                      | false =>
                       cases h21 : (s.toList == [114, 101, 116, 117, 114, 110]) with
                       | true =>
                         have HO : Hid (B = true) := Lib.hid (by rw [HK.out]; simp only [h0, h1, h2, h3, h4, h5, h6, h7, h8, h9, h10, h11, h12, h13, h14, h15, h16, h17, h18, h19, h20, h21, Bool.true_or, Bool.false_or])
                         clear HK
                         go_wp2
                         go_ret
                         exact ⟨rb HO.out.symm, rfl⟩
                       | false =>
                        cases h22 : (s.toList == [115, 104, 111, 114, 116]) with
                        | true =>
                          have HO : Hid (B = true) := Lib.hid (by rw [HK.out]; simp only [h0, h1, h2, h3, h4, h5, h6, h7, h8, h9, h10, h11, h12, h13, h14, h15, h16, h17, h18, h19, h20, h21, h22, Bool.true_or, Bool.false_or])
                          clear HK
                          go_wp2
                          go_ret
                          exact ⟨rb HO.out.symm, rfl⟩
                        | false =>
                         cases h23 : (s.toList == [115, 105, 103, 110, 101, 100]) with
                         | true =>
                           have HO : Hid (B = true) := Lib.hid (by rw [HK.out]; simp only [h0, h1, h2, h3, h4, h5, h6, h7, h8, h9, h10, h11, h12, h13, h14, h15, h16, h17, h18, h19, h20, h21, h22, h23, Bool.true_or, Bool.false_or])
                           clear HK
                           go_wp2
                           go_ret
                           exact ⟨rb HO.out.symm, rfl⟩
                         | false =>
                          cases h24 : (s.toList == [115, 105, 122, 101, 111, 102]) with
                          | true =>
                            have HO : Hid (B = true) := Lib.hid (by rw [HK.out]; simp only [h0, h1, h2, h3, h4, h5, h6, h7, h8, h9, h10, h11, h12, h13, h14, h15, h16, h17, h18, h19, h20, h21, h22, h23, h24, Bool.true_or, Bool.false_or])
                            clear HK
                            go_wp2
                            go_ret
                            exact ⟨rb HO.out.symm, rfl⟩
                          | false =>
                           cases h25 : (s.toList == [115, 116, 97, 116, 105, 99]) with
                           | true =>
                             have HO : Hid (B = true) := Lib.hid (by rw [HK.out]; simp only [h0, h1, h2, h3, h4, h5, h6, h7, h8, h9, h10, h11, h12, h13, h14, h15, h16, h17, h18, h19, h20, h21, h22, h23, h24, h25, Bool.true_or, Bool.false_or])
                             clear HK
                             go_wp2
                             go_ret
                             exact ⟨rb HO.out.symm, rfl⟩
                           | false =>
                            cases h26 : (s.toList == [115, 116, 114, 117, 99, 116]) with
                            | true =>
                              have HO : Hid (B = true) := Lib.hid (by rw [HK.out]; simp only [h0, h1, h2, h3, h4, h5, h6, h7, h8, h9, h10, h11, h12, h13, h14, h15, h16, h17, h18, h19, h20, h21, h22, h23, h24, h25, h26, Bool.true_or, Bool.false_or])
                              clear HK
                              go_wp2
                              go_ret
                              exact ⟨rb HO.out.symm, rfl⟩
                            | false =>
                             cases h27 : (s.toList == [115, 119, 105, 116, 99, 104]) with
                             | true =>
                               have HO : Hid (B = true) := Lib.hid (by rw [HK.out]; simp only [h0, h1, h2, h3, h4, h5, h6, h7, h8, h9, h10, h11, h12, h13, h14, h15, h16, h17, h18, h19, h20, h21, h22, h23, h24, h25, h26, h27, Bool.true_or, Bool.false_or])
                               clear HK
                               go_wp2
                               go_ret
                               exact ⟨rb HO.out.symm, rfl⟩
                             | false =>
                              cases h28 : (s.toList == [116, 121, 112, 101, 100, 101, 102]) with
                              | true =>
                                have HO : Hid (B = true) := Lib.hid (by rw [HK.out]; simp only [h0, h1, h2, h3, h4, h5, h6, h7, h8, h9, h10, h11, h12, h13, h14, h15, h16, h17, h18, h19, h20, h21, h22, h23, h24, h25, h26, h27, h28, Bool.true_or, Bool.false_or])
                                clear HK
                                go_wp2
                                go_ret
                                exact ⟨rb HO.out.symm, rfl⟩
                              | false =>
                               cases h29 : (s.toList == [117, 110, 105, 111, 110]) with
                               | true =>
                                 have HO : Hid (B = true) := Lib.hid (by rw [HK.out]; simp only [h0, h1, h2, h3, h4, h5, h6, h7, h8, h9, h10, h11, h12, h13, h14, h15, h16, h17, h18, h19, h20, h21, h22, h23, h24, h25, h26, h27, h28, h29, Bool.true_or, Bool.false_or])
                                 clear HK
                                 go_wp2
                                 go_ret
                                 exact ⟨rb HO.out.symm, rfl⟩
                               | false =>
                                cases h30 : (s.toList == [117, 110, 115, 105, 103, 110, 101, 100]) with
                                | true =>
                                  have HO : Hid (B = true) := Lib.hid (by rw [HK.out]; simp only [h0, h1, h2, h3, h4, h5, h6, h7, h8, h9, h10, h11, h12, h13, h14, h15, h16, h17, h18, h19, h20, h21, h22, h23, h24, h25, h26, h27, h28, h29, h30, Bool.true_or, Bool.false_or])
                                  clear HK
                                  go_wp2
                                  go_ret
                                  exact ⟨rb HO.out.symm, rfl⟩
                                | false =>
                                 cases h31 : (s.toList == [118, 111, 105, 100]) with
                                 | true =>
                                   have HO : Hid (B = true) := Lib.hid (by rw [HK.out]; simp only [h0, h1, h2, h3, h4, h5, h6, h7, h8, h9, h10, h11, h12, h13, h14, h15, h16, h17, h18, h19, h20, h21, h22, h23, h24, h25, h26, h27, h28, h29, h30, h31, Bool.true_or, Bool.false_or])
                                   clear HK
                                   go_wp2
                                   go_ret
                                   exact ⟨rb HO.out.symm, rfl⟩
                                 | false =>
                                  cases h32 : (s.toList == [118, 111, 108, 97, 116, 105, 108, 101]) with
                                  | true =>
                                    have HO : Hid (B = true) := Lib.hid (by rw [HK.out]; simp only [h0, h1, h2, h3, h4, h5, h6, h7, h8, h9, h10, h11, h12, h13, h14, h15, h16, h17, h18, h19, h20, h21, h22, h23, h24, h25, h26, h27, h28, h29, h30, h31, h32, Bool.true_or, Bool.false_or])
                                    clear HK
                                    go_wp2
                                    go_ret
                                    exact ⟨rb HO.out.symm, rfl⟩
                                  | false =>
                                   cases h33 : (s.toList == [119, 104, 105, 108, 101]) with
                                   | true =>
                                     have HO : Hid (B = true) := Lib.hid (by rw [HK.out]; simp only [h0, h1, h2, h3, h4, h5, h6, h7, h8, h9, h10, h11, h12, h13, h14, h15, h16, h17, h18, h19, h20, h21, h22, h23, h24, h25, h26, h27, h28, h29, h30, h31, h32, h33, Bool.true_or, Bool.false_or])
                                     clear HK
                                     go_wp2
                                     go_ret
                                     exact ⟨rb HO.out.symm, rfl⟩
                                   | false =>
                                    cases h34 : (s.toList == [95, 65, 108, 105, 103, 110, 97, 115]) with
                                    | true =>
                                      have HO : Hid (B = true) := Lib.hid (by rw [HK.out]; simp only [h0, h1, h2, h3, h4, h5, h6, h7, h8, h9, h10, h11, h12, h13, h14, h15, h16, h17, h18, h19, h20, h21, h22, h23, h24, h25, h26, h27, h28, h29, h30, h31, h32, h33, h34, Bool.true_or, Bool.false_or])
                                      clear HK
                                      go_wp2
                                      go_ret
                                      exact ⟨rb HO.out.symm, rfl⟩
                                    | false =>
                                     cases h35 : (s.toList == [95, 65, 108, 105, 103, 110, 111, 102]) with
                                     | true =>
                                       have HO : Hid (B = true) := Lib.hid (by rw [HK.out]; simp only [h0, h1, h2, h3, h4, h5, h6, h7, h8, h9, h10, h11, h12, h13, h14, h15, h16, h17, h18, h19, h20, h21, h22, h23, h24, h25, h26, h27, h28, h29, h30, h31, h32, h33, h34, h35, Bool.true_or, Bool.false_or])
                                       clear HK
                                       go_wp2
                                       go_ret
                                       exact ⟨rb HO.out.symm, rfl⟩
                                     | false =>
                                      cases h36 : (s.toList == [95, 65, 116, 111, 109, 105, 99]) with
                                      | true =>
                                        have HO : Hid (B = true) := Lib.hid (by rw [HK.out]; simp only [h0, h1, h2, h3, h4, h5, h6, h7, h8, h9, h10, h11, h12, h13, h14, h15, h16, h17, h18, h19, h20, h21, h22, h23, h24, h25, h26, h27, h28, h29, h30, h31, h32, h33, h34, h35, h36, Bool.true_or, Bool.false_or])
                                        clear HK
                                        go_wp2
                                        go_ret
                                        exact ⟨rb HO.out.symm, rfl⟩
                                      | false =>
                                       cases h37 : (s.toList == [95, 66, 111, 111, 108]) with
                                       | true =>
                                         have HO : Hid (B = true) := Lib.hid (by rw [HK.out]; simp only [h0, h1, h2, h3, h4, h5, h6, h7, h8, h9, h10, h11, h12, h13, h14, h15, h16, h17, h18, h19, h20, h21, h22, h23, h24, h25, h26, h27, h28, h29, h30, h31, h32, h33, h34, h35, h36, h37, Bool.true_or, Bool.false_or])
                                         clear HK
                                         go_wp2
                                         go_ret
                                         exact ⟨rb HO.out.symm, rfl⟩
                                       | false =>
                                        cases h38 : (s.toList == [95, 67, 111, 109, 112, 108, 101, 120]) with
                                        | true =>
                                          have HO : Hid (B = true) := Lib.hid (by rw [HK.out]; simp only [h0, h1, h2, h3, h4, h5, h6, h7, h8, h9, h10, h11, h12, h13, h14, h15, h16, h17, h18, h19, h20, h21, h22, h23, h24, h25, h26, h27, h28, h29, h30, h31, h32, h33, h34, h35, h36, h37, h38, Bool.true_or, Bool.false_or])
                                          clear HK
                                          go_wp2
                                          go_ret
                                          exact ⟨rb HO.out.symm, rfl⟩
                                        | false =>
                                         cases h39 : (s.toList == [95, 71, 101, 110, 101, 114, 105, 99]) with
                                         | true =>
                                           have HO : Hid (B = true) := Lib.hid (by rw [HK.out]; simp only [h0, h1, h2, h3, h4, h5, h6, h7, h8, h9, h10, h11, h12, h13, h14, h15, h16, h17, h18, h19, h20, h21, h22, h23, h24, h25, h26, h27, h28, h29, h30, h31, h32, h33, h34, h35, h36, h37, h38, h39, Bool.true_or, Bool.false_or])
                                           clear HK
                                           go_wp2
                                           go_ret
                                           exact ⟨rb HO.out.symm, rfl⟩
                                         | false =>
                                          cases h40 : (s.toList == [95, 73, 109, 97, 103, 105, 110, 97, 114, 121]) with
                                          | true =>
                                            have HO : Hid (B = true) := Lib.hid (by rw [HK.out]; simp only [h0, h1, h2, h3, h4, h5, h6, h7, h8, h9, h10, h11, h12, h13, h14, h15, h16, h17, h18, h19, h20, h21, h22, h23, h24, h25, h26, h27, h28, h29, h30, h31, h32, h33, h34, h35, h36, h37, h38, h39, h40, Bool.true_or, Bool.false_or])
                                            clear HK
                                            go_wp2
                                            go_ret
                                            exact ⟨rb HO.out.symm, rfl⟩
                                          | false =>
                                           cases h41 : (s.toList == [95, 78, 111, 114, 101, 116, 117, 114, 110]) with
                                           | true =>
                                             have HO : Hid (B = true) := Lib.hid (by rw [HK.out]; simp only [h0, h1, h2, h3, h4, h5, h6, h7, h8, h9, h10, h11, h12, h13, h14, h15, h16, h17, h18, h19, h20, h21, h22, h23, h24, h25, h26, h27, h28, h29, h30, h31, h32, h33, h34, h35, h36, h37, h38, h39, h40, h41, Bool.true_or, Bool.false_or])
                                             clear HK
                                             go_wp2
                                             go_ret
                                             exact ⟨rb HO.out.symm, rfl⟩
                                           | false =>
                                            cases h42 : (s.toList == [95, 83, 116, 97, 116, 105, 99, 95, 97, 115, 115, 101, 114, 116]) with
                                            | true =>
                                              have HO : Hid (B = true) := Lib.hid (by rw [HK.out]; simp only [h0, h1, h2, h3, h4, h5, h6, h7, h8, h9, h10, h11, h12, h13, h14, h15, h16, h17, h18, h19, h20, h21, h22, h23, h24, h25, h26, h27, h28, h29, h30, h31, h32, h33, h34, h35, h36, h37, h38, h39, h40, h41, h42, Bool.true_or, Bool.false_or])
                                              clear HK
                                              go_wp2
                                              go_ret
                                              exact ⟨rb HO.out.symm, rfl⟩
                                            | false =>
                                             cases h43 : (s.toList == [95, 84, 104, 114, 101, 97, 100, 95, 108, 111, 99, 97, 108]) with
                                             | true =>
                                               have HO : Hid (B = true) := Lib.hid (by rw [HK.out]; simp only [h0, h1, h2, h3, h4, h5, h6, h7, h8, h9, h10, h11, h12, h13, h14, h15, h16, h17, h18, h19, h20, h21, h22, h23, h24, h25, h26, h27, h28, h29, h30, h31, h32, h33, h34, h35, h36, h37, h38, h39, h40, h41, h42, h43, Bool.true_or, Bool.false_or])
                                               clear HK
                                               go_wp2
                                               go_ret
                                               exact ⟨rb HO.out.symm, rfl⟩
                                             | false =>
                                              have HO : Hid (B = false) := Lib.hid (by rw [HK.out]; simp only [h0, h1, h2, h3, h4, h5, h6, h7, h8, h9, h10, h11, h12, h13, h14, h15, h16, h17, h18, h19, h20, h21, h22, h23, h24, h25, h26, h27, h28, h29, h30, h31, h32, h33, h34, h35, h36, h37, h38, h39, h40, h41, h42, h43, Bool.false_or])
                                              clear HK
                                              go_wp2
                                              go_ret
                                              exact ⟨rb HO.out.symm, rfl⟩

end Go.Proofs.YtenmapahigbbeaaGreat

namespace Go.Proofs.YtenmapahigbbeaaGreat
open Go.RowKit Go.Shelf

theorem digits_sum {s : ByteArray} {b k : Nat} (hk : k ≤ s.size) : k + (digitsC b (s.data.toList.drop k)).length ≤ s.size := by
  have := digits_len b (s.data.toList.drop k)
  rw [List.length_drop, size_list] at this
  omega
/-- Float's answer, by the places where its parts end. -/
theorem float_at {s : ByteArray} {b k : Nat} (hb : baseF s.data.toList = (b, s.data.toList.drop k)) : floatC s.data.toList =
    if (s.data.toList.drop (k + (digitsC b (s.data.toList.drop k)).length)).head? = some 46 then
      (if (digitsC b (s.data.toList.drop k)).length = 0 ∧ (digitsC b (s.data.toList.drop (k + (digitsC b (s.data.toList.drop k)).length + 1))).length = 0 then false
        else tailF b true (s.data.toList.drop (k + (digitsC b (s.data.toList.drop k)).length + 1 + (digitsC b (s.data.toList.drop (k + (digitsC b (s.data.toList.drop k)).length + 1))).length)))
    else (if (digitsC b (s.data.toList.drop k)).length = 0 then false else tailF b false (s.data.toList.drop (k + (digitsC b (s.data.toList.drop k)).length))) := by
  unfold floatC
  rw [hb]
  simp only [List.length_eq_zero_iff]
  rw [rest_drop, List.drop_drop, List.tail_drop, rest_drop, List.drop_drop]
theorem head_46 {s : ByteArray} {k : Nat} (h : k < s.size) : ((s.data.toList.drop k).head? = some 46) ↔ ((s[k].toNat : Int) == 46) = true := by
  rw [data_drop s k h, List.head?_cons, Option.some.injEq]
  exact ⟨fun e => by rw [e]; rfl, fun e => byte_of (b := 46) e⟩

set_option maxRecDepth 100000 in
set_option maxHeartbeats 4000000 in
theorem rFloat_hex (s : ByteArray) (w : World) (hs : s.size ≤ maxLen) (hx : hexB s.data.toList = true) : Calls Tryz.prog 12 #[.string s] w fun e w' => e = .returned (.bool (floatC s.data.toList)) ∧ w = w' := by
  have CH := fun w => hex_any s w hs
  have hb := baseF_hex hx
  have hsz := (base_hex hx).2
  rw [size_list] at hsz
  have hat : 2 ≤ s.size := by omega
  have HF := float_at hb
  have h1 := digits_sum (b := 16) hat
  have CR := fun w => run_any s 2 16 w hs hat (by decide)
  generalize (digitsC 16 (s.data.toList.drop 2)).length = n at *
  rw [hx] at CH
  unfold tailF at HF
  simp only [if_true] at HF
  skip
  clear hb hx
  push_cast at CR
  have hs2 := hs
  unfold maxLen at hs2
  replace HF := Lib.hid HF
  generalize floatC s.data.toList = R at *
  by_cases h2 : 2 + n < s.size
  · have i1 : (2 : Int) + (n : Int) < (s.size : Int) := by omega
    have i2 : (0 : Int) ≤ (2 : Int) + (n : Int) := by omega
    have i3 : ((2 : Int) + (n : Int)).toNat = 2 + n := by omega
    cases h3 : ((s[2 + n].toNat : Int) == 46) with
    | true =>
      have HG := Lib.hid (HF.out.trans (if_pos ((head_46 h2).2 h3)))
      clear HF
      have h4 := digits_sum (b := 16) (s := s) (k := 2 + n + 1) (by omega)
      have CR2 := fun w => run_any s (2 + n + 1) 16 w hs (by omega) (by decide)
      generalize (digitsC 16 (s.data.toList.drop (2 + n + 1))).length = k at *
      have CE := fun w => rends_any s (2 + n + 1 + k) 112 80 false w hs (by omega)
      push_cast at CR2 CE
      by_cases h5 : n = 0 ∧ k = 0
      · have HO := Lib.hid (HG.out.trans (if_pos h5))
        have j1 : ((n : Int) + (k : Int) == 0) = true := by rw [beq_iff_eq]; omega
        clear HG h5
        go_enter Tryz.func12, Tryz.ntmps12
        go_wp2_with fail
        refine (CH _).mono ?_
        rintro e w' ⟨rfl, rfl⟩
        go_wp2_with fail
        refine (CR _).mono ?_
        rintro e w' ⟨rfl, rfl⟩
        go_wp2_with fail
        refine (CR2 _).mono ?_
        rintro e w' ⟨rfl, rfl⟩
        go_wp2
        go_ret
        exact ⟨rb HO.out.symm, rfl⟩
      · have HO := Lib.hid (HG.out.trans (if_neg h5))
        have j1 : ((n : Int) + (k : Int) == 0) = false := by rw [beq_eq_false_iff_ne]; omega
        clear HG h5
        go_enter Tryz.func12, Tryz.ntmps12
        go_wp2_with fail
        refine (CH _).mono ?_
        rintro e w' ⟨rfl, rfl⟩
        go_wp2_with fail
        refine (CR _).mono ?_
        rintro e w' ⟨rfl, rfl⟩
        go_wp2_with fail
        refine (CR2 _).mono ?_
        rintro e w' ⟨rfl, rfl⟩
        go_wp2_with fail
        refine (CE _).mono ?_
        rintro e w' ⟨rfl, rfl⟩
        go_wp2
        go_ret
        exact ⟨rb HO.out.symm, rfl⟩
    | false =>
      have HG := Lib.hid (HF.out.trans (if_neg (fun e => by rw [(head_46 h2).1 e] at h3; cases h3)))
      clear HF
      have CE := fun w => rends_any s (2 + n) 112 80 false w hs (by omega)
      push_cast at CE
      by_cases h5 : n = 0
      · have HO := Lib.hid (HG.out.trans (if_pos h5))
        have j1 : ((n : Int) == 0) = true := by rw [beq_iff_eq]; omega
        clear HG h5
        go_enter Tryz.func12, Tryz.ntmps12
        go_wp2_with fail
        refine (CH _).mono ?_
        rintro e w' ⟨rfl, rfl⟩
        go_wp2_with fail
        refine (CR _).mono ?_
        rintro e w' ⟨rfl, rfl⟩
        go_wp2
        go_ret
        exact ⟨rb HO.out.symm, rfl⟩
      · have HO := Lib.hid (HG.out.trans (if_neg h5))
        have j1 : ((n : Int) == 0) = false := by rw [beq_eq_false_iff_ne]; omega
        clear HG h5
        go_enter Tryz.func12, Tryz.ntmps12
        go_wp2_with fail
        refine (CH _).mono ?_
        rintro e w' ⟨rfl, rfl⟩
        go_wp2_with fail
        refine (CR _).mono ?_
        rintro e w' ⟨rfl, rfl⟩
        go_wp2_with fail
        refine (CE _).mono ?_
        rintro e w' ⟨rfl, rfl⟩
        go_wp2
        go_ret
        exact ⟨rb HO.out.symm, rfl⟩
  · have i1 : ¬ (2 : Int) + (n : Int) < (s.size : Int) := by omega
    have HG := Lib.hid (HF.out.trans (if_neg (fun e => by rw [List.drop_eq_nil_of_le (by rw [size_list]; omega)] at e; cases e)))
    clear HF
    have CE := fun w => rends_any s (2 + n) 112 80 false w hs (by omega)
    push_cast at CE
    by_cases h5 : n = 0
    · have HO := Lib.hid (HG.out.trans (if_pos h5))
      have j1 : ((n : Int) == 0) = true := by rw [beq_iff_eq]; omega
      clear HG h5
      go_enter Tryz.func12, Tryz.ntmps12
      go_wp2_with fail
      refine (CH _).mono ?_
      rintro e w' ⟨rfl, rfl⟩
      go_wp2_with fail
      refine (CR _).mono ?_
      rintro e w' ⟨rfl, rfl⟩
      go_wp2
      go_ret
      exact ⟨rb HO.out.symm, rfl⟩
    · have HO := Lib.hid (HG.out.trans (if_neg h5))
      have j1 : ((n : Int) == 0) = false := by rw [beq_eq_false_iff_ne]; omega
      clear HG h5
      go_enter Tryz.func12, Tryz.ntmps12
      go_wp2_with fail
      refine (CH _).mono ?_
      rintro e w' ⟨rfl, rfl⟩
      go_wp2_with fail
      refine (CR _).mono ?_
      rintro e w' ⟨rfl, rfl⟩
      go_wp2_with fail
      refine (CE _).mono ?_
      rintro e w' ⟨rfl, rfl⟩
      go_wp2
      go_ret
      exact ⟨rb HO.out.symm, rfl⟩

set_option maxRecDepth 100000 in
set_option maxHeartbeats 4000000 in
theorem rFloat_ten (s : ByteArray) (w : World) (hs : s.size ≤ maxLen) (hx : hexB s.data.toList = false) : Calls Tryz.prog 12 #[.string s] w fun e w' => e = .returned (.bool (floatC s.data.toList)) ∧ w = w' := by
  have CH := fun w => hex_any s w hs
  have hb : baseF s.data.toList = (10, s.data.toList.drop 0) := baseF_no hx
  have hat : 0 ≤ s.size := by omega
  have HF := float_at hb
  have h1 := digits_sum (b := 10) hat
  have CR := fun w => run_any s 0 10 w hs hat (by decide)
  generalize (digitsC 10 (s.data.toList.drop 0)).length = n at *
  rw [hx] at CH
  unfold tailF at HF
  simp only [show ¬ ((10 : Nat) = 16) by decide, if_false] at HF
  simp only [Nat.zero_add] at HF h1
  clear hb hx
  push_cast at CR
  have hs2 := hs
  unfold maxLen at hs2
  replace HF := Lib.hid HF
  generalize floatC s.data.toList = R at *
  by_cases h2 : n < s.size
  · have i1 : (0 : Int) + (n : Int) < (s.size : Int) := by omega
    have i2 : (0 : Int) ≤ (0 : Int) + (n : Int) := by omega
    have i3 : ((0 : Int) + (n : Int)).toNat = n := by omega
    cases h3 : ((s[n].toNat : Int) == 46) with
    | true =>
      have HG := Lib.hid (HF.out.trans (if_pos ((head_46 h2).2 h3)))
      clear HF
      have h4 := digits_sum (b := 10) (s := s) (k := n + 1) (by omega)
      have CR2 := fun w => run_any s (n + 1) 10 w hs (by omega) (by decide)
      generalize (digitsC 10 (s.data.toList.drop (n + 1))).length = k at *
      have CE := fun w => rends_any s (n + 1 + k) 101 69 true w hs (by omega)
      push_cast at CR2 CE
      by_cases h5 : n = 0 ∧ k = 0
      · have HO := Lib.hid (HG.out.trans (if_pos h5))
        have j1 : ((n : Int) + (k : Int) == 0) = true := by rw [beq_iff_eq]; omega
        clear HG h5
        go_enter Tryz.func12, Tryz.ntmps12
        go_wp2_with fail
        refine (CH _).mono ?_
        rintro e w' ⟨rfl, rfl⟩
        go_wp2_with fail
        refine (CR _).mono ?_
        rintro e w' ⟨rfl, rfl⟩
        go_wp2_with fail
        refine (CR2 _).mono ?_
        rintro e w' ⟨rfl, rfl⟩
        go_wp2
        go_ret
        exact ⟨rb HO.out.symm, rfl⟩
      · have HO := Lib.hid (HG.out.trans (if_neg h5))
        have j1 : ((n : Int) + (k : Int) == 0) = false := by rw [beq_eq_false_iff_ne]; omega
        clear HG h5
        go_enter Tryz.func12, Tryz.ntmps12
        go_wp2_with fail
        refine (CH _).mono ?_
        rintro e w' ⟨rfl, rfl⟩
        go_wp2_with fail
        refine (CR _).mono ?_
        rintro e w' ⟨rfl, rfl⟩
        go_wp2_with fail
        refine (CR2 _).mono ?_
        rintro e w' ⟨rfl, rfl⟩
        go_wp2_with fail
        refine (CE _).mono ?_
        rintro e w' ⟨rfl, rfl⟩
        go_wp2
        go_ret
        exact ⟨rb HO.out.symm, rfl⟩
    | false =>
      have HG := Lib.hid (HF.out.trans (if_neg (fun e => by rw [(head_46 h2).1 e] at h3; cases h3)))
      clear HF
      have CE := fun w => rends_any s (n) 101 69 false w hs (by omega)
      push_cast at CE
      by_cases h5 : n = 0
      · have HO := Lib.hid (HG.out.trans (if_pos h5))
        have j1 : ((n : Int) == 0) = true := by rw [beq_iff_eq]; omega
        clear HG h5
        go_enter Tryz.func12, Tryz.ntmps12
        go_wp2_with fail
        refine (CH _).mono ?_
        rintro e w' ⟨rfl, rfl⟩
        go_wp2_with fail
        refine (CR _).mono ?_
        rintro e w' ⟨rfl, rfl⟩
        go_wp2
        go_ret
        exact ⟨rb HO.out.symm, rfl⟩
      · have HO := Lib.hid (HG.out.trans (if_neg h5))
        have j1 : ((n : Int) == 0) = false := by rw [beq_eq_false_iff_ne]; omega
        clear HG h5
        go_enter Tryz.func12, Tryz.ntmps12
        go_wp2_with fail
        refine (CH _).mono ?_
        rintro e w' ⟨rfl, rfl⟩
        go_wp2_with fail
        refine (CR _).mono ?_
        rintro e w' ⟨rfl, rfl⟩
        go_wp2_with fail
        refine (CE _).mono ?_
        rintro e w' ⟨rfl, rfl⟩
        go_wp2
        go_ret
        exact ⟨rb HO.out.symm, rfl⟩
  · have i1 : ¬ (0 : Int) + (n : Int) < (s.size : Int) := by omega
    have HG := Lib.hid (HF.out.trans (if_neg (fun e => by rw [List.drop_eq_nil_of_le (by rw [size_list]; omega)] at e; cases e)))
    clear HF
    have CE := fun w => rends_any s (n) 101 69 false w hs (by omega)
    push_cast at CE
    by_cases h5 : n = 0
    · have HO := Lib.hid (HG.out.trans (if_pos h5))
      have j1 : ((n : Int) == 0) = true := by rw [beq_iff_eq]; omega
      clear HG h5
      go_enter Tryz.func12, Tryz.ntmps12
      go_wp2_with fail
      refine (CH _).mono ?_
      rintro e w' ⟨rfl, rfl⟩
      go_wp2_with fail
      refine (CR _).mono ?_
      rintro e w' ⟨rfl, rfl⟩
      go_wp2
      go_ret
      exact ⟨rb HO.out.symm, rfl⟩
    · have HO := Lib.hid (HG.out.trans (if_neg h5))
      have j1 : ((n : Int) == 0) = false := by rw [beq_eq_false_iff_ne]; omega
      clear HG h5
      go_enter Tryz.func12, Tryz.ntmps12
      go_wp2_with fail
      refine (CH _).mono ?_
      rintro e w' ⟨rfl, rfl⟩
      go_wp2_with fail
      refine (CR _).mono ?_
      rintro e w' ⟨rfl, rfl⟩
      go_wp2_with fail
      refine (CE _).mono ?_
      rintro e w' ⟨rfl, rfl⟩
      go_wp2
      go_ret
      exact ⟨rb HO.out.symm, rfl⟩

theorem rFloat_any (s : ByteArray) (w : World) (hs : s.size ≤ maxLen) : Calls Tryz.prog 12 #[.string s] w fun e w' => e = .returned (.bool (floatC s.data.toList)) ∧ w = w' := by
  cases hx : hexB s.data.toList with
  | true => exact rFloat_hex s w hs hx
  | false => exact rFloat_ten s w hs hx

end Go.Proofs.YtenmapahigbbeaaGreat

namespace Go.Proofs.YtenmapahigbbeaaGreat
open Go.RowKit

set_option maxRecDepth 10000 in
def kAll : List UInt8 := [32, 97, 117, 116, 111, 32, 98, 114, 101, 97, 107, 32, 99, 97, 115, 101, 32, 99, 104, 97, 114, 32, 99, 111, 110, 115, 116, 32, 99, 111, 110, 116, 105, 110, 117, 101, 32, 100, 101, 102, 97, 117, 108, 116, 32, 100, 111, 32, 100, 111, 117, 98, 108, 101, 32, 101, 108, 115, 101, 32, 101, 110, 117, 109, 32, 101, 120, 116, 101, 114, 110, 32, 102, 108, 111, 97, 116, 32, 102, 111, 114, 32, 103, 111, 116, 111, 32, 105, 102, 32, 105, 110, 108, 105, 110, 101, 32, 105, 110, 116, 32, 108, 111, 110, 103, 32, 114, 101, 103, 105, 115, 116, 101, 114, 32, 114, 101, 115, 116, 114, 105, 99, 116, 32, 114, 101, 116, 117, 114, 110, 32, 115, 104, 111, 114, 116, 32, 115, 105, 103, 110, 101, 100, 32, 115, 105, 122, 101, 111, 102, 32, 115, 116, 97, 116, 105, 99, 32, 115, 116, 114, 117, 99, 116, 32, 115, 119, 105, 116, 99, 104, 32, 116, 121, 112, 101, 100, 101, 102, 32, 117, 110, 105, 111, 110, 32, 117, 110, 115, 105, 103, 110, 101, 100, 32, 118, 111, 105, 100, 32, 118, 111, 108, 97, 116, 105, 108, 101, 32, 119, 104, 105, 108, 101, 32, 95, 65, 108, 105, 103, 110, 97, 115, 32, 95, 65, 108, 105, 103, 110, 111, 102, 32, 95, 65, 116, 111, 109, 105, 99, 32, 95, 66, 111, 111, 108, 32, 95, 67, 111, 109, 112, 108, 101, 120, 32, 95, 71, 101, 110, 101, 114, 105, 99, 32, 95, 73, 109, 97, 103, 105, 110, 97, 114, 121, 32, 95, 78, 111, 114, 101, 116, 117, 114, 110, 32, 95, 83, 116, 97, 116, 105, 99, 95, 97, 115, 115, 101, 114, 116, 32, 95, 84, 104, 114, 101, 97, 100, 95, 108, 111, 99, 97, 108, 32]
theorem kAll_len : kAll.length = 315 := by decide +kernel
theorem k_has : ∀ x ∈ kwL, ∃ i, i + (wOf x).length ≤ 315 ∧ (kAll.drop i).take (wOf x).length = wOf x := by
  have : ∀ x ∈ kwL, ((List.range 315).any fun i => decide (i + (wOf x).length ≤ 315) && (kAll.drop i).take (wOf x).length == wOf x) = true := by decide +kernel
  intro x hx
  obtain ⟨i, _, h⟩ := List.any_eq_true.1 (this x hx)
  rw [Bool.and_eq_true, decide_eq_true_eq, beq_iff_eq] at h
  exact ⟨i, h⟩
theorem k_only : ∀ i < 315, (kAll.drop (i + 1)).takeWhile (fun c => c != 32) ≠ [] → (kAll.drop i).head? = some 32 → kwB ((kAll.drop (i + 1)).takeWhile (fun c => c != 32)) = true := by decide +kernel
theorem k_stop : ∀ x ∈ kwL, 32 ∉ x ∧ x ≠ [] := by decide +kernel
theorem take_blank : ∀ (x l : List UInt8) (n : Nat), 32 ∉ x → l.take n = x ++ [32] → l.takeWhile (fun c => c != 32) = x
  | [], l, n, _, h => by
    cases l with
    | nil => simp at h
    | cons c l =>
      cases n with
      | zero => simp at h
      | succ n =>
        simp at h
        rw [List.takeWhile_cons, h.1]; rfl
  | y :: x, l, n, hx, h => by
    cases l with
    | nil => simp at h
    | cons c l =>
      cases n with
      | zero => simp at h
      | succ n =>
        simp at h hx
        rw [List.takeWhile_cons, h.1]
        have hy : (y != 32) = true := by
          rw [bne_iff_ne]
          exact fun e => hx.1 e.symm
        rw [hy, if_pos rfl, take_blank x l n hx.2 h.2]
theorem k_found {i : Nat} {x : List UInt8} (hi : i < 315) (hx : 32 ∉ x) (hne : x ≠ []) (h : (kAll.drop i).take (wOf x).length = wOf x) : kwB x = true := by
  have h0 : kAll.drop i = (kAll[i]'(by rw [kAll_len]; exact hi)) :: kAll.drop (i + 1) := List.drop_eq_getElem_cons _
  have h1 := h
  rw [h0] at h1
  unfold wOf at h1
  rw [List.length_cons, List.take_succ_cons, List.cons.injEq] at h1
  have h2 := take_blank x (kAll.drop (i + 1)) _ hx h1.2
  have h3 := k_only i hi (by rw [h2]; exact hne) (by rw [h0]; exact congrArg some h1.1)
  rw [h2] at h3
  exact h3

set_option maxRecDepth 100000 in
set_option maxHeartbeats 4000000 in
theorem rKeyword_any (s : ByteArray) (w : World) (hs : s.size ≤ 1000) :
    Calls Tryz.prog 8 #[.string s] w fun e w' => e = .returned (.bool (kwB s.data.toList)) ∧ w = w' := by
  obtain ⟨W, hW⟩ : ∃ W, wB s = W := ⟨_, rfl⟩
  have hWs : W.size = s.size + 2 := by rw [← hW, wB_size]
  have HW := Lib.hid hW
  unfold wB at hW
  go_enter Tryz.func8, Tryz.ntmps8
  go_wp2
  go_loop [4] (fun i => ∃ k : Nat, k ≤ s.size ∧ i = .int .i64 k ∧ s.data.toList.contains 32 = (s.data.toList.drop k).contains 32) (fun i => s.size - (intOf i).toNat)
  case atStart => exact ⟨0, Nat.zero_le _, rfl, rfl⟩
  case round =>
    obtain ⟨k, hk, rfl, he⟩ := hrel
    have HE := Lib.hid he; clear he
    by_cases hlt : k < s.size
    · by_cases h32 : s[k] = 32
      · have HN : Hid (kwB s.data.toList = false) := Lib.hid (by
          cases hp : kwB s.data.toList with
          | false => rfl
          | true =>
            have h5 := HE.out
            rw [has32_step hlt, h32] at h5
            have h6 : s.data.toList.contains 32 = true := by rw [h5]; rfl
            exact absurd (List.contains_iff_mem.1 h6) (k_stop _ (List.contains_iff_mem.1 hp)).1)
        have b2 : ((s[k].toNat : Int) == 32) = true := by rw [h32]; rfl
        clear h32 HE hW
        go_wp2
        go_ret
        exact ⟨rb (by rw [HN.out]), rfl⟩
      · have HN := Lib.hid (HE.out.trans (by rw [has32_step hlt, show (s[k] == 32) = false by simpa using h32, Bool.false_or]))
        have b2 : ((s[k].toNat : Int) == 32) = false := beq_eq_false_iff_ne.2 (fun h => h32 (u8_int.2 h))
        clear h32 HE hW
        go_wp2
        go_round
        case rel => exact ⟨k + 1, by omega, by go_num, HN.out⟩
        case measure => simp [intOf]; omega
    · have HC : Hid (s.data.toList.contains 32 = false) := Lib.hid (by rw [HE.out, List.drop_eq_nil_of_le (by rw [size_list]; omega)]; rfl)
      have HWL : Hid (W.data.toList = wOf s.data.toList) := Lib.hid (by rw [← HW.out, wB_list])
      have HS := Lib.hid hWs
      have hs3 : W.size ≤ 1002 := by omega
      clear HE hW hWs
      go_wp2
      go_loop [5] (fun i => ∃ k : Nat, k ≤ 315 ∧ i = .int .i64 k ∧ Hid (∀ i < k, (kAll.drop i).take W.size ≠ wOf s.data.toList)) (fun i => 315 - (intOf i).toNat)
      case atStart => exact ⟨0, Nat.zero_le _, rfl, Lib.hid (fun i h => by omega)⟩
      case round =>
        obtain ⟨k, hk, rfl, HE⟩ := hrel
        by_cases h0 : 0 < s.size
        · have b0 : (0 : Int) < (s.size : Int) := by omega
          by_cases hlt : k + W.size ≤ 315
          · have b3 : (k : Int) + (W.size : Int) ≤ 315 := by omega
            have b4 : ((k : Int) + (W.size : Int)).toNat = k + W.size := by omega
            have b5 : (k : Int) ≤ (k : Int) + (W.size : Int) := by omega
            have b6 : (0 : Int) ≤ (k : Int) + (W.size : Int) := by omega
            go_wp2
            all_goals
              rename (_ == W.toList) = _ => hm
              rw [ByteArray.toList_eq, ByteArray.toList_eq, ex_list] at hm
              first
                | (replace hm : ((kAll.drop k).take (k + W.size - k) == W.data.toList) = true := hm
                   rw [show k + W.size - k = W.size by omega] at hm
                   have HN : Hid (kwB s.data.toList = true) := Lib.hid (by
                     rw [HWL.out] at hm
                     have h7 := eq_of_beq hm
                     refine k_found (i := k) (by have := HS.out; omega) ?_ (fun e => by have := size_list s; rw [e] at this; simp at this; omega) (by rw [wOf_len, size_list, ← HS.out]; exact h7)
                     intro hc
                     have := HC.out
                     rw [List.contains_iff_mem.2 hc] at this
                     cases this)
                   clear HE hm
                   go_ret
                   exact ⟨rb (by rw [HN.out]), rfl⟩)
                | (replace hm : ((kAll.drop k).take (k + W.size - k) == W.data.toList) = false := hm
                   rw [show k + W.size - k = W.size by omega] at hm
                   have HN : Hid (∀ i < k + 1, (kAll.drop i).take W.size ≠ wOf s.data.toList) := Lib.hid (fun i hi h => by
                     by_cases e : i = k
                     · subst e
                       rw [HWL.out, h] at hm
                       simp at hm
                     · exact HE.out i (by omega) h)
                   clear HE hm
                   go_round
                   case rel => exact ⟨k + 1, by have := HS.out; omega, by go_num, HN⟩
                   case measure => simp [intOf]; have := HS.out; omega)
          · have b3 : ¬ (k : Int) + (W.size : Int) ≤ 315 := by omega
            have HN : Hid (kwB s.data.toList = false) := Lib.hid (by
              cases hp : kwB s.data.toList with
              | false => rfl
              | true =>
                obtain ⟨i, h8, h9⟩ := k_has _ (List.contains_iff_mem.1 hp)
                rw [wOf_len, size_list, ← HS.out] at h8 h9
                exact absurd h9 (HE.out i (by omega)))
            clear HE
            go_wp2
            go_ret
            exact ⟨rb (by rw [HN.out]), rfl⟩
        · have b0 : ¬ (0 : Int) < (s.size : Int) := by omega
          have HN : Hid (kwB s.data.toList = false) := Lib.hid (by
            rw [List.length_eq_zero_iff.1 (show s.data.toList.length = 0 by rw [size_list]; omega)]; decide)
          have b9 : (k : Int) + (W.size : Int) ≤ 315 ∨ ¬ (k : Int) + (W.size : Int) ≤ 315 := Decidable.em _
          clear HE
          rcases b9 with b3 | b3
          all_goals
            go_wp2
            go_ret
            exact ⟨rb (by rw [HN.out]), rfl⟩

end Go.Proofs.YtenmapahigbbeaaGreat
