/- ctok.Float. -/
import Derived.Test.YtenmapahigbbeaaCtK
namespace Go.Proofs.Ytenmapahigbbeaa
open Go.RowKit Go.Shelf

theorem baseF_hex {l : List UInt8} (h : hexB l = true) : baseF l = (16, l.drop 2) := by
  unfold baseF
  rw [(base_hex h).1]; rfl
theorem baseF_no {l : List UInt8} (h : hexB l = false) : baseF l = (10, l) := by
  unfold baseF
  cases h2 : [48].isPrefixOf l with
  | true => rw [base_eight h h2, if_neg (show ¬ (8, l).1 = 16 by simp)]
  | false => rw [base_else h2, if_neg (show ¬ (10, l).1 = 16 by simp)]
theorem fC_tests (d : ByteArray) : fC d.data.toList = (d.toList.isEmpty || (d.toList == [102]) || (d.toList == [70]) || (d.toList == [108]) || (d.toList == [76])) := by
  rw [ByteArray.toList_eq]
  unfold fC
  congr 4
  cases d.data.toList <;> rfl
theorem two_ways {p : Bool} {q : Prop} (h : p = true) (h2 : p = false) : q := absurd (h.symm.trans h2) (by decide)

set_option maxRecDepth 100000 in
set_option maxHeartbeats 4000000 in
theorem Float_hex (s : ByteArray) (w : World) (hs : s.size ≤ maxLen) (hx : hexB s.data.toList = true) :
    Calls Try.prog 17 #[.string s] w fun e w' => e = .returned (.bool (floatC s.data.toList)) ∧ Below w.heap.size w w' := by
  have C1 := fun w => cutHex_any s w hs
  rw [hx, if_pos rfl] at C1
  obtain ⟨r, hr⟩ : ∃ r, s.extract 2 s.size = r := ⟨_, rfl⟩
  have hrl : r.data.toList = s.data.toList.drop 2 := by rw [← hr]; exact extract_end s 2
  have hrs : r.size ≤ maxLen := by rw [← hr, ByteArray.size_extract]; unfold maxLen at *; omega
  rw [hr] at C1
  have C2 := fun w => cutMantissa_any r 16 w hrs (by decide) (by decide)
  have HF : Hid (floatC s.data.toList = floP 16 (manC 16 r.data.toList)) := Lib.hid (by rw [float_parts, baseF_hex hx, hrl])
  clear hr hrl
  obtain ⟨M, hM⟩ : ∃ M, manC 16 r.data.toList = M := ⟨_, rfl⟩
  rw [hM] at HF
  simp only [hM] at C2
  clear hM hx
  obtain ⟨m1, mp, mi⟩ := M
  simp only at C2
  generalize floatC s.data.toList = R at *
  cases mi with
  | false =>
    have HO : Hid (R = false) := Lib.hid (by rw [HF.out]; rfl)
    clear HF
    go_enter Try.func17, Try.ntmps17
    go_wp2_with (go_at_call 36; refine (C1 _).mono ?_; rintro e w' ⟨rfl, rfl⟩)
    refine (C2 _).mono ?_
    rintro e w1 ⟨⟨d, rfl, hd, hds⟩, hb1⟩
    go_wp2
    go_ret
    exact ⟨rb HO.out.symm, hb1⟩
  | true =>
    have HO : Hid (R = floP 16 (m1, mp, true)) := Lib.hid HF.out
    clear HF
    go_enter Try.func17, Try.ntmps17
    go_wp2_with (go_at_call 36; refine (C1 _).mono ?_; rintro e w' ⟨rfl, rfl⟩)
    refine (C2 _).mono ?_
    rintro e w1 ⟨⟨d, rfl, hd, hds⟩, hb1⟩
    have hdm : d.size ≤ maxLen := Nat.le_trans hds hrs
    have C3 := fun w => cutExponent_any d 112 80 w hdm
    rw [hd] at C3
    obtain ⟨X, hX⟩ : ∃ X, expC 112 80 m1 = X := ⟨_, rfl⟩
    have HX : Hid (R = if X.2 = false then false else fC X.1) := Lib.hid (by rw [HO.out, ← hX]; unfold floP; rw [if_neg (show ¬ (true = false) by decide), if_pos rfl])
    simp only [hX] at C3
    clear hX HO C1 C2 hd hds hdm
    obtain ⟨x1, x2⟩ := X
    simp only at C3
    go_wp2_with fail
    refine (C3 _).mono ?_
    rintro e w2 ⟨⟨z, rfl, hz⟩, hb2⟩
    have HZ : Hid (R = if x2 = false then false else (z.toList.isEmpty || (z.toList == [102]) || (z.toList == [70]) || (z.toList == [108]) || (z.toList == [76]))) := Lib.hid (by rw [HX.out, ← hz, fC_tests])
    clear hz HX C3
    have hB := hb1.trans (hb2.mono hb1.size)
    cases x2
    all_goals
      go_wp2
      all_goals first
        | exact two_ways (show z.toList.isEmpty = true by assumption) (by assumption)
        | exact two_ways (show (z.toList == [102]) = true by assumption) (by assumption)
        | exact two_ways (show (z.toList == [70]) = true by assumption) (by assumption)
        | exact two_ways (show (z.toList == [108]) = true by assumption) (by assumption)
        | exact two_ways (show (z.toList == [76]) = true by assumption) (by assumption)
        | (go_ret
           refine ⟨rb ?_, hB⟩
           rw [HZ.out]
           simp [*]
           done)

set_option maxRecDepth 100000 in
set_option maxHeartbeats 4000000 in
theorem Float_dec (s : ByteArray) (w : World) (hs : s.size ≤ maxLen) (hx : hexB s.data.toList = false) :
    Calls Try.prog 17 #[.string s] w fun e w' => e = .returned (.bool (floatC s.data.toList)) ∧ Below w.heap.size w w' := by
  have C1 := fun w => cutHex_any s w hs
  rw [hx, if_neg (by decide)] at C1
  have C2 := fun w => cutMantissa_any s 10 w hs (by decide) (by decide)
  have HF : Hid (floatC s.data.toList = floP 10 (manC 10 s.data.toList)) := Lib.hid (by rw [float_parts, baseF_no hx])
  
  obtain ⟨M, hM⟩ : ∃ M, manC 10 s.data.toList = M := ⟨_, rfl⟩
  rw [hM] at HF
  simp only [hM] at C2
  clear hM hx
  obtain ⟨m1, mp, mi⟩ := M
  simp only at C2
  generalize floatC s.data.toList = R at *
  cases mi with
  | false =>
    have HO : Hid (R = false) := Lib.hid (by rw [HF.out]; rfl)
    clear HF
    go_enter Try.func17, Try.ntmps17
    go_wp2_with (go_at_call 36; refine (C1 _).mono ?_; rintro e w' ⟨rfl, rfl⟩)
    refine (C2 _).mono ?_
    rintro e w1 ⟨⟨d, rfl, hd, hds⟩, hb1⟩
    go_wp2
    go_ret
    exact ⟨rb HO.out.symm, hb1⟩
  | true =>
    have HO : Hid (R = floP 10 (m1, mp, true)) := Lib.hid HF.out
    clear HF
    go_enter Try.func17, Try.ntmps17
    go_wp2_with (go_at_call 36; refine (C1 _).mono ?_; rintro e w' ⟨rfl, rfl⟩)
    refine (C2 _).mono ?_
    rintro e w1 ⟨⟨d, rfl, hd, hds⟩, hb1⟩
    have hdm : d.size ≤ maxLen := Nat.le_trans hds hs
    have C3 := fun w => cutExponent_any d 101 69 w hdm
    rw [hd] at C3
    obtain ⟨X, hX⟩ : ∃ X, expC 101 69 m1 = X := ⟨_, rfl⟩
    have HX : Hid (R = if (X.2 = false ∧ mp = false) then false else fC X.1) := Lib.hid (by rw [HO.out, ← hX]; unfold floP; rw [if_neg (show ¬ (true = false) by decide), if_neg (show ¬ (10 = 16) by decide)])
    simp only [hX] at C3
    clear hX HO C1 C2 hd hds hdm
    obtain ⟨x1, x2⟩ := X
    simp only at C3
    go_wp2_with fail
    refine (C3 _).mono ?_
    rintro e w2 ⟨⟨z, rfl, hz⟩, hb2⟩
    have HZ : Hid (R = if (x2 = false ∧ mp = false) then false else (z.toList.isEmpty || (z.toList == [102]) || (z.toList == [70]) || (z.toList == [108]) || (z.toList == [76]))) := Lib.hid (by rw [HX.out, ← hz, fC_tests])
    clear hz HX C3
    have hB := hb1.trans (hb2.mono hb1.size)
    cases x2 <;> cases mp
    all_goals
      go_wp2
      all_goals first
        | exact two_ways (show z.toList.isEmpty = true by assumption) (by assumption)
        | exact two_ways (show (z.toList == [102]) = true by assumption) (by assumption)
        | exact two_ways (show (z.toList == [70]) = true by assumption) (by assumption)
        | exact two_ways (show (z.toList == [108]) = true by assumption) (by assumption)
        | exact two_ways (show (z.toList == [76]) = true by assumption) (by assumption)
        | (go_ret
           refine ⟨rb ?_, hB⟩
           rw [HZ.out]
           simp [*]
           done)

theorem Float_any (s : ByteArray) (w : World) (hs : s.size ≤ maxLen) :
    Calls Try.prog 17 #[.string s] w fun e w' => e = .returned (.bool (floatC s.data.toList)) ∧ Below w.heap.size w w' := by
  cases hx : hexB s.data.toList with
  | true => exact Float_hex s w hs hx
  | false => exact Float_dec s w hs hx

end Go.Proofs.Ytenmapahigbbeaa
