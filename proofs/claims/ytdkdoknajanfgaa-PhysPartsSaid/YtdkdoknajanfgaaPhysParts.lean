/- The law PhysParts: for every input the call returns true, and each argument reads behind it as it read before. No condition. -/
import Derived.Test.YtdkdoknajanfgaaRows
import Derived.WalkKit
import Derived.Test.YtdkdoknajanfgaaPartsMain
import Derived.ProofKit
import Derived.SizedLaws
import Derived.OpenShut
import Derived.ShutString
namespace Go.Proofs.Ytdkdoknajanfgaa.physParts
open Go.ChangeShapes Go.WideShapes Go.ChangeAt Go.RowKit
open Go.ChangeMaps (open_string shut_string)
set_option linter.unusedVariables false      -- a walk need not use every 'w<i>' (that an integer argument fits its kind)

theorem own : ownKnob Try.prog.godebug = none := by kernel_rfl

theorem chars_len (s : ByteArray) (hs : s.size ≤ maxLen) (n : Int) (h : checkN s.data.toList = n) (h0 : n ≠ 0) (w : World) :
    Calls Try.prog 10 #[.string s] w fun e w' => (∃ a cap, e = .returned (.tuple #[.slice a 0 cap, .int .i64 n])) ∧ Below w.heap.size w w' := by
  refine (chars_at s hs n h w).mono ?_
  rintro e w' ⟨⟨a, cap, rfl, _⟩, hb⟩
  rw [charsOf_bad (by rw [h]; exact h0)]
  exact ⟨⟨a, cap, rfl⟩, hb⟩
/-- Chars of a text: whatever it answers. -/
theorem chars_some (s : ByteArray) (hs : s.size ≤ maxLen) (w : World) :
    Calls Try.prog 10 #[.string s] w fun e w' => (∃ a n cap c, e = .returned (.tuple #[.slice a n cap, .int .i64 c])) ∧ Below w.heap.size w w' := by
  refine (chars_row s w hs).mono ?_
  rintro e w' ⟨⟨a, cap, rfl, _⟩, hb⟩
  exact ⟨⟨a, _, cap, _, rfl⟩, hb⟩
theorem cat_size (a b : ByteArray) (h : a.size ≤ 140737488355328) (h2 : b.size ≤ 140737488355328) : (a ++ b).size ≤ maxLen := by
  rw [ByteArray.size_append]; unfold maxLen; omega


set_option maxRecDepth 100000 in
set_option maxHeartbeats 2000000 in
theorem walk (a0 : ByteArray) (a1 : ByteArray) (w0 : a0.size ≤ maxLen) (z0 : a0.size ≤ 140737488355328) (w1 : a1.size ≤ maxLen) (z1 : a1.size ≤ 140737488355328) (w : World) :
    Calls Try.prog 8 #[.string a0, .string a1] w fun e w' => e = .returned (.bool true) ∧ Below w.heap.size w w' := by
  have w0' := w0
  have w1' := w1
  unfold maxLen at w0' w1'
  have hcat := cat_size a0 a1 z0 z1
  rcases check_cases a0.data.toList with ⟨h, hl⟩ | h | h
  · rw [size_list] at hl
    rcases check_cases a1.data.toList with ⟨h2, hl2⟩ | h2 | h2
    · rw [size_list] at hl2
      by_cases hs : a0.size + a1.size ≤ 65536
      · exact parts_main a0 a1 w0 w1 h h2 hs w
      · have HC := Lib.hid (chars_at a0 w0 0 h)
        have HD := Lib.hid (chars_at a1 w1 0 h2)
        have HE := Lib.hid (chars_some (a0 ++ a1) hcat)
        have hsum : (65536 : Int) < (a0.size : Int) + a1.size := by omega
        clear h h2 w0 w1 hcat hl hl2 hs
        go_enter Try.func8, Try.ntmps8
        go_wp2_with fail
        refine (alive_any _).mono ?_
        rintro e w1 ⟨rfl, hb1⟩
        go_wp2_with fail
        refine (HC.out _).mono ?_
        rintro e w2 ⟨⟨a2, cap2, rfl, hr2⟩, hb2⟩
        go_wp2_with fail
        refine (HD.out _).mono ?_
        rintro e w3 ⟨⟨a3, cap3, rfl, hr3⟩, hb3⟩
        go_wp2_with fail
        refine (HE.out _).mono ?_
        rintro e w4 ⟨⟨a4, n4, cap4, c4, rfl⟩, hb4⟩
        go_wp2
        go_ret
        have m1 := hb1.size
        have m2 := hb2.size
        have m3 := hb3.size
        exact ⟨rfl, (((hb1.trans (hb2.mono m1)).trans (hb3.mono (by omega))).trans (hb4.mono (by omega)))⟩
    · have HC := Lib.hid (chars_at a0 w0 0 h)
      have HD := Lib.hid (chars_len a1 w1 3 h2 (by decide))
      have HE := Lib.hid (chars_some (a0 ++ a1) hcat)
      clear h h2 w0 w1 hcat hl
      go_enter Try.func8, Try.ntmps8
      go_wp2_with fail
      refine (alive_any _).mono ?_
      rintro e w1 ⟨rfl, hb1⟩
      go_wp2_with fail
      refine (HC.out _).mono ?_
      rintro e w2 ⟨⟨a2, cap2, rfl, hr2⟩, hb2⟩
      go_wp2_with fail
      refine (HD.out _).mono ?_
      rintro e w3 ⟨⟨a3, cap3, rfl⟩, hb3⟩
      go_wp2_with fail
      refine (HE.out _).mono ?_
      rintro e w4 ⟨⟨a4, n4, cap4, c4, rfl⟩, hb4⟩
      go_wp2
      go_ret
      have m1 := hb1.size
      have m2 := hb2.size
      have m3 := hb3.size
      exact ⟨rfl, (((hb1.trans (hb2.mono m1)).trans (hb3.mono (by omega))).trans (hb4.mono (by omega)))⟩
    · have HC := Lib.hid (chars_at a0 w0 0 h)
      have HD := Lib.hid (chars_len a1 w1 10 h2 (by decide))
      have HE := Lib.hid (chars_some (a0 ++ a1) hcat)
      clear h h2 w0 w1 hcat hl
      go_enter Try.func8, Try.ntmps8
      go_wp2_with fail
      refine (alive_any _).mono ?_
      rintro e w1 ⟨rfl, hb1⟩
      go_wp2_with fail
      refine (HC.out _).mono ?_
      rintro e w2 ⟨⟨a2, cap2, rfl, hr2⟩, hb2⟩
      go_wp2_with fail
      refine (HD.out _).mono ?_
      rintro e w3 ⟨⟨a3, cap3, rfl⟩, hb3⟩
      go_wp2_with fail
      refine (HE.out _).mono ?_
      rintro e w4 ⟨⟨a4, n4, cap4, c4, rfl⟩, hb4⟩
      go_wp2
      go_ret
      have m1 := hb1.size
      have m2 := hb2.size
      have m3 := hb3.size
      exact ⟨rfl, (((hb1.trans (hb2.mono m1)).trans (hb3.mono (by omega))).trans (hb4.mono (by omega)))⟩
  · have HC := Lib.hid (chars_len a0 w0 3 h (by decide))
    have HD := Lib.hid (chars_some a1 w1)
    have HE := Lib.hid (chars_some (a0 ++ a1) hcat)
    clear h w0 w1 hcat
    go_enter Try.func8, Try.ntmps8
    go_wp2_with fail
    refine (alive_any _).mono ?_
    rintro e w1 ⟨rfl, hb1⟩
    go_wp2_with fail
    refine (HC.out _).mono ?_
    rintro e w2 ⟨⟨a2, cap2, rfl⟩, hb2⟩
    go_wp2_with fail
    refine (HD.out _).mono ?_
    rintro e w3 ⟨⟨a3, n3, cap3, c3, rfl⟩, hb3⟩
    go_wp2_with fail
    refine (HE.out _).mono ?_
    rintro e w4 ⟨⟨a4, n4, cap4, c4, rfl⟩, hb4⟩
    go_wp2
    go_ret
    have m1 := hb1.size
    have m2 := hb2.size
    have m3 := hb3.size
    exact ⟨rfl, (((hb1.trans (hb2.mono m1)).trans (hb3.mono (by omega))).trans (hb4.mono (by omega)))⟩
  · have HC := Lib.hid (chars_len a0 w0 10 h (by decide))
    have HD := Lib.hid (chars_some a1 w1)
    have HE := Lib.hid (chars_some (a0 ++ a1) hcat)
    clear h w0 w1 hcat
    go_enter Try.func8, Try.ntmps8
    go_wp2_with fail
    refine (alive_any _).mono ?_
    rintro e w1 ⟨rfl, hb1⟩
    go_wp2_with fail
    refine (HC.out _).mono ?_
    rintro e w2 ⟨⟨a2, cap2, rfl⟩, hb2⟩
    go_wp2_with fail
    refine (HD.out _).mono ?_
    rintro e w3 ⟨⟨a3, n3, cap3, c3, rfl⟩, hb3⟩
    go_wp2_with fail
    refine (HE.out _).mono ?_
    rintro e w4 ⟨⟨a4, n4, cap4, c4, rfl⟩, hb4⟩
    go_wp2
    go_ret
    have m1 := hb1.size
    have m2 := hb2.size
    have m3 := hb3.size
    exact ⟨rfl, (((hb1.trans (hb2.mono m1)).trans (hb3.mono (by omega))).trans (hb4.mono (by omega)))⟩

set_option maxRecDepth 100000 in
theorem lifted (os : Os) (started : os.Started) (H : Type) (enc : TypeId × Value → H) :
    ReturnsInHanded {} Try.checked os 8 .any (Rows.physPartsSpec.pre6 enc Try.prog Try.f8 Rows.physPartsRow.domain false) (Rows.physPartsSpec.post enc Try.prog Try.f8 false true false false) := by
  refine returnsInHanded_of_change_sized (C := Try.checked) own started (by kernel_rfl) Try.func8
    (ChangeSpec.witness6 (enc := enc) (C := Try.checked) false ⟨#[], #[.string ByteArray.empty, .string ByteArray.empty], []⟩ 8 (by kernel_rfl) (by kernel_rfl) (by kernel_rfl) (by kernel_rfl)) ?_
  intro W base args ds gs before hval0 hW hcnd hzz _
  have hval : ∀ (j : Nat) t v, Try.f8.params[j]? = some t → args[j]? = some v → Value.okWide Try.prog W .any base t v := hval0
  have hW' := hW
  obtain ⟨p, q, hA0, hV, rfl, hfz, hnd⟩ := hW
  have hA : DataW.TrodAll enc Try.prog W 0 (fun _ => true) true Try.f8.params.toList args.toList ds p := hA0
  rw [Try.params8] at hA hval
  obtain ⟨v0, vs0, d0, ds0, p0, q0, hargs, rfl, rfl, h0, r0⟩ := trodAll_cons hA
  obtain ⟨v1, vs1, d1, ds1, p1, q1, rfl, rfl, rfl, h1, r1⟩ := trodAll_cons r0
  obtain ⟨rfl, rfl, rfl⟩ := trodAll_nil r1
  obtain rfl : args = #[v0, v1] := by cases args; simp_all
  obtain ⟨rfl, rfl⟩ := trodVars_none hV
  obtain ⟨a0, rfl, rfl, rfl, w0⟩ := open_string Try.underlying9 (hval 0 9 v0 rfl rfl) h0
  obtain ⟨a1, rfl, rfl, rfl, w1⟩ := open_string Try.underlying9 (hval 1 9 v1 rfl rfl) h1
  clear hA0 hval0
  have z0 : a0.size ≤ 140737488355328 := Nat.le_trans (sized_string hzz (j := 0) rfl rfl) (by decide)
  have z1 : a1.size ≤ 140737488355328 := Nat.le_trans (sized_string hzz (j := 1) rfl rfl) (by decide)
  simp only [List.append_nil] at hW'
  refine (walk a0 a1 w0 z0 w1 z1 W).mono fun e W' ⟨he, hg⟩ => ?_
  subst he
  exact ⟨_, rfl, _, _, _, [], _, [], hW', (trodAll_cons_mk (shut_bool Try.underlying4 _) trodAll_mk0), (trodAll_cons_mk (shut_string Try.underlying9 w0) (trodAll_cons_mk (shut_string Try.underlying9 w1) trodAll_mk0)), rfl, hg.frame _, fun h => by cases h⟩

theorem over : Rows.physPartsRow.holds Try.pinned (OpenSpec.ofChange Rows.physPartsSpec) :=
  OpenClaim.holds_of_wide 8 Try.f8 rfl rfl rfl rfl rfl rfl rfl ⟨rfl, rfl, rfl, rfl, rfl⟩ rfl rfl rfl rfl rfl (by kernel_rfl) Try.func8 (by kernel_rfl)
    (of_decide_eq_true (by kernel_rfl)) (by unfold Func.isWrapper; first | (rw [if_pos (by decide +kernel)]; kernel_rfl) | (rw [if_neg (by decide +kernel)]; exact ⟨rfl, rfl⟩))
    (fun os started H enc _ => lifted os started H enc)

/-- The statement. -/
theorem proved : Rows.PhysPartsSaid :=
  over
#print axioms proved
end Go.Proofs.Ytdkdoknajanfgaa.physParts
