/- The law PhysCovers: for every input the call returns true, and each argument reads behind it as it read before. No condition. -/
import Derived.Test.YtdkdoknajanfgaaRows
import Derived.WalkKit
import Derived.Test.YtdkdoknajanfgaaCoverMain
import Derived.ProofKit
import Derived.OpenShut
import Derived.ShutString
namespace Go.Proofs.Ytdkdoknajanfgaa.physCovers
open Go.ChangeShapes Go.WideShapes Go.ChangeAt Go.RowKit
open Go.ChangeMaps (open_string shut_string)
set_option linter.unusedVariables false      -- a walk need not use every 'w<i>' (that an integer argument fits its kind)

theorem own : ownKnob Try.prog.godebug = none := by kernel_rfl

theorem cover_bad (s : ByteArray) (hs : s.size ≤ maxLen) (n : Int) (h : checkN s.data.toList = n) (h0 : n ≠ 0) (w : World) :
    Calls Try.prog 10 #[.string s] w fun e w' => (∃ a cap, e = .returned (.tuple #[.slice a 0 cap, .int .i64 n])) ∧ Below w.heap.size w w' := by
  have := chars_row s w hs
  rw [charsOf_bad (by rw [h]; exact h0), h] at this
  refine this.mono ?_
  rintro e w' ⟨⟨a, cap, rfl, _⟩, hb⟩
  exact ⟨⟨a, cap, rfl⟩, hb⟩
theorem cover_bad2 (s : ByteArray) (hs : s.size ≤ maxLen) (n : Int) (h : checkN s.data.toList = n) (h0 : n ≠ 0) (w : World) :
    Calls Try.prog 14 #[.string s] w fun e w' => (∃ a cap, e = .returned (.tuple #[.slice a 0 cap, .int .i64 n])) ∧ Below w.heap.size w w' := by
  have := splices_row s w hs
  rw [splicesOf_bad (by rw [h]; exact h0), h] at this
  refine this.mono ?_
  rintro e w' ⟨⟨a, cap, rfl, _⟩, hb⟩
  exact ⟨⟨a, cap, rfl⟩, hb⟩

set_option maxRecDepth 100000 in
set_option maxHeartbeats 2000000 in
theorem walk (a0 : ByteArray) (w0 : a0.size ≤ maxLen) (w : World) :
    Calls Try.prog 7 #[.string a0] w fun e w' => e = .returned (.bool true) ∧ Below w.heap.size w w' := by
  rcases check_cases a0.data.toList with ⟨h, _⟩ | h | h
  · exact covers_main a0 w0 h w
  · have HC := Lib.hid (cover_bad a0 w0 3 h (by decide))
    have HS := Lib.hid (cover_bad2 a0 w0 3 h (by decide))
    clear h
    unfold maxLen at w0
    go_enter Try.func7, Try.ntmps7
    go_wp2_with fail
    refine (alive_any _).mono ?_
    rintro e w1 ⟨rfl, hb1⟩
    go_wp2_with fail
    refine (HC.out _).mono ?_
    rintro e w2 ⟨⟨a2, cap2, rfl⟩, hb2⟩
    go_wp2_with fail
    refine (HS.out _).mono ?_
    rintro e w3 ⟨⟨a3, cap3, rfl⟩, hb3⟩
    go_wp2
    go_ret
    have m1 := hb1.size
    have m2 := hb2.size
    exact ⟨rfl, (hb1.trans (hb2.mono m1)).trans (hb3.mono (by omega))⟩
  · have HC := Lib.hid (cover_bad a0 w0 10 h (by decide))
    have HS := Lib.hid (cover_bad2 a0 w0 10 h (by decide))
    clear h
    unfold maxLen at w0
    go_enter Try.func7, Try.ntmps7
    go_wp2_with fail
    refine (alive_any _).mono ?_
    rintro e w1 ⟨rfl, hb1⟩
    go_wp2_with fail
    refine (HC.out _).mono ?_
    rintro e w2 ⟨⟨a2, cap2, rfl⟩, hb2⟩
    go_wp2_with fail
    refine (HS.out _).mono ?_
    rintro e w3 ⟨⟨a3, cap3, rfl⟩, hb3⟩
    go_wp2
    go_ret
    have m1 := hb1.size
    have m2 := hb2.size
    exact ⟨rfl, (hb1.trans (hb2.mono m1)).trans (hb3.mono (by omega))⟩

set_option maxRecDepth 100000 in
theorem lifted (os : Os) (started : os.Started) (H : Type) (enc : TypeId × Value → H) :
    ReturnsInHanded {} Try.checked os 7 .any (Rows.physCoversSpec.pre6 enc Try.prog Try.f7 Rows.physCoversRow.domain false) (Rows.physCoversSpec.post enc Try.prog Try.f7 false true false false) := by
  refine returnsInHanded_of_change (C := Try.checked) own started (by kernel_rfl) Try.func7
    (ChangeSpec.witness6 (enc := enc) (C := Try.checked) false ⟨#[], #[.string ByteArray.empty], []⟩ 8 (by kernel_rfl) (by kernel_rfl) (by kernel_rfl) (by kernel_rfl)) ?_
  intro W base args ds gs before hval0 hW hcnd _
  have hval : ∀ (j : Nat) t v, Try.f7.params[j]? = some t → args[j]? = some v → Value.okWide Try.prog W .any base t v := hval0
  have hW' := hW
  obtain ⟨p, q, hA0, hV, rfl, hfz, hnd⟩ := hW
  have hA : DataW.TrodAll enc Try.prog W 0 (fun _ => true) true Try.f7.params.toList args.toList ds p := hA0
  rw [Try.params7] at hA hval
  obtain ⟨v0, vs0, d0, ds0, p0, q0, hargs, rfl, rfl, h0, r0⟩ := trodAll_cons hA
  obtain ⟨rfl, rfl, rfl⟩ := trodAll_nil r0
  obtain rfl : args = #[v0] := by cases args; simp_all
  obtain ⟨rfl, rfl⟩ := trodVars_none hV
  obtain ⟨a0, rfl, rfl, rfl, w0⟩ := open_string Try.underlying9 (hval 0 9 v0 rfl rfl) h0
  clear hA0 hval0
  simp only [List.append_nil] at hW'
  refine (walk a0 w0 W).mono fun e W' ⟨he, hg⟩ => ?_
  subst he
  exact ⟨_, rfl, _, _, _, [], _, [], hW', (trodAll_cons_mk (shut_bool Try.underlying4 _) trodAll_mk0), (trodAll_cons_mk (shut_string Try.underlying9 w0) trodAll_mk0), rfl, hg.frame _, fun h => by cases h⟩

theorem over : Rows.physCoversRow.holds Try.pinned (OpenSpec.ofChange Rows.physCoversSpec) :=
  OpenClaim.holds_of_wide 7 Try.f7 rfl rfl rfl rfl rfl rfl rfl ⟨rfl, rfl, rfl, rfl, rfl⟩ rfl rfl rfl rfl rfl (by kernel_rfl) Try.func7 (by kernel_rfl)
    (of_decide_eq_true (by kernel_rfl)) (by unfold Func.isWrapper; first | (rw [if_pos (by decide +kernel)]; kernel_rfl) | (rw [if_neg (by decide +kernel)]; exact ⟨rfl, rfl⟩))
    (fun os started H enc _ => lifted os started H enc)

/-- The statement. -/
theorem proved : Rows.PhysCoversSaid :=
  over
#print axioms proved
end Go.Proofs.Ytdkdoknajanfgaa.physCovers
