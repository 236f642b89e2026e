/- The law PhysBack: for every input the call returns true, and each argument reads behind it as it read before. No condition. -/
import Derived.Test.YtdkdoknajanfgaaRows
import Derived.WalkKit
import Derived.Test.YtdkdoknajanfgaaLink
import Derived.Test.YtdkdoknajanfgaaSpell
import Derived.Test.YtdkdoknajanfgaaRSpell
import Derived.ProofKit
import Derived.OpenShut
import Derived.ShutString
namespace Go.Proofs.Ytdkdoknajanfgaa.physBack
open Go.ChangeShapes Go.WideShapes Go.ChangeAt Go.RowKit
open Go.ChangeMaps (open_string shut_string)
set_option linter.unusedVariables false      -- a walk need not use every 'w<i>' (that an integer argument fits its kind)

theorem own : ownKnob Try.prog.godebug = none := by kernel_rfl

theorem spell_cases (l : List UInt8) : spellOut l = ([], 3) ∨ spellOut l = ([], 10) ∨ (spellOut l).2 = 0 := by
  unfold spellOut
  by_cases h1 : 65536 < l.length
  · rw [if_pos h1]; exact .inl rfl
  · rw [if_neg h1]
    by_cases h2 : endsTen l = false
    · rw [if_pos h2]; exact .inr (.inl rfl)
    · rw [if_neg h2]
      by_cases h3 : 65536 < (spellUpto l l.length).length
      · rw [if_pos h3]; exact .inl rfl
      · rw [if_neg h3]; exact .inr (.inr rfl)

theorem spell_bad (s : ByteArray) (hs : s.size ≤ maxLen) (n : Int) (h : spellOut s.data.toList = ([], n)) (w : World) :
    Calls Try.prog 20 #[.string s] w fun e w' => e = .returned (.tuple #[.string ⟨#[]⟩, .int .i64 n]) ∧ Below w.heap.size w w' := by
  have := spell_any s w hs
  rw [h] at this
  exact this

theorem spell_good (s : ByteArray) (hs : s.size ≤ maxLen) (h : (spellOut s.data.toList).2 = 0) : ∃ t : ByteArray, ∃ c : Nat,
    t.size ≤ maxLen ∧ t.size ≤ s.size + 2 * c ∧ s.size + 2 * c ≤ t.size ∧ c ≤ 65536 ∧ s.size ≤ 65536 ∧
    (∀ w, Calls Try.prog 20 #[.string s] w fun e w' => e = .returned (.tuple #[.string t, .int .i64 0]) ∧ Below w.heap.size w w') ∧
    (∀ w, Calls Try.prog 12 #[.string t] w fun e w' => e = .returned (.tuple #[.string s, .int .i64 0]) ∧ Below w.heap.size w w') ∧
    (∀ w, Calls Try.prog 14 #[.string t] w fun e w' => (∃ a cap, e = .returned (.tuple #[.slice a c cap, .int .i64 0])) ∧ Below w.heap.size w w') := by
  obtain ⟨h1, h2, h3⟩ := spell_back h
  obtain ⟨hl, _⟩ := checkN_zero h1
  have ht : (⟨(spellOut s.data.toList).1.toArray⟩ : ByteArray).data.toList = (spellOut s.data.toList).1 := by simp
  have hsz : (⟨(spellOut s.data.toList).1.toArray⟩ : ByteArray).size = (spellOut s.data.toList).1.length := by rw [← size_list, ht]
  have hs0 : s.size = s.data.toList.length := (size_list s).symm
  refine ⟨⟨(spellOut s.data.toList).1.toArray⟩, (splicesOf (spellOut s.data.toList).1).length, ?_, ?_, ?_, ?_, ?_, ?_, ?_, ?_⟩
  · unfold maxLen; omega
  · omega
  · omega
  · omega
  · omega
  · intro w
    have := spell_any s w hs
    rw [h] at this
    exact this
  · intro w
    have := logical_any ⟨(spellOut s.data.toList).1.toArray⟩ w (by unfold maxLen; omega)
    rw [ht, h1, h2] at this
    exact this
  · intro w
    have := splices_any ⟨(spellOut s.data.toList).1.toArray⟩ w (by unfold maxLen; omega)
    rw [ht, h1] at this
    refine this.mono ?_
    rintro e w' ⟨⟨v, rfl, hown⟩, hb⟩
    obtain ⟨a, cap, rfl⟩ := row_shape hown
    exact ⟨⟨a, cap, rfl⟩, hb⟩

set_option maxRecDepth 100000 in
set_option maxHeartbeats 2000000 in
theorem walk (a0 : ByteArray) (w0 : a0.size ≤ maxLen) (w : World) :
    Calls Try.prog 6 #[.string a0] w fun e w' => e = .returned (.bool true) ∧ Below w.heap.size w w' := by
  rcases spell_cases a0.data.toList with h | h | h
  · have HS := Lib.hid (spell_bad a0 w0 3 h)
    clear h
    go_enter Try.func6, Try.ntmps6
    go_wp2_with (first
      | (go_at_call 24; refine (alive_any _).mono ?_; rintro e w1 ⟨rfl, hb1⟩)
      | (go_at_call 20; refine (HS.out _).mono ?_; rintro e w2 ⟨rfl, hb2⟩))
    go_ret
    exact ⟨rfl, hb1.trans (hb2.mono hb1.size)⟩
  · have HS := Lib.hid (spell_bad a0 w0 10 h)
    clear h
    go_enter Try.func6, Try.ntmps6
    go_wp2_with (first
      | (go_at_call 24; refine (alive_any _).mono ?_; rintro e w1 ⟨rfl, hb1⟩)
      | (go_at_call 20; refine (HS.out _).mono ?_; rintro e w2 ⟨rfl, hb2⟩))
    go_ret
    exact ⟨rfl, hb1.trans (hb2.mono hb1.size)⟩
  · obtain ⟨t, c, t1, t2, t3, t4, t5, hS, hL, hP⟩ := spell_good a0 w0 h
    have HS := Lib.hid hS
    have HL := Lib.hid hL
    have HP := Lib.hid hP
    clear h hS hL hP
    unfold maxLen at w0 t1
    go_enter Try.func6, Try.ntmps6
    go_wp2_with (first
      | (go_at_call 24; refine (alive_any _).mono ?_; rintro e w1 ⟨rfl, hb1⟩)
      | (go_at_call 20; refine (HS.out _).mono ?_; rintro e w2 ⟨rfl, hb2⟩)
      | (go_at_call 12; refine (HL.out _).mono ?_; rintro e w3 ⟨rfl, hb3⟩)
      | (go_at_call 14; refine (HP.out _).mono ?_; rintro e w4 ⟨⟨a, cap, rfl⟩, hb4⟩))
    go_ret
    refine ⟨?_, ((hb1.trans (hb2.mono hb1.size)).trans (hb3.mono (Nat.le_trans hb1.size hb2.size))).trans (hb4.mono (Nat.le_trans (Nat.le_trans hb1.size hb2.size) hb3.size))⟩
    exact ret_bool (by simp only [beq_iff_eq]; omega)

set_option maxRecDepth 100000 in
theorem lifted (os : Os) (started : os.Started) (H : Type) (enc : TypeId × Value → H) :
    ReturnsInHanded {} Try.checked os 6 .any (Rows.physBackSpec.pre6 enc Try.prog Try.f6 Rows.physBackRow.domain false) (Rows.physBackSpec.post enc Try.prog Try.f6 false true false false) := by
  refine returnsInHanded_of_change (C := Try.checked) own started (by kernel_rfl) Try.func6
    (ChangeSpec.witness6 (enc := enc) (C := Try.checked) false ⟨#[], #[.string ByteArray.empty], []⟩ 8 (by kernel_rfl) (by kernel_rfl) (by kernel_rfl) (by kernel_rfl)) ?_
  intro W base args ds gs before hval0 hW hcnd _
  have hval : ∀ (j : Nat) t v, Try.f6.params[j]? = some t → args[j]? = some v → Value.okWide Try.prog W .any base t v := hval0
  have hW' := hW
  obtain ⟨p, q, hA0, hV, rfl, hfz, hnd⟩ := hW
  have hA : DataW.TrodAll enc Try.prog W 0 (fun _ => true) true Try.f6.params.toList args.toList ds p := hA0
  rw [Try.params6] at hA hval
  obtain ⟨v0, vs0, d0, ds0, p0, q0, hargs, rfl, rfl, h0, r0⟩ := trodAll_cons hA
  obtain ⟨rfl, rfl, rfl⟩ := trodAll_nil r0
  obtain rfl : args = #[v0] := by cases args; simp_all
  obtain ⟨rfl, rfl⟩ := trodVars_none hV
  obtain ⟨a0, rfl, rfl, rfl, w0⟩ := open_string Try.underlying9 (hval 0 9 v0 rfl rfl) h0
  clear hA0 hval0
  simp only [List.append_nil] at hW'
  refine (walk a0 w0 W).mono fun e W' ⟨he, hg⟩ => ?_
  subst he
  exact ⟨_, rfl, _, _, _, [], _, [], hW', (trodAll_cons_mk (shut_bool Try.underlying4 _) trodAll_mk0), (trodAll_cons_mk (shut_string Try.underlying9 w0) trodAll_mk0), rfl, hg.frame _, fun h => by cases h⟩

theorem over : Rows.physBackRow.holds Try.pinned (OpenSpec.ofChange Rows.physBackSpec) :=
  OpenClaim.holds_of_wide 6 Try.f6 rfl rfl rfl rfl rfl rfl rfl ⟨rfl, rfl, rfl, rfl, rfl⟩ rfl rfl rfl rfl rfl (by kernel_rfl) Try.func6 (by kernel_rfl)
    (of_decide_eq_true (by kernel_rfl)) (by unfold Func.isWrapper; first | (rw [if_pos (by decide +kernel)]; kernel_rfl) | (rw [if_neg (by decide +kernel)]; exact ⟨rfl, rfl⟩))
    (fun os started H enc _ => lifted os started H enc)

/-- The statement. -/
theorem proved : Rows.PhysBackSaid :=
  over
#print axioms proved
end Go.Proofs.Ytdkdoknajanfgaa.physBack
