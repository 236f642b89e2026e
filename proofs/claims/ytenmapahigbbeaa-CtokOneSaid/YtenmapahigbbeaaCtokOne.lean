/- The law CtokOne: for every input the call returns true, and each argument reads behind it as it read before. No condition. -/
import Derived.Test.YtenmapahigbbeaaRows
import Derived.WalkKit
import Derived.Test.YtenmapahigbbeaaCtA
import Derived.Test.YtenmapahigbbeaaShaped
import Derived.ProofKit
import Derived.SizedLaws
import Derived.HandedShaped
import Derived.Shelf.Vars
import Derived.OpenShut
import Derived.ShutString
namespace Go.Proofs.Ytenmapahigbbeaa.ctokOne
open Go.ChangeShapes Go.WideShapes Go.ChangeAt Go.RowKit
open Go.ChangeMaps (open_string shut_string)
set_option linter.unusedVariables false      -- a walk need not use every 'w<i>' (that an integer argument fits its kind)

theorem own : ownKnob Try.prog.godebug = none := by kernel_rfl

theorem under_size (t : ByteArray) (h : t.size ≤ 140737488355328) : (t ++ (⟨#[95]⟩ : ByteArray)).size ≤ maxLen := by
  rw [ByteArray.size_append]
  have : (⟨#[95]⟩ : ByteArray).size = 1 := rfl
  unfold maxLen; omega
theorem under_list (t : ByteArray) : (t ++ (⟨#[95]⟩ : ByteArray)).data.toList = t.data.toList ++ [95] := by
  rw [ByteArray.data_append, Array.toList_append]
theorem one_either (t : ByteArray) : ((intC t.data.toList).isNone || !floatC t.data.toList) = true := by
  cases h : intC t.data.toList with
  | none => rfl
  | some p => rw [int_float (by rw [h]; simp)]; rfl

set_option maxRecDepth 100000 in
set_option maxHeartbeats 2000000 in
theorem walk (a0 : ByteArray) (w0 : a0.size ≤ maxLen) (z0 : a0.size ≤ 140737488355328) (w : World) (hL : LibVar w) :
    Calls Try.prog 6 #[.string a0] w fun e w' => e = .returned (.bool true) ∧ Below w.heap.size w w' := by
  have A := alive4_any w hL
  have C1 := fun w => none_any a0 w w0
  have C2 := fun w => Float_any a0 w w0
  have C3 := fun w => none_any (a0 ++ (⟨#[95]⟩ : ByteArray)) w (under_size a0 z0)
  have C4 := fun w => Float_any (a0 ++ (⟨#[95]⟩ : ByteArray)) w (under_size a0 z0)
  rw [under_list, int_snoc] at C3
  rw [under_list, float_snoc] at C4
  have HE := one_either a0
  obtain ⟨x, hx⟩ : ∃ x, (intC a0.data.toList).isNone = x := ⟨_, rfl⟩
  obtain ⟨y, hy⟩ : ∃ y, floatC a0.data.toList = y := ⟨_, rfl⟩
  rw [hx] at C1 HE
  rw [hy] at C2 HE
  clear hx hy
  go_enter Try.func6, Try.ntmps6
  go_wp2_with fail
  refine A.mono ?_
  rintro e w1 ⟨rfl, hb1⟩
  go_wp2_with fail
  refine (C1 _).mono ?_
  rintro e w2 ⟨rfl, hb2⟩
  go_wp2_with fail
  refine (C2 _).mono ?_
  rintro e w3 ⟨rfl, hb3⟩
  go_wp2_with fail
  refine (C3 _).mono ?_
  rintro e w4 ⟨rfl, hb4⟩
  go_wp2_with fail
  refine (C4 _).mono ?_
  rintro e w5 ⟨rfl, hb5⟩
  have hB2 := hb1.trans (hb2.mono hb1.size)
  have hB3 := hB2.trans (hb3.mono hB2.size)
  have hB4 := hB3.trans (hb4.mono hB3.size)
  have hB5 := hB4.trans (hb5.mono hB4.size)
  cases x <;> cases y
  all_goals first
    | (cases HE; done)
    | (go_wp2
       go_ret
       exact ⟨rfl, hB5⟩)

set_option maxRecDepth 100000 in
theorem lifted (os : Os) (started : os.Started) (H : Type) (enc : TypeId × Value → H) :
    ReturnsInHanded {} Try.checked os 6 .any (Rows.ctokOneSpec.pre6 enc Try.prog Try.f6 Rows.ctokOneRow.domain false) (Rows.ctokOneSpec.post enc Try.prog Try.f6 false true false false) := by
  refine returnsInHanded_of_change_shaped (C := Try.checked) own started (by kernel_rfl) Try.func6
    (ChangeSpec.witness6 (enc := enc) (C := Try.checked) false ⟨#[], #[.string ByteArray.empty], []⟩ 8 (by kernel_rfl) (by kernel_rfl) (by kernel_rfl) (by kernel_rfl)) ?_
  intro W base args ds gs before hval0 hW hcnd hzz hsh _
  have hval : ∀ (j : Nat) t v, Try.f6.params[j]? = some t → args[j]? = some v → Value.okWide Try.prog W .any base t v := hval0
  have hW' := hW
  obtain ⟨p, q, hA0, hV, rfl, hfz, hnd⟩ := hW
  have hA : DataW.TrodAll enc Try.prog W 0 (fun _ => true) true Try.f6.params.toList args.toList ds p := hA0
  rw [Try.params6] at hA hval
  obtain ⟨v0, vs0, d0, ds0, p0, q0, hargs, rfl, rfl, h0, r0⟩ := trodAll_cons hA
  obtain ⟨rfl, rfl, rfl⟩ := trodAll_nil r0
  obtain rfl : args = #[v0] := by cases args; simp_all
  obtain ⟨rfl, rfl⟩ := trodVars_none hV
  obtain ⟨a0, rfl, rfl, rfl, w0⟩ := open_string Try.underlying9 (hval 0 9 v0 rfl rfl) h0
  clear hA0 hval0
  have z0 : a0.size ≤ 140737488355328 := Nat.le_trans (sized_string hzz (j := 0) rfl rfl) (by decide)
  simp only [List.append_nil] at hW'
  refine (walk a0 w0 z0 W (libVar_shaped hsh)).mono fun e W' ⟨he, hg⟩ => ?_
  subst he
  exact ⟨_, rfl, _, _, _, [], _, [], hW', (trodAll_cons_mk (shut_bool Try.underlying4 _) trodAll_mk0), (trodAll_cons_mk (shut_string Try.underlying9 w0) trodAll_mk0), rfl, hg.frame _, fun h => by cases h⟩

theorem over : Rows.ctokOneRow.holds Try.pinned (OpenSpec.ofChange Rows.ctokOneSpec) :=
  OpenClaim.holds_of_wide 6 Try.f6 rfl rfl rfl rfl rfl rfl rfl ⟨rfl, rfl, rfl, rfl, rfl⟩ rfl rfl rfl rfl rfl (by kernel_rfl) Try.func6 (by kernel_rfl)
    (of_decide_eq_true (by kernel_rfl)) (by unfold Func.isWrapper; first | (rw [if_pos (by decide +kernel)]; kernel_rfl) | (rw [if_neg (by decide +kernel)]; exact ⟨rfl, rfl⟩))
    (fun os started H enc _ => lifted os started H enc)

/-- The statement. -/
theorem proved : Rows.CtokOneSaid :=
  over
#print axioms proved
end Go.Proofs.Ytenmapahigbbeaa.ctokOne
