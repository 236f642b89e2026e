/- The law PhysSplice: for every input the call returns true, and each argument reads behind it as it read before. No condition. -/
import Derived.Test.YtdkdoknajanfgaaRows
import Derived.WalkKit
import Derived.Test.YtdkdoknajanfgaaInsert
import Derived.Test.YtdkdoknajanfgaaElems
import Derived.Deep.RegionHeld3
import Derived.ProofKit
import Derived.OpenShut
import Derived.ShutString
namespace Go.Proofs.Ytdkdoknajanfgaa.physSplice
open Go.ChangeShapes Go.WideShapes Go.ChangeAt Go.RowKit
open Go.ChangeMaps (open_string shut_string)
set_option linter.unusedVariables false      -- a walk need not use every 'w<i>' (that an integer argument fits its kind)

theorem own : ownKnob Try.prog.godebug = none := by kernel_rfl

theorem i64_of_wf {a : Int} (h : (Lit.int .i64 a).wf = true) : -9223372036854775808 ≤ a ∧ a ≤ 9223372036854775807 := by
  have hb := h
  simp only [Lit.wf, Bool.and_eq_true, decide_eq_true_eq] at hb
  exact hb

theorem chars_at (s : ByteArray) (hs : s.size ≤ maxLen) (n : Int) (h : checkN s.data.toList = n) (w : World) :
    Calls Try.prog 10 #[.string s] w fun e w' => (∃ a cap, e = .returned (.tuple #[.slice a (charsOf s.data.toList).length cap, .int .i64 n]) ∧ CharRow w' w.heap.size a cap (charsOf s.data.toList)) ∧ Below w.heap.size w w' := by
  have := chars_row s w hs
  rw [h] at this
  exact this
theorem logical_at (s : ByteArray) (hs : s.size ≤ maxLen) (n : Int) (h : checkN s.data.toList = n) (w : World) :
    Calls Try.prog 12 #[.string s] w fun e w' => e = .returned (.tuple #[.string ⟨(logicalOf s.data.toList).toArray⟩, .int .i64 n]) ∧ Below w.heap.size w w' := by
  have := logical_any s w hs
  rw [h] at this
  exact this
theorem ins_text (s : ByteArray) (k : Nat) : (s.extract 0 k ++ ⟨#[92, 10]⟩ ++ s.extract k s.size).data.toList = s.data.toList.take k ++ 92 :: 10 :: s.data.toList.drop k := by
  rw [ByteArray.data_append, ByteArray.data_append, Array.toList_append, Array.toList_append, extract_list, extract_end, List.drop_zero]
  simp
theorem logical_ins (s : ByteArray) (k : Nat) (hk : k ≤ s.size) (hs : s.size ≤ 65534) (r : List UInt8) (g1 : checkN (s.data.toList.take k ++ 92 :: 10 :: s.data.toList.drop k) = 0) (g2 : logicalOf (s.data.toList.take k ++ 92 :: 10 :: s.data.toList.drop k) = r) (w : World) :
    Calls Try.prog 12 #[.string (s.extract 0 k ++ ⟨#[92, 10]⟩ ++ s.extract k s.size)] w fun e w' => e = .returned (.tuple #[.string ⟨r.toArray⟩, .int .i64 0]) ∧ Below w.heap.size w w' := by
  have hsz : (s.extract 0 k ++ ⟨#[92, 10]⟩ ++ s.extract k s.size).size ≤ maxLen := by
    rw [← size_list, ins_text]
    simp only [List.length_append, List.length_take, List.length_cons, List.length_drop, size_list]
    unfold maxLen; omega
  have := logical_any _ w hsz
  rw [ins_text, g1, g2] at this
  exact this

set_option maxRecDepth 100000 in
set_option maxHeartbeats 2000000 in
theorem walk (a0 : ByteArray) (a1 : Int) (w0 : a0.size ≤ maxLen) (w1 : (Lit.int .i64 a1).wf = true) (w : World) :
    Calls Try.prog 9 #[.string a0, .int .i64 a1] w fun e w' => e = .returned (.bool true) ∧ Below w.heap.size w w' := by
  have hbd := i64_of_wf w1
  rcases check_cases a0.data.toList with ⟨h, hl⟩ | h | h
  · have HC := Lib.hid (chars_at a0 w0 0 h)
    have HL := Lib.hid (logical_at a0 w0 0 h)
    have H0 := Lib.hid h
    rw [size_list] at hl
    clear h
    by_cases h1 : a1 < 0
    · go_enter Try.func9, Try.ntmps9
      go_wp2_with (first
        | (go_at_call 24; refine (alive_any _).mono ?_; rintro e w1 ⟨rfl, hb1⟩)
        | (go_at_call 10; refine (HC.out _).mono ?_; rintro e w2 ⟨⟨a, cap, rfl, hr⟩, hb2⟩))
      go_ret
      exact ⟨rfl, hb1.trans (hb2.mono hb1.size)⟩
    · by_cases h2 : ((charsOf a0.data.toList).length : Int) ≤ a1
      · go_enter Try.func9, Try.ntmps9
        go_wp2_with (first
          | (go_at_call 24; refine (alive_any _).mono ?_; rintro e w1 ⟨rfl, hb1⟩)
          | (go_at_call 10; refine (HC.out _).mono ?_; rintro e w2 ⟨⟨a, cap, rfl, hr⟩, hb2⟩))
        go_ret
        exact ⟨rfl, hb1.trans (hb2.mono hb1.size)⟩
      · by_cases h3 : 65536 < (a0.size : Int) + 2
        · go_enter Try.func9, Try.ntmps9
          go_wp2_with (first
            | (go_at_call 24; refine (alive_any _).mono ?_; rintro e w1 ⟨rfl, hb1⟩)
            | (go_at_call 10; refine (HC.out _).mono ?_; rintro e w2 ⟨⟨a, cap, rfl, hr⟩, hb2⟩))
          go_ret
          exact ⟨rfl, hb1.trans (hb2.mono hb1.size)⟩
        · obtain ⟨k, rfl⟩ : ∃ k : Nat, a1 = k := ⟨a1.toNat, by omega⟩
          have hk : k < (charsOf a0.data.toList).length := by omega
          obtain ⟨p, hp⟩ : ∃ p, (charsOf a0.data.toList)[k]? = some p := ⟨_, List.getElem?_eq_getElem hk⟩
          have hpm : p ∈ parts a0.data.toList := by
            have := List.mem_of_getElem? hp
            rw [charsOf_ok H0.out] at this
            exact (List.mem_filter.1 this).1
          obtain ⟨g1, g2⟩ := insert_splice H0.out (by rw [size_list]; omega) hpm
          obtain ⟨_, hat, _⟩ := bd_of_part (l := a0.data.toList) _ 0 rfl p hpm
          rw [size_list] at hat
          have HP := Lib.hid hp
          have G1 := Lib.hid g1
          have G2 := Lib.hid g2
          clear hp hpm g1 g2
          have h3' : a0.size ≤ 65534 := by omega
          clear h3 hl
          go_enter Try.func9, Try.ntmps9
          go_wp2_with fail
          refine (alive_any _).mono ?_
          rintro e w1 ⟨rfl, hb1⟩
          go_wp2_with fail
          refine (HC.out _).mono ?_
          rintro e w2 ⟨⟨a, cap, rfl, hr⟩, hb2⟩
          go_wp2_with fail
          refine (HL.out _).mono ?_
          rintro e w3 ⟨rfl, hb3⟩
          go_wp2_with fail
          obtain ⟨g, rfl, hg1, hg2, hcap, hcm, c0, c1, c2⟩ := hr.cells HP.out
          have c1' : w3.cell? ⟨g, k * 3 + 1, none⟩ = some (.int .i64 p.at') := (hb3.cell (p := ⟨g, k * 3 + 1, none⟩) hg2).trans c1
          have hk1 : (k : Int) < (charsOf a0.data.toList).length := by omega
          have hk0 : (0 : Int) ≤ k := by omega
          have ha1 : (p.at' : Int) ≤ a0.size := by omega
          have q1 : ¬ 9223372036854775807 < min p.at' a0.size + 2 := by omega
          have q2 : ¬ 9223372036854775807 < min p.at' a0.size + 2 + (a0.size - p.at') := by omega
          have hg3 : g < w3.heap.size := by have := hb3.size; omega
          have HL2 := Lib.hid (logical_ins a0 p.at' (by omega) (by omega) _ G1.out G2.out)
          go_region_held3 (fun w' => w'.cell? ⟨g, k * 3 + 1, none⟩ = some (.int .i64 p.at')) (first | exact c1' | exact (hb4.cell (p := ⟨g, k * 3 + 1, none⟩) hg3).trans c1') ((first | (go_at_call 12; refine (HL2.out _).mono ?_; rintro e w4 ⟨rfl, hb4⟩)))
          go_wp2
          go_ret
          have m1 := hb1.size
          have m2 := hb2.size
          have m3 := hb3.size
          refine ⟨ret_bool (by simp), ?_⟩
          exact ((((hb1.trans (hb2.mono m1)).trans (hb3.mono (by omega)))).drew).trans (hb4.mono (by show _ ≤ w3.heap.size; omega))
  · have HC := Lib.hid (chars_at a0 w0 3 h)
    clear h
    unfold maxLen at w0
    go_enter Try.func9, Try.ntmps9
    go_wp2_with (first
      | (go_at_call 24; refine (alive_any _).mono ?_; rintro e w1 ⟨rfl, hb1⟩)
      | (go_at_call 10; refine (HC.out _).mono ?_; rintro e w2 ⟨⟨a, cap, rfl, hr⟩, hb2⟩))
    go_ret
    exact ⟨rfl, hb1.trans (hb2.mono hb1.size)⟩
  · have HC := Lib.hid (chars_at a0 w0 10 h)
    clear h
    unfold maxLen at w0
    go_enter Try.func9, Try.ntmps9
    go_wp2_with (first
      | (go_at_call 24; refine (alive_any _).mono ?_; rintro e w1 ⟨rfl, hb1⟩)
      | (go_at_call 10; refine (HC.out _).mono ?_; rintro e w2 ⟨⟨a, cap, rfl, hr⟩, hb2⟩))
    go_ret
    exact ⟨rfl, hb1.trans (hb2.mono hb1.size)⟩

set_option maxRecDepth 100000 in
theorem lifted (os : Os) (started : os.Started) (H : Type) (enc : TypeId × Value → H) :
    ReturnsInHanded {} Try.checked os 9 .any (Rows.physSpliceSpec.pre6 enc Try.prog Try.f9 Rows.physSpliceRow.domain false) (Rows.physSpliceSpec.post enc Try.prog Try.f9 false true false false) := by
  refine returnsInHanded_of_change (C := Try.checked) own started (by kernel_rfl) Try.func9
    (ChangeSpec.witness6 (enc := enc) (C := Try.checked) false ⟨#[], #[.string ByteArray.empty, .int .i64 0], []⟩ 8 (by kernel_rfl) (by kernel_rfl) (by kernel_rfl) (by kernel_rfl)) ?_
  intro W base args ds gs before hval0 hW hcnd _
  have hval : ∀ (j : Nat) t v, Try.f9.params[j]? = some t → args[j]? = some v → Value.okWide Try.prog W .any base t v := hval0
  have hW' := hW
  obtain ⟨p, q, hA0, hV, rfl, hfz, hnd⟩ := hW
  have hA : DataW.TrodAll enc Try.prog W 0 (fun _ => true) true Try.f9.params.toList args.toList ds p := hA0
  rw [Try.params9] at hA hval
  obtain ⟨v0, vs0, d0, ds0, p0, q0, hargs, rfl, rfl, h0, r0⟩ := trodAll_cons hA
  obtain ⟨v1, vs1, d1, ds1, p1, q1, rfl, rfl, rfl, h1, r1⟩ := trodAll_cons r0
  obtain ⟨rfl, rfl, rfl⟩ := trodAll_nil r1
  obtain rfl : args = #[v0, v1] := by cases args; simp_all
  obtain ⟨rfl, rfl⟩ := trodVars_none hV
  obtain ⟨a0, rfl, rfl, rfl, w0⟩ := open_string Try.underlying9 (hval 0 9 v0 rfl rfl) h0
  obtain ⟨a1, rfl, rfl, rfl, w1⟩ := open_int Try.underlying3 (hval 1 3 v1 rfl rfl) h1
  clear hA0 hval0
  simp only [List.append_nil] at hW'
  refine (walk a0 a1 w0 w1 W).mono fun e W' ⟨he, hg⟩ => ?_
  subst he
  exact ⟨_, rfl, _, _, _, [], _, [], hW', (trodAll_cons_mk (shut_bool Try.underlying4 _) trodAll_mk0), (trodAll_cons_mk (shut_string Try.underlying9 w0) (trodAll_cons_mk (shut_int Try.underlying3 w1) trodAll_mk0)), rfl, hg.frame _, fun h => by cases h⟩

theorem over : Rows.physSpliceRow.holds Try.pinned (OpenSpec.ofChange Rows.physSpliceSpec) :=
  OpenClaim.holds_of_wide 9 Try.f9 rfl rfl rfl rfl rfl rfl rfl ⟨rfl, rfl, rfl, rfl, rfl⟩ rfl rfl rfl rfl rfl (by kernel_rfl) Try.func9 (by kernel_rfl)
    (of_decide_eq_true (by kernel_rfl)) (by unfold Func.isWrapper; first | (rw [if_pos (by decide +kernel)]; kernel_rfl) | (rw [if_neg (by decide +kernel)]; exact ⟨rfl, rfl⟩))
    (fun os started H enc _ => lifted os started H enc)

/-- The statement. -/
theorem proved : Rows.PhysSpliceSaid :=
  over
#print axioms proved
end Go.Proofs.Ytdkdoknajanfgaa.physSplice
