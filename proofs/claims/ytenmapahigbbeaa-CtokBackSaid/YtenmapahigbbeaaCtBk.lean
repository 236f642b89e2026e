/- The law CtokBack's walk. -/
import Derived.Test.YtenmapahigbbeaaCtB
namespace Go.Proofs.Ytenmapahigbbeaa
open Go.RowKit Go.Shelf

theorem intR_some {l : List UInt8} {n : Nat} {u : Bool} (h : intC l = some (n, u)) : intR l = (n, u, 0) := by unfold intR; rw [h]
theorem pow64 {n : Nat} (h : n ≤ 18446744073709551615) : n < 2 ^ 64 := by omega
theorem cat_list (a b : ByteArray) : (a ++ b).data.toList = a.data.toList ++ b.data.toList := by rw [ByteArray.data_append, Array.toList_append]
theorem back_tenU (n : Nat) (h : n ≤ 18446744073709551615) : intR (writB 10 64 n ++ ⟨#[117]⟩).data.toList = (n, true, 0) := by
  rw [cat_list, writB_list]
  exact intR_some (int_tenU (pow64 h) h)
theorem back_eight (n : Nat) (h : n ≤ 18446744073709551615) : intR ((⟨#[48]⟩ : ByteArray) ++ writB 8 64 n).data.toList = (n, decide (9223372036854775807 < n), 0) := by
  rw [cat_list, writB_list]
  exact intR_some (int_eight (pow64 h) h)
theorem back_hex (n : Nat) (h : n ≤ 18446744073709551615) : intR ((⟨#[48, 120]⟩ : ByteArray) ++ writB 16 64 n).data.toList = (n, decide (9223372036854775807 < n), 0) := by
  rw [cat_list, writB_list]
  have := int_hex (x := 120) (.inl rfl) (s := []) (.inl rfl) rfl (pow64 h) h
  rw [List.append_nil] at this
  exact intR_some (this.trans (by rw [show (sufC []).2 = false from rfl, Bool.false_or]))
theorem back_hexU (n : Nat) (h : n ≤ 18446744073709551615) : intR ((⟨#[48, 88]⟩ : ByteArray) ++ writB 16 64 n ++ (⟨#[76, 76, 85]⟩ : ByteArray)).data.toList = (n, true, 0) := by
  rw [cat_list, cat_list, writB_list]
  have := int_hex (x := 88) (.inr rfl) (s := [76, 76, 85]) (.inr ⟨76, [76, 85], rfl, by decide⟩) (by decide) (pow64 h) h
  exact intR_some (this.trans (by rw [show (sufC [76, 76, 85]).2 = true by decide, Bool.true_or]))
theorem small_len {a : ByteArray} (h : a.size ≤ 100) : a.size ≤ maxLen := by unfold maxLen; omega

set_option maxRecDepth 100000 in
set_option maxHeartbeats 4000000 in
theorem back_any (n : Nat) (w : World) (hn : n ≤ 18446744073709551615) (hL : LibVar w) :
    Calls Try.prog 5 #[.int .u64 n] w fun e w' => e = .returned (.bool true) ∧ Below w.heap.size w w' := by
  have A := alive4_any w hL
  have W10 := fun w => written_any 10 (by decide) (by decide) 64 n w (Nat.le_refl _) (pow64 hn) hn
  have W8 := fun w => written_any 8 (by decide) (by decide) 64 n w (Nat.le_refl _) (pow64 hn) hn
  have W16 := fun w => written_any 16 (by decide) (by decide) 64 n w (Nat.le_refl _) (pow64 hn) hn
  have z10 := writB_size 10 64 n
  have z8 := writB_size 8 64 n
  have z16 := writB_size 16 64 n
  have T := int_ten (pow64 hn) hn
  rw [← writB_list] at T
  have R1 := back_tenU n hn
  have R2 := back_eight n hn
  have R3 := back_hex n hn
  have R4 := back_hexU n hn
  generalize writB 10 64 n = t10 at *
  generalize writB 8 64 n = t8 at *
  generalize writB 16 64 n = t16 at *
  have N10 := fun w => none_any t10 w (small_len (by omega))
  have V1 := fun w => worth_yes (t10 ++ ⟨#[117]⟩) n true w (small_len (by rw [ByteArray.size_append]; show _ + 1 ≤ _; omega)) R1
  have V2 := fun w => worth_yes (⟨#[48]⟩ ++ t8) n _ w (small_len (by rw [ByteArray.size_append]; show 1 + _ ≤ _; omega)) R2
  have V3 := fun w => worth_yes (⟨#[48, 120]⟩ ++ t16) n _ w (small_len (by rw [ByteArray.size_append]; show 2 + _ ≤ _; omega)) R3
  have V4 := fun w => worth_yes (⟨#[48, 88]⟩ ++ t16 ++ ⟨#[76, 76, 85]⟩) n true w (small_len (by rw [ByteArray.size_append, ByteArray.size_append]; show 2 + _ + 3 ≤ _; omega)) R4
  clear R1 R2 R3 R4
  by_cases hg : 9223372036854775807 < n
  · rw [if_pos hg] at T
    rw [T] at N10
    rw [decide_eq_true hg] at V2 V3
    have i1 : (9223372036854775807 : Int) < (n : Int) := by omega
    clear T hg
    go_enter Try.func5, Try.ntmps5
    go_wp2_with fail
    refine A.mono ?_
    rintro e w1 ⟨rfl, hb1⟩
    go_wp2_with fail
    refine (W10 _).mono ?_
    rintro e w2 ⟨rfl, k1, rfl⟩
    go_wp2_with fail
    refine (N10 _).mono ?_
    rintro e w3 ⟨rfl, hb3⟩
    go_wp2_with fail
    refine (V1 _).mono ?_
    rintro e w4 ⟨rfl, hb4⟩
    go_wp2_with fail
    refine (W8 _).mono ?_
    rintro e w5 ⟨rfl, k2, rfl⟩
    go_wp2_with fail
    refine (V2 _).mono ?_
    rintro e w6 ⟨rfl, hb6⟩
    go_wp2_with fail
    refine (W16 _).mono ?_
    rintro e w7 ⟨rfl, k3, rfl⟩
    go_wp2_with fail
    refine (V3 _).mono ?_
    rintro e w8 ⟨rfl, hb8⟩
    go_wp2_with fail
    refine (W16 _).mono ?_
    rintro e w9 ⟨rfl, k4, rfl⟩
    go_wp2_with fail
    refine (V4 _).mono ?_
    rintro e wA ⟨rfl, hbA⟩
    go_wp2
    go_ret
    have h2 := below_drewN hb1 k1
    have h3 := h2.trans (hb3.mono h2.size)
    have h4 := h3.trans (hb4.mono h3.size)
    have h5 := below_drewN h4 k2
    have h6 := h5.trans (hb6.mono h5.size)
    have h7 := below_drewN h6 k3
    have h8 := h7.trans (hb8.mono h7.size)
    have h9 := below_drewN h8 k4
    exact ⟨rfl, h9.trans (hbA.mono h9.size)⟩
  · rw [if_neg hg] at T
    have V0 := fun w => worth_yes t10 n false w (small_len (by omega)) (intR_some T)
    rw [decide_eq_false hg] at V2 V3
    have i1 : ¬ (9223372036854775807 : Int) < (n : Int) := by omega
    clear T hg N10
    go_enter Try.func5, Try.ntmps5
    go_wp2_with fail
    refine A.mono ?_
    rintro e w1 ⟨rfl, hb1⟩
    go_wp2_with fail
    refine (W10 _).mono ?_
    rintro e w2 ⟨rfl, k1, rfl⟩
    go_wp2_with fail
    refine (V0 _).mono ?_
    rintro e w3 ⟨rfl, hb3⟩
    go_wp2_with fail
    refine (V1 _).mono ?_
    rintro e w4 ⟨rfl, hb4⟩
    go_wp2_with fail
    refine (W8 _).mono ?_
    rintro e w5 ⟨rfl, k2, rfl⟩
    go_wp2_with fail
    refine (V2 _).mono ?_
    rintro e w6 ⟨rfl, hb6⟩
    go_wp2_with fail
    refine (W16 _).mono ?_
    rintro e w7 ⟨rfl, k3, rfl⟩
    go_wp2_with fail
    refine (V3 _).mono ?_
    rintro e w8 ⟨rfl, hb8⟩
    go_wp2_with fail
    refine (W16 _).mono ?_
    rintro e w9 ⟨rfl, k4, rfl⟩
    go_wp2_with fail
    refine (V4 _).mono ?_
    rintro e wA ⟨rfl, hbA⟩
    go_wp2
    go_ret
    have h2 := below_drewN hb1 k1
    have h3 := h2.trans (hb3.mono h2.size)
    have h4 := h3.trans (hb4.mono h3.size)
    have h5 := below_drewN h4 k2
    have h6 := h5.trans (hb6.mono h5.size)
    have h7 := below_drewN h6 k3
    have h8 := h7.trans (hb8.mono h7.size)
    have h9 := below_drewN h8 k4
    exact ⟨rfl, h9.trans (hbA.mono h9.size)⟩

end Go.Proofs.Ytenmapahigbbeaa
