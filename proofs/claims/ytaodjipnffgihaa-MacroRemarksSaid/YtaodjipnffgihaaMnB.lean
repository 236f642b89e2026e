/- The law's alive and refused; what its literal texts define. -/
import Derived.Test.YtaodjipnffgihaaMyG
import Derived.Test.YtaodjipnffgihaaTxE
namespace Go.Proofs.Ytaodjipnffgihaa
open Go.RowKit Go.Shelf

/-- Reckoned by fuel. -/
def definedF (l : List UInt8) : Option Mz := if scanErrF l = 0 then oneD (rowsS (tksF l)) else none
theorem definedS_F (s : ByteArray) : definedS s = definedF s.data.toList := by
  unfold definedS rowsT definedF; rw [scanErr_F, tks_F]
def isMz (m : Mz) : Option Mz → Bool
  | some x => sameM x m
  | none => false
theorem defd_is {s : ByteArray} {m : Mz} (h : isMz m (definedF s.data.toList) = true) : definedS s = some m := by
  rw [definedS_F]
  cases hd : definedF s.data.toList with
  | none => rw [hd] at h; cases h
  | some x => rw [hd] at h; rw [sameM_eq h]
/-- Is a line no definition? -/
def refB (l : List UInt8) : Bool := decide (scanErrF l = 0) && (rowsS (tksF l)).length == 1 && (definedF l).isNone
theorem refB_is {s : ByteArray} (h : refB s.data.toList = true) : definedS s = none ∧ ldE s = 50 := by
  unfold refB at h
  simp only [Bool.and_eq_true, decide_eq_true_eq, beq_iff_eq] at h
  obtain ⟨⟨h1, h2⟩, h3⟩ := h
  refine ⟨by rw [definedS_F]; exact Option.isNone_iff_eq_none.1 h3, ?_⟩
  unfold ldE rowsT
  rw [scanErr_F, tks_F, if_pos ⟨h1, h2⟩]
theorem catTx (a b : ByteArray) : (a ++ b).data.toList = a.data.toList ++ b.data.toList := by rw [ByteArray.data_append, Array.toList_append]
def hashDef : List UInt8 := [35, 100, 101, 102, 105, 110, 101, 32]
theorem refT (s : ByteArray) (h : refB (hashDef ++ s.data.toList ++ [10]) = true) : refB ((⟨#[35, 100, 101, 102, 105, 110, 101, 32]⟩ : ByteArray) ++ s ++ ⟨#[10]⟩).data.toList = true := by
  rw [catTx, catTx]; exact h

set_option maxRecDepth 100000 in
set_option maxHeartbeats 4000000 in
theorem refused_any (s : ByteArray) (w : World) (hs : s.size ≤ 65536) (hL : LibVar w) (h : refB (hashDef ++ s.data.toList ++ [10]) = true) :
    Calls Try.prog 16 #[.string s] w fun e w' => e = .returned (.bool true) ∧ Below w.heap.size w w' := by
  obtain ⟨h1, h2⟩ := refB_is (refT s h)
  have CL := ldefined_any ((⟨#[35, 100, 101, 102, 105, 110, 101, 32]⟩ : ByteArray) ++ s ++ ⟨#[10]⟩) w (by
    rw [ByteArray.size_append, ByteArray.size_append]
    have e1 : (⟨#[35, 100, 101, 102, 105, 110, 101, 32]⟩ : ByteArray).size = 8 := rfl
    have e2 : (⟨#[10]⟩ : ByteArray).size = 1 := rfl
    unfold maxLen; omega) hL
  rw [h1, h2] at CL
  have e0 : sameM ⟨⟨#[]⟩, false, [], false, []⟩ ⟨⟨#[]⟩, false, [], false, []⟩ = true := sameM_self _
  have CM := fun (W : World) => same_mz ⟨⟨#[]⟩, false, [], false, []⟩ ⟨⟨#[]⟩, false, [], false, []⟩ none none none none 0 0 0 0 W (Nat.zero_le _) (Nat.zero_le _) (Nat.zero_le _) (Nat.zero_le _) (fun hp => absurd hp (Nat.lt_irrefl 0)) (fun hp => absurd hp (Nat.lt_irrefl 0)) (fun hp => absurd hp (Nat.lt_irrefl 0)) (fun hp => absurd hp (Nat.lt_irrefl 0))
  rw [e0] at CM
  clear h h1 h2 e0
  go_enter Try.func16, Try.ntmps16
  go_wp2_with fail
  refine CL.mono ?_
  rintro e w1 ⟨rfl, hb1⟩
  have hbM := below1 w1 (.cells #[.string ⟨#[]⟩, .bool false, .slice none 0 0, .bool false, .slice none 0 0] 26)
  have hM := MzBox.new w1 (.string ⟨#[]⟩) (.bool false) (.slice none 0 0) (.bool false) (.slice none 0 0)
  have hB2 := hb1.trans (hbM.mono hb1.size)
  obtain ⟨z0, z1, z2, z3, z4, -, -, -, -, -⟩ := hM.facts
  clear CL
  go_wp2_with fail
  refine (CM _).mono ?_
  rintro e w2 ⟨rfl, hb2⟩
  clear CM z0 z1 z2 z3 z4
  go_wp2
  go_ret
  exact ⟨rfl, hB2.trans (hb2.mono hB2.size)⟩

theorem mn_alive : definedS ⟨#[35, 100, 101, 102, 105, 110, 101, 32, 70, 40, 97, 44, 32, 98, 41, 32, 97, 32, 35, 35, 32, 98, 10]⟩ = some ⟨⟨#[70]⟩, true, [⟨#[97]⟩, ⟨#[98]⟩], false, [⟨1, ⟨#[97]⟩, false, []⟩, ⟨5, ⟨#[35, 35]⟩, true, []⟩, ⟨1, ⟨#[98]⟩, true, []⟩]⟩ := defd_is (by decide +kernel)

set_option maxRecDepth 100000 in
set_option maxHeartbeats 4000000 in
theorem alive5_any (w : World) (hL : LibVar w) : Calls Try.prog 18 #[] w fun e w' => e = .returned (.bool true) ∧ Below w.heap.size w w' := by
  have CL := ldefined_any ⟨#[35, 100, 101, 102, 105, 110, 101, 32, 70, 40, 97, 44, 32, 98, 41, 32, 97, 32, 35, 35, 32, 98, 10]⟩ w (by decide) hL
  rw [mn_alive] at CL
  go_enter Try.func18, Try.ntmps18
  go_wp2_with fail
  refine CL.mono ?_
  rintro e w1 ⟨⟨v, u, rfl, hr1, hr2⟩, hb1⟩
  obtain ⟨va, vc, rfl⟩ := row_shape hr1
  obtain ⟨ua, uc, rfl⟩ := row_shape hr2
  obtain ⟨g, rfl, hg, hcg⟩ := row_pos (by decide) hr1
  obtain ⟨k, rfl, hk, hck⟩ := row_pos (by decide) hr2
  clear CL hr1 hr2
  have hbM := below1 w1 (.cells #[.string ⟨#[70]⟩, .bool true, .slice (some ⟨g, 0, none⟩) 2 vc, .bool false, .slice (some ⟨k, 0, none⟩) 3 uc] 26)
  have hM := MzBox.new w1 (.string ⟨#[70]⟩) (.bool true) (.slice (some ⟨g, 0, none⟩) 2 vc) (.bool false) (.slice (some ⟨k, 0, none⟩) 3 uc)
  have hB2 := hb1.trans (hbM.mono hb1.size)
  have p1 := (hbM.cell (p := ⟨g, 1, none⟩) hg).trans (hcg 1 _ rfl)
  have q5 := (hbM.cell (p := ⟨k, 5, none⟩) hk).trans (hck 5 _ rfl)
  have q2 := (hbM.cell (p := ⟨k, 2, none⟩) hk).trans (hck 2 _ rfl)
  have q6 := (hbM.cell (p := ⟨k, 6, none⟩) hk).trans (hck 6 _ rfl)
  obtain ⟨z0, z1, z2, z3, z4, -, -, -, -, -⟩ := hM.facts
  clear hcg hck hbM
  go_wp2
  go_ret
  exact ⟨rfl, hB2⟩

end Go.Proofs.Ytaodjipnffgihaa
