/- macro.parametersOf: a macro's parameters, with what stands between them and behind them. -/
import Derived.Test.YtaodjipnffgihaaGreatMcT
import Derived.Test.YtaodjipnffgihaaGreatMcP
namespace Go.Proofs.YtaodjipnffgihaaGreat
open Go.RowKit Go.Shelf

def comA : ByteArray := ⟨#[44]⟩
def dotA : ByteArray := ⟨#[46, 46, 46]⟩
/-- Texts with , between them. -/
def commaS : List ByteArray → List ByteArray
  | [] => []
  | p :: r => p :: r.flatMap (fun q => [comA, q])
theorem commaS_snoc (ps : List ByteArray) (p : ByteArray) (h : ps ≠ []) : commaS (ps ++ [p]) = commaS ps ++ [comA] ++ [p] := by
  cases ps with
  | nil => exact absurd rfl h
  | cons q r => simp [commaS]
theorem commaS_one (p : ByteArray) : commaS ([] ++ [p]) = commaS [] ++ [p] := rfl
theorem commaS_len (ps : List ByteArray) : (commaS ps).length ≤ 2 * ps.length := by
  cases ps with
  | nil => exact Nat.le_refl _
  | cons p r =>
    have : ∀ l : List ByteArray, (l.flatMap (fun q => [comA, q])).length = 2 * l.length := by
      intro l
      induction l with
      | nil => rfl
      | cons a l ih => rw [List.flatMap_cons, List.length_append, ih]; simp; omega
    rw [commaS, List.length_cons, this, List.length_cons]; omega
def parsS (m : Mz) : List ByteArray := if m.vr then (if m.ps = [] then [dotA] else commaS m.ps ++ [comA] ++ [dotA]) else commaS m.ps

theorem row_lowerT {w : World} {b b' n : Nat} {e : TypeId} {size : Nat} {v : Value} {xs : List Value} (hb : b' ≤ b) (h : w.ownsRow b e size v n xs) : w.ownsRow b' e size v n xs := by
  refine ⟨h.1, ?_⟩
  rcases h.2 with h1 | ⟨g, cap, cur, h1, h2, h3⟩
  · exact .inl h1
  · exact .inr ⟨g, cap, cur, h1, Nat.le_trans hb h2, h3⟩
set_option maxRecDepth 100000 in
set_option maxHeartbeats 8000000 in
theorem parsOf_any (m : Mz) (pa : Option Addr) (pc : Nat) (v : Value) (w : World) (hn2 : m.ps.length ≤ 1000) (hT : StrIn w pa m.ps) :
    Calls Tryz.prog 28 #[.agg #[.string m.nm, .bool m.fn, .slice pa m.ps.length pc, .bool m.vr, v]] w fun e w' => (∃ v, e = .returned v ∧ w'.ownsRow w.heap.size 9 1 v (parsS m).length (stV (parsS m))) ∧ Below w.heap.size w w' := by
  obtain ⟨i0, hi, hz0, hz1, hz2⟩ := info_parts infoS
  have hb0 := below1 w (.cells #[.string m.nm, .bool m.fn, .slice pa m.ps.length pc, .bool m.vr, v] 25)
  have hk := mcells (w := w) (vs := #[.string m.nm, .bool m.fn, .slice pa m.ps.length pc, .bool m.vr, v]) (t := 25)
  have k2 := hk 2 _ rfl
  have k3 := hk 3 _ rfl
  have hT0 := hT.below hb0
  have hw0 : (w.alloc (.cells #[.string m.nm, .bool m.fn, .slice pa m.ps.length pc, .bool m.vr, v] 25)).heap.size = w.heap.size + 1 := by simp
  obtain ⟨n, hn⟩ : ∃ n, m.ps.length = n := ⟨_, rfl⟩
  rw [hn] at hn2 hb0 k2 k3 hw0 hT0 ⊢
  have HN := Lib.hid hn
  obtain ⟨HP, HP2⟩ : Hid (∀ W, Below (w.heap.size + 1) (w.alloc (.cells #[.string m.nm, .bool m.fn, .slice pa n pc, .bool m.vr, v] 25)) W → StrIn W pa m.ps) ∧ True := ⟨Lib.hid (fun W h => hT0.below (hw0.symm ▸ h)), trivial⟩
  clear HP2 hT hT0 hk hn
  go_enter Tryz.func28, Tryz.ntmps28
  go_wp2
  generalize hw : (w.alloc (.cells #[.string m.nm, .bool m.fn, .slice pa n pc, .bool m.vr, v] 25)) = w0 at *
  clear hw
  have b0 := hw0
  go_loopg [3, 9] n (fun g v i wx => ∃ k r : Nat, k ≤ n ∧ i = .int .i64 k ∧ g = n - k ∧ Hid ((commaS (m.ps.take k)).length = r) ∧ r ≤ 2 * k ∧ wx.ownsRow (w.heap.size + 1) 9 1 v r (stV (commaS (m.ps.take k))) ∧ Below (w.heap.size + 1) w0 wx)
  case atStart => exact ⟨0, 0, Nat.zero_le _, rfl, rfl, Lib.hid rfl, Nat.zero_le _, World.ownsRow_nil _ _ _ _, Below.refl _ _⟩
  case round =>
    obtain ⟨k, r, hk, rfl, rfl, HRL, hr2, hrow, hbx⟩ := hrel
    have x2 := (hbx.cell (p := ⟨w.heap.size, 2, none⟩) (Nat.lt_succ_self _)).trans k2
    have x3 := (hbx.cell (p := ⟨w.heap.size, 3, none⟩) (Nat.lt_succ_self _)).trans k3
    have hBx : w.heap.size + 1 ≤ wr.heap.size := hw0 ▸ hbx.size
    have hl0 := hrow.lt
    by_cases hlt : k < n
    · obtain ⟨p, hp⟩ : ∃ p, m.ps[k]? = some p := ⟨_, List.getElem?_eq_getElem (by rw [HN.out]; exact hlt)⟩
      obtain ⟨b, o, rfl, hg, hr⟩ := HP.out wr hbx (by rw [HN.out]; omega)
      have c0 := hr k p hp
      have HT2 : Hid (m.ps.take (k + 1) = m.ps.take k ++ [p]) := Lib.hid (by rw [List.take_add_one, hp]; rfl)
      have HNE : Hid (k ≠ 0 → m.ps.take k ≠ []) := Lib.hid (fun h e => by
        have := congrArg List.length e
        rw [List.length_take, HN.out] at this
        simp at this; omega)
      have j1 : (k : Int) < (n : Int) := by omega
      have j0 : (0 : Int) ≤ (k : Int) := by omega
      clear hr hp
      by_cases hk0 : k = 0
      · subst hk0
        rw [Nat.add_zero] at c0
        go_wp2_with (first
          | (at_builtin; refine wpList_append_own _ rfl _ _ 22 rfl (w.heap.size + 1) 9 i0 (.string ⟨#[]⟩) 1 16 Tryz.underlying22 hi hz0 hz1 hz2 rfl (by decide) _ _ _ rfl (hrow.alloc _) ⟨wr.heap.size, 0, none⟩ 1 1 [.string p] rfl rfl (cellS_new _ _ _) (by simp [Value.oneCell']) (by unfold maxLen; omega) (by omega) (by have := hbx.size; simp; omega) ?_; intro pv1 u1 own1 hg1 hn3; clear hn3; have hl1 := own1.lt; have hx1 : Below (w.heap.size + 1) w0 u1 := (hbx.alloc (by have := hbx.size; omega) (.cells #[.string p] 9)).grown hg1 (by have := hbx.size; simp; omega) (fun j e => (hl0 j e).1))
          | fail)
        go_roundg (n - (0 + 1))
        case rel =>
          refine ⟨0 + 1, r + 1, by omega, by go_num, rfl, Lib.hid (by rw [HT2.out, List.take_zero, commaS_one, List.length_append, ← HRL.out]; rfl), by omega, ?_, hx1⟩
          rw [HT2.out, List.take_zero, commaS_one, stV_snoc]
          exact own1
        case measure => omega
      · have j2 : (0 : Int) < (k : Int) := by omega
        have HTK : Hid (commaS (m.ps.take (k + 1)) = commaS (m.ps.take k) ++ [comA] ++ [p]) := Lib.hid (by rw [HT2.out, commaS_snoc _ _ (HNE.out hk0)])
        go_wp2_with (first
          | (at_builtin; refine wpList_append_own _ rfl _ _ 22 rfl (w.heap.size + 1) 9 i0 (.string ⟨#[]⟩) 1 16 Tryz.underlying22 hi hz0 hz1 hz2 rfl (by decide) _ _ _ rfl (hrow.alloc _) ⟨wr.heap.size, 0, none⟩ 1 1 [.string ⟨#[44]⟩] rfl rfl (cellS_new _ _ _) (by simp [Value.oneCell']) (by unfold maxLen; omega) (by omega) (by have := hbx.size; simp; omega) ?_; intro pv2 u2 own2 hg2 hn3; clear hn3; have hl2 := own2.lt; have hx2 : Below (w.heap.size + 1) w0 u2 := (hbx.alloc (by have := hbx.size; omega) (.cells #[.string ⟨#[44]⟩] 9)).grown hg2 (by have := hbx.size; simp; omega) (fun j e => (hl0 j e).1))
          | (at_builtin; refine wpList_append_own _ rfl _ _ 22 rfl (w.heap.size + 1) 9 i0 (.string ⟨#[]⟩) 1 16 Tryz.underlying22 hi hz0 hz1 hz2 rfl (by decide) _ _ _ rfl (own2.alloc _) ⟨u2.heap.size, 0, none⟩ 1 1 [.string p] rfl rfl (cellS_new _ _ _) (by simp [Value.oneCell']) (by unfold maxLen; omega) (by omega) (by have := hx2.size; simp; omega) ?_; intro pv3 u3 own3 hg3 hn3; clear hn3; have hl3 := own3.lt; have hx3 : Below (w.heap.size + 1) w0 u3 := (hx2.alloc (by have := hx2.size; omega) (.cells #[.string p] 9)).grown hg3 (by have := hx2.size; simp; omega) (fun j e => (hl2 j e).1))
          | fail)
        go_roundg (n - (k + 1))
        case rel =>
          refine ⟨k + 1, r + 1 + 1, by omega, by go_num, rfl, Lib.hid (by rw [HTK.out, List.length_append, List.length_append, HRL.out]; rfl), by omega, ?_, hx3⟩
          rw [HTK.out, stV_snoc, stV_snoc]
          exact own3
        case measure => omega
    · obtain rfl : k = n := by omega
      have HA : Hid (m.ps.take k = m.ps) := Lib.hid (List.take_of_length_le (by rw [HN.out]; exact Nat.le_refl _))
      rw [HA.out] at hrow HRL
      have j1 : ¬ (k : Int) < (k : Int) := by omega
      cases hvr : m.vr with
      | false =>
        have HS : Hid (parsS m = commaS m.ps) := Lib.hid (by unfold parsS; rw [hvr]; rfl)
        rw [hvr] at x3
        go_wp2
        go_ret
        refine ⟨⟨_, rfl, ?_⟩, hb0.trans (hbx.mono (Nat.le_succ _))⟩
        rw [HS.out, HRL.out]
        exact row_lowerT (Nat.le_succ _) hrow
      | true =>
        rw [hvr] at x3
        by_cases hk0 : k = 0
        · have HS : Hid (parsS m = commaS m.ps ++ [dotA]) := Lib.hid (by
            have e : m.ps = [] := List.length_eq_zero_iff.1 (by rw [HN.out]; exact hk0)
            unfold parsS; rw [hvr, e]; rfl)
          subst hk0
          go_wp2_with (first
            | (at_builtin; refine wpList_append_own _ rfl _ _ 22 rfl (w.heap.size + 1) 9 i0 (.string ⟨#[]⟩) 1 16 Tryz.underlying22 hi hz0 hz1 hz2 rfl (by decide) _ _ _ rfl (hrow.alloc _) ⟨wr.heap.size, 0, none⟩ 1 1 [.string ⟨#[46, 46, 46]⟩] rfl rfl (cellS_new _ _ _) (by simp [Value.oneCell']) (by unfold maxLen; omega) (by omega) (by have := hbx.size; simp; omega) ?_; intro pv4 u4 own4 hg4 hn3; clear hn3; have hl4 := own4.lt; have hx4 : Below (w.heap.size + 1) w0 u4 := (hbx.alloc (by have := hbx.size; omega) (.cells #[.string ⟨#[46, 46, 46]⟩] 9)).grown hg4 (by have := hbx.size; simp; omega) (fun j e => (hl0 j e).1))
            | fail)
          go_ret
          refine ⟨⟨_, rfl, ?_⟩, hb0.trans (hx4.mono (Nat.le_succ _))⟩
          rw [HS.out, List.length_append, HRL.out, stV_snoc]
          exact row_lowerT (Nat.le_succ _) own4
        · have HS : Hid (parsS m = commaS m.ps ++ [comA] ++ [dotA]) := Lib.hid (by
            have e : m.ps ≠ [] := fun e => hk0 (by rw [← HN.out, e]; rfl)
            unfold parsS; rw [hvr, if_pos rfl, if_neg e])
          have j2 : (0 : Int) < (k : Int) := by omega
          go_wp2_with (first
            | (at_builtin; refine wpList_append_own _ rfl _ _ 22 rfl (w.heap.size + 1) 9 i0 (.string ⟨#[]⟩) 1 16 Tryz.underlying22 hi hz0 hz1 hz2 rfl (by decide) _ _ _ rfl (hrow.alloc _) ⟨wr.heap.size, 0, none⟩ 1 1 [.string ⟨#[44]⟩] rfl rfl (cellS_new _ _ _) (by simp [Value.oneCell']) (by unfold maxLen; omega) (by omega) (by have := hbx.size; simp; omega) ?_; intro pv5 u5 own5 hg5 hn3; clear hn3; have hl5 := own5.lt; have hx5 : Below (w.heap.size + 1) w0 u5 := (hbx.alloc (by have := hbx.size; omega) (.cells #[.string ⟨#[44]⟩] 9)).grown hg5 (by have := hbx.size; simp; omega) (fun j e => (hl0 j e).1))
            | (at_builtin; refine wpList_append_own _ rfl _ _ 22 rfl (w.heap.size + 1) 9 i0 (.string ⟨#[]⟩) 1 16 Tryz.underlying22 hi hz0 hz1 hz2 rfl (by decide) _ _ _ rfl (own5.alloc _) ⟨u5.heap.size, 0, none⟩ 1 1 [.string ⟨#[46, 46, 46]⟩] rfl rfl (cellS_new _ _ _) (by simp [Value.oneCell']) (by unfold maxLen; omega) (by omega) (by have := hx5.size; simp; omega) ?_; intro pv6 u6 own6 hg6 hn3; clear hn3; have hl6 := own6.lt; have hx6 : Below (w.heap.size + 1) w0 u6 := (hx5.alloc (by have := hx5.size; omega) (.cells #[.string ⟨#[46, 46, 46]⟩] 9)).grown hg6 (by have := hx5.size; simp; omega) (fun j e => (hl5 j e).1))
            | fail)
          go_ret
          refine ⟨⟨_, rfl, ?_⟩, hb0.trans (hx6.mono (Nat.le_succ _))⟩
          rw [HS.out, List.length_append, List.length_append, HRL.out, stV_snoc, stV_snoc]
          exact row_lowerT (Nat.le_succ _) own6

end Go.Proofs.YtaodjipnffgihaaGreat
