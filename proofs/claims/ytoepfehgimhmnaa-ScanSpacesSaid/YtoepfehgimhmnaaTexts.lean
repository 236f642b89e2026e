/- The statements' own texts, alive. -/
import Derived.Test.YtoepfehgimhmnaaScan
import Derived.Test.YtoepfehgimhmnaaOne
import Derived.Test.YtoepfehgimhmnaaFuel
import Derived.BigQuiet
import Derived.Deep.QuietTactic
namespace Go.Proofs.Ytoepfehgimhmnaa
open Go.RowKit Go.Shelf

/-! ### Rows of tokens, element by element -/

theorem ydCells_get {ys : List Yd} {k : Nat} {y : Yd} (h : ys[k]? = some y) (j : Nat) (hj : j < 5) : (ydCells ys)[k * 5 + j]? = (ydCell y)[j]? := by
  induction ys generalizing k with
  | nil => simp at h
  | cons q ys ih =>
    have hc : ydCells (q :: ys) = ydCell q ++ ydCells ys := by simp [ydCells, ydCell]
    cases k with
    | zero =>
      simp only [List.getElem?_cons_zero, Option.some.injEq] at h
      subst h
      rw [hc, List.getElem?_append_left (by simp [ydCell]; omega)]
      simp
    | succ k =>
      simp only [List.getElem?_cons_succ] at h
      rw [hc, List.getElem?_append_right (by simp [ydCell]; omega)]
      have : (k + 1) * 5 + j - (ydCell q).length = k * 5 + j := by simp [ydCell]; omega
      rw [this]
      exact ih h
/-- A row of tokens lies at g. -/
def TokRow (W : World) (g : Nat) (ys : List Yd) : Prop := ∀ i y, ys[i]? = some y → W.cell? ⟨g, i * 5, none⟩ = some (.int .i64 y.k) ∧ W.cell? ⟨g, i * 5 + 1, none⟩ = some (.string y.tx) ∧ W.cell? ⟨g, i * 5 + 2, none⟩ = some (.int .i64 y.a) ∧ W.cell? ⟨g, i * 5 + 3, none⟩ = some (.int .i64 y.e) ∧ W.cell? ⟨g, i * 5 + 4, none⟩ = some (.bool y.sp)
theorem tokRow_of {W : World} {base cap : Nat} {a : Option Addr} {ys : List Yd} (hn : 0 < ys.length) (h : W.ownsRow base 34 5 (.slice a ys.length cap) ys.length (ydCells ys)) : ∃ g, a = some ⟨g, 0, none⟩ ∧ base ≤ g ∧ g < W.heap.size ∧ TokRow W g ys := by
  obtain ⟨g, ha, hg, hc⟩ := row_pos hn h
  subst ha
  refine ⟨g, rfl, (h.lt g rfl).1, hg, fun i y hy => ?_⟩
  exact ⟨hc _ _ (ydCells_get hy 0 (by decide)), hc _ _ (ydCells_get hy 1 (by decide)), hc _ _ (ydCells_get hy 2 (by decide)), hc _ _ (ydCells_get hy 3 (by decide)), hc _ _ (ydCells_get hy 4 (by decide))⟩
theorem TokRow.below {B g : Nat} {W W' : World} {ys : List Yd} (h : TokRow W g ys) (hb : Below B W W') (hg : g < B) : TokRow W' g ys := fun i y hy => by
  have hc : ∀ o, W'.cell? ⟨g, o, none⟩ = W.cell? ⟨g, o, none⟩ := fun o => hb.cell (p := ⟨g, o, none⟩) hg
  rw [hc, hc, hc, hc, hc]
  exact h i y hy

/-- scan.Scan, its row laid open. -/
theorem scan_row (s : ByteArray) (w : World) (hs : s.size ≤ maxLen) (hL : LibVar w) :
    Calls Try.prog 20 #[.string s] w fun e w' => (∃ a cap, e = .returned (.tuple #[.slice a (scanOf s).length cap, .int .i64 (scanErr s)]) ∧ (0 < (scanOf s).length → ∃ g, a = some ⟨g, 0, none⟩ ∧ w.heap.size ≤ g ∧ g < w'.heap.size ∧ TokRow w' g (scanOf s))) ∧ Below w.heap.size w w' := by
  refine (scan_any s w hs hL).mono ?_
  rintro e w' ⟨⟨v, rfl, hr⟩, hb⟩
  obtain ⟨a, cap, rfl⟩ := row_shape hr
  exact ⟨⟨a, cap, rfl, fun hn => tokRow_of hn hr⟩, hb⟩

/-- What 'texts' asks. -/
def textsB (s : ByteArray) (want : List ByteArray) (kinds : ByteArray) : Bool :=
  scanErr s == 0 && (scanOf s).length == want.length && want.length == kinds.size && 0 < want.length && want.length < 1000 &&
    (List.range want.length).all fun i => match (scanOf s)[i]?, want[i]?, kinds.data[i]? with
      | some y, some t, some k => y.tx.data == t.data && y.k + 48 == k.toNat
      | _, _, _ => false

theorem texts_each {s : ByteArray} {want : List ByteArray} {kinds : ByteArray} (h : textsB s want kinds = true) : scanErr s = 0 ∧ (scanOf s).length = want.length ∧ want.length = kinds.size ∧ 0 < want.length ∧ want.length < 1000 ∧
    ∀ i (hi : i < want.length) (hk : i < kinds.size), ∃ y, (scanOf s)[i]? = some y ∧ y.tx = want[i] ∧ (y.k : Int) = (kinds[i].toNat : Int) - 48 := by
  unfold textsB at h
  simp only [Bool.and_eq_true, beq_iff_eq, decide_eq_true_eq, List.all_eq_true, List.mem_range] at h
  obtain ⟨⟨⟨⟨⟨h1, h2⟩, h3⟩, h4⟩, h5⟩, h6⟩ := h
  refine ⟨h1, h2, h3, h4, h5, fun i hi hk => ?_⟩
  have h7 := h6 i hi
  have hw : want[i]? = some want[i] := List.getElem?_eq_getElem hi
  have hkd : kinds.data[i]? = some kinds[i] := by rw [Array.getElem?_eq_getElem hk]; rfl
  rw [hw, hkd] at h7
  cases hy : (scanOf s)[i]? with
  | none => rw [hy] at h7; cases h7
  | some y =>
    rw [hy] at h7
    simp only [Bool.and_eq_true, beq_iff_eq] at h7
    refine ⟨y, rfl, ?_, by omega⟩
    have := h7.1
    cases hyt : y.tx
    cases hwt : want[i]
    rw [hyt, hwt] at this
    simp only at this
    rw [this]

set_option maxRecDepth 100000 in
set_option maxHeartbeats 4000000 in
theorem texts_true (s : ByteArray) (want : List ByteArray) (kinds : ByteArray) (b : Nat) (w : World) (hs : s.size ≤ maxLen) (hL : LibVar w) (hb : b < w.heap.size)
    (hT : ∀ (j : Nat) T, want[j]? = some T → w.cell? ⟨b, j, none⟩ = some (.string T)) (h : textsB s want kinds = true) :
    Calls Try.prog 17 #[.string s, .slice (some ⟨b, 0, none⟩) want.length want.length, .string kinds] w fun e w' => e = .returned (.bool true) ∧ Below w.heap.size w w' := by
  obtain ⟨h1, h2, h3, h4, h5, h6⟩ := texts_each h
  have C := scan_row s w hs hL
  rw [h1, h2] at C
  have H2 := Lib.hid h2
  have H6 := Lib.hid h6
  have HT := Lib.hid hT
  clear h h1 h2 h6 hT
  obtain ⟨n, hn⟩ : ∃ n, want.length = n := ⟨_, rfl⟩
  rw [hn] at C h3 h4 h5 ⊢
  have HN := Lib.hid hn
  clear hn
  go_enter Try.func17, Try.ntmps17
  go_wp2_with fail
  refine C.mono ?_
  rintro e w1 ⟨⟨a, cap, rfl, hrow⟩, hb1⟩
  obtain ⟨g, rfl, hg0, hg1, hrow⟩ := hrow h4
  have HR := Lib.hid hrow
  clear hrow C
  have h3a : n ≤ kinds.size := by omega
  have h3b : kinds.size ≤ n := by omega
  have hbne : ((n : Int) != (kinds.size : Int)) = false := by simp; omega
  clear h3
  go_wp2
  go_loopw [9] (fun i wx => ∃ k : Nat, k ≤ n ∧ i = .int .i64 k ∧ ∃ q, wx = w1.drewN q) (fun i _ => n - (intOf i).toNat)
  case atStart => exact ⟨0, Nat.zero_le _, rfl, 0, rfl⟩
  case round =>
    obtain ⟨k, hk, rfl, q, rfl⟩ := hrel
    by_cases hlt : k < n
    · obtain ⟨y, hy, hyt, hyk⟩ := H6.out k (by rw [HN.out]; exact hlt) (by omega)
      have hTk := HT.out k _ (List.getElem?_eq_getElem (by rw [HN.out]; exact hlt))
      obtain ⟨T, hTd⟩ : ∃ T, want[k]'(by rw [HN.out]; exact hlt) = T := ⟨_, rfl⟩
      rw [hTd] at hTk hyt
      obtain ⟨c0, c1, _⟩ := HR.out k y hy
      rw [hyt] at c1
      rw [hyk] at c0
      have c2 : w1.cell? ⟨b, k, none⟩ = some (.string T) := (hb1.cell (p := ⟨b, k, none⟩) hb).trans hTk
      clear hTk hyt hyk hTd hy
      have hk1 : k < kinds.size := by omega
      have hk2 : (k : Int) < (kinds.size : Int) := by omega
      have hk3 : (0 : Int) ≤ (k : Int) := by omega
      have hk4 : (k : Int) < (n : Int) := by omega
      go_wp2
      go_big_quiet (fail)
      go_wp2
      · exfalso
        have h : ((kinds[k].toNat : Int) - 48 != wrap64 (wrap64 (kinds[k].toNat : Int) - 48)) = true := by assumption
        have hb := kinds[k].toNat_lt
        rw [IntWalk.wrap64_in (kinds[k].toNat : Int) (by omega), IntWalk.wrap64_in ((kinds[k].toNat : Int) - 48) (by omega)] at h
        simp at h
      · refine ⟨⟨k + 1, by omega, by go_num, _, rfl⟩, ?_⟩
        simp [intOf]; omega
    · go_wp2
      go_ret
      exact ⟨rfl, below_drewN hb1 q⟩

/-! ### Concrete texts -/

theorem checkN_fuel (l : List UInt8) : checkN l = if 65536 < l.length then 3 else if (match (partsFuel l.length l 0).getLast? with | none => l == [] | some p => !p.sp && p.b == 10) then 0 else 10 := by
  unfold checkN wellB
  rw [parts_fuel]
  generalize (partsFuel l.length l 0).getLast? = o
  cases o <;> rfl

theorem alive_text : textsB ⟨#[97, 43, 43, 43, 98, 10]⟩ [⟨#[97]⟩, ⟨#[43, 43]⟩, ⟨#[43]⟩, ⟨#[98]⟩, ⟨#[10]⟩] ⟨#[49, 53, 53, 49, 57]⟩ = true := by
  have hc : checkN [97, 43, 43, 43, 98, 10] = 0 := by rw [checkN_fuel]; decide +kernel
  have hl : logicalOf [97, 43, 43, 43, 98, 10] = [97, 43, 43, 43, 98, 10] := by rw [logicalOf_ok hc, parts_fuel]; decide +kernel
  have hch : charsOf [97, 43, 43, 43, 98, 10] = chs (partsFuel 6 [97, 43, 43, 43, 98, 10] 0) := by rw [charsOf_ok hc, parts_fuel]; rfl
  have he : scanErr ⟨#[97, 43, 43, 43, 98, 10]⟩ = 0 := by
    unfold scanErr
    rw [show (⟨#[97, 43, 43, 43, 98, 10]⟩ : ByteArray).data.toList = [97, 43, 43, 43, 98, 10] from rfl, hc, hl]
    decide +kernel
  have hs : scanOf ⟨#[97, 43, 43, 43, 98, 10]⟩ = (toksY ⟨#[97, 43, 43, 43, 98, 10]⟩).map (srcY (chs (partsFuel 6 [97, 43, 43, 43, 98, 10] 0))) := by
    unfold scanOf logB
    rw [if_pos he, show (⟨#[97, 43, 43, 43, 98, 10]⟩ : ByteArray).data.toList = [97, 43, 43, 43, 98, 10] from rfl, hl, hch]
  unfold textsB
  rw [he, hs]
  decide +kernel

set_option maxHeartbeats 400000 in
theorem alive_any (w : World) (hL : LibVar w) :
    Calls Try.prog 16 #[] w fun e w' => e = .returned (.bool true) ∧ Below w.heap.size w w' := by
  have hb1 := below1 w (.cells #[.string ⟨#[97]⟩, .string ⟨#[43, 43]⟩, .string ⟨#[43]⟩, .string ⟨#[98]⟩, .string ⟨#[10]⟩] 9)
  have C := texts_true ⟨#[97, 43, 43, 43, 98, 10]⟩ [⟨#[97]⟩, ⟨#[43, 43]⟩, ⟨#[43]⟩, ⟨#[98]⟩, ⟨#[10]⟩] ⟨#[49, 53, 53, 49, 57]⟩ w.heap.size (w.alloc (.cells #[.string ⟨#[97]⟩, .string ⟨#[43, 43]⟩, .string ⟨#[43]⟩, .string ⟨#[98]⟩, .string ⟨#[10]⟩] 9)) (by unfold maxLen; decide) (libVar_below hb1 hL) (by simp) (fun j T hj => ?_) alive_text
  · have HC := Lib.hid C
    clear C
    go_enter Try.func16, Try.ntmps16
    go_wp2_with (go_at_call 17; refine HC.out.mono ?_; rintro e w1 ⟨rfl, hb2⟩)
    go_ret
    exact ⟨rfl, hb1.trans (hb2.mono (by simp))⟩
  · refine mcells j _ ?_
    match j, hj with
    | 0, hj => cases hj; rfl
    | 1, hj => cases hj; rfl
    | 2, hj => cases hj; rfl
    | 3, hj => cases hj; rfl
    | 4, hj => cases hj; rfl
    | j + 5, hj => simp at hj

end Go.Proofs.Ytoepfehgimhmnaa
