/- The law LinesAlike: its walk, out of what lines.Alike answers. -/
import Derived.Test.YtpomcdolpmbhdaaAlikeR
import Derived.Test.YtpomcdolpmbhdaaLDepths
namespace Go.Proofs.Ytpomcdolpmbhdaa
open Go.RowKit

/-- What lines.Alike must answer (to be proved of the program). -/
def AlikeOk : Prop := ∀ (n1 n2 c1 c2 : Nat) (a1 a2 : Option Addr) (keep : Bool) (w : World) (rs qs : List Rz), rs.length = n1 → qs.length = n2 → n1 * 48 ≤ 140737488355328 → n2 * 48 ≤ 140737488355328 → n2 ≤ c2 →
    (∀ r ∈ rs, r.ts.length * 48 ≤ 140737488355328 ∧ ∀ t ∈ r.ts, t.tx.size ≤ 140737488355328) → (∀ r ∈ qs, r.ts.length * 48 ≤ 140737488355328 ∧ ∀ t ∈ r.ts, t.tx.size ≤ 140737488355328) → RzIn w a1 rs → RzIn w a2 qs →
    Calls Try.prog 19 #[.slice a1 n1 c1, .slice a2 n2 c2, .bool keep] w fun e w' => e = .returned (.bool (alikeS rs qs keep)) ∧ Below w.heap.size w w'

theorem toksAl_refl (s : Bool) : ∀ (l : List Tz) (k : Nat), toksAl s k l l = true
  | [], _ => rfl
  | t :: l, k => by
    rw [toksAl, toksAl_refl s l (k + 1), Bool.and_true]
    unfold tokAl
    simp
theorem rowsAl_refl (keep : Bool) : ∀ l : List Rz, rowsAl keep l l = true
  | [] => rfl
  | r :: l => by
    rw [rowsAl, rowsAl_refl keep l, Bool.and_true]
    unfold rowAl
    rw [toksAl_refl]
    simp
theorem alike_refl (rs : List Rz) (keep : Bool) : alikeS rs rs keep = true := by
  unfold alikeS
  rw [rowsAl_refl]
  simp

set_option maxRecDepth 100000 in
set_option maxHeartbeats 4000000 in
theorem alike_law (HP : AlikeOk) (n1 n2 c1 c2 : Nat) (a1 a2 : Option Addr) (keep : Bool) (w : World) (rs qs : List Rz) (hn1 : rs.length = n1) (hn2 : qs.length = n2) (hb1 : n1 * 48 ≤ 140737488355328) (hb2 : n2 * 48 ≤ 140737488355328)
    (ht1 : ∀ r ∈ rs, r.ts.length * 48 ≤ 140737488355328 ∧ ∀ t ∈ r.ts, t.tx.size ≤ 140737488355328) (ht2 : ∀ r ∈ qs, r.ts.length * 48 ≤ 140737488355328 ∧ ∀ t ∈ r.ts, t.tx.size ≤ 140737488355328) (hT1 : RzIn w a1 rs) (hT2 : RzIn w a2 qs) (hc1 : n1 ≤ c1) :
    Calls Try.prog 5 #[.slice a1 n1 c1, .slice a2 n2 c2, .bool keep] w fun e w' => e = .returned (.bool true) ∧ Below w.heap.size w w' := by
  have T1 := twin_any n1 c1 a1 w hb1 rs hn1 (fun r h => (ht1 r h).1) (by rw [← hn1]; exact hT1)
  have T2 := fun (w' : World) (hb : Below w.heap.size w w') => twin_any n2 c2 a2 w' hb2 qs hn2 (fun r h => (ht2 r h).1) (by rw [← hn2]; exact hT2.below hb)
  have P1 := fun (b1 b2 : Option Addr) (d1 d2 : Nat) (w' : World) (hd : n2 ≤ d2) (h1 : RzIn w' b1 rs) (h2 : RzIn w' b2 qs) => HP n1 n2 d1 d2 b1 b2 keep w' rs qs hn1 hn2 hb1 hb2 hd ht1 ht2 h1 h2
  have P2 := fun (b1 b2 : Option Addr) (d1 d2 : Nat) (w' : World) (hd : n1 ≤ d2) (h1 : RzIn w' b1 rs) (h2 : RzIn w' b2 rs) => HP n1 n1 d1 d2 b1 b2 keep w' rs rs hn1 hn1 hb1 hb1 hd ht1 ht1 h1 h2
  have R1 := fun (w' : World) (hb : Below w.heap.size w w') => rAlike_any n1 n2 c1 c2 a1 a2 keep w' rs qs hn1 hn2 hb1 hb2 (fun r h => (ht1 r h).1) (fun r h => (ht2 r h).1) (hT1.below hb) (hT2.below hb)
  have S1 := fun (b1 : Option Addr) (d1 : Nat) (w' : World) (h1 : RzIn w' b1 rs) (hb : Below w.heap.size w w') => rsame_any rs n1 d1 c1 b1 a1 w' hn1 hb1 (fun r h => (ht1 r h).1) h1 (hT1.below hb)
  have S2 := fun (b1 : Option Addr) (d1 : Nat) (w' : World) (h1 : RzIn w' b1 qs) (hb : Below w.heap.size w w') => rsame_any qs n2 d1 c2 b1 a2 w' hn2 hb2 (fun r h => (ht2 r h).1) h1 (hT2.below hb)
  have HT1 := Lib.hid hT1
  have HN1 := Lib.hid hn1
  have HN2 := Lib.hid hn2
  rw [alike_refl] at P2
  obtain ⟨R, hR⟩ : ∃ R, alikeS rs qs keep = R := ⟨_, rfl⟩
  rw [hR] at P1 R1
  clear hT1 hT2 ht1 ht2 hn1 hn2 HP hR
  go_enter Try.func5, Try.ntmps5
  go_wp2_with fail
  refine T1.mono ?_
  rintro e w1 ⟨⟨v1, vs1, rfl, ho1⟩, hw1⟩
  obtain ⟨x1, d1, rfl, hi1⟩ := twin_in ho1
  rw [HN1.out]
  have HI1 := Lib.hid hi1
  clear ho1 hi1 T1
  go_wp2_with fail
  refine (T2 _ hw1).mono ?_
  rintro e w2 ⟨⟨v2, vs2, rfl, ho2⟩, hw2⟩
  obtain ⟨x2, d2, rfl, hi2⟩ := twin_in ho2
  have hcx : n2 ≤ d2 := by have := row_cap2 ho2.row; rw [HN2.out] at this; exact this
  rw [HN2.out]
  have HI2 := Lib.hid hi2
  have hB2 := hw1.trans (hw2.mono hw1.size)
  clear ho2 hi2 T2
  go_wp2_with fail
  refine (P1 _ _ _ _ _ hcx (HI1.out.below hw2) HI2.out).mono ?_
  rintro e w3 ⟨rfl, hw3⟩
  have hB3 := hB2.trans (hw3.mono hB2.size)
  have h13 : Below w1.heap.size w1 w3 := hw2.trans (hw3.mono hw2.size)
  clear P1
  go_wp2_with fail
  refine (P2 _ _ _ _ _ hc1 (HI1.out.below h13) (HT1.out.below hB3)).mono ?_
  rintro e w4 ⟨rfl, hw4⟩
  have hB4 := hB3.trans (hw4.mono hB3.size)
  have h14 : Below w1.heap.size w1 w4 := h13.trans (hw4.mono h13.size)
  have h24 : Below w2.heap.size w2 w4 := hw3.trans (hw4.mono hw3.size)
  clear P2
  go_wp2_with fail
  refine (R1 _ hB4).mono ?_
  rintro e w5 ⟨rfl, hw5⟩
  have hB5 := hB4.trans (hw5.mono hB4.size)
  have h15 : Below w1.heap.size w1 w5 := h14.trans (hw5.mono h14.size)
  have h25 : Below w2.heap.size w2 w5 := h24.trans (hw5.mono h24.size)
  clear R1
  go_wp2_with fail
  refine (S1 _ _ _ (HI1.out.below h15) hB5).mono ?_
  rintro e w6 ⟨rfl, q, rfl⟩
  go_wp2_with fail
  refine (S2 _ _ _ (HI2.out.below (below_drewN h25 q)) (below_drewN hB5 q)).mono ?_
  rintro e w7 ⟨rfl, q2, rfl⟩
  go_wp2
  go_ret
  exact ⟨by simp, below_drewN hB5 _⟩

end Go.Proofs.Ytpomcdolpmbhdaa
