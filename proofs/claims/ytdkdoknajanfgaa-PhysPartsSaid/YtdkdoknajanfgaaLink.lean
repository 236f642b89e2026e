/- The parts of a text and its suffixes. -/
import Derived.Test.YtdkdoknajanfgaaMath
import Derived.Test.YtdkdoknajanfgaaAlive
import Derived.Test.YtdkdoknajanfgaaSplices
namespace Go.Proofs.Ytdkdoknajanfgaa
open Go.RowKit

theorem drop_ne {l : List UInt8} {k : Nat} (hk : k < l.length) : l.drop k ≠ [] := fun h => by
  have := List.drop_eq_nil_iff.1 h; omega

theorem partsFrom_cons {l : List UInt8} {k : Nat} (hk : k < l.length) : partsFrom l k = partAt l k :: partsFrom l (k + partN (l.drop k)) := by
  rw [partsFrom, dif_pos hk]
theorem partsFrom_end {l : List UInt8} {k : Nat} (hk : ¬ k < l.length) : partsFrom l k = [] := by
  rw [partsFrom, dif_neg hk]

theorem chB_cons (p : Part) (ps : List Part) : chB (p :: ps) = (if p.sp then [] else [p.b]) ++ chB ps := by
  cases h : p.sp <;> simp [chB, chs, h]
theorem sps_cons (p : Part) (ps : List Part) : (sps (p :: ps)).length = (if p.sp then 1 else 0) + (sps ps).length := by
  cases h : p.sp <;> simp [sps, h]
  omega

theorem chB_lg {l : List UInt8} : ∀ (m k : Nat), l.length - k = m → chB (partsFrom l k) = lg (l.drop k) := by
  intro m
  induction m using Nat.strongRecOn with
  | ind m ih =>
    intro k hm
    by_cases hk : k < l.length
    · have hp := partN_pos (l.drop k)
      rw [partsFrom_cons hk, chB_cons, lg_cons (drop_ne hk), List.drop_drop, ih (l.length - (k + partN (l.drop k))) (by omega) _ rfl]
      simp only [partAt, partB]
      by_cases h : isSplice (l.drop k) = true <;> simp [h]
    · rw [partsFrom_end hk, List.drop_eq_nil_of_le (by omega), lg_nil]; rfl

theorem sps_ns {l : List UInt8} : ∀ (m k : Nat), l.length - k = m → (sps (partsFrom l k)).length = ns (l.drop k) := by
  intro m
  induction m using Nat.strongRecOn with
  | ind m ih =>
    intro k hm
    by_cases hk : k < l.length
    · have hp := partN_pos (l.drop k)
      rw [partsFrom_cons hk, sps_cons, ns_cons (drop_ne hk), List.drop_drop, ih (l.length - (k + partN (l.drop k))) (by omega) _ rfl]
      rfl
    · rw [partsFrom_end hk, List.drop_eq_nil_of_le (by omega), ns_nil]; rfl

theorem last_wl {l : List UInt8} : ∀ (m k : Nat), l.length - k = m → k < l.length → ∃ p, (partsFrom l k).getLast? = some p ∧ (!p.sp && p.b == 10) = wl (l.drop k) := by
  intro m
  induction m using Nat.strongRecOn with
  | ind m ih =>
    intro k hm hk
    have hp := partN_pos (l.drop k)
    rw [partsFrom_cons hk, wl_cons (drop_ne hk), List.drop_drop]
    by_cases hk2 : k + partN (l.drop k) < l.length
    · obtain ⟨p, h1, h2⟩ := ih (l.length - (k + partN (l.drop k))) (by omega) _ rfl hk2
      refine ⟨p, ?_, ?_⟩
      · rw [List.getLast?_cons, h1]; rfl
      · rw [if_neg (drop_ne hk2)]; exact h2
    · refine ⟨partAt l k, by rw [partsFrom_end hk2]; rfl, ?_⟩
      rw [if_pos (List.drop_eq_nil_of_le (by omega))]
      simp only [partAt, partB]
      by_cases h : isSplice (l.drop k) = true <;> simp [h]

theorem wellB_wl (l : List UInt8) : wellB l = wl l := by
  by_cases h : 0 < l.length
  · obtain ⟨p, h1, h2⟩ := last_wl (l := l) _ 0 rfl h
    unfold wellB parts
    rw [h1]
    exact h2
  · have : l = [] := List.length_eq_zero_iff.1 (by omega)
    subst this
    rw [wl_nil]
    unfold wellB parts
    rw [partsFrom_end (by decide)]; rfl

theorem checkN_ok {l : List UInt8} (h : l.length ≤ 65536) (h2 : wl l = true) : checkN l = 0 := by
  unfold checkN
  rw [if_neg (by omega), wellB_wl, if_pos h2]
theorem checkN_zero {l : List UInt8} (h : checkN l = 0) : l.length ≤ 65536 ∧ wl l = true := by
  unfold checkN at h
  by_cases hl : 65536 < l.length
  · rw [if_pos hl] at h; exact absurd h (by decide)
  · rw [if_neg hl, wellB_wl] at h
    refine ⟨by omega, ?_⟩
    cases hw : wl l with
    | true => rfl
    | false => rw [hw] at h; exact absurd h (by decide)

theorem logicalOf_lg {l : List UInt8} (h : checkN l = 0) : logicalOf l = lg l := by
  rw [logicalOf_ok h, parts, chB_lg _ 0 rfl]; rfl
theorem splicesOf_ns {l : List UInt8} (h : checkN l = 0) : (splicesOf l).length = ns l := by
  rw [splicesOf_ok h, parts, sps_ns _ 0 rfl]; rfl

/-- WHAT IS SPELT, CHECKED AND READ. -/
theorem spell_back {l : List UInt8} (h : (spellOut l).2 = 0) : checkN (spellOut l).1 = 0 ∧ logicalOf (spellOut l).1 = l ∧ (spellOut l).1.length = l.length + 2 * (splicesOf (spellOut l).1).length := by
  unfold spellOut at h ⊢
  by_cases h1 : 65536 < l.length
  · rw [if_pos h1] at h; exact absurd h (by decide)
  · rw [if_neg h1] at h ⊢
    by_cases h2 : endsTen l = false
    · rw [if_pos h2] at h; exact absurd h (by decide)
    · rw [if_neg h2] at h ⊢
      by_cases h3 : 65536 < (spellUpto l l.length).length
      · rw [if_pos h3] at h; exact absurd h (by decide)
      · rw [if_neg h3]
        simp only
        rw [spellUpto_all] at h3 ⊢
        obtain ⟨r1, r2, r3⟩ := spl_reads l
        have hw : wl (spl l) = true := by
          by_cases hl : l = []
          · subst hl; exact wl_nil
          · refine r3 hl ?_
            simp only [endsTen, Bool.not_eq_false, Bool.or_eq_true, beq_iff_eq] at h2
            exact h2.resolve_left hl
        have hc := checkN_ok (by omega) hw
        refine ⟨hc, ?_, ?_⟩
        · rw [logicalOf_lg hc, r1]
        · rw [splicesOf_ns hc]; exact r2

end Go.Proofs.Ytdkdoknajanfgaa
