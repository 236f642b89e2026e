/- The stage's theorem, on lists: the joined texts can be spelt, and what is spelt has the same tokens. -/
import Derived.Test.YtoepfehgimhmnaaJoinE
namespace Go.Proofs.Ytoepfehgimhmnaa

theorem log_last {l : List UInt8} (h : checkN l = 0) (hne : logicalOf l ≠ []) : (logicalOf l).getLast? = some 10 := by
  have hw : wellB l = true := by
    unfold checkN at h
    by_cases h1 : 65536 < l.length
    · rw [if_pos h1] at h; exact absurd h (by decide)
    · rw [if_neg h1] at h
      by_cases h2 : wellB l = true
      · exact h2
      · rw [if_neg h2] at h; exact absurd h (by decide)
  rw [logicalOf_ok h] at hne ⊢
  rcases List.eq_nil_or_concat (parts l) with e | ⟨ps, p, e⟩
  · rw [e] at hne; exact absurd rfl hne
  · rw [List.concat_eq_append] at e
    unfold wellB at hw
    rw [e] at hw ⊢
    simp only [List.getLast?_append, List.getLast?_singleton, Option.some_or, Bool.and_eq_true, Bool.not_eq_true', beq_iff_eq] at hw
    rw [chB_yes ps hw.1, hw.2]
    simp

/-- What the law spells. -/
def spaced (s : ByteArray) : List UInt8 := joinL (logicalOf s.data.toList) [] (toks (logicalOf s.data.toList) 0 0).1
theorem joinL_R (L : List UInt8) (ts : List Tk) : (joinL L [] ts).length ≤ (joinR L ts).length ∧ dark (joinL L [] ts) = dark (joinR L ts) := by
  cases ts with
  | nil => exact ⟨Nat.le_refl _, rfl⟩
  | cons t r =>
    have hg := gap_dark t.k
    rw [joinL, joinR, List.nil_append, dark_app (gap t.k), hg.1, Nat.zero_add]
    refine ⟨?_, rfl⟩
    simp only [List.length_append]
    omega

theorem spaced_ok {s : ByteArray} (h : scanErr s = 0) (hz : s.size ≤ 20000) : (spaced s).length ≤ 40000 ∧ (spellOut (spaced s)).2 = 0 ∧ checkN (spellOut (spaced s)).1 = 0 ∧ logicalOf (spellOut (spaced s)).1 = spaced s ∧
    (toks (spaced s) 0 0).2 = 0 ∧ kinds (spaced s) (toks (spaced s) 0 0).1 = kinds (logicalOf s.data.toList) (toks (logicalOf s.data.toList) 0 0).1 := by
  obtain ⟨hc, he⟩ := scan_parts h
  have hLn : (logicalOf s.data.toList).length ≤ 20000 := by
    have h3 := charsOf_len (l := s.data.toList)
    have h4 := charsOf_le s.data.toList
    rw [size_list] at h4
    omega
  have hlast := log_last hc
  unfold spaced
  generalize logicalOf s.data.toList = L at *
  obtain ⟨j1, j2⟩ := join_len (L := L) _ 0 0 (Nat.le_refl _) (Nat.zero_le _)
  obtain ⟨r1, r2⟩ := joinL_R L (toks L 0 0).1
  have hend : endsTen (joinL L [] (toks L 0 0).1) = true := by
    unfold endsTen
    by_cases hL : L = []
    · subst hL
      rw [toks_end (l := []) (e := 0) (st := 0) (Nat.le_refl _) (Nat.zero_le _)]; rfl
    · have hlt : 0 < L.length := by
        cases L with
        | nil => exact absurd rfl hL
        | cons c r => simp
      obtain ⟨_, i2⟩ := join_last (hlast hL) (by decide) _ 0 0 (Nat.le_refl _) hlt he
      cases hts : (toks L 0 0).1 with
      | nil => rfl
      | cons t r =>
        have hw := toks_within (l := L) _ 0 0 (Nat.le_refl _) (Nat.zero_le _) t (by rw [hts]; exact List.mem_cons_self)
        rw [hts, joinR] at i2
        have hne : txt L t ++ joinR L r ≠ [] := fun e => by
          have h8 := congrArg List.length (List.append_eq_nil_iff.1 e).1
          unfold txt at h8
          rw [List.length_drop, List.length_take, List.length_nil] at h8
          omega
        rw [last_app hne] at i2
        rw [joinL, List.nil_append, i2]
        simp
  have hf : (spellOut (joinL L [] (toks L 0 0).1)).2 = 0 := spell_fine (by omega) hend
  obtain ⟨b1, b2⟩ := spell_back hf
  obtain ⟨t1, t2⟩ := toks_join (L := L) (X := joinL L [] (toks L 0 0).1) _ 0 0 (Nat.le_refl _) (Nat.zero_le _) he 0 [] (Nat.zero_le _) (.inl rfl) rfl
  exact ⟨by omega, hf, b1, b2, t1, t2⟩

end Go.Proofs.Ytoepfehgimhmnaa
