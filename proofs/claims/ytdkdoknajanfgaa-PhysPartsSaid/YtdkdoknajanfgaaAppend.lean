/- Two texts, one behind the other: on lists of bytes. -/
import Derived.Test.YtdkdoknajanfgaaInsert
namespace Go.Proofs.Ytdkdoknajanfgaa

def shift (n : Nat) (p : Part) : Part := { p with at' := p.at' + n }

theorem tri_well {x b : List UInt8} (hw : wl x = true) (hx : x ≠ []) : tri (x ++ []) = tri (x ++ b) := by
  rcases Nat.lt_or_ge x.length 3 with h | h
  · match x, hx, h, hw with
    | [c], _, _, hw =>
      have hn : tri [c] = none := rfl
      rw [wl_plain hn (by simp), if_pos rfl, beq_iff_eq] at hw
      subst hw
      match b with
      | [] => rfl
      | [_] => rfl
      | _ :: _ :: _ => simp [tri]
    | [c, d], _, _, hw =>
      match b with
      | [] => rfl
      | e :: r =>
        have hn : tri [c, d] = none := rfl
        by_cases h2 : c = 63 ∧ d = 63
        · obtain ⟨rfl, rfl⟩ := h2
          rw [wl_plain hn (by simp), if_neg (by simp), wl_plain rfl (by simp), if_pos rfl] at hw
          simp at hw
        · simp [tri, h2]
    | _ :: _ :: _ :: _, _, h, _ => simp at h; omega
  · exact tri_same h

theorem well_same {x : List UInt8} (b : List UInt8) (hw : wl x = true) (hx : x ≠ []) :
    isSplice (x ++ b) = isSplice x ∧ charB (x ++ b) = charB x ∧ partN (x ++ b) = partN x := by
  have := part_same (x := x) (y := []) (z := b) hx (tri_well hw hx) (by rw [List.append_nil]; exact partN_le hx) ?_
  · rwa [List.append_nil] at this
  · rw [List.append_nil]
    intro h1 h2 _
    have hs : isSplice x = false := by
      cases hc : isSplice x with
      | false => rfl
      | true =>
        simp only [isSplice, Bool.and_eq_true, beq_iff_eq] at hc
        rw [h1, List.drop_length] at hc
        simp at hc
    have hp : partN x = x.length := by unfold partN; rw [hs]; simpa using h1
    rw [wl_cons hx, hp, List.drop_length, if_pos rfl, h2, hs] at hw
    simp at hw

theorem well_next {x : List UInt8} (hw : wl x = true) (hx : x ≠ []) : wl (x.drop (partN x)) = true := by
  by_cases h : x.drop (partN x) = []
  · rw [h, wl_nil]
  · rw [wl_cons hx, if_neg h] at hw; exact hw

theorem wl_append {b : List UInt8} (hb : wl b = true) (x : List UInt8) (hw : wl x = true) : wl (x ++ b) = true := by
  by_cases hx : x = []
  · subst hx; exact hb
  · obtain ⟨s1, s2, s3⟩ := well_same b hw hx
    have e : (x ++ b).drop (partN x) = x.drop (partN x) ++ b := List.drop_append_of_le_length (partN_le hx)
    have ih := wl_append hb (x.drop (partN x)) (well_next hw hx)
    rw [wl_cons (by simp [hx]), s1, s2, s3, e]
    by_cases h : x.drop (partN x) ++ b = []
    · rw [if_pos h]
      have := List.append_eq_nil_iff.1 h
      rw [wl_cons hx, if_pos this.1] at hw
      exact hw
    · rw [if_neg h]; exact ih
termination_by x.length
decreasing_by exact part_drop_lt hx

theorem parts_append {a b : List UInt8} : ∀ (m k : Nat), a.length - k = m → k ≤ a.length → wl (a.drop k) = true → partsFrom (a ++ b) k = partsFrom a k ++ partsFrom (a ++ b) a.length := by
  intro m
  induction m using Nat.strongRecOn with
  | ind m ih =>
    intro k hm hle hw
    by_cases hk : k < a.length
    · have hx := drop_ne hk
      obtain ⟨s1, s2, s3⟩ := well_same b hw hx
      have e : (a ++ b).drop k = a.drop k ++ b := List.drop_append_of_le_length hle
      have hpos := partN_pos (a.drop k)
      have hpl := partN_le hx
      rw [List.length_drop] at hpl
      have hn := ih (a.length - (k + partN (a.drop k))) (by omega) _ rfl (by omega) (by rw [← List.drop_drop]; exact well_next hw hx)
      have hp : partAt (a ++ b) k = partAt a k := by
        unfold partAt
        rw [e, s1, s3]
        simp only [Part.mk.injEq, and_true]
        unfold partB
        rw [s1, s2]
      rw [partsFrom_cons (l := a ++ b) (by simp; omega), partsFrom_cons hk, e, s3, hp, hn]
      rfl
    · have : k = a.length := by omega
      subst this
      rw [partsFrom_end (l := a) hk, List.nil_append]

theorem parts_shift {a b : List UInt8} : ∀ (m k : Nat), b.length - k = m → partsFrom (a ++ b) (a.length + k) = (partsFrom b k).map (shift a.length) := by
  intro m
  induction m using Nat.strongRecOn with
  | ind m ih =>
    intro k hm
    by_cases hk : k < b.length
    · have hpos := partN_pos (b.drop k)
      have e : (a ++ b).drop (a.length + k) = b.drop k := by simp [List.drop_append]
      have e' : (a ++ b).drop (k + a.length) = b.drop k := by rw [Nat.add_comm]; exact e
      have hn := ih (b.length - (k + partN (b.drop k))) (by omega) _ rfl
      rw [partsFrom_cons (l := a ++ b) (by simp; omega), partsFrom_cons hk, e, Nat.add_assoc, hn]
      simp [partAt, shift, e', Nat.add_comm]
    · rw [partsFrom_end hk, partsFrom_end (by simp; omega)]; rfl

theorem chs_shift (n : Nat) (ps : List Part) : chs (ps.map (shift n)) = (chs ps).map (shift n) := by
  unfold chs
  rw [List.filter_map]
  rfl

theorem chars_append {a b : List UInt8} (ha : checkN a = 0) (hb : checkN b = 0) (h : a.length + b.length ≤ 65536) :
    checkN (a ++ b) = 0 ∧ charsOf (a ++ b) = charsOf a ++ (charsOf b).map (shift a.length) := by
  obtain ⟨_, h1⟩ := checkN_zero ha
  obtain ⟨_, h2⟩ := checkN_zero hb
  have hc : checkN (a ++ b) = 0 := checkN_ok (by simpa using h) (wl_append h2 a h1)
  refine ⟨hc, ?_⟩
  rw [charsOf_ok hc, charsOf_ok ha, charsOf_ok hb]
  unfold parts
  rw [parts_append (a := a) (b := b) _ 0 rfl (Nat.zero_le _) (by rw [List.drop_zero]; exact h1)]
  have := parts_shift (a := a) (b := b) _ 0 rfl
  rw [Nat.add_zero] at this
  rw [this]
  unfold chs
  rw [List.filter_append]
  congr 1
  exact chs_shift _ _

end Go.Proofs.Ytdkdoknajanfgaa
