/- A splice more ahead of a character; two texts, one behind the other: on lists of bytes. -/
import Derived.Test.YtdkdoknajanfgaaLink
namespace Go.Proofs.Ytdkdoknajanfgaa

theorem tri_same {x y z : List UInt8} (h : 3 ≤ x.length) : tri (x ++ y) = tri (x ++ z) := by
  match x, h with
  | a :: b :: c :: r, _ => rfl
  | [], h => simp at h
  | [_], h => simp at h
  | [_, _], h => simp at h

theorem head_same {x : List UInt8} (h : x ≠ []) (y z : List UInt8) : (x ++ y).headD 0 = (x ++ z).headD 0 := by
  cases x with
  | nil => exact absurd rfl h
  | cons a r => rfl

theorem getElem_same {x : List UInt8} {n : Nat} (h : n < x.length) (y z : List UInt8) : ((x ++ y).drop n).head? = ((x ++ z).drop n).head? := by
  rw [List.head?_drop, List.head?_drop, List.getElem?_append_left h, List.getElem?_append_left h]

theorem char_same {x y z : List UInt8} (hx : x ≠ []) (ht : tri (x ++ y) = tri (x ++ z)) : charB (x ++ y) = charB (x ++ z) ∧ charN (x ++ y) = charN (x ++ z) := by
  unfold charB charN isTri triOf
  rw [ht, head_same hx y z]
  exact ⟨rfl, rfl⟩

/-- What hangs behind a part makes no difference to it, where it makes none to its trigraph, and is no line's end right behind a backslash. -/
theorem part_same {x y z : List UInt8} (hx : x ≠ []) (ht : tri (x ++ y) = tri (x ++ z)) (hn : partN (x ++ y) ≤ x.length)
    (hz : charN (x ++ y) = x.length → charB (x ++ y) = 92 → z.head? ≠ some 10) :
    isSplice (x ++ z) = isSplice (x ++ y) ∧ charB (x ++ z) = charB (x ++ y) ∧ partN (x ++ z) = partN (x ++ y) := by
  obtain ⟨hb, hcn⟩ := char_same hx ht
  have hle : charN (x ++ y) ≤ x.length := by
    unfold partN at hn
    split at hn <;> omega
  have hs : isSplice (x ++ z) = isSplice (x ++ y) := by
    rcases Nat.lt_or_ge (charN (x ++ y)) x.length with h | h
    · unfold isSplice
      rw [← hb, ← hcn, getElem_same h y z]
    · have he : charN (x ++ y) = x.length := by omega
      have h1 : isSplice (x ++ y) = false := by
        cases hc : isSplice (x ++ y) with
        | false => rfl
        | true => unfold partN at hn; rw [hc] at hn; simp only [if_true] at hn; omega
      rw [h1]
      cases hc : isSplice (x ++ z) with
      | false => rfl
      | true =>
        simp only [isSplice, Bool.and_eq_true, beq_iff_eq] at hc
        rw [← hb, ← hcn, he, List.drop_left] at hc
        exact absurd hc.2 (hz he hc.1)
  exact ⟨hs, hb.symm, by unfold partN; rw [hs, ← hcn]⟩

/-- Behind x a part of x ++ y begins. -/
inductive Bd : List UInt8 → List UInt8 → Prop
  | nil (y : List UInt8) : Bd [] y
  | step (x y : List UInt8) (hx : x ≠ []) (hn : partN (x ++ y) ≤ x.length) (h : Bd (x.drop (partN (x ++ y))) y) : Bd x y

theorem tri_ins {x y : List UInt8} (hx : x ≠ []) (hn : partN (x ++ y) ≤ x.length) : tri (x ++ y) = tri (x ++ 92 :: 10 :: y) := by
  rcases Nat.lt_or_ge x.length 3 with h | h
  · have h1 : isTri (x ++ y) = false := by
      cases hc : isTri (x ++ y) with
      | false => rfl
      | true =>
        have h3 : charN (x ++ y) = 3 := by unfold charN; rw [hc]; rfl
        unfold partN at hn
        rw [h3] at hn
        split at hn <;> omega
    have h2 : tri (x ++ y) = none := by
      cases hc : tri (x ++ y) with
      | none => rfl
      | some c => simp [isTri, hc] at h1
    rw [h2]
    match x, hx, h with
    | [a], _, _ => simp [tri]
    | [a, b], _, _ => simp [tri, third_slash]
    | a :: b :: c :: r, _, h => simp at h; omega
  · exact tri_same h

theorem ins_same {x y : List UInt8} (hx : x ≠ []) (hn : partN (x ++ y) ≤ x.length) :
    isSplice (x ++ 92 :: 10 :: y) = isSplice (x ++ y) ∧ charB (x ++ 92 :: 10 :: y) = charB (x ++ y) ∧ partN (x ++ 92 :: 10 :: y) = partN (x ++ y) :=
  part_same hx (tri_ins hx hn) hn (fun _ _ => by simp)

theorem ins_reads {x y : List UInt8} (h : Bd x y) (hy : y ≠ []) : lg (x ++ 92 :: 10 :: y) = lg (x ++ y) ∧ wl (x ++ 92 :: 10 :: y) = wl (x ++ y) := by
  induction h with
  | nil y =>
    refine ⟨lg_splice y, ?_⟩
    rw [List.nil_append, List.nil_append, wl_splice, if_neg hy]
  | step x y hx hn _ ih =>
    obtain ⟨i1, i2⟩ := ih hy
    obtain ⟨a, b, c⟩ := ins_same hx hn
    have e1 : (x ++ 92 :: 10 :: y).drop (partN (x ++ y)) = x.drop (partN (x ++ y)) ++ 92 :: 10 :: y := List.drop_append_of_le_length hn
    have e2 : (x ++ y).drop (partN (x ++ y)) = x.drop (partN (x ++ y)) ++ y := List.drop_append_of_le_length hn
    constructor
    · rw [lg_cons (by simp), lg_cons (l := x ++ y) (by simp [hx]), a, b, c, e1, e2, i1]
    · rw [wl_cons (by simp), wl_cons (l := x ++ y) (by simp [hx]), a, b, c, e1, e2, i2, if_neg (by simp), if_neg (by simp [hy])]

/-- Where a part stands, a part begins. -/
theorem bd_of_part {l : List UInt8} : ∀ (m k : Nat), l.length - k = m → ∀ p ∈ partsFrom l k, k ≤ p.at' ∧ p.at' < l.length ∧ Bd ((l.take p.at').drop k) (l.drop p.at') := by
  intro m
  induction m using Nat.strongRecOn with
  | ind m ih =>
    intro k hm p hp
    by_cases hk : k < l.length
    · rw [partsFrom_cons hk] at hp
      have hpos := partN_pos (l.drop k)
      rcases List.mem_cons.1 hp with rfl | hp
      · refine ⟨Nat.le_refl _, hk, ?_⟩
        have : (l.take k).drop k = [] := List.drop_eq_nil_of_le (by simp; omega)
        simp only [partAt]
        rw [this]
        exact Bd.nil _
      · obtain ⟨h1, h2, h3⟩ := ih (l.length - (k + partN (l.drop k))) (by omega) _ rfl p hp
        refine ⟨by omega, h2, ?_⟩
        have hxy : (l.take p.at').drop k ++ l.drop p.at' = l.drop k := by
          rw [← List.drop_append_of_le_length (by simp; omega), List.take_append_drop]
        have hlen : ((l.take p.at').drop k).length = p.at' - k := by simp; omega
        refine Bd.step _ _ (fun h0 => ?_) ?_ ?_
        · rw [h0] at hlen; simp at hlen; omega
        · rw [hxy, hlen]; omega
        · rw [hxy, List.drop_drop]; exact h3
    · rw [partsFrom_end hk] at hp; cases hp

/-- A SPLICE MORE, AHEAD OF A CHARACTER. -/
theorem insert_splice {l : List UInt8} (h : checkN l = 0) (hl : l.length + 2 ≤ 65536) {p : Part} (hp : p ∈ parts l) :
    checkN (l.take p.at' ++ 92 :: 10 :: l.drop p.at') = 0 ∧ logicalOf (l.take p.at' ++ 92 :: 10 :: l.drop p.at') = logicalOf l := by
  obtain ⟨_, hw⟩ := checkN_zero h
  obtain ⟨_, h2, h3⟩ := bd_of_part (l := l) _ 0 rfl p hp
  rw [List.drop_zero] at h3
  obtain ⟨r1, r2⟩ := ins_reads h3 (drop_ne h2)
  rw [List.take_append_drop] at r1 r2
  have hc : checkN (l.take p.at' ++ 92 :: 10 :: l.drop p.at') = 0 := checkN_ok (by simp; omega) (by rw [r2]; exact hw)
  exact ⟨hc, by rw [logicalOf_lg hc, logicalOf_lg h, r1]⟩

end Go.Proofs.Ytdkdoknajanfgaa
