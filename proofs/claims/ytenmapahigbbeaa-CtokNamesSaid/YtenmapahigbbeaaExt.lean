/- A token's text, followed by nothing, a blank or a line's end: it is the same token. -/
import Derived.Test.YtenmapahigbbeaaStab
namespace Go.Proofs.Ytenmapahigbbeaa

/-- What follows is nothing, or begins with a blank or a line's end. -/
def Stops (r : List UInt8) : Prop := ∀ c s, r = c :: s → c = 32 ∨ c = 10

theorem runLen_ext {p : UInt8 → Bool} (h32 : p 32 = false) (h10 : p 10 = false) {r : List UInt8} (hr : Stops r) : ∀ x : List UInt8, runLen p (x ++ r) = runLen p x
  | [] => by
    cases r with
    | nil => rfl
    | cons c s =>
      have hp : p c = false := by rcases hr c s rfl with rfl | rfl <;> assumption
      show runLen p (c :: s) = 0
      simp [runLen, hp]
  | c :: x => by
    rw [List.cons_append, runLen, runLen, runLen_ext h32 h10 hr x]
theorem wordLen_ext {r : List UInt8} (hr : Stops r) (x : List UInt8) (hx : x ≠ []) : wordLen (x ++ r) = wordLen x := by
  cases x with
  | nil => exact absurd rfl hx
  | cons c x =>
    rw [List.cons_append, wordLen, wordLen, runLen_ext (by decide) (by decide) hr]

theorem numTail_stop {r : List UInt8} (hr : Stops r) : numTail r = 0 := by
  match r, hr with
  | [], _ => rfl
  | [c], hr => rcases hr c [] rfl with rfl | rfl <;> rfl
  | c :: d :: s, hr =>
    rw [numTail_three]
    rcases hr c _ rfl with rfl | rfl <;> rfl
theorem numTail_ext {r : List UInt8} (hr : Stops r) : ∀ (m : Nat) (x : List UInt8), x.length ≤ m → numTail (x ++ r) = numTail x := by
  intro m
  induction m with
  | zero =>
    intro x hx
    have : x = [] := List.length_eq_zero_iff.1 (by omega)
    subst this
    exact numTail_stop hr
  | succ m ih =>
    intro x hx
    match x, hx with
    | [], _ => exact numTail_stop hr
    | [c], _ =>
      cases r with
      | nil => rfl
      | cons d s =>
        show numTail (c :: d :: s) = _
        rw [numTail_three, numTail_stop hr]
        have hd : isSgn d = false := by rcases hr d s rfl with rfl | rfl <;> rfl
        rw [hd, Bool.and_false, if_neg (by decide)]
        rfl
    | c :: d :: x, hx =>
      simp only [List.length_cons] at hx
      rw [List.cons_append, List.cons_append, numTail_three, numTail_three, ih x (by omega)]
      have := ih (d :: x) (by simp; omega)
      rw [List.cons_append] at this
      rw [this]
theorem numStart_ext {r : List UInt8} (hr : Stops r) (x : List UInt8) (hx : x ≠ []) : numStart (x ++ r) = numStart x := by
  match x, hx with
  | [c], _ =>
    cases r with
    | nil => rfl
    | cons d s =>
      show numStart (c :: d :: s) = numStart [c]
      have hd : isDig d = false := by rcases hr d s rfl with rfl | rfl <;> rfl
      simp only [numStart, hd]
  | c :: d :: x, _ => rfl
theorem numLen_ext {r : List UInt8} (hr : Stops r) (x : List UInt8) (hx : x ≠ []) : numLen (x ++ r) = numLen x := by
  unfold numLen
  have h := numStart_le x
  rw [numStart_ext hr x hx, List.drop_append_of_le_length h, numTail_ext hr _ _ (Nat.le_refl _)]

theorem puncts_stop : ∀ p ∈ puncts, ∀ c ∈ p, c ≠ 32 ∧ c ≠ 10 := by decide +kernel
theorem punctDown_stop {c : UInt8} {s : List UInt8} (hc : c = 32 ∨ c = 10) (x : List UInt8) : ∀ n, punctDown (x ++ c :: s) n ≤ x.length
  | 0 => Nat.zero_le _
  | n + 1 => by
    rw [punctDown]
    split
    · rename_i hp
      refine Nat.le_of_not_lt (fun h => ?_)
      unfold isPunctB at hp
      have hm := List.contains_iff_mem.1 hp
      have hcm : c ∈ (x ++ c :: s).take (n + 1) := by
        rw [List.take_append, List.mem_append]
        right
        obtain ⟨k, hk⟩ : ∃ k, n + 1 - x.length = k + 1 := ⟨n - x.length, by omega⟩
        rw [hk, List.take_succ_cons]
        exact List.mem_cons_self
      have := puncts_stop _ hm c hcm
      rcases hc with h | h
      · exact this.1 h
      · exact this.2 h
    · exact punctDown_stop hc x n
theorem punctLen_stop {r : List UInt8} (hr : Stops r) (x : List UInt8) : punctLen (x ++ r) ≤ x.length := by
  cases r with
  | nil => rw [List.append_nil]; exact punctLen_le x
  | cons c s => exact punctDown_stop (hr c s rfl) x _
theorem nlLen_stop {r : List UInt8} (x : List UInt8) (hx : x ≠ []) : nlLen (x ++ r) ≤ x.length := by
  cases x with
  | nil => exact absurd rfl hx
  | cons c x => rw [List.cons_append, nlLen]; split <;> simp

/-- Where the body of a literal ends, and it is not in what follows. -/
theorem bodyLen_app (q : UInt8) : ∀ (m : Nat) (l : List UInt8), l.length ≤ m → ∀ (r : List UInt8) (n : Nat), bodyLen q l = some n → bodyLen q (l ++ r) = some n := by
  intro m
  induction m with
  | zero =>
    intro l hl r n h
    have : l = [] := List.length_eq_zero_iff.1 (by omega)
    subst this
    cases h
  | succ m ih =>
    intro l hl r n h
    match l, hl, h with
    | [], _, h => cases h
    | c :: l, hl, h =>
      simp only [List.length_cons] at hl
      rw [List.cons_append, bodyLen_eq]
      rw [bodyLen_eq] at h
      split at h
      · rename_i h1; rw [if_pos h1]; exact h
      · rename_i h1
        rw [if_neg h1]
        split at h
        · cases h
        · rename_i h2
          rw [if_neg h2]
          split at h
          · rename_i h3
            rw [if_pos h3]
            match l, hl, h with
            | [], _, h => cases h
            | d :: l', hl, h =>
              simp only [List.length_cons] at hl
              simp only [List.cons_append] at h ⊢
              split at h
              · cases h
              · rename_i h4
                rw [if_neg h4]
                cases hb : bodyLen q l' with
                | none => rw [hb] at h; cases h
                | some k => rw [hb] at h; rw [ih l' (by omega) r k hb]; exact h
          · rename_i h3
            rw [if_neg h3]
            cases hb : bodyLen q l with
            | none => rw [hb] at h; cases h
            | some k => rw [hb] at h; rw [ih l (by omega) r k hb]; exact h

end Go.Proofs.Ytenmapahigbbeaa
