/- What the document's answer asks of a text, kind by kind: it is a token of that kind just if its measure is all of it. -/
import Derived.Test.YtenmapahigbbeaaExtQ
namespace Go.Proofs.Ytenmapahigbbeaa

/-! ### Words -/
def wordB : List UInt8 → Bool
  | [] => false
  | c :: r => isLet c && r.all isAln
theorem runLen_iff {p : UInt8 → Bool} {l : List UInt8} : runLen p l = l.length ↔ l.all p = true := by
  constructor
  · intro h; rw [List.all_eq_true]; exact runLen_all h
  · intro h
    induction l with
    | nil => rfl
    | cons c r ih =>
      rw [List.all_cons, Bool.and_eq_true] at h
      rw [runLen, if_pos h.1, ih h.2, List.length_cons]
theorem word_iff {x : List UInt8} (hx : x ≠ []) : wordLen x = x.length ↔ wordB x = true := by
  cases x with
  | nil => exact absurd rfl hx
  | cons c r =>
    rw [wordLen, wordB, Bool.and_eq_true]
    by_cases hc : isLet c = true
    · rw [if_pos hc, List.length_cons, Nat.add_right_cancel_iff, runLen_iff]
      exact ⟨fun h => ⟨hc, h⟩, fun h => h.2⟩
    · rw [if_neg hc]
      constructor
      · intro h; simp at h
      · intro h; exact absurd h.1 hc

/-! ### Numbers -/
def numT (l : List UInt8) : Bool := numTail l == l.length
theorem numT_two (c d : UInt8) (r : List UInt8) : numT (c :: d :: r) = if isExp c && isSgn d then numT r else isNum c && numT (d :: r) := by
  unfold numT
  rw [numTail_three]
  by_cases h : (isExp c && isSgn d) = true
  · rw [if_pos h, if_pos h, Bool.eq_iff_iff, beq_iff_eq, beq_iff_eq]
    simp only [List.length_cons]; omega
  · rw [if_neg h, if_neg h]
    by_cases hc : isNum c = true
    · rw [if_pos hc, hc, Bool.true_and, Bool.eq_iff_iff, beq_iff_eq, beq_iff_eq]
      simp only [List.length_cons]; omega
    · rw [if_neg hc, Bool.eq_false_iff.2 hc, Bool.false_and]
      simp
theorem numT_one (c : UInt8) : numT [c] = isNum c := by
  unfold numT; rw [numTail]; cases isNum c <;> rfl
theorem numT_nil : numT [] = true := rfl
theorem sgn_num {c : UInt8} (h : isSgn c = true) : isNum c = false := by
  unfold isSgn at h
  simp only [Bool.or_eq_true, beq_iff_eq] at h
  rcases h with rfl | rfl <;> decide
theorem exp_sgn {c : UInt8} (h : isExp c = true) : isSgn c = false := by
  unfold isExp at h
  simp only [Bool.or_eq_true, beq_iff_eq] at h
  rcases h with ((rfl | rfl) | rfl) | rfl <;> decide
theorem exp_dig {c : UInt8} (h : isExp c = true) : isDig c = false := by
  unfold isExp at h
  simp only [Bool.or_eq_true, beq_iff_eq] at h
  rcases h with ((rfl | rfl) | rfl) | rfl <;> decide

theorem numT_snoc {c : UInt8} (hc : isSgn c = false) : ∀ (m : Nat) (x : List UInt8), x.length ≤ m → numT (x ++ [c]) = (numT x && isNum c) := by
  intro m
  induction m with
  | zero =>
    intro x hx
    obtain rfl : x = [] := List.length_eq_zero_iff.1 (by omega)
    rw [List.nil_append, numT_one, numT_nil, Bool.true_and]
  | succ m ih =>
    intro x hx
    match x, hx with
    | [], _ => rw [List.nil_append, numT_one, numT_nil, Bool.true_and]
    | [a], _ =>
      show numT [a, c] = _
      rw [numT_two, hc, Bool.and_false, if_neg (by decide), numT_one, numT_one]
    | a :: b :: r, hx =>
      simp only [List.length_cons] at hx
      have h2 := ih (b :: r) (by simp; omega)
      rw [List.cons_append] at h2
      rw [List.cons_append, List.cons_append, numT_two, numT_two, ih r (by omega), h2]
      split
      · rfl
      · rw [Bool.and_assoc]
theorem numT_pair {e s : UInt8} (he : isExp e = true) (hs : isSgn s = true) : ∀ (m : Nat) (x : List UInt8), x.length ≤ m → numT (x ++ [e, s]) = numT x := by
  have h0 : numT [e, s] = true := by rw [numT_two, he, hs]; rfl
  intro m
  induction m with
  | zero =>
    intro x hx
    obtain rfl : x = [] := List.length_eq_zero_iff.1 (by omega)
    exact h0
  | succ m ih =>
    intro x hx
    match x, hx with
    | [], _ => exact h0
    | [a], _ =>
      show numT [a, e, s] = _
      rw [numT_two, exp_sgn he, Bool.and_false, if_neg (by decide), numT_one, h0, Bool.and_true]
    | a :: b :: r, hx =>
      simp only [List.length_cons] at hx
      have h2 := ih (b :: r) (by simp; omega)
      rw [List.cons_append] at h2
      rw [List.cons_append, List.cons_append, numT_two, numT_two, ih r (by omega), h2]
theorem numT_bad {y s : UInt8} (hy : isExp y = false) (hs : isSgn s = true) : ∀ (m : Nat) (x : List UInt8), x.length ≤ m → numT (x ++ [y, s]) = false := by
  have h1 : numT [s] = false := by rw [numT_one, sgn_num hs]
  have h0 : numT [y, s] = false := by rw [numT_two, hy, Bool.false_and, if_neg (by decide), h1, Bool.and_false]
  intro m
  induction m with
  | zero =>
    intro x hx
    obtain rfl : x = [] := List.length_eq_zero_iff.1 (by omega)
    exact h0
  | succ m ih =>
    intro x hx
    match x, hx with
    | [], _ => exact h0
    | [a], _ =>
      show numT [a, y, s] = _
      rw [numT_two, h1, h0, Bool.and_false, ite_self]
    | a :: b :: r, hx =>
      simp only [List.length_cons] at hx
      have h2 := ih (b :: r) (by simp; omega)
      rw [List.cons_append] at h2
      rw [List.cons_append, List.cons_append, numT_two, ih r (by omega), h2, Bool.and_false, ite_self]

/-- Is a text a number? -/
def numF (x : List UInt8) : Bool := numStart x != 0 && numT (x.drop (numStart x))
theorem num_iff {x : List UInt8} (hx : x ≠ []) : numLen x = x.length ↔ numF x = true := by
  have hp : 0 < x.length := List.length_pos_iff.2 hx
  have hs := numStart_le x
  have hd : (x.drop (numStart x)).length = x.length - numStart x := List.length_drop
  unfold numLen numF numT
  by_cases h : numStart x = 0
  · rw [if_pos h, h]
    constructor
    · intro h; omega
    · intro h; cases h
  · rw [if_neg h, Bool.and_eq_true, beq_iff_eq, hd]
    constructor
    · intro h2; exact ⟨by simpa using h, by omega⟩
    · intro h2; omega
theorem numStart_two (c d : UInt8) (r : List UInt8) : numStart (c :: d :: r) = if isDig c then 1 else if c == 46 && isDig d then 2 else 0 := rfl
theorem numStart_one (c : UInt8) : numStart [c] = if isDig c then 1 else 0 := by
  rw [numStart_cons]; simp
theorem numF_one (c : UInt8) : numF [c] = isDig c := by
  unfold numF
  rw [numStart_one]
  cases isDig c <;> rfl
theorem numF_dot (d : UInt8) : numF [46, d] = isDig d := by
  unfold numF
  rw [numStart_two]
  cases h : isDig d <;> rfl
theorem numF_app {x y : List UInt8} (h : 2 ≤ x.length) : numF (x ++ y) = (numStart x != 0 && numT (x.drop (numStart x) ++ y)) := by
  match x, h with
  | c :: d :: r, _ =>
    have h1 : numStart (c :: d :: r ++ y) = numStart (c :: d :: r) := by
      rw [List.cons_append, List.cons_append, numStart_two, numStart_two]
    unfold numF
    rw [h1, List.drop_append_of_le_length (numStart_le _)]
/-- A byte more that is no sign. -/
theorem numF_snoc {x : List UInt8} {c : UInt8} (hx : x ≠ []) (h : x ≠ [46]) (hc : isSgn c = false) : numF (x ++ [c]) = (isNum c && numF x) := by
  match x, hx, h with
  | [a], _, h =>
    have ha : (a == 46) = false := by
      cases e : (a == 46) with
      | false => rfl
      | true => rw [eq_of_beq e] at h; exact absurd rfl h
    show numF [a, c] = _
    unfold numF
    rw [numStart_two, numStart_one, ha, Bool.false_and, if_neg (show ¬ false = true by decide)]
    cases isDig a
    · rw [if_neg (by decide)]; simp
    · rw [if_pos rfl]; simp [numT_one, numT_nil]
  | a :: b :: r, _, _ =>
    rw [numF_app (by simp), numT_snoc hc _ _ (Nat.le_refl _)]
    unfold numF
    generalize numStart (a :: b :: r) = n
    cases (n != 0) <;> cases isNum c <;> cases numT (List.drop n (a :: b :: r)) <;> rfl
theorem numF_exp {x : List UInt8} {y s : UInt8} (hx : x ≠ []) (hs : isSgn s = true) : numF (x ++ [y, s]) = (isExp y && numF x) := by
  match x, hx with
  | [a], _ =>
    show numF [a, y, s] = _
    unfold numF
    rw [numStart_two, numStart_one]
    cases ha : isDig a
    · have hh : ¬ (false = true) := by decide
      rw [if_neg hh, if_neg hh]
      by_cases h2 : (a == 46 && isDig y) = true
      · rw [if_pos h2]
        have h3 : numT (List.drop 2 [a, y, s]) = false := by show numT [s] = false; rw [numT_one, sgn_num hs]
        rw [h3]; simp
      · rw [if_neg h2]; simp
    · rw [if_pos rfl, if_pos rfl]
      show (true && numT [y, s]) = (isExp y && (true && numT []))
      cases hy : isExp y
      · have := numT_bad hy hs _ [] (Nat.le_refl _)
        rw [List.nil_append] at this
        rw [this]; rfl
      · have := numT_pair hy hs _ [] (Nat.le_refl _)
        rw [List.nil_append] at this
        rw [this]; rfl
  | a :: b :: r, _ =>
    rw [numF_app (by simp)]
    unfold numF
    cases hy : isExp y
    · rw [numT_bad hy hs _ _ (Nat.le_refl _)]; simp
    · rw [numT_pair hy hs _ _ (Nat.le_refl _)]; simp
theorem numF_two {c s : UInt8} (hc : c ≠ 46) (hs : isSgn s = true) : numF [c, s] = false := by
  have hc2 : (c == 46) = false := by simpa using hc
  unfold numF
  rw [numStart_two, hc2, Bool.false_and, if_neg (show ¬ false = true by decide)]
  cases isDig c
  · rfl
  · show (true && numT [s]) = false
    rw [numT_one, sgn_num hs]; rfl

/-! ### Literals -/
/-- Are these bytes pieces? -/
def piecesB (q : UInt8) : List UInt8 → Bool
  | [] => true
  | c :: r => if c == q || c == 10 then false else if c == 92 then (match r with | [] => false | d :: r' => if d == 10 then false else piecesB q r') else piecesB q r
theorem piecesB_eq (q c : UInt8) (r : List UInt8) : piecesB q (c :: r) = if c == q || c == 10 then false else if c == 92 then (match r with | [] => false | d :: r' => if d == 10 then false else piecesB q r') else piecesB q r := by
  cases r <;> simp [piecesB]
theorem body_iff {q : UInt8} (hq : q ≠ 10) (hq2 : q ≠ 92) : ∀ (m : Nat) (t : List UInt8), t.length ≤ m → (bodyLen q (t ++ [q]) = some t.length ↔ piecesB q t = true) := by
  intro m
  induction m with
  | zero =>
    intro t ht
    obtain rfl : t = [] := List.length_eq_zero_iff.1 (by omega)
    simp [bodyLen, piecesB]
  | succ m ih =>
    intro t ht
    match t, ht with
    | [], _ => simp [bodyLen, piecesB]
    | c :: r, ht =>
      simp only [List.length_cons] at ht
      rw [List.cons_append, bodyLen_eq, piecesB_eq]
      by_cases h1 : (c == q) = true
      · rw [if_pos h1, h1]; simp
      · rw [if_neg h1]
        by_cases h2 : (c == 10) = true
        · rw [if_pos h2, h2, Bool.or_true]; simp
        · rw [if_neg h2, Bool.eq_false_iff.2 h1, Bool.eq_false_iff.2 h2, Bool.or_false, if_neg (show ¬ (false = true) by decide)]
          by_cases h3 : (c == 92) = true
          · rw [if_pos h3, if_pos h3]
            match r, ht with
            | [], _ =>
              have : (q == 10) = false := by simpa using hq
              simp [bodyLen, this]
            | d :: r', ht =>
              simp only [List.length_cons] at ht
              simp only [List.cons_append]
              by_cases h4 : (d == 10) = true
              · rw [if_pos h4, if_pos h4]; simp
              · rw [if_neg h4, if_neg h4, ← ih r' (by omega)]
                cases bodyLen q (r' ++ [q]) with
                | none => simp
                | some n => simp
          · rw [if_neg h3, if_neg h3, ← ih r (by omega)]
            cases bodyLen q (r ++ [q]) with
            | none => simp
            | some n => simp
theorem body_last {q : UInt8} : ∀ (m : Nat) (l : List UInt8), l.length ≤ m → ∀ n, bodyLen q l = some n → l[n]? = some q := by
  intro m
  induction m with
  | zero => intro l hl n h; rw [List.length_eq_zero_iff.1 (Nat.le_zero.1 hl)] at h; simp [bodyLen] at h
  | succ m ih =>
    intro l hl n h
    cases l with
    | nil => simp [bodyLen] at h
    | cons c r =>
      simp only [List.length_cons] at hl
      rw [bodyLen_eq] at h
      by_cases h1 : (c == q) = true
      · rw [if_pos h1] at h; cases h; rw [eq_of_beq h1]; rfl
      · rw [if_neg h1] at h
        by_cases h2 : (c == 10) = true
        · rw [if_pos h2] at h; cases h
        · rw [if_neg h2] at h
          by_cases h3 : (c == 92) = true
          · rw [if_pos h3] at h
            cases r with
            | nil => cases h
            | cons d r' =>
              simp only at h
              by_cases h4 : (d == 10) = true
              · rw [if_pos h4] at h; cases h
              · rw [if_neg h4] at h
                cases hb : bodyLen q r' with
                | none => rw [hb] at h; cases h
                | some j =>
                  rw [hb] at h
                  simp only [Option.map_some, Option.some.injEq] at h
                  simp only [List.length_cons] at hl
                  subst h
                  exact ih r' (by omega) j hb
          · rw [if_neg h3] at h
            cases hb : bodyLen q r with
            | none => rw [hb] at h; cases h
            | some j =>
              rw [hb] at h
              simp only [Option.map_some, Option.some.injEq] at h
              subst h
              exact ih r (by omega) j hb

/-- Has a text the form of a literal with that quote and prefix? -/
def shapeB (q : UInt8) (x p : List UInt8) : Bool :=
  decide (p.length + 2 ≤ x.length) && x.take p.length == p && (x[p.length]?.getD 0 == q) && (x[x.length - 1]?.getD 0 == q) && piecesB q ((x.take (x.length - 1)).drop (p.length + 1))
/-- Is a text a literal? -/
def litB (q : UInt8) (f : Nat) (x : List UInt8) : List (List UInt8) → Bool
  | [] => false
  | p :: ps => if shapeB q x p then decide (p.length + 2 + f ≤ x.length) else litB q f x ps

theorem shape_iff {q : UInt8} {x p : List UInt8} : shapeB q x p = true ↔ ∃ t, x = p ++ q :: (t ++ [q]) ∧ piecesB q t = true := by
  unfold shapeB
  simp only [Bool.and_eq_true, decide_eq_true_eq, beq_iff_eq]
  constructor
  · rintro ⟨⟨⟨⟨h1, h2⟩, h3⟩, h4⟩, h5⟩
    refine ⟨(x.take (x.length - 1)).drop (p.length + 1), ?_, h5⟩
    have e1 : x.drop p.length = q :: x.drop (p.length + 1) := by
      rw [List.drop_eq_getElem_cons (by omega)]
      rw [List.getElem?_eq_getElem (by omega)] at h3
      rw [show x[p.length]'(by omega) = q from h3]
    have e2 : x = x.take (x.length - 1) ++ [q] := by
      conv => lhs; rw [← List.take_append_drop (x.length - 1) x]
      rw [List.drop_eq_getElem_cons (by omega), List.drop_eq_nil_of_le (by omega)]
      rw [List.getElem?_eq_getElem (by omega)] at h4
      rw [show x[x.length - 1]'(by omega) = q from h4]
    have e3 : x.drop (p.length + 1) = (x.take (x.length - 1)).drop (p.length + 1) ++ [q] := by
      conv => lhs; rw [e2]
      rw [List.drop_append_of_le_length (by rw [List.length_take]; omega)]
    rw [← e3, ← e1]
    conv => lhs; rw [← List.take_append_drop p.length x, h2]
  · rintro ⟨t, rfl, h5⟩
    have l1 : (p ++ q :: (t ++ [q])).length = p.length + (t.length + 2) := by simp
    have e2 : p ++ q :: (t ++ [q]) = (p ++ q :: t) ++ [q] := by simp
    have e3 : (p ++ q :: t).length = p.length + t.length + 1 := by simp; omega
    refine ⟨⟨⟨⟨by omega, ?_⟩, ?_⟩, ?_⟩, ?_⟩
    · rw [List.take_left]
    · rw [List.getElem?_append_right (Nat.le_refl _), Nat.sub_self]; rfl
    · rw [l1, e2, List.getElem?_append_right (by omega), show p.length + (t.length + 2) - 1 - (p ++ q :: t).length = 0 by omega]; rfl
    · rw [l1, e2, show p.length + (t.length + 2) - 1 = (p ++ q :: t).length by omega, List.take_left]
      rw [List.drop_append, show p.length + 1 - p.length = 1 by omega, List.drop_eq_nil_of_le (by omega)]
      exact h5

theorem lit_iff {q : UInt8} {f : Nat} {y : List UInt8} (hq : q ≠ 10) (hq2 : q ≠ 92) (hf : f ≤ 1) : litLen q f y = y.length ∧ y ≠ [] ↔ ∃ t, y = q :: (t ++ [q]) ∧ piecesB q t = true ∧ f ≤ t.length := by
  constructor
  · rintro ⟨h, hne⟩
    cases y with
    | nil => exact absurd rfl hne
    | cons c r =>
      rw [litLen] at h
      by_cases hc : (c == q) = true
      · rw [if_pos hc] at h
        cases hb : bodyLen q r with
        | none => rw [hb] at h; simp at h
        | some n =>
          rw [hb] at h
          simp only [List.length_cons] at h
          by_cases hn : n < f
          · rw [if_pos hn] at h; omega
          · rw [if_neg hn] at h
            have hl := body_last _ r (Nat.le_refl _) n hb
            have e2 : r = r.take n ++ [q] := by
              conv => lhs; rw [← List.take_append_drop n r]
              rw [List.drop_eq_getElem_cons (by omega), List.drop_eq_nil_of_le (by omega)]
              rw [List.getElem?_eq_getElem (by omega), Option.some.injEq] at hl
              rw [hl]
            have e3 : (r.take n).length = n := by rw [List.length_take]; omega
            refine ⟨r.take n, by rw [← e2, eq_of_beq hc], ?_, by omega⟩
            rw [← body_iff hq hq2 _ _ (Nat.le_refl _), ← e2, e3, hb]
      · rw [if_neg hc] at h; simp at h
  · rintro ⟨t, rfl, h, hn⟩
    refine ⟨?_, by simp⟩
    rw [litLen, if_pos (by simp), (body_iff hq hq2 _ _ (Nat.le_refl _)).2 h]
    simp only
    rw [if_neg (by omega)]
    simp

theorem quoted_iff {q : UInt8} {f : Nat} {x : List UInt8} (hq : q = 39 ∨ q = 34) (hf : f ≤ 1) (hx : x ≠ []) : ∀ {ps : List (List UInt8)}, (∀ p ∈ ps, p.all noQ = true) → (quotedLen q f x ps = x.length ↔ litB q f x ps = true) := by
  have hqn : noQ q = false := by rcases hq with rfl | rfl <;> rfl
  have q10 : q ≠ 10 := by rcases hq with rfl | rfl <;> decide
  have q92 : q ≠ 92 := by rcases hq with rfl | rfl <;> decide
  have hp : 0 < x.length := List.length_pos_iff.2 hx
  intro ps
  induction ps with
  | nil =>
    intro _
    simp only [quotedLen, litB]
    constructor
    · intro h; omega
    · intro h; cases h
  | cons p ps ih =>
    intro hps
    have hpn := hps p List.mem_cons_self
    replace ih := ih (fun p' h => hps p' (List.mem_cons_of_mem _ h))
    rw [quotedLen, litB]
    by_cases hs : shapeB q x p = true
    · rw [if_pos hs]
      obtain ⟨t, rfl, ht⟩ := shape_iff.1 hs
      have hpre : p.isPrefixOf (p ++ q :: (t ++ [q])) = true := List.isPrefixOf_iff_prefix.2 ⟨_, rfl⟩
      rw [hpre, List.drop_left, Bool.true_and]
      have l1 : (p ++ q :: (t ++ [q])).length = p.length + (t.length + 2) := by simp
      by_cases hft : f ≤ t.length
      · have h2 := (lit_iff (y := q :: (t ++ [q])) (f := f) q10 q92 hf).2 ⟨t, rfl, ht, hft⟩
        have h3 : (q :: (t ++ [q])).length = t.length + 2 := by simp
        rw [h2.1, h3, if_pos (by simp), l1]
        exact ⟨fun _ => decide_eq_true (by omega), fun _ => rfl⟩
      · have h2 : litLen q f (q :: (t ++ [q])) = 0 := by
          rw [litLen, if_pos (by simp), (body_iff q10 q92 _ _ (Nat.le_refl _)).2 ht]
          simp only
          rw [if_pos (by omega)]
        rw [h2, if_neg (by simp), l1]
        constructor
        · intro h
          exfalso
          obtain ⟨p', hp', y, n, e1, e2, e3⟩ := quoted_some (q := q) (f := f) (l := p ++ q :: (t ++ [q])) (ps := ps) (by omega)
          obtain ⟨rfl, -, rfl⟩ := first_quote hpn (hps p' (List.mem_cons_of_mem _ hp')) hqn hqn e1
          have hf1 : f = 1 ∧ t.length = 0 := by omega
          obtain ⟨rfl, ht0⟩ := hf1
          obtain rfl : t = [] := List.length_eq_zero_iff.1 ht0
          have : ∀ ps' : List (List UInt8), (∀ p' ∈ ps', p'.all noQ = true) → quotedLen q 1 (p ++ [q, q]) ps' = 0 := by
            intro ps' hall
            refine Classical.byContradiction (fun hne => ?_)
            have hne' := hne
            induction ps' with
            | nil => exact hne rfl
            | cons p2 ps' ih2 =>
              rw [quotedLen] at hne
              by_cases h4 : (p2.isPrefixOf (p ++ [q, q]) && litLen q 1 ((p ++ [q, q]).drop p2.length) != 0) = true
              · rw [Bool.and_eq_true] at h4
                obtain ⟨z, hz⟩ := List.isPrefixOf_iff_prefix.1 h4.1
                have h5 := h4.2
                rw [← hz, List.drop_left] at h5
                cases z with
                | nil => simp [litLen] at h5
                | cons c z =>
                  rw [litLen] at h5
                  by_cases hc : (c == q) = true
                  · have hcq := eq_of_beq hc
                    subst hcq
                    obtain ⟨_, _, e6⟩ := first_quote (hall p2 List.mem_cons_self) hpn hqn hqn hz
                    subst e6
                    simp [bodyLen] at h5
                  · rw [if_neg hc] at h5; simp at h5
              · rw [if_neg h4] at hne
                exact ih2 (fun p' h => hall p' (List.mem_cons_of_mem _ h)) hne hne
          have h6 := this ps (fun p' h => hps p' (List.mem_cons_of_mem _ h))
          rw [List.nil_append] at h
          rw [h6] at h
          simp at h
        · intro h
          simp only [decide_eq_true_eq] at h
          omega
    · rw [if_neg hs]
      by_cases h1 : (p.isPrefixOf x && litLen q f (x.drop p.length) != 0) = true
      · rw [if_pos h1]
        rw [Bool.and_eq_true] at h1
        obtain ⟨y, rfl⟩ := List.isPrefixOf_iff_prefix.1 h1.1
        have h2 := h1.2
        rw [List.drop_left] at h2 ⊢
        have hy : y ≠ [] := by
          intro e; subst e; simp [litLen] at h2
        have hne : litLen q f y ≠ y.length := by
          intro he
          obtain ⟨t, rfl, ht, _⟩ := (lit_iff q10 q92 hf).1 ⟨he, hy⟩
          exact hs (shape_iff.2 ⟨t, rfl, ht⟩)
        constructor
        · intro h; rw [List.length_append] at h; omega
        · intro h
          exfalso
          -- another prefix would have the same shape
          have : ∃ p' ∈ ps, shapeB q (p ++ y) p' = true := by
            clear ih hps h1 h2 hy hne
            revert h
            induction ps with
            | nil => intro h; cases h
            | cons p2 ps ih2 =>
              intro h
              rw [litB] at h
              by_cases h4 : shapeB q (p ++ y) p2 = true
              · exact ⟨p2, List.mem_cons_self, h4⟩
              · rw [if_neg h4] at h
                obtain ⟨p', h5, h6⟩ := ih2 h
                exact ⟨p', List.mem_cons_of_mem _ h5, h6⟩
          obtain ⟨p', h5, h6⟩ := this
          obtain ⟨t, e1, ht⟩ := shape_iff.1 h6
          cases y with
          | nil => exact hy rfl
          | cons c y =>
            rw [litLen] at h2
            by_cases hc : (c == q) = true
            · have hcq := eq_of_beq hc
              subst hcq
              obtain ⟨rfl, -, rfl⟩ := first_quote hpn (hps p' (List.mem_cons_of_mem _ h5)) hqn hqn e1
              exact hs h6
            · rw [if_neg hc] at h2; simp at h2
      · rw [if_neg h1]; exact ih

end Go.Proofs.Ytenmapahigbbeaa
