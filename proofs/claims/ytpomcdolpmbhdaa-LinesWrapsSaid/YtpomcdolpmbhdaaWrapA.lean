/- Several texts laid together. -/
import Derived.Test.YtpomcdolpmbhdaaRowsS
import Derived.Test.YtpomcdolpmbhdaaDepR2
import Derived.Test.YtpomcdolpmbhdaaTokM
import Derived.Test.YtpomcdolpmbhdaaBytes
import Derived.Test.YtpomcdolpmbhdaaLogical
import Derived.Test.YtpomcdolpmbhdaaScan
import Derived.Test.YtpomcdolpmbhdaaFuel
import Derived.Test.YtpomcdolpmbhdaaLnAlive
import Derived.Test.YtpomcdolpmbhdaaDepA
import Derived.BigQuiet
import Derived.Deep.QuietTactic

namespace Go.Proofs.Ytpomcdolpmbhdaa

/-! ### Depths -/
theorem depStep_under {o l o' l' : List Nat} {k : Nat} (p : List Nat) (x : Nat) (h : depStep (o, l) k = some (o', l')) : depStep (p ++ o.map (· + 1), x :: l) k = some (p ++ o'.map (· + 1), x :: l') := by
  unfold depStep at h ⊢
  by_cases h0 : k = 0
  · rw [if_pos h0] at h ⊢; cases h; simp
  · rw [if_neg h0] at h ⊢
    by_cases h1 : k = 1
    · rw [if_pos h1] at h ⊢; cases h; simp
    · rw [if_neg h1] at h ⊢
      rcases List.eq_nil_or_concat l with rfl | ⟨l0, y, rfl⟩
      · simp at h
      · rw [List.concat_eq_append] at *
        rw [show x :: (l0 ++ [y]) = (x :: l0) ++ [y] from rfl]
        simp only [List.getLast?_append, List.getLast?_singleton, Option.some_or, List.length_append, List.length_cons, List.length_nil, List.dropLast_concat, Nat.zero_add, Nat.add_sub_cancel] at h ⊢
        by_cases h2 : k < 4 ∧ y = 3
        · rw [if_pos h2] at h; cases h
        · rw [if_neg h2] at h ⊢
          by_cases h4 : k = 4
          · rw [if_pos h4] at h ⊢; cases h; simp
          · rw [if_neg h4] at h ⊢; cases h; simp
def depRun (q : Option (List Nat × List Nat)) (rs : List Rz) : Option (List Nat × List Nat) := rs.foldl (fun q r => q.bind fun p => depStep p (turnS r)) q
theorem depRun_under (p : List Nat) (x : Nat) : ∀ (rs : List Rz) {o l o' l' : List Nat}, depRun (some (o, l)) rs = some (o', l') → depRun (some (p ++ o.map (· + 1), x :: l)) rs = some (p ++ o'.map (· + 1), x :: l')
  | [], o, l, o', l', h => by cases h; rfl
  | r :: rs, o, l, o', l', h => by
    have h : depRun (depStep (o, l) (turnS r)) rs = some (o', l') := h
    show depRun (depStep (p ++ o.map (· + 1), x :: l) (turnS r)) rs = _
    cases hs : depStep (o, l) (turnS r) with
    | none => rw [hs] at h; unfold depRun at h; rw [fold_none] at h; cases h
    | some q =>
      obtain ⟨o2, l2⟩ := q
      rw [hs] at h
      rw [depStep_under p x hs]
      exact depRun_under p x rs h
theorem depS_some {rs : List Rz} {o : List Nat} (h : depS rs = some o) : depFold rs = some (o, []) := by
  unfold depS at h
  split at h
  · next o' h' => cases h; exact h'
  · cases h
/-- Between a row that opens and a row that closes all stands one deeper. -/
theorem depS_wrap {rs : List Rz} {o : List Nat} (h : depS rs = some o) {ri re : Rz} (h1 : turnS ri = 1) (h4 : turnS re = 4) : depS (ri :: (rs ++ [re])) = some (0 :: (o.map (· + 1) ++ [0])) := by
  refine depS_done ?_
  have hr : depRun (some ([], [])) rs = some (o, []) := depS_some h
  have hu := depRun_under [0] 1 rs hr
  show depRun (depStep ([], []) (turnS ri)) (rs ++ [re]) = _
  rw [h1]
  show depRun (some ([0] ++ [].map (· + 1), [1])) (rs ++ [re]) = _
  unfold depRun at hu ⊢
  rw [List.foldl_append, hu]
  show depStep ([0] ++ o.map (· + 1), [1]) (turnS re) = _
  rw [h4]
  rfl
theorem depS_map {g : Rz → Rz} (hg : ∀ r, turnS (g r) = turnS r) (rs : List Rz) : depS (rs.map g) = depS rs := by
  unfold depS depFold
  rw [List.foldl_map]
  simp only [hg]

/-! ### Rows -/
/-- Another place: kind, text and blank ahead are kept. -/
structure Moves (f : Tz → Tz) : Prop where
  k : ∀ t, (f t).k = t.k
  tx : ∀ t, (f t).tx = t.tx
  sp : ∀ t, (f t).sp = t.sp
  put : ∀ t s, f { t with sp := s } = { f t with sp := s }
theorem Moves.lines {f : Tz → Tz} (m : Moves f) : ∀ l : List Tz, linesS (l.map f) = (linesS l).map (List.map f)
  | [] => rfl
  | t :: r => by
    rw [List.map_cons, linesS, linesS, m.lines r, m.k]
    by_cases h : (t.k == 9) = true
    · rw [if_pos h, if_pos h]; rfl
    · rw [if_neg h, if_neg h]
      cases linesS r with
      | nil => rfl
      | cons l ls => rfl
theorem Moves.bare {f : Tz → Tz} (m : Moves f) (l : List Tz) : (bareS (l.map f)).1 = (bareS l).1.map f := by
  unfold bareS
  rw [List.foldl_map]
  have : ∀ (l : List Tz) (q : List Tz × Bool), l.foldl (fun q t => bareStep q (f t)) (q.1.map f, q.2) = ((l.foldl bareStep q).1.map f, (l.foldl bareStep q).2) := by
    intro l
    induction l with
    | nil => intro q; rfl
    | cons t l ih =>
      intro q
      rw [List.foldl_cons, List.foldl_cons, ← ih (bareStep q t)]
      congr 1
      unfold bareStep
      by_cases h : outK t.k = true
      · rw [if_pos (by rw [m.k]; exact h), if_pos h]
      · have e : { f t with sp := (f t).sp || q.2 } = f { t with sp := t.sp || q.2 } := ((m.put t (t.sp || q.2)).trans (by rw [m.sp])).symm
        rw [if_neg (by rw [m.k]; exact h), if_neg h]
        show (q.1.map f ++ [{ f t with sp := (f t).sp || q.2 }], false) = ((q.1 ++ [{ t with sp := t.sp || q.2 }]).map f, false)
        rw [e, List.map_append, List.map_cons, List.map_nil]
  exact congrArg Prod.fst (this l ([], false))
theorem Moves.hash {f : Tz → Tz} (m : Moves f) (l : List Tz) : hashB (l.map f) = hashB l := by
  cases l with
  | nil => rfl
  | cons t l => simp only [List.map_cons, hashB, m.k, m.tx]
theorem Moves.name {f : Tz → Tz} (m : Moves f) (l : List Tz) : nameB (l.map f) = nameB l := by
  match l with
  | [] => rfl
  | [t] => rfl
  | t :: u :: l => simp only [List.map_cons, nameB, m.k, m.tx]
def moveR (f : Tz → Tz) (r : Rz) : Rz := ⟨r.d, r.nm, r.ts.map f⟩
theorem Moves.row {f : Tz → Tz} (m : Moves f) (l : List Tz) : rowOf (l.map f) = moveR f (rowOf l) := by
  unfold rowOf moveR
  rw [m.bare, m.hash, m.name]
theorem move_add (f : Tz → Tz) (out : List Rz) (r : Rz) : addRow (out.map (moveR f)) (moveR f r) = (addRow out r).map (moveR f) := by
  rcases List.eq_nil_or_concat out with rfl | ⟨o, q, rfl⟩
  · rfl
  · rw [List.concat_eq_append]
    unfold addRow
    simp only [List.map_append, List.map_cons, List.map_nil, List.getLast?_append, List.getLast?_singleton, Option.some_or, List.dropLast_concat]
    have e1 : (moveR f r).d = r.d := rfl
    have e2 : (moveR f q).d = q.d := rfl
    rw [e1, e2]
    split
    · simp [moveR]
    · simp
theorem Moves.rows {f : Tz → Tz} (m : Moves f) (l : List Tz) : rowsS (l.map f) = (rowsS l).map (moveR f) := by
  unfold rowsS
  rw [m.lines, List.foldl_map]
  have : ∀ (ls : List (List Tz)) (out : List Rz), ls.foldl (fun o l => addLine o (l.map f)) (out.map (moveR f)) = (ls.foldl addLine out).map (moveR f) := by
    intro ls
    induction ls with
    | nil => intro out; rfl
    | cons l ls ih =>
      intro out
      rw [List.foldl_cons, List.foldl_cons, ← ih (addLine out l)]
      congr 1
      unfold addLine
      rw [m.row, move_add]
  exact this _ []
/-- Rows moved stand as deep. -/
theorem Moves.depths {f : Tz → Tz} (m : Moves f) (l : List Tz) : depS (rowsS (l.map f)) = depS (rowsS l) := by
  rw [m.rows, depS_map]
  intro r; rfl

/-- Whole lines, one behind the other. -/
def Whole (l : List Tz) : Prop := l = [] ∨ ∃ l0 t, l = l0 ++ [t] ∧ (t.k == 9) = true
theorem linesS_ne {t : Tz} {l : List Tz} : linesS (t :: l) ≠ [] := by
  rw [linesS]
  split
  · simp
  · split <;> simp
theorem linesS_app : ∀ {l : List Tz}, Whole l → ∀ r, linesS (l ++ r) = linesS l ++ linesS r
  | [], _, r => rfl
  | q :: l, h, r => by
    have hw : Whole l ∧ (l = [] → (q.k == 9) = true) := by
      rcases h with h | ⟨l0, t, h, ht⟩
      · cases h
      · cases l0 with
        | nil => cases h; exact ⟨.inl rfl, fun _ => ht⟩
        | cons p l0 =>
          cases h
          exact ⟨.inr ⟨l0, t, rfl, ht⟩, fun e => by simp at e⟩
    rw [List.cons_append, linesS, linesS, linesS_app hw.1 r]
    by_cases h9 : (q.k == 9) = true
    · rw [if_pos h9, if_pos h9]; rfl
    · rw [if_neg h9, if_neg h9]
      cases l with
      | nil => exact absurd (hw.2 rfl) h9
      | cons p l =>
        cases hl : linesS (p :: l) with
        | nil => exact absurd hl linesS_ne
        | cons a ls => rfl
theorem addRow_under {r0 : Rz} (h0 : r0.d = true) (out : List Rz) (r : Rz) : addRow (r0 :: out) r = r0 :: addRow out r := by
  rcases List.eq_nil_or_concat out with rfl | ⟨o, q, rfl⟩
  · rw [addRow_new (out := []) (.inr (.inl rfl)), addRow_new (out := [r0]) (.inr (.inr ⟨[], r0, rfl, h0⟩))]; rfl
  · rw [List.concat_eq_append]
    unfold addRow
    rw [show r0 :: (o ++ [q]) = (r0 :: o) ++ [q] from rfl]
    simp only [List.getLast?_append, List.getLast?_singleton, Option.some_or, List.dropLast_concat]
    split <;> rfl
theorem addLines_under {r0 : Rz} (h0 : r0.d = true) : ∀ (ls : List (List Tz)) (out : List Rz), ls.foldl addLine (r0 :: out) = r0 :: ls.foldl addLine out
  | [], out => rfl
  | l :: ls, out => by
    rw [List.foldl_cons, List.foldl_cons, ← addLines_under h0 ls]
    congr 1
    exact addRow_under h0 out _
/-- Tokens between two directives: the rows between two rows. -/
theorem rowsS_wrap {li l le : List Tz} (hi : linesS li = [li]) (hwi : Whole li) (he : linesS le = [le]) (hl : Whole l) (di : (rowOf li).d = true) (de : (rowOf le).d = true) : rowsS (li ++ (l ++ le)) = rowOf li :: (rowsS l ++ [rowOf le]) := by
  unfold rowsS
  rw [linesS_app hwi, linesS_app hl, hi, he]
  show (linesS l ++ [le]).foldl addLine (addLine [] li) = _
  rw [show addLine [] li = [rowOf li] from rfl, addLines_under di, List.foldl_append]
  show _ :: addRow _ (rowOf le) = _
  rw [addRow_new (.inl de)]
/-- LinesWraps, of tokens: where all nests, it stands one deeper. -/
theorem depths_wrap {li l le : List Tz} {f : Tz → Tz} {o : List Nat} (m : Moves f) (hi : linesS li = [li]) (hwi : Whole li) (he : linesS le = [le]) (hl : Whole (l.map f)) (ti : turnS (rowOf li) = 1) (te : turnS (rowOf le) = 4) (di : (rowOf li).d = true) (de : (rowOf le).d = true) (ho : depS (rowsS l) = some o) :
    depS (rowsS (li ++ (l.map f ++ le))) = some (0 :: (o.map (· + 1) ++ [0])) := by
  rw [rowsS_wrap hi hwi he hl di de]
  exact depS_wrap (by rw [m.depths]; exact ho) ti te

end Go.Proofs.Ytpomcdolpmbhdaa

namespace Go.Proofs.Ytpomcdolpmbhdaa

theorem runLen_take (p : UInt8 → Bool) : ∀ (l : List UInt8) (m : Nat), runLen p (l.take m) = min (runLen p l) m
  | [], m => by simp [runLen]
  | c :: r, 0 => by simp [runLen]
  | c :: r, m + 1 => by
    rw [List.take_succ_cons, runLen, runLen, runLen_take p r m]
    split <;> omega
theorem wordLen_take {l : List UInt8} {m : Nat} (h : wordLen l ≤ m) : wordLen (l.take m) = wordLen l := by
  cases l with
  | nil => simp
  | cons c r =>
    cases m with
    | zero =>
      have : wordLen (c :: r) = 0 := by omega
      rw [this]; rfl
    | succ m =>
      rw [wordLen] at h
      rw [List.take_succ_cons, wordLen, wordLen, runLen_take]
      split
      · rename_i hc
        rw [if_pos hc] at h
        omega
      · rfl
theorem numTail_three (c d : UInt8) (r : List UInt8) : numTail (c :: d :: r) = if isExp c && isSgn d then numTail r + 2 else if isNum c then numTail (d :: r) + 1 else 0 := by
  simp only [numTail]
theorem numTail_take : ∀ (l : List UInt8) (m : Nat), numTail l ≤ m → numTail (l.take m) = numTail l
  | [], m, _ => by simp
  | [c], m, h => by
    cases m with
    | zero =>
      have : numTail [c] = 0 := by omega
      rw [this]; rfl
    | succ m => simp
  | c :: d :: r, m, h => by
    rw [numTail_three] at h ⊢
    by_cases h1 : (isExp c && isSgn d) = true
    · rw [if_pos h1] at h ⊢
      obtain ⟨m', rfl⟩ : ∃ m', m = m' + 2 := ⟨m - 2, by omega⟩
      rw [show m' + 2 = m' + 1 + 1 by omega, List.take_succ_cons, List.take_succ_cons, numTail_three, if_pos h1, numTail_take r m' (by omega)]
    · rw [if_neg h1] at h ⊢
      by_cases h2 : isNum c = true
      · rw [if_pos h2] at h ⊢
        obtain ⟨m', rfl⟩ : ∃ m', m = m' + 1 := ⟨m - 1, by omega⟩
        have ih := numTail_take (d :: r) m' (by omega)
        cases m' with
        | zero =>
          rw [List.take_succ_cons, List.take_zero]
          have : numTail (d :: r) = 0 := by omega
          rw [this]
          simp only [numTail]
          rw [if_pos h2]
        | succ m'' =>
          rw [List.take_succ_cons] at ih
          rw [List.take_succ_cons, List.take_succ_cons, numTail_three, if_neg h1, if_pos h2, ih]
      · rw [if_neg h2] at h ⊢
        match m with
        | 0 => rfl
        | 1 =>
          rw [List.take_succ_cons, List.take_zero]
          simp only [numTail]
          rw [if_neg h2]
        | m + 2 => rw [show m + 2 = m + 1 + 1 by omega, List.take_succ_cons, List.take_succ_cons, numTail_three, if_neg h1, if_neg h2]
theorem numStart_take {l : List UInt8} {m : Nat} (h : numStart l ≤ m) : numStart (l.take m) = numStart l := by
  match l, m with
  | [], m => simp
  | c :: r, 0 =>
    have : numStart (c :: r) = 0 := by omega
    rw [this]; rfl
  | [c], m + 1 => simp
  | c :: d :: r, 1 =>
    rw [List.take_succ_cons, List.take_zero]
    simp only [numStart] at h ⊢
    by_cases hc : isDig c = true
    · rw [if_pos hc, if_pos hc]
    · rw [if_neg hc] at h
      rw [if_neg hc, if_neg hc, if_neg (by simp)]
      by_cases h2 : (c == 46 && isDig d) = true
      · rw [if_pos h2] at h; omega
      · rw [if_neg h2]
  | c :: d :: r, m + 2 => rw [show m + 2 = m + 1 + 1 by omega, List.take_succ_cons, List.take_succ_cons]; simp only [numStart]
theorem numLen_take {l : List UInt8} {m : Nat} (h : numLen l ≤ m) : numLen (l.take m) = numLen l := by
  unfold numLen at h ⊢
  by_cases h0 : numStart l = 0
  · have h1 := numStart_take (l := l) (m := m) (by omega)
    rw [if_pos h0, if_pos (by rw [h1]; exact h0)]
  · rw [if_neg h0] at h
    have h1 := numStart_take (l := l) (m := m) (by omega)
    rw [if_neg h0, if_neg (by rw [h1]; exact h0), h1, List.drop_take, numTail_take _ _ (by omega)]

theorem bodyLen_take (q : UInt8) : ∀ (k : Nat) (l : List UInt8), l.length ≤ k → ∀ (m i : Nat), bodyLen q l = some i → i + 1 ≤ m → bodyLen q (l.take m) = some i := by
  intro k
  induction k with
  | zero => intro l hl m i h; rw [List.length_eq_zero_iff.1 (Nat.le_zero.1 hl)] at h; simp [bodyLen] at h
  | succ k ih =>
    intro l hl m i h hm
    cases l with
    | nil => simp [bodyLen] at h
    | cons c r =>
      simp only [List.length_cons] at hl
      obtain ⟨m', rfl⟩ : ∃ m', m = m' + 1 := ⟨m - 1, by omega⟩
      rw [List.take_succ_cons, bodyLen_eq] 
      rw [bodyLen_eq] at h
      by_cases h1 : (c == q) = true
      · rw [if_pos h1] at h ⊢; exact h
      · rw [if_neg h1] at h ⊢
        by_cases h2 : (c == 10) = true
        · rw [if_pos h2] at h; cases h
        · rw [if_neg h2] at h ⊢
          by_cases h3 : (c == 92) = true
          · rw [if_pos h3] at h ⊢
            cases r with
            | nil => cases h
            | cons d r' =>
              simp only at h
              by_cases h4 : (d == 10) = true
              · rw [if_pos h4] at h; cases h
              · rw [if_neg h4] at h
                cases hb : bodyLen q r' with
                | none => rw [hb] at h; cases h
                | some j =>
                  rw [hb] at h
                  simp only [Option.map_some, Option.some.injEq] at h
                  simp only [List.length_cons] at hl
                  obtain ⟨m'', rfl⟩ : ∃ m'', m' = m'' + 1 := ⟨m' - 1, by omega⟩
                  rw [List.take_succ_cons]
                  simp only
                  rw [if_neg h4, ih r' (by omega) m'' j hb (by omega)]
                  simp only [Option.map_some, Option.some.injEq]
                  exact h
          · rw [if_neg h3] at h ⊢
            cases hb : bodyLen q r with
            | none => rw [hb] at h; cases h
            | some j =>
              rw [hb] at h
              simp only [Option.map_some, Option.some.injEq] at h
              rw [ih r (by omega) m' j hb (by omega)]
              simp only [Option.map_some, Option.some.injEq]
              exact h
theorem bodyLen_untake (q : UInt8) : ∀ (k : Nat) (l : List UInt8), l.length ≤ k → ∀ (m i : Nat), bodyLen q (l.take m) = some i → bodyLen q l = some i := by
  intro k
  induction k with
  | zero => intro l hl m i h; rw [List.length_eq_zero_iff.1 (Nat.le_zero.1 hl)] at h; simp [bodyLen] at h
  | succ k ih =>
    intro l hl m i h
    cases l with
    | nil => simp [bodyLen] at h
    | cons c r =>
      simp only [List.length_cons] at hl
      cases m with
      | zero => simp [bodyLen] at h
      | succ m' =>
        rw [List.take_succ_cons, bodyLen_eq] at h
        rw [bodyLen_eq]
        by_cases h1 : (c == q) = true
        · rw [if_pos h1] at h ⊢; exact h
        · rw [if_neg h1] at h ⊢
          by_cases h2 : (c == 10) = true
          · rw [if_pos h2] at h; cases h
          · rw [if_neg h2] at h ⊢
            by_cases h3 : (c == 92) = true
            · rw [if_pos h3] at h ⊢
              cases r with
              | nil => simp at h
              | cons d r' =>
                cases m' with
                | zero => simp at h
                | succ m'' =>
                  rw [List.take_succ_cons] at h
                  simp only at h ⊢
                  simp only [List.length_cons] at hl
                  by_cases h4 : (d == 10) = true
                  · rw [if_pos h4] at h; cases h
                  · rw [if_neg h4] at h ⊢
                    cases hb : bodyLen q (r'.take m'') with
                    | none => rw [hb] at h; cases h
                    | some j =>
                      rw [hb] at h
                      rw [ih r' (by omega) m'' j hb]
                      exact h
            · rw [if_neg h3] at h ⊢
              cases hb : bodyLen q (r.take m') with
              | none => rw [hb] at h; cases h
              | some j =>
                rw [hb] at h
                rw [ih r (by omega) m' j hb]
                exact h
theorem litLen_take {q : UInt8} {f : Nat} {l : List UInt8} {m : Nat} (h : litLen q f l ≤ m) : litLen q f (l.take m) = litLen q f l := by
  cases l with
  | nil => simp
  | cons c r =>
    cases m with
    | zero =>
      have : litLen q f (c :: r) = 0 := by omega
      rw [this]; rfl
    | succ m =>
      rw [litLen] at h
      rw [List.take_succ_cons, litLen, litLen]
      by_cases hc : (c == q) = true
      · rw [if_pos hc] at h ⊢
        rw [if_pos hc]
        cases hb : bodyLen q r with
        | none =>
          cases hb2 : bodyLen q (r.take m) with
          | none => rfl
          | some j => rw [bodyLen_untake q _ r (Nat.le_refl _) m j hb2] at hb; cases hb
        | some i =>
          rw [hb] at h
          simp only at h ⊢
          by_cases hf : i < f
          · rw [if_pos hf]
            cases hb2 : bodyLen q (r.take m) with
            | none => rfl
            | some j =>
              rw [bodyLen_untake q _ r (Nat.le_refl _) m j hb2] at hb
              cases hb
              simp only
              rw [if_pos hf]
          · rw [if_neg hf] at h ⊢
            rw [bodyLen_take q _ r (Nat.le_refl _) m i hb (by omega)]
            simp only
            rw [if_neg hf]
      · rw [if_neg hc, if_neg hc]
theorem litLen_zero {q : UInt8} {f : Nat} {l : List UInt8} (m : Nat) (h : litLen q f l = 0) : litLen q f (l.take m) = 0 := by
  rw [litLen_take (by omega)]; exact h
theorem isPrefixOf_take {p l : List UInt8} {m : Nat} (h : p.length ≤ m) : p.isPrefixOf (l.take m) = p.isPrefixOf l := by
  rw [Bool.eq_iff_iff, List.isPrefixOf_iff_prefix, List.isPrefixOf_iff_prefix]
  constructor
  · rintro ⟨t, ht⟩
    exact ⟨t ++ l.drop m, by rw [← List.append_assoc, ht, List.take_append_drop]⟩
  · rintro ⟨t, rfl⟩
    refine ⟨t.take (m - p.length), ?_⟩
    rw [List.take_append, List.take_of_length_le h]
theorem isPrefixOf_take_false {p l : List UInt8} (m : Nat) (h : p.isPrefixOf l = false) : p.isPrefixOf (l.take m) = false := by
  cases h2 : p.isPrefixOf (l.take m) with
  | false => rfl
  | true =>
    obtain ⟨t, ht⟩ := List.isPrefixOf_iff_prefix.1 h2
    have : p.isPrefixOf l = true := List.isPrefixOf_iff_prefix.2 ⟨t ++ l.drop m, by rw [← List.append_assoc, ht, List.take_append_drop]⟩
    rw [this] at h; cases h

theorem quotedLen_take {q : UInt8} {f : Nat} {l : List UInt8} {m : Nat} : ∀ (ps : List (List UInt8)), quotedLen q f l ps ≤ m → quotedLen q f (l.take m) ps = quotedLen q f l ps
  | [], _ => rfl
  | p :: ps, h => by
    rw [quotedLen] at h
    rw [quotedLen, quotedLen]
    by_cases h1 : (p.isPrefixOf l && litLen q f (l.drop p.length) != 0) = true
    · rw [if_pos h1] at h
      have h2 := h1
      rw [Bool.and_eq_true] at h2
      have hl : litLen q f ((l.take m).drop p.length) = litLen q f (l.drop p.length) := by
        rw [List.drop_take]; exact litLen_take (by omega)
      rw [if_pos h1, hl, if_pos]
      rw [isPrefixOf_take (by omega)]
      exact h1
    · rw [if_neg h1] at h ⊢
      have hn : ¬ (p.isPrefixOf (l.take m) && litLen q f ((l.take m).drop p.length) != 0) = true := by
        intro h2
        rw [Bool.and_eq_true] at h2
        cases hp : p.isPrefixOf l with
        | false => rw [isPrefixOf_take_false m hp] at h2; cases h2.1
        | true =>
          rw [hp, Bool.true_and] at h1
          have hz : litLen q f (l.drop p.length) = 0 := by simpa using h1
          rw [List.drop_take, litLen_zero _ hz] at h2
          cases h2.2
      rw [if_neg hn]
      exact quotedLen_take ps h
theorem punctDown_take {l : List UInt8} {m : Nat} : ∀ n, n ≤ m → punctDown (l.take m) n = punctDown l n
  | 0, _ => rfl
  | n + 1, h => by
    rw [punctDown, punctDown, List.take_take, Nat.min_eq_left h, punctDown_take n (by omega)]
theorem punctDown_cut {l : List UInt8} : ∀ (n k : Nat), punctDown l n ≤ k → k ≤ n → punctDown l k = punctDown l n
  | 0, k, _, hk => by rw [Nat.le_zero.1 hk]
  | n + 1, k, h, hk => by
    by_cases he : k = n + 1
    · rw [he]
    · rw [punctDown] at h ⊢
      by_cases hp : isPunctB (l.take (n + 1)) = true
      · rw [if_pos hp] at h; omega
      · rw [if_neg hp] at h ⊢
        exact punctDown_cut n k h (by omega)
theorem punctLen_take {l : List UInt8} {m : Nat} (h : punctLen l ≤ m) : punctLen (l.take m) = punctLen l := by
  unfold punctLen at h ⊢
  rw [List.length_take, punctDown_take _ (by omega)]
  by_cases hm : min l.length 4 ≤ m
  · rw [show min (min m l.length) 4 = min l.length 4 by omega]
  · rw [show min (min m l.length) 4 = m by omega]
    exact punctDown_cut _ _ h (by omega)
theorem nlLen_take {l : List UInt8} {m : Nat} (h : nlLen l ≤ m) : nlLen (l.take m) = nlLen l := by
  cases l with
  | nil => simp
  | cons c r =>
    cases m with
    | zero =>
      have : nlLen (c :: r) = 0 := by omega
      rw [this]; rfl
    | succ m => rfl
theorem measure_take {k : Nat} {l : List UInt8} {m : Nat} (h : measureOf k l ≤ m) : measureOf k (l.take m) = measureOf k l := by
  unfold measureOf at h ⊢
  by_cases h1 : k = 1
  · rw [if_pos h1] at h ⊢; rw [if_pos h1]; exact wordLen_take h
  · rw [if_neg h1] at h ⊢; rw [if_neg h1]
    by_cases h2 : k = 2
    · rw [if_pos h2] at h ⊢; rw [if_pos h2]; exact numLen_take h
    · rw [if_neg h2] at h ⊢; rw [if_neg h2]
      by_cases h3 : k = 3
      · rw [if_pos h3] at h ⊢; rw [if_pos h3]; exact quotedLen_take _ h
      · rw [if_neg h3] at h ⊢; rw [if_neg h3]
        by_cases h4 : k = 4
        · rw [if_pos h4] at h ⊢; rw [if_pos h4]; exact quotedLen_take _ h
        · rw [if_neg h4] at h ⊢; rw [if_neg h4]
          by_cases h5 : k = 5
          · rw [if_pos h5] at h ⊢; rw [if_pos h5]; exact punctLen_take h
          · rw [if_neg h5] at h ⊢; rw [if_neg h5]
            by_cases h9 : k = 9
            · rw [if_pos h9] at h ⊢; rw [if_pos h9]; exact nlLen_take h
            · rw [if_neg h9, if_neg h9]

/-! ### The longest token -/

theorem better_ge (l : List UInt8) (a : Nat × Nat) (k : Nat) : a.2 ≤ (better l a k).2 ∧ measureOf k l ≤ (better l a k).2 := by
  unfold better
  split
  · exact ⟨by simp only; omega, Nat.le_refl _⟩
  · exact ⟨Nat.le_refl _, by omega⟩
theorem fold_ge (l : List UInt8) : ∀ (ks : List Nat) (a : Nat × Nat), a.2 ≤ (ks.foldl (better l) a).2 ∧ ∀ k ∈ ks, measureOf k l ≤ (ks.foldl (better l) a).2
  | [], a => ⟨Nat.le_refl _, fun _ h => by cases h⟩
  | k :: ks, a => by
    obtain ⟨h1, h2⟩ := fold_ge l ks (better l a k)
    obtain ⟨h3, h4⟩ := better_ge l a k
    refine ⟨Nat.le_trans h3 h1, fun j hj => ?_⟩
    rcases List.mem_cons.1 hj with rfl | hj
    · exact Nat.le_trans h4 h1
    · exact h2 j hj
theorem fold_congr {l l' : List UInt8} : ∀ (ks : List Nat) (a : Nat × Nat), (∀ k ∈ ks, measureOf k l' = measureOf k l) → ks.foldl (better l') a = ks.foldl (better l) a
  | [], _, _ => rfl
  | k :: ks, a, h => by
    have h1 : better l' a k = better l a k := by unfold better; rw [h k List.mem_cons_self]
    rw [List.foldl_cons, List.foldl_cons, h1]
    exact fold_congr ks _ (fun j hj => h j (List.mem_cons_of_mem _ hj))
def kinds6 : List Nat := [1, 2, 3, 4, 5, 9]
theorem longest_congr {l l' : List UInt8} (h : ∀ k ∈ kinds6, measureOf k l' = measureOf k l) (hh : l'.headD 0 = l.headD 0) : longestOf l' = longestOf l := by
  unfold longestOf
  rw [fold_congr [1, 2, 3, 4, 5, 9] (0, 0) h, hh]
theorem longest_bound {l : List UInt8} {m : Nat} (h : (longestOf l).2 ≤ m) : ∀ k ∈ kinds6, measureOf k l ≤ m := by
  intro k hk
  have h1 := (fold_ge l kinds6 (0, 0)).2 k hk
  unfold longestOf at h
  simp only at h
  split at h
  · rename_i h2
    have h3 : (kinds6.foldl (better l) (0, 0)).2 = 0 := by
      rw [Bool.and_eq_true] at h2
      exact of_decide_eq_true h2.1
    omega
  · have : (kinds6.foldl (better l) (0, 0)).2 ≤ m := h
    omega
theorem headD_take {l : List UInt8} {m : Nat} (hm : 1 ≤ m) : (l.take m).headD 0 = l.headD 0 := by
  obtain ⟨m', rfl⟩ : ∃ m', m = m' + 1 := ⟨m - 1, by omega⟩
  cases l <;> rfl
theorem longest_take {l : List UInt8} {m : Nat} (hm : 1 ≤ m) (h : (longestOf l).2 ≤ m) : longestOf (l.take m) = longestOf l :=
  longest_congr (fun k hk => measure_take (longest_bound h k hk)) (headD_take hm)

theorem closeC_take : ∀ (l : List UInt8) (m i : Nat), closeC l = some i → i + 2 ≤ m → closeC (l.take m) = some i
  | [], m, i, h, _ => by simp [closeC] at h
  | c :: r, m, i, h, hm => by
    obtain ⟨m', rfl⟩ : ∃ m', m = m' + 1 := ⟨m - 1, by omega⟩
    rw [closeC] at h
    rw [List.take_succ_cons, closeC]
    by_cases h1 : (c == 42 && r.head? == some 47) = true
    · rw [if_pos h1] at h
      rw [if_pos]
      · exact h
      · cases h
        obtain ⟨m'', rfl⟩ : ∃ m'', m' = m'' + 1 := ⟨m' - 1, by omega⟩
        cases r with
        | nil => simp at h1
        | cons d r => rw [List.take_succ_cons]; exact h1
    · rw [if_neg h1] at h
      cases hr : closeC r with
      | none => rw [hr] at h; cases h
      | some j =>
        rw [hr] at h
        simp only [Option.map_some, Option.some.injEq] at h
        have ih := closeC_take r m' j hr (by omega)
        rw [if_neg, ih]
        · simp only [Option.map_some, Option.some.injEq]; exact h
        · intro h2
          cases m' with
          | zero => simp at h2
          | succ m'' =>
            cases r with
            | nil => simp at h2
            | cons d r => rw [List.take_succ_cons] at h2; exact h1 h2
theorem isComment_take {l : List UInt8} {m : Nat} (h : isComment l = true) (hm : 2 ≤ m) : isComment (l.take m) = true := by
  unfold isComment at h ⊢
  rw [isPrefixOf_take hm, isPrefixOf_take hm]; exact h
theorem isComment_take_no {l : List UInt8} (m : Nat) (h : isComment l = false) : isComment (l.take m) = false := by
  unfold isComment at h ⊢
  rw [Bool.or_eq_false_iff] at h ⊢
  exact ⟨isPrefixOf_take_false m h.1, isPrefixOf_take_false m h.2⟩
theorem commentLen_take {l : List UInt8} {m : Nat} (h0 : commentLen l ≠ 0) (hm : commentLen l ≤ m) : commentLen (l.take m) = commentLen l ∧ 2 ≤ m := by
  unfold commentLen at h0 hm ⊢
  by_cases h1 : [47, 47].isPrefixOf l = true
  · rw [if_pos h1] at hm ⊢
    rw [isPrefixOf_take (by simp only [List.length_cons, List.length_nil]; omega), if_pos h1, List.drop_take, runLen_take]
    omega
  · rw [if_neg h1] at h0 hm ⊢
    have h1' : [47, 47].isPrefixOf l = false := Bool.eq_false_iff.2 h1
    rw [isPrefixOf_take_false m h1', if_neg (by decide)]
    cases hc : closeC (l.drop 2) with
    | none => rw [hc] at h0; exact absurd rfl h0
    | some n =>
      rw [hc] at hm
      simp only at hm
      rw [List.drop_take, closeC_take _ _ n hc (by omega)]
      exact ⟨rfl, by omega⟩

/-- What a token is, if its text is cut off behind it (a header's name aside). -/
theorem next_take {inc : Bool} {l : List UInt8} {k n m : Nat} (h : nextOf inc l = (k, n, 0)) (hk : k ≠ 7) (hn : 1 ≤ n) (hm : n ≤ m) : nextOf false (l.take m) = (k, n, 0) := by
  unfold nextOf at h
  split at h
  · simp only [Prod.mk.injEq] at h; exact absurd h.1.symm hk
  · unfold nextOf
    rw [if_neg (by simp)]
    split at h
    · rename_i h2
      split at h
      · simp only [Prod.mk.injEq] at h; omega
      · rename_i h3
        simp only [Prod.mk.injEq] at h
        obtain ⟨h4, h5⟩ := commentLen_take h3 (show commentLen l ≤ m by omega)
        rw [if_pos (isComment_take h2 h5), h4, if_neg h3]
        simp only [Prod.mk.injEq]
        exact ⟨h.1, h.2.1, trivial⟩
    · rename_i h2
      have h2' : isComment l = false := by simpa using h2
      split at h
      · simp only [Prod.mk.injEq] at h; omega
      · rename_i h3
        simp only [Prod.mk.injEq] at h
        rw [isComment_take_no m h2', if_neg (by decide), longest_take (by omega) (by omega), if_neg h3]
        simp only [Prod.mk.injEq]
        exact ⟨h.1, h.2.1, trivial⟩

end Go.Proofs.Ytpomcdolpmbhdaa

namespace Go.Proofs.Ytpomcdolpmbhdaa

/-- What follows is nothing, or begins with a blank or a line's end. -/
def Stops (r : List UInt8) : Prop := ∀ c s, r = c :: s → c = 32 ∨ c = 10

theorem runLen_ext {p : UInt8 → Bool} (h32 : p 32 = false) (h10 : p 10 = false) {r : List UInt8} (hr : Stops r) : ∀ x : List UInt8, runLen p (x ++ r) = runLen p x
  | [] => by
    cases r with
    | nil => rfl
    | cons c s =>
      have hp : p c = false := by rcases hr c s rfl with rfl | rfl <;> assumption
      show runLen p (c :: s) = 0
      simp [runLen, hp]
  | c :: x => by
    rw [List.cons_append, runLen, runLen, runLen_ext h32 h10 hr x]
theorem wordLen_ext {r : List UInt8} (hr : Stops r) (x : List UInt8) (hx : x ≠ []) : wordLen (x ++ r) = wordLen x := by
  cases x with
  | nil => exact absurd rfl hx
  | cons c x =>
    rw [List.cons_append, wordLen, wordLen, runLen_ext (by decide) (by decide) hr]

theorem numTail_stop {r : List UInt8} (hr : Stops r) : numTail r = 0 := by
  match r, hr with
  | [], _ => rfl
  | [c], hr => rcases hr c [] rfl with rfl | rfl <;> rfl
  | c :: d :: s, hr =>
    rw [numTail_three]
    rcases hr c _ rfl with rfl | rfl <;> rfl
theorem numTail_ext {r : List UInt8} (hr : Stops r) : ∀ (m : Nat) (x : List UInt8), x.length ≤ m → numTail (x ++ r) = numTail x := by
  intro m
  induction m with
  | zero =>
    intro x hx
    have : x = [] := List.length_eq_zero_iff.1 (by omega)
    subst this
    exact numTail_stop hr
  | succ m ih =>
    intro x hx
    match x, hx with
    | [], _ => exact numTail_stop hr
    | [c], _ =>
      cases r with
      | nil => rfl
      | cons d s =>
        show numTail (c :: d :: s) = _
        rw [numTail_three, numTail_stop hr]
        have hd : isSgn d = false := by rcases hr d s rfl with rfl | rfl <;> rfl
        rw [hd, Bool.and_false, if_neg (by decide)]
        rfl
    | c :: d :: x, hx =>
      simp only [List.length_cons] at hx
      rw [List.cons_append, List.cons_append, numTail_three, numTail_three, ih x (by omega)]
      have := ih (d :: x) (by simp; omega)
      rw [List.cons_append] at this
      rw [this]
theorem numStart_ext {r : List UInt8} (hr : Stops r) (x : List UInt8) (hx : x ≠ []) : numStart (x ++ r) = numStart x := by
  match x, hx with
  | [c], _ =>
    cases r with
    | nil => rfl
    | cons d s =>
      show numStart (c :: d :: s) = numStart [c]
      have hd : isDig d = false := by rcases hr d s rfl with rfl | rfl <;> rfl
      simp only [numStart, hd]
  | c :: d :: x, _ => rfl
theorem numLen_ext {r : List UInt8} (hr : Stops r) (x : List UInt8) (hx : x ≠ []) : numLen (x ++ r) = numLen x := by
  unfold numLen
  have h := numStart_le x
  rw [numStart_ext hr x hx, List.drop_append_of_le_length h, numTail_ext hr _ _ (Nat.le_refl _)]

theorem puncts_stop : ∀ p ∈ puncts, ∀ c ∈ p, c ≠ 32 ∧ c ≠ 10 := by decide +kernel
theorem punctDown_stop {c : UInt8} {s : List UInt8} (hc : c = 32 ∨ c = 10) (x : List UInt8) : ∀ n, punctDown (x ++ c :: s) n ≤ x.length
  | 0 => Nat.zero_le _
  | n + 1 => by
    rw [punctDown]
    split
    · rename_i hp
      refine Nat.le_of_not_lt (fun h => ?_)
      unfold isPunctB at hp
      have hm := List.contains_iff_mem.1 hp
      have hcm : c ∈ (x ++ c :: s).take (n + 1) := by
        rw [List.take_append, List.mem_append]
        right
        obtain ⟨k, hk⟩ : ∃ k, n + 1 - x.length = k + 1 := ⟨n - x.length, by omega⟩
        rw [hk, List.take_succ_cons]
        exact List.mem_cons_self
      have := puncts_stop _ hm c hcm
      rcases hc with h | h
      · exact this.1 h
      · exact this.2 h
    · exact punctDown_stop hc x n
theorem punctLen_stop {r : List UInt8} (hr : Stops r) (x : List UInt8) : punctLen (x ++ r) ≤ x.length := by
  cases r with
  | nil => rw [List.append_nil]; exact punctLen_le x
  | cons c s => exact punctDown_stop (hr c s rfl) x _
theorem nlLen_stop {r : List UInt8} (x : List UInt8) (hx : x ≠ []) : nlLen (x ++ r) ≤ x.length := by
  cases x with
  | nil => exact absurd rfl hx
  | cons c x => rw [List.cons_append, nlLen]; split <;> simp

/-- Where the body of a literal ends, and it is not in what follows. -/
theorem bodyLen_app (q : UInt8) : ∀ (m : Nat) (l : List UInt8), l.length ≤ m → ∀ (r : List UInt8) (n : Nat), bodyLen q l = some n → bodyLen q (l ++ r) = some n := by
  intro m
  induction m with
  | zero =>
    intro l hl r n h
    have : l = [] := List.length_eq_zero_iff.1 (by omega)
    subst this
    cases h
  | succ m ih =>
    intro l hl r n h
    match l, hl, h with
    | [], _, h => cases h
    | c :: l, hl, h =>
      simp only [List.length_cons] at hl
      rw [List.cons_append, bodyLen_eq]
      rw [bodyLen_eq] at h
      split at h
      · rename_i h1; rw [if_pos h1]; exact h
      · rename_i h1
        rw [if_neg h1]
        split at h
        · cases h
        · rename_i h2
          rw [if_neg h2]
          split at h
          · rename_i h3
            rw [if_pos h3]
            match l, hl, h with
            | [], _, h => cases h
            | d :: l', hl, h =>
              simp only [List.length_cons] at hl
              simp only [List.cons_append] at h ⊢
              split at h
              · cases h
              · rename_i h4
                rw [if_neg h4]
                cases hb : bodyLen q l' with
                | none => rw [hb] at h; cases h
                | some k => rw [hb] at h; rw [ih l' (by omega) r k hb]; exact h
          · rename_i h3
            rw [if_neg h3]
            cases hb : bodyLen q l with
            | none => rw [hb] at h; cases h
            | some k => rw [hb] at h; rw [ih l (by omega) r k hb]; exact h

end Go.Proofs.Ytpomcdolpmbhdaa

namespace Go.Proofs.Ytpomcdolpmbhdaa

def noQ (c : UInt8) : Bool := c != 39 && c != 34
theorem first_quote : ∀ {p p' : List UInt8} {q q' : UInt8} {y y' : List UInt8}, p.all noQ = true → p'.all noQ = true → noQ q = false → noQ q' = false → p ++ q :: y = p' ++ q' :: y' → p = p' ∧ q = q' ∧ y = y'
  | [], [], _, _, _, _, _, _, _, _, h => by
    simp only [List.nil_append, List.cons.injEq] at h
    exact ⟨rfl, h.1, h.2⟩
  | [], c :: p', _, _, _, _, _, h2, h3, _, h => by
    simp only [List.nil_append, List.cons_append, List.cons.injEq] at h
    rw [List.all_cons, ← h.1, h3] at h2
    cases h2
  | c :: p, [], _, _, _, _, h1, _, _, h4, h => by
    simp only [List.nil_append, List.cons_append, List.cons.injEq] at h
    rw [List.all_cons, h.1, h4] at h1
    cases h1
  | c :: p, c' :: p', _, _, _, _, h1, h2, h3, h4, h => by
    simp only [List.cons_append, List.cons.injEq] at h
    rw [List.all_cons, Bool.and_eq_true] at h1 h2
    obtain ⟨e1, e2, e3⟩ := first_quote h1.2 h2.2 h3 h4 h.2
    exact ⟨by rw [h.1, e1], e2, e3⟩

theorem runLen_all {p : UInt8 → Bool} : ∀ {l : List UInt8}, runLen p l = l.length → ∀ c ∈ l, p c = true
  | [], _ => fun c hc => by cases hc
  | d :: l, h => fun c hc => by
    rw [runLen] at h
    by_cases hd : p d = true
    · rw [if_pos hd, List.length_cons] at h
      rcases List.mem_cons.1 hc with rfl | hc
      · exact hd
      · exact runLen_all (by omega) c hc
    · rw [if_neg hd, List.length_cons] at h; omega
def numB (c : UInt8) : Bool := isNum c || isSgn c
theorem exp_num (c : UInt8) (h : isExp c = true) : numB c = true := by
  unfold isExp at h
  simp only [Bool.or_eq_true, beq_iff_eq] at h
  rcases h with ((rfl | rfl) | rfl) | rfl <;> decide
theorem numTail_all : ∀ (m : Nat) {l : List UInt8}, l.length ≤ m → numTail l = l.length → ∀ c ∈ l, numB c = true := by
  intro m
  induction m with
  | zero =>
    intro l hl _ c hc
    have : l = [] := List.length_eq_zero_iff.1 (by omega)
    subst this
    cases hc
  | succ m ih =>
    intro l hl h c hc
    match l, hl, h, hc with
    | [d], _, h, hc =>
      obtain rfl : c = d := by simpa using hc
      rw [numTail] at h
      by_cases hd : isNum c = true
      · unfold numB; rw [hd]; rfl
      · rw [if_neg hd] at h; simp at h
    | d :: e :: l, hl, h, hc =>
      simp only [List.length_cons] at hl h
      rw [numTail_three] at h
      split at h
      · rename_i h1
        rw [Bool.and_eq_true] at h1
        rcases List.mem_cons.1 hc with rfl | hc
        · exact exp_num _ h1.1
        · rcases List.mem_cons.1 hc with rfl | hc
          · unfold numB; rw [h1.2, Bool.or_true]
          · exact ih (by omega) (by omega) c hc
      · split at h
        · rename_i h1 h2
          rcases List.mem_cons.1 hc with rfl | hc
          · unfold numB; rw [h2]; rfl
          · exact ih (l := e :: l) (by simp; omega) (by simp; omega) c hc
        · omega
theorem numStart_cons (d : UInt8) (r : List UInt8) : numStart (d :: r) = if isDig d then 1 else if d == 46 && (match r with | e :: _ => isDig e | [] => false) then 2 else 0 := rfl
theorem numStart_num {l : List UInt8} : ∀ c ∈ l.take (numStart l), numB c = true := by
  intro c hc
  match l, hc with
  | [], hc => simp [numStart] at hc
  | [d], hc =>
    rw [numStart_cons] at hc
    by_cases h1 : isDig d = true
    · rw [if_pos h1] at hc
      obtain rfl : c = d := by simpa using hc
      unfold numB isNum; rw [h1]; rfl
    · rw [if_neg h1, if_neg (by simp)] at hc; cases hc
  | d :: e :: r, hc =>
    rw [numStart_cons] at hc
    by_cases h1 : isDig d = true
    · rw [if_pos h1] at hc
      obtain rfl : c = d := by simpa using hc
      unfold numB isNum; rw [h1]; rfl
    · rw [if_neg h1] at hc
      simp only at hc
      by_cases h2 : (d == 46 && isDig e) = true
      · rw [if_pos h2] at hc
        rw [Bool.and_eq_true] at h2
        rcases (by simpa using hc : c = d ∨ c = e) with rfl | rfl
        · rw [eq_of_beq h2.1]; decide
        · have h3 : isDig c = true := h2.2
          unfold numB isNum; rw [h3]; rfl
      · rw [if_neg h2] at hc; cases hc
theorem numLen_all {l : List UInt8} (h : numLen l = l.length) (h0 : l ≠ []) : ∀ c ∈ l, numB c = true := by
  intro c hc
  have hs := numStart_le l
  unfold numLen at h
  have hl : l.length ≠ 0 := fun e => h0 (List.length_eq_zero_iff.1 e)
  split at h
  · omega
  · rw [← List.take_append_drop (numStart l) l, List.mem_append] at hc
    rcases hc with hc | hc
    · exact numStart_num c hc
    · exact numTail_all _ (Nat.le_refl _) (by rw [List.length_drop]; omega) c hc

theorem fold_mem (l : List UInt8) : ∀ (ks : List Nat) (a : Nat × Nat), (ks.foldl (better l) a).2 = a.2 ∨ ∃ k ∈ ks, measureOf k l = (ks.foldl (better l) a).2
  | [], _ => .inl rfl
  | k :: ks, a => by
    rw [List.foldl_cons]
    rcases fold_mem l ks (better l a k) with h | ⟨k', h1, h2⟩
    · rw [h]
      unfold better
      split
      · exact .inr ⟨k, List.mem_cons_self, rfl⟩
      · exact .inl rfl
    · exact .inr ⟨k', List.mem_cons_of_mem _ h1, h2⟩

theorem quoted_some {q : UInt8} {f : Nat} {l : List UInt8} : ∀ {ps : List (List UInt8)}, quotedLen q f l ps ≠ 0 → ∃ p ∈ ps, ∃ y n, l = p ++ q :: y ∧ bodyLen q y = some n ∧ quotedLen q f l ps = p.length + (n + 2)
  | [], h => absurd rfl h
  | p :: ps, h => by
    rw [quotedLen] at h ⊢
    split at h
    · rename_i h1
      rw [if_pos h1]
      rw [Bool.and_eq_true] at h1
      obtain ⟨t, ht⟩ := List.isPrefixOf_iff_prefix.1 h1.1
      subst ht
      have h2 := h1.2
      rw [List.drop_left] at h2 ⊢
      refine ⟨p, List.mem_cons_self, ?_⟩
      cases t with
      | nil => simp [litLen] at h2
      | cons c y =>
        rw [litLen] at h2 ⊢
        by_cases hc : (c == q) = true
        · rw [if_pos hc] at h2 ⊢
          have := eq_of_beq hc
          subst this
          cases hb : bodyLen c y with
          | none => rw [hb] at h2; simp at h2
          | some n =>
            rw [hb] at h2
            simp only at h2 ⊢
            by_cases hf : n < f
            · rw [if_pos hf] at h2; simp at h2
            · rw [if_neg hf]; exact ⟨y, n, rfl, hb, rfl⟩
        · rw [if_neg hc] at h2; simp at h2
    · rename_i h1
      rw [if_neg h1]
      obtain ⟨p', h2, h3⟩ := quoted_some h
      exact ⟨p', List.mem_cons_of_mem _ h2, h3⟩

theorem pre_noQ : (∀ p ∈ chPre, p.all noQ = true) ∧ (∀ p ∈ stPre, p.all noQ = true) ∧ (∀ p ∈ chPre, ∀ c ∈ p, c ≠ 32 ∧ c ≠ 10) ∧ (∀ p ∈ stPre, ∀ c ∈ p, c ≠ 32 ∧ c ≠ 10) := by decide +kernel
theorem puncts_noQ : ∀ p ∈ puncts, p.all noQ = true := by decide +kernel

end Go.Proofs.Ytpomcdolpmbhdaa

namespace Go.Proofs.Ytpomcdolpmbhdaa

/-- A token that is a prefix, a quote and more: the literal ends in it. -/
theorem quote_closed {x p y : List UInt8} {q : UInt8} {k : Nat} (h : longestOf x = (k, x.length)) (hx : x = p ++ q :: y) (hp : p.all noQ = true) (hq : q = 39 ∨ q = 34) : ∃ n, bodyLen q y = some n := by
  have hqn : noQ q = false := by rcases hq with rfl | rfl <;> rfl
  have hmem : q ∈ x := by rw [hx]; simp
  have hlen : x.length = p.length + (y.length + 1) := by rw [hx]; simp
  have hxne : x ≠ [] := by rw [hx]; simp
  unfold longestOf at h
  simp only at h
  split at h
  · rename_i h1
    exfalso
    simp only [Prod.mk.injEq] at h
    have hp0 : p = [] := List.length_eq_zero_iff.1 (by omega)
    subst hp0
    rw [hx] at h1
    have : isQuote q = true := by rcases hq with rfl | rfl <;> rfl
    simp [this] at h1
  · have h2 : (([1, 2, 3, 4, 5, 9] : List Nat).foldl (better x) (0, 0)).2 = x.length := congrArg Prod.snd h
    rcases fold_mem x [1, 2, 3, 4, 5, 9] (0, 0) with h3 | ⟨m, hm, h3⟩
    · rw [h2] at h3; simp only at h3; omega
    · rw [h2] at h3
      simp only [List.mem_cons, List.not_mem_nil, or_false] at hm
      rcases hm with rfl | rfl | rfl | rfl | rfl | rfl
      · exfalso
        have h4 : wordLen x = x.length := h3
        cases x with
        | nil => exact hxne rfl
        | cons c r =>
          rw [wordLen] at h4
          by_cases hc : isLet c = true
          · rw [if_pos hc, List.length_cons] at h4
            have hr := runLen_all (p := isAln) (l := r) (by omega)
            rcases List.mem_cons.1 hmem with rfl | hm
            · rcases hq with rfl | rfl <;> exact absurd hc (by decide)
            · have := hr q hm
              rcases hq with rfl | rfl <;> exact absurd this (by decide)
          · rw [if_neg hc, List.length_cons] at h4; omega
      · exfalso
        have h4 : numLen x = x.length := h3
        have := numLen_all h4 hxne q hmem
        rcases hq with rfl | rfl <;> exact absurd this (by decide)
      · have h4 : quotedLen 39 1 x chPre = x.length := h3
        obtain ⟨p', hp', y', n, e1, e2, _⟩ := quoted_some (q := 39) (f := 1) (l := x) (ps := chPre) (by omega)
        obtain ⟨_, e3, e4⟩ := first_quote hp (pre_noQ.1 p' hp') hqn (by decide) (hx.symm.trans e1)
        rw [e3, e4]; exact ⟨n, e2⟩
      · have h4 : quotedLen 34 0 x stPre = x.length := h3
        obtain ⟨p', hp', y', n, e1, e2, _⟩ := quoted_some (q := 34) (f := 0) (l := x) (ps := stPre) (by omega)
        obtain ⟨_, e3, e4⟩ := first_quote hp (pre_noQ.2.1 p' hp') hqn (by decide) (hx.symm.trans e1)
        rw [e3, e4]; exact ⟨n, e2⟩
      · exfalso
        have h4 : punctLen x = x.length := h3
        have h5 : ∀ n, punctDown x n = 0 ∨ isPunctB (x.take (punctDown x n)) = true := by
          intro n
          induction n with
          | zero => exact .inl rfl
          | succ n ih =>
            rw [punctDown]
            by_cases hp : isPunctB (x.take (n + 1)) = true
            · rw [if_pos hp]; exact .inr hp
            · rw [if_neg hp]; exact ih
        rcases h5 (min x.length 4) with h6 | h6
        · have : punctLen x = 0 := h6
          omega
        · have e : punctDown x (min x.length 4) = x.length := h4
          rw [e, List.take_length] at h6
          unfold isPunctB at h6
          have := List.all_eq_true.1 (puncts_noQ _ (List.contains_iff_mem.1 h6)) q hmem
          rw [hqn] at this; cases this
      · exfalso
        have h4 : nlLen x = x.length := h3
        cases x with
        | nil => exact hxne rfl
        | cons c r =>
          rw [nlLen] at h4
          by_cases hc : (c == 10) = true
          · rw [if_pos hc, List.length_cons] at h4
            have hr : r = [] := List.length_eq_zero_iff.1 (by omega)
            subst hr
            obtain rfl : q = c := by simpa using hmem
            have := eq_of_beq hc
            rcases hq with rfl | rfl <;> exact absurd this (by decide)
          · rw [if_neg hc, List.length_cons] at h4; omega

theorem quoted_stop {x r : List UInt8} {q : UInt8} {k f : Nat} {ps : List (List UInt8)} (hr : Stops r) (h : longestOf x = (k, x.length)) (hq : q = 39 ∨ q = 34) (h1 : ∀ p ∈ ps, p.all noQ = true) (h2 : ∀ p ∈ ps, ∀ c ∈ p, c ≠ 32 ∧ c ≠ 10) :
    quotedLen q f (x ++ r) ps ≤ x.length := by
  by_cases h0 : quotedLen q f (x ++ r) ps = 0
  · omega
  · obtain ⟨p, hp, z, n, e1, e2, e3⟩ := quoted_some h0
    rw [e3]
    by_cases hlt : p.length < x.length
    · have hx : x = p ++ q :: (x.drop (p.length + 1)) := by
        have ht : p = x.take p.length := by
          have := congrArg (List.take p.length) e1
          rw [List.take_append_of_le_length (by omega), List.take_left] at this
          exact this.symm
        have hd := congrArg (List.drop p.length) e1
        rw [List.drop_append_of_le_length (by omega), List.drop_left, List.drop_eq_getElem_cons hlt, List.cons_append, List.cons.injEq] at hd
        conv => lhs; rw [← List.take_append_drop p.length x, ← ht, List.drop_eq_getElem_cons hlt, hd.1]
      generalize x.drop (p.length + 1) = y at hx
      obtain ⟨n', hn'⟩ := quote_closed h hx (h1 p hp) hq
      have hz : z = y ++ r := by
        rw [hx, List.append_assoc, List.append_cancel_left_eq, List.cons_append, List.cons.injEq] at e1
        exact e1.2.symm
      rw [hz, bodyLen_app q _ y (Nat.le_refl _) r n' hn'] at e2
      obtain rfl : n' = n := Option.some.inj e2
      have := bodyLen_lt q _ y (Nat.le_refl _) n' hn'
      have : x.length = p.length + (y.length + 1) := by rw [hx]; simp
      omega
    · exfalso
      have hd := congrArg (List.drop x.length) e1
      rw [List.drop_left, List.drop_append_of_le_length (by omega)] at hd
      cases hpd : p.drop x.length with
      | nil =>
        rw [hpd, List.nil_append] at hd
        rcases hr _ _ hd with h | h
        · rcases hq with rfl | rfl <;> exact absurd h (by decide)
        · rcases hq with rfl | rfl <;> exact absurd h (by decide)
      | cons c s =>
        rw [hpd, List.cons_append] at hd
        have hc : c ∈ p := List.mem_of_mem_drop (i := x.length) (by rw [hpd]; exact List.mem_cons_self)
        rcases hr _ _ hd with h | h
        · exact (h2 p hp c hc).1 h
        · exact (h2 p hp c hc).2 h

theorem measure_stop {x r : List UInt8} {k : Nat} (hr : Stops r) (hx : x ≠ []) (h : longestOf x = (k, x.length)) : ∀ m ∈ kinds6, measureOf m (x ++ r) ≤ x.length := by
  intro m hm
  simp only [kinds6, List.mem_cons, List.not_mem_nil, or_false] at hm
  rcases hm with rfl | rfl | rfl | rfl | rfl | rfl
  · show wordLen (x ++ r) ≤ _
    rw [wordLen_ext hr x hx]; exact wordLen_le x
  · show numLen (x ++ r) ≤ _
    rw [numLen_ext hr x hx]; exact numLen_le' x
  · exact quoted_stop (q := 39) (f := 1) hr h (.inl rfl) pre_noQ.1 pre_noQ.2.2.1
  · exact quoted_stop (q := 34) (f := 0) hr h (.inr rfl) pre_noQ.2.1 pre_noQ.2.2.2
  · exact punctLen_stop hr x
  · exact nlLen_stop x hx

/-- The longest token of a token's text and what follows is that token. -/
theorem longest_ext {x r : List UInt8} {k : Nat} (hr : Stops r) (hx : x ≠ []) (h : longestOf x = (k, x.length)) : longestOf (x ++ r) = (k, x.length) := by
  rw [← h]
  refine longest_congr (fun m hm => ?_) ?_
  · have := measure_take (measure_stop hr hx h m hm)
    rw [List.take_left] at this
    exact this.symm
  · cases x with
    | nil => exact absurd rfl hx
    | cons c s => rfl

end Go.Proofs.Ytpomcdolpmbhdaa

namespace Go.Proofs.Ytpomcdolpmbhdaa

theorem closeN_app (q : UInt8) : ∀ {y s s' : List UInt8} {n : Nat}, closeN q (y ++ s) = some n → n < y.length → closeN q (y ++ s') = some n
  | [], _, _, _, _, h2 => by simp at h2
  | c :: y, s, s', n, h, h2 => by
    rw [List.cons_append, closeN] at h ⊢
    by_cases h10 : (c == 10) = true
    · rw [if_pos h10] at h; cases h
    · rw [if_neg h10] at h ⊢
      by_cases hq : (c == q) = true
      · rw [if_pos hq] at h ⊢; exact h
      · rw [if_neg hq] at h ⊢
        cases hc : closeN q (y ++ s) with
        | none => rw [hc] at h; cases h
        | some m =>
          rw [hc] at h
          obtain rfl : m + 1 = n := Option.some.inj h
          rw [List.length_cons] at h2
          rw [closeN_app q hc (by omega)]; rfl
theorem header_cons (c : UInt8) (r : List UInt8) : headerLen (c :: r) = if c == 34 then (match closeN 34 r with | some n => n + 2 | none => 0) else if c == 60 then (match closeN 62 r with | some n => n + 2 | none => 0) else 0 := rfl
theorem header_ext {x s : List UInt8} (s' : List UInt8) (hx : x ≠ []) (h : headerLen (x ++ s) = x.length) : headerLen (x ++ s') = x.length := by
  cases x with
  | nil => exact absurd rfl hx
  | cons c y =>
    rw [List.cons_append, header_cons, List.length_cons] at h
    rw [List.cons_append, header_cons, List.length_cons]
    by_cases h1 : (c == 34) = true
    · rw [if_pos h1] at h ⊢
      cases hc : closeN 34 (y ++ s) with
      | none => rw [hc] at h; simp at h
      | some n =>
        rw [hc] at h
        simp only at h
        rw [closeN_app 34 hc (by omega)]; exact h
    · rw [if_neg h1] at h ⊢
      by_cases h2 : (c == 60) = true
      · rw [if_pos h2] at h ⊢
        cases hc : closeN 62 (y ++ s) with
        | none => rw [hc] at h; simp at h
        | some n =>
          rw [hc] at h
          simp only at h
          rw [closeN_app 62 hc (by omega)]; exact h
      · rw [if_neg h2] at h; omega

theorem closeC_cons (c : UInt8) (r : List UInt8) : closeC (c :: r) = if c == 42 && r.head? == some 47 then some 0 else (closeC r).map (· + 1) := rfl
theorem closeC_app : ∀ {l : List UInt8} {n : Nat} (r : List UInt8), closeC l = some n → closeC (l ++ r) = some n
  | [], _, _, h => by cases h
  | c :: l, n, r, h => by
    rw [closeC_cons] at h
    rw [List.cons_append, closeC_cons]
    by_cases h1 : (c == 42 && l.head? == some 47) = true
    · rw [if_pos h1] at h
      have h2 : (c == 42 && (l ++ r).head? == some 47) = true := by
        cases l with
        | nil => simp at h1
        | cons d l => exact h1
      rw [if_pos h2]; exact h
    · rw [if_neg h1] at h
      cases hc : closeC l with
      | none => rw [hc] at h; cases h
      | some m =>
        rw [hc] at h
        have h2 : ¬ (c == 42 && (l ++ r).head? == some 47) = true := by
          cases l with
          | nil => cases hc
          | cons d l => exact h1
        rw [if_neg h2, closeC_app r hc]; exact h

theorem isComment_cons (c d : UInt8) (r : List UInt8) : isComment (c :: d :: r) = (c == 47 && (d == 42 || d == 47)) := by
  unfold isComment
  simp only [List.isPrefixOf]
  by_cases h : c = 47
  · subst h
    by_cases h2 : d = 42
    · subst h2; simp
    · by_cases h3 : d = 47
      · subst h3; simp
      · have e1 : (42 == d) = false := beq_eq_false_iff_ne.2 fun e => h2 e.symm
        have e2 : (47 == d) = false := beq_eq_false_iff_ne.2 fun e => h3 e.symm
        simp [h2, h3, e1, e2]
  · have e1 : (47 == c) = false := beq_eq_false_iff_ne.2 fun e => h e.symm
    simp [h, e1]
theorem isComment_ext {x r : List UInt8} (hr : Stops r) (hx : x ≠ []) : isComment (x ++ r) = isComment x := by
  match x, hx with
  | [c], _ =>
    cases r with
    | nil => rfl
    | cons d s =>
      show isComment (c :: d :: s) = isComment [c]
      rw [isComment_cons]
      have h1 : isComment [c] = false := by unfold isComment; simp [List.isPrefixOf]
      rw [h1]
      rcases hr d s rfl with rfl | rfl <;> simp
  | c :: d :: x, _ =>
    show isComment (c :: d :: (x ++ r)) = _
    rw [isComment_cons, isComment_cons]
theorem runLen_ten {p : UInt8 → Bool} (h10 : p 10 = false) {r : List UInt8} (hr : ∀ c s, r = c :: s → c = 10) : ∀ x : List UInt8, runLen p (x ++ r) = runLen p x
  | [] => by
    cases r with
    | nil => rfl
    | cons c s =>
      have hp : p c = false := by rw [hr c s rfl]; exact h10
      show runLen p (c :: s) = 0
      simp [runLen, hp]
  | c :: x => by
    rw [List.cons_append, runLen, runLen, runLen_ten h10 hr x]
theorem commentLen_ext {x r : List UInt8} (h : isComment x = true) (hl : commentLen x = x.length) (hr : [47, 47].isPrefixOf x = true → ∀ c s, r = c :: s → c = 10) : commentLen (x ++ r) = x.length := by
  match x, h with
  | [], h => cases h
  | [c], h => simp [isComment, List.isPrefixOf] at h
  | c :: d :: x, h =>
    have hp : [47, 47].isPrefixOf (c :: d :: x ++ r) = [47, 47].isPrefixOf (c :: d :: x) := rfl
    have hd : (c :: d :: x ++ r).drop 2 = x ++ r := rfl
    unfold commentLen at hl ⊢
    rw [hp, hd]
    by_cases h1 : [47, 47].isPrefixOf (c :: d :: x) = true
    · rw [if_pos h1] at hl ⊢
      rw [runLen_ten (by decide) (hr h1)]
      exact hl
    · rw [if_neg h1] at hl ⊢
      have hd2 : (c :: d :: x).drop 2 = x := rfl
      rw [hd2] at hl
      cases hc : closeC x with
      | none => rw [hc] at hl; simp at hl
      | some n => rw [hc] at hl; rw [closeC_app r hc]; exact hl

theorem fold_kinds (l : List UInt8) : ∀ (ks : List Nat) (a : Nat × Nat), (∀ k ∈ ks, k ≠ 7) → a.1 ≠ 7 → (ks.foldl (better l) a).1 ≠ 7
  | [], _, _, h => h
  | k :: ks, a, h, ha => by
    rw [List.foldl_cons]
    refine fold_kinds l ks _ (fun k' hk' => h k' (List.mem_cons_of_mem _ hk')) ?_
    unfold better
    split
    · exact h k List.mem_cons_self
    · exact ha
theorem longest_not7 (l : List UInt8) : (longestOf l).1 ≠ 7 := by
  unfold longestOf
  simp only
  split
  · decide
  · exact fold_kinds l _ _ (by decide) (by decide)

/-- A token stays what it is when what follows begins with a blank or a line's end. -/
theorem next_ext {inc : Bool} {x s r : List UInt8} {k : Nat} (hr : Stops r) (hx : x ≠ []) (h : nextOf inc (x ++ s) = (k, x.length, 0))
    (h1 : k = 8 → [47, 47].isPrefixOf x = true → ∀ c t, r = c :: t → c = 10) (h2 : inc = true → k ≠ 7 → headerLen (x ++ r) = 0) : nextOf inc (x ++ r) = (k, x.length, 0) := by
  have hl : 1 ≤ x.length := by
    cases x with
    | nil => exact absurd rfl hx
    | cons c y => simp
  by_cases hk : k = 7
  · subst hk
    unfold nextOf at h ⊢
    by_cases h3 : (inc && headerLen (x ++ s) != 0) = true
    · rw [if_pos h3] at h
      simp only [Prod.mk.injEq] at h
      have h4 := header_ext r hx h.2.1
      rw [Bool.and_eq_true] at h3
      rw [if_pos (by rw [h3.1, h4]; simp; omega), h4]
    · rw [if_neg h3] at h
      split at h
      · split at h <;> simp at h
      · split at h
        · simp at h
        · simp only [Prod.mk.injEq] at h
          exfalso
          have h5 := h.1
          rename_i _ hz
          have := longest_not7 (x ++ s)
          exact this h5
  · have hn := next_take (m := x.length) h hk hl (Nat.le_refl _)
    rw [List.take_left] at hn
    unfold nextOf at hn ⊢
    rw [if_neg (by simp)] at hn
    have h3 : ¬ (inc && headerLen (x ++ r) != 0) = true := by
      intro h4
      rw [Bool.and_eq_true] at h4
      rw [h2 h4.1 hk] at h4
      simp at h4
    rw [if_neg h3, isComment_ext hr hx]
    by_cases hc : isComment x = true
    · rw [if_pos hc] at hn ⊢
      by_cases h0 : commentLen x = 0
      · rw [if_pos h0] at hn; simp at hn
      · rw [if_neg h0] at hn
        simp only [Prod.mk.injEq] at hn
        have h4 := commentLen_ext (r := r) hc hn.2.1 (h1 hn.1.symm)
        rw [h4, if_neg (by omega)]
        rw [← hn.1]
    · rw [if_neg hc] at hn ⊢
      by_cases h0 : (longestOf x).2 = 0
      · rw [if_pos h0] at hn; simp at hn
      · rw [if_neg h0] at hn
        simp only [Prod.mk.injEq] at hn
        have h4 : longestOf x = (k, x.length) := Prod.ext hn.1 hn.2.1
        rw [longest_ext hr hx h4, if_neg (by simp only; omega)]

end Go.Proofs.Ytpomcdolpmbhdaa

namespace Go.Proofs.Ytpomcdolpmbhdaa

theorem stops_ten (E : List UInt8) : Stops (10 :: E) := fun c s h => by cases h; exact .inr rfl
theorem body_ten {q : UInt8} (hq : q ≠ 10) : ∀ (k : Nat) (y : List UInt8), y.length ≤ k → ∀ (E : List UInt8) (n : Nat), bodyLen q (y ++ 10 :: E) = some n → n + 1 ≤ y.length := by
  intro k
  induction k with
  | zero =>
    intro y hy E n h
    obtain rfl : y = [] := List.eq_nil_of_length_eq_zero (by omega)
    rw [List.nil_append, bodyLen_eq, if_neg (by simpa using Ne.symm hq), if_pos (by decide)] at h
    cases h
  | succ k ih =>
    intro y hy E n h
    cases y with
    | nil =>
      rw [List.nil_append, bodyLen_eq, if_neg (by simpa using Ne.symm hq), if_pos (by decide)] at h
      cases h
    | cons c r =>
      rw [List.length_cons] at hy ⊢
      rw [List.cons_append, bodyLen_eq] at h
      by_cases h1 : (c == q) = true
      · rw [if_pos h1] at h; cases h; omega
      · rw [if_neg h1] at h
        by_cases h2 : (c == 10) = true
        · rw [if_pos h2] at h; cases h
        · rw [if_neg h2] at h
          by_cases h3 : (c == 92) = true
          · rw [if_pos h3] at h
            cases r with
            | nil => simp at h
            | cons d r2 =>
              simp only [List.cons_append] at h
              by_cases h4 : (d == 10) = true
              · rw [if_pos h4] at h; cases h
              · rw [if_neg h4] at h
                rw [List.length_cons] at hy ⊢
                obtain ⟨n', hn', rfl⟩ := Option.map_eq_some_iff.1 h
                have := ih r2 (by omega) E n' hn'
                omega
          · rw [if_neg h3] at h
            obtain ⟨n', hn', rfl⟩ := Option.map_eq_some_iff.1 h
            have := ih r (by omega) E n' hn'
            omega
theorem pre_ten {E : List UInt8} : ∀ (p m : List UInt8), (∀ c ∈ p, c ≠ 10) → p.isPrefixOf (m ++ 10 :: E) = true → p.length ≤ m.length
  | [], _, _, _ => Nat.zero_le _
  | c :: p, [], hp, h => by
    rw [List.nil_append, List.isPrefixOf, Bool.and_eq_true] at h
    exact absurd (by simpa using h.1) (hp c List.mem_cons_self)
  | c :: p, d :: m, hp, h => by
    rw [List.cons_append, List.isPrefixOf, Bool.and_eq_true] at h
    have := pre_ten p m (fun c hc => hp c (List.mem_cons_of_mem _ hc)) h.2
    simp only [List.length_cons]; omega
theorem quoted_ten {q : UInt8} {f : Nat} {m E : List UInt8} (hq : q ≠ 10) : ∀ ps : List (List UInt8), (∀ p ∈ ps, ∀ c ∈ p, c ≠ 10) → quotedLen q f (m ++ 10 :: E) ps ≤ m.length
  | [], _ => Nat.zero_le _
  | p :: ps, hp => by
    rw [quotedLen]
    split
    · next h =>
      rw [Bool.and_eq_true] at h
      have hl := pre_ten p m (hp p List.mem_cons_self) h.1
      rw [List.drop_append_of_le_length hl]
      have hm : (m.drop p.length).length = m.length - p.length := List.length_drop ..
      generalize hy : m.drop p.length = y at hm ⊢
      suffices litLen q f (y ++ 10 :: E) ≤ y.length by omega
      cases y with
      | nil => rw [List.nil_append, litLen, if_neg (by simpa using Ne.symm hq)]; exact Nat.le_refl _
      | cons c r =>
        rw [List.cons_append, litLen]
        split
        · cases hb : bodyLen q (r ++ 10 :: E) with
          | none => exact Nat.zero_le _
          | some n =>
            have := body_ten hq _ r (Nat.le_refl _) E n hb
            simp only
            split
            · exact Nat.zero_le _
            · simp only [List.length_cons]; omega
        · exact Nat.zero_le _
    · exact quoted_ten hq ps (fun p h => hp p (List.mem_cons_of_mem _ h))
theorem pre_no10 : (∀ p ∈ chPre, ∀ c ∈ p, c ≠ 10) ∧ (∀ p ∈ stPre, ∀ c ∈ p, c ≠ 10) := by decide +kernel
theorem measure_ten {m : List UInt8} (E : List UInt8) (hm : m ≠ []) : ∀ k ∈ kinds6, measureOf k (m ++ 10 :: E) ≤ m.length := by
  intro k hk
  have hr := stops_ten E
  simp only [kinds6, List.mem_cons, List.not_mem_nil, or_false] at hk
  rcases hk with rfl | rfl | rfl | rfl | rfl | rfl
  · show wordLen _ ≤ _
    rw [wordLen_ext hr m hm]; exact wordLen_le m
  · show numLen _ ≤ _
    rw [numLen_ext hr m hm]; exact numLen_le' m
  · exact quoted_ten (by decide) chPre pre_no10.1
  · exact quoted_ten (by decide) stPre pre_no10.2
  · exact punctLen_stop hr m
  · exact nlLen_stop m hm
theorem measure_both {m : List UInt8} (E : List UInt8) (hm : m ≠ []) : ∀ k ∈ kinds6, measureOf k (m ++ 10 :: E) = measureOf k m := fun k hk => by
  have := measure_take (measure_ten E hm k hk)
  rw [List.take_left] at this
  exact this.symm
theorem closeN_ten (q : UInt8) (E : List UInt8) : ∀ y : List UInt8, closeN q (y ++ 10 :: E) = closeN q (y ++ [10])
  | [] => by rw [List.nil_append, List.nil_append, closeN, closeN, if_pos (by decide), if_pos (by decide)]
  | c :: y => by rw [List.cons_append, List.cons_append, closeN, closeN, closeN_ten q E y]
theorem header_ten (E : List UInt8) (m : List UInt8) (hm : m ≠ []) : headerLen (m ++ 10 :: E) = headerLen (m ++ [10]) := by
  cases m with
  | nil => exact absurd rfl hm
  | cons c y => rw [List.cons_append, List.cons_append, header_cons, header_cons, closeN_ten 34, closeN_ten 62]
theorem comment_ten (E : List UInt8) {m : List UInt8} (hc : isComment m = true) (h0 : commentLen (m ++ [10]) ≠ 0) : commentLen (m ++ 10 :: E) = commentLen (m ++ [10]) := by
  match m, hc with
  | [], hc => simp [isComment] at hc
  | [c], hc => simp [isComment, List.isPrefixOf] at hc
  | c :: d :: r, hc =>
    have e : ∀ s : List UInt8, ([47, 47] : List UInt8).isPrefixOf (c :: d :: s) = (47 == c && (47 == d)) := fun s => by simp [List.isPrefixOf]
    unfold commentLen at h0 ⊢
    simp only [List.cons_append, List.drop_succ_cons, List.drop_zero, e] at h0 ⊢
    split
    · have h10 : notNl 10 = false := by decide
      rw [runLen_ten h10 (r := 10 :: E) (fun c s h => by cases h; rfl), runLen_ten h10 (r := [10]) (fun c s h => by cases h; rfl)]
    · next hn =>
      rw [if_neg hn] at h0
      cases hcl : closeC (r ++ [10]) with
      | none => rw [hcl] at h0; exact absurd rfl h0
      | some n =>
        have := closeC_app E hcl
        rw [List.append_assoc] at this
        rw [show r ++ 10 :: E = r ++ ([10] ++ E) from rfl, this]
/-- What follows a line's end makes no difference to the tokens ahead of it. -/
theorem next_line {inc : Bool} {m : List UInt8} (E : List UInt8) (hm : m ≠ []) (h : (nextOf inc (m ++ [10])).2.2 = 0) : nextOf inc (m ++ 10 :: E) = nextOf inc (m ++ [10]) := by
  have hlong : longestOf (m ++ 10 :: E) = longestOf (m ++ [10]) := longest_congr (fun k hk => by rw [measure_both E hm k hk, measure_both [] hm k hk]) (by
    cases m with
    | nil => exact absurd rfl hm
    | cons c y => rfl)
  unfold nextOf at h ⊢
  rw [header_ten E m hm, isComment_ext (stops_ten E) hm, isComment_ext (stops_ten []) hm, hlong] at *
  by_cases h1 : (inc && headerLen (m ++ [10]) != 0) = true
  · rw [if_pos h1, if_pos h1]
  · rw [if_neg h1, if_neg h1]
    rw [if_neg h1] at h
    by_cases hc : isComment m = true
    · rw [if_pos hc, if_pos hc]
      rw [if_pos hc] at h
      by_cases h0 : commentLen (m ++ [10]) = 0
      · rw [if_pos h0] at h; simp at h
      · rw [comment_ten E hc h0]
    · rw [if_neg hc, if_neg hc]

/-! ### Tokens of texts one behind the other -/
def shiftT (n : Nat) (t : Tk) : Tk := ⟨t.k, n + t.a, n + t.e, t.sp⟩
theorem at_shift (P X : List UInt8) (e : Nat) : atOf (P ++ X) (P.length + e) = P.length + atOf X e := by
  unfold atOf
  rw [List.drop_length_add_append]; omega
theorem next_shift (P X : List UInt8) (e st : Nat) : nextAt (P ++ X) (P.length + e) st = nextAt X e st := by
  unfold nextAt
  rw [at_shift, List.drop_length_add_append]
theorem tok_shift (P X : List UInt8) (e st : Nat) : tokAt (P ++ X) (P.length + e) st = shiftT P.length (tokAt X e st) := by
  unfold tokAt shiftT
  rw [at_shift, next_shift]
  simp only [Tk.mk.injEq, true_and]
  refine ⟨by omega, ?_⟩
  by_cases h : e < atOf X e
  · rw [decide_eq_true h, decide_eq_true (by omega)]
  · rw [decide_eq_false h, decide_eq_false (by omega)]
theorem txt_shift (P X : List UInt8) (t : Tk) : txt (P ++ X) (shiftT P.length t) = txt X t := by
  unfold txt shiftT
  simp only
  rw [List.take_length_add_append, List.drop_length_add_append]
theorem st_shift (P X : List UInt8) (e st : Nat) : stAt (P ++ X) (P.length + e) st = stAt X e st := by
  unfold stAt
  rw [next_shift, tok_shift, txt_shift]
theorem toks_shift (P X : List UInt8) : ∀ (m e st : Nat), X.length - e ≤ m → e ≤ X.length → toks (P ++ X) (P.length + e) st = ((toks X e st).1.map (shiftT P.length), (toks X e st).2) := by
  intro m
  induction m with
  | zero =>
    intro e st h1 h2
    have h3 := atOf_ge X e
    rw [toks_end (l := X) h2 (by omega), toks_end (l := P ++ X) (by rw [List.length_append]; omega) (by rw [List.length_append, at_shift]; omega)]; rfl
  | succ m ih =>
    intro e st h1 h2
    by_cases h4 : X.length ≤ atOf X e
    · rw [toks_end (l := X) h2 h4, toks_end (l := P ++ X) (by rw [List.length_append]; omega) (by rw [List.length_append, at_shift]; omega)]; rfl
    · have h5 : atOf (P ++ X) (P.length + e) < (P ++ X).length := by rw [List.length_append, at_shift]; omega
      by_cases h6 : (nextAt X e st).2.2 = 0
      · have h7 := nextAt_len (by omega) h6
        have h8 := atOf_ge X e
        have h9 : (tokAt X e st).e = atOf X e + (nextAt X e st).2.1 := rfl
        rw [toks_cons (l := X) (by omega) h6, toks_cons (l := P ++ X) h5 (by rw [next_shift]; exact h6), tok_shift, st_shift]
        rw [show (shiftT P.length (tokAt X e st)).e = P.length + (tokAt X e st).e from rfl, ih _ _ (by omega) (by omega)]
        rfl
      · rw [toks_err (l := X) (by omega) h6, toks_err (l := P ++ X) h5 (by rw [next_shift]; exact h6), next_shift]; rfl

theorem next_ten' (inc : Bool) (l : List UInt8) : nextOf inc (10 :: l) = (9, 1, 0) := by
  have h1 : headerLen (10 :: l) = 0 := rfl
  have h2 : isComment (10 :: l) = false := by cases l <;> rfl
  have hz : ∀ R : List UInt8, quotedLen 39 1 (10 :: R) chPre = 0 := fun R => Nat.le_zero.1 (quoted_ten (q := 39) (f := 1) (m := []) (E := R) (by decide) chPre pre_no10.1)
  have hy : ∀ R : List UInt8, quotedLen 34 0 (10 :: R) stPre = 0 := fun R => Nat.le_zero.1 (quoted_ten (q := 34) (f := 0) (m := []) (E := R) (by decide) stPre pre_no10.2)
  have hp : ∀ R : List UInt8, punctLen (10 :: R) = 0 := fun R => Nat.le_zero.1 (punctLen_stop (stops_ten R) [])
  have hm : ∀ k ∈ kinds6, measureOf k (10 :: l) = measureOf k (10 :: ([] : List UInt8)) := by
    intro k hk
    simp only [kinds6, List.mem_cons, List.not_mem_nil, or_false] at hk
    rcases hk with rfl | rfl | rfl | rfl | rfl | rfl
    · rfl
    · rfl
    · show quotedLen 39 1 (10 :: l) chPre = quotedLen 39 1 [10] chPre
      rw [hz, hz]
    · show quotedLen 34 0 (10 :: l) stPre = quotedLen 34 0 [10] stPre
      rw [hy, hy]
    · show punctLen (10 :: l) = punctLen [10]
      rw [hp, hp]
    · rfl
  have hl : longestOf (10 :: l) = (9, 1) := (longest_congr hm rfl).trans (by decide +kernel)
  unfold nextOf
  rw [h1, h2, hl]
  simp
/-- What the line is behind all tokens. -/
def endF : Nat → List UInt8 → Nat → Nat → Nat
  | 0, _, _, st => st
  | f + 1, l, e, st => if l.length ≤ atOf l e then st else endF f l (tokAt l e st).e (stAt l e st)
theorem endF_le : ∀ (f : Nat) (l : List UInt8) (e st : Nat), st ≤ 3 → endF f l e st ≤ 3
  | 0, _, _, _, h => h
  | f + 1, l, e, st, h => by
    rw [endF]
    split
    · exact h
    · exact endF_le f _ _ _ (lineWith_le h)
/-- Whole lines, and what follows them: their tokens, and those behind them. -/
theorem toks_lines {M : List UInt8} (E : List UInt8) : ∀ (m e st f : Nat), (M ++ [10]).length - e ≤ m → (M ++ [10]).length - e ≤ f → e ≤ (M ++ [10]).length → (toks (M ++ [10]) e st).2 = 0 →
    toks (M ++ 10 :: E) e st = ((toks (M ++ [10]) e st).1 ++ (toks (M ++ 10 :: E) (M.length + 1) (endF f (M ++ [10]) e st)).1, (toks (M ++ 10 :: E) (M.length + 1) (endF f (M ++ [10]) e st)).2) := by
  have hlen : (M ++ [10]).length = M.length + 1 := by simp
  rw [hlen]
  have hend : ∀ f st, endF f (M ++ [10]) (M.length + 1) st = st := fun f st => by
    cases f with
    | zero => rfl
    | succ f => rw [endF, if_pos (by rw [hlen]; exact atOf_ge _ _)]
  have hfull : ∀ f st, toks (M ++ 10 :: E) (M.length + 1) st = ((toks (M ++ [10]) (M.length + 1) st).1 ++ (toks (M ++ 10 :: E) (M.length + 1) (endF f (M ++ [10]) (M.length + 1) st)).1, (toks (M ++ 10 :: E) (M.length + 1) (endF f (M ++ [10]) (M.length + 1) st)).2) := fun f st => by
    rw [hend, toks_end (l := M ++ [10]) (by omega) (by rw [hlen]; exact atOf_ge _ _)]; rfl
  intro m
  induction m with
  | zero =>
    intro e st f h1 _ h2 _
    obtain rfl : e = M.length + 1 := by omega
    exact hfull f st
  | succ m ih =>
    intro e st f h1 hf h2 h0
    by_cases he : e = M.length + 1
    · subst he; exact hfull f st
    · have hd : ∀ (R : List UInt8) (i : Nat), i ≤ M.length → (M ++ 10 :: R).drop i = M.drop i ++ 10 :: R := fun R i hi => List.drop_append_of_le_length hi
      have ha : ∀ R : List UInt8, atOf (M ++ 10 :: R) e = e + runLen isWS (M.drop e) := fun R => by
        unfold atOf
        rw [hd R e (by omega), runLen_ten (p := isWS) (by decide) (fun c s h => by cases h; rfl)]
      have hrl := runLen_le' isWS (M.drop e)
      rw [List.length_drop] at hrl
      obtain ⟨i, hi⟩ : ∃ i, e + runLen isWS (M.drop e) = i := ⟨_, rfl⟩
      rw [hi] at ha
      have hiM : i ≤ M.length := by omega
      have hlt1 : atOf (M ++ [10]) e < (M ++ [10]).length := by rw [ha []]; omega
      have hlt2 : atOf (M ++ 10 :: E) e < (M ++ 10 :: E).length := by rw [ha E, List.length_append, List.length_cons]; omega
      have hok : (nextAt (M ++ [10]) e st).2.2 = 0 := by
        refine Classical.byContradiction fun hne => ?_
        rw [toks_err hlt1 hne] at h0
        exact hne h0
      have hnx : nextAt (M ++ 10 :: E) e st = nextAt (M ++ [10]) e st := by
        unfold nextAt at hok ⊢
        rw [ha E, ha [], hd E i hiM, hd [] i hiM] at *
        by_cases hm : M.drop i = []
        · rw [hm, List.nil_append, List.nil_append, next_ten', next_ten']
        · exact next_line E hm hok
      have htk : tokAt (M ++ 10 :: E) e st = tokAt (M ++ [10]) e st := by
        unfold tokAt
        rw [hnx, ha E, ha []]
      have hln := nextAt_len hlt1 hok
      rw [hlen] at hln
      have hge := atOf_ge (M ++ [10]) e
      have hte : (tokAt (M ++ [10]) e st).e = atOf (M ++ [10]) e + (nextAt (M ++ [10]) e st).2.1 := rfl
      have htx : txt (M ++ 10 :: E) (tokAt (M ++ [10]) e st) = txt (M ++ [10]) (tokAt (M ++ [10]) e st) := by
        unfold txt
        rw [show M ++ 10 :: E = (M ++ [10]) ++ E by simp, List.take_append_of_le_length (by rw [hlen, hte]; omega)]
      have hst : stAt (M ++ 10 :: E) e st = stAt (M ++ [10]) e st := by
        unfold stAt
        rw [hnx, htk, htx]
      obtain ⟨f, rfl⟩ : ∃ g, f = g + 1 := ⟨f - 1, by omega⟩
      have hef : endF (f + 1) (M ++ [10]) e st = endF f (M ++ [10]) (tokAt (M ++ [10]) e st).e (stAt (M ++ [10]) e st) := by rw [endF, if_neg (by omega)]
      have h1c := toks_cons hlt1 hok
      rw [h1c] at h0
      have hI := ih (tokAt (M ++ [10]) e st).e (stAt (M ++ [10]) e st) f (by omega) (by omega) (by omega) h0
      rw [h1c, toks_cons hlt2 (by rw [hnx]; exact hok), htk, hst, hI, hef]
      rfl

/-! ### Whole lines end in a line's end -/
theorem closeN_in (q : UInt8) (E : List UInt8) : ∀ (y : List UInt8) {n : Nat}, closeN q (y ++ 10 :: E) = some n → n + 1 ≤ y.length
  | [], n, h => by rw [List.nil_append, closeN, if_pos (by decide)] at h; cases h
  | c :: y, n, h => by
    rw [List.cons_append, closeN] at h
    rw [List.length_cons]
    split at h
    · cases h
    · split at h
      · cases h; omega
      · obtain ⟨n', hn', rfl⟩ := Option.map_eq_some_iff.1 h
        have := closeN_in q E y hn'
        omega
theorem closeC_in : ∀ (y : List UInt8) {n : Nat}, closeC (y ++ [10]) = some n → n + 2 ≤ y.length
  | [], n, h => by simp [closeC] at h
  | c :: y, n, h => by
    rw [List.cons_append, closeC_cons] at h
    rw [List.length_cons]
    split at h
    · next hc =>
      cases h
      cases y with
      | nil => simp at hc
      | cons d y => simp
    · obtain ⟨n', hn', rfl⟩ := Option.map_eq_some_iff.1 h
      have := closeC_in y hn'
      omega
theorem next_in {inc : Bool} {m : List UInt8} (hm : m ≠ []) : (nextOf inc (m ++ [10])).2.1 ≤ m.length := by
  have hpos : 1 ≤ m.length := by
    cases m with
    | nil => exact absurd rfl hm
    | cons c y => simp
  unfold nextOf
  split
  · cases m with
    | nil => exact absurd rfl hm
    | cons c y =>
      simp only
      rw [List.cons_append, header_cons, List.length_cons]
      split
      · cases hc : closeN 34 (y ++ [10]) with
        | none => exact Nat.zero_le _
        | some n => have := closeN_in 34 [] y hc; simp only; omega
      · split
        · cases hc : closeN 62 (y ++ [10]) with
          | none => exact Nat.zero_le _
          | some n => have := closeN_in 62 [] y hc; simp only; omega
        · exact Nat.zero_le _
  · split
    · next hc =>
      split
      · exact Nat.zero_le _
      · rw [isComment_ext (stops_ten []) hm] at hc
        simp only
        match m, hc with
        | [], hc => simp [isComment] at hc
        | [c], hc => simp [isComment, List.isPrefixOf] at hc
        | c :: d :: r, _ =>
          unfold commentLen
          simp only [List.cons_append, List.drop_succ_cons, List.drop_zero, List.length_cons]
          split
          · have h10 : notNl 10 = false := by decide
            rw [runLen_ten h10 (r := [10]) (fun c s h => by cases h; rfl)]
            have := runLen_le' notNl r
            omega
          · cases hcl : closeC (r ++ [10]) with
            | none => exact Nat.zero_le _
            | some n => have := closeC_in r hcl; simp only; omega
    · split
      · exact Nat.zero_le _
      · simp only
        unfold longestOf
        simp only
        split
        · exact hpos
        · rcases fold_mem (m ++ [10]) [1, 2, 3, 4, 5, 9] (0, 0) with h | ⟨k, hk, h⟩
          · rw [h]; exact Nat.zero_le _
          · rw [← h]; exact measure_ten [] hm k hk
theorem toks_last {M : List UInt8} : ∀ (m e st : Nat), (M ++ [10]).length - e ≤ m → e ≤ M.length → (toks (M ++ [10]) e st).2 = 0 → ∃ q t, (toks (M ++ [10]) e st).1 = q ++ [t] ∧ t.k = 9 := by
  have hlen : (M ++ [10]).length = M.length + 1 := by simp
  rw [hlen]
  intro m
  induction m with
  | zero => intro e st h1 h2 _; omega
  | succ m ih =>
    intro e st h1 h2 h0
    have hd : ∀ i, i ≤ M.length → (M ++ [10]).drop i = M.drop i ++ [10] := fun i hi => List.drop_append_of_le_length hi
    have ha : atOf (M ++ [10]) e = e + runLen isWS (M.drop e) := by
      unfold atOf
      rw [hd e h2, runLen_ten (p := isWS) (by decide) (fun c s h => by cases h; rfl)]
    have hrl := runLen_le' isWS (M.drop e)
    rw [List.length_drop] at hrl
    have hiM : atOf (M ++ [10]) e ≤ M.length := by omega
    have hlt1 : atOf (M ++ [10]) e < (M ++ [10]).length := by omega
    have hok : (nextAt (M ++ [10]) e st).2.2 = 0 := by
      refine Classical.byContradiction fun hne => ?_
      rw [toks_err hlt1 hne] at h0
      exact hne h0
    have h1c := toks_cons hlt1 hok
    rw [h1c] at h0 ⊢
    have hln := nextAt_len hlt1 hok
    have hge := atOf_ge (M ++ [10]) e
    have hte : (tokAt (M ++ [10]) e st).e = atOf (M ++ [10]) e + (nextAt (M ++ [10]) e st).2.1 := rfl
    by_cases hm : M.drop (atOf (M ++ [10]) e) = []
    · have hn : nextAt (M ++ [10]) e st = (9, 1, 0) := by
        unfold nextAt
        rw [hd _ hiM, hm, List.nil_append, next_ten']
      have hi : atOf (M ++ [10]) e = M.length := by have := List.drop_eq_nil_iff.1 hm; omega
      refine ⟨[], tokAt (M ++ [10]) e st, ?_, ?_⟩
      · have he : (tokAt (M ++ [10]) e st).e = M.length + 1 := by rw [hte, hn, hi]
        rw [he, toks_end (l := M ++ [10]) (by omega) (by rw [hlen]; exact atOf_ge _ _)]; rfl
      · show (nextAt (M ++ [10]) e st).1 = 9
        rw [hn]
    · have hb : (nextAt (M ++ [10]) e st).2.1 ≤ (M.drop (atOf (M ++ [10]) e)).length := by
        unfold nextAt
        rw [hd _ hiM]
        exact next_in hm
      rw [List.length_drop] at hb
      obtain ⟨q, t, hq, hk⟩ := ih (tokAt (M ++ [10]) e st).e (stAt (M ++ [10]) e st) (by omega) (by omega) h0
      exact ⟨tokAt (M ++ [10]) e st :: q, t, by rw [hq]; rfl, hk⟩

/-! ### Between '#if 1' and '#endif' -/
def ifL : List UInt8 := [35, 105, 102, 32, 49, 10]
def endifL : List UInt8 := [35, 101, 110, 100, 105, 102, 10]
/-- What of tokens does not hang on their places. -/
def seen (L : List UInt8) (ts : List Tk) : List (Nat × List UInt8 × Bool) := ts.map fun t => (t.k, txt L t, t.sp)
theorem seen_shift (P X : List UInt8) (ts : List Tk) : seen (P ++ X) (ts.map (shiftT P.length)) = seen X ts := by
  unfold seen
  rw [List.map_map]
  refine List.map_congr_left fun t _ => ?_
  show (_, _, _) = _
  rw [txt_shift]; rfl
theorem seen_more (X E : List UInt8) {ts : List Tk} (h : ∀ t ∈ ts, t.e ≤ X.length) : seen (X ++ E) ts = seen X ts := by
  unfold seen
  refine List.map_congr_left fun t ht => ?_
  unfold txt
  rw [List.take_append_of_le_length (h t ht)]
theorem seen_app (L : List UInt8) (a b : List Tk) : seen L (a ++ b) = seen L a ++ seen L b := List.map_append ..
/-- Whole lines ahead of a text: their tokens, and the text's own. -/
theorem seen_lines {M : List UInt8} (E : List UInt8) (h0 : (toks (M ++ [10]) 0 0).2 = 0) :
    seen (M ++ 10 :: E) (toks (M ++ 10 :: E) 0 0).1 = seen (M ++ [10]) (toks (M ++ [10]) 0 0).1 ++ seen E (toks E 0 (endF (M.length + 1) (M ++ [10]) 0 0)).1 ∧ (toks (M ++ 10 :: E) 0 0).2 = (toks E 0 (endF (M.length + 1) (M ++ [10]) 0 0)).2 := by
  have hlen : (M ++ [10]).length = M.length + 1 := by simp
  have h1 := toks_lines E _ 0 0 (M.length + 1) (Nat.le_refl _) (by omega) (Nat.zero_le _) h0
  have h2 := toks_shift (M ++ [10]) E _ 0 (endF (M.length + 1) (M ++ [10]) 0 0) (Nat.le_refl _) (Nat.zero_le _)
  have e : (M ++ [10]) ++ E = M ++ 10 :: E := by simp
  rw [e, hlen, Nat.add_zero] at h2
  rw [h2] at h1
  rw [h1, seen_app]
  refine ⟨?_, rfl⟩
  have h3 := seen_shift (M ++ [10]) E (toks E 0 (endF (M.length + 1) (M ++ [10]) 0 0)).1
  have h4 := seen_more (M ++ [10]) E (ts := (toks (M ++ [10]) 0 0).1) (fun t ht => (toks_within _ 0 0 (Nat.le_refl _) (Nat.zero_le _) t ht).2.2.1)
  rw [e] at h3 h4
  rw [hlen] at h3
  rw [h3, h4]
theorem endif_seen : ∀ st ≤ 3, seen endifL (toks endifL 0 st).1 = [(5, [35], false), (1, [101, 110, 100, 105, 102], false), (9, [10], false)] ∧ (toks endifL 0 st).2 = 0 := by decide +kernel
theorem if_seen : seen ifL (toks ifL 0 0).1 = [(5, [35], false), (1, [105, 102], false), (2, [49], true), (9, [10], false)] ∧ (toks ifL 0 0).2 = 0 ∧ endF 6 ifL 0 0 = 0 := by decide +kernel
theorem wraps_seen {L : List UInt8} (hL : L = [] ∨ ∃ M, L = M ++ [10]) (h0 : (toks L 0 0).2 = 0) :
    seen (ifL ++ (L ++ endifL)) (toks (ifL ++ (L ++ endifL)) 0 0).1 = [(5, [35], false), (1, [105, 102], false), (2, [49], true), (9, [10], false)] ++ (seen L (toks L 0 0).1 ++ [(5, [35], false), (1, [101, 110, 100, 105, 102], false), (9, [10], false)]) ∧
      (toks (ifL ++ (L ++ endifL)) 0 0).2 = 0 := by
  have hA : seen (ifL ++ (L ++ endifL)) (toks (ifL ++ (L ++ endifL)) 0 0).1 = seen ifL (toks ifL 0 0).1 ++ seen (L ++ endifL) (toks (L ++ endifL) 0 (endF 6 ifL 0 0)).1 ∧
      (toks (ifL ++ (L ++ endifL)) 0 0).2 = (toks (L ++ endifL) 0 (endF 6 ifL 0 0)).2 := seen_lines (M := [35, 105, 102, 32, 49]) (L ++ endifL) if_seen.2.1
  rw [if_seen.2.2, if_seen.1] at hA
  have hB : seen (L ++ endifL) (toks (L ++ endifL) 0 0).1 = seen L (toks L 0 0).1 ++ [(5, [35], false), (1, [101, 110, 100, 105, 102], false), (9, [10], false)] ∧ (toks (L ++ endifL) 0 0).2 = 0 := by
    rcases hL with rfl | ⟨M, rfl⟩
    · exact endif_seen 0 (by omega)
    · have h1 := seen_lines endifL h0
      have h2 := endif_seen (endF (M.length + 1) (M ++ [10]) 0 0) (endF_le _ _ _ _ (by omega))
      rw [h2.1, h2.2] at h1
      rw [List.append_assoc]
      exact h1
  rw [hB.1, hB.2] at hA
  exact hA

end Go.Proofs.Ytpomcdolpmbhdaa

namespace Go.Proofs.Ytpomcdolpmbhdaa

/-- Would the first byte of a list and the next one be read as something else? -/
def misr (l : List UInt8) : Bool := (l[0]? == some 92 && l[1]? == some 10) || isTri l

def spellStep (l : List UInt8) (i : Nat) : List UInt8 := (l.drop i).take 1 ++ if misr (l.drop i) then [92, 10] else []
/-- How a list is spelt. -/
def spellUpto (l : List UInt8) : Nat → List UInt8
  | 0 => []
  | k + 1 => spellUpto l k ++ spellStep l k

theorem spellStep_le (l : List UInt8) (k : Nat) : (spellStep l k).length ≤ 3 := by
  unfold spellStep
  have : ((l.drop k).take 1).length ≤ 1 := List.length_take_le _ _
  split <;> simp at * <;> omega

theorem spellUpto_le (l : List UInt8) (k : Nat) : (spellUpto l k).length ≤ 3 * k := by
  induction k with
  | zero => simp [spellUpto]
  | succ k ih => simp only [spellUpto, List.length_append]; have := spellStep_le l k; omega

theorem spellStep_yes {s : ByteArray} {k : Nat} (h : k < s.size) (hm : misr (s.data.toList.drop k) = true) : spellStep s.data.toList k = [s[k]] ++ [92, 10] := by
  unfold spellStep; rw [hm, data_drop s k h]; rfl
theorem spellStep_no {s : ByteArray} {k : Nat} (h : k < s.size) (hm : misr (s.data.toList.drop k) = false) : spellStep s.data.toList k = [s[k]] := by
  unfold spellStep; rw [hm, data_drop s k h]; rfl

/-- A text may be spelt as far as its end goes. -/
def endsTen (l : List UInt8) : Bool := l == [] || l.getLast? == some 10

/-- What Spell answers: a text, an error's number. -/
def spellOut (l : List UInt8) : List UInt8 × Int :=
  if 65536 < l.length then ([], 3) else if endsTen l = false then ([], 10) else if 65536 < (spellUpto l l.length).length then ([], 3) else (spellUpto l l.length, 0)

theorem spellOut_long {s : ByteArray} (h : 65536 < s.size) : spellOut s.data.toList = ([], 3) := by
  unfold spellOut; rw [if_pos (by rw [size_list]; exact h)]
theorem spellOut_end {s : ByteArray} (h : ¬ 65536 < s.size) (h2 : endsTen s.data.toList = false) : spellOut s.data.toList = ([], 10) := by
  unfold spellOut; rw [if_neg (by rw [size_list]; exact h), if_pos h2]
theorem spellOut_big {s : ByteArray} (h : ¬ 65536 < s.size) (h2 : endsTen s.data.toList = true) (h3 : 65536 < (spellUpto s.data.toList s.size).length) : spellOut s.data.toList = ([], 3) := by
  unfold spellOut; rw [if_neg (by rw [size_list]; exact h), if_neg (by rw [h2]; decide), if_pos (by rw [size_list]; exact h3)]
theorem spellOut_ok {s : ByteArray} (h : ¬ 65536 < s.size) (h2 : endsTen s.data.toList = true) (h3 : ¬ 65536 < (spellUpto s.data.toList s.size).length) : spellOut s.data.toList = (spellUpto s.data.toList s.size, 0) := by
  unfold spellOut; rw [if_neg (by rw [size_list]; exact h), if_neg (by rw [h2]; decide), if_neg (by rw [size_list]; exact h3), size_list]

theorem ends_empty {s : ByteArray} (h : s.size = 0) : endsTen s.data.toList = true := by
  have : s.data.toList = [] := List.length_eq_zero_iff.1 (by rw [size_list]; exact h)
  simp [endsTen, this]
theorem ends_last {s : ByteArray} (h : 0 < s.size) : endsTen s.data.toList = decide (s[s.size - 1] = 10) := by
  have h1 : s.data.toList ≠ [] := fun h2 => by have := size_list s; rw [h2] at this; simp at this; omega
  have h2 : s.data.toList.getLast? = some s[s.size - 1] := by
    rw [List.getLast?_eq_getElem?, size_list, data_get s _ (by omega)]
  simp only [endsTen, h2]
  rw [show (s.data.toList == []) = false from by simpa using h1]
  by_cases h3 : s[s.size - 1] = 10 <;> simp [h3]

end Go.Proofs.Ytpomcdolpmbhdaa

namespace Go.Proofs.Ytpomcdolpmbhdaa

theorem part_drop_lt {l : List UInt8} (h : l ≠ []) : (l.drop (partN l)).length < l.length := by
  have := partN_pos l
  have h2 : 0 < l.length := List.length_pos_iff.2 h
  rw [List.length_drop]; omega

/-- The bytes of a list's characters; how many splices it has; does its last part end it well? -/
def lg (l : List UInt8) : List UInt8 :=
  if h : l = [] then [] else (if isSplice l then [] else [charB l]) ++ lg (l.drop (partN l))
termination_by l.length
decreasing_by exact part_drop_lt h

def ns (l : List UInt8) : Nat :=
  if h : l = [] then 0 else (if isSplice l then 1 else 0) + ns (l.drop (partN l))
termination_by l.length
decreasing_by exact part_drop_lt h

def wl (l : List UInt8) : Bool :=
  if h : l = [] then true else if l.drop (partN l) = [] then !isSplice l && charB l == 10 else wl (l.drop (partN l))
termination_by l.length
decreasing_by exact part_drop_lt h

theorem lg_nil : lg [] = [] := by rw [lg]; rfl
theorem ns_nil : ns [] = 0 := by rw [ns]; rfl
theorem wl_nil : wl [] = true := by rw [wl]; rfl
theorem lg_cons {l : List UInt8} (h : l ≠ []) : lg l = (if isSplice l then [] else [charB l]) ++ lg (l.drop (partN l)) := by rw [lg, dif_neg h]
theorem ns_cons {l : List UInt8} (h : l ≠ []) : ns l = (if isSplice l then 1 else 0) + ns (l.drop (partN l)) := by rw [ns, dif_neg h]
theorem wl_cons {l : List UInt8} (h : l ≠ []) : wl l = if l.drop (partN l) = [] then !isSplice l && charB l == 10 else wl (l.drop (partN l)) := by rw [wl, dif_neg h]

theorem isTri_of_none {l : List UInt8} (h : tri l = none) : isTri l = false := by simp [isTri, h]

/-- A list that begins with no trigraph: its first byte is its first character. -/
theorem char_plain {c : UInt8} {r : List UInt8} (h : tri (c :: r) = none) : charB (c :: r) = c ∧ charN (c :: r) = 1 := by
  have ht := isTri_of_none h
  simp [charB, charN, ht]
theorem part_plain {c : UInt8} {r : List UInt8} (h : tri (c :: r) = none) (h2 : ¬ (c = 92 ∧ r.head? = some 10)) : isSplice (c :: r) = false ∧ charB (c :: r) = c ∧ partN (c :: r) = 1 := by
  obtain ⟨hb, hn⟩ := char_plain h
  have hs : isSplice (c :: r) = false := by
    simp only [isSplice, hb, hn, List.drop_succ_cons, List.drop_zero]
    cases hc : (c == 92 && r.head? == some 10) with
    | false => rfl
    | true => simp only [Bool.and_eq_true, beq_iff_eq] at hc; exact absurd hc h2
  exact ⟨hs, hb, by simp [partN, hs, hn]⟩
theorem part_splice (r : List UInt8) : isSplice (92 :: 10 :: r) = true ∧ partN (92 :: 10 :: r) = 2 := by
  have ht : tri (92 :: 10 :: r) = none := by cases r <;> simp [tri]
  obtain ⟨hb, hn⟩ := char_plain ht
  have hs : isSplice (92 :: 10 :: r) = true := by simp [isSplice, hb, hn]
  exact ⟨hs, by simp [partN, hs, hn]⟩

theorem lg_plain {c : UInt8} {r : List UInt8} (h : tri (c :: r) = none) (h2 : ¬ (c = 92 ∧ r.head? = some 10)) : lg (c :: r) = c :: lg r := by
  obtain ⟨a, b, d⟩ := part_plain h h2
  rw [lg_cons (by simp), a, b, d]; rfl
theorem ns_plain {c : UInt8} {r : List UInt8} (h : tri (c :: r) = none) (h2 : ¬ (c = 92 ∧ r.head? = some 10)) : ns (c :: r) = ns r := by
  obtain ⟨a, b, d⟩ := part_plain h h2
  rw [ns_cons (by simp), a, d]; simp
theorem wl_plain {c : UInt8} {r : List UInt8} (h : tri (c :: r) = none) (h2 : ¬ (c = 92 ∧ r.head? = some 10)) : wl (c :: r) = if r = [] then c == 10 else wl r := by
  obtain ⟨a, b, d⟩ := part_plain h h2
  rw [wl_cons (by simp), a, b, d]; simp
theorem lg_splice (r : List UInt8) : lg (92 :: 10 :: r) = lg r := by
  obtain ⟨a, d⟩ := part_splice r
  rw [lg_cons (by simp), a, d]; rfl
theorem ns_splice (r : List UInt8) : ns (92 :: 10 :: r) = 1 + ns r := by
  obtain ⟨a, d⟩ := part_splice r
  rw [ns_cons (by simp), a, d]; rfl
theorem wl_splice (r : List UInt8) : wl (92 :: 10 :: r) = if r = [] then false else wl r := by
  obtain ⟨a, d⟩ := part_splice r
  rw [wl_cons (by simp), a, d]; simp

/-! ### How a text is spelt, by its suffixes -/

def spl : List UInt8 → List UInt8
  | [] => []
  | c :: r => c :: (if misr (c :: r) then 92 :: 10 :: spl r else spl r)

theorem spellUpto_spl (l : List UInt8) : ∀ k, k ≤ l.length → spellUpto l k ++ spl (l.drop k) = spl l := by
  intro k
  induction k with
  | zero => intro _; simp [spellUpto]
  | succ k ih =>
    intro hk
    have hd : l.drop k = l[k] :: l.drop (k + 1) := List.drop_eq_getElem_cons (by omega)
    rw [← ih (by omega), spellUpto, List.append_assoc]
    congr 1
    unfold spellStep
    rw [hd, spl]
    by_cases hm : misr (l[k] :: l.drop (k + 1)) = true
    · rw [if_pos hm, if_pos hm]; rfl
    · rw [if_neg hm, if_neg hm]; rfl

theorem spellUpto_all (l : List UInt8) : spellUpto l l.length = spl l := by
  have := spellUpto_spl l l.length (Nat.le_refl _)
  rw [List.drop_length] at this
  simpa [spl] using this

theorem spl_head (r : List UInt8) : (spl r).head? = r.head? := by cases r <;> simp [spl]
theorem spl_nil {r : List UInt8} (h : spl r = []) : r = [] := by cases r with | nil => rfl | cons c r => simp [spl] at h

theorem misr_parts {c : UInt8} {r : List UInt8} : misr (c :: r) = true ↔ (c = 92 ∧ r.head? = some 10) ∨ isTri (c :: r) = true := by
  simp only [misr, Bool.or_eq_true, Bool.and_eq_true, beq_iff_eq, List.getElem?_cons_zero, List.getElem?_cons_succ, Option.some.injEq]
  rw [List.head?_eq_getElem?]

theorem isTri_first {c : UInt8} {r : List UInt8} (h : isTri (c :: r) = true) : c = 63 := by
  match r, h with
  | [], h => simp [isTri, tri] at h
  | [_], h => simp [isTri, tri] at h
  | b :: d :: r, h =>
    by_cases h2 : c = 63 ∧ b = 63
    · exact h2.1
    · simp [isTri, tri, h2] at h

theorem third_slash : third 92 = none := by decide

theorem tri_spl_no {c : UInt8} {r : List UInt8} (h : isTri (c :: r) = false) : tri (c :: spl r) = none := by
  have h0 : tri (c :: r) = none := by
    cases ht : tri (c :: r) with
    | none => rfl
    | some x => simp [isTri, ht] at h
  match r with
  | [] => rfl
  | b :: r =>
    rw [spl]
    by_cases hm : misr (b :: r) = true
    · rw [if_pos hm]
      simp only [tri, third_slash, ite_self]
    · rw [if_neg hm]
      match r, h0 with
      | [], _ => rfl
      | d :: r, h0 =>
        rw [spl]
        simpa [tri] using h0

/-- THE MIDDLE OF IT: what is spelt reads as it was to be spelt; it is longer by two bytes a splice; it ends as the text ends. -/
theorem spl_reads (l : List UInt8) : lg (spl l) = l ∧ (spl l).length = l.length + 2 * ns (spl l) ∧ (l ≠ [] → l.getLast? = some 10 → wl (spl l) = true) := by
  induction l with
  | nil => simp [spl, lg_nil, ns_nil]
  | cons c r ih =>
    obtain ⟨i1, i2, i3⟩ := ih
    rw [spl]
    by_cases hm : misr (c :: r) = true
    · rw [if_pos hm]
      have hc : c = 92 ∨ c = 63 := by
        rcases misr_parts.1 hm with h | h
        · exact .inl h.1
        · exact .inr (isTri_first h)
      have ht : tri (c :: 92 :: 10 :: spl r) = none := by simp [tri]
      have hn : ¬ (c = 92 ∧ (92 :: 10 :: spl r).head? = some 10) := by simp
      have hr : r ≠ [] := by
        rintro rfl
        rcases misr_parts.1 hm with h | h
        · simp at h
        · simp [isTri, tri] at h
      rw [lg_plain ht hn, lg_splice, ns_plain ht hn, ns_splice, wl_plain ht hn, wl_splice, i1]
      refine ⟨rfl, by simp only [List.length_cons, i2]; omega, fun _ hl => ?_⟩
      have hs : spl r ≠ [] := fun h => hr (spl_nil h)
      rw [if_neg (by simp), if_neg hs]
      exact i3 hr (by rw [List.getLast?_cons_of_ne_nil hr] at hl; exact hl)
    · rw [if_neg hm]
      have hm2 := fun h => hm (misr_parts.2 h)
      have ht : tri (c :: spl r) = none := tri_spl_no (by cases h : isTri (c :: r) with | false => rfl | true => exact absurd (.inr h) hm2)
      have hn : ¬ (c = 92 ∧ (spl r).head? = some 10) := by
        rw [spl_head]
        exact fun h => hm2 (.inl h)
      rw [lg_plain ht hn, ns_plain ht hn, wl_plain ht hn, i1]
      refine ⟨rfl, by simp only [List.length_cons, i2]; omega, fun _ hl => ?_⟩
      by_cases hs : spl r = []
      · rw [if_pos hs]
        have hr := spl_nil hs
        subst hr
        simpa using hl
      · rw [if_neg hs]
        have hr : r ≠ [] := fun h => hs (by rw [h]; rfl)
        exact i3 hr (by rw [List.getLast?_cons_of_ne_nil hr] at hl; exact hl)

end Go.Proofs.Ytpomcdolpmbhdaa

namespace Go.Proofs.Ytpomcdolpmbhdaa
open Go.RowKit

theorem drop_ne {l : List UInt8} {k : Nat} (hk : k < l.length) : l.drop k ≠ [] := fun h => by
  have := List.drop_eq_nil_iff.1 h; omega

theorem partsFrom_cons {l : List UInt8} {k : Nat} (hk : k < l.length) : partsFrom l k = partAt l k :: partsFrom l (k + partN (l.drop k)) := by
  rw [partsFrom, dif_pos hk]
theorem partsFrom_end {l : List UInt8} {k : Nat} (hk : ¬ k < l.length) : partsFrom l k = [] := by
  rw [partsFrom, dif_neg hk]

theorem chB_cons (p : Part) (ps : List Part) : chB (p :: ps) = (if p.sp then [] else [p.b]) ++ chB ps := by
  cases h : p.sp <;> simp [chB, chs, h]
theorem chB_lg {l : List UInt8} : ∀ (m k : Nat), l.length - k = m → chB (partsFrom l k) = lg (l.drop k) := by
  intro m
  induction m using Nat.strongRecOn with
  | ind m ih =>
    intro k hm
    by_cases hk : k < l.length
    · have hp := partN_pos (l.drop k)
      rw [partsFrom_cons hk, chB_cons, lg_cons (drop_ne hk), List.drop_drop, ih (l.length - (k + partN (l.drop k))) (by omega) _ rfl]
      simp only [partAt, partB]
      by_cases h : isSplice (l.drop k) = true <;> simp [h]
    · rw [partsFrom_end hk, List.drop_eq_nil_of_le (by omega), lg_nil]; rfl

theorem last_wl {l : List UInt8} : ∀ (m k : Nat), l.length - k = m → k < l.length → ∃ p, (partsFrom l k).getLast? = some p ∧ (!p.sp && p.b == 10) = wl (l.drop k) := by
  intro m
  induction m using Nat.strongRecOn with
  | ind m ih =>
    intro k hm hk
    have hp := partN_pos (l.drop k)
    rw [partsFrom_cons hk, wl_cons (drop_ne hk), List.drop_drop]
    by_cases hk2 : k + partN (l.drop k) < l.length
    · obtain ⟨p, h1, h2⟩ := ih (l.length - (k + partN (l.drop k))) (by omega) _ rfl hk2
      refine ⟨p, ?_, ?_⟩
      · rw [List.getLast?_cons, h1]; rfl
      · rw [if_neg (drop_ne hk2)]; exact h2
    · refine ⟨partAt l k, by rw [partsFrom_end hk2]; rfl, ?_⟩
      rw [if_pos (List.drop_eq_nil_of_le (by omega))]
      simp only [partAt, partB]
      by_cases h : isSplice (l.drop k) = true <;> simp [h]

theorem wellB_wl (l : List UInt8) : wellB l = wl l := by
  by_cases h : 0 < l.length
  · obtain ⟨p, h1, h2⟩ := last_wl (l := l) _ 0 rfl h
    unfold wellB parts
    rw [h1]
    exact h2
  · have : l = [] := List.length_eq_zero_iff.1 (by omega)
    subst this
    rw [wl_nil]
    unfold wellB parts
    rw [partsFrom_end (by decide)]; rfl

theorem checkN_ok {l : List UInt8} (h : l.length ≤ 65536) (h2 : wl l = true) : checkN l = 0 := by
  unfold checkN
  rw [if_neg (by omega), wellB_wl, if_pos h2]
theorem checkN_zero {l : List UInt8} (h : checkN l = 0) : l.length ≤ 65536 ∧ wl l = true := by
  unfold checkN at h
  by_cases hl : 65536 < l.length
  · rw [if_pos hl] at h; exact absurd h (by decide)
  · rw [if_neg hl, wellB_wl] at h
    refine ⟨by omega, ?_⟩
    cases hw : wl l with
    | true => rfl
    | false => rw [hw] at h; exact absurd h (by decide)

theorem logicalOf_lg {l : List UInt8} (h : checkN l = 0) : logicalOf l = lg l := by
  rw [logicalOf_ok h, parts, chB_lg _ 0 rfl]; rfl
/-- WHAT IS SPELT, CHECKED AND READ. -/
theorem spell_back {l : List UInt8} (h : (spellOut l).2 = 0) : checkN (spellOut l).1 = 0 ∧ logicalOf (spellOut l).1 = l := by
  unfold spellOut at h ⊢
  by_cases h1 : 65536 < l.length
  · rw [if_pos h1] at h; exact absurd h (by decide)
  · rw [if_neg h1] at h ⊢
    by_cases h2 : endsTen l = false
    · rw [if_pos h2] at h; exact absurd h (by decide)
    · rw [if_neg h2] at h ⊢
      by_cases h3 : 65536 < (spellUpto l l.length).length
      · rw [if_pos h3] at h; exact absurd h (by decide)
      · rw [if_neg h3]
        simp only
        rw [spellUpto_all] at h3 ⊢
        obtain ⟨r1, r2, r3⟩ := spl_reads l
        have hw : wl (spl l) = true := by
          by_cases hl : l = []
          · subst hl; exact wl_nil
          · refine r3 hl ?_
            simp only [endsTen, Bool.not_eq_false, Bool.or_eq_true, beq_iff_eq] at h2
            exact h2.resolve_left hl
        have hc := checkN_ok (by omega) hw
        exact ⟨hc, by rw [logicalOf_lg hc, r1]⟩

/-! ### How long what is spelt is -/

def dark (l : List UInt8) : Nat := (l.filter fun c => !(c == 32)).length
theorem dark_cons (c : UInt8) (l : List UInt8) : dark (c :: l) = (if c == 32 then 0 else 1) + dark l := by
  unfold dark
  by_cases h : (c == 32) = true
  · rw [List.filter_cons_of_neg (by rw [h]; decide), if_pos h, Nat.zero_add]
  · rw [List.filter_cons_of_pos (by rw [Bool.eq_false_iff.2 h]; rfl), if_neg h, List.length_cons]; omega
theorem spl_cons (c : UInt8) (r : List UInt8) : (spl (c :: r)).length = (if misr (c :: r) then 3 else 1) + (spl r).length := by
  rw [spl, List.length_cons]
  split
  · simp only [List.length_cons]; omega
  · omega
theorem misr_nope {c : UInt8} {r : List UInt8} (h1 : c ≠ 92) (h2 : isTri (c :: r) = false) : misr (c :: r) = false := by
  refine Bool.eq_false_iff.2 fun h => ?_
  rcases misr_parts.1 h with h | h
  · exact h1 h.1
  · rw [h2] at h; cases h
theorem isTri_nope {c : UInt8} {r : List UInt8} (h : c ≠ 63) : isTri (c :: r) = false := Bool.eq_false_iff.2 fun h2 => h (isTri_first h2)
theorem tri_three (a b c : UInt8) (r : List UInt8) : tri (a :: b :: c :: r) = if a = 63 ∧ b = 63 then third c else none := rfl
theorem spl_dark : ∀ (m : Nat) (l : List UInt8), l.length ≤ m → (spl l).length ≤ l.length + dark l := by
  intro m
  induction m with
  | zero =>
    intro l hl
    have : l = [] := List.length_eq_zero_iff.1 (by omega)
    subst this
    exact Nat.zero_le _
  | succ m ih =>
    intro l hl
    cases l with
    | nil => exact Nat.zero_le _
    | cons c r =>
      rw [List.length_cons] at hl
      by_cases hm : misr (c :: r) = true
      · rcases misr_parts.1 hm with ⟨rfl, hh⟩ | ht
        · cases r with
          | nil => cases hh
          | cons d r =>
            obtain rfl : d = 10 := Option.some.inj hh
            rw [List.length_cons] at hl
            have := ih r (by omega)
            rw [spl_cons, if_pos hm, spl_cons, misr_nope (by decide) (isTri_nope (by decide)), dark_cons, dark_cons, if_neg (by decide), if_neg (by decide), if_neg (by decide), List.length_cons, List.length_cons]
            omega
        · match r, ht with
          | [], ht => simp [isTri, tri] at ht
          | [_], ht => simp [isTri, tri] at ht
          | b :: d :: r, ht =>
            have h3 : (c = 63 ∧ b = 63) ∧ (third d).isSome = true := by
              have ht : (tri (c :: b :: d :: r)).isSome = true := ht
              rw [tri_three] at ht
              by_cases h4 : c = 63 ∧ b = 63
              · rw [if_pos h4] at ht; exact ⟨h4, ht⟩
              · rw [if_neg h4] at ht; cases ht
            obtain ⟨⟨rfl, rfl⟩, h4⟩ := h3
            have hd : d ≠ 63 := fun e => by subst e; exact absurd h4 (by decide)
            have h5 : isTri (63 :: d :: r) = false := by
              unfold isTri
              cases r with
              | nil => rfl
              | cons e r => rw [tri_three, if_neg (fun h => hd h.2)]; rfl
            simp only [List.length_cons] at hl
            have := ih (d :: r) (by simp only [List.length_cons]; omega)
            rw [spl_cons, if_pos hm, spl_cons, misr_nope (by decide) h5, if_neg (by decide), dark_cons, dark_cons, if_neg (by decide), List.length_cons, List.length_cons]
            omega
      · have := ih r (by omega)
        rw [spl_cons, if_neg hm, dark_cons, List.length_cons]
        omega

/-- When a text can be spelt. -/
theorem spell_fine {l : List UInt8} (h1 : l.length + dark l ≤ 65536) (h2 : endsTen l = true) : (spellOut l).2 = 0 := by
  have h3 := spl_dark _ l (Nat.le_refl _)
  unfold spellOut
  rw [if_neg (by omega), if_neg (by rw [h2]; decide), spellUpto_all, if_neg (by omega)]

end Go.Proofs.Ytpomcdolpmbhdaa

namespace Go.Proofs.Ytpomcdolpmbhdaa

theorem tri_same {x y z : List UInt8} (h : 3 ≤ x.length) : tri (x ++ y) = tri (x ++ z) := by
  match x, h with
  | a :: b :: c :: r, _ => rfl
  | [], h => simp at h
  | [_], h => simp at h
  | [_, _], h => simp at h

theorem head_same {x : List UInt8} (h : x ≠ []) (y z : List UInt8) : (x ++ y).headD 0 = (x ++ z).headD 0 := by
  cases x with
  | nil => exact absurd rfl h
  | cons a r => rfl

theorem getElem_same {x : List UInt8} {n : Nat} (h : n < x.length) (y z : List UInt8) : ((x ++ y).drop n).head? = ((x ++ z).drop n).head? := by
  rw [List.head?_drop, List.head?_drop, List.getElem?_append_left h, List.getElem?_append_left h]

theorem char_same {x y z : List UInt8} (hx : x ≠ []) (ht : tri (x ++ y) = tri (x ++ z)) : charB (x ++ y) = charB (x ++ z) ∧ charN (x ++ y) = charN (x ++ z) := by
  unfold charB charN isTri triOf
  rw [ht, head_same hx y z]
  exact ⟨rfl, rfl⟩

/-- What hangs behind a part makes no difference to it, where it makes none to its trigraph, and is no line's end right behind a backslash. -/
theorem part_same {x y z : List UInt8} (hx : x ≠ []) (ht : tri (x ++ y) = tri (x ++ z)) (hn : partN (x ++ y) ≤ x.length)
    (hz : charN (x ++ y) = x.length → charB (x ++ y) = 92 → z.head? ≠ some 10) :
    isSplice (x ++ z) = isSplice (x ++ y) ∧ charB (x ++ z) = charB (x ++ y) ∧ partN (x ++ z) = partN (x ++ y) := by
  obtain ⟨hb, hcn⟩ := char_same hx ht
  have hle : charN (x ++ y) ≤ x.length := by
    unfold partN at hn
    split at hn <;> omega
  have hs : isSplice (x ++ z) = isSplice (x ++ y) := by
    rcases Nat.lt_or_ge (charN (x ++ y)) x.length with h | h
    · unfold isSplice
      rw [← hb, ← hcn, getElem_same h y z]
    · have he : charN (x ++ y) = x.length := by omega
      have h1 : isSplice (x ++ y) = false := by
        cases hc : isSplice (x ++ y) with
        | false => rfl
        | true => unfold partN at hn; rw [hc] at hn; simp only [if_true] at hn; omega
      rw [h1]
      cases hc : isSplice (x ++ z) with
      | false => rfl
      | true =>
        simp only [isSplice, Bool.and_eq_true, beq_iff_eq] at hc
        rw [← hb, ← hcn, he, List.drop_left] at hc
        exact absurd hc.2 (hz he hc.1)
  exact ⟨hs, hb.symm, by unfold partN; rw [hs, ← hcn]⟩

def shift (n : Nat) (p : Part) : Part := { p with at' := p.at' + n }

theorem tri_well {x b : List UInt8} (hw : wl x = true) (hx : x ≠ []) : tri (x ++ []) = tri (x ++ b) := by
  rcases Nat.lt_or_ge x.length 3 with h | h
  · match x, hx, h, hw with
    | [c], _, _, hw =>
      have hn : tri [c] = none := rfl
      rw [wl_plain hn (by simp), if_pos rfl, beq_iff_eq] at hw
      subst hw
      match b with
      | [] => rfl
      | [_] => rfl
      | _ :: _ :: _ => simp [tri]
    | [c, d], _, _, hw =>
      match b with
      | [] => rfl
      | e :: r =>
        have hn : tri [c, d] = none := rfl
        by_cases h2 : c = 63 ∧ d = 63
        · obtain ⟨rfl, rfl⟩ := h2
          rw [wl_plain hn (by simp), if_neg (by simp), wl_plain rfl (by simp), if_pos rfl] at hw
          simp at hw
        · simp [tri, h2]
    | _ :: _ :: _ :: _, _, h, _ => simp at h; omega
  · exact tri_same h

theorem well_same {x : List UInt8} (b : List UInt8) (hw : wl x = true) (hx : x ≠ []) :
    isSplice (x ++ b) = isSplice x ∧ charB (x ++ b) = charB x ∧ partN (x ++ b) = partN x := by
  have := part_same (x := x) (y := []) (z := b) hx (tri_well hw hx) (by rw [List.append_nil]; exact partN_le hx) ?_
  · rwa [List.append_nil] at this
  · rw [List.append_nil]
    intro h1 h2 _
    have hs : isSplice x = false := by
      cases hc : isSplice x with
      | false => rfl
      | true =>
        simp only [isSplice, Bool.and_eq_true, beq_iff_eq] at hc
        rw [h1, List.drop_length] at hc
        simp at hc
    have hp : partN x = x.length := by unfold partN; rw [hs]; simpa using h1
    rw [wl_cons hx, hp, List.drop_length, if_pos rfl, h2, hs] at hw
    simp at hw

theorem well_next {x : List UInt8} (hw : wl x = true) (hx : x ≠ []) : wl (x.drop (partN x)) = true := by
  by_cases h : x.drop (partN x) = []
  · rw [h, wl_nil]
  · rw [wl_cons hx, if_neg h] at hw; exact hw

theorem wl_append {b : List UInt8} (hb : wl b = true) (x : List UInt8) (hw : wl x = true) : wl (x ++ b) = true := by
  by_cases hx : x = []
  · subst hx; exact hb
  · obtain ⟨s1, s2, s3⟩ := well_same b hw hx
    have e : (x ++ b).drop (partN x) = x.drop (partN x) ++ b := List.drop_append_of_le_length (partN_le hx)
    have ih := wl_append hb (x.drop (partN x)) (well_next hw hx)
    rw [wl_cons (by simp [hx]), s1, s2, s3, e]
    by_cases h : x.drop (partN x) ++ b = []
    · rw [if_pos h]
      have := List.append_eq_nil_iff.1 h
      rw [wl_cons hx, if_pos this.1] at hw
      exact hw
    · rw [if_neg h]; exact ih
termination_by x.length
decreasing_by exact part_drop_lt hx

theorem parts_append {a b : List UInt8} : ∀ (m k : Nat), a.length - k = m → k ≤ a.length → wl (a.drop k) = true → partsFrom (a ++ b) k = partsFrom a k ++ partsFrom (a ++ b) a.length := by
  intro m
  induction m using Nat.strongRecOn with
  | ind m ih =>
    intro k hm hle hw
    by_cases hk : k < a.length
    · have hx := drop_ne hk
      obtain ⟨s1, s2, s3⟩ := well_same b hw hx
      have e : (a ++ b).drop k = a.drop k ++ b := List.drop_append_of_le_length hle
      have hpos := partN_pos (a.drop k)
      have hpl := partN_le hx
      rw [List.length_drop] at hpl
      have hn := ih (a.length - (k + partN (a.drop k))) (by omega) _ rfl (by omega) (by rw [← List.drop_drop]; exact well_next hw hx)
      have hp : partAt (a ++ b) k = partAt a k := by
        unfold partAt
        rw [e, s1, s3]
        simp only [Part.mk.injEq, and_true]
        unfold partB
        rw [s1, s2]
      rw [partsFrom_cons (l := a ++ b) (by simp; omega), partsFrom_cons hk, e, s3, hp, hn]
      rfl
    · have : k = a.length := by omega
      subst this
      rw [partsFrom_end (l := a) hk, List.nil_append]

theorem parts_shift {a b : List UInt8} : ∀ (m k : Nat), b.length - k = m → partsFrom (a ++ b) (a.length + k) = (partsFrom b k).map (shift a.length) := by
  intro m
  induction m using Nat.strongRecOn with
  | ind m ih =>
    intro k hm
    by_cases hk : k < b.length
    · have hpos := partN_pos (b.drop k)
      have e : (a ++ b).drop (a.length + k) = b.drop k := by simp [List.drop_append]
      have e' : (a ++ b).drop (k + a.length) = b.drop k := by rw [Nat.add_comm]; exact e
      have hn := ih (b.length - (k + partN (b.drop k))) (by omega) _ rfl
      rw [partsFrom_cons (l := a ++ b) (by simp; omega), partsFrom_cons hk, e, Nat.add_assoc, hn]
      simp [partAt, shift, e', Nat.add_comm]
    · rw [partsFrom_end hk, partsFrom_end (by simp; omega)]; rfl

theorem chs_shift (n : Nat) (ps : List Part) : chs (ps.map (shift n)) = (chs ps).map (shift n) := by
  unfold chs
  rw [List.filter_map]
  rfl

theorem chars_append {a b : List UInt8} (ha : checkN a = 0) (hb : checkN b = 0) (h : a.length + b.length ≤ 65536) :
    checkN (a ++ b) = 0 ∧ charsOf (a ++ b) = charsOf a ++ (charsOf b).map (shift a.length) := by
  obtain ⟨_, h1⟩ := checkN_zero ha
  obtain ⟨_, h2⟩ := checkN_zero hb
  have hc : checkN (a ++ b) = 0 := checkN_ok (by simpa using h) (wl_append h2 a h1)
  refine ⟨hc, ?_⟩
  rw [charsOf_ok hc, charsOf_ok ha, charsOf_ok hb]
  unfold parts
  rw [parts_append (a := a) (b := b) _ 0 rfl (Nat.zero_le _) (by rw [List.drop_zero]; exact h1)]
  have := parts_shift (a := a) (b := b) _ 0 rfl
  rw [Nat.add_zero] at this
  rw [this]
  unfold chs
  rw [List.filter_append]
  congr 1
  exact chs_shift _ _

end Go.Proofs.Ytpomcdolpmbhdaa

namespace Go.Proofs.Ytpomcdolpmbhdaa

/-- A token as the rows have it. -/
def tzY (y : Yd) : Tz := ⟨y.k, y.tx, y.a, y.e, y.sp⟩
/-- Without its place. -/
def bl (t : Tz) : Tz := { t with a := 0, e := 0 }
theorem bl_moves : Moves bl := ⟨fun _ => rfl, fun _ => rfl, fun _ => rfl, fun _ _ => rfl⟩
def blT (x : Nat × List UInt8 × Bool) : Tz := ⟨x.1, ⟨x.2.1.toArray⟩, 0, 0, x.2.2⟩
theorem logical_chars (l : List UInt8) : logicalOf l = (charsOf l).map (·.b) := by
  unfold logicalOf charsOf
  split
  · rfl
  · rfl
theorem logical_append {a b : List UInt8} (ha : checkN a = 0) (hb : checkN b = 0) (h : a.length + b.length ≤ 65536) : checkN (a ++ b) = 0 ∧ logicalOf (a ++ b) = logicalOf a ++ logicalOf b := by
  obtain ⟨h1, h2⟩ := chars_append ha hb h
  refine ⟨h1, ?_⟩
  rw [logical_chars, logical_chars, logical_chars, h2, List.map_append, List.map_map]
  rfl
theorem bytes_eq {a b : ByteArray} (h : a.data.toList = b.data.toList) : a = b := by
  cases a; cases b
  simp only at h
  congr 1
  exact Array.toList_inj.1 h
/-- The tokens of a text without their places. -/
theorem scan_seen {s : ByteArray} (h : scanErr s = 0) : (scanOf s).map (fun y => bl (tzY y)) = (seen (logicalOf s.data.toList) (toks (logicalOf s.data.toList) 0 0).1).map blT := by
  unfold scanOf
  rw [if_pos h]
  unfold toksY seen
  rw [logB_list, List.map_map, List.map_map, List.map_map]
  refine List.map_congr_left fun t _ => ?_
  show Tz.mk _ _ _ _ _ = Tz.mk _ _ _ _ _
  congr 1
  refine bytes_eq ?_
  show ((logB s).extract t.a t.e).data.toList = (txt _ t)
  rw [ByteArray.data_extract, Array.toList_extract, List.extract_eq_drop_take', logB_list]
  rfl

theorem scan_check {s : ByteArray} (h : scanErr s = 0) : checkN s.data.toList = 0 ∧ (toks (logicalOf s.data.toList) 0 0).2 = 0 := by
  unfold scanErr at h
  by_cases hc : checkN s.data.toList = 0
  · rw [if_pos hc] at h; exact ⟨hc, by omega⟩
  · rw [if_neg hc] at h; exact absurd h hc
theorem logical_lines {l : List UInt8} (h : checkN l = 0) : logicalOf l = [] ∨ ∃ M, logicalOf l = M ++ [10] := by
  have hw : wellB l = true := by
    unfold checkN at h
    by_cases h1 : 65536 < l.length
    · rw [if_pos h1] at h; exact absurd h (by decide)
    · rw [if_neg h1] at h
      by_cases h2 : wellB l = true
      · exact h2
      · rw [if_neg h2] at h; exact absurd h (by decide)
  rw [logicalOf_ok h]
  rcases List.eq_nil_or_concat (parts l) with e | ⟨ps, p, e⟩
  · left; rw [e]; rfl
  · rw [List.concat_eq_append] at e
    unfold wellB at hw
    rw [e] at hw ⊢
    simp only [List.getLast?_append, List.getLast?_singleton, Option.some_or, Bool.and_eq_true, Bool.not_eq_true', beq_iff_eq] at hw
    right
    exact ⟨chB ps, by rw [chB_yes ps hw.1, hw.2]⟩
theorem if_logical : checkN ifL = 0 ∧ logicalOf ifL = ifL ∧ checkN endifL = 0 ∧ logicalOf endifL = endifL := by
  have p1 : parts ifL = partsFuel ifL.length ifL 0 := parts_fuel _
  have p2 : parts endifL = partsFuel endifL.length endifL 0 := parts_fuel _
  have w1 : wellB ifL = true := by unfold wellB; rw [p1]; decide +kernel
  have w2 : wellB endifL = true := by unfold wellB; rw [p2]; decide +kernel
  have c1 : checkN ifL = 0 := by unfold checkN; rw [w1]; decide +kernel
  have c2 : checkN endifL = 0 := by unfold checkN; rw [w2]; decide +kernel
  refine ⟨c1, ?_, c2, ?_⟩
  · rw [logicalOf_ok c1, p1]; decide +kernel
  · rw [logicalOf_ok c2, p2]; decide +kernel
def ifTs : List Tz := [blT (5, [35], false), blT (1, [105, 102], false), blT (2, [49], true), blT (9, [10], false)]
def endifTs : List Tz := [blT (5, [35], false), blT (1, [101, 110, 100, 105, 102], false), blT (9, [10], false)]
theorem wraps_tokens {s T : ByteArray} (hT : T.data.toList = ifL ++ (s.data.toList ++ endifL)) (h : scanErr s = 0) (hz : s.size ≤ 20000) :
    scanErr T = 0 ∧ (scanOf T).map (fun y => bl (tzY y)) = ifTs ++ ((scanOf s).map (fun y => bl (tzY y)) ++ endifTs) := by
  obtain ⟨i1, i2, i3, i4⟩ := if_logical
  obtain ⟨hc, h0⟩ := scan_check h
  have hsz : s.data.toList.length ≤ 20000 := by rw [size_list]; exact hz
  have l1 : ifL.length = 6 := rfl
  have l2 : endifL.length = 7 := rfl
  obtain ⟨a1, a2⟩ := logical_append hc i3 (by omega)
  obtain ⟨b1, b2⟩ := logical_append i1 a1 (by rw [List.length_append]; omega)
  rw [a2, i2, i4] at b2
  rw [← hT] at b1 b2
  have hw := wraps_seen (logical_lines hc) h0
  have hTe : scanErr T = 0 := by
    unfold scanErr
    rw [if_pos b1, b2, hw.2]; rfl
  refine ⟨hTe, ?_⟩
  rw [scan_seen hTe, scan_seen h, b2, hw.1, List.map_append, List.map_append]
  rfl
/-- LinesWraps, of the document's answers: where a text's rows nest, they stand one deeper between an #if and an #endif. -/
theorem wraps_depths {s T : ByteArray} (hT : T.data.toList = ifL ++ (s.data.toList ++ endifL)) (h : scanErr s = 0) (hz : s.size ≤ 20000) {o : List Nat} (ho : depS (rowsS ((scanOf s).map tzY)) = some o) :
    scanErr T = 0 ∧ depS (rowsS ((scanOf T).map tzY)) = some (0 :: (o.map (· + 1) ++ [0])) := by
  obtain ⟨h1, h2⟩ := wraps_tokens hT h hz
  refine ⟨h1, ?_⟩
  rw [← bl_moves.depths, List.map_map]
  rw [show (bl ∘ tzY) = (fun y => bl (tzY y)) from rfl, h2, show (fun y => bl (tzY y)) = bl ∘ tzY from rfl, ← List.map_map]
  refine depths_wrap (li := ifTs) (le := endifTs) bl_moves (by rfl) (.inr ⟨[blT (5, [35], false), blT (1, [105, 102], false), blT (2, [49], true)], blT (9, [10], false), rfl, rfl⟩) (by rfl) ?_ (by decide +kernel) (by decide +kernel) (by decide +kernel) (by decide +kernel) ho
  rcases logical_lines (scan_check h).1 with e | ⟨M, e⟩
  · left
    rw [List.map_map, show (bl ∘ tzY) = (fun y => bl (tzY y)) from rfl, scan_seen h, e, toks_end (l := []) (e := 0) (st := 0) (Nat.zero_le _) (Nat.zero_le _)]; rfl
  · right
    have h0 := (scan_check h).2
    rw [e] at h0
    obtain ⟨q, t, hq, hk⟩ := toks_last _ 0 0 (Nat.le_refl _) (Nat.zero_le _) h0
    rw [List.map_map, show (bl ∘ tzY) = (fun y => bl (tzY y)) from rfl, scan_seen h, e, hq, seen_app, List.map_append]
    exact ⟨_, _, rfl, by show ((t.k : Int) == 9) = true; rw [hk]; rfl⟩

end Go.Proofs.Ytpomcdolpmbhdaa

namespace Go.Proofs.Ytpomcdolpmbhdaa
open Go.RowKit Go.Shelf

theorem dep_bound (rs : List Rz) : ∀ (k : Nat) (o l : List Nat), depFold (rs.take k) = some (o, l) → l.length ≤ k ∧ ∀ x ∈ o, x ≤ k
  | 0, o, l, h => by
    rw [List.take_zero] at h
    cases h
    exact ⟨Nat.le_refl _, fun x h => by cases h⟩
  | k + 1, o, l, h => by
    by_cases hk : k < rs.length
    · rw [depFold_snoc (List.getElem?_eq_getElem hk)] at h
      cases hd : depFold (rs.take k) with
      | none => rw [hd] at h; cases h
      | some p =>
        obtain ⟨o', l'⟩ := p
        rw [hd, Option.bind_some] at h
        obtain ⟨h1, h2⟩ := dep_bound rs k o' l' hd
        have hm : ∀ y, y ≤ k + 1 → ∀ x ∈ o' ++ [y], x ≤ k + 1 := fun y hy x hx => by
          rcases List.mem_append.1 hx with hx | hx
          · have := h2 x hx; omega
          · rw [List.mem_singleton] at hx; omega
        unfold depStep at h
        split at h
        · cases h; exact ⟨Nat.le_succ_of_le h1, hm _ (Nat.le_succ_of_le h1)⟩
        · split at h
          · cases h; exact ⟨by rw [List.length_append]; simp only [List.length_cons, List.length_nil]; omega, hm _ (Nat.le_succ_of_le h1)⟩
          · split at h
            · cases h
            · split at h
              · cases h
              · simp only [Option.some.injEq, Prod.mk.injEq] at h
                obtain ⟨h3, h4⟩ := h
                subst h3 h4
                refine ⟨?_, hm _ (Nat.le_trans (Nat.sub_le _ _) (Nat.le_succ_of_le h1))⟩
                split
                · rw [List.length_dropLast]; omega
                · rw [List.length_append, List.length_dropLast]; simp only [List.length_cons, List.length_nil]; omega
    · rw [List.take_of_length_le (by omega)] at h
      obtain ⟨h1, h2⟩ := dep_bound rs k o l (by rw [List.take_of_length_le (by omega)]; exact h)
      exact ⟨by omega, fun x hx => by have := h2 x hx; omega⟩
theorem depS_bound {rs : List Rz} {o : List Nat} (h : depS rs = some o) : o.length = rs.length ∧ ∀ x ∈ o, x ≤ rs.length := by
  have hf : depFold rs = some (o, []) := by
    unfold depS at h
    split at h
    · rename_i he; cases h; exact he
    · cases h
  have h2 := dep_bound rs rs.length o [] (by rw [List.take_length]; exact hf)
  refine ⟨?_, h2.2⟩
  have h3 : ∀ (k : Nat) (o l : List Nat), k ≤ rs.length → depFold (rs.take k) = some (o, l) → o.length = k := by
    intro k
    induction k with
    | zero => intro o l _ h; rw [List.take_zero] at h; cases h; rfl
    | succ k ih =>
      intro o l hk h
      rw [depFold_snoc (List.getElem?_eq_getElem (show k < rs.length by omega))] at h
      cases hd : depFold (rs.take k) with
      | none => rw [hd] at h; cases h
      | some p =>
        obtain ⟨o', l'⟩ := p
        rw [hd, Option.bind_some] at h
        have h1 := ih o' l' (by omega) hd
        have e : ∃ y, o = o' ++ [y] := by
          unfold depStep at h
          split at h
          · cases h; exact ⟨_, rfl⟩
          · split at h
            · cases h; exact ⟨_, rfl⟩
            · split at h
              · cases h
              · split at h
                · cases h
                · simp only [Option.some.injEq, Prod.mk.injEq] at h
                  exact ⟨_, h.1.symm⟩
        obtain ⟨y, rfl⟩ := e
        rw [List.length_append, h1]; rfl
  exact h3 rs.length o [] (Nat.le_refl _) (by rw [List.take_length]; exact hf)

set_option maxRecDepth 100000 in
set_option maxHeartbeats 4000000 in
theorem lwraps_any (s : ByteArray) (w : World) (hs : s.size ≤ maxLen) (hL : LibVar w) :
    Calls Try.prog 8 #[.string s] w fun e w' => e = .returned (.bool true) ∧ Below w.heap.size w w' := by
  have CA := alive_any w hL
  have CS := fun (w' : World) (hb : Below w.heap.size w w') => scan_tz s w' hs (hL.low hb)
  obtain ⟨hf1, hf2⟩ := tks_fit s
  obtain ⟨hr1, hr2⟩ := rowsT_fit s
  have hW := fun (T : ByteArray) (o : List Nat) (hT : T.data.toList = ifL ++ (s.data.toList ++ endifL)) (h : scanErr s = 0) (hz : s.size ≤ 20000) (ho : depS (rowsT s) = some o) => (wraps_depths hT h hz (o := o) ho).2
  have HW := Lib.hid hW
  have hrows : rowsT s = rowsS (tksOf s) := rfl
  obtain ⟨Q, hQ⟩ : ∃ Q, rowsT s = Q := ⟨_, rfl⟩
  rw [hQ] at HW hr1 hr2 hrows
  obtain ⟨ts, hts⟩ : ∃ ts, tksOf s = ts := ⟨_, rfl⟩
  rw [hts] at CS hf1 hf2 hrows
  have HR := Lib.hid hrows
  obtain ⟨E, hE⟩ : ∃ E, scanErr s = E := ⟨_, rfl⟩
  rw [hE] at CS HW
  obtain ⟨n, hn⟩ : ∃ n, ts.length = n := ⟨_, rfl⟩
  rw [hn] at CS hf1
  have HN := Lib.hid hn
  have HF2 := Lib.hid hf2
  have HRF := Lib.hid hr1
  have HLV := Lib.hid hL
  unfold maxLen at hs
  clear hW hQ hrows hts hE hn hf2 hr1 hL
  by_cases hE0 : E = 0
  · subst hE0
    by_cases hz : s.size ≤ 20000
    · have z1 : ¬ (20000 : Int) < (s.size : Int) := by omega
      go_enter Try.func8, Try.ntmps8
      go_wp2_with fail
      refine CA.mono ?_
      rintro e w1 ⟨rfl, hb1⟩
      go_wp2_with fail
      refine (CS _ hb1).mono ?_
      rintro e w2 ⟨⟨a2, c2, rfl, hc2, hi2⟩, hb2⟩
      have hB2 := hb1.trans (hb2.mono hb1.size)
      have CR := rows_in_any n c2 a2 w2 (by omega) hc2 ts HN.out (fun t ht => Nat.le_trans (HF2.out t ht) (by decide)) hi2
      rw [← HR.out] at CR
      clear CA CS hi2
      go_wp2_with fail
      refine CR.mono ?_
      rintro e w3 ⟨⟨a3, c3, rfl, hc3, hi3⟩, hb3⟩
      have hB3 := hB2.trans (hb3.mono hB2.size)
      have CD := depths_any Q.length c3 a3 w3 Q (by omega) rfl hi3
      clear CR hi3
      go_wp2_with fail
      refine CD.mono ?_
      rintro e w4 ⟨⟨v4, rfl, h4a, h4b⟩, hb4⟩
      have hB4 := hB3.trans (hb4.mono hB3.size)
      clear CD
      go_wp2_with fail
      have hTs : (⟨#[35, 105, 102, 32, 49, 10]⟩ ++ s ++ ⟨#[35, 101, 110, 100, 105, 102, 10]⟩ : ByteArray).size ≤ maxLen := by
        rw [ByteArray.size_append, ByteArray.size_append]
        show 6 + s.size + 7 ≤ maxLen
        unfold maxLen; omega
      have hTl : (⟨#[35, 105, 102, 32, 49, 10]⟩ ++ s ++ ⟨#[35, 101, 110, 100, 105, 102, 10]⟩ : ByteArray).data.toList = ifL ++ (s.data.toList ++ endifL) := by
        rw [ByteArray.data_append, ByteArray.data_append, Array.toList_append, Array.toList_append, List.append_assoc]; rfl
      generalize (⟨#[35, 105, 102, 32, 49, 10]⟩ ++ s ++ ⟨#[35, 101, 110, 100, 105, 102, 10]⟩ : ByteArray) = T at *
      have CRT := lrows_any T w4 hTs (HLV.out.low hB4)
      obtain ⟨-, hTr⟩ := rowsT_fit T
      have HWT := Lib.hid (fun o => HW.out T o hTl (by first | rfl | trivial) hz)
      obtain ⟨QT, hQT⟩ : ∃ Q, rowsT T = Q := ⟨_, rfl⟩
      have hQT2 : rowsS ((scanOf T).map tzY) = QT := hQT
      rw [hQT] at CRT hTr
      have HQT := Lib.hid hQT2
      clear hTs hTl hQT hQT2
      refine CRT.mono ?_
      rintro e w5 ⟨⟨a5, c5, rfl, hc5, hi5⟩, hb5⟩
      have hB5 := hB4.trans (hb5.mono hB4.size)
      have CDT := depths_any QT.length c5 a5 w5 QT (by omega) rfl hi5
      clear CRT hi5
      cases hd : depS Q with
      | none =>
        have hE := depE_none hd
        obtain ⟨b4, d4, rfl⟩ := h4b hd
        rw [hE]
        clear h4a h4b hd hE
        go_wp2_with fail
        refine CDT.mono ?_
        rintro e w6 ⟨⟨v6, rfl, -, -⟩, hb6⟩
        have hB6 := hB5.trans (hb6.mono hB5.size)
        clear CDT
        go_wp2
        go_ret
        exact ⟨rfl, hB6⟩
      | some o =>
        have hE := depE_some hd
        obtain ⟨hol, hob⟩ := depS_bound hd
        have hTd := HWT.out o hd
        rw [HQT.out] at hTd
        have hET := depE_some hTd
        rw [hE]
        rw [hET] at CDT
        obtain ⟨a4, d4, rfl, hI4⟩ := ints_own (h4a o hd)
        have HI4 := Lib.hid hI4
        have HTD := Lib.hid hTd
        have HOB := Lib.hid hob
        have hos : o.length ≤ 65536 := by omega
        clear h4a h4b hd hE hTd hET hI4 hob hol HWT HQT
        go_wp2_with fail
        refine CDT.mono ?_
        rintro e w6 ⟨⟨v6, rfl, h6a, -⟩, hb6⟩
        have hB6 := hB5.trans (hb6.mono hB5.size)
        obtain ⟨a6, d6, rfl, hI6⟩ := ints_own (h6a _ HTD.out)
        have hl6 : (0 :: (o.map (· + 1) ++ [0])).length = o.length + 2 := by simp
        rw [hl6]
        obtain ⟨b6, o6, rfl, hc6⟩ := (hI6 w6 (Below.refl _ _)) (by rw [hl6]; omega)
        have g0 := hc6 0 0 rfl
        have g1 := hc6 (o.length + 1) 0 (by rw [List.getElem?_cons_succ, List.getElem?_append_right (by rw [List.length_map]; exact Nat.le_refl _), List.length_map, Nat.sub_self]; rfl)
        have HC6 := Lib.hid (show ∀ k x, o[k]? = some x → w6.cell? ⟨b6, o6 + (k + 1), none⟩ = some (.int .i64 ((x + 1 : Nat) : Int)) from fun k x hx => hc6 (k + 1) (x + 1) (by
          rw [List.getElem?_cons_succ, List.getElem?_append_left (by rw [List.length_map]; exact (List.getElem?_eq_some_iff.1 hx).1), List.getElem?_map, hx]; rfl))
        have HI46 := Lib.hid (HI4.out w6 (hb5.trans (hb6.mono hb5.size)))
        clear CDT h6a hI6 hl6 hc6
        rw [Nat.add_zero] at g0
        have l0 : (0 : Int) ≤ (o.length : Int) := by omega
        go_wp2
        go_loopw [11] (fun i wx => ∃ k : Nat, k ≤ o.length ∧ i = .int .i64 k ∧ ∃ q, wx = w6.drewN q) (fun i _ => o.length - (intOf i).toNat)
        case atStart => exact ⟨0, Nat.zero_le _, rfl, 0, rfl⟩
        case round =>
          obtain ⟨k, hk, rfl, q, rfl⟩ := hrel
          by_cases hlt : k < o.length
          · obtain ⟨x, hx⟩ : ∃ x, o[k]? = some x := ⟨_, List.getElem?_eq_getElem hlt⟩
            obtain ⟨b4, o4, rfl, hr⟩ := HI46.out (by omega)
            have c0 := hr k x hx
            have g2 := HC6.out k x hx
            have hxb : (x : Int) ≤ 65536 := by have := HOB.out x (List.mem_of_getElem? hx); omega
            have hx0 : (0 : Int) ≤ (x : Int) := by omega
            clear hr hx
            have j1 : (k : Int) < (o.length : Int) := by omega
            have j2 : (k : Int) + 1 < (o.length : Int) + 2 := by omega
            have j0 : (0 : Int) ≤ (k : Int) := by omega
            go_wp2
            go_big_quiet (fail)
            go_wp2
            refine ⟨⟨k + 1, by omega, by go_num, _, rfl⟩, ?_⟩
            simp [intOf]; omega
          · have j1 : ¬ (k : Int) < (o.length : Int) := by omega
            go_wp2
            go_ret
            exact ⟨rfl, below_drewN hB6 q⟩
    · have z1 : (20000 : Int) < (s.size : Int) := by omega
      go_enter Try.func8, Try.ntmps8
      go_wp2_with fail
      refine CA.mono ?_
      rintro e w1 ⟨rfl, hb1⟩
      go_wp2_with fail
      refine (CS _ hb1).mono ?_
      rintro e w2 ⟨⟨a2, c2, rfl, -, -⟩, hb2⟩
      have hB2 := hb1.trans (hb2.mono hb1.size)
      clear CA CS
      go_wp2
      go_ret
      exact ⟨rfl, hB2⟩
  · have e1 : (E != 0) = true := bne_iff_ne.2 hE0
    go_enter Try.func8, Try.ntmps8
    go_wp2_with fail
    refine CA.mono ?_
    rintro e w1 ⟨rfl, hb1⟩
    go_wp2_with fail
    refine (CS _ hb1).mono ?_
    rintro e w2 ⟨⟨a2, c2, rfl, -, -⟩, hb2⟩
    have hB2 := hb1.trans (hb2.mono hb1.size)
    clear CA CS
    go_wp2
    go_ret
    exact ⟨rfl, hB2⟩

end Go.Proofs.Ytpomcdolpmbhdaa
