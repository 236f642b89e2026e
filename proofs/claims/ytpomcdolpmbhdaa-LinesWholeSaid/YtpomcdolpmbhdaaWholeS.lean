/- The rows of a list of tokens: what holds of them (pure). -/
import Derived.Test.YtpomcdolpmbhdaaRowsS
namespace Go.Proofs.Ytpomcdolpmbhdaa

theorem linesS_flat : ∀ ts : List Tz, (linesS ts).flatten = ts
  | [] => rfl
  | t :: r => by
    have ih := linesS_flat r
    rw [linesS]
    split
    · rw [List.flatten_cons, ih]; rfl
    · cases h : linesS r with
      | nil => rw [h] at ih; rw [← ih]; rfl
      | cons l ls => rw [h] at ih; rw [← ih]; rfl
def LineOk (l : List Tz) : Prop := l ≠ [] ∧ noNl l.dropLast
theorem linesS_ok : ∀ (ts : List Tz), ∀ l ∈ linesS ts, LineOk l
  | [], l, h => by cases h
  | t :: r, l, h => by
    have ih := linesS_ok r
    rw [linesS] at h
    split at h
    · rcases List.mem_cons.1 h with rfl | h
      · exact ⟨by simp, fun u hu => by cases hu⟩
      · exact ih l h
    · next h9 =>
      cases hr : linesS r with
      | nil =>
        rw [hr] at h
        obtain rfl : l = [t] := by simpa using h
        exact ⟨by simp, fun u hu => by cases hu⟩
      | cons a ls =>
        rw [hr] at h ih
        rcases List.mem_cons.1 h with rfl | h
        · obtain ⟨h1, h2⟩ := ih a List.mem_cons_self
          refine ⟨by simp, fun u hu => ?_⟩
          cases a with
          | nil => exact absurd rfl h1
          | cons b a =>
            rw [List.dropLast_cons_of_ne_nil (by simp)] at hu
            rcases List.mem_cons.1 hu with rfl | hu
            · exact Bool.eq_false_iff.2 h9
            · exact h2 u hu
        · exact ih l (List.mem_cons_of_mem _ h)
/-- What holds of rows, whatever the list. -/
structure WholeR (rs : List Rz) : Prop where
  ne : ∀ r ∈ rs, r.ts ≠ []
  nm : ∀ r ∈ rs, r.d = false → r.nm = ⟨#[]⟩
  nl : ∀ r ∈ rs, r.d = true → noNl r.ts.dropLast
  alt : ∀ (i : Nat) (a b : Rz), rs[i]? = some a → rs[i + 1]? = some b → a.d = true ∨ b.d = true
theorem WholeR.nil : WholeR [] := ⟨fun r h => (by cases h), fun r h => (by cases h), fun r h => (by cases h), fun i a b h => by simp at h⟩
theorem WholeR.snoc {o : List Rz} {r : Rz} (h : WholeR o) (h1 : r.ts ≠ []) (h2 : r.d = false → r.nm = ⟨#[]⟩) (h3 : r.d = true → noNl r.ts.dropLast) (h4 : ∀ q, o.getLast? = some q → q.d = true ∨ r.d = true) : WholeR (o ++ [r]) := by
  have hm : ∀ x ∈ o ++ [r], x ∈ o ∨ x = r := fun x hx => by simpa using hx
  refine ⟨fun x hx => ?_, fun x hx => ?_, fun x hx => ?_, fun i a b ha hb => ?_⟩
  · rcases hm x hx with hx | rfl
    · exact h.ne x hx
    · exact h1
  · rcases hm x hx with hx | rfl
    · exact h.nm x hx
    · exact h2
  · rcases hm x hx with hx | rfl
    · exact h.nl x hx
    · exact h3
  · have hlt := (List.getElem?_eq_some_iff.1 hb).1
    rw [List.length_append, List.length_singleton] at hlt
    rw [List.getElem?_append_left (by omega)] at ha
    by_cases hi : i + 1 < o.length
    · rw [List.getElem?_append_left hi] at hb
      exact h.alt i a b ha hb
    · have e : i + 1 = o.length := by omega
      rw [e, List.getElem?_append_right (Nat.le_refl _), Nat.sub_self] at hb
      simp only [List.getElem?_cons_zero, Option.some.injEq] at hb
      subst hb
      refine h4 a ?_
      rw [List.getLast?_eq_getElem?, show o.length - 1 = i by omega]
      exact ha
theorem WholeR.init {o : List Rz} {q : Rz} (h : WholeR (o ++ [q])) : WholeR o := by
  refine ⟨fun x hx => h.ne x (List.mem_append_left _ hx), fun x hx => h.nm x (List.mem_append_left _ hx), fun x hx => h.nl x (List.mem_append_left _ hx), fun i a b ha hb => ?_⟩
  have h1 := (List.getElem?_eq_some_iff.1 ha).1
  have h2 := (List.getElem?_eq_some_iff.1 hb).1
  exact h.alt i a b (by rw [List.getElem?_append_left h1]; exact ha) (by rw [List.getElem?_append_left h2]; exact hb)
theorem rowOf_ts (l : List Tz) : (rowOf l).ts = l := rfl
theorem rowOf_nm (l : List Tz) (h : (rowOf l).d = false) : (rowOf l).nm = ⟨#[]⟩ := by
  have h' : hashB (bareS l).1 = false := h
  unfold rowOf
  simp only [h']
  rfl
theorem WholeR.add {o : List Rz} {l : List Tz} (h : WholeR o) (hl : LineOk l) : WholeR (addLine o l) := by
  unfold addLine
  cases hd : (rowOf l).d with
  | true =>
    rw [addRow_new (.inl hd)]
    exact h.snoc hl.1 (fun e => by rw [hd] at e; cases e) (fun _ => hl.2) (fun q _ => .inr hd)
  | false =>
    rcases List.eq_nil_or_concat o with rfl | ⟨o0, q, rfl⟩
    · rw [addRow_new (.inr (.inl rfl))]
      exact h.snoc hl.1 (rowOf_nm l) (fun e => by rw [hd] at e; cases e) (fun q hq => by simp at hq)
    · rw [List.concat_eq_append] at h ⊢
      cases hq : q.d with
      | true =>
        rw [addRow_new (.inr (.inr ⟨o0, q, rfl, hq⟩))]
        refine h.snoc hl.1 (rowOf_nm l) (fun e => by rw [hd] at e; cases e) (fun x hx => ?_)
        rw [List.getLast?_append, List.getLast?_singleton, Option.some_or] at hx
        cases hx
        exact .inl hq
      | false =>
        rw [addRow_more hd hq]
        have hqm : q ∈ o0 ++ [q] := List.mem_append_right _ List.mem_cons_self
        refine h.init.snoc ?_ (fun _ => h.nm q hqm hq) (fun e => by simp only [hq] at e; cases e) (fun x hx => ?_)
        · have := h.ne q hqm
          simp [this]
        · rcases List.eq_nil_or_concat o0 with rfl | ⟨o1, p, rfl⟩
          · simp at hx
          · rw [List.concat_eq_append] at h hx
            rw [List.getLast?_append, List.getLast?_singleton, Option.some_or] at hx
            cases hx
            have := h.alt o1.length x q (by simp) (by simp)
            rcases this with this | this
            · exact .inl this
            · rw [hq] at this; cases this
theorem rowsS_whole (ts : List Tz) : WholeR (rowsS ts) := by
  unfold rowsS
  have : ∀ (ls : List (List Tz)) (o : List Rz), (∀ l ∈ ls, LineOk l) → WholeR o → WholeR (ls.foldl addLine o) := by
    intro ls
    induction ls with
    | nil => intro o _ h; exact h
    | cons l ls ih => intro o hl h; exact ih _ (fun x hx => hl x (List.mem_cons_of_mem _ hx)) (h.add (hl l List.mem_cons_self))
  exact this _ _ (linesS_ok ts) WholeR.nil
def flatR (rs : List Rz) : List Tz := rs.flatMap (·.ts)
theorem addRow_flat (out : List Rz) (r : Rz) : flatR (addRow out r) = flatR out ++ r.ts := by
  rcases List.eq_nil_or_concat out with rfl | ⟨o, q, rfl⟩
  · simp [addRow, flatR]
  · rw [List.concat_eq_append]
    unfold addRow flatR
    simp only [List.getLast?_append, List.getLast?_singleton, Option.some_or, List.dropLast_concat]
    split <;> simp
/-- The rows' tokens, one behind the other, are the list. -/
theorem rowsS_flat (ts : List Tz) : flatR (rowsS ts) = ts := by
  unfold rowsS
  have : ∀ (ls : List (List Tz)) (o : List Rz), flatR (ls.foldl addLine o) = flatR o ++ ls.flatten := by
    intro ls
    induction ls with
    | nil => intro o; simp
    | cons l ls ih =>
      intro o
      rw [List.foldl_cons, ih, List.flatten_cons, ← List.append_assoc]
      congr 1
      exact addRow_flat o (rowOf l)
  rw [this, linesS_flat]; rfl

end Go.Proofs.Ytpomcdolpmbhdaa
