/- The document's ways to a definition are the program's (pure). -/
import Derived.Test.YtaodjipnffgihaaMcS
namespace Go.Proofs.Ytaodjipnffgihaa

/-- May a body be: each token by itself; is it the first one? -/
def mayR (fn vr : Bool) (ps : List ByteArray) : Bool → List Tz → Bool
  | _, [] => true
  | f, t :: l => !(pasteB t && (f || l.isEmpty)) && oneT fn vr ps t l && mayR fn vr ps false l
theorem mayR_later (fn vr : Bool) (ps : List ByteArray) : ∀ (l : List Tz) (h : l ≠ []), mayR fn vr ps false l = (!pasteB (l.getLast h) && mayT fn vr ps l)
  | [], h => absurd rfl h
  | [t], _ => by simp [mayR, mayT]
  | t :: u :: l, _ => by
    have e : mayT fn vr ps (t :: u :: l) = (oneT fn vr ps t (u :: l) && mayT fn vr ps (u :: l)) := rfl
    rw [mayR, mayR_later fn vr ps (u :: l) (by simp), e]
    simp only [List.isEmpty_cons, Bool.or_false, Bool.and_false, Bool.not_false, Bool.true_and, List.getLast_cons_cons]
    generalize mayT fn vr ps (u :: l) = z
    cases oneT fn vr ps t (u :: l) <;> cases pasteB ((u :: l).getLast (by simp)) <;> rfl
theorem mayR_eq (fn vr : Bool) (ps : List ByteArray) : ∀ l : List Tz, mayR fn vr ps true l = mayB fn vr ps l
  | [] => rfl
  | [t] => by simp [mayR, mayB, endsB, mayT]
  | t :: u :: l => by
    have e : mayT fn vr ps (t :: u :: l) = (oneT fn vr ps t (u :: l) && mayT fn vr ps (u :: l)) := rfl
    rw [mayR, mayR_later fn vr ps (u :: l) (by simp), mayB, endsB, e]
    simp only [List.isEmpty_cons, Bool.or_false, Bool.and_true, List.getLast_cons_cons]
    generalize mayT fn vr ps (u :: l) = z
    cases pasteB t <;> cases oneT fn vr ps t (u :: l) <;> cases pasteB ((u :: l).getLast (by simp)) <;> rfl

/-- What stands behind the parameters stands at the list's end. -/
theorem parP_tail : ∀ (m : Nat) (l : List Tz) (acc : List ByteArray) (x : List ByteArray × Bool × List Tz), l.length ≤ m → parP acc l = some x → x.2.2 = l.drop (l.length - x.2.2.length) ∧ 2 ≤ l.length - x.2.2.length
  | m, [], acc, x, _, h => by unfold parP at h; cases h
  | m, [t], acc, x, _, h => by unfold parP at h; cases h
  | m + 1, t :: u :: l, acc, x, hm, h => by
    have hl := (parP_len (m + 1) (t :: u :: l) acc x hm h).1
    rw [parP] at h
    have hf : ∀ (a : List ByteArray) (v : Bool), finS a v l = some x → x.2.2 = (t :: u :: l).drop ((t :: u :: l).length - x.2.2.length) ∧ 2 ≤ (t :: u :: l).length - x.2.2.length := by
      intro a v h
      unfold finS at h
      split at h
      · cases h
        have e : (t :: u :: l).length - l.length = 2 := by simp only [List.length_cons]; omega
        show l = (t :: u :: l).drop ((t :: u :: l).length - l.length) ∧ 2 ≤ (t :: u :: l).length - l.length
        rw [e]
        exact ⟨rfl, Nat.le_refl _⟩
      · cases h
    split at h
    · split at h
      · exact hf _ _ h
      · cases h
    · split at h
      · split at h
        · obtain ⟨h1, h2⟩ := parP_tail m l (acc ++ [t.tx]) x (by simp only [List.length_cons] at hm; omega) h
          have e : (t :: u :: l).length - x.2.2.length = (l.length - x.2.2.length) + 1 + 1 := by simp only [List.length_cons]; omega
          refine ⟨?_, by omega⟩
          rw [e, List.drop_succ_cons, List.drop_succ_cons]
          exact h1
        · split at h
          · exact hf _ _ h
          · cases h
      · cases h
  | 0, t :: u :: l, acc, x, hm, h => by simp at hm
theorem cutP_tail {l : List Tz} {x : List ByteArray × Bool × List Tz} (h : cutP l = some x) : x.2.2 = l.drop (l.length - x.2.2.length) ∧ 1 ≤ l.length - x.2.2.length := by
  unfold cutP at h
  cases l with
  | nil => cases h
  | cons t r =>
    simp only at h
    split at h
    · cases h
      have e : (t :: r).length - r.length = 1 := by simp only [List.length_cons]; omega
      show r = (t :: r).drop ((t :: r).length - r.length) ∧ 1 ≤ (t :: r).length - r.length
      rw [e]
      exact ⟨rfl, Nat.le_refl _⟩
    · obtain ⟨h1, h2⟩ := parP_tail _ _ _ _ (Nat.le_refl _) h
      exact ⟨h1, by omega⟩

theorem bytes_eq {a b : ByteArray} (h : (a.toList == b.toList) = true) : a = b := by
  have h1 := eq_of_beq h
  rw [Lib.toList_data, Lib.toList_data] at h1
  exact ByteArray.ext (Array.toList_inj.1 h1)
theorem sameTx_eq : ∀ {l r : List ByteArray}, sameTx l r = true → l = r
  | [], [], _ => rfl
  | a :: l, b :: r, h => by
    rw [sameTx, Bool.and_eq_true] at h
    rw [bytes_eq h.1, sameTx_eq h.2]
  | [], _ :: _, h => by simp [sameTx] at h
  | _ :: _, [], h => by simp [sameTx] at h
theorem sameTx_self : ∀ l : List ByteArray, sameTx l l = true
  | [] => rfl
  | a :: l => by rw [sameTx, sameTx_self l]; simp
theorem sameP_eq {a b : Pz} (h : sameP a b = true) : a = b := by
  unfold sameP at h
  simp only [Bool.and_eq_true] at h
  exact Pz.ext' (eq_of_beq h.1.1.1) (bytes_eq h.1.1.2) (eq_of_beq h.1.2) (sameTx_eq h.2)
theorem sameP_self (a : Pz) : sameP a a = true := by unfold sameP; rw [sameTx_self]; simp
theorem samePs_eq : ∀ {l r : List Pz}, samePs l r = true → l = r
  | [], [], _ => rfl
  | a :: l, b :: r, h => by
    rw [samePs, Bool.and_eq_true] at h
    rw [sameP_eq h.1, samePs_eq h.2]
  | [], _ :: _, h => by simp [samePs] at h
  | _ :: _, [], h => by simp [samePs] at h
theorem samePs_self : ∀ l : List Pz, samePs l l = true
  | [] => rfl
  | a :: l => by rw [samePs, samePs_self l, sameP_self]; rfl
theorem sameM_eq {a b : Mz} (h : sameM a b = true) : a = b := by
  unfold sameM at h
  simp only [Bool.and_eq_true] at h
  exact Mz.ext' (bytes_eq h.1.1.1.1) (eq_of_beq h.1.1.1.2) (sameTx_eq h.1.1.2) (eq_of_beq h.1.2) (samePs_eq h.2)
theorem sameM_self (a : Mz) : sameM a a = true := by unfold sameM; rw [sameTx_self, samePs_self]; simp
theorem sameM_iff {a b : Mz} : sameM a b = true ↔ a = b := ⟨sameM_eq, fun e => by rw [e]; exact sameM_self b⟩

end Go.Proofs.Ytaodjipnffgihaa
