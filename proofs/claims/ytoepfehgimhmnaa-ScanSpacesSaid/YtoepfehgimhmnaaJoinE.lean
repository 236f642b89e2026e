/- How long the joined texts are, and how they end. -/
import Derived.Test.YtoepfehgimhmnaaJoinM
import Derived.Test.YtoepfehgimhmnaaLinkS
namespace Go.Proofs.Ytoepfehgimhmnaa

theorem dark_app (a b : List UInt8) : dark (a ++ b) = dark a + dark b := by
  unfold dark; rw [List.filter_append, List.length_append]
theorem dark_le (a : List UInt8) : dark a ≤ a.length := List.length_filter_le _ _
theorem gap_dark (k : Nat) : dark (gap k) = 0 ∧ (gap k).length ≤ 1 := by
  unfold gap; split
  · exact ⟨rfl, by decide⟩
  · exact ⟨rfl, by decide⟩
/-- The joined texts: no longer than twice the text; its dark bytes are the text's. -/
theorem join_len {L : List UInt8} : ∀ (m e st : Nat), L.length - e ≤ m → e ≤ L.length → (joinR L (toks L e st).1).length ≤ 2 * (L.length - e) ∧ dark (joinR L (toks L e st).1) ≤ L.length - e := by
  intro m
  induction m with
  | zero =>
    intro e st hm he
    have := atOf_ge L e
    rw [toks_end he (by omega)]
    exact ⟨Nat.zero_le _, Nat.zero_le _⟩
  | succ m ih =>
    intro e st hm he
    have hg := atOf_ge L e
    by_cases h1 : L.length ≤ atOf L e
    · rw [toks_end he h1]; exact ⟨Nat.zero_le _, Nat.zero_le _⟩
    · by_cases h2 : (nextAt L e st).2.2 = 0
      · rw [toks_cons (by omega) h2]
        have h3 := nextAt_len (by omega) h2
        have h5 : (tokAt L e st).e = atOf L e + (nextAt L e st).2.1 := rfl
        have h6 : (tokAt L e st).a = atOf L e := rfl
        have ih1 := ih (tokAt L e st).e (stAt L e st) (by rw [h5]; omega) (by rw [h5]; exact h3.2)
        have hxl : (txt L (tokAt L e st)).length = (nextAt L e st).2.1 := by
          unfold txt; rw [List.length_drop, List.length_take, h5, h6]; omega
        have hd := dark_le (txt L (tokAt L e st))
        have hgd := gap_dark (tokAt L e st).k
        rw [joinR, List.length_append, List.length_append, dark_app, dark_app]
        rw [h5] at ih1
        rw [hxl] at hd ⊢
        rw [h5]
        omega
      · rw [toks_err (by omega) h2]; exact ⟨Nat.zero_le _, Nat.zero_le _⟩

theorem last_app {a b : List UInt8} (h : b ≠ []) : (a ++ b).getLast? = b.getLast? := by
  cases b with
  | nil => exact absurd rfl h
  | cons c r => simp [List.getLast?_append, List.getLast?_cons]
/-- The joined texts end as the text ends, if that is no white space. -/
theorem join_last {L : List UInt8} {c : UInt8} (hL : L.getLast? = some c) (hc : isWS c = false) : ∀ (m e st : Nat), L.length - e ≤ m → e < L.length → (toks L e st).2 = 0 → joinR L (toks L e st).1 ≠ [] ∧ (joinR L (toks L e st).1).getLast? = some c := by
  intro m
  induction m with
  | zero => intro e st hm he; omega
  | succ m ih =>
    intro e st hm he h0
    have hg := atOf_ge L e
    by_cases h1 : L.length ≤ atOf L e
    · exfalso
      have h2 := at_ok L e (L.length - 1) (by omega) (by omega) c (by rw [← hL, List.getLast?_eq_getElem?])
      rw [hc] at h2; cases h2
    · by_cases h2 : (nextAt L e st).2.2 = 0
      · rw [toks_cons (by omega) h2] at h0 ⊢
        have h3 := nextAt_len (by omega) h2
        have h5 : (tokAt L e st).e = atOf L e + (nextAt L e st).2.1 := rfl
        have h6 : (tokAt L e st).a = atOf L e := rfl
        have hxl : (txt L (tokAt L e st)).length = (nextAt L e st).2.1 := by
          unfold txt; rw [List.length_drop, List.length_take, h5, h6]; omega
        have hne : txt L (tokAt L e st) ≠ [] := fun e => by rw [e] at hxl; simp only [List.length_nil] at hxl; omega
        rw [joinR]
        have hne2 : gap (tokAt L e st).k ++ (txt L (tokAt L e st) ++ joinR L (toks L (tokAt L e st).e (stAt L e st)).1) ≠ [] := fun h => by
          have h8 := (List.append_eq_nil_iff.1 h).2
          exact hne (List.append_eq_nil_iff.1 h8).1
        refine ⟨hne2, ?_⟩
        rw [last_app (fun h => hne (List.append_eq_nil_iff.1 h).1)]
        by_cases hlt : (tokAt L e st).e < L.length
        · obtain ⟨i1, i2⟩ := ih (tokAt L e st).e (stAt L e st) (by rw [h5]; omega) hlt h0
          rw [last_app i1, i2]
        · have he2 : (tokAt L e st).e = L.length := by rw [h5] at hlt ⊢; omega
          have := atOf_ge L (tokAt L e st).e
          rw [toks_end (l := L) (by omega) (by omega)]
          rw [joinR, List.append_nil]
          unfold txt
          rw [he2, List.take_length, List.getLast?_drop, if_neg (by omega), hL]
      · rw [toks_err (by omega) h2] at h0; exact absurd h0 h2

end Go.Proofs.Ytoepfehgimhmnaa
