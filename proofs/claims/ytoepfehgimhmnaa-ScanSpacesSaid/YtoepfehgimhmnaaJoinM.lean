/- The texts of a text's tokens, joined by blanks, have the same tokens. -/
import Derived.Test.YtoepfehgimhmnaaJoin
namespace Go.Proofs.Ytoepfehgimhmnaa

theorem toks_ten {L : List UInt8} {e st : Nat} {s : List UInt8} (h : L.drop e = 10 :: s) (h0 : (toks L e st).2 = 0) : ∃ t r, (toks L e st).1 = t :: r ∧ t.k = 9 := by
  have hlen : e < L.length := by
    have := congrArg List.length h
    rw [List.length_drop, List.length_cons] at this
    omega
  have ha : atOf L e = e := by unfold atOf; rw [h]; rfl
  have hx : nextAt L e st = (9, 1, 0) := by unfold nextAt; rw [ha, h]; exact next_ten _ _
  rw [toks_cons (by omega) (by rw [hx])]
  exact ⟨_, _, rfl, by show (nextAt L e st).1 = 9; rw [hx]⟩

theorem join_head {L : List UInt8} {e st : Nat} (he : e ≤ L.length) : ∀ c s, joinR L (toks L e st).1 = c :: s → (c = 32 ∨ c = 10) ∧ ((∃ t r, (toks L e st).1 = t :: r ∧ t.k = 9) → c = 10) := by
  intro c s h
  have hG := toks_g (l := L) _ e st (Nat.le_refl _) he
  generalize (toks L e st).1 = ts at *
  cases ts with
  | nil => cases h
  | cons t r =>
    obtain ⟨_, _, ⟨inc, hn⟩, _, hlt, hle, _⟩ := hG
    rw [joinR] at h
    by_cases hk : t.k = 9
    · rw [hk] at h hn
      obtain ⟨z, hz⟩ := next_nine hn
      have ht : txt L t = (L.drop t.a).take (t.e - t.a) := by unfold txt; rw [List.drop_take]
      obtain ⟨d, hd⟩ : ∃ d, t.e - t.a = d + 1 := ⟨t.e - t.a - 1, by omega⟩
      rw [ht, hz, hd, List.take_succ_cons] at h
      have : gap 9 = [] := rfl
      rw [this, List.nil_append, List.cons_append, List.cons.injEq] at h
      exact ⟨.inr h.1.symm, fun _ => h.1.symm⟩
    · have : gap t.k = [32] := by unfold gap; rw [if_neg hk]
      rw [this, List.cons_append, List.cons.injEq] at h
      refine ⟨.inl h.1.symm, fun ⟨t', r', e1, e2⟩ => ?_⟩
      rw [List.cons.injEq] at e1
      rw [e1.1] at hk
      exact absurd e2 hk

/-- Behind a line's comment stands nothing or a line's end. -/
theorem line_end {inc : Bool} {x s : List UInt8} (h : nextOf inc (x ++ s) = (8, x.length, 0)) (hp : [47, 47].isPrefixOf x = true) : s = [] ∨ ∃ r, s = 10 :: r := by
  obtain ⟨y, hy⟩ := List.isPrefixOf_iff_prefix.1 hp
  have hx : x = 47 :: 47 :: y := hy.symm
  subst hx
  have hc : isComment (47 :: 47 :: y ++ s) = true := rfl
  unfold nextOf at h
  split at h
  · simp only [Prod.mk.injEq] at h; exact absurd h.1 (by decide)
  · split at h
    · simp at h
    · simp only [Prod.mk.injEq] at h
      have h1 := h.2.1
      have hcl : commentLen (47 :: 47 :: y ++ s) = 2 + runLen notNl (y ++ s) := rfl
      rw [hcl, List.length_cons, List.length_cons] at h1
      have h2 := run_stop notNl (y ++ s)
      rw [show runLen notNl (y ++ s) = y.length by omega, List.drop_left] at h2
      cases s with
      | nil => exact .inl rfl
      | cons c r =>
        rw [runLen] at h2
        by_cases hc : notNl c = true
        · rw [if_pos hc] at h2; omega
        · unfold notNl at hc
          have : (c == 10) = true := by simpa using hc
          exact .inr ⟨r, by rw [eq_of_beq this]⟩

theorem not_header {inc : Bool} {l : List UInt8} {k n : Nat} (h : nextOf inc l = (k, n, 0)) (hk : k ≠ 7) (hi : inc = true) : headerLen l = 0 := by
  unfold nextOf at h
  split at h
  · simp only [Prod.mk.injEq] at h; exact absurd h.1.symm hk
  · rename_i h1
    rw [hi, Bool.true_and] at h1
    simpa using h1

def kinds (l : List UInt8) (ts : List Tk) : List (Nat × List UInt8) := ts.map fun t => (t.k, txt l t)
def joinL (L lead : List UInt8) : List Tk → List UInt8
  | [] => []
  | t :: r => lead ++ (txt L t ++ joinR L r)
theorem joinR_L (L : List UInt8) (ts : List Tk) : ∃ lead, (lead = [] ∨ lead = [32]) ∧ joinR L ts = joinL L lead ts := by
  cases ts with
  | nil => exact ⟨[], .inl rfl, rfl⟩
  | cons t r =>
    refine ⟨gap t.k, ?_, rfl⟩
    unfold gap; split
    · exact .inl rfl
    · exact .inr rfl

theorem toks_join {L X : List UInt8} : ∀ (m e st : Nat), L.length - e ≤ m → e ≤ L.length → (toks L e st).2 = 0 → ∀ (e' : Nat) (lead : List UInt8), e' ≤ X.length → (lead = [] ∨ lead = [32]) → X.drop e' = joinL L lead (toks L e st).1 →
    (toks X e' st).2 = 0 ∧ kinds X (toks X e' st).1 = kinds L (toks L e st).1 := by
  intro m
  induction m with
  | zero =>
    intro e st hm he _ e' lead he' _ hX
    have := atOf_ge L e
    rw [toks_end he (by omega)] at hX ⊢
    have h1 : X.length ≤ e' := by
      have := congrArg List.length hX
      rw [List.length_drop] at this
      simp only [joinL, List.length_nil] at this
      omega
    have := atOf_ge X e'
    rw [toks_end he' (by omega)]
    exact ⟨rfl, rfl⟩
  | succ m ih =>
    intro e st hm he h0 e' lead he' hlead hX
    have hg := atOf_ge L e
    by_cases h1 : L.length ≤ atOf L e
    · rw [toks_end he h1] at hX ⊢
      have h2 : X.length ≤ e' := by
        have := congrArg List.length hX
        rw [List.length_drop] at this
        simp only [joinL, List.length_nil] at this
        omega
      have := atOf_ge X e'
      rw [toks_end he' (by omega)]
      exact ⟨rfl, rfl⟩
    · by_cases h2 : (nextAt L e st).2.2 = 0
      · rw [toks_cons (by omega) h2] at h0 hX ⊢
        have h3 := nextAt_len (by omega) h2
        have hte : (tokAt L e st).e = atOf L e + (nextAt L e st).2.1 := rfl
        have hta : (tokAt L e st).a = atOf L e := rfl
        have hle : (tokAt L e st).e ≤ L.length := by rw [hte]; exact h3.2
        have hdrop := txt_drop (L := L) (t := tokAt L e st) (by rw [hte, hta]; omega) hle
        have hxl : (txt L (tokAt L e st)).length = (nextAt L e st).2.1 := by
          unfold txt; rw [List.length_drop, List.length_take, hte, hta]; omega
        have hnx : nextOf (st == 2) (txt L (tokAt L e st) ++ L.drop (tokAt L e st).e) = ((nextAt L e st).1, (txt L (tokAt L e st)).length, 0) := by
          rw [← hdrop, hta, hxl, ← h2]; rfl
        have hws := at_stop L e
        rw [← hta, hdrop] at hws
        have hst : stAt L e st = lineWith st (nextAt L e st).1 (txt L (tokAt L e st)) := rfl
        have hJ := join_head (L := L) (e := (tokAt L e st).e) (st := stAt L e st) hle
        have hF := join_filter (L := L) _ (tokAt L e st).e (stAt L e st) (Nat.le_refl _) hle h0
        have hT := fun s h => toks_ten (L := L) (e := (tokAt L e st).e) (st := stAt L e st) (s := s) h h0
        have hN := fun (h : L.drop (tokAt L e st).e = []) => toks_end (l := L) (e := (tokAt L e st).e) (st := stAt L e st) hle (by
          have := congrArg List.length h
          rw [List.length_drop] at this
          simp only [List.length_nil] at this
          have := atOf_ge L (tokAt L e st).e
          omega)
        rw [joinL] at hX
        obtain ⟨lead2, hl2, hjl⟩ := joinR_L L (toks L (tokAt L e st).e (stAt L e st)).1
        obtain ⟨x, hx⟩ : ∃ x, txt L (tokAt L e st) = x := ⟨_, rfl⟩
        obtain ⟨k, hk⟩ : ∃ k, (nextAt L e st).1 = k := ⟨_, rfl⟩
        obtain ⟨R, hR⟩ : ∃ R, joinR L (toks L (tokAt L e st).e (stAt L e st)).1 = R := ⟨_, rfl⟩
        rw [hR] at hX hJ hF hjl
        have hxne : x ≠ [] := fun e => by rw [hx, e] at hxl; simp only [List.length_nil] at hxl; omega
        have hStops : Stops R := fun c s h => (hJ c s h).1
        have hnext : nextOf (st == 2) (x ++ R) = (k, x.length, 0) := by
          rw [hx, hk] at hnx
          refine next_ext hStops hxne hnx (fun h8 hp c t hc => ?_) (fun hi h7 => ?_)
          · rw [h8] at hnx
            rcases line_end hnx hp with hs | ⟨s, hs⟩
            · have := hN hs
              rw [this] at hR
              rw [← hR] at hc; cases hc
            · exact (hJ c t hc).2 (hT s hs)
          · have h5 := not_header hnx h7 hi
            cases x with
            | nil => exact absurd rfl hxne
            | cons c y =>
              rw [List.cons_append] at h5 ⊢
              refine (header_filter ?_).1 h5
              rw [List.filter_append, List.filter_append, hF]
        rw [hx] at hX hws
        have hwR : runLen isWS (x ++ R) = 0 := by
          cases x with
          | nil => exact absurd rfl hxne
          | cons c y =>
            rw [List.cons_append, runLen] at hws ⊢
            by_cases hc : isWS c = true
            · rw [if_pos hc] at hws; omega
            · rw [if_neg hc]
        have hat : atOf X e' = e' + lead.length := by
          unfold atOf
          rw [hX]
          rcases hlead with rfl | rfl
          · rw [List.nil_append, hwR]; rfl
          · show e' + runLen isWS (32 :: (x ++ R)) = _
            rw [runLen, if_pos (by decide), hwR]; rfl
        have hXd : X.drop (atOf X e') = x ++ R := by
          rw [hat, ← List.drop_drop, hX, List.drop_left]
        have hXlen : X.length = atOf X e' + (x.length + R.length) := by
          have h6 := congrArg List.length hX
          rw [List.length_drop, List.length_append, List.length_append] at h6
          omega
        have hx1 : 1 ≤ x.length := by
          cases x with
          | nil => exact absurd rfl hxne
          | cons c y => simp
        have hnX : nextAt X e' st = (k, x.length, 0) := by
          unfold nextAt; rw [hXd]; exact hnext
        have htX : txt X (tokAt X e' st) = x := by
          have h7 : txt X (tokAt X e' st) = (X.drop (atOf X e')).take ((nextAt X e' st).2.1) := by
            unfold txt
            rw [List.drop_take]
            show (X.drop (atOf X e')).take (atOf X e' + (nextAt X e' st).2.1 - atOf X e') = _
            rw [Nat.add_sub_cancel_left]
          rw [h7, hXd, hnX, List.take_left]
        have hsX : stAt X e' st = stAt L e st := by
          rw [hst, hx, hk]
          show lineWith st (nextAt X e' st).1 (txt X (tokAt X e' st)) = _
          rw [htX, hnX]
        have heX : (tokAt X e' st).e = atOf X e' + x.length := by
          show atOf X e' + (nextAt X e' st).2.1 = _
          rw [hnX]
        have hXR : X.drop (tokAt X e' st).e = joinL L lead2 (toks L (tokAt L e st).e (stAt L e st)).1 := by
          rw [heX, ← List.drop_drop, hXd, List.drop_left, hjl]
        have hih := ih (tokAt L e st).e (stAt L e st) (by rw [hte]; omega) hle h0 (tokAt X e' st).e lead2 (by rw [heX]; omega) hl2 hXR
        rw [toks_cons (l := X) (by omega) (by rw [hnX]), hsX]
        refine ⟨hih.1, ?_⟩
        have hkX : (tokAt X e' st).k = (tokAt L e st).k := by
          show (nextAt X e' st).1 = (nextAt L e st).1
          rw [hnX, hk]
        have := hih.2
        unfold kinds at this ⊢
        rw [List.map_cons, List.map_cons, this, hkX, htX, hx]
      · rw [toks_err (by omega) h2] at h0; exact absurd h0 h2

end Go.Proofs.Ytoepfehgimhmnaa
