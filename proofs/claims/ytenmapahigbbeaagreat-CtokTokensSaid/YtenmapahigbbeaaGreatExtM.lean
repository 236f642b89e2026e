/- Every measure of a token's text with what follows stays within the text; so the token is the same. -/
import Derived.Test.YtenmapahigbbeaaGreatExtQ
namespace Go.Proofs.YtenmapahigbbeaaGreat

/-- A token that is a prefix, a quote and more: the literal ends in it. -/
theorem quote_closed {x p y : List UInt8} {q : UInt8} {k : Nat} (h : longestOf x = (k, x.length)) (hx : x = p ++ q :: y) (hp : p.all noQ = true) (hq : q = 39 ∨ q = 34) : ∃ n, bodyLen q y = some n := by
  have hqn : noQ q = false := by rcases hq with rfl | rfl <;> rfl
  have hmem : q ∈ x := by rw [hx]; simp
  have hlen : x.length = p.length + (y.length + 1) := by rw [hx]; simp
  have hxne : x ≠ [] := by rw [hx]; simp
  unfold longestOf at h
  simp only at h
  split at h
  · rename_i h1
    exfalso
    simp only [Prod.mk.injEq] at h
    have hp0 : p = [] := List.length_eq_zero_iff.1 (by omega)
    subst hp0
    rw [hx] at h1
    have : isQuote q = true := by rcases hq with rfl | rfl <;> rfl
    simp [this] at h1
  · have h2 : (([1, 2, 3, 4, 5, 9] : List Nat).foldl (better x) (0, 0)).2 = x.length := congrArg Prod.snd h
    rcases fold_mem x [1, 2, 3, 4, 5, 9] (0, 0) with h3 | ⟨m, hm, h3⟩
    · rw [h2] at h3; simp only at h3; omega
    · rw [h2] at h3
      simp only [List.mem_cons, List.not_mem_nil, or_false] at hm
      rcases hm with rfl | rfl | rfl | rfl | rfl | rfl
      · exfalso
        have h4 : wordLen x = x.length := h3
        cases x with
        | nil => exact hxne rfl
        | cons c r =>
          rw [wordLen] at h4
          by_cases hc : isLet c = true
          · rw [if_pos hc, List.length_cons] at h4
            have hr := runLen_all (p := isAln) (l := r) (by omega)
            rcases List.mem_cons.1 hmem with rfl | hm
            · rcases hq with rfl | rfl <;> exact absurd hc (by decide)
            · have := hr q hm
              rcases hq with rfl | rfl <;> exact absurd this (by decide)
          · rw [if_neg hc, List.length_cons] at h4; omega
      · exfalso
        have h4 : numLen x = x.length := h3
        have := numLen_all h4 hxne q hmem
        rcases hq with rfl | rfl <;> exact absurd this (by decide)
      · have h4 : quotedLen 39 1 x chPre = x.length := h3
        obtain ⟨p', hp', y', n, e1, e2, _⟩ := quoted_some (q := 39) (f := 1) (l := x) (ps := chPre) (by omega)
        obtain ⟨_, e3, e4⟩ := first_quote hp (pre_noQ.1 p' hp') hqn (by decide) (hx.symm.trans e1)
        rw [e3, e4]; exact ⟨n, e2⟩
      · have h4 : quotedLen 34 0 x stPre = x.length := h3
        obtain ⟨p', hp', y', n, e1, e2, _⟩ := quoted_some (q := 34) (f := 0) (l := x) (ps := stPre) (by omega)
        obtain ⟨_, e3, e4⟩ := first_quote hp (pre_noQ.2.1 p' hp') hqn (by decide) (hx.symm.trans e1)
        rw [e3, e4]; exact ⟨n, e2⟩
      · exfalso
        have h4 : punctLen x = x.length := h3
        have h5 : ∀ n, punctDown x n = 0 ∨ isPunctB (x.take (punctDown x n)) = true := by
          intro n
          induction n with
          | zero => exact .inl rfl
          | succ n ih =>
            rw [punctDown]
            by_cases hp : isPunctB (x.take (n + 1)) = true
            · rw [if_pos hp]; exact .inr hp
            · rw [if_neg hp]; exact ih
        rcases h5 (min x.length 4) with h6 | h6
        · have : punctLen x = 0 := h6
          omega
        · have e : punctDown x (min x.length 4) = x.length := h4
          rw [e, List.take_length] at h6
          unfold isPunctB at h6
          have := List.all_eq_true.1 (puncts_noQ _ (List.contains_iff_mem.1 h6)) q hmem
          rw [hqn] at this; cases this
      · exfalso
        have h4 : nlLen x = x.length := h3
        cases x with
        | nil => exact hxne rfl
        | cons c r =>
          rw [nlLen] at h4
          by_cases hc : (c == 10) = true
          · rw [if_pos hc, List.length_cons] at h4
            have hr : r = [] := List.length_eq_zero_iff.1 (by omega)
            subst hr
            obtain rfl : q = c := by simpa using hmem
            have := eq_of_beq hc
            rcases hq with rfl | rfl <;> exact absurd this (by decide)
          · rw [if_neg hc, List.length_cons] at h4; omega

theorem quoted_stop {x r : List UInt8} {q : UInt8} {k f : Nat} {ps : List (List UInt8)} (hr : Stops r) (h : longestOf x = (k, x.length)) (hq : q = 39 ∨ q = 34) (h1 : ∀ p ∈ ps, p.all noQ = true) (h2 : ∀ p ∈ ps, ∀ c ∈ p, c ≠ 32 ∧ c ≠ 10) :
    quotedLen q f (x ++ r) ps ≤ x.length := by
  by_cases h0 : quotedLen q f (x ++ r) ps = 0
  · omega
  · obtain ⟨p, hp, z, n, e1, e2, e3⟩ := quoted_some h0
    rw [e3]
    by_cases hlt : p.length < x.length
    · have hx : x = p ++ q :: (x.drop (p.length + 1)) := by
        have ht : p = x.take p.length := by
          have := congrArg (List.take p.length) e1
          rw [List.take_append_of_le_length (by omega), List.take_left] at this
          exact this.symm
        have hd := congrArg (List.drop p.length) e1
        rw [List.drop_append_of_le_length (by omega), List.drop_left, List.drop_eq_getElem_cons hlt, List.cons_append, List.cons.injEq] at hd
        conv => lhs; rw [← List.take_append_drop p.length x, ← ht, List.drop_eq_getElem_cons hlt, hd.1]
      generalize x.drop (p.length + 1) = y at hx
      obtain ⟨n', hn'⟩ := quote_closed h hx (h1 p hp) hq
      have hz : z = y ++ r := by
        rw [hx, List.append_assoc, List.append_cancel_left_eq, List.cons_append, List.cons.injEq] at e1
        exact e1.2.symm
      rw [hz, bodyLen_app q _ y (Nat.le_refl _) r n' hn'] at e2
      obtain rfl : n' = n := Option.some.inj e2
      have := bodyLen_lt q _ y (Nat.le_refl _) n' hn'
      have : x.length = p.length + (y.length + 1) := by rw [hx]; simp
      omega
    · exfalso
      have hd := congrArg (List.drop x.length) e1
      rw [List.drop_left, List.drop_append_of_le_length (by omega)] at hd
      cases hpd : p.drop x.length with
      | nil =>
        rw [hpd, List.nil_append] at hd
        rcases hr _ _ hd with h | h
        · rcases hq with rfl | rfl <;> exact absurd h (by decide)
        · rcases hq with rfl | rfl <;> exact absurd h (by decide)
      | cons c s =>
        rw [hpd, List.cons_append] at hd
        have hc : c ∈ p := List.mem_of_mem_drop (i := x.length) (by rw [hpd]; exact List.mem_cons_self)
        rcases hr _ _ hd with h | h
        · exact (h2 p hp c hc).1 h
        · exact (h2 p hp c hc).2 h

theorem measure_stop {x r : List UInt8} {k : Nat} (hr : Stops r) (hx : x ≠ []) (h : longestOf x = (k, x.length)) : ∀ m ∈ kinds6, measureOf m (x ++ r) ≤ x.length := by
  intro m hm
  simp only [kinds6, List.mem_cons, List.not_mem_nil, or_false] at hm
  rcases hm with rfl | rfl | rfl | rfl | rfl | rfl
  · show wordLen (x ++ r) ≤ _
    rw [wordLen_ext hr x hx]; exact wordLen_le x
  · show numLen (x ++ r) ≤ _
    rw [numLen_ext hr x hx]; exact numLen_le' x
  · exact quoted_stop (q := 39) (f := 1) hr h (.inl rfl) pre_noQ.1 pre_noQ.2.2.1
  · exact quoted_stop (q := 34) (f := 0) hr h (.inr rfl) pre_noQ.2.1 pre_noQ.2.2.2
  · exact punctLen_stop hr x
  · exact nlLen_stop x hx

/-- The longest token of a token's text and what follows is that token. -/
theorem longest_ext {x r : List UInt8} {k : Nat} (hr : Stops r) (hx : x ≠ []) (h : longestOf x = (k, x.length)) : longestOf (x ++ r) = (k, x.length) := by
  rw [← h]
  refine longest_congr (fun m hm => ?_) ?_
  · have := measure_take (measure_stop hr hx h m hm)
    rw [List.take_left] at this
    exact this.symm
  · cases x with
    | nil => exact absurd rfl hx
    | cons c s => rfl

end Go.Proofs.YtenmapahigbbeaaGreat
