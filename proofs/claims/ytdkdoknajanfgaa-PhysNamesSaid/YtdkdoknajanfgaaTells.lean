/- The law PhysTells. -/
import Derived.Test.YtdkdoknajanfgaaSame
import Derived.Test.YtdkdoknajanfgaaAlive
namespace Go.Proofs.Ytdkdoknajanfgaa
open Go.RowKit

theorem bch {a b c : World} (h : Below a.heap.size a b) (h2 : Below b.heap.size b c) : Below a.heap.size a c := h.trans (h2.mono h.size)

/-- Only this row was written to. -/
structure Wrote (a : Option Addr) (T : TypeId) (n : Nat) (W W' : World) : Prop where
  size : W'.heap.size = W.heap.size
  other : ∀ b, (∀ g, a = some ⟨g, 0, none⟩ → b ≠ g) → W'.heap[b]? = W.heap[b]?
  own : ∀ g, a = some ⟨g, 0, none⟩ → ∃ cur, W'.heap[g]? = some (.cells cur T (0, 0)) ∧ cur.size = n
  below : ∀ B, (∀ g, a = some ⟨g, 0, none⟩ → B ≤ g) → Below B W W'

theorem Wrote.set {g j n : Nat} {T : TypeId} {W W' : World} (h : Wrote (some ⟨g, 0, none⟩) T n W W') (u : Value) : Wrote (some ⟨g, 0, none⟩) T n W (W'.setCell ⟨g, j, none⟩ u) where
  size := by rw [← h.size]; simp [World.setCell]
  other := fun b hb => by rw [Below.heap_setCell _ _ _ _ (hb g rfl)]; exact h.other b hb
  own := fun g' e => by
    obtain rfl : g = g' := by simpa using e
    obtain ⟨cur, h1, h2⟩ := h.own g rfl
    refine ⟨cur.setIfInBounds j u, ?_, by simpa using h2⟩
    simp [World.setCell, Array.getElem?_modify, h1]
  below := fun B hB => (h.below B hB).setCell (hB g rfl) u

theorem Wrote.cell {g j n : Nat} {T : TypeId} {W W' : World} (h : Wrote (some ⟨g, 0, none⟩) T n W W') (hj : j < n) : ∃ u, W'.cell? ⟨g, j, none⟩ = some u := by
  obtain ⟨cur, h1, h2⟩ := h.own g rfl
  rw [Lib.cell_of_heap h1]
  exact ⟨_, Array.getElem?_eq_getElem (by omega)⟩
theorem Wrote.frozen {g n : Nat} (j : Nat) {T : TypeId} {W W' : World} (h : Wrote (some ⟨g, 0, none⟩) T n W W') : W'.frozen? ⟨g, j, none⟩ = false := by
  obtain ⟨cur, h1, h2⟩ := h.own g rfl
  simp [World.frozen?, h1]

theorem Wrote.chars {W : World} {base cap : Nat} {a : Option Addr} {l : List Part} (h : CharRow W base a cap l) : Wrote a 42 (cap * 3) W W where
  size := rfl
  other := fun _ _ => rfl
  own := fun g e => by
    rcases h with ⟨h, _⟩ | ⟨g', cur, h1, _, h3, _, _, h6, _⟩
    · rw [h] at e; cases e
    · rw [h1] at e
      obtain rfl : g' = g := by simpa using e
      exact ⟨cur, h3, h6⟩
  below := fun _ _ => Below.refl _ _
theorem Wrote.spans {W : World} {base cap : Nat} {a : Option Addr} {l : List Part} (h : SpanRow W base a cap l) : Wrote a 44 (cap * 2) W W where
  size := rfl
  other := fun _ _ => rfl
  own := fun g e => by
    rcases h with ⟨h, _⟩ | ⟨g', cur, h1, _, h3, _, _, h6, _⟩
    · rw [h] at e; cases e
    · rw [h1] at e
      obtain rfl : g' = g := by simpa using e
      exact ⟨cur, h3, h6⟩
  below := fun _ _ => Below.refl _ _

/-- Where a row lies. -/
theorem CharRow.at' {W : World} {base cap : Nat} {a : Option Addr} {l : List Part} (h : CharRow W base a cap l) : ∀ g, a = some ⟨g, 0, none⟩ → base ≤ g ∧ g < W.heap.size := by
  intro g e
  rcases h with ⟨h, _⟩ | ⟨g', cur, h1, h2, h3, _⟩
  · rw [h] at e; cases e
  · rw [h1] at e
    obtain rfl : g' = g := by simpa using e
    exact ⟨h2, (Array.getElem?_eq_some_iff.1 h3).1⟩
theorem SpanRow.at' {W : World} {base cap : Nat} {a : Option Addr} {l : List Part} (h : SpanRow W base a cap l) : ∀ g, a = some ⟨g, 0, none⟩ → base ≤ g ∧ g < W.heap.size := by
  intro g e
  rcases h with ⟨h, _⟩ | ⟨g', cur, h1, h2, h3, _⟩
  · rw [h] at e; cases e
  · rw [h1] at e
    obtain rfl : g' = g := by simpa using e
    exact ⟨h2, (Array.getElem?_eq_some_iff.1 h3).1⟩
theorem CharRow.some' {W : World} {base cap : Nat} {a : Option Addr} {l : List Part} (h : CharRow W base a cap l) (hl : 0 < l.length) : ∃ g, a = some ⟨g, 0, none⟩ ∧ l.length ≤ cap ∧ cap ≤ maxLen := by
  rcases h with ⟨_, h, _⟩ | ⟨g, cur, h1, _, _, h4, h5, _⟩
  · rw [h] at hl; exact absurd hl (by simp)
  · exact ⟨g, h1, h4, h5⟩
theorem SpanRow.some' {W : World} {base cap : Nat} {a : Option Addr} {l : List Part} (h : SpanRow W base a cap l) (hl : 0 < l.length) : ∃ g, a = some ⟨g, 0, none⟩ ∧ l.length ≤ cap ∧ cap ≤ maxLen := by
  rcases h with ⟨_, h, _⟩ | ⟨g, cur, h1, _, _, h4, h5, _⟩
  · rw [h] at hl; exact absurd hl (by simp)
  · exact ⟨g, h1, h4, h5⟩

/-- A row that was not written to. -/
theorem Wrote.keepC {W W' : World} {a b : Option Addr} {T : TypeId} {n base cap : Nat} {l : List Part} (h : Wrote a T n W W') (hr : CharRow W base b cap l) (hne : ∀ g, b = some ⟨g, 0, none⟩ → ∀ g', a = some ⟨g', 0, none⟩ → g ≠ g') : CharRow W' base b cap l := by
  rcases hr with hr | ⟨g, cur, h1, h2, h3, h4⟩
  · exact .inl hr
  · exact .inr ⟨g, cur, h1, h2, (h.other g (hne g h1)).trans h3, h4⟩
theorem Wrote.keepS {W W' : World} {a b : Option Addr} {T : TypeId} {n base cap : Nat} {l : List Part} (h : Wrote a T n W W') (hr : SpanRow W base b cap l) (hne : ∀ g, b = some ⟨g, 0, none⟩ → ∀ g', a = some ⟨g', 0, none⟩ → g ≠ g') : SpanRow W' base b cap l := by
  rcases hr with hr | ⟨g, cur, h1, h2, h3, h4⟩
  · exact .inl hr
  · exact .inr ⟨g, cur, h1, h2, (h.other g (hne g h1)).trans h3, h4⟩

theorem counts (l : List UInt8) : (charsOf l).length ≤ 65536 ∧ (splicesOf l).length ≤ 65536 ∧ logicalOf l = bts (charsOf l) := by
  rcases check_cases l with ⟨h, _⟩ | h | h
  · rw [charsOf_ok h, splicesOf_ok h, logicalOf_ok h, bts_chB]
    obtain ⟨h1, _⟩ := checkN_zero h
    have h2 := chs_length (parts l)
    have h3 : (sps (parts l)).length ≤ (parts l).length := List.length_filter_le _ _
    have h4 := partsFrom_length (l := l) _ 0 rfl
    unfold parts at *
    exact ⟨by omega, by omega, rfl⟩
  all_goals
    have h0 : ¬ checkN l = 0 := by rw [h]; decide
    rw [charsOf_bad h0, splicesOf_bad h0, logicalOf_bad h0]
    exact ⟨by simp, by simp, rfl⟩

set_option maxRecDepth 100000 in
set_option maxHeartbeats 4000000 in
theorem tells_any (s : ByteArray) (hs : s.size ≤ maxLen) (w : World) :
    Calls Try.prog 3 #[.string s] w fun e w' => e = .returned (.bool true) ∧ Below w.heap.size w w' := by
  obtain ⟨hnc, hns, hlg⟩ := counts s.data.toList
  have H1 : ∀ w, _ := fun w => chars_row s w hs
  have H3 : ∀ w, _ := fun w => logical_any s w hs
  have H5 : ∀ w, _ := fun w => splices_row s w hs
  have H6 : ∀ w, _ := fun w => rsplices_any s w hs
  have H7 : ∀ w, _ := fun w => check_any s w hs
  obtain ⟨N, hN⟩ : ∃ N, checkN s.data.toList = N := ⟨_, rfl⟩
  obtain ⟨cs, hcs⟩ : ∃ cs, charsOf s.data.toList = cs := ⟨_, rfl⟩
  obtain ⟨ss, hss⟩ : ∃ ss, splicesOf s.data.toList = ss := ⟨_, rfl⟩
  rw [hcs] at hnc hlg
  rw [hss] at hns
  have H1 := Lib.hid (by simpa only [hN, hcs] using H1)
  have H2 := Lib.hid (rchars_at hN hcs hs)
  have H3 := Lib.hid (by simpa only [hN, hlg] using H3)
  have H4 := Lib.hid (rlogical_at hN hcs hs hnc)
  have H5 := Lib.hid (by simpa only [hN, hss] using H5)
  have H6 := Lib.hid (by simpa only [hN, hss] using H6)
  have H7 := Lib.hid (by simpa only [hN] using H7)
  have H8 := Lib.hid (rcheck_at hN hs)
  clear hN hcs hss hlg hs
  go_enter Try.func3, Try.ntmps3
  go_wp2_with fail
  refine (H1.out _).mono ?_
  rintro e w1 ⟨⟨a1, c1, rfl, r1⟩, b1⟩
  go_wp2_with fail
  refine (H2.out _).mono ?_
  rintro e w2 ⟨⟨a2, c2, rfl, r2⟩, b2⟩
  go_wp2_with fail
  refine (H3.out _).mono ?_
  rintro e w3 ⟨rfl, b3⟩
  go_wp2_with fail
  refine (H4.out _).mono ?_
  rintro e w4 ⟨rfl, b4⟩
  go_wp2_with fail
  refine (H5.out _).mono ?_
  rintro e w5 ⟨⟨a5, c5, rfl, r5⟩, b5⟩
  go_wp2_with fail
  refine (H6.out _).mono ?_
  rintro e w6 ⟨⟨a6, c6, rfl, r6⟩, b6⟩
  go_wp2_with fail
  refine (H7.out _).mono ?_
  rintro e w7 ⟨rfl, b7⟩
  have r1' := r1.below (bch (bch (bch (bch (bch b2 b3) b4) b5) b6) b7) (Nat.le_refl _)
  have r2' := r2.below (bch (bch (bch (bch b3 b4) b5) b6) b7) (Nat.le_refl _)
  have r5' := r5.below (bch b6 b7) (Nat.le_refl _)
  have r6' := r6.below b7 (Nat.le_refl _)
  go_wp2_with fail
  refine (same_chars hnc r1' r2').mono ?_
  rintro e w8 ⟨rfl, b8⟩
  have r5'' := r5'.below b8 (Nat.le_refl _)
  have r6'' := r6'.below b8 (Nat.le_refl _)
  go_wp2_with fail
  refine (same_spans hns r5'' r6'').mono ?_
  rintro e w9 ⟨rfl, b9⟩
  go_wp2_with fail
  refine (H8.out _).mono ?_
  rintro e wA ⟨rfl, bA⟩
  have b8A := bch (bch b8 b9) bA
  have R1 := r1'.below b8A (Nat.le_refl _)
  have R2 := r2'.below b8A (Nat.le_refl _)
  have R5 := r5'.below b8A (Nat.le_refl _)
  have R6 := r6'.below b8A (Nat.le_refl _)
  have B1 := bch (bch (bch (bch (bch (bch (bch b1 b2) b3) b4) b5) b6) b7) b8A
  have o12 : ∀ g, a2 = some ⟨g, 0, none⟩ → ∀ g', a1 = some ⟨g', 0, none⟩ → g ≠ g' := fun g e g' e' => by
    have := (r2.at' g e).1; have := (r1.at' g' e').2; omega
  have s2 := b2.size
  have s3 := b3.size
  have s4 := b4.size
  have s5 := b5.size
  have o15 : ∀ g, a5 = some ⟨g, 0, none⟩ → ∀ g', a1 = some ⟨g', 0, none⟩ → g ≠ g' := fun g e g' e' => by
    have := (r5.at' g e).1; have := (r1.at' g' e').2; omega
  have o16 : ∀ g, a6 = some ⟨g, 0, none⟩ → ∀ g', a1 = some ⟨g', 0, none⟩ → g ≠ g' := fun g e g' e' => by
    have := (r6.at' g e).1; have := (r1.at' g' e').2; omega
  have o52 : ∀ g, a2 = some ⟨g, 0, none⟩ → ∀ g', a5 = some ⟨g', 0, none⟩ → g ≠ g' := fun g e g' e' => by
    have := (r2.at' g e).2; have := (r5.at' g' e').1; omega
  have o56 : ∀ g, a6 = some ⟨g, 0, none⟩ → ∀ g', a5 = some ⟨g', 0, none⟩ → g ≠ g' := fun g e g' e' => by
    have := (r6.at' g e).1; have := (r5.at' g' e').2; omega
  have l1 : ∀ g, a1 = some ⟨g, 0, none⟩ → w.heap.size ≤ g := fun g e => (r1.at' g e).1
  have s1 := b1.size
  have l5 : ∀ g, a5 = some ⟨g, 0, none⟩ → w.heap.size ≤ g := fun g e => by have := (r5.at' g e).1; omega
  clear r1 r2 r5 r6 r1' r2' r5' r6' r5'' r6'' b1 b2 b3 b4 b5 b6 b7 b8 b9 bA b8A s1 s2 s3 s4 s5
  go_wp2
  go_loopw [16] (fun i wr => ∃ k : Nat, k ≤ cs.length ∧ i = .int .i64 k ∧ Wrote a1 42 (c1 * 3) wA wr) (fun i _ => cs.length - (intOf i).toNat)
  case atStart => exact ⟨0, Nat.zero_le _, rfl, Wrote.chars R1⟩
  case round =>
    obtain ⟨k, hk, rfl, hW⟩ := hrel
    by_cases hlt : k < cs.length
    · obtain ⟨g1, rfl, hc1, hm1⟩ := R1.some' (by omega)
      obtain ⟨u0, d0⟩ := hW.cell (j := k * 3) (by omega)
      obtain ⟨u1, d1⟩ := hW.cell (j := k * 3 + 1) (by omega)
      obtain ⟨u2, d2⟩ := hW.cell (j := k * 3 + 2) (by omega)
      have f0 := hW.frozen (k * 3)
      have f1 := hW.frozen (k * 3 + 1)
      have f2 := hW.frozen (k * 3 + 2)
      have i1 : (k : Int) < (cs.length : Nat) := by omega
      go_wp2
      go_roundw
      case rel => exact ⟨k + 1, by omega, by go_num, ((hW.set _).set _).set _⟩
      case measure => simp [intOf]; omega
    · have Q2 := hW.keepC R2 o12
      have Q5 := hW.keepS R5 o15
      have Q6 := hW.keepS R6 o16
      have B2 := B1.trans (hW.below _ l1)
      clear R1 R2 R5 R6 B1 hW o12 o15 o16 l1
      obtain ⟨wB, hwB⟩ : ∃ wB, wr = wB := ⟨_, rfl⟩
      subst hwB
      go_wp2
      go_loopw [17] (fun i wr2 => ∃ k : Nat, k ≤ ss.length ∧ i = .int .i64 k ∧ Wrote a5 44 (c5 * 2) wr wr2) (fun i _ => ss.length - (intOf i).toNat)
      case atStart => exact ⟨0, Nat.zero_le _, rfl, Wrote.spans Q5⟩
      case round =>
        obtain ⟨j, hj, rfl, hW⟩ := hrel
        by_cases hlt2 : j < ss.length
        · obtain ⟨g1, rfl, hc1, hm1⟩ := Q5.some' (by omega)
          obtain ⟨u0, d0⟩ := hW.cell (j := j * 2) (by omega)
          obtain ⟨u1, d1⟩ := hW.cell (j := j * 2 + 1) (by omega)
          have f0 := hW.frozen (j * 2)
          have f1 := hW.frozen (j * 2 + 1)
          have i1 : (j : Int) < (ss.length : Nat) := by omega
          go_wp2
          go_roundw
          case rel => exact ⟨j + 1, by omega, by go_num, (hW.set _).set _⟩
          case measure => simp [intOf]; omega
        · have P2 := hW.keepC Q2 o52
          have P6 := hW.keepS Q6 o56
          have B3 := B2.trans (hW.below _ l5)
          clear Q2 Q5 Q6 B2 hW o52 o56 l5
          go_wp2_with fail
          refine (H1.out _).mono ?_
          rintro e wC ⟨⟨a7, c7, rfl, r7⟩, b7⟩
          go_wp2_with fail
          refine (H5.out _).mono ?_
          rintro e wD ⟨⟨a8, c8, rfl, r8⟩, b8⟩
          have p2 := P2.below (bch b7 b8) (Nat.le_refl _)
          have p6 := P6.below (bch b7 b8) (Nat.le_refl _)
          have p7 := r7.below b8 (Nat.le_refl _)
          go_wp2_with fail
          refine (same_chars hnc p7 p2).mono ?_
          rintro e wE ⟨rfl, b9⟩
          have p6' := p6.below b9 (Nat.le_refl _)
          have p8' := r8.below b9 (Nat.le_refl _)
          go_wp2_with fail
          refine (same_spans hns p8' p6').mono ?_
          rintro e wF ⟨rfl, bF⟩
          go_wp2
          go_ret
          exact ⟨rfl, bch B3 (bch (bch (bch b7 b8) b9) bF)⟩

end Go.Proofs.Ytdkdoknajanfgaa
