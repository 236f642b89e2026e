/- The rows of a list of tokens: the document's answer. -/
import Derived.Test.YtpomcdolpmbhdaaRowsS
import Derived.Test.YtpomcdolpmbhdaaSaysR
namespace Go.Proofs.Ytpomcdolpmbhdaa
open Go.RowKit

set_option maxHeartbeats 2000000 in
theorem rhash_any (bs : List Tz) (m cap : Nat) (a : Option Addr) (w : World) (hm : bs.length = m) (ht : TzIn w a bs) :
    Calls Try.prog 29 #[.slice a m cap] w fun e w' => e = .returned (.bool (hashB bs)) ∧ ∃ q, w' = w.drewN q := by
  cases bs with
  | nil =>
    subst hm
    go_enter Try.func29, Try.ntmps29
    go_wp2
    go_ret
    exact ⟨rfl, 0, rfl⟩
  | cons t bs =>
    obtain ⟨g, o, rfl, _, hr⟩ := ht (by simp)
    obtain ⟨c0, c1, -⟩ := hr 0 t rfl
    rw [Nat.zero_mul, Nat.add_zero] at c0 c1
    have HH : Hid (hashB (t :: bs) = (t.k == 5 && (t.tx.toList == [35] || t.tx.toList == [37, 58]))) := Lib.hid rfl
    have b0 : (0 : Int) < (m : Int) := by rw [← hm, List.length_cons]; omega
    clear hr ht hm
    cases h5 : (t.k == 5)
    · have HN : Hid (hashB (t :: bs) = false) := Lib.hid (by rw [HH.out, h5]; rfl)
      clear HH
      go_enter Try.func29, Try.ntmps29
      go_wp2
      go_ret
      exact ⟨rb (by rw [HN.out]), 0, rfl⟩
    · cases h1 : (t.tx.toList == [35])
      · cases h2 : (t.tx.toList == [37, 58])
        · have HN : Hid (hashB (t :: bs) = false) := Lib.hid (by rw [HH.out, h5, h1, h2]; rfl)
          clear HH
          go_enter Try.func29, Try.ntmps29
          go_wp2
          go_ret
          exact ⟨rb (by rw [HN.out]), 0, rfl⟩
        · have HN : Hid (hashB (t :: bs) = true) := Lib.hid (by rw [HH.out, h5, h1, h2]; rfl)
          clear HH
          go_enter Try.func29, Try.ntmps29
          go_wp2
          go_ret
          exact ⟨rb (by rw [HN.out]), 0, rfl⟩
      · have HN : Hid (hashB (t :: bs) = true) := Lib.hid (by rw [HH.out, h5, h1]; rfl)
        clear HH
        go_enter Try.func29, Try.ntmps29
        go_wp2
        go_ret
        exact ⟨rb (by rw [HN.out]), 0, rfl⟩

/-! ### Rows and a line side by side -/
/-- Rows that the call owns, and a line of tokens: all in blocks of their own. -/
structure SepRz (W : World) (B : Nat) (v : Value) (rs : List Rz) (vs : List Value) (lv : Value) (ll : List Tz) : Prop where
  own : OwnRz W B v rs vs
  line : TokOwn W B lv ll
  sep : ∀ (i j : Nat) (u u' : Value), i ≠ j → vs[i]? = some u → vs[j]? = some u' → Apart2 u u'
  lsep : ∀ (i : Nat) (u : Value), vs[i]? = some u → Apart2 lv u
theorem SepRz.start (W : World) (B : Nat) : SepRz W B (.slice none 0 0) [] [] (.slice none 0 0) [] := ⟨OwnRz.nil _ _, World.ownsRow_nil _ _ _ _, fun i j u u' _ h => by simp at h, fun i u h => by simp at h⟩
theorem OwnRz.tok {W : World} {B : Nat} {v : Value} {rs : List Rz} {vs : List Value} (h : OwnRz W B v rs vs) {i : Nat} {u : Value} (hu : vs[i]? = some u) : ∃ r, rs[i]? = some r ∧ TokOwn W B u r.ts := by
  obtain ⟨r, hr⟩ : ∃ r, rs[i]? = some r := ⟨_, List.getElem?_eq_getElem (by rw [h.len]; exact (List.getElem?_eq_some_iff.1 hu).1)⟩
  exact ⟨r, hr, h.ts i r u hr hu⟩
theorem SepRz.below {W W' : World} {B : Nat} {v : Value} {rs : List Rz} {vs : List Value} {lv : Value} {ll : List Tz} (h : SepRz W B v rs vs lv ll) (hb : Below W.heap.size W W') : SepRz W' B v rs vs lv ll :=
  ⟨h.own.below hb, row_below h.line hb, h.sep, h.lsep⟩
/-- The line has grown. -/
theorem SepRz.more {W W' : World} {B : Nat} {v : Value} {rs : List Rz} {vs : List Value} {lv lv' : Value} {ll ll' : List Tz} (h : SepRz W B v rs vs lv ll) (ho : TokOwn W' B lv' ll') (hg : W.grownBy W' lv.ownBlock) (hf : Fresh W lv lv') : SepRz W' B v rs vs lv' ll' := by
  refine ⟨⟨h.own.len, ownsRow_keepsT h.own.row (KeepsT.grown_row hg h.line (by decide)), fun i r u h1 h2 => (h.lsep i u h2).kept (h.own.ts i r u h1 h2) hg⟩, ho, h.sep, fun i u hu => ?_⟩
  obtain ⟨r, _, ht⟩ := h.own.tok hu
  exact (h.lsep i u hu).fresh hf (fun g e => (ht.lt g e).2)
theorem SepRz.drop {W : World} {B : Nat} {v : Value} {rs : List Rz} {vs : List Value} {lv : Value} {ll : List Tz} (h : SepRz W B v rs vs lv ll) : SepRz W B v rs vs (.slice none 0 0) [] :=
  ⟨h.own, World.ownsRow_nil _ _ _ _, h.sep, fun _ _ _ => Apart2.nil _⟩
/-- The line has become a row. -/
theorem SepRz.push {W W' : World} {B : Nat} {v v' : Value} {rs : List Rz} {vs : List Value} {lv : Value} {ll : List Tz} (d : Bool) (nm : ByteArray) (h : SepRz W B v rs vs lv ll)
    (ho : W'.ownsRow B 28 3 v' (rs.length + 1) (rzVals rs vs ++ [.bool d, .string nm, lv])) (hg : W.grownBy W' v.ownBlock) : SepRz W' B v' (rs ++ [⟨d, nm, ll⟩]) (vs ++ [lv]) (.slice none 0 0) [] := by
  have hK : KeepsT 31 W W' := KeepsT.grown_row hg h.own.row (by decide)
  have hl := h.own.len
  refine ⟨⟨by simp [hl], ?_, fun i r u h1 h2 => ?_⟩, World.ownsRow_nil _ _ _ _, fun i j u u' hij h1 h2 => ?_, fun _ _ _ => Apart2.nil _⟩
  · rw [List.length_append, rzVals_snoc _ _ _ _ hl]; exact ho
  · by_cases hi : i < rs.length
    · rw [List.getElem?_append_left hi] at h1
      rw [List.getElem?_append_left (by omega)] at h2
      exact ownsRow_keepsT (h.own.ts i r u h1 h2) hK
    · have hlt := (List.getElem?_eq_some_iff.1 h1).1
      rw [List.length_append] at hlt
      simp only [List.length_cons, List.length_nil] at hlt
      obtain rfl : i = rs.length := by omega
      rw [List.getElem?_append_right (Nat.le_refl _), Nat.sub_self] at h1
      rw [hl, List.getElem?_append_right (Nat.le_refl _), Nat.sub_self] at h2
      simp only [List.getElem?_cons_zero, Option.some.injEq] at h1 h2
      subst h1 h2
      exact ownsRow_keepsT h.line hK
  · have hlt1 := (List.getElem?_eq_some_iff.1 h1).1
    have hlt2 := (List.getElem?_eq_some_iff.1 h2).1
    rw [List.length_append] at hlt1 hlt2
    simp only [List.length_cons, List.length_nil] at hlt1 hlt2
    by_cases hi : i < vs.length
    · rw [List.getElem?_append_left hi] at h1
      by_cases hj : j < vs.length
      · rw [List.getElem?_append_left hj] at h2
        exact h.sep i j u u' hij h1 h2
      · obtain rfl : j = vs.length := by omega
        rw [List.getElem?_append_right (Nat.le_refl _), Nat.sub_self] at h2
        simp only [List.getElem?_cons_zero, Option.some.injEq] at h2
        subst h2
        exact (h.lsep i u h1).symm
    · obtain rfl : i = vs.length := by omega
      rw [List.getElem?_append_right (Nat.le_refl _), Nat.sub_self] at h1
      simp only [List.getElem?_cons_zero, Option.some.injEq] at h1
      subst h1
      rw [List.getElem?_append_left (by omega)] at h2
      exact h.lsep j u' h2
theorem rzVals_set : ∀ (rs : List Rz) (vs : List Value) (q : Rz) (u u' : Value), rs.length = vs.length → (rzVals (rs ++ [q]) (vs ++ [u])).set (rs.length * 3 + 2) u' = rzVals (rs ++ [q]) (vs ++ [u']) := by
  intro rs vs q u u' hl
  rw [rzVals_snoc _ _ _ _ hl, rzVals_snoc _ _ _ _ hl]
  have hlen : ∀ (rs : List Rz) (vs : List Value), rs.length = vs.length → (rzVals rs vs).length = rs.length * 3 := by
    intro rs
    induction rs with
    | nil => intro vs _; rfl
    | cons r rs ih =>
      intro vs h
      cases vs with
      | nil => simp at h
      | cons v vs =>
        simp only [List.length_cons, Nat.add_right_cancel_iff] at h
        rw [rzVals, List.length_append, ih vs h]; simp; omega
  rw [List.set_append_right _ _ (by rw [hlen _ _ hl]; omega), hlen _ _ hl, show rs.length * 3 + 2 - rs.length * 3 = 2 by omega]
  rfl
theorem rzVals_name (rs : List Rz) (vs : List Value) (q : Rz) (u : Value) (ts : List Tz) (hl : rs.length = vs.length) : rzVals (rs ++ [q]) (vs ++ [u]) = rzVals (rs ++ [⟨q.d, q.nm, ts⟩]) (vs ++ [u]) := by
  rw [rzVals_snoc _ _ _ _ hl, rzVals_snoc _ _ _ _ hl]
/-- The last row has grown by the line. -/
theorem SepRz.last {W W' : World} {B g cap : Nat} {rs : List Rz} {vs : List Value} {q : Rz} {u u' lv : Value} {ll : List Tz} (h : SepRz W B (.slice (some ⟨g, 0, none⟩) (rs.length + 1) cap) (rs ++ [q]) (vs ++ [u]) lv ll) (hl : rs.length = vs.length)
    (ho : TokOwn W' B u' (q.ts ++ ll)) (hg : W.grownBy W' u.ownBlock) (hf : Fresh W u u') : SepRz (W'.setCell ⟨g, rs.length * 3 + 2, none⟩ u') B (.slice (some ⟨g, 0, none⟩) (rs.length + 1) cap) (rs ++ [⟨q.d, q.nm, q.ts ++ ll⟩]) (vs ++ [u']) (.slice none 0 0) [] ∧
      W'.ownsRow B 28 3 (.slice (some ⟨g, 0, none⟩) (rs.length + 1) cap) (rs.length + 1) (rzVals (rs ++ [q]) (vs ++ [u])) := by
  have hu : (vs ++ [u])[vs.length]? = some u := by rw [List.getElem?_append_right (Nat.le_refl _), Nat.sub_self]; rfl
  have huT : TokOwn W B u q.ts := h.own.ts rs.length q u (by rw [List.getElem?_append_right (Nat.le_refl _), Nat.sub_self]; rfl) (by rw [hl]; exact hu)
  have hrow := h.own.row
  rw [List.length_append, show rs.length + [q].length = rs.length + 1 from rfl] at hrow
  have hrow' := ownsRow_keepsT hrow (KeepsT.grown_row hg huT (by decide))
  refine ⟨?_, hrow'⟩
  obtain ⟨hst, hgs⟩ := hrow'.stored (rs.length * 3 + 2) u'
  have hblk : ∃ c fz, W'.heap[g]? = some (.cells c 28 fz) := by
    rcases hrow'.2 with ⟨h', _⟩ | ⟨g', cap', cur, h', _, hh, _⟩
    · cases h'
    · cases h'; exact ⟨cur, _, hh⟩
  obtain ⟨c, fz, hblk⟩ := hblk
  have hK : KeepsT 31 W' (W'.setCell ⟨g, rs.length * 3 + 2, none⟩ u') := keepsT_other hblk (by decide) u'
  rw [rzVals_set rs vs q u u' hl, rzVals_name rs vs q u' (q.ts ++ ll) hl] at hst
  have hold : ∀ i v, i < vs.length → vs[i]? = some v → Apart2 u v := fun i v hi hv => h.sep vs.length i u v (by omega) hu (by rw [List.getElem?_append_left hi]; exact hv)
  have hlen2 : (vs ++ [u']).length = vs.length + 1 := by simp
  have hcase : ∀ i v, (vs ++ [u'])[i]? = some v → (i < vs.length ∧ vs[i]? = some v) ∨ (i = vs.length ∧ v = u') := fun i v hv => by
    have hlt := (List.getElem?_eq_some_iff.1 hv).1
    by_cases hi : i < vs.length
    · rw [List.getElem?_append_left hi] at hv; exact .inl ⟨hi, hv⟩
    · have e : i = vs.length := by omega
      subst e
      rw [List.getElem?_append_right (Nat.le_refl _), Nat.sub_self] at hv
      simp only [List.getElem?_cons_zero, Option.some.injEq] at hv
      exact .inr ⟨rfl, hv.symm⟩
  refine ⟨⟨by simp [hl], ?_, fun i r v h1 h2 => ?_⟩, World.ownsRow_nil _ _ _ _, fun i j v v' hij h1 h2 => ?_, fun _ _ _ => Apart2.nil _⟩
  · rw [List.length_append]; exact hst
  · rcases hcase i v h2 with ⟨hi, hv⟩ | ⟨rfl, rfl⟩
    · rw [List.getElem?_append_left (by omega)] at h1
      have h3 := h.own.ts i r v (by rw [List.getElem?_append_left (by omega)]; exact h1) (by rw [List.getElem?_append_left hi]; exact hv)
      exact ownsRow_keepsT ((hold i v hi hv).kept h3 hg) hK
    · rw [← hl, List.getElem?_append_right (Nat.le_refl _), Nat.sub_self] at h1
      simp only [List.getElem?_cons_zero, Option.some.injEq] at h1
      subst h1
      exact ownsRow_keepsT ho hK
  · have hfr : ∀ i v, i < vs.length → vs[i]? = some v → Apart2 u' v := fun i v hi hv => by
      obtain ⟨r, _, ht⟩ := h.own.tok (i := i) (u := v) (by rw [List.getElem?_append_left hi]; exact hv)
      exact (hold i v hi hv).fresh hf (fun g e => (ht.lt g e).2)
    rcases hcase i v h1 with ⟨hi, hv⟩ | ⟨rfl, rfl⟩
    · rcases hcase j v' h2 with ⟨hj, hv'⟩ | ⟨rfl, rfl⟩
      · exact h.sep i j v v' hij (by rw [List.getElem?_append_left hi]; exact hv) (by rw [List.getElem?_append_left hj]; exact hv')
      · exact (hfr i v hi hv).symm
    · rcases hcase j v' h2 with ⟨hj, hv'⟩ | ⟨rfl, rfl⟩
      · exact hfr j v' hj hv'
      · exact absurd rfl hij

end Go.Proofs.Ytpomcdolpmbhdaa
