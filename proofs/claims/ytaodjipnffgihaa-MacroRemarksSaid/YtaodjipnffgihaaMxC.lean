/- Several texts laid together. -/
import Derived.Test.YtaodjipnffgihaaRowsS
import Derived.Test.YtaodjipnffgihaaMxA
import Derived.Test.YtaodjipnffgihaaMyH
import Derived.Outline
import Derived.IntWalk
import Derived.Sort.CutIn
import Derived.Deep.RegionHeld
import Derived.Test.YtaodjipnffgihaaMyA
import Derived.Test.YtaodjipnffgihaaBare

namespace Go.Proofs.Ytaodjipnffgihaa
open Go.RowKit

/-! ### Rows and a line side by side -/
/-- Rows that the call owns, and a line of tokens: all in blocks of their own. -/
structure SepRz (W : World) (B : Nat) (v : Value) (rs : List Rz) (vs : List Value) (lv : Value) (ll : List Tz) : Prop where
  own : OwnRz W B v rs vs
  line : TokOwn W B lv ll
  sep : ∀ (i j : Nat) (u u' : Value), i ≠ j → vs[i]? = some u → vs[j]? = some u' → Apart2 u u'
  lsep : ∀ (i : Nat) (u : Value), vs[i]? = some u → Apart2 lv u
theorem SepRz.start (W : World) (B : Nat) : SepRz W B (.slice none 0 0) [] [] (.slice none 0 0) [] := ⟨OwnRz.nil _ _, World.ownsRow_nil _ _ _ _, fun i j u u' _ h => by simp at h, fun i u h => by simp at h⟩
theorem OwnRz.tok {W : World} {B : Nat} {v : Value} {rs : List Rz} {vs : List Value} (h : OwnRz W B v rs vs) {i : Nat} {u : Value} (hu : vs[i]? = some u) : ∃ r, rs[i]? = some r ∧ TokOwn W B u r.ts := by
  obtain ⟨r, hr⟩ : ∃ r, rs[i]? = some r := ⟨_, List.getElem?_eq_getElem (by rw [h.len]; exact (List.getElem?_eq_some_iff.1 hu).1)⟩
  exact ⟨r, hr, h.ts i r u hr hu⟩
theorem SepRz.below {W W' : World} {B : Nat} {v : Value} {rs : List Rz} {vs : List Value} {lv : Value} {ll : List Tz} (h : SepRz W B v rs vs lv ll) (hb : Below W.heap.size W W') : SepRz W' B v rs vs lv ll :=
  ⟨h.own.below hb, row_below h.line hb, h.sep, h.lsep⟩
/-- The line has grown. -/
theorem SepRz.more {W W' : World} {B : Nat} {v : Value} {rs : List Rz} {vs : List Value} {lv lv' : Value} {ll ll' : List Tz} (h : SepRz W B v rs vs lv ll) (ho : TokOwn W' B lv' ll') (hg : W.grownBy W' lv.ownBlock) (hf : Fresh W lv lv') : SepRz W' B v rs vs lv' ll' := by
  refine ⟨⟨h.own.len, ownsRow_keepsT h.own.row (KeepsT.grown_row hg h.line (by decide)), fun i r u h1 h2 => (h.lsep i u h2).kept (h.own.ts i r u h1 h2) hg⟩, ho, h.sep, fun i u hu => ?_⟩
  obtain ⟨r, _, ht⟩ := h.own.tok hu
  exact (h.lsep i u hu).fresh hf (fun g e => (ht.lt g e).2)
theorem SepRz.drop {W : World} {B : Nat} {v : Value} {rs : List Rz} {vs : List Value} {lv : Value} {ll : List Tz} (h : SepRz W B v rs vs lv ll) : SepRz W B v rs vs (.slice none 0 0) [] :=
  ⟨h.own, World.ownsRow_nil _ _ _ _, h.sep, fun _ _ _ => Apart2.nil _⟩
/-- The line has become a row. -/
theorem SepRz.push {W W' : World} {B : Nat} {v v' : Value} {rs : List Rz} {vs : List Value} {lv : Value} {ll : List Tz} (d : Bool) (nm : ByteArray) (h : SepRz W B v rs vs lv ll)
    (ho : W'.ownsRow B 67 3 v' (rs.length + 1) (rzVals rs vs ++ [.bool d, .string nm, lv])) (hg : W.grownBy W' v.ownBlock) : SepRz W' B v' (rs ++ [⟨d, nm, ll⟩]) (vs ++ [lv]) (.slice none 0 0) [] := by
  have hK : KeepsT 49 W W' := KeepsT.grown_row hg h.own.row (by decide)
  have hl := h.own.len
  refine ⟨⟨by simp [hl], ?_, fun i r u h1 h2 => ?_⟩, World.ownsRow_nil _ _ _ _, fun i j u u' hij h1 h2 => ?_, fun _ _ _ => Apart2.nil _⟩
  · rw [List.length_append, rzVals_snoc _ _ _ _ hl]; exact ho
  · by_cases hi : i < rs.length
    · rw [List.getElem?_append_left hi] at h1
      rw [List.getElem?_append_left (by omega)] at h2
      exact ownsRow_keepsT (h.own.ts i r u h1 h2) hK
    · have hlt := (List.getElem?_eq_some_iff.1 h1).1
      rw [List.length_append] at hlt
      simp only [List.length_cons, List.length_nil] at hlt
      obtain rfl : i = rs.length := by omega
      rw [List.getElem?_append_right (Nat.le_refl _), Nat.sub_self] at h1
      rw [hl, List.getElem?_append_right (Nat.le_refl _), Nat.sub_self] at h2
      simp only [List.getElem?_cons_zero, Option.some.injEq] at h1 h2
      subst h1 h2
      exact ownsRow_keepsT h.line hK
  · have hlt1 := (List.getElem?_eq_some_iff.1 h1).1
    have hlt2 := (List.getElem?_eq_some_iff.1 h2).1
    rw [List.length_append] at hlt1 hlt2
    simp only [List.length_cons, List.length_nil] at hlt1 hlt2
    by_cases hi : i < vs.length
    · rw [List.getElem?_append_left hi] at h1
      by_cases hj : j < vs.length
      · rw [List.getElem?_append_left hj] at h2
        exact h.sep i j u u' hij h1 h2
      · obtain rfl : j = vs.length := by omega
        rw [List.getElem?_append_right (Nat.le_refl _), Nat.sub_self] at h2
        simp only [List.getElem?_cons_zero, Option.some.injEq] at h2
        subst h2
        exact (h.lsep i u h1).symm
    · obtain rfl : i = vs.length := by omega
      rw [List.getElem?_append_right (Nat.le_refl _), Nat.sub_self] at h1
      simp only [List.getElem?_cons_zero, Option.some.injEq] at h1
      subst h1
      rw [List.getElem?_append_left (by omega)] at h2
      exact h.lsep j u' h2
theorem rzVals_set : ∀ (rs : List Rz) (vs : List Value) (q : Rz) (u u' : Value), rs.length = vs.length → (rzVals (rs ++ [q]) (vs ++ [u])).set (rs.length * 3 + 2) u' = rzVals (rs ++ [q]) (vs ++ [u']) := by
  intro rs vs q u u' hl
  rw [rzVals_snoc _ _ _ _ hl, rzVals_snoc _ _ _ _ hl]
  have hlen : ∀ (rs : List Rz) (vs : List Value), rs.length = vs.length → (rzVals rs vs).length = rs.length * 3 := by
    intro rs
    induction rs with
    | nil => intro vs _; rfl
    | cons r rs ih =>
      intro vs h
      cases vs with
      | nil => simp at h
      | cons v vs =>
        simp only [List.length_cons, Nat.add_right_cancel_iff] at h
        rw [rzVals, List.length_append, ih vs h]; simp; omega
  rw [List.set_append_right _ _ (by rw [hlen _ _ hl]; omega), hlen _ _ hl, show rs.length * 3 + 2 - rs.length * 3 = 2 by omega]
  rfl
theorem rzVals_name (rs : List Rz) (vs : List Value) (q : Rz) (u : Value) (ts : List Tz) (hl : rs.length = vs.length) : rzVals (rs ++ [q]) (vs ++ [u]) = rzVals (rs ++ [⟨q.d, q.nm, ts⟩]) (vs ++ [u]) := by
  rw [rzVals_snoc _ _ _ _ hl, rzVals_snoc _ _ _ _ hl]
/-- The last row has grown by the line. -/
theorem SepRz.last {W W' : World} {B g cap : Nat} {rs : List Rz} {vs : List Value} {q : Rz} {u u' lv : Value} {ll : List Tz} (h : SepRz W B (.slice (some ⟨g, 0, none⟩) (rs.length + 1) cap) (rs ++ [q]) (vs ++ [u]) lv ll) (hl : rs.length = vs.length)
    (ho : TokOwn W' B u' (q.ts ++ ll)) (hg : W.grownBy W' u.ownBlock) (hf : Fresh W u u') : SepRz (W'.setCell ⟨g, rs.length * 3 + 2, none⟩ u') B (.slice (some ⟨g, 0, none⟩) (rs.length + 1) cap) (rs ++ [⟨q.d, q.nm, q.ts ++ ll⟩]) (vs ++ [u']) (.slice none 0 0) [] ∧
      W'.ownsRow B 67 3 (.slice (some ⟨g, 0, none⟩) (rs.length + 1) cap) (rs.length + 1) (rzVals (rs ++ [q]) (vs ++ [u])) := by
  have hu : (vs ++ [u])[vs.length]? = some u := by rw [List.getElem?_append_right (Nat.le_refl _), Nat.sub_self]; rfl
  have huT : TokOwn W B u q.ts := h.own.ts rs.length q u (by rw [List.getElem?_append_right (Nat.le_refl _), Nat.sub_self]; rfl) (by rw [hl]; exact hu)
  have hrow := h.own.row
  rw [List.length_append, show rs.length + [q].length = rs.length + 1 from rfl] at hrow
  have hrow' := ownsRow_keepsT hrow (KeepsT.grown_row hg huT (by decide))
  refine ⟨?_, hrow'⟩
  obtain ⟨hst, hgs⟩ := hrow'.stored (rs.length * 3 + 2) u'
  have hblk : ∃ c fz, W'.heap[g]? = some (.cells c 67 fz) := by
    rcases hrow'.2 with ⟨h', _⟩ | ⟨g', cap', cur, h', _, hh, _⟩
    · cases h'
    · cases h'; exact ⟨cur, _, hh⟩
  obtain ⟨c, fz, hblk⟩ := hblk
  have hK : KeepsT 49 W' (W'.setCell ⟨g, rs.length * 3 + 2, none⟩ u') := keepsT_other hblk (by decide) u'
  rw [rzVals_set rs vs q u u' hl, rzVals_name rs vs q u' (q.ts ++ ll) hl] at hst
  have hold : ∀ i v, i < vs.length → vs[i]? = some v → Apart2 u v := fun i v hi hv => h.sep vs.length i u v (by omega) hu (by rw [List.getElem?_append_left hi]; exact hv)
  have hlen2 : (vs ++ [u']).length = vs.length + 1 := by simp
  have hcase : ∀ i v, (vs ++ [u'])[i]? = some v → (i < vs.length ∧ vs[i]? = some v) ∨ (i = vs.length ∧ v = u') := fun i v hv => by
    have hlt := (List.getElem?_eq_some_iff.1 hv).1
    by_cases hi : i < vs.length
    · rw [List.getElem?_append_left hi] at hv; exact .inl ⟨hi, hv⟩
    · have e : i = vs.length := by omega
      subst e
      rw [List.getElem?_append_right (Nat.le_refl _), Nat.sub_self] at hv
      simp only [List.getElem?_cons_zero, Option.some.injEq] at hv
      exact .inr ⟨rfl, hv.symm⟩
  refine ⟨⟨by simp [hl], ?_, fun i r v h1 h2 => ?_⟩, World.ownsRow_nil _ _ _ _, fun i j v v' hij h1 h2 => ?_, fun _ _ _ => Apart2.nil _⟩
  · rw [List.length_append]; exact hst
  · rcases hcase i v h2 with ⟨hi, hv⟩ | ⟨rfl, rfl⟩
    · rw [List.getElem?_append_left (by omega)] at h1
      have h3 := h.own.ts i r v (by rw [List.getElem?_append_left (by omega)]; exact h1) (by rw [List.getElem?_append_left hi]; exact hv)
      exact ownsRow_keepsT ((hold i v hi hv).kept h3 hg) hK
    · rw [← hl, List.getElem?_append_right (Nat.le_refl _), Nat.sub_self] at h1
      simp only [List.getElem?_cons_zero, Option.some.injEq] at h1
      subst h1
      exact ownsRow_keepsT ho hK
  · have hfr : ∀ i v, i < vs.length → vs[i]? = some v → Apart2 u' v := fun i v hi hv => by
      obtain ⟨r, _, ht⟩ := h.own.tok (i := i) (u := v) (by rw [List.getElem?_append_left hi]; exact hv)
      exact (hold i v hi hv).fresh hf (fun g e => (ht.lt g e).2)
    rcases hcase i v h1 with ⟨hi, hv⟩ | ⟨rfl, rfl⟩
    · rcases hcase j v' h2 with ⟨hj, hv'⟩ | ⟨rfl, rfl⟩
      · exact h.sep i j v v' hij (by rw [List.getElem?_append_left hi]; exact hv) (by rw [List.getElem?_append_left hj]; exact hv')
      · exact (hfr i v hi hv).symm
    · rcases hcase j v' h2 with ⟨hj, hv'⟩ | ⟨rfl, rfl⟩
      · exact hfr j v' hj hv'
      · exact absurd rfl hij

end Go.Proofs.Ytaodjipnffgihaa

namespace Go.Proofs.Ytaodjipnffgihaa
open Go.RowKit

/-- How many bare tokens of a row don't belong to its content. -/
def aheadS (r : Rz) : Nat := if r.d then (if r.nm.toList = [] then 1 else 2) else 0
def nameS (r : Rz) : ByteArray := if r.d then r.nm else ⟨#[]⟩
theorem aheadS_le (r : Rz) : aheadS r ≤ 2 := by
  unfold aheadS
  repeat (first | omega | split)
theorem size_zero_iff (s : ByteArray) : s.toList = [] ↔ s.size = 0 := by
  rw [← List.length_eq_zero_iff]
  have : s.toList = s.data.toList := Lib.toList_data s
  rw [this]
  exact Iff.rfl
theorem saysS_ahead (r : Rz) : saysS r = (bareL r).drop (aheadS r) := by
  unfold saysS aheadS
  cases r.d
  · rfl
  · simp only [if_true]
    by_cases h : r.nm.toList = []
    · have := (size_zero_iff _).1 h
      rw [if_neg (by omega), if_pos h]
    · have : r.nm.size ≠ 0 := fun e => h ((size_zero_iff _).2 e)
      rw [if_pos (by omega), if_neg h]

set_option maxHeartbeats 1000000 in
theorem ahead_any (r : Rz) (v : Value) (w : World) :
    Calls Try.prog 55 #[.agg #[.bool r.d, .string r.nm, v]] w fun e w' => e = .returned (.int .i64 (aheadS r : Nat)) ∧ Below w.heap.size w w' := by
  have HT : Hid (aheadS r = if r.d then (if r.nm.toList = [] then 1 else 2) else 0) := Lib.hid rfl
  obtain ⟨d, nm, ts⟩ := r
  cases d
  · go_enter Try.func55, Try.ntmps55
    go_wp2
    go_ret
    exact ⟨ri (by rw [HT.out]; rfl), below1 w _⟩
  · by_cases he : nm.toList = []
    · have HT2 := Lib.hid (HT.out.trans (by simp only [if_true]; rw [if_pos he]))
      have hb : (nm.toList == []) = true := by rw [he]; rfl
      clear HT
      go_enter Try.func55, Try.ntmps55
      go_wp2
      go_ret
      exact ⟨ri (by rw [HT2.out]; rfl), below1 w _⟩
    · have HT2 := Lib.hid (HT.out.trans (by simp only [if_true]; rw [if_neg he]))
      have hb : (nm.toList == []) = false := beq_eq_false_iff_ne.2 he
      have hb2 : (!nm.toList.isEmpty) = true := by
        cases h : nm.toList with
        | nil => exact absurd h he
        | cons a b => rfl
      clear HT
      go_enter Try.func55, Try.ntmps55
      go_wp2
      go_ret
      exact ⟨ri (by rw [HT2.out]; rfl), below1 w _⟩

/-- Is a token the one of a directive? -/
def begB (t : Tz) : Bool := t.k == 5 && (t.tx.toList == [35] || t.tx.toList == [37, 58])
theorem hashB_cons (t : Tz) (l : List Tz) : hashB (t :: l) = begB t := rfl

set_option maxHeartbeats 1000000 in
theorem begins_any (t : Tz) (w : World) :
    Calls Try.prog 71 #[.agg #[.int .i64 t.k, .string t.tx, .int .i64 t.a, .int .i64 t.e, .bool t.sp]] w fun e w' => e = .returned (.bool (begB t)) ∧ Below w.heap.size w w' := by
  have HH : Hid (begB t = (t.k == 5 && (t.tx.toList == [35] || t.tx.toList == [37, 58]))) := Lib.hid rfl
  cases h5 : (t.k == 5)
  · have HN : Hid (begB t = false) := Lib.hid (by rw [HH.out, h5]; rfl)
    clear HH
    go_enter Try.func71, Try.ntmps71
    go_wp2
    go_ret
    exact ⟨rb (by rw [HN.out]), below1 w _⟩
  · cases h1 : (t.tx.toList == [35])
    · cases h2 : (t.tx.toList == [37, 58])
      · have HN : Hid (begB t = false) := Lib.hid (by rw [HH.out, h5, h1, h2]; rfl)
        clear HH
        go_enter Try.func71, Try.ntmps71
        go_wp2
        go_ret
        exact ⟨rb (by rw [HN.out]), below1 w _⟩
      · have HN : Hid (begB t = true) := Lib.hid (by rw [HH.out, h5, h1, h2]; rfl)
        clear HH
        go_enter Try.func71, Try.ntmps71
        go_wp2
        go_ret
        exact ⟨rb (by rw [HN.out]), below1 w _⟩
    · have HN : Hid (begB t = true) := Lib.hid (by rw [HH.out, h5, h1]; rfl)
      clear HH
      go_enter Try.func71, Try.ntmps71
      go_wp2
      go_ret
      exact ⟨rb (by rw [HN.out]), below1 w _⟩

end Go.Proofs.Ytaodjipnffgihaa

namespace Go.Proofs.Ytaodjipnffgihaa
open Go.RowKit Go.Shelf

theorem nameB_twoB {bs : List Tz} {u : Tz} (h : bs[1]? = some u) : nameB bs = if u.k == 1 then u.tx else ⟨#[]⟩ := by
  match bs, h with
  | [], h => simp at h
  | [_], h => simp at h
  | _ :: v :: _, h => simp at h; subst h; rfl
theorem rowOf_parts {l bs : List Tz} (h : (bareS l).1 = bs) : rowOf l = ⟨hashB bs, if hashB bs then nameB bs else ⟨#[]⟩, l⟩ := by unfold rowOf; rw [h]

theorem row_set {W : World} {B i : Nat} {x : Array Value} {u : Value} (h : W.heap[B]? = some (.cells x 67 (0, 0))) : (W.setCell ⟨B, i, none⟩ u).heap[B]? = some (.cells (x.setIfInBounds i u) 67 (0, 0)) := by
  simp [World.setCell, Array.getElem?_modify, h]
theorem row_facts {W : World} {B : Nat} {a b c : Value} (h : W.heap[B]? = some (.cells #[a, b, c] 67 (0, 0))) : W.cell? ⟨B, 0, none⟩ = some a ∧ W.cell? ⟨B, 1, none⟩ = some b ∧ W.cell? ⟨B, 2, none⟩ = some c ∧ W.frozen? ⟨B, 0, none⟩ = false ∧ W.frozen? ⟨B, 1, none⟩ = false ∧ W.frozen? ⟨B, 2, none⟩ = false := by
  refine ⟨?_, ?_, ?_, ?_, ?_, ?_⟩
  all_goals simp [World.cell?, World.frozen?, h]
theorem rowOf_own {W : World} {B g n cap base : Nat} {ts : List Tz} {x : Array Value} (hn : ts.length = n) (h : W.heap[B]? = some (.cells x 67 (0, 0))) (ho : W.ownsRow base 49 5 (.slice (some ⟨g, 0, none⟩) n cap) n (tzCells ts)) (a b c : Value) :
    TokOwn (((W.setCell ⟨B, 0, none⟩ a).setCell ⟨B, 1, none⟩ b).setCell ⟨B, 2, none⟩ c) base (.slice (some ⟨g, 0, none⟩) n cap) ts := by
  unfold TokOwn
  rw [hn]
  have h1 := row_set (i := 0) (u := a) h
  have h2 := row_set (i := 1) (u := b) h1
  exact ownsRow_keepsT (ownsRow_keepsT (ownsRow_keepsT ho (keepsT_other h (by decide) a)) (keepsT_other h1 (by decide) b)) (keepsT_other h2 (by decide) c)

set_option maxRecDepth 100000 in
set_option maxHeartbeats 4000000 in
theorem rowOf_any (ts : List Tz) (n cap : Nat) (ad : Addr) (w : World) (hn : ts.length = n) (hn0 : 0 < n) (hn2 : n * 48 ≤ 140737488355328) (hx : ∀ t ∈ ts, t.tx.size ≤ 281474976710656) (hT : 0 < n → ∃ b o, ad = ⟨b, o, none⟩ ∧ b < w.heap.size ∧ TzAt w b o ts) :
    Calls Try.prog 53 #[.slice (some ad) n cap] w fun e w' => (∃ u, e = .returned (.agg #[.bool (rowOf ts).d, .string (rowOf ts).nm, u]) ∧ TokOwn w' w.heap.size u ts) ∧ Below w.heap.size w w' := by
  obtain ⟨bs, hbs⟩ : ∃ bs, (bareS ts).1 = bs := ⟨_, rfl⟩
  have HR := Lib.hid (rowOf_parts hbs)
  have HC := fun (w' : World) (hb : Below w.heap.size w w') => copyOf_any ts n cap ad w' hn hn0 hn2 hx (fun hp => by obtain ⟨b, o, e, h1, h2⟩ := hT hp; exact ⟨b, o, e, Nat.lt_of_lt_of_le h1 hb.size, h2.below hb h1⟩)
  have HB := fun (w' : World) (hb : Below w.heap.size w w') => bare_off ts n cap (some ad) w' hn hn2 hx (fun hp => by obtain ⟨b, o, e, h1, h2⟩ := hT hp; exact ⟨b, o, by rw [e], Nat.lt_of_lt_of_le h1 hb.size, h2.below hb h1⟩)
  rw [hbs] at HB
  have hbl : bs.length ≤ n := by
    have := bareS_len ts
    rw [hbs, hn] at this; exact this
  have HN := Lib.hid hn
  clear hn hx hT hbs
  go_enter Try.func53, Try.ntmps53
  go_wp2_with fail
  have hb1 := below1 w (.cells #[.bool false, .string ⟨#[]⟩, .slice none 0 0] 67)
  refine (HC _ hb1).mono ?_
  rintro e w2 ⟨⟨g, cap2, rfl, ho2⟩, hb2⟩
  have hg2 : g < w2.heap.size := (ho2.lt g rfl).2
  have hgB : w.heap.size + 1 ≤ g := by have := (ho2.lt g rfl).1; simpa using this
  have hB2 : Below w.heap.size w w2 := hb1.trans (hb2.mono hb1.size)
  have hZ2 : w2.heap[w.heap.size]? = some (.cells #[.bool false, .string ⟨#[]⟩, .slice none 0 0] 67 (0, 0)) := (hb2.block w.heap.size (by simp)).trans (World.alloc_heap_new w _)
  have ho2' : w2.ownsRow w.heap.size 49 5 (.slice (some ⟨g, 0, none⟩) n cap2) n (tzCells ts) := row_base (by simp) ho2
  have hs2 : w.heap.size < w2.heap.size := by omega
  have hb3 := below1 w2 (.cells #[.bool false, .string ⟨#[]⟩, .slice (some ⟨g, 0, none⟩) n cap2] 67)
  have hB3 := hB2.trans (hb3.mono hB2.size)
  have HB3 := HB _ hB3
  clear HB HC ho2
  go_wp2_with fail
  refine HB3.mono ?_
  rintro e w4 ⟨⟨v4, rfl, hr4⟩, hb4⟩
  obtain ⟨a4, cap4, rfl, hrow4, -, -⟩ := tz_shape rfl hr4
  have hB4 := hB3.trans (hb4.mono hB3.size)
  have hs4 : w2.heap.size + 1 ≤ w4.heap.size := by have := hb4.size; simpa using this
  have hZ4 : w4.heap[w.heap.size]? = some (.cells #[.bool false, .string ⟨#[]⟩, .slice none 0 0] 67 (0, 0)) := (hb4.block w.heap.size (by simp; omega)).trans ((hb3.block w.heap.size hs2).trans hZ2)
  have hR4 : w4.heap[w2.heap.size]? = some (.cells #[.bool false, .string ⟨#[]⟩, .slice (some ⟨g, 0, none⟩) n cap2] 67 (0, 0)) := (hb4.block w2.heap.size (by simp)).trans (World.alloc_heap_new w2 _)
  have ho4 : w4.ownsRow w.heap.size 49 5 (.slice (some ⟨g, 0, none⟩) n cap2) n (tzCells ts) := row_below (ho2'.alloc _) hb4
  have HRow4 := Lib.hid hrow4
  obtain ⟨R, hR⟩ : ∃ R, w2.heap.size = R := ⟨_, rfl⟩
  rw [hR] at hR4 hs4 hs2 hg2
  have HRR := Lib.hid hR
  clear hrow4 hr4 hZ2 HB3 hb3 hB3 hb4 hB2 ho2' hb1 hb2
  rw [hR]
  clear hR
  have r0 : w4.cell? ⟨R, 0, none⟩ = some (.bool false) := by rw [Lib.cell_of_heap hR4]; rfl
  have r1 : w4.cell? ⟨R, 1, none⟩ = some (.string ⟨#[]⟩) := by rw [Lib.cell_of_heap hR4]; rfl
  have r2 : w4.cell? ⟨R, 2, none⟩ = some (.slice (some ⟨g, 0, none⟩) n cap2) := by rw [Lib.cell_of_heap hR4]; rfl
  have fr0 : w4.frozen? ⟨R, 0, none⟩ = false := by simp [World.frozen?, hR4]
  have fr1 : w4.frozen? ⟨R, 1, none⟩ = false := by simp [World.frozen?, hR4]
  have z0 : w4.cell? ⟨w.heap.size, 0, none⟩ = some (.bool false) := by rw [Lib.cell_of_heap hZ4]; rfl
  have z1 : w4.cell? ⟨w.heap.size, 1, none⟩ = some (.string ⟨#[]⟩) := by rw [Lib.cell_of_heap hZ4]; rfl
  have z2 : w4.cell? ⟨w.heap.size, 2, none⟩ = some (.slice none 0 0) := by rw [Lib.cell_of_heap hZ4]; rfl
  have fz0 : w4.frozen? ⟨w.heap.size, 0, none⟩ = false := by simp [World.frozen?, hZ4]
  have fz1 : w4.frozen? ⟨w.heap.size, 1, none⟩ = false := by simp [World.frozen?, hZ4]
  have fz2 : w4.frozen? ⟨w.heap.size, 2, none⟩ = false := by simp [World.frozen?, hZ4]
  cases bs with
  | nil =>
    have HR2 : Hid (rowOf ts = ⟨false, ⟨#[]⟩, ts⟩) := Lib.hid HR.out
    clear HR HRow4
    go_wp2
    refine bodyPost_ret (v := .agg #[.bool false, .string ⟨#[]⟩, .slice (some ⟨g, 0, none⟩) n cap2]) (by simp [results, Try.results53, go_sem, z0, z1, z2]) rfl ⟨⟨_, by rw [HR2.out], ?_⟩, ?_⟩
    · exact rowOf_own HN.out hZ4 ho4 _ _ _
    · exact ((hB4.setCell (p := ⟨w.heap.size, 0, none⟩) (Nat.le_refl _) _).setCell (p := ⟨w.heap.size, 1, none⟩) (Nat.le_refl _) _).setCell (p := ⟨w.heap.size, 2, none⟩) (Nat.le_refl _) _
  | cons t r =>
    obtain ⟨g4, rfl, hg4, ht4⟩ := HRow4.out (by simp)
    have HT4 := Lib.hid ht4
    obtain ⟨c0, c1, c2, c3, c4⟩ := ht4 0 t rfl
    rw [Nat.zero_mul] at c0 c1 c2 c3 c4
    have HBG := fun w' => begins_any t w'
    have hF : ∀ W : World, Below w4.heap.size w4 W → W.heap[w.heap.size]? = some (.cells #[.bool false, .string ⟨#[]⟩, .slice none 0 0] 67 (0, 0)) ∧ W.heap[R]? = some (.cells #[.bool false, .string ⟨#[]⟩, .slice (some ⟨g, 0, none⟩) n cap2] 67 (0, 0)) ∧ W.ownsRow w.heap.size 49 5 (.slice (some ⟨g, 0, none⟩) n cap2) n (tzCells ts) ∧ Below w.heap.size w W :=
      fun W hW => ⟨(hW.block _ (by omega)).trans hZ4, (hW.block _ (by omega)).trans hR4, row_below ho4 hW, hB4.trans (hW.mono hB4.size)⟩
    have HF := Lib.hid hF
    have hbl2 : (1 : Int) ≤ ((r.length : Int) + 1) := by omega
    have hne0 : (((t :: r).length : Int) == 0) = false := by rw [List.length_cons]; exact beq_eq_false_iff_ne.2 (by omega)
    rw [List.length_cons] at hne0
    clear hF ht4 z0 z1 z2 fz0 fz1 fz2 r0 r1 r2 fr0 fr1 HRow4
    cases hbg : begB t with
    | false =>
      have HR2 : Hid (rowOf ts = ⟨false, ⟨#[]⟩, ts⟩) := Lib.hid (by rw [HR.out, hashB_cons, hbg]; rfl)
      rw [hbg] at HBG
      clear HR hbg
      go_wp2_with fail
      refine (HBG _).mono ?_
      rintro e w5 ⟨rfl, hb5⟩
      obtain ⟨hZ5, hR5, ho5, hB5⟩ := HF.out w5 hb5
      obtain ⟨z0, z1, z2, fz0, fz1, fz2⟩ := row_facts hZ5
      obtain ⟨r0, r1, r2, fr0, fr1, fr2⟩ := row_facts hR5
      go_wp2
      refine bodyPost_ret (v := .agg #[.bool false, .string ⟨#[]⟩, .slice (some ⟨g, 0, none⟩) n cap2]) (by simp [results, Try.results53, go_sem, z0, z1, z2]) rfl ⟨⟨_, by rw [HR2.out], ?_⟩, ?_⟩
      · exact rowOf_own HN.out hZ5 ho5 _ _ _
      · exact ((hB5.setCell (p := ⟨w.heap.size, 0, none⟩) (Nat.le_refl _) _).setCell (p := ⟨w.heap.size, 1, none⟩) (Nat.le_refl _) _).setCell (p := ⟨w.heap.size, 2, none⟩) (Nat.le_refl _) _
    | true =>
      have hRw : rowOf ts = ⟨true, nameB (t :: r), ts⟩ := by rw [HR.out, hashB_cons, hbg]; rfl
      have HR2 := Lib.hid hRw
      rw [hbg] at HBG
      clear HR hbg hRw
      cases r with
      | nil =>
        have HRow : Hid (rowOf ts = ⟨true, ⟨#[]⟩, ts⟩) := Lib.hid HR2.out
        clear HR2
        go_wp2_with fail
        refine (HBG _).mono ?_
        rintro e w5 ⟨rfl, hb5⟩
        obtain ⟨hZ5, hR5, ho5, hB5⟩ := HF.out w5 hb5
        obtain ⟨z0, z1, z2, fz0, fz1, fz2⟩ := row_facts hZ5
        obtain ⟨r0, r1, r2, fr0, fr1, fr2⟩ := row_facts hR5
        have hne : R ≠ w.heap.size := by omega
        have hne2 : w.heap.size ≠ R := by omega
        go_wp2
        refine bodyPost_ret (v := .agg #[.bool true, .string ⟨#[]⟩, .slice (some ⟨g, 0, none⟩) n cap2]) (by simp [results, Try.results53, go_sem, z0, z1, z2, hne, hne2]) rfl ⟨⟨_, by rw [HRow.out], ?_⟩, ?_⟩
        · exact rowOf_own HN.out ((Below.heap_setCell _ _ _ _ hne2).trans hZ5) (ownsRow_keepsT ho5 (keepsT_other hR5 (by decide) _)) _ _ _
        · exact (((hB5.setCell (p := ⟨R, 0, none⟩) (Nat.le_of_lt hs2) _).setCell (p := ⟨w.heap.size, 0, none⟩) (Nat.le_refl _) _).setCell (p := ⟨w.heap.size, 1, none⟩) (Nat.le_refl _) _).setCell (p := ⟨w.heap.size, 2, none⟩) (Nat.le_refl _) _
      | cons u r =>
        obtain ⟨d0, d1, -⟩ := HT4.out 1 u rfl
        cases hk1 : (u.k == 1) with
        | false =>
          have HRow : Hid (rowOf ts = ⟨true, ⟨#[]⟩, ts⟩) := Lib.hid (by rw [HR2.out, nameB_twoB (show (t :: u :: r)[1]? = some u from rfl), hk1]; rfl)
          clear HR2
          go_wp2_with fail
          refine (HBG _).mono ?_
          rintro e w5 ⟨rfl, hb5⟩
          obtain ⟨hZ5, hR5, ho5, hB5⟩ := HF.out w5 hb5
          obtain ⟨z0, z1, z2, fz0, fz1, fz2⟩ := row_facts hZ5
          obtain ⟨r0, r1, r2, fr0, fr1, fr2⟩ := row_facts hR5
          have e0 := (hb5.cell (p := ⟨g4, 1 * 5, none⟩) hg4).trans d0
          have e1 := (hb5.cell (p := ⟨g4, 1 * 5 + 1, none⟩) hg4).trans d1
          rw [show 1 * 5 = 5 from rfl] at e0 e1
          have hne : R ≠ w.heap.size := by omega
          have hne2 : w.heap.size ≠ R := by omega
          go_wp2
          refine bodyPost_ret (v := .agg #[.bool true, .string ⟨#[]⟩, .slice (some ⟨g, 0, none⟩) n cap2]) (by simp [results, Try.results53, go_sem, z0, z1, z2, hne, hne2]) rfl ⟨⟨_, by rw [HRow.out], ?_⟩, ?_⟩
          · exact rowOf_own HN.out ((Below.heap_setCell _ _ _ _ hne2).trans hZ5) (ownsRow_keepsT ho5 (keepsT_other hR5 (by decide) _)) _ _ _
          · exact (((hB5.setCell (p := ⟨R, 0, none⟩) (Nat.le_of_lt hs2) _).setCell (p := ⟨w.heap.size, 0, none⟩) (Nat.le_refl _) _).setCell (p := ⟨w.heap.size, 1, none⟩) (Nat.le_refl _) _).setCell (p := ⟨w.heap.size, 2, none⟩) (Nat.le_refl _) _
        | true =>
          have HRow : Hid (rowOf ts = ⟨true, u.tx, ts⟩) := Lib.hid (by rw [HR2.out, nameB_twoB (show (t :: u :: r)[1]? = some u from rfl), hk1]; rfl)
          clear HR2
          go_wp2_with fail
          refine (HBG _).mono ?_
          rintro e w5 ⟨rfl, hb5⟩
          obtain ⟨hZ5, hR5, ho5, hB5⟩ := HF.out w5 hb5
          obtain ⟨z0, z1, z2, fz0, fz1, fz2⟩ := row_facts hZ5
          obtain ⟨r0, r1, r2, fr0, fr1, fr2⟩ := row_facts hR5
          have e0 := (hb5.cell (p := ⟨g4, 1 * 5, none⟩) hg4).trans d0
          have e1 := (hb5.cell (p := ⟨g4, 1 * 5 + 1, none⟩) hg4).trans d1
          rw [show 1 * 5 = 5 from rfl] at e0 e1
          have hne : R ≠ w.heap.size := by omega
          have hne2 : w.heap.size ≠ R := by omega
          go_wp2
          refine bodyPost_ret (v := .agg #[.bool true, .string u.tx, .slice (some ⟨g, 0, none⟩) n cap2]) (by simp [results, Try.results53, go_sem, z0, z1, z2, hne, hne2]) rfl ⟨⟨_, by rw [HRow.out], ?_⟩, ?_⟩
          · exact rowOf_own HN.out ((Below.heap_setCell _ _ _ _ hne2).trans ((Below.heap_setCell _ _ _ _ hne2).trans hZ5)) (ownsRow_keepsT (ownsRow_keepsT ho5 (keepsT_other hR5 (by decide) _)) (keepsT_other (row_set hR5) (by decide) _)) _ _ _
          · exact ((((hB5.setCell (p := ⟨R, 0, none⟩) (Nat.le_of_lt hs2) _).setCell (p := ⟨R, 1, none⟩) (Nat.le_of_lt hs2) _).setCell (p := ⟨w.heap.size, 0, none⟩) (Nat.le_refl _) _).setCell (p := ⟨w.heap.size, 1, none⟩) (Nat.le_refl _) _).setCell (p := ⟨w.heap.size, 2, none⟩) (Nat.le_refl _) _

end Go.Proofs.Ytaodjipnffgihaa

namespace Go.Proofs.Ytaodjipnffgihaa
open Go.RowKit Go.Shelf

attribute [local go_sem] Oper.semAt_some

theorem oper_fresh {P : Program} {t e : TypeId} {i : TypeInfo} {z : Value} {size bytes : Nat} (E : ElemOk P t e i z size bytes) {w : World} {o : Oper} {a : Act} {K : Act → World → Prop} {Q : Exit → Act → World → Prop} (sl x : Operand)
    (hop : o.op = .call { callee := .builtin .append, args := #[sl, x], argTypes := #[t, t] }) (base : Nat) (v : Value) (n : Nat) (xs : List Value) (hs : a.eval sl = v) (ho : w.ownsRow base e size v n xs)
    (ad : Addr) (m c : Nat) (news : List Value) (hx : a.eval x = .slice (some ad) m c) (hl : news.length = m * size) (hn : ∀ j u, news[j]? = some u → w.cell? (ad.add j) = some u) (h1 : ∀ u ∈ news, u.oneCell' = true)
    (hm : n + m ≤ maxLen) (hz : (n + m) * bytes ≤ 140737488355328) (hB : base ≤ w.heap.size)
    (h : ∀ v' w', w'.ownsRow base e size v' (n + m) (xs ++ news) → w.grownBy w' v.ownBlock → Fresh w v v' → K (a.put o.dst v') w') : Oper.wp P o a w K Q := by
  obtain ⟨v', w', hr, h2, h3, h4⟩ := append_fresh E w o.type base ho hl hn h1 hm hz hB
  unfold Oper.wp execOp
  simp only [hop, resolve, invoke, builtin, Sem.run_bind, Sem.run_pure, Result.andThen_ok, List.map_toArray, List.map_cons, List.map_nil, hs, hx]
  rw [hr]
  exact h v' w' h2 h3 h4

theorem keepsT_own {T : TypeId} {X Z : World} {row : Option Nat} (hg : X.grownBy Z row) (hr : ∀ r, row = some r → ∃ o : Obj, X.heap[r]? = some o ∧ o.isCells = false) : KeepsT T X Z := fun _ _ _ hk => (grownBy_keeps_cells hg hr hk rfl).trans hk
/-- Rows behind what touches neither rows nor tokens. -/
theorem SepRz.keeps {X Z : World} {B : Nat} {v lv : Value} {rs : List Rz} {vs : List Value} {ll : List Tz} (h : SepRz X B v rs vs lv ll) (hT : KeepsT 49 X Z) (hR : KeepsT 67 X Z) : SepRz Z B v rs vs lv ll :=
  ⟨⟨h.own.len, ownsRow_keepsT h.own.row hR, fun i r u h1 h2 => ownsRow_keepsT (h.own.ts i r u h1 h2) hT⟩, ownsRow_keepsT h.line hT, h.sep, h.lsep⟩
/-- New tokens beside the rows. -/
theorem SepRz.line' {W W' : World} {B : Nat} {v u : Value} {rs : List Rz} {vs : List Value} {ll : List Tz} (h : SepRz W B v rs vs (.slice none 0 0) []) (hb : Below W.heap.size W W') (hu : TokOwn W' W.heap.size u ll) (hB : B ≤ W.heap.size) : SepRz W' B v rs vs u ll :=
  have h' := h.below hb
  ⟨h'.own, row_base hB hu, h'.sep, fun i x hx g hg e => by
    obtain ⟨r, _, ht⟩ := h.own.tok hx
    have h1 := (hu.lt g hg).1
    have h2 := (ht.lt g e).2
    omega⟩

theorem LnKept.refl (Bn B : Nat) (Y : World) : LnKept Bn B Y Y := ⟨Nat.le_refl _, fun _ h => h, fun _ _ => rfl⟩
theorem LnKept.put {Bn B : Nat} {Y W : World} {l : Nat} {o o' : Obj} (hB : B ≤ l) (hl : W.heap[l]? = some o) (ho : o.isCells = false) (h : LnKept Bn B Y W) : LnKept Bn B Y (W.putObj l o') := by
  refine ⟨by simpa [World.putObj] using h.size, fun v hv => ?_, fun k hk => ?_⟩
  · have hb := h.box v hv
    have hne : Bn ≠ l := fun e => by
      subst e
      rw [show W.heap[Bn]? = _ from hb] at hl
      cases hl; cases ho
    exact (World.putObj_heap_other hne).trans hb
  · exact (World.putObj_heap_other (by omega)).trans (h.low k hk)
theorem LnKept.then' {Bn B : Nat} {Y W W' : World} (h : LnKept Bn B Y W) (hb : Below B W W') (hk : KeepsT 22 W W') (hB : B ≤ W.heap.size) : LnKept Bn B Y W' :=
  ⟨Nat.le_trans h.size hb.size, fun v hv => hk _ _ _ (h.box v hv), fun k hk' => (hb.block k hk').trans (h.low k hk')⟩

/-- A line within the list. -/
theorem TzAt.seg {W : World} {b o f m : Nat} {ts l : List Tz} (h : TzAt W b o ts) (hl : (ts.drop f).take m = l) : TzAt W b (o + f * 5) l := fun i t ht => by
  refine h.drop f i t ?_
  rw [← hl, List.getElem?_take] at ht
  split at ht
  · exact ht
  · cases ht

theorem lines_stops (n : Nat) (hn : 1 ≤ n) (ts : List Tz) (m cap : Nat) (a : Option Addr) (b o : Nat) (hm : ts.length = m) (hmc : m ≤ cap) (hm2 : m * 48 ≤ 140737488355328) (w0 : World) (B : Nat) (ha : 0 < m → a = some ⟨b, o, none⟩ ∧ b < B ∧ TzAt w0 b o ts) (Bn : Nat) (w : World) (hE : LnEnv Bn B (.slice a m cap) w0 w) :
    SeqStopsP Fence.wide n Try.prog 69 #[.pointer (some ⟨Bn, 0, none⟩)] (fun x : Lt ts => encL b o cap x) (LnKept Bn B) (fun ys => ys = lts ts) (fun pre => pre <+: lts ts) (LnPm ts) w := fun l J Jx W hW hJ _ hY h0 =>
  lines1_in n hn ts m cap a b o hm hmc hm2 w0 B ha l Bn J Jx W.heap.size hJ hY W (hE.below hW) h0

theorem snoc_orB {α : Type} (l : List α) : l = [] ∨ ∃ o q, l = o ++ [q] := by
  rcases List.eq_nil_or_concat l with h | ⟨o, q, h⟩
  · exact .inl h
  · exact .inr ⟨o, q, by rw [h, List.concat_eq_append]⟩
theorem row_blockB {W : World} {b n z k : Nat} {e : TypeId} {v : Value} {xs : List Value} (h : W.ownsRow b e z v n xs) (hk : v.ownBlock = some k) : ∃ cur fz, W.heap[k]? = some (.cells cur e fz) := by
  rcases h.2 with ⟨rfl, _⟩ | ⟨g, cap, cur, rfl, _, hh, _⟩
  · cases hk
  · obtain rfl : g = k := by simpa [Value.ownBlock] using hk
    exact ⟨cur, _, hh⟩
theorem tzCells_append' (a b : List Tz) : tzCells (a ++ b) = tzCells a ++ tzCells b := by simp [tzCells]
def RowsI (w : World) {ts : List Tz} (pre : List (Lt ts)) (W : World) : Prop := (∃ v vs, Boxed W w.heap.size 63 v ∧ SepRz W w.heap.size v (rowsP pre) vs (.slice none 0 0) []) ∧ Below w.heap.size w W

set_option maxRecDepth 100000 in
set_option maxHeartbeats 8000000 in
theorem rows_any (n cap : Nat) (a : Option Addr) (w : World) (hn2 : n * 48 ≤ 140737488355328) (hnc : n ≤ cap) (ts : List Tz) (hn : ts.length = n) (hx : ∀ t ∈ ts, t.tx.size ≤ 281474976710656) (hT : TzIn w a ts) :
    Calls Try.prog 33 #[.slice a n cap] w fun e w' => (∃ v vs, e = .returned v ∧ SepRz w' w.heap.size v (rowsS ts) vs (.slice none 0 0) []) ∧ Below w.heap.size w w' := by
  obtain ⟨i0, hi, hz0, hz1, hz2⟩ := info_parts infoTz
  obtain ⟨j0, hj, hy0, hy1, hy2⟩ := info_parts infoRow
  have ET : ElemOk Try.prog 22 49 i0 (.agg #[.int .i64 0, .string ⟨#[]⟩, .int .i64 0, .int .i64 0, .bool false]) 5 48 := ⟨Try.underlying22, hi, hz0, hz1, hz2, rfl, by decide⟩
  obtain ⟨b, o, ha⟩ : ∃ b o, 0 < n → a = some ⟨b, o, none⟩ ∧ b < w.heap.size ∧ TzAt w b o ts := by
    by_cases h0 : 0 < n
    · obtain ⟨b, o, e, h1, h2⟩ := hT (by omega)
      exact ⟨b, o, fun _ => ⟨e, h1, h2⟩⟩
    · exact ⟨0, 0, fun h => absurd h h0⟩
  have HA := Lib.hid ha
  have HN := Lib.hid hn
  have HX := Lib.hid hx
  refine (callsIn_wide (n := 20)).1 ?_
  refine callsIn_of_wp_marks Try.func33 rfl trivial ?_ rfl
  simp only [Try.ntmps33, List.size_toArray, List.length_cons, List.length_nil, Nat.reduceAdd, Nat.reduceSub, Array.replicate_succ, Array.replicate_zero, List.push_toArray, List.append_toArray, List.nil_append, List.cons_append]
  gi_wp2
  refine ⟨trivial, (callsIn_wide.2 (linesOf_any _ _ _ _)).mono ?_⟩
  rintro e w' ⟨rfl, rfl⟩
  gi_wp2
  have bL := (Boxed.new w 63 (.slice none 0 0)).alloc (.cells #[.slice a n cap] 22)
  have bN := Boxed.new (w.alloc (.cells #[.slice none 0 0] 63)) 22 (.slice a n cap)
  simp only [World.size_alloc] at bN
  have hB0 := below2 w (.cells #[.slice none 0 0] 63) (.cells #[.slice a n cap] 22)
  have hsz : ((w.alloc (.cells #[.slice none 0 0] 63)).alloc (.cells #[.slice a n cap] 22)).heap.size = w.heap.size + 2 := by simp
  obtain ⟨W0, hW0⟩ : ∃ W0, (w.alloc (.cells #[.slice none 0 0] 63)).alloc (.cells #[.slice a n cap] 22) = W0 := ⟨_, rfl⟩
  rw [hW0] at bL bN hB0 hsz ⊢
  clear hW0 hT hn hx ha hi hz0 hz1 hz2
  have hE0 : LnEnv (w.heap.size + 1) w.heap.size (.slice a n cap) w W0 := ⟨by omega, bN, fun k hk => hB0.block k hk⟩
  refine wpIn_range_told rfl (by decide) (gf := 69) (lb := #[.pointer (some ⟨w.heap.size + 1, 0, none⟩)]) rfl trivial (enters_of Try.func69 (by kernel_rfl) rfl)
    (lines_stops _ (by decide) ts n cap a b o HN.out hnc hn2 w w.heap.size HA.out (w.heap.size + 1) W0 hE0) (fun Y W l o o' hB hl ho h => LnKept.put (by omega) hl ho h) (Below.refl _ _) (fun _ => rfl)
    (fun pre W => RowsI w pre W) (fun _ _ _ => False) ?ownI (fun _ _ _ _ _ h _ _ => h)
    ⟨⟨_, [], bL, SepRz.start _ _⟩, hB0⟩
    (fun x Y a' W => (w.heap.size ≤ Y.heap.size ∧ LnKept (w.heap.size + 1) w.heap.size Y W) ∧ a' = { tmps := #[.slice a n cap, undef, .slice none 0 0, .pointer (some ⟨w.heap.size, 0, none⟩), .slice (some ⟨b, o + x.1.f * 5, none⟩) x.1.l.length (cap - x.1.f), undef, undef, .slice a n cap, .func (.func 69) #[] #[.pointer (some ⟨w.heap.size + 1, 0, none⟩)], .slice (some ⟨b, o + x.1.f * 5, none⟩) x.1.l.length (cap - x.1.f), undef, undef, undef, undef, undef, undef, undef, undef, undef, undef, undef, undef, undef, undef, undef, undef, undef, undef, undef, undef, undef, undef, undef, undef, undef, undef, undef, undef, undef, undef, undef, undef, undef, undef, undef, undef, undef], defers := [] })
    (fun x Y a' _ X Z row hs' hg hr => by
      obtain ⟨⟨h1, h2⟩, h3⟩ := hs'
      refine ⟨⟨h1, Nat.le_trans h2.size hg.size, fun v hv => keepsT_own hg (fun r e => (hr r e).2) _ _ _ (h2.box v hv), fun k hk => ?_⟩, h3⟩
      exact (hg.block k (by have := h2.size; omega) (fun e => by have := (hr k e.symm).1; omega)).trans (h2.low k hk))
    ?assign ?body ?done ?stop
  case ownI =>
    intro pre X Z row h hg hr
    obtain ⟨⟨v, vs, hb, hS⟩, hB⟩ := h
    have hr2 : ∀ r, row = some r → ∃ o : Obj, X.heap[r]? = some o ∧ o.isCells = false := fun r e => (hr r e).2
    exact ⟨⟨v, vs, keepsT_own hg hr2 _ _ _ hb, hS.keeps (keepsT_own hg hr2) (keepsT_own hg hr2)⟩, (ownFrom_below (β := Unit) (Nat.le_refl _) (by omega)) () X Z row hB hg hr⟩
  case assign =>
    rintro l pre x Y K hI hK
    unfold encL
    gi_wp2
    exact hK _ _ (KeepsFrom.refl _ _) hI ⟨⟨hI.2.size, LnKept.refl _ _ _⟩, rfl⟩
  case done =>
    rintro D ys W hD rfl ⟨⟨v, vs, hb, hS⟩, hB⟩ hK
    have hc := hb.cell
    gi_wp2
    refine ⟨by simp, .inl ⟨_, _, rfl, run_takeDeferred hK, ?_⟩⟩
    refine ⟨_, results_tmp rfl _ _ _, ?_⟩
    rw [rowsP_all] at hS
    exact ⟨⟨v, vs, rfl, hS.keeps (KeepsT.putObj _ hK rfl) (KeepsT.putObj _ hK rfl)⟩, hB.trans (belowK_b (w := w) (Nat.le_refl _) W D _ _ (by omega) hK rfl rfl)⟩
  case stop =>
    rintro D c pre W _ _ h _
    exact h.elim
  case body =>
    rintro l pre x Y a' W hl ⟨rl, hrl⟩ ⟨⟨v, vs, hbL, hS⟩, hB⟩ ⟨⟨hBY, hKY⟩, rfl⟩ hPm
    obtain ⟨hl0, htake, hle⟩ := ln_in x
    obtain ⟨hfit, hfit2⟩ := rowsP_fits hPm
    rw [HN.out] at hle hfit hfit2
    obtain ⟨ea, hbB, hz⟩ := HA.out (by omega)
    have hzW : TzAt W b (o + x.1.f * 5) x.1.l := (hz.below hB hbB).seg htake
    have hxl : ∀ t ∈ x.1.l, t.tx.size ≤ 281474976710656 := fun t ht => by
      rw [← htake] at ht
      exact HX.out t (List.mem_of_mem_drop (List.mem_of_mem_take ht))
    have CR := rowOf_any x.1.l x.1.l.length (cap - x.1.f) ⟨b, o + x.1.f * 5, none⟩ W rfl hl0 (by omega) hxl (fun _ => ⟨b, o + x.1.f * 5, rfl, Nat.lt_of_lt_of_le hbB hB.size, hzW⟩)
    obtain ⟨rw0, hrow⟩ : ∃ r, rowOf x.1.l = r := ⟨_, rfl⟩
    have hts : rw0.ts = x.1.l := by rw [← hrow]; rfl
    have HSN := Lib.hid (show rowsP (pre ++ [x]) = addRow (rowsP pre) rw0 by rw [rowsP_snoc, ← hrow]; rfl)
    obtain ⟨rs, hrs⟩ : ∃ rs, rowsP pre = rs := ⟨_, rfl⟩
    rw [hrow] at CR
    rw [hrs] at hS hfit hfit2 HSN
    obtain ⟨L, hL⟩ : ∃ L, x.1.l = L := ⟨_, rfl⟩
    rw [hL] at CR hts hfit hl0 hle
    obtain ⟨m, hm⟩ : ∃ m, L.length = m := ⟨_, rfl⟩
    rw [hm] at CR hfit hl0 hle
    rw [hL, hm]
    have HM := Lib.hid hm
    obtain ⟨d, nm, rts⟩ := rw0
    simp only at hts CR
    subst hts
    clear hz hzW hxl htake hrow hrs hL hm ea hPm
    gi_wp2_with fail
    refine ⟨trivial, (callsIn_wide.2 CR).mono ?_⟩
    rintro e w1 ⟨⟨u, rfl, hu⟩, hb1⟩
    have hS1 := hS.line' hb1 hu hB.size
    have hbL1 : Boxed w1 w.heap.size 63 v := (hb1.block _ hbL.lt).trans hbL
    have hB1 := hB.trans (hb1.mono hB.size)
    have hK1 : KeepsT 22 W w1 := KeepsT.of_below hb1
    have hKO1 : KeepsFrom W0.heap.size W w1 := keepsFrom_below hb1
    have hs1 := hB1.size
    have hRL := hbL1.lt
    have hW1s : W.heap.size ≤ w1.heap.size := hb1.size
    clear CR hS hu
    have hb2 := below1 w1 (.cells #[.bool d, .string nm, u] 67)
    have hR2 := World.alloc_heap_new w1 (.cells #[.bool d, .string nm, u] 67)
    have hS2 := hS1.below hb2
    have hbL2 := hbL1.alloc (.cells #[.bool d, .string nm, u] 67)
    have hB2 := hB1.trans (hb2.mono hs1)
    have hsz2 : (w1.alloc (.cells #[.bool d, .string nm, u] 67)).heap.size = w1.heap.size + 1 := by simp
    have hline : w1.ownsRow w.heap.size 49 5 u m (tzCells rts) := by
      have := hS1.line
      unfold TokOwn at this
      rw [HM.out] at this
      exact this
    obtain ⟨au, cu, rfl⟩ := row_shape hline
    obtain ⟨gu, rfl, hgu, -⟩ := row_pos hl0 hline
    gi_upto_region 5 with fail
    have hKO2 : KeepsFrom W0.heap.size w1 (w1.alloc (.cells #[.bool d, .string nm, .slice (some ⟨gu, 0, none⟩) m cu] 67)) := keepsFrom_below hb2
    have hBW2 : Below w.heap.size W (w1.alloc (.cells #[.bool d, .string nm, .slice (some ⟨gu, 0, none⟩) m cu] 67)) := (hb1.mono hB.size).trans (hb2.mono hs1)
    have hK2 : KeepsT 22 W (w1.alloc (.cells #[.bool d, .string nm, .slice (some ⟨gu, 0, none⟩) m cu] 67)) := hK1.trans (KeepsT.of_below hb2)
    have hKO12 := hKO1.trans hKO2
    obtain ⟨R, hR⟩ : ∃ R, w1.heap.size = R := ⟨_, rfl⟩
    have hvR : ∀ g, v.ownBlock = some g → g < R := fun g e => by rw [← hR]; exact (hS1.own.row.lt g e).2
    have HR := Lib.hid hR
    clear hb2 hKO1 hKO2 hK1 hb1 hline hbL1 hB1 hS1 hgu
    rw [hR] at hR2 hsz2 hRL hs1
    rw [hR]
    clear hR
    generalize w1.alloc (.cells #[.bool d, .string nm, .slice (some ⟨gu, 0, none⟩) m cu] 67) = W2 at *
    obtain ⟨k0, k1, k2, -⟩ := row_facts hR2
    have kc := hbL2.cell
    have kf := hbL2.frozen
    have hs2 := hB2.size
    have hvl := hS2.own.len
    have hRW : R < W2.heap.size := by rw [hsz2]; exact Nat.lt_succ_self _
    clear hsz2
    rcases snoc_orB rs with rfl | ⟨r0, qr, rfl⟩
    · have HSQ : Hid (rowsP (pre ++ [x]) = [] ++ [⟨d, nm, rts⟩]) := Lib.hid (by rw [HSN.out, addRow_new (.inr (.inl rfl))])
      obtain rfl : vs = [] := List.length_eq_zero_iff.1 hvl.symm
      obtain ⟨av, cv, rfl⟩ := row_shape hS2.own.row
      have hrow2 := hS2.own.row
      clear HSN hvl hvR
      gi_wp2_with (gi_at_builtin; refine wpListIn_append_own _ rfl _ _ 63 rfl w.heap.size 67 j0 (.agg #[.bool false, .string ⟨#[]⟩, .slice none 0 0]) 3 48 Try.underlying63 hj hy0 hy1 hy2 rfl (by decide) _ _ _ rfl (hrow2.alloc _) ⟨W2.heap.size, 0, none⟩ 1 1 [.bool d, .string nm, .slice (some ⟨gu, 0, none⟩) m cu] rfl rfl (cell3_new _ _ _ _ _) (by intro y hy; simp only [List.mem_cons, List.not_mem_nil, or_false] at hy; rcases hy with rfl | rfl | rfl <;> rfl) (by unfold maxLen; omega) (by omega) (by simp; omega) ?_; intro v3 w3 hown3 hgrow3 _; obtain ⟨g3, cap3, rfl⟩ := ownsRow_succ hown3; obtain ⟨hv1, hv2, hr3, hk3, hb3⟩ := hbL2.appended (by decide) hrow2 hB2.size (Nat.le_refl _) hown3 hgrow3; have hc1 := hv1.cell; have hf1 := hv1.frozen)
      refine ⟨hKO12.trans (hk3.from _), hKY.then' (hBW2.trans hb3) (hK2.trans (((KeepsT.alloc _ _ _).trans (KeepsT.grown_row hgrow3 (hrow2.alloc _) (by decide))).trans (KeepsT.set hv1 (by decide) _))) hB.size, ⟨_, [] ++ [.slice (some ⟨gu, 0, none⟩) m cu], hv2, ?_⟩, hB2.trans hb3⟩
      rw [HSQ.out]
      exact ((hS2.below (below1 W2 _)).push d nm hown3 hgrow3).keeps (KeepsT.set hv1 (by decide) _) (KeepsT.set hv1 (by decide) _)
    · obtain ⟨vs0, uq, rfl⟩ : ∃ vs0 uq, vs = vs0 ++ [uq] := by
        rcases snoc_orB vs with rfl | ⟨vs0, uq, rfl⟩
        · simp at hvl
        · exact ⟨vs0, uq, rfl⟩
      have hl00 : r0.length = vs0.length := by simpa using hvl
      have hlx : (r0 ++ [qr]).length = r0.length + 1 := by simp
      have hrow2 := hS2.own.row
      rw [hlx] at hrow2 hfit2
      obtain ⟨av, cv, rfl⟩ := row_shape hrow2
      obtain ⟨go, rfl, hgo2, hclo⟩ := row_pos (Nat.succ_pos _) hrow2
      obtain ⟨z0, z1, z2⟩ := rzVals_get (rs := r0 ++ [qr]) (vs := vs0 ++ [uq]) (i := r0.length) (r := qr) (v := uq) (by simp) (by rw [hl00]; simp)
      have d0 := hclo _ _ z0
      have d2 := hclo _ _ z2
      have HL0 := Lib.hid hl00
      have Z2 := Lib.hid z2
      have HLX := Lib.hid hlx
      have hgoB : w.heap.size ≤ go := (hrow2.lt go rfl).1
      have i0 : (0 : Int) ≤ (r0.length : Int) := by omega
      have i1 : (r0.length : Int) < (r0.length : Int) + 1 := by omega
      have huT0 : TokOwn W2 w.heap.size uq qr.ts := hS2.own.ts r0.length qr uq (by simp) (by rw [hl00]; simp)
      have hgoR : go < R := hvR go rfl
      clear z0 z1 z2 hl00 hlx hclo hvl hvR
      cases hqd : qr.d with
      | true =>
        rw [hqd] at d0
        have HSQ : Hid (rowsP (pre ++ [x]) = (r0 ++ [qr]) ++ [⟨d, nm, rts⟩]) := Lib.hid (by rw [HSN.out, addRow_new (.inr (.inr ⟨r0, qr, rfl, hqd⟩))])
        clear HSN
        gi_wp2_with (gi_at_builtin; refine wpListIn_append_own _ rfl _ _ 63 rfl w.heap.size 67 j0 (.agg #[.bool false, .string ⟨#[]⟩, .slice none 0 0]) 3 48 Try.underlying63 hj hy0 hy1 hy2 rfl (by decide) _ _ _ rfl (hrow2.alloc _) ⟨W2.heap.size, 0, none⟩ 1 1 [.bool d, .string nm, .slice (some ⟨gu, 0, none⟩) m cu] rfl rfl (cell3_new _ _ _ _ _) (by intro y hy; simp only [List.mem_cons, List.not_mem_nil, or_false] at hy; rcases hy with rfl | rfl | rfl <;> rfl) (by unfold maxLen; omega) (by omega) (by simp; omega) ?_; intro v3 w3 hown3 hgrow3 _; obtain ⟨g3, cap3, rfl⟩ := ownsRow_succ hown3; obtain ⟨hv1, hv2, hr3, hk3, hb3⟩ := hbL2.appended (by decide) hrow2 hB2.size (Nat.le_refl _) hown3 hgrow3; have hc1 := hv1.cell; have hf1 := hv1.frozen)
        refine ⟨hKO12.trans (hk3.from _), hKY.then' (hBW2.trans hb3) (hK2.trans (((KeepsT.alloc _ _ _).trans (KeepsT.grown_row hgrow3 (hrow2.alloc _) (by decide))).trans (KeepsT.set hv1 (by decide) _))) hB.size, ⟨_, (vs0 ++ [uq]) ++ [.slice (some ⟨gu, 0, none⟩) m cu], hv2, ?_⟩, hB2.trans hb3⟩
        rw [HSQ.out]
        exact ((hS2.below (below1 W2 _)).push d nm (by rw [HLX.out]; exact hown3) hgrow3).keeps (KeepsT.set hv1 (by decide) _) (KeepsT.set hv1 (by decide) _)
      | false =>
        rw [hqd] at d0
        cases d with
        | true =>
          have HSQ : Hid (rowsP (pre ++ [x]) = (r0 ++ [qr]) ++ [⟨true, nm, rts⟩]) := Lib.hid (by rw [HSN.out, addRow_new (.inl rfl)])
          clear HSN
          gi_wp2_with (gi_at_builtin; refine wpListIn_append_own _ rfl _ _ 63 rfl w.heap.size 67 j0 (.agg #[.bool false, .string ⟨#[]⟩, .slice none 0 0]) 3 48 Try.underlying63 hj hy0 hy1 hy2 rfl (by decide) _ _ _ rfl (hrow2.alloc _) ⟨W2.heap.size, 0, none⟩ 1 1 [.bool true, .string nm, .slice (some ⟨gu, 0, none⟩) m cu] rfl rfl (cell3_new _ _ _ _ _) (by intro y hy; simp only [List.mem_cons, List.not_mem_nil, or_false] at hy; rcases hy with rfl | rfl | rfl <;> rfl) (by unfold maxLen; omega) (by omega) (by simp; omega) ?_; intro v3 w3 hown3 hgrow3 _; obtain ⟨g3, cap3, rfl⟩ := ownsRow_succ hown3; obtain ⟨hv1, hv2, hr3, hk3, hb3⟩ := hbL2.appended (by decide) hrow2 hB2.size (Nat.le_refl _) hown3 hgrow3; have hc1 := hv1.cell; have hf1 := hv1.frozen)
          refine ⟨hKO12.trans (hk3.from _), hKY.then' (hBW2.trans hb3) (hK2.trans (((KeepsT.alloc _ _ _).trans (KeepsT.grown_row hgrow3 (hrow2.alloc _) (by decide))).trans (KeepsT.set hv1 (by decide) _))) hB.size, ⟨_, (vs0 ++ [uq]) ++ [.slice (some ⟨gu, 0, none⟩) m cu], hv2, ?_⟩, hB2.trans hb3⟩
          rw [HSQ.out]
          exact ((hS2.below (below1 W2 _)).push true nm (by rw [HLX.out]; exact hown3) hgrow3).keeps (KeepsT.set hv1 (by decide) _) (KeepsT.set hv1 (by decide) _)
        | false =>
          have HSQ : Hid (rowsP (pre ++ [x]) = r0 ++ [⟨qr.d, qr.nm, qr.ts ++ rts⟩]) := Lib.hid (by rw [HSN.out, addRow_more rfl hqd])
          have hS3 : SepRz W2.drew w.heap.size (.slice (some ⟨go, 0, none⟩) (r0.length + 1) cv) (r0 ++ [qr]) (vs0 ++ [uq]) (.slice (some ⟨gu, 0, none⟩) m cu) rts := hS2.below (below_drewN (Below.refl _ _) 1)
          have huT : W2.drew.ownsRow w.heap.size 49 5 uq qr.ts.length (tzCells qr.ts) := huT0
          have hcl : ∀ j y, (tzCells rts)[j]? = some y → W2.drew.cell? ((⟨gu, 0, none⟩ : Addr).add j) = some y := hS3.line.cells (g := gu) rfl
          have htn : qr.ts.length + m ≤ n := by rw [toksN_snoc] at hfit; omega
          clear HSN huT0
          gi_wp2_with fail
          have hmx : Try.prog.follows .mixedOrders = true := by kernel_rfl
          refine wpIn_mono (Q := fun e _ W' => e = .normal ∧ KeepsFrom W0.heap.size W W' ∧ LnKept (w.heap.size + 1) w.heap.size Y W' ∧ RowsI w (pre ++ [x]) W') ?reg7 ?cont7
          case cont7 =>
            rintro e a' W3 ⟨rfl, h1, h2, h3⟩
            gi_wp2
            exact ⟨h1, h2, h3⟩
          case reg7 =>
            have hS : (fun W' : World => W'.heap[w.heap.size]? = some (.cells #[.slice (some ⟨go, 0, none⟩) (r0.length + 1) cv] 63 (0, 0)) ∧ W'.heap[R]? = some (.cells #[.bool false, .string nm, .slice (some ⟨gu, 0, none⟩) m cu] 67 (0, 0))) W2.drew := ⟨hbL2, hR2⟩
            refine region_round (l := l) (fun W' : World => W'.heap[w.heap.size]? = some (.cells #[.slice (some ⟨go, 0, none⟩) (r0.length + 1) cv] 63 (0, 0)) ∧ W'.heap[R]? = some (.cells #[.bool false, .string nm, .slice (some ⟨gu, 0, none⟩) m cu] 67 (0, 0))) hmx (by kernel_rfl) (fun ⟨_, _, h⟩ => by cases h.1) ?_
            refine take_at (i := 0) (d := 30) (v := .slice (some ⟨go, 0, none⟩) (r0.length + 1) cv) rfl rfl (by kernel_rfl) (by kernel_rfl) (by kernel_rfl) (fun _ _ _ h => by cases h.1) (Or.inl ⟨by rfl, ?_⟩) hS ?_
            · rintro w' ⟨hq1, hq2⟩
              have e1 : w'.cell? ⟨w.heap.size, 0, none⟩ = _ := (show Boxed w' w.heap.size 63 _ from hq1).cell
              go_simp
            simp only [List.setIfInBounds_toArray, List.set_cons_zero, List.set_cons_succ]
            refine take_at (i := 1) (d := 31) (v := .int .i64 r0.length) rfl rfl (by kernel_rfl) (by kernel_rfl) (by kernel_rfl) (fun _ _ _ h => by cases h.1) (Or.inl ⟨by rfl, ?_⟩) hS ?_
            · rintro w' ⟨hq1, hq2⟩
              go_simp
            simp only [List.setIfInBounds_toArray, List.set_cons_zero, List.set_cons_succ]
            refine take_at (i := 2) (d := 32) (v := .slice (some ⟨go, 0, none⟩) (r0.length + 1) cv) rfl rfl (by kernel_rfl) (by kernel_rfl) (by kernel_rfl) (fun _ _ _ h => by cases h.1) (Or.inl ⟨by rfl, ?_⟩) hS ?_
            · rintro w' ⟨hq1, hq2⟩
              have e1 : w'.cell? ⟨w.heap.size, 0, none⟩ = _ := (show Boxed w' w.heap.size 63 _ from hq1).cell
              go_simp
            simp only [List.setIfInBounds_toArray, List.set_cons_zero, List.set_cons_succ]
            refine take_at (i := 3) (d := 33) (v := .int .i64 r0.length) rfl rfl (by kernel_rfl) (by kernel_rfl) (by kernel_rfl) (fun _ _ _ h => by cases h.1) (Or.inl ⟨by rfl, ?_⟩) hS ?_
            · rintro w' ⟨hq1, hq2⟩
              go_simp
            simp only [List.setIfInBounds_toArray, List.set_cons_zero, List.set_cons_succ]
            refine take_at (i := 4) (d := 34) (v := .pointer (some ⟨go, r0.length * 3, none⟩)) rfl rfl (by kernel_rfl) (by kernel_rfl) (by kernel_rfl) (fun _ _ _ h => by cases h.1) (Or.inl ⟨by rfl, ?_⟩) hS ?_
            · rintro w' ⟨hq1, hq2⟩
              go_simp
            simp only [List.setIfInBounds_toArray, List.set_cons_zero, List.set_cons_succ]
            refine take_at (i := 5) (d := 35) (v := .pointer (some ⟨go, r0.length * 3 + 2, none⟩)) rfl rfl (by kernel_rfl) (by kernel_rfl) (by kernel_rfl) (fun _ _ _ h => by cases h.1) (Or.inl ⟨by rfl, ?_⟩) hS ?_
            · rintro w' ⟨hq1, hq2⟩
              go_simp
            simp only [List.setIfInBounds_toArray, List.set_cons_zero, List.set_cons_succ]
            refine take_at (i := 7) (d := 37) (v := .pointer (some ⟨R, 2, none⟩)) rfl rfl (by kernel_rfl) (by kernel_rfl) (by kernel_rfl) (fun _ _ _ h => by cases h.1) (Or.inl ⟨by rfl, ?_⟩) hS ?_
            · rintro w' ⟨hq1, hq2⟩
              go_simp
            simp only [List.setIfInBounds_toArray, List.set_cons_zero, List.set_cons_succ]
            refine take_at (i := 8) (d := 38) (v := .slice (some ⟨gu, 0, none⟩) m cu) rfl rfl (by kernel_rfl) (by kernel_rfl) (by kernel_rfl) (fun _ _ _ h => by cases h.1) (Or.inl ⟨by rfl, ?_⟩) hS ?_
            · rintro w' ⟨hq1, hq2⟩
              obtain ⟨-, -, e1, -⟩ := row_facts hq2
              go_simp
            simp only [List.setIfInBounds_toArray, List.set_cons_zero, List.set_cons_succ]
            refine wpAnyH_ready (rs := [6]) (by kernel_rfl) (by simp) ?_
            refine AllReadyH.cons rfl (fun K hK => ?_) AllReadyH.nil
            have d2d : W2.drew.cell? ⟨go, r0.length * 3 + 2, none⟩ = some uq := d2
            go_simp
            refine hK.out _ _ hS (fun _ => ?_)
            clear hK K d2d
            refine wpAnyH_ready (rs := [9]) (by kernel_rfl) (by simp) ?_
            refine AllReadyH.cons rfl (fun K hK => ?_) AllReadyH.nil
            rw [if_pos (by rfl)]
            refine oper_fresh ET _ _ rfl w.heap.size uq qr.ts.length (tzCells qr.ts) rfl huT ⟨gu, 0, none⟩ m cu (tzCells rts) rfl (by rw [tzCells_len, HM.out]) hcl (tzCells_one _) (by unfold maxLen; omega) (by omega) hs2 ?_
            intro v6 w6 hL6 hg6 hf6
            have hbox6 : Boxed w6 w.heap.size 63 (.slice (some ⟨go, 0, none⟩) (r0.length + 1) cv) := KeepsT.grown_row hg6 huT (by decide) _ _ _ hbL2
            have hR6 : w6.heap[R]? = some (.cells #[.bool false, .string nm, .slice (some ⟨gu, 0, none⟩) m cu] 67 (0, 0)) := KeepsT.grown_row hg6 huT (by decide) _ _ _ hR2
            refine hK.out _ _ ⟨hbox6, hR6⟩ (fun hS => ?_)
            clear hK K
            simp only [Act.put, List.setIfInBounds_toArray, List.set_cons_zero, List.set_cons_succ]
            obtain ⟨a6, c6, rfl⟩ := row_shape hL6
            have hL6b : TokOwn w6 w.heap.size (.slice a6 (qr.ts.length + m) c6) (qr.ts ++ rts) := by unfold TokOwn; rw [List.length_append, tzCells_append', HM.out]; exact hL6
            obtain ⟨hS6, hrow6⟩ := hS3.last HL0.out hL6b hg6 hf6
            have dd : w6.cell? ⟨go, r0.length * 3 + 2, none⟩ = some uq := by obtain ⟨g9, h9, _, hc9⟩ := row_pos (Nat.succ_pos _) hrow6; cases h9; exact hc9 _ _ Z2.out
            have fz := hrow6.frozenAt (r0.length * 3 + 2)
            have hgo6 := row_blockB hrow6 (k := go) rfl
            clear hL6 hL6b hrow6
            refine take_at (i := 10) (d := 40) (v := .pointer (some ⟨go, r0.length * 3, none⟩)) rfl rfl (by kernel_rfl) (by kernel_rfl) (by kernel_rfl) (fun _ _ _ h => by cases h.1) (Or.inl ⟨by rfl, ?_⟩) hS ?_
            · rintro w' ⟨hq1, hq2⟩
              go_simp
            simp only [List.setIfInBounds_toArray, List.set_cons_zero, List.set_cons_succ]
            refine take_at (i := 11) (d := 41) (v := .pointer (some ⟨go, r0.length * 3 + 2, none⟩)) rfl rfl (by kernel_rfl) (by kernel_rfl) (by kernel_rfl) (fun _ _ _ h => by cases h.1) (Or.inl ⟨by rfl, ?_⟩) hS ?_
            · rintro w' ⟨hq1, hq2⟩
              go_simp
            simp only [List.setIfInBounds_toArray, List.set_cons_zero, List.set_cons_succ]
            refine wpAnyH_ready (rs := [12]) (by kernel_rfl) (by simp) ?_
            refine AllReadyH.cons rfl (fun K hK => ?_) AllReadyH.nil
            go_simp
            obtain ⟨cur6, fz6, hgo6⟩ := hgo6
            have hbox7 : Boxed (w6.setCell ⟨go, r0.length * 3 + 2, none⟩ (.slice a6 (qr.ts.length + m) c6)) w.heap.size 63 (.slice (some ⟨go, 0, none⟩) (r0.length + 1) cv) := keepsT_other hgo6 (by decide) _ _ _ _ hbox6
            refine hK.out _ _ ⟨hbox7, (Below.heap_setCell _ _ _ _ (show R ≠ go by omega)).trans hR6⟩ (fun _ => ?_)
            clear hK K
            refine wpAnyH_done (by kernel_rfl) ?_ _
            have hKO6 : KeepsOthers W2.drew w6 := KeepsOthers.of_grownBy hg6 (fun k o ek hk => by obtain ⟨cur, fz9, hh⟩ := row_blockB huT ek; rw [hh] at hk; cases hk; rfl)
            have hB6 : Below w.heap.size W2 (w6.setCell ⟨go, r0.length * 3 + 2, none⟩ (.slice a6 (qr.ts.length + m) c6)) := ((below_drewN (Below.refl w.heap.size W2) 1).grown hg6 hs2 (fun k e => (huT.lt k e).1)).setCell (p := ⟨go, r0.length * 3 + 2, none⟩) hgoB _
            refine ⟨rfl, hKO12.trans ((KeepsOthers.trans (A := W2) ⟨hKO6.size, hKO6.same⟩ (KeepsOthers.setCell _ _ _)).from _), hKY.then' (hBW2.trans hB6) (hK2.trans ((KeepsT.grown_row hg6 huT (by decide)).trans (keepsT_other hgo6 (by decide) _))) hB.size, ⟨_, vs0 ++ [.slice a6 (qr.ts.length + m) c6], hbox7, ?_⟩, hB2.trans hB6⟩
            rw [HSQ.out]
            exact hS6

end Go.Proofs.Ytaodjipnffgihaa

namespace Go.Proofs.Ytaodjipnffgihaa
open Go.RowKit Go.Shelf

/-- How great rows may be for lines. -/
def RowsFit (rs : List Rz) : Prop := ∀ r ∈ rs, r.ts.length * 48 ≤ 140737488355328 ∧ ∀ t ∈ r.ts, t.tx.size ≤ 281474976710656

/-- A slice of tokens in a block of the call's own (B and above) that may be written to. -/
def SaysAt (W : World) (B : Nat) (a : Option Addr) (ts : List Tz) : Prop := 0 < ts.length → ∃ (g o : Nat) (cur : Array Value), a = some ⟨g, o, none⟩ ∧ B ≤ g ∧ W.heap[g]? = some (.cells cur 49 (0, 0)) ∧ o + ts.length * 5 ≤ cur.size ∧ TzAt W g o ts
theorem SaysAt.in {W : World} {B : Nat} {a : Option Addr} {ts : List Tz} (h : SaysAt W B a ts) : TzIn W a ts := fun hp => by
  obtain ⟨g, o, cur, e, _, hc, _, ht⟩ := h hp
  exact ⟨g, o, e, (Array.getElem?_eq_some_iff.1 hc).1, ht⟩
theorem says_cut {W : World} {B g m cap : Nat} {L : List Tz} (h : W.ownsRow B 49 5 (.slice (some ⟨g, 0, none⟩) m cap) m (tzCells L)) (hm : L.length = m) (k : Nat) (hk : k ≤ m) : SaysAt W B (some ⟨g, k * 5, none⟩) (L.drop k) := fun hp => by
  obtain ⟨a, c, e, h1, h2, h3⟩ := tz_shape hm h
  cases e
  rw [List.length_drop] at hp ⊢
  obtain ⟨g', e', hg, hr⟩ := h1 (by omega)
  cases e'
  obtain ⟨cur, hc, hs⟩ := h2.own g rfl
  have := hr.at.drop k
  rw [Nat.zero_add] at this
  exact ⟨g, k * 5, cur, rfl, h3 g rfl, hc, by rw [hm]; omega, this⟩
theorem says_map {W : World} {B m cap : Nat} {a : Option Addr} {L : List Tz} (h : W.ownsRow B 49 5 (.slice a m cap) m (tzCells L)) (hm : L.length = m) (k : Nat) : SaysAt W B (a.map fun x => x.add (k * 5)) (L.drop k) := fun hp => by
  have hp2 := hp
  rw [List.length_drop] at hp2
  obtain ⟨g, rfl, _, _⟩ := row_pos (by omega) h
  have h2 := says_cut h hm k (by omega) hp
  have e : (Option.map (fun x : Addr => x.add (k * 5)) (some ⟨g, 0, none⟩)) = some ⟨g, k * 5, none⟩ := by
    rw [Option.map_some, Addr.add_lit, Nat.zero_add]
  rw [e]
  exact h2

set_option maxRecDepth 100000 in
set_option maxHeartbeats 2000000 in
theorem says_cap_any (r : Rz) (ta : Option Addr) (tcap : Nat) (w : World) (hl : r.ts.length * 48 ≤ 140737488355328) (hx : ∀ t ∈ r.ts, t.tx.size ≤ 281474976710656) (ht : TzIn w ta r.ts) :
    Calls Try.prog 34 #[.agg #[.bool r.d, .string r.nm, .slice ta r.ts.length tcap]] w fun e w' => (∃ a' cap', e = .returned (.slice a' (saysS r).length cap') ∧ (saysS r).length ≤ cap' ∧ SaysAt w' w.heap.size a' (saysS r)) ∧ Below w.heap.size w w' := by
  have hbw := below1 w (.cells #[.bool r.d, .string r.nm, .slice ta r.ts.length tcap] 67)
  have HB1 := bare_off r.ts r.ts.length tcap ta _ rfl hl hx (ht.below hbw)
  have HS := Lib.hid (saysS_ahead r)
  have HA := fun v w' => ahead_any r v w'
  have hA2 := aheadS_le r
  have hk := mcells (w := w) (vs := #[.bool r.d, .string r.nm, .slice ta r.ts.length tcap]) (t := 67)
  have k0 := hk 0 _ rfl
  have k1 := hk 1 _ rfl
  have k2 := hk 2 _ rfl
  have hwz : w.heap.size < (w.alloc (.cells #[.bool r.d, .string r.nm, .slice ta r.ts.length tcap] 67)).heap.size := by simp
  obtain ⟨S, hSS⟩ : ∃ S, saysS r = S := ⟨_, rfl⟩
  obtain ⟨A, hAA⟩ : ∃ A, aheadS r = A := ⟨_, rfl⟩
  have hLb : (bareL r).length ≤ 140737488355328 := by
    have := bareS_len r.ts
    unfold bareL; omega
  obtain ⟨L, hLL⟩ : ∃ L, bareL r = L := ⟨_, rfl⟩
  have hLL' := hLL
  unfold bareL at hLL'
  rw [hLL'] at HB1
  rw [hLL] at hLb
  rw [hSS, hAA, hLL] at HS
  rw [hAA] at HA hA2
  rw [hSS]
  clear hSS hAA hLL hLL' ht hk hx
  go_enter Try.func34, Try.ntmps34
  go_wp2_with fail
  refine HB1.mono ?_
  rintro e w1 ⟨⟨v1, rfl, ho1⟩, hb1⟩
  obtain ⟨a1, cap1, rfl⟩ := row_shape ho1
  have hcap := row_cap2 ho1
  have hB1 := hbw.trans (hb1.mono hbw.size)
  have e0 := (hb1.cell (p := ⟨w.heap.size, 0, none⟩) hwz).trans k0
  have e1 := (hb1.cell (p := ⟨w.heap.size, 1, none⟩) hwz).trans k1
  have e2 := (hb1.cell (p := ⟨w.heap.size, 2, none⟩) hwz).trans k2
  clear k0 k1 k2 HB1
  go_wp2_with fail
  refine (HA _ _).mono ?_
  rintro e w2 ⟨rfl, hb2⟩
  have hB2 := hB1.trans (hb2.mono hB1.size)
  have ho2 := row_below ho1 hb2
  clear e0 e1 e2 ho1 HA
  have hK : Hid (S.length = L.length - (min (A : Int) (L.length : Int)).toNat) := Lib.hid (by rw [HS.out, List.length_drop]; omega)
  have hD : Hid (S = L.drop (min (A : Int) (L.length : Int)).toNat) := Lib.hid (by
    rw [HS.out]
    by_cases h : A ≤ L.length
    · congr 1; omega
    · rw [List.drop_eq_nil_of_le (by omega), List.drop_eq_nil_of_le (by omega)])
  go_wp2
  · go_ret
    rw [hK.out]
    exact ⟨⟨_, _, rfl, by omega, fun hp => by rw [hK.out] at hp; omega⟩, hB2⟩
  · go_ret
    rw [hK.out]
    exact ⟨⟨_, _, rfl, by omega, by rw [hD.out]; exact says_map (row_base (b' := w.heap.size) (by simp) ho2) rfl _⟩, hB2⟩

theorem says_any (r : Rz) (ta : Option Addr) (tcap : Nat) (w : World) (hl : r.ts.length * 48 ≤ 140737488355328) (hx : ∀ t ∈ r.ts, t.tx.size ≤ 281474976710656) (ht : TzIn w ta r.ts) :
    Calls Try.prog 34 #[.agg #[.bool r.d, .string r.nm, .slice ta r.ts.length tcap]] w fun e w' => (∃ a' cap', e = .returned (.slice a' (saysS r).length cap') ∧ SaysAt w' w.heap.size a' (saysS r)) ∧ Below w.heap.size w w' := by
  refine (says_cap_any r ta tcap w hl hx ht).mono ?_
  rintro e w' ⟨⟨a', cap', h1, -, h2⟩, h3⟩
  exact ⟨⟨a', cap', h1, h2⟩, h3⟩

end Go.Proofs.Ytaodjipnffgihaa

namespace Go.Proofs.Ytaodjipnffgihaa

def partsFuel : Nat → List UInt8 → Nat → List Part
  | 0, _, _ => []
  | f + 1, l, k => if k < l.length then partAt l k :: partsFuel f l (k + partN (l.drop k)) else []

theorem partsFrom_fuel (l : List UInt8) : ∀ (f k : Nat), l.length - k ≤ f → partsFrom l k = partsFuel f l k
  | 0, k, h => by rw [partsFrom, dif_neg (by omega)]; rfl
  | f + 1, k, h => by
    rw [partsFrom]
    unfold partsFuel
    by_cases hk : k < l.length
    · have hp := partN_pos (l.drop k)
      rw [dif_pos hk, if_pos hk, partsFrom_fuel l f _ (by omega)]
    · rw [dif_neg hk, if_neg hk]

theorem parts_fuel (l : List UInt8) : parts l = partsFuel l.length l 0 := partsFrom_fuel l _ 0 (by omega)

end Go.Proofs.Ytaodjipnffgihaa

namespace Go.Proofs.Ytaodjipnffgihaa
open Go.RowKit Go.Shelf

/-- A text's tokens. -/
def tksOf (s : ByteArray) : List Tz := (scanOf s).map tzOf
theorem tks_err {s : ByteArray} (h : scanErr s ≠ 0) : tksOf s = [] := by
  unfold tksOf scanOf; rw [if_neg h]; rfl
theorem tks_fit (s : ByteArray) : (tksOf s).length ≤ 65536 ∧ ∀ t ∈ tksOf s, t.tx.size ≤ 65536 := by
  by_cases h : scanErr s = 0
  · have hc : checkN s.data.toList = 0 := by
      unfold scanErr at h
      by_cases hc : checkN s.data.toList = 0
      · exact hc
      · rw [if_neg hc] at h; exact absurd h hc
    have hsz : s.size ≤ 65536 := by
      rcases check_cases s.data.toList with ⟨_, h⟩ | h | h
      · rw [size_list] at h; exact h
      · rw [h] at hc; exact absurd hc (by decide)
      · rw [h] at hc; exact absurd hc (by decide)
    have hL := logB_size s
    have hcl := charsOf_le s.data.toList
    rw [size_list] at hcl
    have ho : scanOf s = (toksY (logB s)).map (srcY (charsOf s.data.toList)) := by unfold scanOf; rw [if_pos h]
    unfold tksOf
    rw [ho]
    refine ⟨?_, fun t ht => ?_⟩
    · rw [List.length_map, List.length_map]
      have := toksY_len (logB s)
      omega
    · rw [List.mem_map] at ht
      obtain ⟨y, hy, rfl⟩ := ht
      rw [List.mem_map] at hy
      obtain ⟨z, hz, rfl⟩ := hy
      unfold toksY at hz
      rw [List.mem_map] at hz
      obtain ⟨k, _, rfl⟩ := hz
      show ((logB s).extract k.a k.e).size ≤ 65536
      rw [ByteArray.size_extract]
      omega
  · rw [tks_err h]
    exact ⟨Nat.zero_le _, fun t h => by cases h⟩

/-! ### Reckoned by fuel -/
theorem checkN_fuelB (l : List UInt8) : checkN l = if 65536 < l.length then 3 else if (match (partsFuel l.length l 0).getLast? with | none => l == [] | some p => !p.sp && p.b == 10) then 0 else 10 := by
  unfold checkN wellB
  rw [parts_fuel]
  generalize (partsFuel l.length l 0).getLast? = o
  cases o <;> rfl
def checkF (l : List UInt8) : Int := if 65536 < l.length then 3 else if (match (partsFuel l.length l 0).getLast? with | none => l == [] | some p => !p.sp && p.b == 10) then 0 else 10
def charsF (l : List UInt8) : List Part := chs (partsFuel l.length l 0)
def logF (l : List UInt8) : List UInt8 := (charsF l).map (·.b)
def scanErrF (l : List UInt8) : Int := if checkF l = 0 then ((toks (logF l) 0 0).2 : Int) else checkF l
def scanOfF (l : List UInt8) : List Yd := if scanErrF l = 0 then (toksY ⟨(logF l).toArray⟩).map (srcY (charsF l)) else []
def tksF (l : List UInt8) : List Tz := (scanOfF l).map tzOf
theorem check_F (l : List UInt8) : checkN l = checkF l := checkN_fuelB l
theorem chars_F {l : List UInt8} (h : checkN l = 0) : charsOf l = charsF l := by rw [charsOf_ok h, parts_fuel]; rfl
theorem log_F {l : List UInt8} (h : checkN l = 0) : logicalOf l = logF l := by rw [logicalOf_ok h, parts_fuel]; rfl
theorem scanErr_F (s : ByteArray) : scanErr s = scanErrF s.data.toList := by
  unfold scanErr scanErrF
  rw [← check_F]
  by_cases h : checkN s.data.toList = 0
  · rw [if_pos h, if_pos h, log_F h]
  · rw [if_neg h, if_neg h]
theorem scanOf_F (s : ByteArray) : scanOf s = scanOfF s.data.toList := by
  unfold scanOf scanOfF
  rw [← scanErr_F]
  by_cases h : scanErr s = 0
  · have hc : checkN s.data.toList = 0 := by
      unfold scanErr at h
      by_cases hc : checkN s.data.toList = 0
      · exact hc
      · rw [if_neg hc] at h; exact absurd h hc
    rw [if_pos h, if_pos h, chars_F hc]
    unfold logB
    rw [log_F hc]
  · rw [if_neg h, if_neg h]
theorem tks_F (s : ByteArray) : tksOf s = tksF s.data.toList := by unfold tksOf tksF; rw [scanOf_F]

end Go.Proofs.Ytaodjipnffgihaa

namespace Go.Proofs.Ytaodjipnffgihaa
open Go.RowKit Go.Shelf

/-- scan.Scan for lines. -/
theorem scan_tz (s : ByteArray) (w : World) (hs : s.size ≤ maxLen) (hL : LibVar w) :
    Calls Try.prog 20 #[.string s] w fun e w' => (∃ a cap, e = .returned (.tuple #[.slice a (tksOf s).length cap, .int .i64 (scanErr s)]) ∧ (tksOf s).length ≤ cap ∧ TzIn w' a (tksOf s)) ∧ Below w.heap.size w w' := by
  refine (scan_any s w hs hL).mono ?_
  rintro e w' ⟨⟨v, rfl, hr⟩, hb⟩
  obtain ⟨a, cap, rfl⟩ := row_shape hr
  have hl : (tksOf s).length = (scanOf s).length := by unfold tksOf; rw [List.length_map]
  refine ⟨⟨a, cap, by rw [hl], by rw [hl]; exact row_cap2 hr, fun hp => ?_⟩, hb⟩
  obtain ⟨g, rfl, _, hg, ht⟩ := tokRow_of (by rw [← hl]; exact hp) hr
  exact ⟨g, 0, rfl, hg, ht.tz.at⟩

/-- The rows of a list, read. -/
theorem rows_in_any (n cap : Nat) (a : Option Addr) (w : World) (hn2 : n * 48 ≤ 140737488355328) (hnc : n ≤ cap) (ts : List Tz) (hn : ts.length = n) (hx : ∀ t ∈ ts, t.tx.size ≤ 281474976710656) (hT : TzIn w a ts) :
    Calls Try.prog 33 #[.slice a n cap] w fun e w' => (∃ a' cap', e = .returned (.slice a' (rowsS ts).length cap') ∧ (rowsS ts).length ≤ cap' ∧ RzIn w' a' (rowsS ts)) ∧ Below w.heap.size w w' := by
  refine (rows_any n cap a w hn2 hnc ts hn hx hT).mono ?_
  rintro e w' ⟨⟨v, vs, rfl, hS⟩, hb⟩
  have hc := hS.own.row
  obtain ⟨a', cap', rfl, h2⟩ := hS.own.at
  refine ⟨⟨a', cap', rfl, row_cap2 hc, fun hp => ?_⟩, hb⟩
  obtain ⟨g, e, _, hg, hr⟩ := h2 hp
  exact ⟨g, 0, e, hg, hr⟩

theorem rows_toks : ∀ (ls : List (List Tz)) (o : List Rz) (r : Rz) (t : Tz), r ∈ ls.foldl addLine o → t ∈ r.ts → (∃ q ∈ o, t ∈ q.ts) ∨ ∃ l ∈ ls, t ∈ l
  | [], o, r, t, h, ht => .inl ⟨r, h, ht⟩
  | l :: ls, o, r, t, h, ht => by
    rw [List.foldl_cons] at h
    rcases rows_toks ls _ r t h ht with ⟨q, hq, hqt⟩ | ⟨l', hl', h'⟩
    · unfold addLine at hq
      rcases List.eq_nil_or_concat o with rfl | ⟨o', p, rfl⟩
      · rw [addRow_new (.inr (.inl rfl))] at hq
        obtain rfl : q = rowOf l := by simpa using hq
        exact .inr ⟨l, List.mem_cons_self, hqt⟩
      · rw [List.concat_eq_append] at hq ⊢
        by_cases hc : (rowOf l).d = false ∧ p.d = false
        · rw [addRow_more hc.1 hc.2] at hq
          rcases List.mem_append.1 hq with hq | hq
          · exact .inl ⟨q, List.mem_append_left _ hq, hqt⟩
          · obtain rfl : q = _ := List.mem_singleton.1 hq
            rcases List.mem_append.1 hqt with h1 | h1
            · exact .inl ⟨p, by simp, h1⟩
            · exact .inr ⟨l, List.mem_cons_self, h1⟩
        · rw [addRow_new (by
            by_cases h1 : (rowOf l).d = true
            · exact .inl h1
            · refine .inr (.inr ⟨o', p, rfl, ?_⟩)
              by_cases h2 : p.d = true
              · exact h2
              · exact absurd ⟨Bool.eq_false_iff.2 h1, Bool.eq_false_iff.2 h2⟩ hc)] at hq
          rcases List.mem_append.1 hq with hq | hq
          · exact .inl ⟨q, hq, hqt⟩
          · obtain rfl : q = _ := List.mem_singleton.1 hq
            exact .inr ⟨l, List.mem_cons_self, hqt⟩
    · exact .inr ⟨l', List.mem_cons_of_mem _ hl', h'⟩
theorem toksN_mem : ∀ {rs : List Rz} {r : Rz}, r ∈ rs → r.ts.length ≤ toksN rs
  | q :: rs, r, h => by
    have e : toksN (q :: rs) = q.ts.length + toksN rs := by simp [toksN]
    rcases List.mem_cons.1 h with rfl | h
    · omega
    · have := toksN_mem h; omega
theorem toksN_rows (ts : List Tz) : toksN (rowsS ts) = ts.length := by
  unfold rowsS
  rw [toksN_lines, linesF_flat]
  show 0 + _ = _
  omega
/-- Rows of a list that fits fit. -/
theorem rows_fit {ts : List Tz} (hn2 : ts.length * 48 ≤ 140737488355328) (hx : ∀ t ∈ ts, t.tx.size ≤ 281474976710656) : RowsFit (rowsS ts) := fun r hr => by
  refine ⟨?_, fun t ht => ?_⟩
  · have h1 := toksN_mem hr
    rw [toksN_rows] at h1
    omega
  · rcases rows_toks (linesS ts) [] r t hr ht with ⟨q, hq, _⟩ | ⟨l, hl, hlt⟩
    · cases hq
    · refine hx t ?_
      rw [← linesF_flat ts]
      exact List.mem_flatten.2 ⟨l, hl, hlt⟩

def rowsT (s : ByteArray) : List Rz := rowsS (tksOf s)
theorem rowsT_fit (s : ByteArray) : RowsFit (rowsT s) ∧ (rowsT s).length ≤ 65536 := by
  obtain ⟨h1, h2⟩ := tks_fit s
  refine ⟨rows_fit (by omega) (fun t ht => Nat.le_trans (h2 t ht) (by decide)), ?_⟩
  have h3 := lines_len (linesS (tksOf s)) []
  have h4 : (linesS (tksOf s)).length ≤ (linesS (tksOf s)).flatten.length := by
    have : ∀ (ls : List (List Tz)), (∀ l ∈ ls, l ≠ []) → ls.length ≤ ls.flatten.length := by
      intro ls
      induction ls with
      | nil => intro _; exact Nat.le_refl _
      | cons l ls ih =>
        intro h
        have h1 := List.length_pos_iff.2 (h l List.mem_cons_self)
        have h2 := ih (fun q hq => h q (List.mem_cons_of_mem _ hq))
        rw [List.flatten_cons, List.length_append, List.length_cons]; omega
    exact this _ (linesF_ne _)
  rw [linesF_flat] at h4
  have h0 : ([] : List Rz).length = 0 := rfl
  unfold rowsT rowsS
  omega
theorem LibVar.low {w w' : World} (h : LibVar w) (hb : Below w.heap.size w w') : LibVar w' := libVar_below hb h

/-- What the law's says answers. -/
def sayN (rs : List Rz) (i : Nat) : Int := match rs[i]? with
  | some r => (saysS r).length
  | none => -1
end Go.Proofs.Ytaodjipnffgihaa
