/- The law ScanBares: its walk. -/
import Derived.Test.YtoepfehgimhmnaaBareR
import Derived.Laws.OwnMore
namespace Go.Proofs.Ytoepfehgimhmnaa
open Go.RowKit Go.Shelf

theorem bch {a b c : World} (h : Below a.heap.size a b) (h2 : Below b.heap.size b c) : Below a.heap.size a c := h.trans (h2.mono h.size)

/-- Only this row was written to. -/
structure Wrote (a : Option Addr) (T : TypeId) (n : Nat) (W W' : World) : Prop where
  size : W'.heap.size = W.heap.size
  own : ∀ g, a = some ⟨g, 0, none⟩ → ∃ cur, W'.heap[g]? = some (.cells cur T (0, 0)) ∧ n ≤ cur.size
  below : ∀ B, (∀ g, a = some ⟨g, 0, none⟩ → B ≤ g) → Below B W W'

theorem Wrote.set {g j n : Nat} {T : TypeId} {W W' : World} (h : Wrote (some ⟨g, 0, none⟩) T n W W') (u : Value) : Wrote (some ⟨g, 0, none⟩) T n W (W'.setCell ⟨g, j, none⟩ u) where
  size := by rw [← h.size]; simp [World.setCell]
  own := fun g' e => by
    obtain rfl : g = g' := by simpa using e
    obtain ⟨cur, h1, h2⟩ := h.own g rfl
    refine ⟨cur.setIfInBounds j u, ?_, by simpa using h2⟩
    simp [World.setCell, Array.getElem?_modify, h1]
  below := fun B hB => (h.below B hB).setCell (hB g rfl) u
theorem Wrote.cell {g j n : Nat} {T : TypeId} {W W' : World} (h : Wrote (some ⟨g, 0, none⟩) T n W W') (hj : j < n) : ∃ u, W'.cell? ⟨g, j, none⟩ = some u := by
  obtain ⟨cur, h1, h2⟩ := h.own g rfl
  rw [Lib.cell_of_heap h1]
  exact ⟨_, Array.getElem?_eq_getElem (by omega)⟩
theorem Wrote.frozen {g n : Nat} (j : Nat) {T : TypeId} {W W' : World} (h : Wrote (some ⟨g, 0, none⟩) T n W W') : W'.frozen? ⟨g, j, none⟩ = false := by
  obtain ⟨cur, h1, h2⟩ := h.own g rfl
  simp [World.frozen?, h1]

theorem tzCells_get {ys : List Tz} {k : Nat} {y : Tz} (h : ys[k]? = some y) (j : Nat) (hj : j < 5) : (tzCells ys)[k * 5 + j]? = (tzCell y)[j]? := by
  induction ys generalizing k with
  | nil => simp at h
  | cons q ys ih =>
    have hc : tzCells (q :: ys) = tzCell q ++ tzCells ys := by simp [tzCells, tzCell]
    cases k with
    | zero =>
      simp only [List.getElem?_cons_zero, Option.some.injEq] at h
      subst h
      rw [hc, List.getElem?_append_left (by simp [tzCell]; omega)]
      simp
    | succ k =>
      simp only [List.getElem?_cons_succ] at h
      rw [hc, List.getElem?_append_right (by simp [tzCell]; omega)]
      have : (k + 1) * 5 + j - (tzCell q).length = k * 5 + j := by simp [tzCell]; omega
      rw [this]
      exact ih h
theorem tzCells_len (ts : List Tz) : (tzCells ts).length = ts.length * 5 := by
  induction ts with
  | nil => rfl
  | cons t ts ih => simp only [tzCells, List.flatMap_cons, List.length_append, List.length_cons] at ih ⊢; rw [ih]; simp [tzCell]; omega
theorem tzCells_one (ts : List Tz) : ∀ u ∈ tzCells ts, u.oneCell' = true := by
  intro u hu
  unfold tzCells at hu
  rw [List.mem_flatMap] at hu
  obtain ⟨t, _, ht⟩ := hu
  simp only [tzCell, List.mem_cons, List.not_mem_nil, or_false] at ht
  rcases ht with rfl | rfl | rfl | rfl | rfl <;> rfl
theorem tzCells_at {W : World} {b o : Nat} {ts : List Tz} (h : TzAt W b o ts) : ∀ j u, (tzCells ts)[j]? = some u → W.cell? ((⟨b, o, none⟩ : Addr).add j) = some u := by
  intro j u hj
  have hlt := (List.getElem?_eq_some_iff.1 hj).1
  rw [tzCells_len] at hlt
  obtain ⟨t, ht⟩ : ∃ t, ts[j / 5]? = some t := ⟨_, List.getElem?_eq_getElem (by omega)⟩
  obtain ⟨c0, c1, c2, c3, c4⟩ := h _ t ht
  have hj2 : (tzCells ts)[j / 5 * 5 + j % 5]? = (tzCell t)[j % 5]? := tzCells_get ht _ (Nat.mod_lt _ (by decide))
  rw [show j / 5 * 5 + j % 5 = j by omega, hj] at hj2
  have ha : (⟨b, o, none⟩ : Addr).add j = ⟨b, o + j / 5 * 5 + j % 5, none⟩ := by
    unfold Addr.add
    split
    · congr 1; omega
    · congr 1; simp only []; omega
  rw [ha]
  have h5 : j % 5 < 5 := Nat.mod_lt _ (by decide)
  generalize j % 5 = r at *
  match r, h5, hj2 with
  | 0, _, hj2 => cases hj2; exact c0
  | 1, _, hj2 => cases hj2; exact c1
  | 2, _, hj2 => cases hj2; exact c2
  | 3, _, hj2 => cases hj2; exact c3
  | 4, _, hj2 => cases hj2; exact c4

/-- A row of tokens that the call owns. -/
theorem tz_shape {W : World} {base n : Nat} {v : Value} {ts : List Tz} (hn : ts.length = n) (h : W.ownsRow base 34 5 v n (tzCells ts)) : ∃ a cap, v = .slice a n cap ∧ (0 < n → ∃ g, a = some ⟨g, 0, none⟩ ∧ g < W.heap.size ∧ TzRow W g ts) ∧ Wrote a 34 (n * 5) W W ∧ (∀ g, a = some ⟨g, 0, none⟩ → base ≤ g) := by
  subst hn
  rcases h.2 with ⟨rfl, h0⟩ | ⟨g, cap, cur, rfl, hg, hh, hc1, hc2, hc3, hc4⟩
  · exact ⟨none, 0, by rw [h0], fun hp => by omega, ⟨rfl, (fun g e => by cases e), fun _ _ => Below.refl _ _⟩, (fun g e => by cases e)⟩
  · refine ⟨some ⟨g, 0, none⟩, cap, rfl, fun _ => ⟨g, rfl, (Array.getElem?_eq_some_iff.1 hh).1, fun i t ht => ?_⟩, ⟨rfl, fun g' e => ?_, fun _ _ => Below.refl _ _⟩, fun g' e => ?_⟩
    · have hc : ∀ j u, (tzCells ts)[j]? = some u → W.cell? ⟨g, j, none⟩ = some u := fun j u hj => by
        have := h.cells (g := g) rfl j u hj
        rcases j with _ | j <;> simpa [Addr.add] using this
      exact ⟨hc _ _ (tzCells_get ht 0 (by decide)), hc _ _ (tzCells_get ht 1 (by decide)), hc _ _ (tzCells_get ht 2 (by decide)), hc _ _ (tzCells_get ht 3 (by decide)), hc _ _ (tzCells_get ht 4 (by decide))⟩
    · obtain rfl : g = g' := by simpa using e
      exact ⟨cur, hh, by rw [hc3]; exact Nat.mul_le_mul_right 5 hc1⟩
    · obtain rfl : g = g' := by simpa using e
      exact hg

theorem row_zero {W : World} {b n z : Nat} {e : TypeId} {v : Value} {xs : List Value} (h : W.ownsRow b e z v (0 + n) ([] ++ xs)) : W.ownsRow b e z v n xs := by
  rw [Nat.zero_add] at h; exact h

/-- scan.Bare, its row laid open. -/
theorem bare_at {ts bs : List Tz} {n m cap : Nat} {a : Option Addr} {w : World} (hbs : (bareS ts).1 = bs) (hm : bs.length = m) (hn : ts.length = n) (hn2 : n * 48 ≤ 140737488355328) (ht : ∀ t ∈ ts, t.tx.size ≤ 281474976710656)
    (hT : 0 < n → ∃ g, a = some ⟨g, 0, none⟩ ∧ g < w.heap.size ∧ TzRow w g ts) :
    Calls Try.prog 13 #[.slice a n cap] w fun e w' => (∃ a' cap', e = .returned (.slice a' m cap') ∧ (0 < m → ∃ g, a' = some ⟨g, 0, none⟩ ∧ g < w'.heap.size ∧ TzRow w' g bs) ∧ Wrote a' 34 (m * 5) w' w' ∧ (∀ g, a' = some ⟨g, 0, none⟩ → w.heap.size ≤ g)) ∧ Below w.heap.size w w' := by
  refine (bare_any ts n cap a w hn hn2 ht hT).mono ?_
  rintro e w1 ⟨⟨v, rfl, hr⟩, hb⟩
  rw [hbs, hm] at hr
  obtain ⟨a', cap', rfl, h1, h2, h3⟩ := tz_shape hm hr
  exact ⟨⟨a', cap', rfl, h1, h2, h3⟩, hb⟩
theorem rbare_at {ts bs : List Tz} {n m cap : Nat} {a : Option Addr} {w : World} (hbs : (bareS ts).1 = bs) (hm : bs.length = m) (hn : ts.length = n) (hn2 : n * 48 ≤ 140737488355328)
    (hT : 0 < n → ∃ b o, a = some ⟨b, o, none⟩ ∧ b < w.heap.size ∧ TzAt w b o ts) :
    Calls Try.prog 14 #[.slice a n cap] w fun e w' => (∃ a' cap', e = .returned (.slice a' m cap') ∧ (0 < m → ∃ g, a' = some ⟨g, 0, none⟩ ∧ g < w'.heap.size ∧ TzRow w' g bs)) ∧ Below w.heap.size w w' := by
  refine (rbare_any ts n cap a w hn hn2 hT).mono ?_
  rintro e w1 ⟨⟨v, rfl, hr⟩, hb⟩
  rw [hbs, hm] at hr
  obtain ⟨a', cap', rfl, h1, _, _⟩ := tz_shape hm hr
  exact ⟨⟨a', cap', rfl, h1⟩, hb⟩

set_option maxRecDepth 100000 in
set_option maxHeartbeats 4000000 in
theorem bares_some (ts : List Tz) (n cap : Nat) (ad : Addr) (w : World) (hn : ts.length = n) (hn2 : n * 48 ≤ 140737488355328) (ht : ∀ t ∈ ts, t.tx.size ≤ 281474976710656)
    (hT : 0 < n → ∃ b o, ad = ⟨b, o, none⟩ ∧ b < w.heap.size ∧ TzAt w b o ts) :
    Calls Try.prog 4 #[.slice (some ad) n cap] w fun e w' => e = .returned (.bool true) ∧ Below w.heap.size w w' := by
  obtain ⟨i0, hi, hz0, hz1, hz2⟩ := info_parts infoTz
  have hlen : (tzCells ts).length = n * 5 := by rw [tzCells_len, hn]
  have hone := Lib.hid (tzCells_one ts)
  have hnews : ∀ o : Obj, ∀ j u, (tzCells ts)[j]? = some u → (w.alloc o).cell? (ad.add j) = some u := by
    intro o j u hj
    have hlt := (List.getElem?_eq_some_iff.1 hj).1
    obtain ⟨b, q, rfl, hb, hr⟩ := hT (by omega)
    exact tzCells_at (hr.below (below1 w o) hb) j u hj
  have HNW := Lib.hid hnews
  have HLN := Lib.hid hlen
  have HN := Lib.hid hn
  have HT := Lib.hid hT
  have HX := Lib.hid ht
  obtain ⟨bs, hbs⟩ : ∃ bs, (bareS ts).1 = bs := ⟨_, rfl⟩
  obtain ⟨m, hm⟩ : ∃ m, bs.length = m := ⟨_, rfl⟩
  have hmn : m ≤ n := by
    have := bareS_len ts
    rw [hbs, hm, hn] at this; exact this
  have HBS := Lib.hid hbs
  have HM := Lib.hid hm
  clear hn hT ht hnews hlen hbs hm
  go_enter Try.func4, Try.ntmps4
  go_wp2_with (first
    | (at_builtin; refine wpList_append_own _ rfl _ _ 30 rfl w.heap.size 34 i0 (.agg #[.int .i64 0, .string ⟨#[]⟩, .int .i64 0, .int .i64 0, .bool false]) 5 48 Try.underlying30 hi hz0 hz1 hz2 rfl (by decide) _ _ _ rfl (World.ownsRow_lit w #[] 0 (Nat.le_refl _) (Nat.zero_le _) rfl) ad n cap (tzCells ts) rfl HLN.out (HNW.out _) hone.out (by unfold maxLen; omega) (by omega) (by simp) ?_; intro v' w1 hown hgrow hn3; clear hn3; have hb1 := ((Below.refl w.heap.size w).alloc (Nat.le_refl _) (.cells #[] 34)).grown hgrow (by simp) (fun j e => ((World.ownsRow_lit (base := w.heap.size) (e := 34) (size := 5) w #[] 0 (Nat.le_refl _) (Nat.zero_le _) rfl).lt j e).1); obtain ⟨a1, cap1, rfl, hs1, hw1, hg1⟩ := tz_shape HN.out (row_zero hown); clear hown hgrow hw1 hg1)
    | fail)
  have HS1 := Lib.hid hs1
  clear hs1
  refine (bare_at HBS.out HM.out HN.out hn2 HX.out HS1.out).mono ?_
  rintro e w2 ⟨⟨a2, cap2, rfl, hs2, hw2, hg2⟩, hb2⟩
  have HS2 := Lib.hid hs2
  have HW2 := Lib.hid hw2
  have HG2 := Lib.hid hg2
  have hc2 := bch hb1 hb2
  clear hs2 hw2 hg2
  go_wp2_with fail
  refine (rbare_at HBS.out HM.out HN.out hn2 (fun h => ?_)).mono ?_
  · obtain ⟨b, o, rfl, hb, hr⟩ := HT.out h
    exact ⟨b, o, rfl, Nat.lt_of_lt_of_le hb hc2.size, hr.below hc2 hb⟩
  rintro e w3 ⟨⟨a3, cap3, rfl, hs3⟩, hb3⟩
  have HS3 := Lib.hid hs3
  have hc3 := bch hc2 hb3
  clear hs3
  go_wp2_with fail
  refine (same_any bs m cap2 cap3 a2 a3 w3 HM.out (by unfold maxLen; omega) (fun h => ?_) (fun h => ?_)).mono ?_
  · obtain ⟨g, rfl, hg, hr⟩ := HS2.out h
    exact ⟨g, 0, rfl, (hr.below hb3 hg).at⟩
  · obtain ⟨g, rfl, hg, hr⟩ := HS3.out h
    exact ⟨g, 0, rfl, hr.at⟩
  rintro e w4 ⟨rfl, q, rfl⟩
  have hW3 : Wrote a2 34 (m * 5) w3 w3 := ⟨rfl, fun g e => by
    obtain ⟨cur, h1, h2⟩ := HW2.out.own g e
    exact ⟨cur, (hb3.block g (Array.getElem?_eq_some_iff.1 h1).1).trans h1, h2⟩, fun _ _ => Below.refl _ _⟩
  go_wp2
  go_loopw [6] (fun i wx => ∃ k : Nat, k ≤ m ∧ i = .int .i64 k ∧ Wrote a2 34 (m * 5) w3 wx) (fun i _ => m - (intOf i).toNat)
  case atStart => exact ⟨0, Nat.zero_le _, rfl, ⟨hW3.size, hW3.own, fun B h => below_drewN (hW3.below B h) q⟩⟩
  case round =>
    obtain ⟨k, hk, rfl, hW⟩ := hrel
    by_cases hlt : k < m
    · obtain ⟨g, rfl, _, _⟩ := HS2.out (by omega)
      obtain ⟨u0, d0⟩ := hW.cell (j := k * 5) (by omega)
      obtain ⟨u1, d1⟩ := hW.cell (j := k * 5 + 1) (by omega)
      obtain ⟨u2, d2⟩ := hW.cell (j := k * 5 + 2) (by omega)
      obtain ⟨u3, d3⟩ := hW.cell (j := k * 5 + 3) (by omega)
      obtain ⟨u4, d4⟩ := hW.cell (j := k * 5 + 4) (by omega)
      have f0 := hW.frozen (k * 5)
      have f1 := hW.frozen (k * 5 + 1)
      have f2 := hW.frozen (k * 5 + 2)
      have f3 := hW.frozen (k * 5 + 3)
      have f4 := hW.frozen (k * 5 + 4)
      have j1 : (k : Int) < (m : Int) := by omega
      have j0 : (0 : Int) ≤ (k : Int) := by omega
      go_wp2
      refine ⟨⟨k + 1, by omega, by go_num, ((((hW.set _).set _).set _).set _).set _⟩, ?_⟩
      simp [intOf]; omega
    · obtain rfl : k = m := by omega
      have hbx : Below w1.heap.size w3 wr := hW.below w1.heap.size HG2.out
      have hc4 : Below w.heap.size w wr := hc3.trans (hbx.mono hb1.size)
      have hd4 : Below w1.heap.size w1 wr := (bch hb2 hb3).trans hbx
      go_wp2_with fail
      refine (same_any ts n cap1 cap a1 (some ad) wr HN.out (by unfold maxLen; omega) (fun h => ?_) (fun h => ?_)).mono ?_
      · obtain ⟨g, rfl, hg, hr⟩ := HS1.out h
        exact ⟨g, 0, rfl, (hr.below hd4 hg).at⟩
      · obtain ⟨b, o, rfl, hb, hr⟩ := HT.out h
        exact ⟨b, o, rfl, hr.below hc4 hb⟩
      rintro e w5 ⟨rfl, q5, rfl⟩
      go_wp2
      go_ret
      exact ⟨rfl, below_drewN hc4 q5⟩

set_option maxRecDepth 100000 in
set_option maxHeartbeats 1000000 in
theorem bares_nil (w : World) :
    Calls Try.prog 4 #[.slice none 0 0] w fun e w' => e = .returned (.bool true) ∧ Below w.heap.size w w' := by
  have C1 := fun (a : Option Addr) (cap : Nat) (w' : World) => bare_at (ts := []) (bs := []) (n := 0) (m := 0) (cap := cap) (a := a) (w := w') rfl rfl rfl (by decide) (fun t h => by cases h) (fun h => absurd h (by decide))
  have C2 := fun (a : Option Addr) (cap : Nat) (w' : World) => rbare_at (ts := []) (bs := []) (n := 0) (m := 0) (cap := cap) (a := a) (w := w') rfl rfl rfl (by decide) (fun h => absurd h (by decide))
  have C3 := fun (a1 a2 : Option Addr) (c1 c2 : Nat) (w' : World) => same_any [] 0 c1 c2 a1 a2 w' rfl (Nat.zero_le _) (fun h => absurd h (by decide)) (fun h => absurd h (by decide))
  have HC := Lib.hid (show _ ∧ _ ∧ _ from ⟨C1, C2, C3⟩)
  clear C1 C2 C3
  have hb1 := below1 w (.cells #[] 34)
  go_enter Try.func4, Try.ntmps4
  go_wp2_with fail
  refine (HC.out.1 _ _ _).mono ?_
  rintro e w2 ⟨⟨a2, cap2, rfl, -, -, -⟩, hb2⟩
  have hc2 := bch hb1 hb2
  go_wp2_with fail
  refine (HC.out.2.1 _ _ _).mono ?_
  rintro e w3 ⟨⟨a3, cap3, rfl, -⟩, hb3⟩
  have hc3 := bch hc2 hb3
  go_wp2_with fail
  refine (HC.out.2.2 _ _ _ _ _).mono ?_
  rintro e w4 ⟨rfl, q, rfl⟩
  go_wp2
  go_loopw [6] (fun i wx => i = .int .i64 0 ∧ wx = w3.drewN q) (fun i _ => 0)
  case atStart => exact ⟨rfl, rfl⟩
  case round =>
    obtain ⟨rfl, rfl⟩ := hrel
    go_wp2_with fail
    refine (HC.out.2.2 _ _ _ _ _).mono ?_
    rintro e w5 ⟨rfl, q5, rfl⟩
    go_wp2
    go_ret
    exact ⟨rfl, below_drewN hc3 (q + q5)⟩

end Go.Proofs.Ytoepfehgimhmnaa
