/- The law LinesTells: its walk. -/
import Derived.Test.YtpomcdolpmbhdaaLnHelp
import Derived.Test.YtpomcdolpmbhdaaRowsW
import Derived.IntWalk
import Derived.Deep.LoopGhost
import Derived.Deep.DeepCutAuto
import Derived.BigQuiet
import Derived.Deep.QuietTactic
namespace Go.Proofs.Ytpomcdolpmbhdaa
open Go.RowKit Go.Shelf

/-- Blocks from B on that were there are as they were: so are rows that lie in them. -/
theorem ownsRow_range {W W' : World} {B z n : Nat} {e : TypeId} {v : Value} {xs : List Value} (h : W.ownsRow B e z v n xs) (hk : ∀ k, B ≤ k → k < W.heap.size → W'.heap[k]? = W.heap[k]?) : W'.ownsRow B e z v n xs := by
  refine ⟨h.1, ?_⟩
  rcases h.2 with h2 | ⟨g, cap, cur, hv, hg, hh, r⟩
  · exact .inl h2
  · exact .inr ⟨g, cap, cur, hv, hg, (hk g hg (Array.getElem?_eq_some_iff.1 hh).1).trans hh, r⟩
theorem OwnRz.range {W W' : World} {B : Nat} {v : Value} {rs : List Rz} {vs : List Value} (h : OwnRz W B v rs vs) (hk : ∀ k, B ≤ k → k < W.heap.size → W'.heap[k]? = W.heap[k]?) : OwnRz W' B v rs vs :=
  ⟨h.len, ownsRow_range h.row hk, fun i r u h1 h2 => ownsRow_range (h.ts i r u h1 h2) hk⟩

/-- A made list of tokens that may be written over. -/
def OkAt (W : World) (B : Nat) (a : Option Addr) (n : Nat) : Prop := 0 < n → ∃ (g o : Nat) (cur : Array Value), a = some ⟨g, o, none⟩ ∧ B ≤ g ∧ W.heap[g]? = some (.cells cur 31 (0, 0)) ∧ o + n * 5 ≤ cur.size
theorem okAt_set {W : World} {g i n o : Nat} {cur : Array Value} (u : Value) (h : W.heap[g]? = some (.cells cur 31 (0, 0))) (hs : o + n * 5 ≤ cur.size) : ∃ cur', (W.setCell ⟨g, i, none⟩ u).heap[g]? = some (.cells cur' 31 (0, 0)) ∧ o + n * 5 ≤ cur'.size :=
  ⟨cur.setIfInBounds i u, by simp [World.setCell, Array.getElem?_modify, h], by simpa using hs⟩
theorem okAt_cell {W : World} {g j n : Nat} {cur : Array Value} (h : W.heap[g]? = some (.cells cur 31 (0, 0))) (hs : n ≤ cur.size) (hj : j < n) : ∃ u, W.cell? ⟨g, j, none⟩ = some u := by
  rw [Lib.cell_of_heap h]
  exact ⟨_, Array.getElem?_eq_getElem (by omega)⟩
theorem okAt_free {W : World} {g : Nat} (j : Nat) {cur : Array Value} (h : W.heap[g]? = some (.cells cur 31 (0, 0))) : W.frozen? ⟨g, j, none⟩ = false := by
  simp [World.frozen?, h]

/-! ### The program's rows, the first ones of them written over -/
theorem rzVals_setAt : ∀ (rs : List Rz) (vs : List Value) (i : Nat) (u : Value), rs.length = vs.length → (rzVals rs vs).set (i * 3 + 2) u = rzVals rs (vs.set i u)
  | [], [], i, u, _ => rfl
  | r :: rs, v :: vs, 0, u, h => by rw [rzVals, List.set_cons_zero, rzVals]; rfl
  | r :: rs, v :: vs, i + 1, u, h => by
    rw [List.set_cons_succ, rzVals, rzVals, ← rzVals_setAt rs vs i u (by simpa using h)]
    rw [show (i + 1) * 3 + 2 = 3 + (i * 3 + 2) by omega]
    rw [List.set_append_right _ _ (by simp), show 3 + (i * 3 + 2) - [Value.bool r.d, .string r.nm, v].length = i * 3 + 2 by simp]
structure TelA (B : Nat) (W : World) (v : Value) (rs : List Rz) (vs : List Value) (i : Nat) : Prop where
  row : ∃ vs', vs'.length = rs.length ∧ W.ownsRow B 28 3 v rs.length (rzVals rs vs') ∧ ∀ j, i ≤ j → vs'[j]? = vs[j]?
  ts : ∀ j r u, i ≤ j → rs[j]? = some r → vs[j]? = some u → TokOwn W B u r.ts
theorem TelA.start {B : Nat} {W : World} {v : Value} {rs : List Rz} {vs : List Value} (h : OwnRz W B v rs vs) : TelA B W v rs vs 0 :=
  ⟨⟨vs, h.len.symm, h.row, fun _ _ => rfl⟩, fun j r u _ h1 h2 => h.ts j r u h1 h2⟩
/-- The i-th row's tokens have become others, which lie apart from the rows to come. -/
theorem TelA.next {B g cap i : Nat} {W W1 W2 : World} {rs : List Rz} {vs : List Value} {u u' : Value} {r : Rz} {xs : List Value} {n : Nat} (h : TelA B W (.slice (some ⟨g, 0, none⟩) rs.length cap) rs vs i) (hr : rs[i]? = some r) (hu : vs[i]? = some u)
    (hsep : ∀ (i j : Nat) (x y : Value), i ≠ j → vs[i]? = some x → vs[j]? = some y → Apart2 x y) (hg : W.grownBy W1 u.ownBlock) (hf : Fresh W u u') (hg2 : (W1.setCell ⟨g, i * 3 + 2, none⟩ u').grownBy W2 u'.ownBlock)
    (ho' : W1.ownsRow B 31 5 u' n xs) : TelA B W2 (.slice (some ⟨g, 0, none⟩) rs.length cap) rs vs (i + 1) := by
  obtain ⟨vs', hl, hrow, hv⟩ := h.row
  have huT := h.ts i r u (Nat.le_refl _) hr hu
  have hrow1 := ownsRow_keepsT hrow (KeepsT.grown_row hg huT (by decide))
  obtain ⟨hrow2, hgs⟩ := hrow1.stored (i * 3 + 2) u'
  rw [rzVals_setAt _ _ _ _ hl.symm] at hrow2
  have hblk : ∃ c fz, W1.heap[g]? = some (.cells c 28 fz) := row_blockB hrow1 rfl
  obtain ⟨c, fz, hblk⟩ := hblk
  have ho2 : (W1.setCell ⟨g, i * 3 + 2, none⟩ u').ownsRow B 31 5 u' n xs := ownsRow_keepsT ho' (keepsT_other hblk (by decide) u')
  have hK2 : KeepsT 28 (W1.setCell ⟨g, i * 3 + 2, none⟩ u') W2 := KeepsT.grown_row hg2 ho2 (by decide)
  refine ⟨⟨vs'.set i u', by rw [List.length_set, hl], ownsRow_keepsT hrow2 hK2, fun j hj => ?_⟩, fun j q x hj hq hx => ?_⟩
  · rw [List.getElem?_set_ne (by omega)]; exact hv j (by omega)
  · have hA : Apart2 u x := hsep i j u x (by omega) hu hx
    have hxT := h.ts j q x (by omega) hq hx
    have h1 : TokOwn W1 B x q.ts := hA.kept hxT hg
    have h2 : TokOwn (W1.setCell ⟨g, i * 3 + 2, none⟩ u') B x q.ts := ownsRow_keepsT h1 (keepsT_other hblk (by decide) u')
    exact (hA.fresh hf (fun g e => (hxT.lt g e).2)).kept h2 hg2

theorem grown_trans {A B C : World} {g : Option Nat} (h : A.grownBy B g) (k : B.grownBy C g) : A.grownBy C g :=
  ⟨k.os.trans h.os, k.tape.trans h.tape, k.output.trans h.output, Nat.le_trans h.size k.size, fun b hb hne => (k.block b (Nat.lt_of_lt_of_le hb h.size) hne).trans (h.block b hb hne)⟩
theorem grown_refl (A : World) (g : Option Nat) : A.grownBy A g := ⟨rfl, rfl, rfl, Nat.le_refl _, fun _ _ _ => rfl⟩
/-- A row that is written over, cell by cell. -/
theorem stored5 {W : World} {B g n cap : Nat} {xs : List Value} (h : W.ownsRow B 31 5 (.slice (some ⟨g, 0, none⟩) n cap) n xs) (a b c d e : Value) (i0 i1 i2 i3 i4 : Nat) :
    (∃ ys, (((((W.setCell ⟨g, i0, none⟩ a).setCell ⟨g, i1, none⟩ b).setCell ⟨g, i2, none⟩ c).setCell ⟨g, i3, none⟩ d).setCell ⟨g, i4, none⟩ e).ownsRow B 31 5 (.slice (some ⟨g, 0, none⟩) n cap) n ys) ∧
      W.grownBy (((((W.setCell ⟨g, i0, none⟩ a).setCell ⟨g, i1, none⟩ b).setCell ⟨g, i2, none⟩ c).setCell ⟨g, i3, none⟩ d).setCell ⟨g, i4, none⟩ e) (some g) := by
  obtain ⟨h0, g0⟩ := h.stored i0 a
  obtain ⟨h1, g1⟩ := h0.stored i1 b
  obtain ⟨h2, g2⟩ := h1.stored i2 c
  obtain ⟨h3, g3⟩ := h2.stored i3 d
  obtain ⟨h4, g4⟩ := h3.stored i4 e
  exact ⟨⟨_, h4⟩, grown_trans (grown_trans (grown_trans (grown_trans g0 g1) g2) g3) g4⟩
theorem TelA.below {B : Nat} {W W' : World} {v : Value} {rs : List Rz} {vs : List Value} {i : Nat} (h : TelA B W v rs vs i) (hb : Below W.heap.size W W') : TelA B W' v rs vs i := by
  obtain ⟨vs', hl, hrow, hv⟩ := h.row
  exact ⟨⟨vs', hl, row_below hrow hb, hv⟩, fun j r u h1 h2 h3 => row_below (h.ts j r u h1 h2 h3) hb⟩
theorem own_in {W : World} {B n cap : Nat} {a : Option Addr} {rs : List Rz} {vs : List Value} (h : OwnRz W B (.slice a n cap) rs vs) : RzIn W a rs := by
  obtain ⟨a', cap', e, h2⟩ := h.at
  cases e
  intro hp
  obtain ⟨g, e2, _, hg, hr⟩ := h2 hp
  exact ⟨g, 0, e2, hg, hr⟩
theorem rowsS_len (ts : List Tz) : (rowsS ts).length ≤ ts.length := by
  have h3 := lines_len (linesS ts) []
  have h4 : (linesS ts).length ≤ (linesS ts).flatten.length := by
    have : ∀ (ls : List (List Tz)), (∀ l ∈ ls, l ≠ []) → ls.length ≤ ls.flatten.length := by
      intro ls
      induction ls with
      | nil => intro _; exact Nat.le_refl _
      | cons l ls ih =>
        intro h
        have h1 := List.length_pos_iff.2 (h l List.mem_cons_self)
        have h2 := ih (fun q hq => h q (List.mem_cons_of_mem _ hq))
        rw [List.flatten_cons, List.length_append, List.length_cons]; omega
    exact this _ (linesF_ne _)
  rw [linesF_flat] at h4
  have h0 : ([] : List Rz).length = 0 := rfl
  unfold rowsS
  omega

theorem quiet_at {P : Program} {f : FuncId} {args : Array Value} {w : World} {x : Nat} {v : Value} (h : Calls P f args (w.drewN x) fun e w' => e = .returned v ∧ ∃ q, w' = (w.drewN x).drewN q) :
    Calls P f args (w.drewN x) fun e w'' => e = .returned v ∧ ∃ n, w'' = w.drewN n := h.mono fun _ _ ⟨he, q, hm⟩ => ⟨he, x + q, by rw [hm, World.drewN_drewN]⟩
theorem saysS_lenT (r : Rz) : (saysS r).length ≤ r.ts.length := by
  have h := bareS_len r.ts
  unfold saysS bareL
  split
  · split
    · rw [List.length_drop]; omega
    · rw [List.length_drop]; omega
  · exact h

theorem TelA.cellAt {B cap i : Nat} {W : World} {a : Option Addr} {rs : List Rz} {vs : List Value} {r : Rz} {u : Value} (h : TelA B W (.slice a rs.length cap) rs vs i) (hr : rs[i]? = some r) (hu : vs[i]? = some u) :
    ∃ g, a = some ⟨g, 0, none⟩ ∧ B ≤ g ∧ W.cell? ⟨g, i * 3 + 2, none⟩ = some u ∧ W.frozen? ⟨g, i * 3 + 2, none⟩ = false := by
  obtain ⟨vs', hl, hrow, hv⟩ := h.row
  have hp : 0 < rs.length := Nat.lt_of_le_of_lt (Nat.zero_le _) (List.getElem?_eq_some_iff.1 hr).1
  obtain ⟨g, rfl, _, hc⟩ := row_pos hp hrow
  exact ⟨g, rfl, (hrow.lt g rfl).1, hc _ _ (rzVals_get hr ((hv i (Nat.le_refl _)).trans hu)).2.2, hrow.frozenAt _⟩
/-- The i-th row's tokens are laid elsewhere: what is known at once, and behind what is written there. -/
theorem TelA.put {B g cap i : Nat} {W W1 : World} {rs : List Rz} {vs : List Value} {u u' : Value} {r : Rz} {xs : List Value} {n : Nat} (h : TelA B W (.slice (some ⟨g, 0, none⟩) rs.length cap) rs vs i) (hr : rs[i]? = some r) (hu : vs[i]? = some u)
    (hsep : ∀ (i j : Nat) (x y : Value), i ≠ j → vs[i]? = some x → vs[j]? = some y → Apart2 x y) (hg : W.grownBy W1 u.ownBlock) (hf : Fresh W u u') (ho' : W1.ownsRow B 31 5 u' n xs) :
    W1.frozen? ⟨g, i * 3 + 2, none⟩ = false ∧ W1.cell? ⟨g, i * 3 + 2, none⟩ = some u ∧ (W1.setCell ⟨g, i * 3 + 2, none⟩ u').ownsRow B 31 5 u' n xs ∧
      ∀ W2, (W1.setCell ⟨g, i * 3 + 2, none⟩ u').grownBy W2 u'.ownBlock → W2.cell? ⟨g, i * 3 + 2, none⟩ = some u' ∧ TelA B W2 (.slice (some ⟨g, 0, none⟩) rs.length cap) rs vs (i + 1) := by
  obtain ⟨vs', hl, hrow, hv⟩ := h.row
  have hp : 0 < rs.length := Nat.lt_of_le_of_lt (Nat.zero_le _) (List.getElem?_eq_some_iff.1 hr).1
  have hi : i < rs.length := (List.getElem?_eq_some_iff.1 hr).1
  have huT := h.ts i r u (Nat.le_refl _) hr hu
  have hrow1 := ownsRow_keepsT hrow (KeepsT.grown_row hg huT (by decide))
  obtain ⟨g1, e1, _, hc1⟩ := row_pos hp hrow1
  cases e1
  obtain ⟨hrow2, hgs⟩ := hrow1.stored (i * 3 + 2) u'
  rw [rzVals_setAt _ _ _ _ hl.symm] at hrow2
  obtain ⟨c, fz, hblk⟩ : ∃ c fz, W1.heap[g]? = some (.cells c 28 fz) := row_blockB hrow1 rfl
  have ho2 : (W1.setCell ⟨g, i * 3 + 2, none⟩ u').ownsRow B 31 5 u' n xs := ownsRow_keepsT ho' (keepsT_other hblk (by decide) u')
  refine ⟨hrow1.frozenAt _, hc1 _ _ (rzVals_get hr ((hv i (Nat.le_refl _)).trans hu)).2.2, ho2, fun W2 hg2 => ⟨?_, h.next hr hu hsep hg hf hg2 ho'⟩⟩
  have hrow3 := ownsRow_keepsT hrow2 (KeepsT.grown_row hg2 ho2 (by decide))
  obtain ⟨g3, e3, _, hc3⟩ := row_pos hp hrow3
  cases e3
  exact hc3 _ _ (rzVals_get hr (by rw [List.getElem?_set_self (by omega)])).2.2
theorem row_cell {W : World} {g j : Nat} {ys : List Value} (hc : ∀ j u, ys[j]? = some u → W.cell? ⟨g, j, none⟩ = some u) (h : j < ys.length) : ∃ u, W.cell? ⟨g, j, none⟩ = some u := ⟨_, hc _ _ (List.getElem?_eq_getElem h)⟩
/-- Blocks of the other rows stay as they were. -/
theorem hid_put {w3 W W1 W2 : World} {lo g i : Nat} {u u' : Value} (h : ∀ z, lo ≤ z → z < w3.heap.size → W.heap[z]? = w3.heap[z]?) (hs : w3.heap.size ≤ W.heap.size) (hg : W.grownBy W1 u.ownBlock) (hu : ∀ j, u.ownBlock = some j → j < lo) (hf : Fresh W u u') (hgl : g < lo)
    (hg2 : (W1.setCell ⟨g, i, none⟩ u').grownBy W2 u'.ownBlock) : ∀ z, lo ≤ z → z < w3.heap.size → W2.heap[z]? = w3.heap[z]? := by
  intro z hz hz3
  have hs1 := hg.size
  have a1 := hg.block z (by omega) (fun e => by have := hu z e.symm; omega)
  have a2 : (W1.setCell ⟨g, i, none⟩ u').heap[z]? = W1.heap[z]? := by
    simp only [World.setCell, Array.getElem?_modify]
    rw [if_neg (by omega)]
  have a3 := hg2.block z (by simp [World.setCell]; omega) (fun e => by
    rcases hf with hf | hf
    · have := hu z (hf.symm.trans e.symm); omega
    · have := hf z e.symm; omega)
  rw [a3, a2, a1, h z hz hz3]

set_option maxRecDepth 100000 in
set_option maxHeartbeats 16000000 in
theorem ltells_some (ts : List Tz) (n cap : Nat) (ad : Addr) (w : World) (hn : ts.length = n) (hn3 : n * 48 ≤ 140737488351232) (hx : ∀ t ∈ ts, t.tx.size ≤ 281474976710656) (hT : TzIn w (some ad) ts) :
    Calls Try.prog 3 #[.slice (some ad) n cap] w fun e w' => e = .returned (.bool true) ∧ Below w.heap.size w w' := by
  obtain ⟨i0, hi, hz0, hz1, hz2⟩ := info_parts infoTz
  have ET : ElemOk Try.prog 22 31 i0 (.agg #[.int .i64 0, .string ⟨#[]⟩, .int .i64 0, .int .i64 0, .bool false]) 5 48 := ⟨Try.underlying22, hi, hz0, hz1, hz2, rfl, by decide⟩
  have hlen : (tzCells ts).length = n * 5 := by rw [tzCells_len, hn]
  have hone := Lib.hid (tzCells_one ts)
  have hnews : ∀ o : Obj, ∀ j u, (tzCells ts)[j]? = some u → (w.alloc o).cell? (ad.add j) = some u := by
    intro o j u hj
    have hlt := (List.getElem?_eq_some_iff.1 hj).1
    obtain ⟨b, q, e, hb, hr⟩ := hT (by omega)
    cases e
    exact tzCells_at (hr.below (below1 w o) hb) j u hj
  have HNW := Lib.hid hnews
  have HLN := Lib.hid hlen
  have hRL : (rowsS ts).length ≤ n := by rw [← hn]; exact rowsS_len ts
  have hRF := rows_fit (ts := ts) (by omega) hx
  have hRT := fun r (h : r ∈ rowsS ts) => toksN_mem h
  rw [toksN_rows, hn] at hRT
  obtain ⟨R, hR⟩ : ∃ R, rowsS ts = R := ⟨_, rfl⟩
  rw [hR] at hRL hRF hRT
  have HR := Lib.hid hR
  have HRF := Lib.hid hRF
  have HRT := Lib.hid hRT
  have HN := Lib.hid hn
  have HX := Lib.hid hx
  have HT := Lib.hid hT
  clear hn hT hx hnews hlen hR hRF hRT
  go_enter Try.func3, Try.ntmps3
  go_wp2_with (first
    | (at_builtin; refine wpList_append_own _ rfl _ _ 22 rfl w.heap.size 31 i0 (.agg #[.int .i64 0, .string ⟨#[]⟩, .int .i64 0, .int .i64 0, .bool false]) 5 48 Try.underlying22 hi hz0 hz1 hz2 rfl (by decide) _ _ _ rfl (World.ownsRow_lit w #[] 0 (Nat.le_refl _) (Nat.zero_le _) rfl) ad n cap (tzCells ts) rfl HLN.out (HNW.out _) hone.out (by unfold maxLen; omega) (by omega) (by simp) ?_; intro v' w1 hown hgrow hn9; clear hn9; have hb1 := ((Below.refl w.heap.size w).alloc (Nat.le_refl _) (.cells #[] 31)).grown hgrow (by simp) (fun j e => ((World.ownsRow_lit (base := w.heap.size) (e := 31) (size := 5) w #[] 0 (Nat.le_refl _) (Nat.zero_le _) rfl).lt j e).1); have hown1 := row_zero hown; obtain ⟨a1, cap1, rfl, hs1, hw1, hg1⟩ := tz_shape HN.out hown1; have hcp1 := row_cap2 hown1; clear hown hown1 hgrow hw1 hg1)
    | fail)
  have hT1 : TzIn w1 a1 ts := fun hp => by
    obtain ⟨g, e, hg, hr⟩ := hs1 (by have := HN.out; omega)
    exact ⟨g, 0, e, hg, hr.at⟩
  have HT1 := Lib.hid hT1
  have CR1 := rows_any n cap1 a1 w1 (by omega) hcp1 ts HN.out HX.out hT1
  rw [HR.out] at CR1
  clear hs1 hT1 HNW HLN hone
  refine CR1.mono ?_
  rintro e w2 ⟨⟨va, vsa, rfl, hSa⟩, hb2⟩
  have hB2 := hb1.trans (hb2.mono hb1.size)
  have CR2 := rRows_any n cap (some ad) w2 (by omega) ts HN.out (HT.out.below hB2)
  rw [HR.out] at CR2
  clear CR1
  go_wp2_with fail
  refine CR2.mono ?_
  rintro e w3 ⟨⟨vb, vsb, rfl, hSb⟩, hb3⟩
  have hB3 := hB2.trans (hb3.mono hB2.size)
  have hB13 := hb2.trans (hb3.mono hb2.size)
  obtain ⟨aa, ca, rfl⟩ := row_shape hSa.own.row
  obtain ⟨ab, cb, rfl⟩ := row_shape hSb.own.row
  have hA3 := hSa.own.below hb3
  have hB3o := hSb.own
  have HA3 := Lib.hid hA3
  have HB3 := Lib.hid hB3o
  have HA2 := Lib.hid hSa
  have h12 := hb2.size
  have h23 := hb3.size
  have CSS := rsame_any R R.length ca cb aa ab w3 rfl (by omega) (fun r h => (HRF.out r h).1) (own_in hA3) (own_in hB3o)
  clear CR2 hSa hSb hA3 hB3o
  go_wp2_with fail
  refine CSS.mono ?_
  rintro e w4 ⟨rfl, q, rfl⟩
  clear CSS
  go_wp2
  go_loopg [6] R.length (fun g i wx => ∃ k : Nat, k ≤ R.length ∧ i = .int .i64 k ∧ g = R.length - k ∧ Below w3.heap.size w3 wx)
  case atStart => exact ⟨0, Nat.zero_le _, rfl, rfl, below_drewN (Below.refl _ _) q⟩
  case round =>
    obtain ⟨k, hk, rfl, rfl, hbx⟩ := hrel
    have h3x := hbx.size
    by_cases hlt : k < R.length
    · obtain ⟨r, hr⟩ : ∃ r, R[k]? = some r := ⟨_, List.getElem?_eq_getElem hlt⟩
      obtain ⟨ba, oa, rfl, hga, hza⟩ := (own_in (HA3.out.below hbx)) (by omega)
      obtain ⟨bb, ob, rfl, hgb, hzb⟩ := (own_in (HB3.out.below hbx)) (by omega)
      obtain ⟨x0, x1, ta, tac, x2, htk⟩ := hza k r hr
      obtain ⟨y0, y1, tb, tbc, y2, htkb⟩ := hzb k r hr
      obtain ⟨hrl, hrx⟩ := HRF.out r (List.mem_of_getElem? hr)
      have CSa := says_any r ta tac wr hrl hrx htk
      have HTB := Lib.hid htkb
      have hSl : (saysS r).length ≤ r.ts.length := saysS_lenT r
      obtain ⟨S, hS⟩ : ∃ S, saysS r = S := ⟨_, rfl⟩
      have HS := Lib.hid hS
      rw [hS] at CSa hSl
      have j1 : (k : Int) < (R.length : Int) := by omega
      have j0 : (0 : Int) ≤ (k : Int) := by omega
      clear hza hzb htk htkb hrx hS
      go_wp2_with fail
      refine CSa.mono ?_
      rintro e w5 ⟨⟨ax, cx, rfl, hsx⟩, hb5⟩
      have CSb := rSays_any r tb tbc w5 hrl (TzIn.below HTB.out hb5)
      rw [HS.out] at CSb
      have z0 := (hb5.cell (p := ⟨bb, ob + k * 3, none⟩) hgb).trans y0
      have z1 := (hb5.cell (p := ⟨bb, ob + k * 3 + 1, none⟩) hgb).trans y1
      have z2 := (hb5.cell (p := ⟨bb, ob + k * 3 + 2, none⟩) hgb).trans y2
      have HSX := Lib.hid hsx
      clear CSa x0 x1 x2 y0 y1 y2 hsx
      go_wp2_with fail
      refine CSb.mono ?_
      rintro e w6 ⟨⟨ay, cy, rfl, hsy⟩, hb6⟩
      have CSm := same_any S S.length cx cy ax ay w6 rfl (by unfold maxLen; omega) (fun hp => by
        obtain ⟨g, o, cur, e, h1, h2, h3, h4⟩ := HSX.out hp
        exact ⟨g, o, e, h4.below hb6 (Array.getElem?_eq_some_iff.1 h2).1⟩) (fun hp => by
        obtain ⟨g, o, e, h1, h2⟩ := hsy hp
        exact ⟨g, o, e, h2⟩)
      have hb36 : Below w3.heap.size w3 w6 := (hbx.trans (hb5.mono h3x)).trans (hb6.mono (Nat.le_trans h3x hb5.size))
      have hOk : OkAt w6 w3.heap.size ax S.length := fun hp => by
        obtain ⟨g, o, cur, e, h1, h2, h3, h4⟩ := HSX.out hp
        exact ⟨g, o, cur, e, Nat.le_trans h3x h1, (hb6.block g (Array.getElem?_eq_some_iff.1 h2).1).trans h2, h3⟩
      clear CSb hsy HSX z0 z1 z2
      go_wp2_with fail
      refine CSm.mono ?_
      rintro e w7 ⟨rfl, q2, rfl⟩
      clear CSm
      go_wp2
      go_loopg [9] S.length (fun g i wx => ∃ j : Nat, j ≤ S.length ∧ i = .int .i64 j ∧ g = S.length - j ∧ OkAt wx w3.heap.size ax S.length ∧ Below w3.heap.size w3 wx)
      case atStart => exact ⟨0, Nat.zero_le _, rfl, rfl, hOk, below_drewN hb36 q2⟩
      case round =>
        obtain ⟨j, hj, rfl, rfl, hok, hbj⟩ := hrel
        by_cases hjl : j < S.length
        · obtain ⟨g, o, cur, rfl, hgB, hcur, hsz⟩ := hok (by omega)
          obtain ⟨u0, d0⟩ := okAt_cell (j := o + j * 5) hcur hsz (by omega)
          obtain ⟨u1, d1⟩ := okAt_cell (j := o + j * 5 + 1) hcur hsz (by omega)
          obtain ⟨u2, d2⟩ := okAt_cell (j := o + j * 5 + 2) hcur hsz (by omega)
          obtain ⟨u3, d3⟩ := okAt_cell (j := o + j * 5 + 3) hcur hsz (by omega)
          obtain ⟨u4, d4⟩ := okAt_cell (j := o + j * 5 + 4) hcur hsz (by omega)
          have f0 := okAt_free (o + j * 5) hcur
          have f1 := okAt_free (o + j * 5 + 1) hcur
          have f2 := okAt_free (o + j * 5 + 2) hcur
          have f3 := okAt_free (o + j * 5 + 3) hcur
          have f4 := okAt_free (o + j * 5 + 4) hcur
          have i1 : (j : Int) < (S.length : Int) := by omega
          have i0 : (0 : Int) ≤ (j : Int) := by omega
          go_wp2
          go_roundg (S.length - (j + 1))
          case rel =>
            refine ⟨j + 1, by omega, by go_num, rfl, fun _ => ?_, ((((hbj.setCell (p := ⟨g, _, none⟩) hgB _).setCell (p := ⟨g, _, none⟩) hgB _).setCell (p := ⟨g, _, none⟩) hgB _).setCell (p := ⟨g, _, none⟩) hgB _).setCell (p := ⟨g, _, none⟩) hgB _⟩
            obtain ⟨c0, h0, s0⟩ := okAt_set (i := o + j * 5) (.int .i64 0) hcur hsz
            obtain ⟨c1, h1, s1⟩ := okAt_set (i := o + j * 5 + 1) (.string ⟨#[119, 114, 105, 116, 116, 101, 110, 32, 111, 118, 101, 114]⟩) h0 s0
            obtain ⟨c2, h2, s2⟩ := okAt_set (i := o + j * 5 + 2) (.int .i64 0) h1 s1
            obtain ⟨c3, h3, s3⟩ := okAt_set (i := o + j * 5 + 3) (.int .i64 0) h2 s2
            obtain ⟨c4, h4, s4⟩ := okAt_set (i := o + j * 5 + 4) (.bool false) h3 s3
            exact ⟨g, o, c4, rfl, hgB, h4, s4⟩
          case measure => omega
        · have i1 : ¬ (j : Int) < (S.length : Int) := by omega
          go_wp2
          go_roundg (R.length - (k + 1))
          case rel => exact ⟨k + 1, by omega, by go_num, rfl, hbj⟩
          case measure => omega
    · have j1 : ¬ (k : Int) < (R.length : Int) := by omega
      go_wp2
      go_loopg [10] R.length (fun g i wx => ∃ k : Nat, k ≤ R.length ∧ i = .int .i64 k ∧ g = R.length - k ∧ TelA w1.heap.size wx (.slice aa R.length ca) R vsa k ∧ Below w1.heap.size w1 wx ∧ w3.heap.size ≤ wx.heap.size ∧ Hid (∀ z, w2.heap.size ≤ z → z < w3.heap.size → wx.heap[z]? = w3.heap[z]?))
      case atStart => exact ⟨0, Nat.zero_le _, rfl, rfl, (TelA.start HA3.out).below hbx, hB13.trans (hbx.mono (by omega)), h3x, Lib.hid fun z _ hz => hbx.block z hz⟩
      case round =>
        clear h3x hbx hlt hk j1
        obtain ⟨k, hk, rfl, rfl, hTA, hb1x, hsx, hHx⟩ := hrel
        by_cases hlt : k < R.length
        · obtain ⟨r, hr⟩ : ∃ r, R[k]? = some r := ⟨_, List.getElem?_eq_getElem hlt⟩
          obtain ⟨u, hu⟩ : ∃ u, vsa[k]? = some u := ⟨_, List.getElem?_eq_getElem (by rw [← HA3.out.len]; exact hlt)⟩
          have huT := hTA.ts k r u (Nat.le_refl _) hr hu
          obtain ⟨ga, rfl, hgB, d0, f0⟩ := hTA.cellAt hr hu
          obtain ⟨ua, uc, rfl⟩ := row_shape huT
          have hrl := HRT.out r (List.mem_of_getElem? hr)
          have hub : Hid (∀ j, (Value.slice ua r.ts.length uc).ownBlock = some j → j < w2.heap.size) := Lib.hid fun j e => ((HA2.out.own.ts k r _ hr hu).lt j e).2
          have hgl : ga < w2.heap.size := (HA2.out.own.row.lt ga rfl).2
          have HR1 := Lib.hid hr
          have HU1 := Lib.hid hu
          have HTA := Lib.hid hTA
          have HO := Lib.hid huT
          have j1 : (k : Int) < (R.length : Int) := by omega
          have j0 : (0 : Int) ≤ (k : Int) := by omega
          have hbs := hb1x.size
          clear hr hu hTA huT
          go_wp2_with (at_builtin; refine wpList_fresh ET _ rfl _ _ rfl w1.heap.size (.slice ua r.ts.length uc) r.ts.length (tzCells r.ts) rfl (HO.out.alloc _) ⟨wr.heap.size, 0, none⟩ 1 1 [.int .i64 0, .string ⟨#[109, 111, 114, 101]⟩, .int .i64 0, .int .i64 0, .bool false] rfl rfl (cell5_new _ _ _ _ _ _ _) (by simp [Value.oneCell']) (by unfold maxLen; omega) (by omega) (by simp; omega) ?_; intro v6 w6 hO6 hg6 hf6; obtain ⟨fz, dd, hO7, hN7⟩ := (HTA.out.below (below1 wr _)).put HR1.out HU1.out HA2.out.sep hg6 hf6 hO6; obtain ⟨a6, c6, rfl⟩ := row_shape hO6; obtain ⟨g6, rfl, hlt6, _⟩ := row_pos (Nat.succ_pos _) hO6; have hbW := ((hb1x.alloc hbs _).grown hg6 (by simp; omega) (fun j e => (HO.out.lt j e).1)).setCell (p := ⟨ga, k * 3 + 2, none⟩) hgB (.slice (some ⟨g6, 0, none⟩) (r.ts.length + 1) c6); have HHW := Lib.hid (fun W2 => hid_put (W := wr.alloc (.cells #[.int .i64 0, .string ⟨#[109, 111, 114, 101]⟩, .int .i64 0, .int .i64 0, .bool false] 31)) (W1 := w6) (W2 := W2) (g := ga) (i := k * 3 + 2) (lo := w2.heap.size) (w3 := w3) (fun z hz hz3 => ((below1 wr _).block z (by omega)).trans (hHx.out z hz hz3)) (by simp; omega) hg6 hub.out hf6 hgl); have HN7 := Lib.hid hN7; have HO7 := Lib.hid hO7; have hs6 := hg6.size; clear hN7 hO7 hO6 hg6 hf6)
          have hsW : w3.heap.size ≤ (w6.setCell ⟨ga, k * 3 + 2, none⟩ (.slice (some ⟨g6, 0, none⟩) (r.ts.length + 1) c6)).heap.size := by
            simp [World.setCell] at hs6 ⊢
            omega
          generalize w6.setCell ⟨ga, k * 3 + 2, none⟩ (.slice (some ⟨g6, 0, none⟩) (r.ts.length + 1) c6) = W7 at *
          clear dd fz hs6 hlt6 d0 f0 HO HTA hsx hb1x hHx hbs
          go_loopg [11] (r.ts.length + 1) (fun g i wx => ∃ j : Nat, j ≤ r.ts.length + 1 ∧ i = .int .i64 j ∧ g = r.ts.length + 1 - j ∧ (∃ ys, wx.ownsRow w1.heap.size 31 5 (.slice (some ⟨g6, 0, none⟩) (r.ts.length + 1) c6) (r.ts.length + 1) ys) ∧ W7.grownBy wx (some g6))
          case atStart => exact ⟨0, Nat.zero_le _, rfl, rfl, ⟨_, HO7.out⟩, grown_refl _ _⟩
          case round =>
            obtain ⟨j, hj, rfl, rfl, ⟨ys, hys⟩, hgj⟩ := hrel
            have dj := (HN7.out _ hgj).1
            by_cases hjl : j < r.ts.length + 1
            · obtain ⟨g7, e7, _, hc7⟩ := row_pos (Nat.succ_pos _) hys
              cases e7
              have hyl := hys.1
              obtain ⟨v0, c0⟩ := row_cell (j := j * 5) hc7 (by omega)
              obtain ⟨v1, c1⟩ := row_cell (j := j * 5 + 1) hc7 (by omega)
              obtain ⟨v2, c2⟩ := row_cell (j := j * 5 + 2) hc7 (by omega)
              obtain ⟨v3, c3⟩ := row_cell (j := j * 5 + 3) hc7 (by omega)
              obtain ⟨v4, c4⟩ := row_cell (j := j * 5 + 4) hc7 (by omega)
              have f0 := hys.frozenAt (j * 5)
              have f1 := hys.frozenAt (j * 5 + 1)
              have f2 := hys.frozenAt (j * 5 + 2)
              have f3 := hys.frozenAt (j * 5 + 3)
              have f4 := hys.frozenAt (j * 5 + 4)
              have i1 : (j : Int) < (r.ts.length : Int) + 1 := by omega
              have i0 : (0 : Int) ≤ (j : Int) := by omega
              have HY := Lib.hid hys
              have HYL := Lib.hid hyl
              clear hys hc7 hyl
              go_wp2
              go_roundg (r.ts.length + 1 - (j + 1))
              case rel => exact ⟨j + 1, by omega, by go_num, rfl, (stored5 HY.out _ _ _ _ _ _ _ _ _ _).1, grown_trans hgj (stored5 HY.out _ _ _ _ _ _ _ _ _ _).2⟩
              case measure => omega
            · have i1 : ¬ (j : Int) < (r.ts.length : Int) + 1 := by omega
              obtain ⟨_, hTA⟩ := HN7.out _ hgj
              have hHx := Lib.hid (HHW.out _ hgj)
              have hb1x := hbW.grown hgj (by omega) (fun j e => (HO7.out.lt j e).1)
              have hsx := hgj.size
              have hsx3 : w3.heap.size ≤ wr.heap.size := by omega
              clear hys hbW hsx hgl hgB
              by_cases hk1 : k + 1 < R.length
              · obtain ⟨r2, hr2⟩ : ∃ r, R[k + 1]? = some r := ⟨_, List.getElem?_eq_getElem hk1⟩
                obtain ⟨u2, hu2⟩ : ∃ u, vsa[k + 1]? = some u := ⟨_, List.getElem?_eq_getElem (by rw [← HA3.out.len]; exact hk1)⟩
                have huT := hTA.ts (k + 1) r2 u2 (Nat.le_refl _) hr2 hu2
                obtain ⟨gz, ez, _, d2, _⟩ := hTA.cellAt hr2 hu2
                cases ez
                obtain ⟨ua2, uc2, rfl, hs2, _, _⟩ := tz_shape rfl huT
                obtain ⟨bb, ob, rfl, hgb, hzb⟩ := (own_in (HB3.out.range hHx.out)) (by omega)
                obtain ⟨y0, y1, tb, tbc, y2, htkb⟩ := hzb (k + 1) r2 hr2
                have hr2l := HRT.out r2 (List.mem_of_getElem? hr2)
                have CS := fun q' => same_any r2.ts r2.ts.length uc2 tbc ua2 tb (wr.drewN q') rfl (by unfold maxLen; omega) (fun hp => by obtain ⟨g, e, _, h⟩ := hs2 hp; exact ⟨g, 0, e, h.at⟩) (fun hp => by obtain ⟨b, o, e, _, h⟩ := htkb hp; exact ⟨b, o, e, h⟩)
                have j1 : (k : Int) + 1 < (R.length : Int) := by omega
                have j0 : (0 : Int) ≤ (k : Int) + 1 := by omega
                have HTA := Lib.hid hTA
                have HGJ := Lib.hid hgj
                clear hr2 hu2 huT hs2 hzb htkb y0 y1 hTA hgj dj
                go_wp2
                go_big_quiet ((go_at_call 14; exact quiet_at (CS _)))
                go_wp2
                go_roundg (R.length - (k + 1))
                case rel => exact ⟨k + 1, by omega, by go_num, rfl, HTA.out.below (below_drewN (Below.refl _ _) _), below_drewN hb1x _, by simpa using hsx3, Lib.hid fun z a b => hHx.out z a b⟩
                case measure => omega
              · have j1 : ¬ (k : Int) + 1 < (R.length : Int) := by omega
                have j2 : decide ((k : Int) + 1 < (R.length : Int)) = false := decide_eq_false j1
                clear j1
                have HTA := Lib.hid hTA
                have HGJ := Lib.hid hgj
                clear hTA hgj
                go_wp2
                go_big_quiet (fail)
                go_wp2
                go_roundg (R.length - (k + 1))
                case rel => exact ⟨k + 1, by omega, by go_num, rfl, HTA.out.below (below_drewN (Below.refl _ _) _), below_drewN hb1x _, by simpa using hsx3, Lib.hid fun z a b => hHx.out z a b⟩
                case measure => omega
        · have j1 : ¬ (k : Int) < (R.length : Int) := by omega
          have CSm := same_any ts n cap1 cap a1 (some ad) wr HN.out (by unfold maxLen; omega) (fun hp => by
            obtain ⟨b, o, e, _, h⟩ := (HT1.out.below hb1x) (by have := HN.out; omega)
            exact ⟨b, o, e, h⟩) (fun hp => by
            obtain ⟨b, o, e, _, h⟩ := (HT.out.below (hb1.trans (hb1x.mono hb1.size))) (by have := HN.out; omega)
            exact ⟨b, o, e, h⟩)
          have hbz := hb1.trans (hb1x.mono hb1.size)
          go_wp2_with fail
          refine CSm.mono ?_
          rintro e w9 ⟨rfl, q9, rfl⟩
          go_wp2
          go_ret
          exact ⟨rfl, below_drewN hbz q9⟩

theorem sep_nil {W : World} {B : Nat} {v : Value} {vs : List Value} {lv : Value} {ll : List Tz} (h : SepRz W B v (rowsS []) vs lv ll) : ∃ a c, v = .slice a 0 c := row_shape h.own.row

set_option maxRecDepth 100000 in
set_option maxHeartbeats 2000000 in
theorem ltells_nil (w : World) :
    Calls Try.prog 3 #[.slice none 0 0] w fun e w' => e = .returned (.bool true) ∧ Below w.heap.size w w' := by
  have C1 := fun (a : Option Addr) (cap : Nat) (w' : World) => rows_any 0 cap a w' (by decide) (Nat.zero_le _) [] rfl (fun t h => by cases h) (fun h => absurd h (by decide))
  have C2 := fun (a : Option Addr) (cap : Nat) (w' : World) => rRows_any 0 cap a w' (by decide) [] rfl (fun h => absurd h (by decide))
  have C3 := fun (a1 a2 : Option Addr) (c1 c2 : Nat) (w' : World) => rsame_any [] 0 c1 c2 a1 a2 w' rfl (by decide) (fun r h => by cases h) (fun h => absurd h (by decide)) (fun h => absurd h (by decide))
  have C4 := fun (a1 a2 : Option Addr) (c1 c2 : Nat) (w' : World) => same_any [] 0 c1 c2 a1 a2 w' rfl (Nat.zero_le _) (fun h => absurd h (by decide)) (fun h => absurd h (by decide))
  have HC := Lib.hid (show _ ∧ _ ∧ _ ∧ _ from ⟨C1, C2, C3, C4⟩)
  clear C1 C2 C3 C4
  have hb1 := below1 w (.cells #[] 31)
  go_enter Try.func3, Try.ntmps3
  go_wp2_with fail
  refine (HC.out.1 _ _ _).mono ?_
  rintro e w2 ⟨⟨va, vsa, rfl, hSa⟩, hb2⟩
  obtain ⟨a2, c2, rfl⟩ := sep_nil hSa
  have hc2 := hb1.trans (hb2.mono hb1.size)
  clear hSa
  go_wp2_with fail
  refine (HC.out.2.1 _ _ _).mono ?_
  rintro e w3 ⟨⟨vb, vsb, rfl, hSb⟩, hb3⟩
  obtain ⟨a3, c3, rfl⟩ := sep_nil hSb
  have hc3 := hc2.trans (hb3.mono hc2.size)
  clear hSb
  go_wp2_with fail
  refine (HC.out.2.2.1 _ _ _ _ _).mono ?_
  rintro e w4 ⟨rfl, q, rfl⟩
  go_wp2
  go_loopw [6] (fun i wx => i = .int .i64 0 ∧ wx = w3.drewN q) (fun i _ => 0)
  case atStart => exact ⟨rfl, rfl⟩
  case round =>
    obtain ⟨rfl, rfl⟩ := hrel
    go_wp2
    go_loopw [10] (fun i wx => i = .int .i64 0 ∧ wx = w3.drewN q) (fun i _ => 0)
    case atStart => exact ⟨rfl, rfl⟩
    case round =>
      obtain ⟨rfl, rfl⟩ := hrel
      go_wp2_with fail
      refine (HC.out.2.2.2 _ _ _ _ _).mono ?_
      rintro e w5 ⟨rfl, q5, rfl⟩
      go_wp2
      go_ret
      exact ⟨rfl, below_drewN hc3 (q + q5)⟩

end Go.Proofs.Ytpomcdolpmbhdaa
