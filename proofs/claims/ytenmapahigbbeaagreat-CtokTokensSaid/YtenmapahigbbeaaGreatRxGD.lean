/- Several texts laid together. -/
import Derived.Test.YtenmapahigbbeaaGreatFirst0
import Derived.Test.YtenmapahigbbeaaGreatGen
import Derived.IntWalk
import Derived.BigQuiet
import Derived.Deep.QuietTactic
import Derived.OneCell
import Derived.Test.YtenmapahigbbeaaGreatRxGC
import Derived.Test.YtenmapahigbbeaaGreatRxGB
import Derived.Test.YtenmapahigbbeaaGreatCtJ
import Derived.Test.YtenmapahigbbeaaGreatRxGA

namespace Go.Proofs.YtenmapahigbbeaaGreat
open Go.RowKit Go.Shelf

/-! ### Rows of tokens, element by element -/

theorem ydCells_get {ys : List Yd} {k : Nat} {y : Yd} (h : ys[k]? = some y) (j : Nat) (hj : j < 5) : (ydCells ys)[k * 5 + j]? = (ydCell y)[j]? := by
  induction ys generalizing k with
  | nil => simp at h
  | cons q ys ih =>
    have hc : ydCells (q :: ys) = ydCell q ++ ydCells ys := by simp [ydCells, ydCell]
    cases k with
    | zero =>
      simp only [List.getElem?_cons_zero, Option.some.injEq] at h
      subst h
      rw [hc, List.getElem?_append_left (by simp [ydCell]; omega)]
      simp
    | succ k =>
      simp only [List.getElem?_cons_succ] at h
      rw [hc, List.getElem?_append_right (by simp [ydCell]; omega)]
      have : (k + 1) * 5 + j - (ydCell q).length = k * 5 + j := by simp [ydCell]; omega
      rw [this]
      exact ih h
/-- A row of tokens lies at g. -/
def TokRow (W : World) (g : Nat) (ys : List Yd) : Prop := ∀ i y, ys[i]? = some y → W.cell? ⟨g, i * 5, none⟩ = some (.int .i64 y.k) ∧ W.cell? ⟨g, i * 5 + 1, none⟩ = some (.string y.tx) ∧ W.cell? ⟨g, i * 5 + 2, none⟩ = some (.int .i64 y.a) ∧ W.cell? ⟨g, i * 5 + 3, none⟩ = some (.int .i64 y.e) ∧ W.cell? ⟨g, i * 5 + 4, none⟩ = some (.bool y.sp)
theorem tokRow_of {W : World} {base cap : Nat} {a : Option Addr} {ys : List Yd} (hn : 0 < ys.length) (h : W.ownsRow base 34 5 (.slice a ys.length cap) ys.length (ydCells ys)) : ∃ g, a = some ⟨g, 0, none⟩ ∧ base ≤ g ∧ g < W.heap.size ∧ TokRow W g ys := by
  obtain ⟨g, ha, hg, hc⟩ := row_pos hn h
  subst ha
  refine ⟨g, rfl, (h.lt g rfl).1, hg, fun i y hy => ?_⟩
  exact ⟨hc _ _ (ydCells_get hy 0 (by decide)), hc _ _ (ydCells_get hy 1 (by decide)), hc _ _ (ydCells_get hy 2 (by decide)), hc _ _ (ydCells_get hy 3 (by decide)), hc _ _ (ydCells_get hy 4 (by decide))⟩
theorem TokRow.below {B g : Nat} {W W' : World} {ys : List Yd} (h : TokRow W g ys) (hb : Below B W W') (hg : g < B) : TokRow W' g ys := fun i y hy => by
  have hc : ∀ o, W'.cell? ⟨g, o, none⟩ = W.cell? ⟨g, o, none⟩ := fun o => hb.cell (p := ⟨g, o, none⟩) hg
  rw [hc, hc, hc, hc, hc]
  exact h i y hy

end Go.Proofs.YtenmapahigbbeaaGreat

namespace Go.Proofs.YtenmapahigbbeaaGreat
open Go.RowKit Go.Shelf

/-- A token of any list. -/
structure Tz where
  k : Int
  tx : ByteArray
  a : Int
  e : Int
  sp : Bool
def tzCell (t : Tz) : List Value := [.int .i64 t.k, .string t.tx, .int .i64 t.a, .int .i64 t.e, .bool t.sp]
def tzCells (ts : List Tz) : List Value := ts.flatMap tzCell
theorem tzCells_snoc (ts : List Tz) (t : Tz) : tzCells (ts ++ [t]) = tzCells ts ++ tzCell t := by simp [tzCells, tzCell]
def TzRow (W : World) (g : Nat) (ts : List Tz) : Prop := ∀ i t, ts[i]? = some t → W.cell? ⟨g, i * 5, none⟩ = some (.int .i64 t.k) ∧ W.cell? ⟨g, i * 5 + 1, none⟩ = some (.string t.tx) ∧ W.cell? ⟨g, i * 5 + 2, none⟩ = some (.int .i64 t.a) ∧ W.cell? ⟨g, i * 5 + 3, none⟩ = some (.int .i64 t.e) ∧ W.cell? ⟨g, i * 5 + 4, none⟩ = some (.bool t.sp)
theorem TzRow.below {B g : Nat} {W W' : World} {ys : List Tz} (h : TzRow W g ys) (hb : Below B W W') (hg : g < B) : TzRow W' g ys := fun i y hy => by
  have hc : ∀ o, W'.cell? ⟨g, o, none⟩ = W.cell? ⟨g, o, none⟩ := fun o => hb.cell (p := ⟨g, o, none⟩) hg
  rw [hc, hc, hc, hc, hc]
  exact h i y hy
def tzOf (y : Yd) : Tz := ⟨y.k, y.tx, y.a, y.e, y.sp⟩
theorem TokRow.tz {W : World} {g : Nat} {ys : List Yd} (h : TokRow W g ys) : TzRow W g (ys.map tzOf) := fun i t ht => by
  rw [List.getElem?_map] at ht
  cases hy : ys[i]? with
  | none => rw [hy] at ht; cases ht
  | some y => rw [hy] at ht; cases ht; exact h i y hy

/-- Left out? -/
def outK (k : Int) : Bool := k == 8 || k == 9
def bareStep (q : List Tz × Bool) (t : Tz) : List Tz × Bool := if outK t.k then (q.1, true) else (q.1 ++ [{ t with sp := t.sp || q.2 }], false)
def bareS (ts : List Tz) : List Tz × Bool := ts.foldl bareStep ([], false)
theorem bareS_snoc {ts : List Tz} {k : Nat} {t : Tz} (h : ts[k]? = some t) : bareS (ts.take (k + 1)) = bareStep (bareS (ts.take k)) t := by
  unfold bareS
  rw [List.take_add_one, h, List.foldl_append]
  rfl
theorem bareS_len (ts : List Tz) : (bareS ts).1.length ≤ ts.length := by
  have : ∀ (ts : List Tz) (q : List Tz × Bool), (ts.foldl bareStep q).1.length ≤ q.1.length + ts.length := by
    intro ts
    induction ts with
    | nil => intro q; exact Nat.le_refl _
    | cons t ts ih =>
      intro q
      rw [List.foldl_cons]
      refine Nat.le_trans (ih _) ?_
      unfold bareStep
      split <;> simp <;> omega
  simpa [bareS] using this ts ([], false)

theorem infoTz : (Tryz.prog.info? 34).map (fun i => (i.zero, i.size, i.bytes)) = some (some (.agg #[.int .i64 0, .string ⟨#[]⟩, .int .i64 0, .int .i64 0, .bool false]), 5, 48) := infoTok

theorem clone_any (s : ByteArray) (w : World) (hs : s.size ≤ 281474976710656) :
    Calls Tryz.prog 18 #[.string s] w fun e w' => e = .returned (.string s) ∧ Below w.heap.size w w' := by
  have H := fun w' => Tryz.stringslite_Clone s w' hs
  go_enter Tryz.func18, Tryz.ntmps18
  go_wp2_with (go_at_call 31; refine (H _).mono ?_; rintro e w' ⟨rfl, hb⟩)
  go_ret
  exact ⟨rfl, hb⟩

theorem row_below {B : Nat} {e : TypeId} {k : Nat} {v : Value} {n : Nat} {xs : List Value} {w w' : World} (h : w.ownsRow B e k v n xs) (hb : Below w.heap.size w w') : w'.ownsRow B e k v n xs := by
  obtain ⟨h1, h2⟩ := h
  refine ⟨h1, ?_⟩
  rcases h2 with h2 | ⟨g, cap, cur, hv, hg, hh, r⟩
  · exact .inl h2
  · exact .inr ⟨g, cap, cur, hv, hg, (hb.block g (Array.getElem?_eq_some_iff.1 hh).1).trans hh, r⟩

/-- What a made token's block is. -/
theorem tz_box {w : World} {B : Nat} {t : Tz} (h : w.heap[B]? = some (.cells (tzCell t).toArray 34 (0, 0))) :
    w.cell? ⟨B, 0, none⟩ = some (.int .i64 t.k) ∧ w.cell? ⟨B, 1, none⟩ = some (.string t.tx) ∧ w.cell? ⟨B, 2, none⟩ = some (.int .i64 t.a) ∧ w.cell? ⟨B, 3, none⟩ = some (.int .i64 t.e) ∧ w.cell? ⟨B, 4, none⟩ = some (.bool t.sp) ∧
      w.frozen? ⟨B, 1, none⟩ = false ∧ w.frozen? ⟨B, 4, none⟩ = false := by
  refine ⟨?_, ?_, ?_, ?_, ?_, ?_, ?_⟩
  all_goals simp [World.cell?, World.frozen?, h, tzCell]

theorem row_ne {w : World} {base n : Nat} {e : TypeId} {size : Nat} {v : Value} {xs : List Value} (h : w.ownsRow base e size v n xs) : v.ownBlock ≠ some w.heap.size := fun e => by
  have := (h.lt _ e).2
  omega

/-- Behind the call of Clone. -/
theorem bare_call {w wr w2 : World} {k : Int} {tx : ByteArray} {a e : Int} {sp : Bool} {v : Value} {n : Nat} {xs : List Value} (hr : wr.ownsRow w.heap.size 34 5 v n xs) (hb : Below w.heap.size w wr)
    (h : Below (wr.alloc (.cells #[.int .i64 k, .string tx, .int .i64 a, .int .i64 e, .bool sp] 34)).heap.size (wr.alloc (.cells #[.int .i64 k, .string tx, .int .i64 a, .int .i64 e, .bool sp] 34)) w2) :
    (w2.cell? ⟨wr.heap.size, 0, none⟩ = some (.int .i64 k) ∧ w2.cell? ⟨wr.heap.size, 1, none⟩ = some (.string tx) ∧ w2.cell? ⟨wr.heap.size, 2, none⟩ = some (.int .i64 a) ∧ w2.cell? ⟨wr.heap.size, 3, none⟩ = some (.int .i64 e) ∧ w2.cell? ⟨wr.heap.size, 4, none⟩ = some (.bool sp) ∧
      w2.frozen? ⟨wr.heap.size, 1, none⟩ = false ∧ w2.frozen? ⟨wr.heap.size, 4, none⟩ = false) ∧
      (∀ u u', ((w2.setCell ⟨wr.heap.size, 1, none⟩ u).setCell ⟨wr.heap.size, 4, none⟩ u').ownsRow w.heap.size 34 5 v n xs ∧ Below w.heap.size w ((w2.setCell ⟨wr.heap.size, 1, none⟩ u).setCell ⟨wr.heap.size, 4, none⟩ u')) ∧ w.heap.size ≤ w2.heap.size := by
  have hne := row_ne hr
  have hx := (h.block wr.heap.size (by simp)).trans (World.alloc_heap_new wr _)
  have hbs := hb.size
  refine ⟨tz_box (t := ⟨k, tx, a, e, sp⟩) hx, fun u u' => ⟨?_, ?_⟩, ((hb.alloc hbs _).trans (h.mono (by simp; omega))).size⟩
  · exact ownsRow_setCell_other (a := ⟨wr.heap.size, 4, none⟩) (ownsRow_setCell_other (a := ⟨wr.heap.size, 1, none⟩) (row_below (hr.alloc _) h) hne u) hne u'
  · exact (((hb.alloc hbs _).trans (h.mono (by simp; omega))).setCell (p := ⟨wr.heap.size, 1, none⟩) hbs u).setCell (p := ⟨wr.heap.size, 4, none⟩) hbs u'

theorem cell5_behind (w2 : World) (B : Nat) (u u' a b c d e : Value) (t : TypeId) : ∀ j x, [a, b, c, d, e][j]? = some x → (((w2.setCell ⟨B, 1, none⟩ u).setCell ⟨B, 4, none⟩ u').alloc (.cells #[a, b, c, d, e] t)).cell? ((⟨w2.heap.size, 0, none⟩ : Addr).add j) = some x := by
  have h : ((w2.setCell ⟨B, 1, none⟩ u).setCell ⟨B, 4, none⟩ u').heap.size = w2.heap.size := by simp [World.setCell]
  have := cell5_new ((w2.setCell ⟨B, 1, none⟩ u).setCell ⟨B, 4, none⟩ u') a b c d e t
  rw [h] at this
  exact this

set_option maxRecDepth 100000 in
set_option maxHeartbeats 4000000 in
theorem bare_any (ts : List Tz) (n cap : Nat) (a : Option Addr) (w : World) (hn : ts.length = n) (hn2 : n * 48 ≤ 140737488355328) (ht : ∀ t ∈ ts, t.tx.size ≤ 281474976710656)
    (hT : 0 < n → ∃ g, a = some ⟨g, 0, none⟩ ∧ g < w.heap.size ∧ TzRow w g ts) :
    Calls Tryz.prog 26 #[.slice a n cap] w fun e w' => (∃ v, e = .returned v ∧ w'.ownsRow w.heap.size 34 5 v (bareS ts).1.length (tzCells (bareS ts).1)) ∧ Below w.heap.size w w' := by
  obtain ⟨i0, hi, hz0, hz1, hz2⟩ := info_parts infoTz
  have HN := Lib.hid hn
  have HT := Lib.hid hT
  have HX := Lib.hid ht
  clear hn hT ht
  go_enter Tryz.func26, Tryz.ntmps26
  go_wp2
  go_loopg [3, 4, 6, 9] n (fun g v lo _ i wx => ∃ (k : Nat) (acc : List Tz) (ah : Bool), k ≤ n ∧ i = .int .i64 k ∧ g = n - k ∧ lo = .bool ah ∧ Hid (bareS (ts.take k) = (acc, ah)) ∧ wx.ownsRow w.heap.size 34 5 v acc.length (tzCells acc) ∧ Below w.heap.size w wx)
  case atStart => exact ⟨0, [], false, Nat.zero_le _, rfl, rfl, rfl, Lib.hid rfl, World.ownsRow_nil _ _ _ _, Below.refl _ _⟩
  case round =>
    obtain ⟨k, acc, ah, hk, rfl, rfl, rfl, HB, hrow, hbx⟩ := hrel
    by_cases hlt : k < n
    · obtain ⟨t, ht⟩ : ∃ t, ts[k]? = some t := ⟨_, List.getElem?_eq_getElem (by rw [HN.out]; exact hlt)⟩
      obtain ⟨g, rfl, hg1, hr⟩ := HT.out (by omega)
      obtain ⟨c0, c1, c2, c3, c4⟩ := (hr.below hbx hg1) k t ht
      have hX := HX.out t (List.mem_of_getElem? ht)
      have hB2 := bareS_snoc ht
      rw [HB.out] at hB2
      have HB2 := Lib.hid hB2
      have hal : acc.length ≤ k := by
        have := bareS_len (ts.take k)
        rw [HB.out, List.length_take] at this
        exact Nat.le_trans this (Nat.min_le_left _ _)
      have hne := row_ne hrow
      have hbs := hbx.size
      clear hr ht hB2
      have j1 : (k : Int) < (n : Int) := by omega
      have j0 : (0 : Int) ≤ (k : Int) := by omega
      obtain ⟨tk, tt, ta, te, tsp⟩ := t
      simp only at c0 c1 c2 c3 c4 hX
      cases h8 : (tk == 8)
      · cases h9 : (tk == 9)
        · have hst : bareStep (acc, ah) ⟨tk, tt, ta, te, tsp⟩ = (acc ++ [⟨tk, tt, ta, te, tsp || ah⟩], false) := by
            unfold bareStep outK; simp only [h8, h9]; rfl
          have HS := Lib.hid hst
          have HC := fun w' => clone_any tt w' hX
          clear hst
          cases tsp
          · have HE : Hid (bareS (ts.take (k + 1)) = (acc ++ [⟨tk, tt, ta, te, ah⟩], false)) := Lib.hid (HB2.out.trans HS.out)
            clear HB2 HS
            go_wp2_with (first
              | (go_at_call 18; refine (HC _).mono ?_; rintro e w2 ⟨rfl, hb2⟩; obtain ⟨⟨d0, d1, d2, d3, d4, f1, f4⟩, hr4, hs2⟩ := bare_call hrow hbx hb2; have HR4 := Lib.hid (hr4 (.string tt) (.bool ah)); clear hr4)
              | (at_builtin; refine wpList_append_own _ rfl _ _ 32 rfl w.heap.size 34 i0 (.agg #[.int .i64 0, .string ⟨#[]⟩, .int .i64 0, .int .i64 0, .bool false]) 5 48 Tryz.underlying32 hi hz0 hz1 hz2 rfl (by decide) _ _ _ rfl (HR4.out.1.alloc _) ⟨w2.heap.size, 0, none⟩ 1 1 (tzCell ⟨tk, tt, ta, te, ah⟩) rfl rfl (cell5_behind _ _ _ _ _ _ _ _ _ _) (by simp [Value.oneCell', tzCell]) (by unfold maxLen; omega) (by omega) (by simp [World.setCell]; omega) ?_; intro v' w3 hown hgrow hn3; clear hn3; have hB4 := HR4.out.2; have hL4 := HR4.out.1.lt; have hB5 := (hB4.alloc hB4.size _).grown hgrow (by have := hB4.size; simp; omega) (fun j e => (hL4 j e).1)))
            go_roundg (n - (k + 1))
            case rel =>
              refine ⟨k + 1, _, false, by omega, by go_num, rfl, rfl, HE, ?_, hB5⟩
              rw [List.length_append, tzCells_snoc]
              exact hown
            case measure => omega
          · have HE : Hid (bareS (ts.take (k + 1)) = (acc ++ [⟨tk, tt, ta, te, true⟩], false)) := Lib.hid (HB2.out.trans HS.out)
            clear HB2 HS
            go_wp2_with (first
              | (go_at_call 18; refine (HC _).mono ?_; rintro e w2 ⟨rfl, hb2⟩; obtain ⟨⟨d0, d1, d2, d3, d4, f1, f4⟩, hr4, hs2⟩ := bare_call hrow hbx hb2; have HR4 := Lib.hid (hr4 (.string tt) (.bool true)); clear hr4)
              | (at_builtin; refine wpList_append_own _ rfl _ _ 32 rfl w.heap.size 34 i0 (.agg #[.int .i64 0, .string ⟨#[]⟩, .int .i64 0, .int .i64 0, .bool false]) 5 48 Tryz.underlying32 hi hz0 hz1 hz2 rfl (by decide) _ _ _ rfl (HR4.out.1.alloc _) ⟨w2.heap.size, 0, none⟩ 1 1 (tzCell ⟨tk, tt, ta, te, true⟩) rfl rfl (cell5_behind _ _ _ _ _ _ _ _ _ _) (by simp [Value.oneCell', tzCell]) (by unfold maxLen; omega) (by omega) (by simp [World.setCell]; omega) ?_; intro v' w3 hown hgrow hn3; clear hn3; have hB4 := HR4.out.2; have hL4 := HR4.out.1.lt; have hB5 := (hB4.alloc hB4.size _).grown hgrow (by have := hB4.size; simp; omega) (fun j e => (hL4 j e).1)))
            go_roundg (n - (k + 1))
            case rel =>
              refine ⟨k + 1, _, false, by omega, by go_num, rfl, rfl, HE, ?_, hB5⟩
              rw [List.length_append, tzCells_snoc]
              exact hown
            case measure => omega
        · have hst : bareStep (acc, ah) ⟨tk, tt, ta, te, tsp⟩ = (acc, true) := by unfold bareStep outK; simp only [h8, h9]; rfl
          rw [hst] at HB2
          clear hst
          go_wp2
          go_roundg (n - (k + 1))
          case rel => exact ⟨k + 1, acc, true, by omega, by go_num, rfl, rfl, HB2, hrow.alloc _, hbx.alloc hbs _⟩
          case measure => omega
      · have hst : bareStep (acc, ah) ⟨tk, tt, ta, te, tsp⟩ = (acc, true) := by unfold bareStep outK; simp only [h8]; rfl
        rw [hst] at HB2
        clear hst
        go_wp2
        go_roundg (n - (k + 1))
        case rel => exact ⟨k + 1, acc, true, by omega, by go_num, rfl, rfl, HB2, hrow.alloc _, hbx.alloc hbs _⟩
        case measure => omega
    · obtain rfl : k = n := by omega
      have HB3 := Lib.hid (show bareS ts = (acc, ah) by rw [← HB.out, List.take_of_length_le (by rw [HN.out]; exact Nat.le_refl _)])
      go_wp2
      go_ret
      rw [HB3.out]
      exact ⟨⟨_, rfl, hrow⟩, hbx⟩

end Go.Proofs.YtenmapahigbbeaaGreat

namespace Go.Proofs.YtenmapahigbbeaaGreat
open Go.RowKit Go.Shelf

/-- An operator's first spelling. -/
def canB (s : ByteArray) : ByteArray :=
  if (s.toList == [60, 58]) = true then ⟨#[91]⟩ else if (s.toList == [58, 62]) = true then ⟨#[93]⟩ else if (s.toList == [60, 37]) = true then ⟨#[123]⟩ else if (s.toList == [37, 62]) = true then ⟨#[125]⟩ else if (s.toList == [37, 58]) = true then ⟨#[35]⟩ else if (s.toList == [37, 58, 37, 58]) = true then ⟨#[35, 35]⟩ else s
theorem rst {a b : ByteArray} (h : a = b) : Ending.returned (.string a) = .returned (.string b) := by rw [h]

set_option maxHeartbeats 2000000 in
theorem Canon_any (s : ByteArray) (w : World) (hs : s.size ≤ 281474976710656) : Calls Tryz.prog 9 #[.string s] w fun e w' => e = .returned (.string (canB s)) ∧ Below w.heap.size w w' := by
  have C := fun w => clone_any s w hs
  obtain ⟨B, hB⟩ : ∃ B, canB s = B := ⟨_, rfl⟩
  rw [hB]
  unfold canB at hB
  cases h1 : (s.toList == [60, 58]) with
  | true =>
    rw [if_pos h1] at hB
    have HO := Lib.hid hB
    clear hB C
    go_enter Tryz.func9, Tryz.ntmps9
    go_wp2
    go_ret
    exact ⟨rst HO.out, Below.refl _ _⟩
  | false =>
  rw [if_neg (by rw [h1]; decide)] at hB
  cases h2 : (s.toList == [58, 62]) with
  | true =>
    rw [if_pos h2] at hB
    have HO := Lib.hid hB
    clear hB C
    go_enter Tryz.func9, Tryz.ntmps9
    go_wp2
    go_ret
    exact ⟨rst HO.out, Below.refl _ _⟩
  | false =>
  rw [if_neg (by rw [h2]; decide)] at hB
  cases h3 : (s.toList == [60, 37]) with
  | true =>
    rw [if_pos h3] at hB
    have HO := Lib.hid hB
    clear hB C
    go_enter Tryz.func9, Tryz.ntmps9
    go_wp2
    go_ret
    exact ⟨rst HO.out, Below.refl _ _⟩
  | false =>
  rw [if_neg (by rw [h3]; decide)] at hB
  cases h4 : (s.toList == [37, 62]) with
  | true =>
    rw [if_pos h4] at hB
    have HO := Lib.hid hB
    clear hB C
    go_enter Tryz.func9, Tryz.ntmps9
    go_wp2
    go_ret
    exact ⟨rst HO.out, Below.refl _ _⟩
  | false =>
  rw [if_neg (by rw [h4]; decide)] at hB
  cases h5 : (s.toList == [37, 58]) with
  | true =>
    rw [if_pos h5] at hB
    have HO := Lib.hid hB
    clear hB C
    go_enter Tryz.func9, Tryz.ntmps9
    go_wp2
    go_ret
    exact ⟨rst HO.out, Below.refl _ _⟩
  | false =>
  rw [if_neg (by rw [h5]; decide)] at hB
  cases h6 : (s.toList == [37, 58, 37, 58]) with
  | true =>
    rw [if_pos h6] at hB
    have HO := Lib.hid hB
    clear hB C
    go_enter Tryz.func9, Tryz.ntmps9
    go_wp2
    go_ret
    exact ⟨rst HO.out, Below.refl _ _⟩
  | false =>
  rw [if_neg (by rw [h6]; decide)] at hB
  have HO := Lib.hid hB
  clear hB
  go_enter Tryz.func9, Tryz.ntmps9
  go_wp2_with (go_at_call 18; refine (C _).mono ?_; rintro e w1 ⟨rfl, hb1⟩)
  go_ret
  exact ⟨rst HO.out, hb1⟩

/-! ### Class -/
def clsN (k : Int) (s : ByteArray) : Nat :=
  if k = 1 then (if kwB s.data.toList then 1 else 2) else if k = 2 then (if (intR s.data.toList).2.2 = 0 then 3 else if floatC s.data.toList then 4 else 0)
  else if k = 3 then (if (charR s).2 = 0 then 5 else 0) else if k = 4 then (if (strC s).isSome then 6 else 0) else if k = 5 then 7 else 0
theorem rin {a b : Nat} (h : a = b) : Ending.returned (.int .i64 a) = .returned (.int .i64 b) := by rw [h]

set_option maxRecDepth 100000 in
set_option maxHeartbeats 4000000 in
theorem classOf_any (k : Int) (s : ByteArray) (w : World) (hs : s.size ≤ 200000) (hL : LibVar w) :
    Calls Tryz.prog 17 #[.int .i64 k, .string s] w fun e w' => e = .returned (.int .i64 (clsN k s : Nat)) ∧ Below w.heap.size w w' := by
  obtain ⟨c, hc⟩ : ∃ c, clsN k s = c := ⟨_, rfl⟩
  rw [hc]
  unfold clsN at hc
  by_cases k1 : k = 1
  · rw [if_pos k1] at hc
    have i1 : (k == 1) = true := by simp [k1]
    have C := fun w => Keyword_any s w
    clear k1
    cases hb : kwB s.data.toList with
    | true =>
      rw [hb, if_pos rfl] at hc
      rw [hb] at C
      have HO := Lib.hid hc
      clear hc hb
      go_enter Tryz.func17, Tryz.ntmps17
      go_wp2_with (go_at_call 7; refine (C _).mono ?_; rintro e w' ⟨rfl, rfl⟩)
      go_ret
      exact ⟨rin HO.out, Below.refl _ _⟩
    | false =>
      rw [hb, if_neg (by decide)] at hc
      rw [hb] at C
      have HO := Lib.hid hc
      clear hc hb
      go_enter Tryz.func17, Tryz.ntmps17
      go_wp2_with (go_at_call 7; refine (C _).mono ?_; rintro e w' ⟨rfl, rfl⟩)
      go_ret
      exact ⟨rin HO.out, Below.refl _ _⟩
  · rw [if_neg k1] at hc
    have i1 : (k == 1) = false := beq_eq_false_iff_ne.2 k1
    clear k1
    by_cases k2 : k = 2
    · rw [if_pos k2] at hc
      have i2 : (k == 2) = true := by simp [k2]
      clear k2
      have hsm : s.size ≤ maxLen := by unfold maxLen; omega
      have C := fun w => Int_any s w hsm
      obtain ⟨R, hR⟩ : ∃ R, intR s.data.toList = R := ⟨_, rfl⟩
      rw [hR] at hc
      simp only [hR] at C
      clear hR
      obtain ⟨v, u, e0⟩ := R
      simp only at C hc
      by_cases he : e0 = 0
      · rw [if_pos he] at hc
        subst he
        have HO := Lib.hid hc
        clear hc
        go_enter Tryz.func17, Tryz.ntmps17
        go_wp2_with (go_at_call 28; refine (C _).mono ?_; rintro e w1 ⟨rfl, hb1⟩)
        go_ret
        exact ⟨rin HO.out, hb1⟩
      · rw [if_neg he] at hc
        have i3 : ((e0 : Int) == 0) = false := beq_eq_false_iff_ne.2 (by omega)
        have C2 := fun w => Float_any s w hsm
        clear he
        cases hf : floatC s.data.toList with
        | true =>
          rw [hf, if_pos rfl] at hc
          rw [hf] at C2
          have HO := Lib.hid hc
          clear hc hf
          go_enter Tryz.func17, Tryz.ntmps17
          go_wp2_with (first | (go_at_call 28; refine (C _).mono ?_; rintro e w1 ⟨rfl, hb1⟩) | (go_at_call 11; refine (C2 _).mono ?_; rintro e w2 ⟨rfl, hb2⟩))
          go_ret
          exact ⟨rin HO.out, hb1.trans (hb2.mono hb1.size)⟩
        | false =>
          rw [hf, if_neg (by decide)] at hc
          rw [hf] at C2
          have HO := Lib.hid hc
          clear hc hf
          go_enter Tryz.func17, Tryz.ntmps17
          go_wp2_with (first | (go_at_call 28; refine (C _).mono ?_; rintro e w1 ⟨rfl, hb1⟩) | (go_at_call 11; refine (C2 _).mono ?_; rintro e w2 ⟨rfl, hb2⟩))
          go_ret
          exact ⟨rin HO.out, hb1.trans (hb2.mono hb1.size)⟩
    · rw [if_neg k2] at hc
      have i2 : (k == 2) = false := beq_eq_false_iff_ne.2 k2
      clear k2
      by_cases k3 : k = 3
      · rw [if_pos k3] at hc
        have i3 : (k == 3) = true := by simp [k3]
        clear k3
        have C := Char_any s w hs hL
        obtain ⟨R, hR⟩ : ∃ R, charR s = R := ⟨_, rfl⟩
        rw [hR] at hc C
        clear hR
        obtain ⟨v, e0⟩ := R
        simp only at C hc
        by_cases he : e0 = 0
        · rw [if_pos he] at hc
          subst he
          have HO := Lib.hid hc
          clear hc
          go_enter Tryz.func17, Tryz.ntmps17
          go_wp2_with (go_at_call 29; refine C.mono ?_; rintro e w1 ⟨rfl, hb1⟩)
          go_ret
          exact ⟨rin HO.out, hb1⟩
        · rw [if_neg he] at hc
          have i4 : ((e0 : Int) == 0) = false := beq_eq_false_iff_ne.2 (by omega)
          have HO := Lib.hid hc
          clear hc he
          go_enter Tryz.func17, Tryz.ntmps17
          go_wp2_with (go_at_call 29; refine C.mono ?_; rintro e w1 ⟨rfl, hb1⟩)
          go_ret
          exact ⟨rin HO.out, hb1⟩
      · rw [if_neg k3] at hc
        have i3 : (k == 3) = false := beq_eq_false_iff_ne.2 k3
        clear k3
        by_cases k4 : k = 4
        · rw [if_pos k4] at hc
          have i4 : (k == 4) = true := by simp [k4]
          clear k4
          have C := Str_any s w hs hL
          unfold StrR at C
          generalize strC s = S at *
          cases S with
          | none =>
            have HO := Lib.hid hc
            clear hc
            go_enter Tryz.func17, Tryz.ntmps17
            go_wp2_with fail
            refine C.mono ?_
            rintro e w1 ⟨rfl, hb1⟩
            go_wp2
            go_ret
            exact ⟨rin (by rw [← HO.out]; rfl), hb1⟩
          | some ns =>
            have HO := Lib.hid hc
            clear hc
            go_enter Tryz.func17, Tryz.ntmps17
            go_wp2_with fail
            refine C.mono ?_
            rintro e w1 ⟨⟨v, rfl, hrow⟩, hb1⟩
            obtain ⟨a, cap, rfl⟩ := row_shape hrow
            clear hrow
            go_wp2
            go_ret
            exact ⟨rin (by rw [← HO.out]; rfl), hb1⟩
        · rw [if_neg k4] at hc
          have i4 : (k == 4) = false := beq_eq_false_iff_ne.2 k4
          clear k4
          by_cases k5 : k = 5
          · rw [if_pos k5] at hc
            have i5 : (k == 5) = true := by simp [k5]
            have HO := Lib.hid hc
            clear k5 hc
            go_enter Tryz.func17, Tryz.ntmps17
            go_wp2
            go_ret
            exact ⟨rin HO.out, Below.refl _ _⟩
          · rw [if_neg k5] at hc
            have i5 : (k == 5) = false := beq_eq_false_iff_ne.2 k5
            have HO := Lib.hid hc
            clear k5 hc
            go_enter Tryz.func17, Tryz.ntmps17
            go_wp2
            go_ret
            exact ⟨rin HO.out, Below.refl _ _⟩

end Go.Proofs.YtenmapahigbbeaaGreat

namespace Go.Proofs.YtenmapahigbbeaaGreat
open Go.RowKit Go.Shelf

/-- What Class answers: the class (0: none), the text, the error. -/
def clsR (k : Int) (s : ByteArray) : Nat × ByteArray × Nat := if clsN k s = 0 then (0, ⟨#[]⟩, 40) else if clsN k s = 7 then (7, canB s, 0) else (clsN k s, s, 0)
theorem rcls {a b : Nat} {s t : ByteArray} {x y : Nat} (h : (b, t, y) = (a, s, x)) : Ending.returned (.tuple #[.agg #[.int .i64 a, .string s], .int .i64 x]) = .returned (.tuple #[.agg #[.int .i64 b, .string t], .int .i64 y]) := by cases h; rfl

theorem pair_below {w w1 : World} {T : TypeId} {x y : Value} (hb : Below (w.alloc (.cells #[x, y] T)).heap.size (w.alloc (.cells #[x, y] T)) w1) : w1.heap[w.heap.size]? = some (.cells #[x, y] T (0, 0)) :=
  (hb.block _ (by simp)).trans (World.alloc_heap_new _ _)
theorem pair_cells {W : World} {B : Nat} {T : TypeId} {x y : Value} (h : W.heap[B]? = some (.cells #[x, y] T (0, 0))) :
    W.cell? ⟨B, 0, none⟩ = some x ∧ W.cell? ⟨B, 1, none⟩ = some y ∧ W.frozen? ⟨B, 0, none⟩ = false ∧ W.frozen? ⟨B, 1, none⟩ = false :=
  ⟨by rw [Lib.cell_of_heap h]; rfl, by rw [Lib.cell_of_heap h]; rfl, by simp [World.frozen?, h], by simp [World.frozen?, h]⟩
theorem pair_set {W : World} {B : Nat} {T : TypeId} {x y : Value} (h : W.heap[B]? = some (.cells #[x, y] T (0, 0))) (a b : Value) :
    ((W.setCell ⟨B, 0, none⟩ a).setCell ⟨B, 1, none⟩ b).heap[B]? = some (.cells #[a, b] T (0, 0)) := by simp [World.setCell, Array.getElem?_modify, h]
/-- What Class hands back: its struct, and the error. -/
theorem results_cls (tmps : Array Value) (B : Nat) (x y v : Value) (W : World) (h2 : tmps[4]?.getD undef = .pointer (some ⟨B, 0, none⟩)) (h3 : tmps[5]?.getD undef = v)
    (c0 : W.cell? ⟨B, 0, none⟩ = some x) (c1 : W.cell? ⟨B, 1, none⟩ = some y) : (results Tryz.f5 tmps).run Tryz.prog W = .ok (.tuple #[.agg #[x, y], v]) W := by
  simp [results, Tryz.results5, go_sem, h2, h3, c0, c1]

set_option maxRecDepth 100000 in
set_option maxHeartbeats 4000000 in
theorem Class_any (k : Int) (s : ByteArray) (w : World) (hs : s.size ≤ 200000) (hL : LibVar w) :
    Calls Tryz.prog 5 #[.int .i64 k, .string s] w fun e w' => e = .returned (.tuple #[.agg #[.int .i64 ((clsR k s).1 : Nat), .string (clsR k s).2.1], .int .i64 ((clsR k s).2.2 : Nat)]) ∧ Below w.heap.size w w' := by
  obtain ⟨R, hR⟩ : ∃ R, clsR k s = R := ⟨_, rfl⟩
  rw [hR]
  unfold clsR at hR
  have hb0 := below1 w (.cells #[.int .i64 0, .string ⟨#[]⟩] 23)
  have C := fun w' (hb : Below w.heap.size w w') => classOf_any k s w' hs (libVar_below hb hL)
  have CC := fun w => Canon_any s w (by omega)
  have CS := fun w => clone_any s w (by omega)
  obtain ⟨c, hc⟩ : ∃ c, clsN k s = c := ⟨_, rfl⟩
  rw [hc] at hR
  simp only [hc] at C
  clear hc
  by_cases h0 : c = 0
  · rw [if_pos h0] at hR
    have HO := Lib.hid hR.symm
    subst h0
    clear hR
    go_enter Tryz.func5, Tryz.ntmps5
    go_wp2_with fail
    refine (C _ hb0).mono ?_
    rintro e w1 ⟨rfl, hb1⟩
    have hB1 := hb0.trans (hb1.mono hb0.size)
    have hk := pair_below hb1
    obtain ⟨d0, d1, f0, f1⟩ := pair_cells hk
    have hk3 := pair_set hk (.int .i64 0) (.string ⟨#[]⟩)
    clear hk
    obtain ⟨e0, e1, -, -⟩ := pair_cells hk3
    go_wp2
    refine bodyPost_ret (results_cls _ w.heap.size _ _ _ _ rfl rfl e0 e1) rfl ?_
    exact ⟨rcls HO.out, (hB1.setCell (Nat.le_refl _) _).setCell (Nat.le_refl _) _⟩
  · rw [if_neg h0] at hR
    by_cases h7 : c = 7
    · rw [if_pos h7] at hR
      have HO := Lib.hid hR.symm
      subst h7
      clear hR h0
      go_enter Tryz.func5, Tryz.ntmps5
      go_wp2_with fail
      refine (C _ hb0).mono ?_
      rintro e w1 ⟨rfl, hb1⟩
      have hB1 := hb0.trans (hb1.mono hb0.size)
      have hk := pair_below hb1
      go_wp2_with fail
      refine (CC _).mono ?_
      rintro e w2 ⟨rfl, hb2⟩
      have hB2 := hB1.trans (hb2.mono hB1.size)
      have hk2 := (hb2.block _ (Array.getElem?_eq_some_iff.1 hk).1).trans hk
      clear hk
      have hk := hk2
      obtain ⟨d0, d1, f0, f1⟩ := pair_cells hk
      have hk3 := pair_set hk (.int .i64 7) (.string (canB s))
      clear hk
      obtain ⟨e0, e1, -, -⟩ := pair_cells hk3
      go_wp2
      refine bodyPost_ret (results_cls _ w.heap.size _ _ _ _ rfl rfl e0 e1) rfl ?_
      exact ⟨rcls HO.out, (hB2.setCell (Nat.le_refl _) _).setCell (Nat.le_refl _) _⟩
    · rw [if_neg h7] at hR
      have HO := Lib.hid hR.symm
      have i1 : ((c : Int) == 0) = false := beq_eq_false_iff_ne.2 (by omega)
      have i2 : ((c : Int) == 7) = false := beq_eq_false_iff_ne.2 (by omega)
      clear hR h0 h7
      go_enter Tryz.func5, Tryz.ntmps5
      go_wp2_with fail
      refine (C _ hb0).mono ?_
      rintro e w1 ⟨rfl, hb1⟩
      have hB1 := hb0.trans (hb1.mono hb0.size)
      have hk := pair_below hb1
      go_wp2_with fail
      refine (CS _).mono ?_
      rintro e w2 ⟨rfl, hb2⟩
      have hB2 := hB1.trans (hb2.mono hB1.size)
      have hk2 := (hb2.block _ (Array.getElem?_eq_some_iff.1 hk).1).trans hk
      clear hk
      have hk := hk2
      obtain ⟨d0, d1, f0, f1⟩ := pair_cells hk
      have hk3 := pair_set hk (.int .i64 c) (.string s)
      clear hk
      obtain ⟨e0, e1, -, -⟩ := pair_cells hk3
      go_wp2
      refine bodyPost_ret (results_cls _ w.heap.size _ _ _ _ rfl rfl e0 e1) rfl ?_
      exact ⟨rcls HO.out, (hB2.setCell (Nat.le_refl _) _).setCell (Nat.le_refl _) _⟩

end Go.Proofs.YtenmapahigbbeaaGreat

namespace Go.Proofs.YtenmapahigbbeaaGreat
open Go.RowKit Go.Shelf

set_option maxHeartbeats 2000000 in
theorem rCanon_any (s : ByteArray) (w : World) : Calls Tryz.prog 10 #[.string s] w fun e w' => e = .returned (.string (canB s)) ∧ w = w' := by
  obtain ⟨B, hB⟩ : ∃ B, canB s = B := ⟨_, rfl⟩
  rw [hB]
  unfold canB at hB
  cases h1 : (s.toList == [60, 58]) with
  | true =>
    rw [if_pos h1] at hB
    have HO := Lib.hid hB
    clear hB
    go_enter Tryz.func10, Tryz.ntmps10
    go_wp2
    go_ret
    exact ⟨rst HO.out, rfl⟩
  | false =>
  rw [if_neg (by rw [h1]; decide)] at hB
  cases h2 : (s.toList == [58, 62]) with
  | true =>
    rw [if_pos h2] at hB
    have HO := Lib.hid hB
    clear hB
    go_enter Tryz.func10, Tryz.ntmps10
    go_wp2
    go_ret
    exact ⟨rst HO.out, rfl⟩
  | false =>
  rw [if_neg (by rw [h2]; decide)] at hB
  cases h3 : (s.toList == [60, 37]) with
  | true =>
    rw [if_pos h3] at hB
    have HO := Lib.hid hB
    clear hB
    go_enter Tryz.func10, Tryz.ntmps10
    go_wp2
    go_ret
    exact ⟨rst HO.out, rfl⟩
  | false =>
  rw [if_neg (by rw [h3]; decide)] at hB
  cases h4 : (s.toList == [37, 62]) with
  | true =>
    rw [if_pos h4] at hB
    have HO := Lib.hid hB
    clear hB
    go_enter Tryz.func10, Tryz.ntmps10
    go_wp2
    go_ret
    exact ⟨rst HO.out, rfl⟩
  | false =>
  rw [if_neg (by rw [h4]; decide)] at hB
  cases h5 : (s.toList == [37, 58]) with
  | true =>
    rw [if_pos h5] at hB
    have HO := Lib.hid hB
    clear hB
    go_enter Tryz.func10, Tryz.ntmps10
    go_wp2
    go_ret
    exact ⟨rst HO.out, rfl⟩
  | false =>
  rw [if_neg (by rw [h5]; decide)] at hB
  cases h6 : (s.toList == [37, 58, 37, 58]) with
  | true =>
    rw [if_pos h6] at hB
    have HO := Lib.hid hB
    clear hB
    go_enter Tryz.func10, Tryz.ntmps10
    go_wp2
    go_ret
    exact ⟨rst HO.out, rfl⟩
  | false =>
  rw [if_neg (by rw [h6]; decide)] at hB
  have HO := Lib.hid hB
  clear hB
  go_enter Tryz.func10, Tryz.ntmps10
  go_wp2
  go_ret
  exact ⟨rst HO.out, rfl⟩

set_option maxRecDepth 100000 in
set_option maxHeartbeats 4000000 in
theorem rclass_any (k : Int) (s : ByteArray) (w : World) (hs : s.size ≤ 1000) :
    Calls Tryz.prog 19 #[.int .i64 k, .string s] w fun e w' => e = .returned (.int .i64 (clsN k s : Nat)) ∧ Below w.heap.size w w' := by
  obtain ⟨c, hc⟩ : ∃ c, clsN k s = c := ⟨_, rfl⟩
  rw [hc]
  unfold clsN at hc
  by_cases k1 : k = 1
  · rw [if_pos k1] at hc
    have i1 : (k == 1) = true := by simp [k1]
    have C := fun w => rKeyword_any s w hs
    clear k1
    cases hb : kwB s.data.toList with
    | true =>
      rw [hb, if_pos rfl] at hc
      rw [hb] at C
      have HO := Lib.hid hc
      clear hc hb
      go_enter Tryz.func19, Tryz.ntmps19
      go_wp2_with (go_at_call 8; refine (C _).mono ?_; rintro e w' ⟨rfl, rfl⟩)
      go_ret
      exact ⟨rin HO.out, Below.refl _ _⟩
    | false =>
      rw [hb, if_neg (by decide)] at hc
      rw [hb] at C
      have HO := Lib.hid hc
      clear hc hb
      go_enter Tryz.func19, Tryz.ntmps19
      go_wp2_with (go_at_call 8; refine (C _).mono ?_; rintro e w' ⟨rfl, rfl⟩)
      go_ret
      exact ⟨rin HO.out, Below.refl _ _⟩
  · rw [if_neg k1] at hc
    have i1 : (k == 1) = false := beq_eq_false_iff_ne.2 k1
    clear k1
    by_cases k2 : k = 2
    · rw [if_pos k2] at hc
      have i2 : (k == 2) = true := by simp [k2]
      clear k2
      have hsm : s.size ≤ maxLen := by unfold maxLen; omega
      have C := fun w => rInt_any s w hsm
      obtain ⟨R, hR⟩ : ∃ R, intR s.data.toList = R := ⟨_, rfl⟩
      rw [hR] at hc
      simp only [hR] at C
      clear hR
      obtain ⟨v, u, e0⟩ := R
      simp only at C hc
      by_cases he : e0 = 0
      · rw [if_pos he] at hc
        subst he
        have HO := Lib.hid hc
        clear hc
        go_enter Tryz.func19, Tryz.ntmps19
        go_wp2_with (go_at_call 32; refine (C _).mono ?_; rintro e w' ⟨rfl, rfl⟩)
        go_ret
        exact ⟨rin HO.out, Below.refl _ _⟩
      · rw [if_neg he] at hc
        have i3 : ((e0 : Int) == 0) = false := beq_eq_false_iff_ne.2 (by omega)
        have C2 := fun w => rFloat_any s w hsm
        clear he
        cases hf : floatC s.data.toList with
        | true =>
          rw [hf, if_pos rfl] at hc
          rw [hf] at C2
          have HO := Lib.hid hc
          clear hc hf
          go_enter Tryz.func19, Tryz.ntmps19
          go_wp2_with (first | (go_at_call 32; refine (C _).mono ?_; rintro e w' ⟨rfl, rfl⟩) | (go_at_call 12; refine (C2 _).mono ?_; rintro e w' ⟨rfl, rfl⟩))
          go_ret
          exact ⟨rin HO.out, Below.refl _ _⟩
        | false =>
          rw [hf, if_neg (by decide)] at hc
          rw [hf] at C2
          have HO := Lib.hid hc
          clear hc hf
          go_enter Tryz.func19, Tryz.ntmps19
          go_wp2_with (first | (go_at_call 32; refine (C _).mono ?_; rintro e w' ⟨rfl, rfl⟩) | (go_at_call 12; refine (C2 _).mono ?_; rintro e w' ⟨rfl, rfl⟩))
          go_ret
          exact ⟨rin HO.out, Below.refl _ _⟩
    · rw [if_neg k2] at hc
      have i2 : (k == 2) = false := beq_eq_false_iff_ne.2 k2
      clear k2
      by_cases k3 : k = 3
      · rw [if_pos k3] at hc
        have i3 : (k == 3) = true := by simp [k3]
        clear k3
        have C := rChar_any s w hs
        obtain ⟨R, hR⟩ : ∃ R, charR s = R := ⟨_, rfl⟩
        rw [hR] at hc C
        clear hR
        obtain ⟨v, e0⟩ := R
        simp only at C hc
        by_cases he : e0 = 0
        · rw [if_pos he] at hc
          subst he
          have HO := Lib.hid hc
          clear hc
          go_enter Tryz.func19, Tryz.ntmps19
          go_wp2_with (go_at_call 33; refine C.mono ?_; rintro e w1 ⟨rfl, hb1⟩)
          go_ret
          exact ⟨rin HO.out, hb1⟩
        · rw [if_neg he] at hc
          have i4 : ((e0 : Int) == 0) = false := beq_eq_false_iff_ne.2 (by omega)
          have HO := Lib.hid hc
          clear hc he
          go_enter Tryz.func19, Tryz.ntmps19
          go_wp2_with (go_at_call 33; refine C.mono ?_; rintro e w1 ⟨rfl, hb1⟩)
          go_ret
          exact ⟨rin HO.out, hb1⟩
      · rw [if_neg k3] at hc
        have i3 : (k == 3) = false := beq_eq_false_iff_ne.2 k3
        clear k3
        by_cases k4 : k = 4
        · rw [if_pos k4] at hc
          have i4 : (k == 4) = true := by simp [k4]
          clear k4
          have C := rStr_any s w hs
          unfold StrR at C
          generalize strC s = S at *
          cases S with
          | none =>
            have HO := Lib.hid hc
            clear hc
            go_enter Tryz.func19, Tryz.ntmps19
            go_wp2_with fail
            refine C.mono ?_
            rintro e w1 ⟨rfl, hb1⟩
            go_wp2
            go_ret
            exact ⟨rin (by rw [← HO.out]; rfl), hb1⟩
          | some ns =>
            have HO := Lib.hid hc
            clear hc
            go_enter Tryz.func19, Tryz.ntmps19
            go_wp2_with fail
            refine C.mono ?_
            rintro e w1 ⟨⟨v, rfl, hrow⟩, hb1⟩
            obtain ⟨a, cap, rfl⟩ := row_shape hrow
            clear hrow
            go_wp2
            go_ret
            exact ⟨rin (by rw [← HO.out]; rfl), hb1⟩
        · rw [if_neg k4] at hc
          have i4 : (k == 4) = false := beq_eq_false_iff_ne.2 k4
          clear k4
          by_cases k5 : k = 5
          · rw [if_pos k5] at hc
            have i5 : (k == 5) = true := by simp [k5]
            have HO := Lib.hid hc
            clear k5 hc
            go_enter Tryz.func19, Tryz.ntmps19
            go_wp2
            go_ret
            exact ⟨rin HO.out, Below.refl _ _⟩
          · rw [if_neg k5] at hc
            have i5 : (k == 5) = false := beq_eq_false_iff_ne.2 k5
            have HO := Lib.hid hc
            clear k5 hc
            go_enter Tryz.func19, Tryz.ntmps19
            go_wp2
            go_ret
            exact ⟨rin HO.out, Below.refl _ _⟩

/-- What Class hands back: its struct, and the error. -/
theorem results_rcls (tmps : Array Value) (B : Nat) (x y v : Value) (W : World) (h2 : tmps[4]?.getD undef = .pointer (some ⟨B, 0, none⟩)) (h3 : tmps[5]?.getD undef = v)
    (c0 : W.cell? ⟨B, 0, none⟩ = some x) (c1 : W.cell? ⟨B, 1, none⟩ = some y) : (results Tryz.f6 tmps).run Tryz.prog W = .ok (.tuple #[.agg #[x, y], v]) W := by
  simp [results, Tryz.results6, go_sem, h2, h3, c0, c1]

set_option maxRecDepth 100000 in
set_option maxHeartbeats 4000000 in
theorem rClass_any (k : Int) (s : ByteArray) (w : World) (hs : s.size ≤ 1000) :
    Calls Tryz.prog 6 #[.int .i64 k, .string s] w fun e w' => e = .returned (.tuple #[.agg #[.int .i64 ((clsR k s).1 : Nat), .string (clsR k s).2.1], .int .i64 ((clsR k s).2.2 : Nat)]) ∧ Below w.heap.size w w' := by
  obtain ⟨R, hR⟩ : ∃ R, clsR k s = R := ⟨_, rfl⟩
  rw [hR]
  unfold clsR at hR
  have hb0 := below1 w (.cells #[.int .i64 0, .string ⟨#[]⟩] 23)
  have C := fun w' => rclass_any k s w' hs
  have CC := fun w => rCanon_any s w
  obtain ⟨c, hc⟩ : ∃ c, clsN k s = c := ⟨_, rfl⟩
  rw [hc] at hR
  simp only [hc] at C
  clear hc
  by_cases h0 : c = 0
  · rw [if_pos h0] at hR
    have HO := Lib.hid hR.symm
    subst h0
    clear hR
    go_enter Tryz.func6, Tryz.ntmps6
    go_wp2_with fail
    refine (C _).mono ?_
    rintro e w1 ⟨rfl, hb1⟩
    have hB1 := hb0.trans (hb1.mono hb0.size)
    have hk := pair_below hb1
    obtain ⟨d0, d1, f0, f1⟩ := pair_cells hk
    have hk3 := pair_set hk (.int .i64 0) (.string ⟨#[]⟩)
    clear hk
    obtain ⟨e0, e1, -, -⟩ := pair_cells hk3
    go_wp2
    refine bodyPost_ret (results_rcls _ w.heap.size _ _ _ _ rfl rfl e0 e1) rfl ?_
    exact ⟨rcls HO.out, (hB1.setCell (Nat.le_refl _) _).setCell (Nat.le_refl _) _⟩
  · rw [if_neg h0] at hR
    by_cases h7 : c = 7
    · rw [if_pos h7] at hR
      have HO := Lib.hid hR.symm
      subst h7
      clear hR h0
      go_enter Tryz.func6, Tryz.ntmps6
      go_wp2_with fail
      refine (C _).mono ?_
      rintro e w1 ⟨rfl, hb1⟩
      have hB1 := hb0.trans (hb1.mono hb0.size)
      have hk := pair_below hb1
      go_wp2_with fail
      refine (CC _).mono ?_
      rintro e w' ⟨rfl, rfl⟩
      obtain ⟨d0, d1, f0, f1⟩ := pair_cells hk
      have hk3 := pair_set hk (.int .i64 7) (.string (canB s))
      clear hk
      obtain ⟨e0, e1, -, -⟩ := pair_cells hk3
      go_wp2
      refine bodyPost_ret (results_rcls _ w.heap.size _ _ _ _ rfl rfl e0 e1) rfl ?_
      exact ⟨rcls HO.out, (hB1.setCell (Nat.le_refl _) _).setCell (Nat.le_refl _) _⟩
    · rw [if_neg h7] at hR
      have HO := Lib.hid hR.symm
      have i1 : ((c : Int) == 0) = false := beq_eq_false_iff_ne.2 (by omega)
      have i2 : ((c : Int) == 7) = false := beq_eq_false_iff_ne.2 (by omega)
      clear hR h0 h7
      go_enter Tryz.func6, Tryz.ntmps6
      go_wp2_with fail
      refine (C _).mono ?_
      rintro e w1 ⟨rfl, hb1⟩
      have hB1 := hb0.trans (hb1.mono hb0.size)
      have hk := pair_below hb1
      obtain ⟨d0, d1, f0, f1⟩ := pair_cells hk
      have hk3 := pair_set hk (.int .i64 c) (.string s)
      clear hk
      obtain ⟨e0, e1, -, -⟩ := pair_cells hk3
      go_wp2
      refine bodyPost_ret (results_rcls _ w.heap.size _ _ _ _ rfl rfl e0 e1) rfl ?_
      exact ⟨rcls HO.out, (hB1.setCell (Nat.le_refl _) _).setCell (Nat.le_refl _) _⟩

end Go.Proofs.YtenmapahigbbeaaGreat
