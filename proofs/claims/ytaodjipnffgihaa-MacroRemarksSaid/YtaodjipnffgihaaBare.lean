/- scan.Bare. -/
import Derived.Test.YtaodjipnffgihaaTokRow0
import Derived.OneCell
namespace Go.Proofs.Ytaodjipnffgihaa
open Go.RowKit Go.Shelf

/-- A token of any list. -/
structure Tz where
  k : Int
  tx : ByteArray
  a : Int
  e : Int
  sp : Bool
def tzCell (t : Tz) : List Value := [.int .i64 t.k, .string t.tx, .int .i64 t.a, .int .i64 t.e, .bool t.sp]
def tzCells (ts : List Tz) : List Value := ts.flatMap tzCell
theorem tzCells_snoc (ts : List Tz) (t : Tz) : tzCells (ts ++ [t]) = tzCells ts ++ tzCell t := by simp [tzCells, tzCell]
def TzRow (W : World) (g : Nat) (ts : List Tz) : Prop := ∀ i t, ts[i]? = some t → W.cell? ⟨g, i * 5, none⟩ = some (.int .i64 t.k) ∧ W.cell? ⟨g, i * 5 + 1, none⟩ = some (.string t.tx) ∧ W.cell? ⟨g, i * 5 + 2, none⟩ = some (.int .i64 t.a) ∧ W.cell? ⟨g, i * 5 + 3, none⟩ = some (.int .i64 t.e) ∧ W.cell? ⟨g, i * 5 + 4, none⟩ = some (.bool t.sp)
theorem TzRow.below {B g : Nat} {W W' : World} {ys : List Tz} (h : TzRow W g ys) (hb : Below B W W') (hg : g < B) : TzRow W' g ys := fun i y hy => by
  have hc : ∀ o, W'.cell? ⟨g, o, none⟩ = W.cell? ⟨g, o, none⟩ := fun o => hb.cell (p := ⟨g, o, none⟩) hg
  rw [hc, hc, hc, hc, hc]
  exact h i y hy
def tzOf (y : Yd) : Tz := ⟨y.k, y.tx, y.a, y.e, y.sp⟩
theorem TokRow.tz {W : World} {g : Nat} {ys : List Yd} (h : TokRow W g ys) : TzRow W g (ys.map tzOf) := fun i t ht => by
  rw [List.getElem?_map] at ht
  cases hy : ys[i]? with
  | none => rw [hy] at ht; cases ht
  | some y => rw [hy] at ht; cases ht; exact h i y hy

/-- Left out? -/
def outK (k : Int) : Bool := k == 8 || k == 9
def bareStep (q : List Tz × Bool) (t : Tz) : List Tz × Bool := if outK t.k then (q.1, true) else (q.1 ++ [{ t with sp := t.sp || q.2 }], false)
def bareS (ts : List Tz) : List Tz × Bool := ts.foldl bareStep ([], false)
theorem bareS_snoc {ts : List Tz} {k : Nat} {t : Tz} (h : ts[k]? = some t) : bareS (ts.take (k + 1)) = bareStep (bareS (ts.take k)) t := by
  unfold bareS
  rw [List.take_add_one, h, List.foldl_append]
  rfl
theorem bareS_len (ts : List Tz) : (bareS ts).1.length ≤ ts.length := by
  have : ∀ (ts : List Tz) (q : List Tz × Bool), (ts.foldl bareStep q).1.length ≤ q.1.length + ts.length := by
    intro ts
    induction ts with
    | nil => intro q; exact Nat.le_refl _
    | cons t ts ih =>
      intro q
      rw [List.foldl_cons]
      refine Nat.le_trans (ih _) ?_
      unfold bareStep
      split <;> simp <;> omega
  simpa [bareS] using this ts ([], false)

theorem infoTz : (Try.prog.info? 49).map (fun i => (i.zero, i.size, i.bytes)) = some (some (.agg #[.int .i64 0, .string ⟨#[]⟩, .int .i64 0, .int .i64 0, .bool false]), 5, 48) := infoTok

theorem clone_any (s : ByteArray) (w : World) (hs : s.size ≤ 281474976710656) :
    Calls Try.prog 28 #[.string s] w fun e w' => e = .returned (.string s) ∧ Below w.heap.size w w' := by
  have H := fun w' => Try.stringslite_Clone s w' hs
  go_enter Try.func28, Try.ntmps28
  go_wp2_with (go_at_call 51; refine (H _).mono ?_; rintro e w' ⟨rfl, hb⟩)
  go_ret
  exact ⟨rfl, hb⟩

theorem row_below {B : Nat} {e : TypeId} {k : Nat} {v : Value} {n : Nat} {xs : List Value} {w w' : World} (h : w.ownsRow B e k v n xs) (hb : Below w.heap.size w w') : w'.ownsRow B e k v n xs := by
  obtain ⟨h1, h2⟩ := h
  refine ⟨h1, ?_⟩
  rcases h2 with h2 | ⟨g, cap, cur, hv, hg, hh, r⟩
  · exact .inl h2
  · exact .inr ⟨g, cap, cur, hv, hg, (hb.block g (Array.getElem?_eq_some_iff.1 hh).1).trans hh, r⟩

/-- What a made token's block is. -/
theorem tz_box {w : World} {B : Nat} {t : Tz} (h : w.heap[B]? = some (.cells (tzCell t).toArray 49 (0, 0))) :
    w.cell? ⟨B, 0, none⟩ = some (.int .i64 t.k) ∧ w.cell? ⟨B, 1, none⟩ = some (.string t.tx) ∧ w.cell? ⟨B, 2, none⟩ = some (.int .i64 t.a) ∧ w.cell? ⟨B, 3, none⟩ = some (.int .i64 t.e) ∧ w.cell? ⟨B, 4, none⟩ = some (.bool t.sp) ∧
      w.frozen? ⟨B, 1, none⟩ = false ∧ w.frozen? ⟨B, 4, none⟩ = false := by
  refine ⟨?_, ?_, ?_, ?_, ?_, ?_, ?_⟩
  all_goals simp [World.cell?, World.frozen?, h, tzCell]

theorem row_ne {w : World} {base n : Nat} {e : TypeId} {size : Nat} {v : Value} {xs : List Value} (h : w.ownsRow base e size v n xs) : v.ownBlock ≠ some w.heap.size := fun e => by
  have := (h.lt _ e).2
  omega

/-- Behind the call of Clone. -/
theorem bare_call {w wr w2 : World} {k : Int} {tx : ByteArray} {a e : Int} {sp : Bool} {v : Value} {n : Nat} {xs : List Value} (hr : wr.ownsRow w.heap.size 49 5 v n xs) (hb : Below w.heap.size w wr)
    (h : Below (wr.alloc (.cells #[.int .i64 k, .string tx, .int .i64 a, .int .i64 e, .bool sp] 49)).heap.size (wr.alloc (.cells #[.int .i64 k, .string tx, .int .i64 a, .int .i64 e, .bool sp] 49)) w2) :
    (w2.cell? ⟨wr.heap.size, 0, none⟩ = some (.int .i64 k) ∧ w2.cell? ⟨wr.heap.size, 1, none⟩ = some (.string tx) ∧ w2.cell? ⟨wr.heap.size, 2, none⟩ = some (.int .i64 a) ∧ w2.cell? ⟨wr.heap.size, 3, none⟩ = some (.int .i64 e) ∧ w2.cell? ⟨wr.heap.size, 4, none⟩ = some (.bool sp) ∧
      w2.frozen? ⟨wr.heap.size, 1, none⟩ = false ∧ w2.frozen? ⟨wr.heap.size, 4, none⟩ = false) ∧
      (∀ u u', ((w2.setCell ⟨wr.heap.size, 1, none⟩ u).setCell ⟨wr.heap.size, 4, none⟩ u').ownsRow w.heap.size 49 5 v n xs ∧ Below w.heap.size w ((w2.setCell ⟨wr.heap.size, 1, none⟩ u).setCell ⟨wr.heap.size, 4, none⟩ u')) ∧ w.heap.size ≤ w2.heap.size := by
  have hne := row_ne hr
  have hx := (h.block wr.heap.size (by simp)).trans (World.alloc_heap_new wr _)
  have hbs := hb.size
  refine ⟨tz_box (t := ⟨k, tx, a, e, sp⟩) hx, fun u u' => ⟨?_, ?_⟩, ((hb.alloc hbs _).trans (h.mono (by simp; omega))).size⟩
  · exact ownsRow_setCell_other (a := ⟨wr.heap.size, 4, none⟩) (ownsRow_setCell_other (a := ⟨wr.heap.size, 1, none⟩) (row_below (hr.alloc _) h) hne u) hne u'
  · exact (((hb.alloc hbs _).trans (h.mono (by simp; omega))).setCell (p := ⟨wr.heap.size, 1, none⟩) hbs u).setCell (p := ⟨wr.heap.size, 4, none⟩) hbs u'

theorem cell5_behind (w2 : World) (B : Nat) (u u' a b c d e : Value) (t : TypeId) : ∀ j x, [a, b, c, d, e][j]? = some x → (((w2.setCell ⟨B, 1, none⟩ u).setCell ⟨B, 4, none⟩ u').alloc (.cells #[a, b, c, d, e] t)).cell? ((⟨w2.heap.size, 0, none⟩ : Addr).add j) = some x := by
  have h : ((w2.setCell ⟨B, 1, none⟩ u).setCell ⟨B, 4, none⟩ u').heap.size = w2.heap.size := by simp [World.setCell]
  have := cell5_new ((w2.setCell ⟨B, 1, none⟩ u).setCell ⟨B, 4, none⟩ u') a b c d e t
  rw [h] at this
  exact this

set_option maxRecDepth 100000 in
set_option maxHeartbeats 4000000 in
theorem bare_any (ts : List Tz) (n cap : Nat) (a : Option Addr) (w : World) (hn : ts.length = n) (hn2 : n * 48 ≤ 140737488355328) (ht : ∀ t ∈ ts, t.tx.size ≤ 281474976710656)
    (hT : 0 < n → ∃ g, a = some ⟨g, 0, none⟩ ∧ g < w.heap.size ∧ TzRow w g ts) :
    Calls Try.prog 54 #[.slice a n cap] w fun e w' => (∃ v, e = .returned v ∧ w'.ownsRow w.heap.size 49 5 v (bareS ts).1.length (tzCells (bareS ts).1)) ∧ Below w.heap.size w w' := by
  obtain ⟨i0, hi, hz0, hz1, hz2⟩ := info_parts infoTz
  have HN := Lib.hid hn
  have HT := Lib.hid hT
  have HX := Lib.hid ht
  clear hn hT ht
  go_enter Try.func54, Try.ntmps54
  go_wp2
  go_loopg [3, 4, 6, 9] n (fun g v lo _ i wx => ∃ (k : Nat) (acc : List Tz) (ah : Bool), k ≤ n ∧ i = .int .i64 k ∧ g = n - k ∧ lo = .bool ah ∧ Hid (bareS (ts.take k) = (acc, ah)) ∧ wx.ownsRow w.heap.size 49 5 v acc.length (tzCells acc) ∧ Below w.heap.size w wx)
  case atStart => exact ⟨0, [], false, Nat.zero_le _, rfl, rfl, rfl, Lib.hid rfl, World.ownsRow_nil _ _ _ _, Below.refl _ _⟩
  case round =>
    obtain ⟨k, acc, ah, hk, rfl, rfl, rfl, HB, hrow, hbx⟩ := hrel
    by_cases hlt : k < n
    · obtain ⟨t, ht⟩ : ∃ t, ts[k]? = some t := ⟨_, List.getElem?_eq_getElem (by rw [HN.out]; exact hlt)⟩
      obtain ⟨g, rfl, hg1, hr⟩ := HT.out (by omega)
      obtain ⟨c0, c1, c2, c3, c4⟩ := (hr.below hbx hg1) k t ht
      have hX := HX.out t (List.mem_of_getElem? ht)
      have hB2 := bareS_snoc ht
      rw [HB.out] at hB2
      have HB2 := Lib.hid hB2
      have hal : acc.length ≤ k := by
        have := bareS_len (ts.take k)
        rw [HB.out, List.length_take] at this
        exact Nat.le_trans this (Nat.min_le_left _ _)
      have hne := row_ne hrow
      have hbs := hbx.size
      clear hr ht hB2
      have j1 : (k : Int) < (n : Int) := by omega
      have j0 : (0 : Int) ≤ (k : Int) := by omega
      obtain ⟨tk, tt, ta, te, tsp⟩ := t
      simp only at c0 c1 c2 c3 c4 hX
      cases h8 : (tk == 8)
      · cases h9 : (tk == 9)
        · have hst : bareStep (acc, ah) ⟨tk, tt, ta, te, tsp⟩ = (acc ++ [⟨tk, tt, ta, te, tsp || ah⟩], false) := by
            unfold bareStep outK; simp only [h8, h9]; rfl
          have HS := Lib.hid hst
          have HC := fun w' => clone_any tt w' hX
          clear hst
          cases tsp
          · have HE : Hid (bareS (ts.take (k + 1)) = (acc ++ [⟨tk, tt, ta, te, ah⟩], false)) := Lib.hid (HB2.out.trans HS.out)
            clear HB2 HS
            go_wp2_with (first
              | (go_at_call 28; refine (HC _).mono ?_; rintro e w2 ⟨rfl, hb2⟩; obtain ⟨⟨d0, d1, d2, d3, d4, f1, f4⟩, hr4, hs2⟩ := bare_call hrow hbx hb2; have HR4 := Lib.hid (hr4 (.string tt) (.bool ah)); clear hr4)
              | (at_builtin; refine wpList_append_own _ rfl _ _ 22 rfl w.heap.size 49 i0 (.agg #[.int .i64 0, .string ⟨#[]⟩, .int .i64 0, .int .i64 0, .bool false]) 5 48 Try.underlying22 hi hz0 hz1 hz2 rfl (by decide) _ _ _ rfl (HR4.out.1.alloc _) ⟨w2.heap.size, 0, none⟩ 1 1 (tzCell ⟨tk, tt, ta, te, ah⟩) rfl rfl (cell5_behind _ _ _ _ _ _ _ _ _ _) (by simp [Value.oneCell', tzCell]) (by unfold maxLen; omega) (by omega) (by simp [World.setCell]; omega) ?_; intro v' w3 hown hgrow hn3; clear hn3; have hB4 := HR4.out.2; have hL4 := HR4.out.1.lt; have hB5 := (hB4.alloc hB4.size _).grown hgrow (by have := hB4.size; simp; omega) (fun j e => (hL4 j e).1)))
            go_roundg (n - (k + 1))
            case rel =>
              refine ⟨k + 1, _, false, by omega, by go_num, rfl, rfl, HE, ?_, hB5⟩
              rw [List.length_append, tzCells_snoc]
              exact hown
            case measure => omega
          · have HE : Hid (bareS (ts.take (k + 1)) = (acc ++ [⟨tk, tt, ta, te, true⟩], false)) := Lib.hid (HB2.out.trans HS.out)
            clear HB2 HS
            go_wp2_with (first
              | (go_at_call 28; refine (HC _).mono ?_; rintro e w2 ⟨rfl, hb2⟩; obtain ⟨⟨d0, d1, d2, d3, d4, f1, f4⟩, hr4, hs2⟩ := bare_call hrow hbx hb2; have HR4 := Lib.hid (hr4 (.string tt) (.bool true)); clear hr4)
              | (at_builtin; refine wpList_append_own _ rfl _ _ 22 rfl w.heap.size 49 i0 (.agg #[.int .i64 0, .string ⟨#[]⟩, .int .i64 0, .int .i64 0, .bool false]) 5 48 Try.underlying22 hi hz0 hz1 hz2 rfl (by decide) _ _ _ rfl (HR4.out.1.alloc _) ⟨w2.heap.size, 0, none⟩ 1 1 (tzCell ⟨tk, tt, ta, te, true⟩) rfl rfl (cell5_behind _ _ _ _ _ _ _ _ _ _) (by simp [Value.oneCell', tzCell]) (by unfold maxLen; omega) (by omega) (by simp [World.setCell]; omega) ?_; intro v' w3 hown hgrow hn3; clear hn3; have hB4 := HR4.out.2; have hL4 := HR4.out.1.lt; have hB5 := (hB4.alloc hB4.size _).grown hgrow (by have := hB4.size; simp; omega) (fun j e => (hL4 j e).1)))
            go_roundg (n - (k + 1))
            case rel =>
              refine ⟨k + 1, _, false, by omega, by go_num, rfl, rfl, HE, ?_, hB5⟩
              rw [List.length_append, tzCells_snoc]
              exact hown
            case measure => omega
        · have hst : bareStep (acc, ah) ⟨tk, tt, ta, te, tsp⟩ = (acc, true) := by unfold bareStep outK; simp only [h8, h9]; rfl
          rw [hst] at HB2
          clear hst
          go_wp2
          go_roundg (n - (k + 1))
          case rel => exact ⟨k + 1, acc, true, by omega, by go_num, rfl, rfl, HB2, hrow.alloc _, hbx.alloc hbs _⟩
          case measure => omega
      · have hst : bareStep (acc, ah) ⟨tk, tt, ta, te, tsp⟩ = (acc, true) := by unfold bareStep outK; simp only [h8]; rfl
        rw [hst] at HB2
        clear hst
        go_wp2
        go_roundg (n - (k + 1))
        case rel => exact ⟨k + 1, acc, true, by omega, by go_num, rfl, rfl, HB2, hrow.alloc _, hbx.alloc hbs _⟩
        case measure => omega
    · obtain rfl : k = n := by omega
      have HB3 := Lib.hid (show bareS ts = (acc, ah) by rw [← HB.out, List.take_of_length_le (by rw [HN.out]; exact Nat.le_refl _)])
      go_wp2
      go_ret
      rw [HB3.out]
      exact ⟨⟨_, rfl, hrow⟩, hbx⟩

end Go.Proofs.Ytaodjipnffgihaa
