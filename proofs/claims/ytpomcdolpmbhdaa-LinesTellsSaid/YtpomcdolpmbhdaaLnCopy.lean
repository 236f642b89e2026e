/- lines.copyOf: a list in memory of its own. -/
import Derived.Test.YtpomcdolpmbhdaaTwin
namespace Go.Proofs.Ytpomcdolpmbhdaa
open Go.RowKit Go.Shelf

set_option maxRecDepth 100000 in
set_option maxHeartbeats 2000000 in
theorem cloneToks_any (ts : List Tz) (n cap : Nat) (ad : Addr) (w : World) (hn : ts.length = n) (hn2 : n * 48 ≤ 140737488355328) (hT : 0 < n → ∃ b o, ad = ⟨b, o, none⟩ ∧ b < w.heap.size ∧ TzAt w b o ts) :
    Calls Try.prog 55 #[.slice (some ad) n cap] w fun e w' => (∃ v, e = .returned v ∧ TokOwn w' w.heap.size v ts) ∧ Below w.heap.size w w' := by
  obtain ⟨i0, hi, hz0, hz1, hz2⟩ := info_parts infoTz
  have hlen : (tzCells ts).length = n * 5 := by rw [tzCells_len, hn]
  have hone := Lib.hid (tzCells_one ts)
  have hnews : ∀ o : Obj, ∀ j u, (tzCells ts)[j]? = some u → (w.alloc o).cell? (ad.add j) = some u := by
    intro o j u hj
    have hlt := (List.getElem?_eq_some_iff.1 hj).1
    obtain ⟨b, q, rfl, hb, hr⟩ := hT (by omega)
    exact tzCells_at (hr.below (below1 w o) hb) j u hj
  have HNW := Lib.hid hnews
  have HLN := Lib.hid hlen
  have HN := Lib.hid hn
  clear hn hT hnews hlen
  have he : ∀ w : World, (binOp .eql 22 (.slice (some ad) n cap) (.slice none 0 0)).run Try.prog w = .ok (.bool false) w := fun _ => rfl
  go_enter Try.func55, Try.ntmps55
  go_wp2_with (at_builtin; refine wpList_append_own _ rfl _ _ 22 rfl w.heap.size 31 i0 (.agg #[.int .i64 0, .string ⟨#[]⟩, .int .i64 0, .int .i64 0, .bool false]) 5 48 Try.underlying22 hi hz0 hz1 hz2 rfl (by decide) _ _ _ rfl (World.ownsRow_lit w #[] 0 (Nat.le_refl _) (Nat.zero_le _) rfl) ad n cap (tzCells ts) rfl HLN.out (HNW.out _) hone.out (by unfold maxLen; omega) (by omega) (by simp) ?_; intro v' w1 hown hgrow hn3; clear hn3; have hb1 := ((Below.refl w.heap.size w).alloc (Nat.le_refl _) (.cells #[] 31)).grown hgrow (by simp) (fun j e => ((World.ownsRow_lit (base := w.heap.size) (e := 31) (size := 5) w #[] 0 (Nat.le_refl _) (Nat.zero_le _) rfl).lt j e).1))
  go_ret
  exact ⟨⟨v', rfl, by unfold TokOwn; rw [HN.out]; exact row_zero hown⟩, hb1⟩

theorem set_self {xs : List Value} {j : Nat} {u : Value} (h : xs[j]? = some u) : xs.set j u = xs := by
  obtain ⟨hlt, he⟩ := List.getElem?_eq_some_iff.1 h
  subst he
  exact List.set_getElem_self hlt
/-- A text of a token is stored anew. -/
theorem tok_restored {W : World} {B g n cap k : Nat} {ts : List Tz} {t : Tz} (hn : ts.length = n) (h : W.ownsRow B 31 5 (.slice (some ⟨g, 0, none⟩) n cap) n (tzCells ts)) (ht : ts[k]? = some t) :
    (W.setCell ⟨g, k * 5 + 1, none⟩ (.string t.tx)).ownsRow B 31 5 (.slice (some ⟨g, 0, none⟩) n cap) n (tzCells ts) := by
  obtain ⟨h1, _⟩ := h.stored (k * 5 + 1) (.string t.tx)
  rw [set_self (tzCells_get ht 1 (by decide))] at h1
  exact h1

set_option maxRecDepth 100000 in
set_option maxHeartbeats 4000000 in
theorem copyOf_any (ts : List Tz) (n cap : Nat) (ad : Addr) (w : World) (hn : ts.length = n) (hn0 : 0 < n) (hn2 : n * 48 ≤ 140737488355328) (hx : ∀ t ∈ ts, t.tx.size ≤ 281474976710656) (hT : 0 < n → ∃ b o, ad = ⟨b, o, none⟩ ∧ b < w.heap.size ∧ TzAt w b o ts) :
    Calls Try.prog 42 #[.slice (some ad) n cap] w fun e w' => (∃ g cap', e = .returned (.slice (some ⟨g, 0, none⟩) n cap') ∧ w'.ownsRow w.heap.size 31 5 (.slice (some ⟨g, 0, none⟩) n cap') n (tzCells ts)) ∧ Below w.heap.size w w' := by
  have HC := cloneToks_any ts n cap ad w hn hn2 hT
  have HN := Lib.hid hn
  have HX := Lib.hid hx
  clear hn hT hx
  go_enter Try.func42, Try.ntmps42
  go_wp2_with fail
  refine HC.mono ?_
  rintro e w1 ⟨⟨v, rfl, ho⟩, hb1⟩
  have ho1 : w1.ownsRow w.heap.size 31 5 v n (tzCells ts) := by unfold TokOwn at ho; rw [HN.out] at ho; exact ho
  clear ho HC
  obtain ⟨a1, cap1, rfl⟩ := row_shape ho1
  obtain ⟨g, rfl, hg, hc⟩ := row_pos hn0 ho1
  have hgB := (ho1.lt g rfl).1
  clear hc
  go_wp2
  go_loopw [8] (fun i wx => ∃ k : Nat, k ≤ n ∧ i = .int .i64 k ∧ wx.ownsRow w.heap.size 31 5 (.slice (some ⟨g, 0, none⟩) n cap1) n (tzCells ts) ∧ Below w.heap.size w wx) (fun i _ => n - (intOf i).toNat)
  case atStart => exact ⟨0, Nat.zero_le _, rfl, ho1, hb1⟩
  case round =>
    obtain ⟨k, hk, rfl, hor, hbx⟩ := hrel
    by_cases hlt : k < n
    · obtain ⟨t, ht⟩ : ∃ t, ts[k]? = some t := ⟨_, List.getElem?_eq_getElem (by rw [HN.out]; exact hlt)⟩
      have hX := HX.out t (List.mem_of_getElem? ht)
      have c1 : wr.cell? ⟨g, k * 5 + 1, none⟩ = some (.string t.tx) := by
        obtain ⟨g', h9, _, hc9⟩ := row_pos hn0 hor
        cases h9
        exact hc9 _ _ (tzCells_get ht 1 (by decide))
      have HC := fun w' => clone_any t.tx w' hX
      have HTT := Lib.hid ht
      clear ht
      have j1 : (k : Int) < (n : Int) := by omega
      have j0 : (0 : Int) ≤ (k : Int) := by omega
      go_wp2_with (go_at_call 44; refine (HC _).mono ?_; rintro e w2 ⟨rfl, hb2⟩; have hor2 := row_below hor hb2; have hB2 := hbx.trans (hb2.mono hbx.size); have fz : w2.frozen? ⟨g, k * 5 + 1, none⟩ = false := hor2.frozenAt (k * 5 + 1); have c2 : w2.cell? ⟨g, k * 5 + 1, none⟩ = some (.string t.tx) := (hb2.cell (p := ⟨g, k * 5 + 1, none⟩) (hor.lt g rfl).2).trans c1; have hst := tok_restored HN.out hor2 HTT.out; have hB3 := hB2.setCell (p := ⟨g, k * 5 + 1, none⟩) hgB (.string t.tx))
      refine ⟨⟨k + 1, by omega, by go_num, hst, hB3⟩, ?_⟩
      simp [intOf]; omega
    · go_wp2
      go_ret
      exact ⟨⟨g, cap1, rfl, hor⟩, hbx⟩

end Go.Proofs.Ytpomcdolpmbhdaa
