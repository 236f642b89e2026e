/- Rows in memory of their own. -/
import Derived.Test.YtpomcdolpmbhdaaRowS
import Derived.Test.YtpomcdolpmbhdaaKeeps
import Derived.Outline
import Derived.Deep.LoopGhost
import Derived.StillTailTactics
namespace Go.Proofs.Ytpomcdolpmbhdaa
open Go.RowKit

theorem ownsRow_keepsT {W W' : World} {base z n : Nat} {T : TypeId} {v : Value} {xs : List Value} (h : W.ownsRow base T z v n xs) (hk : KeepsT T W W') : W'.ownsRow base T z v n xs :=
  ⟨h.1, h.2.elim .inl fun ⟨g, cap, cur, h1, h2, h3, h4⟩ => .inr ⟨g, cap, cur, h1, h2, hk g cur _ h3, h4⟩⟩
/-- A store into a block of another type. -/
theorem keepsT_other {T t : TypeId} {W : World} {B j : Nat} {c : Array Value} {fz : Nat × Nat} (hb : W.heap[B]? = some (.cells c t fz)) (hne : T ≠ t) (u : Value) : KeepsT T W (W.setCell ⟨B, j, none⟩ u) := fun k c' fz' hk => by
  have hkB : k ≠ B := fun e => by
    subst e
    rw [hb] at hk
    simp only [Option.some.injEq, Obj.cells.injEq] at hk
    exact hne hk.2.1.symm
  simp only [World.setCell, Array.getElem?_modify]
  rw [if_neg (fun e => hkB e.symm)]
  exact hk

/-- A list of rows that the call owns: each row's tokens are a row of the call's own. -/
def rzVals : List Rz → List Value → List Value
  | [], _ => []
  | _, [] => []
  | r :: rs, v :: vs => [.bool r.d, .string r.nm, v] ++ rzVals rs vs
theorem rzVals_snoc : ∀ (rs : List Rz) (vs : List Value) (r : Rz) (v : Value), rs.length = vs.length → rzVals (rs ++ [r]) (vs ++ [v]) = rzVals rs vs ++ [.bool r.d, .string r.nm, v]
  | [], [], r, v, _ => rfl
  | q :: rs, u :: vs, r, v, h => by
    simp only [List.length_cons, Nat.add_right_cancel_iff] at h
    rw [List.cons_append, List.cons_append, rzVals, rzVals, rzVals_snoc rs vs r v h]
    rfl
def TokOwn (W : World) (B : Nat) (v : Value) (ts : List Tz) : Prop := W.ownsRow B 31 5 v ts.length (tzCells ts)
structure OwnRz (W : World) (B : Nat) (v : Value) (rs : List Rz) (vs : List Value) : Prop where
  len : rs.length = vs.length
  row : W.ownsRow B 28 3 v rs.length (rzVals rs vs)
  ts : ∀ (i : Nat) (r : Rz) (u : Value), rs[i]? = some r → vs[i]? = some u → TokOwn W B u r.ts
theorem OwnRz.nil (W : World) (B : Nat) : OwnRz W B (.slice none 0 0) [] [] := ⟨rfl, World.ownsRow_nil _ _ _ _, fun i r u h _ => by simp at h⟩
theorem OwnRz.below {W W' : World} {B : Nat} {v : Value} {rs : List Rz} {vs : List Value} (h : OwnRz W B v rs vs) (hb : Below W.heap.size W W') : OwnRz W' B v rs vs :=
  ⟨h.len, row_below h.row hb, fun i r u h1 h2 => row_below (h.ts i r u h1 h2) hb⟩

theorem infoRow : (Try.prog.info? 28).map (fun i => (i.zero, i.size, i.bytes)) = some (some (.agg #[.bool false, .string ⟨#[]⟩, .slice none 0 0]), 3, 48) := by kernel_rfl
theorem cell3_new (w : World) (a b c : Value) (t : TypeId) : ∀ j u, [a, b, c][j]? = some u → (w.alloc (.cells #[a, b, c] t)).cell? ((⟨w.heap.size, 0, none⟩ : Addr).add j) = some u := by
  intro j u hj
  match j, hj with
  | 0, hj => simp at hj; subst hj; simp [Addr.add]
  | 1, hj => simp at hj; subst hj; simp [Addr.add]
  | 2, hj => simp at hj; subst hj; simp [Addr.add]
  | j + 3, hj => simp at hj

set_option maxRecDepth 100000 in
set_option maxHeartbeats 2000000 in
theorem twin_any (n cap : Nat) (a : Option Addr) (w : World) (hn2 : n * 48 ≤ 140737488355328) (rs : List Rz) (hn : rs.length = n) (hts : ∀ r ∈ rs, r.ts.length * 48 ≤ 140737488355328)
    (hT : 0 < n → ∃ b o, a = some ⟨b, o, none⟩ ∧ b < w.heap.size ∧ RzAt w w.heap.size b o rs) :
    Calls Try.prog 15 #[.slice a n cap] w fun e w' => (∃ v vs, e = .returned v ∧ OwnRz w' w.heap.size v rs vs) ∧ Below w.heap.size w w' := by
  obtain ⟨i0, hi, hz0, hz1, hz2⟩ := info_parts infoTz
  obtain ⟨j0, hj, hy0, hy1, hy2⟩ := info_parts infoRow
  have HN := Lib.hid hn
  have HT := Lib.hid hT
  have HS := Lib.hid hts
  clear hn hT hts
  go_enter Try.func15, Try.ntmps15
  go_wp2
  go_loopg [3, 4] n (fun g v i wx => ∃ (k : Nat) (vs : List Value), k ≤ n ∧ i = .int .i64 k ∧ g = n - k ∧ OwnRz wx w.heap.size v (rs.take k) vs ∧ Below w.heap.size w wx)
  case atStart => exact ⟨0, [], Nat.zero_le _, rfl, rfl, OwnRz.nil _ _, Below.refl _ _⟩
  case round =>
    obtain ⟨k, vs, hk, rfl, rfl, hown, hbx⟩ := hrel
    by_cases hlt : k < n
    · obtain ⟨r, hr⟩ : ∃ r, rs[k]? = some r := ⟨_, List.getElem?_eq_getElem (by rw [HN.out]; exact hlt)⟩
      obtain ⟨b, o, rfl, hg1, hrz⟩ := HT.out (by omega)
      obtain ⟨c0, c1, ta, tcap, c2, htk⟩ := (hrz.below hbx hg1) k r hr
      have hrl := HS.out r (List.mem_of_getElem? hr)
      have j1 : (k : Int) < (n : Int) := by omega
      have j2 : (0 : Int) ≤ (k : Int) := by omega
      have htake : rs.take (k + 1) = rs.take k ++ [r] := by rw [List.take_add_one, hr]; rfl
      have hkl : (rs.take k).length = k := by rw [List.length_take, HN.out]; omega
      go_wp2
      have hW1 : Below w.heap.size w (wr.alloc (.cells #[.bool r.d, .string r.nm, .slice none 0 0] 28)) := hbx.alloc hbx.size _
      have hk1 := mcells (w := wr) (vs := #[.bool r.d, .string r.nm, .slice none 0 0]) (t := 28)
      have d2 := hk1 2 _ rfl
      have e2 : (wr.alloc (.cells #[.bool r.d, .string r.nm, .slice none 0 0] 28)).cell? ⟨b, o + k * 3 + 2, none⟩ = some (.slice ta r.ts.length tcap) := ((below1 wr _).cell (p := ⟨b, o + k * 3 + 2, none⟩) (Nat.lt_of_lt_of_le hg1 hbx.size)).trans c2
      have hblk := World.alloc_heap_new wr (.cells #[.bool r.d, .string r.nm, .slice none 0 0] 28)
      have hsz : (wr.alloc (.cells #[.bool r.d, .string r.nm, .slice none 0 0] 28)).heap.size = wr.heap.size + 1 := by simp
      have hbw : Below wr.heap.size wr (wr.alloc (.cells #[.bool r.d, .string r.nm, .slice none 0 0] 28)) := below1 wr _
      clear hk1 c0 c1 c2
      generalize wr.alloc (.cells #[.bool r.d, .string r.nm, .slice none 0 0] 28) = W1 at *
      have f2 : ({ heap := W1.heap, tape := W1.tape, drawn := W1.drawn + 1, os := W1.os, output := W1.output } : World).cell? ⟨b, o + k * 3 + 2, none⟩ = some (.slice ta r.ts.length tcap) := e2
      have g2 : ({ heap := W1.heap, tape := W1.tape, drawn := W1.drawn + 1, os := W1.os, output := W1.output } : World).cell? ⟨wr.heap.size, 2, none⟩ = some (.slice none 0 0) := d2
      go_still_tail 7, (by kernel_rfl)
      clear f2 g2 e2 d2
      change wpList _ _ _ _ _ W1.drew
      have hblk2 : W1.drew.heap[wr.heap.size]? = some (.cells #[.bool r.d, .string r.nm, .slice none 0 0] 28 (0, 0)) := hblk
      have hsz2 : W1.drew.heap.size = wr.heap.size + 1 := hsz
      have hW2 : Below w.heap.size w W1.drew := below_drewN hW1 1
      have hbw2 : Below wr.heap.size wr W1.drew := below_drewN hbw 1
      have htk2 : ToksAt W1.drew w.heap.size ta r.ts := htk.below (hbw2.mono hbx.size)
      clear hblk hsz hW1 hbw htk
      generalize W1.drew = W2 at *
      have hnil : W2.ownsRow w.heap.size 31 5 (.slice none 0 0) 0 [] := World.ownsRow_nil _ _ _ _
      have hs2 : w.heap.size ≤ W2.heap.size := hW2.size
      cases ta with
      | none =>
        have hr0 : r.ts = [] := by
          cases hrt : r.ts with
          | nil => rfl
          | cons t l =>
            obtain ⟨_, _, e, _⟩ := htk2 (by rw [hrt]; simp)
            cases e
        have hr0l : r.ts.length = 0 := by rw [hr0]; rfl
        rw [hr0l]
        have q0 : W2.cell? ⟨wr.heap.size, 0, none⟩ = some (.bool r.d) := by rw [Lib.cell_of_heap hblk2]; rfl
        have q1 : W2.cell? ⟨wr.heap.size, 1, none⟩ = some (.string r.nm) := by rw [Lib.cell_of_heap hblk2]; rfl
        have q2 : W2.cell? ⟨wr.heap.size, 2, none⟩ = some (.slice none 0 0) := by rw [Lib.cell_of_heap hblk2]; rfl
        have qf : W2.frozen? ⟨wr.heap.size, 2, none⟩ = false := by simp [World.frozen?, hblk2]
        have hk3 : KeepsT 31 W2 (W2.setCell ⟨wr.heap.size, 2, none⟩ (.slice none 0 0)) := keepsT_other hblk2 (by decide) (.slice none 0 0)
        have hb4 : Below wr.heap.size wr (W2.setCell ⟨wr.heap.size, 2, none⟩ (.slice none 0 0)) := hbw2.setCell (Nat.le_refl _) (.slice none 0 0)
        have hB4 : Below w.heap.size w (W2.setCell ⟨wr.heap.size, 2, none⟩ (.slice none 0 0)) := hW2.setCell hbx.size (.slice none 0 0)
        have hown4 := hown.below hb4
        have hs4 : w.heap.size ≤ (W2.setCell ⟨wr.heap.size, 2, none⟩ (.slice none 0 0)).heap.size := hB4.size
        have hsz4 : (W2.setCell ⟨wr.heap.size, 2, none⟩ (.slice none 0 0)).heap.size = W2.heap.size := by simp [World.setCell]
        have hnew5 : ∀ j u, [Value.bool r.d, .string r.nm, .slice none 0 0][j]? = some u → ((W2.setCell ⟨wr.heap.size, 2, none⟩ (.slice none 0 0)).alloc (.cells #[.bool r.d, .string r.nm, .slice none 0 0] 28)).cell? ((⟨W2.heap.size, 0, none⟩ : Addr).add j) = some u := by rw [← hsz4]; exact cell3_new _ _ _ _ _
        have hsz2a : wr.heap.size + 1 ≤ W2.heap.size := by rw [hsz2]; exact Nat.le_refl _
        clear hsz2
        go_wp2_with (at_builtin; (refine wpList_append_own _ rfl _ _ 23 rfl w.heap.size 28 j0 (.agg #[.bool false, .string ⟨#[]⟩, .slice none 0 0]) 3 48 Try.underlying23 hj hy0 hy1 hy2 rfl (by decide) _ _ _ rfl (hown4.row.alloc _) ⟨W2.heap.size, 0, none⟩ 1 1 [.bool r.d, .string r.nm, (.slice none 0 0)] rfl rfl hnew5 (by intro u hu; simp only [List.mem_cons, List.not_mem_nil, or_false] at hu; rcases hu with rfl | rfl | rfl <;> rfl) (by rw [hkl]; unfold maxLen; omega) (by rw [hkl]; omega) (by simp; omega) ?_; intro v2 w5 hown5 hgrow5 hn5; clear hn5; have hB5 := (hB4.alloc hs4 _).grown hgrow5 (by simp; omega) (fun j e => (hown4.row.lt j e).1)))
        go_roundg (n - (k + 1))
        case rel =>
          refine ⟨k + 1, vs ++ [(.slice none 0 0)], by omega, by go_num, rfl, ?_, hB5⟩
          rw [htake]
          have hK5 : KeepsT 31 (W2.setCell ⟨wr.heap.size, 2, none⟩ (.slice none 0 0)) w5 := (KeepsT.alloc _ _ _).trans (KeepsT.grown_row hgrow5 (hown4.row.alloc _) (by decide))
          refine ⟨by simp [hown.len], ?_, fun i q u h1 h2 => ?_⟩
          · rw [List.length_append, rzVals_snoc _ _ _ _ hown.len]
            exact hown5
          · by_cases hik : i < k
            · rw [List.getElem?_append_left (by omega)] at h1
              rw [List.getElem?_append_left (by have := hown.len; omega)] at h2
              exact ownsRow_keepsT (hown4.ts i q u h1 h2) hK5
            · have hlt1 := (List.getElem?_eq_some_iff.1 h1).1
              rw [List.length_append, hkl] at hlt1
              simp only [List.length_cons, List.length_nil] at hlt1
              obtain rfl : i = k := by omega
              rw [List.getElem?_append_right (by omega), hkl, Nat.sub_self] at h1
              rw [List.getElem?_append_right (by have := hown.len; omega), ← hown.len, hkl, Nat.sub_self] at h2
              simp only [List.getElem?_cons_zero, Option.some.injEq] at h1 h2
              subst h1 h2
              rw [hr0]; exact World.ownsRow_nil _ _ _ _
        case measure => omega
      | some ad =>
        have hnews : ∀ j u, (tzCells r.ts)[j]? = some u → W2.cell? (ad.add j) = some u := by
          intro j u hj
          have hl := (List.getElem?_eq_some_iff.1 hj).1
          rw [tzCells_len] at hl
          obtain ⟨b', o', e, _, hta⟩ := htk2 (by omega)
          cases e
          exact tzCells_at hta j u hj
        go_wp2_with (at_builtin; first
          | (refine wpList_append_own _ rfl _ _ 22 rfl w.heap.size 31 i0 (.agg #[.int .i64 0, .string ⟨#[]⟩, .int .i64 0, .int .i64 0, .bool false]) 5 48 Try.underlying22 hi hz0 hz1 hz2 rfl (by decide) _ _ _ rfl hnil ad r.ts.length tcap (tzCells r.ts) rfl (tzCells_len r.ts) hnews (tzCells_one r.ts) (by unfold maxLen; omega) (by omega) hs2 ?_; intro v1 w3 hown1 hgrow1 hn1; clear hn1; rw [Nat.zero_add, List.nil_append] at hown1; obtain ⟨a1, cap1, rfl⟩ := row_shape hown1
             have hB3 : Below w.heap.size w w3 := hW2.grown hgrow1 hW2.size (fun j e => (hnil.lt j e).1)
             have hb3 : Below wr.heap.size wr w3 := hbw2.grown hgrow1 (by rw [hsz2]; omega) (fun j e => by cases e)
             have hblk3 : w3.heap[wr.heap.size]? = some (.cells #[.bool r.d, .string r.nm, .slice none 0 0] 28 (0, 0)) := (hgrow1.block _ (by rw [hsz2]; omega) (fun e => by cases e)).trans hblk2
             have hsz3 : wr.heap.size + 1 ≤ w3.heap.size := by have := hgrow1.size; omega
             have q0 : w3.cell? ⟨wr.heap.size, 0, none⟩ = some (.bool r.d) := by rw [Lib.cell_of_heap hblk3]; rfl
             have q1 : w3.cell? ⟨wr.heap.size, 1, none⟩ = some (.string r.nm) := by rw [Lib.cell_of_heap hblk3]; rfl
             have q2 : w3.cell? ⟨wr.heap.size, 2, none⟩ = some (.slice none 0 0) := by rw [Lib.cell_of_heap hblk3]; rfl
             have qf : w3.frozen? ⟨wr.heap.size, 2, none⟩ = false := by simp [World.frozen?, hblk3]
             have hk3 : KeepsT 31 w3 (w3.setCell ⟨wr.heap.size, 2, none⟩ (.slice a1 r.ts.length cap1)) := keepsT_other hblk3 (by decide) (.slice a1 r.ts.length cap1)
             have hown3 := ownsRow_keepsT hown1 hk3
             have hb4 : Below wr.heap.size wr (w3.setCell ⟨wr.heap.size, 2, none⟩ (.slice a1 r.ts.length cap1)) := hb3.setCell (Nat.le_refl _) (.slice a1 r.ts.length cap1)
             have hB4 : Below w.heap.size w (w3.setCell ⟨wr.heap.size, 2, none⟩ (.slice a1 r.ts.length cap1)) := hB3.setCell hbx.size (.slice a1 r.ts.length cap1)
             have hown4 := hown.below hb4
             have hs4 : w.heap.size ≤ (w3.setCell ⟨wr.heap.size, 2, none⟩ (.slice a1 r.ts.length cap1)).heap.size := hB4.size
             have hsz4 : (w3.setCell ⟨wr.heap.size, 2, none⟩ (.slice a1 r.ts.length cap1)).heap.size = w3.heap.size := by simp [World.setCell]
             have hnew5 : ∀ j u, [Value.bool r.d, .string r.nm, .slice a1 r.ts.length cap1][j]? = some u → ((w3.setCell ⟨wr.heap.size, 2, none⟩ (.slice a1 r.ts.length cap1)).alloc (.cells #[.bool r.d, .string r.nm, .slice a1 r.ts.length cap1] 28)).cell? ((⟨w3.heap.size, 0, none⟩ : Addr).add j) = some u := by rw [← hsz4]; exact cell3_new _ _ _ _ _)
          | (refine wpList_append_own _ rfl _ _ 23 rfl w.heap.size 28 j0 (.agg #[.bool false, .string ⟨#[]⟩, .slice none 0 0]) 3 48 Try.underlying23 hj hy0 hy1 hy2 rfl (by decide) _ _ _ rfl (hown4.row.alloc _) ⟨w3.heap.size, 0, none⟩ 1 1 [.bool r.d, .string r.nm, (.slice a1 r.ts.length cap1)] rfl rfl hnew5 (by intro u hu; simp only [List.mem_cons, List.not_mem_nil, or_false] at hu; rcases hu with rfl | rfl | rfl <;> rfl) (by rw [hkl]; unfold maxLen; omega) (by rw [hkl]; omega) (by simp; omega) ?_; intro v2 w5 hown5 hgrow5 hn5; clear hn5; have hB5 := (hB4.alloc hs4 _).grown hgrow5 (by simp; omega) (fun j e => (hown4.row.lt j e).1)))
        go_roundg (n - (k + 1))
        case rel =>
          refine ⟨k + 1, vs ++ [(.slice a1 r.ts.length cap1)], by omega, by go_num, rfl, ?_, hB5⟩
          rw [htake]
          have hK5 : KeepsT 31 (w3.setCell ⟨wr.heap.size, 2, none⟩ (.slice a1 r.ts.length cap1)) w5 := (KeepsT.alloc _ _ _).trans (KeepsT.grown_row hgrow5 (hown4.row.alloc _) (by decide))
          refine ⟨by simp [hown.len], ?_, fun i q u h1 h2 => ?_⟩
          · rw [List.length_append, rzVals_snoc _ _ _ _ hown.len]
            exact hown5
          · by_cases hik : i < k
            · rw [List.getElem?_append_left (by omega)] at h1
              rw [List.getElem?_append_left (by have := hown.len; omega)] at h2
              exact ownsRow_keepsT (hown4.ts i q u h1 h2) hK5
            · have hlt1 := (List.getElem?_eq_some_iff.1 h1).1
              rw [List.length_append, hkl] at hlt1
              simp only [List.length_cons, List.length_nil] at hlt1
              obtain rfl : i = k := by omega
              rw [List.getElem?_append_right (by omega), hkl, Nat.sub_self] at h1
              rw [List.getElem?_append_right (by have := hown.len; omega), ← hown.len, hkl, Nat.sub_self] at h2
              simp only [List.getElem?_cons_zero, Option.some.injEq] at h1 h2
              subst h1 h2
              exact ownsRow_keepsT hown3 hK5
        case measure => omega
    · obtain rfl : k = n := by omega
      go_wp2
      go_ret
      rw [List.take_of_length_le (by rw [HN.out]; exact Nat.le_refl _)] at hown
      exact ⟨⟨_, vs, rfl, hown⟩, hbx⟩

end Go.Proofs.Ytpomcdolpmbhdaa
