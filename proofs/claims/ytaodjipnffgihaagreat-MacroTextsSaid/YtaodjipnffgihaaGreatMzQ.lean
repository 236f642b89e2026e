/- Several texts laid together. -/
import Derived.Test.YtaodjipnffgihaaGreatMzK
import Derived.Test.YtaodjipnffgihaaGreatRSpell
import Derived.OwnWalk
import Derived.BigQuiet
import Derived.Deep.QuietTactic

namespace Go.Proofs.YtaodjipnffgihaaGreat
open Go.RowKit

theorem charCells_get {ps : List Part} {k : Nat} {p : Part} (h : ps[k]? = some p) (j : Nat) (hj : j < 3) : (charCells ps)[3 * k + j]? = (charCell p)[j]? := by
  induction ps generalizing k with
  | nil => simp at h
  | cons q ps ih =>
    have hc : charCells (q :: ps) = charCell q ++ charCells ps := by simp [charCells]
    cases k with
    | zero =>
      simp only [List.getElem?_cons_zero, Option.some.injEq] at h
      subst h
      rw [hc, List.getElem?_append_left (by simp [charCell]; omega)]
      simp
    | succ k =>
      simp only [List.getElem?_cons_succ] at h
      rw [hc, List.getElem?_append_right (by simp [charCell]; omega)]
      have : 3 * (k + 1) + j - (charCell q).length = 3 * k + j := by simp [charCell]; omega
      rw [this]
      exact ih h

theorem spanCells_get {ps : List Part} {k : Nat} {p : Part} (h : ps[k]? = some p) (j : Nat) (hj : j < 2) : (spanCells ps)[2 * k + j]? = (spanCell p)[j]? := by
  induction ps generalizing k with
  | nil => simp at h
  | cons q ps ih =>
    have hc : spanCells (q :: ps) = spanCell q ++ spanCells ps := by simp [spanCells]
    cases k with
    | zero =>
      simp only [List.getElem?_cons_zero, Option.some.injEq] at h
      subst h
      rw [hc, List.getElem?_append_left (by simp [spanCell]; omega)]
      simp
    | succ k =>
      simp only [List.getElem?_cons_succ] at h
      rw [hc, List.getElem?_append_right (by simp [spanCell]; omega)]
      have : 2 * (k + 1) + j - (spanCell q).length = 2 * k + j := by simp [spanCell]; omega
      rw [this]
      exact ih h

/-- A row of characters that has been answered: where it lies; its cells. -/
def CharRow (w : World) (base : Nat) (a : Option Addr) (cap : Nat) (ps : List Part) : Prop :=
  (a = none ∧ ps = [] ∧ cap = 0) ∨ ∃ g cur, a = some ⟨g, 0, none⟩ ∧ base ≤ g ∧ w.heap[g]? = some (.cells cur 81 (0, 0)) ∧ ps.length ≤ cap ∧ cap ≤ maxLen ∧ cur.size = cap * 3 ∧ cur.toList.take (ps.length * 3) = charCells ps
def SpanRow (w : World) (base : Nat) (a : Option Addr) (cap : Nat) (ps : List Part) : Prop :=
  (a = none ∧ ps = [] ∧ cap = 0) ∨ ∃ g cur, a = some ⟨g, 0, none⟩ ∧ base ≤ g ∧ w.heap[g]? = some (.cells cur 139 (0, 0)) ∧ ps.length ≤ cap ∧ cap ≤ maxLen ∧ cur.size = cap * 2 ∧ cur.toList.take (ps.length * 2) = spanCells ps

theorem charRow_of {w : World} {base : Nat} {v : Value} {ps : List Part} (h : w.ownsRow base 81 3 v ps.length (charCells ps)) : ∃ a cap, v = .slice a ps.length cap ∧ CharRow w base a cap ps := by
  rcases h.2 with ⟨rfl, h0⟩ | ⟨g, cap, cur, rfl, h1, h2, h3, h4, h5, h6⟩
  · have : ps = [] := List.length_eq_zero_iff.1 h0
    subst this
    exact ⟨none, 0, rfl, .inl ⟨rfl, rfl, rfl⟩⟩
  · exact ⟨_, cap, rfl, .inr ⟨g, cur, rfl, h1, h2, h3, h4, h5, h6⟩⟩
/-- It lies on in a later world. -/
theorem CharRow.below {w w' : World} {base B : Nat} {a : Option Addr} {cap : Nat} {ps : List Part} (h : CharRow w base a cap ps) (hb : Below B w w') (hB : w.heap.size ≤ B) : CharRow w' base a cap ps := by
  rcases h with h | ⟨g, cur, h1, h2, h3, h4⟩
  · exact .inl h
  · exact .inr ⟨g, cur, h1, h2, (hb.block g (by have := (Array.getElem?_eq_some_iff.1 h3).1; omega)).trans h3, h4⟩
theorem SpanRow.below {w w' : World} {base B : Nat} {a : Option Addr} {cap : Nat} {ps : List Part} (h : SpanRow w base a cap ps) (hb : Below B w w') (hB : w.heap.size ≤ B) : SpanRow w' base a cap ps := by
  rcases h with h | ⟨g, cur, h1, h2, h3, h4⟩
  · exact .inl h
  · exact .inr ⟨g, cur, h1, h2, (hb.block g (by have := (Array.getElem?_eq_some_iff.1 h3).1; omega)).trans h3, h4⟩

theorem row_cell {w : World} {g : Nat} {cur : Array Value} {t : TypeId} {fz : Nat × Nat} {n : Nat} {xs : List Value} (h : w.heap[g]? = some (.cells cur t fz)) (ht : cur.toList.take n = xs) {j : Nat} {u : Value} (hu : xs[j]? = some u) : w.cell? ⟨g, j, none⟩ = some u := by
  rw [Lib.cell_of_heap h]
  have h2 : (cur.toList.take n)[j]? = some u := by rw [ht]; exact hu
  rw [List.getElem?_take] at h2
  split at h2
  · rw [← h2, Array.getElem?_toList]
  · cases h2

/-- The cells of element k. -/
theorem CharRow.cells {w : World} {base : Nat} {a : Option Addr} {cap : Nat} {ps : List Part} (h : CharRow w base a cap ps) {k : Nat} {p : Part} (hp : ps[k]? = some p) :
    ∃ g, a = some ⟨g, 0, none⟩ ∧ base ≤ g ∧ g < w.heap.size ∧ ps.length ≤ cap ∧ cap ≤ maxLen ∧ w.cell? ⟨g, k * 3, none⟩ = some (.int .u8 p.b.toNat) ∧ w.cell? ⟨g, k * 3 + 1, none⟩ = some (.int .i64 p.at') ∧ w.cell? ⟨g, k * 3 + 2, none⟩ = some (.int .i64 p.n) := by
  rcases h with ⟨_, h, _⟩ | ⟨g, cur, h1, h2, h3, h4, h5, h6, h7⟩
  · subst h; simp at hp
  · rw [Nat.mul_comm k 3]
    exact ⟨g, h1, h2, (Array.getElem?_eq_some_iff.1 h3).1, h4, h5, row_cell h3 h7 (charCells_get hp 0 (by omega)), row_cell h3 h7 (charCells_get hp 1 (by omega)), row_cell h3 h7 (charCells_get hp 2 (by omega))⟩
theorem SpanRow.cells {w : World} {base : Nat} {a : Option Addr} {cap : Nat} {ps : List Part} (h : SpanRow w base a cap ps) {k : Nat} {p : Part} (hp : ps[k]? = some p) :
    ∃ g, a = some ⟨g, 0, none⟩ ∧ base ≤ g ∧ g < w.heap.size ∧ ps.length ≤ cap ∧ cap ≤ maxLen ∧ w.cell? ⟨g, k * 2, none⟩ = some (.int .i64 p.at') ∧ w.cell? ⟨g, k * 2 + 1, none⟩ = some (.int .i64 ((p.at' : Int) + p.n)) := by
  rcases h with ⟨_, h, _⟩ | ⟨g, cur, h1, h2, h3, h4, h5, h6, h7⟩
  · subst h; simp at hp
  · rw [Nat.mul_comm k 2]
    exact ⟨g, h1, h2, (Array.getElem?_eq_some_iff.1 h3).1, h4, h5, row_cell h3 h7 (spanCells_get hp 0 (by omega)), row_cell h3 h7 (spanCells_get hp 1 (by omega))⟩

end Go.Proofs.YtaodjipnffgihaaGreat

namespace Go.Proofs.YtaodjipnffgihaaGreat
open Go.RowKit

theorem ownsRow_keepsB {W W' : World} {base z n : Nat} {T : TypeId} {v : Value} {xs : List Value} (h : W.ownsRow base T z v n xs) (hk : KeepsT T W W') : W'.ownsRow base T z v n xs :=
  ⟨h.1, h.2.elim .inl fun ⟨g, cap, cur, h1, h2, h3, h4⟩ => .inr ⟨g, cap, cur, h1, h2, hk g cur _ h3, h4⟩⟩

/-- Is the last of these parts a splice? -/
def lastSp (ps : List Part) : Bool := match ps.getLast? with
  | some p => p.sp
  | none => false
theorem lastSp_snoc (ps : List Part) (p : Part) : lastSp (ps ++ [p]) = p.sp := by simp [lastSp]

theorem cell_span_new (w : World) (a b : Value) (t : TypeId) : ∀ j u, [a, b][j]? = some u → (w.alloc (.cells #[a, b] t)).cell? ((⟨w.heap.size, 0, none⟩ : Addr).add j) = some u := by
  intro j u hj
  match j, hj with
  | 0, hj => simp at hj; subst hj; simp [Addr.add]
  | 1, hj => simp at hj; subst hj; simp [Addr.add]
  | j + 2, hj => simp at hj

theorem rsplice_at {s : ByteArray} {k n : Nat} (h : spliceN (s.data.toList.drop k) = n) (hs : s.size ≤ 65536) (hk : k ≤ s.size) (w : World) :
    Calls Tryz.prog 86 #[.string s, .int .i64 k] w fun e w' => e = .returned (.int .i64 n) ∧ w = w' := by
  have := rsplice_any s k w hs hk
  rw [h] at this
  exact this
theorem rtri_at {s : ByteArray} {k : Nat} {c : UInt8} {b : Bool} (h : triOf (s.data.toList.drop k) = c) (h2 : isTri (s.data.toList.drop k) = b) (hs : s.size ≤ 65536) (hk : k ≤ s.size) (w : World) :
    Calls Tryz.prog 36 #[.string s, .int .i64 k] w fun e w' => e = .returned (.tuple #[.int .u8 c.toNat, .bool b]) ∧ w = w' := by
  have := rtri_any s k w hs hk
  rw [h, h2] at this
  exact this

/-- So far read. -/
structure Read (l : List UInt8) (pre : List Part) (pos : Nat) : Prop where
  le : pos ≤ l.length
  eq : parts l = pre ++ partsFrom l pos
  len : pre.length ≤ pos
theorem Read.next {l : List UInt8} {pre : List Part} {pos : Nat} (h : Read l pre pos) (hp : pos < l.length) : Read l (pre ++ [partAt l pos]) (pos + partN (l.drop pos)) := by
  have h1 := partN_le (drop_ne hp)
  have h2 := partN_pos (l.drop pos)
  have h3 := h.len
  rw [List.length_drop] at h1
  refine ⟨by omega, ?_, by simp; omega⟩
  rw [h.eq, partsFrom_cons hp, List.append_assoc]; rfl
theorem Read.all {l : List UInt8} {pre : List Part} (h : Read l pre l.length) : pre = parts l := by
  rw [h.eq, partsFrom_end (by omega), List.append_nil]

set_option maxRecDepth 100000 in
set_option maxHeartbeats 2000000 in
theorem both_any (s : ByteArray) (w : World) (hs : s.size ≤ 65536) :
    Calls Tryz.prog 62 #[.string s] w fun e w' => (∃ v m, e = .returned (.tuple #[v, m, .bool (lastSp (parts s.data.toList))]) ∧ w'.ownsRow w.heap.size 81 3 v (chs (parts s.data.toList)).length (charCells (chs (parts s.data.toList))) ∧ w'.ownsRow w.heap.size 139 2 m (sps (parts s.data.toList)).length (spanCells (sps (parts s.data.toList)))) ∧ Below w.heap.size w w' := by
  obtain ⟨i0, hi, hz0, hz1, hz2⟩ := info_parts infoChar
  obtain ⟨j0, hj, hy0, hy1, hy2⟩ := info_parts infoSpan
  go_enter Tryz.func62, Tryz.ntmps62
  go_wp2
  go_loopw [5, 6, 7, 8] (fun v m last at' wr => ∃ (pre : List Part) (pos : Nat), Read s.data.toList pre pos ∧ at' = .int .i64 pos ∧ last = .bool (lastSp pre) ∧ wr.ownsRow w.heap.size 81 3 v (chs pre).length (charCells (chs pre)) ∧ wr.ownsRow w.heap.size 139 2 m (sps pre).length (spanCells (sps pre)) ∧ Below w.heap.size w wr) (fun _ _ _ a _ => s.size - (intOf a).toNat)
  case atStart => exact ⟨[], 0, ⟨Nat.zero_le _, rfl, Nat.le_refl _⟩, rfl, rfl, World.ownsRow_nil _ _ _ _, World.ownsRow_nil _ _ _ _, Below.refl _ _⟩
  case round =>
    obtain ⟨pre, pos, hR, rfl, rfl, hv, hm, hB⟩ := hrel
    have hle := hR.le
    have hlen := hR.len
    have hcl := chs_length pre
    have hsl := sps_length pre
    have hbs := hB.size
    rw [size_list] at hle
    by_cases hpos : pos < s.size
    · have hR2 := hR.next hpos
      have hle2 := hR2.le
      rw [size_list] at hle2
      have hpp := partN_pos (s.data.toList.drop pos)
      cases hsp : isSplice (s.data.toList.drop pos) with
      | true =>
        obtain ⟨n, hn⟩ : ∃ n, partN (s.data.toList.drop pos) = n := ⟨_, rfl⟩
        have hpt : (partAt s.data.toList pos).sp = true := hsp
        have hS := Lib.hid (rsplice_at (s := s) (k := pos) (n := n) (by unfold spliceN; rw [if_pos hsp, hn]) hs hle)
        have e1 : chs (pre ++ [partAt s.data.toList pos]) = chs pre := chs_no pre hpt
        have e2 : sps (pre ++ [partAt s.data.toList pos]) = sps pre ++ [partAt s.data.toList pos] := sps_yes pre hpt
        have e3 : lastSp (pre ++ [partAt s.data.toList pos]) = true := by rw [lastSp_snoc]; exact hsp
        have e4 : spanCell (partAt s.data.toList pos) = [.int .i64 pos, .int .i64 ((pos : Int) + n)] := by rw [← hn]; rfl
        have E1 := Lib.hid e1
        have E2 := Lib.hid e2
        have E3 := Lib.hid e3
        have E4 := Lib.hid e4
        have HR2 := Lib.hid hR2
        rw [hn] at hle2 hpp
        have hn0 : (0 : Int) < n := by omega
        clear e1 e2 e3 e4 hR2 hpt
        go_wp2_with (first
          | (go_at_call 86; refine (hS.out _).mono ?_; rintro e w' ⟨rfl, rfl⟩)
          | (at_builtin; refine wpList_append_own _ rfl _ _ 109 rfl w.heap.size 139 j0 (.agg #[.int .i64 0, .int .i64 0]) 2 16 Tryz.underlying109 hj hy0 hy1 hy2 rfl (by decide) _ _ _ rfl (hm.alloc _) ⟨wr.heap.size, 0, none⟩ 1 1 [.int .i64 pos, .int .i64 ((pos : Int) + n)] rfl rfl (cell_span_new _ _ _ _) (by simp [Value.oneCell']) (by unfold maxLen; omega) (by omega) (by simp; omega) ?_; intro m1 w1 hm1 hg1 hn1; clear hn1; have hB1 := (hB.alloc hB.size _).grown hg1 (by simp; omega) (fun j e => (hm.lt j e).1); have hv1 := ownsRow_keepsB (hv.alloc _) (KeepsT.grown_row hg1 (hm.alloc _) (by decide))))
        go_roundw
        case rel =>
          refine ⟨_, _, HR2.out, by rw [hn]; go_num, by rw [E3.out], by rw [E1.out]; exact hv1, ?_, hB1⟩
          rw [E2.out, spanCells_snoc, E4.out, List.length_append]
          exact hm1
        case measure => simp [intOf]; omega
      | false =>
        have hpt : (partAt s.data.toList pos).sp = false := hsp
        have hS := Lib.hid (rsplice_at (s := s) (k := pos) (n := 0) (by unfold spliceN; rw [hsp]; rfl) hs hle)
        have E1 := Lib.hid (chs_yes pre hpt)
        have E2 := Lib.hid (sps_no pre hpt)
        have E3 := Lib.hid (show lastSp (pre ++ [partAt s.data.toList pos]) = false by rw [lastSp_snoc]; exact hsp)
        have HR2 := Lib.hid hR2
        cases ht : isTri (s.data.toList.drop pos) with
        | true =>
          have hn : partN (s.data.toList.drop pos) = 3 := by unfold partN; rw [hsp]; exact charN_hit ht
          have hb : partB (s.data.toList.drop pos) = triOf (s.data.toList.drop pos) := by unfold partB; rw [hsp]; exact charB_hit ht
          obtain ⟨b, hb0⟩ : ∃ b, triOf (s.data.toList.drop pos) = b := ⟨_, rfl⟩
          have hT := Lib.hid (rtri_at hb0 ht hs hle)
          have E4 := Lib.hid (show charCell (partAt s.data.toList pos) = [.int .u8 b.toNat, .int .i64 pos, .int .i64 3] by unfold charCell partAt; rw [hb, hb0, hn]; rfl)
          have hN := Lib.hid hn
          rw [hn] at hle2
          clear hpt hR2 hsp ht hn hb hb0 hpp
          go_wp2_with (first
            | (go_at_call 86; refine (hS.out _).mono ?_; rintro e w' ⟨rfl, rfl⟩)
            | (go_at_call 36; refine (hT.out _).mono ?_; rintro e w' ⟨rfl, rfl⟩)
            | (at_builtin; refine wpList_append_own _ rfl _ _ 77 rfl w.heap.size 81 i0 (.agg #[.int .u8 0, .int .i64 0, .int .i64 0]) 3 24 Tryz.underlying77 hi hz0 hz1 hz2 rfl (by decide) _ _ _ rfl (hv.alloc _) ⟨wr.heap.size, 0, none⟩ 1 1 [.int .u8 b.toNat, .int .i64 pos, .int .i64 3] rfl rfl (cell_three_new _ _ _ _ _) (by simp [Value.oneCell']) (by unfold maxLen; omega) (by omega) (by simp; omega) ?_; intro v1 w1 hv1 hg1 hn1; clear hn1; have hB1 := (hB.alloc hB.size _).grown hg1 (by simp; omega) (fun j e => (hv.lt j e).1); have hm1 := ownsRow_keepsB (hm.alloc _) (KeepsT.grown_row hg1 (hv.alloc _) (by decide))))
          go_roundw
          case rel =>
            refine ⟨_, _, HR2.out, by rw [hN.out]; go_num, by rw [E3.out], ?_, by rw [E2.out]; exact hm1, hB1⟩
            rw [E1.out, charCells_snoc, E4.out, List.length_append]
            exact hv1
          case measure => simp [intOf]; omega
        | false =>
          have hn : partN (s.data.toList.drop pos) = 1 := by unfold partN; rw [hsp]; exact charN_miss ht
          have hb : partB (s.data.toList.drop pos) = s[pos] := by unfold partB; rw [hsp]; exact charB_miss hpos ht
          have hT := Lib.hid (rtri_at rfl ht hs hle)
          have E4 := Lib.hid (show charCell (partAt s.data.toList pos) = [.int .u8 s[pos].toNat, .int .i64 pos, .int .i64 1] by unfold charCell partAt; rw [hb, hn]; rfl)
          have hN := Lib.hid hn
          rw [hn] at hle2
          clear hpt hR2 hsp ht hn hb hpp
          go_wp2_with (first
            | (go_at_call 86; refine (hS.out _).mono ?_; rintro e w' ⟨rfl, rfl⟩)
            | (go_at_call 36; refine (hT.out _).mono ?_; rintro e w' ⟨rfl, rfl⟩)
            | (at_builtin; refine wpList_append_own _ rfl _ _ 77 rfl w.heap.size 81 i0 (.agg #[.int .u8 0, .int .i64 0, .int .i64 0]) 3 24 Tryz.underlying77 hi hz0 hz1 hz2 rfl (by decide) _ _ _ rfl (hv.alloc _) ⟨wr.heap.size, 0, none⟩ 1 1 [.int .u8 s[pos].toNat, .int .i64 pos, .int .i64 1] rfl rfl (cell_three_new _ _ _ _ _) (by simp [Value.oneCell']) (by unfold maxLen; omega) (by omega) (by simp; omega) ?_; intro v1 w1 hv1 hg1 hn1; clear hn1; have hB1 := (hB.alloc hB.size _).grown hg1 (by simp; omega) (fun j e => (hv.lt j e).1); have hm1 := ownsRow_keepsB (hm.alloc _) (KeepsT.grown_row hg1 (hv.alloc _) (by decide))))
          go_roundw
          case rel =>
            refine ⟨_, _, HR2.out, by rw [hN.out]; go_num, by rw [E3.out], ?_, by rw [E2.out]; exact hm1, hB1⟩
            rw [E1.out, charCells_snoc, E4.out, List.length_append]
            exact hv1
          case measure => simp [intOf]; omega
    · obtain rfl : pos = s.size := by omega
      obtain rfl := Read.all (l := s.data.toList) hR
      go_wp2
      go_ret3
      exact ⟨⟨_, _, rfl, hv, hm⟩, hB⟩

end Go.Proofs.YtaodjipnffgihaaGreat

namespace Go.Proofs.YtaodjipnffgihaaGreat
open Go.RowKit

theorem third_not_ten {c : UInt8} (h : isThird c = true) : thirdOf c ≠ 10 ∧ c ≠ 10 := by
  rcases third_cases c with rfl | rfl | rfl | rfl | rfl | rfl | rfl | rfl | rfl | ⟨h1, h2⟩
  all_goals first | decide | skip
  simp [isThird, h2] at h

theorem last_byte {l : List UInt8} : ∀ (m k : Nat), l.length - k = m → k < l.length → ∀ p, (partsFrom l k).getLast? = some p → p.sp = false → (p.b = 10 ↔ l.getLast? = some 10) := by
  intro m
  induction m using Nat.strongRecOn with
  | ind m ih =>
    intro k hm hk p hp hsp
    have hpos := partN_pos (l.drop k)
    have hle := partN_le (drop_ne hk)
    rw [List.length_drop] at hle
    rw [partsFrom_cons hk] at hp
    by_cases h : k + partN (l.drop k) < l.length
    · refine ih (l.length - (k + partN (l.drop k))) (by omega) _ rfl h p ?_ hsp
      rw [partsFrom_cons h] at hp ⊢
      rw [List.getLast?_cons_cons] at hp
      exact hp
    · rw [partsFrom_end h] at hp
      simp only [List.getLast?_singleton, Option.some.injEq] at hp
      subst hp
      have hs : isSplice (l.drop k) = false := hsp
      rw [List.getLast?_eq_getElem?]
      rcases char_bytes hs (drop_ne hk) with ⟨hn, h0⟩ | ⟨hn, _, _, c, h2, ht, hb⟩
      · rw [List.getElem?_drop] at h0
        have : l.length - 1 = k + 0 := by omega
        rw [this, h0]
        simp [partAt]
      · rw [List.getElem?_drop] at h2
        have : l.length - 1 = k + 2 := by omega
        rw [this, h2]
        obtain ⟨n1, n2⟩ := third_not_ten ht
        rw [hb] at n1
        simp only [partAt, Option.some.injEq]
        exact ⟨fun h => absurd h n1, fun h => absurd h n2⟩

theorem last_at (s : ByteArray) (h : 0 < s.size) : s.data.toList.getLast? = some s[s.size - 1] := by
  rw [List.getLast?_eq_getElem?, size_list, data_get s _ (by omega)]

theorem check_nil {s : ByteArray} (h : s.size = 0) : checkN s.data.toList = 0 := by
  have : s.data.toList = [] := List.length_eq_zero_iff.1 (by rw [size_list]; exact h)
  rw [this]
  exact checkN_ok (by simp) wl_nil

theorem check_last {s : ByteArray} (h0 : 0 < s.size) (hle : s.size ≤ 65536) :
    checkN s.data.toList = if lastSp (parts s.data.toList) = true ∨ s[s.size - 1] ≠ 10 then 10 else 0 := by
  obtain ⟨p, hp, hw⟩ := last_wl (l := s.data.toList) _ 0 rfl (by rw [size_list]; exact h0)
  rw [List.drop_zero] at hw
  have hl : lastSp (parts s.data.toList) = p.sp := by unfold lastSp parts; rw [hp]
  have hb := last_byte (l := s.data.toList) _ 0 rfl (by rw [size_list]; exact h0) p hp
  rw [last_at s h0] at hb
  rw [hl]
  cases hsp : p.sp with
  | true =>
    rw [if_pos (.inl rfl)]
    refine check_ill (by omega) ?_
    rw [wellB_wl, ← hw, hsp]; rfl
  | false =>
    have hb := hb hsp
    rw [hsp] at hw
    by_cases ht : s[s.size - 1] = 10
    · rw [if_neg (by simp [ht])]
      refine check_well (by omega) ?_
      rw [wellB_wl, ← hw]
      have := hb.2 (by rw [ht])
      simp [this]
    · rw [if_pos (.inr ht)]
      refine check_ill (by omega) ?_
      rw [wellB_wl, ← hw]
      have : p.b ≠ 10 := fun h => ht (Option.some.inj (hb.1 h))
      simp [this]

theorem CharRow.lower {w : World} {base base' : Nat} {a : Option Addr} {cap : Nat} {ps : List Part} (h : CharRow w base a cap ps) (hb : base' ≤ base) : CharRow w base' a cap ps := by
  rcases h with h | ⟨g, cur, h1, h2, h3⟩
  · exact .inl h
  · exact .inr ⟨g, cur, h1, Nat.le_trans hb h2, h3⟩
theorem SpanRow.lower {w : World} {base base' : Nat} {a : Option Addr} {cap : Nat} {ps : List Part} (h : SpanRow w base a cap ps) (hb : base' ≤ base) : SpanRow w base' a cap ps := by
  rcases h with h | ⟨g, cur, h1, h2, h3⟩
  · exact .inl h
  · exact .inr ⟨g, cur, h1, Nat.le_trans hb h2, h3⟩

theorem both_at {s : ByteArray} {b : Bool} (h : lastSp (parts s.data.toList) = b) (hs : s.size ≤ 65536) (w : World) :
    Calls Tryz.prog 62 #[.string s] w fun e w' => (∃ v m, e = .returned (.tuple #[v, m, .bool b]) ∧ w'.ownsRow w.heap.size 81 3 v (chs (parts s.data.toList)).length (charCells (chs (parts s.data.toList))) ∧ w'.ownsRow w.heap.size 139 2 m (sps (parts s.data.toList)).length (spanCells (sps (parts s.data.toList)))) ∧ Below w.heap.size w w' := by
  have := both_any s w hs
  rw [h] at this
  exact this

set_option maxRecDepth 100000 in
set_option maxHeartbeats 1000000 in
theorem rcheck_any (s : ByteArray) (w : World) (hs : s.size ≤ maxLen) :
    Calls Tryz.prog 61 #[.string s] w fun e w' => e = .returned (.int .i64 (checkN s.data.toList)) ∧ Below w.heap.size w w' := by
  unfold maxLen at hs
  by_cases hl : 65536 < s.size
  · have H := Lib.hid (check_long hl)
    go_enter Tryz.func61, Tryz.ntmps61
    go_wp2
    go_ret
    exact ⟨ret_int H.out.symm, Below.refl _ _⟩
  · have hle : s.size ≤ 65536 := by omega
    by_cases h0 : s.size = 0
    · have H := Lib.hid (check_nil h0)
      have HB := Lib.hid (both_at (s := s) rfl hle)
      have hz : ¬ (0 : Int) < s.size := by omega
      clear h0
      go_enter Tryz.func61, Tryz.ntmps61
      go_wp2_with fail
      refine (HB.out _).mono ?_
      rintro e w1 ⟨⟨v, m, rfl, _, _⟩, hb1⟩
      go_wp2
      go_ret
      exact ⟨ret_int H.out.symm, hb1⟩
    · have hp : 0 < s.size := by omega
      have hp1 : (0 : Int) < s.size := by omega
      have h1 : 1 ≤ (s.size : Int) := by omega
      have h2 : (s.size : Int) - 1 < s.size := by omega
      have hc := check_last hp hle
      cases hsp : lastSp (parts s.data.toList) with
      | true =>
        rw [if_pos (.inl hsp)] at hc
        have H := Lib.hid hc
        have HB := Lib.hid (both_at hsp hle)
        clear hc hsp
        go_enter Tryz.func61, Tryz.ntmps61
        go_wp2_with fail
        refine (HB.out _).mono ?_
        rintro e w1 ⟨⟨v, m, rfl, _, _⟩, hb1⟩
        go_wp2
        go_ret
        exact ⟨ret_int H.out.symm, hb1⟩
      | false =>
        have HB := Lib.hid (both_at hsp hle)
        by_cases ht : s[s.size - 1] = 10
        · rw [if_neg (by simp [ht, hsp])] at hc
          have H := Lib.hid hc
          have h4 : ∀ h : s.size - 1 < s.size, ((s[s.size - 1].toNat : Int) != 10) = false := fun _ => by rw [ht]; rfl
          clear hc hsp ht
          go_enter Tryz.func61, Tryz.ntmps61
          go_wp2_with fail
          refine (HB.out _).mono ?_
          rintro e w1 ⟨⟨v, m, rfl, _, _⟩, hb1⟩
          go_wp2
          go_ret
          exact ⟨ret_int H.out.symm, hb1⟩
        · rw [if_pos (.inr ht)] at hc
          have H := Lib.hid hc
          have h4 : ∀ h : s.size - 1 < s.size, ((s[s.size - 1].toNat : Int) != 10) = true := fun _ => by
            simp only [bne_iff_ne, ne_eq]
            intro h6
            exact ht (UInt8.toNat_inj.1 (by simp; omega))
          clear hc hsp ht
          go_enter Tryz.func61, Tryz.ntmps61
          go_wp2_with fail
          refine (HB.out _).mono ?_
          rintro e w1 ⟨⟨v, m, rfl, _, _⟩, hb1⟩
          go_wp2
          go_ret
          exact ⟨ret_int H.out.symm, hb1⟩

theorem rcheck_at {s : ByteArray} {n : Int} (h : checkN s.data.toList = n) (hs : s.size ≤ maxLen) (w : World) :
    Calls Tryz.prog 61 #[.string s] w fun e w' => e = .returned (.int .i64 n) ∧ Below w.heap.size w w' := by
  have := rcheck_any s w hs
  rw [h] at this
  exact this

set_option maxRecDepth 100000 in
set_option maxHeartbeats 1000000 in
theorem rchars_any (s : ByteArray) (w : World) (hs : s.size ≤ maxLen) :
    Calls Tryz.prog 37 #[.string s] w fun e w' => (∃ a cap, e = .returned (.tuple #[.slice a (charsOf s.data.toList).length cap, .int .i64 (checkN s.data.toList)]) ∧ CharRow w' w.heap.size a cap (charsOf s.data.toList)) ∧ Below w.heap.size w w' := by
  rcases check_cases s.data.toList with ⟨h, hl⟩ | h | h
  · rw [charsOf_ok h, h]
    have HC := Lib.hid (rcheck_at h hs)
    have HB := Lib.hid (both_any s · hl)
    clear h
    go_enter Tryz.func37, Tryz.ntmps37
    go_wp2_with fail
    refine (HC.out _).mono ?_
    rintro e w1 ⟨rfl, hb1⟩
    go_wp2_with fail
    refine (HB.out _).mono ?_
    rintro e w2 ⟨⟨v, m, rfl, hv, _⟩, hb2⟩
    go_wp2
    go_ret2
    obtain ⟨a, cap, rfl, hr⟩ := charRow_of hv
    exact ⟨⟨a, cap, rfl, hr.lower hb1.size⟩, hb1.trans (hb2.mono hb1.size)⟩
  all_goals
    rw [charsOf_bad (by rw [h]; decide), h]
    have HC := Lib.hid (rcheck_at h hs)
    clear h
    go_enter Tryz.func37, Tryz.ntmps37
    go_wp2_with fail
    refine (HC.out _).mono ?_
    rintro e w1 ⟨rfl, hb1⟩
    go_wp2
    go_ret2
    exact ⟨⟨none, 0, rfl, .inl ⟨rfl, rfl, rfl⟩⟩, hb1⟩

end Go.Proofs.YtaodjipnffgihaaGreat

namespace Go.Proofs.YtaodjipnffgihaaGreat
open Go.RowKit

/-- The bytes of characters. -/
def bts (ps : List Part) : List UInt8 := ps.map (·.b)
theorem bts_length (ps : List Part) : (bts ps).length = ps.length := by simp [bts]
theorem bts_take {ps : List Part} {k : Nat} {p : Part} (h : ps[k]? = some p) : bts (ps.take (k + 1)) = bts (ps.take k) ++ [p.b] := by
  unfold bts
  rw [List.take_add_one, h]
  simp
theorem bts_chB (ps : List Part) : bts (chs ps) = chB ps := by
  induction ps with
  | nil => rfl
  | cons p ps ih =>
    rw [chs_cons, chB_cons, ← ih]
    cases p.sp <;> rfl

theorem rchars_at {s : ByteArray} {n : Int} {l : List Part} (h : checkN s.data.toList = n) (hl : charsOf s.data.toList = l) (hs : s.size ≤ maxLen) (w : World) :
    Calls Tryz.prog 37 #[.string s] w fun e w' => (∃ a cap, e = .returned (.tuple #[.slice a l.length cap, .int .i64 n]) ∧ CharRow w' w.heap.size a cap l) ∧ Below w.heap.size w w' := by
  have := rchars_any s w hs
  rw [h, hl] at this
  exact this

set_option maxRecDepth 100000 in
set_option maxHeartbeats 1000000 in
theorem rlogical_at {s : ByteArray} {n : Int} {l : List Part} (h : checkN s.data.toList = n) (hl : charsOf s.data.toList = l) (hs : s.size ≤ maxLen) (hll : l.length ≤ 65536) (w : World) :
    Calls Tryz.prog 38 #[.string s] w fun e w' => e = .returned (.tuple #[.string ⟨(bts l).toArray⟩, .int .i64 n]) ∧ Below w.heap.size w w' := by
  obtain ⟨i0, hi, hz0, hz1, hz2⟩ := info_parts infoU8
  have HC := Lib.hid (rchars_at h hl hs)
  clear h hl
  go_enter Tryz.func38, Tryz.ntmps38
  go_wp2_with fail
  refine (HC.out _).mono ?_
  rintro e w1 ⟨⟨a, cap, rfl, hr⟩, hb1⟩
  go_wp2
  go_loopw [6, 7] (fun v i wr => ∃ k : Nat, k ≤ l.length ∧ i = .int .i64 k ∧ wr.ownsRow w1.heap.size 5 1 v (bts (l.take k)).length (Lib.byteCells (bts (l.take k))) ∧ Below w1.heap.size w1 wr) (fun _ i _ => l.length - (intOf i).toNat)
  case atStart => exact ⟨0, Nat.zero_le _, rfl, World.ownsRow_nil _ _ _ _, Below.refl _ _⟩
  case round =>
    obtain ⟨k, hk, rfl, hv, hB⟩ := hrel
    have hbs := hB.size
    by_cases hlt : k < l.length
    · obtain ⟨p, hp⟩ : ∃ p, l[k]? = some p := ⟨_, List.getElem?_eq_getElem hlt⟩
      obtain ⟨g1, rfl, _, hg1, hc1, hm1, a0, a1, a2⟩ := (hr.below hB (Nat.le_refl _)).cells hp
      have i1 : (k : Int) < (l.length : Nat) := by omega
      have hu : (bts (l.take k)).length ≤ 65536 := by rw [bts_length, List.length_take]; omega
      obtain ⟨b, hb⟩ : ∃ b, p.b = b := ⟨_, rfl⟩
      rw [hb] at a0
      have HT := Lib.hid (bts_take hp)
      clear hp a1 a2 hr
      go_wp2_with (at_builtin; refine wpList_append_own _ rfl _ _ 59 rfl w1.heap.size 5 i0 (.int .u8 0) 1 1 Tryz.underlying59 hi hz0 hz1 hz2 rfl (by decide) _ _ _ rfl (hv.alloc _) ⟨wr.heap.size, 0, none⟩ 1 1 [.int .u8 b.toNat] rfl rfl (cell_one_new _ _ _) (by simp [Value.oneCell']) (by unfold maxLen; omega) (by omega) (by simp; omega) ?_; intro v1 w2 hv1 hg hn1; clear hn1; have hB1 := (hB.alloc hB.size _).grown hg (by simp; omega) (fun j e => (hv.lt j e).1))
      go_roundw
      case rel =>
        refine ⟨k + 1, by omega, by go_num, ?_, hB1⟩
        rw [HT.out, hb, Lib.byteCells_append, List.length_append]
        exact hv1
      case measure => simp [intOf]; omega
    · obtain rfl : k = l.length := by omega
      obtain ⟨a', cap', rfl⟩ := row_shape hv
      have hcv := conv_row rfl hv
      rw [List.take_length] at hcv
      go_wp2
      go_ret2
      exact ⟨rfl, hb1.trans (hB.mono hb1.size)⟩

end Go.Proofs.YtaodjipnffgihaaGreat
