/- The reference's Both. -/
import Derived.Test.YtdkdoknajanfgaaCover
import Derived.Test.YtdkdoknajanfgaaRSpell
import Derived.Test.YtdkdoknajanfgaaElems
import Derived.OwnWalk
namespace Go.Proofs.Ytdkdoknajanfgaa
open Go.RowKit

theorem ownsRow_keepsT {W W' : World} {base z n : Nat} {T : TypeId} {v : Value} {xs : List Value} (h : W.ownsRow base T z v n xs) (hk : KeepsT T W W') : W'.ownsRow base T z v n xs :=
  ⟨h.1, h.2.elim .inl fun ⟨g, cap, cur, h1, h2, h3, h4⟩ => .inr ⟨g, cap, cur, h1, h2, hk g cur _ h3, h4⟩⟩

/-- Is the last of these parts a splice? -/
def lastSp (ps : List Part) : Bool := match ps.getLast? with
  | some p => p.sp
  | none => false
theorem lastSp_snoc (ps : List Part) (p : Part) : lastSp (ps ++ [p]) = p.sp := by simp [lastSp]

theorem cell_span_new (w : World) (a b : Value) (t : TypeId) : ∀ j u, [a, b][j]? = some u → (w.alloc (.cells #[a, b] t)).cell? ((⟨w.heap.size, 0, none⟩ : Addr).add j) = some u := by
  intro j u hj
  match j, hj with
  | 0, hj => simp at hj; subst hj; simp [Addr.add]
  | 1, hj => simp at hj; subst hj; simp [Addr.add]
  | j + 2, hj => simp at hj

theorem rsplice_at {s : ByteArray} {k n : Nat} (h : spliceN (s.data.toList.drop k) = n) (hs : s.size ≤ 65536) (hk : k ≤ s.size) (w : World) :
    Calls Try.prog 38 #[.string s, .int .i64 k] w fun e w' => e = .returned (.int .i64 n) ∧ w = w' := by
  have := rsplice_any s k w hs hk
  rw [h] at this
  exact this
theorem rtri_at {s : ByteArray} {k : Nat} {c : UInt8} {b : Bool} (h : triOf (s.data.toList.drop k) = c) (h2 : isTri (s.data.toList.drop k) = b) (hs : s.size ≤ 65536) (hk : k ≤ s.size) (w : World) :
    Calls Try.prog 34 #[.string s, .int .i64 k] w fun e w' => e = .returned (.tuple #[.int .u8 c.toNat, .bool b]) ∧ w = w' := by
  have := rtri_any s k w hs hk
  rw [h, h2] at this
  exact this

/-- So far read. -/
structure Read (l : List UInt8) (pre : List Part) (pos : Nat) : Prop where
  le : pos ≤ l.length
  eq : parts l = pre ++ partsFrom l pos
  len : pre.length ≤ pos
theorem Read.next {l : List UInt8} {pre : List Part} {pos : Nat} (h : Read l pre pos) (hp : pos < l.length) : Read l (pre ++ [partAt l pos]) (pos + partN (l.drop pos)) := by
  have h1 := partN_le (drop_ne hp)
  have h2 := partN_pos (l.drop pos)
  have h3 := h.len
  rw [List.length_drop] at h1
  refine ⟨by omega, ?_, by simp; omega⟩
  rw [h.eq, partsFrom_cons hp, List.append_assoc]; rfl
theorem Read.all {l : List UInt8} {pre : List Part} (h : Read l pre l.length) : pre = parts l := by
  rw [h.eq, partsFrom_end (by omega), List.append_nil]

set_option maxRecDepth 100000 in
set_option maxHeartbeats 2000000 in
theorem both_any (s : ByteArray) (w : World) (hs : s.size ≤ 65536) :
    Calls Try.prog 26 #[.string s] w fun e w' => (∃ v m, e = .returned (.tuple #[v, m, .bool (lastSp (parts s.data.toList))]) ∧ w'.ownsRow w.heap.size 42 3 v (chs (parts s.data.toList)).length (charCells (chs (parts s.data.toList))) ∧ w'.ownsRow w.heap.size 44 2 m (sps (parts s.data.toList)).length (spanCells (sps (parts s.data.toList)))) ∧ Below w.heap.size w w' := by
  obtain ⟨i0, hi, hz0, hz1, hz2⟩ := info_parts infoChar
  obtain ⟨j0, hj, hy0, hy1, hy2⟩ := info_parts infoSpan
  go_enter Try.func26, Try.ntmps26
  go_wp2
  go_loopw [5, 6, 7, 8] (fun v m last at' wr => ∃ (pre : List Part) (pos : Nat), Read s.data.toList pre pos ∧ at' = .int .i64 pos ∧ last = .bool (lastSp pre) ∧ wr.ownsRow w.heap.size 42 3 v (chs pre).length (charCells (chs pre)) ∧ wr.ownsRow w.heap.size 44 2 m (sps pre).length (spanCells (sps pre)) ∧ Below w.heap.size w wr) (fun _ _ _ a _ => s.size - (intOf a).toNat)
  case atStart => exact ⟨[], 0, ⟨Nat.zero_le _, rfl, Nat.le_refl _⟩, rfl, rfl, World.ownsRow_nil _ _ _ _, World.ownsRow_nil _ _ _ _, Below.refl _ _⟩
  case round =>
    obtain ⟨pre, pos, hR, rfl, rfl, hv, hm, hB⟩ := hrel
    have hle := hR.le
    have hlen := hR.len
    have hcl := chs_length pre
    have hsl := sps_length pre
    have hbs := hB.size
    rw [size_list] at hle
    by_cases hpos : pos < s.size
    · have hR2 := hR.next hpos
      have hle2 := hR2.le
      rw [size_list] at hle2
      have hpp := partN_pos (s.data.toList.drop pos)
      cases hsp : isSplice (s.data.toList.drop pos) with
      | true =>
        obtain ⟨n, hn⟩ : ∃ n, partN (s.data.toList.drop pos) = n := ⟨_, rfl⟩
        have hpt : (partAt s.data.toList pos).sp = true := hsp
        have hS := Lib.hid (rsplice_at (s := s) (k := pos) (n := n) (by unfold spliceN; rw [if_pos hsp, hn]) hs hle)
        have e1 : chs (pre ++ [partAt s.data.toList pos]) = chs pre := chs_no pre hpt
        have e2 : sps (pre ++ [partAt s.data.toList pos]) = sps pre ++ [partAt s.data.toList pos] := sps_yes pre hpt
        have e3 : lastSp (pre ++ [partAt s.data.toList pos]) = true := by rw [lastSp_snoc]; exact hsp
        have e4 : spanCell (partAt s.data.toList pos) = [.int .i64 pos, .int .i64 ((pos : Int) + n)] := by rw [← hn]; rfl
        have E1 := Lib.hid e1
        have E2 := Lib.hid e2
        have E3 := Lib.hid e3
        have E4 := Lib.hid e4
        have HR2 := Lib.hid hR2
        rw [hn] at hle2 hpp
        have hn0 : (0 : Int) < n := by omega
        clear e1 e2 e3 e4 hR2 hpt
        go_wp2_with (first
          | (go_at_call 38; refine (hS.out _).mono ?_; rintro e w' ⟨rfl, rfl⟩)
          | (at_builtin; refine wpList_append_own _ rfl _ _ 32 rfl w.heap.size 44 j0 (.agg #[.int .i64 0, .int .i64 0]) 2 16 Try.underlying32 hj hy0 hy1 hy2 rfl (by decide) _ _ _ rfl (hm.alloc _) ⟨wr.heap.size, 0, none⟩ 1 1 [.int .i64 pos, .int .i64 ((pos : Int) + n)] rfl rfl (cell_span_new _ _ _ _) (by simp [Value.oneCell']) (by unfold maxLen; omega) (by omega) (by simp; omega) ?_; intro m1 w1 hm1 hg1 hn1; clear hn1; have hB1 := (hB.alloc hB.size _).grown hg1 (by simp; omega) (fun j e => (hm.lt j e).1); have hv1 := ownsRow_keepsT (hv.alloc _) (KeepsT.grown_row hg1 (hm.alloc _) (by decide))))
        go_roundw
        case rel =>
          refine ⟨_, _, HR2.out, by rw [hn]; go_num, by rw [E3.out], by rw [E1.out]; exact hv1, ?_, hB1⟩
          rw [E2.out, spanCells_snoc, E4.out, List.length_append]
          exact hm1
        case measure => simp [intOf]; omega
      | false =>
        have hpt : (partAt s.data.toList pos).sp = false := hsp
        have hS := Lib.hid (rsplice_at (s := s) (k := pos) (n := 0) (by unfold spliceN; rw [hsp]; rfl) hs hle)
        have E1 := Lib.hid (chs_yes pre hpt)
        have E2 := Lib.hid (sps_no pre hpt)
        have E3 := Lib.hid (show lastSp (pre ++ [partAt s.data.toList pos]) = false by rw [lastSp_snoc]; exact hsp)
        have HR2 := Lib.hid hR2
        cases ht : isTri (s.data.toList.drop pos) with
        | true =>
          have hn : partN (s.data.toList.drop pos) = 3 := by unfold partN; rw [hsp]; exact charN_hit ht
          have hb : partB (s.data.toList.drop pos) = triOf (s.data.toList.drop pos) := by unfold partB; rw [hsp]; exact charB_hit ht
          obtain ⟨b, hb0⟩ : ∃ b, triOf (s.data.toList.drop pos) = b := ⟨_, rfl⟩
          have hT := Lib.hid (rtri_at hb0 ht hs hle)
          have E4 := Lib.hid (show charCell (partAt s.data.toList pos) = [.int .u8 b.toNat, .int .i64 pos, .int .i64 3] by unfold charCell partAt; rw [hb, hb0, hn]; rfl)
          have hN := Lib.hid hn
          rw [hn] at hle2
          clear hpt hR2 hsp ht hn hb hb0 hpp
          go_wp2_with (first
            | (go_at_call 38; refine (hS.out _).mono ?_; rintro e w' ⟨rfl, rfl⟩)
            | (go_at_call 34; refine (hT.out _).mono ?_; rintro e w' ⟨rfl, rfl⟩)
            | (at_builtin; refine wpList_append_own _ rfl _ _ 22 rfl w.heap.size 42 i0 (.agg #[.int .u8 0, .int .i64 0, .int .i64 0]) 3 24 Try.underlying22 hi hz0 hz1 hz2 rfl (by decide) _ _ _ rfl (hv.alloc _) ⟨wr.heap.size, 0, none⟩ 1 1 [.int .u8 b.toNat, .int .i64 pos, .int .i64 3] rfl rfl (cell_three_new _ _ _ _ _) (by simp [Value.oneCell']) (by unfold maxLen; omega) (by omega) (by simp; omega) ?_; intro v1 w1 hv1 hg1 hn1; clear hn1; have hB1 := (hB.alloc hB.size _).grown hg1 (by simp; omega) (fun j e => (hv.lt j e).1); have hm1 := ownsRow_keepsT (hm.alloc _) (KeepsT.grown_row hg1 (hv.alloc _) (by decide))))
          go_roundw
          case rel =>
            refine ⟨_, _, HR2.out, by rw [hN.out]; go_num, by rw [E3.out], ?_, by rw [E2.out]; exact hm1, hB1⟩
            rw [E1.out, charCells_snoc, E4.out, List.length_append]
            exact hv1
          case measure => simp [intOf]; omega
        | false =>
          have hn : partN (s.data.toList.drop pos) = 1 := by unfold partN; rw [hsp]; exact charN_miss ht
          have hb : partB (s.data.toList.drop pos) = s[pos] := by unfold partB; rw [hsp]; exact charB_miss hpos ht
          have hT := Lib.hid (rtri_at rfl ht hs hle)
          have E4 := Lib.hid (show charCell (partAt s.data.toList pos) = [.int .u8 s[pos].toNat, .int .i64 pos, .int .i64 1] by unfold charCell partAt; rw [hb, hn]; rfl)
          have hN := Lib.hid hn
          rw [hn] at hle2
          clear hpt hR2 hsp ht hn hb hpp
          go_wp2_with (first
            | (go_at_call 38; refine (hS.out _).mono ?_; rintro e w' ⟨rfl, rfl⟩)
            | (go_at_call 34; refine (hT.out _).mono ?_; rintro e w' ⟨rfl, rfl⟩)
            | (at_builtin; refine wpList_append_own _ rfl _ _ 22 rfl w.heap.size 42 i0 (.agg #[.int .u8 0, .int .i64 0, .int .i64 0]) 3 24 Try.underlying22 hi hz0 hz1 hz2 rfl (by decide) _ _ _ rfl (hv.alloc _) ⟨wr.heap.size, 0, none⟩ 1 1 [.int .u8 s[pos].toNat, .int .i64 pos, .int .i64 1] rfl rfl (cell_three_new _ _ _ _ _) (by simp [Value.oneCell']) (by unfold maxLen; omega) (by omega) (by simp; omega) ?_; intro v1 w1 hv1 hg1 hn1; clear hn1; have hB1 := (hB.alloc hB.size _).grown hg1 (by simp; omega) (fun j e => (hv.lt j e).1); have hm1 := ownsRow_keepsT (hm.alloc _) (KeepsT.grown_row hg1 (hv.alloc _) (by decide))))
          go_roundw
          case rel =>
            refine ⟨_, _, HR2.out, by rw [hN.out]; go_num, by rw [E3.out], ?_, by rw [E2.out]; exact hm1, hB1⟩
            rw [E1.out, charCells_snoc, E4.out, List.length_append]
            exact hv1
          case measure => simp [intOf]; omega
    · obtain rfl : pos = s.size := by omega
      obtain rfl := Read.all (l := s.data.toList) hR
      go_wp2
      go_ret3
      exact ⟨⟨_, _, rfl, hv, hm⟩, hB⟩

end Go.Proofs.Ytdkdoknajanfgaa
