/- The law PhysNames: the chapter's examples. -/
import Derived.Test.YtdkdoknajanfgaaTells
import Derived.Test.YtdkdoknajanfgaaSpell
import Derived.Laws.MakeOwn
namespace Go.Proofs.Ytdkdoknajanfgaa
open Go.RowKit

theorem nm_chars (w : World) : Calls Try.prog 10 #[.string ⟨#[97, 63, 63, 61, 92, 10, 98, 10]⟩] w fun e w' => (∃ a cap, e = .returned (.tuple #[.slice a 4 cap, .int .i64 0]) ∧ CharRow w' w.heap.size a cap [⟨97, 0, 1, false⟩, ⟨35, 1, 3, false⟩, ⟨98, 6, 1, false⟩, ⟨10, 7, 1, false⟩]) ∧ Below w.heap.size w w' := by
  have h := chars_row ⟨#[97, 63, 63, 61, 92, 10, 98, 10]⟩ w (by unfold maxLen; decide)
  have e : charsOf [97, 63, 63, 61, 92, 10, 98, 10] = [⟨97, 0, 1, false⟩, ⟨35, 1, 3, false⟩, ⟨98, 6, 1, false⟩, ⟨10, 7, 1, false⟩] := by
    rw [charsOf_ok alive_check, parts_fuel]; decide +kernel
  rw [show (⟨#[97, 63, 63, 61, 92, 10, 98, 10]⟩ : ByteArray).data.toList = [97, 63, 63, 61, 92, 10, 98, 10] from rfl, alive_check, e] at h
  exact h
theorem nm_splices (w : World) : Calls Try.prog 14 #[.string ⟨#[97, 63, 63, 61, 92, 10, 98, 10]⟩] w fun e w' => (∃ a cap, e = .returned (.tuple #[.slice a 1 cap, .int .i64 0]) ∧ SpanRow w' w.heap.size a cap [⟨0, 4, 2, true⟩]) ∧ Below w.heap.size w w' := by
  have h := splices_row ⟨#[97, 63, 63, 61, 92, 10, 98, 10]⟩ w (by unfold maxLen; decide)
  have e : splicesOf [97, 63, 63, 61, 92, 10, 98, 10] = [⟨0, 4, 2, true⟩] := by
    rw [splicesOf_ok alive_check, parts_fuel]; decide +kernel
  rw [show (⟨#[97, 63, 63, 61, 92, 10, 98, 10]⟩ : ByteArray).data.toList = [97, 63, 63, 61, 92, 10, 98, 10] from rfl, alive_check, e] at h
  exact h
theorem nm_logical (w : World) : Calls Try.prog 12 #[.string ⟨#[63, 92, 10, 63, 61, 10]⟩] w fun e w' => e = .returned (.tuple #[.string ⟨#[63, 63, 61, 10]⟩, .int .i64 0]) ∧ Below w.heap.size w w' := by
  have h := logical_any ⟨#[63, 92, 10, 63, 61, 10]⟩ w (by unfold maxLen; decide)
  have e0 : checkN [63, 92, 10, 63, 61, 10] = 0 := by unfold checkN wellB; rw [parts_fuel]; decide +kernel
  have e : logicalOf [63, 92, 10, 63, 61, 10] = [63, 63, 61, 10] := by rw [logicalOf_ok e0, parts_fuel]; decide +kernel
  rw [show (⟨#[63, 92, 10, 63, 61, 10]⟩ : ByteArray).data.toList = [63, 92, 10, 63, 61, 10] from rfl, e0, e] at h
  exact h
theorem nm_spell (a b : Array UInt8) (n : Int) (ha : (⟨a⟩ : ByteArray).size ≤ maxLen) (e : spellOut a.toList = (b.toList, n)) (w : World) : Calls Try.prog 20 #[.string ⟨a⟩] w fun e w' => e = .returned (.tuple #[.string ⟨b⟩, .int .i64 n]) ∧ Below w.heap.size w w' := by
  have h := spell_any ⟨a⟩ w ha
  rw [show (⟨a⟩ : ByteArray).data.toList = a.toList from rfl, e, show b.toList.toArray = b from rfl] at h
  exact h
theorem nm_check (a : Array UInt8) (n : Int) (ha : (⟨a⟩ : ByteArray).size ≤ maxLen) (e : checkN a.toList = n) (w : World) : Calls Try.prog 16 #[.string ⟨a⟩] w fun e w' => e = .returned (.int .i64 n) ∧ Below w.heap.size w w' := by
  have h := check_any ⟨a⟩ w ha
  rw [show (⟨a⟩ : ByteArray).data.toList = a.toList from rfl, e] at h
  exact h
theorem nm_third (w : World) : Calls Try.prog 22 #[.int .u8 47] w fun e w' => e = .returned (.tuple #[.int .u8 92, .bool true]) ∧ w = w' := third_any 47 w
theorem nm_third2 (w : World) : Calls Try.prog 22 #[.int .u8 92] w fun e w' => e = .returned (.tuple #[.int .u8 0, .bool false]) ∧ w = w' := third_any 92 w

theorem wl_tens : ∀ n : Nat, wl (List.replicate n 10) = true
  | 0 => wl_nil
  | n + 1 => by
    have ht : tri (10 :: List.replicate n 10) = none := by
      match n with
      | 0 => rfl
      | 1 => rfl
      | n + 2 => simp [List.replicate_succ, tri]
    rw [List.replicate_succ, wl_plain ht (by simp)]
    split
    · rfl
    · exact wl_tens n

/-- A row of bytes 10, so far filled. -/
def Tens (W : World) (g k : Nat) : Prop := ∃ cur, W.heap[g]? = some (.cells cur 5 (0, 0)) ∧ cur.size = 65537 ∧ ∀ j < k, cur[j]? = some (.int .u8 10)
theorem Tens.set {W : World} {g k : Nat} (h : Tens W g k) (hk : k < 65537) : Tens (W.setCell ⟨g, k, none⟩ (.int .u8 10)) g (k + 1) := by
  obtain ⟨cur, h1, h2, h3⟩ := h
  refine ⟨cur.setIfInBounds k (.int .u8 10), ?_, by simpa using h2, fun j hj => ?_⟩
  · simp [World.setCell, Array.getElem?_modify, h1]
  · rw [Array.getElem?_setIfInBounds]
    by_cases e : k = j
    · rw [if_pos e, if_pos (by omega)]
    · rw [if_neg e]; exact h3 j (by omega)
theorem Tens.cell {W : World} {g k j : Nat} (h : Tens W g k) (hj : j < 65537) : ∃ u, W.cell? ⟨g, j, none⟩ = some u := by
  obtain ⟨cur, h1, h2, _⟩ := h
  rw [Lib.cell_of_heap h1]
  exact ⟨_, Array.getElem?_eq_getElem (by omega)⟩
theorem Tens.frozen {W : World} {g k : Nat} (h : Tens W g k) (j : Nat) : W.frozen? ⟨g, j, none⟩ = false := by
  obtain ⟨cur, h1, _⟩ := h
  simp [World.frozen?, h1]
theorem Tens.below {W W' : World} {g k : Nat} (h : Tens W g k) (hb : Below W.heap.size W W') : Tens W' g k := by
  obtain ⟨cur, h1, h2⟩ := h
  exact ⟨cur, (hb.block g (Array.getElem?_eq_some_iff.1 h1).1).trans h1, h2⟩
theorem Tens.conv {W : World} {g : Nat} (h : Tens W g 65537) (o n cap : Nat) (hn : o + n = 65537) (L : List UInt8) (hL : L = List.replicate n 10) :
    (convert 50 9 (.slice (some ⟨g, o, none⟩) n cap)).run Try.prog W = .ok (.string ⟨L.toArray⟩) W := by
  have hlen : L.length = n := by rw [hL, List.length_replicate]
  obtain ⟨cur, h1, h2, h3⟩ := h
  have := run_convert_bytes_back (P := Try.prog) W _ _ _ ⟨g, o, none⟩ cap L Try.underlying50 Try.underlying5 Try.underlying9 (fun j hj => by
    have e : L[j] = 10 := by subst hL; simp
    rw [e, show (⟨g, o, none⟩ : Addr).add j = ⟨g, o + j, none⟩ by simp [Addr.add], Lib.cell_of_heap h1, h3 (o + j) (by omega)]
    rfl)
  rw [hlen] at this
  exact this

theorem tens_spell (L : List UInt8) (hL : L = List.replicate 65537 10) (w : World) : Calls Try.prog 20 #[.string ⟨L.toArray⟩] w fun e w' => e = .returned (.tuple #[.string ⟨#[]⟩, .int .i64 3]) ∧ Below w.heap.size w w' := by
  have hs : (⟨L.toArray⟩ : ByteArray).size = 65537 := by rw [← size_list]; show L.length = _; rw [hL, List.length_replicate]
  have h := spell_any ⟨L.toArray⟩ w (by rw [hs]; unfold maxLen; omega)
  rw [spellOut_long (by rw [hs]; omega)] at h
  exact h
theorem tens_check (L : List UInt8) (hL : L = List.replicate 65537 10) (w : World) : Calls Try.prog 16 #[.string ⟨L.toArray⟩] w fun e w' => e = .returned (.int .i64 3) ∧ Below w.heap.size w w' := by
  have hs : (⟨L.toArray⟩ : ByteArray).size = 65537 := by rw [← size_list]; show L.length = _; rw [hL, List.length_replicate]
  have h := check_any ⟨L.toArray⟩ w (by rw [hs]; unfold maxLen; omega)
  rw [check_long (by rw [hs]; omega)] at h
  exact h
theorem tens_check2 (L : List UInt8) (hL : L = List.replicate 65536 10) (w : World) : Calls Try.prog 16 #[.string ⟨L.toArray⟩] w fun e w' => e = .returned (.int .i64 0) ∧ Below w.heap.size w w' := by
  have hl : L.length = 65536 := by rw [hL, List.length_replicate]
  have hs : (⟨L.toArray⟩ : ByteArray).size = 65536 := by rw [← size_list]; exact hl
  have h := check_any ⟨L.toArray⟩ w (by rw [hs]; unfold maxLen; omega)
  rw [show (⟨L.toArray⟩ : ByteArray).data.toList = L from rfl, checkN_ok (by omega) (by rw [hL]; exact wl_tens _)] at h
  exact h

theorem nm_make : ∃ cur : Array Value, cur.size = 65537 ∧ ∀ u : World, (Instr.makeSlice 50 (.int .i64 65537) (.int .i64 65537)).run Try.prog u = .ok (.slice (some ⟨u.heap.size, 0, none⟩) 65537 65537) (u.alloc (.cells cur 5)) := by
  obtain ⟨i0, hi, hz0, hz1, hz2⟩ := info_parts infoU8
  refine ⟨madeCells #[.int .u8 0] 65537, size_madeCells _ _, fun u => ?_⟩
  have h := run_make (P := Try.prog) u 50 5 i0 (.int .u8 0) Try.underlying50 hi hz0 .i64 .i64 65537 65537 (by omega) (Int.le_refl _) (by rw [hz2]; omega) (by omega)
  rw [hz1] at h
  exact h

set_option maxRecDepth 100000 in
set_option maxHeartbeats 4000000 in
theorem names_any (w : World) :
    Calls Try.prog 5 #[] w fun e w' => e = .returned (.bool true) ∧ Below w.heap.size w w' := by
  have H1 := Lib.hid nm_chars
  have H2 := Lib.hid nm_splices
  have H3 := Lib.hid nm_logical
  have H4 := Lib.hid (nm_spell #[63, 63, 61, 10] #[63, 92, 10, 63, 61, 10] 0 (by unfold maxLen; decide) (by decide +kernel))
  have H5 := Lib.hid (nm_spell #[92, 10] #[92, 92, 10, 10] 0 (by unfold maxLen; decide) (by decide +kernel))
  have H6 := Lib.hid (nm_spell #[97] #[] 10 (by unfold maxLen; decide) (by decide +kernel))
  have K1 := Lib.hid (nm_check #[97] 10 (by unfold maxLen; decide) (by unfold checkN wellB; rw [parts_fuel]; decide +kernel))
  have K2 := Lib.hid (nm_check #[97, 92, 10] 10 (by unfold maxLen; decide) (by unfold checkN wellB; rw [parts_fuel]; decide +kernel))
  have K3 := Lib.hid (nm_check #[97, 92, 92, 10] 10 (by unfold maxLen; decide) (by unfold checkN wellB; rw [parts_fuel]; decide +kernel))
  have K4 := Lib.hid (nm_check #[] 0 (by unfold maxLen; decide) (by unfold checkN wellB; rw [parts_fuel]; decide +kernel))
  have K5 := Lib.hid (nm_check #[97, 63, 63, 47, 10] 10 (by unfold maxLen; decide) (by unfold checkN wellB; rw [parts_fuel]; decide +kernel))
  have K6 := Lib.hid (nm_check #[10] 0 (by unfold maxLen; decide) (by unfold checkN wellB; rw [parts_fuel]; decide +kernel))
  obtain ⟨L, hL⟩ : ∃ L, L = List.replicate 65537 (10 : UInt8) := ⟨_, rfl⟩
  obtain ⟨M, hM⟩ : ∃ M, M = List.replicate 65536 (10 : UInt8) := ⟨_, rfl⟩
  have S1 := Lib.hid (tens_spell L hL)
  have S2 := Lib.hid (tens_check L hL)
  have S3 := Lib.hid (tens_check2 M hM)
  have V1 := Lib.hid (fun (W : World) (g : Nat) (h : Tens W g 65537) => h.conv 0 65537 65537 (by omega) L hL)
  have V2 := Lib.hid (fun (W : World) (g : Nat) (h : Tens W g 65537) => h.conv 1 65536 65536 (by omega) M hM)
  clear hL hM
  obtain ⟨cur, hcur, hmk⟩ := nm_make
  go_enter Try.func5, Try.ntmps5
  go_wp2_with fail
  refine (H1.out _).mono ?_
  rintro e w1 ⟨⟨a1, c1, rfl, r1⟩, b1⟩
  go_wp2_with fail
  refine (H2.out _).mono ?_
  rintro e w2 ⟨⟨a2, c2, rfl, r2⟩, b2⟩
  go_wp2_with fail
  refine (H3.out _).mono ?_
  rintro e w3 ⟨rfl, b3⟩
  go_wp2_with fail
  refine (H4.out _).mono ?_
  rintro e w4 ⟨rfl, b4⟩
  go_wp2_with fail
  refine (H5.out _).mono ?_
  rintro e w5 ⟨rfl, b5⟩
  go_wp2_with fail
  refine (alive_any _).mono ?_
  rintro e w6 ⟨rfl, b6⟩
  have R1 := r1.below (bch (bch (bch (bch b2 b3) b4) b5) b6) (Nat.le_refl _)
  have R2 := r2.below (bch (bch (bch b3 b4) b5) b6) (Nat.le_refl _)
  obtain ⟨g1, rfl, _, _, hc1, hm1, p0, p1, p2⟩ := R1.cells (k := 1) rfl
  obtain ⟨g1', e1, _, _, _, _, p3, p4, p5⟩ := R1.cells (k := 2) rfl
  obtain rfl : g1 = g1' := by simpa using e1
  obtain ⟨g2, rfl, _, _, hc2, hm2, q0, q1⟩ := R2.cells (k := 0) rfl
  have p0' : w6.cell? ⟨g1, 3, none⟩ = some (.int .u8 35) := p0
  have p1' : w6.cell? ⟨g1, 4, none⟩ = some (.int .i64 1) := p1
  have p2' : w6.cell? ⟨g1, 5, none⟩ = some (.int .i64 3) := p2
  have p3' : w6.cell? ⟨g1, 6, none⟩ = some (.int .u8 98) := p3
  have p4' : w6.cell? ⟨g1, 7, none⟩ = some (.int .i64 6) := p4
  have p5' : w6.cell? ⟨g1, 8, none⟩ = some (.int .i64 1) := p5
  have q0' : w6.cell? ⟨g2, 0, none⟩ = some (.int .i64 4) := q0
  have q1' : w6.cell? ⟨g2, 1, none⟩ = some (.int .i64 6) := q1
  have B := bch (bch (bch (bch (bch b1 b2) b3) b4) b5) b6
  clear r1 r2 R1 R2 p0 p1 p2 p3 p4 p5 q0 q1 e1 b1 b2 b3 b4 b5 b6
  go_wp2_with fail
  refine (nm_third _).mono ?_
  rintro e w7 ⟨rfl, rfl⟩
  go_wp2_with fail
  refine (nm_third2 _).mono ?_
  rintro e w7 ⟨rfl, rfl⟩
  go_wp2_with fail
  refine (K1.out _).mono ?_
  rintro e x1 ⟨rfl, d1⟩
  go_wp2_with fail
  refine (K2.out _).mono ?_
  rintro e x2 ⟨rfl, d2⟩
  go_wp2_with fail
  refine (K3.out _).mono ?_
  rintro e x3 ⟨rfl, d3⟩
  go_wp2_with fail
  refine (K4.out _).mono ?_
  rintro e x4 ⟨rfl, d4⟩
  go_wp2_with fail
  refine (K5.out _).mono ?_
  rintro e x5 ⟨rfl, d5⟩
  go_wp2_with fail
  refine (K6.out _).mono ?_
  rintro e x6 ⟨rfl, d6⟩
  have B6 := bch (bch (bch (bch (bch (bch B d1) d2) d3) d4) d5) d6
  clear B d1 d2 d3 d4 d5 d6 p0' p1' p2' p3' p4' p5' q0' q1'
  have hx := B6.size
  go_wp2
  go_loopw [18] (fun i wr => ∃ k : Nat, k ≤ 65537 ∧ i = .int .i64 k ∧ Tens wr x6.heap.size k ∧ Below w.heap.size w wr) (fun i _ => 65537 - (intOf i).toNat)
  case atStart => exact ⟨0, Nat.zero_le _, rfl, ⟨cur, World.alloc_heap_new _ _, hcur, fun j hj => absurd hj (Nat.not_lt_zero _)⟩, B6.alloc hx _⟩
  case round =>
    obtain ⟨k, hk, rfl, hT, hB⟩ := hrel
    by_cases hlt : k < 65537
    · obtain ⟨u, hu⟩ := hT.cell hlt
      have hf := hT.frozen k
      have i1 : (k : Int) < 65537 := by omega
      go_wp2
      go_roundw
      case rel => exact ⟨k + 1, by omega, by go_num, hT.set hlt, hB.setCell hx _⟩
      case measure => simp [intOf]; omega
    · obtain rfl : k = 65537 := by omega
      have v1 := V1.out wr _ hT
      go_wp2_with fail
      refine (S1.out _).mono ?_
      rintro e y1 ⟨rfl, f1⟩
      have T1 := hT.below f1
      go_wp2_with fail
      refine (H6.out _).mono ?_
      rintro e y2 ⟨rfl, f2⟩
      have T2 := T1.below f2
      have v2 := V1.out y2 _ T2
      go_wp2_with fail
      refine (S2.out _).mono ?_
      rintro e y3 ⟨rfl, f3⟩
      have T3 := T2.below f3
      have v3 := V2.out y3 _ T3
      go_wp2_with fail
      refine (S3.out _).mono ?_
      rintro e y4 ⟨rfl, f4⟩
      go_wp2
      go_ret
      exact ⟨rfl, bch hB (bch (bch (bch f1 f2) f3) f4)⟩

end Go.Proofs.Ytdkdoknajanfgaa
