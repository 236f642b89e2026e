/- The law PhysParts: the loop over what the two texts' characters are together. -/
import Derived.Test.YtdkdoknajanfgaaAppend
import Derived.Test.YtdkdoknajanfgaaElems
import Derived.BigQuiet
import Derived.Deep.QuietTactic
namespace Go.Proofs.Ytdkdoknajanfgaa
open Go.RowKit

theorem below_drewN {B : Nat} {a w : World} (h : Below B a w) (n : Nat) : Below B a (w.drewN n) := ⟨h.os, h.tape, h.output, h.size, h.block⟩
theorem chars_at (s : ByteArray) (hs : s.size ≤ maxLen) (n : Int) (h : checkN s.data.toList = n) (w : World) :
    Calls Try.prog 10 #[.string s] w fun e w' => (∃ a cap, e = .returned (.tuple #[.slice a (charsOf s.data.toList).length cap, .int .i64 n]) ∧ CharRow w' w.heap.size a cap (charsOf s.data.toList)) ∧ Below w.heap.size w w' := by
  have := chars_row s w hs
  rw [h] at this
  exact this
theorem chars_cat (a b : ByteArray) (hs : a.size + b.size ≤ 65536) (h : checkN (a.data.toList ++ b.data.toList) = 0) (l : List Part) (hl : charsOf (a.data.toList ++ b.data.toList) = l) (w : World) :
    Calls Try.prog 10 #[.string (a ++ b)] w fun e w' => (∃ r cap, e = .returned (.tuple #[.slice r l.length cap, .int .i64 0]) ∧ CharRow w' w.heap.size r cap l) ∧ Below w.heap.size w w' := by
  have := chars_row (a ++ b) w (by rw [ByteArray.size_append]; unfold maxLen; omega)
  rw [ByteArray.data_append, Array.toList_append, h, hl] at this
  exact this
theorem chars_count {l : List UInt8} (h : checkN l = 0) : (charsOf l).length ≤ 65536 := by
  obtain ⟨h1, _⟩ := checkN_zero h
  rw [charsOf_ok h]
  have := chs_length (parts l)
  have := partsFrom_length (l := l) _ 0 rfl
  unfold parts at *
  omega
theorem chars_bound {l : List UInt8} (h : checkN l = 0) : ∀ p ∈ charsOf l, p.at' < l.length := by
  intro p hp
  rw [charsOf_ok h] at hp
  obtain ⟨_, h2, _⟩ := bd_of_part (l := l) _ 0 rfl p (List.mem_filter.1 hp).1
  exact h2

set_option maxRecDepth 100000 in
set_option maxHeartbeats 2000000 in
theorem parts_main (a0 a1 : ByteArray) (w0 : a0.size ≤ maxLen) (w1 : a1.size ≤ maxLen) (h : checkN a0.data.toList = 0) (h2 : checkN a1.data.toList = 0) (hs : a0.size + a1.size ≤ 65536) (w : World) :
    Calls Try.prog 8 #[.string a0, .string a1] w fun e w' => e = .returned (.bool true) ∧ Below w.heap.size w w' := by
  have w0' := w0
  have w1' := w1
  unfold maxLen at w0' w1'
  obtain ⟨hc, hl3⟩ := chars_append h h2 (by rw [size_list, size_list]; exact hs)
  obtain ⟨la, hla⟩ : ∃ la, charsOf a0.data.toList = la := ⟨_, rfl⟩
  obtain ⟨lb, hlb⟩ : ∃ lb, charsOf a1.data.toList = lb := ⟨_, rfl⟩
  have HC := chars_at a0 w0 0 h
  have HD := chars_at a1 w1 0 h2
  have HE := chars_cat a0 a1 hs hc _ hl3
  have hbnd := chars_bound h2
  rw [hla] at HC HE
  rw [hlb] at HD HE hbnd
  rw [size_list] at HE hbnd
  have HC := Lib.hid HC
  have HD := Lib.hid HD
  have HE := Lib.hid HE
  have hna : la.length ≤ 65536 := by rw [← hla]; exact chars_count h
  have hnb : lb.length ≤ 65536 := by rw [← hlb]; exact chars_count h2
  have hnn : (la ++ lb.map (shift a0.size)).length = la.length + lb.length := by simp
  have hne : (((la ++ lb.map (shift a0.size)).length : Int) != (la.length : Int) + lb.length) = false := by rw [hnn]; simp
  have hs' : ¬ (65536 : Int) < (a0.size : Int) + a1.size := by omega
  clear h h2 w0 w1 hc hl3 hla hlb
  obtain ⟨ln, hln⟩ : ∃ ln, la ++ lb.map (shift a0.size) = ln := ⟨_, rfl⟩
  rw [hln] at HE hnn hne
  go_enter Try.func8, Try.ntmps8
  go_wp2_with fail
  refine (alive_any _).mono ?_
  rintro e w1 ⟨rfl, hb1⟩
  go_wp2_with fail
  refine (HC.out _).mono ?_
  rintro e w2 ⟨⟨a2, cap2, rfl, hr2⟩, hb2⟩
  go_wp2_with fail
  refine (HD.out _).mono ?_
  rintro e w3 ⟨⟨a3, cap3, rfl, hr3⟩, hb3⟩
  go_wp2_with fail
  refine (HE.out _).mono ?_
  rintro e w4 ⟨⟨a4, cap4, rfl, hr4⟩, hb4⟩
  have m1 := hb1.size
  have m2 := hb2.size
  have m3 := hb3.size
  have m4 := hb4.size
  have hB := (((hb1.trans (hb2.mono m1)).trans (hb3.mono (by omega))).trans (hb4.mono (by omega)))
  have hr2' := (hr2.below hb3 (Nat.le_refl _)).below hb4 (Nat.le_refl _)
  have hr3' := hr3.below hb4 (Nat.le_refl _)
  go_wp2
  go_loopw [12] (fun i wr => ∃ k : Nat, k ≤ ln.length ∧ i = .int .i64 k ∧ Below w4.heap.size w4 wr) (fun i _ => ln.length - (intOf i).toNat)
  case atStart => exact ⟨0, Nat.zero_le _, rfl, Below.refl _ _⟩
  case round =>
    obtain ⟨k, hk, rfl, hBr⟩ := hrel
    by_cases hlt : k < ln.length
    · obtain ⟨p, hp⟩ : ∃ p, ln[k]? = some p := ⟨_, List.getElem?_eq_getElem hlt⟩
      obtain ⟨g4, rfl, _, hg4, hcap4, hcm4, n0, n1, n2⟩ := (hr4.below hBr (Nat.le_refl _)).cells hp
      by_cases hi : k < la.length
      · have hpa : la[k]? = some p := by rw [← hln, List.getElem?_append_left hi] at hp; exact hp
        obtain ⟨g2, rfl, _, hg2, hcap2, hcm2, c0, c1, c2⟩ := (hr2'.below hBr (Nat.le_refl _)).cells hpa
        have i1 : (k : Int) < (ln.length : Nat) := by omega
        have i2 : (k : Int) < (la.length : Nat) := by omega
        have i3 : (0 : Int) ≤ k := by omega
        have d1 : decide ((k : Int) < (la.length : Nat)) = true := decide_eq_true i2
        have d2 : decide (la.length ≤ k) = false := decide_eq_false (by omega)
        go_wp2
        go_big_quiet (fail)
        go_wp2
        go_roundw
        case rel => exact ⟨k + 1, by omega, by go_num, below_drewN hBr _⟩
        case measure => simp [intOf]; omega
      · obtain ⟨q, hq⟩ : ∃ q, lb[k - la.length]? = some q := ⟨_, List.getElem?_eq_getElem (by omega)⟩
        have hpq : p = shift a0.size q := by
          rw [← hln, List.getElem?_append_right (by omega), List.getElem?_map, hq] at hp
          simpa using hp.symm
        subst hpq
        have hq1 := hbnd q (List.mem_of_getElem? hq)
        obtain ⟨g3, rfl, _, hg3, hcap3, hcm3, c0, c1, c2⟩ := (hr3'.below hBr (Nat.le_refl _)).cells hq
        have n1' : wr.cell? ⟨g4, k * 3 + 1, none⟩ = some (.int .i64 ((q.at' : Int) + a0.size)) := n1.trans (by simp [shift])
        have i1 : (k : Int) < (ln.length : Nat) := by omega
        have i2 : ¬ (k : Int) < (la.length : Nat) := by omega
        have i3 : (0 : Int) ≤ k := by omega
        have i4 : (k : Int) - la.length < lb.length := by omega
        have i5 : (0 : Int) ≤ (k : Int) - la.length := by omega
        have i6 : (q.at' : Int) + a0.size ≤ 1000000 := by omega
        have d1 : decide (k < la.length) = false := decide_eq_false (by omega)
        have d2 : decide (la.length ≤ k) = true := decide_eq_true (by omega)
        have n0' : wr.cell? ⟨g4, k * 3, none⟩ = some (.int .u8 q.b.toNat) := n0
        have n2' : wr.cell? ⟨g4, k * 3 + 2, none⟩ = some (.int .i64 q.n) := n2
        clear n0 n1 n2 hq hp
        go_wp2
        go_big_quiet (fail)
        go_wp2
        go_roundw
        case rel => exact ⟨k + 1, by omega, by go_num, below_drewN hBr _⟩
        case measure => simp [intOf]; omega
    · obtain rfl : k = ln.length := by omega
      go_wp2
      go_ret
      exact ⟨rfl, hB.trans (hBr.mono (by omega))⟩

end Go.Proofs.Ytdkdoknajanfgaa
