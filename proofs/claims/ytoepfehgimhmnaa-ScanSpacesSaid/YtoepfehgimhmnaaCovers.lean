/- The law ScanCovers: its loop. -/
import Derived.Test.YtoepfehgimhmnaaCov2
import Derived.Outline
namespace Go.Proofs.Ytoepfehgimhmnaa
open Go.RowKit Go.Shelf

theorem okB_int (c : UInt8) (h : okB c = true) : (c.toNat : Int) = 32 ∨ (c.toNat : Int) = 9 ∨ (c.toNat : Int) = 11 ∨ (c.toNat : Int) = 12 ∨ (c.toNat : Int) = 92 ∨ (c.toNat : Int) = 10 ∨ (c.toNat : Int) = 63 ∨ (c.toNat : Int) = 47 := by
  unfold okB splB at h
  rw [isWS_int] at h
  simp only [Bool.or_eq_true, decide_eq_true_eq, beq_iff_eq] at h
  rcases h with (h | h | h | h) | ((rfl | rfl) | rfl) | rfl
  · exact .inl h
  · exact .inr (.inl h)
  · exact .inr (.inr (.inl h))
  · exact .inr (.inr (.inr (.inl h)))
  all_goals simp

theorem spl_get {s : ByteArray} (h : splicedB s.data.toList = true) (k : Nat) (hk : k < s.size) : okB s[k] = true := by
  unfold splicedB at h
  rw [List.all_eq_true] at h
  exact h _ (List.mem_of_getElem? (data_get s k hk))

set_option maxHeartbeats 1000000 in
theorem spliced_true (s : ByteArray) (w : World) (hs : s.size ≤ maxLen) (h : splicedB s.data.toList = true) :
    Calls Try.prog 21 #[.string s] w fun e w' => e = .returned (.bool true) ∧ w' = w := by
  unfold maxLen at hs
  have HS := Lib.hid (spl_get h)
  clear h
  go_enter Try.func21, Try.ntmps21
  go_wp2
  go_loop [3, 4] (fun i _ => ∃ k : Nat, k ≤ s.size ∧ i = .int .i64 k) (fun i _ => s.size - (intOf i).toNat)
  case atStart => exact ⟨0, Nat.zero_le _, rfl⟩
  case round =>
    obtain ⟨k, hk, rfl⟩ := hrel
    by_cases hlt : k < s.size
    · have ho := Lib.hid (okB_int _ (HS.out k hlt))
      go_wp2
      all_goals first
        | (go_round
           case rel => exact ⟨k + 1, by omega, by go_num⟩
           case measure => simp [intOf]; omega)
        | (exfalso
           have hx := ho.out
           clear ho HS
           simp only [bne_iff_ne, ne_eq, Bool.not_eq_true, beq_eq_false_iff_ne] at *
           omega)
    · go_wp2
      go_ret
      exact ⟨rfl, rfl⟩

theorem scan_size {s : ByteArray} (h : scanErr s = 0) : s.size ≤ 65536 ∧ (scanOf s).length ≤ 65536 := by
  obtain ⟨hc, he⟩ := scan_parts h
  have h1 : s.size ≤ 65536 := by
    rcases check_cases s.data.toList with ⟨_, hl⟩ | h2 | h2
    · exact hl
    · rw [h2] at hc; exact absurd hc (by decide)
    · rw [h2] at hc; exact absurd hc (by decide)
  have h2 := toks_count (l := logicalOf s.data.toList) _ 0 0 (Nat.le_refl _) (Nat.zero_le _)
  have h3 := charsOf_len (l := s.data.toList)
  have h4 := charsOf_le s.data.toList
  rw [size_list] at h4
  rw [scanOf_len h]
  exact ⟨h1, by omega⟩

set_option maxRecDepth 100000 in
set_option maxHeartbeats 4000000 in
theorem covers_ok (s : ByteArray) (w : World) (hs : s.size ≤ maxLen) (hL : LibVar w) (h : scanErr s = 0) :
    Calls Try.prog 6 #[.string s] w fun e w' => e = .returned (.bool true) ∧ Below w.heap.size w w' := by
  obtain ⟨hz, hn⟩ := scan_size h
  have HA := alive_any w hL
  have HC := fun w1 (hb : Below w.heap.size w w1) => scan_row s w1 hs (libVar_below hb hL)
  rw [h] at HC
  have HAT := Lib.hid (fun i y => cover_at (s := s) h (i := i) (y := y))
  have HEND := Lib.hid (cover_end h)
  clear h hs
  obtain ⟨ys, hys⟩ : ∃ ys, scanOf s = ys := ⟨_, rfl⟩
  rw [hys] at HC HAT HEND hn
  clear hys
  go_enter Try.func6, Try.ntmps6
  go_wp2_with fail
  refine HA.mono ?_
  rintro e w1 ⟨rfl, hb1⟩
  go_wp2_with fail
  refine (HC _ hb1).mono ?_
  rintro e w2 ⟨⟨a, cap, rfl, hrow⟩, hb2⟩
  have hBB := hb1.trans (hb2.mono hb1.size)
  have HR := Lib.hid hrow
  clear hrow HA HC
  go_wp2
  go_loopw [6, 7] (fun at' i wr => ∃ k : Nat, k ≤ ys.length ∧ i = .int .i64 k ∧ at' = .int .i64 (covA ys k : Nat) ∧ Below w2.heap.size w2 wr) (fun _ i _ => ys.length - (intOf i).toNat)
  case atStart => exact ⟨0, Nat.zero_le _, rfl, rfl, Below.refl _ _⟩
  case round =>
    obtain ⟨k, hk, rfl, rfl, hBr⟩ := hrel
    by_cases hlt : k < ys.length
    · obtain ⟨y, hy⟩ : ∃ y, ys[k]? = some y := ⟨_, List.getElem?_eq_getElem hlt⟩
      obtain ⟨g, rfl, hg0, hg1, hrow⟩ := HR.out (by omega)
      obtain ⟨q0, q1, q2, q3, q4⟩ := (hrow.below hBr hg1) k y hy
      obtain ⟨t1, t2, t3, t4, t5, t6⟩ := HAT.out k y hy
      have hcs := covA_succ hy
      have HSP := spliced_at t4
      have HCS := Lib.hid hcs
      have HSQ := fun w => spliced_true (s.extract (covA ys k) y.a) w (by rw [ByteArray.size_extract]; unfold maxLen; omega) HSP
      clear hrow hy hcs t4 HSP q0 q4
      generalize covA ys k = A at *
      have j1 : (k : Int) < (ys.length : Int) := by omega
      have j0 : (0 : Int) ≤ (k : Int) := by omega
      have jk : k < ys.length := hlt
      have n1 : decide (y.a < A) = false := decide_eq_false (by omega)
      have n2 : decide (y.e ≤ y.a) = false := decide_eq_false (by omega)
      have n3 : decide (s.size < y.e) = false := decide_eq_false (by omega)
      have n4 : decide ((y.e : Int) - (y.a : Int) < (y.tx.size : Int)) = false := decide_eq_false (by omega)
      have n5 : (A : Int) ≤ (y.a : Int) := by omega
      have n6 : (y.a : Int) ≤ (y.e : Int) := by omega
      have n7 : (y.e : Int) ≤ (s.size : Int) := by omega
      have n8 : (y.a : Int) ≤ (s.size : Int) := by omega
      by_cases heq : y.e - y.a = y.tx.size
      · have t7 := t6 heq
        have hT : ((s.extract y.a y.e).toList == y.tx.toList) = true := by
          rw [ByteArray.toList_eq, ByteArray.toList_eq, extract_list, t7]; simp
        have hT2 : (!((s.extract y.a y.e).toList == y.tx.toList)) = false := by rw [hT]; rfl
        have heq2 : ((y.e : Int) - (y.a : Int) == (y.tx.size : Int)) = true := by simp; omega
        have heq3 : ¬ ((y.e : Int) - (y.a : Int) < (y.tx.size : Int)) := by omega
        clear t6 t7 heq
        go_wp2
        go_big_quiet ((go_at_call 21; exact Calls.quiet_of_same (HSQ _)))
        go_wp2
        go_big_quiet (fail)
        go_wp2
        refine ⟨⟨k + 1, by omega, by go_num, by rw [HCS.out], below_drewN hBr _⟩, ?_⟩
        simp [intOf]; omega
      · have heq2 : ((y.e : Int) - (y.a : Int) == (y.tx.size : Int)) = false := by simp; omega
        have heq3 : ¬ ((y.e : Int) - (y.a : Int) < (y.tx.size : Int)) := by omega
        clear t6 heq
        go_wp2
        go_big_quiet ((go_at_call 21; exact Calls.quiet_of_same (HSQ _)))
        go_wp2
        go_big_quiet (fail)
        go_wp2
        refine ⟨⟨k + 1, by omega, by go_num, by rw [HCS.out], below_drewN hBr _⟩, ?_⟩
        simp [intOf]; omega
    · obtain rfl : k = ys.length := by omega
      have he1 := HEND.out.1
      have HSQ := fun w => spliced_true (s.extract (covA ys ys.length) s.size) w (by rw [ByteArray.size_extract]; unfold maxLen; omega) (spliced_at HEND.out.2)
      generalize covA ys ys.length = A at *
      go_wp2_with (go_at_call 21; refine (HSQ _).mono ?_; rintro e w' ⟨rfl, rfl⟩)
      go_ret
      exact ⟨rfl, hBB.trans (hBr.mono hBB.size)⟩

set_option maxHeartbeats 1000000 in
theorem covers_bad (s : ByteArray) (w : World) (hs : s.size ≤ maxLen) (hL : LibVar w) (h : scanErr s ≠ 0) :
    Calls Try.prog 6 #[.string s] w fun e w' => e = .returned (.bool true) ∧ Below w.heap.size w w' := by
  have HA := alive_any w hL
  have HC := fun w1 (hb : Below w.heap.size w w1) => scan_row s w1 hs (libVar_below hb hL)
  have ho : scanOf s = [] := by unfold scanOf; rw [if_neg h]
  rw [ho] at HC
  obtain ⟨n, hn⟩ : ∃ n, scanErr s = n := ⟨_, rfl⟩
  rw [hn] at HC h
  have hb0 : (n != 0) = true := by simpa using h
  clear hn ho
  go_enter Try.func6, Try.ntmps6
  go_wp2_with fail
  refine HA.mono ?_
  rintro e w1 ⟨rfl, hb1⟩
  go_wp2_with fail
  refine (HC _ hb1).mono ?_
  rintro e w2 ⟨⟨a, cap, rfl, hrow⟩, hb2⟩
  have hBB := hb1.trans (hb2.mono hb1.size)
  go_wp2
  go_ret
  exact ⟨rfl, hBB⟩

theorem covers_any (s : ByteArray) (w : World) (hs : s.size ≤ maxLen) (hL : LibVar w) :
    Calls Try.prog 6 #[.string s] w fun e w' => e = .returned (.bool true) ∧ Below w.heap.size w w' := by
  by_cases h : scanErr s = 0
  · exact covers_ok s w hs hL h
  · exact covers_bad s w hs hL h

end Go.Proofs.Ytoepfehgimhmnaa
