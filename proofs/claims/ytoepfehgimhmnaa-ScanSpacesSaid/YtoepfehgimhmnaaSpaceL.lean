/- The law ScanSpaces: the way on which all is done. -/
import Derived.Test.YtoepfehgimhmnaaSpaces
import Derived.Lib.BufferRead
import Derived.WalkSmall
namespace Go.Proofs.Ytoepfehgimhmnaa
open Go.RowKit Go.Shelf

def bC (l : List UInt8) : List Value := l.map fun b => Value.int .u8 b.toNat
theorem bC_app (a b : List UInt8) : bC (a ++ b) = bC a ++ bC b := List.map_append ..
theorem cell1_new (w : World) (a : Value) (t : TypeId) : ∀ j u, [a][j]? = some u → (w.alloc (.cells #[a] t)).cell? ((⟨w.heap.size, 0, none⟩ : Addr).add j) = some u := by
  intro j u hj
  match j, hj with
  | 0, hj => simp at hj; subst hj; simp [Addr.add]
  | j + 1, hj => simp at hj

/-- string(b) of a row of bytes that the call owns. -/
theorem conv_row {w : World} {base : Nat} {a : Option Addr} {cap : Nat} {l : List UInt8} {n : Nat} (hn : n = l.length) (h : w.ownsRow base 5 1 (.slice a n cap) n (bC l)) :
    (convert 43 9 (.slice a n cap)).run Try.prog w = .ok (.string ⟨l.toArray⟩) w := by
  subst hn
  rcases h.2 with ⟨hv, h0⟩ | ⟨g, cap', cur, hv, _, hg, _, _, _, ht⟩
  · have : l = [] := List.length_eq_zero_iff.1 h0
    subst this
    cases hv
    exact Lib.run_convert_nil_bytes w _ _ _ 0 Try.underlying43 Try.underlying5 Try.underlying9
  · cases hv
    refine run_convert_bytes_back w _ _ _ _ _ l Try.underlying43 Try.underlying5 Try.underlying9 ?_
    exact Lib.bytes_of_row hg (by rw [Nat.mul_one] at ht; exact ht)

set_option maxRecDepth 100000 in
set_option maxHeartbeats 4000000 in
theorem space_ok (s : ByteArray) (w : World) (hs : s.size ≤ maxLen) (hL : LibVar w) (h : scanErr s = 0) (hz : s.size ≤ 20000) :
    Calls Try.prog 8 #[.string s] w fun e w' => e = .returned (.bool true) ∧ Below w.heap.size w w' := by
  obtain ⟨i0, hi, hz0, hz1, hz2⟩ := info_parts infoByte
  obtain ⟨x1, x2, -⟩ := spaced_ok h hz
  obtain ⟨y1, y2, y3⟩ := spelt_toks h hz
  have hX := sp1_spaced h
  have HA := alive_any w hL
  have HC := fun w1 (hb : Below w.heap.size w w1) => scan_row s w1 hs (libVar_below hb hL)
  rw [h] at HC
  obtain ⟨X, hXX⟩ : ∃ X, spaced s = X := ⟨_, rfl⟩
  rw [hXX] at hX x1 x2 y1 y2 y3
  have HSP := fun w1 => spell_any ⟨X.toArray⟩ w1 (by show X.length ≤ maxLen; unfold maxLen; omega)
  rw [show (⟨X.toArray⟩ : ByteArray).data.toList = X from rfl, x2] at HSP
  have hSz : (⟨(spellOut X).1.toArray⟩ : ByteArray).size ≤ maxLen := by
    have := (scan_size y1).1
    unfold maxLen; omega
  obtain ⟨T, hT⟩ : ∃ T : ByteArray, ⟨(spellOut X).1.toArray⟩ = T := ⟨_, rfl⟩
  rw [hT] at HSP y1 y2 y3 hSz
  have HC2 := fun w1 (hb : Below w.heap.size w w1) => scan_row T w1 hSz (libVar_below hb hL)
  rw [y1] at HC2
  obtain ⟨ys, hys⟩ : ∃ ys, scanOf s = ys := ⟨_, rfl⟩
  rw [hys] at HC hX y2 y3
  obtain ⟨zs, hzs⟩ : ∃ zs, scanOf T = zs := ⟨_, rfl⟩
  rw [hzs] at HC2 y2 y3
  rw [y2] at HC2
  have HX := Lib.hid hX
  have HY := Lib.hid y3
  have HZ := Lib.hid y2
  have hn : ys.length ≤ 65536 := by have := (scan_size h).2; rw [hys] at this; exact this
  have hz3 : ¬ (20000 : Int) < (s.size : Int) := by omega
  clear h hs hX hXX hys hz y1 y2 y3 hT hzs hSz x2
  go_enter Try.func8, Try.ntmps8
  go_wp2_with fail
  refine HA.mono ?_
  rintro e w1 ⟨rfl, hb1⟩
  go_wp2_with fail
  refine (HC _ hb1).mono ?_
  rintro e w2 ⟨⟨a, cap, rfl, hrow⟩, hb2⟩
  have hBB := hb1.trans (hb2.mono hb1.size)
  have HR := Lib.hid hrow
  clear hrow HA HC
  go_wp2
  go_loopg [6, 7] (ys.length) (fun g v i wx => ∃ (k : Nat) (pre : List UInt8), k ≤ ys.length ∧ i = .int .i64 k ∧ g = ys.length - k ∧ Hid (pre ++ sp1 (k == 0) (ys.drop k) = X) ∧ wx.ownsRow w2.heap.size 5 1 v pre.length (bC pre) ∧ Below w2.heap.size w2 wx)
  case atStart => exact ⟨0, [], Nat.zero_le _, rfl, rfl, HX, World.ownsRow_nil _ _ _ _, Below.refl _ _⟩
  case round =>
    obtain ⟨k, pre, hk, rfl, rfl, HP, hown, hbx⟩ := hrel
    by_cases hlt : k < ys.length
    · obtain ⟨y, hy⟩ : ∃ y, ys[k]? = some y := ⟨_, List.getElem?_eq_getElem hlt⟩
      obtain ⟨g, rfl, hg0, hg1, hrow⟩ := HR.out (by omega)
      obtain ⟨q0, q1, -⟩ := (hrow.below hbx hg1) k y hy
      have hdr : ys.drop k = y :: ys.drop (k + 1) := by
        rw [List.drop_eq_getElem_cons hlt]
        rw [List.getElem?_eq_getElem hlt] at hy
        rw [Option.some.inj hy]
      have hp := HP.out
      rw [hdr, sp1] at hp
      have hlen : pre.length + y.tx.size + 1 ≤ 40001 := by
        have := congrArg List.length hp
        rw [List.length_append, List.length_append, List.length_append, size_list] at this
        omega
      have hHP := Lib.hid hp
      have hbs := hbx.size
      have HQ1 := Lib.hid (hrow k y hy).2.1
      clear hrow hy hdr hp HP
      have j1 : (k : Int) < (ys.length : Int) := by omega
      have j0 : (0 : Int) ≤ (k : Int) := by omega
      by_cases hk0 : k = 0
      · have hz4 : ¬ (0 : Int) < (k : Int) := by omega
        have HN : Hid ((pre ++ y.tx.data.toList) ++ sp1 (k + 1 == 0) (ys.drop (k + 1)) = X) := Lib.hid (by
          have := hHP.out
          rw [hk0] at this
          rw [hk0, List.append_assoc]
          exact this)
        clear hk0 hHP
        go_wp2_with (at_builtin; refine Lib.wpList_append_own_string _ rfl _ _ 43 9 rfl w2.heap.size 5 i0 Try.underlying43 Try.underlying9 hi hz0 hz1 hz2 _ _ _ rfl hown y.tx rfl (by unfold maxLen; omega) (by omega) hbs ?_; intro v' w3 hown' hgrow hn3; clear hn3; have hl := hown.lt; have hB5 := hbx.grown hgrow hbs (fun j e => (hl j e).1))
        go_roundg (ys.length - (k + 1))
        case rel =>
          refine ⟨k + 1, _, by omega, by go_num, rfl, HN, ?_, hB5⟩
          rw [List.length_append, bC_app, size_list]
          exact hown'
        case measure => omega
      · have hz4 : (0 : Int) < (k : Int) := by omega
        have hk1 : (k == 0) = false := by simpa using hk0
        by_cases h9 : y.k = 9
        · have h90 : ((y.k : Int) != 9) = false := by simp [h9]
          have h91 : ((y.k : Int) == 9) = true := by simp [h9]
          have HN : Hid ((pre ++ y.tx.data.toList) ++ sp1 (k + 1 == 0) (ys.drop (k + 1)) = X) := Lib.hid (by
            have := hHP.out
            rw [hk1, h9] at this
            rw [List.append_assoc]
            exact this)
          clear hk0 hHP hk1 h9
          go_wp2_with (at_builtin; refine Lib.wpList_append_own_string _ rfl _ _ 43 9 rfl w2.heap.size 5 i0 Try.underlying43 Try.underlying9 hi hz0 hz1 hz2 _ _ _ rfl hown y.tx rfl (by unfold maxLen; omega) (by omega) hbs ?_; intro v' w3 hown' hgrow hn3; clear hn3; have hl := hown.lt; have hB5 := hbx.grown hgrow hbs (fun j e => (hl j e).1))
          go_roundg (ys.length - (k + 1))
          case rel =>
            refine ⟨k + 1, _, by omega, by go_num, rfl, HN, ?_, hB5⟩
            rw [List.length_append, bC_app, size_list]
            exact hown'
          case measure => omega
        · have h90 : ((y.k : Int) != 9) = true := by simp; omega
          have h91 : ((y.k : Int) == 9) = false := by simp; omega
          have HN : Hid (((pre ++ [32]) ++ y.tx.data.toList) ++ sp1 (k + 1 == 0) (ys.drop (k + 1)) = X) := Lib.hid (by
            have := hHP.out
            have h92 : (y.k == 9) = false := by simpa using h9
            rw [hk1, h92] at this
            rw [List.append_assoc, List.append_assoc]
            exact this)
          have hq0 : ∀ v, (wr.alloc v).cell? ⟨g, k * 5, none⟩ = some (.int .i64 y.k) := fun v => (((below1 wr v).cell (p := ⟨g, k * 5, none⟩) (show g < wr.heap.size by omega))).trans q0
          have hq1 : ∀ v, (wr.alloc v).cell? ⟨g, k * 5 + 1, none⟩ = some (.string y.tx) := fun v => (((below1 wr v).cell (p := ⟨g, k * 5 + 1, none⟩) (show g < wr.heap.size by omega))).trans q1
          clear hk0 hHP hk1 h9
          go_wp2_with (at_builtin; first
            | (refine wpList_append_own _ rfl _ _ 43 rfl w2.heap.size 5 i0 (.int .u8 0) 1 1 Try.underlying43 hi hz0 hz1 hz2 rfl (by decide) _ _ _ rfl (hown.alloc _) ⟨wr.heap.size, 0, none⟩ 1 1 [.int .u8 32] rfl rfl (cell1_new _ _ _) (by simp [Value.oneCell']) (by unfold maxLen; omega) (by omega) (by simp; omega) ?_; intro v1 w3 hown1 hgrow1 hn1; clear hn1; have hl0 := hown.lt; have hB4 := (hbx.alloc hbs _).grown hgrow1 (by simp; omega) (fun j e => (hl0 j e).1); have hbs4 := hB4.size; have q4 := (hB4.cell (p := ⟨g, k * 5 + 1, none⟩) hg1).trans (HQ1.out))
            | (refine Lib.wpList_append_own_string _ rfl _ _ 43 9 rfl w2.heap.size 5 i0 Try.underlying43 Try.underlying9 hi hz0 hz1 hz2 _ _ _ rfl hown1 y.tx rfl (by unfold maxLen; omega) (by omega) hbs4 ?_; intro v' w4 hown' hgrow hn3; clear hn3; have hl := hown1.lt; have hB5 := hB4.grown hgrow hbs4 (fun j e => (hl j e).1)))
          go_roundg (ys.length - (k + 1))
          case rel =>
            refine ⟨k + 1, _, by omega, by go_num, rfl, HN, ?_, hB5⟩
            rw [List.length_append, List.length_append, bC_app, bC_app, size_list]
            exact hown'
          case measure => omega
    · obtain rfl : k = ys.length := by omega
      have hp := HP.out
      rw [List.drop_length, sp1, List.append_nil] at hp
      subst hp
      obtain ⟨a', cap', rfl⟩ := row_shape hown
      have hconv := conv_row rfl hown
      have j1 : ¬ (ys.length : Int) < (ys.length : Int) := by omega
      have hbw := hBB.trans (hbx.mono hBB.size)
      clear HP
      go_wp2_with fail
      refine (HSP _).mono ?_
      rintro e w3 ⟨rfl, hb3⟩
      go_wp2_with fail
      have hb4 := hbw.trans (hb3.mono hbw.size)
      refine (HC2 _ hb4).mono ?_
      rintro e w4 ⟨⟨a2, cap2, rfl, hrow2⟩, hb5⟩
      go_wp2
      have hbL : Below w.heap.size w w4 := hb4.trans (hb5.mono hb4.size)
      have HB := Lib.hid hbL
      have HR2 := Lib.hid (fun k (hk : k < ys.length) => hrow2 (by omega))
      have hbz := (hbx.trans (hb3.mono hbx.size)).trans (hb5.mono (hbx.trans (hb3.mono hbx.size)).size)
      clear hrow2 hb5 hb4 hbw hbx hown hconv HSP HC2 hbL
      go_loopw [12] (fun i wx => ∃ k : Nat, k ≤ ys.length ∧ i = .int .i64 k ∧ ∃ q, wx = w4.drewN q) (fun i _ => ys.length - (intOf i).toNat)
      case atStart => exact ⟨0, Nat.zero_le _, rfl, 0, rfl⟩
      case round =>
        obtain ⟨k, hk, rfl, q, rfl⟩ := hrel
        by_cases hlt : k < ys.length
        · obtain ⟨y, hy⟩ : ∃ y, ys[k]? = some y := ⟨_, List.getElem?_eq_getElem hlt⟩
          obtain ⟨y', hy'⟩ : ∃ y, zs[k]? = some y := ⟨_, List.getElem?_eq_getElem (by rw [HZ.out]; exact hlt)⟩
          obtain ⟨g, rfl, hg0, hg1, hrow⟩ := HR.out (by omega)
          obtain ⟨q0, q1, -⟩ := (hrow.below hbz hg1) k y hy
          obtain ⟨g2, rfl, hg2, hg3, hrow3⟩ := HR2.out k hlt
          obtain ⟨p0, p1, -⟩ := hrow3 k y' hy'
          obtain ⟨e1, e2⟩ := HY.out k y y' hy hy'
          rw [e1] at p0
          rw [e2] at p1
          clear hrow hrow3 hy hy' e1 e2 hg0 hg1 hg2 hg3
          have j2 : (k : Int) < (ys.length : Int) := by omega
          have j3 : (0 : Int) ≤ (k : Int) := by omega
          go_wp2
          go_big_quiet (fail)
          go_wp2
          refine ⟨⟨k + 1, by omega, by go_num, _, rfl⟩, ?_⟩
          simp [intOf]; omega
        · go_wp2
          go_ret
          exact ⟨rfl, below_drewN HB.out q⟩

theorem spaces_any (s : ByteArray) (w : World) (hs : s.size ≤ maxLen) (hL : LibVar w) :
    Calls Try.prog 8 #[.string s] w fun e w' => e = .returned (.bool true) ∧ Below w.heap.size w w' := by
  by_cases h : scanErr s = 0
  · by_cases hz : s.size ≤ 20000
    · exact space_ok s w hs hL h hz
    · exact space_long s w hs hL h (by omega)
  · exact space_bad s w hs hL h

end Go.Proofs.Ytoepfehgimhmnaa
