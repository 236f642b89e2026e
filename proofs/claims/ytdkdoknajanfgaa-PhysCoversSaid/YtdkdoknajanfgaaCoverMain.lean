/- The law PhysCovers: its two loops. -/
import Derived.Test.YtdkdoknajanfgaaCover
import Derived.Test.YtdkdoknajanfgaaElems
import Derived.BigQuiet
import Derived.Deep.QuietTactic
namespace Go.Proofs.Ytdkdoknajanfgaa
open Go.RowKit

theorem cover_below_drewN {B : Nat} {a w : World} (h : Below B a w) (n : Nat) : Below B a (w.drewN n) := ⟨h.os, h.tape, h.output, h.size, h.block⟩
theorem cover_chars (s : ByteArray) (hs : s.size ≤ maxLen) (h : checkN s.data.toList = 0) (l : List Part) (hl : chs (parts s.data.toList) = l) (w : World) :
    Calls Try.prog 10 #[.string s] w fun e w' => (∃ a cap, e = .returned (.tuple #[.slice a l.length cap, .int .i64 0]) ∧ CharRow w' w.heap.size a cap l) ∧ Below w.heap.size w w' := by
  have := chars_row s w hs
  rw [charsOf_ok h, h, hl] at this
  exact this
theorem cover_splices (s : ByteArray) (hs : s.size ≤ maxLen) (h : checkN s.data.toList = 0) (l : List Part) (hl : sps (parts s.data.toList) = l) (w : World) :
    Calls Try.prog 14 #[.string s] w fun e w' => (∃ a cap, e = .returned (.tuple #[.slice a l.length cap, .int .i64 0]) ∧ SpanRow w' w.heap.size a cap l) ∧ Below w.heap.size w w' := by
  have := splices_row s w hs
  rw [splicesOf_ok h, h, hl] at this
  exact this
theorem third_at {t b : UInt8} (h : isThird t = true) (hb : thirdOf t = b) (w : World) :
    Calls Try.prog 22 #[.int .u8 t.toNat] w fun e w' => e = .returned (.tuple #[.int .u8 b.toNat, .bool true]) ∧ w = w' := by
  have := third_any t w
  rw [h, hb] at this
  exact this
theorem cover_len {l : List UInt8} (h : checkN l = 0) : l.length ≤ 65536 ∧ (chs (parts l)).length ≤ 65536 ∧ (sps (parts l)).length ≤ 65536 := by
  obtain ⟨h1, _⟩ := checkN_zero h
  have h2 := chs_length (parts l)
  have h3 : (sps (parts l)).length ≤ (parts l).length := List.length_filter_le _ _
  have h4 := partsFrom_length (l := l) _ 0 rfl
  unfold parts at *
  omega

set_option maxRecDepth 100000 in
set_option maxHeartbeats 4000000 in
theorem covers_main (a0 : ByteArray) (w0 : a0.size ≤ maxLen) (h : checkN a0.data.toList = 0) (w : World) :
    Calls Try.prog 7 #[.string a0] w fun e w' => e = .returned (.bool true) ∧ Below w.heap.size w w' := by
  obtain ⟨hz, hz1, hz2⟩ := cover_len h
  rw [size_list] at hz
  obtain ⟨cs, hcs⟩ : ∃ cs, chs (parts a0.data.toList) = cs := ⟨_, rfl⟩
  obtain ⟨ss, hss⟩ : ∃ ss, sps (parts a0.data.toList) = ss := ⟨_, rfl⟩
  rw [hcs] at hz1
  rw [hss] at hz2
  have HC := Lib.hid (cover_chars a0 w0 h cs hcs)
  have HS := Lib.hid (cover_splices a0 w0 h ss hss)
  have hcov0 := Cov.start hcs hss
  clear h hcs hss w0
  go_enter Try.func7, Try.ntmps7
  go_wp2_with fail
  refine (alive_any _).mono ?_
  rintro e w1 ⟨rfl, hb1⟩
  go_wp2_with fail
  refine (HC.out _).mono ?_
  rintro e w2 ⟨⟨a2, cap2, rfl, hr2⟩, hb2⟩
  go_wp2_with fail
  refine (HS.out _).mono ?_
  rintro e w3 ⟨⟨a3, cap3, rfl, hr3⟩, hb3⟩
  have m1 := hb1.size
  have m2 := hb2.size
  have m3 := hb3.size
  have hB := (hb1.trans (hb2.mono m1)).trans (hb3.mono (by omega))
  have hr2' := hr2.below hb3 (Nat.le_refl _)
  clear hr2
  go_wp2
  go_loopw [8, 9, 10] (fun at' k i wr => ∃ pos kk ii : Nat, at' = .int .i64 pos ∧ k = .int .i64 kk ∧ i = .int .i64 ii ∧ Cov a0.data.toList cs ss pos ii kk ∧ ii ≤ cs.length ∧ kk ≤ ss.length ∧ Below w3.heap.size w3 wr) (fun _ _ i _ => cs.length + 1 - (intOf i).toNat)
  case atStart => exact ⟨0, 0, 0, rfl, rfl, rfl, hcov0, Nat.zero_le _, Nat.zero_le _, Below.refl _ _⟩
  case round =>
    obtain ⟨pos0, kk0, ii, rfl, rfl, rfl, hcovA, hii0, hkk0, hBA⟩ := hrel
    clear hcov0
    go_wp2
    go_loopw [8, 9] (fun at' k wr2 => ∃ pos kk : Nat, at' = .int .i64 pos ∧ k = .int .i64 kk ∧ Cov a0.data.toList cs ss pos ii kk ∧ kk ≤ ss.length ∧ Below w3.heap.size w3 wr2) (fun _ k _ => ss.length - (intOf k).toNat)
    case atStart => exact ⟨pos0, kk0, rfl, rfl, hcovA, hkk0, hBA⟩
    case round =>
      obtain ⟨pos, kk, rfl, rfl, hcov, hkk, hB2⟩ := hrel
      clear hcovA hkk0 hBA
      by_cases hsp : pos < a0.size ∧ isSplice (a0.data.toList.drop pos) = true
      · obtain ⟨hpos, hs⟩ := hsp
        obtain ⟨hq, hcov2⟩ := hcov.splice hpos hs
        have hlt := (List.getElem?_eq_some_iff.1 hq).1
        obtain ⟨g3, rfl, _, hg3, hcap3, hcm3, q0, q1⟩ := (hr3.below hB2 (Nat.le_refl _)).cells hq
        obtain ⟨hn, hy⟩ := splice_bytes hs
        have hle := hcov2.le
        rw [size_list] at hle
        have q0' : wr.cell? ⟨g3, kk * 2, none⟩ = some (.int .i64 pos) := q0
        have i0 : (kk : Int) < (ss.length : Nat) := by omega
        have i1 : decide (kk < ss.length) = true := decide_eq_true hlt
        rcases hn with hn | hn
        · have q1' : wr.cell? ⟨g3, kk * 2 + 1, none⟩ = some (.int .i64 ((pos : Int) + 2)) := q1.trans (by show some (Value.int .i64 ((pos : Int) + (partN (a0.data.toList.drop pos) : Nat))) = _; rw [hn]; rfl)
          rw [hn] at hcov2 hle hy
          have hx := (byte_at (j := 1) hy).2
          have hx1 : ∀ hh : pos + 1 < a0.size, ((a0[pos + 1].toNat : Int) != 10) = false := fun hh => by rw [hx hh]; rfl
          have hl1 : (pos : Int) + 2 ≤ a0.size := by omega
          have e1 : (pos : Int) + 2 - pos = 2 := by omega
          have e2 : (pos : Int) + 2 - 1 = pos + 1 := by omega
          clear q0 q1 hq hn hy hx
          go_wp2
          go_big_quiet (fail)
          go_wp2
          go_roundw
          case rel => exact ⟨pos + 2, kk + 1, by go_num, by go_num, hcov2, by omega, below_drewN hB2 _⟩
          case measure => simp [intOf]; omega
        · have q1' : wr.cell? ⟨g3, kk * 2 + 1, none⟩ = some (.int .i64 ((pos : Int) + 4)) := q1.trans (by show some (Value.int .i64 ((pos : Int) + (partN (a0.data.toList.drop pos) : Nat))) = _; rw [hn]; rfl)
          rw [hn] at hcov2 hle hy
          have hx := (byte_at (j := 3) hy).2
          have hx1 : ∀ hh : pos + 3 < a0.size, ((a0[pos + 3].toNat : Int) != 10) = false := fun hh => by rw [hx hh]; rfl
          have hl1 : (pos : Int) + 4 ≤ a0.size := by omega
          have e1 : (pos : Int) + 4 - pos = 4 := by omega
          have e2 : (pos : Int) + 4 - 1 = pos + 3 := by omega
          clear q0 q1 hq hn hy hx
          go_wp2
          go_big_quiet (fail)
          go_wp2
          go_roundw
          case rel => exact ⟨pos + 4, kk + 1, by go_num, by go_num, hcov2, by omega, below_drewN hB2 _⟩
          case measure => simp [intOf]; omega
      · have hend : pos < a0.size → isSplice (a0.data.toList.drop pos) = false := fun hp => by
          cases hc : isSplice (a0.data.toList.drop pos) with
          | false => rfl
          | true => exact absurd ⟨hp, hc⟩ hsp
        by_cases hk : kk < ss.length
        · obtain ⟨q, hq⟩ : ∃ q, ss[kk]? = some q := ⟨_, List.getElem?_eq_getElem hk⟩
          have hgt : pos < q.at' := by
            rcases Nat.lt_or_ge pos a0.size with h | h
            · exact hcov.later h (hend h) hq
            · have : pos = a0.data.toList.length := by have := hcov.le; rw [size_list] at *; omega
              subst this
              have := hcov.done.2; omega
          obtain ⟨g3, rfl, _, hg3, hcap3, hcm3, q0, q1⟩ := (hr3.below hB2 (Nat.le_refl _)).cells hq
          have j0 : (kk : Int) < (ss.length : Nat) := by omega
          have j1 : decide (kk < ss.length) = true := decide_eq_true hk
          have j2 : ((q.at' : Int) == (pos : Int)) = false := by simp; omega
          clear q1 hq hsp
          by_cases hii : ii < cs.length
          · have hpos : pos < a0.size := by
              rcases Nat.lt_or_ge pos a0.size with h | h
              · exact h
              · have : pos = a0.data.toList.length := by have := hcov.le; rw [size_list] at *; omega
                subst this
                have := hcov.done.1; omega
            have hns := hend hpos
            obtain ⟨hc1, hcov2⟩ := hcov.char hpos hns
            obtain ⟨g2, rfl, _, hg2, hcap2, hcm2, c0, c1, c2⟩ := (hr2'.below hB2 (Nat.le_refl _)).cells hc1
            have hle := hcov2.le
            rw [size_list] at hle
            obtain ⟨b, hb⟩ : ∃ b, partB (a0.data.toList.drop pos) = b := ⟨_, rfl⟩
            have c1' : wr.cell? ⟨g2, ii * 3 + 1, none⟩ = some (.int .i64 pos) := c1
            have c0' : wr.cell? ⟨g2, ii * 3, none⟩ = some (.int .u8 b.toNat) := by rw [← hb]; exact c0
            have i0 : (ii : Int) < (cs.length : Nat) := by omega
            have ie : ((ii : Int) == (cs.length : Nat)) = false := by simp; omega
            rcases char_bytes hns (drop_ne hpos) with ⟨hn, hb0⟩ | ⟨hn, hb0, hb1, t, hb2, ht, htb⟩
            · have c2' : wr.cell? ⟨g2, ii * 3 + 2, none⟩ = some (.int .i64 1) := c2.trans (by show some (Value.int .i64 (partN (a0.data.toList.drop pos) : Nat)) = _; rw [hn]; rfl)
              rw [hn] at hcov2 hle
              rw [hb] at hb0
              have hx := byte_at hb0
              have hx1 : ∀ hh : pos < a0.size, a0[pos] = b := fun hh => by have := hx.2 (by omega); simpa using this
              have hx2 : ∀ hh : pos < a0.size, ((b.toNat : Int) != (a0[pos].toNat : Int)) = false := fun hh => by rw [hx1 hh]; simp
              have hl1 : ¬ (a0.size : Int) < (pos : Int) + 1 := by omega
              have hl2 : (pos : Int) + 1 ≤ a0.size := by omega
              clear c0 c1 c2 hc1 hns hb hb0 hx
              go_wp2
              go_roundw
              case rel => exact ⟨pos + 1, kk, ii + 1, by go_num, rfl, by go_num, hcov2, by omega, hkk, hB2⟩
              case measure => simp [intOf]; omega
            · have c2' : wr.cell? ⟨g2, ii * 3 + 2, none⟩ = some (.int .i64 3) := c2.trans (by show some (Value.int .i64 (partN (a0.data.toList.drop pos) : Nat)) = _; rw [hn]; rfl)
              rw [hn] at hcov2 hle
              rw [hb] at htb
              have x0 := byte_at hb0
              have x1 := byte_at hb1
              have x2 := byte_at hb2
              have hext := two_at (by omega) x0.2 x1.2
              have hx2 : ∀ hh : pos + 2 < a0.size, a0[pos + 2] = t := x2.2
              have hlt2 : pos + 2 < a0.size := by omega
              have hl1 : ¬ (a0.size : Int) < (pos : Int) + 3 := by omega
              have hl2 : (pos : Int) + 3 ≤ a0.size := by omega
              have hl3 : (pos : Int) + 2 < a0.size := by omega
              have hT := Lib.hid (third_at ht htb)
              clear c0 c1 c2 hc1 hns hb hb0 hb1 hb2 x0 x1 x2 ht htb
              go_wp2_with (go_at_call 22; refine (hT.out _).mono ?_; rintro e wz ⟨rfl, rfl⟩)
              go_roundw
              case rel => exact ⟨pos + 3, kk, ii + 1, by go_num, rfl, by go_num, hcov2, by omega, hkk, hB2⟩
              case measure => simp [intOf]; omega
          · obtain rfl : ii = cs.length := by omega
            have hpe : pos = a0.size := by
              rcases Nat.lt_or_ge pos a0.size with h | h
              · have := (List.getElem?_eq_some_iff.1 (hcov.char h (hend h)).1).1; omega
              · have := hcov.le; rw [size_list] at this; omega
            subst hpe
            have hk2 : kk = ss.length := by have := hcov.done.2; omega
            omega
        · have j1 : decide (kk < ss.length) = false := decide_eq_false hk
          clear hsp
          by_cases hii : ii < cs.length
          · have hpos : pos < a0.size := by
              rcases Nat.lt_or_ge pos a0.size with h | h
              · exact h
              · have : pos = a0.data.toList.length := by have := hcov.le; rw [size_list] at *; omega
                subst this
                have := hcov.done.1; omega
            have hns := hend hpos
            obtain ⟨hc1, hcov2⟩ := hcov.char hpos hns
            obtain ⟨g2, rfl, _, hg2, hcap2, hcm2, c0, c1, c2⟩ := (hr2'.below hB2 (Nat.le_refl _)).cells hc1
            have hle := hcov2.le
            rw [size_list] at hle
            obtain ⟨b, hb⟩ : ∃ b, partB (a0.data.toList.drop pos) = b := ⟨_, rfl⟩
            have c1' : wr.cell? ⟨g2, ii * 3 + 1, none⟩ = some (.int .i64 pos) := c1
            have c0' : wr.cell? ⟨g2, ii * 3, none⟩ = some (.int .u8 b.toNat) := by rw [← hb]; exact c0
            have i0 : (ii : Int) < (cs.length : Nat) := by omega
            have ie : ((ii : Int) == (cs.length : Nat)) = false := by simp; omega
            rcases char_bytes hns (drop_ne hpos) with ⟨hn, hb0⟩ | ⟨hn, hb0, hb1, t, hb2, ht, htb⟩
            · have c2' : wr.cell? ⟨g2, ii * 3 + 2, none⟩ = some (.int .i64 1) := c2.trans (by show some (Value.int .i64 (partN (a0.data.toList.drop pos) : Nat)) = _; rw [hn]; rfl)
              rw [hn] at hcov2 hle
              rw [hb] at hb0
              have hx := byte_at hb0
              have hx1 : ∀ hh : pos < a0.size, a0[pos] = b := fun hh => by have := hx.2 (by omega); simpa using this
              have hx2 : ∀ hh : pos < a0.size, ((b.toNat : Int) != (a0[pos].toNat : Int)) = false := fun hh => by rw [hx1 hh]; simp
              have hl1 : ¬ (a0.size : Int) < (pos : Int) + 1 := by omega
              have hl2 : (pos : Int) + 1 ≤ a0.size := by omega
              clear c0 c1 c2 hc1 hns hb hb0 hx
              go_wp2
              go_roundw
              case rel => exact ⟨pos + 1, kk, ii + 1, by go_num, rfl, by go_num, hcov2, by omega, hkk, hB2⟩
              case measure => simp [intOf]; omega
            · have c2' : wr.cell? ⟨g2, ii * 3 + 2, none⟩ = some (.int .i64 3) := c2.trans (by show some (Value.int .i64 (partN (a0.data.toList.drop pos) : Nat)) = _; rw [hn]; rfl)
              rw [hn] at hcov2 hle
              rw [hb] at htb
              have x0 := byte_at hb0
              have x1 := byte_at hb1
              have x2 := byte_at hb2
              have hext := two_at (by omega) x0.2 x1.2
              have hx2 : ∀ hh : pos + 2 < a0.size, a0[pos + 2] = t := x2.2
              have hlt2 : pos + 2 < a0.size := by omega
              have hl1 : ¬ (a0.size : Int) < (pos : Int) + 3 := by omega
              have hl2 : (pos : Int) + 3 ≤ a0.size := by omega
              have hl3 : (pos : Int) + 2 < a0.size := by omega
              have hT := Lib.hid (third_at ht htb)
              clear c0 c1 c2 hc1 hns hb hb0 hb1 hb2 x0 x1 x2 ht htb
              go_wp2_with (go_at_call 22; refine (hT.out _).mono ?_; rintro e wz ⟨rfl, rfl⟩)
              go_roundw
              case rel => exact ⟨pos + 3, kk, ii + 1, by go_num, rfl, by go_num, hcov2, by omega, hkk, hB2⟩
              case measure => simp [intOf]; omega
          · obtain rfl : ii = cs.length := by omega
            have hpe : pos = a0.size := by
              rcases Nat.lt_or_ge pos a0.size with h | h
              · have := (List.getElem?_eq_some_iff.1 (hcov.char h (hend h)).1).1; omega
              · have := hcov.le; rw [size_list] at this; omega
            subst hpe
            have hk2 : kk = ss.length := by have := hcov.done.2; omega
            subst hk2
            go_wp2
            go_ret
            exact ⟨rfl, hB.trans (hB2.mono (by omega))⟩

end Go.Proofs.Ytdkdoknajanfgaa
