/- The reference's Check, Chars, Splices. -/
import Derived.Test.YtdkdoknajanfgaaBoth
namespace Go.Proofs.Ytdkdoknajanfgaa
open Go.RowKit

theorem third_not_ten {c : UInt8} (h : isThird c = true) : thirdOf c ≠ 10 ∧ c ≠ 10 := by
  rcases third_cases c with rfl | rfl | rfl | rfl | rfl | rfl | rfl | rfl | rfl | ⟨h1, h2⟩
  all_goals first | decide | skip
  simp [isThird, h2] at h

theorem last_byte {l : List UInt8} : ∀ (m k : Nat), l.length - k = m → k < l.length → ∀ p, (partsFrom l k).getLast? = some p → p.sp = false → (p.b = 10 ↔ l.getLast? = some 10) := by
  intro m
  induction m using Nat.strongRecOn with
  | ind m ih =>
    intro k hm hk p hp hsp
    have hpos := partN_pos (l.drop k)
    have hle := partN_le (drop_ne hk)
    rw [List.length_drop] at hle
    rw [partsFrom_cons hk] at hp
    by_cases h : k + partN (l.drop k) < l.length
    · refine ih (l.length - (k + partN (l.drop k))) (by omega) _ rfl h p ?_ hsp
      rw [partsFrom_cons h] at hp ⊢
      rw [List.getLast?_cons_cons] at hp
      exact hp
    · rw [partsFrom_end h] at hp
      simp only [List.getLast?_singleton, Option.some.injEq] at hp
      subst hp
      have hs : isSplice (l.drop k) = false := hsp
      rw [List.getLast?_eq_getElem?]
      rcases char_bytes hs (drop_ne hk) with ⟨hn, h0⟩ | ⟨hn, _, _, c, h2, ht, hb⟩
      · rw [List.getElem?_drop] at h0
        have : l.length - 1 = k + 0 := by omega
        rw [this, h0]
        simp [partAt]
      · rw [List.getElem?_drop] at h2
        have : l.length - 1 = k + 2 := by omega
        rw [this, h2]
        obtain ⟨n1, n2⟩ := third_not_ten ht
        rw [hb] at n1
        simp only [partAt, Option.some.injEq]
        exact ⟨fun h => absurd h n1, fun h => absurd h n2⟩

theorem last_at (s : ByteArray) (h : 0 < s.size) : s.data.toList.getLast? = some s[s.size - 1] := by
  rw [List.getLast?_eq_getElem?, size_list, data_get s _ (by omega)]

theorem check_nil {s : ByteArray} (h : s.size = 0) : checkN s.data.toList = 0 := by
  have : s.data.toList = [] := List.length_eq_zero_iff.1 (by rw [size_list]; exact h)
  rw [this]
  exact checkN_ok (by simp) wl_nil

theorem check_last {s : ByteArray} (h0 : 0 < s.size) (hle : s.size ≤ 65536) :
    checkN s.data.toList = if lastSp (parts s.data.toList) = true ∨ s[s.size - 1] ≠ 10 then 10 else 0 := by
  obtain ⟨p, hp, hw⟩ := last_wl (l := s.data.toList) _ 0 rfl (by rw [size_list]; exact h0)
  rw [List.drop_zero] at hw
  have hl : lastSp (parts s.data.toList) = p.sp := by unfold lastSp parts; rw [hp]
  have hb := last_byte (l := s.data.toList) _ 0 rfl (by rw [size_list]; exact h0) p hp
  rw [last_at s h0] at hb
  rw [hl]
  cases hsp : p.sp with
  | true =>
    rw [if_pos (.inl rfl)]
    refine check_ill (by omega) ?_
    rw [wellB_wl, ← hw, hsp]; rfl
  | false =>
    have hb := hb hsp
    rw [hsp] at hw
    by_cases ht : s[s.size - 1] = 10
    · rw [if_neg (by simp [ht])]
      refine check_well (by omega) ?_
      rw [wellB_wl, ← hw]
      have := hb.2 (by rw [ht])
      simp [this]
    · rw [if_pos (.inr ht)]
      refine check_ill (by omega) ?_
      rw [wellB_wl, ← hw]
      have : p.b ≠ 10 := fun h => ht (Option.some.inj (hb.1 h))
      simp [this]

theorem CharRow.lower {w : World} {base base' : Nat} {a : Option Addr} {cap : Nat} {ps : List Part} (h : CharRow w base a cap ps) (hb : base' ≤ base) : CharRow w base' a cap ps := by
  rcases h with h | ⟨g, cur, h1, h2, h3⟩
  · exact .inl h
  · exact .inr ⟨g, cur, h1, Nat.le_trans hb h2, h3⟩
theorem SpanRow.lower {w : World} {base base' : Nat} {a : Option Addr} {cap : Nat} {ps : List Part} (h : SpanRow w base a cap ps) (hb : base' ≤ base) : SpanRow w base' a cap ps := by
  rcases h with h | ⟨g, cur, h1, h2, h3⟩
  · exact .inl h
  · exact .inr ⟨g, cur, h1, Nat.le_trans hb h2, h3⟩

theorem both_at {s : ByteArray} {b : Bool} (h : lastSp (parts s.data.toList) = b) (hs : s.size ≤ 65536) (w : World) :
    Calls Try.prog 26 #[.string s] w fun e w' => (∃ v m, e = .returned (.tuple #[v, m, .bool b]) ∧ w'.ownsRow w.heap.size 42 3 v (chs (parts s.data.toList)).length (charCells (chs (parts s.data.toList))) ∧ w'.ownsRow w.heap.size 44 2 m (sps (parts s.data.toList)).length (spanCells (sps (parts s.data.toList)))) ∧ Below w.heap.size w w' := by
  have := both_any s w hs
  rw [h] at this
  exact this

set_option maxRecDepth 100000 in
set_option maxHeartbeats 1000000 in
theorem rcheck_any (s : ByteArray) (w : World) (hs : s.size ≤ maxLen) :
    Calls Try.prog 19 #[.string s] w fun e w' => e = .returned (.int .i64 (checkN s.data.toList)) ∧ Below w.heap.size w w' := by
  unfold maxLen at hs
  by_cases hl : 65536 < s.size
  · have H := Lib.hid (check_long hl)
    go_enter Try.func19, Try.ntmps19
    go_wp2
    go_ret
    exact ⟨ret_int H.out.symm, Below.refl _ _⟩
  · have hle : s.size ≤ 65536 := by omega
    by_cases h0 : s.size = 0
    · have H := Lib.hid (check_nil h0)
      have HB := Lib.hid (both_at (s := s) rfl hle)
      have hz : ¬ (0 : Int) < s.size := by omega
      clear h0
      go_enter Try.func19, Try.ntmps19
      go_wp2_with fail
      refine (HB.out _).mono ?_
      rintro e w1 ⟨⟨v, m, rfl, _, _⟩, hb1⟩
      go_wp2
      go_ret
      exact ⟨ret_int H.out.symm, hb1⟩
    · have hp : 0 < s.size := by omega
      have hp1 : (0 : Int) < s.size := by omega
      have h1 : 1 ≤ (s.size : Int) := by omega
      have h2 : (s.size : Int) - 1 < s.size := by omega
      have hc := check_last hp hle
      cases hsp : lastSp (parts s.data.toList) with
      | true =>
        rw [if_pos (.inl hsp)] at hc
        have H := Lib.hid hc
        have HB := Lib.hid (both_at hsp hle)
        clear hc hsp
        go_enter Try.func19, Try.ntmps19
        go_wp2_with fail
        refine (HB.out _).mono ?_
        rintro e w1 ⟨⟨v, m, rfl, _, _⟩, hb1⟩
        go_wp2
        go_ret
        exact ⟨ret_int H.out.symm, hb1⟩
      | false =>
        have HB := Lib.hid (both_at hsp hle)
        by_cases ht : s[s.size - 1] = 10
        · rw [if_neg (by simp [ht, hsp])] at hc
          have H := Lib.hid hc
          have h4 : ∀ h : s.size - 1 < s.size, ((s[s.size - 1].toNat : Int) != 10) = false := fun _ => by rw [ht]; rfl
          clear hc hsp ht
          go_enter Try.func19, Try.ntmps19
          go_wp2_with fail
          refine (HB.out _).mono ?_
          rintro e w1 ⟨⟨v, m, rfl, _, _⟩, hb1⟩
          go_wp2
          go_ret
          exact ⟨ret_int H.out.symm, hb1⟩
        · rw [if_pos (.inr ht)] at hc
          have H := Lib.hid hc
          have h4 : ∀ h : s.size - 1 < s.size, ((s[s.size - 1].toNat : Int) != 10) = true := fun _ => by
            simp only [bne_iff_ne, ne_eq]
            intro h6
            exact ht (UInt8.toNat_inj.1 (by simp; omega))
          clear hc hsp ht
          go_enter Try.func19, Try.ntmps19
          go_wp2_with fail
          refine (HB.out _).mono ?_
          rintro e w1 ⟨⟨v, m, rfl, _, _⟩, hb1⟩
          go_wp2
          go_ret
          exact ⟨ret_int H.out.symm, hb1⟩

theorem rcheck_at {s : ByteArray} {n : Int} (h : checkN s.data.toList = n) (hs : s.size ≤ maxLen) (w : World) :
    Calls Try.prog 19 #[.string s] w fun e w' => e = .returned (.int .i64 n) ∧ Below w.heap.size w w' := by
  have := rcheck_any s w hs
  rw [h] at this
  exact this

set_option maxRecDepth 100000 in
set_option maxHeartbeats 1000000 in
theorem rchars_any (s : ByteArray) (w : World) (hs : s.size ≤ maxLen) :
    Calls Try.prog 11 #[.string s] w fun e w' => (∃ a cap, e = .returned (.tuple #[.slice a (charsOf s.data.toList).length cap, .int .i64 (checkN s.data.toList)]) ∧ CharRow w' w.heap.size a cap (charsOf s.data.toList)) ∧ Below w.heap.size w w' := by
  rcases check_cases s.data.toList with ⟨h, hl⟩ | h | h
  · rw [charsOf_ok h, h]
    have HC := Lib.hid (rcheck_at h hs)
    have HB := Lib.hid (both_any s · hl)
    clear h
    go_enter Try.func11, Try.ntmps11
    go_wp2_with fail
    refine (HC.out _).mono ?_
    rintro e w1 ⟨rfl, hb1⟩
    go_wp2_with fail
    refine (HB.out _).mono ?_
    rintro e w2 ⟨⟨v, m, rfl, hv, _⟩, hb2⟩
    go_wp2
    go_ret2
    obtain ⟨a, cap, rfl, hr⟩ := charRow_of hv
    exact ⟨⟨a, cap, rfl, hr.lower hb1.size⟩, hb1.trans (hb2.mono hb1.size)⟩
  all_goals
    rw [charsOf_bad (by rw [h]; decide), h]
    have HC := Lib.hid (rcheck_at h hs)
    clear h
    go_enter Try.func11, Try.ntmps11
    go_wp2_with fail
    refine (HC.out _).mono ?_
    rintro e w1 ⟨rfl, hb1⟩
    go_wp2
    go_ret2
    exact ⟨⟨none, 0, rfl, .inl ⟨rfl, rfl, rfl⟩⟩, hb1⟩

set_option maxRecDepth 100000 in
set_option maxHeartbeats 1000000 in
theorem rsplices_any (s : ByteArray) (w : World) (hs : s.size ≤ maxLen) :
    Calls Try.prog 15 #[.string s] w fun e w' => (∃ a cap, e = .returned (.tuple #[.slice a (splicesOf s.data.toList).length cap, .int .i64 (checkN s.data.toList)]) ∧ SpanRow w' w.heap.size a cap (splicesOf s.data.toList)) ∧ Below w.heap.size w w' := by
  rcases check_cases s.data.toList with ⟨h, hl⟩ | h | h
  · rw [splicesOf_ok h, h]
    have HC := Lib.hid (rcheck_at h hs)
    have HB := Lib.hid (both_any s · hl)
    clear h
    go_enter Try.func15, Try.ntmps15
    go_wp2_with fail
    refine (HC.out _).mono ?_
    rintro e w1 ⟨rfl, hb1⟩
    go_wp2_with fail
    refine (HB.out _).mono ?_
    rintro e w2 ⟨⟨v, m, rfl, _, hm⟩, hb2⟩
    go_wp2
    go_ret2
    obtain ⟨a, cap, rfl, hr⟩ := spanRow_of hm
    exact ⟨⟨a, cap, rfl, hr.lower hb1.size⟩, hb1.trans (hb2.mono hb1.size)⟩
  all_goals
    rw [splicesOf_bad (by rw [h]; decide), h]
    have HC := Lib.hid (rcheck_at h hs)
    clear h
    go_enter Try.func15, Try.ntmps15
    go_wp2_with fail
    refine (HC.out _).mono ?_
    rintro e w1 ⟨rfl, hb1⟩
    go_wp2
    go_ret2
    exact ⟨⟨none, 0, rfl, .inl ⟨rfl, rfl, rfl⟩⟩, hb1⟩

end Go.Proofs.Ytdkdoknajanfgaa
