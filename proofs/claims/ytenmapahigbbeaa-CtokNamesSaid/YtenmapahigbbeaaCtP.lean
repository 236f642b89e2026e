/- ctok's quotes; the iterator over elements. -/
import Derived.Test.YtenmapahigbbeaaCtO
import Derived.Test.YtenmapahigbbeaaCtQ
import Derived.Test.YtenmapahigbbeaaCtD
namespace Go.Proofs.Ytenmapahigbbeaa
open Go.RowKit Go.Shelf

attribute [local go_sem] Oper.semAt_some

theorem topC_tests (p : ByteArray) : topC p.data.toList = if (p.toList == [117]) = true then 65535 else if (p.toList == [85]) = true then 4294967295 else if (p.toList == [76]) = true then 4294967295 else 255 := by
  rw [ByteArray.toList_eq]
  unfold topC
  simp only [beq_iff_eq]
  by_cases h1 : p.data.toList = [117]
  · rw [if_pos h1, if_pos h1]
  · rw [if_neg h1, if_neg h1]
    by_cases h2 : p.data.toList = [85]
    · rw [if_pos (.inl h2), if_pos h2]
    · rw [if_neg h2]
      by_cases h3 : p.data.toList = [76]
      · rw [if_pos (.inr h3), if_pos h3]
      · rw [if_neg (fun h => h.elim h2 h3), if_neg h3]
theorem ru64 {a b : Int} (h : a = b) : Ending.returned (.int .u64 a) = .returned (.int .u64 b) := by rw [h]
theorem two_cut {p : Bool} {q : Prop} (h : p = true) (h2 : p = false) : q := absurd (h.symm.trans h2) (by decide)

set_option maxHeartbeats 1000000 in
theorem greatest_any (p : ByteArray) (w : World) : Calls Try.prog 48 #[.string p] w fun e w' => e = .returned (.int .u64 (topC p.data.toList : Nat)) ∧ w = w' := by
  have HT := Lib.hid (topC_tests p)
  generalize topC p.data.toList = T at *
  cases h1 : (p.toList == [117]) with
  | true =>
    have HO := Lib.hid (HT.out.trans (if_pos h1))
    clear HT
    go_enter Try.func48, Try.ntmps48
    go_wp2
    go_ret
    exact ⟨ru64 (by rw [HO.out]; rfl), rfl⟩
  | false =>
    cases h2 : (p.toList == [85]) with
    | true =>
      have HO := Lib.hid (HT.out.trans ((if_neg (by rw [h1]; decide)).trans (if_pos h2)))
      clear HT
      go_enter Try.func48, Try.ntmps48
      go_wp2
      go_ret
      exact ⟨ru64 (by rw [HO.out]; rfl), rfl⟩
    | false =>
      cases h3 : (p.toList == [76]) with
      | true =>
        have HO := Lib.hid (HT.out.trans ((if_neg (by rw [h1]; decide)).trans ((if_neg (by rw [h2]; decide)).trans (if_pos h3))))
        clear HT
        go_enter Try.func48, Try.ntmps48
        go_wp2
        go_ret
        exact ⟨ru64 (by rw [HO.out]; rfl), rfl⟩
      | false =>
        have HO := Lib.hid (HT.out.trans ((if_neg (by rw [h1]; decide)).trans ((if_neg (by rw [h2]; decide)).trans (if_neg (by rw [h3]; decide)))))
        clear HT
        go_enter Try.func48, Try.ntmps48
        go_wp2
        go_ret
        exact ⟨ru64 (by rw [HO.out]; rfl), rfl⟩

/-! ### Quotes -/
theorem index_pre {q : UInt8} {r : List UInt8} : ∀ (p : List UInt8), (∀ c ∈ p, c ≠ q) → Lib.indexByte (p ++ q :: r) q = p.length
  | [], _ => by simp [Lib.indexByte]
  | c :: p, h => by
    have h1 : (c == q) = false := by simpa using h c List.mem_cons_self
    have h2 := index_pre (q := q) (r := r) p (fun x hx => h x (List.mem_cons_of_mem _ hx))
    rw [List.cons_append, Lib.indexByte, h1, if_neg (by decide), h2, if_neg (by simp <;> omega)]
    simp
/-- A literal, laid apart. -/
theorem lit_cut {s : ByteArray} {p t : List UInt8} {q : UInt8} (h : s.data.toList = p ++ q :: (t ++ [q])) (hp : p.all noQ = true) (hq : noQ q = false) :
    ∃ (n : Nat) (hn : s.size - 1 < s.size), n + 2 ≤ s.size ∧ n = (preC s.data.toList).length ∧ Lib.indexByte s.data.toList (s[s.size - 1]) = n ∧ (s.extract 0 n).data.toList = preC s.data.toList ∧ (s.extract (n + 1) (s.size - 1)).data.toList = bodyC s.data.toList := by
  have hsz : s.size = p.length + t.length + 2 := by rw [← size_list, h]; simp; omega
  have hl : s[s.size - 1]'(by omega) = q := by
    have h1 := data_get s (s.size - 1) (by omega)
    rw [h] at h1
    have e : p ++ q :: (t ++ [q]) = (p ++ q :: t) ++ [q] := by simp
    rw [e, List.getElem?_append_right (by simp <;> omega), show s.size - 1 - (p ++ q :: t).length = 0 by simp <;> omega] at h1
    simpa using h1.symm
  refine ⟨p.length, by omega, by omega, ?_, ?_, ?_, ?_⟩
  · rw [h, pre_of hp hq]
  · rw [hl, h]
    refine index_pre p (fun c hc e => ?_)
    have := List.all_eq_true.1 hp c hc
    rw [e, hq] at this
    cases this
  · rw [take_ex, h, pre_of hp hq, List.take_left]
  · rw [extract_list, h, body_of hp hq, hsz, show p.length + t.length + 2 - 1 = (p ++ q :: t).length by simp <;> omega]
    have e : p ++ q :: (t ++ [q]) = (p ++ q :: t) ++ [q] := by simp
    rw [e, List.take_left, List.drop_append, List.drop_eq_nil_of_le (by omega), show p.length + 1 - p.length = 1 by omega]
    rfl
theorem lit_parts {s : ByteArray} {k : Nat} (hk : k = 3 ∨ k = 4) (h : oneOf s = (k, true)) :
    ∃ (n : Nat) (hn : s.size - 1 < s.size), n + 2 ≤ s.size ∧ n = (preC s.data.toList).length ∧ Lib.indexByte s.data.toList (s[s.size - 1]) = n ∧ (s.extract 0 n).data.toList = preC s.data.toList ∧ (s.extract (n + 1) (s.size - 1)).data.toList = bodyC s.data.toList := by
  rcases hk with rfl | rfl
  · obtain ⟨p, t, hp, h1, _⟩ := char_text h
    exact lit_cut h1 (chPre_noQ p hp) rfl
  · obtain ⟨p, t, hp, h1⟩ := str_text h
    exact lit_cut h1 (stPre_noQ p hp) rfl

set_option maxRecDepth 100000 in
set_option maxHeartbeats 2000000 in
theorem cutQuotes_no (s : ByteArray) (k : Nat) (w : World) (hs : s.size ≤ 200000) (hL : LibVar w) (h : oneOf s ≠ (k, true)) :
    Calls Try.prog 46 #[.int .i64 k, .string s] w fun e w' => e = .returned (.tuple #[.string ⟨#[]⟩, .string ⟨#[]⟩, .bool false]) ∧ Below w.heap.size w w' := by
  have C := fun w' (hb : Below w.heap.size w w') => one_any s w' hs (libVar_below hb hL)
  obtain ⟨O, hO⟩ : ∃ O, oneOf s = O := ⟨_, rfl⟩
  rw [hO] at h
  simp only [hO] at C
  clear hO
  obtain ⟨n, b⟩ := O
  simp only at C
  cases b with
  | false =>
    clear h
    go_enter Try.func46, Try.ntmps46
    go_wp2_with (go_at_call 60; refine (C _ (Below.refl _ _)).mono ?_; rintro e w1 ⟨rfl, hb1⟩)
    go_ret3
    exact ⟨rfl, hb1⟩
  | true =>
    have hn : ((n : Int) != (k : Int)) = true := by
      rw [bne_iff_ne]
      intro e
      have e2 : n = k := by omega
      exact h (by rw [e2])
    clear h
    go_enter Try.func46, Try.ntmps46
    go_wp2_with (go_at_call 60; refine (C _ (Below.refl _ _)).mono ?_; rintro e w1 ⟨rfl, hb1⟩)
    go_ret3
    exact ⟨rfl, hb1⟩

theorem rss {a b c d : ByteArray} {x : Bool} (h : a = b) (h2 : c = d) : Ending.returned (.tuple #[.string a, .string c, .bool x]) = .returned (.tuple #[.string b, .string d, .bool x]) := by rw [h, h2]

set_option maxRecDepth 100000 in
set_option maxHeartbeats 2000000 in
theorem cutQuotes_yes (s : ByteArray) (k : Nat) (w : World) (hs : s.size ≤ 200000) (hL : LibVar w) (hk : k = 3 ∨ k = 4) (h : oneOf s = (k, true)) :
    Calls Try.prog 46 #[.int .i64 k, .string s] w fun e w' => (∃ p b : ByteArray, e = .returned (.tuple #[.string p, .string b, .bool true]) ∧ p.data.toList = preC s.data.toList ∧ b.data.toList = bodyC s.data.toList ∧ b.size ≤ s.size) ∧ Below w.heap.size w w' := by
  have C := fun w' (hb : Below w.heap.size w w') => one_any s w' hs (libVar_below hb hL)
  simp only [h] at C
  obtain ⟨n, hn, hn2, -, hx, hpl, hbl⟩ := lit_parts hk h
  have CI : ∀ w, Calls Try.prog 53 #[.string s, .int .u8 (s[s.size - 1].toNat : Nat)] w fun e w' => e = .returned (.int .i64 n) ∧ w = w' := fun w => by
    refine (Try.strings_IndexByte s _ w).mono ?_
    rintro e w' ⟨rfl, rfl⟩
    rw [toNat_u8, hx]
    exact ⟨rfl, rfl⟩
  have HP := Lib.hid hpl
  have HB := Lib.hid hbl
  clear hpl hbl hx hk h
  have v1 : wrap64 ((s.size : Int) - 1) = (s.size : Int) - 1 := IntWalk.wrap64_in _ (by omega)
  have v2 : ((s.size : Int) - 1).toNat = s.size - 1 := by omega
  have v3 : ((n : Int) + 1).toNat = n + 1 := by omega
  have i1 : (0 : Int) ≤ (s.size : Int) - 1 := by omega
  have i2 : (s.size : Int) - 1 < (s.size : Int) := by omega
  have i3 : (n : Int) ≤ (s.size : Int) := by omega
  have i4 : (n : Int) + 1 ≤ (s.size : Int) - 1 := by omega
  have i5 : (s.size : Int) - 1 ≤ (s.size : Int) := by omega
  have i6 : (0 : Int) ≤ (n : Int) + 1 := by omega
  have i7 : (1 : Int) ≤ (s.size : Int) := by omega
  have i8 : ((k : Int) != (k : Int)) = false := by simp
  go_enter Try.func46, Try.ntmps46
  go_wp2_with (first | (go_at_call 60; refine (C _ (Below.refl _ _)).mono ?_; rintro e w1 ⟨rfl, hb1⟩) | (go_at_call 53; refine (CI _).mono ?_; rintro e w2 ⟨rfl, rfl⟩))
  go_big_quiet (fail)
  go_wp2
  go_ret3
  exact ⟨⟨_, _, rss rfl rfl, HP.out, HB.out, by rw [ByteArray.size_extract]; omega⟩, below_drewN hb1 _⟩

end Go.Proofs.Ytenmapahigbbeaa
