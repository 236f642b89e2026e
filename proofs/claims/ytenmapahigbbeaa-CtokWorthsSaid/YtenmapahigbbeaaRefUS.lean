/- The document's answer: One, Fuses; the law ScanOnes. -/
import Derived.Test.YtenmapahigbbeaaRefT
import Derived.Test.YtenmapahigbbeaaOneS
namespace Go.Proofs.Ytenmapahigbbeaa
open Go.RowKit

/-- A token that ends with the text is the last one, and there is no error. -/
theorem toks_last {L : List UInt8} : ∀ (i e st : Nat) (t : Tk), e ≤ L.length → (toks L e st).1[i]? = some t → t.e = L.length → (toks L e st).1.length = i + 1 ∧ (toks L e st).2 = 0 := by
  intro i
  induction i with
  | zero =>
    intro e st t he h ht
    by_cases h1 : L.length ≤ atOf L e
    · rw [toks_end he h1] at h; simp at h
    · by_cases h2 : (nextAt L e st).2.2 = 0
      · rw [toks_cons (by omega) h2] at h ⊢
        simp only [List.getElem?_cons_zero, Option.some.injEq] at h
        have h3 : toks L (tokAt L e st).e (stAt L e st) = ([], 0) := toks_end (by rw [h, ht]; exact Nat.le_refl _) (by rw [h, ht]; exact atOf_ge _ _)
        rw [h3]; exact ⟨rfl, rfl⟩
      · rw [toks_err (by omega) h2] at h; simp at h
  | succ i ih =>
    intro e st t he h ht
    by_cases h1 : L.length ≤ atOf L e
    · rw [toks_end he h1] at h; simp at h
    · by_cases h2 : (nextAt L e st).2.2 = 0
      · have h4 := nextAt_len (by omega) h2
        rw [toks_cons (by omega) h2] at h ⊢
        simp only [List.getElem?_cons_succ] at h
        obtain ⟨h5, h6⟩ := ih _ _ t (by show atOf L e + (nextAt L e st).2.1 ≤ L.length; exact h4.2) h ht
        exact ⟨by rw [List.length_cons, h5], h6⟩
      · rw [toks_err (by omega) h2] at h; simp at h
theorem toksY_last {s : ByteArray} {i : Nat} {y : Yd} (h : (toksY s)[i]? = some y) (he : y.e = s.size) : (toksY s).length = i + 1 ∧ (toks s.data.toList 0 0).2 = 0 := by
  unfold toksY at h ⊢
  rw [List.getElem?_map] at h
  cases ht : (toks s.data.toList 0 0).1[i]? with
  | none => rw [ht] at h; cases h
  | some t =>
    rw [ht] at h
    simp only [Option.map_some, Option.some.injEq] at h
    subst h
    rw [List.length_map]
    exact toks_last i 0 0 t (Nat.zero_le _) ht he
theorem toksY_in {s : ByteArray} {i : Nat} {y : Yd} (h : (toksY s)[i]? = some y) : y.a < y.e ∧ y.e ≤ s.size ∧ y.tx.size = y.e - y.a := by
  unfold toksY at h
  rw [List.getElem?_map] at h
  cases ht : (toks s.data.toList 0 0).1[i]? with
  | none => rw [ht] at h; cases h
  | some t =>
    rw [ht] at h
    simp only [Option.map_some, Option.some.injEq] at h
    subst h
    have := toks_within (l := s.data.toList) _ 0 0 (Nat.le_refl _) (Nat.zero_le _) t (List.mem_of_getElem? ht)
    rw [size_list] at this
    refine ⟨this.2.1, this.2.2.1, ?_⟩
    show (s.extract t.a t.e).size = t.e - t.a
    rw [ByteArray.size_extract]; omega
theorem toksY_step {s : ByteArray} {x y : Yd} (h : (toksY s)[0]? = some x) (h2 : (toksY s)[1]? = some y) : x.e ≤ y.a := by
  unfold toksY at h h2
  rw [List.getElem?_map] at h h2
  by_cases h1 : s.data.toList.length ≤ atOf s.data.toList 0
  · rw [toks_end (Nat.zero_le _) h1] at h; simp at h
  · by_cases h3 : (nextAt s.data.toList 0 0).2.2 = 0
    · have h4 := nextAt_len (by omega) h3
      rw [toks_cons (by omega) h3] at h h2
      simp only [List.getElem?_cons_zero, List.getElem?_cons_succ, Option.map_some, Option.some.injEq] at h h2
      subst h
      cases ht : (toks s.data.toList (tokAt s.data.toList 0 0).e (stAt s.data.toList 0 0)).1[0]? with
      | none => rw [ht] at h2; cases h2
      | some t =>
        rw [ht] at h2
        simp only [Option.map_some, Option.some.injEq] at h2
        subst h2
        exact (toks_within _ _ _ (Nat.le_refl _) (by show atOf s.data.toList 0 + (nextAt s.data.toList 0 0).2.1 ≤ _; exact h4.2) t (List.mem_of_getElem? ht)).1
    · rw [toks_err (by omega) h3] at h; simp at h
theorem toL_size {a b : ByteArray} (h : (a.toList == b.toList) = true) : a.size = b.size := by
  have := congrArg List.length (eq_of_beq h)
  rw [ByteArray.toList_eq, ByteArray.toList_eq, size_list, size_list] at this
  exact this

/-! ### One -/
theorem oneOf_err {s : ByteArray} (h : (toks s.data.toList 0 0).2 ≠ 0) : oneOf s = (0, false) := by
  unfold oneOf
  unfold firstOf
  match hT : toksY s with
  | [] => rfl
  | y :: r =>
    show (if y.tx.toList == s.toList then (y.k, true) else (0, false)) = _
    rw [if_neg]
    intro he
    have h0 : (toksY s)[0]? = some y := by rw [hT]; rfl
    have h1 := toksY_in h0
    have h2 := toL_size he
    exact h (toksY_last h0 (by omega)).2
theorem oneOf_many {s : ByteArray} (h : (toksY s).length ≠ 1) : oneOf s = (0, false) := by
  unfold oneOf
  unfold firstOf
  match hT : toksY s with
  | [] => rfl
  | y :: r =>
    show (if y.tx.toList == s.toList then (y.k, true) else (0, false)) = _
    rw [if_neg]
    intro he
    have h0 : (toksY s)[0]? = some y := by rw [hT]; rfl
    have h1 := toksY_in h0
    have h2 := toL_size he
    exact h (toksY_last h0 (by omega)).1
theorem oneOf_one {s : ByteArray} {y : Yd} (h : toksY s = [y]) : oneOf s = if y.tx.toList == s.toList then (y.k, true) else (0, false) := by
  unfold oneOf firstOf
  rw [h]; rfl

theorem r2k {a c : Int} {b d : Bool} (h : a = c) (h2 : b = d) : Ending.returned (.tuple #[.int .i64 a, .bool b]) = .returned (.tuple #[.int .i64 c, .bool d]) := by rw [h, h2]

set_option maxRecDepth 100000 in
set_option maxHeartbeats 2000000 in
theorem rOne_any (s : ByteArray) (w : World) (hs : s.size ≤ 1000) :
    Calls Try.prog 33 #[.string s] w fun e w' => e = .returned (.tuple #[.int .i64 ((oneOf s).1 : Nat), .bool (oneOf s).2]) ∧ Below w.heap.size w w' := by
  have CT := rTokens_any s w hs
  have X1 := Lib.hid (fun h => oneOf_err (s := s) h)
  have X2 := Lib.hid (fun h => oneOf_many (s := s) h)
  have X3 := Lib.hid (fun y h => oneOf_one (s := s) (y := y) h)
  obtain ⟨r, hr⟩ : ∃ r, (toks s.data.toList 0 0).2 = r := ⟨_, rfl⟩
  obtain ⟨O, hO⟩ : ∃ O, oneOf s = O := ⟨_, rfl⟩
  obtain ⟨T, hT⟩ : ∃ T, toksY s = T := ⟨_, rfl⟩
  rw [hr] at CT X1
  rw [hO] at X1 X2 X3 ⊢
  rw [hT] at CT X2 X3
  clear hr hO hT
  by_cases hr0 : r = 0
  · subst hr0
    match T with
    | [] =>
      have HO := Lib.hid (X2.out (by decide))
      clear X1 X2 X3
      go_enter Try.func33, Try.ntmps33
      go_wp2_with fail
      refine CT.mono ?_
      rintro e w1 ⟨⟨v, rfl, hrow, -⟩, hb⟩
      obtain ⟨a, c, rfl⟩ := row_none (hrow (by first | trivial | rfl))
      go_wp2
      go_ret2
      exact ⟨r2k (by rw [HO.out]; rfl) (by rw [HO.out]), hb⟩
    | [y] =>
      have HO := Lib.hid (X3.out y rfl)
      clear X1 X2 X3
      cases ht : (y.tx.toList == s.toList)
      · have hn : (!(y.tx.toList == s.toList)) = true := by rw [ht]; rfl
        have HO2 : Hid (O = (0, false)) := Lib.hid (by rw [HO.out, ht]; rfl)
        clear HO ht
        go_enter Try.func33, Try.ntmps33
        go_wp2_with fail
        refine CT.mono ?_
        rintro e w1 ⟨⟨v, rfl, hrow, -⟩, hb⟩
        obtain ⟨g, cap, rfl, hc⟩ := row_some (n := 0) (hrow (by first | trivial | rfl))
        have c0 := hc 0 _ rfl
        have c1 := hc 1 _ rfl
        clear hc hrow
        go_wp2
        go_ret2
        exact ⟨r2k (by rw [HO2.out]; rfl) (by rw [HO2.out]), hb⟩
      · have hn : (!(y.tx.toList == s.toList)) = false := by rw [ht]; rfl
        have HO2 : Hid (O = (y.k, true)) := Lib.hid (by rw [HO.out, ht]; rfl)
        clear HO ht
        go_enter Try.func33, Try.ntmps33
        go_wp2_with fail
        refine CT.mono ?_
        rintro e w1 ⟨⟨v, rfl, hrow, -⟩, hb⟩
        obtain ⟨g, cap, rfl, hc⟩ := row_some (n := 0) (hrow (by first | trivial | rfl))
        have c0 := hc 0 _ rfl
        have c1 := hc 1 _ rfl
        clear hc hrow
        go_wp2
        go_ret2
        exact ⟨r2k (by rw [HO2.out]) (by rw [HO2.out]), hb⟩
    | x :: y :: r =>
      have HO := Lib.hid (X2.out (by simp))
      obtain ⟨n, hn⟩ : ∃ n, (x :: y :: r).length = n := ⟨_, rfl⟩
      have hn2 : 2 ≤ n := by rw [← hn]; simp
      obtain ⟨cs, hcs⟩ : ∃ cs, ydCells (x :: y :: r) = cs := ⟨_, rfl⟩
      rw [hn, hcs] at CT
      have hne : ((n : Int) != 1) = true := by rw [bne_iff_ne]; omega
      clear X1 X2 X3 hn hcs
      go_enter Try.func33, Try.ntmps33
      go_wp2_with fail
      refine CT.mono ?_
      rintro e w1 ⟨⟨v, rfl, hrow, -⟩, hb⟩
      obtain ⟨a, c, rfl⟩ := row_shapeS (hrow (by first | trivial | rfl))
      clear hrow
      go_wp2
      go_ret2
      exact ⟨r2k (by rw [HO.out]; rfl) (by rw [HO.out]), hb⟩
  · have HO := Lib.hid (X1.out hr0)
    have hne : ((r : Int) != 0) = true := by rw [bne_iff_ne]; omega
    clear X1 X2 X3
    go_enter Try.func33, Try.ntmps33
    go_wp2_with fail
    refine CT.mono ?_
    rintro e w1 ⟨⟨v, rfl, -, hnil⟩, hb⟩
    have hv := hnil hr0
    subst hv
    clear hnil hr0
    go_wp2
    go_ret2
    exact ⟨r2k (by rw [HO.out]; rfl) (by rw [HO.out]), hb⟩

end Go.Proofs.Ytenmapahigbbeaa
