/- ctok's elements: escape, element. -/
import Derived.Test.YtenmapahigbbeaaCtI
import Derived.Test.YtenmapahigbbeaaCtE
import Derived.BigQuiet
import Derived.Deep.QuietTactic
import Derived.IntWalk
namespace Go.Proofs.Ytenmapahigbbeaa
open Go.RowKit Go.Shelf

def escL : List UInt8 := [39, 34, 63, 92, 97, 98, 102, 110, 114, 116, 118]
def outL : List UInt8 := [39, 34, 63, 92, 7, 8, 12, 10, 13, 9, 11]
/-- What an escape of one letter is: its place among the letters. -/
theorem esc_hit : ∀ k < 11, simpleC (escL.getD k 0) = (outL.getD k 0).toNat ∧ 0 < simpleC (escL.getD k 0) := by decide
theorem esc_miss (d : UInt8) (h : ∀ k < 11, escL.getD k 0 ≠ d) : simpleC d = 0 := by
  have hall : ∀ n, n < 256 → (fun d : UInt8 => escL.contains d = false → simpleC d = 0) (UInt8.ofNat n) := by decide +kernel
  have h2 := hall d.toNat d.toNat_lt
  rw [UInt8.ofNat_toNat] at h2
  refine h2 (Bool.eq_false_iff.2 (fun hc => ?_))
  have hm := List.contains_iff_mem.1 hc
  obtain ⟨k, hk, e⟩ := List.getElem_of_mem hm
  refine h k hk ?_
  rw [List.getD_eq_getElem?_getD, List.getElem?_eq_getElem hk]; exact e
theorem pre1 (l : List UInt8) (u : UInt8) : Lib.hasPrefix l [u] = true ↔ l.head? = some u := by
  unfold Lib.hasPrefix
  cases l with
  | nil => simp
  | cons c l => simp [List.isPrefixOf]; exact eq_comm
/-- The escape with which a text begins, that stands behind a backslash: 0: there is none. -/
def escC (l : List UInt8) : Nat := match l with | [] => 0 | d :: _ => simpleC d
theorem esc_at {l : List UInt8} {k : Nat} (hk : k < 11) (h : Lib.hasPrefix l [escL.getD k 0] = true) : escC l = (outL.getD k 0).toNat ∧ 0 < escC l := by
  have h2 := (pre1 _ _).1 h
  cases l with
  | nil => cases h2
  | cons c l =>
    rw [List.head?_cons, Option.some.injEq] at h2
    show simpleC c = _ ∧ 0 < simpleC c
    rw [h2]
    exact esc_hit k hk
theorem esc_no {l : List UInt8} (h : ∀ k < 11, Lib.hasPrefix l [escL.getD k 0] = false) : escC l = 0 := by
  cases l with
  | nil => rfl
  | cons c l =>
    refine esc_miss c (fun k hk e => ?_)
    have := (pre1 (c :: l) (escL.getD k 0)).2 (by rw [e]; rfl)
    rw [h k hk] at this
    cases this

theorem r8b {a b : Nat} {c d : Bool} (h : a = b) (h2 : c = d) : Ending.returned (.tuple #[.int .u8 a, .bool c]) = .returned (.tuple #[.int .u8 b, .bool d]) := by rw [h, h2]

set_option maxRecDepth 100000 in
set_option maxHeartbeats 2000000 in
theorem escape_any (s : ByteArray) (w : World) (hs : s.size ≤ maxLen) :
    Calls Try.prog 72 #[.string s] w fun e w' => e = .returned (.tuple #[.int .u8 (escC s.data.toList : Nat), .bool (decide (0 < escC s.data.toList))]) ∧ w = w' := by
  unfold maxLen at hs
  have P : ∀ (k : Nat) w, k < 11 → Calls Try.prog 43 #[.string s, .string ((⟨#[39, 34, 63, 92, 97, 98, 102, 110, 114, 116, 118]⟩ : ByteArray).extract k (k + 1))] w fun e w' => e = .returned (.bool (Lib.hasPrefix s.data.toList [escL.getD k 0])) ∧ w = w' := fun k w hk => by
    have h := hasPre_any s ((⟨#[39, 34, 63, 92, 97, 98, 102, 110, 114, 116, 118]⟩ : ByteArray).extract k (k + 1)) w
    have e : ((⟨#[39, 34, 63, 92, 97, 98, 102, 110, 114, 116, 118]⟩ : ByteArray).extract k (k + 1)).data.toList = [escL.getD k 0] := by
      have : ∀ k < 11, ((⟨#[39, 34, 63, 92, 97, 98, 102, 110, 114, 116, 118]⟩ : ByteArray).extract k (k + 1)).data.toList = [escL.getD k 0] := by decide +kernel
      exact this k hk
    rw [e] at h
    exact h
  have HO : ∀ k, (hk : k < 11) → (⟨#[39, 34, 63, 92, 7, 8, 12, 10, 13, 9, 11]⟩ : ByteArray)[k]'(by show k < 11; exact hk) = outL.getD k 0 := by decide +kernel
  have HO := Lib.hid HO
  go_enter Try.func72, Try.ntmps72
  go_wp2
  go_loop [5] (fun i => ∃ k : Nat, k ≤ 11 ∧ i = .int .i64 k ∧ Hid (∀ j < k, Lib.hasPrefix s.data.toList [escL.getD j 0] = false)) (fun i => 11 - (intOf i).toNat)
  case atStart => exact ⟨0, Nat.zero_le _, rfl, Lib.hid (fun j h => by omega)⟩
  case round =>
    obtain ⟨k, hk, rfl, HE⟩ := hrel
    by_cases hlt : k < 11
    · have C := fun w => P k w hlt
      have j1 : (k : Int) < 11 := by omega
      have j2 : (0 : Int) ≤ (k : Int) := by omega
      have j3 : (k : Int) + 1 ≤ 11 := by omega
      have j4 : ((k : Int) + 1).toNat = k + 1 := by omega
      have j5 : (k : Int) ≤ (k : Int) + 1 := by omega
      cases hp : Lib.hasPrefix s.data.toList [escL.getD k 0] with
      | true =>
        rw [hp] at C
        obtain ⟨h1, h2⟩ := esc_at hlt hp
        have H1 := Lib.hid h1
        have H2 := Lib.hid h2
        clear hp h1 h2 HE P
        go_wp2_with (go_at_call 43; refine (C _).mono ?_; rintro e w' ⟨rfl, rfl⟩)
        go_ret2
        exact ⟨r8b (by rw [H1.out, List.getD_eq_getElem?_getD]) (decide_eq_true H2.out).symm, rfl⟩
      | false =>
        rw [hp] at C
        have HN : Hid (∀ j < k + 1, Lib.hasPrefix s.data.toList [escL.getD j 0] = false) := Lib.hid (fun j hj => by
          by_cases e : j = k
          · rw [e]; exact hp
          · exact HE.out j (by omega))
        clear hp HE P
        go_wp2_with (go_at_call 43; refine (C _).mono ?_; rintro e w' ⟨rfl, rfl⟩)
        go_round
        case rel => exact ⟨k + 1, by omega, by go_num, HN⟩
        case measure => simp [intOf]; omega
    · obtain rfl : k = 11 := by omega
      have HN := Lib.hid (esc_no HE.out)
      go_wp2
      go_ret2
      exact ⟨r8b (by rw [HN.out]) (by rw [HN.out]; rfl), rfl⟩

/-- The first element, as far as it is one; 0, 0: there is none. -/
def elR (g : Nat) (l : List UInt8) : Nat × Nat := if (oneC l).2 = 0 ∨ g < (oneC l).1 then (0, 0) else oneC l
/-- By a number's digits. -/
def elN (b g a : Nat) (ds : List UInt8) : Nat × Nat := if ds.length = 0 ∨ g < numC b ds then (0, 0) else (numC b ds, a + ds.length)
theorem escC_le (l : List UInt8) : escC l ≤ 255 := by
  cases l with
  | nil => exact Nat.zero_le _
  | cons d l =>
    have h : ∀ n, n < 256 → (fun d : UInt8 => simpleC d ≤ 255) (UInt8.ofNat n) := by decide +kernel
    have := h d.toNat d.toNat_lt
    rwa [UInt8.ofNat_toNat] at this
theorem el_plain {g : Nat} {c : UInt8} {r : List UInt8} (hg : 255 ≤ g) (hc : c ≠ 92) : elR g (c :: r) = (c.toNat, 1) := by
  have h : oneC (c :: r) = (c.toNat, 1) := by cases r <;> simp [oneC, hc]
  have := c.toNat_lt
  unfold elR
  rw [h, if_neg (by simp; omega)]
theorem el_esc {g : Nat} {r : List UInt8} (hg : 255 ≤ g) (h : 0 < escC r) : elR g (92 :: r) = (escC r, 2) := by
  have hl := escC_le r
  cases r with
  | nil => exact absurd h (by decide)
  | cons d q =>
    have h' : 0 < simpleC d := h
    have e : oneC (92 :: d :: q) = (simpleC d, 2) := by rw [oneC, if_neg (by decide), if_pos h']
    have hl : simpleC d ≤ 255 := hl
    unfold elR
    rw [e, if_neg (by simp; omega)]; rfl
theorem el_num {b g n : Nat} (hb : 0 < b) (hg2 : g ≤ 4294967295) (ds : List UInt8) : (if (if ds.length = 0 then ((0, 0) : Nat × Nat) else (capC b ds, n)).2 = 0 ∨ g < (if ds.length = 0 then ((0, 0) : Nat × Nat) else (capC b ds, n)).1 then ((0, 0) : Nat × Nat) else (if ds.length = 0 then ((0, 0) : Nat × Nat) else (capC b ds, n))) = if ds.length = 0 ∨ n = 0 ∨ g < numC b ds then (0, 0) else (numC b ds, n) := by
  by_cases h0 : ds.length = 0
  · simp [h0]
  · simp only [h0, if_false, false_or]
    rw [cap_num b hb]
    by_cases hn : n = 0
    · simp [hn]
    · simp only [hn, false_or]
      by_cases h : g < numC b ds
      · rw [if_pos (by omega), if_pos h]
      · rw [if_neg (by omega), if_neg h, Nat.min_eq_left (by omega)]
theorem el_hex {g : Nat} {r : List UInt8} (hg2 : g ≤ 4294967295) (h : escC r = 0) (hx : r.head? = some 120) : elR g (92 :: r) = elN 16 g 2 (digitsC 16 r.tail) := by
  cases r with
  | nil => cases hx
  | cons d q =>
    have e : d = 120 := by simpa using hx
    subst e
    have e : oneC (92 :: 120 :: q) = if (digitsC 16 q).length = 0 then (0, 0) else (capC 16 (digitsC 16 q), (digitsC 16 q).length + 2) := by
      rw [oneC, if_neg (by decide), if_neg (by decide), if_pos rfl]
    unfold elR elN
    rw [e, el_num (by decide) hg2, List.tail_cons]
    by_cases h0 : (digitsC 16 q).length = 0
    · simp [h0]
    · by_cases h2 : g < numC 16 (digitsC 16 q)
      · simp [h2]
      · simp [h0, h2, Nat.add_comm]
theorem take_digits (b : Nat) : ∀ (n : Nat) (l : List UInt8), digitsC b (l.take n) = (digitsC b l).take n
  | 0, l => by simp [digitsC]
  | n + 1, [] => by simp [digitsC]
  | n + 1, c :: l => by
    have ih := take_digits b n l
    unfold digitsC at ih ⊢
    rw [List.take_succ_cons, List.takeWhile_cons, List.takeWhile_cons]
    by_cases h : worthC c < b
    · simp only [h, decide_true, if_true, ih, List.take_succ_cons]
    · simp [h]
theorem el_oct {g : Nat} {r : List UInt8} (hg2 : g ≤ 4294967295) (h : escC r = 0) (hx : r.head? ≠ some 120) : elR g (92 :: r) = elN 8 g 1 (digitsC 8 (r.take 3)) := by
  cases r with
  | nil => rfl
  | cons d q =>
    have hd : d ≠ 120 := fun e => hx (by rw [e]; rfl)
    have h0 : ¬ 0 < simpleC d := by have : simpleC d = 0 := h; omega
    have e : oneC (92 :: d :: q) = if (digitsC 8 (d :: q)).length = 0 then (0, 0) else (capC 8 ((digitsC 8 (d :: q)).take 3), min 3 (digitsC 8 (d :: q)).length + 1) := by
      rw [oneC, if_neg (by decide), if_neg h0, if_neg hd]
    rw [take_digits]
    generalize digitsC 8 (d :: q) = ds at *
    have e2 : oneC (92 :: d :: q) = if (ds.take 3).length = 0 then (0, 0) else (capC 8 (ds.take 3), min 3 ds.length + 1) := by
      rw [e]
      by_cases h1 : ds.length = 0
      · rw [if_pos h1, if_pos (by rw [List.length_take]; omega)]
      · rw [if_neg h1, if_neg (by rw [List.length_take]; omega)]
    unfold elR elN
    rw [e2, el_num (by decide) hg2]
    by_cases h1 : (ds.take 3).length = 0
    · simp [h1]
    · by_cases h2 : g < numC 8 (ds.take 3)
      · simp [h2]
      · rw [List.length_take] at h1
        simp only [List.length_take, h1, h2, false_or, or_false]
        rw [if_neg (by omega), if_neg (by simp), Nat.add_comm]

theorem ii {a b c d : Nat} (h : (a, c) = (b, d)) : Ending.returned (.tuple #[.int .i64 a, .int .i64 c]) = .returned (.tuple #[.int .i64 b, .int .i64 d]) := by cases h; rfl
theorem iz {a b c d : Int} (h : a = b) (h2 : c = d) : Ending.returned (.tuple #[.int .i64 a, .int .i64 c]) = .returned (.tuple #[.int .i64 b, .int .i64 d]) := by rw [h, h2]
theorem take_ex (s : ByteArray) (n : Nat) : (s.extract 0 n).data.toList = s.data.toList.take n := by
  rw [extract_list, List.drop_zero]

set_option maxRecDepth 100000 in
set_option maxHeartbeats 4000000 in
theorem element_any (s : ByteArray) (g : Nat) (w : World) (hs : s.size ≤ maxLen) (h0 : 0 < s.size) (hg : 255 ≤ g) (hg2 : g ≤ 4294967295) :
    Calls Try.prog 62 #[.string s, .int .u64 g] w fun e w' => e = .returned (.tuple #[.int .i64 ((elR g s.data.toList).1 : Nat), .int .i64 ((elR g s.data.toList).2 : Nat)]) ∧ Below w.heap.size w w' := by
  have hd0 := data_drop s 0 h0
  rw [List.drop_zero] at hd0
  have C1 := fun w => cut_any s ⟨#[92]⟩ w
  rw [show (⟨#[92]⟩ : ByteArray).data.toList = [92] from rfl] at C1
  have hcl := cutOf_list s ⟨#[92]⟩
  rw [show (⟨#[92]⟩ : ByteArray).data.toList = [92] from rfl] at hcl
  have hcs := cutOf_size s ⟨#[92]⟩
  have hca : Lib.hasPrefix s.data.toList [92] = true → (cutOf s ⟨#[92]⟩).size + 1 ≤ s.size := fun h => cutOf_add (p := ⟨#[92]⟩) h
  obtain ⟨r, hr⟩ : ∃ r, cutOf s ⟨#[92]⟩ = r := ⟨_, rfl⟩
  rw [hr] at C1 hcl hcs hca
  clear hr
  obtain ⟨R, hR⟩ : ∃ R, elR g s.data.toList = R := ⟨_, rfl⟩
  rw [hR]
  unfold maxLen at hs
  have j0 : (0 : Int) < (s.size : Int) := by omega
  cases hp : Lib.hasPrefix s.data.toList [92] with
  | false =>
    rw [hp] at C1
    have hc : s[0] ≠ 92 := fun e => by
      rw [(pre1 _ _).2 (by rw [hd0, List.head?_cons, e])] at hp; cases hp
    have HR : Hid (R = (s[0].toNat, 1)) := Lib.hid (by rw [← hR, hd0, el_plain hg hc])
    have hb := s[0].toNat_lt
    have v0 : wrap64 (s[0].toNat : Int) = (s[0].toNat : Int) := IntWalk.wrap64_in _ (by omega)
    clear hp hc hR hcl hd0 hb
    go_enter Try.func62, Try.ntmps62
    go_wp2_with (go_at_call 52; refine (C1 _).mono ?_; rintro e w' ⟨rfl, rfl⟩)
    go_ret2
    exact ⟨iz (by rw [HR.out]; exact v0) (by rw [HR.out]; rfl), Below.refl _ _⟩
  | true =>
    rw [hp] at C1
    have hc : s[0] = 92 := by
      have := (pre1 _ _).1 hp
      rw [hd0, List.head?_cons, Option.some.injEq] at this
      exact this
    have hrl : r.data.toList = s.data.toList.drop 1 := by
      rw [hcl]; unfold Lib.trimPrefix; rw [if_pos hp]; rfl
    rw [hd0, hc, List.drop_one, List.tail_cons] at hrl
    rw [hd0, hc, ← hrl] at hR
    have C2 := fun w => escape_any r w (Nat.le_trans hcs hs)
    replace hca := hca hp
    clear hp hcl hd0 hrl
    by_cases he : 0 < escC r.data.toList
    · have HR := Lib.hid (hR.symm.trans (el_esc hg he))
      have hle := escC_le r.data.toList
      rw [decide_eq_true he] at C2
      generalize escC r.data.toList = n at *
      clear hR
      go_enter Try.func62, Try.ntmps62
      go_wp2_with (first | (go_at_call 52; refine (C1 _).mono ?_; rintro e w' ⟨rfl, rfl⟩) | (go_at_call 72; refine (C2 _).mono ?_; rintro e w' ⟨rfl, rfl⟩))
      go_ret2
      exact ⟨iz (by rw [HR.out]) (by rw [HR.out]; rfl), Below.refl _ _⟩
    · rw [decide_eq_false he] at C2
      have he0 : escC r.data.toList = 0 := by omega
      have C3 := fun w => cut_any r ⟨#[120]⟩ w
      rw [show (⟨#[120]⟩ : ByteArray).data.toList = [120] from rfl] at C3
      have hxl := cutOf_list r ⟨#[120]⟩
      rw [show (⟨#[120]⟩ : ByteArray).data.toList = [120] from rfl] at hxl
      have hxs := cutOf_size r ⟨#[120]⟩
      have hxa : Lib.hasPrefix r.data.toList [120] = true → (cutOf r ⟨#[120]⟩).size + 1 ≤ r.size := fun h => cutOf_add (p := ⟨#[120]⟩) h
      obtain ⟨x, hx⟩ : ∃ x, cutOf r ⟨#[120]⟩ = x := ⟨_, rfl⟩
      rw [hx] at C3 hxl hxs hxa
      clear hx
      have hmn : (min (r.size : Int) 3).toNat = min r.size 3 := by omega
      obtain ⟨o, ho⟩ : ∃ o, r.extract 0 (min (r.size : Int) 3).toNat = o := ⟨_, rfl⟩
      have hol : o.data.toList = r.data.toList.take 3 := by
        rw [← ho, hmn, take_ex]
        by_cases h3 : r.size ≤ 3
        · rw [Nat.min_eq_left h3, List.take_of_length_le (by rw [size_list]; omega), List.take_of_length_le (by rw [size_list]; omega)]
        · rw [Nat.min_eq_right (by omega)]
      have hos : o.size ≤ 3 := by rw [← ho, hmn, ByteArray.size_extract]; omega
      clear hmn
      cases hq : Lib.hasPrefix r.data.toList [120] with
      | true =>
        rw [hq] at C3
        replace hxa := hxa hq
        have hxr : x.data.toList = r.data.toList.tail := by rw [hxl]; unfold Lib.trimPrefix; rw [if_pos hq]; simp
        have HR := Lib.hid (hR.symm.trans (el_hex hg2 he0 ((pre1 _ _).1 hq)))
        rw [← hxr] at HR
        have C4 := fun w => ctNum_any x 16 g w (by unfold maxLen; omega) (by decide) (by decide) (by omega) (by omega)
        unfold numV at C4
        unfold elN at HR
        obtain ⟨ds, hds⟩ : ∃ ds, digitsC 16 x.data.toList = ds := ⟨_, rfl⟩
        simp only [hds] at C4 HR
        have hlen := digits_len 16 x.data.toList
        rw [hds, size_list] at hlen
        obtain ⟨n, hn⟩ : ∃ n, ds.length = n := ⟨_, rfl⟩
        obtain ⟨v, hv⟩ : ∃ v, numC 16 ds = v := ⟨_, rfl⟩
        simp only [hn, hv] at C4 HR hlen
        clear hds hn hv hxr hxl hR he he0 hol hq
        have hB : ∀ nq w1, Below (w.drewN nq).heap.size (w.drewN nq) w1 → Below w.heap.size w w1 := fun nq w1 h => (below_drewN (Below.refl _ _) nq).trans h
        by_cases hn0 : n = 0
        · have HO : Hid (R = (0, 0)) := Lib.hid (HR.out.trans (if_pos (.inl hn0)))
          have i1 : ((n : Int) == 0) = true := by simp [hn0]
          clear hn0 HR
          go_enter Try.func62, Try.ntmps62
          go_wp2_with fail
          refine (C1 _).mono ?_
          rintro e w' ⟨rfl, rfl⟩
          go_wp2_with fail
          refine (C2 _).mono ?_
          rintro e w' ⟨rfl, rfl⟩
          go_wp2_with fail
          go_big_quiet (fail)
          go_wp2_with fail
          refine (C3 _).mono ?_
          rintro e w' ⟨rfl, rfl⟩
          go_wp2_with fail
          refine (C4 _).mono ?_
          rintro e w1 ⟨rfl, hb1⟩
          go_wp2
          all_goals
            go_ret2
            exact ⟨iz (by rw [HO.out]; rfl) (by rw [HO.out]; rfl), hB _ _ hb1⟩
        · have i1 : ((n : Int) == 0) = false := beq_eq_false_iff_ne.2 (by omega)
          by_cases hv : v ≤ g
          · have HO : Hid (R = (v, 2 + n)) := Lib.hid (HR.out.trans (if_neg (by omega)))
            rw [if_pos hv, decide_eq_true hv] at C4
            clear hn0 HR
            go_enter Try.func62, Try.ntmps62
            go_wp2_with fail
            refine (C1 _).mono ?_
            rintro e w' ⟨rfl, rfl⟩
            go_wp2_with fail
            refine (C2 _).mono ?_
            rintro e w' ⟨rfl, rfl⟩
            go_wp2_with fail
            go_big_quiet (fail)
            go_wp2_with fail
            refine (C3 _).mono ?_
            rintro e w' ⟨rfl, rfl⟩
            go_wp2_with fail
            refine (C4 _).mono ?_
            rintro e w1 ⟨rfl, hb1⟩
            go_wp2
            go_ret2
            exact ⟨iz (by rw [HO.out]) (by rw [HO.out]; simp), hB _ _ hb1⟩
          · have HO : Hid (R = (0, 0)) := Lib.hid (HR.out.trans (if_pos (.inr (by omega))))
            rw [if_neg hv, decide_eq_false hv] at C4
            clear hn0 HR
            go_enter Try.func62, Try.ntmps62
            go_wp2_with fail
            refine (C1 _).mono ?_
            rintro e w' ⟨rfl, rfl⟩
            go_wp2_with fail
            refine (C2 _).mono ?_
            rintro e w' ⟨rfl, rfl⟩
            go_wp2_with fail
            go_big_quiet (fail)
            go_wp2_with fail
            refine (C3 _).mono ?_
            rintro e w' ⟨rfl, rfl⟩
            go_wp2_with fail
            refine (C4 _).mono ?_
            rintro e w1 ⟨rfl, hb1⟩
            go_wp2
            go_ret2
            exact ⟨iz (by rw [HO.out]; rfl) (by rw [HO.out]; rfl), hB _ _ hb1⟩
      | false =>
        rw [hq] at C3
        clear hxa
        have HR := Lib.hid (hR.symm.trans (el_oct hg2 he0 (fun h => by rw [(pre1 _ _).2 h] at hq; cases hq)))
        rw [← hol] at HR
        have C4 := fun w => ctNum_any o 8 g w (by unfold maxLen; omega) (by decide) (by decide) (by omega) (by omega)
        unfold numV at C4
        unfold elN at HR
        obtain ⟨ds, hds⟩ : ∃ ds, digitsC 8 o.data.toList = ds := ⟨_, rfl⟩
        simp only [hds] at C4 HR
        have hlen := digits_len 8 o.data.toList
        rw [hds, size_list] at hlen
        obtain ⟨n, hn⟩ : ∃ n, ds.length = n := ⟨_, rfl⟩
        obtain ⟨v, hv⟩ : ∃ v, numC 8 ds = v := ⟨_, rfl⟩
        simp only [hn, hv] at C4 HR hlen
        clear hds hn hv hxl hR he he0 hol hq
        have hB : ∀ nq w1, Below (w.drewN nq).heap.size (w.drewN nq) w1 → Below w.heap.size w w1 := fun nq w1 h => (below_drewN (Below.refl _ _) nq).trans h
        by_cases hn0 : n = 0
        · have HO : Hid (R = (0, 0)) := Lib.hid (HR.out.trans (if_pos (.inl hn0)))
          have i1 : ((n : Int) == 0) = true := by simp [hn0]
          clear hn0 HR
          go_enter Try.func62, Try.ntmps62
          go_wp2_with fail
          refine (C1 _).mono ?_
          rintro e w' ⟨rfl, rfl⟩
          go_wp2_with fail
          refine (C2 _).mono ?_
          rintro e w' ⟨rfl, rfl⟩
          go_wp2_with fail
          go_big_quiet (fail)
          go_wp2_with fail
          refine (C3 _).mono ?_
          rintro e w' ⟨rfl, rfl⟩
          go_wp2_with fail
          refine (C4 _).mono ?_
          rintro e w1 ⟨rfl, hb1⟩
          go_wp2
          all_goals
            go_ret2
            exact ⟨iz (by rw [HO.out]; rfl) (by rw [HO.out]; rfl), hB _ _ hb1⟩
        · have i1 : ((n : Int) == 0) = false := beq_eq_false_iff_ne.2 (by omega)
          by_cases hv : v ≤ g
          · have HO : Hid (R = (v, 1 + n)) := Lib.hid (HR.out.trans (if_neg (by omega)))
            rw [if_pos hv, decide_eq_true hv] at C4
            clear hn0 HR
            go_enter Try.func62, Try.ntmps62
            go_wp2_with fail
            refine (C1 _).mono ?_
            rintro e w' ⟨rfl, rfl⟩
            go_wp2_with fail
            refine (C2 _).mono ?_
            rintro e w' ⟨rfl, rfl⟩
            go_wp2_with fail
            go_big_quiet (fail)
            go_wp2_with fail
            refine (C3 _).mono ?_
            rintro e w' ⟨rfl, rfl⟩
            go_wp2_with fail
            refine (C4 _).mono ?_
            rintro e w1 ⟨rfl, hb1⟩
            go_wp2
            go_ret2
            exact ⟨iz (by rw [HO.out]) (by rw [HO.out]; simp), hB _ _ hb1⟩
          · have HO : Hid (R = (0, 0)) := Lib.hid (HR.out.trans (if_pos (.inr (by omega))))
            rw [if_neg hv, decide_eq_false hv] at C4
            clear hn0 HR
            go_enter Try.func62, Try.ntmps62
            go_wp2_with fail
            refine (C1 _).mono ?_
            rintro e w' ⟨rfl, rfl⟩
            go_wp2_with fail
            refine (C2 _).mono ?_
            rintro e w' ⟨rfl, rfl⟩
            go_wp2_with fail
            go_big_quiet (fail)
            go_wp2_with fail
            refine (C3 _).mono ?_
            rintro e w' ⟨rfl, rfl⟩
            go_wp2_with fail
            refine (C4 _).mono ?_
            rintro e w1 ⟨rfl, hb1⟩
            go_wp2
            go_ret2
            exact ⟨iz (by rw [HO.out]; rfl) (by rw [HO.out]; rfl), hB _ _ hb1⟩

end Go.Proofs.Ytenmapahigbbeaa
