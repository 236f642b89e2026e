/- ctok.packed, Char, Str. -/
import Derived.Test.YtenmapahigbbeaaCtV
namespace Go.Proofs.Ytenmapahigbbeaa
open Go.RowKit Go.Shelf

theorem elems_le (top : Nat) : ∀ (f : Nat) (l : List UInt8) (ns : List Nat), elemsC top f l = some ns → ∀ n ∈ ns, n ≤ top
  | 0, l, ns, h => by
    rw [elemsC] at h
    split at h
    · cases h; intro n hn; cases hn
    · cases h
  | f + 1, l, ns, h => by
    rw [elemsC] at h
    split at h
    · cases h; intro n hn; cases hn
    · split at h
      · cases h
      · rename_i h1 h2
        cases he : elemsC top f (l.drop (oneC l).2) with
        | none => rw [he] at h; cases h
        | some ms =>
          rw [he] at h
          simp only [Option.map_some, Option.some.injEq] at h
          subst h
          intro n hn
          rcases List.mem_cons.1 hn with rfl | hn
          · omega
          · exact elems_le top f _ ms he n hn
def foldV (ns : List Nat) : Nat := ns.foldl (fun v n => 256 * v + n) 0
theorem foldV_snoc (ns : List Nat) (n : Nat) : foldV (ns ++ [n]) = 256 * foldV ns + n := by unfold foldV; rw [List.foldl_append]; rfl
theorem packC_eq (ns : List Nat) : packC ns = if 256 ^ ns.length / 2 ≤ foldV ns then (foldV ns : Int) - (256 ^ ns.length : Nat) else (foldV ns : Int) := rfl
/-- Some of a constant's numbers, packed. -/
structure Pk (ns : List Nat) (k v z : Nat) : Prop where
  val : foldV (ns.take k) = v
  end_ : 256 ^ k = z
  lt : v < z
  le : z ≤ 256 ^ k
theorem Pk.start (ns : List Nat) : Pk ns 0 0 1 := ⟨by simp [foldV], rfl, by decide, Nat.le_refl _⟩
theorem Pk.next {ns : List Nat} {k v z n : Nat} (h : Pk ns k v z) (hn : ns[k]? = some n) (h255 : n ≤ 255) : Pk ns (k + 1) (256 * v + n) (256 * z) := by
  have h1 := h.lt
  have h2 := h.le
  refine ⟨?_, ?_, by omega, ?_⟩
  · rw [List.take_add_one, hn, ← h.val]
    exact foldV_snoc _ _
  · rw [Nat.pow_succ, h.end_, Nat.mul_comm]
  · rw [Nat.pow_succ]; omega

set_option maxRecDepth 100000 in
set_option maxHeartbeats 2000000 in
theorem packed_any (ns : List Nat) (a : Option Addr) (n cap : Nat) (w : World) (hn : ns.length = n) (h4 : n ≤ 4) (h255 : ∀ x ∈ ns, x ≤ 255) (hr : 0 < n → ∃ g, a = some ⟨g, 0, none⟩ ∧ ∀ j u, (intCells ns)[j]? = some u → w.cell? ⟨g, j, none⟩ = some u) :
    Calls Try.prog 32 #[.slice a n cap] w fun e w' => e = .returned (.int .i64 (packC ns)) ∧ w = w' := by
  have HN := Lib.hid hn
  have H255 := Lib.hid h255
  have HR := Lib.hid hr
  clear hn h255 hr
  go_enter Try.func32, Try.ntmps32
  go_wp2
  go_loop [3, 4, 9] (fun value end_ i => ∃ k v z : Nat, k ≤ n ∧ i = .int .i64 k ∧ value = .int .i64 v ∧ end_ = .int .i64 z ∧ Hid (Pk ns k v z) ∧ v < z ∧ z ≤ 4294967296) (fun _ _ i => n - (intOf i).toNat)
  case atStart => exact ⟨0, 0, 1, Nat.zero_le _, rfl, rfl, rfl, Lib.hid (Pk.start ns), by decide, by decide⟩
  case round =>
    obtain ⟨k, v, z, hk, rfl, rfl, rfl, HP, hvz, hz⟩ := hrel
    by_cases hlt : k < n
    · obtain ⟨x, hx⟩ : ∃ x, ns[k]? = some x := ⟨_, List.getElem?_eq_getElem (by rw [HN.out]; exact hlt)⟩
      obtain ⟨g, rfl, hc⟩ := HR.out (by omega)
      have hx255 := H255.out x (List.mem_of_getElem? hx)
      have c0 := hc k (intCell x) (by unfold intCells; rw [List.getElem?_map, hx]; rfl)
      unfold intCell at c0
      have HP2 := Lib.hid (HP.out.next hx hx255)
      have hz2 : 256 * z ≤ 4294967296 := by
        rw [← HP.out.end_, Nat.mul_comm, ← Nat.pow_succ]
        exact Nat.le_trans (Nat.pow_le_pow_right (by decide) (show k + 1 ≤ 4 by omega)) (by decide)
      have i1 : (k : Int) < (n : Int) := by omega
      have i2 : (0 : Int) ≤ (k : Int) := by omega
      clear hx hc HP
      go_wp2
      go_round
      case rel => exact ⟨k + 1, 256 * v + x, 256 * z, by omega, by go_num, by go_num, by go_num, HP2, by omega, hz2⟩
      case measure => simp [intOf]; omega
    · obtain rfl : k = n := by omega
      have hv := HP.out.val
      have hz3 := HP.out.end_
      rw [← HN.out, List.take_length] at hv
      rw [← HN.out] at hz3
      have HO : Hid (packC ns = if z / 2 ≤ v then (v : Int) - (z : Nat) else (v : Int)) := Lib.hid (by rw [packC_eq, hv, hz3])
      clear hv hz3 HP
      have i1 : ¬ (k : Int) < (k : Int) := by omega
      by_cases hh : z / 2 ≤ v
      · have i3 : (z : Int) / 2 ≤ (v : Int) := by omega
        have HO2 := Lib.hid (HO.out.trans (if_pos hh))
        clear hh HO
        go_wp2
        go_ret
        exact ⟨ri (by rw [HO2.out]), rfl⟩
      · have i3 : ¬ (z : Int) / 2 ≤ (v : Int) := by omega
        have HO2 := Lib.hid (HO.out.trans (if_neg hh))
        clear hh HO
        go_wp2
        go_ret
        exact ⟨ri (by rw [HO2.out]), rfl⟩

/-! ### Char and Str -/
def charR (s : ByteArray) : Int × Nat := errI (charC s)
theorem iI {a b : Int} {x y : Nat} (h : (b, y) = (a, x)) : Ending.returned (.tuple #[.int .i64 a, .int .i64 x]) = .returned (.tuple #[.int .i64 b, .int .i64 y]) := by cases h; rfl
theorem pre_nil {p : ByteArray} {l : List UInt8} (h : p.data.toList = l) : p.toList.isEmpty = (l == []) := by
  rw [ByteArray.toList_eq, h]
  cases l <;> rfl
theorem oneI_not {ns : List Nat} (h : ns.length ≠ 1) : oneI ns = none := by
  match ns, h with
  | [], _ => rfl
  | [n], h => exact absurd rfl h
  | a :: b :: r, _ => rfl

set_option maxRecDepth 100000 in
set_option maxHeartbeats 2000000 in
theorem Char_any (s : ByteArray) (w : World) (hs : s.size ≤ 200000) (hL : LibVar w) :
    Calls Try.prog 10 #[.string s] w fun e w' => e = .returned (.tuple #[.int .i64 (charR s).1, .int .i64 ((charR s).2 : Nat)]) ∧ Below w.heap.size w w' := by
  obtain ⟨R, hR⟩ : ∃ R, charR s = R := ⟨_, rfl⟩
  unfold charR charC at hR
  have hR' : charR s = R := by unfold charR charC; exact hR
  rw [hR']
  clear hR'
  by_cases h : oneOf s = (3, true)
  · have C := numbers_lit s 3 w hs hL (.inl rfl) h
    rw [if_pos h] at hR
    have HL : ∀ ns, litC s.data.toList = some ns → preC s.data.toList = [] → ∀ x ∈ ns, x ≤ 255 := fun ns h1 h2 x hx => by
      unfold litC at h1
      have := elems_le _ _ _ _ h1 x hx
      rw [h2] at this
      exact this
    unfold LitR at C
    generalize litC s.data.toList = O at *
    generalize preC s.data.toList = pr at *
    cases O with
    | none =>
      have HO : Hid (R = (0, 40)) := Lib.hid hR.symm
      clear HL h hR
      go_enter Try.func10, Try.ntmps10
      go_wp2_with fail
      refine C.mono ?_
      rintro e w1 ⟨rfl, hb1⟩
      go_wp2
      go_ret2
      exact ⟨iI (by rw [HO.out]), hb1⟩
    | some ns =>
      have HL2 := HL ns rfl
      have hR : errI (valC pr ns) = R := hR
      clear HL h
      unfold valC at hR
      by_cases hp : pr = []
      · have HL3 := Lib.hid (HL2 hp)
        rw [if_pos hp] at hR
        clear HL2
        go_enter Try.func10, Try.ntmps10
        go_wp2_with fail
        refine C.mono ?_
        rintro e w1 ⟨⟨p, v, rfl, hpl, hrow⟩, hb1⟩
        have hpe := pre_nil hpl
        rw [hp] at hpe
        obtain ⟨n, hn⟩ : ∃ n, ns.length = n := ⟨_, rfl⟩
        have HN := Lib.hid hn
        rw [hn] at hrow hR
        obtain ⟨a, cap, rfl⟩ := row_shape hrow
        have hne : p.toList.isEmpty = true := by rw [hpe]; rfl
        clear hpl hp C hn hpe
        by_cases h4 : 4 < n
        · rw [if_pos h4] at hR
          have HO := Lib.hid hR
          have i1 : (4 : Int) < (n : Int) := by omega
          clear hrow hR
          go_wp2
          go_ret2
          exact ⟨iI (by rw [← HO.out]; rfl), hb1⟩
        · rw [if_neg h4] at hR
          have HO := Lib.hid hR
          have i1 : ¬ (4 : Int) < (n : Int) := by omega
          have CP := packed_any ns a n cap w1 HN.out (by omega) HL3.out (fun h0 => by
            obtain ⟨g, ha, _, hc⟩ := row_pos h0 hrow
            exact ⟨g, ha, hc⟩)
          clear hrow hR
          go_wp2_with fail
          refine CP.mono ?_
          rintro e w' ⟨rfl, rfl⟩
          go_wp2
          go_ret2
          exact ⟨iI (by rw [← HO.out]; rfl), hb1⟩
      · rw [if_neg hp] at hR
        clear HL2
        go_enter Try.func10, Try.ntmps10
        go_wp2_with fail
        refine C.mono ?_
        rintro e w1 ⟨⟨p, v, rfl, hpl, hrow⟩, hb1⟩
        have hpe := pre_nil hpl
        have hne : p.toList.isEmpty = false := by
          rw [hpe]
          cases pr with
          | nil => exact absurd rfl hp
          | cons c r => rfl
        obtain ⟨n, hn⟩ : ∃ n, ns.length = n := ⟨_, rfl⟩
        by_cases h1 : n = 1
        · subst h1
          obtain ⟨x, rfl⟩ : ∃ x, ns = [x] := by
            match ns, hn with
            | [x], _ => exact ⟨x, rfl⟩
          obtain ⟨g, cap, rfl, hc⟩ := row_some (n := 0) hrow
          have c0 : w1.cell? ⟨g, 0, none⟩ = some (.int .i64 (x : Nat)) := hc 0 _ rfl
          have HO := Lib.hid hR
          clear hpl hp C hn hpe hrow hc hR
          go_wp2
          go_ret2
          exact ⟨iI (by rw [← HO.out]; rfl), hb1⟩
        · rw [oneI_not (by rw [hn]; exact h1)] at hR
          rw [hn] at hrow
          obtain ⟨a, cap, rfl⟩ := row_shape hrow
          have HO := Lib.hid hR
          have i1 : ((n : Int) != 1) = true := by rw [bne_iff_ne]; omega
          clear hpl hp C hn hpe hrow hR h1
          go_wp2
          go_ret2
          exact ⟨iI (by rw [← HO.out]; rfl), hb1⟩
  · have C := numbers_not s 3 w hs hL h
    rw [if_neg h] at hR
    have HO := Lib.hid hR
    clear h hR
    go_enter Try.func10, Try.ntmps10
    go_wp2_with fail
    refine C.mono ?_
    rintro e w1 ⟨rfl, hb1⟩
    go_wp2
    go_ret2
    exact ⟨iI (by rw [← HO.out]; rfl), hb1⟩

/-- What Str answers: a row, or nothing and the error. -/
def StrR (w : World) (s : ByteArray) (e : Ending) (w' : World) : Prop := (match strC s with
  | some ns => ∃ v, e = .returned (.tuple #[v, .int .i64 0]) ∧ w'.ownsRow w.heap.size 2 1 v ns.length (intCells ns)
  | none => e = .returned (.tuple #[.slice none 0 0, .int .i64 40])) ∧ Below w.heap.size w w'
set_option maxRecDepth 100000 in
set_option maxHeartbeats 2000000 in
theorem Str_any (s : ByteArray) (w : World) (hs : s.size ≤ 200000) (hL : LibVar w) :
    Calls Try.prog 12 #[.string s] w (StrR w s) := by
  unfold StrR strC
  by_cases h : oneOf s = (4, true)
  · have C := numbers_lit s 4 w hs hL (.inr rfl) h
    rw [if_pos h]
    unfold LitR at C
    generalize litC s.data.toList = O at *
    clear h
    cases O with
    | none =>
      go_enter Try.func12, Try.ntmps12
      go_wp2_with fail
      refine C.mono ?_
      rintro e w1 ⟨rfl, hb1⟩
      go_wp2
      go_ret2
      exact ⟨rfl, hb1⟩
    | some ns =>
      go_enter Try.func12, Try.ntmps12
      go_wp2_with fail
      refine C.mono ?_
      rintro e w1 ⟨⟨p, v, rfl, -, hrow⟩, hb1⟩
      obtain ⟨a, cap, rfl⟩ := row_shape hrow
      have HROW := Lib.hid hrow
      clear hrow C
      go_wp2
      go_ret2
      exact ⟨⟨_, rfl, HROW.out⟩, hb1⟩
  · have C := numbers_not s 4 w hs hL h
    rw [if_neg h]
    clear h
    go_enter Try.func12, Try.ntmps12
    go_wp2_with fail
    refine C.mono ?_
    rintro e w1 ⟨rfl, hb1⟩
    go_wp2
    go_ret2
    exact ⟨rfl, hb1⟩

end Go.Proofs.Ytenmapahigbbeaa
