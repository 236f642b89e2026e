/- scan.One and scan.Fuses. -/
import Derived.Test.YtoepfehgimhmnaaFirst
namespace Go.Proofs.Ytoepfehgimhmnaa
open Go.RowKit Go.Shelf

/-- The kind of a text that is one token, and whether it is. -/
def oneOf (s : ByteArray) : Nat × Bool := match firstOf s 1 with
  | [y] => if y.tx.toList == s.toList then (y.k, true) else (0, false)
  | _ => (0, false)
/-- Does a text consist of two tokens that are these two? -/
def apartB (a b : ByteArray) : Bool := match firstOf (a ++ b) 2 with
  | [x, y] => x.tx.toList == a.toList && y.tx.toList == b.toList
  | _ => false
def fusesOf (a b : ByteArray) : Bool × Nat := if (oneOf a).2 && (oneOf b).2 then (!apartB a b, 0) else (false, 2)

theorem first_len (s : ByteArray) (m : Nat) : (firstOf s m).length ≤ m := by
  unfold firstOf; rw [List.length_take]; omega

/-- A row with elements: where it lies; its cells. -/
theorem row_some {w : World} {base n : Nat} {e : TypeId} {size : Nat} {v : Value} {xs : List Value} (h : w.ownsRow base e size v (n + 1) xs) : ∃ g cap, v = .slice (some ⟨g, 0, none⟩) (n + 1) cap ∧ (∀ j u, xs[j]? = some u → w.cell? ⟨g, j, none⟩ = some u) := by
  obtain ⟨g, cap, rfl⟩ := ownsRow_succ h
  refine ⟨g, cap, rfl, fun j u hj => ?_⟩
  have := h.cells (g := g) rfl j u hj
  rcases j with _ | j <;> simpa [Addr.add] using this
theorem row_none {w : World} {base : Nat} {e : TypeId} {size : Nat} {v : Value} {xs : List Value} (h : w.ownsRow base e size v 0 xs) : ∃ a c, v = .slice a 0 c := by
  rcases h.2 with ⟨rfl, _⟩ | ⟨g, cap, cur, rfl, _⟩
  · exact ⟨_, _, rfl⟩
  · exact ⟨_, _, rfl⟩

theorem r2 {a c : Int} {b d : Bool} (h : a = c) (h2 : b = d) : Ending.returned (.tuple #[.int .i64 a, .bool b]) = .returned (.tuple #[.int .i64 c, .bool d]) := by rw [h, h2]

set_option maxHeartbeats 1000000 in
theorem one_any (s : ByteArray) (w : World) (hs : s.size ≤ 200000) (hL : LibVar w) :
    Calls Try.prog 9 #[.string s] w fun e w' => e = .returned (.tuple #[.int .i64 ((oneOf s).1 : Nat), .bool (oneOf s).2]) ∧ Below w.heap.size w w' := by
  have HF := firstTokens_any s 1 w hs (Nat.le_refl _) (by decide) hL
  have hl := first_len s 1
  have HO : Hid (oneOf s = match firstOf s 1 with | [y] => if y.tx.toList == s.toList then (y.k, true) else (0, false) | _ => (0, false)) := Lib.hid rfl
  match hfo : firstOf s 1, hl with
  | [], _ =>
    rw [hfo] at HF HO
    go_enter Try.func9, Try.ntmps9
    go_wp2_with fail
    refine HF.mono ?_
    rintro e w1 ⟨⟨v, rfl, hrow⟩, hb⟩
    obtain ⟨a, c, rfl⟩ := row_none hrow
    go_wp2
    go_ret2
    exact ⟨r2 (by rw [HO.out]; rfl) (by rw [HO.out]), hb⟩
  | [y], _ =>
    rw [hfo] at HF HO
    cases ht : (y.tx.toList == s.toList)
    · have hn : (!(y.tx.toList == s.toList)) = true := by rw [ht]; rfl
      have HO2 : Hid (oneOf s = (0, false)) := Lib.hid (by rw [HO.out]; simp only [ht]; rfl)
      clear HO ht
      go_enter Try.func9, Try.ntmps9
      go_wp2_with fail
      refine HF.mono ?_
      rintro e w1 ⟨⟨v, rfl, hrow⟩, hb⟩
      obtain ⟨g, cap, rfl, hc⟩ := row_some (n := 0) hrow
      have c0 := hc 0 _ rfl
      have c1 := hc 1 _ rfl
      clear hc
      go_wp2
      go_ret2
      exact ⟨r2 (by rw [HO2.out]; rfl) (by rw [HO2.out]), hb⟩
    · have hn : (!(y.tx.toList == s.toList)) = false := by rw [ht]; rfl
      have HO2 : Hid (oneOf s = (y.k, true)) := Lib.hid (by rw [HO.out]; simp only [ht]; rfl)
      clear HO ht
      go_enter Try.func9, Try.ntmps9
      go_wp2_with fail
      refine HF.mono ?_
      rintro e w1 ⟨⟨v, rfl, hrow⟩, hb⟩
      obtain ⟨g, cap, rfl, hc⟩ := row_some (n := 0) hrow
      have c0 := hc 0 _ rfl
      have c1 := hc 1 _ rfl
      clear hc
      go_wp2
      go_ret2
      exact ⟨r2 (by rw [HO2.out]) (by rw [HO2.out]), hb⟩

theorem fuses_no {a b : ByteArray} (h : (oneOf a).2 = false ∨ (oneOf b).2 = false) : fusesOf a b = (false, 2) := by
  unfold fusesOf
  rw [if_neg]
  rcases h with h | h <;> simp [h]
theorem fuses_yes {a b : ByteArray} (h : (oneOf a).2 = true) (h2 : (oneOf b).2 = true) : fusesOf a b = (!apartB a b, 0) := by
  unfold fusesOf
  rw [if_pos (by rw [h, h2]; rfl)]

theorem rb2 {a b : Bool} {c d : Int} (h : a = b) (h2 : c = d) : Ending.returned (.tuple #[.bool a, .int .i64 c]) = .returned (.tuple #[.bool b, .int .i64 d]) := by rw [h, h2]

/-- The two texts are one token each: the loop runs through. -/
theorem idx2_0 (a b : ByteArray) : ∀ w : World, (Instr.index 49 (.agg #[.string a, .string b]) (.int .i64 0)).run Try.prog w = .ok (.string a) w := fun _ => by kernel_rfl
theorem idx2_1 (a b : ByteArray) : ∀ w : World, (Instr.index 49 (.agg #[.string a, .string b]) (.int .i64 1)).run Try.prog w = .ok (.string b) w := fun _ => by kernel_rfl

set_option maxRecDepth 100000 in
set_option maxHeartbeats 2000000 in
theorem fuses_bad (a b : ByteArray) (w : World) (ha : a.size ≤ 100000) (hb : b.size ≤ 100000) (hL : LibVar w) (h : (oneOf a).2 = false ∨ ((oneOf a).2 = true ∧ (oneOf b).2 = false)) :
    Calls Try.prog 11 #[.string a, .string b] w fun e w' => e = .returned (.tuple #[.bool false, .int .i64 2]) ∧ Below w.heap.size w w' := by
  have i0 := idx2_0 a b
  have i1 := idx2_1 a b
  have O1 := fun w' (h : Below w.heap.size w w') => one_any a w' (by omega) (libVar_below h hL)
  have O2 := fun w' (h : Below w.heap.size w w') => one_any b w' (by omega) (libVar_below h hL)
  rcases h with h | ⟨h, h2⟩
  · rw [h] at O1
    clear h
    go_enter Try.func11, Try.ntmps11
    go_wp2
    go_loopg [7, 8, 9, 15] 2 (fun g _ _ _ i wx => g = 2 ∧ i = .int .i64 0 ∧ Below w.heap.size w wx)
    case atStart => exact ⟨rfl, rfl, Below.refl _ _⟩
    case round =>
      obtain ⟨rfl, rfl, hbx⟩ := hrel
      go_wp2_with fail
      refine (O1 _ hbx).mono ?_
      rintro e w1 ⟨rfl, hb1⟩
      go_wp2
      go_ret2
      exact ⟨rfl, hbx.trans (hb1.mono hbx.size)⟩
  · rw [h] at O1
    rw [h2] at O2
    clear h h2
    go_enter Try.func11, Try.ntmps11
    go_wp2
    go_loopg [7, 8, 9, 15] 2 (fun g _ _ _ i wx => ((g = 2 ∧ i = .int .i64 0) ∨ (g = 1 ∧ i = .int .i64 1)) ∧ Below w.heap.size w wx)
    case atStart => exact ⟨.inl ⟨rfl, rfl⟩, Below.refl _ _⟩
    case round =>
      obtain ⟨⟨rfl, rfl⟩ | ⟨rfl, rfl⟩, hbx⟩ := hrel
      · go_wp2_with fail
        refine (O1 _ hbx).mono ?_
        rintro e w1 ⟨rfl, hb1⟩
        go_wp2
        go_roundg 1
        case rel => exact ⟨.inr ⟨rfl, rfl⟩, hbx.trans (hb1.mono hbx.size)⟩
        case measure => decide
      · go_wp2_with fail
        refine (O2 _ hbx).mono ?_
        rintro e w1 ⟨rfl, hb1⟩
        go_wp2
        go_ret2
        exact ⟨rfl, hbx.trans (hb1.mono hbx.size)⟩

set_option maxRecDepth 100000 in
set_option maxHeartbeats 2000000 in
theorem fuses_good (a b : ByteArray) (w : World) (ha : a.size ≤ 100000) (hb : b.size ≤ 100000) (hL : LibVar w) (h : (oneOf a).2 = true) (h2 : (oneOf b).2 = true) :
    Calls Try.prog 11 #[.string a, .string b] w fun e w' => e = .returned (.tuple #[.bool (!apartB a b), .int .i64 0]) ∧ Below w.heap.size w w' := by
  have i0 := idx2_0 a b
  have i1 := idx2_1 a b
  have O1 := fun w' (h : Below w.heap.size w w') => one_any a w' (by omega) (libVar_below h hL)
  have O2 := fun w' (h : Below w.heap.size w w') => one_any b w' (by omega) (libVar_below h hL)
  have hsz : (a ++ b).size ≤ 200000 := by rw [ByteArray.size_append]; omega
  have HF := fun w' (h : Below w.heap.size w w') => firstTokens_any (a ++ b) 2 w' hsz (by decide) (Nat.le_refl _) (libVar_below h hL)
  have hl := first_len (a ++ b) 2
  have HO : Hid (apartB a b = match firstOf (a ++ b) 2 with | [x, y] => x.tx.toList == a.toList && y.tx.toList == b.toList | _ => false) := Lib.hid rfl
  rw [h] at O1
  rw [h2] at O2
  clear h h2
  generalize hfo : firstOf (a ++ b) 2 = fo at *
  generalize apartB a b = ap at *
  clear hfo
  go_enter Try.func11, Try.ntmps11
  go_wp2
  go_loopg [7, 8, 9, 15] 2 (fun g _ _ _ i wx => ((g = 2 ∧ i = .int .i64 0) ∨ (g = 1 ∧ i = .int .i64 1) ∨ (g = 0 ∧ i = .int .i64 2)) ∧ Below w.heap.size w wx)
  case atStart => exact ⟨.inl ⟨rfl, rfl⟩, Below.refl _ _⟩
  case round =>
    obtain ⟨⟨rfl, rfl⟩ | ⟨rfl, rfl⟩ | ⟨rfl, rfl⟩, hbx⟩ := hrel
    · go_wp2_with fail
      refine (O1 _ hbx).mono ?_
      rintro e w1 ⟨rfl, hb1⟩
      go_wp2
      go_roundg 1
      case rel => exact ⟨.inr (.inl ⟨rfl, rfl⟩), hbx.trans (hb1.mono hbx.size)⟩
      case measure => decide
    · go_wp2_with fail
      refine (O2 _ hbx).mono ?_
      rintro e w1 ⟨rfl, hb1⟩
      go_wp2
      go_roundg 0
      case rel => exact ⟨.inr (.inr ⟨rfl, rfl⟩), hbx.trans (hb1.mono hbx.size)⟩
      case measure => decide
    · match fo, hl with
      | [], _ =>
        go_wp2_with fail
        refine (HF _ hbx).mono ?_
        rintro e w1 ⟨⟨v, rfl, hrow⟩, hb1⟩
        obtain ⟨a', c, rfl⟩ := row_none hrow
        go_wp2
        go_ret2
        exact ⟨rb2 (by rw [HO.out]; rfl) rfl, hbx.trans (hb1.mono hbx.size)⟩
      | [x], _ =>
        go_wp2_with fail
        refine (HF _ hbx).mono ?_
        rintro e w1 ⟨⟨v, rfl, hrow⟩, hb1⟩
        obtain ⟨g, cap, rfl, hc⟩ := row_some (n := 0) hrow
        go_wp2
        go_ret2
        exact ⟨rb2 (by rw [HO.out]; rfl) rfl, hbx.trans (hb1.mono hbx.size)⟩
      | [x, y], _ =>
        go_wp2_with fail
        refine (HF _ hbx).mono ?_
        rintro e w1 ⟨⟨v, rfl, hrow⟩, hb1⟩
        obtain ⟨g, cap, rfl, hc⟩ := row_some (n := 1) hrow
        have c1 := hc 1 _ rfl
        have c6 := hc 6 _ rfl
        clear hc
        cases h1 : (x.tx.toList == a.toList)
        · have HO2 : Hid (ap = false) := Lib.hid (by rw [HO.out]; simp only [h1]; rfl)
          go_wp2
          go_ret2
          exact ⟨rb2 (by rw [HO2.out]; rfl) rfl, hbx.trans (hb1.mono hbx.size)⟩
        · cases h2 : (y.tx.toList == b.toList)
          · have HO2 : Hid (ap = false) := Lib.hid (by rw [HO.out]; simp only [h1, h2]; rfl)
            go_wp2
            go_ret2
            exact ⟨rb2 (by rw [HO2.out]; rfl) rfl, hbx.trans (hb1.mono hbx.size)⟩
          · have HO2 : Hid (ap = true) := Lib.hid (by rw [HO.out]; simp only [h1, h2]; rfl)
            go_wp2
            go_ret2
            exact ⟨rb2 (by rw [HO2.out]; rfl) rfl, hbx.trans (hb1.mono hbx.size)⟩

/-- scan.Fuses AT ANY TWO TEXTS. -/
theorem fuses_any (a b : ByteArray) (w : World) (ha : a.size ≤ 100000) (hb : b.size ≤ 100000) (hL : LibVar w) :
    Calls Try.prog 11 #[.string a, .string b] w fun e w' => e = .returned (.tuple #[.bool (fusesOf a b).1, .int .i64 ((fusesOf a b).2 : Nat)]) ∧ Below w.heap.size w w' := by
  cases h : (oneOf a).2
  · rw [fuses_no (.inl h)]; exact fuses_bad a b w ha hb hL (.inl h)
  · cases h2 : (oneOf b).2
    · rw [fuses_no (.inr h2)]; exact fuses_bad a b w ha hb hL (.inr ⟨h, h2⟩)
    · rw [fuses_yes h h2]; exact fuses_good a b w ha hb hL h h2

end Go.Proofs.Ytoepfehgimhmnaa
