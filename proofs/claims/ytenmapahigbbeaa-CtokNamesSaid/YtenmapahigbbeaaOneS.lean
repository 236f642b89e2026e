/- scan.One. -/
import Derived.Test.YtenmapahigbbeaaFirst
namespace Go.Proofs.Ytenmapahigbbeaa
open Go.RowKit Go.Shelf

/-- The kind of a text that is one token, and whether it is. -/
def oneOf (s : ByteArray) : Nat × Bool := match firstOf s 1 with
  | [y] => if y.tx.toList == s.toList then (y.k, true) else (0, false)
  | _ => (0, false)
/-- Does a text consist of two tokens that are these two? -/
def apartB (a b : ByteArray) : Bool := match firstOf (a ++ b) 2 with
  | [x, y] => x.tx.toList == a.toList && y.tx.toList == b.toList
  | _ => false
def fusesOf (a b : ByteArray) : Bool × Nat := if (oneOf a).2 && (oneOf b).2 then (!apartB a b, 0) else (false, 2)

theorem first_len (s : ByteArray) (m : Nat) : (firstOf s m).length ≤ m := by
  unfold firstOf; rw [List.length_take]; omega

/-- A row with elements: where it lies; its cells. -/
theorem row_some {w : World} {base n : Nat} {e : TypeId} {size : Nat} {v : Value} {xs : List Value} (h : w.ownsRow base e size v (n + 1) xs) : ∃ g cap, v = .slice (some ⟨g, 0, none⟩) (n + 1) cap ∧ (∀ j u, xs[j]? = some u → w.cell? ⟨g, j, none⟩ = some u) := by
  obtain ⟨g, cap, rfl⟩ := ownsRow_succ h
  refine ⟨g, cap, rfl, fun j u hj => ?_⟩
  have := h.cells (g := g) rfl j u hj
  rcases j with _ | j <;> simpa [Addr.add] using this
theorem row_none {w : World} {base : Nat} {e : TypeId} {size : Nat} {v : Value} {xs : List Value} (h : w.ownsRow base e size v 0 xs) : ∃ a c, v = .slice a 0 c := by
  rcases h.2 with ⟨rfl, _⟩ | ⟨g, cap, cur, rfl, _⟩
  · exact ⟨_, _, rfl⟩
  · exact ⟨_, _, rfl⟩

theorem r2 {a c : Int} {b d : Bool} (h : a = c) (h2 : b = d) : Ending.returned (.tuple #[.int .i64 a, .bool b]) = .returned (.tuple #[.int .i64 c, .bool d]) := by rw [h, h2]

set_option maxHeartbeats 1000000 in
theorem one_any (s : ByteArray) (w : World) (hs : s.size ≤ 200000) (hL : LibVar w) :
    Calls Try.prog 60 #[.string s] w fun e w' => e = .returned (.tuple #[.int .i64 ((oneOf s).1 : Nat), .bool (oneOf s).2]) ∧ Below w.heap.size w w' := by
  have HF := firstTokens_any s 1 w hs (Nat.le_refl _) (by decide) hL
  have hl := first_len s 1
  have HO : Hid (oneOf s = match firstOf s 1 with | [y] => if y.tx.toList == s.toList then (y.k, true) else (0, false) | _ => (0, false)) := Lib.hid rfl
  match hfo : firstOf s 1, hl with
  | [], _ =>
    rw [hfo] at HF HO
    go_enter Try.func60, Try.ntmps60
    go_wp2_with fail
    refine HF.mono ?_
    rintro e w1 ⟨⟨v, rfl, hrow⟩, hb⟩
    obtain ⟨a, c, rfl⟩ := row_none hrow
    go_wp2
    go_ret2
    exact ⟨r2 (by rw [HO.out]; rfl) (by rw [HO.out]), hb⟩
  | [y], _ =>
    rw [hfo] at HF HO
    cases ht : (y.tx.toList == s.toList)
    · have hn : (!(y.tx.toList == s.toList)) = true := by rw [ht]; rfl
      have HO2 : Hid (oneOf s = (0, false)) := Lib.hid (by rw [HO.out]; simp only [ht]; rfl)
      clear HO ht
      go_enter Try.func60, Try.ntmps60
      go_wp2_with fail
      refine HF.mono ?_
      rintro e w1 ⟨⟨v, rfl, hrow⟩, hb⟩
      obtain ⟨g, cap, rfl, hc⟩ := row_some (n := 0) hrow
      have c0 := hc 0 _ rfl
      have c1 := hc 1 _ rfl
      clear hc
      go_wp2
      go_ret2
      exact ⟨r2 (by rw [HO2.out]; rfl) (by rw [HO2.out]), hb⟩
    · have hn : (!(y.tx.toList == s.toList)) = false := by rw [ht]; rfl
      have HO2 : Hid (oneOf s = (y.k, true)) := Lib.hid (by rw [HO.out]; simp only [ht]; rfl)
      clear HO ht
      go_enter Try.func60, Try.ntmps60
      go_wp2_with fail
      refine HF.mono ?_
      rintro e w1 ⟨⟨v, rfl, hrow⟩, hb⟩
      obtain ⟨g, cap, rfl, hc⟩ := row_some (n := 0) hrow
      have c0 := hc 0 _ rfl
      have c1 := hc 1 _ rfl
      clear hc
      go_wp2
      go_ret2
      exact ⟨r2 (by rw [HO2.out]) (by rw [HO2.out]), hb⟩

end Go.Proofs.Ytenmapahigbbeaa
