/- The law ScanSpaces: its walk (DRAFT: the first loop). -/
import Derived.Test.YtoepfehgimhmnaaSpaceA
import Derived.Test.YtoepfehgimhmnaaSpell
import Derived.Lib.AppendStr
import Derived.OneCell
namespace Go.Proofs.Ytoepfehgimhmnaa
open Go.RowKit Go.Shelf

theorem space_bad (s : ByteArray) (w : World) (hs : s.size ≤ maxLen) (hL : LibVar w) (h : scanErr s ≠ 0) :
    Calls Try.prog 8 #[.string s] w fun e w' => e = .returned (.bool true) ∧ Below w.heap.size w w' := by
  have HA := alive_any w hL
  have HC := fun w1 (hb : Below w.heap.size w w1) => scan_row s w1 hs (libVar_below hb hL)
  have ho : scanOf s = [] := by unfold scanOf; rw [if_neg h]
  rw [ho] at HC
  obtain ⟨n, hn⟩ : ∃ n, scanErr s = n := ⟨_, rfl⟩
  rw [hn] at HC h
  have hb0 : (n != 0) = true := by simpa using h
  clear hn ho
  go_enter Try.func8, Try.ntmps8
  go_wp2_with fail
  refine HA.mono ?_
  rintro e w1 ⟨rfl, hb1⟩
  go_wp2_with fail
  refine (HC _ hb1).mono ?_
  rintro e w2 ⟨⟨a, cap, rfl, hrow⟩, hb2⟩
  have hBB := hb1.trans (hb2.mono hb1.size)
  go_wp2
  go_ret
  exact ⟨rfl, hBB⟩

theorem space_long (s : ByteArray) (w : World) (hs : s.size ≤ maxLen) (hL : LibVar w) (h : scanErr s = 0) (hz : 20000 < s.size) :
    Calls Try.prog 8 #[.string s] w fun e w' => e = .returned (.bool true) ∧ Below w.heap.size w w' := by
  have HA := alive_any w hL
  have HC := fun w1 (hb : Below w.heap.size w w1) => scan_row s w1 hs (libVar_below hb hL)
  rw [h] at HC
  have hz1 : (20000 : Int) < (s.size : Int) := by omega
  clear h hz
  go_enter Try.func8, Try.ntmps8
  go_wp2_with fail
  refine HA.mono ?_
  rintro e w1 ⟨rfl, hb1⟩
  go_wp2_with fail
  refine (HC _ hb1).mono ?_
  rintro e w2 ⟨⟨a, cap, rfl, hrow⟩, hb2⟩
  have hBB := hb1.trans (hb2.mono hb1.size)
  go_wp2
  go_ret
  exact ⟨rfl, hBB⟩

end Go.Proofs.Ytoepfehgimhmnaa
