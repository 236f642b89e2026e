/- The law CtokClasses. -/
import Derived.Test.YtenmapahigbbeaaGreatRxGD
namespace Go.Proofs.YtenmapahigbbeaaGreat
open Go.RowKit Go.Shelf

set_option maxRecDepth 100000 in
set_option maxHeartbeats 4000000 in
theorem classes_any (k : Int) (s : ByteArray) (w : World) (hm : s.size ≤ maxLen) (hL : LibVar w) :
    Calls Tryz.prog 3 #[.int .i64 k, .string s] w fun e w' => e = .returned (.bool true) ∧ Below w.heap.size w w' := by
  have hm2 := hm
  unfold maxLen at hm
  by_cases hs : 1000 < s.size
  · have i1 : (1000 : Int) < (s.size : Int) := by omega
    go_enter Tryz.func3, Tryz.ntmps3
    go_wp2
    go_ret
    exact ⟨rfl, Below.refl _ _⟩
  · have i1 : ¬ (1000 : Int) < (s.size : Int) := by omega
    have hs1 : s.size ≤ 1000 := by omega
    have C1 := Class_any k s w (by omega) hL
    have C2 := fun w => rClass_any k s w hs1
    have C3 := fun w => Keyword_any s w
    have C4 := fun w => rKeyword_any s w hs1
    have C5 := fun w => Canon_any s w (by omega)
    have C6 := fun w => rCanon_any s w
    have C7 := fun w => Float_any s w hm2
    have C8 := fun w => rFloat_any s w hm2
    generalize clsR k s = R at *
    obtain ⟨c, t, x⟩ := R
    generalize kwB s.data.toList = q at *
    generalize canB s = cn at *
    generalize floatC s.data.toList = f at *
    simp only at C1 C2
    have e1 : (t.toList == t.toList) = true := by simp
    have e2 : (cn.toList == cn.toList) = true := by simp
    have e3 : (q == q) = true := by simp
    have e4 : (f == f) = true := by simp
    have e5 : ((c : Int) == (c : Int)) = true := by simp
    have e6 : ((x : Int) == (x : Int)) = true := by simp
    clear hs
    go_enter Tryz.func3, Tryz.ntmps3
    go_wp2_with fail
    refine C1.mono ?_
    rintro e w1 ⟨rfl, hb1⟩
    have hb1' := hb1.alloc hb1.size (.cells #[.int .i64 c, .string t] 23)
    go_wp2_with fail
    refine (C2 _).mono ?_
    rintro e w2 ⟨rfl, hb2⟩
    have hk := pair_below hb2
    have hB2 := hb1'.trans (hb2.mono hb1'.size)
    have hB2' := hB2.alloc hB2.size (.cells #[.int .i64 c, .string t] 23)
    obtain ⟨c0, c1, -, -⟩ := pair_cells hk
    have hl : w1.heap.size < w2.heap.size := (Array.getElem?_eq_some_iff.1 hk).1
    have d0 : (w2.alloc (.cells #[.int .i64 c, .string t] 23)).cell? ⟨w1.heap.size, 0, none⟩ = some (.int .i64 c) := ((below1 w2 _).cell (p := ⟨w1.heap.size, 0, none⟩) hl).trans c0
    have d1 : (w2.alloc (.cells #[.int .i64 c, .string t] 23)).cell? ⟨w1.heap.size, 1, none⟩ = some (.string t) := ((below1 w2 _).cell (p := ⟨w1.heap.size, 1, none⟩) hl).trans c1
    clear hk
    go_wp2_with fail
    refine (C3 _).mono ?_
    rintro e w' ⟨rfl, rfl⟩
    go_wp2_with fail
    refine (C4 _).mono ?_
    rintro e w' ⟨rfl, rfl⟩
    go_wp2_with fail
    refine (C5 _).mono ?_
    rintro e w3 ⟨rfl, hb3⟩
    have hB3 := hB2'.trans (hb3.mono hB2'.size)
    go_wp2_with fail
    refine (C6 _).mono ?_
    rintro e w' ⟨rfl, rfl⟩
    go_wp2_with fail
    refine (C7 _).mono ?_
    rintro e w4 ⟨rfl, hb4⟩
    have hB4 := hB3.trans (hb4.mono hB3.size)
    go_wp2_with fail
    refine (C8 _).mono ?_
    rintro e w' ⟨rfl, rfl⟩
    go_wp2
    go_ret
    exact ⟨rfl, hB4⟩

end Go.Proofs.YtenmapahigbbeaaGreat
