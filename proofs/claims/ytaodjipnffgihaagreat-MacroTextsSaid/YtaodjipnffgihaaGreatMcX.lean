/- The document's answer, layer 5: Define, with parameters. -/
import Derived.Test.YtaodjipnffgihaaGreatMcU
namespace Go.Proofs.YtaodjipnffgihaaGreat
open Go.RowKit Go.Shelf

theorem cutP_count {l : List Tz} {x : List ByteArray × Bool × List Tz} (h : cutP l = some x) : x.1.length ≤ l.length := by
  unfold cutP at h
  cases l with
  | nil => cases h
  | cons t r =>
    simp only at h
    split at h
    · cases h; exact Nat.zero_le _
    · have := (parP_len _ _ _ _ (Nat.le_refl _) h).2
      simpa using this

set_option maxRecDepth 100000 in
set_option maxHeartbeats 32000000 in
theorem rDefine_noopen (t u : Tz) (r : List Tz) (n cap : Nat) (a : Option Addr) (w : World) (hn : (t :: u :: r).length = n) (hnc : n ≤ cap) (hn2 : n * 48 ≤ 140737488355328) (hT : TzIn w a (t :: u :: r)) (hnm : nameP t = true) (hsp : u.sp = false) (hpo : isP u [40] = false) :
    Calls Tryz.prog 18 #[.slice a n cap] w (DefRes w (defineS (t :: u :: r))) := by
  obtain ⟨b, o, rfl, hg1, hr⟩ := hT (by simp)
  obtain ⟨c0', c1', -, -, -⟩ := hr 0 t rfl
  have hb0 := below1 w (.cells #[.string ⟨#[]⟩, .bool false, .slice none 0 0, .bool false, .slice none 0 0] 25)
  have hR0 := MzBox.new w (.string ⟨#[]⟩) (.bool false) (.slice none 0 0) (.bool false) (.slice none 0 0)
  have hb1 := hb0.alloc hb0.size (.cells #[.string ⟨#[100, 101, 102, 105, 110, 101, 100]⟩, .string ⟨#[95, 95, 86, 65, 95, 65, 82, 71, 83, 95, 95]⟩, .string ⟨#[95, 95, 76, 73, 78, 69, 95, 95]⟩, .string ⟨#[95, 80, 114, 97, 103, 109, 97]⟩] 9)
  have hR1 := hR0.below (below1 _ (.cells #[.string ⟨#[100, 101, 102, 105, 110, 101, 100]⟩, .string ⟨#[95, 95, 86, 65, 95, 65, 82, 71, 83, 95, 95]⟩, .string ⟨#[95, 95, 76, 73, 78, 69, 95, 95]⟩, .string ⟨#[95, 80, 114, 97, 103, 109, 97]⟩] 9))
  obtain ⟨-, c1, -, -, -⟩ := (hr.below hb1 hg1) 0 t rfl
  obtain ⟨c0, -, -, -, -⟩ := (hr.below hb0 hg1) 0 t rfl
  rw [Nat.zero_mul, Nat.add_zero] at c0 c1
  have HTZ : Hid (∀ W, Below w.heap.size w W → TzAt W b o (t :: u :: r)) := Lib.hid (fun W h => hr.below h hg1)
  have CN := rAmong_any [⟨#[100, 101, 102, 105, 110, 101, 100]⟩, ⟨#[95, 95, 86, 65, 95, 65, 82, 71, 83, 95, 95]⟩, ⟨#[95, 95, 76, 73, 78, 69, 95, 95]⟩, ⟨#[95, 80, 114, 97, 103, 109, 97]⟩] t.tx 4 4 _ ((w.alloc (.cells #[.string ⟨#[]⟩, .bool false, .slice none 0 0, .bool false, .slice none 0 0] 25)).alloc (.cells #[.string ⟨#[100, 101, 102, 105, 110, 101, 100]⟩, .string ⟨#[95, 95, 86, 65, 95, 65, 82, 71, 83, 95, 95]⟩, .string ⟨#[95, 95, 76, 73, 78, 69, 95, 95]⟩, .string ⟨#[95, 80, 114, 97, 103, 109, 97]⟩] 9)) rfl (by decide) (strIn_two w (.cells #[.string ⟨#[]⟩, .bool false, .slice none 0 0, .bool false, .slice none 0 0] 25) 9 #[.string ⟨#[100, 101, 102, 105, 110, 101, 100]⟩, .string ⟨#[95, 95, 86, 65, 95, 65, 82, 71, 83, 95, 95]⟩, .string ⟨#[95, 95, 76, 73, 78, 69, 95, 95]⟩, .string ⟨#[95, 80, 114, 97, 103, 109, 97]⟩] [⟨#[100, 101, 102, 105, 110, 101, 100]⟩, ⟨#[95, 95, 86, 65, 95, 65, 82, 71, 83, 95, 95]⟩, ⟨#[95, 95, 76, 73, 78, 69, 95, 95]⟩, ⟨#[95, 80, 114, 97, 103, 109, 97]⟩] rfl)
  have hnq := nameP_eq t
  have hn1 : 0 < n := by rw [← hn]; simp
  have q0 : ((n : Int) == 0) = false := beq_eq_false_iff_ne.2 (by omega)
  have q1 : (0 : Int) < (n : Int) := by omega
  have HN := Lib.hid hn
  have hk : (t.k == 1) = true := by
    cases h : (t.k == 1) with
    | true => rfl
    | false => unfold nameP at hnm; rw [h] at hnm; cases hnm
  have hk2 : (t.k != 1) = false := by unfold bne; rw [hk]; rfl
  have ham : amongS [⟨#[100, 101, 102, 105, 110, 101, 100]⟩, ⟨#[95, 95, 86, 65, 95, 65, 82, 71, 83, 95, 95]⟩, ⟨#[95, 95, 76, 73, 78, 69, 95, 95]⟩, ⟨#[95, 80, 114, 97, 103, 109, 97]⟩] t.tx = false := by
    rw [hnm, hk] at hnq
    simp only [Bool.true_and] at hnq
    cases h : amongS [⟨#[100, 101, 102, 105, 110, 101, 100]⟩, ⟨#[95, 95, 86, 65, 95, 65, 82, 71, 83, 95, 95]⟩, ⟨#[95, 95, 76, 73, 78, 69, 95, 95]⟩, ⟨#[95, 80, 114, 97, 103, 109, 97]⟩] t.tx with
    | false => rfl
    | true => rw [h] at hnq; cases hnq
  rw [ham] at CN
  have hR2 := hR1.below (below1 _ (.cells #[.string t.tx, .bool false, .slice none 0 0, .bool false, .slice none 0 0] 25))
  have hM2 := MzBox.new ((w.alloc (.cells #[.string ⟨#[]⟩, .bool false, .slice none 0 0, .bool false, .slice none 0 0] 25)).alloc (.cells #[.string ⟨#[100, 101, 102, 105, 110, 101, 100]⟩, .string ⟨#[95, 95, 86, 65, 95, 65, 82, 71, 83, 95, 95]⟩, .string ⟨#[95, 95, 76, 73, 78, 69, 95, 95]⟩, .string ⟨#[95, 80, 114, 97, 103, 109, 97]⟩] 9)) (.string t.tx) (.bool false) (.slice none 0 0) (.bool false) (.slice none 0 0)
  have hB2 := hb1.alloc hb1.size (.cells #[.string t.tx, .bool false, .slice none 0 0, .bool false, .slice none 0 0] 25)
  have hD : defineS (t :: u :: r) = none := by
    unfold defineS headS
    simp only
    rw [if_pos hnm, if_neg (by rw [hsp]; decide), if_neg (by rw [hpo]; decide)]
  have hn2' : 2 ≤ n := by rw [← hn]; simp
  have v5 : ¬ (cap : Int) = 1 := by omega
  have v6 : (1 : Int) ≤ (cap : Int) := by omega
  have v7 : (1 : Int) < (n : Int) := by omega
  have v8 : (1 : Int) ≤ (n : Int) := by omega
  obtain ⟨-, -, -, -, y4⟩ := (hr.below hB2 hg1) 1 u rfl
  rw [hsp, Nat.one_mul] at y4
  have CA := rat_any (t :: u :: r) n cap 1 (some ⟨b, o, none⟩) ⟨#[40]⟩ [40] (((w.alloc (.cells #[.string ⟨#[]⟩, .bool false, .slice none 0 0, .bool false, .slice none 0 0] 25)).alloc (.cells #[.string ⟨#[100, 101, 102, 105, 110, 101, 100]⟩, .string ⟨#[95, 95, 86, 65, 95, 65, 82, 71, 83, 95, 95]⟩, .string ⟨#[95, 95, 76, 73, 78, 69, 95, 95]⟩, .string ⟨#[95, 80, 114, 97, 103, 109, 97]⟩] 9)).alloc (.cells #[.string t.tx, .bool false, .slice none 0 0, .bool false, .slice none 0 0] 25)) (Lib.toList_data _) hn hn2 (fun _ => ⟨b, o, rfl, Nat.lt_of_lt_of_le hg1 hB2.size, hr.below hB2 hg1⟩)
  have hau : atP (t :: u :: r) 1 [40] = isP u [40] := rfl
  rw [hau, hpo] at CA
  rw [hD]
  have hMW : ((w.alloc (.cells #[.string ⟨#[]⟩, .bool false, .slice none 0 0, .bool false, .slice none 0 0] 25)).alloc (.cells #[.string ⟨#[100, 101, 102, 105, 110, 101, 100]⟩, .string ⟨#[95, 95, 86, 65, 95, 65, 82, 71, 83, 95, 95]⟩, .string ⟨#[95, 95, 76, 73, 78, 69, 95, 95]⟩, .string ⟨#[95, 80, 114, 97, 103, 109, 97]⟩] 9)).heap.size = w.heap.size + 1 + 1 := by simp
  rw [hMW] at hM2
  clear hn hT hr hD hnq ham hk hnm HTZ HN c0' c1' hR0 hR1 hb0 hb1 hMW hau hpo hsp
  go_enter Tryz.func18, Tryz.ntmps18
  go_wp2_with fail
  refine CN.mono ?_
  rintro e _ ⟨rfl, rfl⟩
  clear CN
  go_wp2_with fail
  refine CA.mono ?_
  rintro e _ ⟨rfl, rfl⟩
  clear hM2 c0 c1 y4
  generalize (((w.alloc (.cells #[.string ⟨#[]⟩, .bool false, .slice none 0 0, .bool false, .slice none 0 0] 25)).alloc (.cells #[.string ⟨#[100, 101, 102, 105, 110, 101, 100]⟩, .string ⟨#[95, 95, 86, 65, 95, 65, 82, 71, 83, 95, 95]⟩, .string ⟨#[95, 95, 76, 73, 78, 69, 95, 95]⟩, .string ⟨#[95, 80, 114, 97, 103, 109, 97]⟩] 9)).alloc (.cells #[.string t.tx, .bool false, .slice none 0 0, .bool false, .slice none 0 0] 25)) = WW at *
  obtain ⟨z0, z1, z2, z3, z4, f0, f1, f2, f3, f4⟩ := hR2.facts
  go_wp2
  refine bodyPost_ret (v := .tuple #[.agg #[.string ⟨#[]⟩, .bool false, .slice none 0 0, .bool false, .slice none 0 0], .int .i64 50]) (by simp [results, Tryz.results18, go_sem, z0, z1, z2, z3, z4]) rfl ?_
  exact DefRes.no rfl rfl (below_set5 hB2 (Nat.le_refl _))


set_option maxRecDepth 100000 in
set_option maxHeartbeats 32000000 in
theorem rDefine_noparams (t u : Tz) (r : List Tz) (n cap : Nat) (a : Option Addr) (w : World) (hn : (t :: u :: r).length = n) (hnc : n ≤ cap) (hn2 : n * 48 ≤ 140737488355328) (hT : TzIn w a (t :: u :: r)) (hnm : nameP t = true) (hsp : u.sp = false) (hpo : isP u [40] = true) (hcp : cutP r = none) :
    Calls Tryz.prog 18 #[.slice a n cap] w (DefRes w (defineS (t :: u :: r))) := by
  obtain ⟨b, o, rfl, hg1, hr⟩ := hT (by simp)
  obtain ⟨c0', c1', -, -, -⟩ := hr 0 t rfl
  have hb0 := below1 w (.cells #[.string ⟨#[]⟩, .bool false, .slice none 0 0, .bool false, .slice none 0 0] 25)
  have hR0 := MzBox.new w (.string ⟨#[]⟩) (.bool false) (.slice none 0 0) (.bool false) (.slice none 0 0)
  have hb1 := hb0.alloc hb0.size (.cells #[.string ⟨#[100, 101, 102, 105, 110, 101, 100]⟩, .string ⟨#[95, 95, 86, 65, 95, 65, 82, 71, 83, 95, 95]⟩, .string ⟨#[95, 95, 76, 73, 78, 69, 95, 95]⟩, .string ⟨#[95, 80, 114, 97, 103, 109, 97]⟩] 9)
  have hR1 := hR0.below (below1 _ (.cells #[.string ⟨#[100, 101, 102, 105, 110, 101, 100]⟩, .string ⟨#[95, 95, 86, 65, 95, 65, 82, 71, 83, 95, 95]⟩, .string ⟨#[95, 95, 76, 73, 78, 69, 95, 95]⟩, .string ⟨#[95, 80, 114, 97, 103, 109, 97]⟩] 9))
  obtain ⟨-, c1, -, -, -⟩ := (hr.below hb1 hg1) 0 t rfl
  obtain ⟨c0, -, -, -, -⟩ := (hr.below hb0 hg1) 0 t rfl
  rw [Nat.zero_mul, Nat.add_zero] at c0 c1
  have HTZ : Hid (∀ W, Below w.heap.size w W → TzAt W b o (t :: u :: r)) := Lib.hid (fun W h => hr.below h hg1)
  have CN := rAmong_any [⟨#[100, 101, 102, 105, 110, 101, 100]⟩, ⟨#[95, 95, 86, 65, 95, 65, 82, 71, 83, 95, 95]⟩, ⟨#[95, 95, 76, 73, 78, 69, 95, 95]⟩, ⟨#[95, 80, 114, 97, 103, 109, 97]⟩] t.tx 4 4 _ ((w.alloc (.cells #[.string ⟨#[]⟩, .bool false, .slice none 0 0, .bool false, .slice none 0 0] 25)).alloc (.cells #[.string ⟨#[100, 101, 102, 105, 110, 101, 100]⟩, .string ⟨#[95, 95, 86, 65, 95, 65, 82, 71, 83, 95, 95]⟩, .string ⟨#[95, 95, 76, 73, 78, 69, 95, 95]⟩, .string ⟨#[95, 80, 114, 97, 103, 109, 97]⟩] 9)) rfl (by decide) (strIn_two w (.cells #[.string ⟨#[]⟩, .bool false, .slice none 0 0, .bool false, .slice none 0 0] 25) 9 #[.string ⟨#[100, 101, 102, 105, 110, 101, 100]⟩, .string ⟨#[95, 95, 86, 65, 95, 65, 82, 71, 83, 95, 95]⟩, .string ⟨#[95, 95, 76, 73, 78, 69, 95, 95]⟩, .string ⟨#[95, 80, 114, 97, 103, 109, 97]⟩] [⟨#[100, 101, 102, 105, 110, 101, 100]⟩, ⟨#[95, 95, 86, 65, 95, 65, 82, 71, 83, 95, 95]⟩, ⟨#[95, 95, 76, 73, 78, 69, 95, 95]⟩, ⟨#[95, 80, 114, 97, 103, 109, 97]⟩] rfl)
  have hnq := nameP_eq t
  have hn1 : 0 < n := by rw [← hn]; simp
  have q0 : ((n : Int) == 0) = false := beq_eq_false_iff_ne.2 (by omega)
  have q1 : (0 : Int) < (n : Int) := by omega
  have HN := Lib.hid hn
  have hk : (t.k == 1) = true := by
    cases h : (t.k == 1) with
    | true => rfl
    | false => unfold nameP at hnm; rw [h] at hnm; cases hnm
  have hk2 : (t.k != 1) = false := by unfold bne; rw [hk]; rfl
  have ham : amongS [⟨#[100, 101, 102, 105, 110, 101, 100]⟩, ⟨#[95, 95, 86, 65, 95, 65, 82, 71, 83, 95, 95]⟩, ⟨#[95, 95, 76, 73, 78, 69, 95, 95]⟩, ⟨#[95, 80, 114, 97, 103, 109, 97]⟩] t.tx = false := by
    rw [hnm, hk] at hnq
    simp only [Bool.true_and] at hnq
    cases h : amongS [⟨#[100, 101, 102, 105, 110, 101, 100]⟩, ⟨#[95, 95, 86, 65, 95, 65, 82, 71, 83, 95, 95]⟩, ⟨#[95, 95, 76, 73, 78, 69, 95, 95]⟩, ⟨#[95, 80, 114, 97, 103, 109, 97]⟩] t.tx with
    | false => rfl
    | true => rw [h] at hnq; cases hnq
  rw [ham] at CN
  have hR2 := hR1.below (below1 _ (.cells #[.string t.tx, .bool false, .slice none 0 0, .bool false, .slice none 0 0] 25))
  have hM2 := MzBox.new ((w.alloc (.cells #[.string ⟨#[]⟩, .bool false, .slice none 0 0, .bool false, .slice none 0 0] 25)).alloc (.cells #[.string ⟨#[100, 101, 102, 105, 110, 101, 100]⟩, .string ⟨#[95, 95, 86, 65, 95, 65, 82, 71, 83, 95, 95]⟩, .string ⟨#[95, 95, 76, 73, 78, 69, 95, 95]⟩, .string ⟨#[95, 80, 114, 97, 103, 109, 97]⟩] 9)) (.string t.tx) (.bool false) (.slice none 0 0) (.bool false) (.slice none 0 0)
  have hB2 := hb1.alloc hb1.size (.cells #[.string t.tx, .bool false, .slice none 0 0, .bool false, .slice none 0 0] 25)
  have hD : defineS (t :: u :: r) = match cutP r with
      | none => none
      | some (p, v, l) => if mayB true v p l then some ⟨t.tx, true, p, v, firstNo (l.map pzOf)⟩ else none := by
    unfold defineS headS
    simp only
    rw [if_pos hnm, if_neg (by rw [hsp]; decide), if_pos hpo]
    cases cutP r with
    | none => rfl
    | some x => rfl
  obtain ⟨X, hX⟩ : ∃ X, defineS (t :: u :: r) = X := ⟨_, rfl⟩
  rw [hX] at hD
  rw [hX]
  have hn2' : 2 ≤ n := by rw [← hn]; simp
  have v5 : ¬ (cap : Int) = 1 := by omega
  have v6 : (1 : Int) ≤ (cap : Int) := by omega
  have v7 : (1 : Int) < (n : Int) := by omega
  have v8 : (1 : Int) ≤ (n : Int) := by omega
  obtain ⟨-, -, -, -, y4⟩ := (hr.below hB2 hg1) 1 u rfl
  rw [hsp, Nat.one_mul] at y4
  have CA := rat_any (t :: u :: r) n cap 1 (some ⟨b, o, none⟩) ⟨#[40]⟩ [40] (((w.alloc (.cells #[.string ⟨#[]⟩, .bool false, .slice none 0 0, .bool false, .slice none 0 0] 25)).alloc (.cells #[.string ⟨#[100, 101, 102, 105, 110, 101, 100]⟩, .string ⟨#[95, 95, 86, 65, 95, 65, 82, 71, 83, 95, 95]⟩, .string ⟨#[95, 95, 76, 73, 78, 69, 95, 95]⟩, .string ⟨#[95, 80, 114, 97, 103, 109, 97]⟩] 9)).alloc (.cells #[.string t.tx, .bool false, .slice none 0 0, .bool false, .slice none 0 0] 25)) (Lib.toList_data _) hn hn2 (fun _ => ⟨b, o, rfl, Nat.lt_of_lt_of_le hg1 hB2.size, hr.below hB2 hg1⟩)
  have hau : atP (t :: u :: r) 1 [40] = isP u [40] := rfl
  rw [hau, hpo] at CA
  have CP := rParams_any (t :: u :: r) n cap 2 b o (((w.alloc (.cells #[.string ⟨#[]⟩, .bool false, .slice none 0 0, .bool false, .slice none 0 0] 25)).alloc (.cells #[.string ⟨#[100, 101, 102, 105, 110, 101, 100]⟩, .string ⟨#[95, 95, 86, 65, 95, 65, 82, 71, 83, 95, 95]⟩, .string ⟨#[95, 95, 76, 73, 78, 69, 95, 95]⟩, .string ⟨#[95, 80, 114, 97, 103, 109, 97]⟩] 9)).alloc (.cells #[.string t.tx, .bool false, .slice none 0 0, .bool false, .slice none 0 0] 25)) hn hn2' hn2 (Nat.lt_of_lt_of_le hg1 hB2.size) (hr.below hB2 hg1)
  have hd2 : (t :: u :: r).drop 2 = r := rfl
  rw [hd2] at CP
  have hMW : ((w.alloc (.cells #[.string ⟨#[]⟩, .bool false, .slice none 0 0, .bool false, .slice none 0 0] 25)).alloc (.cells #[.string ⟨#[100, 101, 102, 105, 110, 101, 100]⟩, .string ⟨#[95, 95, 86, 65, 95, 65, 82, 71, 83, 95, 95]⟩, .string ⟨#[95, 95, 76, 73, 78, 69, 95, 95]⟩, .string ⟨#[95, 80, 114, 97, 103, 109, 97]⟩] 9)).heap.size = w.heap.size + 1 + 1 := by simp
  rw [hMW] at hM2
  have hrl : r.length = n - 2 := by rw [← hn]; simp
  rw [hcp] at CP hD
  have HNO : Hid (X = none) := Lib.hid hD
  clear hD hcp
  clear hn hT hr hX hnq ham hk hnm HTZ HN c0' c1' hR0 hR1 hb0 hb1 hMW hau hpo hsp hd2
  go_enter Tryz.func18, Tryz.ntmps18
  go_wp2_with fail
  refine CN.mono ?_
  rintro e _ ⟨rfl, rfl⟩
  clear CN
  go_wp2_with fail
  refine CA.mono ?_
  rintro e _ ⟨rfl, rfl⟩
  clear CA
  go_wp2_with fail
  refine CP.mono ?_
  rintro e w3 ⟨rfl, hb3⟩
  have hR3 := hR2.below hb3
  have hB3 := hB2.trans (hb3.mono hB2.size)
  obtain ⟨z0, z1, z2, z3, z4, f0, f1, f2, f3, f4⟩ := hR3.facts
  go_wp2
  refine bodyPost_ret (v := .tuple #[.agg #[.string ⟨#[]⟩, .bool false, .slice none 0 0, .bool false, .slice none 0 0], .int .i64 50]) (by simp [results, Tryz.results18, go_sem, z0, z1, z2, z3, z4]) rfl ?_
  exact DefRes.no HNO.out rfl (below_set5 hB3 (Nat.le_refl _))


set_option maxRecDepth 100000 in
set_option maxHeartbeats 32000000 in
theorem rDefine_par1 (t u : Tz) (r : List Tz) (p : List ByteArray) (vr : Bool) (l : List Tz) (n cap : Nat) (a : Option Addr) (w : World) (hn : (t :: u :: r).length = n) (hnc : n ≤ cap) (hn2 : n * 48 ≤ 140737488355328) (hT : TzIn w a (t :: u :: r)) (hnm : nameP t = true) (hsp : u.sp = false) (hpo : isP u [40] = true) (hcp : cutP r = some (p, vr, l)) (hl0 : l = []) (hcap : cap = n) :
    Calls Tryz.prog 18 #[.slice a n cap] w (DefRes w (defineS (t :: u :: r))) := by
  obtain ⟨b, o, rfl, hg1, hr⟩ := hT (by simp)
  obtain ⟨c0', c1', -, -, -⟩ := hr 0 t rfl
  have hb0 := below1 w (.cells #[.string ⟨#[]⟩, .bool false, .slice none 0 0, .bool false, .slice none 0 0] 25)
  have hR0 := MzBox.new w (.string ⟨#[]⟩) (.bool false) (.slice none 0 0) (.bool false) (.slice none 0 0)
  have hb1 := hb0.alloc hb0.size (.cells #[.string ⟨#[100, 101, 102, 105, 110, 101, 100]⟩, .string ⟨#[95, 95, 86, 65, 95, 65, 82, 71, 83, 95, 95]⟩, .string ⟨#[95, 95, 76, 73, 78, 69, 95, 95]⟩, .string ⟨#[95, 80, 114, 97, 103, 109, 97]⟩] 9)
  have hR1 := hR0.below (below1 _ (.cells #[.string ⟨#[100, 101, 102, 105, 110, 101, 100]⟩, .string ⟨#[95, 95, 86, 65, 95, 65, 82, 71, 83, 95, 95]⟩, .string ⟨#[95, 95, 76, 73, 78, 69, 95, 95]⟩, .string ⟨#[95, 80, 114, 97, 103, 109, 97]⟩] 9))
  obtain ⟨-, c1, -, -, -⟩ := (hr.below hb1 hg1) 0 t rfl
  obtain ⟨c0, -, -, -, -⟩ := (hr.below hb0 hg1) 0 t rfl
  rw [Nat.zero_mul, Nat.add_zero] at c0 c1
  have HTZ : Hid (∀ W, Below w.heap.size w W → TzAt W b o (t :: u :: r)) := Lib.hid (fun W h => hr.below h hg1)
  have CN := rAmong_any [⟨#[100, 101, 102, 105, 110, 101, 100]⟩, ⟨#[95, 95, 86, 65, 95, 65, 82, 71, 83, 95, 95]⟩, ⟨#[95, 95, 76, 73, 78, 69, 95, 95]⟩, ⟨#[95, 80, 114, 97, 103, 109, 97]⟩] t.tx 4 4 _ ((w.alloc (.cells #[.string ⟨#[]⟩, .bool false, .slice none 0 0, .bool false, .slice none 0 0] 25)).alloc (.cells #[.string ⟨#[100, 101, 102, 105, 110, 101, 100]⟩, .string ⟨#[95, 95, 86, 65, 95, 65, 82, 71, 83, 95, 95]⟩, .string ⟨#[95, 95, 76, 73, 78, 69, 95, 95]⟩, .string ⟨#[95, 80, 114, 97, 103, 109, 97]⟩] 9)) rfl (by decide) (strIn_two w (.cells #[.string ⟨#[]⟩, .bool false, .slice none 0 0, .bool false, .slice none 0 0] 25) 9 #[.string ⟨#[100, 101, 102, 105, 110, 101, 100]⟩, .string ⟨#[95, 95, 86, 65, 95, 65, 82, 71, 83, 95, 95]⟩, .string ⟨#[95, 95, 76, 73, 78, 69, 95, 95]⟩, .string ⟨#[95, 80, 114, 97, 103, 109, 97]⟩] [⟨#[100, 101, 102, 105, 110, 101, 100]⟩, ⟨#[95, 95, 86, 65, 95, 65, 82, 71, 83, 95, 95]⟩, ⟨#[95, 95, 76, 73, 78, 69, 95, 95]⟩, ⟨#[95, 80, 114, 97, 103, 109, 97]⟩] rfl)
  have hnq := nameP_eq t
  have hn1 : 0 < n := by rw [← hn]; simp
  have q0 : ((n : Int) == 0) = false := beq_eq_false_iff_ne.2 (by omega)
  have q1 : (0 : Int) < (n : Int) := by omega
  have HN := Lib.hid hn
  have hk : (t.k == 1) = true := by
    cases h : (t.k == 1) with
    | true => rfl
    | false => unfold nameP at hnm; rw [h] at hnm; cases hnm
  have hk2 : (t.k != 1) = false := by unfold bne; rw [hk]; rfl
  have ham : amongS [⟨#[100, 101, 102, 105, 110, 101, 100]⟩, ⟨#[95, 95, 86, 65, 95, 65, 82, 71, 83, 95, 95]⟩, ⟨#[95, 95, 76, 73, 78, 69, 95, 95]⟩, ⟨#[95, 80, 114, 97, 103, 109, 97]⟩] t.tx = false := by
    rw [hnm, hk] at hnq
    simp only [Bool.true_and] at hnq
    cases h : amongS [⟨#[100, 101, 102, 105, 110, 101, 100]⟩, ⟨#[95, 95, 86, 65, 95, 65, 82, 71, 83, 95, 95]⟩, ⟨#[95, 95, 76, 73, 78, 69, 95, 95]⟩, ⟨#[95, 80, 114, 97, 103, 109, 97]⟩] t.tx with
    | false => rfl
    | true => rw [h] at hnq; cases hnq
  rw [ham] at CN
  have hR2 := hR1.below (below1 _ (.cells #[.string t.tx, .bool false, .slice none 0 0, .bool false, .slice none 0 0] 25))
  have hM2 := MzBox.new ((w.alloc (.cells #[.string ⟨#[]⟩, .bool false, .slice none 0 0, .bool false, .slice none 0 0] 25)).alloc (.cells #[.string ⟨#[100, 101, 102, 105, 110, 101, 100]⟩, .string ⟨#[95, 95, 86, 65, 95, 65, 82, 71, 83, 95, 95]⟩, .string ⟨#[95, 95, 76, 73, 78, 69, 95, 95]⟩, .string ⟨#[95, 80, 114, 97, 103, 109, 97]⟩] 9)) (.string t.tx) (.bool false) (.slice none 0 0) (.bool false) (.slice none 0 0)
  have hB2 := hb1.alloc hb1.size (.cells #[.string t.tx, .bool false, .slice none 0 0, .bool false, .slice none 0 0] 25)
  have hD : defineS (t :: u :: r) = match cutP r with
      | none => none
      | some (p, v, l) => if mayB true v p l then some ⟨t.tx, true, p, v, firstNo (l.map pzOf)⟩ else none := by
    unfold defineS headS
    simp only
    rw [if_pos hnm, if_neg (by rw [hsp]; decide), if_pos hpo]
    cases cutP r with
    | none => rfl
    | some x => rfl
  obtain ⟨X, hX⟩ : ∃ X, defineS (t :: u :: r) = X := ⟨_, rfl⟩
  rw [hX] at hD
  rw [hX]
  have hn2' : 2 ≤ n := by rw [← hn]; simp
  have v5 : ¬ (cap : Int) = 1 := by omega
  have v6 : (1 : Int) ≤ (cap : Int) := by omega
  have v7 : (1 : Int) < (n : Int) := by omega
  have v8 : (1 : Int) ≤ (n : Int) := by omega
  obtain ⟨-, -, -, -, y4⟩ := (hr.below hB2 hg1) 1 u rfl
  rw [hsp, Nat.one_mul] at y4
  have CA := rat_any (t :: u :: r) n cap 1 (some ⟨b, o, none⟩) ⟨#[40]⟩ [40] (((w.alloc (.cells #[.string ⟨#[]⟩, .bool false, .slice none 0 0, .bool false, .slice none 0 0] 25)).alloc (.cells #[.string ⟨#[100, 101, 102, 105, 110, 101, 100]⟩, .string ⟨#[95, 95, 86, 65, 95, 65, 82, 71, 83, 95, 95]⟩, .string ⟨#[95, 95, 76, 73, 78, 69, 95, 95]⟩, .string ⟨#[95, 80, 114, 97, 103, 109, 97]⟩] 9)).alloc (.cells #[.string t.tx, .bool false, .slice none 0 0, .bool false, .slice none 0 0] 25)) (Lib.toList_data _) hn hn2 (fun _ => ⟨b, o, rfl, Nat.lt_of_lt_of_le hg1 hB2.size, hr.below hB2 hg1⟩)
  have hau : atP (t :: u :: r) 1 [40] = isP u [40] := rfl
  rw [hau, hpo] at CA
  have CP := rParams_any (t :: u :: r) n cap 2 b o (((w.alloc (.cells #[.string ⟨#[]⟩, .bool false, .slice none 0 0, .bool false, .slice none 0 0] 25)).alloc (.cells #[.string ⟨#[100, 101, 102, 105, 110, 101, 100]⟩, .string ⟨#[95, 95, 86, 65, 95, 65, 82, 71, 83, 95, 95]⟩, .string ⟨#[95, 95, 76, 73, 78, 69, 95, 95]⟩, .string ⟨#[95, 80, 114, 97, 103, 109, 97]⟩] 9)).alloc (.cells #[.string t.tx, .bool false, .slice none 0 0, .bool false, .slice none 0 0] 25)) hn hn2' hn2 (Nat.lt_of_lt_of_le hg1 hB2.size) (hr.below hB2 hg1)
  have hd2 : (t :: u :: r).drop 2 = r := rfl
  rw [hd2] at CP
  have hMW : ((w.alloc (.cells #[.string ⟨#[]⟩, .bool false, .slice none 0 0, .bool false, .slice none 0 0] 25)).alloc (.cells #[.string ⟨#[100, 101, 102, 105, 110, 101, 100]⟩, .string ⟨#[95, 95, 86, 65, 95, 65, 82, 71, 83, 95, 95]⟩, .string ⟨#[95, 95, 76, 73, 78, 69, 95, 95]⟩, .string ⟨#[95, 80, 114, 97, 103, 109, 97]⟩] 9)).heap.size = w.heap.size + 1 + 1 := by simp
  rw [hMW] at hM2
  have hrl : r.length = n - 2 := by rw [← hn]; simp
  rw [hcp] at CP hD
  have htl := cutP_tail hcp
  simp only at htl hD
  have hl2 : l = (t :: u :: r).drop (n - l.length) := by
    have e : n - l.length = (r.length - l.length) + 1 + 1 := by omega
    rw [e, List.drop_succ_cons, List.drop_succ_cons]
    exact htl.1
  have hll : l.length + 3 ≤ n := by omega
  subst hcap
  have hLn : l.length = 0 := by rw [hl0]; rfl
  have hdn : (t :: u :: r).drop cap = l := by rw [hl0]; exact List.drop_eq_nil_of_le (by rw [hn]; exact Nat.le_refl _)
  rw [← hdn] at hD
  have w1' : (0 : Int) ≤ (cap : Int) := by omega
  have HD2 : Hid (X = if mayB true vr p ((t :: u :: r).drop (cap)) then some ⟨t.tx, true, p, vr, firstNo (((t :: u :: r).drop (cap)).map pzOf)⟩ else none) := Lib.hid hD
  have hcf := cutP_count hcp
  obtain ⟨pn, hpn⟩ : ∃ pn, p.length = pn := ⟨_, rfl⟩
  rw [hpn] at hcf
  have HPN := Lib.hid hpn
  have HLF : Hid (((t :: u :: r).drop (cap)).length = 0) := Lib.hid (by rw [List.length_drop, hn, Nat.sub_self])
  have HTF : Hid (∀ W, Below w.heap.size w W → TzIn W (some ⟨b, o, none⟩) ((t :: u :: r).drop (cap))) := Lib.hid (fun W h => tzIn_offs (Nat.lt_of_lt_of_le hg1 h.size) (hr.below h hg1) (fun h => absurd h (by rw [hn]; omega)))
  clear hD hcp htl hl2
  obtain ⟨ts, hts⟩ : ∃ ts, (t :: u :: r) = ts := ⟨_, rfl⟩
  rw [hts] at HD2 HLF HTF
  clear hn hT hr hX hnq ham hk hnm HTZ HN c0' c1' hR0 hR1 hb0 hb1 hMW hau hpo hsp hd2 hts hpn
  go_enter Tryz.func18, Tryz.ntmps18
  go_wp2_with fail
  refine CN.mono ?_
  rintro e _ ⟨rfl, rfl⟩
  clear CN
  go_wp2_with fail
  refine CA.mono ?_
  rintro e _ ⟨rfl, rfl⟩
  clear CA
  go_wp2_with fail
  refine CP.mono ?_
  rintro e w3 ⟨⟨pv, rfl, hprow⟩, hb3⟩
  rw [HPN.out] at hprow
  obtain ⟨pa, pc, rfl⟩ := row_shape hprow
  have hR3 := hR2.below hb3
  have hM3 := hM2.below hb3
  have hB3 := hB2.trans (hb3.mono hB2.size)
  have hplt := hprow.lt
  have hpM : ∀ j, (Value.ownBlock (.slice pa pn pc)) = some j → w.heap.size < j ∧ j ≠ (w.heap.size + 1 + 1) := fun j h => by
    have := (hplt j h).1
    simp at this
    omega
  have hFe : cap - l.length = cap := by omega
  rw [hFe]
  obtain ⟨x0, x1, x2, x3, x4, g0, g1, g2, g3, g4⟩ := hM3.facts
  have hM4 := hM3.set1 (.bool true)
  obtain ⟨y0, y1, y2, y3, y4, h0, h1, h2, h3, h4⟩ := hM4.facts
  have hM5 := hM4.set2 (.slice pa pn pc)
  obtain ⟨u0, u1, u2, u3, u4, e0, e1, e2, e3, e4⟩ := hM5.facts
  have hMb := hM5.set3 (.bool vr)
  have hprow2 := row_setC (P := (w.heap.size + 1 + 1)) (i := 3) (a := .bool vr) (row_setC (P := (w.heap.size + 1 + 1)) (i := 2) (a := .slice pa pn pc) (row_setC (P := (w.heap.size + 1 + 1)) (i := 1) (a := .bool true) hprow (fun j h => (hpM j h).2)) (fun j h => (hpM j h).2)) (fun j h => (hpM j h).2)
  have hBw := ((hB3.setCell (p := ⟨(w.heap.size + 1 + 1), 1, none⟩) (show w.heap.size ≤ (w.heap.size + 1 + 1) by omega) (.bool true)).setCell (p := ⟨(w.heap.size + 1 + 1), 2, none⟩) (show w.heap.size ≤ (w.heap.size + 1 + 1) by omega) (.slice pa pn pc)).setCell (p := ⟨(w.heap.size + 1 + 1), 3, none⟩) (show w.heap.size ≤ (w.heap.size + 1 + 1) by omega) (.bool vr)
  have hRb := ((hR3.far (show (w.heap.size + 1 + 1) ≠ w.heap.size by omega) (i := 1) (u := .bool true)).far (show (w.heap.size + 1 + 1) ≠ w.heap.size by omega) (i := 2) (u := .slice pa pn pc)).far (show (w.heap.size + 1 + 1) ≠ w.heap.size by omega) (i := 3) (u := .bool vr)
  have hprow3 := row_lower0 (b' := w.heap.size) (by simp; omega) hprow2
  go_upto_region 15 with fail
  clear x0 x1 x2 x3 x4 g0 g1 g2 g3 g4 y0 y1 y2 y3 y4 h0 h1 h2 h3 h4 u0 u1 u2 u3 u4 e0 e1 e2 e3 e4 hM5 hM4 hM3 hR3 hB3 hb3 hprow hprow2 hplt hR2 hM2 hB2
  have hprow := hprow3
  clear hprow3
  generalize (((w3.setCell ⟨(w.heap.size + 1 + 1), 1, none⟩ (.bool true)).setCell ⟨(w.heap.size + 1 + 1), 2, none⟩ (.slice pa pn pc)).setCell ⟨(w.heap.size + 1 + 1), 3, none⟩ (.bool vr)) = WW at *
  have hMs := (Array.getElem?_eq_some_iff.1 hMb).1
  have CM := fun (W : World) (h : Below w.heap.size w W) (hp : StrIn W pa p) => rMay_any t.tx true vr p pa pn pc (.slice none 0 0) (ts.drop (cap)) (0) (0) (some ⟨b, o, none⟩) W HLF.out (by have := HLF.out; omega) (HTF.out W h) HPN.out (by omega) hp
  cases hmb : mayB true vr p (ts.drop (cap)) with
  | false =>
    have HNO : Hid (X = none) := Lib.hid (by rw [HD2.out, hmb]; rfl)
    rw [hmb] at CM
    clear hmb HD2
    refine wp_region_held_drew (S := (fun W : World => MzBox W (w.heap.size + 1 + 1) (.string t.tx) (.bool true) (.slice pa pn pc) (.bool vr) (.slice none 0 0))) (by kernel_rfl) hMb (fun hS => ?_)
    refine take_op (i := 0) (d := 62) (v := .agg #[.string t.tx, .bool true, .slice pa pn pc, .bool vr, .slice none 0 0]) rfl rfl (by kernel_rfl) (by kernel_rfl) (by kernel_rfl) (fun _ _ _ h => h) (Or.inl ⟨by rfl, ?_⟩) hS ?_
    · rintro W hW
      obtain ⟨x0, x1, x2, x3, x4, -, -, -, -, -⟩ := MzBox.facts hW
      go_simp
      try (intro hh; exfalso; omega)
    simp only [List.setIfInBounds_toArray, List.set_cons_zero, List.set_cons_succ]
    refine take_op (i := 1) (d := 63) (v := .slice (some ⟨b, o, none⟩) cap cap) rfl rfl (by kernel_rfl) (by kernel_rfl) (by kernel_rfl) (fun _ _ _ h => h) (Or.inl ⟨by rfl, ?_⟩) hS ?_
    · rintro W hW
      obtain ⟨x0, x1, x2, x3, x4, -, -, -, -, -⟩ := MzBox.facts hW
      go_simp
      try (intro hh; exfalso; omega)
    simp only [List.setIfInBounds_toArray, List.set_cons_zero, List.set_cons_succ]
    refine take_op (i := 2) (d := 64) (v := .int .i64 ((cap : Nat) : Int)) rfl rfl (by kernel_rfl) (by kernel_rfl) (by kernel_rfl) (fun _ _ _ h => h) (Or.inl ⟨by rfl, ?_⟩) hS ?_
    · rintro W hW
      obtain ⟨x0, x1, x2, x3, x4, -, -, -, -, -⟩ := MzBox.facts hW
      go_simp
      try (intro hh; exfalso; omega)
    simp only [List.setIfInBounds_toArray, List.set_cons_zero, List.set_cons_succ]
    refine take_op (i := 3) (d := 65) (v := .slice (some ⟨b, o, none⟩) (0) (0)) rfl rfl (by kernel_rfl) (by kernel_rfl) (by kernel_rfl) (fun _ _ _ h => h) (Or.inl ⟨by rfl, ?_⟩) hS ?_
    · rintro W hW
      obtain ⟨x0, x1, x2, x3, x4, -, -, -, -, -⟩ := MzBox.facts hW
      go_simp
      try (intro hh; exfalso; omega)
    simp only [List.setIfInBounds_toArray, List.set_cons_zero, List.set_cons_succ]

    refine wpAnyH_ready (rs := [4]) (by kernel_rfl) (by simp) ?_
    refine AllReadyH.cons rfl (fun K hK => ?_) AllReadyH.nil
    go_simp
    refine (CM _ (below_drewN hBw 1) (strIn_row HPN.out hprow)).mono ?_
    rintro e w5 ⟨rfl, hb5⟩
    have hb5' : Below WW.heap.size WW w5 := (below_drewN (Below.refl _ WW) 1).trans (hb5.mono (Nat.le_refl _))
    have hM5 := hMb.below hb5'
    have hR5 := hRb.below hb5'
    have hB5 := hBw.trans (hb5'.mono hBw.size)
    go_wp2_with fail
    refine hK.out _ _ hM5 (fun hS => ?_)
    clear hK K
    refine take_op (i := 5) (d := 67) (v := .bool true) rfl rfl (by kernel_rfl) (by kernel_rfl) (by kernel_rfl) (fun _ _ _ h => h) (Or.inl ⟨by rfl, ?_⟩) hS ?_
    · rintro W hW
      obtain ⟨x0, x1, x2, x3, x4, -, -, -, -, -⟩ := MzBox.facts hW
      go_simp
      try (intro hh; exfalso; omega)
    simp only [List.setIfInBounds_toArray, List.set_cons_zero, List.set_cons_succ]

    refine wpAnyH_done (by kernel_rfl) ?_ _
    clear hS
    obtain ⟨z0, z1, z2, z3, z4, f0, f1, f2, f3, f4⟩ := hR5.facts
    go_wp2
    refine bodyPost_ret (v := .tuple #[.agg #[.string ⟨#[]⟩, .bool false, .slice none 0 0, .bool false, .slice none 0 0], .int .i64 50]) (by simp [results, Tryz.results18, go_sem, z0, z1, z2, z3, z4]) rfl ?_
    exact DefRes.no HNO.out rfl (below_set5 hB5 (Nat.le_refl _))

  | true =>
    have HNY : Hid (X = some ⟨t.tx, true, p, vr, firstNo ((ts.drop (cap)).map pzOf)⟩) := Lib.hid (by rw [HD2.out, hmb]; rfl)
    rw [hmb] at CM
    clear hmb HD2
    refine wp_region_held_drew (S := (fun W : World => MzBox W (w.heap.size + 1 + 1) (.string t.tx) (.bool true) (.slice pa pn pc) (.bool vr) (.slice none 0 0))) (by kernel_rfl) hMb (fun hS => ?_)
    refine take_op (i := 0) (d := 62) (v := .agg #[.string t.tx, .bool true, .slice pa pn pc, .bool vr, .slice none 0 0]) rfl rfl (by kernel_rfl) (by kernel_rfl) (by kernel_rfl) (fun _ _ _ h => h) (Or.inl ⟨by rfl, ?_⟩) hS ?_
    · rintro W hW
      obtain ⟨x0, x1, x2, x3, x4, -, -, -, -, -⟩ := MzBox.facts hW
      go_simp
      try (intro hh; exfalso; omega)
    simp only [List.setIfInBounds_toArray, List.set_cons_zero, List.set_cons_succ]
    refine take_op (i := 1) (d := 63) (v := .slice (some ⟨b, o, none⟩) cap cap) rfl rfl (by kernel_rfl) (by kernel_rfl) (by kernel_rfl) (fun _ _ _ h => h) (Or.inl ⟨by rfl, ?_⟩) hS ?_
    · rintro W hW
      obtain ⟨x0, x1, x2, x3, x4, -, -, -, -, -⟩ := MzBox.facts hW
      go_simp
      try (intro hh; exfalso; omega)
    simp only [List.setIfInBounds_toArray, List.set_cons_zero, List.set_cons_succ]
    refine take_op (i := 2) (d := 64) (v := .int .i64 ((cap : Nat) : Int)) rfl rfl (by kernel_rfl) (by kernel_rfl) (by kernel_rfl) (fun _ _ _ h => h) (Or.inl ⟨by rfl, ?_⟩) hS ?_
    · rintro W hW
      obtain ⟨x0, x1, x2, x3, x4, -, -, -, -, -⟩ := MzBox.facts hW
      go_simp
      try (intro hh; exfalso; omega)
    simp only [List.setIfInBounds_toArray, List.set_cons_zero, List.set_cons_succ]
    refine take_op (i := 3) (d := 65) (v := .slice (some ⟨b, o, none⟩) (0) (0)) rfl rfl (by kernel_rfl) (by kernel_rfl) (by kernel_rfl) (fun _ _ _ h => h) (Or.inl ⟨by rfl, ?_⟩) hS ?_
    · rintro W hW
      obtain ⟨x0, x1, x2, x3, x4, -, -, -, -, -⟩ := MzBox.facts hW
      go_simp
      try (intro hh; exfalso; omega)
    simp only [List.setIfInBounds_toArray, List.set_cons_zero, List.set_cons_succ]

    refine wpAnyH_ready (rs := [4]) (by kernel_rfl) (by simp) ?_
    refine AllReadyH.cons rfl (fun K hK => ?_) AllReadyH.nil
    go_simp
    refine (CM _ (below_drewN hBw 1) (strIn_row HPN.out hprow)).mono ?_
    rintro e w5 ⟨rfl, hb5⟩
    have hb5' : Below WW.heap.size WW w5 := (below_drewN (Below.refl _ WW) 1).trans (hb5.mono (Nat.le_refl _))
    have hM5 := hMb.below hb5'
    have hR5 := hRb.below hb5'
    have hB5 := hBw.trans (hb5'.mono hBw.size)
    have hrow5 := row_below hprow hb5'
    go_wp2_with fail
    refine hK.out _ _ hM5 (fun hS => ?_)
    clear hK K
    refine take_op (i := 5) (d := 67) (v := .bool false) rfl rfl (by kernel_rfl) (by kernel_rfl) (by kernel_rfl) (fun _ _ _ h => h) (Or.inl ⟨by rfl, ?_⟩) hS ?_
    · rintro W hW
      obtain ⟨x0, x1, x2, x3, x4, -, -, -, -, -⟩ := MzBox.facts hW
      go_simp
      try (intro hh; exfalso; omega)
    simp only [List.setIfInBounds_toArray, List.set_cons_zero, List.set_cons_succ]

    refine wpAnyH_done (by kernel_rfl) ?_ _
    clear hS CM hMb hRb hBw hb5 hb5'
    have CO := rOf_any (ts.drop (cap)) (0) (0) (some ⟨b, o, none⟩) w5 HLF.out (by have := HLF.out; omega) (HTF.out w5 hB5)
    go_wp2_with fail
    refine CO.mono ?_
    rintro e w4 ⟨⟨bv, rfl, hrw4⟩, hb4⟩
    obtain ⟨ab, cb, rfl⟩ := row_shape hrw4
    have hs3 := (Array.getElem?_eq_some_iff.1 hM5).1
    have hl3 := hrow5.lt
    have hR4 := hR5.below hb4
    have hM4 := hM5.below hb4
    have hB4 := hB5.trans (hb4.mono hB5.size)
    have hrow4 := row_below hrow5 hb4
    have hl4 := hrw4.lt
    obtain ⟨MM, hMM⟩ : ∃ MM, ((w.heap.size + 1 + 1)) = MM := ⟨_, rfl⟩
    have HLF2 : Hid ((ts.drop (cap)).length = 0) := HLF
    have hwM : w.heap.size < MM := by omega
    have hp1 : ∀ j, (Value.ownBlock (.slice pa pn pc)) = some j → w.heap.size < j ∧ j ≠ MM ∧ j < w5.heap.size := fun j h => by have := hpM j h; have := (hl3 j h).2; rw [← hMM]; exact ⟨by omega, by omega, by omega⟩
    rw [hMM] at hM4 hs3
    rw [hMM]
    clear CO hR5 hM5 hB5 hrow5 hb4 HLF hMM
    obtain ⟨L, hL⟩ : ∃ L, ts.drop (cap) = L := ⟨_, rfl⟩
    rw [hL] at HNY HLF2 hrw4
    clear hL HTF
    have hM5 := hM4.set4 (.slice ab 0 cb)
    have hR5 := hR4.far (show MM ≠ w.heap.size by omega) (i := 4) (u := .slice ab 0 cb)
    have hB5 := hB4.setCell (p := ⟨MM, 4, none⟩) (show w.heap.size ≤ MM by omega) (.slice ab 0 cb)
    have hrow5 := row_setC (P := MM) (i := 4) (a := .slice ab 0 cb) hrow4 (fun j h => (hp1 j h).2.1)
    have hrw5 := row_setC (P := MM) (i := 4) (a := .slice ab 0 cb) hrw4 (fun j h => by have := (hl4 j h).1; omega)
    obtain ⟨-, -, -, -, y4, -, -, -, -, g4⟩ := hM4.facts
    obtain ⟨x0, x1, x2, x3, x4, -, -, -, -, -⟩ := hM5.facts
    have hl5 := hrw5.lt
    clear hl3 hl4
    obtain ⟨z0, z1, z2, z3, z4, f0, f1, f2, f3, f4⟩ := hR5.facts
    go_wp2
    clear z0 z1 z2 z3 z4 f0 f1 f2 f3 f4
    have hR6 := ((((hR5.set0 (.string t.tx)).set1 (.bool true)).set2 (.slice pa pn pc)).set3 (.bool vr)).set4 (.slice ab 0 cb)
    obtain ⟨z0, z1, z2, z3, z4, -, -, -, -, -⟩ := hR6.facts
    refine bodyPost_ret (v := .tuple #[.agg #[.string t.tx, .bool true, .slice pa pn pc, .bool vr, .slice ab 0 cb], .int .i64 0]) (by simp [results, Tryz.results18, go_sem, z0, z1, z2, z3, z4]) rfl ?_
    refine DefRes.yes HNY.out HPN.out (by rw [firstNo_len, List.length_map, HLF2.out]) rfl ?_ ?_ (below_set5 hB5 (Nat.le_refl _))
    · exact ownsRow_set5 (row_lower0 (by omega) hrow5) (fun j h => by have := (hp1 j h).1; omega)
    · have hl : L = [] := List.length_eq_zero_iff.1 HLF2.out
      rw [hl] at hrw5 ⊢
      exact ownsRow_set5 (row_lower0 (by omega) hrw5) (fun j h => by have := (hl5 j h).1; omega)


end Go.Proofs.YtaodjipnffgihaaGreat
