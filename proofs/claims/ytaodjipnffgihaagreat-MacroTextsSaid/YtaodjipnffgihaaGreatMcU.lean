/- The document's answer, layer 5: Define. -/
import Derived.Test.YtaodjipnffgihaaGreatMcQ
import Derived.Test.YtaodjipnffgihaaGreatMcK
namespace Go.Proofs.YtaodjipnffgihaaGreat
open Go.RowKit Go.Shelf

theorem tzIn_offs {W : World} {b o F : Nat} {ts : List Tz} {a : Option Addr} (hb : b < W.heap.size) (h : TzAt W b o ts) (ha : F < ts.length → a = some ⟨b, o + F * 5, none⟩) : TzIn W a (ts.drop F) := fun hp => by
  rw [ha (by rw [List.length_drop] at hp; omega)]
  exact tzIn_drop hb h F hp
set_option maxRecDepth 100000 in
set_option maxHeartbeats 4000000 in
theorem rDefine_nil (cap : Nat) (a : Option Addr) (w : World) : Calls Tryz.prog 18 #[.slice a 0 cap] w (DefRes w none) := by
  have hb0 := below1 w (.cells #[.string ⟨#[]⟩, .bool false, .slice none 0 0, .bool false, .slice none 0 0] 25)
  have hR0 := MzBox.new w (.string ⟨#[]⟩) (.bool false) (.slice none 0 0) (.bool false) (.slice none 0 0)
  have hb1 := hb0.alloc hb0.size (.cells #[.string ⟨#[100, 101, 102, 105, 110, 101, 100]⟩, .string ⟨#[95, 95, 86, 65, 95, 65, 82, 71, 83, 95, 95]⟩, .string ⟨#[95, 95, 76, 73, 78, 69, 95, 95]⟩, .string ⟨#[95, 80, 114, 97, 103, 109, 97]⟩] 9)
  have hR1 := hR0.below (below1 _ (.cells #[.string ⟨#[100, 101, 102, 105, 110, 101, 100]⟩, .string ⟨#[95, 95, 86, 65, 95, 65, 82, 71, 83, 95, 95]⟩, .string ⟨#[95, 95, 76, 73, 78, 69, 95, 95]⟩, .string ⟨#[95, 80, 114, 97, 103, 109, 97]⟩] 9))

  obtain ⟨z0, z1, z2, z3, z4, f0, f1, f2, f3, f4⟩ := hR0.facts
  go_enter Tryz.func18, Tryz.ntmps18
  go_wp2
  refine bodyPost_ret (v := .tuple #[.agg #[.string ⟨#[]⟩, .bool false, .slice none 0 0, .bool false, .slice none 0 0], .int .i64 50]) (by simp [results, Tryz.results18, go_sem, z0, z1, z2, z3, z4]) rfl ?_
  exact DefRes.no rfl rfl hb0

set_option maxRecDepth 100000 in
set_option maxHeartbeats 32000000 in
theorem rDefine_kind (t : Tz) (r : List Tz) (n cap : Nat) (a : Option Addr) (w : World) (hn : (t :: r).length = n) (hnc : n ≤ cap) (hn2 : n * 48 ≤ 140737488355328) (hT : TzIn w a (t :: r)) (hk : (t.k == 1) = false) :
    Calls Tryz.prog 18 #[.slice a n cap] w (DefRes w (defineS (t :: r))) := by
  obtain ⟨b, o, rfl, hg1, hr⟩ := hT (by simp)
  have hb0 := below1 w (.cells #[.string ⟨#[]⟩, .bool false, .slice none 0 0, .bool false, .slice none 0 0] 25)
  have hR0 := MzBox.new w (.string ⟨#[]⟩) (.bool false) (.slice none 0 0) (.bool false) (.slice none 0 0)
  have hb1 := hb0.alloc hb0.size (.cells #[.string ⟨#[100, 101, 102, 105, 110, 101, 100]⟩, .string ⟨#[95, 95, 86, 65, 95, 65, 82, 71, 83, 95, 95]⟩, .string ⟨#[95, 95, 76, 73, 78, 69, 95, 95]⟩, .string ⟨#[95, 80, 114, 97, 103, 109, 97]⟩] 9)
  have hR1 := hR0.below (below1 _ (.cells #[.string ⟨#[100, 101, 102, 105, 110, 101, 100]⟩, .string ⟨#[95, 95, 86, 65, 95, 65, 82, 71, 83, 95, 95]⟩, .string ⟨#[95, 95, 76, 73, 78, 69, 95, 95]⟩, .string ⟨#[95, 80, 114, 97, 103, 109, 97]⟩] 9))
  obtain ⟨-, c1, -, -, -⟩ := (hr.below hb1 hg1) 0 t rfl
  obtain ⟨c0, -, -, -, -⟩ := (hr.below hb0 hg1) 0 t rfl
  rw [Nat.zero_mul, Nat.add_zero] at c0 c1
  have HTZ : Hid (∀ W, Below w.heap.size w W → TzAt W b o (t :: r)) := Lib.hid (fun W h => hr.below h hg1)
  have CN := rAmong_any [⟨#[100, 101, 102, 105, 110, 101, 100]⟩, ⟨#[95, 95, 86, 65, 95, 65, 82, 71, 83, 95, 95]⟩, ⟨#[95, 95, 76, 73, 78, 69, 95, 95]⟩, ⟨#[95, 80, 114, 97, 103, 109, 97]⟩] t.tx 4 4 _ ((w.alloc (.cells #[.string ⟨#[]⟩, .bool false, .slice none 0 0, .bool false, .slice none 0 0] 25)).alloc (.cells #[.string ⟨#[100, 101, 102, 105, 110, 101, 100]⟩, .string ⟨#[95, 95, 86, 65, 95, 65, 82, 71, 83, 95, 95]⟩, .string ⟨#[95, 95, 76, 73, 78, 69, 95, 95]⟩, .string ⟨#[95, 80, 114, 97, 103, 109, 97]⟩] 9)) rfl (by decide) (strIn_two w (.cells #[.string ⟨#[]⟩, .bool false, .slice none 0 0, .bool false, .slice none 0 0] 25) 9 #[.string ⟨#[100, 101, 102, 105, 110, 101, 100]⟩, .string ⟨#[95, 95, 86, 65, 95, 65, 82, 71, 83, 95, 95]⟩, .string ⟨#[95, 95, 76, 73, 78, 69, 95, 95]⟩, .string ⟨#[95, 80, 114, 97, 103, 109, 97]⟩] [⟨#[100, 101, 102, 105, 110, 101, 100]⟩, ⟨#[95, 95, 86, 65, 95, 65, 82, 71, 83, 95, 95]⟩, ⟨#[95, 95, 76, 73, 78, 69, 95, 95]⟩, ⟨#[95, 80, 114, 97, 103, 109, 97]⟩] rfl)
  have hnq := nameP_eq t
  have hn1 : 0 < n := by rw [← hn]; simp
  have q0 : ((n : Int) == 0) = false := beq_eq_false_iff_ne.2 (by omega)
  have q1 : (0 : Int) < (n : Int) := by omega
  have HN := Lib.hid hn
  have hD : defineS (t :: r) = none := by
    unfold defineS headS nameP
    simp only
    rw [hk]
    rfl
  have hk2 : (t.k != 1) = true := by unfold bne; rw [hk]; rfl
  rw [hD]
  clear hn hT hr hnq hD CN HTZ HN
  go_enter Tryz.func18, Tryz.ntmps18
  obtain ⟨z0, z1, z2, z3, z4, f0, f1, f2, f3, f4⟩ := hR0.facts
  go_wp2
  refine bodyPost_ret (v := .tuple #[.agg #[.string ⟨#[]⟩, .bool false, .slice none 0 0, .bool false, .slice none 0 0], .int .i64 50]) (by simp [results, Tryz.results18, go_sem, z0, z1, z2, z3, z4]) rfl ?_
  exact DefRes.no rfl rfl hb0


set_option maxRecDepth 100000 in
set_option maxHeartbeats 32000000 in
theorem rDefine_among (t : Tz) (r : List Tz) (n cap : Nat) (a : Option Addr) (w : World) (hn : (t :: r).length = n) (hnc : n ≤ cap) (hn2 : n * 48 ≤ 140737488355328) (hT : TzIn w a (t :: r)) (hk : (t.k == 1) = true) (hnm : nameP t = false) :
    Calls Tryz.prog 18 #[.slice a n cap] w (DefRes w (defineS (t :: r))) := by
  obtain ⟨b, o, rfl, hg1, hr⟩ := hT (by simp)
  have hb0 := below1 w (.cells #[.string ⟨#[]⟩, .bool false, .slice none 0 0, .bool false, .slice none 0 0] 25)
  have hR0 := MzBox.new w (.string ⟨#[]⟩) (.bool false) (.slice none 0 0) (.bool false) (.slice none 0 0)
  have hb1 := hb0.alloc hb0.size (.cells #[.string ⟨#[100, 101, 102, 105, 110, 101, 100]⟩, .string ⟨#[95, 95, 86, 65, 95, 65, 82, 71, 83, 95, 95]⟩, .string ⟨#[95, 95, 76, 73, 78, 69, 95, 95]⟩, .string ⟨#[95, 80, 114, 97, 103, 109, 97]⟩] 9)
  have hR1 := hR0.below (below1 _ (.cells #[.string ⟨#[100, 101, 102, 105, 110, 101, 100]⟩, .string ⟨#[95, 95, 86, 65, 95, 65, 82, 71, 83, 95, 95]⟩, .string ⟨#[95, 95, 76, 73, 78, 69, 95, 95]⟩, .string ⟨#[95, 80, 114, 97, 103, 109, 97]⟩] 9))
  obtain ⟨-, c1, -, -, -⟩ := (hr.below hb1 hg1) 0 t rfl
  obtain ⟨c0, -, -, -, -⟩ := (hr.below hb0 hg1) 0 t rfl
  rw [Nat.zero_mul, Nat.add_zero] at c0 c1
  have HTZ : Hid (∀ W, Below w.heap.size w W → TzAt W b o (t :: r)) := Lib.hid (fun W h => hr.below h hg1)
  have CN := rAmong_any [⟨#[100, 101, 102, 105, 110, 101, 100]⟩, ⟨#[95, 95, 86, 65, 95, 65, 82, 71, 83, 95, 95]⟩, ⟨#[95, 95, 76, 73, 78, 69, 95, 95]⟩, ⟨#[95, 80, 114, 97, 103, 109, 97]⟩] t.tx 4 4 _ ((w.alloc (.cells #[.string ⟨#[]⟩, .bool false, .slice none 0 0, .bool false, .slice none 0 0] 25)).alloc (.cells #[.string ⟨#[100, 101, 102, 105, 110, 101, 100]⟩, .string ⟨#[95, 95, 86, 65, 95, 65, 82, 71, 83, 95, 95]⟩, .string ⟨#[95, 95, 76, 73, 78, 69, 95, 95]⟩, .string ⟨#[95, 80, 114, 97, 103, 109, 97]⟩] 9)) rfl (by decide) (strIn_two w (.cells #[.string ⟨#[]⟩, .bool false, .slice none 0 0, .bool false, .slice none 0 0] 25) 9 #[.string ⟨#[100, 101, 102, 105, 110, 101, 100]⟩, .string ⟨#[95, 95, 86, 65, 95, 65, 82, 71, 83, 95, 95]⟩, .string ⟨#[95, 95, 76, 73, 78, 69, 95, 95]⟩, .string ⟨#[95, 80, 114, 97, 103, 109, 97]⟩] [⟨#[100, 101, 102, 105, 110, 101, 100]⟩, ⟨#[95, 95, 86, 65, 95, 65, 82, 71, 83, 95, 95]⟩, ⟨#[95, 95, 76, 73, 78, 69, 95, 95]⟩, ⟨#[95, 80, 114, 97, 103, 109, 97]⟩] rfl)
  have hnq := nameP_eq t
  have hn1 : 0 < n := by rw [← hn]; simp
  have q0 : ((n : Int) == 0) = false := beq_eq_false_iff_ne.2 (by omega)
  have q1 : (0 : Int) < (n : Int) := by omega
  have HN := Lib.hid hn
  have hD : defineS (t :: r) = none := by
    unfold defineS headS
    simp only
    rw [if_neg (by rw [hnm]; decide)]
  have hk2 : (t.k != 1) = false := by unfold bne; rw [hk]; rfl
  have ham : amongS [⟨#[100, 101, 102, 105, 110, 101, 100]⟩, ⟨#[95, 95, 86, 65, 95, 65, 82, 71, 83, 95, 95]⟩, ⟨#[95, 95, 76, 73, 78, 69, 95, 95]⟩, ⟨#[95, 80, 114, 97, 103, 109, 97]⟩] t.tx = true := by
    rw [hnm, hk] at hnq
    simp only [Bool.true_and] at hnq
    cases h : amongS [⟨#[100, 101, 102, 105, 110, 101, 100]⟩, ⟨#[95, 95, 86, 65, 95, 65, 82, 71, 83, 95, 95]⟩, ⟨#[95, 95, 76, 73, 78, 69, 95, 95]⟩, ⟨#[95, 80, 114, 97, 103, 109, 97]⟩] t.tx with
    | true => rfl
    | false => rw [h] at hnq; cases hnq
  rw [ham] at CN
  rw [hD]
  clear hn hT hr hnq hD HTZ HN ham
  go_enter Tryz.func18, Tryz.ntmps18
  go_wp2_with fail
  refine CN.mono ?_
  rintro e _ ⟨rfl, rfl⟩
  obtain ⟨z0, z1, z2, z3, z4, f0, f1, f2, f3, f4⟩ := hR1.facts
  go_wp2
  refine bodyPost_ret (v := .tuple #[.agg #[.string ⟨#[]⟩, .bool false, .slice none 0 0, .bool false, .slice none 0 0], .int .i64 50]) (by simp [results, Tryz.results18, go_sem, z0, z1, z2, z3, z4]) rfl ?_
  exact DefRes.no rfl rfl hb1


set_option maxRecDepth 100000 in
set_option maxHeartbeats 32000000 in
theorem rDefine_one1 (t : Tz) (n cap : Nat) (a : Option Addr) (w : World) (hn : ([t]).length = n) (hnc : n ≤ cap) (hn2 : n * 48 ≤ 140737488355328) (hT : TzIn w a ([t])) (hnm : nameP t = true) (hcap : cap = 1) :
    Calls Tryz.prog 18 #[.slice a n cap] w (DefRes w (defineS ([t]))) := by
  obtain ⟨b, o, rfl, hg1, hr⟩ := hT (by simp)
  obtain ⟨c0', c1', -, -, -⟩ := hr 0 t rfl
  have hb0 := below1 w (.cells #[.string ⟨#[]⟩, .bool false, .slice none 0 0, .bool false, .slice none 0 0] 25)
  have hR0 := MzBox.new w (.string ⟨#[]⟩) (.bool false) (.slice none 0 0) (.bool false) (.slice none 0 0)
  have hb1 := hb0.alloc hb0.size (.cells #[.string ⟨#[100, 101, 102, 105, 110, 101, 100]⟩, .string ⟨#[95, 95, 86, 65, 95, 65, 82, 71, 83, 95, 95]⟩, .string ⟨#[95, 95, 76, 73, 78, 69, 95, 95]⟩, .string ⟨#[95, 80, 114, 97, 103, 109, 97]⟩] 9)
  have hR1 := hR0.below (below1 _ (.cells #[.string ⟨#[100, 101, 102, 105, 110, 101, 100]⟩, .string ⟨#[95, 95, 86, 65, 95, 65, 82, 71, 83, 95, 95]⟩, .string ⟨#[95, 95, 76, 73, 78, 69, 95, 95]⟩, .string ⟨#[95, 80, 114, 97, 103, 109, 97]⟩] 9))
  obtain ⟨-, c1, -, -, -⟩ := (hr.below hb1 hg1) 0 t rfl
  obtain ⟨c0, -, -, -, -⟩ := (hr.below hb0 hg1) 0 t rfl
  rw [Nat.zero_mul, Nat.add_zero] at c0 c1
  have HTZ : Hid (∀ W, Below w.heap.size w W → TzAt W b o ([t])) := Lib.hid (fun W h => hr.below h hg1)
  have CN := rAmong_any [⟨#[100, 101, 102, 105, 110, 101, 100]⟩, ⟨#[95, 95, 86, 65, 95, 65, 82, 71, 83, 95, 95]⟩, ⟨#[95, 95, 76, 73, 78, 69, 95, 95]⟩, ⟨#[95, 80, 114, 97, 103, 109, 97]⟩] t.tx 4 4 _ ((w.alloc (.cells #[.string ⟨#[]⟩, .bool false, .slice none 0 0, .bool false, .slice none 0 0] 25)).alloc (.cells #[.string ⟨#[100, 101, 102, 105, 110, 101, 100]⟩, .string ⟨#[95, 95, 86, 65, 95, 65, 82, 71, 83, 95, 95]⟩, .string ⟨#[95, 95, 76, 73, 78, 69, 95, 95]⟩, .string ⟨#[95, 80, 114, 97, 103, 109, 97]⟩] 9)) rfl (by decide) (strIn_two w (.cells #[.string ⟨#[]⟩, .bool false, .slice none 0 0, .bool false, .slice none 0 0] 25) 9 #[.string ⟨#[100, 101, 102, 105, 110, 101, 100]⟩, .string ⟨#[95, 95, 86, 65, 95, 65, 82, 71, 83, 95, 95]⟩, .string ⟨#[95, 95, 76, 73, 78, 69, 95, 95]⟩, .string ⟨#[95, 80, 114, 97, 103, 109, 97]⟩] [⟨#[100, 101, 102, 105, 110, 101, 100]⟩, ⟨#[95, 95, 86, 65, 95, 65, 82, 71, 83, 95, 95]⟩, ⟨#[95, 95, 76, 73, 78, 69, 95, 95]⟩, ⟨#[95, 80, 114, 97, 103, 109, 97]⟩] rfl)
  have hnq := nameP_eq t
  have hn1 : 0 < n := by rw [← hn]; simp
  have q0 : ((n : Int) == 0) = false := beq_eq_false_iff_ne.2 (by omega)
  have q1 : (0 : Int) < (n : Int) := by omega
  have HN := Lib.hid hn
  have hk : (t.k == 1) = true := by
    cases h : (t.k == 1) with
    | true => rfl
    | false => unfold nameP at hnm; rw [h] at hnm; cases hnm
  have hk2 : (t.k != 1) = false := by unfold bne; rw [hk]; rfl
  have ham : amongS [⟨#[100, 101, 102, 105, 110, 101, 100]⟩, ⟨#[95, 95, 86, 65, 95, 65, 82, 71, 83, 95, 95]⟩, ⟨#[95, 95, 76, 73, 78, 69, 95, 95]⟩, ⟨#[95, 80, 114, 97, 103, 109, 97]⟩] t.tx = false := by
    rw [hnm, hk] at hnq
    simp only [Bool.true_and] at hnq
    cases h : amongS [⟨#[100, 101, 102, 105, 110, 101, 100]⟩, ⟨#[95, 95, 86, 65, 95, 65, 82, 71, 83, 95, 95]⟩, ⟨#[95, 95, 76, 73, 78, 69, 95, 95]⟩, ⟨#[95, 80, 114, 97, 103, 109, 97]⟩] t.tx with
    | false => rfl
    | true => rw [h] at hnq; cases hnq
  rw [ham] at CN
  have hR2 := hR1.below (below1 _ (.cells #[.string t.tx, .bool false, .slice none 0 0, .bool false, .slice none 0 0] 25))
  have hM2 := MzBox.new ((w.alloc (.cells #[.string ⟨#[]⟩, .bool false, .slice none 0 0, .bool false, .slice none 0 0] 25)).alloc (.cells #[.string ⟨#[100, 101, 102, 105, 110, 101, 100]⟩, .string ⟨#[95, 95, 86, 65, 95, 65, 82, 71, 83, 95, 95]⟩, .string ⟨#[95, 95, 76, 73, 78, 69, 95, 95]⟩, .string ⟨#[95, 80, 114, 97, 103, 109, 97]⟩] 9)) (.string t.tx) (.bool false) (.slice none 0 0) (.bool false) (.slice none 0 0)
  have hB2 := hb1.alloc hb1.size (.cells #[.string t.tx, .bool false, .slice none 0 0, .bool false, .slice none 0 0] 25)
  have hD : defineS [t] = if mayB false false [] ([t].drop 1) then some ⟨t.tx, false, [], false, firstNo (([t].drop 1).map pzOf)⟩ else none := by
    unfold defineS headS
    simp only
    rw [if_pos hnm]
    rfl
  obtain ⟨X, hX⟩ : ∃ X, defineS ([t]) = X := ⟨_, rfl⟩
  rw [hX] at hD
  rw [hX]
  have HD2 := Lib.hid hD
  have HLF : Hid ((([t]).drop (1)).length = 0) := Lib.hid (rfl)
  have HTF : Hid (∀ W, Below w.heap.size w W → TzIn W (some ⟨b, o, none⟩) (([t]).drop (1))) := Lib.hid (fun W h => tzIn_offs (Nat.lt_of_lt_of_le hg1 h.size) (hr.below h hg1) (fun h => absurd h (by simp)))
  have HPN : Hid (([] : List ByteArray).length = 0) := Lib.hid rfl
  obtain ⟨ts, hts⟩ : ∃ ts, ([t]) = ts := ⟨_, rfl⟩
  have hMW : (((w.alloc (.cells #[.string ⟨#[]⟩, .bool false, .slice none 0 0, .bool false, .slice none 0 0] 25)).alloc (.cells #[.string ⟨#[100, 101, 102, 105, 110, 101, 100]⟩, .string ⟨#[95, 95, 86, 65, 95, 65, 82, 71, 83, 95, 95]⟩, .string ⟨#[95, 95, 76, 73, 78, 69, 95, 95]⟩, .string ⟨#[95, 80, 114, 97, 103, 109, 97]⟩] 9))).heap.size = w.heap.size + 1 + 1 := by simp
  obtain rfl : n = 1 := by rw [← hn]; rfl
  subst hcap
  rw [hts] at HD2 HLF HTF
  rw [hMW] at hM2
  clear hn hT hr hD hX hnq ham hk hnm HTZ HN hts c0' c1' hR0 hR1 hb0 hb1 hMW
  go_enter Tryz.func18, Tryz.ntmps18
  go_wp2_with fail
  refine CN.mono ?_
  rintro e _ ⟨rfl, rfl⟩
  clear CN
  go_upto_region 15 with fail
  have hMb := hM2
  have hRb := hR2
  have hBw := hB2
  clear hM2 hR2 hB2
  have hprow := World.ownsRow_nil (((w.alloc (.cells #[.string ⟨#[]⟩, .bool false, .slice none 0 0, .bool false, .slice none 0 0] 25)).alloc (.cells #[.string ⟨#[100, 101, 102, 105, 110, 101, 100]⟩, .string ⟨#[95, 95, 86, 65, 95, 65, 82, 71, 83, 95, 95]⟩, .string ⟨#[95, 95, 76, 73, 78, 69, 95, 95]⟩, .string ⟨#[95, 80, 114, 97, 103, 109, 97]⟩] 9)).alloc (.cells #[.string t.tx, .bool false, .slice none 0 0, .bool false, .slice none 0 0] 25)) w.heap.size 9 1
  have hpM : ∀ j, (Value.ownBlock (.slice none 0 0)) = some j → w.heap.size < j ∧ j ≠ w.heap.size + 1 + 1 := fun j h => by cases h
  generalize (((w.alloc (.cells #[.string ⟨#[]⟩, .bool false, .slice none 0 0, .bool false, .slice none 0 0] 25)).alloc (.cells #[.string ⟨#[100, 101, 102, 105, 110, 101, 100]⟩, .string ⟨#[95, 95, 86, 65, 95, 65, 82, 71, 83, 95, 95]⟩, .string ⟨#[95, 95, 76, 73, 78, 69, 95, 95]⟩, .string ⟨#[95, 80, 114, 97, 103, 109, 97]⟩] 9)).alloc (.cells #[.string t.tx, .bool false, .slice none 0 0, .bool false, .slice none 0 0] 25)) = WW at *
  have hMs := (Array.getElem?_eq_some_iff.1 hMb).1
  have CM := fun (W : World) (h : Below w.heap.size w W) (hp : StrIn W none ([] : List ByteArray)) => rMay_any t.tx false false ([] : List ByteArray) none 0 0 (.slice none 0 0) (ts.drop (1)) (0) (0) (some ⟨b, o, none⟩) W HLF.out (by have := HLF.out; omega) (HTF.out W h) HPN.out (by omega) hp
  cases hmb : mayB false false ([] : List ByteArray) (ts.drop (1)) with
  | false =>
    have HNO : Hid (X = none) := Lib.hid (by rw [HD2.out, hmb]; rfl)
    rw [hmb] at CM
    clear hmb HD2
    refine wp_region_held_drew (S := (fun W : World => MzBox W (w.heap.size + 1 + 1) (.string t.tx) (.bool false) (.slice none 0 0) (.bool false) (.slice none 0 0))) (by kernel_rfl) hMb (fun hS => ?_)
    refine take_op (i := 0) (d := 62) (v := .agg #[.string t.tx, .bool false, .slice none 0 0, .bool false, .slice none 0 0]) rfl rfl (by kernel_rfl) (by kernel_rfl) (by kernel_rfl) (fun _ _ _ h => h) (Or.inl ⟨by rfl, ?_⟩) hS ?_
    · rintro W hW
      obtain ⟨x0, x1, x2, x3, x4, -, -, -, -, -⟩ := MzBox.facts hW
      go_simp
      try (intro hh; exfalso; omega)
    simp only [List.setIfInBounds_toArray, List.set_cons_zero, List.set_cons_succ]
    refine take_op (i := 1) (d := 63) (v := .slice (some ⟨b, o, none⟩) 1 1) rfl rfl (by kernel_rfl) (by kernel_rfl) (by kernel_rfl) (fun _ _ _ h => h) (Or.inl ⟨by rfl, ?_⟩) hS ?_
    · rintro W hW
      obtain ⟨x0, x1, x2, x3, x4, -, -, -, -, -⟩ := MzBox.facts hW
      go_simp
      try (intro hh; exfalso; omega)
    simp only [List.setIfInBounds_toArray, List.set_cons_zero, List.set_cons_succ]
    refine take_op (i := 2) (d := 64) (v := .int .i64 ((1 : Nat) : Int)) rfl rfl (by kernel_rfl) (by kernel_rfl) (by kernel_rfl) (fun _ _ _ h => h) (Or.inl ⟨by rfl, ?_⟩) hS ?_
    · rintro W hW
      obtain ⟨x0, x1, x2, x3, x4, -, -, -, -, -⟩ := MzBox.facts hW
      go_simp
      try (intro hh; exfalso; omega)
    simp only [List.setIfInBounds_toArray, List.set_cons_zero, List.set_cons_succ]
    refine take_op (i := 3) (d := 65) (v := .slice (some ⟨b, o, none⟩) (0) (0)) rfl rfl (by kernel_rfl) (by kernel_rfl) (by kernel_rfl) (fun _ _ _ h => h) (Or.inl ⟨by rfl, ?_⟩) hS ?_
    · rintro W hW
      obtain ⟨x0, x1, x2, x3, x4, -, -, -, -, -⟩ := MzBox.facts hW
      go_simp
      try (intro hh; exfalso; omega)
    simp only [List.setIfInBounds_toArray, List.set_cons_zero, List.set_cons_succ]

    refine wpAnyH_ready (rs := [4]) (by kernel_rfl) (by simp) ?_
    refine AllReadyH.cons rfl (fun K hK => ?_) AllReadyH.nil
    go_simp
    refine (CM _ (below_drewN hBw 1) (strIn_row HPN.out hprow)).mono ?_
    rintro e w5 ⟨rfl, hb5⟩
    have hb5' : Below WW.heap.size WW w5 := (below_drewN (Below.refl _ WW) 1).trans (hb5.mono (Nat.le_refl _))
    have hM5 := hMb.below hb5'
    have hR5 := hRb.below hb5'
    have hB5 := hBw.trans (hb5'.mono hBw.size)
    go_wp2_with fail
    refine hK.out _ _ hM5 (fun hS => ?_)
    clear hK K
    refine take_op (i := 5) (d := 67) (v := .bool true) rfl rfl (by kernel_rfl) (by kernel_rfl) (by kernel_rfl) (fun _ _ _ h => h) (Or.inl ⟨by rfl, ?_⟩) hS ?_
    · rintro W hW
      obtain ⟨x0, x1, x2, x3, x4, -, -, -, -, -⟩ := MzBox.facts hW
      go_simp
      try (intro hh; exfalso; omega)
    simp only [List.setIfInBounds_toArray, List.set_cons_zero, List.set_cons_succ]

    refine wpAnyH_done (by kernel_rfl) ?_ _
    clear hS
    obtain ⟨z0, z1, z2, z3, z4, f0, f1, f2, f3, f4⟩ := hR5.facts
    go_wp2
    refine bodyPost_ret (v := .tuple #[.agg #[.string ⟨#[]⟩, .bool false, .slice none 0 0, .bool false, .slice none 0 0], .int .i64 50]) (by simp [results, Tryz.results18, go_sem, z0, z1, z2, z3, z4]) rfl ?_
    exact DefRes.no HNO.out rfl (below_set5 hB5 (Nat.le_refl _))

  | true =>
    have HNY : Hid (X = some ⟨t.tx, false, ([] : List ByteArray), false, firstNo ((ts.drop (1)).map pzOf)⟩) := Lib.hid (by rw [HD2.out, hmb]; rfl)
    rw [hmb] at CM
    clear hmb HD2
    refine wp_region_held_drew (S := (fun W : World => MzBox W (w.heap.size + 1 + 1) (.string t.tx) (.bool false) (.slice none 0 0) (.bool false) (.slice none 0 0))) (by kernel_rfl) hMb (fun hS => ?_)
    refine take_op (i := 0) (d := 62) (v := .agg #[.string t.tx, .bool false, .slice none 0 0, .bool false, .slice none 0 0]) rfl rfl (by kernel_rfl) (by kernel_rfl) (by kernel_rfl) (fun _ _ _ h => h) (Or.inl ⟨by rfl, ?_⟩) hS ?_
    · rintro W hW
      obtain ⟨x0, x1, x2, x3, x4, -, -, -, -, -⟩ := MzBox.facts hW
      go_simp
      try (intro hh; exfalso; omega)
    simp only [List.setIfInBounds_toArray, List.set_cons_zero, List.set_cons_succ]
    refine take_op (i := 1) (d := 63) (v := .slice (some ⟨b, o, none⟩) 1 1) rfl rfl (by kernel_rfl) (by kernel_rfl) (by kernel_rfl) (fun _ _ _ h => h) (Or.inl ⟨by rfl, ?_⟩) hS ?_
    · rintro W hW
      obtain ⟨x0, x1, x2, x3, x4, -, -, -, -, -⟩ := MzBox.facts hW
      go_simp
      try (intro hh; exfalso; omega)
    simp only [List.setIfInBounds_toArray, List.set_cons_zero, List.set_cons_succ]
    refine take_op (i := 2) (d := 64) (v := .int .i64 ((1 : Nat) : Int)) rfl rfl (by kernel_rfl) (by kernel_rfl) (by kernel_rfl) (fun _ _ _ h => h) (Or.inl ⟨by rfl, ?_⟩) hS ?_
    · rintro W hW
      obtain ⟨x0, x1, x2, x3, x4, -, -, -, -, -⟩ := MzBox.facts hW
      go_simp
      try (intro hh; exfalso; omega)
    simp only [List.setIfInBounds_toArray, List.set_cons_zero, List.set_cons_succ]
    refine take_op (i := 3) (d := 65) (v := .slice (some ⟨b, o, none⟩) (0) (0)) rfl rfl (by kernel_rfl) (by kernel_rfl) (by kernel_rfl) (fun _ _ _ h => h) (Or.inl ⟨by rfl, ?_⟩) hS ?_
    · rintro W hW
      obtain ⟨x0, x1, x2, x3, x4, -, -, -, -, -⟩ := MzBox.facts hW
      go_simp
      try (intro hh; exfalso; omega)
    simp only [List.setIfInBounds_toArray, List.set_cons_zero, List.set_cons_succ]

    refine wpAnyH_ready (rs := [4]) (by kernel_rfl) (by simp) ?_
    refine AllReadyH.cons rfl (fun K hK => ?_) AllReadyH.nil
    go_simp
    refine (CM _ (below_drewN hBw 1) (strIn_row HPN.out hprow)).mono ?_
    rintro e w5 ⟨rfl, hb5⟩
    have hb5' : Below WW.heap.size WW w5 := (below_drewN (Below.refl _ WW) 1).trans (hb5.mono (Nat.le_refl _))
    have hM5 := hMb.below hb5'
    have hR5 := hRb.below hb5'
    have hB5 := hBw.trans (hb5'.mono hBw.size)
    have hrow5 := row_below hprow hb5'
    go_wp2_with fail
    refine hK.out _ _ hM5 (fun hS => ?_)
    clear hK K
    refine take_op (i := 5) (d := 67) (v := .bool false) rfl rfl (by kernel_rfl) (by kernel_rfl) (by kernel_rfl) (fun _ _ _ h => h) (Or.inl ⟨by rfl, ?_⟩) hS ?_
    · rintro W hW
      obtain ⟨x0, x1, x2, x3, x4, -, -, -, -, -⟩ := MzBox.facts hW
      go_simp
      try (intro hh; exfalso; omega)
    simp only [List.setIfInBounds_toArray, List.set_cons_zero, List.set_cons_succ]

    refine wpAnyH_done (by kernel_rfl) ?_ _
    clear hS CM hMb hRb hBw hb5 hb5'
    have CO := rOf_any (ts.drop (1)) (0) (0) (some ⟨b, o, none⟩) w5 HLF.out (by have := HLF.out; omega) (HTF.out w5 hB5)
    go_wp2_with fail
    refine CO.mono ?_
    rintro e w4 ⟨⟨bv, rfl, hrw4⟩, hb4⟩
    obtain ⟨ab, cb, rfl⟩ := row_shape hrw4
    have hs3 := (Array.getElem?_eq_some_iff.1 hM5).1
    have hl3 := hrow5.lt
    have hR4 := hR5.below hb4
    have hM4 := hM5.below hb4
    have hB4 := hB5.trans (hb4.mono hB5.size)
    have hrow4 := row_below hrow5 hb4
    have hl4 := hrw4.lt
    obtain ⟨MM, hMM⟩ : ∃ MM, ((w.heap.size + 1 + 1)) = MM := ⟨_, rfl⟩
    have HLF2 : Hid ((ts.drop (1)).length = 0) := HLF
    have hwM : w.heap.size < MM := by omega
    have hp1 : ∀ j, (Value.ownBlock (.slice none 0 0)) = some j → w.heap.size < j ∧ j ≠ MM ∧ j < w5.heap.size := fun j h => by have := hpM j h; have := (hl3 j h).2; rw [← hMM]; exact ⟨by omega, by omega, by omega⟩
    rw [hMM] at hM4 hs3
    rw [hMM]
    clear CO hR5 hM5 hB5 hrow5 hb4 HLF hMM
    obtain ⟨L, hL⟩ : ∃ L, ts.drop (1) = L := ⟨_, rfl⟩
    rw [hL] at HNY HLF2 hrw4
    clear hL HTF
    have hM5 := hM4.set4 (.slice ab 0 cb)
    have hR5 := hR4.far (show MM ≠ w.heap.size by omega) (i := 4) (u := .slice ab 0 cb)
    have hB5 := hB4.setCell (p := ⟨MM, 4, none⟩) (show w.heap.size ≤ MM by omega) (.slice ab 0 cb)
    have hrow5 := row_setC (P := MM) (i := 4) (a := .slice ab 0 cb) hrow4 (fun j h => (hp1 j h).2.1)
    have hrw5 := row_setC (P := MM) (i := 4) (a := .slice ab 0 cb) hrw4 (fun j h => by have := (hl4 j h).1; omega)
    obtain ⟨-, -, -, -, y4, -, -, -, -, g4⟩ := hM4.facts
    obtain ⟨x0, x1, x2, x3, x4, -, -, -, -, -⟩ := hM5.facts
    have hl5 := hrw5.lt
    clear hl3 hl4
    obtain ⟨z0, z1, z2, z3, z4, f0, f1, f2, f3, f4⟩ := hR5.facts
    go_wp2
    clear z0 z1 z2 z3 z4 f0 f1 f2 f3 f4
    have hR6 := ((((hR5.set0 (.string t.tx)).set1 (.bool false)).set2 (.slice none 0 0)).set3 (.bool false)).set4 (.slice ab 0 cb)
    obtain ⟨z0, z1, z2, z3, z4, -, -, -, -, -⟩ := hR6.facts
    refine bodyPost_ret (v := .tuple #[.agg #[.string t.tx, .bool false, .slice none 0 0, .bool false, .slice ab 0 cb], .int .i64 0]) (by simp [results, Tryz.results18, go_sem, z0, z1, z2, z3, z4]) rfl ?_
    refine DefRes.yes HNY.out HPN.out (by rw [firstNo_len, List.length_map, HLF2.out]) rfl ?_ ?_ (below_set5 hB5 (Nat.le_refl _))
    · exact ownsRow_set5 (row_lower0 (by omega) hrow5) (fun j h => by have := (hp1 j h).1; omega)
    · have hl : L = [] := List.length_eq_zero_iff.1 HLF2.out
      rw [hl] at hrw5 ⊢
      exact ownsRow_set5 (row_lower0 (by omega) hrw5) (fun j h => by have := (hl5 j h).1; omega)


set_option maxRecDepth 100000 in
set_option maxHeartbeats 32000000 in
theorem rDefine_one2 (t : Tz) (n cap : Nat) (a : Option Addr) (w : World) (hn : ([t]).length = n) (hnc : n ≤ cap) (hn2 : n * 48 ≤ 140737488355328) (hT : TzIn w a ([t])) (hnm : nameP t = true) (hcap : cap ≠ 1) :
    Calls Tryz.prog 18 #[.slice a n cap] w (DefRes w (defineS ([t]))) := by
  obtain ⟨b, o, rfl, hg1, hr⟩ := hT (by simp)
  obtain ⟨c0', c1', -, -, -⟩ := hr 0 t rfl
  have hb0 := below1 w (.cells #[.string ⟨#[]⟩, .bool false, .slice none 0 0, .bool false, .slice none 0 0] 25)
  have hR0 := MzBox.new w (.string ⟨#[]⟩) (.bool false) (.slice none 0 0) (.bool false) (.slice none 0 0)
  have hb1 := hb0.alloc hb0.size (.cells #[.string ⟨#[100, 101, 102, 105, 110, 101, 100]⟩, .string ⟨#[95, 95, 86, 65, 95, 65, 82, 71, 83, 95, 95]⟩, .string ⟨#[95, 95, 76, 73, 78, 69, 95, 95]⟩, .string ⟨#[95, 80, 114, 97, 103, 109, 97]⟩] 9)
  have hR1 := hR0.below (below1 _ (.cells #[.string ⟨#[100, 101, 102, 105, 110, 101, 100]⟩, .string ⟨#[95, 95, 86, 65, 95, 65, 82, 71, 83, 95, 95]⟩, .string ⟨#[95, 95, 76, 73, 78, 69, 95, 95]⟩, .string ⟨#[95, 80, 114, 97, 103, 109, 97]⟩] 9))
  obtain ⟨-, c1, -, -, -⟩ := (hr.below hb1 hg1) 0 t rfl
  obtain ⟨c0, -, -, -, -⟩ := (hr.below hb0 hg1) 0 t rfl
  rw [Nat.zero_mul, Nat.add_zero] at c0 c1
  have HTZ : Hid (∀ W, Below w.heap.size w W → TzAt W b o ([t])) := Lib.hid (fun W h => hr.below h hg1)
  have CN := rAmong_any [⟨#[100, 101, 102, 105, 110, 101, 100]⟩, ⟨#[95, 95, 86, 65, 95, 65, 82, 71, 83, 95, 95]⟩, ⟨#[95, 95, 76, 73, 78, 69, 95, 95]⟩, ⟨#[95, 80, 114, 97, 103, 109, 97]⟩] t.tx 4 4 _ ((w.alloc (.cells #[.string ⟨#[]⟩, .bool false, .slice none 0 0, .bool false, .slice none 0 0] 25)).alloc (.cells #[.string ⟨#[100, 101, 102, 105, 110, 101, 100]⟩, .string ⟨#[95, 95, 86, 65, 95, 65, 82, 71, 83, 95, 95]⟩, .string ⟨#[95, 95, 76, 73, 78, 69, 95, 95]⟩, .string ⟨#[95, 80, 114, 97, 103, 109, 97]⟩] 9)) rfl (by decide) (strIn_two w (.cells #[.string ⟨#[]⟩, .bool false, .slice none 0 0, .bool false, .slice none 0 0] 25) 9 #[.string ⟨#[100, 101, 102, 105, 110, 101, 100]⟩, .string ⟨#[95, 95, 86, 65, 95, 65, 82, 71, 83, 95, 95]⟩, .string ⟨#[95, 95, 76, 73, 78, 69, 95, 95]⟩, .string ⟨#[95, 80, 114, 97, 103, 109, 97]⟩] [⟨#[100, 101, 102, 105, 110, 101, 100]⟩, ⟨#[95, 95, 86, 65, 95, 65, 82, 71, 83, 95, 95]⟩, ⟨#[95, 95, 76, 73, 78, 69, 95, 95]⟩, ⟨#[95, 80, 114, 97, 103, 109, 97]⟩] rfl)
  have hnq := nameP_eq t
  have hn1 : 0 < n := by rw [← hn]; simp
  have q0 : ((n : Int) == 0) = false := beq_eq_false_iff_ne.2 (by omega)
  have q1 : (0 : Int) < (n : Int) := by omega
  have HN := Lib.hid hn
  have hk : (t.k == 1) = true := by
    cases h : (t.k == 1) with
    | true => rfl
    | false => unfold nameP at hnm; rw [h] at hnm; cases hnm
  have hk2 : (t.k != 1) = false := by unfold bne; rw [hk]; rfl
  have ham : amongS [⟨#[100, 101, 102, 105, 110, 101, 100]⟩, ⟨#[95, 95, 86, 65, 95, 65, 82, 71, 83, 95, 95]⟩, ⟨#[95, 95, 76, 73, 78, 69, 95, 95]⟩, ⟨#[95, 80, 114, 97, 103, 109, 97]⟩] t.tx = false := by
    rw [hnm, hk] at hnq
    simp only [Bool.true_and] at hnq
    cases h : amongS [⟨#[100, 101, 102, 105, 110, 101, 100]⟩, ⟨#[95, 95, 86, 65, 95, 65, 82, 71, 83, 95, 95]⟩, ⟨#[95, 95, 76, 73, 78, 69, 95, 95]⟩, ⟨#[95, 80, 114, 97, 103, 109, 97]⟩] t.tx with
    | false => rfl
    | true => rw [h] at hnq; cases hnq
  rw [ham] at CN
  have hR2 := hR1.below (below1 _ (.cells #[.string t.tx, .bool false, .slice none 0 0, .bool false, .slice none 0 0] 25))
  have hM2 := MzBox.new ((w.alloc (.cells #[.string ⟨#[]⟩, .bool false, .slice none 0 0, .bool false, .slice none 0 0] 25)).alloc (.cells #[.string ⟨#[100, 101, 102, 105, 110, 101, 100]⟩, .string ⟨#[95, 95, 86, 65, 95, 65, 82, 71, 83, 95, 95]⟩, .string ⟨#[95, 95, 76, 73, 78, 69, 95, 95]⟩, .string ⟨#[95, 80, 114, 97, 103, 109, 97]⟩] 9)) (.string t.tx) (.bool false) (.slice none 0 0) (.bool false) (.slice none 0 0)
  have hB2 := hb1.alloc hb1.size (.cells #[.string t.tx, .bool false, .slice none 0 0, .bool false, .slice none 0 0] 25)
  have hD : defineS [t] = if mayB false false [] ([t].drop 1) then some ⟨t.tx, false, [], false, firstNo (([t].drop 1).map pzOf)⟩ else none := by
    unfold defineS headS
    simp only
    rw [if_pos hnm]
    rfl
  obtain ⟨X, hX⟩ : ∃ X, defineS ([t]) = X := ⟨_, rfl⟩
  rw [hX] at hD
  rw [hX]
  have HD2 := Lib.hid hD
  have HLF : Hid ((([t]).drop (1)).length = 0) := Lib.hid (rfl)
  have HTF : Hid (∀ W, Below w.heap.size w W → TzIn W (some ⟨b, o + 5, none⟩) (([t]).drop (1))) := Lib.hid (fun W h => tzIn_offs (Nat.lt_of_lt_of_le hg1 h.size) (hr.below h hg1) (fun h => absurd h (by simp)))
  have HPN : Hid (([] : List ByteArray).length = 0) := Lib.hid rfl
  obtain ⟨ts, hts⟩ : ∃ ts, ([t]) = ts := ⟨_, rfl⟩
  have hMW : (((w.alloc (.cells #[.string ⟨#[]⟩, .bool false, .slice none 0 0, .bool false, .slice none 0 0] 25)).alloc (.cells #[.string ⟨#[100, 101, 102, 105, 110, 101, 100]⟩, .string ⟨#[95, 95, 86, 65, 95, 65, 82, 71, 83, 95, 95]⟩, .string ⟨#[95, 95, 76, 73, 78, 69, 95, 95]⟩, .string ⟨#[95, 80, 114, 97, 103, 109, 97]⟩] 9))).heap.size = w.heap.size + 1 + 1 := by simp
  obtain rfl : n = 1 := by rw [← hn]; rfl
  have v5 : ¬ (cap : Int) = 1 := by omega
  have v6 : (1 : Int) ≤ (cap : Int) := by omega
  rw [hts] at HD2 HLF HTF
  rw [hMW] at hM2
  clear hn hT hr hD hX hnq ham hk hnm HTZ HN hts c0' c1' hR0 hR1 hb0 hb1 hMW
  go_enter Tryz.func18, Tryz.ntmps18
  go_wp2_with fail
  refine CN.mono ?_
  rintro e _ ⟨rfl, rfl⟩
  clear CN
  go_upto_region 15 with fail
  have hMb := hM2
  have hRb := hR2
  have hBw := hB2
  clear hM2 hR2 hB2
  have hprow := World.ownsRow_nil (((w.alloc (.cells #[.string ⟨#[]⟩, .bool false, .slice none 0 0, .bool false, .slice none 0 0] 25)).alloc (.cells #[.string ⟨#[100, 101, 102, 105, 110, 101, 100]⟩, .string ⟨#[95, 95, 86, 65, 95, 65, 82, 71, 83, 95, 95]⟩, .string ⟨#[95, 95, 76, 73, 78, 69, 95, 95]⟩, .string ⟨#[95, 80, 114, 97, 103, 109, 97]⟩] 9)).alloc (.cells #[.string t.tx, .bool false, .slice none 0 0, .bool false, .slice none 0 0] 25)) w.heap.size 9 1
  have hpM : ∀ j, (Value.ownBlock (.slice none 0 0)) = some j → w.heap.size < j ∧ j ≠ w.heap.size + 1 + 1 := fun j h => by cases h
  generalize (((w.alloc (.cells #[.string ⟨#[]⟩, .bool false, .slice none 0 0, .bool false, .slice none 0 0] 25)).alloc (.cells #[.string ⟨#[100, 101, 102, 105, 110, 101, 100]⟩, .string ⟨#[95, 95, 86, 65, 95, 65, 82, 71, 83, 95, 95]⟩, .string ⟨#[95, 95, 76, 73, 78, 69, 95, 95]⟩, .string ⟨#[95, 80, 114, 97, 103, 109, 97]⟩] 9)).alloc (.cells #[.string t.tx, .bool false, .slice none 0 0, .bool false, .slice none 0 0] 25)) = WW at *
  have hMs := (Array.getElem?_eq_some_iff.1 hMb).1
  have CM := fun (W : World) (h : Below w.heap.size w W) (hp : StrIn W none ([] : List ByteArray)) => rMay_any t.tx false false ([] : List ByteArray) none 0 0 (.slice none 0 0) (ts.drop (1)) (0) (cap - 1) (some ⟨b, o + 5, none⟩) W HLF.out (by have := HLF.out; omega) (HTF.out W h) HPN.out (by omega) hp
  cases hmb : mayB false false ([] : List ByteArray) (ts.drop (1)) with
  | false =>
    have HNO : Hid (X = none) := Lib.hid (by rw [HD2.out, hmb]; rfl)
    rw [hmb] at CM
    clear hmb HD2
    refine wp_region_held_drew (S := (fun W : World => MzBox W (w.heap.size + 1 + 1) (.string t.tx) (.bool false) (.slice none 0 0) (.bool false) (.slice none 0 0))) (by kernel_rfl) hMb (fun hS => ?_)
    refine take_op (i := 0) (d := 62) (v := .agg #[.string t.tx, .bool false, .slice none 0 0, .bool false, .slice none 0 0]) rfl rfl (by kernel_rfl) (by kernel_rfl) (by kernel_rfl) (fun _ _ _ h => h) (Or.inl ⟨by rfl, ?_⟩) hS ?_
    · rintro W hW
      obtain ⟨x0, x1, x2, x3, x4, -, -, -, -, -⟩ := MzBox.facts hW
      go_simp
      try (intro hh; exfalso; omega)
    simp only [List.setIfInBounds_toArray, List.set_cons_zero, List.set_cons_succ]
    refine take_op (i := 1) (d := 63) (v := .slice (some ⟨b, o, none⟩) 1 cap) rfl rfl (by kernel_rfl) (by kernel_rfl) (by kernel_rfl) (fun _ _ _ h => h) (Or.inl ⟨by rfl, ?_⟩) hS ?_
    · rintro W hW
      obtain ⟨x0, x1, x2, x3, x4, -, -, -, -, -⟩ := MzBox.facts hW
      go_simp
      try (intro hh; exfalso; omega)
    simp only [List.setIfInBounds_toArray, List.set_cons_zero, List.set_cons_succ]
    refine take_op (i := 2) (d := 64) (v := .int .i64 ((1 : Nat) : Int)) rfl rfl (by kernel_rfl) (by kernel_rfl) (by kernel_rfl) (fun _ _ _ h => h) (Or.inl ⟨by rfl, ?_⟩) hS ?_
    · rintro W hW
      obtain ⟨x0, x1, x2, x3, x4, -, -, -, -, -⟩ := MzBox.facts hW
      go_simp
      try (intro hh; exfalso; omega)
    simp only [List.setIfInBounds_toArray, List.set_cons_zero, List.set_cons_succ]
    refine take_op (i := 3) (d := 65) (v := .slice (some ⟨b, o + 5, none⟩) (0) (cap - 1)) rfl rfl (by kernel_rfl) (by kernel_rfl) (by kernel_rfl) (fun _ _ _ h => h) (Or.inl ⟨by rfl, ?_⟩) hS ?_
    · rintro W hW
      obtain ⟨x0, x1, x2, x3, x4, -, -, -, -, -⟩ := MzBox.facts hW
      go_simp
      try (intro hh; exfalso; omega)
    simp only [List.setIfInBounds_toArray, List.set_cons_zero, List.set_cons_succ]

    refine wpAnyH_ready (rs := [4]) (by kernel_rfl) (by simp) ?_
    refine AllReadyH.cons rfl (fun K hK => ?_) AllReadyH.nil
    go_simp
    refine (CM _ (below_drewN hBw 1) (strIn_row HPN.out hprow)).mono ?_
    rintro e w5 ⟨rfl, hb5⟩
    have hb5' : Below WW.heap.size WW w5 := (below_drewN (Below.refl _ WW) 1).trans (hb5.mono (Nat.le_refl _))
    have hM5 := hMb.below hb5'
    have hR5 := hRb.below hb5'
    have hB5 := hBw.trans (hb5'.mono hBw.size)
    go_wp2_with fail
    refine hK.out _ _ hM5 (fun hS => ?_)
    clear hK K
    refine take_op (i := 5) (d := 67) (v := .bool true) rfl rfl (by kernel_rfl) (by kernel_rfl) (by kernel_rfl) (fun _ _ _ h => h) (Or.inl ⟨by rfl, ?_⟩) hS ?_
    · rintro W hW
      obtain ⟨x0, x1, x2, x3, x4, -, -, -, -, -⟩ := MzBox.facts hW
      go_simp
      try (intro hh; exfalso; omega)
    simp only [List.setIfInBounds_toArray, List.set_cons_zero, List.set_cons_succ]

    refine wpAnyH_done (by kernel_rfl) ?_ _
    clear hS
    obtain ⟨z0, z1, z2, z3, z4, f0, f1, f2, f3, f4⟩ := hR5.facts
    go_wp2
    refine bodyPost_ret (v := .tuple #[.agg #[.string ⟨#[]⟩, .bool false, .slice none 0 0, .bool false, .slice none 0 0], .int .i64 50]) (by simp [results, Tryz.results18, go_sem, z0, z1, z2, z3, z4]) rfl ?_
    exact DefRes.no HNO.out rfl (below_set5 hB5 (Nat.le_refl _))

  | true =>
    have HNY : Hid (X = some ⟨t.tx, false, ([] : List ByteArray), false, firstNo ((ts.drop (1)).map pzOf)⟩) := Lib.hid (by rw [HD2.out, hmb]; rfl)
    rw [hmb] at CM
    clear hmb HD2
    refine wp_region_held_drew (S := (fun W : World => MzBox W (w.heap.size + 1 + 1) (.string t.tx) (.bool false) (.slice none 0 0) (.bool false) (.slice none 0 0))) (by kernel_rfl) hMb (fun hS => ?_)
    refine take_op (i := 0) (d := 62) (v := .agg #[.string t.tx, .bool false, .slice none 0 0, .bool false, .slice none 0 0]) rfl rfl (by kernel_rfl) (by kernel_rfl) (by kernel_rfl) (fun _ _ _ h => h) (Or.inl ⟨by rfl, ?_⟩) hS ?_
    · rintro W hW
      obtain ⟨x0, x1, x2, x3, x4, -, -, -, -, -⟩ := MzBox.facts hW
      go_simp
      try (intro hh; exfalso; omega)
    simp only [List.setIfInBounds_toArray, List.set_cons_zero, List.set_cons_succ]
    refine take_op (i := 1) (d := 63) (v := .slice (some ⟨b, o, none⟩) 1 cap) rfl rfl (by kernel_rfl) (by kernel_rfl) (by kernel_rfl) (fun _ _ _ h => h) (Or.inl ⟨by rfl, ?_⟩) hS ?_
    · rintro W hW
      obtain ⟨x0, x1, x2, x3, x4, -, -, -, -, -⟩ := MzBox.facts hW
      go_simp
      try (intro hh; exfalso; omega)
    simp only [List.setIfInBounds_toArray, List.set_cons_zero, List.set_cons_succ]
    refine take_op (i := 2) (d := 64) (v := .int .i64 ((1 : Nat) : Int)) rfl rfl (by kernel_rfl) (by kernel_rfl) (by kernel_rfl) (fun _ _ _ h => h) (Or.inl ⟨by rfl, ?_⟩) hS ?_
    · rintro W hW
      obtain ⟨x0, x1, x2, x3, x4, -, -, -, -, -⟩ := MzBox.facts hW
      go_simp
      try (intro hh; exfalso; omega)
    simp only [List.setIfInBounds_toArray, List.set_cons_zero, List.set_cons_succ]
    refine take_op (i := 3) (d := 65) (v := .slice (some ⟨b, o + 5, none⟩) (0) (cap - 1)) rfl rfl (by kernel_rfl) (by kernel_rfl) (by kernel_rfl) (fun _ _ _ h => h) (Or.inl ⟨by rfl, ?_⟩) hS ?_
    · rintro W hW
      obtain ⟨x0, x1, x2, x3, x4, -, -, -, -, -⟩ := MzBox.facts hW
      go_simp
      try (intro hh; exfalso; omega)
    simp only [List.setIfInBounds_toArray, List.set_cons_zero, List.set_cons_succ]

    refine wpAnyH_ready (rs := [4]) (by kernel_rfl) (by simp) ?_
    refine AllReadyH.cons rfl (fun K hK => ?_) AllReadyH.nil
    go_simp
    refine (CM _ (below_drewN hBw 1) (strIn_row HPN.out hprow)).mono ?_
    rintro e w5 ⟨rfl, hb5⟩
    have hb5' : Below WW.heap.size WW w5 := (below_drewN (Below.refl _ WW) 1).trans (hb5.mono (Nat.le_refl _))
    have hM5 := hMb.below hb5'
    have hR5 := hRb.below hb5'
    have hB5 := hBw.trans (hb5'.mono hBw.size)
    have hrow5 := row_below hprow hb5'
    go_wp2_with fail
    refine hK.out _ _ hM5 (fun hS => ?_)
    clear hK K
    refine take_op (i := 5) (d := 67) (v := .bool false) rfl rfl (by kernel_rfl) (by kernel_rfl) (by kernel_rfl) (fun _ _ _ h => h) (Or.inl ⟨by rfl, ?_⟩) hS ?_
    · rintro W hW
      obtain ⟨x0, x1, x2, x3, x4, -, -, -, -, -⟩ := MzBox.facts hW
      go_simp
      try (intro hh; exfalso; omega)
    simp only [List.setIfInBounds_toArray, List.set_cons_zero, List.set_cons_succ]

    refine wpAnyH_done (by kernel_rfl) ?_ _
    clear hS CM hMb hRb hBw hb5 hb5'
    have CO := rOf_any (ts.drop (1)) (0) (cap - 1) (some ⟨b, o + 5, none⟩) w5 HLF.out (by have := HLF.out; omega) (HTF.out w5 hB5)
    go_wp2_with fail
    refine CO.mono ?_
    rintro e w4 ⟨⟨bv, rfl, hrw4⟩, hb4⟩
    obtain ⟨ab, cb, rfl⟩ := row_shape hrw4
    have hs3 := (Array.getElem?_eq_some_iff.1 hM5).1
    have hl3 := hrow5.lt
    have hR4 := hR5.below hb4
    have hM4 := hM5.below hb4
    have hB4 := hB5.trans (hb4.mono hB5.size)
    have hrow4 := row_below hrow5 hb4
    have hl4 := hrw4.lt
    obtain ⟨MM, hMM⟩ : ∃ MM, ((w.heap.size + 1 + 1)) = MM := ⟨_, rfl⟩
    have HLF2 : Hid ((ts.drop (1)).length = 0) := HLF
    have hwM : w.heap.size < MM := by omega
    have hp1 : ∀ j, (Value.ownBlock (.slice none 0 0)) = some j → w.heap.size < j ∧ j ≠ MM ∧ j < w5.heap.size := fun j h => by have := hpM j h; have := (hl3 j h).2; rw [← hMM]; exact ⟨by omega, by omega, by omega⟩
    rw [hMM] at hM4 hs3
    rw [hMM]
    clear CO hR5 hM5 hB5 hrow5 hb4 HLF hMM
    obtain ⟨L, hL⟩ : ∃ L, ts.drop (1) = L := ⟨_, rfl⟩
    rw [hL] at HNY HLF2 hrw4
    clear hL HTF
    have hM5 := hM4.set4 (.slice ab 0 cb)
    have hR5 := hR4.far (show MM ≠ w.heap.size by omega) (i := 4) (u := .slice ab 0 cb)
    have hB5 := hB4.setCell (p := ⟨MM, 4, none⟩) (show w.heap.size ≤ MM by omega) (.slice ab 0 cb)
    have hrow5 := row_setC (P := MM) (i := 4) (a := .slice ab 0 cb) hrow4 (fun j h => (hp1 j h).2.1)
    have hrw5 := row_setC (P := MM) (i := 4) (a := .slice ab 0 cb) hrw4 (fun j h => by have := (hl4 j h).1; omega)
    obtain ⟨-, -, -, -, y4, -, -, -, -, g4⟩ := hM4.facts
    obtain ⟨x0, x1, x2, x3, x4, -, -, -, -, -⟩ := hM5.facts
    have hl5 := hrw5.lt
    clear hl3 hl4
    obtain ⟨z0, z1, z2, z3, z4, f0, f1, f2, f3, f4⟩ := hR5.facts
    go_wp2
    clear z0 z1 z2 z3 z4 f0 f1 f2 f3 f4
    have hR6 := ((((hR5.set0 (.string t.tx)).set1 (.bool false)).set2 (.slice none 0 0)).set3 (.bool false)).set4 (.slice ab 0 cb)
    obtain ⟨z0, z1, z2, z3, z4, -, -, -, -, -⟩ := hR6.facts
    refine bodyPost_ret (v := .tuple #[.agg #[.string t.tx, .bool false, .slice none 0 0, .bool false, .slice ab 0 cb], .int .i64 0]) (by simp [results, Tryz.results18, go_sem, z0, z1, z2, z3, z4]) rfl ?_
    refine DefRes.yes HNY.out HPN.out (by rw [firstNo_len, List.length_map, HLF2.out]) rfl ?_ ?_ (below_set5 hB5 (Nat.le_refl _))
    · exact ownsRow_set5 (row_lower0 (by omega) hrow5) (fun j h => by have := (hp1 j h).1; omega)
    · have hl : L = [] := List.length_eq_zero_iff.1 HLF2.out
      rw [hl] at hrw5 ⊢
      exact ownsRow_set5 (row_lower0 (by omega) hrw5) (fun j h => by have := (hl5 j h).1; omega)


end Go.Proofs.YtaodjipnffgihaaGreat
