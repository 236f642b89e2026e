/- Is a text among some: slices.Index, slices.Contains, macro.spells. -/
import Derived.Test.YtaodjipnffgihaaMcA
import Derived.Test.YtaodjipnffgihaaMcR
import Derived.Deep.LoopGhost
namespace Go.Proofs.Ytaodjipnffgihaa
open Go.RowKit Go.Shelf

/-- Where the first text that is s stands; -1: nowhere. -/
def firstX (s : ByteArray) : List ByteArray → Nat → Int
  | [], _ => -1
  | r :: l, k => if s.toList == r.toList then (k : Int) else firstX s l (k + 1)
theorem firstX_step {s : ByteArray} {l : List ByteArray} {k : Nat} {r : ByteArray} (h : l[k]? = some r) : firstX s (l.drop k) k = if s.toList == r.toList then (k : Int) else firstX s (l.drop (k + 1)) (k + 1) := by
  rw [List.drop_eq_getElem_cons (List.getElem?_eq_some_iff.1 h).1, (List.getElem?_eq_some_iff.1 h).2, firstX]
theorem firstX_end {s : ByteArray} {l : List ByteArray} {k : Nat} (h : l.length ≤ k) : firstX s (l.drop k) k = -1 := by
  rw [List.drop_eq_nil_of_le h]; rfl
theorem beq_turn (a b : List UInt8) : (a == b) = (b == a) := by
  rw [Bool.eq_iff_iff, beq_iff_eq, beq_iff_eq]; exact eq_comm
theorem firstX_any (s : ByteArray) : ∀ (l : List ByteArray) (k : Nat), decide (0 ≤ firstX s l k) = amongS l s
  | [], k => rfl
  | r :: l, k => by
    rw [firstX, amongS, List.any_cons, beq_turn]
    cases (r.toList == s.toList)
    · simp only [Bool.false_or]; exact firstX_any s l (k + 1)
    · simp

set_option maxRecDepth 100000 in
set_option maxHeartbeats 4000000 in
theorem sIndex_any (ss : List ByteArray) (s : ByteArray) (n cap : Nat) (a : Option Addr) (w : World) (hn : ss.length = n) (hn2 : n * 16 ≤ 140737488355328) (hT : StrIn w a ss) :
    Calls Try.prog 83 #[.slice a n cap, .string s] w fun e w' => e = .returned (.int .i64 (firstX s ss 0)) ∧ Below w.heap.size w w' := by
  have HN := Lib.hid hn
  have HT := Lib.hid hT
  obtain ⟨R, hR⟩ : ∃ R, firstX s ss 0 = R := ⟨_, rfl⟩
  rw [hR]
  have HR : Hid (R = firstX s (ss.drop 0) 0) := Lib.hid hR.symm
  clear hn hT hR
  go_enter Try.func83, Try.ntmps83
  go_wp2
  go_loopw [8] (fun i wx => ∃ k : Nat, k ≤ n ∧ i = .int .i64 k ∧ Hid (R = firstX s (ss.drop k) k) ∧ Below w.heap.size w wx) (fun i _ => n - (intOf i).toNat)
  case atStart => exact ⟨0, Nat.zero_le _, rfl, HR, Below.refl _ _⟩
  case round =>
    obtain ⟨k, hk, rfl, HK, hbx⟩ := hrel
    by_cases hlt : k < n
    · obtain ⟨r, hr⟩ : ∃ r, ss[k]? = some r := ⟨_, List.getElem?_eq_getElem (by rw [HN.out]; exact hlt)⟩
      obtain ⟨b, o, rfl, hg1, hrz⟩ := HT.out (by rw [HN.out]; omega)
      have c0 := (hrz.below hbx hg1) k r hr
      have hst := HK.out
      rw [firstX_step hr] at hst
      have HS := Lib.hid hst
      clear hr hrz hst HK
      have j1 : (k : Int) < (n : Int) := by omega
      have j0 : (0 : Int) ≤ (k : Int) := by omega
      cases htl : (s.toList == r.toList) with
      | true =>
        have HS2 : Hid (R = (k : Int)) := Lib.hid (by rw [HS.out, htl]; rfl)
        clear HS
        go_wp2
        go_ret
        exact ⟨ri (by rw [HS2.out]), hbx⟩
      | false =>
        have HS2 : Hid (R = firstX s (ss.drop (k + 1)) (k + 1)) := Lib.hid (by rw [HS.out, htl]; rfl)
        clear HS
        go_wp2
        refine ⟨⟨k + 1, by omega, by go_num, HS2, hbx⟩, ?_⟩
        simp [intOf]; omega
    · have HS2 : Hid (R = -1) := Lib.hid (by rw [HK.out]; exact firstX_end (by rw [HN.out]; omega))
      clear HK
      go_wp2
      go_ret
      exact ⟨ri (by rw [HS2.out]), hbx⟩

set_option maxHeartbeats 1000000 in
theorem sContains_any (ss : List ByteArray) (s : ByteArray) (n cap : Nat) (a : Option Addr) (w : World) (hn : ss.length = n) (hn2 : n * 16 ≤ 140737488355328) (hT : StrIn w a ss) :
    Calls Try.prog 67 #[.slice a n cap, .string s] w fun e w' => e = .returned (.bool (amongS ss s)) ∧ Below w.heap.size w w' := by
  have CI := sIndex_any ss s n cap a w hn hn2 hT
  have HA := Lib.hid (firstX_any s ss 0)
  obtain ⟨R, hR⟩ : ∃ R, firstX s ss 0 = R := ⟨_, rfl⟩
  rw [hR] at CI HA
  clear hn hT hR
  by_cases h0 : 0 ≤ R
  · have HB : Hid (amongS ss s = true) := Lib.hid (by rw [← HA.out]; exact decide_eq_true h0)
    clear HA
    go_enter Try.func67, Try.ntmps67
    go_wp2_with fail
    refine CI.mono ?_
    rintro e w1 ⟨rfl, hb1⟩
    go_wp2
    go_ret
    exact ⟨rb (by rw [HB.out] <;> simp [h0]), hb1⟩
  · have HB : Hid (amongS ss s = false) := Lib.hid (by rw [← HA.out]; exact decide_eq_false h0)
    clear HA
    go_enter Try.func67, Try.ntmps67
    go_wp2_with fail
    refine CI.mono ?_
    rintro e w1 ⟨rfl, hb1⟩
    go_wp2
    go_ret
    exact ⟨rb (by rw [HB.out] <;> simp [h0]), hb1⟩

set_option maxHeartbeats 2000000 in
/-- macro.spells. -/
theorem spells_any (t : Tz) (q : Int) (ss : List ByteArray) (n cap : Nat) (a : Option Addr) (w : World) (hn : ss.length = n) (hn2 : n * 16 ≤ 140737488355328) (hT : StrIn w a ss) :
    Calls Try.prog 46 #[.agg #[.int .i64 t.k, .string t.tx, .int .i64 t.a, .int .i64 t.e, .bool t.sp], .int .i64 q, .slice a n cap] w fun e w' => e = .returned (.bool (t.k == q && amongS ss t.tx)) ∧ Below w.heap.size w w' := by
  have hb0 := below1 w (.cells #[.int .i64 t.k, .string t.tx, .int .i64 t.a, .int .i64 t.e, .bool t.sp] 49)
  have CC := sContains_any ss t.tx n cap a _ hn hn2 (hT.below hb0)
  obtain ⟨C, hC⟩ : ∃ C, amongS ss t.tx = C := ⟨_, rfl⟩
  rw [hC] at CC
  rw [hC]
  clear hn hT hC
  cases h5 : (t.k == q)
  · go_enter Try.func46, Try.ntmps46
    go_wp2
    go_ret
    exact ⟨rfl, hb0⟩
  · go_enter Try.func46, Try.ntmps46
    go_wp2_with fail
    refine CC.mono ?_
    rintro e w1 ⟨rfl, hb1⟩
    go_wp2
    go_ret
    exact ⟨rb (by rfl), hb0.trans (hb1.mono hb0.size)⟩

end Go.Proofs.Ytaodjipnffgihaa
