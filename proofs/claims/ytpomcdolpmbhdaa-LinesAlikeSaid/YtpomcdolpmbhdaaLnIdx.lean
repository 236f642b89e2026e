/- slices.ContainsFunc of rows and tells. -/
import Derived.Test.YtpomcdolpmbhdaaLnTells
import Derived.Deep.LoopGhost
namespace Go.Proofs.Ytpomcdolpmbhdaa
open Go.RowKit Go.Shelf

/-- Where the first row that counts stands; -1: nowhere. -/
def firstT : List Rz → Nat → Int
  | [], _ => -1
  | r :: l, k => if tellsB r then (k : Int) else firstT l (k + 1)
theorem firstT_step {l : List Rz} {k : Nat} {r : Rz} (h : l[k]? = some r) : firstT (l.drop k) k = if tellsB r then (k : Int) else firstT (l.drop (k + 1)) (k + 1) := by
  rw [List.drop_eq_getElem_cons (List.getElem?_eq_some_iff.1 h).1, (List.getElem?_eq_some_iff.1 h).2, firstT]
theorem firstT_end {l : List Rz} {k : Nat} (h : l.length ≤ k) : firstT (l.drop k) k = -1 := by
  rw [List.drop_eq_nil_of_le h]; rfl
theorem firstT_any : ∀ (l : List Rz) (k : Nat), decide (0 ≤ firstT l k) = l.any tellsB
  | [], k => rfl
  | r :: l, k => by
    rw [firstT, List.any_cons]
    cases tellsB r
    · simp only [Bool.false_or]; exact firstT_any l (k + 1)
    · simp
theorem firstT_fits : ∀ (l : List Rz) (k : Nat), -1 ≤ firstT l k
  | [], k => Int.le_refl _
  | r :: l, k => by
    rw [firstT]
    split
    · omega
    · exact firstT_fits l (k + 1)

/-- How great rows may be for lines. -/
def RowsFit (rs : List Rz) : Prop := ∀ r ∈ rs, r.ts.length * 48 ≤ 140737488355328 ∧ ∀ t ∈ r.ts, t.tx.size ≤ 281474976710656

set_option maxRecDepth 100000 in
set_option maxHeartbeats 4000000 in
theorem indexFunc_any (rs : List Rz) (n cap : Nat) (a : Option Addr) (w : World) (hn : rs.length = n) (hn2 : n * 48 ≤ 140737488355328) (hf : RowsFit rs) (hT : RzIn w a rs) :
    Calls Try.prog 46 #[.slice a n cap, .func (.func 34) #[] #[]] w fun e w' => e = .returned (.int .i64 (firstT rs 0)) ∧ Below w.heap.size w w' := by
  have HN := Lib.hid hn
  have HT := Lib.hid hT
  have HF := Lib.hid hf
  obtain ⟨R, hR⟩ : ∃ R, firstT rs 0 = R := ⟨_, rfl⟩
  rw [hR]
  have HR : Hid (R = firstT (rs.drop 0) 0) := Lib.hid hR.symm
  clear hn hT hf hR
  go_enter Try.func46, Try.ntmps46
  go_wp2
  go_loopw [8] (fun i wx => ∃ k : Nat, k ≤ n ∧ i = .int .i64 k ∧ Hid (R = firstT (rs.drop k) k) ∧ Below w.heap.size w wx) (fun i _ => n - (intOf i).toNat)
  case atStart => exact ⟨0, Nat.zero_le _, rfl, HR, Below.refl _ _⟩
  case round =>
    obtain ⟨k, hk, rfl, HK, hbx⟩ := hrel
    by_cases hlt : k < n
    · obtain ⟨r, hr⟩ : ∃ r, rs[k]? = some r := ⟨_, List.getElem?_eq_getElem (by rw [HN.out]; exact hlt)⟩
      obtain ⟨b, o, rfl, hg1, hrz⟩ := HT.out (by rw [HN.out]; omega)
      obtain ⟨c0, c1, ta, tcap, c2, htk⟩ := (hrz.below hbx hg1) k r hr
      obtain ⟨hrl, hrx⟩ := HF.out r (List.mem_of_getElem? hr)
      have hst := HK.out
      rw [firstT_step hr] at hst
      have CT := tells_any r ta tcap wr hrl hrx (htk.mono hbx.size)
      have HS := Lib.hid hst
      clear hr hrz htk hrx hst HK
      have j1 : (k : Int) < (n : Int) := by omega
      have j0 : (0 : Int) ≤ (k : Int) := by omega
      cases htl : tellsB r with
      | true =>
        rw [htl] at CT
        have HS2 : Hid (R = (k : Int)) := Lib.hid (by rw [HS.out, htl]; rfl)
        clear HS htl
        go_wp2_with fail
        refine CT.mono ?_
        rintro e w1 ⟨rfl, hb1⟩
        have hB1 := hbx.trans (hb1.mono hbx.size)
        go_wp2
        go_ret
        exact ⟨ri (by rw [HS2.out]), hB1⟩
      | false =>
        rw [htl] at CT
        have HS2 : Hid (R = firstT (rs.drop (k + 1)) (k + 1)) := Lib.hid (by rw [HS.out, htl]; rfl)
        clear HS htl
        go_wp2_with fail
        refine CT.mono ?_
        rintro e w1 ⟨rfl, hb1⟩
        have hB1 := hbx.trans (hb1.mono hbx.size)
        go_wp2
        refine ⟨⟨k + 1, by omega, by go_num, HS2, hB1⟩, ?_⟩
        simp [intOf]; omega
    · have HS2 : Hid (R = -1) := Lib.hid (by rw [HK.out]; exact firstT_end (by rw [HN.out]; omega))
      clear HK
      go_wp2
      go_ret
      exact ⟨ri (by rw [HS2.out]), hbx⟩

set_option maxHeartbeats 1000000 in
theorem containsFunc_any (rs : List Rz) (n cap : Nat) (a : Option Addr) (w : World) (hn : rs.length = n) (hn2 : n * 48 ≤ 140737488355328) (hf : RowsFit rs) (hT : RzIn w a rs) :
    Calls Try.prog 36 #[.slice a n cap, .func (.func 34) #[] #[]] w fun e w' => e = .returned (.bool (rs.any tellsB)) ∧ Below w.heap.size w w' := by
  have CI := indexFunc_any rs n cap a w hn hn2 hf hT
  have HA := Lib.hid (firstT_any rs 0)
  have hlo := firstT_fits rs 0
  obtain ⟨R, hR⟩ : ∃ R, firstT rs 0 = R := ⟨_, rfl⟩
  rw [hR] at CI HA hlo
  clear hn hT hf hR
  by_cases h0 : 0 ≤ R
  · have HB : Hid (rs.any tellsB = true) := Lib.hid (by rw [← HA.out]; exact decide_eq_true h0)
    clear HA
    go_enter Try.func36, Try.ntmps36
    go_wp2_with fail
    refine CI.mono ?_
    rintro e w1 ⟨rfl, hb1⟩
    go_wp2
    go_ret
    exact ⟨rb (by rw [HB.out] <;> simp [h0]), hb1⟩
  · have HB : Hid (rs.any tellsB = false) := Lib.hid (by rw [← HA.out]; exact decide_eq_false h0)
    clear HA
    go_enter Try.func36, Try.ntmps36
    go_wp2_with fail
    refine CI.mono ?_
    rintro e w1 ⟨rfl, hb1⟩
    go_wp2
    go_ret
    exact ⟨rb (by rw [HB.out] <;> simp [h0]), hb1⟩

end Go.Proofs.Ytpomcdolpmbhdaa
