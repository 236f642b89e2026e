/- Several texts laid together. -/
import Derived.Test.YtaodjipnffgihaaTxD
import Derived.Test.YtaodjipnffgihaaMcL
import Derived.Test.YtaodjipnffgihaaTxE
import Derived.Test.YtaodjipnffgihaaMkG

namespace Go.Proofs.Ytaodjipnffgihaa
open Go.RowKit Go.Shelf

/-- What the law's defined says where a text defines nothing. -/
def ldE (s : ByteArray) : Int := if scanErr s = 0 ∧ (rowsT s).length = 1 then 50 else 3
def LdRes (w : World) (x : Option Mz) (c : Int) (e : Ending) (w' : World) : Prop :=
  (match x with
    | none => e = .returned (.tuple #[.agg #[.string ⟨#[]⟩, .bool false, .slice none 0 0, .bool false, .slice none 0 0], .int .i64 c])
    | some m => ∃ v u, e = .returned (.tuple #[.agg #[.string m.nm, .bool m.fn, v, .bool m.vr, u], .int .i64 0]) ∧ w'.ownsRow w.heap.size 9 1 v m.ps.length (stV m.ps) ∧ w'.ownsRow w.heap.size 36 4 u m.bs.length (pnCells m.bs)) ∧ Below w.heap.size w w'
theorem LdRes.no {w w' : World} {x : Option Mz} {e : Ending} {c d : Int} (hx : x = none) (hc : d = c) (he : e = .returned (.tuple #[.agg #[.string ⟨#[]⟩, .bool false, .slice none 0 0, .bool false, .slice none 0 0], .int .i64 c])) (hb : Below w.heap.size w w') : LdRes w x d e w' := by
  subst hx hc; exact ⟨he, hb⟩
theorem LdRes.yes {w w' : World} {x : Option Mz} {e : Ending} {nm : ByteArray} {fn vr : Bool} {ps : List ByteArray} {bs : List Pz} {v u : Value} {c : Int} (hx : x = some ⟨nm, fn, ps, vr, bs⟩) (he : e = .returned (.tuple #[.agg #[.string nm, .bool fn, v, .bool vr, u], .int .i64 0])) (hr : w'.ownsRow w.heap.size 9 1 v ps.length (stV ps)) (hu : w'.ownsRow w.heap.size 36 4 u bs.length (pnCells bs)) (hb : Below w.heap.size w w') : LdRes w x c e w' := by
  subst hx; exact ⟨⟨v, u, he, hr, hu⟩, hb⟩

set_option maxRecDepth 100000 in
set_option maxHeartbeats 4000000 in
theorem ldefined_any (s : ByteArray) (w : World) (hs : s.size ≤ maxLen) (hL : LibVar w) :
    Calls Try.prog 15 #[.string s] w (LdRes w (definedS s) (ldE s)) := by
  have hb0 := below1 w (.cells #[.string ⟨#[]⟩, .bool false, .slice none 0 0, .bool false, .slice none 0 0] 26)
  have hR0 := MzBox.new w (.string ⟨#[]⟩) (.bool false) (.slice none 0 0) (.bool false) (.slice none 0 0)
  have CS := scan_tz s (w.alloc (.cells #[.string ⟨#[]⟩, .bool false, .slice none 0 0, .bool false, .slice none 0 0] 26)) hs (hL.low hb0)
  obtain ⟨X, hX⟩ : ∃ X, definedS s = X := ⟨_, rfl⟩
  obtain ⟨D, hD⟩ : ∃ D, ldE s = D := ⟨_, rfl⟩
  have HX := Lib.hid hX
  have HD := Lib.hid hD
  rw [hX, hD]
  clear hX hD
  obtain ⟨hf1, hf2⟩ := tks_fit s
  obtain ⟨T, hT⟩ : ∃ T, tksOf s = T := ⟨_, rfl⟩
  have hRT : rowsT s = rowsS T := by unfold rowsT; rw [hT]
  obtain ⟨L, hLr⟩ : ∃ L, rowsS T = L := ⟨_, rfl⟩
  rw [hT] at CS hf1 hf2
  obtain ⟨m, hm⟩ : ∃ m, T.length = m := ⟨_, rfl⟩
  rw [hm] at CS hf1
  have HM := Lib.hid hm
  have HF := Lib.hid hf2
  have HLR := Lib.hid hLr
  have HRT := Lib.hid (hRT.trans hLr)
  clear hT hRT hm hf2 hLr
  by_cases he : scanErr s = 0
  · have HX2 : Hid (X = oneD L) := Lib.hid (by rw [← HX.out, ← HRT.out]; unfold definedS; rw [if_pos he])
    have HD2 : Hid (D = if L.length = 1 then 50 else 3) := Lib.hid (by
      rw [← HD.out, ← HRT.out]; unfold ldE
      by_cases h : (rowsT s).length = 1
      · rw [if_pos ⟨he, h⟩, if_pos h]
      · rw [if_neg (fun q => h q.2), if_neg h])
    rw [he] at CS
    clear he HX HD HRT
    go_enter Try.func15, Try.ntmps15
    go_wp2_with fail
    refine CS.mono ?_
    rintro e w1 ⟨⟨a, cap, rfl, hc, hi⟩, hb1⟩
    have hR1 := hR0.below hb1
    have hB1 := hb0.trans (hb1.mono hb0.size)
    have CR := rows_in_any m cap a w1 (by omega) hc T HM.out (fun t ht => Nat.le_trans (HF.out t ht) (by decide)) hi
    rw [HLR.out] at CR
    clear CS hi hR0
    go_wp2_with fail
    refine CR.mono ?_
    rintro e w2 ⟨⟨a2, cap2, rfl, hc2, hi2⟩, hb2⟩
    have hR2 := hR1.below hb2
    have hB2 := hB1.trans (hb2.mono hB1.size)
    clear CR hR1
    by_cases h1 : L.length = 1
    · obtain ⟨r, rfl⟩ := List.length_eq_one_iff.1 h1
      have HN : Hid (X = defineS (saysS r)) := Lib.hid HX2.out
      have HD3 : Hid (D = 50) := Lib.hid HD2.out
      have hfit := rows_fit (ts := T) (by rw [HM.out]; omega) (fun t ht => Nat.le_trans (HF.out t ht) (by decide))
      rw [HLR.out] at hfit
      obtain ⟨hrl, hrx⟩ := hfit r List.mem_cons_self
      obtain ⟨s1, s2⟩ := saysS_fit r
      obtain ⟨b, o, rfl, hg, hrz⟩ := hi2 (by simp)
      obtain ⟨c0, c1, ta, tcap, c2, htk⟩ := hrz 0 r rfl
      have CY := says_cap_any r ta tcap w2 hrl hrx htk
      have HSX : Hid (∀ t ∈ saysS r, t.tx.size ≤ 281474976710656) := Lib.hid (fun t ht => by
        obtain ⟨u, hu, e⟩ := s2 t ht
        rw [e]
        exact hrx u hu)
      obtain ⟨k, hk⟩ : ∃ k, (saysS r).length = k := ⟨_, rfl⟩
      rw [hk] at CY s1
      have HK := Lib.hid hk
      have hk2 : k * 48 ≤ 140737488355328 := by omega
      have k0 : w2.cell? ⟨b, o, none⟩ = some (.bool r.d) := c0
      have k1 : w2.cell? ⟨b, o + 1, none⟩ = some (.string r.nm) := c1
      have k2 : w2.cell? ⟨b, o + 2, none⟩ = some (.slice ta r.ts.length tcap) := c2
      clear h1 hfit hrx s2 hi2 hrz htk HX2 HLR HM HF hk HD2
      have hL1 : [r].length = 1 := rfl
      rw [hL1]
      have j2 : (((1 : Nat) : Int) != 1) = false := rfl
      go_wp2_with fail
      refine CY.mono ?_
      rintro e w3 ⟨⟨a3, cap3, rfl, hc3, hS3⟩, hb3⟩
      clear k0 k1 k2 CY
      have hR3 := hR2.below hb3
      have hB3 := hB2.trans (hb3.mono hB2.size)
      have CD := define_any (saysS r) k cap3 a3 w3 HK.out hc3 hk2 HSX.out hS3.in
      have hP3 : w.heap.size < w3.heap.size := (Array.getElem?_eq_some_iff.1 hR3).1
      clear hS3 HSX hR2 hB2
      cases hd : defineS (saysS r) with
      | none =>
        rw [hd] at CD
        have HN2 : Hid (X = none) := Lib.hid (by rw [HN.out, hd])
        clear hd HN
        go_wp2_with fail
        refine CD.mono ?_
        rintro e w4 ⟨rfl, hb4⟩
        have hR4 := hR3.below hb4
        have hB4 := hB3.trans (hb4.mono hB3.size)
        obtain ⟨z0, z1, z2, z3, z4, f0, f1, f2, f3, f4⟩ := hR4.facts
        go_wp2
        refine bodyPost_ret (v := .tuple #[.agg #[.string ⟨#[]⟩, .bool false, .slice none 0 0, .bool false, .slice none 0 0], .int .i64 50]) (by simp [results, Try.results15, go_sem, z0, z1, z2, z3, z4]) rfl ?_
        exact LdRes.no HN2.out HD3.out rfl (below_set5 hB4 (Nat.le_refl _))
      | some m =>
        obtain ⟨nm, fn, ps, vr, bs⟩ := m
        rw [hd] at CD
        have HN2 : Hid (X = some ⟨nm, fn, ps, vr, bs⟩) := Lib.hid (by rw [HN.out, hd])
        clear hd HN
        go_wp2_with fail
        refine CD.mono ?_
        rintro e w4 ⟨⟨v, u, rfl, hr1, hr2⟩, hb4⟩
        have hR4 := hR3.below hb4
        have hB4 := hB3.trans (hb4.mono hB3.size)
        have hl1 := hr1.lt
        have hl2 := hr2.lt
        obtain ⟨va, vc, rfl⟩ := row_shape hr1
        obtain ⟨ua, uc, rfl⟩ := row_shape hr2
        obtain ⟨z0, z1, z2, z3, z4, f0, f1, f2, f3, f4⟩ := hR4.facts
        go_wp2
        clear z0 z1 z2 z3 z4 f0 f1 f2 f3 f4
        have hR5 := ((((hR4.set0 (.string nm)).set1 (.bool fn)).set2 (.slice va ps.length vc)).set3 (.bool vr)).set4 (.slice ua bs.length uc)
        obtain ⟨z0, z1, z2, z3, z4, -, -, -, -, -⟩ := hR5.facts
        refine bodyPost_ret (v := .tuple #[.agg #[.string nm, .bool fn, .slice va ps.length vc, .bool vr, .slice ua bs.length uc], .int .i64 0]) (by simp [results, Try.results15, go_sem, z0, z1, z2, z3, z4]) rfl ?_
        refine LdRes.yes HN2.out rfl ?_ ?_ (below_set5 hB4 (Nat.le_refl _))
        · exact ownsRow_set5 (row_lower0 (by omega) hr1) (fun j h => by have := (hl1 j h).1; omega)
        · exact ownsRow_set5 (row_lower0 (by omega) hr2) (fun j h => by have := (hl2 j h).1; omega)
    · have HN : Hid (X = none) := Lib.hid (by
        rw [HX2.out]
        match L, h1 with
        | [], _ => rfl
        | [_], h => exact absurd rfl h
        | _ :: _ :: _, _ => rfl)
      have HD3 : Hid (D = 3) := Lib.hid (by rw [HD2.out, if_neg h1])
      obtain ⟨q, hq⟩ : ∃ q, L.length = q := ⟨_, rfl⟩
      rw [hq] at h1 ⊢
      have j2 : ((q : Int) != 1) = true := by
        rw [bne_iff_ne]; omega
      obtain ⟨z0, z1, z2, z3, z4, f0, f1, f2, f3, f4⟩ := hR2.facts
      clear hq h1 hi2
      go_wp2
      refine bodyPost_ret (v := .tuple #[.agg #[.string ⟨#[]⟩, .bool false, .slice none 0 0, .bool false, .slice none 0 0], .int .i64 3]) (by simp [results, Try.results15, go_sem, z0, z1, z2, z3, z4]) rfl ?_
      exact LdRes.no HN.out HD3.out rfl (below_set5 hB2 (Nat.le_refl _))
  · have HN : Hid (X = none) := Lib.hid (by rw [← HX.out]; unfold definedS; rw [if_neg he])
    have HD3 : Hid (D = 3) := Lib.hid (by rw [← HD.out]; unfold ldE; rw [if_neg (fun q => he q.1)])
    obtain ⟨c, hc⟩ : ∃ c : Int, (scanErr s : Int) = c := ⟨_, rfl⟩
    have hc0 : c ≠ 0 := by rw [← hc]; exact fun h => he (by omega)
    rw [hc] at CS
    have j1 : (c != 0) = true := by simpa using hc0
    clear he hc HX HD HRT
    go_enter Try.func15, Try.ntmps15
    go_wp2_with fail
    refine CS.mono ?_
    rintro e w1 ⟨⟨a, cap, rfl, hc, hi⟩, hb1⟩
    have hR1 := hR0.below hb1
    have hB1 := hb0.trans (hb1.mono hb0.size)
    have CR := rows_in_any m cap a w1 (by omega) hc T HM.out (fun t ht => Nat.le_trans (HF.out t ht) (by decide)) hi
    rw [HLR.out] at CR
    clear CS hi hR0
    go_wp2_with fail
    refine CR.mono ?_
    rintro e w2 ⟨⟨a2, cap2, rfl, -, -⟩, hb2⟩
    have hR2 := hR1.below hb2
    have hB2 := hB1.trans (hb2.mono hB1.size)
    clear CR hR1
    obtain ⟨z0, z1, z2, z3, z4, f0, f1, f2, f3, f4⟩ := hR2.facts
    go_wp2
    refine bodyPost_ret (v := .tuple #[.agg #[.string ⟨#[]⟩, .bool false, .slice none 0 0, .bool false, .slice none 0 0], .int .i64 3]) (by simp [results, Try.results15, go_sem, z0, z1, z2, z3, z4]) rfl ?_
    exact LdRes.no HN.out HD3.out rfl (below_set5 hB2 (Nat.le_refl _))

end Go.Proofs.Ytaodjipnffgihaa

namespace Go.Proofs.Ytaodjipnffgihaa
open Go.RowKit Go.Shelf

/-- Reckoned by fuel. -/
def definedF (l : List UInt8) : Option Mz := if scanErrF l = 0 then oneD (rowsS (tksF l)) else none
theorem definedS_F (s : ByteArray) : definedS s = definedF s.data.toList := by
  unfold definedS rowsT definedF; rw [scanErr_F, tks_F]
def isMz (m : Mz) : Option Mz → Bool
  | some x => sameM x m
  | none => false
theorem defd_is {s : ByteArray} {m : Mz} (h : isMz m (definedF s.data.toList) = true) : definedS s = some m := by
  rw [definedS_F]
  cases hd : definedF s.data.toList with
  | none => rw [hd] at h; cases h
  | some x => rw [hd] at h; rw [sameM_eq h]
/-- Is a line no definition? -/
def refB (l : List UInt8) : Bool := decide (scanErrF l = 0) && (rowsS (tksF l)).length == 1 && (definedF l).isNone
theorem refB_is {s : ByteArray} (h : refB s.data.toList = true) : definedS s = none ∧ ldE s = 50 := by
  unfold refB at h
  simp only [Bool.and_eq_true, decide_eq_true_eq, beq_iff_eq] at h
  obtain ⟨⟨h1, h2⟩, h3⟩ := h
  refine ⟨by rw [definedS_F]; exact Option.isNone_iff_eq_none.1 h3, ?_⟩
  unfold ldE rowsT
  rw [scanErr_F, tks_F, if_pos ⟨h1, h2⟩]
theorem catTx (a b : ByteArray) : (a ++ b).data.toList = a.data.toList ++ b.data.toList := by rw [ByteArray.data_append, Array.toList_append]
def hashDef : List UInt8 := [35, 100, 101, 102, 105, 110, 101, 32]
theorem refT (s : ByteArray) (h : refB (hashDef ++ s.data.toList ++ [10]) = true) : refB ((⟨#[35, 100, 101, 102, 105, 110, 101, 32]⟩ : ByteArray) ++ s ++ ⟨#[10]⟩).data.toList = true := by
  rw [catTx, catTx]; exact h

set_option maxRecDepth 100000 in
set_option maxHeartbeats 4000000 in
theorem refused_any (s : ByteArray) (w : World) (hs : s.size ≤ 65536) (hL : LibVar w) (h : refB (hashDef ++ s.data.toList ++ [10]) = true) :
    Calls Try.prog 16 #[.string s] w fun e w' => e = .returned (.bool true) ∧ Below w.heap.size w w' := by
  obtain ⟨h1, h2⟩ := refB_is (refT s h)
  have CL := ldefined_any ((⟨#[35, 100, 101, 102, 105, 110, 101, 32]⟩ : ByteArray) ++ s ++ ⟨#[10]⟩) w (by
    rw [ByteArray.size_append, ByteArray.size_append]
    have e1 : (⟨#[35, 100, 101, 102, 105, 110, 101, 32]⟩ : ByteArray).size = 8 := rfl
    have e2 : (⟨#[10]⟩ : ByteArray).size = 1 := rfl
    unfold maxLen; omega) hL
  rw [h1, h2] at CL
  have e0 : sameM ⟨⟨#[]⟩, false, [], false, []⟩ ⟨⟨#[]⟩, false, [], false, []⟩ = true := sameM_self _
  have CM := fun (W : World) => same_mz ⟨⟨#[]⟩, false, [], false, []⟩ ⟨⟨#[]⟩, false, [], false, []⟩ none none none none 0 0 0 0 W (Nat.zero_le _) (Nat.zero_le _) (Nat.zero_le _) (Nat.zero_le _) (fun hp => absurd hp (Nat.lt_irrefl 0)) (fun hp => absurd hp (Nat.lt_irrefl 0)) (fun hp => absurd hp (Nat.lt_irrefl 0)) (fun hp => absurd hp (Nat.lt_irrefl 0))
  rw [e0] at CM
  clear h h1 h2 e0
  go_enter Try.func16, Try.ntmps16
  go_wp2_with fail
  refine CL.mono ?_
  rintro e w1 ⟨rfl, hb1⟩
  have hbM := below1 w1 (.cells #[.string ⟨#[]⟩, .bool false, .slice none 0 0, .bool false, .slice none 0 0] 26)
  have hM := MzBox.new w1 (.string ⟨#[]⟩) (.bool false) (.slice none 0 0) (.bool false) (.slice none 0 0)
  have hB2 := hb1.trans (hbM.mono hb1.size)
  obtain ⟨z0, z1, z2, z3, z4, -, -, -, -, -⟩ := hM.facts
  clear CL
  go_wp2_with fail
  refine (CM _).mono ?_
  rintro e w2 ⟨rfl, hb2⟩
  clear CM z0 z1 z2 z3 z4
  go_wp2
  go_ret
  exact ⟨rfl, hB2.trans (hb2.mono hB2.size)⟩

theorem mn_alive : definedS ⟨#[35, 100, 101, 102, 105, 110, 101, 32, 70, 40, 97, 44, 32, 98, 41, 32, 97, 32, 35, 35, 32, 98, 10]⟩ = some ⟨⟨#[70]⟩, true, [⟨#[97]⟩, ⟨#[98]⟩], false, [⟨1, ⟨#[97]⟩, false, []⟩, ⟨5, ⟨#[35, 35]⟩, true, []⟩, ⟨1, ⟨#[98]⟩, true, []⟩]⟩ := defd_is (by decide +kernel)

set_option maxRecDepth 100000 in
set_option maxHeartbeats 4000000 in
theorem alive5_any (w : World) (hL : LibVar w) : Calls Try.prog 18 #[] w fun e w' => e = .returned (.bool true) ∧ Below w.heap.size w w' := by
  have CL := ldefined_any ⟨#[35, 100, 101, 102, 105, 110, 101, 32, 70, 40, 97, 44, 32, 98, 41, 32, 97, 32, 35, 35, 32, 98, 10]⟩ w (by decide) hL
  rw [mn_alive] at CL
  go_enter Try.func18, Try.ntmps18
  go_wp2_with fail
  refine CL.mono ?_
  rintro e w1 ⟨⟨v, u, rfl, hr1, hr2⟩, hb1⟩
  obtain ⟨va, vc, rfl⟩ := row_shape hr1
  obtain ⟨ua, uc, rfl⟩ := row_shape hr2
  obtain ⟨g, rfl, hg, hcg⟩ := row_pos (by decide) hr1
  obtain ⟨k, rfl, hk, hck⟩ := row_pos (by decide) hr2
  clear CL hr1 hr2
  have hbM := below1 w1 (.cells #[.string ⟨#[70]⟩, .bool true, .slice (some ⟨g, 0, none⟩) 2 vc, .bool false, .slice (some ⟨k, 0, none⟩) 3 uc] 26)
  have hM := MzBox.new w1 (.string ⟨#[70]⟩) (.bool true) (.slice (some ⟨g, 0, none⟩) 2 vc) (.bool false) (.slice (some ⟨k, 0, none⟩) 3 uc)
  have hB2 := hb1.trans (hbM.mono hb1.size)
  have p1 := (hbM.cell (p := ⟨g, 1, none⟩) hg).trans (hcg 1 _ rfl)
  have q5 := (hbM.cell (p := ⟨k, 5, none⟩) hk).trans (hck 5 _ rfl)
  have q2 := (hbM.cell (p := ⟨k, 2, none⟩) hk).trans (hck 2 _ rfl)
  have q6 := (hbM.cell (p := ⟨k, 6, none⟩) hk).trans (hck 6 _ rfl)
  obtain ⟨z0, z1, z2, z3, z4, -, -, -, -, -⟩ := hM.facts
  clear hcg hck hbM
  go_wp2
  go_ret
  exact ⟨rfl, hB2⟩

end Go.Proofs.Ytaodjipnffgihaa

namespace Go.Proofs.Ytaodjipnffgihaa
open Go.RowKit Go.Shelf

theorem textS_back {m : Mz} {S : ByteArray} (h : textS m = some S) : definedS S = some m ∧ S.size ≤ maxLen := by
  unfold textS at h
  split at h
  · have hq : (⟨(spellOut (lineS m)).1.toArray⟩ : ByteArray).size ≤ maxLen := by
      have := spellOut_len (lineS m)
      show (spellOut (lineS m)).1.length ≤ maxLen
      unfold maxLen; omega
    cases hd : definedS ⟨(spellOut (lineS m)).1.toArray⟩ with
    | none => rw [hd] at h; cases h
    | some x =>
      rw [hd] at h
      simp only at h
      split at h
      · next hs =>
        cases h
        rw [hd, sameM_eq hs]
        exact ⟨rfl, hq⟩
      · cases h
  · cases h

set_option maxRecDepth 100000 in
set_option maxHeartbeats 8000000 in
theorem mback_any (m : Mz) (pa ba : Option Addr) (pn pc n bc : Nat) (w : World) (hpn : m.ps.length = pn) (hn : m.bs.length = n) (hnm : m.nm.size ≤ 281474976710656) (hp2 : pn ≤ 281474976710656) (hn2 : n ≤ 281474976710656) (hT : StrIn w pa m.ps) (hB : PzIn w ba m.bs) (hl : ∀ p ∈ m.bs, p.ps.length ≤ 140737488355328) (hV : LibVar w) :
    Calls Try.prog 5 #[.agg #[.string m.nm, .bool m.fn, .slice pa pn pc, .bool m.vr, .slice ba n bc]] w fun e w' => e = .returned (.bool true) ∧ Below w.heap.size w w' := by
  have hb0 := below1 w (.cells #[.string m.nm, .bool m.fn, .slice pa pn pc, .bool m.vr, .slice ba n bc] 26)
  have hR0 := MzBox.new w (.string m.nm) (.bool m.fn) (.slice pa pn pc) (.bool m.vr) (.slice ba n bc)
  have CA := alive5_any _ (hV.low hb0)
  have HPN := Lib.hid hpn
  have HN := Lib.hid hn
  have HT := Lib.hid hT
  have HB := Lib.hid hB
  have HL := Lib.hid hl
  have CG := fun (W : World) (h : Below w.heap.size w W) => great_any m pa ba pn pc n bc W HPN.out HN.out hnm hp2 hn2 (HT.out.below h) (HB.out.below h) HL.out
  obtain ⟨G, hG⟩ : ∃ G, greatM m = G := ⟨_, rfl⟩
  rw [hG] at CG
  clear hpn hn hT hB hl
  cases G with
  | true =>
    clear hG HPN HN HT HB HL
    go_enter Try.func5, Try.ntmps5
    go_wp2_with fail
    refine CA.mono ?_
    rintro e w1 ⟨rfl, hb1⟩
    have hR1 := hR0.below hb1
    have hB1 := hb0.trans (hb1.mono hb0.size)
    obtain ⟨y0, y1, y2, y3, y4, -, -, -, -, -⟩ := hR1.facts
    clear CA hR0
    go_wp2_with fail
    refine (CG _ hB1).mono ?_
    rintro e w2 ⟨rfl, hb2⟩
    have hB2 := hB1.trans (hb2.mono hB1.size)
    clear CG y0 y1 y2 y3 y4
    go_wp2
    go_ret
    exact ⟨rfl, hB2⟩
  | false =>
    obtain ⟨g1, g2, g3⟩ := great_line hG
    rw [HPN.out] at g2
    rw [HN.out] at g3
    have CT := fun (W : World) (h : Below w.heap.size w W) => text_any m pa ba pn pc n bc W HPN.out HN.out g2 g3 g1 (HT.out.below h) (HB.out.below h) (hV.low h)
    cases hX : textS m with
    | none =>
      rw [hX] at CT
      have e1 : txtV none = .tuple #[.string ⟨#[]⟩, .int .i64 50] := rfl
      simp only [e1] at CT
      clear hG hX e1 HPN HN HT HB HL
      go_enter Try.func5, Try.ntmps5
      go_wp2_with fail
      refine CA.mono ?_
      rintro e w1 ⟨rfl, hb1⟩
      have hR1 := hR0.below hb1
      have hB1 := hb0.trans (hb1.mono hb0.size)
      obtain ⟨y0, y1, y2, y3, y4, -, -, -, -, -⟩ := hR1.facts
      clear CA hR0
      go_wp2_with fail
      refine (CG _ hB1).mono ?_
      rintro e w2 ⟨rfl, hb2⟩
      have hB2 := hB1.trans (hb2.mono hB1.size)
      have hR2 := hR1.below hb2
      clear CG y0 y1 y2 y3 y4 hR1
      obtain ⟨y0, y1, y2, y3, y4, -, -, -, -, -⟩ := hR2.facts
      go_wp2_with fail
      refine (CT _ hB2).mono ?_
      rintro e w3 ⟨rfl, hb3⟩
      have hB3 := hB2.trans (hb3.mono hB2.size)
      clear CT y0 y1 y2 y3 y4
      go_wp2
      go_ret
      exact ⟨rfl, hB3⟩
    | some S =>
      obtain ⟨hd, hS⟩ := textS_back hX
      obtain ⟨f1, f2, f3⟩ := definedS_fit hd
      have CD := fun W => ldefined_any S W hS
      rw [hd] at CD
      have CT2 := fun (va ua : Option Addr) (vc uc : Nat) (W : World) (h1 : StrIn W va m.ps) (h2 : PzIn W ua m.bs) (h3 : LibVar W) => text_any m va ua pn vc n uc W HPN.out HN.out g2 g3 g1 h1 h2 h3
      have CM := fun (va ua : Option Addr) (vc uc : Nat) (W : World) (hb : Below w.heap.size w W) (h1 : StrIn W va m.ps) (h2 : PzIn W ua m.bs) => same_mz m m va pa ua ba vc pc uc bc W (by omega) (by omega) (by omega) (by omega) h1 (HT.out.below hb) h2 (HB.out.below hb)
      rw [sameM_self, HPN.out, HN.out] at CM
      rw [hX] at CT CT2
      have e1 : txtV (some S) = .tuple #[.string S, .int .i64 0] := rfl
      simp only [e1] at CT CT2
      clear e1
      have HF3 := Lib.hid f3
      clear hG hX hd HL f3
      go_enter Try.func5, Try.ntmps5
      go_wp2_with fail
      refine CA.mono ?_
      rintro e w1 ⟨rfl, hb1⟩
      have hR1 := hR0.below hb1
      have hB1 := hb0.trans (hb1.mono hb0.size)
      obtain ⟨y0, y1, y2, y3, y4, -, -, -, -, -⟩ := hR1.facts
      clear CA hR0
      go_wp2_with fail
      refine (CG _ hB1).mono ?_
      rintro e w2 ⟨rfl, hb2⟩
      have hB2 := hB1.trans (hb2.mono hB1.size)
      have hR2 := hR1.below hb2
      clear CG y0 y1 y2 y3 y4 hR1
      obtain ⟨y0, y1, y2, y3, y4, -, -, -, -, -⟩ := hR2.facts
      go_wp2_with fail
      refine (CT _ hB2).mono ?_
      rintro e w3 ⟨rfl, hb3⟩
      have hB3 := hB2.trans (hb3.mono hB2.size)
      have hR3 := hR2.below hb3
      clear CT y0 y1 y2 y3 y4 hR2
      go_wp2_with fail
      refine (CD _ (hV.low hB3)).mono ?_
      rintro e w4 ⟨⟨v, u, rfl, hr1, hr2⟩, hb4⟩
      rw [HPN.out] at hr1
      rw [HN.out] at hr2
      obtain ⟨va, vc, rfl⟩ := row_shape hr1
      obtain ⟨ua, uc, rfl⟩ := row_shape hr2
      have hB4 := hB3.trans (hb4.mono hB3.size)
      have hR4 := hR3.below hb4
      have hbM := below1 w4 (.cells #[.string m.nm, .bool m.fn, .slice va pn vc, .bool m.vr, .slice ua n uc] 26)
      have hM := MzBox.new w4 (.string m.nm) (.bool m.fn) (.slice va pn vc) (.bool m.vr) (.slice ua n uc)
      have hB5 := hB4.trans (hbM.mono hB4.size)
      have hR5 := hR4.below hbM
      have hs1 := (strIn_row HPN.out hr1).below hbM
      have hs2 := (pzIn_row HN.out HF3.out hr2).below hbM
      clear CD hR3 hR4 hr1 hr2
      obtain ⟨z0, z1, z2, z3, z4, -, -, -, -, -⟩ := hM.facts
      go_wp2_with fail
      refine (CT2 _ _ _ _ _ hs1 hs2 (hV.low hB5)).mono ?_
      rintro e w6 ⟨rfl, hb6⟩
      have hB6 := hB5.trans (hb6.mono hB5.size)
      have hR6 := hR5.below hb6
      have hM6 := hM.below hb6
      have hs3 := hs1.below hb6
      have hs4 := hs2.below hb6
      clear CT2 hs1 hs2 hM hR5 z0 z1 z2 z3 z4
      obtain ⟨y0, y1, y2, y3, y4, -, -, -, -, -⟩ := hR6.facts
      obtain ⟨z0, z1, z2, z3, z4, -, -, -, -, -⟩ := hM6.facts
      go_wp2_with fail
      refine (CM _ _ _ _ _ hB6 hs3 hs4).mono ?_
      rintro e w7 ⟨rfl, hb7⟩
      have hB7 := hB6.trans (hb7.mono hB6.size)
      clear CM hs3 hs4 y0 y1 y2 y3 y4 z0 z1 z2 z3 z4
      go_wp2
      go_ret
      exact ⟨rfl, hB7⟩

end Go.Proofs.Ytaodjipnffgihaa
