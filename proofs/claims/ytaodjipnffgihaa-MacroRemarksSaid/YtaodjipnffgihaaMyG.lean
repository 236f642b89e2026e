/- Several texts laid together. -/
import Derived.Test.YtaodjipnffgihaaTxD
import Derived.Test.YtaodjipnffgihaaMcL
import Derived.Test.YtaodjipnffgihaaMyD

namespace Go.Proofs.Ytaodjipnffgihaa
open Go.RowKit Go.Shelf

/-- What the law's defined says where a text defines nothing. -/
def ldE (s : ByteArray) : Int := if scanErr s = 0 ∧ (rowsT s).length = 1 then 50 else 3
def LdRes (w : World) (x : Option Mz) (c : Int) (e : Ending) (w' : World) : Prop :=
  (match x with
    | none => e = .returned (.tuple #[.agg #[.string ⟨#[]⟩, .bool false, .slice none 0 0, .bool false, .slice none 0 0], .int .i64 c])
    | some m => ∃ v u, e = .returned (.tuple #[.agg #[.string m.nm, .bool m.fn, v, .bool m.vr, u], .int .i64 0]) ∧ w'.ownsRow w.heap.size 9 1 v m.ps.length (stV m.ps) ∧ w'.ownsRow w.heap.size 36 4 u m.bs.length (pnCells m.bs)) ∧ Below w.heap.size w w'
theorem LdRes.no {w w' : World} {x : Option Mz} {e : Ending} {c d : Int} (hx : x = none) (hc : d = c) (he : e = .returned (.tuple #[.agg #[.string ⟨#[]⟩, .bool false, .slice none 0 0, .bool false, .slice none 0 0], .int .i64 c])) (hb : Below w.heap.size w w') : LdRes w x d e w' := by
  subst hx hc; exact ⟨he, hb⟩
theorem LdRes.yes {w w' : World} {x : Option Mz} {e : Ending} {nm : ByteArray} {fn vr : Bool} {ps : List ByteArray} {bs : List Pz} {v u : Value} {c : Int} (hx : x = some ⟨nm, fn, ps, vr, bs⟩) (he : e = .returned (.tuple #[.agg #[.string nm, .bool fn, v, .bool vr, u], .int .i64 0])) (hr : w'.ownsRow w.heap.size 9 1 v ps.length (stV ps)) (hu : w'.ownsRow w.heap.size 36 4 u bs.length (pnCells bs)) (hb : Below w.heap.size w w') : LdRes w x c e w' := by
  subst hx; exact ⟨⟨v, u, he, hr, hu⟩, hb⟩

set_option maxRecDepth 100000 in
set_option maxHeartbeats 4000000 in
theorem ldefined_any (s : ByteArray) (w : World) (hs : s.size ≤ maxLen) (hL : LibVar w) :
    Calls Try.prog 15 #[.string s] w (LdRes w (definedS s) (ldE s)) := by
  have hb0 := below1 w (.cells #[.string ⟨#[]⟩, .bool false, .slice none 0 0, .bool false, .slice none 0 0] 26)
  have hR0 := MzBox.new w (.string ⟨#[]⟩) (.bool false) (.slice none 0 0) (.bool false) (.slice none 0 0)
  have CS := scan_tz s (w.alloc (.cells #[.string ⟨#[]⟩, .bool false, .slice none 0 0, .bool false, .slice none 0 0] 26)) hs (hL.low hb0)
  obtain ⟨X, hX⟩ : ∃ X, definedS s = X := ⟨_, rfl⟩
  obtain ⟨D, hD⟩ : ∃ D, ldE s = D := ⟨_, rfl⟩
  have HX := Lib.hid hX
  have HD := Lib.hid hD
  rw [hX, hD]
  clear hX hD
  obtain ⟨hf1, hf2⟩ := tks_fit s
  obtain ⟨T, hT⟩ : ∃ T, tksOf s = T := ⟨_, rfl⟩
  have hRT : rowsT s = rowsS T := by unfold rowsT; rw [hT]
  obtain ⟨L, hLr⟩ : ∃ L, rowsS T = L := ⟨_, rfl⟩
  rw [hT] at CS hf1 hf2
  obtain ⟨m, hm⟩ : ∃ m, T.length = m := ⟨_, rfl⟩
  rw [hm] at CS hf1
  have HM := Lib.hid hm
  have HF := Lib.hid hf2
  have HLR := Lib.hid hLr
  have HRT := Lib.hid (hRT.trans hLr)
  clear hT hRT hm hf2 hLr
  by_cases he : scanErr s = 0
  · have HX2 : Hid (X = oneD L) := Lib.hid (by rw [← HX.out, ← HRT.out]; unfold definedS; rw [if_pos he])
    have HD2 : Hid (D = if L.length = 1 then 50 else 3) := Lib.hid (by
      rw [← HD.out, ← HRT.out]; unfold ldE
      by_cases h : (rowsT s).length = 1
      · rw [if_pos ⟨he, h⟩, if_pos h]
      · rw [if_neg (fun q => h q.2), if_neg h])
    rw [he] at CS
    clear he HX HD HRT
    go_enter Try.func15, Try.ntmps15
    go_wp2_with fail
    refine CS.mono ?_
    rintro e w1 ⟨⟨a, cap, rfl, hc, hi⟩, hb1⟩
    have hR1 := hR0.below hb1
    have hB1 := hb0.trans (hb1.mono hb0.size)
    have CR := rows_in_any m cap a w1 (by omega) hc T HM.out (fun t ht => Nat.le_trans (HF.out t ht) (by decide)) hi
    rw [HLR.out] at CR
    clear CS hi hR0
    go_wp2_with fail
    refine CR.mono ?_
    rintro e w2 ⟨⟨a2, cap2, rfl, hc2, hi2⟩, hb2⟩
    have hR2 := hR1.below hb2
    have hB2 := hB1.trans (hb2.mono hB1.size)
    clear CR hR1
    by_cases h1 : L.length = 1
    · obtain ⟨r, rfl⟩ := List.length_eq_one_iff.1 h1
      have HN : Hid (X = defineS (saysS r)) := Lib.hid HX2.out
      have HD3 : Hid (D = 50) := Lib.hid HD2.out
      have hfit := rows_fit (ts := T) (by rw [HM.out]; omega) (fun t ht => Nat.le_trans (HF.out t ht) (by decide))
      rw [HLR.out] at hfit
      obtain ⟨hrl, hrx⟩ := hfit r List.mem_cons_self
      obtain ⟨s1, s2⟩ := saysS_fit r
      obtain ⟨b, o, rfl, hg, hrz⟩ := hi2 (by simp)
      obtain ⟨c0, c1, ta, tcap, c2, htk⟩ := hrz 0 r rfl
      have CY := says_cap_any r ta tcap w2 hrl hrx htk
      have HSX : Hid (∀ t ∈ saysS r, t.tx.size ≤ 281474976710656) := Lib.hid (fun t ht => by
        obtain ⟨u, hu, e⟩ := s2 t ht
        rw [e]
        exact hrx u hu)
      obtain ⟨k, hk⟩ : ∃ k, (saysS r).length = k := ⟨_, rfl⟩
      rw [hk] at CY s1
      have HK := Lib.hid hk
      have hk2 : k * 48 ≤ 140737488355328 := by omega
      have k0 : w2.cell? ⟨b, o, none⟩ = some (.bool r.d) := c0
      have k1 : w2.cell? ⟨b, o + 1, none⟩ = some (.string r.nm) := c1
      have k2 : w2.cell? ⟨b, o + 2, none⟩ = some (.slice ta r.ts.length tcap) := c2
      clear h1 hfit hrx s2 hi2 hrz htk HX2 HLR HM HF hk HD2
      have hL1 : [r].length = 1 := rfl
      rw [hL1]
      have j2 : (((1 : Nat) : Int) != 1) = false := rfl
      go_wp2_with fail
      refine CY.mono ?_
      rintro e w3 ⟨⟨a3, cap3, rfl, hc3, hS3⟩, hb3⟩
      clear k0 k1 k2 CY
      have hR3 := hR2.below hb3
      have hB3 := hB2.trans (hb3.mono hB2.size)
      have CD := define_any (saysS r) k cap3 a3 w3 HK.out hc3 hk2 HSX.out hS3.in
      have hP3 : w.heap.size < w3.heap.size := (Array.getElem?_eq_some_iff.1 hR3).1
      clear hS3 HSX hR2 hB2
      cases hd : defineS (saysS r) with
      | none =>
        rw [hd] at CD
        have HN2 : Hid (X = none) := Lib.hid (by rw [HN.out, hd])
        clear hd HN
        go_wp2_with fail
        refine CD.mono ?_
        rintro e w4 ⟨rfl, hb4⟩
        have hR4 := hR3.below hb4
        have hB4 := hB3.trans (hb4.mono hB3.size)
        obtain ⟨z0, z1, z2, z3, z4, f0, f1, f2, f3, f4⟩ := hR4.facts
        go_wp2
        refine bodyPost_ret (v := .tuple #[.agg #[.string ⟨#[]⟩, .bool false, .slice none 0 0, .bool false, .slice none 0 0], .int .i64 50]) (by simp [results, Try.results15, go_sem, z0, z1, z2, z3, z4]) rfl ?_
        exact LdRes.no HN2.out HD3.out rfl (below_set5 hB4 (Nat.le_refl _))
      | some m =>
        obtain ⟨nm, fn, ps, vr, bs⟩ := m
        rw [hd] at CD
        have HN2 : Hid (X = some ⟨nm, fn, ps, vr, bs⟩) := Lib.hid (by rw [HN.out, hd])
        clear hd HN
        go_wp2_with fail
        refine CD.mono ?_
        rintro e w4 ⟨⟨v, u, rfl, hr1, hr2⟩, hb4⟩
        have hR4 := hR3.below hb4
        have hB4 := hB3.trans (hb4.mono hB3.size)
        have hl1 := hr1.lt
        have hl2 := hr2.lt
        obtain ⟨va, vc, rfl⟩ := row_shape hr1
        obtain ⟨ua, uc, rfl⟩ := row_shape hr2
        obtain ⟨z0, z1, z2, z3, z4, f0, f1, f2, f3, f4⟩ := hR4.facts
        go_wp2
        clear z0 z1 z2 z3 z4 f0 f1 f2 f3 f4
        have hR5 := ((((hR4.set0 (.string nm)).set1 (.bool fn)).set2 (.slice va ps.length vc)).set3 (.bool vr)).set4 (.slice ua bs.length uc)
        obtain ⟨z0, z1, z2, z3, z4, -, -, -, -, -⟩ := hR5.facts
        refine bodyPost_ret (v := .tuple #[.agg #[.string nm, .bool fn, .slice va ps.length vc, .bool vr, .slice ua bs.length uc], .int .i64 0]) (by simp [results, Try.results15, go_sem, z0, z1, z2, z3, z4]) rfl ?_
        refine LdRes.yes HN2.out rfl ?_ ?_ (below_set5 hB4 (Nat.le_refl _))
        · exact ownsRow_set5 (row_lower0 (by omega) hr1) (fun j h => by have := (hl1 j h).1; omega)
        · exact ownsRow_set5 (row_lower0 (by omega) hr2) (fun j h => by have := (hl2 j h).1; omega)
    · have HN : Hid (X = none) := Lib.hid (by
        rw [HX2.out]
        match L, h1 with
        | [], _ => rfl
        | [_], h => exact absurd rfl h
        | _ :: _ :: _, _ => rfl)
      have HD3 : Hid (D = 3) := Lib.hid (by rw [HD2.out, if_neg h1])
      obtain ⟨q, hq⟩ : ∃ q, L.length = q := ⟨_, rfl⟩
      rw [hq] at h1 ⊢
      have j2 : ((q : Int) != 1) = true := by
        rw [bne_iff_ne]; omega
      obtain ⟨z0, z1, z2, z3, z4, f0, f1, f2, f3, f4⟩ := hR2.facts
      clear hq h1 hi2
      go_wp2
      refine bodyPost_ret (v := .tuple #[.agg #[.string ⟨#[]⟩, .bool false, .slice none 0 0, .bool false, .slice none 0 0], .int .i64 3]) (by simp [results, Try.results15, go_sem, z0, z1, z2, z3, z4]) rfl ?_
      exact LdRes.no HN.out HD3.out rfl (below_set5 hB2 (Nat.le_refl _))
  · have HN : Hid (X = none) := Lib.hid (by rw [← HX.out]; unfold definedS; rw [if_neg he])
    have HD3 : Hid (D = 3) := Lib.hid (by rw [← HD.out]; unfold ldE; rw [if_neg (fun q => he q.1)])
    obtain ⟨c, hc⟩ : ∃ c : Int, (scanErr s : Int) = c := ⟨_, rfl⟩
    have hc0 : c ≠ 0 := by rw [← hc]; exact fun h => he (by omega)
    rw [hc] at CS
    have j1 : (c != 0) = true := by simpa using hc0
    clear he hc HX HD HRT
    go_enter Try.func15, Try.ntmps15
    go_wp2_with fail
    refine CS.mono ?_
    rintro e w1 ⟨⟨a, cap, rfl, hc, hi⟩, hb1⟩
    have hR1 := hR0.below hb1
    have hB1 := hb0.trans (hb1.mono hb0.size)
    have CR := rows_in_any m cap a w1 (by omega) hc T HM.out (fun t ht => Nat.le_trans (HF.out t ht) (by decide)) hi
    rw [HLR.out] at CR
    clear CS hi hR0
    go_wp2_with fail
    refine CR.mono ?_
    rintro e w2 ⟨⟨a2, cap2, rfl, -, -⟩, hb2⟩
    have hR2 := hR1.below hb2
    have hB2 := hB1.trans (hb2.mono hB1.size)
    clear CR hR1
    obtain ⟨z0, z1, z2, z3, z4, f0, f1, f2, f3, f4⟩ := hR2.facts
    go_wp2
    refine bodyPost_ret (v := .tuple #[.agg #[.string ⟨#[]⟩, .bool false, .slice none 0 0, .bool false, .slice none 0 0], .int .i64 3]) (by simp [results, Try.results15, go_sem, z0, z1, z2, z3, z4]) rfl ?_
    exact LdRes.no HN.out HD3.out rfl (below_set5 hB2 (Nat.le_refl _))

end Go.Proofs.Ytaodjipnffgihaa

namespace Go.Proofs.Ytaodjipnffgihaa
open Go.RowKit Go.Shelf

/-- A token without its places. -/
def nz (t : Tz) : Tz := ⟨t.k, t.tx, 0, 0, t.sp⟩
def cz (x : Nat × List UInt8 × Bool) : Tz := ⟨(x.1 : Int), ⟨x.2.1.toArray⟩, 0, 0, x.2.2⟩

theorem finS_nz (acc : List ByteArray) (v : Bool) (l : List Tz) : finS acc v (l.map nz) = (finS acc v l).map (fun x => (x.1, x.2.1, x.2.2.map nz)) := by
  unfold finS; split <;> rfl
theorem parP_nz : ∀ (m : Nat) (l : List Tz) (acc : List ByteArray), l.length ≤ m → parP acc (l.map nz) = (parP acc l).map (fun x => (x.1, x.2.1, x.2.2.map nz))
  | m, [], acc, _ => by rw [List.map_nil]; unfold parP; rfl
  | m, [t], acc, _ => by rw [List.map_cons, List.map_nil]; unfold parP; rfl
  | 0, t :: u :: l, acc, h => by simp at h
  | m + 1, t :: u :: l, acc, h => by
    have ih := parP_nz m l (acc ++ [t.tx]) (by simp only [List.length_cons] at h; omega)
    rw [List.map_cons, List.map_cons, parP, parP]
    have e1 : ∀ x, isP (nz t) x = isP t x := fun _ => rfl
    have e2 : ∀ x, isP (nz u) x = isP u x := fun _ => rfl
    have e3 : wordP (nz t) = wordP t := rfl
    have e4 : (nz t).tx = t.tx := rfl
    simp only [e1, e2, e3, e4, finS_nz, ih]
    split
    · split <;> rfl
    · split
      · split
        · rfl
        · split <;> rfl
      · rfl
theorem cutP_nz (l : List Tz) : cutP (l.map nz) = (cutP l).map (fun x => (x.1, x.2.1, x.2.2.map nz)) := by
  cases l with
  | nil => rfl
  | cons t r =>
    have e1 : isP (nz t) [41] = isP t [41] := rfl
    have h := parP_nz _ (t :: r) [] (Nat.le_refl _)
    rw [List.map_cons] at h ⊢
    unfold cutP
    simp only [e1]
    split
    · rfl
    · exact h
theorem headS_nz (l : List Tz) : headS (l.map nz) = (headS l).map (fun x => (x.1, x.2.map nz)) := by
  cases l with
  | nil => rfl
  | cons t r =>
    have e1 : nameP (nz t) = nameP t := rfl
    have e2 : (nz t).tx = t.tx := rfl
    rw [List.map_cons]
    unfold headS
    simp only [e1, e2]
    split
    · cases r with
      | nil => rfl
      | cons u r =>
        have e3 : (nz u).sp = u.sp := rfl
        have e4 : isP (nz u) [40] = isP u [40] := rfl
        simp only [List.map_cons, e3, e4, cutP_nz]
        split
        · rfl
        · split
          · cases cutP r with
            | none => rfl
            | some x => rfl
          · rfl
    · rfl
theorem argB_nz (ps : List ByteArray) (l : List Tz) : argB ps (l.map nz) = argB ps l := by
  cases l <;> rfl
theorem mayT_nz (fn vr : Bool) (ps : List ByteArray) : ∀ l : List Tz, mayT fn vr ps (l.map nz) = mayT fn vr ps l
  | [] => rfl
  | t :: l => by
    rw [List.map_cons, mayT, mayT, mayT_nz fn vr ps l]
    have e : oneT fn vr ps (nz t) (l.map nz) = oneT fn vr ps t l := by
      unfold oneT
      rw [argB_nz]
      rfl
    rw [e]
theorem endsB_nz (l : List Tz) : endsB (l.map nz) = endsB l := by
  cases l with
  | nil => rfl
  | cons t r =>
    have e : ((nz t :: r.map nz).getLast (by simp)) = nz ((t :: r).getLast (by simp)) := by
      have := List.getLast_map (f := nz) (l := t :: r) (by simp)
      exact this
    rw [List.map_cons]
    unfold endsB
    simp only
    rw [e]
    rfl
theorem mayB_nz (fn vr : Bool) (ps : List ByteArray) (l : List Tz) : mayB fn vr ps (l.map nz) = mayB fn vr ps l := by
  unfold mayB; rw [endsB_nz, mayT_nz]
theorem defineS_nz (l : List Tz) : defineS (l.map nz) = defineS l := by
  unfold defineS
  rw [headS_nz]
  cases headS l with
  | none => rfl
  | some x =>
    obtain ⟨m, b⟩ := x
    simp only [Option.map_some, mayB_nz, List.map_map]
    have e : (pzOf ∘ nz) = pzOf := rfl
    rw [e]

/-- Tokens of the model beside the document's. -/
def Alike (L : List UInt8) (us : List Tz) (ts : List Tk) : Prop := us.map nz = ts.map (fun t => cz (t.k, txt L t, t.sp))
theorem alike_cons {L : List UInt8} {u : Tz} {us : List Tz} {t : Tk} {ts : List Tk} (h : Alike L (u :: us) (t :: ts)) : nz u = cz (t.k, txt L t, t.sp) ∧ Alike L us ts := by
  unfold Alike at h ⊢
  rw [List.map_cons, List.map_cons, List.cons.injEq] at h
  exact h
theorem bare_btr (L : List UInt8) : ∀ (ts : List Tk) (us : List Tz) (f : Bool) (acc : List Tz), Alike L us ts → ((us.foldl bareStep (acc, f)).1).map nz = acc.map nz ++ (btr L f ts).map cz
  | [], us, f, acc, h => by
    have : us = [] := List.map_eq_nil_iff.1 h
    subst this
    simp [btr]
  | t :: ts, [], f, acc, h => by unfold Alike at h; simp at h
  | t :: ts, u :: us, f, acc, h => by
    obtain ⟨h1, h2⟩ := alike_cons h
    have hk : u.k = (t.k : Int) := congrArg Tz.k h1
    have htx : u.tx = ⟨(txt L t).toArray⟩ := congrArg Tz.tx h1
    have hsp : u.sp = t.sp := congrArg Tz.sp h1
    have ho : outK u.k = outN t.k := by
      unfold outK outN
      rw [hk, Bool.eq_iff_iff]
      simp only [Bool.or_eq_true, beq_iff_eq]
      omega
    rw [List.foldl_cons, btr]
    have hb : bareStep (acc, f) u = if outN t.k then (acc, true) else (acc ++ [{ u with sp := u.sp || f }], false) := by
      unfold bareStep; rw [ho]
    rw [hb]
    cases hc : outN t.k with
    | true => simp only [if_true]; exact bare_btr L ts us true acc h2
    | false =>
      simp only [Bool.false_eq_true, if_false]
      rw [bare_btr L ts us false _ h2, List.map_append, List.append_assoc, List.map_cons]
      have e : nz { u with sp := u.sp || f } = cz (t.k, txt L t, t.sp || f) := by
        unfold nz cz
        simp only [hk, htx, hsp]
      simp [e]
theorem one_line (L : List UInt8) : ∀ (ts : List Tk) (us : List Tz), Alike L us ts → nlEnd ts = true → linesS us = [us]
  | [], us, _, hn => by cases hn
  | t :: ts, [], h, _ => by unfold Alike at h; simp at h
  | t :: ts, u :: us, h, hn => by
    obtain ⟨h1, h2⟩ := alike_cons h
    have hk : u.k = (t.k : Int) := congrArg Tz.k h1
    rw [nlEnd] at hn
    by_cases h9 : t.k = 9
    · rw [if_pos (by simpa using h9)] at hn
      have e : ts = [] := List.isEmpty_iff.1 hn
      subst e
      have e2 : us = [] := List.map_eq_nil_iff.1 h2
      subst e2
      rw [linesS, if_pos (by rw [hk, h9]; rfl)]
      rfl
    · rw [if_neg (by simpa using h9)] at hn
      rw [linesS, if_neg (by rw [hk]; simp; omega), one_line L ts us h2 hn]

theorem tks_alike {s : ByteArray} (h : scanErr s = 0) : Alike (logicalOf s.data.toList) (tksOf s) (toks (logicalOf s.data.toList) 0 0).1 := by
  unfold Alike tksOf scanOf
  rw [if_pos h]
  unfold toksY
  rw [logB_list, List.map_map, List.map_map, List.map_map]
  refine List.map_congr_left fun t _ => ?_
  show nz (tzOf (srcY _ (tokY (logB s) t))) = _
  unfold nz tzOf srcY tokY cz
  simp only [Tz.mk.injEq, and_true, true_and]
  refine ByteArray.ext (Array.toList_inj.1 ?_)
  rw [extract_list, logB_list]
  rfl

/-- What a line that begins with #define, and has one line's end, defines. -/
theorem definedS_of {s : ByteArray} {L r : List UInt8} (h : scanErr s = 0) (hL : logicalOf s.data.toList = L) (hr : L = hd7 ++ r) (hs : StopW r) (hn : nlEnd (toks L 0 0).1 = true) :
    (rowsT s).length = 1 ∧ definedS s = defineS (((btr L false (toks L 0 0).1).drop 2).map cz) := by
  have hA := tks_alike h
  rw [hL] at hA
  have h1 : rowsT s = [rowOf (tksOf s)] := by
    unfold rowsT rowsS
    rw [one_line L _ _ hA hn]
    rfl
  refine ⟨by rw [h1]; rfl, ?_⟩
  unfold definedS
  rw [if_pos h, h1]
  have hB : (bareS (tksOf s)).1.map nz = (btr L false (toks L 0 0).1).map cz := by
    have := bare_btr L _ _ false [] hA
    rw [List.map_nil, List.nil_append] at this
    exact this
  obtain ⟨t1, t2, e2, k1, k2, k3, k4, k5, k6, k7, -, -⟩ := start_toks hr hs
  have hb : btr L false (toks L 0 0).1 = (5, [35], false) :: (1, [100, 101, 102, 105, 110, 101], false) :: btr L false (toks L e2 3).1 := by
    have o5 : outN 5 = false := rfl
    have o1 : outN 1 = false := rfl
    rw [k1]
    simp only [btr, k2, k3, k4, k5, k6, k7, o5, o1]
    rfl
  rw [hb] at hB ⊢
  show defineS (saysS (rowOf (tksOf s))) = _
  have hbl : bareL (rowOf (tksOf s)) = (bareS (tksOf s)).1 := rfl
  obtain ⟨B, hBB⟩ : ∃ B, (bareS (tksOf s)).1 = B := ⟨_, rfl⟩
  have hro : rowOf (tksOf s) = ⟨hashB B, if hashB B then nameB B else ⟨#[]⟩, tksOf s⟩ := by unfold rowOf; rw [hBB]
  rw [hBB] at hB hbl
  match B, hB with
  | [], hB => simp at hB
  | [_], hB => simp at hB
  | b1 :: b2 :: B', hB =>
    simp only [List.map_cons, List.cons.injEq] at hB
    obtain ⟨q1, q2, q3⟩ := hB
    have e1 : b1.k = 5 := congrArg Tz.k q1
    have e2 : b1.tx = ⟨#[35]⟩ := congrArg Tz.tx q1
    have e3 : b2.k = 1 := congrArg Tz.k q2
    have e4 : b2.tx = ⟨#[100, 101, 102, 105, 110, 101]⟩ := congrArg Tz.tx q2
    have hh : hashB (b1 :: b2 :: B') = true := by
      show (b1.k == 5 && (b1.tx.toList == [35] || b1.tx.toList == [37, 58])) = true
      rw [e1, e2]; decide +kernel
    have hnm : nameB (b1 :: b2 :: B') = ⟨#[100, 101, 102, 105, 110, 101]⟩ := by
      show (if (b2.k == 1) = true then b2.tx else ⟨#[]⟩) = _
      rw [e3, e4]; rfl
    have hsz : 0 < (⟨#[100, 101, 102, 105, 110, 101]⟩ : ByteArray).size := by decide
    rw [hh, hnm] at hro
    unfold saysS
    rw [hbl, hro]
    simp only [if_true, hsz, List.drop_succ_cons, List.drop_zero]
    rw [← defineS_nz B', q3]

end Go.Proofs.Ytaodjipnffgihaa

namespace Go.Proofs.Ytaodjipnffgihaa
open Go.RowKit Go.Shelf

theorem lgPlain {c : UInt8} {r : List UInt8} (h1 : c ≠ 63) (h2 : c ≠ 92) : lg (c :: r) = c :: lg r := by
  have ht : isTri (c :: r) = false := isTri_nope h1
  have hb : charB (c :: r) = c := by unfold charB; rw [if_neg (by rw [ht]; decide)]; rfl
  have hn : charN (c :: r) = 1 := by unfold charN; rw [if_neg (by rw [ht]; decide)]
  have hs : isSplice (c :: r) = false := by
    unfold isSplice
    rw [hb]
    have : (c == 92) = false := beq_eq_false_iff_ne.2 h2
    rw [this]; rfl
  rw [lg_cons (by simp), hs, hb]
  have hp : partN (c :: r) = 1 := by unfold partN; rw [if_neg (by rw [hs]; decide), hn]
  rw [hp]
  rfl
theorem logLast {l : List UInt8} (h : checkN l = 0) (hne : logicalOf l ≠ []) : (logicalOf l).getLast? = some 10 := by
  have hw : wellB l = true := by
    unfold checkN at h
    by_cases h1 : 65536 < l.length
    · rw [if_pos h1] at h; exact absurd h (by decide)
    · rw [if_neg h1] at h
      by_cases h2 : wellB l = true
      · exact h2
      · rw [if_neg h2] at h; exact absurd h (by decide)
  rw [logicalOf_ok h] at hne ⊢
  rcases List.eq_nil_or_concat (parts l) with e | ⟨ps, p, e⟩
  · rw [e] at hne; exact absurd rfl hne
  · rw [List.concat_eq_append] at e
    unfold wellB at hw
    rw [e] at hw ⊢
    simp only [List.getLast?_append, List.getLast?_singleton, Option.some_or, Bool.and_eq_true, Bool.not_eq_true', beq_iff_eq] at hw
    rw [chB_yes ps hw.1, hw.2]
    simp
theorem scanOk {s : ByteArray} (h : scanErr s = 0) : checkN s.data.toList = 0 ∧ (toks (logicalOf s.data.toList) 0 0).2 = 0 := by
  unfold scanErr at h
  by_cases hc : checkN s.data.toList = 0
  · rw [if_pos hc] at h; exact ⟨hc, by omega⟩
  · rw [if_neg hc] at h; exact absurd h hc

/-- What the law puts together, over the tokens. -/
def newZ (g : Nat → List UInt8) : Nat → List Tz → List UInt8
  | _, [] => []
  | i, t :: r => (if t.k = 8 ∨ t.sp = true then g i else []) ++ ((if t.k = 8 then [] else t.tx.data.toList) ++ newZ g (i + 1) r)
theorem newZ_eq {L : List UInt8} (g : Nat → List UInt8) : ∀ (ts : List Tk) (us : List Tz) (i : Nat), Alike L us ts → newZ g i us = newR L g i ts
  | [], us, i, h => by
    have : us = [] := List.map_eq_nil_iff.1 h
    subst this; rfl
  | t :: ts, [], i, h => by unfold Alike at h; simp at h
  | t :: ts, u :: us, i, h => by
    obtain ⟨h1, h2⟩ := alike_cons h
    have hk : u.k = (t.k : Int) := congrArg Tz.k h1
    have htx : u.tx = ⟨(txt L t).toArray⟩ := congrArg Tz.tx h1
    have hsp : u.sp = t.sp := congrArg Tz.sp h1
    have e8 : (u.k = 8) = (t.k = 8) := by rw [hk]; exact propext ⟨fun h => by omega, fun h => by omega⟩
    rw [newZ, newR, newZ_eq g ts us (i + 1) h2, hsp, htx]
    simp only [e8]

theorem alike_get {L : List UInt8} {us : List Tz} {ts : List Tk} (h : Alike L us ts) : us.length = ts.length ∧ ∀ (i : Nat) (t : Tk), ts[i]? = some t → ∃ u : Tz, us[i]? = some u ∧ u.k = (t.k : Int) := by
  have hl : us.length = ts.length := by
    have := congrArg List.length h
    rw [List.length_map, List.length_map] at this
    exact this
  refine ⟨hl, fun i t ht => ?_⟩
  have hi := (List.getElem?_eq_some_iff.1 ht).1
  obtain ⟨u, hu⟩ : ∃ u, us[i]? = some u := ⟨_, List.getElem?_eq_getElem (by rw [hl]; exact hi)⟩
  refine ⟨u, hu, ?_⟩
  have := congrArg (fun l => l[i]?) h
  simp only [List.getElem?_map, hu, ht, Option.map_some, Option.some.injEq] at this
  exact congrArg Tz.k this

/-- The new line, spelt. -/
def newS (g : Nat → List UInt8) (S : ByteArray) : ByteArray := ⟨(spellOut (newZ g 0 (tksOf S))).1.toArray⟩
theorem remarks_pure {s S : ByteArray} {g : Nat → List UInt8} (hg : ∀ i, g i ∈ sps) (hS : S.data.toList = hd7 ++ 32 :: (s.data.toList ++ [10])) (h : scanErr S = 0) (hz : s.size ≤ 5000) (hn : ∀ (j : Nat) (u : Tz), (tksOf S)[j]? = some u → u.k = 9 → j + 1 = (tksOf S).length) :
    (spellOut (newZ g 0 (tksOf S))).2 = 0 ∧ (newZ g 0 (tksOf S)).length ≤ 65536 ∧ definedS (newS g S) = definedS S ∧ ldE S = 50 ∧ ldE (newS g S) = 50 := by
  have hA := tks_alike h
  obtain ⟨hc, h0⟩ := scanOk h
  have hZ : newZ g 0 (tksOf S) = newR (logicalOf S.data.toList) g 0 (toks (logicalOf S.data.toList) 0 0).1 := newZ_eq g _ _ 0 hA
  have hLl : (logicalOf S.data.toList).length ≤ 5009 := by
    have h3 := charsOf_len (l := S.data.toList)
    have h4 := charsOf_le S.data.toList
    have h5 := congrArg List.length hS
    rw [List.length_append, List.length_cons, List.length_append, List.length_singleton, size_list] at h5
    have h7 : hd7.length = 7 := rfl
    rw [h7, size_list] at h5
    rw [size_list] at h4
    omega
  have hL : logicalOf S.data.toList = hd7 ++ 32 :: lg (s.data.toList ++ [10]) := by
    rw [logicalOf_lg hc, hS]
    show lg (35 :: 100 :: 101 :: 102 :: 105 :: 110 :: 101 :: 32 :: (s.data.toList ++ [10])) = _
    rw [lgPlain (by decide) (by decide), lgPlain (by decide) (by decide), lgPlain (by decide) (by decide), lgPlain (by decide) (by decide), lgPlain (by decide) (by decide), lgPlain (by decide) (by decide), lgPlain (by decide) (by decide), lgPlain (by decide) (by decide)]
    rfl
  have hlast := logLast hc (by rw [hL]; simp [hd7])
  obtain ⟨L, hLL⟩ : ∃ L, logicalOf S.data.toList = L := ⟨_, rfl⟩
  rw [hLL] at hA h0 hZ hLl hL hlast
  obtain ⟨hlen, hget⟩ := alike_get hA
  have hno : ∀ t ∈ (toks L 0 0).1.dropLast, t.k ≠ 9 := by
    intro t ht h9
    obtain ⟨i, hi⟩ := List.getElem?_of_mem ht
    have hlt := (List.getElem?_eq_some_iff.1 hi).1
    rw [List.length_dropLast] at hlt
    rw [List.dropLast_eq_take, List.getElem?_take_of_lt (by omega)] at hi
    obtain ⟨u, hu, hk⟩ := hget i t hi
    have := hn i u hu (by rw [hk, h9]; rfl)
    omega
  have hnl : nlEnd (toks L 0 0).1 = true := by
    obtain ⟨t1, t2, e2, k1, k2, k3, k4, k5, k6, k7, k8, k9⟩ := start_toks hL (stopW_cons (by decide))
    rw [k1] at h0 hno ⊢
    simp only at h0 hno ⊢
    rw [nlEnd, k2, if_neg (by decide), nlEnd, k5, if_neg (by decide)]
    refine last_nl hlast _ e2 (Nat.le_refl _) ?_ h0 (fun t ht => hno t ?_)
    · have := congrArg List.length k9
      rw [List.length_drop, List.length_cons] at this
      omega
    · have hne : (toks L e2 3).1 ≠ [] := fun e => by rw [e] at ht; cases ht
      rw [List.dropLast_cons_of_ne_nil (by simp), List.dropLast_cons_of_ne_nil hne]
      exact List.mem_cons_of_mem _ (List.mem_cons_of_mem _ ht)
  obtain ⟨r, q1, q2, q3, q4, q5, q6, q7⟩ := new_all hg hL h0 hnl
  rw [← hZ] at q1 q3 q4 q5 q6 q7
  obtain ⟨X, hX⟩ : ∃ X, newZ g 0 (tksOf S) = X := ⟨_, rfl⟩
  unfold newS
  rw [hX] at q1 q3 q4 q5 q6 q7 ⊢
  have hf := spell_fine (l := X) (by omega) q7
  obtain ⟨b1, b2⟩ := spell_back hf
  have hT : (⟨(spellOut X).1.toArray⟩ : ByteArray).data.toList = (spellOut X).1 := rfl
  have hsc : scanErr ⟨(spellOut X).1.toArray⟩ = 0 := by
    unfold scanErr
    rw [hT, if_pos b1, b2, q3]; rfl
  obtain ⟨d1, d2⟩ := definedS_of h hLL hL (stopW_cons (by decide)) hnl
  obtain ⟨d3, d4⟩ := definedS_of hsc (by rw [hT]; exact b2) q1 q2 q5
  refine ⟨hf, by omega, ?_, ?_, ?_⟩
  · rw [d4, d2, q4]
  · unfold ldE; rw [if_pos ⟨h, d1⟩]
  · unfold ldE; rw [if_pos ⟨hsc, d3⟩]

end Go.Proofs.Ytaodjipnffgihaa
