/- Several texts laid together. -/
import Derived.Test.YtaodjipnffgihaaGreatMzN
import Derived.Test.YtaodjipnffgihaaGreatTyB
import Derived.Test.YtaodjipnffgihaaGreatMzJ
import Derived.Test.YtaodjipnffgihaaGreatRowsW
import Derived.Test.YtaodjipnffgihaaGreatRSpell
import Derived.Test.YtaodjipnffgihaaGreatMzA
import Derived.Test.YtaodjipnffgihaaGreatMcZ
import Derived.Test.YtaodjipnffgihaaGreatMcW
import Derived.Test.YtaodjipnffgihaaGreatTyE
import Derived.Deep.RegionHeld3
import Derived.Deep.DeepCutAuto
import Derived.Deep.RegionWith

namespace Go.Proofs.YtaodjipnffgihaaGreat
open Go.RowKit Go.Shelf

/-! ### The first row of a text that begins with #define -/
theorem linesS_two (t u : Tz) (r : List Tz) (h1 : (t.k == 9) = false) (h2 : (u.k == 9) = false) : ∃ l ls, linesS (t :: u :: r) = (t :: u :: l) :: ls := by
  rw [linesS, if_neg (by rw [h1]; decide), linesS, if_neg (by rw [h2]; decide)]
  cases linesS r with
  | nil => exact ⟨[], [], rfl⟩
  | cons l ls => exact ⟨l, ls, rfl⟩
theorem bare_more : ∀ (l : List Tz) (acc : List Tz) (f : Bool), ∃ r, (l.foldl bareStep (acc, f)).1 = acc ++ r
  | [], acc, f => ⟨[], by simp⟩
  | t :: l, acc, f => by
    have hb : bareStep (acc, f) t = if outK t.k then (acc, true) else (acc ++ [{ t with sp := t.sp || f }], false) := rfl
    rw [List.foldl_cons, hb]
    split
    · exact bare_more l acc true
    · obtain ⟨r, hr⟩ := bare_more l (acc ++ [{ t with sp := t.sp || f }]) false
      exact ⟨_ :: r, by rw [hr, List.append_assoc]; rfl⟩
theorem first_stays {q : Rz} (hq : q.d = true) : ∀ (ls : List (List Tz)) (o : List Rz), ∃ o', ls.foldl addLine (q :: o) = q :: o'
  | [], o => ⟨o, rfl⟩
  | l :: ls, o => by
    rw [List.foldl_cons]
    have : ∃ o1, addLine (q :: o) l = q :: o1 := by
      unfold addLine addRow
      rcases List.eq_nil_or_concat o with rfl | ⟨o2, p, rfl⟩
      · simp [hq]
      · rw [List.concat_eq_append]
        have e : (q :: (o2 ++ [p])).getLast? = some p := by
          rw [show q :: (o2 ++ [p]) = (q :: o2) ++ [p] from rfl, List.getLast?_append, List.getLast?_singleton]; rfl
        rw [e]
        simp only
        split
        · rw [show q :: (o2 ++ [p]) = (q :: o2) ++ [p] from rfl, List.dropLast_concat]
          exact ⟨_, rfl⟩
        · exact ⟨_, rfl⟩
    obtain ⟨o1, h1⟩ := this
    rw [h1]
    exact first_stays hq ls o1
theorem define_row {s : ByteArray} {z : List UInt8} (h : scanErr s = 0) (hL : logicalOf s.data.toList = hd7 ++ 32 :: z) : ∃ (nm : ByteArray) (ts : List Tz) (o : List Rz), nm = ⟨#[100, 101, 102, 105, 110, 101]⟩ ∧ rowsT s = ⟨true, nm, ts⟩ :: o := by
  obtain ⟨t1, t2, e2, k1, k2, -, k4, k5, -, k7, -, -⟩ := start_toks hL (stopW_cons (by decide))
  have ho : scanOf s = (toksY (logB s)).map (srcY (charsOf s.data.toList)) := by unfold scanOf; rw [if_pos h]
  have hT : ∃ r, tksOf s = tzOf (srcY (charsOf s.data.toList) (tokY (logB s) t1)) :: tzOf (srcY (charsOf s.data.toList) (tokY (logB s) t2)) :: r := by
    unfold tksOf
    rw [ho]
    unfold toksY
    rw [logB_list, k1]
    exact ⟨_, rfl⟩
  have htx : ∀ t l, txt (logicalOf s.data.toList) t = l → (tzOf (srcY (charsOf s.data.toList) (tokY (logB s) t))).tx = ⟨l.toArray⟩ := by
    intro t l e
    show (logB s).extract t.a t.e = _
    refine ByteArray.ext (Array.toList_inj.1 ?_)
    rw [extract_list, logB_list]
    exact e
  have a1 := htx t1 _ k4
  have a2 := htx t2 _ k7
  have b1 : (tzOf (srcY (charsOf s.data.toList) (tokY (logB s) t1))).k = 5 := by show (t1.k : Int) = 5; rw [k2]; rfl
  have b2 : (tzOf (srcY (charsOf s.data.toList) (tokY (logB s) t2))).k = 1 := by show (t2.k : Int) = 1; rw [k5]; rfl
  obtain ⟨r, hr⟩ := hT
  generalize tzOf (srcY (charsOf s.data.toList) (tokY (logB s) t1)) = u1 at *
  generalize tzOf (srcY (charsOf s.data.toList) (tokY (logB s) t2)) = u2 at *
  obtain ⟨l, ls, hls⟩ := linesS_two u1 u2 r (by rw [b1]; rfl) (by rw [b2]; rfl)
  have hbare : ∃ q, (bareS (u1 :: u2 :: l)).1 = { u1 with sp := u1.sp || false } :: { u2 with sp := u2.sp || false } :: q := by
    unfold bareS
    rw [List.foldl_cons, List.foldl_cons]
    have e1 : bareStep ([], false) u1 = ([{ u1 with sp := u1.sp || false }], false) := by
      unfold bareStep outK; rw [b1]; rfl
    have e2 : bareStep ([{ u1 with sp := u1.sp || false }], false) u2 = ([{ u1 with sp := u1.sp || false }, { u2 with sp := u2.sp || false }], false) := by
      unfold bareStep outK; rw [b2]; rfl
    rw [e1, e2]
    obtain ⟨q, hq⟩ := bare_more l [{ u1 with sp := u1.sp || false }, { u2 with sp := u2.sp || false }] false
    exact ⟨q, hq⟩
  obtain ⟨q, hq⟩ := hbare
  have hrow : rowOf (u1 :: u2 :: l) = ⟨true, ⟨#[100, 101, 102, 105, 110, 101]⟩, u1 :: u2 :: l⟩ := by
    unfold rowOf
    rw [hq]
    have h1 : hashB ({ u1 with sp := u1.sp || false } :: { u2 with sp := u2.sp || false } :: q) = true := by
      show (u1.k == 5 && (u1.tx.toList == [35] || u1.tx.toList == [37, 58])) = true
      rw [b1, a1]; decide +kernel
    have h2 : nameB ({ u1 with sp := u1.sp || false } :: { u2 with sp := u2.sp || false } :: q) = ⟨#[100, 101, 102, 105, 110, 101]⟩ := by
      show (if (u2.k == 1) = true then u2.tx else ⟨#[]⟩) = _
      rw [b2, a2]; rfl
    rw [h1, h2]; rfl
  have hfs := first_stays (q := rowOf (u1 :: u2 :: l)) (by rw [hrow]) ls []
  obtain ⟨o, ho2⟩ := hfs
  refine ⟨_, u1 :: u2 :: l, o, rfl, ?_⟩
  unfold rowsT rowsS
  rw [hr, hls, List.foldl_cons]
  have h1 : addLine [] (u1 :: u2 :: l) = [rowOf (u1 :: u2 :: l)] := rfl
  rw [h1, ho2, hrow]

/-- The rows of a list, read: the document's. -/
theorem rrows_in (n cap : Nat) (a : Option Addr) (w : World) (hn2 : n * 48 ≤ 140737488355328) (ts : List Tz) (hn : ts.length = n) (hT : TzIn w a ts) :
    Calls Tryz.prog 17 #[.slice a n cap] w fun e w' => (∃ a' cap', e = .returned (.slice a' (rowsS ts).length cap') ∧ RzIn w' a' (rowsS ts)) ∧ Below w.heap.size w w' := by
  refine (rRows_any n cap a w hn2 ts hn hT).mono ?_
  rintro e w' ⟨⟨v, vs, rfl, hS⟩, hb⟩
  obtain ⟨a', cap', rfl, h2⟩ := hS.own.at
  refine ⟨⟨a', cap', rfl, fun hp => ?_⟩, hb⟩
  obtain ⟨g, e, _, hg, hr⟩ := h2 hp
  exact ⟨g, 0, e, hg, hr⟩

theorem line_head (m : Mz) : ∃ z, lineS m = hd7 ++ 32 :: z := by
  unfold lineS headT
  refine ⟨m.nm.data.toList ++ (if m.fn then catS [⟨#[40]⟩] ++ catS (parsS m) ++ catS [⟨#[41]⟩] else []) ++ bodyT 0 m.bs ++ [10], ?_⟩
  have : catS [defT, m.nm] = defT.data.toList ++ m.nm.data.toList := by simp [catS]
  rw [this]
  have : defT.data.toList = hd7 ++ [32] := rfl
  rw [this]
  simp

set_option maxRecDepth 100000 in
set_option maxHeartbeats 8000000 in
theorem rText_any (m : Mz) (pa ba : Option Addr) (pn pc n bc : Nat) (w : World) (hpn : m.ps.length = pn) (hn : m.bs.length = n) (hp2 : pn ≤ 400) (hn2 : n ≤ 1000) (hz1 : m.nm.size ≤ 65536) (hz2 : (catS m.ps).length ≤ 65536) (hz3 : (bodyT 0 m.bs).length ≤ 65536) (hfit : (lineS m).length ≤ 65536) (hT : StrIn w pa m.ps) (hB : PzIn w ba m.bs) :
    Calls Tryz.prog 7 #[.agg #[.string m.nm, .bool m.fn, .slice pa pn pc, .bool m.vr, .slice ba n bc]] w fun e w' => e = .returned (txtV (textS m)) ∧ Below w.heap.size w w' := by
  have hb0 := below1 w (.cells #[.string m.nm, .bool m.fn, .slice pa pn pc, .bool m.vr, .slice ba n bc] 25)
  have hR0 := MzBox.new w (.string m.nm) (.bool m.fn) (.slice pa pn pc) (.bool m.vr) (.slice ba n bc)
  have CL := rline_any m pa ba pn pc n bc _ hpn hn hp2 hn2 hz1 hz2 hz3 (hT.below hb0) (hB.below hb0)
  obtain ⟨X, hX⟩ : ∃ X, textS m = X := ⟨_, rfl⟩
  have HX := Lib.hid hX
  rw [hX]
  clear hX
  obtain ⟨z, hz⟩ := line_head m
  obtain ⟨l, hl⟩ : ∃ l, lineS m = l := ⟨_, rfl⟩
  have HL := Lib.hid hl
  rw [hl] at CL hfit hz
  clear hl
  obtain ⟨⟨q, c⟩, hq⟩ : ∃ q, spellOut l = q := ⟨_, rfl⟩
  have hql := spellOut_len l
  rw [hq] at hql
  have HX2 : Hid (X = if c = 0 then (match definedS ⟨q.toArray⟩ with
    | some x => if sameM x m then some ⟨q.toArray⟩ else none
    | none => none) else none) := Lib.hid (by rw [← HX.out]; unfold textS; rw [HL.out, hq]; rfl)
  have CS : ∀ W, Calls Tryz.prog 14 #[.string ⟨l.toArray⟩] W fun e w' => e = .returned (.tuple #[.string ⟨q.toArray⟩, .int .i64 c]) ∧ Below W.heap.size W w' := fun W => by
    have h := rspell_any ⟨l.toArray⟩ W (by show l.length ≤ maxLen; unfold maxLen; omega)
    have e : spellOut (⟨l.toArray⟩ : ByteArray).data.toList = (q, c) := hq
    rw [e] at h
    exact h
  have hqz : (⟨q.toArray⟩ : ByteArray).size ≤ maxLen := by
    have : q.length ≤ 65536 := hql
    show q.length ≤ maxLen
    unfold maxLen; omega
  have hlog : c = 0 → logicalOf (⟨q.toArray⟩ : ByteArray).data.toList = hd7 ++ 32 :: z := fun hc => by
    have h := (spell_back (l := l) (by rw [hq]; exact hc)).2.1
    rw [hq, hz] at h
    exact h
  obtain ⟨S, hS⟩ : ∃ S : ByteArray, (⟨q.toArray⟩ : ByteArray) = S := ⟨_, rfl⟩
  rw [hS] at hqz HX2 hlog
  simp only [hS] at CS
  have HT := Lib.hid hT
  have HB := Lib.hid hB
  have HPN := Lib.hid hpn
  have HN := Lib.hid hn
  obtain ⟨y0, y1, y2, y3, y4, -, -, -, -, -⟩ := hR0.facts
  clear hq hql hS hT hB HX HL hpn hn hz
  by_cases hc : c = 0
  · subst hc
    rw [if_pos rfl] at HX2
    have hlog' := hlog rfl
    have CD := fun W => rScan_any S W hqz
    obtain ⟨hf1, hf2⟩ := tks_fit S
    obtain ⟨T, hTT⟩ : ∃ T, tksOf S = T := ⟨_, rfl⟩
    have HRT : Hid (rowsT S = rowsS T) := Lib.hid (by unfold rowsT; rw [hTT])
    have HDR := Lib.hid (fun h => define_row (s := S) h hlog')
    rw [hTT] at CD hf1 hf2
    obtain ⟨k, hk⟩ : ∃ k, T.length = k := ⟨_, rfl⟩
    rw [hk] at CD hf1
    have HK := Lib.hid hk
    have HFU := Lib.hid hf2
    have CR := fun a cap W h => rrows_in k cap a W (by omega) T HK.out h
    obtain ⟨L, hLr⟩ : ∃ L, rowsS T = L := ⟨_, rfl⟩
    rw [hLr] at CR HRT
    have HLR := Lib.hid hLr
    clear hTT hk hf2 hlog hlog' hLr
    by_cases he : scanErr S = 0
    · have HX3 : Hid (X = match oneD L with
        | some x => if sameM x m then some S else none
        | none => none) := Lib.hid (by rw [HX2.out]; unfold definedS; rw [if_pos he, HRT.out])
      obtain ⟨nm, ts, o, hnm, hLo⟩ := HDR.out he
      rw [HRT.out] at hLo
      rw [he] at CD
      clear he HX2 HDR
      go_enter Tryz.func7, Tryz.ntmps7
      go_wp2_with fail
      refine CL.mono ?_
      rintro e w1 ⟨rfl, hb1⟩
      have hR1 := hR0.below hb1
      have hB1 := hb0.trans (hb1.mono hb0.size)
      clear CL y0 y1 y2 y3 y4 hR0
      go_wp2_with fail
      refine (CS _).mono ?_
      rintro e w2 ⟨rfl, hb2⟩
      have hR2 := hR1.below hb2
      have hB2 := hB1.trans (hb2.mono hB1.size)
      clear CS hR1
      go_wp2_with fail
      refine (CD _).mono ?_
      rintro e w3 ⟨⟨a3, cap3, rfl, -, hi3⟩, hb3⟩
      have hR3 := hR2.below hb3
      have hB3 := hB2.trans (hb3.mono hB2.size)
      clear CD hR2
      go_wp2_with fail
      refine (CR _ _ _ hi3).mono ?_
      rintro e w4 ⟨⟨a4, cap4, rfl, hi4⟩, hb4⟩
      have hR4 := hR3.below hb4
      have hB4 := hB3.trans (hb4.mono hB3.size)
      clear CR hR3 hi3
      subst hLo
      by_cases ho : o = []
      · subst ho
        have HX4 : Hid (X = match defineS (saysS ⟨true, nm, ts⟩) with
          | some x => if sameM x m then some S else none
          | none => none) := HX3
        have hfit2 := rows_fit (ts := T) (by rw [HK.out]; omega) (fun t ht => Nat.le_trans (HFU.out t ht) (by decide))
        rw [HLR.out] at hfit2
        obtain ⟨hrl, hrx⟩ := hfit2 _ List.mem_cons_self
        obtain ⟨s1, s2⟩ := saysS_fit ⟨true, nm, ts⟩
        obtain ⟨b, og, rfl, hg, hrz⟩ := hi4 (by simp)
        obtain ⟨c0, c1, ta, tcap, c2, htk⟩ := hrz 0 _ rfl
        have CY := rSays_cap ⟨true, nm, ts⟩ ta tcap w4 hrl htk
        obtain ⟨r, hr⟩ : ∃ r, saysS ⟨true, nm, ts⟩ = r := ⟨_, rfl⟩
        rw [hr] at CY HX4 s1
        obtain ⟨kk, hkk⟩ : ∃ kk, r.length = kk := ⟨_, rfl⟩
        rw [hkk] at CY s1
        have HKK := Lib.hid hkk
        have hk2 : kk * 48 ≤ 140737488355328 := by simp only at s1 hrl; omega
        have k0 : w4.cell? ⟨b, og, none⟩ = some (.bool true) := c0
        have k1 : w4.cell? ⟨b, og + 1, none⟩ = some (.string nm) := c1
        have k2 : w4.cell? ⟨b, og + 2, none⟩ = some (.slice ta ts.length tcap) := c2
        rw [hnm] at k1
        clear HX3 HLR HFU hfit2 hrx s2 hi4 hrz htk hr hkk c0 c1 c2
        simp only [List.length_singleton]
        rw [hnm] at CY
        go_wp2_with fail
        refine CY.mono ?_
        rintro e w5 ⟨⟨a5, cap5, rfl, hc5, hi5⟩, hb5⟩
        have hB5 := hB4.trans (hb5.mono hB4.size)
        have hR5 := hR4.below hb5
        have CDf := rDefine_any r kk cap5 a5 w5 HKK.out hc5 hk2 hi5
        clear k0 k1 k2 CY hi5 hR4
        cases hd : defineS r with
        | none =>
          have HN3 : Hid (X = none) := Lib.hid (by rw [HX4.out, hd])
          rw [hd] at CDf
          clear hd HX4
          go_wp2_with fail
          refine CDf.mono ?_
          rintro e w6 ⟨rfl, hb6⟩
          have hB6 := hB5.trans (hb6.mono hB5.size)
          clear CDf
          go_wp2
          go_ret2
          exact ⟨txt_none HN3.out, hB6.alloc hB6.size (.cells #[.string ⟨#[]⟩, .bool false, .slice none 0 0, .bool false, .slice none 0 0] 25)⟩
        | some x =>
          obtain ⟨f1, f2⟩ := defineS_fitT hd
          have f3 := defineS_ps hd
          have HF3 := Lib.hid f3
          have HN3 : Hid (X = if sameM x m then some S else none) := Lib.hid (by rw [HX4.out, hd])
          rw [HKK.out] at f1 f2
          rw [hd] at CDf
          clear hd HX4 f3
          go_wp2_with fail
          refine CDf.mono ?_
          rintro e w6 ⟨⟨v, u, rfl, hr1, hr2⟩, hb6⟩
          obtain ⟨va, vc, rfl⟩ := row_shape hr1
          obtain ⟨ua, uc, rfl⟩ := row_shape hr2
          have hB6 := hB5.trans (hb6.mono hB5.size)
          have hR6 := hR5.below hb6
          have hbM := below1 w6 (.cells #[.string x.nm, .bool x.fn, .slice va x.ps.length vc, .bool x.vr, .slice ua x.bs.length uc] 25)
          have hM := MzBox.new w6 (.string x.nm) (.bool x.fn) (.slice va x.ps.length vc) (.bool x.vr) (.slice ua x.bs.length uc)
          have hB7 := hB6.trans (hbM.mono hB6.size)
          have hR7 := hR6.below hbM
          have CM := rSame_mz x m va pa ua ba vc pc uc bc _ (by omega) (by rw [HPN.out]; omega) (by omega) (by rw [HN.out]; omega) ((strIn_row rfl hr1).below hbM) (HT.out.below hB7) ((pzIn_row rfl HF3.out hr2).below hbM) (HB.out.below hB7)
          rw [HPN.out, HN.out] at CM
          obtain ⟨y0, y1, y2, y3, y4, -, -, -, -, -⟩ := hR7.facts
          obtain ⟨z0, z1, z2, z3, z4, -, -, -, -, -⟩ := hM.facts
          clear CDf hR5 hR6 hr1 hr2 hbM HT HB HPN HN HF3
          go_wp2_with fail
          refine CM.mono ?_
          rintro e w8 ⟨rfl, hb8⟩
          have hB8 := hB7.trans (hb8.mono hB7.size)
          clear CM y0 y1 y2 y3 y4 z0 z1 z2 z3 z4
          cases hs : sameM x m with
          | false =>
            have HN4 : Hid (X = none) := Lib.hid (by rw [HN3.out, hs]; rfl)
            clear HN3 hs
            go_wp2
            go_ret2
            exact ⟨txt_none HN4.out, hB8⟩
          | true =>
            have HN4 : Hid (X = some S) := Lib.hid (by rw [HN3.out, hs]; rfl)
            clear HN3 hs
            go_wp2
            go_ret2
            exact ⟨txt_some HN4.out, hB8⟩
      · have hlen : ∃ j, (⟨true, nm, ts⟩ :: o : List Rz).length = j + 2 := by
          cases o with
          | nil => exact absurd rfl ho
          | cons p o => exact ⟨o.length, by simp⟩
        obtain ⟨j, hj⟩ := hlen
        have HN2 : Hid (X = none) := Lib.hid (by
          rw [HX3.out]
          cases o with
          | nil => exact absurd rfl ho
          | cons p o => rfl)
        rw [hj]
        have j2 : (((j + 2 : Nat) : Int) != 1) = true := by rw [bne_iff_ne]; omega
        clear hi4 HX3 HLR hj
        go_wp2
        go_ret2
        exact ⟨txt_none HN2.out, hB4⟩
    · have HN2 : Hid (X = none) := Lib.hid (by
        rw [HX2.out]; unfold definedS; rw [if_neg he])
      obtain ⟨d, hd⟩ : ∃ d : Int, (scanErr S : Int) = d := ⟨_, rfl⟩
      have hd0 : d ≠ 0 := by rw [← hd]; exact he
      rw [hd] at CD
      have j1 : (d != 0) = true := by simpa using hd0
      clear he HX2 HDR hd
      go_enter Tryz.func7, Tryz.ntmps7
      go_wp2_with fail
      refine CL.mono ?_
      rintro e w1 ⟨rfl, hb1⟩
      have hB1 := hb0.trans (hb1.mono hb0.size)
      clear CL y0 y1 y2 y3 y4 hR0
      go_wp2_with fail
      refine (CS _).mono ?_
      rintro e w2 ⟨rfl, hb2⟩
      have hB2 := hB1.trans (hb2.mono hB1.size)
      clear CS
      go_wp2_with fail
      refine (CD _).mono ?_
      rintro e w3 ⟨⟨a3, cap3, rfl, -, hi3⟩, hb3⟩
      have hB3 := hB2.trans (hb3.mono hB2.size)
      clear CD
      go_wp2_with fail
      refine (CR _ _ _ hi3).mono ?_
      rintro e w4 ⟨⟨a4, cap4, rfl, -⟩, hb4⟩
      have hB4 := hB3.trans (hb4.mono hB3.size)
      clear CR hi3
      go_wp2
      go_ret2
      exact ⟨txt_none HN2.out, hB4⟩
  · have HN2 : Hid (X = none) := Lib.hid (by rw [HX2.out, if_neg hc])
    have j1 : (c != 0) = true := by simpa using hc
    clear HX2 hc hlog
    go_enter Tryz.func7, Tryz.ntmps7
    go_wp2_with fail
    refine CL.mono ?_
    rintro e w1 ⟨rfl, hb1⟩
    have hB1 := hb0.trans (hb1.mono hb0.size)
    clear CL y0 y1 y2 y3 y4
    go_wp2_with fail
    refine (CS _).mono ?_
    rintro e w2 ⟨rfl, hb2⟩
    have hB2 := hB1.trans (hb2.mono hB1.size)
    clear CS
    go_wp2
    go_ret2
    exact ⟨txt_none HN2.out, hB2⟩

end Go.Proofs.YtaodjipnffgihaaGreat

namespace Go.Proofs.YtaodjipnffgihaaGreat
open Go.RowKit Go.Shelf

theorem great_parts {m : Mz} (h : greatM m = false) : m.nm.size ≤ 65536 ∧ (catS m.ps).length ≤ 65536 ∧ (bodyT 0 m.bs).length ≤ 65536 := by
  obtain ⟨h1, h2, h3⟩ := great_no h
  unfold greatN at h1
  rw [List.take_of_length_le (by omega), List.take_of_length_le (by omega)] at h1
  have h4 := pars_len m.ps (by omega)
  have h5 := bods_len m.bs 0 (by omega)
  exact ⟨by omega, by omega, by omega⟩

set_option maxRecDepth 100000 in
set_option maxHeartbeats 16000000 in
theorem mtexts_any (m o : Mz) (pa ba qa da : Option Addr) (pn pc n bc qn qc dn dc : Nat) (w : World) (hpn : m.ps.length = pn) (hn : m.bs.length = n) (hqn : o.ps.length = qn) (hdn : o.bs.length = dn)
    (hnm : m.nm.size ≤ 281474976710656) (hp2 : pn ≤ 140737488355328) (hn2 : n ≤ 140737488355328) (hnm' : o.nm.size ≤ 281474976710656) (hq2 : qn ≤ 140737488355328) (hd2 : dn ≤ 140737488355328)
    (hT : StrIn w pa m.ps) (hB : PzIn w ba m.bs) (hl : ∀ p ∈ m.bs, p.ps.length * 16 ≤ 140737488355328) (hT' : StrIn w qa o.ps) (hB' : PzIn w da o.bs) (hl' : ∀ p ∈ o.bs, p.ps.length * 16 ≤ 140737488355328) (hV : LibVar w) :
    Calls Tryz.prog 3 #[.agg #[.string m.nm, .bool m.fn, .slice pa pn pc, .bool m.vr, .slice ba n bc], .agg #[.string o.nm, .bool o.fn, .slice qa qn qc, .bool o.vr, .slice da dn dc]] w fun e w' => e = .returned (.bool true) ∧ Below w.heap.size w w' := by
  have hbA := below1 w (.cells #[.string m.nm, .bool m.fn, .slice pa pn pc, .bool m.vr, .slice ba n bc] 25)
  have hRA := MzBox.new w (.string m.nm) (.bool m.fn) (.slice pa pn pc) (.bool m.vr) (.slice ba n bc)
  have hR2 := MzBox.new (w.alloc (.cells #[.string m.nm, .bool m.fn, .slice pa pn pc, .bool m.vr, .slice ba n bc] 25)) (.string o.nm) (.bool o.fn) (.slice qa qn qc) (.bool o.vr) (.slice da dn dc)
  rw [World.size_alloc] at hR2
  have hbB := below1 (w.alloc (.cells #[.string m.nm, .bool m.fn, .slice pa pn pc, .bool m.vr, .slice ba n bc] 25)) (.cells #[.string o.nm, .bool o.fn, .slice qa qn qc, .bool o.vr, .slice da dn dc] 25)
  have hR1 := hRA.below hbB
  have hB0 := hbA.trans (hbB.mono hbA.size)
  have HPN := Lib.hid hpn
  have HN := Lib.hid hn
  have HQN := Lib.hid hqn
  have HDN := Lib.hid hdn
  have HT := Lib.hid hT
  have HB := Lib.hid hB
  have HL := Lib.hid hl
  have HT' := Lib.hid hT'
  have HB' := Lib.hid hB'
  have HL' := Lib.hid hl'
  have CG := fun (W : World) (h : Below w.heap.size w W) => great_any m pa ba pn pc n bc W HPN.out HN.out hnm (by omega) (by omega) (HT.out.below h) (HB.out.below h) (fun p hp => by have := HL.out p hp; omega)
  have CG' := fun (W : World) (h : Below w.heap.size w W) => great_any o qa da qn qc dn dc W HQN.out HDN.out hnm' (by omega) (by omega) (HT'.out.below h) (HB'.out.below h) (fun p hp => by have := HL'.out p hp; omega)
  obtain ⟨G, hG⟩ : ∃ G, greatM m = G := ⟨_, rfl⟩
  obtain ⟨G', hG'⟩ : ∃ G, greatM o = G := ⟨_, rfl⟩
  rw [hG] at CG
  rw [hG'] at CG'
  obtain ⟨y0, y1, y2, y3, y4, -, -, -, -, -⟩ := hR1.facts
  clear hpn hn hqn hdn hT hB hl hT' hB' hl' hRA
  cases G with
  | true =>
    clear hG hG' HPN HN HQN HDN HT HB HL HT' HB' HL' CG'
    go_enter Tryz.func3, Tryz.ntmps3
    go_wp2_with fail
    refine (CG _ hB0).mono ?_
    rintro e w1 ⟨rfl, hb1⟩
    clear CG y0 y1 y2 y3 y4
    go_wp2
    go_ret
    exact ⟨rfl, hB0.trans (hb1.mono hB0.size)⟩
  | false =>
    cases G' with
    | true =>
      clear hG hG' HPN HN HQN HDN HT HB HL HT' HB' HL'
      go_enter Tryz.func3, Tryz.ntmps3
      go_wp2_with fail
      refine (CG _ hB0).mono ?_
      rintro e w1 ⟨rfl, hb1⟩
      have hB1 := hB0.trans (hb1.mono hB0.size)
      have hR2' := hR2.below hb1
      clear CG y0 y1 y2 y3 y4
      obtain ⟨y0, y1, y2, y3, y4, -, -, -, -, -⟩ := hR2'.facts
      go_wp2_with fail
      refine (CG' _ hB1).mono ?_
      rintro e w2 ⟨rfl, hb2⟩
      clear CG' y0 y1 y2 y3 y4
      go_wp2
      go_ret
      exact ⟨rfl, hB1.trans (hb2.mono hB1.size)⟩
    | false =>
      obtain ⟨g1, g2, g3⟩ := great_line hG
      obtain ⟨g4, g5, g6⟩ := great_parts hG
      rw [HPN.out] at g2
      rw [HN.out] at g3
      have CW := fun (W : World) (h : Below w.heap.size w W) => rTwin_any m pa ba pn pc n bc W HPN.out HN.out g2 g3 (HT.out.below h) (HB.out.below h) HL.out
      have CT := fun (va ua : Option Addr) (vc uc : Nat) (W : World) (h1 : StrIn W va m.ps) (h2 : PzIn W ua m.bs) (h3 : LibVar W) => text_any m va ua pn vc n uc W HPN.out HN.out g2 g3 g1 h1 h2 h3
      have CR := fun (W : World) (h : Below w.heap.size w W) => rText_any m pa ba pn pc n bc W HPN.out HN.out g2 g3 g4 g5 g6 g1 (HT.out.below h) (HB.out.below h)
      have hms : m.ps.length ≤ 140737488355328 := by rw [HPN.out]; exact hp2
      have hos : o.ps.length ≤ 140737488355328 := by rw [HQN.out]; exact hq2
      have hmb : m.bs.length ≤ 140737488355328 := by rw [HN.out]; exact hn2
      have hob : o.bs.length ≤ 140737488355328 := by rw [HDN.out]; exact hd2
      have M1 := fun (va ua : Option Addr) (vc uc : Nat) (W : World) (hb : Below w.heap.size w W) (h1 : StrIn W va m.ps) (h2 : PzIn W ua m.bs) => same_mz m o va qa ua da vc qc uc dc W hms hos hmb hob h1 (HT'.out.below hb) h2 (HB'.out.below hb)
      have M2 := fun (W : World) (hb : Below w.heap.size w W) => rSame_mz m o pa qa ba da pc qc bc dc W hms hos hmb hob (HT.out.below hb) (HT'.out.below hb) (HB.out.below hb) (HB'.out.below hb)
      have M3 := fun (va ua : Option Addr) (vc uc : Nat) (W : World) (hb : Below w.heap.size w W) (h1 : StrIn W va m.ps) (h2 : PzIn W ua m.bs) => same_mz m m va pa ua ba vc pc uc bc W hms hms hmb hmb h1 (HT.out.below hb) h2 (HB.out.below hb)
      have M4 := fun (va ua : Option Addr) (vc uc : Nat) (W : World) (hb : Below w.heap.size w W) (h1 : StrIn W va m.ps) (h2 : PzIn W ua m.bs) => rSame_mz m m va pa ua ba vc pc uc bc W hms hms hmb hmb h1 (HT.out.below hb) h2 (HB.out.below hb)
      rw [sameM_self, HPN.out, HN.out] at M3 M4
      rw [HPN.out, HN.out, HQN.out, HDN.out] at M1 M2
      obtain ⟨sm, hsm⟩ : ∃ sm, sameM m o = sm := ⟨_, rfl⟩
      rw [hsm] at M1 M2
      clear hG hG' hsm
      have HVV := Lib.hid hV
      obtain ⟨sv, ev, hX⟩ : ∃ sv ev, txtV (textS m) = .tuple #[.string sv, .int .i64 ev] := by
        cases textS m with
        | none => exact ⟨_, _, rfl⟩
        | some S => exact ⟨_, _, rfl⟩
      rw [hX] at CT CR
      clear hX
      go_enter Tryz.func3, Tryz.ntmps3
      go_wp2_with fail
      refine (CG _ hB0).mono ?_
      rintro e w1 ⟨rfl, hb1⟩
      have hB1 := hB0.trans (hb1.mono hB0.size)
      have hR1a := hR1.below hb1
      have hR2a := hR2.below hb1
      clear CG y0 y1 y2 y3 y4 hR1 hR2
      obtain ⟨y0, y1, y2, y3, y4, -, -, -, -, -⟩ := hR2a.facts
      go_wp2_with fail
      refine (CG' _ hB1).mono ?_
      rintro e w2 ⟨rfl, hb2⟩
      have hB2 := hB1.trans (hb2.mono hB1.size)
      have hR1b := hR1a.below hb2
      have hR2b := hR2a.below hb2
      clear CG' y0 y1 y2 y3 y4 hR1a hR2a
      obtain ⟨y0, y1, y2, y3, y4, -, -, -, -, -⟩ := hR1b.facts
      go_wp2_with fail
      refine (CW _ hB2).mono ?_
      rintro e w3 ⟨⟨va, vc, ua, uc, rfl, hs3, hp3⟩, hb3⟩
      have hB3 := hB2.trans (hb3.mono hB2.size)
      have hbM := below1 w3 (.cells #[.string m.nm, .bool m.fn, .slice va pn vc, .bool m.vr, .slice ua n uc] 25)
      have hM := MzBox.new w3 (.string m.nm) (.bool m.fn) (.slice va pn vc) (.bool m.vr) (.slice ua n uc)
      have hB4 := hB3.trans (hbM.mono hB3.size)
      have hR1c := (hR1b.below hb3).below hbM
      have hR2c := (hR2b.below hb3).below hbM
      have hs4 := hs3.below hbM
      have hp4 := hp3.below hbM
      clear CW y0 y1 y2 y3 y4 hR1b hR2b hs3 hp3
      obtain ⟨y0, y1, y2, y3, y4, -, -, -, -, -⟩ := hM.facts
      go_wp2_with fail
      refine (CT _ _ _ _ _ hs4 hp4 (HVV.out.low hB4)).mono ?_
      rintro e w5 ⟨rfl, hb5⟩
      have hB5 := hB4.trans (hb5.mono hB4.size)
      have hR1d := hR1c.below hb5
      have hR2d := hR2c.below hb5
      have hR3d := hM.below hb5
      have hs5 := hs4.below hb5
      have hp5 := hp4.below hb5
      clear CT y0 y1 y2 y3 y4 hR1c hR2c hM hs4 hp4
      obtain ⟨y0, y1, y2, y3, y4, -, -, -, -, -⟩ := hR1d.facts
      go_wp2_with fail
      refine (CR _ hB5).mono ?_
      rintro e w6 ⟨rfl, hb6⟩
      have hB6 := hB5.trans (hb6.mono hB5.size)
      have hR1e := hR1d.below hb6
      have hR2e := hR2d.below hb6
      have hR3e := hR3d.below hb6
      have hs6 := hs5.below hb6
      have hp6 := hp5.below hb6
      clear CR y0 y1 y2 y3 y4 hR1d hR2d hR3d hs5 hp5
      have HF : Hid (∀ W, Below w6.heap.size w6 W → (W.cell? ⟨w.heap.size, 0, none⟩ = some (.string m.nm) ∧ W.cell? ⟨w.heap.size, 1, none⟩ = some (.bool m.fn) ∧ W.cell? ⟨w.heap.size, 2, none⟩ = some (.slice pa pn pc) ∧ W.cell? ⟨w.heap.size, 3, none⟩ = some (.bool m.vr) ∧ W.cell? ⟨w.heap.size, 4, none⟩ = some (.slice ba n bc) ∧ W.cell? ⟨w.heap.size + 1, 0, none⟩ = some (.string o.nm) ∧ W.cell? ⟨w.heap.size + 1, 1, none⟩ = some (.bool o.fn) ∧ W.cell? ⟨w.heap.size + 1, 2, none⟩ = some (.slice qa qn qc) ∧ W.cell? ⟨w.heap.size + 1, 3, none⟩ = some (.bool o.vr) ∧ W.cell? ⟨w.heap.size + 1, 4, none⟩ = some (.slice da dn dc) ∧ W.cell? ⟨w3.heap.size, 0, none⟩ = some (.string m.nm) ∧ W.cell? ⟨w3.heap.size, 1, none⟩ = some (.bool m.fn) ∧ W.cell? ⟨w3.heap.size, 2, none⟩ = some (.slice va pn vc) ∧ W.cell? ⟨w3.heap.size, 3, none⟩ = some (.bool m.vr) ∧ W.cell? ⟨w3.heap.size, 4, none⟩ = some (.slice ua n uc)) ∧ Below w.heap.size w W ∧ StrIn W va m.ps ∧ PzIn W ua m.bs) := Lib.hid (fun W h => by
        obtain ⟨a0, a1, a2, a3, a4, -, -, -, -, -⟩ := (hR1e.below h).facts
        obtain ⟨b0, b1, b2, b3, b4, -, -, -, -, -⟩ := (hR2e.below h).facts
        obtain ⟨c0, c1, c2, c3, c4, -, -, -, -, -⟩ := (hR3e.below h).facts
        exact ⟨⟨a0, a1, a2, a3, a4, b0, b1, b2, b3, b4, c0, c1, c2, c3, c4⟩, hB6.trans (h.mono hB6.size), hs6.below h, hp6.below h⟩)
      have N1 := fun (W : World) (h : Below w6.heap.size w6 W) => M1 va ua vc uc W (HF.out W h).2.1 (HF.out W h).2.2.1 (HF.out W h).2.2.2
      have N2 := fun (W : World) (h : Below w6.heap.size w6 W) => M2 W (HF.out W h).2.1
      have N3 := fun (W : World) (h : Below w6.heap.size w6 W) => M3 va ua vc uc W (HF.out W h).2.1 (HF.out W h).2.2.1 (HF.out W h).2.2.2
      have N4 := fun (W : World) (h : Below w6.heap.size w6 W) => M4 va ua vc uc W (HF.out W h).2.1 (HF.out W h).2.2.1 (HF.out W h).2.2.2
      obtain ⟨⟨ka0, ka1, ka2, ka3, ka4, kb0, kb1, kb2, kb3, kb4, kc0, kc1, kc2, kc3, kc4⟩, -, -, -⟩ := HF.out w6 (Below.refl _ _)
      clear M1 M2 M3 M4 hR1e hR2e hR3e hs6 hp6
      go_wp2_with fail
      go_region_held3 (fun w' => w'.cell? ⟨w.heap.size, 0, none⟩ = some (.string m.nm) ∧ w'.cell? ⟨w.heap.size, 1, none⟩ = some (.bool m.fn) ∧ w'.cell? ⟨w.heap.size, 2, none⟩ = some (.slice pa pn pc) ∧ w'.cell? ⟨w.heap.size, 3, none⟩ = some (.bool m.vr) ∧ w'.cell? ⟨w.heap.size, 4, none⟩ = some (.slice ba n bc) ∧ w'.cell? ⟨w.heap.size + 1, 0, none⟩ = some (.string o.nm) ∧ w'.cell? ⟨w.heap.size + 1, 1, none⟩ = some (.bool o.fn) ∧ w'.cell? ⟨w.heap.size + 1, 2, none⟩ = some (.slice qa qn qc) ∧ w'.cell? ⟨w.heap.size + 1, 3, none⟩ = some (.bool o.vr) ∧ w'.cell? ⟨w.heap.size + 1, 4, none⟩ = some (.slice da dn dc) ∧ w'.cell? ⟨w3.heap.size, 0, none⟩ = some (.string m.nm) ∧ w'.cell? ⟨w3.heap.size, 1, none⟩ = some (.bool m.fn) ∧ w'.cell? ⟨w3.heap.size, 2, none⟩ = some (.slice va pn vc) ∧ w'.cell? ⟨w3.heap.size, 3, none⟩ = some (.bool m.vr) ∧ w'.cell? ⟨w3.heap.size, 4, none⟩ = some (.slice ua n uc))
        (first | go_keep | exact (HF.out _ hWd).1 | exact (HF.out _ hWc).1 | exact (HF.out _ hWb).1 | exact (HF.out _ hWa).1 | exact (HF.out _ (below_drewN (Below.refl w6.heap.size w6) 1)).1)
        (first
          | (go_at_call 8; ((with_reducible refine (N1 _ ?_).mono ?_); (first | exact hWb | exact below_drewN (Below.refl w6.heap.size w6) 1)); rintro e wa ⟨rfl, hba⟩; have hWa : Below w6.heap.size w6 wa := (by first | exact hWb.trans (hba.mono hWb.size) | exact (below_drewN (Below.refl w6.heap.size w6) 1).trans hba))
          | (go_at_call 9; ((with_reducible refine (N2 _ ?_).mono ?_); (first | exact hWa | exact below_drewN (Below.refl w6.heap.size w6) 1)); rintro e wb ⟨rfl, hbb⟩; have hWb : Below w6.heap.size w6 wb := (by first | exact hWa.trans (hbb.mono hWa.size) | exact (below_drewN (Below.refl w6.heap.size w6) 1).trans hbb))
          | (go_at_call 8; ((with_reducible refine (N3 _ ?_).mono ?_); (first | exact hWb | exact hWa)); rintro e wc ⟨rfl, hbc⟩; have hWc : Below w6.heap.size w6 wc := (by first | exact hWb.trans (hbc.mono hWb.size) | exact hWa.trans (hbc.mono hWa.size)))
          | (go_at_call 9; ((with_reducible refine (N4 _ ?_).mono ?_); exact hWc); rintro e wd ⟨rfl, hbd⟩; have hWd : Below w6.heap.size w6 wd := hWc.trans (hbd.mono hWc.size)))
      all_goals
        go_wp2
        go_ret
        exact ⟨rfl, hB6.trans (hWd.mono hB6.size)⟩

end Go.Proofs.YtaodjipnffgihaaGreat
