/- Several texts laid together. -/
import Derived.Test.YtaodjipnffgihaaGreatMzM
import Derived.Test.YtaodjipnffgihaaGreatMcK
import Derived.Test.YtaodjipnffgihaaGreatTxC
import Derived.Test.YtaodjipnffgihaaGreatMzH
import Derived.BigQuiet
import Derived.Deep.QuietTactic

namespace Go.Proofs.YtaodjipnffgihaaGreat
open Go.RowKit Go.Shelf

/-- What a text of one directive defines. -/
def oneD : List Rz → Option Mz
  | [r] => defineS (saysS r)
  | _ => none
def definedS (s : ByteArray) : Option Mz := if scanErr s = 0 then oneD (rowsT s) else none
def DfdRes (w : World) (x : Option Mz) (e : Ending) (w' : World) : Prop :=
  (match x with
    | none => ∃ c : Int, c ≠ 0 ∧ e = .returned (.tuple #[.agg #[.string ⟨#[]⟩, .bool false, .slice none 0 0, .bool false, .slice none 0 0], .int .i64 c])
    | some m => ∃ v u, e = .returned (.tuple #[.agg #[.string m.nm, .bool m.fn, v, .bool m.vr, u], .int .i64 0]) ∧ w'.ownsRow w.heap.size 9 1 v m.ps.length (stV m.ps) ∧ w'.ownsRow w.heap.size 35 4 u m.bs.length (pnCells m.bs)) ∧ Below w.heap.size w w'
theorem DfdRes.no {w w' : World} {x : Option Mz} {e : Ending} {c : Int} (hx : x = none) (hc : c ≠ 0) (he : e = .returned (.tuple #[.agg #[.string ⟨#[]⟩, .bool false, .slice none 0 0, .bool false, .slice none 0 0], .int .i64 c])) (hb : Below w.heap.size w w') : DfdRes w x e w' := by
  subst hx; exact ⟨⟨c, hc, he⟩, hb⟩

theorem DfdRes.of {w w1 w2 : World} {x : Option Mz} {e : Ending} (h : DefRes w1 x e w2) (hb : Below w.heap.size w w1) (he : e = .returned (.tuple #[.agg #[.string ⟨#[]⟩, .bool false, .slice none 0 0, .bool false, .slice none 0 0], .int .i64 50]) → x = none → DfdRes w x e w2) : DfdRes w x e w2 := by
  obtain ⟨h1, h2⟩ := h
  cases x with
  | none => exact he h1 rfl
  | some m =>
    obtain ⟨v, u, e1, r1, r2⟩ := h1
    exact ⟨⟨v, u, e1, row_lower0 hb.size r1, row_lower0 hb.size r2⟩, hb.trans (h2.mono hb.size)⟩
theorem DfdRes.yes {w w' : World} {x : Option Mz} {e : Ending} {nm : ByteArray} {fn vr : Bool} {ps : List ByteArray} {bs : List Pz} {v u : Value} (hx : x = some ⟨nm, fn, ps, vr, bs⟩) (he : e = .returned (.tuple #[.agg #[.string nm, .bool fn, v, .bool vr, u], .int .i64 0])) (hr : w'.ownsRow w.heap.size 9 1 v ps.length (stV ps)) (hu : w'.ownsRow w.heap.size 35 4 u bs.length (pnCells bs)) (hb : Below w.heap.size w w') : DfdRes w x e w' := by
  subst hx; exact ⟨⟨v, u, he, hr, hu⟩, hb⟩
theorem bareTx (ts : List Tz) : ∀ t ∈ (bareS ts).1, ∃ u ∈ ts, t.tx = u.tx := by
  have key : ∀ (l : List Tz) (q : List Tz × Bool), ∀ t ∈ (l.foldl bareStep q).1, t ∈ q.1 ∨ ∃ u ∈ l, t.tx = u.tx := by
    intro l
    induction l with
    | nil => intro q t h; exact .inl h
    | cons x l ih =>
      intro q t h
      rw [List.foldl_cons] at h
      rcases ih _ t h with h1 | ⟨u, hu, e⟩
      · unfold bareStep at h1
        split at h1
        · exact .inl h1
        · rcases List.mem_append.1 h1 with h2 | h2
          · exact .inl h2
          · rw [List.mem_singleton] at h2
            exact .inr ⟨x, List.mem_cons_self, by rw [h2]⟩
      · exact .inr ⟨u, List.mem_cons_of_mem _ hu, e⟩
  intro t ht
  rcases key ts ([], false) t ht with h | h
  · cases h
  · exact h
theorem saysS_fit (r : Rz) : (saysS r).length ≤ r.ts.length ∧ ∀ t ∈ saysS r, ∃ u ∈ r.ts, t.tx = u.tx := by
  have h := bareS_len r.ts
  have h2 := bareTx r.ts
  have hL : bareL r = (bareS r.ts).1 := rfl
  unfold saysS
  rw [hL]
  split
  · split
    · exact ⟨by rw [List.length_drop]; omega, fun t ht => h2 t (List.mem_of_mem_drop ht)⟩
    · exact ⟨by rw [List.length_drop]; omega, fun t ht => h2 t (List.mem_of_mem_drop ht)⟩
  · exact ⟨h, h2⟩

set_option maxRecDepth 100000 in
set_option maxHeartbeats 4000000 in
theorem defined_any (s : ByteArray) (w : World) (hs : s.size ≤ maxLen) (hL : LibVar w) :
    Calls Tryz.prog 13 #[.string s] w (DfdRes w (definedS s)) := by
  have hb0 := below1 w (.cells #[.string ⟨#[]⟩, .bool false, .slice none 0 0, .bool false, .slice none 0 0] 25)
  have hR0 := MzBox.new w (.string ⟨#[]⟩) (.bool false) (.slice none 0 0) (.bool false) (.slice none 0 0)
  have CS := scan_tz s (w.alloc (.cells #[.string ⟨#[]⟩, .bool false, .slice none 0 0, .bool false, .slice none 0 0] 25)) hs (hL.low hb0)
  obtain ⟨X, hX⟩ : ∃ X, definedS s = X := ⟨_, rfl⟩
  have HX := Lib.hid hX
  rw [hX]
  clear hX
  by_cases he : scanErr s = 0
  · obtain ⟨hf1, hf2⟩ := tks_fit s
    obtain ⟨T, hT⟩ : ∃ T, tksOf s = T := ⟨_, rfl⟩
    have hRT : rowsT s = rowsS T := by unfold rowsT; rw [hT]
    obtain ⟨L, hLr⟩ : ∃ L, rowsS T = L := ⟨_, rfl⟩
    have HX2 : Hid (X = oneD L) := Lib.hid (by rw [← HX.out, ← hLr, ← hRT]; unfold definedS; rw [if_pos he])
    rw [hT, he] at CS
    rw [hT] at hf1 hf2
    obtain ⟨m, hm⟩ : ∃ m, T.length = m := ⟨_, rfl⟩
    rw [hm] at CS hf1
    have HM := Lib.hid hm
    have HF := Lib.hid hf2
    have HLR := Lib.hid hLr
    clear hT hRT hm hf2 he HX hLr
    go_enter Tryz.func13, Tryz.ntmps13
    go_wp2_with fail
    refine CS.mono ?_
    rintro e w1 ⟨⟨a, cap, rfl, hc, hi⟩, hb1⟩
    have hR1 := hR0.below hb1
    have hB1 := hb0.trans (hb1.mono hb0.size)
    have CR := rows_in_any m cap a w1 (by omega) hc T HM.out (fun t ht => Nat.le_trans (HF.out t ht) (by decide)) hi
    rw [HLR.out] at CR
    clear CS hi hR0
    go_wp2_with fail
    refine CR.mono ?_
    rintro e w2 ⟨⟨a2, cap2, rfl, hc2, hi2⟩, hb2⟩
    have hR2 := hR1.below hb2
    have hB2 := hB1.trans (hb2.mono hB1.size)
    clear CR hR1
    by_cases h1 : L.length = 1
    · obtain ⟨r, rfl⟩ := List.length_eq_one_iff.1 h1
      have HN : Hid (X = defineS (saysS r)) := Lib.hid HX2.out
      have hfit := rows_fit (ts := T) (by rw [HM.out]; omega) (fun t ht => Nat.le_trans (HF.out t ht) (by decide))
      rw [HLR.out] at hfit
      obtain ⟨hrl, hrx⟩ := hfit r List.mem_cons_self
      obtain ⟨s1, s2⟩ := saysS_fit r
      obtain ⟨b, o, rfl, hg, hrz⟩ := hi2 (by simp)
      obtain ⟨c0, c1, ta, tcap, c2, htk⟩ := hrz 0 r rfl
      have CY := says_cap_any r ta tcap w2 hrl hrx htk
      have HSX : Hid (∀ t ∈ saysS r, t.tx.size ≤ 281474976710656) := Lib.hid (fun t ht => by
        obtain ⟨u, hu, e⟩ := s2 t ht
        rw [e]
        exact hrx u hu)
      obtain ⟨k, hk⟩ : ∃ k, (saysS r).length = k := ⟨_, rfl⟩
      rw [hk] at CY s1
      have HK := Lib.hid hk
      have hk2 : k * 48 ≤ 140737488355328 := by omega
      have k0 : w2.cell? ⟨b, o, none⟩ = some (.bool r.d) := c0
      have k1 : w2.cell? ⟨b, o + 1, none⟩ = some (.string r.nm) := c1
      have k2 : w2.cell? ⟨b, o + 2, none⟩ = some (.slice ta r.ts.length tcap) := c2
      clear h1 hfit hrx s2 hi2 hrz htk HX2 HLR HM HF hk
      have hL1 : [r].length = 1 := rfl
      rw [hL1]
      have j2 : (((1 : Nat) : Int) != 1) = false := rfl
      go_wp2_with fail
      refine CY.mono ?_
      rintro e w3 ⟨⟨a3, cap3, rfl, hc3, hS3⟩, hb3⟩
      clear k0 k1 k2 CY
      have hR3 := hR2.below hb3
      have hB3 := hB2.trans (hb3.mono hB2.size)
      have CD := define_any (saysS r) k cap3 a3 w3 HK.out hc3 hk2 HSX.out hS3.in
      have hP3 : w.heap.size < w3.heap.size := (Array.getElem?_eq_some_iff.1 hR3).1
      clear hS3 HSX hR2 hB2
      cases hd : defineS (saysS r) with
      | none =>
        rw [hd] at CD
        have HN2 : Hid (X = none) := Lib.hid (by rw [HN.out, hd])
        clear hd HN
        go_wp2_with fail
        refine CD.mono ?_
        rintro e w4 ⟨rfl, hb4⟩
        have hR4 := hR3.below hb4
        have hB4 := hB3.trans (hb4.mono hB3.size)
        obtain ⟨z0, z1, z2, z3, z4, f0, f1, f2, f3, f4⟩ := hR4.facts
        go_wp2
        refine bodyPost_ret (v := .tuple #[.agg #[.string ⟨#[]⟩, .bool false, .slice none 0 0, .bool false, .slice none 0 0], .int .i64 50]) (by simp [results, Tryz.results13, go_sem, z0, z1, z2, z3, z4]) rfl ?_
        exact DfdRes.no HN2.out (by decide) rfl (below_set5 hB4 (Nat.le_refl _))
      | some m =>
        obtain ⟨nm, fn, ps, vr, bs⟩ := m
        rw [hd] at CD
        have HN2 : Hid (X = some ⟨nm, fn, ps, vr, bs⟩) := Lib.hid (by rw [HN.out, hd])
        clear hd HN
        go_wp2_with fail
        refine CD.mono ?_
        rintro e w4 ⟨⟨v, u, rfl, hr1, hr2⟩, hb4⟩
        have hR4 := hR3.below hb4
        have hB4 := hB3.trans (hb4.mono hB3.size)
        have hl1 := hr1.lt
        have hl2 := hr2.lt
        obtain ⟨va, vc, rfl⟩ := row_shape hr1
        obtain ⟨ua, uc, rfl⟩ := row_shape hr2
        obtain ⟨z0, z1, z2, z3, z4, f0, f1, f2, f3, f4⟩ := hR4.facts
        go_wp2
        clear z0 z1 z2 z3 z4 f0 f1 f2 f3 f4
        have hR5 := ((((hR4.set0 (.string nm)).set1 (.bool fn)).set2 (.slice va ps.length vc)).set3 (.bool vr)).set4 (.slice ua bs.length uc)
        obtain ⟨z0, z1, z2, z3, z4, -, -, -, -, -⟩ := hR5.facts
        refine bodyPost_ret (v := .tuple #[.agg #[.string nm, .bool fn, .slice va ps.length vc, .bool vr, .slice ua bs.length uc], .int .i64 0]) (by simp [results, Tryz.results13, go_sem, z0, z1, z2, z3, z4]) rfl ?_
        refine DfdRes.yes HN2.out rfl ?_ ?_ (below_set5 hB4 (Nat.le_refl _))
        · exact ownsRow_set5 (row_lower0 (by omega) hr1) (fun j h => by have := (hl1 j h).1; omega)
        · exact ownsRow_set5 (row_lower0 (by omega) hr2) (fun j h => by have := (hl2 j h).1; omega)
    · have HN : Hid (X = none) := Lib.hid (by
        rw [HX2.out]
        match L, h1 with
        | [], _ => rfl
        | [_], h => exact absurd rfl h
        | _ :: _ :: _, _ => rfl)
      obtain ⟨q, hq⟩ : ∃ q, L.length = q := ⟨_, rfl⟩
      rw [hq] at h1 ⊢
      have j2 : ((q : Int) != 1) = true := by
        rw [bne_iff_ne]; omega
      obtain ⟨z0, z1, z2, z3, z4, f0, f1, f2, f3, f4⟩ := hR2.facts
      clear hq h1 hi2
      go_wp2
      refine bodyPost_ret (v := .tuple #[.agg #[.string ⟨#[]⟩, .bool false, .slice none 0 0, .bool false, .slice none 0 0], .int .i64 50]) (by simp [results, Tryz.results13, go_sem, z0, z1, z2, z3, z4]) rfl ?_
      exact DfdRes.no HN.out (by decide) rfl (below_set5 hB2 (Nat.le_refl _))
  · have HN : Hid (X = none) := Lib.hid (by rw [← HX.out]; unfold definedS; rw [if_neg he])
    obtain ⟨c, hc⟩ : ∃ c : Int, (scanErr s : Int) = c := ⟨_, rfl⟩
    have hc0 : c ≠ 0 := by rw [← hc]; exact fun h => he (by omega)
    rw [hc] at CS
    have j1 : (c != 0) = true := by simpa using hc0
    clear he hc HX
    go_enter Tryz.func13, Tryz.ntmps13
    go_wp2_with fail
    refine CS.mono ?_
    rintro e w1 ⟨⟨a, cap, rfl, -, -⟩, hb1⟩
    have hR1 := hR0.below hb1
    have hB1 := hb0.trans (hb1.mono hb0.size)
    obtain ⟨z0, z1, z2, z3, z4, f0, f1, f2, f3, f4⟩ := hR1.facts
    go_wp2
    refine bodyPost_ret (v := .tuple #[.agg #[.string ⟨#[]⟩, .bool false, .slice none 0 0, .bool false, .slice none 0 0], .int .i64 c]) (by simp [results, Tryz.results13, go_sem, z0, z1, z2, z3, z4]) rfl ?_
    exact DfdRes.no HN.out hc0 rfl (below_set5 hB1 (Nat.le_refl _))

end Go.Proofs.YtaodjipnffgihaaGreat

namespace Go.Proofs.YtaodjipnffgihaaGreat
open Go.RowKit Go.Shelf

/-- A macro's line, spelt, or none. -/
def textS (m : Mz) : Option ByteArray := if (spellOut (lineS m)).2 = 0 then (match definedS ⟨(spellOut (lineS m)).1.toArray⟩ with
  | some x => if sameM x m then some ⟨(spellOut (lineS m)).1.toArray⟩ else none
  | none => none) else none
def txtV : Option ByteArray → Value
  | some s => .tuple #[.string s, .int .i64 0]
  | none => .tuple #[.string ⟨#[]⟩, .int .i64 50]
theorem txt_none {X : Option ByteArray} (h : X = none) : Ending.returned (.tuple #[.string ⟨#[]⟩, .int .i64 50]) = .returned (txtV X) := by rw [h]; rfl
theorem txt_some {X : Option ByteArray} {s : ByteArray} (h : X = some s) : Ending.returned (.tuple #[.string s, .int .i64 0]) = .returned (txtV X) := by rw [h]; rfl
theorem spellOut_len (l : List UInt8) : (spellOut l).1.length ≤ 65536 := by
  unfold spellOut
  split
  · exact Nat.zero_le _
  · split
    · exact Nat.zero_le _
    · split
      · exact Nat.zero_le _
      · next h => exact Nat.le_of_not_lt h
theorem defineS_fitT {ts : List Tz} {m : Mz} (h : defineS ts = some m) : m.ps.length ≤ ts.length ∧ m.bs.length ≤ ts.length := by
  unfold defineS at h
  cases hh : headS ts with
  | none => rw [hh] at h; cases h
  | some x =>
    obtain ⟨m', l⟩ := x
    obtain ⟨g1, g2, -, -, -⟩ := headS_fit hh
    rw [hh] at h
    simp only at h
    split at h
    · cases h
      exact ⟨g2, by rw [firstNo_len, List.length_map]; exact g1⟩
    · cases h
theorem defineS_ps {ts : List Tz} {m : Mz} (h : defineS ts = some m) : ∀ p ∈ m.bs, p.ps = [] := by
  have hf : ∀ l : List Pz, (∀ p ∈ l, p.ps = []) → ∀ p ∈ firstNo l, p.ps = [] := by
    intro l hl p hp
    cases l with
    | nil => cases hp
    | cons q r =>
      rcases List.mem_cons.1 hp with rfl | h
      · exact hl q List.mem_cons_self
      · exact hl p (List.mem_cons_of_mem _ h)
  unfold defineS at h
  cases hh : headS ts with
  | none => rw [hh] at h; cases h
  | some x =>
    obtain ⟨m', l⟩ := x
    rw [hh] at h
    simp only at h
    split at h
    · cases h
      refine hf _ fun p hp => ?_
      obtain ⟨t, _, rfl⟩ := List.mem_map.1 hp
      rfl
    · cases h
theorem definedS_fit {s : ByteArray} {m : Mz} (h : definedS s = some m) : m.ps.length ≤ 65536 ∧ m.bs.length ≤ 65536 ∧ ∀ p ∈ m.bs, p.ps = [] := by
  unfold definedS at h
  split at h
  · obtain ⟨h1, h2⟩ := tks_fit s
    cases hr : rowsT s with
    | nil => rw [hr] at h; cases h
    | cons r rs =>
      rw [hr] at h
      cases rs with
      | cons _ _ => cases h
      | nil =>
        have h3 : defineS (saysS r) = some m := h
        obtain ⟨h4, h5⟩ := defineS_fitT h3
        have h6 := (saysS_fit r).1
        have h7 : r.ts.length ≤ toksN (rowsS (tksOf s)) := by
          have : rowsS (tksOf s) = [r] := hr
          rw [this]
          exact toksN_mem List.mem_cons_self
        rw [toksN_rows] at h7
        exact ⟨by omega, by omega, defineS_ps h3⟩
  · cases h

set_option maxRecDepth 100000 in
set_option maxHeartbeats 4000000 in
theorem text_any (m : Mz) (pa ba : Option Addr) (pn pc n bc : Nat) (w : World) (hpn : m.ps.length = pn) (hn : m.bs.length = n) (hp2 : pn ≤ 400) (hn2 : n ≤ 1000) (hfit : (lineS m).length ≤ 65536) (hT : StrIn w pa m.ps) (hB : PzIn w ba m.bs) (hV : LibVar w) :
    Calls Tryz.prog 6 #[.agg #[.string m.nm, .bool m.fn, .slice pa pn pc, .bool m.vr, .slice ba n bc]] w fun e w' => e = .returned (txtV (textS m)) ∧ Below w.heap.size w w' := by
  have hb0 := below1 w (.cells #[.string m.nm, .bool m.fn, .slice pa pn pc, .bool m.vr, .slice ba n bc] 25)
  have hR0 := MzBox.new w (.string m.nm) (.bool m.fn) (.slice pa pn pc) (.bool m.vr) (.slice ba n bc)
  have CL := lineOf_any m pa ba pn pc n bc _ hpn hn hp2 hn2 hfit (hT.below hb0) (hB.below hb0)
  obtain ⟨X, hX⟩ : ∃ X, textS m = X := ⟨_, rfl⟩
  have HX := Lib.hid hX
  rw [hX]
  clear hX
  obtain ⟨l, hl⟩ : ∃ l, lineS m = l := ⟨_, rfl⟩
  have HL := Lib.hid hl
  rw [hl] at CL hfit
  clear hl
  obtain ⟨⟨q, c⟩, hq⟩ : ∃ q, spellOut l = q := ⟨_, rfl⟩
  have hql := spellOut_len l
  rw [hq] at hql
  have HX2 : Hid (X = if c = 0 then (match definedS ⟨q.toArray⟩ with
    | some x => if sameM x m then some ⟨q.toArray⟩ else none
    | none => none) else none) := Lib.hid (by rw [← HX.out]; unfold textS; rw [HL.out, hq])
  have CS : ∀ W, Calls Tryz.prog 12 #[.string ⟨l.toArray⟩] W fun e w' => e = .returned (.tuple #[.string ⟨q.toArray⟩, .int .i64 c]) ∧ Below W.heap.size W w' := fun W => by
    have h := spell_any ⟨l.toArray⟩ W (by show l.length ≤ maxLen; unfold maxLen; omega)
    have e : spellOut (⟨l.toArray⟩ : ByteArray).data.toList = (q, c) := hq
    rw [e] at h
    exact h
  have hqz : (⟨q.toArray⟩ : ByteArray).size ≤ maxLen := by
    have : q.length ≤ 65536 := hql
    show q.length ≤ maxLen
    unfold maxLen; omega
  obtain ⟨S, hS⟩ : ∃ S : ByteArray, (⟨q.toArray⟩ : ByteArray) = S := ⟨_, rfl⟩
  rw [hS] at hqz HX2
  simp only [hS] at CS
  have HT := Lib.hid hT
  have HB := Lib.hid hB
  have HPN := Lib.hid hpn
  have HN := Lib.hid hn
  obtain ⟨y0, y1, y2, y3, y4, -, -, -, -, -⟩ := hR0.facts
  clear hq hql hS hT hB HX HL hpn hn
  by_cases hc : c = 0
  · subst hc
    rw [if_pos rfl] at HX2
    have CD := fun W => defined_any S W hqz
    cases hd : definedS S with
    | none =>
      have HN2 : Hid (X = none) := Lib.hid (by rw [HX2.out, hd])
      rw [hd] at CD
      clear hd HX2
      go_enter Tryz.func6, Tryz.ntmps6
      go_wp2_with fail
      refine CL.mono ?_
      rintro e w1 ⟨rfl, hb1⟩
      have hR1 := hR0.below hb1
      have hB1 := hb0.trans (hb1.mono hb0.size)
      clear CL y0 y1 y2 y3 y4 hR0
      go_wp2_with fail
      refine (CS _).mono ?_
      rintro e w2 ⟨rfl, hb2⟩
      have hR2 := hR1.below hb2
      have hB2 := hB1.trans (hb2.mono hB1.size)
      clear CS hR1
      go_wp2_with fail
      refine (CD _ (hV.low hB2)).mono ?_
      rintro e w3 ⟨⟨d, hd0, rfl⟩, hb3⟩
      have hB3 := hB2.trans (hb3.mono hB2.size)
      have j1 : (d != 0) = true := by simpa using hd0
      clear CD hR2
      go_wp2
      go_ret2
      exact ⟨txt_none HN2.out, hB3.alloc hB3.size (.cells #[.string ⟨#[]⟩, .bool false, .slice none 0 0, .bool false, .slice none 0 0] 25)⟩
    | some x =>
      obtain ⟨f1, f2, f3⟩ := definedS_fit hd
      have HN2 : Hid (X = if sameM x m then some S else none) := Lib.hid (by rw [HX2.out, hd])
      rw [hd] at CD
      have HF3 := Lib.hid f3
      clear hd HX2 f3
      go_enter Tryz.func6, Tryz.ntmps6
      go_wp2_with fail
      refine CL.mono ?_
      rintro e w1 ⟨rfl, hb1⟩
      have hR1 := hR0.below hb1
      have hB1 := hb0.trans (hb1.mono hb0.size)
      clear CL y0 y1 y2 y3 y4 hR0
      go_wp2_with fail
      refine (CS _).mono ?_
      rintro e w2 ⟨rfl, hb2⟩
      have hR2 := hR1.below hb2
      have hB2 := hB1.trans (hb2.mono hB1.size)
      clear CS hR1
      go_wp2_with fail
      refine (CD _ (hV.low hB2)).mono ?_
      rintro e w3 ⟨⟨v, u, rfl, hr1, hr2⟩, hb3⟩
      obtain ⟨va, vc, rfl⟩ := row_shape hr1
      obtain ⟨ua, uc, rfl⟩ := row_shape hr2
      have hR3 := hR2.below hb3
      have hB3 := hB2.trans (hb3.mono hB2.size)
      have hb4 := below1 w3 (.cells #[.string x.nm, .bool x.fn, .slice va x.ps.length vc, .bool x.vr, .slice ua x.bs.length uc] 25)
      have hR4 := hR3.below hb4
      have hB4 := hB3.trans (hb4.mono hB3.size)
      have hY4 := MzBox.new w3 (.string x.nm) (.bool x.fn) (.slice va x.ps.length vc) (.bool x.vr) (.slice ua x.bs.length uc)
      have CM := same_mz x m va pa ua ba vc pc uc bc _ (by omega) (by rw [HPN.out]; omega) (by omega) (by rw [HN.out]; omega) ((strIn_row rfl hr1).below hb4) (HT.out.below hB4) ((pzIn_row rfl HF3.out hr2).below hb4) (HB.out.below hB4)
      rw [HPN.out, HN.out] at CM
      obtain ⟨y0, y1, y2, y3, y4, -, -, -, -, -⟩ := hR4.facts
      obtain ⟨z0, z1, z2, z3, z4, -, -, -, -, -⟩ := hY4.facts
      clear CD hR2 hr1 hr2 hb4 HT HB HPN HN HF3
      go_wp2_with fail
      refine CM.mono ?_
      rintro e w5 ⟨rfl, hb5⟩
      have hB5 := hB4.trans (hb5.mono hB4.size)
      clear CM y0 y1 y2 y3 y4 z0 z1 z2 z3 z4
      cases hs : sameM x m with
      | false =>
        have HN3 : Hid (X = none) := Lib.hid (by rw [HN2.out, hs]; rfl)
        clear HN2 hs
        go_wp2
        go_ret2
        exact ⟨txt_none HN3.out, hB5⟩
      | true =>
        have HN3 : Hid (X = some S) := Lib.hid (by rw [HN2.out, hs]; rfl)
        clear HN2 hs
        go_wp2
        go_ret2
        exact ⟨txt_some HN3.out, hB5⟩
  · have HN2 : Hid (X = none) := Lib.hid (by rw [HX2.out, if_neg hc])
    have j1 : (c != 0) = true := by simpa using hc
    clear HX2 hc
    go_enter Tryz.func6, Tryz.ntmps6
    go_wp2_with fail
    refine CL.mono ?_
    rintro e w1 ⟨rfl, hb1⟩
    have hB1 := hb0.trans (hb1.mono hb0.size)
    clear CL y0 y1 y2 y3 y4
    go_wp2_with fail
    refine (CS _).mono ?_
    rintro e w2 ⟨rfl, hb2⟩
    have hB2 := hB1.trans (hb2.mono hB1.size)
    clear CS
    go_wp2
    go_ret2
    exact ⟨txt_none HN2.out, hB2⟩

end Go.Proofs.YtaodjipnffgihaaGreat

namespace Go.Proofs.YtaodjipnffgihaaGreat
open Go.RowKit Go.Shelf

def capN (n : Nat) : Nat := min n 3000
def parN : List ByteArray → Nat
  | [] => 0
  | p :: r => 1 + capN p.size + parN r
def bodN : List Pz → Nat
  | [] => 0
  | p :: r => 1 + capN p.tx.size + p.ps.length + bodN r
theorem parN_snoc (l : List ByteArray) (p : ByteArray) : parN (l ++ [p]) = parN l + 1 + capN p.size := by
  induction l with
  | nil => simp [parN]
  | cons q r ih => rw [List.cons_append, parN, parN, ih]; omega
theorem bodN_snoc (l : List Pz) (p : Pz) : bodN (l ++ [p]) = bodN l + 1 + capN p.tx.size + p.ps.length := by
  induction l with
  | nil => simp [bodN]
  | cons q r ih => rw [List.cons_append, bodN, bodN, ih]; omega
theorem parN_take {l : List ByteArray} {k : Nat} {p : ByteArray} (h : l[k]? = some p) : parN (l.take (k + 1)) = parN (l.take k) + 1 + capN p.size := by
  rw [List.take_add_one, h]; exact parN_snoc _ _
theorem bodN_take {l : List Pz} {k : Nat} {p : Pz} (h : l[k]? = some p) : bodN (l.take (k + 1)) = bodN (l.take k) + 1 + capN p.tx.size + p.ps.length := by
  rw [List.take_add_one, h]; exact bodN_snoc _ _
theorem capN_le (n : Nat) : capN n ≤ 3000 := Nat.min_le_right _ _
theorem parN_le (l : List ByteArray) : ∀ k, parN (l.take k) ≤ 3001 * k
  | 0 => by simp [parN]
  | k + 1 => by
    cases h : l[k]? with
    | none =>
      rw [List.take_add_one, h]
      have := parN_le l k
      simp only [Option.toList, List.append_nil]; omega
    | some p =>
      rw [parN_take h]
      have := parN_le l k
      have := capN_le p.size
      omega
def greatN (m : Mz) : Nat := m.nm.size + parN (m.ps.take 300) + bodN (m.bs.take 300)
def greatM (m : Mz) : Bool := decide (2000 < greatN m) || decide (200 < m.ps.length) || decide (200 < m.bs.length)
theorem iv {a b : Int} (h : a = b) : Value.int .i64 a = .int .i64 b := by rw [h]
theorem rbG {a b : Bool} (h : a = b) : Ending.returned (.bool b) = .returned (.bool a) := by rw [h]
theorem gt3 {P B pn n : Nat} {b : Bool} (h : b = true ↔ (2000 < P + B ∨ 200 < pn ∨ 200 < n)) : b = (decide (2000 < P + B) || decide (200 < pn) || decide (200 < n)) := by
  rw [Bool.eq_iff_iff, h]; simp [or_assoc]
theorem great_no {m : Mz} (h : greatM m = false) : greatN m ≤ 2000 ∧ m.ps.length ≤ 200 ∧ m.bs.length ≤ 200 := by
  unfold greatM at h
  simp only [Bool.or_eq_false_iff, decide_eq_false_iff_not, Nat.not_lt] at h
  exact ⟨h.1.1, h.1.2, h.2⟩

theorem pars_len : ∀ (l : List ByteArray), parN l ≤ 2000 → (catS l).length + l.length ≤ parN l
  | [], _ => by simp [catS, parN]
  | p :: r, h => by
    rw [parN] at h ⊢
    have hp : capN p.size = p.size := by unfold capN at h ⊢; omega
    have := pars_len r (by omega)
    have e : (catS (p :: r)).length = p.size + (catS r).length := by
      simp only [catS, List.flatMap_cons, List.length_append]
      rw [size_list]
    rw [e, List.length_cons]
    omega
theorem bods_len : ∀ (l : List Pz) (i : Nat), bodN l ≤ 2000 → (bodyT i l).length ≤ bodN l
  | [], _, _ => by simp [bodyT, bodN]
  | p :: r, i, h => by
    rw [bodN] at h ⊢
    have hp : capN p.tx.size = p.tx.size := by unfold capN at h ⊢; omega
    have := bods_len r (i + 1) (by omega)
    rw [bodyT]
    simp only [List.length_append]
    rw [size_list]
    have h2 : (spB i p).length ≤ 1 := by unfold spB; split <;> simp
    omega
theorem bodN_le (l : List Pz) (hl : ∀ p ∈ l, p.ps.length ≤ 140737488355328) : ∀ k, bodN (l.take k) ≤ 140737488360000 * k
  | 0 => by simp [bodN]
  | k + 1 => by
    cases h : l[k]? with
    | none =>
      rw [List.take_add_one, h]
      have := bodN_le l hl k
      simp only [Option.toList, List.append_nil]; omega
    | some p =>
      rw [bodN_take h]
      have := bodN_le l hl k
      have := capN_le p.tx.size
      have := hl p (List.mem_of_getElem? h)
      omega

set_option maxRecDepth 100000 in
set_option maxHeartbeats 8000000 in
theorem great_any (m : Mz) (pa ba : Option Addr) (pn pc n bc : Nat) (w : World) (hpn : m.ps.length = pn) (hn : m.bs.length = n) (hnm : m.nm.size ≤ 281474976710656) (hp2 : pn ≤ 281474976710656) (hn2 : n ≤ 281474976710656) (hT : StrIn w pa m.ps) (hB : PzIn w ba m.bs) (hl : ∀ p ∈ m.bs, p.ps.length ≤ 140737488355328) :
    Calls Tryz.prog 4 #[.agg #[.string m.nm, .bool m.fn, .slice pa pn pc, .bool m.vr, .slice ba n bc]] w fun e w' => e = .returned (.bool (greatM m)) ∧ Below w.heap.size w w' := by
  have hb0 := below1 w (.cells #[.string m.nm, .bool m.fn, .slice pa pn pc, .bool m.vr, .slice ba n bc] 25)
  have hR0 := MzBox.new w (.string m.nm) (.bool m.fn) (.slice pa pn pc) (.bool m.vr) (.slice ba n bc)
  have hT0 := hT.below hb0
  have hB0 := hB.below hb0
  obtain ⟨y0, -, -, -, -, -, -, -, -, -⟩ := hR0.facts
  obtain ⟨w1, hw1⟩ : ∃ w1, w.alloc (.cells #[.string m.nm, .bool m.fn, .slice pa pn pc, .bool m.vr, .slice ba n bc] 25) = w1 := ⟨_, rfl⟩
  rw [hw1] at hb0 hR0 hT0 hB0
  have HT := Lib.hid hT0
  have HB := Lib.hid hB0
  have HPN := Lib.hid hpn
  have HN := Lib.hid hn
  have HL := Lib.hid hl
  obtain ⟨z0, z1, z2, z3, z4, -, -, -, -, -⟩ := hR0.facts
  clear hT hB hT0 hB0 hpn hn hl
  go_enter Tryz.func4, Tryz.ntmps4
  go_wp2
  skip
  try clear y0
  go_loopw [3, 4] (fun c i wx => ∃ k : Nat, k ≤ pn ∧ k ≤ 300 ∧ i = .int .i64 k ∧ c = .int .i64 (m.nm.size + parN (m.ps.take k) : Nat) ∧ w1 = wx) (fun _ i _ => pn - (intOf i).toNat)
  case atStart => exact ⟨0, Nat.zero_le _, Nat.zero_le _, rfl, rfl, rfl⟩
  case round =>
    obtain ⟨k, hk, hk3, rfl, rfl, hwx⟩ := hrel
    subst hwx
    by_cases hlt : k < pn
    · by_cases h3 : k < 300
      · obtain ⟨p, hp⟩ : ∃ p, m.ps[k]? = some p := ⟨_, List.getElem?_eq_getElem (by rw [HPN.out]; exact hlt)⟩
        obtain ⟨b, o, rfl, -, hst⟩ := HT.out (by rw [HPN.out]; omega)
        have c0 := hst k p hp
        have hN := parN_take hp
        have hle := parN_le m.ps k
        obtain ⟨N, hNk⟩ : ∃ N, m.nm.size + parN (m.ps.take k) = N := ⟨_, rfl⟩
        have hN2 : N ≤ 281474977710656 := by omega
        rw [hNk]
        have j0 : (0 : Int) ≤ (k : Int) := by omega
        have j1 : (k : Int) < (pn : Int) := by omega
        have j2 : ¬ (pn : Int) ≤ (k : Int) := by omega
        have j3 : (k : Int) < 300 := by omega
        clear hst hp
        go_wp2
        refine ⟨⟨k + 1, by omega, by omega, rfl, ?_, trivial⟩, by simp [intOf]; omega⟩
        rw [hN]
        unfold capN
        exact iv (by push_cast; omega)
      · have hex : m.ps.take k = m.ps.take 300 := by rw [show k = 300 by omega]
        have j1 : (k : Int) < (pn : Int) := by omega
        have j3 : ¬ (k : Int) < 300 := by omega
        rw [hex]
        clear hex
        obtain ⟨P, hP⟩ : ∃ P, m.nm.size + parN (m.ps.take 300) = P := ⟨_, rfl⟩
        have HP := Lib.hid hP
        have hP2 : P ≤ 281474977710656 := by
          have := parN_le m.ps 300; omega
        rw [hP]
        have G : Hid (greatM m = (decide (2000 < P + bodN (m.bs.take 300)) || decide (200 < pn) || decide (200 < n))) := Lib.hid (by
          unfold greatM greatN; rw [HP.out, HPN.out, HN.out])
        clear hP hlt h3
        go_wp2
        go_loopw [3, 5] (fun c i wx => ∃ k2 : Nat, k2 ≤ n ∧ k2 ≤ 300 ∧ i = .int .i64 k2 ∧ c = .int .i64 (P + bodN (m.bs.take k2) : Nat) ∧ ∃ q, wx = w1.drewN q) (fun _ i _ => n - (intOf i).toNat)
        case atStart => exact ⟨0, Nat.zero_le _, Nat.zero_le _, rfl, rfl, 0, rfl⟩
        case round =>
          obtain ⟨k2, hk2, hk23, rfl, rfl, q, rfl⟩ := hrel
          by_cases hlt2 : k2 < n
          · by_cases h32 : k2 < 300
            · obtain ⟨p, hp⟩ : ∃ p, m.bs[k2]? = some p := ⟨_, List.getElem?_eq_getElem (by rw [HN.out]; exact hlt2)⟩
              obtain ⟨b, o, rfl, -, hst⟩ := HB.out (by rw [HN.out]; omega)
              obtain ⟨-, c1, -, a3, x3, c3, -, -⟩ := hst k2 p hp
              have hN := bodN_take hp
              have hle := bodN_le m.bs HL.out k2
              have hpl := HL.out p (List.mem_of_getElem? hp)
              obtain ⟨N, hNk⟩ : ∃ N, P + bodN (m.bs.take k2) = N := ⟨_, rfl⟩
              have hN2 : N ≤ 42221246506598000000 / 100 := by omega
              rw [hNk]
              have j0 : (0 : Int) ≤ (k2 : Int) := by omega
              have j4 : (k2 : Int) < (n : Int) := by omega
              have j2 : ¬ (n : Int) ≤ (k2 : Int) := by omega
              have j5 : (k2 : Int) < 300 := by omega
              clear hst hp
              go_wp2
              go_big_quiet (fail)
              go_wp2
              refine ⟨⟨k2 + 1, by omega, by omega, rfl, ?_, _, rfl⟩, by simp [intOf]; omega⟩
              rw [hN]
              unfold capN
              exact iv (by push_cast; omega)
            · have hex2 : m.bs.take k2 = m.bs.take 300 := by rw [show k2 = 300 by omega]
              have j4 : (k2 : Int) < (n : Int) := by omega
              have j5 : ¬ (k2 : Int) < 300 := by omega
              rw [hex2]
              clear hex2
              go_wp2
              all_goals (
                go_ret
                exact ⟨rbG (G.out.trans (gt3 (by simp; omega)).symm), below_drewN hb0 q⟩)
          · have hex2 : m.bs.take k2 = m.bs.take 300 := by
              rw [List.take_of_length_le (by rw [HN.out]; omega), List.take_of_length_le (by rw [HN.out]; omega)]
            have j4 : ¬ (k2 : Int) < (n : Int) := by omega
            rw [hex2]
            clear hex2
            go_wp2
            all_goals (
              go_ret
              exact ⟨rbG (G.out.trans (gt3 (by simp; omega)).symm), below_drewN hb0 q⟩)
    · have hex : m.ps.take k = m.ps.take 300 := by
        rw [List.take_of_length_le (by rw [HPN.out]; omega), List.take_of_length_le (by rw [HPN.out]; omega)]
      have j1 : ¬ (k : Int) < (pn : Int) := by omega
      rw [hex]
      clear hex
      obtain ⟨P, hP⟩ : ∃ P, m.nm.size + parN (m.ps.take 300) = P := ⟨_, rfl⟩
      have HP := Lib.hid hP
      have hP2 : P ≤ 281474977710656 := by
        have := parN_le m.ps 300; omega
      rw [hP]
      have G : Hid (greatM m = (decide (2000 < P + bodN (m.bs.take 300)) || decide (200 < pn) || decide (200 < n))) := Lib.hid (by
        unfold greatM greatN; rw [HP.out, HPN.out, HN.out])
      clear hP hlt
      go_wp2
      go_loopw [3, 5] (fun c i wx => ∃ k2 : Nat, k2 ≤ n ∧ k2 ≤ 300 ∧ i = .int .i64 k2 ∧ c = .int .i64 (P + bodN (m.bs.take k2) : Nat) ∧ ∃ q, wx = w1.drewN q) (fun _ i _ => n - (intOf i).toNat)
      case atStart => exact ⟨0, Nat.zero_le _, Nat.zero_le _, rfl, rfl, 0, rfl⟩
      case round =>
        obtain ⟨k2, hk2, hk23, rfl, rfl, q, rfl⟩ := hrel
        by_cases hlt2 : k2 < n
        · by_cases h32 : k2 < 300
          · obtain ⟨p, hp⟩ : ∃ p, m.bs[k2]? = some p := ⟨_, List.getElem?_eq_getElem (by rw [HN.out]; exact hlt2)⟩
            obtain ⟨b, o, rfl, -, hst⟩ := HB.out (by rw [HN.out]; omega)
            obtain ⟨-, c1, -, a3, x3, c3, -, -⟩ := hst k2 p hp
            have hN := bodN_take hp
            have hle := bodN_le m.bs HL.out k2
            have hpl := HL.out p (List.mem_of_getElem? hp)
            obtain ⟨N, hNk⟩ : ∃ N, P + bodN (m.bs.take k2) = N := ⟨_, rfl⟩
            have hN2 : N ≤ 42221246506598000000 / 100 := by omega
            rw [hNk]
            have j0 : (0 : Int) ≤ (k2 : Int) := by omega
            have j4 : (k2 : Int) < (n : Int) := by omega
            have j2 : ¬ (n : Int) ≤ (k2 : Int) := by omega
            have j5 : (k2 : Int) < 300 := by omega
            clear hst hp
            go_wp2
            go_big_quiet (fail)
            go_wp2
            refine ⟨⟨k2 + 1, by omega, by omega, rfl, ?_, _, rfl⟩, by simp [intOf]; omega⟩
            rw [hN]
            unfold capN
            exact iv (by push_cast; omega)
          · have hex2 : m.bs.take k2 = m.bs.take 300 := by rw [show k2 = 300 by omega]
            have j4 : (k2 : Int) < (n : Int) := by omega
            have j5 : ¬ (k2 : Int) < 300 := by omega
            rw [hex2]
            clear hex2
            go_wp2
            all_goals (
              go_ret
              exact ⟨rbG (G.out.trans (gt3 (by simp; omega)).symm), below_drewN hb0 q⟩)
        · have hex2 : m.bs.take k2 = m.bs.take 300 := by
            rw [List.take_of_length_le (by rw [HN.out]; omega), List.take_of_length_le (by rw [HN.out]; omega)]
          have j4 : ¬ (k2 : Int) < (n : Int) := by omega
          rw [hex2]
          clear hex2
          go_wp2
          all_goals (
            go_ret
            exact ⟨rbG (G.out.trans (gt3 (by simp; omega)).symm), below_drewN hb0 q⟩)

theorem comma_len (l : List ByteArray) : (catS (commaS l)).length ≤ (catS l).length + l.length := by
  cases l with
  | nil => simp [commaS, catS]
  | cons p r =>
    have h : ∀ r : List ByteArray, (catS (r.flatMap (fun q => [comA, q]))).length = (catS r).length + r.length := by
      intro r
      induction r with
      | nil => rfl
      | cons q r ih =>
        have e : (q :: r).flatMap (fun q => [comA, q]) = [comA, q] ++ r.flatMap (fun q => [comA, q]) := by simp
        rw [e, catS_append, List.length_append, ih]
        have e2 : catS (q :: r) = q.data.toList ++ catS r := by simp [catS]
        have e3 : catS [comA, q] = comA.data.toList ++ q.data.toList := by simp [catS]
        have e4 : comA.data.toList.length = 1 := rfl
        rw [e2, e3, List.length_append, List.length_append, List.length_cons, e4]
        omega
    have e : commaS (p :: r) = [p] ++ r.flatMap (fun q => [comA, q]) := by simp [commaS]
    have e2 : catS (p :: r) = catS [p] ++ catS r := by rw [← catS_append]; rfl
    rw [e, catS_append, e2, List.length_append, List.length_append, h, List.length_cons]
    omega
theorem pars_cat (m : Mz) : (catS (parsS m)).length ≤ (catS m.ps).length + m.ps.length + 4 := by
  have h := comma_len m.ps
  have e1 : (catS [dotA]).length = 3 := rfl
  have e2 : (catS [comA]).length = 1 := rfl
  unfold parsS
  split
  · split
    · omega
    · rw [catS_append, catS_append, List.length_append, List.length_append, e1, e2]; omega
  · omega
theorem great_line {m : Mz} (h : greatM m = false) : (lineS m).length ≤ 65536 ∧ m.ps.length ≤ 400 ∧ m.bs.length ≤ 1000 := by
  obtain ⟨h1, h2, h3⟩ := great_no h
  unfold greatN at h1
  rw [List.take_of_length_le (by omega), List.take_of_length_le (by omega)] at h1
  have h4 := pars_len m.ps (by omega)
  have h5 := bods_len m.bs 0 (by omega)
  have h6 := pars_cat m
  have e1 : (catS [defT, m.nm]).length = 8 + m.nm.size := by
    have : catS [defT, m.nm] = defT.data.toList ++ m.nm.data.toList := by simp [catS]
    rw [this, List.length_append, size_list]; rfl
  have e2 : (catS [(⟨#[40]⟩ : ByteArray)]).length = 1 := rfl
  have e3 : (catS [(⟨#[41]⟩ : ByteArray)]).length = 1 := rfl
  have h7 : (headT m).length ≤ 8 + m.nm.size + (1 + (catS (parsS m)).length + 1) := by
    unfold headT
    split
    · simp only [List.length_append, e1, e2, e3]; omega
    · simp only [List.length_append, e1, List.length_nil]; omega
  refine ⟨?_, by omega, by omega⟩
  unfold lineS
  simp only [List.length_append, List.length_singleton]
  omega

end Go.Proofs.YtaodjipnffgihaaGreat

namespace Go.Proofs.YtaodjipnffgihaaGreat
open Go.RowKit Go.Shelf

theorem catY (a b : ByteArray) : (a ++ b).data.toList = a.data.toList ++ b.data.toList := by rw [ByteArray.data_append, Array.toList_append]
theorem txtY_eq {t : ByteArray} {l : List UInt8} (h : t.data.toList = l) : Ending.returned (.string t) = .returned (.string ⟨l.toArray⟩) := by
  subst h
  cases t
  rfl
theorem comma_take {ps : List ByteArray} {k : Nat} {p : ByteArray} (h : ps[k]? = some p) : catS (commaS (ps.take (k + 1))) = catS (commaS (ps.take k)) ++ (if k = 0 then [] else [44]) ++ p.data.toList := by
  rw [List.take_add_one, h]
  cases k with
  | zero =>
    rw [List.take_zero, if_pos rfl]
    show catS (commaS [p]) = _
    simp [commaS, catS]
  | succ k =>
    have hne : ps.take (k + 1) ≠ [] := by
      have := (List.getElem?_eq_some_iff.1 h).1
      intro e
      have := congrArg List.length e
      rw [List.length_take, List.length_nil] at this
      omega
    rw [if_neg (by omega)]
    show catS (commaS (ps.take (k + 1) ++ [p])) = _
    rw [commaS_snoc _ _ hne, catS_append, catS_append, catS_one, catS_one]
    rfl

/-- The line's head, as the document puts it together. -/
def headY (m : Mz) : List UInt8 := defT.data.toList ++ m.nm.data.toList
theorem line_no {m : Mz} (h : m.fn = false) : headT m = headY m := by
  unfold headT headY
  rw [h]
  simp [catS]
theorem line_yes {m : Mz} (h : m.fn = true) : headT m = headY m ++ [40] ++ catS (parsS m) ++ [41] := by
  unfold headT headY
  rw [h]
  simp [catS]

set_option maxRecDepth 100000 in
set_option maxHeartbeats 16000000 in
theorem rline_any (m : Mz) (pa ba : Option Addr) (pn pc n bc : Nat) (w : World) (hpn : m.ps.length = pn) (hn : m.bs.length = n) (hp2 : pn ≤ 400) (hn2 : n ≤ 1000) (hz1 : m.nm.size ≤ 65536) (hz2 : (catS m.ps).length ≤ 65536) (hz3 : (bodyT 0 m.bs).length ≤ 65536) (hT : StrIn w pa m.ps) (hB : PzIn w ba m.bs) :
    Calls Tryz.prog 15 #[.agg #[.string m.nm, .bool m.fn, .slice pa pn pc, .bool m.vr, .slice ba n bc]] w fun e w' => e = .returned (.string ⟨(lineS m).toArray⟩) ∧ Below w.heap.size w w' := by
  obtain ⟨f, hf⟩ : ∃ f, m.fn = f := ⟨_, rfl⟩
  obtain ⟨v, hv⟩ : ∃ v, m.vr = v := ⟨_, rfl⟩
  have HF := Lib.hid hf
  have HV := Lib.hid hv
  have hH : (headT m).length ≤ 200000 := by
    have h6 := pars_cat m
    rw [hpn] at h6
    cases hff : m.fn with
    | false =>
      rw [line_no hff]
      unfold headY
      rw [List.length_append, size_list, size_list]
      have : defT.size = 8 := rfl
      omega
    | true =>
      rw [line_yes hff]
      unfold headY
      simp only [List.length_append, size_list, List.length_singleton]
      have : defT.size = 8 := rfl
      omega
  rw [hf, hv]
  clear hf hv
  have hb0 := below1 w (.cells #[.string m.nm, .bool f, .slice pa pn pc, .bool v, .slice ba n bc] 25)
  have hR0 := MzBox.new w (.string m.nm) (.bool f) (.slice pa pn pc) (.bool v) (.slice ba n bc)
  have hT0 := hT.below hb0
  have hB0 := hB.below hb0
  obtain ⟨y0, y1, -, -, -, -, -, -, -, -⟩ := hR0.facts
  obtain ⟨w1, hw1⟩ : ∃ w1, w.alloc (.cells #[.string m.nm, .bool f, .slice pa pn pc, .bool v, .slice ba n bc] 25) = w1 := ⟨_, rfl⟩
  rw [hw1] at hb0 hR0 hT0 hB0
  have HT := Lib.hid hT0
  have HB := Lib.hid hB0
  have HPN := Lib.hid hpn
  have HN := Lib.hid hn
  obtain ⟨z0, z1, z2, z3, z4, -, -, -, -, -⟩ := hR0.facts
  clear hT hB hT0 hB0 hpn hn
  cases f with
  | false =>
    go_enter Tryz.func15, Tryz.ntmps15
    go_wp2
    try clear y0 y1
    go_loopw [3, 5] (fun sv i wx => ∃ (k : Nat) (t : ByteArray), k ≤ n ∧ i = .int .i64 k ∧ sv = .string t ∧ Hid (t.data.toList = headT m ++ bodyT 0 (m.bs.take k)) ∧ w1 = wx) (fun _ i _ => n - (intOf i).toNat)
    case atStart => exact ⟨0, _, Nat.zero_le _, rfl, rfl, Lib.hid (by rw [List.take_zero, bodyT, List.append_nil]; rw [catY, line_no HF.out]; rfl), rfl⟩
    case round =>
      obtain ⟨k, t, hk, rfl, rfl, HT2, hwx⟩ := hrel
      subst hwx
      have ht : t.size ≤ 300000 := by
        have h1 := congrArg List.length HT2.out
        rw [List.length_append, size_list] at h1
        have h2 := bodyT_le m.bs k 0
        omega
      by_cases hlt : k < n
      · obtain ⟨p, hp⟩ : ∃ p, m.bs[k]? = some p := ⟨_, List.getElem?_eq_getElem (by rw [HN.out]; exact hlt)⟩
        obtain ⟨b, o, rfl, -, hst⟩ := HB.out (by rw [HN.out]; omega)
        obtain ⟨-, c1, c2, -, -, -, -, -⟩ := hst k p hp
        have HB2 := Lib.hid (bodyT_take hp)
        have hpz : p.tx.size ≤ 65536 := by
          have h1 := bodyT_take hp
          have h2 := bodyT_le m.bs (k + 1) 0
          rw [h1, List.length_append, List.length_append, size_list] at h2
          omega
        have j0 : (0 : Int) ≤ (k : Int) := by omega
        have j1 : (k : Int) < (n : Int) := by omega
        have j2 : ¬ (n : Int) ≤ (k : Int) := by omega
        clear hst hp
        by_cases hk0 : k = 0
        · subst hk0
          simp only [Nat.zero_mul, Nat.add_zero] at c1 c2
          go_wp2
          refine ⟨⟨0 + 1, _, by omega, by first | rfl | go_num, rfl, Lib.hid ?_, trivial⟩, by simp [intOf]; omega⟩
          rw [catY, catY, HT2.out, HB2.out]
          unfold spB
          rw [if_pos (.inl rfl)]
          simp
        · have j3 : ((k : Int) == 0) = false := by simp [hk0]
          cases hsp : p.sp with
          | true =>
            rw [hsp] at c2
            go_wp2
            refine ⟨⟨k + 1, _, by omega, rfl, rfl, Lib.hid ?_, trivial⟩, by simp [intOf]; omega⟩
            rw [catY, catY, HT2.out, HB2.out]
            unfold spB
            rw [if_pos (.inr hsp)]
            simp
          | false =>
            rw [hsp] at c2
            go_wp2
            refine ⟨⟨k + 1, _, by omega, rfl, rfl, Lib.hid ?_, trivial⟩, by simp [intOf]; omega⟩
            rw [catY, HT2.out, HB2.out]
            unfold spB
            rw [if_neg (by rw [hsp]; simp [hk0])]
            simp
      · have j1 : ¬ (k : Int) < (n : Int) := by omega
        have hall : m.bs.take k = m.bs := List.take_of_length_le (by rw [HN.out]; omega)
        go_wp2
        go_ret
        refine ⟨txtY_eq ?_, hb0⟩
        rw [catY, HT2.out, hall]
        rfl
  | true =>
    go_enter Tryz.func15, Tryz.ntmps15
    go_wp2
    try clear y0 y1
    go_loopw [3, 4] (fun sv i wx => ∃ (k : Nat) (t : ByteArray), k ≤ pn ∧ i = .int .i64 k ∧ sv = .string t ∧ Hid (t.data.toList = headY m ++ [40] ++ catS (commaS (m.ps.take k))) ∧ w1 = wx) (fun _ i _ => pn - (intOf i).toNat)
    case atStart => exact ⟨0, _, Nat.zero_le _, rfl, rfl, Lib.hid (by rw [catY, catY]; unfold headY; simp [commaS, catS, defT]), rfl⟩
    case round =>
      obtain ⟨k1, t1, hk1, rfl, rfl, HT1, hwx⟩ := hrel
      subst hwx
      have ht1 : t1.size ≤ 200000 := by
        have h1 := congrArg List.length HT1.out
        unfold headY at h1
        simp only [List.length_append, size_list, List.length_singleton] at h1
        have h2 := comma_len (m.ps.take k1)
        have h3 := catS_le m.ps k1
        rw [List.length_take] at h2
        have : defT.size = 8 := rfl
        omega
      by_cases hlt1 : k1 < pn
      · obtain ⟨p, hp⟩ : ∃ p, m.ps[k1]? = some p := ⟨_, List.getElem?_eq_getElem (by rw [HPN.out]; exact hlt1)⟩
        obtain ⟨b, o, rfl, -, hst⟩ := HT.out (by rw [HPN.out]; omega)
        have c0 := hst k1 p hp
        have HC := Lib.hid (comma_take hp)
        have hpz : p.size ≤ 65536 := by
          have h1 := catS_take hp
          have h2 := catS_le m.ps (k1 + 1)
          rw [h1, List.length_append, size_list] at h2
          omega
        have j0 : (0 : Int) ≤ (k1 : Int) := by omega
        have j1 : (k1 : Int) < (pn : Int) := by omega
        have j2 : ¬ (pn : Int) ≤ (k1 : Int) := by omega
        clear hst hp
        by_cases hk0 : k1 = 0
        · subst hk0
          simp only [Nat.add_zero] at c0
          go_wp2
          refine ⟨⟨0 + 1, _, by omega, by first | rfl | go_num, rfl, Lib.hid ?_, trivial⟩, by simp [intOf]; omega⟩
          rw [catY, HT1.out, HC.out, if_pos rfl]
          simp
        · have j3 : (0 : Int) < (k1 : Int) := by omega
          go_wp2
          refine ⟨⟨k1 + 1, _, by omega, rfl, rfl, Lib.hid ?_, trivial⟩, by simp [intOf]; omega⟩
          rw [catY, catY, HT1.out, HC.out, if_neg hk0]
          simp
      · have j1 : ¬ (k1 : Int) < (pn : Int) := by omega
        have hall : m.ps.take k1 = m.ps := List.take_of_length_le (by rw [HPN.out]; omega)
        have HA := Lib.hid hall
        clear hall hlt1
        cases v with
        | false =>
          go_wp2
          go_loopw [3, 5] (fun sv i wx => ∃ (k : Nat) (t : ByteArray), k ≤ n ∧ i = .int .i64 k ∧ sv = .string t ∧ Hid (t.data.toList = headT m ++ bodyT 0 (m.bs.take k)) ∧ w1 = wx) (fun _ i _ => n - (intOf i).toNat)
          case atStart => exact ⟨0, _, Nat.zero_le _, rfl, rfl, Lib.hid (by rw [List.take_zero, bodyT, List.append_nil]; rw [catY, HT1.out, HA.out, line_yes HF.out]; unfold parsS; rw [HV.out]; simp), rfl⟩
          case round =>
            obtain ⟨k, t, hk, rfl, rfl, HT2, hwx⟩ := hrel
            subst hwx
            have ht : t.size ≤ 300000 := by
              have h1 := congrArg List.length HT2.out
              rw [List.length_append, size_list] at h1
              have h2 := bodyT_le m.bs k 0
              omega
            by_cases hlt : k < n
            · obtain ⟨p, hp⟩ : ∃ p, m.bs[k]? = some p := ⟨_, List.getElem?_eq_getElem (by rw [HN.out]; exact hlt)⟩
              obtain ⟨b, o, rfl, -, hst⟩ := HB.out (by rw [HN.out]; omega)
              obtain ⟨-, c1, c2, -, -, -, -, -⟩ := hst k p hp
              have HB2 := Lib.hid (bodyT_take hp)
              have hpz : p.tx.size ≤ 65536 := by
                have h1 := bodyT_take hp
                have h2 := bodyT_le m.bs (k + 1) 0
                rw [h1, List.length_append, List.length_append, size_list] at h2
                omega
              have j0 : (0 : Int) ≤ (k : Int) := by omega
              have j1 : (k : Int) < (n : Int) := by omega
              have j2 : ¬ (n : Int) ≤ (k : Int) := by omega
              clear hst hp
              by_cases hk0 : k = 0
              · subst hk0
                simp only [Nat.zero_mul, Nat.add_zero] at c1 c2
                go_wp2
                refine ⟨⟨0 + 1, _, by omega, by first | rfl | go_num, rfl, Lib.hid ?_, trivial⟩, by simp [intOf]; omega⟩
                rw [catY, catY, HT2.out, HB2.out]
                unfold spB
                rw [if_pos (.inl rfl)]
                simp
              · have j3 : ((k : Int) == 0) = false := by simp [hk0]
                cases hsp : p.sp with
                | true =>
                  rw [hsp] at c2
                  go_wp2
                  refine ⟨⟨k + 1, _, by omega, rfl, rfl, Lib.hid ?_, trivial⟩, by simp [intOf]; omega⟩
                  rw [catY, catY, HT2.out, HB2.out]
                  unfold spB
                  rw [if_pos (.inr hsp)]
                  simp
                | false =>
                  rw [hsp] at c2
                  go_wp2
                  refine ⟨⟨k + 1, _, by omega, rfl, rfl, Lib.hid ?_, trivial⟩, by simp [intOf]; omega⟩
                  rw [catY, HT2.out, HB2.out]
                  unfold spB
                  rw [if_neg (by rw [hsp]; simp [hk0])]
                  simp
            · have j1 : ¬ (k : Int) < (n : Int) := by omega
              have hall : m.bs.take k = m.bs := List.take_of_length_le (by rw [HN.out]; omega)
              go_wp2
              go_ret
              refine ⟨txtY_eq ?_, hb0⟩
              rw [catY, HT2.out, hall]
              rfl
        | true =>
          by_cases hp0 : 0 < pn
          · have j5 : (0 : Int) < (pn : Int) := by omega
            have hne : m.ps ≠ [] := fun e => by have := HPN.out; rw [e] at this; simp at this; omega
            go_wp2
            go_loopw [3, 5] (fun sv i wx => ∃ (k : Nat) (t : ByteArray), k ≤ n ∧ i = .int .i64 k ∧ sv = .string t ∧ Hid (t.data.toList = headT m ++ bodyT 0 (m.bs.take k)) ∧ w1 = wx) (fun _ i _ => n - (intOf i).toNat)
            case atStart => exact ⟨0, _, Nat.zero_le _, rfl, rfl, Lib.hid (by rw [List.take_zero, bodyT, List.append_nil]; rw [catY, catY, catY, HT1.out, HA.out, line_yes HF.out]; unfold parsS; rw [HV.out, if_pos rfl, if_neg hne]; rw [catS_append, catS_append, catS_one, catS_one]; simp [comA, dotA]), rfl⟩
            case round =>
              obtain ⟨k, t, hk, rfl, rfl, HT2, hwx⟩ := hrel
              subst hwx
              have ht : t.size ≤ 300000 := by
                have h1 := congrArg List.length HT2.out
                rw [List.length_append, size_list] at h1
                have h2 := bodyT_le m.bs k 0
                omega
              by_cases hlt : k < n
              · obtain ⟨p, hp⟩ : ∃ p, m.bs[k]? = some p := ⟨_, List.getElem?_eq_getElem (by rw [HN.out]; exact hlt)⟩
                obtain ⟨b, o, rfl, -, hst⟩ := HB.out (by rw [HN.out]; omega)
                obtain ⟨-, c1, c2, -, -, -, -, -⟩ := hst k p hp
                have HB2 := Lib.hid (bodyT_take hp)
                have hpz : p.tx.size ≤ 65536 := by
                  have h1 := bodyT_take hp
                  have h2 := bodyT_le m.bs (k + 1) 0
                  rw [h1, List.length_append, List.length_append, size_list] at h2
                  omega
                have j0 : (0 : Int) ≤ (k : Int) := by omega
                have j1 : (k : Int) < (n : Int) := by omega
                have j2 : ¬ (n : Int) ≤ (k : Int) := by omega
                clear hst hp
                by_cases hk0 : k = 0
                · subst hk0
                  simp only [Nat.zero_mul, Nat.add_zero] at c1 c2
                  go_wp2
                  refine ⟨⟨0 + 1, _, by omega, by first | rfl | go_num, rfl, Lib.hid ?_, trivial⟩, by simp [intOf]; omega⟩
                  rw [catY, catY, HT2.out, HB2.out]
                  unfold spB
                  rw [if_pos (.inl rfl)]
                  simp
                · have j3 : ((k : Int) == 0) = false := by simp [hk0]
                  cases hsp : p.sp with
                  | true =>
                    rw [hsp] at c2
                    go_wp2
                    refine ⟨⟨k + 1, _, by omega, rfl, rfl, Lib.hid ?_, trivial⟩, by simp [intOf]; omega⟩
                    rw [catY, catY, HT2.out, HB2.out]
                    unfold spB
                    rw [if_pos (.inr hsp)]
                    simp
                  | false =>
                    rw [hsp] at c2
                    go_wp2
                    refine ⟨⟨k + 1, _, by omega, rfl, rfl, Lib.hid ?_, trivial⟩, by simp [intOf]; omega⟩
                    rw [catY, HT2.out, HB2.out]
                    unfold spB
                    rw [if_neg (by rw [hsp]; simp [hk0])]
                    simp
              · have j1 : ¬ (k : Int) < (n : Int) := by omega
                have hall : m.bs.take k = m.bs := List.take_of_length_le (by rw [HN.out]; omega)
                go_wp2
                go_ret
                refine ⟨txtY_eq ?_, hb0⟩
                rw [catY, HT2.out, hall]
                rfl
          · have j5 : ¬ (0 : Int) < (pn : Int) := by omega
            have hne : m.ps = [] := List.length_eq_zero_iff.1 (by rw [HPN.out]; omega)
            go_wp2
            go_loopw [3, 5] (fun sv i wx => ∃ (k : Nat) (t : ByteArray), k ≤ n ∧ i = .int .i64 k ∧ sv = .string t ∧ Hid (t.data.toList = headT m ++ bodyT 0 (m.bs.take k)) ∧ w1 = wx) (fun _ i _ => n - (intOf i).toNat)
            case atStart => exact ⟨0, _, Nat.zero_le _, rfl, rfl, Lib.hid (by rw [List.take_zero, bodyT, List.append_nil]; rw [catY, catY, HT1.out, HA.out, line_yes HF.out]; unfold parsS; rw [HV.out, if_pos rfl, if_pos hne, hne]; simp [commaS, catS, dotA]), rfl⟩
            case round =>
              obtain ⟨k, t, hk, rfl, rfl, HT2, hwx⟩ := hrel
              subst hwx
              have ht : t.size ≤ 300000 := by
                have h1 := congrArg List.length HT2.out
                rw [List.length_append, size_list] at h1
                have h2 := bodyT_le m.bs k 0
                omega
              by_cases hlt : k < n
              · obtain ⟨p, hp⟩ : ∃ p, m.bs[k]? = some p := ⟨_, List.getElem?_eq_getElem (by rw [HN.out]; exact hlt)⟩
                obtain ⟨b, o, rfl, -, hst⟩ := HB.out (by rw [HN.out]; omega)
                obtain ⟨-, c1, c2, -, -, -, -, -⟩ := hst k p hp
                have HB2 := Lib.hid (bodyT_take hp)
                have hpz : p.tx.size ≤ 65536 := by
                  have h1 := bodyT_take hp
                  have h2 := bodyT_le m.bs (k + 1) 0
                  rw [h1, List.length_append, List.length_append, size_list] at h2
                  omega
                have j0 : (0 : Int) ≤ (k : Int) := by omega
                have j1 : (k : Int) < (n : Int) := by omega
                have j2 : ¬ (n : Int) ≤ (k : Int) := by omega
                clear hst hp
                by_cases hk0 : k = 0
                · subst hk0
                  simp only [Nat.zero_mul, Nat.add_zero] at c1 c2
                  go_wp2
                  refine ⟨⟨0 + 1, _, by omega, by first | rfl | go_num, rfl, Lib.hid ?_, trivial⟩, by simp [intOf]; omega⟩
                  rw [catY, catY, HT2.out, HB2.out]
                  unfold spB
                  rw [if_pos (.inl rfl)]
                  simp
                · have j3 : ((k : Int) == 0) = false := by simp [hk0]
                  cases hsp : p.sp with
                  | true =>
                    rw [hsp] at c2
                    go_wp2
                    refine ⟨⟨k + 1, _, by omega, rfl, rfl, Lib.hid ?_, trivial⟩, by simp [intOf]; omega⟩
                    rw [catY, catY, HT2.out, HB2.out]
                    unfold spB
                    rw [if_pos (.inr hsp)]
                    simp
                  | false =>
                    rw [hsp] at c2
                    go_wp2
                    refine ⟨⟨k + 1, _, by omega, rfl, rfl, Lib.hid ?_, trivial⟩, by simp [intOf]; omega⟩
                    rw [catY, HT2.out, HB2.out]
                    unfold spB
                    rw [if_neg (by rw [hsp]; simp [hk0])]
                    simp
              · have j1 : ¬ (k : Int) < (n : Int) := by omega
                have hall : m.bs.take k = m.bs := List.take_of_length_le (by rw [HN.out]; omega)
                go_wp2
                go_ret
                refine ⟨txtY_eq ?_, hb0⟩
                rw [catY, HT2.out, hall]
                rfl

end Go.Proofs.YtaodjipnffgihaaGreat
