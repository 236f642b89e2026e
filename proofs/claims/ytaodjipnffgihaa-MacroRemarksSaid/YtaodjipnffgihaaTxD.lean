/- macro.defined: what a text defines that is a single directive. -/
import Derived.Test.YtaodjipnffgihaaMxC
import Derived.Test.YtaodjipnffgihaaMcK
namespace Go.Proofs.Ytaodjipnffgihaa
open Go.RowKit Go.Shelf

/-- What a text of one directive defines. -/
def oneD : List Rz → Option Mz
  | [r] => defineS (saysS r)
  | _ => none
def definedS (s : ByteArray) : Option Mz := if scanErr s = 0 then oneD (rowsT s) else none
def DfdRes (w : World) (x : Option Mz) (e : Ending) (w' : World) : Prop :=
  (match x with
    | none => ∃ c : Int, c ≠ 0 ∧ e = .returned (.tuple #[.agg #[.string ⟨#[]⟩, .bool false, .slice none 0 0, .bool false, .slice none 0 0], .int .i64 c])
    | some m => ∃ v u, e = .returned (.tuple #[.agg #[.string m.nm, .bool m.fn, v, .bool m.vr, u], .int .i64 0]) ∧ w'.ownsRow w.heap.size 9 1 v m.ps.length (stV m.ps) ∧ w'.ownsRow w.heap.size 36 4 u m.bs.length (pnCells m.bs)) ∧ Below w.heap.size w w'
theorem DfdRes.no {w w' : World} {x : Option Mz} {e : Ending} {c : Int} (hx : x = none) (hc : c ≠ 0) (he : e = .returned (.tuple #[.agg #[.string ⟨#[]⟩, .bool false, .slice none 0 0, .bool false, .slice none 0 0], .int .i64 c])) (hb : Below w.heap.size w w') : DfdRes w x e w' := by
  subst hx; exact ⟨⟨c, hc, he⟩, hb⟩

theorem DfdRes.of {w w1 w2 : World} {x : Option Mz} {e : Ending} (h : DefRes w1 x e w2) (hb : Below w.heap.size w w1) (he : e = .returned (.tuple #[.agg #[.string ⟨#[]⟩, .bool false, .slice none 0 0, .bool false, .slice none 0 0], .int .i64 50]) → x = none → DfdRes w x e w2) : DfdRes w x e w2 := by
  obtain ⟨h1, h2⟩ := h
  cases x with
  | none => exact he h1 rfl
  | some m =>
    obtain ⟨v, u, e1, r1, r2⟩ := h1
    exact ⟨⟨v, u, e1, row_lower0 hb.size r1, row_lower0 hb.size r2⟩, hb.trans (h2.mono hb.size)⟩
theorem DfdRes.yes {w w' : World} {x : Option Mz} {e : Ending} {nm : ByteArray} {fn vr : Bool} {ps : List ByteArray} {bs : List Pz} {v u : Value} (hx : x = some ⟨nm, fn, ps, vr, bs⟩) (he : e = .returned (.tuple #[.agg #[.string nm, .bool fn, v, .bool vr, u], .int .i64 0])) (hr : w'.ownsRow w.heap.size 9 1 v ps.length (stV ps)) (hu : w'.ownsRow w.heap.size 36 4 u bs.length (pnCells bs)) (hb : Below w.heap.size w w') : DfdRes w x e w' := by
  subst hx; exact ⟨⟨v, u, he, hr, hu⟩, hb⟩
theorem bareTx (ts : List Tz) : ∀ t ∈ (bareS ts).1, ∃ u ∈ ts, t.tx = u.tx := by
  have key : ∀ (l : List Tz) (q : List Tz × Bool), ∀ t ∈ (l.foldl bareStep q).1, t ∈ q.1 ∨ ∃ u ∈ l, t.tx = u.tx := by
    intro l
    induction l with
    | nil => intro q t h; exact .inl h
    | cons x l ih =>
      intro q t h
      rw [List.foldl_cons] at h
      rcases ih _ t h with h1 | ⟨u, hu, e⟩
      · unfold bareStep at h1
        split at h1
        · exact .inl h1
        · rcases List.mem_append.1 h1 with h2 | h2
          · exact .inl h2
          · rw [List.mem_singleton] at h2
            exact .inr ⟨x, List.mem_cons_self, by rw [h2]⟩
      · exact .inr ⟨u, List.mem_cons_of_mem _ hu, e⟩
  intro t ht
  rcases key ts ([], false) t ht with h | h
  · cases h
  · exact h
theorem saysS_fit (r : Rz) : (saysS r).length ≤ r.ts.length ∧ ∀ t ∈ saysS r, ∃ u ∈ r.ts, t.tx = u.tx := by
  have h := bareS_len r.ts
  have h2 := bareTx r.ts
  have hL : bareL r = (bareS r.ts).1 := rfl
  unfold saysS
  rw [hL]
  split
  · split
    · exact ⟨by rw [List.length_drop]; omega, fun t ht => h2 t (List.mem_of_mem_drop ht)⟩
    · exact ⟨by rw [List.length_drop]; omega, fun t ht => h2 t (List.mem_of_mem_drop ht)⟩
  · exact ⟨h, h2⟩

set_option maxRecDepth 100000 in
set_option maxHeartbeats 4000000 in
theorem defined_any (s : ByteArray) (w : World) (hs : s.size ≤ maxLen) (hL : LibVar w) :
    Calls Try.prog 36 #[.string s] w (DfdRes w (definedS s)) := by
  have hb0 := below1 w (.cells #[.string ⟨#[]⟩, .bool false, .slice none 0 0, .bool false, .slice none 0 0] 26)
  have hR0 := MzBox.new w (.string ⟨#[]⟩) (.bool false) (.slice none 0 0) (.bool false) (.slice none 0 0)
  have CS := scan_tz s (w.alloc (.cells #[.string ⟨#[]⟩, .bool false, .slice none 0 0, .bool false, .slice none 0 0] 26)) hs (hL.low hb0)
  obtain ⟨X, hX⟩ : ∃ X, definedS s = X := ⟨_, rfl⟩
  have HX := Lib.hid hX
  rw [hX]
  clear hX
  by_cases he : scanErr s = 0
  · obtain ⟨hf1, hf2⟩ := tks_fit s
    obtain ⟨T, hT⟩ : ∃ T, tksOf s = T := ⟨_, rfl⟩
    have hRT : rowsT s = rowsS T := by unfold rowsT; rw [hT]
    obtain ⟨L, hLr⟩ : ∃ L, rowsS T = L := ⟨_, rfl⟩
    have HX2 : Hid (X = oneD L) := Lib.hid (by rw [← HX.out, ← hLr, ← hRT]; unfold definedS; rw [if_pos he])
    rw [hT, he] at CS
    rw [hT] at hf1 hf2
    obtain ⟨m, hm⟩ : ∃ m, T.length = m := ⟨_, rfl⟩
    rw [hm] at CS hf1
    have HM := Lib.hid hm
    have HF := Lib.hid hf2
    have HLR := Lib.hid hLr
    clear hT hRT hm hf2 he HX hLr
    go_enter Try.func36, Try.ntmps36
    go_wp2_with fail
    refine CS.mono ?_
    rintro e w1 ⟨⟨a, cap, rfl, hc, hi⟩, hb1⟩
    have hR1 := hR0.below hb1
    have hB1 := hb0.trans (hb1.mono hb0.size)
    have CR := rows_in_any m cap a w1 (by omega) hc T HM.out (fun t ht => Nat.le_trans (HF.out t ht) (by decide)) hi
    rw [HLR.out] at CR
    clear CS hi hR0
    go_wp2_with fail
    refine CR.mono ?_
    rintro e w2 ⟨⟨a2, cap2, rfl, hc2, hi2⟩, hb2⟩
    have hR2 := hR1.below hb2
    have hB2 := hB1.trans (hb2.mono hB1.size)
    clear CR hR1
    by_cases h1 : L.length = 1
    · obtain ⟨r, rfl⟩ := List.length_eq_one_iff.1 h1
      have HN : Hid (X = defineS (saysS r)) := Lib.hid HX2.out
      have hfit := rows_fit (ts := T) (by rw [HM.out]; omega) (fun t ht => Nat.le_trans (HF.out t ht) (by decide))
      rw [HLR.out] at hfit
      obtain ⟨hrl, hrx⟩ := hfit r List.mem_cons_self
      obtain ⟨s1, s2⟩ := saysS_fit r
      obtain ⟨b, o, rfl, hg, hrz⟩ := hi2 (by simp)
      obtain ⟨c0, c1, ta, tcap, c2, htk⟩ := hrz 0 r rfl
      have CY := says_cap_any r ta tcap w2 hrl hrx htk
      have HSX : Hid (∀ t ∈ saysS r, t.tx.size ≤ 281474976710656) := Lib.hid (fun t ht => by
        obtain ⟨u, hu, e⟩ := s2 t ht
        rw [e]
        exact hrx u hu)
      obtain ⟨k, hk⟩ : ∃ k, (saysS r).length = k := ⟨_, rfl⟩
      rw [hk] at CY s1
      have HK := Lib.hid hk
      have hk2 : k * 48 ≤ 140737488355328 := by omega
      have k0 : w2.cell? ⟨b, o, none⟩ = some (.bool r.d) := c0
      have k1 : w2.cell? ⟨b, o + 1, none⟩ = some (.string r.nm) := c1
      have k2 : w2.cell? ⟨b, o + 2, none⟩ = some (.slice ta r.ts.length tcap) := c2
      clear h1 hfit hrx s2 hi2 hrz htk HX2 HLR HM HF hk
      have hL1 : [r].length = 1 := rfl
      rw [hL1]
      have j2 : (((1 : Nat) : Int) != 1) = false := rfl
      go_wp2_with fail
      refine CY.mono ?_
      rintro e w3 ⟨⟨a3, cap3, rfl, hc3, hS3⟩, hb3⟩
      clear k0 k1 k2 CY
      have hR3 := hR2.below hb3
      have hB3 := hB2.trans (hb3.mono hB2.size)
      have CD := define_any (saysS r) k cap3 a3 w3 HK.out hc3 hk2 HSX.out hS3.in
      have hP3 : w.heap.size < w3.heap.size := (Array.getElem?_eq_some_iff.1 hR3).1
      clear hS3 HSX hR2 hB2
      cases hd : defineS (saysS r) with
      | none =>
        rw [hd] at CD
        have HN2 : Hid (X = none) := Lib.hid (by rw [HN.out, hd])
        clear hd HN
        go_wp2_with fail
        refine CD.mono ?_
        rintro e w4 ⟨rfl, hb4⟩
        have hR4 := hR3.below hb4
        have hB4 := hB3.trans (hb4.mono hB3.size)
        obtain ⟨z0, z1, z2, z3, z4, f0, f1, f2, f3, f4⟩ := hR4.facts
        go_wp2
        refine bodyPost_ret (v := .tuple #[.agg #[.string ⟨#[]⟩, .bool false, .slice none 0 0, .bool false, .slice none 0 0], .int .i64 50]) (by simp [results, Try.results36, go_sem, z0, z1, z2, z3, z4]) rfl ?_
        exact DfdRes.no HN2.out (by decide) rfl (below_set5 hB4 (Nat.le_refl _))
      | some m =>
        obtain ⟨nm, fn, ps, vr, bs⟩ := m
        rw [hd] at CD
        have HN2 : Hid (X = some ⟨nm, fn, ps, vr, bs⟩) := Lib.hid (by rw [HN.out, hd])
        clear hd HN
        go_wp2_with fail
        refine CD.mono ?_
        rintro e w4 ⟨⟨v, u, rfl, hr1, hr2⟩, hb4⟩
        have hR4 := hR3.below hb4
        have hB4 := hB3.trans (hb4.mono hB3.size)
        have hl1 := hr1.lt
        have hl2 := hr2.lt
        obtain ⟨va, vc, rfl⟩ := row_shape hr1
        obtain ⟨ua, uc, rfl⟩ := row_shape hr2
        obtain ⟨z0, z1, z2, z3, z4, f0, f1, f2, f3, f4⟩ := hR4.facts
        go_wp2
        clear z0 z1 z2 z3 z4 f0 f1 f2 f3 f4
        have hR5 := ((((hR4.set0 (.string nm)).set1 (.bool fn)).set2 (.slice va ps.length vc)).set3 (.bool vr)).set4 (.slice ua bs.length uc)
        obtain ⟨z0, z1, z2, z3, z4, -, -, -, -, -⟩ := hR5.facts
        refine bodyPost_ret (v := .tuple #[.agg #[.string nm, .bool fn, .slice va ps.length vc, .bool vr, .slice ua bs.length uc], .int .i64 0]) (by simp [results, Try.results36, go_sem, z0, z1, z2, z3, z4]) rfl ?_
        refine DfdRes.yes HN2.out rfl ?_ ?_ (below_set5 hB4 (Nat.le_refl _))
        · exact ownsRow_set5 (row_lower0 (by omega) hr1) (fun j h => by have := (hl1 j h).1; omega)
        · exact ownsRow_set5 (row_lower0 (by omega) hr2) (fun j h => by have := (hl2 j h).1; omega)
    · have HN : Hid (X = none) := Lib.hid (by
        rw [HX2.out]
        match L, h1 with
        | [], _ => rfl
        | [_], h => exact absurd rfl h
        | _ :: _ :: _, _ => rfl)
      obtain ⟨q, hq⟩ : ∃ q, L.length = q := ⟨_, rfl⟩
      rw [hq] at h1 ⊢
      have j2 : ((q : Int) != 1) = true := by
        rw [bne_iff_ne]; omega
      obtain ⟨z0, z1, z2, z3, z4, f0, f1, f2, f3, f4⟩ := hR2.facts
      clear hq h1 hi2
      go_wp2
      refine bodyPost_ret (v := .tuple #[.agg #[.string ⟨#[]⟩, .bool false, .slice none 0 0, .bool false, .slice none 0 0], .int .i64 50]) (by simp [results, Try.results36, go_sem, z0, z1, z2, z3, z4]) rfl ?_
      exact DfdRes.no HN.out (by decide) rfl (below_set5 hB2 (Nat.le_refl _))
  · have HN : Hid (X = none) := Lib.hid (by rw [← HX.out]; unfold definedS; rw [if_neg he])
    obtain ⟨c, hc⟩ : ∃ c : Int, (scanErr s : Int) = c := ⟨_, rfl⟩
    have hc0 : c ≠ 0 := by rw [← hc]; exact fun h => he (by omega)
    rw [hc] at CS
    have j1 : (c != 0) = true := by simpa using hc0
    clear he hc HX
    go_enter Try.func36, Try.ntmps36
    go_wp2_with fail
    refine CS.mono ?_
    rintro e w1 ⟨⟨a, cap, rfl, -, -⟩, hb1⟩
    have hR1 := hR0.below hb1
    have hB1 := hb0.trans (hb1.mono hb0.size)
    obtain ⟨z0, z1, z2, z3, z4, f0, f1, f2, f3, f4⟩ := hR1.facts
    go_wp2
    refine bodyPost_ret (v := .tuple #[.agg #[.string ⟨#[]⟩, .bool false, .slice none 0 0, .bool false, .slice none 0 0], .int .i64 c]) (by simp [results, Try.results36, go_sem, z0, z1, z2, z3, z4]) rfl ?_
    exact DfdRes.no HN.out hc0 rfl (below_set5 hB1 (Nat.le_refl _))

end Go.Proofs.Ytaodjipnffgihaa
