/- macro.Text: a macro's line, spelt, if that is read as the macro. -/
import Derived.Test.YtaodjipnffgihaaTxC
import Derived.Test.YtaodjipnffgihaaTxD
import Derived.Test.YtaodjipnffgihaaSpell
namespace Go.Proofs.Ytaodjipnffgihaa
open Go.RowKit Go.Shelf

/-- A macro's line, spelt, or none. -/
def textS (m : Mz) : Option ByteArray := if (spellOut (lineS m)).2 = 0 then (match definedS ⟨(spellOut (lineS m)).1.toArray⟩ with
  | some x => if sameM x m then some ⟨(spellOut (lineS m)).1.toArray⟩ else none
  | none => none) else none
def txtV : Option ByteArray → Value
  | some s => .tuple #[.string s, .int .i64 0]
  | none => .tuple #[.string ⟨#[]⟩, .int .i64 50]
theorem txt_none {X : Option ByteArray} (h : X = none) : Ending.returned (.tuple #[.string ⟨#[]⟩, .int .i64 50]) = .returned (txtV X) := by rw [h]; rfl
theorem txt_some {X : Option ByteArray} {s : ByteArray} (h : X = some s) : Ending.returned (.tuple #[.string s, .int .i64 0]) = .returned (txtV X) := by rw [h]; rfl
theorem spellOut_len (l : List UInt8) : (spellOut l).1.length ≤ 65536 := by
  unfold spellOut
  split
  · exact Nat.zero_le _
  · split
    · exact Nat.zero_le _
    · split
      · exact Nat.zero_le _
      · next h => exact Nat.le_of_not_lt h
theorem defineS_fit {ts : List Tz} {m : Mz} (h : defineS ts = some m) : m.ps.length ≤ ts.length ∧ m.bs.length ≤ ts.length := by
  unfold defineS at h
  cases hh : headS ts with
  | none => rw [hh] at h; cases h
  | some x =>
    obtain ⟨m', l⟩ := x
    obtain ⟨g1, g2, -, -, -⟩ := headS_fit hh
    rw [hh] at h
    simp only at h
    split at h
    · cases h
      exact ⟨g2, by rw [firstNo_len, List.length_map]; exact g1⟩
    · cases h
theorem defineS_ps {ts : List Tz} {m : Mz} (h : defineS ts = some m) : ∀ p ∈ m.bs, p.ps = [] := by
  have hf : ∀ l : List Pz, (∀ p ∈ l, p.ps = []) → ∀ p ∈ firstNo l, p.ps = [] := by
    intro l hl p hp
    cases l with
    | nil => cases hp
    | cons q r =>
      rcases List.mem_cons.1 hp with rfl | h
      · exact hl q List.mem_cons_self
      · exact hl p (List.mem_cons_of_mem _ h)
  unfold defineS at h
  cases hh : headS ts with
  | none => rw [hh] at h; cases h
  | some x =>
    obtain ⟨m', l⟩ := x
    rw [hh] at h
    simp only at h
    split at h
    · cases h
      refine hf _ fun p hp => ?_
      obtain ⟨t, _, rfl⟩ := List.mem_map.1 hp
      rfl
    · cases h
theorem definedS_fit {s : ByteArray} {m : Mz} (h : definedS s = some m) : m.ps.length ≤ 65536 ∧ m.bs.length ≤ 65536 ∧ ∀ p ∈ m.bs, p.ps = [] := by
  unfold definedS at h
  split at h
  · obtain ⟨h1, h2⟩ := tks_fit s
    cases hr : rowsT s with
    | nil => rw [hr] at h; cases h
    | cons r rs =>
      rw [hr] at h
      cases rs with
      | cons _ _ => cases h
      | nil =>
        have h3 : defineS (saysS r) = some m := h
        obtain ⟨h4, h5⟩ := defineS_fit h3
        have h6 := (saysS_fit r).1
        have h7 : r.ts.length ≤ toksN (rowsS (tksOf s)) := by
          have : rowsS (tksOf s) = [r] := hr
          rw [this]
          exact toksN_mem List.mem_cons_self
        rw [toksN_rows] at h7
        exact ⟨by omega, by omega, defineS_ps h3⟩
  · cases h

set_option maxRecDepth 100000 in
set_option maxHeartbeats 4000000 in
theorem text_any (m : Mz) (pa ba : Option Addr) (pn pc n bc : Nat) (w : World) (hpn : m.ps.length = pn) (hn : m.bs.length = n) (hp2 : pn ≤ 400) (hn2 : n ≤ 1000) (hfit : (lineS m).length ≤ 65536) (hT : StrIn w pa m.ps) (hB : PzIn w ba m.bs) (hV : LibVar w) :
    Calls Try.prog 17 #[.agg #[.string m.nm, .bool m.fn, .slice pa pn pc, .bool m.vr, .slice ba n bc]] w fun e w' => e = .returned (txtV (textS m)) ∧ Below w.heap.size w w' := by
  have hb0 := below1 w (.cells #[.string m.nm, .bool m.fn, .slice pa pn pc, .bool m.vr, .slice ba n bc] 26)
  have hR0 := MzBox.new w (.string m.nm) (.bool m.fn) (.slice pa pn pc) (.bool m.vr) (.slice ba n bc)
  have CL := lineOf_any m pa ba pn pc n bc _ hpn hn hp2 hn2 hfit (hT.below hb0) (hB.below hb0)
  obtain ⟨X, hX⟩ : ∃ X, textS m = X := ⟨_, rfl⟩
  have HX := Lib.hid hX
  rw [hX]
  clear hX
  obtain ⟨l, hl⟩ : ∃ l, lineS m = l := ⟨_, rfl⟩
  have HL := Lib.hid hl
  rw [hl] at CL hfit
  clear hl
  obtain ⟨⟨q, c⟩, hq⟩ : ∃ q, spellOut l = q := ⟨_, rfl⟩
  have hql := spellOut_len l
  rw [hq] at hql
  have HX2 : Hid (X = if c = 0 then (match definedS ⟨q.toArray⟩ with
    | some x => if sameM x m then some ⟨q.toArray⟩ else none
    | none => none) else none) := Lib.hid (by rw [← HX.out]; unfold textS; rw [HL.out, hq])
  have CS : ∀ W, Calls Try.prog 21 #[.string ⟨l.toArray⟩] W fun e w' => e = .returned (.tuple #[.string ⟨q.toArray⟩, .int .i64 c]) ∧ Below W.heap.size W w' := fun W => by
    have h := spell_any ⟨l.toArray⟩ W (by show l.length ≤ maxLen; unfold maxLen; omega)
    have e : spellOut (⟨l.toArray⟩ : ByteArray).data.toList = (q, c) := hq
    rw [e] at h
    exact h
  have hqz : (⟨q.toArray⟩ : ByteArray).size ≤ maxLen := by
    have : q.length ≤ 65536 := hql
    show q.length ≤ maxLen
    unfold maxLen; omega
  obtain ⟨S, hS⟩ : ∃ S : ByteArray, (⟨q.toArray⟩ : ByteArray) = S := ⟨_, rfl⟩
  rw [hS] at hqz HX2
  simp only [hS] at CS
  have HT := Lib.hid hT
  have HB := Lib.hid hB
  have HPN := Lib.hid hpn
  have HN := Lib.hid hn
  obtain ⟨y0, y1, y2, y3, y4, -, -, -, -, -⟩ := hR0.facts
  clear hq hql hS hT hB HX HL hpn hn
  by_cases hc : c = 0
  · subst hc
    rw [if_pos rfl] at HX2
    have CD := fun W => defined_any S W hqz
    cases hd : definedS S with
    | none =>
      have HN2 : Hid (X = none) := Lib.hid (by rw [HX2.out, hd])
      rw [hd] at CD
      clear hd HX2
      go_enter Try.func17, Try.ntmps17
      go_wp2_with fail
      refine CL.mono ?_
      rintro e w1 ⟨rfl, hb1⟩
      have hR1 := hR0.below hb1
      have hB1 := hb0.trans (hb1.mono hb0.size)
      clear CL y0 y1 y2 y3 y4 hR0
      go_wp2_with fail
      refine (CS _).mono ?_
      rintro e w2 ⟨rfl, hb2⟩
      have hR2 := hR1.below hb2
      have hB2 := hB1.trans (hb2.mono hB1.size)
      clear CS hR1
      go_wp2_with fail
      refine (CD _ (hV.low hB2)).mono ?_
      rintro e w3 ⟨⟨d, hd0, rfl⟩, hb3⟩
      have hB3 := hB2.trans (hb3.mono hB2.size)
      have j1 : (d != 0) = true := by simpa using hd0
      clear CD hR2
      go_wp2
      go_ret2
      exact ⟨txt_none HN2.out, hB3.alloc hB3.size (.cells #[.string ⟨#[]⟩, .bool false, .slice none 0 0, .bool false, .slice none 0 0] 26)⟩
    | some x =>
      obtain ⟨f1, f2, f3⟩ := definedS_fit hd
      have HN2 : Hid (X = if sameM x m then some S else none) := Lib.hid (by rw [HX2.out, hd])
      rw [hd] at CD
      have HF3 := Lib.hid f3
      clear hd HX2 f3
      go_enter Try.func17, Try.ntmps17
      go_wp2_with fail
      refine CL.mono ?_
      rintro e w1 ⟨rfl, hb1⟩
      have hR1 := hR0.below hb1
      have hB1 := hb0.trans (hb1.mono hb0.size)
      clear CL y0 y1 y2 y3 y4 hR0
      go_wp2_with fail
      refine (CS _).mono ?_
      rintro e w2 ⟨rfl, hb2⟩
      have hR2 := hR1.below hb2
      have hB2 := hB1.trans (hb2.mono hB1.size)
      clear CS hR1
      go_wp2_with fail
      refine (CD _ (hV.low hB2)).mono ?_
      rintro e w3 ⟨⟨v, u, rfl, hr1, hr2⟩, hb3⟩
      obtain ⟨va, vc, rfl⟩ := row_shape hr1
      obtain ⟨ua, uc, rfl⟩ := row_shape hr2
      have hR3 := hR2.below hb3
      have hB3 := hB2.trans (hb3.mono hB2.size)
      have hb4 := below1 w3 (.cells #[.string x.nm, .bool x.fn, .slice va x.ps.length vc, .bool x.vr, .slice ua x.bs.length uc] 26)
      have hR4 := hR3.below hb4
      have hB4 := hB3.trans (hb4.mono hB3.size)
      have hY4 := MzBox.new w3 (.string x.nm) (.bool x.fn) (.slice va x.ps.length vc) (.bool x.vr) (.slice ua x.bs.length uc)
      have CM := same_mz x m va pa ua ba vc pc uc bc _ (by omega) (by rw [HPN.out]; omega) (by omega) (by rw [HN.out]; omega) ((strIn_row rfl hr1).below hb4) (HT.out.below hB4) ((pzIn_row rfl HF3.out hr2).below hb4) (HB.out.below hB4)
      rw [HPN.out, HN.out] at CM
      obtain ⟨y0, y1, y2, y3, y4, -, -, -, -, -⟩ := hR4.facts
      obtain ⟨z0, z1, z2, z3, z4, -, -, -, -, -⟩ := hY4.facts
      clear CD hR2 hr1 hr2 hb4 HT HB HPN HN HF3
      go_wp2_with fail
      refine CM.mono ?_
      rintro e w5 ⟨rfl, hb5⟩
      have hB5 := hB4.trans (hb5.mono hB4.size)
      clear CM y0 y1 y2 y3 y4 z0 z1 z2 z3 z4
      cases hs : sameM x m with
      | false =>
        have HN3 : Hid (X = none) := Lib.hid (by rw [HN2.out, hs]; rfl)
        clear HN2 hs
        go_wp2
        go_ret2
        exact ⟨txt_none HN3.out, hB5⟩
      | true =>
        have HN3 : Hid (X = some S) := Lib.hid (by rw [HN2.out, hs]; rfl)
        clear HN2 hs
        go_wp2
        go_ret2
        exact ⟨txt_some HN3.out, hB5⟩
  · have HN2 : Hid (X = none) := Lib.hid (by rw [HX2.out, if_neg hc])
    have j1 : (c != 0) = true := by simpa using hc
    clear HX2 hc
    go_enter Try.func17, Try.ntmps17
    go_wp2_with fail
    refine CL.mono ?_
    rintro e w1 ⟨rfl, hb1⟩
    have hB1 := hb0.trans (hb1.mono hb0.size)
    clear CL y0 y1 y2 y3 y4
    go_wp2_with fail
    refine (CS _).mono ?_
    rintro e w2 ⟨rfl, hb2⟩
    have hB2 := hB1.trans (hb2.mono hB1.size)
    clear CS
    go_wp2
    go_ret2
    exact ⟨txt_none HN2.out, hB2⟩

end Go.Proofs.Ytaodjipnffgihaa
