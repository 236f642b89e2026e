/- The helpers of stage 3's laws: rows, says, alive. -/
import Derived.Test.YtpomcdolpmbhdaaLnRows
import Derived.Test.YtpomcdolpmbhdaaLnSays
import Derived.Test.YtpomcdolpmbhdaaBare
import Derived.Test.YtpomcdolpmbhdaaFuel
namespace Go.Proofs.Ytpomcdolpmbhdaa
open Go.RowKit Go.Shelf

/-- A text's tokens. -/
def tksOf (s : ByteArray) : List Tz := (scanOf s).map tzOf
theorem tks_err {s : ByteArray} (h : scanErr s ≠ 0) : tksOf s = [] := by
  unfold tksOf scanOf; rw [if_neg h]; rfl
theorem tks_fit (s : ByteArray) : (tksOf s).length ≤ 65536 ∧ ∀ t ∈ tksOf s, t.tx.size ≤ 65536 := by
  by_cases h : scanErr s = 0
  · have hc : checkN s.data.toList = 0 := by
      unfold scanErr at h
      by_cases hc : checkN s.data.toList = 0
      · exact hc
      · rw [if_neg hc] at h; exact absurd h hc
    have hsz : s.size ≤ 65536 := by
      rcases check_cases s.data.toList with ⟨_, h⟩ | h | h
      · rw [size_list] at h; exact h
      · rw [h] at hc; exact absurd hc (by decide)
      · rw [h] at hc; exact absurd hc (by decide)
    have hL := logB_size s
    have hcl := charsOf_le s.data.toList
    rw [size_list] at hcl
    have ho : scanOf s = (toksY (logB s)).map (srcY (charsOf s.data.toList)) := by unfold scanOf; rw [if_pos h]
    unfold tksOf
    rw [ho]
    refine ⟨?_, fun t ht => ?_⟩
    · rw [List.length_map, List.length_map]
      have := toksY_len (logB s)
      omega
    · rw [List.mem_map] at ht
      obtain ⟨y, hy, rfl⟩ := ht
      rw [List.mem_map] at hy
      obtain ⟨z, hz, rfl⟩ := hy
      unfold toksY at hz
      rw [List.mem_map] at hz
      obtain ⟨k, _, rfl⟩ := hz
      show ((logB s).extract k.a k.e).size ≤ 65536
      rw [ByteArray.size_extract]
      omega
  · rw [tks_err h]
    exact ⟨Nat.zero_le _, fun t h => by cases h⟩

/-! ### Reckoned by fuel -/
theorem checkN_fuelB (l : List UInt8) : checkN l = if 65536 < l.length then 3 else if (match (partsFuel l.length l 0).getLast? with | none => l == [] | some p => !p.sp && p.b == 10) then 0 else 10 := by
  unfold checkN wellB
  rw [parts_fuel]
  generalize (partsFuel l.length l 0).getLast? = o
  cases o <;> rfl
def checkF (l : List UInt8) : Int := if 65536 < l.length then 3 else if (match (partsFuel l.length l 0).getLast? with | none => l == [] | some p => !p.sp && p.b == 10) then 0 else 10
def charsF (l : List UInt8) : List Part := chs (partsFuel l.length l 0)
def logF (l : List UInt8) : List UInt8 := (charsF l).map (·.b)
def scanErrF (l : List UInt8) : Int := if checkF l = 0 then ((toks (logF l) 0 0).2 : Int) else checkF l
def scanOfF (l : List UInt8) : List Yd := if scanErrF l = 0 then (toksY ⟨(logF l).toArray⟩).map (srcY (charsF l)) else []
def tksF (l : List UInt8) : List Tz := (scanOfF l).map tzOf
theorem check_F (l : List UInt8) : checkN l = checkF l := checkN_fuelB l
theorem chars_F {l : List UInt8} (h : checkN l = 0) : charsOf l = charsF l := by rw [charsOf_ok h, parts_fuel]; rfl
theorem log_F {l : List UInt8} (h : checkN l = 0) : logicalOf l = logF l := by rw [logicalOf_ok h, parts_fuel]; rfl
theorem scanErr_F (s : ByteArray) : scanErr s = scanErrF s.data.toList := by
  unfold scanErr scanErrF
  rw [← check_F]
  by_cases h : checkN s.data.toList = 0
  · rw [if_pos h, if_pos h, log_F h]
  · rw [if_neg h, if_neg h]
theorem scanOf_F (s : ByteArray) : scanOf s = scanOfF s.data.toList := by
  unfold scanOf scanOfF
  rw [← scanErr_F]
  by_cases h : scanErr s = 0
  · have hc : checkN s.data.toList = 0 := by
      unfold scanErr at h
      by_cases hc : checkN s.data.toList = 0
      · exact hc
      · rw [if_neg hc] at h; exact absurd h hc
    rw [if_pos h, if_pos h, chars_F hc]
    unfold logB
    rw [log_F hc]
  · rw [if_neg h, if_neg h]
theorem tks_F (s : ByteArray) : tksOf s = tksF s.data.toList := by unfold tksOf tksF; rw [scanOf_F]

end Go.Proofs.Ytpomcdolpmbhdaa

namespace Go.Proofs.Ytpomcdolpmbhdaa
open Go.RowKit Go.Shelf

/-- scan.Scan for lines. -/
theorem scan_tz (s : ByteArray) (w : World) (hs : s.size ≤ maxLen) (hL : LibVar w) :
    Calls Try.prog 25 #[.string s] w fun e w' => (∃ a cap, e = .returned (.tuple #[.slice a (tksOf s).length cap, .int .i64 (scanErr s)]) ∧ (tksOf s).length ≤ cap ∧ TzIn w' a (tksOf s)) ∧ Below w.heap.size w w' := by
  refine (scan_any s w hs hL).mono ?_
  rintro e w' ⟨⟨v, rfl, hr⟩, hb⟩
  obtain ⟨a, cap, rfl⟩ := row_shape hr
  have hl : (tksOf s).length = (scanOf s).length := by unfold tksOf; rw [List.length_map]
  refine ⟨⟨a, cap, by rw [hl], by rw [hl]; exact row_cap2 hr, fun hp => ?_⟩, hb⟩
  obtain ⟨g, rfl, _, hg, ht⟩ := tokRow_of (by rw [← hl]; exact hp) hr
  exact ⟨g, 0, rfl, hg, ht.tz.at⟩

/-- The rows of a list, read. -/
theorem rows_in_any (n cap : Nat) (a : Option Addr) (w : World) (hn2 : n * 48 ≤ 140737488355328) (hnc : n ≤ cap) (ts : List Tz) (hn : ts.length = n) (hx : ∀ t ∈ ts, t.tx.size ≤ 281474976710656) (hT : TzIn w a ts) :
    Calls Try.prog 9 #[.slice a n cap] w fun e w' => (∃ a' cap', e = .returned (.slice a' (rowsS ts).length cap') ∧ (rowsS ts).length ≤ cap' ∧ RzIn w' a' (rowsS ts)) ∧ Below w.heap.size w w' := by
  refine (rows_any n cap a w hn2 hnc ts hn hx hT).mono ?_
  rintro e w' ⟨⟨v, vs, rfl, hS⟩, hb⟩
  have hc := hS.own.row
  obtain ⟨a', cap', rfl, h2⟩ := hS.own.at
  refine ⟨⟨a', cap', rfl, row_cap2 hc, fun hp => ?_⟩, hb⟩
  obtain ⟨g, e, _, hg, hr⟩ := h2 hp
  exact ⟨g, 0, e, hg, hr⟩

theorem rows_toks : ∀ (ls : List (List Tz)) (o : List Rz) (r : Rz) (t : Tz), r ∈ ls.foldl addLine o → t ∈ r.ts → (∃ q ∈ o, t ∈ q.ts) ∨ ∃ l ∈ ls, t ∈ l
  | [], o, r, t, h, ht => .inl ⟨r, h, ht⟩
  | l :: ls, o, r, t, h, ht => by
    rw [List.foldl_cons] at h
    rcases rows_toks ls _ r t h ht with ⟨q, hq, hqt⟩ | ⟨l', hl', h'⟩
    · unfold addLine at hq
      rcases List.eq_nil_or_concat o with rfl | ⟨o', p, rfl⟩
      · rw [addRow_new (.inr (.inl rfl))] at hq
        obtain rfl : q = rowOf l := by simpa using hq
        exact .inr ⟨l, List.mem_cons_self, hqt⟩
      · rw [List.concat_eq_append] at hq ⊢
        by_cases hc : (rowOf l).d = false ∧ p.d = false
        · rw [addRow_more hc.1 hc.2] at hq
          rcases List.mem_append.1 hq with hq | hq
          · exact .inl ⟨q, List.mem_append_left _ hq, hqt⟩
          · obtain rfl : q = _ := List.mem_singleton.1 hq
            rcases List.mem_append.1 hqt with h1 | h1
            · exact .inl ⟨p, by simp, h1⟩
            · exact .inr ⟨l, List.mem_cons_self, h1⟩
        · rw [addRow_new (by
            by_cases h1 : (rowOf l).d = true
            · exact .inl h1
            · refine .inr (.inr ⟨o', p, rfl, ?_⟩)
              by_cases h2 : p.d = true
              · exact h2
              · exact absurd ⟨Bool.eq_false_iff.2 h1, Bool.eq_false_iff.2 h2⟩ hc)] at hq
          rcases List.mem_append.1 hq with hq | hq
          · exact .inl ⟨q, hq, hqt⟩
          · obtain rfl : q = _ := List.mem_singleton.1 hq
            exact .inr ⟨l, List.mem_cons_self, hqt⟩
    · exact .inr ⟨l', List.mem_cons_of_mem _ hl', h'⟩
theorem toksN_mem : ∀ {rs : List Rz} {r : Rz}, r ∈ rs → r.ts.length ≤ toksN rs
  | q :: rs, r, h => by
    have e : toksN (q :: rs) = q.ts.length + toksN rs := by simp [toksN]
    rcases List.mem_cons.1 h with rfl | h
    · omega
    · have := toksN_mem h; omega
theorem toksN_rows (ts : List Tz) : toksN (rowsS ts) = ts.length := by
  unfold rowsS
  rw [toksN_lines, linesF_flat]
  show 0 + _ = _
  omega
/-- Rows of a list that fits fit. -/
theorem rows_fit {ts : List Tz} (hn2 : ts.length * 48 ≤ 140737488355328) (hx : ∀ t ∈ ts, t.tx.size ≤ 281474976710656) : RowsFit (rowsS ts) := fun r hr => by
  refine ⟨?_, fun t ht => ?_⟩
  · have h1 := toksN_mem hr
    rw [toksN_rows] at h1
    omega
  · rcases rows_toks (linesS ts) [] r t hr ht with ⟨q, hq, _⟩ | ⟨l, hl, hlt⟩
    · cases hq
    · refine hx t ?_
      rw [← linesF_flat ts]
      exact List.mem_flatten.2 ⟨l, hl, hlt⟩

def rowsT (s : ByteArray) : List Rz := rowsS (tksOf s)
theorem rowsT_fit (s : ByteArray) : RowsFit (rowsT s) ∧ (rowsT s).length ≤ 65536 := by
  obtain ⟨h1, h2⟩ := tks_fit s
  refine ⟨rows_fit (by omega) (fun t ht => Nat.le_trans (h2 t ht) (by decide)), ?_⟩
  have h3 := lines_len (linesS (tksOf s)) []
  have h4 : (linesS (tksOf s)).length ≤ (linesS (tksOf s)).flatten.length := by
    have : ∀ (ls : List (List Tz)), (∀ l ∈ ls, l ≠ []) → ls.length ≤ ls.flatten.length := by
      intro ls
      induction ls with
      | nil => intro _; exact Nat.le_refl _
      | cons l ls ih =>
        intro h
        have h1 := List.length_pos_iff.2 (h l List.mem_cons_self)
        have h2 := ih (fun q hq => h q (List.mem_cons_of_mem _ hq))
        rw [List.flatten_cons, List.length_append, List.length_cons]; omega
    exact this _ (linesF_ne _)
  rw [linesF_flat] at h4
  have h0 : ([] : List Rz).length = 0 := rfl
  unfold rowsT rowsS
  omega
theorem LibVar.low {w w' : World} (h : LibVar w) (hb : Below w.heap.size w w') : LibVar w' := libVar_below hb h

set_option maxHeartbeats 1000000 in
/-- The law's rows. -/
theorem lrows_any (s : ByteArray) (w : World) (hs : s.size ≤ maxLen) (hL : LibVar w) :
    Calls Try.prog 21 #[.string s] w fun e w' => (∃ a cap, e = .returned (.slice a (rowsT s).length cap) ∧ (rowsT s).length ≤ cap ∧ RzIn w' a (rowsT s)) ∧ Below w.heap.size w w' := by
  obtain ⟨hf1, hf2⟩ := tks_fit s
  have CS := scan_tz s w hs hL
  obtain ⟨T, hT⟩ : ∃ T, tksOf s = T := ⟨_, rfl⟩
  have hR : rowsT s = rowsS T := by unfold rowsT; rw [hT]
  rw [hT] at CS hf1 hf2
  rw [hR]
  obtain ⟨m, hm⟩ : ∃ m, T.length = m := ⟨_, rfl⟩
  rw [hm] at CS hf1
  have HM := Lib.hid hm
  have HF := Lib.hid hf2
  clear hT hR hm hf2
  go_enter Try.func21, Try.ntmps21
  go_wp2_with fail
  refine CS.mono ?_
  rintro e w1 ⟨⟨a, cap, rfl, hc, hi⟩, hb1⟩
  have CR := rows_in_any m cap a w1 (by omega) hc T HM.out (fun t ht => Nat.le_trans (HF.out t ht) (by decide)) hi
  clear CS hi
  go_wp2_with fail
  refine CR.mono ?_
  rintro e w2 ⟨⟨a2, cap2, rfl, hc2, hi2⟩, hb2⟩
  have HI := Lib.hid hi2
  clear CR hi2
  go_wp2
  go_ret
  exact ⟨⟨a2, cap2, rfl, hc2, HI.out⟩, hb1.trans (hb2.mono hb1.size)⟩

/-- What the law's says answers. -/
def sayN (rs : List Rz) (i : Nat) : Int := match rs[i]? with
  | some r => (saysS r).length
  | none => -1
set_option maxRecDepth 100000 in
set_option maxHeartbeats 1000000 in
theorem lsays_any (rs : List Rz) (n cap : Nat) (a : Option Addr) (i : Nat) (w : World) (hn : rs.length = n) (hn2 : n ≤ 65536) (hi : i ≤ 65536) (hf : RowsFit rs) (hT : RzIn w a rs) :
    Calls Try.prog 22 #[.slice a n cap, .int .i64 i] w fun e w' => e = .returned (.int .i64 (sayN rs i)) ∧ Below w.heap.size w w' := by
  by_cases hlt : i < n
  · obtain ⟨r, hr⟩ : ∃ r, rs[i]? = some r := ⟨_, List.getElem?_eq_getElem (by rw [hn]; exact hlt)⟩
    obtain ⟨b, o, rfl, hg1, hrz⟩ := hT (by omega)
    obtain ⟨c0, c1, ta, tcap, c2, htk⟩ := hrz i r hr
    obtain ⟨hrl, hrx⟩ := hf r (List.mem_of_getElem? hr)
    have CS := says_any r ta tcap w hrl hrx htk
    have HS : Hid (sayN rs i = (saysS r).length) := Lib.hid (by unfold sayN; rw [hr])
    clear hr hrz htk hrx hn hf hT
    have j1 : (i : Int) < (n : Int) := by omega
    have j2 : ¬ (n : Int) ≤ (i : Int) := by omega
    have j0 : (0 : Int) ≤ (i : Int) := by omega
    go_enter Try.func22, Try.ntmps22
    go_wp2_with fail
    refine CS.mono ?_
    rintro e w1 ⟨⟨a', cap', rfl, -⟩, hb1⟩
    clear CS
    go_wp2
    go_ret
    exact ⟨ri (by rw [HS.out]), hb1⟩
  · have HS : Hid (sayN rs i = -1) := Lib.hid (by unfold sayN; rw [List.getElem?_eq_none (by omega)])
    have j2 : (n : Int) ≤ (i : Int) := by omega
    clear hn hf hT
    go_enter Try.func22, Try.ntmps22
    go_wp2
    go_ret
    exact ⟨ri (by rw [HS.out]), Below.refl _ _⟩

end Go.Proofs.Ytpomcdolpmbhdaa
