/- The chapter's examples: the texts, what they answer; the helpers of the law ScanNames. -/
import Derived.Test.YtoepfehgimhmnaaBare
namespace Go.Proofs.Ytoepfehgimhmnaa
open Go.RowKit Go.Shelf

/-! ### Reckoned by fuel -/

def checkF (l : List UInt8) : Int := if 65536 < l.length then 3 else if (match (partsFuel l.length l 0).getLast? with | none => l == [] | some p => !p.sp && p.b == 10) then 0 else 10
def charsF (l : List UInt8) : List Part := chs (partsFuel l.length l 0)
def logF (l : List UInt8) : List UInt8 := (charsF l).map (·.b)
def scanErrF (l : List UInt8) : Int := if checkF l = 0 then ((toks (logF l) 0 0).2 : Int) else checkF l
def scanOfF (l : List UInt8) : List Yd := if scanErrF l = 0 then (toksY ⟨(logF l).toArray⟩).map (srcY (charsF l)) else []
theorem check_F (l : List UInt8) : checkN l = checkF l := checkN_fuel l
theorem chars_F {l : List UInt8} (h : checkN l = 0) : charsOf l = charsF l := by rw [charsOf_ok h, parts_fuel]; rfl
theorem log_F {l : List UInt8} (h : checkN l = 0) : logicalOf l = logF l := by rw [logicalOf_ok h, parts_fuel]; rfl
theorem scanErr_F (s : ByteArray) : scanErr s = scanErrF s.data.toList := by
  unfold scanErr scanErrF
  rw [← check_F]
  by_cases h : checkN s.data.toList = 0
  · rw [if_pos h, if_pos h, log_F h]
  · rw [if_neg h, if_neg h]
theorem scanOf_F (s : ByteArray) : scanOf s = scanOfF s.data.toList := by
  unfold scanOf scanOfF
  rw [← scanErr_F]
  by_cases h : scanErr s = 0
  · have hc : checkN s.data.toList = 0 := by
      unfold scanErr at h
      by_cases hc : checkN s.data.toList = 0
      · exact hc
      · rw [if_neg hc] at h; exact absurd h hc
    rw [if_pos h, if_pos h, chars_F hc]
    unfold logB
    rw [log_F hc]
  · rw [if_neg h, if_neg h]
def textsF (l : List UInt8) (want : List ByteArray) (kinds : ByteArray) : Bool :=
  scanErrF l == 0 && (scanOfF l).length == want.length && want.length == kinds.size && 0 < want.length && want.length < 1000 &&
    (List.range want.length).all fun i => match (scanOfF l)[i]?, want[i]?, kinds.data[i]? with
      | some y, some t, some k => y.tx.data == t.data && y.k + 48 == k.toNat
      | _, _, _ => false
theorem texts_F {s : ByteArray} {want : List ByteArray} {kinds : ByteArray} (h : textsF s.data.toList want kinds = true) : textsB s want kinds = true := by
  unfold textsB
  rw [scanErr_F, scanOf_F]
  exact h

/-! ### The helpers' contracts -/

theorem texts_new {w0 wk : World} (s : ByteArray) (want : List ByteArray) (kinds : ByteArray) (hs : s.size ≤ maxLen) (hL : LibVar w0) (hb : Below w0.heap.size w0 wk) (h : textsF s.data.toList want kinds = true) :
    Calls Try.prog 17 #[.string s, .slice (some ⟨wk.heap.size, 0, none⟩) want.length want.length, .string kinds] (wk.alloc (.cells (want.map Value.string).toArray 9)) fun e w' => e = .returned (.bool true) ∧ Below w0.heap.size w0 w' := by
  have hb1 := hb.alloc hb.size (.cells (want.map Value.string).toArray 9)
  have C := texts_true s want kinds wk.heap.size (wk.alloc (.cells (want.map Value.string).toArray 9)) hs (libVar_below hb1 hL) (by simp) (fun j T hj => mcells j _ (by simp [hj])) (texts_F h)
  refine C.mono ?_
  rintro e w1 ⟨rfl, hb2⟩
  exact ⟨rfl, hb1.trans (hb2.mono hb1.size)⟩

theorem refused_at {w0 wk : World} (s : ByteArray) (n : Int) (hs : s.size ≤ maxLen) (hL : LibVar w0) (hb : Below w0.heap.size w0 wk) (h : scanErrF s.data.toList = n) (hn : n ≠ 0) :
    Calls Try.prog 18 #[.string s, .int .i64 n] wk fun e w' => e = .returned (.bool true) ∧ Below w0.heap.size w0 w' := by
  have C := scan_row s wk hs (libVar_below hb hL)
  rw [← scanErr_F] at h
  have ho : scanOf s = [] := by unfold scanOf; rw [if_neg (by rw [h]; exact hn)]
  rw [ho, h] at C
  clear ho h hn
  go_enter Try.func18, Try.ntmps18
  go_wp2_with fail
  refine C.mono ?_
  rintro e w1 ⟨⟨a, cap, rfl, -⟩, hb1⟩
  go_wp2
  go_ret
  exact ⟨by simp, hb.trans (hb1.mono hb.size)⟩

theorem fuse_at {w0 wk : World} (a b : ByteArray) (r : Bool) (ha : a.size ≤ 100000) (hbs : b.size ≤ 100000) (hL : LibVar w0) (hb : Below w0.heap.size w0 wk) (h : fusesOf a b = (r, 0)) :
    Calls Try.prog 19 #[.string a, .string b] wk fun e w' => e = .returned (.bool r) ∧ Below w0.heap.size w0 w' := by
  have C := fuses_any a b wk ha hbs (libVar_below hb hL)
  rw [h] at C
  clear h
  cases r
  all_goals
    go_enter Try.func19, Try.ntmps19
    go_wp2_with fail
    refine C.mono ?_
    rintro e w1 ⟨rfl, hb1⟩
    go_wp2
    go_ret
    exact ⟨rfl, hb.trans (hb1.mono hb.size)⟩

end Go.Proofs.Ytoepfehgimhmnaa
