/- lines.tells, lines.saying: does a row count; what of a token counts. -/
import Derived.Test.YtpomcdolpmbhdaaLnSays
import Derived.Test.YtpomcdolpmbhdaaAlikeR
import Derived.Outline
namespace Go.Proofs.Ytpomcdolpmbhdaa
open Go.RowKit Go.Shelf

set_option maxRecDepth 100000 in
set_option maxHeartbeats 1000000 in
theorem tells_any (r : Rz) (ta : Option Addr) (tcap : Nat) (w : World) (hl : r.ts.length * 48 ≤ 140737488355328) (hx : ∀ t ∈ r.ts, t.tx.size ≤ 281474976710656) (ht : TzIn w ta r.ts) :
    Calls Try.prog 34 #[.agg #[.bool r.d, .string r.nm, .slice ta r.ts.length tcap]] w fun e w' => e = .returned (.bool (tellsB r)) ∧ Below w.heap.size w w' := by
  have hbw := below1 w (.cells #[.bool r.d, .string r.nm, .slice ta r.ts.length tcap] 28)
  have HS := says_any r ta tcap _ hl hx (ht.below hbw)
  have hT : tellsB r = (r.d || decide (0 < (bareL r).length)) := rfl
  have hSN : r.d = false → saysS r = bareL r := fun h => by unfold saysS; rw [h]; rfl
  have hlen := saysS_len r
  have HT := Lib.hid hT
  have HN := Lib.hid hSN
  clear ht hx hT hSN
  obtain ⟨d, nm, ts⟩ := r
  cases d
  · have HN2 : Hid (saysS ⟨false, nm, ts⟩ = bareL ⟨false, nm, ts⟩) := Lib.hid (HN.out rfl)
    obtain ⟨m, hm⟩ : ∃ m, (saysS ⟨false, nm, ts⟩).length = m := ⟨_, rfl⟩
    rw [hm] at HS hlen
    have HT2 : Hid (tellsB ⟨false, nm, ts⟩ = decide (0 < m)) := Lib.hid (by rw [HT.out, ← hm, HN2.out]; rfl)
    clear HT HN HN2 hm
    simp only at hl hlen
    have hk := mcells (w := w) (vs := #[.bool false, .string nm, .slice ta ts.length tcap]) (t := 28)
    have k0 := hk 0 _ rfl
    have k1 := hk 1 _ rfl
    have k2 := hk 2 _ rfl
    clear hk
    by_cases h0 : 0 < m
    · have HT3 := Lib.hid (HT2.out.trans (decide_eq_true h0))
      have b0 : (0 : Int) < (m : Int) := by omega
      clear HT2
      go_enter Try.func34, Try.ntmps34
      go_wp2_with fail
      refine HS.mono ?_
      rintro e w1 ⟨⟨a', cap', rfl, -⟩, hb1⟩
      have hB1 := hbw.trans (hb1.mono hbw.size)
      clear HS
      go_wp2
      go_ret
      exact ⟨rb (by rw [HT3.out]), hB1⟩
    · have HT3 := Lib.hid (HT2.out.trans (decide_eq_false h0))
      have b0 : ¬ (0 : Int) < (m : Int) := by omega
      clear HT2
      go_enter Try.func34, Try.ntmps34
      go_wp2_with fail
      refine HS.mono ?_
      rintro e w1 ⟨⟨a', cap', rfl, -⟩, hb1⟩
      have hB1 := hbw.trans (hb1.mono hbw.size)
      clear HS
      go_wp2
      go_ret
      exact ⟨rb (by rw [HT3.out]), hB1⟩
  · have HT2 : Hid (tellsB ⟨true, nm, ts⟩ = true) := Lib.hid (by rw [HT.out]; rfl)
    clear HT HN HS
    go_enter Try.func34, Try.ntmps34
    go_wp2
    go_ret
    exact ⟨rb (by rw [HT2.out]), hbw⟩

set_option maxRecDepth 100000 in
set_option maxHeartbeats 1000000 in
theorem saying_any (t : Tz) (sp : Bool) (w : World) :
    Calls Try.prog 45 #[.agg #[.int .i64 t.k, .string t.tx, .int .i64 t.a, .int .i64 t.e, .bool t.sp], .bool sp] w fun e w' => e = .returned (.agg #[.int .i64 t.k, .string t.tx, .bool (sp && t.sp)]) ∧ Below w.heap.size w w' := by
  cases sp
  · go_enter Try.func45, Try.ntmps45
    go_wp2
    refine bodyPost_ret (v := .agg #[.int .i64 t.k, .string t.tx, .bool false]) (by simp [results, Try.results45, go_sem]) rfl ⟨rfl, ?_⟩
    exact below2 w _ _
  · go_enter Try.func45, Try.ntmps45
    go_wp2
    refine bodyPost_ret (v := .agg #[.int .i64 t.k, .string t.tx, .bool t.sp]) (by simp [results, Try.results45, go_sem]) rfl ⟨rfl, ?_⟩
    exact below2 w _ _

end Go.Proofs.Ytpomcdolpmbhdaa
