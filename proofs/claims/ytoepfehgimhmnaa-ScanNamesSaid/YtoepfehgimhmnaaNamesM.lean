/- The law ScanNames: the chapter's examples. -/
import Derived.Test.YtoepfehgimhmnaaNamesS
namespace Go.Proofs.Ytoepfehgimhmnaa
open Go.RowKit Go.Shelf

theorem one_at {w0 wk : World} (s : ByteArray) (n : Nat) (b : Bool) (hs : s.size ≤ 200000) (hL : LibVar w0) (hb : Below w0.heap.size w0 wk) (h : oneOf s = (n, b)) :
    Calls Try.prog 9 #[.string s] wk fun e w' => e = .returned (.tuple #[.int .i64 n, .bool b]) ∧ Below w0.heap.size w0 w' := by
  have C := one_any s wk hs (libVar_below hb hL)
  rw [h] at C
  refine C.mono ?_
  rintro e w1 ⟨rfl, hb1⟩
  exact ⟨rfl, hb.trans (hb1.mono hb.size)⟩
theorem fuses_at {w0 wk : World} (a c : ByteArray) (b : Bool) (n : Nat) (ha : a.size ≤ 100000) (hc : c.size ≤ 100000) (hL : LibVar w0) (hb : Below w0.heap.size w0 wk) (h : fusesOf a c = (b, n)) :
    Calls Try.prog 11 #[.string a, .string c] wk fun e w' => e = .returned (.tuple #[.bool b, .int .i64 n]) ∧ Below w0.heap.size w0 w' := by
  have C := fuses_any a c wk ha hc (libVar_below hb hL)
  rw [h] at C
  refine C.mono ?_
  rintro e w1 ⟨rfl, hb1⟩
  exact ⟨rfl, hb.trans (hb1.mono hb.size)⟩
theorem nt0 : textsF [49, 46, 101, 43, 120, 46, 121, 45, 49, 10] [⟨#[49, 46, 101, 43, 120, 46, 121]⟩, ⟨#[45]⟩, ⟨#[49]⟩, ⟨#[10]⟩] ⟨#[50, 53, 50, 57]⟩ = true := by decide +kernel
theorem nt1 : textsF [35, 105, 110, 99, 108, 117, 100, 101, 32, 60, 97, 47, 47, 98, 62, 10] [⟨#[35]⟩, ⟨#[105, 110, 99, 108, 117, 100, 101]⟩, ⟨#[60, 97, 47, 47, 98, 62]⟩, ⟨#[10]⟩] ⟨#[53, 49, 55, 57]⟩ = true := by decide +kernel
theorem nt2 : textsF [120, 32, 60, 97, 62, 32, 121, 10] [⟨#[120]⟩, ⟨#[60]⟩, ⟨#[97]⟩, ⟨#[62]⟩, ⟨#[121]⟩, ⟨#[10]⟩] ⟨#[49, 53, 49, 53, 49, 57]⟩ = true := by decide +kernel
theorem nt3 : textsF [76, 39, 97, 39, 32, 117, 56, 34, 98, 34, 32, 117, 56, 39, 99, 39, 10] [⟨#[76, 39, 97, 39]⟩, ⟨#[117, 56, 34, 98, 34]⟩, ⟨#[117, 56]⟩, ⟨#[39, 99, 39]⟩, ⟨#[10]⟩] ⟨#[51, 52, 49, 51, 57]⟩ = true := by decide +kernel
theorem nt4 : textsF [97, 47, 42, 42, 47, 98, 32, 47, 47, 32, 99, 10] [⟨#[97]⟩, ⟨#[47, 42, 42, 47]⟩, ⟨#[98]⟩, ⟨#[47, 47, 32, 99]⟩, ⟨#[10]⟩] ⟨#[49, 56, 49, 56, 57]⟩ = true := by decide +kernel
theorem nt5 : textsF [37, 58, 37, 58, 37, 58, 37, 10] [⟨#[37, 58, 37, 58]⟩, ⟨#[37, 58]⟩, ⟨#[37]⟩, ⟨#[10]⟩] ⟨#[53, 53, 53, 57]⟩ = true := by decide +kernel
theorem nt6 : textsF [46, 46, 49, 46, 46, 46, 92, 64, 10] [⟨#[46]⟩, ⟨#[46, 49, 46, 46, 46]⟩, ⟨#[92]⟩, ⟨#[64]⟩, ⟨#[10]⟩] ⟨#[53, 50, 54, 54, 57]⟩ = true := by decide +kernel
theorem nt7 : textsF [35, 105, 110, 99, 108, 117, 100, 101, 32, 120, 32, 60, 121, 62, 10] [⟨#[35]⟩, ⟨#[105, 110, 99, 108, 117, 100, 101]⟩, ⟨#[120]⟩, ⟨#[60]⟩, ⟨#[121]⟩, ⟨#[62]⟩, ⟨#[10]⟩] ⟨#[53, 49, 49, 53, 49, 53, 57]⟩ = true := by decide +kernel
theorem nt8 : textsF [85, 34, 97, 34, 32, 85, 39, 98, 39, 10] [⟨#[85, 34, 97, 34]⟩, ⟨#[85, 39, 98, 39]⟩, ⟨#[10]⟩] ⟨#[52, 51, 57]⟩ = true := by decide +kernel
theorem nr0 : scanErrF [39, 97, 10] = 21 := by decide +kernel
theorem nr1 : scanErrF [39, 39, 10] = 21 := by decide +kernel
theorem nr2 : scanErrF [47, 42, 10] = 20 := by decide +kernel
theorem nr3 : scanErrF [34, 92, 34, 10] = 21 := by decide +kernel
theorem nr4 : scanErrF [97] = 10 := by decide +kernel
theorem nr5 : scanErrF [47, 42, 47, 10] = 20 := by decide +kernel
theorem no0 : oneOf ⟨#[117, 56, 34, 34]⟩ = (4, true) := by decide +kernel
theorem no1 : oneOf ⟨#[97, 32, 98]⟩ = (0, false) := by decide +kernel
theorem no2 : oneOf ⟨#[]⟩ = (0, false) := by decide +kernel
theorem nf : fusesOf ⟨#[97, 32, 98]⟩ ⟨#[99]⟩ = (false, 2) := by decide +kernel
theorem nu0 : fusesOf ⟨#[43]⟩ ⟨#[43]⟩ = (true, 0) := by decide +kernel
theorem nu1 : fusesOf ⟨#[97]⟩ ⟨#[49]⟩ = (true, 0) := by decide +kernel
theorem nu2 : fusesOf ⟨#[49]⟩ ⟨#[97]⟩ = (true, 0) := by decide +kernel
theorem nu3 : fusesOf ⟨#[47]⟩ ⟨#[42]⟩ = (true, 0) := by decide +kernel
theorem nu4 : fusesOf ⟨#[97]⟩ ⟨#[43]⟩ = (false, 0) := by decide +kernel
theorem nu5 : fusesOf ⟨#[117, 56]⟩ ⟨#[34, 34]⟩ = (true, 0) := by decide +kernel
theorem nu6 : fusesOf ⟨#[47, 47]⟩ ⟨#[97]⟩ = (true, 0) := by decide +kernel
theorem nu7 : fusesOf ⟨#[47, 47]⟩ ⟨#[10]⟩ = (false, 0) := by decide +kernel

theorem nb : scanErrF [97, 47, 42, 42, 47, 98, 10, 32, 99, 10] = 0 ∧ (scanOfF [97, 47, 42, 42, 47, 98, 10, 32, 99, 10]).length = 6 ∧ (match (bareS ((scanOfF [97, 47, 42, 42, 47, 98, 10, 32, 99, 10]).map tzOf)).1 with | [x, y, z] => !x.sp && y.sp && z.sp && z.tx.data == #[99] && z.a == 8 | _ => false) = true ∧ ((scanOfF [97, 47, 42, 42, 47, 98, 10, 32, 99, 10]).all fun y => decide (y.tx.size ≤ 100)) = true := by decide +kernel
/-- The three tokens that are left of the last example. -/
theorem nb_row : ∃ x y z : Tz, (bareS ((scanOf ⟨#[97, 47, 42, 42, 47, 98, 10, 32, 99, 10]⟩).map tzOf)).1 = [x, y, z] ∧ x.sp = false ∧ y.sp = true ∧ z.sp = true ∧ z.tx = ⟨#[99]⟩ ∧ z.a = 8 := by
  obtain ⟨_, _, h, _⟩ := nb
  rw [scanOf_F]
  show ∃ x y z : Tz, (bareS ((scanOfF [97, 47, 42, 42, 47, 98, 10, 32, 99, 10]).map tzOf)).1 = [x, y, z] ∧ _
  match hq : (bareS ((scanOfF [97, 47, 42, 42, 47, 98, 10, 32, 99, 10]).map tzOf)).1, h with
  | [x, y, z], h =>
    simp only [Bool.and_eq_true, beq_iff_eq, Bool.not_eq_true'] at h
    obtain ⟨⟨⟨⟨h1, h2⟩, h3⟩, h4⟩, h5⟩ := h
    refine ⟨x, y, z, rfl, h1, h2, h3, ?_, h5⟩
    rcases hz : z.tx with ⟨d⟩
    rw [hz] at h4
    exact congrArg ByteArray.mk h4
theorem nb_scan (w : World) (hL : LibVar w) : Calls Try.prog 20 #[.string ⟨#[97, 47, 42, 42, 47, 98, 10, 32, 99, 10]⟩] w fun e w' => (∃ g cap, e = .returned (.tuple #[.slice (some ⟨g, 0, none⟩) 6 cap, .int .i64 0]) ∧ g < w'.heap.size ∧ TzRow w' g ((scanOf ⟨#[97, 47, 42, 42, 47, 98, 10, 32, 99, 10]⟩).map tzOf)) ∧ Below w.heap.size w w' := by
  have C := scan_row ⟨#[97, 47, 42, 42, 47, 98, 10, 32, 99, 10]⟩ w (by unfold maxLen; decide) hL
  have h0 : scanErr ⟨#[97, 47, 42, 42, 47, 98, 10, 32, 99, 10]⟩ = 0 := by rw [scanErr_F]; exact nb.1
  have h6 : (scanOf ⟨#[97, 47, 42, 42, 47, 98, 10, 32, 99, 10]⟩).length = 6 := by rw [scanOf_F]; exact nb.2.1
  rw [h0, h6] at C
  refine C.mono ?_
  rintro e w1 ⟨⟨a, cap, rfl, hr⟩, hb⟩
  obtain ⟨g, rfl, _, hg, hrow⟩ := hr (by decide)
  exact ⟨⟨g, cap, rfl, hg, hrow.tz⟩, hb⟩
theorem nb_bare (w : World) (g cap : Nat) (hg : g < w.heap.size) (hr : TzRow w g ((scanOf ⟨#[97, 47, 42, 42, 47, 98, 10, 32, 99, 10]⟩).map tzOf)) :
    Calls Try.prog 13 #[.slice (some ⟨g, 0, none⟩) 6 cap] w fun e w' => (∃ g' cap', e = .returned (.slice (some ⟨g', 0, none⟩) 3 cap') ∧ w'.cell? ⟨g', 4, none⟩ = some (.bool false) ∧ w'.cell? ⟨g', 9, none⟩ = some (.bool true) ∧ w'.cell? ⟨g', 14, none⟩ = some (.bool true) ∧ w'.cell? ⟨g', 11, none⟩ = some (.string ⟨#[99]⟩) ∧ w'.cell? ⟨g', 12, none⟩ = some (.int .i64 8)) ∧ Below w.heap.size w w' := by
  obtain ⟨x, y, z, hb, h1, h2, h3, h4, h5⟩ := nb_row
  have h6 : (scanOf ⟨#[97, 47, 42, 42, 47, 98, 10, 32, 99, 10]⟩).length = 6 := by rw [scanOf_F]; exact nb.2.1
  have hall : ∀ t ∈ (scanOf ⟨#[97, 47, 42, 42, 47, 98, 10, 32, 99, 10]⟩).map tzOf, t.tx.size ≤ 281474976710656 := by
    intro t ht
    rw [scanOf_F, List.mem_map] at ht
    obtain ⟨q, hq, rfl⟩ := ht
    have := of_decide_eq_true (List.all_eq_true.1 nb.2.2.2 q hq)
    show q.tx.size ≤ _
    omega
  have C := bare_any ((scanOf ⟨#[97, 47, 42, 42, 47, 98, 10, 32, 99, 10]⟩).map tzOf) 6 cap (some ⟨g, 0, none⟩) w (by rw [List.length_map, h6]) (by decide) hall (fun _ => ⟨g, rfl, hg, hr⟩)
  rw [hb] at C
  refine C.mono ?_
  rintro e w1 ⟨⟨v, rfl, hrow⟩, hb1⟩
  obtain ⟨g', cap', rfl, hc⟩ := row_some (n := 2) hrow
  refine ⟨⟨g', cap', rfl, ?_, ?_, ?_, ?_, ?_⟩, hb1⟩
  · rw [hc 4 (.bool x.sp) rfl, h1]
  · rw [hc 9 (.bool y.sp) rfl, h2]
  · rw [hc 14 (.bool z.sp) rfl, h3]
  · rw [hc 11 (.string z.tx) rfl, h4]
  · rw [hc 12 (.int .i64 z.a) rfl, h5]

set_option maxRecDepth 100000 in
set_option maxHeartbeats 8000000 in
theorem names_any (w : World) (hL : LibVar w) :
    Calls Try.prog 5 #[] w fun e w' => e = .returned (.bool true) ∧ Below w.heap.size w w' := by
  have HA := alive_any w hL
  go_enter Try.func5, Try.ntmps5
  go_wp2_with fail
  refine HA.mono ?_
  rintro e w1 ⟨rfl, hb1⟩
  go_wp2_with fail
  refine (texts_new ⟨#[49, 46, 101, 43, 120, 46, 121, 45, 49, 10]⟩ [⟨#[49, 46, 101, 43, 120, 46, 121]⟩, ⟨#[45]⟩, ⟨#[49]⟩, ⟨#[10]⟩] ⟨#[50, 53, 50, 57]⟩ (by unfold maxLen; decide) hL hb1 nt0).mono ?_
  rintro e w2 ⟨rfl, hb2⟩
  go_wp2_with fail
  refine (texts_new ⟨#[35, 105, 110, 99, 108, 117, 100, 101, 32, 60, 97, 47, 47, 98, 62, 10]⟩ [⟨#[35]⟩, ⟨#[105, 110, 99, 108, 117, 100, 101]⟩, ⟨#[60, 97, 47, 47, 98, 62]⟩, ⟨#[10]⟩] ⟨#[53, 49, 55, 57]⟩ (by unfold maxLen; decide) hL hb2 nt1).mono ?_
  rintro e w3 ⟨rfl, hb3⟩
  go_wp2_with fail
  refine (texts_new ⟨#[120, 32, 60, 97, 62, 32, 121, 10]⟩ [⟨#[120]⟩, ⟨#[60]⟩, ⟨#[97]⟩, ⟨#[62]⟩, ⟨#[121]⟩, ⟨#[10]⟩] ⟨#[49, 53, 49, 53, 49, 57]⟩ (by unfold maxLen; decide) hL hb3 nt2).mono ?_
  rintro e w4 ⟨rfl, hb4⟩
  go_wp2_with fail
  refine (texts_new ⟨#[76, 39, 97, 39, 32, 117, 56, 34, 98, 34, 32, 117, 56, 39, 99, 39, 10]⟩ [⟨#[76, 39, 97, 39]⟩, ⟨#[117, 56, 34, 98, 34]⟩, ⟨#[117, 56]⟩, ⟨#[39, 99, 39]⟩, ⟨#[10]⟩] ⟨#[51, 52, 49, 51, 57]⟩ (by unfold maxLen; decide) hL hb4 nt3).mono ?_
  rintro e w5 ⟨rfl, hb5⟩
  go_wp2_with fail
  refine (texts_new ⟨#[97, 47, 42, 42, 47, 98, 32, 47, 47, 32, 99, 10]⟩ [⟨#[97]⟩, ⟨#[47, 42, 42, 47]⟩, ⟨#[98]⟩, ⟨#[47, 47, 32, 99]⟩, ⟨#[10]⟩] ⟨#[49, 56, 49, 56, 57]⟩ (by unfold maxLen; decide) hL hb5 nt4).mono ?_
  rintro e w6 ⟨rfl, hb6⟩
  go_wp2_with fail
  refine (texts_new ⟨#[37, 58, 37, 58, 37, 58, 37, 10]⟩ [⟨#[37, 58, 37, 58]⟩, ⟨#[37, 58]⟩, ⟨#[37]⟩, ⟨#[10]⟩] ⟨#[53, 53, 53, 57]⟩ (by unfold maxLen; decide) hL hb6 nt5).mono ?_
  rintro e w7 ⟨rfl, hb7⟩
  go_wp2_with fail
  refine (texts_new ⟨#[46, 46, 49, 46, 46, 46, 92, 64, 10]⟩ [⟨#[46]⟩, ⟨#[46, 49, 46, 46, 46]⟩, ⟨#[92]⟩, ⟨#[64]⟩, ⟨#[10]⟩] ⟨#[53, 50, 54, 54, 57]⟩ (by unfold maxLen; decide) hL hb7 nt6).mono ?_
  rintro e w8 ⟨rfl, hb8⟩
  go_wp2_with fail
  refine (refused_at ⟨#[39, 97, 10]⟩ 21 (by unfold maxLen; decide) hL hb8 nr0 (by decide)).mono ?_
  rintro e w9 ⟨rfl, hb9⟩
  go_wp2_with fail
  refine (refused_at ⟨#[39, 39, 10]⟩ 21 (by unfold maxLen; decide) hL hb9 nr1 (by decide)).mono ?_
  rintro e w10 ⟨rfl, hb10⟩
  go_wp2_with fail
  refine (refused_at ⟨#[47, 42, 10]⟩ 20 (by unfold maxLen; decide) hL hb10 nr2 (by decide)).mono ?_
  rintro e w11 ⟨rfl, hb11⟩
  go_wp2_with fail
  refine (refused_at ⟨#[34, 92, 34, 10]⟩ 21 (by unfold maxLen; decide) hL hb11 nr3 (by decide)).mono ?_
  rintro e w12 ⟨rfl, hb12⟩
  go_wp2_with fail
  refine (refused_at ⟨#[97]⟩ 10 (by unfold maxLen; decide) hL hb12 nr4 (by decide)).mono ?_
  rintro e w13 ⟨rfl, hb13⟩
  go_wp2_with fail
  refine (refused_at ⟨#[47, 42, 47, 10]⟩ 20 (by unfold maxLen; decide) hL hb13 nr5 (by decide)).mono ?_
  rintro e w14 ⟨rfl, hb14⟩
  go_wp2_with fail
  refine (one_at ⟨#[117, 56, 34, 34]⟩ 4 true (by decide) hL hb14 no0).mono ?_
  rintro e w15 ⟨rfl, hb15⟩
  go_wp2_with fail
  refine (one_at ⟨#[97, 32, 98]⟩ 0 false (by decide) hL hb15 no1).mono ?_
  rintro e w16 ⟨rfl, hb16⟩
  go_wp2_with fail
  refine (one_at ⟨#[]⟩ 0 false (by decide) hL hb16 no2).mono ?_
  rintro e w17 ⟨rfl, hb17⟩
  go_wp2_with fail
  refine (fuses_at ⟨#[97, 32, 98]⟩ ⟨#[99]⟩ false 2 (by decide) (by decide) hL hb17 nf).mono ?_
  rintro e w18 ⟨rfl, hb18⟩
  go_wp2_with fail
  refine (texts_new ⟨#[35, 105, 110, 99, 108, 117, 100, 101, 32, 120, 32, 60, 121, 62, 10]⟩ [⟨#[35]⟩, ⟨#[105, 110, 99, 108, 117, 100, 101]⟩, ⟨#[120]⟩, ⟨#[60]⟩, ⟨#[121]⟩, ⟨#[62]⟩, ⟨#[10]⟩] ⟨#[53, 49, 49, 53, 49, 53, 57]⟩ (by unfold maxLen; decide) hL hb18 nt7).mono ?_
  rintro e w19 ⟨rfl, hb19⟩
  go_wp2_with fail
  refine (texts_new ⟨#[85, 34, 97, 34, 32, 85, 39, 98, 39, 10]⟩ [⟨#[85, 34, 97, 34]⟩, ⟨#[85, 39, 98, 39]⟩, ⟨#[10]⟩] ⟨#[52, 51, 57]⟩ (by unfold maxLen; decide) hL hb19 nt8).mono ?_
  rintro e w20 ⟨rfl, hb20⟩
  go_wp2_with fail
  refine (fuse_at ⟨#[43]⟩ ⟨#[43]⟩ true (by decide) (by decide) hL hb20 nu0).mono ?_
  rintro e w21 ⟨rfl, hb21⟩
  go_wp2_with fail
  refine (fuse_at ⟨#[97]⟩ ⟨#[49]⟩ true (by decide) (by decide) hL hb21 nu1).mono ?_
  rintro e w22 ⟨rfl, hb22⟩
  go_wp2_with fail
  refine (fuse_at ⟨#[49]⟩ ⟨#[97]⟩ true (by decide) (by decide) hL hb22 nu2).mono ?_
  rintro e w23 ⟨rfl, hb23⟩
  go_wp2_with fail
  refine (fuse_at ⟨#[47]⟩ ⟨#[42]⟩ true (by decide) (by decide) hL hb23 nu3).mono ?_
  rintro e w24 ⟨rfl, hb24⟩
  go_wp2_with fail
  refine (fuse_at ⟨#[97]⟩ ⟨#[43]⟩ false (by decide) (by decide) hL hb24 nu4).mono ?_
  rintro e w25 ⟨rfl, hb25⟩
  go_wp2_with fail
  refine (fuse_at ⟨#[117, 56]⟩ ⟨#[34, 34]⟩ true (by decide) (by decide) hL hb25 nu5).mono ?_
  rintro e w26 ⟨rfl, hb26⟩
  go_wp2_with fail
  refine (fuse_at ⟨#[47, 47]⟩ ⟨#[97]⟩ true (by decide) (by decide) hL hb26 nu6).mono ?_
  rintro e w27 ⟨rfl, hb27⟩
  go_wp2_with fail
  refine (fuse_at ⟨#[47, 47]⟩ ⟨#[10]⟩ false (by decide) (by decide) hL hb27 nu7).mono ?_
  rintro e w28 ⟨rfl, hb28⟩
  go_wp2_with fail
  refine (nb_scan _ (libVar_below hb28 hL)).mono ?_
  rintro e wS ⟨⟨g, cap, rfl, hg, hr⟩, hbS⟩
  have hbT := hb28.trans (hbS.mono hb28.size)
  have HB := nb_bare wS g cap hg hr
  clear hr
  go_wp2_with fail
  refine HB.mono ?_
  rintro e wB ⟨⟨g', cap', rfl, c4, c9, c14, c11, c12⟩, hbB⟩
  have hbU := hbT.trans (hbB.mono hbT.size)
  go_wp2
  go_ret
  exact ⟨rfl, hbU⟩

end Go.Proofs.Ytoepfehgimhmnaa
