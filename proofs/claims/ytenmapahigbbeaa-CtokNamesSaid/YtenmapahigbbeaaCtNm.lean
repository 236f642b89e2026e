/- The law CtokNames: the chapter's examples (written by gen_CtNames.py). -/
import Derived.Test.YtenmapahigbbeaaCtA
import Derived.Test.YtenmapahigbbeaaCtTk
namespace Go.Proofs.Ytenmapahigbbeaa
open Go.RowKit Go.Shelf

theorem none_yes (t : ByteArray) (w : World) (hs : t.size ≤ maxLen) (h : (intC t.data.toList).isNone = true) :
    Calls Try.prog 16 #[.string t] w fun e w' => e = .returned (.bool true) ∧ Below w.heap.size w w' := by
  have := none_any t w hs
  rw [h] at this
  exact this
theorem float_is (t : ByteArray) (b : Bool) (w : World) (hs : t.size ≤ maxLen) (h : floatC t.data.toList = b) :
    Calls Try.prog 17 #[.string t] w fun e w' => e = .returned (.bool b) ∧ Below w.heap.size w w' := by
  have := Float_any t w hs
  rw [h] at this
  exact this
set_option maxHeartbeats 1000000 in
theorem char_yes (t : ByteArray) (v : Int) (w : World) (hs : t.size ≤ 200000) (hL : LibVar w) (h : charR t = (v, 0)) :
    Calls Try.prog 18 #[.string t, .int .i64 v] w fun e w' => e = .returned (.bool true) ∧ Below w.heap.size w w' := by
  have C := Char_any t w hs hL
  rw [h] at C
  clear h
  go_enter Try.func18, Try.ntmps18
  go_wp2_with (go_at_call 10; refine C.mono ?_; rintro e w1 ⟨rfl, hb1⟩)
  all_goals
    go_ret
    first
      | exact ⟨rfl, hb1⟩
      | (refine ⟨rb ?_, hb1⟩; simp)
set_option maxHeartbeats 1000000 in
theorem bad_yes (t : ByteArray) (w : World) (hs : t.size ≤ 200000) (hL : LibVar w) (h : charR t = (0, 40)) :
    Calls Try.prog 19 #[.string t] w fun e w' => e = .returned (.bool true) ∧ Below w.heap.size w w' := by
  have C := Char_any t w hs hL
  rw [h] at C
  clear h
  go_enter Try.func19, Try.ntmps19
  go_wp2_with (go_at_call 10; refine C.mono ?_; rintro e w1 ⟨rfl, hb1⟩)
  go_ret
  exact ⟨rfl, hb1⟩

theorem ni0 : intR (⟨#[48, 49, 55]⟩ : ByteArray).data.toList = (15, false, 0) := by decide +kernel
theorem ni1 : intR (⟨#[48]⟩ : ByteArray).data.toList = (0, false, 0) := by decide +kernel
theorem ni2 : (intC (⟨#[48, 56]⟩ : ByteArray).data.toList).isNone = true := by decide +kernel
theorem ni3 : intR (⟨#[49, 117, 108]⟩ : ByteArray).data.toList = (1, true, 0) := by decide +kernel
theorem ni4 : intR (⟨#[49, 76, 76, 85]⟩ : ByteArray).data.toList = (1, true, 0) := by decide +kernel
theorem ni5 : (intC (⟨#[49, 108, 117, 108]⟩ : ByteArray).data.toList).isNone = true := by decide +kernel
theorem ni6 : (intC (⟨#[49, 76, 108]⟩ : ByteArray).data.toList).isNone = true := by decide +kernel
theorem ni7 : (intC (⟨#[]⟩ : ByteArray).data.toList).isNone = true := by decide +kernel
theorem ni8 : (intC (⟨#[48, 120]⟩ : ByteArray).data.toList).isNone = true := by decide +kernel
theorem ni9 : (intC (⟨#[49, 117, 117]⟩ : ByteArray).data.toList).isNone = true := by decide +kernel
theorem ni10 : (intC (⟨#[49, 56, 52, 52, 54, 55, 52, 52, 48, 55, 51, 55, 48, 57, 53, 53, 49, 54, 49, 53]⟩ : ByteArray).data.toList).isNone = true := by decide +kernel
theorem ni11 : intR (⟨#[49, 56, 52, 52, 54, 55, 52, 52, 48, 55, 51, 55, 48, 57, 53, 53, 49, 54, 49, 53, 117]⟩ : ByteArray).data.toList = (18446744073709551615, true, 0) := by decide +kernel
theorem ni12 : intR (⟨#[48, 120, 102, 102, 102, 102, 102, 102, 102, 102, 102, 102, 102, 102, 102, 102, 102, 102]⟩ : ByteArray).data.toList = (18446744073709551615, true, 0) := by decide +kernel
theorem ni13 : (intC (⟨#[49, 56, 52, 52, 54, 55, 52, 52, 48, 55, 51, 55, 48, 57, 53, 53, 49, 54, 49, 54, 117]⟩ : ByteArray).data.toList).isNone = true := by decide +kernel
theorem ni14 : intR (⟨#[57, 50, 50, 51, 51, 55, 50, 48, 51, 54, 56, 53, 52, 55, 55, 53, 56, 48, 55]⟩ : ByteArray).data.toList = (9223372036854775807, false, 0) := by decide +kernel
theorem ni15 : (intC (⟨#[48, 120, 49, 48, 48, 48, 48, 48, 48, 48, 48, 48, 48, 48, 48, 48, 48, 48, 48]⟩ : ByteArray).data.toList).isNone = true := by decide +kernel
theorem nfl0 : floatC (⟨#[49, 46]⟩ : ByteArray).data.toList = true := by decide +kernel
theorem nfl1 : floatC (⟨#[46, 53, 101, 45, 51, 102]⟩ : ByteArray).data.toList = true := by decide +kernel
theorem nfl2 : floatC (⟨#[49, 101, 53]⟩ : ByteArray).data.toList = true := by decide +kernel
theorem nfl3 : floatC (⟨#[48, 120, 46, 56, 112, 48]⟩ : ByteArray).data.toList = true := by decide +kernel
theorem nfl4 : floatC (⟨#[48, 120, 49, 46, 56]⟩ : ByteArray).data.toList = false := by decide +kernel
theorem nfl5 : floatC (⟨#[49]⟩ : ByteArray).data.toList = false := by decide +kernel
theorem nfl6 : floatC (⟨#[49, 101]⟩ : ByteArray).data.toList = false := by decide +kernel
theorem nfl7 : floatC (⟨#[46]⟩ : ByteArray).data.toList = false := by decide +kernel
theorem nfl8 : floatC (⟨#[49, 46, 102, 102]⟩ : ByteArray).data.toList = false := by decide +kernel
theorem nfl9 : floatC (⟨#[48, 88, 49, 80, 43, 57, 76]⟩ : ByteArray).data.toList = true := by decide +kernel
theorem nfl10 : floatC (⟨#[48, 120, 46, 112, 49]⟩ : ByteArray).data.toList = false := by decide +kernel
theorem nfl11 : floatC (⟨#[48, 56, 46, 53]⟩ : ByteArray).data.toList = true := by decide +kernel
theorem nc0 : charR ⟨#[39, 97, 39]⟩ = (97, 0) := by decide +kernel
theorem nc1 : charR ⟨#[39, 92, 120, 102, 102, 39]⟩ = (-1, 0) := by decide +kernel
theorem nc2 : charR ⟨#[39, 97, 98, 39]⟩ = (24930, 0) := by decide +kernel
theorem nc3 : charR ⟨#[76, 39, 92, 120, 102, 102, 39]⟩ = (255, 0) := by decide +kernel
theorem nc4 : charR ⟨#[39, 92, 52, 48, 48, 39]⟩ = (0, 40) := by decide +kernel
theorem nc5 : charR ⟨#[117, 39, 97, 98, 39]⟩ = (0, 40) := by decide +kernel
theorem nc6 : charR ⟨#[39, 97, 98, 99, 100, 101, 39]⟩ = (0, 40) := by decide +kernel
theorem nc7 : charR ⟨#[39, 92, 48, 48, 48, 49, 39]⟩ = (49, 0) := by decide +kernel
theorem nc8 : charR ⟨#[85, 39, 92, 120, 102, 102, 102, 102, 102, 102, 102, 102, 39]⟩ = (4294967295, 0) := by decide +kernel
theorem nc9 : charR ⟨#[39, 92, 113, 39]⟩ = (0, 40) := by decide +kernel
theorem nc10 : charR ⟨#[34, 97, 34]⟩ = (0, 40) := by decide +kernel
theorem nc11 : charR ⟨#[39, 92, 51, 55, 55, 92, 51, 55, 55, 92, 51, 55, 55, 92, 51, 55, 55, 39]⟩ = (-1, 0) := by decide +kernel
theorem ns1 : strC ⟨#[34, 97, 92, 48, 92, 49, 56, 34]⟩ = some [97, 0, 1, 56] := by decide +kernel
theorem ns2 : strC ⟨#[117, 56, 34, 34]⟩ = some [] := by decide +kernel
theorem ns3 : strC ⟨#[39, 97, 39]⟩ = none := by decide +kernel
theorem ncls {k : Int} {s : ByteArray} {c : Nat} (h : clsN k s = c) (h0 : c ≠ 0) (h7 : c ≠ 7) : clsR k s = (c, s, 0) := by
  unfold clsR
  rw [h, if_neg h0, if_neg h7]
theorem nk1 : clsN 1 ⟨#[105, 110, 116]⟩ = 1 := by decide +kernel
theorem nk2 : clsN 1 ⟨#[73, 110, 116]⟩ = 2 := by decide +kernel
theorem nk3 : clsN 2 ⟨#[49, 120]⟩ = 0 := by decide +kernel
theorem nk3R : clsR 2 ⟨#[49, 120]⟩ = (0, ⟨#[]⟩, 40) := by
  unfold clsR
  rw [nk3, if_pos rfl]
def nToks : List Tz := [⟨1, ⟨#[97]⟩, 0, 0, false⟩, ⟨8, ⟨#[]⟩, 0, 0, false⟩, ⟨6, ⟨#[64]⟩, 0, 0, false⟩]
theorem ntok : (tokR (bareS nToks).1).2.1 = 1 ∧ (tokR (bareS nToks).1).2.2 = 40 ∧ (tokR (bareS nToks).1).1.length = 0 := by decide +kernel

theorem str_four (w : World) (hL : LibVar w) : Calls Try.prog 12 #[.string ⟨#[34, 97, 92, 48, 92, 49, 56, 34]⟩] w fun e w' => (∃ g cap, e = .returned (.tuple #[.slice (some ⟨g, 0, none⟩) 4 cap, .int .i64 0]) ∧ g < w'.heap.size ∧ w'.cell? ⟨g, 0, none⟩ = some (.int .i64 97) ∧ w'.cell? ⟨g, 1, none⟩ = some (.int .i64 0) ∧ w'.cell? ⟨g, 2, none⟩ = some (.int .i64 1) ∧ w'.cell? ⟨g, 3, none⟩ = some (.int .i64 56)) ∧ Below w.heap.size w w' := by
  have C := Str_any ⟨#[34, 97, 92, 48, 92, 49, 56, 34]⟩ w (by decide) hL
  unfold StrR at C
  rw [ns1] at C
  refine C.mono ?_
  rintro e w1 ⟨⟨v, rfl, hrow⟩, hb⟩
  obtain ⟨a, cap, rfl⟩ := row_shape hrow
  obtain ⟨g, rfl, hg, hc⟩ := row_pos (by decide) hrow
  exact ⟨⟨g, cap, rfl, hg, hc 0 _ rfl, hc 1 _ rfl, hc 2 _ rfl, hc 3 _ rfl⟩, hb⟩
theorem str_empty (w : World) (hL : LibVar w) : Calls Try.prog 12 #[.string ⟨#[117, 56, 34, 34]⟩] w fun e w' => (∃ a cap, e = .returned (.tuple #[.slice a 0 cap, .int .i64 0])) ∧ Below w.heap.size w w' := by
  have C := Str_any ⟨#[117, 56, 34, 34]⟩ w (by decide) hL
  unfold StrR at C
  rw [ns2] at C
  refine C.mono ?_
  rintro e w1 ⟨⟨v, rfl, hrow⟩, hb⟩
  obtain ⟨a, cap, rfl⟩ := row_shape hrow
  exact ⟨⟨a, cap, rfl⟩, hb⟩
theorem str_not (w : World) (hL : LibVar w) : Calls Try.prog 12 #[.string ⟨#[39, 97, 39]⟩] w fun e w' => e = .returned (.tuple #[.slice none 0 0, .int .i64 40]) ∧ Below w.heap.size w w' := by
  have C := Str_any ⟨#[39, 97, 39]⟩ w (by decide) hL
  unfold StrR at C
  rw [ns3] at C
  exact C
theorem cls_at (k : Int) (s : ByteArray) (c : Nat) (x : ByteArray) (e0 : Nat) (w : World) (hs : s.size ≤ 200000) (hL : LibVar w) (h : clsR k s = (c, x, e0)) :
    Calls Try.prog 20 #[.int .i64 k, .string s] w fun e w' => e = .returned (.tuple #[.agg #[.int .i64 c, .string x], .int .i64 e0]) ∧ Below w.heap.size w w' := by
  have C := Class_any k s w hs hL
  rw [h] at C
  exact C
theorem nToks_lit : (tzCells nToks).toArray = #[.int .i64 1, .string ⟨#[97]⟩, .int .i64 0, .int .i64 0, .bool false, .int .i64 8, .string ⟨#[]⟩, .int .i64 0, .int .i64 0, .bool false, .int .i64 6, .string ⟨#[64]⟩, .int .i64 0, .int .i64 0, .bool false] := rfl
theorem tok_three0 (W : World) (hL : LibVar W) : Calls Try.prog 21 #[.slice (some ⟨W.heap.size, 0, none⟩) 3 3] (W.alloc (.cells (tzCells nToks).toArray 49)) fun e w' => (∃ a cap, e = .returned (.tuple #[.slice a 0 cap, .int .i64 1, .int .i64 40])) ∧ Below (W.alloc (.cells (tzCells nToks).toArray 49)).heap.size (W.alloc (.cells (tzCells nToks).toArray 49)) w' := by
  have hrow := World.ownsRow_lit (base := W.heap.size) (e := 49) (size := 5) W (tzCells nToks).toArray 3 (Nat.le_refl _) (by unfold maxLen; decide) rfl
  obtain ⟨h1, h2, h3⟩ := ntok
  have C := Tokens_any nToks 3 3 (some ⟨W.heap.size, 0, none⟩) (W.alloc (.cells (tzCells nToks).toArray 49)) rfl (by decide) (by decide) (libVar_below (below1 W _) hL) (fun _ => by
    obtain ⟨g, e, _, hg, hr⟩ := tzRow_own hrow (by decide)
    exact ⟨g, e, hg, hr⟩)
  refine C.mono ?_
  rintro e w1 ⟨⟨v, rfl, hr⟩, hb⟩
  rw [h3] at hr
  obtain ⟨a, cap, rfl⟩ := row_shape hr
  rw [h1, h2]
  exact ⟨⟨a, cap, rfl⟩, hb⟩

theorem tok_three (W : World) (B : Nat) (hB : W.heap.size = B) (hL : LibVar W) : Calls Try.prog 21 #[.slice (some ⟨B, 0, none⟩) 3 3] (W.alloc (.cells #[.int .i64 1, .string ⟨#[97]⟩, .int .i64 0, .int .i64 0, .bool false, .int .i64 8, .string ⟨#[]⟩, .int .i64 0, .int .i64 0, .bool false, .int .i64 6, .string ⟨#[64]⟩, .int .i64 0, .int .i64 0, .bool false] 49)) fun e w' => (∃ a cap, e = .returned (.tuple #[.slice a 0 cap, .int .i64 1, .int .i64 40])) ∧ Below W.heap.size W w' := by
  subst hB
  have h := tok_three0 W hL
  rw [nToks_lit] at h
  refine h.mono ?_
  rintro e w1 ⟨h1, h2⟩
  exact ⟨h1, (below1 W _).trans (h2.mono (below1 W _).size)⟩

set_option maxRecDepth 100000 in
set_option maxHeartbeats 4000000 in
theorem ctnames_any (w : World) (hL : LibVar w) :
    Calls Try.prog 4 #[] w fun e w' => e = .returned (.bool true) ∧ Below w.heap.size w w' := by
  have B0 := Below.refl w.heap.size w
  go_enter Try.func4, Try.ntmps4
  go_wp2_with fail
  refine (worth_yes ⟨#[48, 49, 55]⟩ 15 false _ (by unfold maxLen; decide) ni0).mono ?_
  rintro e w1 ⟨rfl, hb1⟩
  have B1 := B0.trans (hb1.mono B0.size)
  clear B0 hb1
  go_wp2_with fail
  refine (worth_yes ⟨#[48]⟩ 0 false _ (by unfold maxLen; decide) ni1).mono ?_
  rintro e w2 ⟨rfl, hb2⟩
  have B2 := B1.trans (hb2.mono B1.size)
  clear B1 hb2
  go_wp2_with fail
  refine (none_yes ⟨#[48, 56]⟩ _ (by unfold maxLen; decide) ni2).mono ?_
  rintro e w3 ⟨rfl, hb3⟩
  have B3 := B2.trans (hb3.mono B2.size)
  clear B2 hb3
  go_wp2_with fail
  refine (worth_yes ⟨#[49, 117, 108]⟩ 1 true _ (by unfold maxLen; decide) ni3).mono ?_
  rintro e w4 ⟨rfl, hb4⟩
  have B4 := B3.trans (hb4.mono B3.size)
  clear B3 hb4
  go_wp2_with fail
  refine (worth_yes ⟨#[49, 76, 76, 85]⟩ 1 true _ (by unfold maxLen; decide) ni4).mono ?_
  rintro e w5 ⟨rfl, hb5⟩
  have B5 := B4.trans (hb5.mono B4.size)
  clear B4 hb5
  go_wp2_with fail
  refine (none_yes ⟨#[49, 108, 117, 108]⟩ _ (by unfold maxLen; decide) ni5).mono ?_
  rintro e w6 ⟨rfl, hb6⟩
  have B6 := B5.trans (hb6.mono B5.size)
  clear B5 hb6
  go_wp2_with fail
  refine (none_yes ⟨#[49, 76, 108]⟩ _ (by unfold maxLen; decide) ni6).mono ?_
  rintro e w7 ⟨rfl, hb7⟩
  have B7 := B6.trans (hb7.mono B6.size)
  clear B6 hb7
  go_wp2_with fail
  refine (none_yes ⟨#[]⟩ _ (by unfold maxLen; decide) ni7).mono ?_
  rintro e w8 ⟨rfl, hb8⟩
  have B8 := B7.trans (hb8.mono B7.size)
  clear B7 hb8
  go_wp2_with fail
  refine (none_yes ⟨#[48, 120]⟩ _ (by unfold maxLen; decide) ni8).mono ?_
  rintro e w9 ⟨rfl, hb9⟩
  have B9 := B8.trans (hb9.mono B8.size)
  clear B8 hb9
  go_wp2_with fail
  refine (none_yes ⟨#[49, 117, 117]⟩ _ (by unfold maxLen; decide) ni9).mono ?_
  rintro e w10 ⟨rfl, hb10⟩
  have B10 := B9.trans (hb10.mono B9.size)
  clear B9 hb10
  go_wp2_with fail
  refine (none_yes ⟨#[49, 56, 52, 52, 54, 55, 52, 52, 48, 55, 51, 55, 48, 57, 53, 53, 49, 54, 49, 53]⟩ _ (by unfold maxLen; decide) ni10).mono ?_
  rintro e w11 ⟨rfl, hb11⟩
  have B11 := B10.trans (hb11.mono B10.size)
  clear B10 hb11
  go_wp2_with fail
  refine (worth_yes ⟨#[49, 56, 52, 52, 54, 55, 52, 52, 48, 55, 51, 55, 48, 57, 53, 53, 49, 54, 49, 53, 117]⟩ 18446744073709551615 true _ (by unfold maxLen; decide) ni11).mono ?_
  rintro e w12 ⟨rfl, hb12⟩
  have B12 := B11.trans (hb12.mono B11.size)
  clear B11 hb12
  go_wp2_with fail
  refine (worth_yes ⟨#[48, 120, 102, 102, 102, 102, 102, 102, 102, 102, 102, 102, 102, 102, 102, 102, 102, 102]⟩ 18446744073709551615 true _ (by unfold maxLen; decide) ni12).mono ?_
  rintro e w13 ⟨rfl, hb13⟩
  have B13 := B12.trans (hb13.mono B12.size)
  clear B12 hb13
  go_wp2_with fail
  refine (none_yes ⟨#[49, 56, 52, 52, 54, 55, 52, 52, 48, 55, 51, 55, 48, 57, 53, 53, 49, 54, 49, 54, 117]⟩ _ (by unfold maxLen; decide) ni13).mono ?_
  rintro e w14 ⟨rfl, hb14⟩
  have B14 := B13.trans (hb14.mono B13.size)
  clear B13 hb14
  go_wp2_with fail
  refine (worth_yes ⟨#[57, 50, 50, 51, 51, 55, 50, 48, 51, 54, 56, 53, 52, 55, 55, 53, 56, 48, 55]⟩ 9223372036854775807 false _ (by unfold maxLen; decide) ni14).mono ?_
  rintro e w15 ⟨rfl, hb15⟩
  have B15 := B14.trans (hb15.mono B14.size)
  clear B14 hb15
  go_wp2_with fail
  refine (none_yes ⟨#[48, 120, 49, 48, 48, 48, 48, 48, 48, 48, 48, 48, 48, 48, 48, 48, 48, 48, 48]⟩ _ (by unfold maxLen; decide) ni15).mono ?_
  rintro e w16 ⟨rfl, hb16⟩
  have B16 := B15.trans (hb16.mono B15.size)
  clear B15 hb16
  go_wp2_with fail
  refine (float_is ⟨#[49, 46]⟩ true _ (by unfold maxLen; decide) nfl0).mono ?_
  rintro e w17 ⟨rfl, hb17⟩
  have B17 := B16.trans (hb17.mono B16.size)
  clear B16 hb17
  go_wp2_with fail
  refine (float_is ⟨#[46, 53, 101, 45, 51, 102]⟩ true _ (by unfold maxLen; decide) nfl1).mono ?_
  rintro e w18 ⟨rfl, hb18⟩
  have B18 := B17.trans (hb18.mono B17.size)
  clear B17 hb18
  go_wp2_with fail
  refine (float_is ⟨#[49, 101, 53]⟩ true _ (by unfold maxLen; decide) nfl2).mono ?_
  rintro e w19 ⟨rfl, hb19⟩
  have B19 := B18.trans (hb19.mono B18.size)
  clear B18 hb19
  go_wp2_with fail
  refine (float_is ⟨#[48, 120, 46, 56, 112, 48]⟩ true _ (by unfold maxLen; decide) nfl3).mono ?_
  rintro e w20 ⟨rfl, hb20⟩
  have B20 := B19.trans (hb20.mono B19.size)
  clear B19 hb20
  go_wp2_with fail
  refine (float_is ⟨#[48, 120, 49, 46, 56]⟩ false _ (by unfold maxLen; decide) nfl4).mono ?_
  rintro e w21 ⟨rfl, hb21⟩
  have B21 := B20.trans (hb21.mono B20.size)
  clear B20 hb21
  go_wp2_with fail
  refine (float_is ⟨#[49]⟩ false _ (by unfold maxLen; decide) nfl5).mono ?_
  rintro e w22 ⟨rfl, hb22⟩
  have B22 := B21.trans (hb22.mono B21.size)
  clear B21 hb22
  go_wp2_with fail
  refine (float_is ⟨#[49, 101]⟩ false _ (by unfold maxLen; decide) nfl6).mono ?_
  rintro e w23 ⟨rfl, hb23⟩
  have B23 := B22.trans (hb23.mono B22.size)
  clear B22 hb23
  go_wp2_with fail
  refine (float_is ⟨#[46]⟩ false _ (by unfold maxLen; decide) nfl7).mono ?_
  rintro e w24 ⟨rfl, hb24⟩
  have B24 := B23.trans (hb24.mono B23.size)
  clear B23 hb24
  go_wp2_with fail
  refine (float_is ⟨#[49, 46, 102, 102]⟩ false _ (by unfold maxLen; decide) nfl8).mono ?_
  rintro e w25 ⟨rfl, hb25⟩
  have B25 := B24.trans (hb25.mono B24.size)
  clear B24 hb25
  go_wp2_with fail
  refine (float_is ⟨#[48, 88, 49, 80, 43, 57, 76]⟩ true _ (by unfold maxLen; decide) nfl9).mono ?_
  rintro e w26 ⟨rfl, hb26⟩
  have B26 := B25.trans (hb26.mono B25.size)
  clear B25 hb26
  go_wp2_with fail
  refine (float_is ⟨#[48, 120, 46, 112, 49]⟩ false _ (by unfold maxLen; decide) nfl10).mono ?_
  rintro e w27 ⟨rfl, hb27⟩
  have B27 := B26.trans (hb27.mono B26.size)
  clear B26 hb27
  go_wp2_with fail
  refine (float_is ⟨#[48, 56, 46, 53]⟩ true _ (by unfold maxLen; decide) nfl11).mono ?_
  rintro e w28 ⟨rfl, hb28⟩
  have B28 := B27.trans (hb28.mono B27.size)
  clear B27 hb28
  go_wp2_with fail
  refine (char_yes ⟨#[39, 97, 39]⟩ (97) _ (by decide) (libVar_below B28 hL) nc0).mono ?_
  rintro e w29 ⟨rfl, hb29⟩
  have B29 := B28.trans (hb29.mono B28.size)
  clear B28 hb29
  go_wp2_with fail
  refine (char_yes ⟨#[39, 92, 120, 102, 102, 39]⟩ (-1) _ (by decide) (libVar_below B29 hL) nc1).mono ?_
  rintro e w30 ⟨rfl, hb30⟩
  have B30 := B29.trans (hb30.mono B29.size)
  clear B29 hb30
  go_wp2_with fail
  refine (char_yes ⟨#[39, 97, 98, 39]⟩ (24930) _ (by decide) (libVar_below B30 hL) nc2).mono ?_
  rintro e w31 ⟨rfl, hb31⟩
  have B31 := B30.trans (hb31.mono B30.size)
  clear B30 hb31
  go_wp2_with fail
  refine (char_yes ⟨#[76, 39, 92, 120, 102, 102, 39]⟩ (255) _ (by decide) (libVar_below B31 hL) nc3).mono ?_
  rintro e w32 ⟨rfl, hb32⟩
  have B32 := B31.trans (hb32.mono B31.size)
  clear B31 hb32
  go_wp2_with fail
  refine (bad_yes ⟨#[39, 92, 52, 48, 48, 39]⟩ _ (by decide) (libVar_below B32 hL) nc4).mono ?_
  rintro e w33 ⟨rfl, hb33⟩
  have B33 := B32.trans (hb33.mono B32.size)
  clear B32 hb33
  go_wp2_with fail
  refine (bad_yes ⟨#[117, 39, 97, 98, 39]⟩ _ (by decide) (libVar_below B33 hL) nc5).mono ?_
  rintro e w34 ⟨rfl, hb34⟩
  have B34 := B33.trans (hb34.mono B33.size)
  clear B33 hb34
  go_wp2_with fail
  refine (bad_yes ⟨#[39, 97, 98, 99, 100, 101, 39]⟩ _ (by decide) (libVar_below B34 hL) nc6).mono ?_
  rintro e w35 ⟨rfl, hb35⟩
  have B35 := B34.trans (hb35.mono B34.size)
  clear B34 hb35
  go_wp2_with fail
  refine (char_yes ⟨#[39, 92, 48, 48, 48, 49, 39]⟩ (49) _ (by decide) (libVar_below B35 hL) nc7).mono ?_
  rintro e w36 ⟨rfl, hb36⟩
  have B36 := B35.trans (hb36.mono B35.size)
  clear B35 hb36
  go_wp2_with fail
  refine (char_yes ⟨#[85, 39, 92, 120, 102, 102, 102, 102, 102, 102, 102, 102, 39]⟩ (4294967295) _ (by decide) (libVar_below B36 hL) nc8).mono ?_
  rintro e w37 ⟨rfl, hb37⟩
  have B37 := B36.trans (hb37.mono B36.size)
  clear B36 hb37
  go_wp2_with fail
  refine (bad_yes ⟨#[39, 92, 113, 39]⟩ _ (by decide) (libVar_below B37 hL) nc9).mono ?_
  rintro e w38 ⟨rfl, hb38⟩
  have B38 := B37.trans (hb38.mono B37.size)
  clear B37 hb38
  go_wp2_with fail
  refine (bad_yes ⟨#[34, 97, 34]⟩ _ (by decide) (libVar_below B38 hL) nc10).mono ?_
  rintro e w39 ⟨rfl, hb39⟩
  have B39 := B38.trans (hb39.mono B38.size)
  clear B38 hb39
  go_wp2_with fail
  refine (char_yes ⟨#[39, 92, 51, 55, 55, 92, 51, 55, 55, 92, 51, 55, 55, 92, 51, 55, 55, 39]⟩ (-1) _ (by decide) (libVar_below B39 hL) nc11).mono ?_
  rintro e w40 ⟨rfl, hb40⟩
  have B40 := B39.trans (hb40.mono B39.size)
  clear B39 hb40
  go_wp2_with fail
  refine (str_four _ (libVar_below B40 hL)).mono ?_
  rintro e w41 ⟨⟨g, cp1, rfl, hg, c0, c1, c2, c3⟩, hb41⟩
  have B41 := B40.trans (hb41.mono B40.size)
  clear B40 hb41
  go_wp2_with fail
  refine (str_empty _ (libVar_below B41 hL)).mono ?_
  rintro e w42 ⟨⟨a2, cp2, rfl⟩, hb42⟩
  have B42 := B41.trans (hb42.mono B41.size)
  go_wp2_with fail
  refine (str_not _ (libVar_below B42 hL)).mono ?_
  rintro e w43 ⟨rfl, hb43⟩
  have B43 := B42.trans (hb43.mono B42.size)
  have D := hb42.trans (hb43.mono hb42.size)
  have d0 : w43.cell? ⟨g, 0, none⟩ = some (.int .i64 97) := (D.cell (p := ⟨g, 0, none⟩) hg).trans c0
  have d1 : w43.cell? ⟨g, 1, none⟩ = some (.int .i64 0) := (D.cell (p := ⟨g, 1, none⟩) hg).trans c1
  have d2 : w43.cell? ⟨g, 2, none⟩ = some (.int .i64 1) := (D.cell (p := ⟨g, 2, none⟩) hg).trans c2
  have d3 : w43.cell? ⟨g, 3, none⟩ = some (.int .i64 56) := (D.cell (p := ⟨g, 3, none⟩) hg).trans c3
  clear D c0 c1 c2 c3 B41 B42 hb42 hb43
  have C43 := B43
  go_wp2_with fail
  refine (cls_at 1 ⟨#[105, 110, 116]⟩ 1 ⟨#[105, 110, 116]⟩ 0 _ (by decide) (libVar_below C43 hL) (ncls nk1 (by decide) (by decide))).mono ?_
  rintro e w44 ⟨rfl, hb44⟩
  have B44 := C43.trans (hb44.mono C43.size)
  have C44 := B44.alloc B44.size (.cells #[.int .i64 1, .string ⟨#[105, 110, 116]⟩] 42)
  clear d0 d1 d2 d3 hg
  go_wp2_with fail
  refine (cls_at 1 ⟨#[73, 110, 116]⟩ 2 ⟨#[73, 110, 116]⟩ 0 _ (by decide) (libVar_below C44 hL) (ncls nk2 (by decide) (by decide))).mono ?_
  rintro e w45 ⟨rfl, hb45⟩
  have B45 := C44.trans (hb45.mono C44.size)
  have C45 := B45.alloc B45.size (.cells #[.int .i64 2, .string ⟨#[73, 110, 116]⟩] 42)
  go_wp2_with fail
  refine (cls_at 2 ⟨#[49, 120]⟩ 0 ⟨#[]⟩ 40 _ (by decide) (libVar_below C45 hL) nk3R).mono ?_
  rintro e w46 ⟨rfl, hb46⟩
  have B46 := C45.trans (hb46.mono C45.size)
  have C46 := B46.alloc B46.size (.cells #[.int .i64 0, .string ⟨#[]⟩] 42)
  go_wp2_with fail
  refine (tok_three (w46.alloc (.cells #[.int .i64 0, .string ⟨#[]⟩] 42)) (w46.heap.size + 1) (by simp) (libVar_below C46 hL)).mono ?_
  rintro e w47 ⟨⟨a9, cp9, rfl⟩, hb47⟩
  have E3 : Below (w46.alloc (.cells #[.int .i64 0, .string ⟨#[]⟩] 42)).heap.size (w46.alloc (.cells #[.int .i64 0, .string ⟨#[]⟩] 42)) w47 := hb47
  have B47 := C46.trans (E3.mono C46.size)
  have F3 : Below w46.heap.size w46 w47 := (below1 w46 _).trans (E3.mono (below1 w46 _).size)
  have E2 : Below (w45.alloc (.cells #[.int .i64 2, .string ⟨#[73, 110, 116]⟩] 42)).heap.size (w45.alloc (.cells #[.int .i64 2, .string ⟨#[73, 110, 116]⟩] 42)) w47 := hb46.trans (F3.mono hb46.size)
  have F2 : Below w45.heap.size w45 w47 := (below1 w45 _).trans (E2.mono (below1 w45 _).size)
  have E1 : Below (w44.alloc (.cells #[.int .i64 1, .string ⟨#[105, 110, 116]⟩] 42)).heap.size (w44.alloc (.cells #[.int .i64 1, .string ⟨#[105, 110, 116]⟩] 42)) w47 := hb45.trans (F2.mono hb45.size)
  obtain ⟨d0, -, -, -⟩ := pair_cells (pair_below E1)
  obtain ⟨f0, -, -, -⟩ := pair_cells (pair_below E2)
  have HA := alive4_any w47 (libVar_below B47 hL)
  clear E1 E2 E3 F2 F3 hb44 hb45 hb46 hb47
  go_wp2_with fail
  refine HA.mono ?_
  rintro e wz ⟨rfl, hbz⟩
  go_wp2
  go_ret
  exact ⟨rfl, B47.trans (hbz.mono B47.size)⟩

end Go.Proofs.Ytenmapahigbbeaa
