/- The law MacroDefines: its walk, at a nil list. -/
import Derived.Test.YtaodjipnffgihaaMcZ
namespace Go.Proofs.Ytaodjipnffgihaa
open Go.RowKit Go.Shelf

set_option maxRecDepth 100000 in
set_option maxHeartbeats 16000000 in
theorem mdef_nil (w : World) :
    Calls Try.prog 3 #[.slice none 0 0] w fun e w' => e = .returned (.bool true) ∧ Below w.heap.size w w' := by
  obtain ⟨ts, hts⟩ : ∃ ts : List Tz, ts = [] := ⟨_, rfl⟩
  have HN : Hid (ts.length = 0) := Lib.hid (by rw [hts]; rfl)
  have hTA : ∀ (W : World) (a : Option Addr), TzIn W a ts := fun W a hp => absurd hp (by rw [hts]; decide)
  have HT : Hid (∀ W, Below w.heap.size w W → TzIn W none ts) := Lib.hid (fun W h => hTA W none)
  have HX : Hid (∀ t ∈ ts, t.tx.size ≤ 281474976710656) := Lib.hid (fun t h => by rw [hts] at h; cases h)
  have hfit := defM_fit ts
  rw [HN.out] at hfit
  have CD := fun (c : Nat) (a : Option Addr) (W : World) (hc : 0 ≤ c) (h : TzIn W a ts) => (define_any ts 0 c a W HN.out hc (by decide) HX.out h).mono (fun e w' h => DefRes.is h)
  have CR := fun (c : Nat) (a : Option Addr) (W : World) (hc : 0 ≤ c) (h : TzIn W a ts) => (rDefine_any ts 0 c a W HN.out hc (by decide) h).mono (fun e w' h => DefRes.is h)
  obtain ⟨D, hD⟩ : ∃ D, defM ts = D := ⟨_, rfl⟩
  rw [hD] at hfit
  simp only [hD] at CD CR
  obtain ⟨m, z⟩ := D
  simp only at CD CR hfit
  obtain ⟨hf1, hf2, hf3⟩ := hfit
  replace hf1 : m.ps.length ≤ 140737488355328 := by omega
  replace hf2 : m.bs.length ≤ 140737488355328 := by omega
  have HF3 := Lib.hid hf3
  clear hD hf3 hts
  go_enter Try.func3, Try.ntmps3
  go_wp2_with fail
  have hb1 := below1 w (.cells #[] 49)
  generalize w.alloc (.cells #[] 49) = w1 at *
  have hT1 : TzIn w1 (some ⟨w.heap.size, 0, none⟩) ts := hTA _ _
  have HT1 := Lib.hid hT1
  clear hTA
  refine (CD 0 (some ⟨w.heap.size, 0, none⟩) w1 (Nat.le_refl _) hT1).mono ?_
  rintro e w2 ⟨⟨pa1, pc1, ba1, bc1, rfl, hp1, hq1⟩, hb2⟩
  have hB2 := hb1.trans (hb2.mono hb1.size)
  have hb2' := hb2
  have hp1' := hp1
  have hq1' := hq1
  have hA2 := MzBox.new w2 (.string m.nm) (.bool m.fn) (.slice pa1 m.ps.length pc1) (.bool m.vr) (.slice ba1 m.bs.length bc1)
  have hbA := below1 w2 (.cells #[.string m.nm, .bool m.fn, .slice pa1 m.ps.length pc1, .bool m.vr, .slice ba1 m.bs.length bc1] 26)
  have hB3 := hB2.trans (hbA.mono hB2.size)
  have hT3 := (hT1.below hb2).below hbA
  have hp3 := row_below hp1 hbA
  have hq3 := row_below hq1 hbA
  clear hp1 hq1 CD
  go_wp2_with fail
  refine (CR 0 none _ (Nat.le_refl _) (HT.out _ hB3)).mono ?_
  rintro e w4 ⟨⟨pa2, pc2, ba2, bc2, rfl, hp4, hq4⟩, hb4⟩
  have hbB := below1 w4 (.cells #[.string m.nm, .bool m.fn, .slice pa2 m.ps.length pc2, .bool m.vr, .slice ba2 m.bs.length bc2] 26)
  have hb5 := hb4.trans (hbB.mono hb4.size)
  have hB5 := hB3.trans (hb5.mono hB3.size)
  have hb25 := hbA.trans (hb5.mono hbA.size)
  have h125 := hb2'.trans (hb25.mono hb2'.size)
  have hA5 := hA2.below hb5
  have hBB5 := MzBox.new w4 (.string m.nm) (.bool m.fn) (.slice pa2 m.ps.length pc2) (.bool m.vr) (.slice ba2 m.bs.length bc2)
  have hT5 := hT3.below hb5
  have hp5 := row_below hp3 hb5
  have hq5 := row_below hq3 hb5
  have hp6 := row_below hp4 hbB
  have hq6 := row_below hq4 hbB
  clear hp4 hq4 hT3 CR hp3 hq3 hA2 hbA hb4 hb2
  have CO := of_any ts 0 0 (some ⟨w.heap.size, 0, none⟩) _ HN.out (by decide) HX.out hT5
  go_wp2_with fail
  refine CO.mono ?_
  rintro e w6 ⟨⟨v6, rfl, hr6⟩, hb6⟩
  obtain ⟨pa3, pc3, rfl⟩ := row_shape hr6
  have hs4 := hb5.size
  have hAl := (Array.getElem?_eq_some_iff.1 hA5).1
  have hA6 := hA5.below hb6
  have hB6 := hBB5.below hb6
  have hW6 := hB5.trans (hb6.mono hB5.size)
  have h126 : Below w1.heap.size w1 w6 := by
    have h1 := hb2'.trans ((below1 w2 (.cells #[.string m.nm, .bool m.fn, .slice pa1 m.ps.length pc1, .bool m.vr, .slice ba1 m.bs.length bc1] 26)).mono hb2'.size)
    have h2 := h1.trans (hb5.mono h1.size)
    exact h2.trans (hb6.mono h2.size)
  have HP1 : Hid (∀ W, Below w6.heap.size w6 W → StrIn W pa1 m.ps) := Lib.hid (fun W h => (strIn_row rfl (row_below hp5 hb6)).below h)
  have HP2 : Hid (∀ W, Below w6.heap.size w6 W → StrIn W pa2 m.ps) := Lib.hid (fun W h => (strIn_row rfl (row_below hp6 hb6)).below h)
  have HQ1 : Hid (∀ W, Below w6.heap.size w6 W → PzIn W ba1 m.bs) := Lib.hid (fun W h => (pzIn_row rfl HF3.out (row_below hq5 hb6)).below h)
  have HQ2 : Hid (∀ W, Below w6.heap.size w6 W → PzIn W ba2 m.bs) := Lib.hid (fun W h => (pzIn_row rfl HF3.out (row_below hq6 hb6)).below h)
  have HR3 : Hid (∀ W, Below w6.heap.size w6 W → PzIn W pa3 (ts.map pzOf)) := Lib.hid (fun W h => (pzIn_row (by rw [List.length_map, HN.out]) (fun p hp => by obtain ⟨y, _, rfl⟩ := List.mem_map.1 hp; rfl) hr6).below h)
  have HW1 : Hid (RowW w6 w1.heap.size w2.heap.size 9 1 pa1 m.ps.length) := Lib.hid ((rowW_of hp1').below (hb25.trans (hb6.mono hb25.size)))
  have HW2 : Hid (RowW w6 w1.heap.size w2.heap.size 36 4 ba1 m.bs.length) := Lib.hid ((rowW_of hq1').below (hb25.trans (hb6.mono hb25.size)))
  have HW3 : Hid (RowW w6 w1.heap.size w6.heap.size 36 4 pa3 0) := Lib.hid (rowW_lo (by have := h125.size; exact this) (rowW_of hr6))
  have CS := fun (W : World) (h : Below w6.heap.size w6 W) => rSame_mz m m pa1 pa2 ba1 ba2 pc1 pc2 bc1 bc2 W (by omega) (by omega) (by omega) (by omega) (HP1.out W h) (HP2.out W h) (HQ1.out W h) (HQ2.out W h)
  have CM := fun (W : World) (h : Below w6.heap.size w6 W) => same_mz m m pa1 pa2 ba1 ba2 pc1 pc2 bc1 bc2 W (by omega) (by omega) (by omega) (by omega) (HP1.out W h) (HP2.out W h) (HQ1.out W h) (HQ2.out W h)
  simp only [sameM_self] at CS CM
  have CF := fun (W : World) (h : Below w.heap.size w W) => rOf_any ts 0 0 (none) W HN.out (by decide) (HT.out W h)
  have HSD : Hid (∀ W, Below w6.heap.size w6 W → MzBox W w2.heap.size (.string m.nm) (.bool m.fn) (.slice pa1 m.ps.length pc1) (.bool m.vr) (.slice ba1 m.bs.length bc1) ∧ MzBox W w4.heap.size (.string m.nm) (.bool m.fn) (.slice pa2 m.ps.length pc2) (.bool m.vr) (.slice ba2 m.bs.length bc2)) := Lib.hid (fun W h => ⟨hA6.below h, hB6.below h⟩)
  clear CO hp5 hp6 hq5 hq6 hT5 hA5 hBB5 hB5 hb5 hB3 hbB hr6
  go_upto_region 5 with fail
  refine wp_region_held_drew (S := (fun W : World => MzBox W w2.heap.size (.string m.nm) (.bool m.fn) (.slice pa1 m.ps.length pc1) (.bool m.vr) (.slice ba1 m.bs.length bc1) ∧ MzBox W w4.heap.size (.string m.nm) (.bool m.fn) (.slice pa2 m.ps.length pc2) (.bool m.vr) (.slice ba2 m.bs.length bc2))) (by kernel_rfl) (HSD.out _ (below_drewN (Below.refl _ _) 1)) (fun hS => ?_)
  refine take_op (i := 0) (d := 27) (v := .agg #[.string m.nm, .bool m.fn, .slice pa1 m.ps.length pc1, .bool m.vr, .slice ba1 m.bs.length bc1]) rfl rfl (by kernel_rfl) (by kernel_rfl) (by kernel_rfl) (fun _ _ _ h => h) (Or.inl ⟨by rfl, ?_⟩) hS ?_
  · rintro W hW
    obtain ⟨x0, x1, x2, x3, x4, -, -, -, -, -⟩ := hW.1.facts
    obtain ⟨y0, y1, y2, y3, y4, -, -, -, -, -⟩ := hW.2.facts
    go_simp
  simp only [List.setIfInBounds_toArray, List.set_cons_zero, List.set_cons_succ]
  refine take_op (i := 1) (d := 28) (v := .agg #[.string m.nm, .bool m.fn, .slice pa2 m.ps.length pc2, .bool m.vr, .slice ba2 m.bs.length bc2]) rfl rfl (by kernel_rfl) (by kernel_rfl) (by kernel_rfl) (fun _ _ _ h => h) (Or.inl ⟨by rfl, ?_⟩) hS ?_
  · rintro W hW
    obtain ⟨x0, x1, x2, x3, x4, -, -, -, -, -⟩ := hW.1.facts
    obtain ⟨y0, y1, y2, y3, y4, -, -, -, -, -⟩ := hW.2.facts
    go_simp
  simp only [List.setIfInBounds_toArray, List.set_cons_zero, List.set_cons_succ]
  have x0' : Below w6.heap.size w6 w6.drew := below_drewN (Below.refl _ _) 1
  refine wpAnyH_ready (rs := [2]) (by kernel_rfl) (by simp) ?_
  refine AllReadyH.cons rfl (fun K hK => ?_) AllReadyH.nil
  go_simp
  refine (CS _ x0').mono ?_
  rintro e v1 ⟨rfl, hbv1⟩
  have x1' := x0'.trans (hbv1.mono x0'.size)
  go_wp2_with fail
  refine hK.out _ _ (HSD.out _ x1') (fun hS => ?_)
  clear hK K
  refine take_op (i := 3) (d := 30) (v := .bool false) rfl rfl (by kernel_rfl) (by kernel_rfl) (by kernel_rfl) (fun _ _ _ h => h) (Or.inl ⟨by rfl, ?_⟩) hS ?_
  · rintro W hW
    obtain ⟨x0, x1, x2, x3, x4, -, -, -, -, -⟩ := hW.1.facts
    obtain ⟨y0, y1, y2, y3, y4, -, -, -, -, -⟩ := hW.2.facts
    go_simp
  simp only [List.setIfInBounds_toArray, List.set_cons_zero, List.set_cons_succ]
  refine take_op (i := 4) (d := 31) (v := .bool false) rfl rfl (by kernel_rfl) (by kernel_rfl) (by kernel_rfl) (fun _ _ _ h => h) (Or.inl ⟨by rfl, ?_⟩) hS ?_
  · rintro W hW
    obtain ⟨x0, x1, x2, x3, x4, -, -, -, -, -⟩ := hW.1.facts
    obtain ⟨y0, y1, y2, y3, y4, -, -, -, -, -⟩ := hW.2.facts
    go_simp
  simp only [List.setIfInBounds_toArray, List.set_cons_zero, List.set_cons_succ]
  refine take_op (i := 5) (d := 32) (v := .int .i64 z) rfl rfl (by kernel_rfl) (by kernel_rfl) (by kernel_rfl) (fun _ _ _ h => h) (Or.inl ⟨by rfl, ?_⟩) hS ?_
  · rintro W hW
    obtain ⟨x0, x1, x2, x3, x4, -, -, -, -, -⟩ := hW.1.facts
    obtain ⟨y0, y1, y2, y3, y4, -, -, -, -, -⟩ := hW.2.facts
    go_simp
  simp only [List.setIfInBounds_toArray, List.set_cons_zero, List.set_cons_succ]
  refine take_op (i := 6) (d := 33) (v := .int .i64 z) rfl rfl (by kernel_rfl) (by kernel_rfl) (by kernel_rfl) (fun _ _ _ h => h) (Or.inl ⟨by rfl, ?_⟩) hS ?_
  · rintro W hW
    obtain ⟨x0, x1, x2, x3, x4, -, -, -, -, -⟩ := hW.1.facts
    obtain ⟨y0, y1, y2, y3, y4, -, -, -, -, -⟩ := hW.2.facts
    go_simp
  simp only [List.setIfInBounds_toArray, List.set_cons_zero, List.set_cons_succ]
  refine take_op (i := 7) (d := 34) (v := .bool false) rfl rfl (by kernel_rfl) (by kernel_rfl) (by kernel_rfl) (fun _ _ _ h => h) (Or.inl ⟨by rfl, ?_⟩) hS ?_
  · rintro W hW
    obtain ⟨x0, x1, x2, x3, x4, -, -, -, -, -⟩ := hW.1.facts
    obtain ⟨y0, y1, y2, y3, y4, -, -, -, -, -⟩ := hW.2.facts
    go_simp
  simp only [List.setIfInBounds_toArray, List.set_cons_zero, List.set_cons_succ]
  refine take_op (i := 8) (d := 35) (v := .bool false) rfl rfl (by kernel_rfl) (by kernel_rfl) (by kernel_rfl) (fun _ _ _ h => h) (Or.inl ⟨by rfl, ?_⟩) hS ?_
  · rintro W hW
    obtain ⟨x0, x1, x2, x3, x4, -, -, -, -, -⟩ := hW.1.facts
    obtain ⟨y0, y1, y2, y3, y4, -, -, -, -, -⟩ := hW.2.facts
    go_simp
  simp only [List.setIfInBounds_toArray, List.set_cons_zero, List.set_cons_succ]
  refine take_op (i := 9) (d := 36) (v := .bool false) rfl rfl (by kernel_rfl) (by kernel_rfl) (by kernel_rfl) (fun _ _ _ h => h) (Or.inl ⟨by rfl, ?_⟩) hS ?_
  · rintro W hW
    obtain ⟨x0, x1, x2, x3, x4, -, -, -, -, -⟩ := hW.1.facts
    obtain ⟨y0, y1, y2, y3, y4, -, -, -, -, -⟩ := hW.2.facts
    go_simp
  simp only [List.setIfInBounds_toArray, List.set_cons_zero, List.set_cons_succ]
  refine take_op (i := 10) (d := 37) (v := .agg #[.string m.nm, .bool m.fn, .slice pa1 m.ps.length pc1, .bool m.vr, .slice ba1 m.bs.length bc1]) rfl rfl (by kernel_rfl) (by kernel_rfl) (by kernel_rfl) (fun _ _ _ h => h) (Or.inl ⟨by rfl, ?_⟩) hS ?_
  · rintro W hW
    obtain ⟨x0, x1, x2, x3, x4, -, -, -, -, -⟩ := hW.1.facts
    obtain ⟨y0, y1, y2, y3, y4, -, -, -, -, -⟩ := hW.2.facts
    go_simp
  simp only [List.setIfInBounds_toArray, List.set_cons_zero, List.set_cons_succ]
  refine take_op (i := 11) (d := 38) (v := .agg #[.string m.nm, .bool m.fn, .slice pa2 m.ps.length pc2, .bool m.vr, .slice ba2 m.bs.length bc2]) rfl rfl (by kernel_rfl) (by kernel_rfl) (by kernel_rfl) (fun _ _ _ h => h) (Or.inl ⟨by rfl, ?_⟩) hS ?_
  · rintro W hW
    obtain ⟨x0, x1, x2, x3, x4, -, -, -, -, -⟩ := hW.1.facts
    obtain ⟨y0, y1, y2, y3, y4, -, -, -, -, -⟩ := hW.2.facts
    go_simp
  simp only [List.setIfInBounds_toArray, List.set_cons_zero, List.set_cons_succ]
  refine take_op (i := 13) (d := 40) (v := .agg #[.string m.nm, .bool m.fn, .slice pa1 m.ps.length pc1, .bool m.vr, .slice ba1 m.bs.length bc1]) rfl rfl (by kernel_rfl) (by kernel_rfl) (by kernel_rfl) (fun _ _ _ h => h) (Or.inl ⟨by rfl, ?_⟩) hS ?_
  · rintro W hW
    obtain ⟨x0, x1, x2, x3, x4, -, -, -, -, -⟩ := hW.1.facts
    obtain ⟨y0, y1, y2, y3, y4, -, -, -, -, -⟩ := hW.2.facts
    go_simp
  simp only [List.setIfInBounds_toArray, List.set_cons_zero, List.set_cons_succ]
  refine take_op (i := 14) (d := 41) (v := .agg #[.string m.nm, .bool m.fn, .slice pa2 m.ps.length pc2, .bool m.vr, .slice ba2 m.bs.length bc2]) rfl rfl (by kernel_rfl) (by kernel_rfl) (by kernel_rfl) (fun _ _ _ h => h) (Or.inl ⟨by rfl, ?_⟩) hS ?_
  · rintro W hW
    obtain ⟨x0, x1, x2, x3, x4, -, -, -, -, -⟩ := hW.1.facts
    obtain ⟨y0, y1, y2, y3, y4, -, -, -, -, -⟩ := hW.2.facts
    go_simp
  simp only [List.setIfInBounds_toArray, List.set_cons_zero, List.set_cons_succ]
  refine wpAnyH_ready (rs := [12]) (by kernel_rfl) (by simp) ?_
  refine AllReadyH.cons rfl (fun K hK => ?_) AllReadyH.nil
  go_simp
  refine (CM _ x1').mono ?_
  rintro e v2 ⟨rfl, hbv2⟩
  have x2' := x1'.trans (hbv2.mono x1'.size)
  go_wp2_with fail
  refine hK.out _ _ (HSD.out _ x2') (fun hS => ?_)
  clear hK K
  refine wpAnyH_ready (rs := [15]) (by kernel_rfl) (by simp) ?_
  refine AllReadyH.cons rfl (fun K hK => ?_) AllReadyH.nil
  go_simp
  refine (CS _ x2').mono ?_
  rintro e v3 ⟨rfl, hbv3⟩
  have x3' := x2'.trans (hbv3.mono x2'.size)
  go_wp2_with fail
  refine hK.out _ _ (HSD.out _ x3') (fun hS => ?_)
  clear hK K
  refine take_op (i := 16) (d := 43) (v := .bool false) rfl rfl (by kernel_rfl) (by kernel_rfl) (by kernel_rfl) (fun _ _ _ h => h) (Or.inl ⟨by rfl, ?_⟩) hS ?_
  · rintro W hW
    obtain ⟨x0, x1, x2, x3, x4, -, -, -, -, -⟩ := hW.1.facts
    obtain ⟨y0, y1, y2, y3, y4, -, -, -, -, -⟩ := hW.2.facts
    go_simp
  simp only [List.setIfInBounds_toArray, List.set_cons_zero, List.set_cons_succ]
  refine take_op (i := 17) (d := 44) (v := .bool false) rfl rfl (by kernel_rfl) (by kernel_rfl) (by kernel_rfl) (fun _ _ _ h => h) (Or.inl ⟨by rfl, ?_⟩) hS ?_
  · rintro W hW
    obtain ⟨x0, x1, x2, x3, x4, -, -, -, -, -⟩ := hW.1.facts
    obtain ⟨y0, y1, y2, y3, y4, -, -, -, -, -⟩ := hW.2.facts
    go_simp
  simp only [List.setIfInBounds_toArray, List.set_cons_zero, List.set_cons_succ]
  refine take_op (i := 18) (d := 45) (v := .bool false) rfl rfl (by kernel_rfl) (by kernel_rfl) (by kernel_rfl) (fun _ _ _ h => h) (Or.inl ⟨by rfl, ?_⟩) hS ?_
  · rintro W hW
    obtain ⟨x0, x1, x2, x3, x4, -, -, -, -, -⟩ := hW.1.facts
    obtain ⟨y0, y1, y2, y3, y4, -, -, -, -, -⟩ := hW.2.facts
    go_simp
  simp only [List.setIfInBounds_toArray, List.set_cons_zero, List.set_cons_succ]
  refine take_op (i := 19) (d := 46) (v := .slice pa3 0 pc3) rfl rfl (by kernel_rfl) (by kernel_rfl) (by kernel_rfl) (fun _ _ _ h => h) (Or.inl ⟨by rfl, ?_⟩) hS ?_
  · rintro W hW
    obtain ⟨x0, x1, x2, x3, x4, -, -, -, -, -⟩ := hW.1.facts
    obtain ⟨y0, y1, y2, y3, y4, -, -, -, -, -⟩ := hW.2.facts
    go_simp
  simp only [List.setIfInBounds_toArray, List.set_cons_zero, List.set_cons_succ]
  refine take_op (i := 20) (d := 47) (v := .slice (none) 0 0) rfl rfl (by kernel_rfl) (by kernel_rfl) (by kernel_rfl) (fun _ _ _ h => h) (Or.inl ⟨by rfl, ?_⟩) hS ?_
  · rintro W hW
    obtain ⟨x0, x1, x2, x3, x4, -, -, -, -, -⟩ := hW.1.facts
    obtain ⟨y0, y1, y2, y3, y4, -, -, -, -, -⟩ := hW.2.facts
    go_simp
  simp only [List.setIfInBounds_toArray, List.set_cons_zero, List.set_cons_succ]
  refine wpAnyH_ready (rs := [21]) (by kernel_rfl) (by simp) ?_
  refine AllReadyH.cons rfl (fun K hK => ?_) AllReadyH.nil
  go_simp
  refine (CF _ (hW6.trans (x3'.mono hW6.size))).mono ?_
  rintro e v4 ⟨⟨v7, rfl, hr7⟩, hbv4⟩
  have x4' := x3'.trans (hbv4.mono x3'.size)
  go_wp2_with fail
  refine hK.out _ _ (HSD.out _ x4') (fun hS => ?_)
  clear hK K
  obtain ⟨pa4, pc4, rfl⟩ := row_shape hr7
  have CG := rSameToks_any (ts.map pzOf) (ts.map pzOf) 0 0 pc3 pc4 pa3 pa4 v4 (by rw [List.length_map, HN.out]) (by rw [List.length_map, HN.out]) (by omega) (by omega) (HR3.out _ x4') (pzIn_row (by rw [List.length_map, HN.out]) (fun p hp => by obtain ⟨y, _, rfl⟩ := List.mem_map.1 hp; rfl) hr7)
  simp only [samePs_self] at CG
  refine wpAnyH_ready (rs := [22]) (by kernel_rfl) (by simp) ?_
  refine AllReadyH.cons rfl (fun K hK => ?_) AllReadyH.nil
  go_simp
  refine CG.mono ?_
  rintro e v5 ⟨rfl, hbv5⟩
  have x9 := x4'.trans (hbv5.mono x4'.size)
  go_wp2_with fail
  refine hK.out _ _ (HSD.out _ x9) (fun hS => ?_)
  clear hK K
  refine take_op (i := 23) (d := 50) (v := .bool false) rfl rfl (by kernel_rfl) (by kernel_rfl) (by kernel_rfl) (fun _ _ _ h => h) (Or.inl ⟨by rfl, ?_⟩) hS ?_
  · rintro W hW
    obtain ⟨x0, x1, x2, x3, x4, -, -, -, -, -⟩ := hW.1.facts
    obtain ⟨y0, y1, y2, y3, y4, -, -, -, -, -⟩ := hW.2.facts
    go_simp
  simp only [List.setIfInBounds_toArray, List.set_cons_zero, List.set_cons_succ]
  refine take_op (i := 24) (d := 51) (v := .bool false) rfl rfl (by kernel_rfl) (by kernel_rfl) (by kernel_rfl) (fun _ _ _ h => h) (Or.inl ⟨by rfl, ?_⟩) hS ?_
  · rintro W hW
    obtain ⟨x0, x1, x2, x3, x4, -, -, -, -, -⟩ := hW.1.facts
    obtain ⟨y0, y1, y2, y3, y4, -, -, -, -, -⟩ := hW.2.facts
    go_simp
  simp only [List.setIfInBounds_toArray, List.set_cons_zero, List.set_cons_succ]

  refine wpAnyH_done (by kernel_rfl) ?_ _
  clear hS CS CM CF HP1 HP2 HQ1 HQ2 HR3
  have hA9 := (HSD.out _ x9).1
  have h129 := h126.trans (x9.mono h126.size)
  have HV1 := Lib.hid (HW1.out.below x9)
  have HV2 := Lib.hid (HW2.out.below x9)
  have HV3 := Lib.hid (HW3.out.below x9)
  have hW9 := hW6.trans (x9.mono hW6.size)
  clear HSD HW1 HW2 HW3 hA6 hB6
  go_wp2
  go_loopw [9] (fun i wx => ∃ k : Nat, k ≤ m.ps.length ∧ i = .int .i64 k ∧ MzBox wx w2.heap.size (.string m.nm) (.bool m.fn) (.slice pa1 m.ps.length pc1) (.bool m.vr) (.slice ba1 m.bs.length bc1) ∧ Below w1.heap.size w1 wx ∧ Below w.heap.size w wx ∧ Hid (RowW wx w1.heap.size w2.heap.size 9 1 pa1 m.ps.length) ∧ Hid (RowW wx w1.heap.size w2.heap.size 36 4 ba1 m.bs.length) ∧ Hid (RowW wx w1.heap.size w6.heap.size 36 4 pa3 0)) (fun i _ => m.ps.length - (intOf i).toNat)
  case atStart => exact ⟨0, Nat.zero_le _, rfl, hA9, h129, hW9, HV1, HV2, HV3⟩
  case round =>
    obtain ⟨k, hk, rfl, hA, hlow, hloww, H1, H2, H3⟩ := hrel
    obtain ⟨-, -, d2, -, -, -, -, -, -, -⟩ := hA.facts
    by_cases hlt : k < m.ps.length
    · obtain ⟨g, cur, rfl, hg1, hg2, hgc, hgs⟩ := H1.out (by omega)
      have e0 := rowW_cell (j := k) hgc (by omega)
      have f0 := rowW_frozen (j := k) hgc
      obtain ⟨u0, e0⟩ := e0
      have j1 : (k : Int) < (m.ps.length : Int) := by omega
      have j0 : (0 : Int) ≤ (k : Int) := by omega
      have hsw : w.heap.size ≤ g := by have := hb1.size; omega
      go_wp2
      refine ⟨⟨k + 1, by omega, by go_num, hA.far (show g ≠ w2.heap.size by omega), hlow.setCell (p := ⟨g, k, none⟩) hg1 _, hloww.setCell (p := ⟨g, k, none⟩) hsw _, Lib.hid H1.out.set, Lib.hid H2.out.set, Lib.hid H3.out.set⟩, ?_⟩
      simp [intOf]; omega
    · have j1 : ¬ (k : Int) < (m.ps.length : Int) := by omega
      clear H1 hk hlt
      go_wp2
      go_loopw [10] (fun i wx => ∃ k : Nat, k ≤ m.bs.length ∧ i = .int .i64 k ∧ MzBox wx w2.heap.size (.string m.nm) (.bool m.fn) (.slice pa1 m.ps.length pc1) (.bool m.vr) (.slice ba1 m.bs.length bc1) ∧ Below w1.heap.size w1 wx ∧ Below w.heap.size w wx ∧ Hid (RowW wx w1.heap.size w2.heap.size 36 4 ba1 m.bs.length) ∧ Hid (RowW wx w1.heap.size w6.heap.size 36 4 pa3 0)) (fun i _ => m.bs.length - (intOf i).toNat)
      case atStart => exact ⟨0, Nat.zero_le _, rfl, hA, hlow, hloww, H2, H3⟩
      case round =>
        clear hA hlow hloww H2 H3 d2
        obtain ⟨k, hk, rfl, hA, hlow, hloww, H2, H3⟩ := hrel
        obtain ⟨-, -, -, -, d4, -, -, -, -, -⟩ := hA.facts
        by_cases hlt : k < m.bs.length
        · obtain ⟨g, cur, rfl, hg1, hg2, hgc, hgs⟩ := H2.out (by omega)
          obtain ⟨u0, e0⟩ := rowW_cell (j := k * 4) hgc (by omega)
          obtain ⟨u1, e1⟩ := rowW_cell (j := k * 4 + 1) hgc (by omega)
          obtain ⟨u2, e2⟩ := rowW_cell (j := k * 4 + 2) hgc (by omega)
          obtain ⟨u3, e3⟩ := rowW_cell (j := k * 4 + 3) hgc (by omega)
          have f0 := rowW_frozen (j := k * 4) hgc
          have f1 := rowW_frozen (j := k * 4 + 1) hgc
          have f2 := rowW_frozen (j := k * 4 + 2) hgc
          have f3 := rowW_frozen (j := k * 4 + 3) hgc
          have j1 : (k : Int) < (m.bs.length : Int) := by omega
          have j0 : (0 : Int) ≤ (k : Int) := by omega
          have hsw : w.heap.size ≤ g := by have := hb1.size; omega
          go_wp2
          refine ⟨⟨k + 1, by omega, by go_num, (((hA.far (show g ≠ w2.heap.size by omega)).far (show g ≠ w2.heap.size by omega)).far (show g ≠ w2.heap.size by omega)).far (show g ≠ w2.heap.size by omega), (((hlow.setCell (p := ⟨g, k * 4, none⟩) hg1 _).setCell (p := ⟨g, k * 4 + 1, none⟩) hg1 _).setCell (p := ⟨g, k * 4 + 2, none⟩) hg1 _).setCell (p := ⟨g, k * 4 + 3, none⟩) hg1 _, (((hloww.setCell (p := ⟨g, k * 4, none⟩) hsw _).setCell (p := ⟨g, k * 4 + 1, none⟩) hsw _).setCell (p := ⟨g, k * 4 + 2, none⟩) hsw _).setCell (p := ⟨g, k * 4 + 3, none⟩) hsw _, Lib.hid H2.out.set.set.set.set, Lib.hid H3.out.set.set.set.set⟩, ?_⟩
          simp [intOf]; omega
        · have j1 : ¬ (k : Int) < (m.bs.length : Int) := by omega
          clear H2 hk hlt
          go_wp2
          go_loopw [11] (fun i wx => ∃ k : Nat, k ≤ 0 ∧ i = .int .i64 k ∧ Below w1.heap.size w1 wx ∧ Below w.heap.size w wx ∧ Hid (RowW wx w1.heap.size w6.heap.size 36 4 pa3 0)) (fun i _ => 0 - (intOf i).toNat)
          case atStart => exact ⟨0, Nat.zero_le _, rfl, hlow, hloww, H3⟩
          case round =>
            clear hA hlow hloww H3 d4
            obtain ⟨k, hk, rfl, hlow, hloww, H3⟩ := hrel
            by_cases hlt : k < 0
            · exact absurd hlt (Nat.not_lt_zero _)
            · have j1 : ¬ (k : Int) < (0 : Int) := by omega
              clear H3 hk hlt
              have CE := same_any ts 0 0 0 (some ⟨w.heap.size, 0, none⟩) (none) wr HN.out (by unfold maxLen; omega) (fun h => by
                obtain ⟨b, o, e, _, hr⟩ := (HT1.out.below hlow) (by rw [HN.out]; exact h)
                exact ⟨b, o, e, hr⟩) (fun h => by
                obtain ⟨b, o, e, _, hr⟩ := (HT.out wr hloww) (by rw [HN.out]; exact h)
                exact ⟨b, o, e, hr⟩)
              go_wp2_with fail
              refine CE.mono ?_
              rintro e w12 ⟨rfl, q, rfl⟩
              go_wp2
              go_ret
              exact ⟨rfl, below_drewN hloww q⟩

end Go.Proofs.Ytaodjipnffgihaa
