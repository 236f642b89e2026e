/- regletref05.Twin: a macro in memory of its own. -/
import Derived.Test.YtaodjipnffgihaaGreatTyD
import Derived.Test.YtaodjipnffgihaaGreatMcK
namespace Go.Proofs.YtaodjipnffgihaaGreat
open Go.RowKit

theorem pzVals_get {rs : List Pz} {vs : List Value} {i : Nat} {r : Pz} {u : Value} (h1 : rs[i]? = some r) (h2 : vs[i]? = some u) (j : Nat) (hj : j < 4) : (pzVals rs vs)[i * 4 + j]? = ([.int .i64 r.k, .string r.tx, .bool r.sp, u] : List Value)[j]? := by
  induction rs generalizing vs i with
  | nil => simp at h1
  | cons q rs ih =>
    cases vs with
    | nil => simp at h2
    | cons v vs =>
      cases i with
      | zero =>
        simp only [List.getElem?_cons_zero, Option.some.injEq] at h1 h2
        subst h1 h2
        rw [pzVals, List.getElem?_append_left (by simp; omega), Nat.zero_mul, Nat.zero_add]
      | succ i =>
        rw [List.getElem?_cons_succ] at h1 h2
        rw [pzVals, List.getElem?_append_right (by simp; omega)]
        have e : (i + 1) * 4 + j - ([.int .i64 q.k, .string q.tx, .bool q.sp, v] : List Value).length = i * 4 + j := by simp; omega
        rw [e]
        exact ih h1 h2
theorem OwnPz.in {W : World} {B : Nat} {v : Value} {rs : List Pz} {vs : List Value} (h : OwnPz W B v rs vs) (hl : ∀ p ∈ rs, p.ps.length ≤ 140737488355328) : ∃ a cap, v = .slice a rs.length cap ∧ PzIn W a rs := by
  obtain ⟨a, cap, rfl⟩ := row_shape h.row
  refine ⟨a, cap, rfl, fun hp => ?_⟩
  obtain ⟨g, rfl, hg, hc⟩ := row_pos hp h.row
  refine ⟨g, 0, rfl, hg, fun i p hi => ?_⟩
  obtain ⟨u, hu⟩ : ∃ u, vs[i]? = some u := ⟨_, List.getElem?_eq_getElem (by rw [← h.len]; exact (List.getElem?_eq_some_iff.1 hi).1)⟩
  have ht := h.ts i p u hi hu
  obtain ⟨ua, uc, rfl⟩ := row_shape ht
  rw [Nat.zero_add]
  exact ⟨hc (i * 4) _ (pzVals_get hi hu 0 (by omega)), hc (i * 4 + 1) _ (pzVals_get hi hu 1 (by omega)), hc (i * 4 + 2) _ (pzVals_get hi hu 2 (by omega)), ua, uc, hc (i * 4 + 3) _ (pzVals_get hi hu 3 (by omega)), strIn_row rfl ht, hl p (List.mem_of_getElem? hi)⟩
theorem OwnPz.keeps {X Z : World} {B : Nat} {v : Value} {rs : List Pz} {vs : List Value} (h : OwnPz X B v rs vs) (hT : KeepsT 9 X Z) (hR : KeepsT 35 X Z) : OwnPz Z B v rs vs :=
  ⟨h.len, ownsRow_keepsT h.row hR, fun i r u h1 h2 => ownsRow_keepsT (h.ts i r u h1 h2) hT⟩
theorem keepsT_set5 {T : TypeId} {W : World} {P : Nat} {a b c d e a' b' c' d' e' : Value} (h : MzBox W P a b c d e) (hne : T ≠ 25) : KeepsT T W (((((W.setCell ⟨P, 0, none⟩ a').setCell ⟨P, 1, none⟩ b').setCell ⟨P, 2, none⟩ c').setCell ⟨P, 3, none⟩ d').setCell ⟨P, 4, none⟩ e') := by
  have h1 := h.set0 a'
  have h2 := h1.set1 b'
  have h3 := h2.set2 c'
  have h4 := h3.set3 d'
  exact ((((keepsT_other h hne a').trans (keepsT_other h1 hne b')).trans (keepsT_other h2 hne c')).trans (keepsT_other h3 hne d')).trans (keepsT_other h4 hne e')

set_option maxRecDepth 100000 in
set_option maxHeartbeats 4000000 in
theorem rTwin_any (m : Mz) (pa ba : Option Addr) (pn pc n bc : Nat) (w : World) (hpn : m.ps.length = pn) (hn : m.bs.length = n) (hp2 : pn ≤ 400) (hn2 : n ≤ 1000) (hT : StrIn w pa m.ps) (hB : PzIn w ba m.bs) (hl : ∀ p ∈ m.bs, p.ps.length * 16 ≤ 140737488355328) :
    Calls Tryz.prog 5 #[.agg #[.string m.nm, .bool m.fn, .slice pa pn pc, .bool m.vr, .slice ba n bc]] w fun e w' => (∃ va vc ua uc, e = .returned (.agg #[.string m.nm, .bool m.fn, .slice va pn vc, .bool m.vr, .slice ua n uc]) ∧ StrIn w' va m.ps ∧ PzIn w' ua m.bs) ∧ Below w.heap.size w w' := by
  obtain ⟨i0, hi, hz0, hz1, hz2⟩ := info_parts infoSt
  have HPN := Lib.hid hpn
  have HN := Lib.hid hn
  have HT := Lib.hid hT
  have HB := Lib.hid hB
  have HL := Lib.hid hl
  have hbA := below1 w (.cells #[.string m.nm, .bool m.fn, .slice pa pn pc, .bool m.vr, .slice ba n bc] 25)
  have hRA := MzBox.new w (.string m.nm) (.bool m.fn) (.slice pa pn pc) (.bool m.vr) (.slice ba n bc)
  clear hpn hn hT hB hl
  obtain ⟨WA, hWA⟩ : ∃ WA, w.alloc (.cells #[.string m.nm, .bool m.fn, .slice pa pn pc, .bool m.vr, .slice ba n bc] 25) = WA := ⟨_, rfl⟩
  have hsA : WA.heap.size = w.heap.size + 1 := by rw [← hWA, World.size_alloc]
  rw [hWA] at hbA hRA
  have hbB := below1 WA (.cells #[.string ⟨#[]⟩, .bool false, .slice none 0 0, .bool false, .slice none 0 0] 25)
  have hRB := MzBox.new WA (.string ⟨#[]⟩) (.bool false) (.slice none 0 0) (.bool false) (.slice none 0 0)
  obtain ⟨WB, hWB⟩ : ∃ WB, WA.alloc (.cells #[.string ⟨#[]⟩, .bool false, .slice none 0 0, .bool false, .slice none 0 0] 25) = WB := ⟨_, rfl⟩
  have hsB : WB.heap.size = w.heap.size + 1 + 1 := by rw [← hWB, World.size_alloc, hsA]
  rw [hWB] at hbB hRB
  have hbC := below1 WB (.cells #[.string m.nm, .bool m.fn, .slice none 0 0, .bool m.vr, .slice ba n bc] 25)
  have hRC := MzBox.new WB (.string m.nm) (.bool m.fn) (.slice none 0 0) (.bool m.vr) (.slice ba n bc)
  obtain ⟨WC, hWC⟩ : ∃ WC, WB.alloc (.cells #[.string m.nm, .bool m.fn, .slice none 0 0, .bool m.vr, .slice ba n bc] 25) = WC := ⟨_, rfl⟩
  have hsC : WC.heap.size = w.heap.size + 1 + 1 + 1 := by rw [← hWC, World.size_alloc, hsB]
  rw [hWC] at hbC hRC
  have hBB := hbA.trans (hbB.mono hbA.size)
  have hBC := hBB.trans (hbC.mono hBB.size)
  have hR1 := (hRA.below hbB).below hbC
  have hR2 := hRB.below hbC
  rw [hsA] at hR2
  rw [hsB] at hRC
  obtain ⟨y0, y1, y2, y3, y4, -, -, -, -, -⟩ := hRA.facts
  obtain ⟨t0, t1, t2, t3, t4, -, -, -, -, -⟩ := (hRA.below hbB).facts
  obtain ⟨u0, u1, u2, u3, u4, -, -, -, -, -⟩ := hR1.facts
  obtain ⟨x0, x1, x2, x3, x4, g0, g1, g2, g3, g4⟩ := hRC.facts
  have hnil : WC.ownsRow w.heap.size 9 1 (.slice none 0 0) 0 [] := World.ownsRow_nil _ _ _ _
  have hsw := hBC.size
  cases pa with
  | none =>
    have hp0 : pn = 0 := by
      rcases Nat.eq_zero_or_pos pn with h | h
      · exact h
      · obtain ⟨_, _, e, _⟩ := HT.out (by rw [HPN.out]; exact h)
        cases e
    subst hp0
    go_enter Tryz.func5, Tryz.ntmps5
    go_wp2_with fail
    have hB4 := hBC
    have hR1' := hR1
    have hR2' := hR2
    have hR3' := hRC
    clear t0 t1 t2 t3 t4 y0 y1 y2 y3 y4 u0 u1 u2 u3 u4 x0 x1 x2 x3 x4 g0 g1 g2 g3 g4
    have hk5 : KeepsT 9 WC (WC.setCell ⟨w.heap.size + 1 + 1, 2, none⟩ (.slice none 0 0)) := keepsT_other hR3' (by decide) _
    have hR3s := hR3'.set2 (.slice none 0 0)
    have hR2s := hR2'.far (g := w.heap.size + 1 + 1) (i := 2) (u := .slice none 0 0) (by omega)
    have hB5 := hB4.setCell (p := ⟨w.heap.size + 1 + 1, 2, none⟩) (by show w.heap.size ≤ w.heap.size + 1 + 1; omega) (.slice none 0 0)
    have CTW := twinP_any n bc ba (WC.setCell ⟨w.heap.size + 1 + 1, 2, none⟩ (.slice none 0 0)) (by omega) m.bs HN.out HL.out (fun hp => (HB.out.below hB5) (by rw [HN.out]; exact hp))
    refine CTW.mono ?_
    rintro e w6 ⟨⟨v, vs, rfl, hO⟩, hb6⟩
    have hO0 := hO
    obtain ⟨ua, uc, rfl⟩ := row_shape hO.row
    rw [HN.out]
    have hB6 := hB5.trans (hb6.mono hB5.size)
    have hR3t := hR3s.below hb6
    have hR2t := hR2s.below hb6
    obtain ⟨-, -, -, -, q4, -, -, -, -, gq4⟩ := hR3t.facts
    have hR3u := hR3t.set4 (.slice ua n uc)
    have hR2u := hR2t.far (g := w.heap.size + 1 + 1) (i := 4) (u := .slice ua n uc) (by omega)
    have hB7 := hB6.setCell (p := ⟨w.heap.size + 1 + 1, 4, none⟩) (by show w.heap.size ≤ w.heap.size + 1 + 1; omega) (.slice ua n uc)
    obtain ⟨l0, l1, l2, l3, l4, -, -, -, -, -⟩ := hR3u.facts
    obtain ⟨z0, z1, z2, z3, z4, f0, f1, f2', f3, f4⟩ := hR2u.facts
    have K1 : KeepsT 9 w6 (w6.setCell ⟨w.heap.size + 1 + 1, 4, none⟩ (.slice ua n uc)) := keepsT_other hR3t (by decide) _
    have K2 : KeepsT 35 w6 (w6.setCell ⟨w.heap.size + 1 + 1, 4, none⟩ (.slice ua n uc)) := keepsT_other hR3t (by decide) _
    clear CTW hR1' hR2' hR3' hR3s hR2s hk5
    go_wp2
    clear z0 z1 z2 z3 z4 f0 f1 f2' f3 f4
    have hR2v := ((((hR2u.set0 (.string m.nm)).set1 (.bool m.fn)).set2 (.slice none 0 0)).set3 (.bool m.vr)).set4 (.slice ua n uc)
    obtain ⟨z0, z1, z2, z3, z4, -, -, -, -, -⟩ := hR2v.facts
    refine bodyPost_ret (v := .agg #[.string m.nm, .bool m.fn, .slice none 0 0, .bool m.vr, .slice ua n uc]) (by simp [results, Tryz.results5, go_sem, z0, z1, z2, z3, z4]) rfl ?_
    have KS := K1.trans (keepsT_set5 (T := 9) (a' := .string m.nm) (b' := .bool m.fn) (c' := .slice none 0 0) (d' := .bool m.vr) (e' := .slice ua n uc) hR2u (by decide))
    have KP := K2.trans (keepsT_set5 (T := 35) (a' := .string m.nm) (b' := .bool m.fn) (c' := .slice none 0 0) (d' := .bool m.vr) (e' := .slice ua n uc) hR2u (by decide))
    have hO8 := hO0.keeps KS KP
    obtain ⟨ua2, uc2, e2', hin⟩ := hO8.in (fun p hp => by have := HL.out p hp; omega)
    simp only [Value.slice.injEq] at e2'
    obtain ⟨rfl, -, rfl⟩ := e2'
    exact ⟨⟨none, 0, ua, uc, rfl, fun hp => absurd hp (by rw [HPN.out]; exact Nat.lt_irrefl 0), hin⟩, below_set5 hB7 (by omega)⟩
  | some ad =>
    have hnews : ∀ j u, (stV m.ps)[j]? = some u → WC.cell? (ad.add j) = some u := by
      intro j u hj
      have hl := (List.getElem?_eq_some_iff.1 hj).1
      rw [stV_len] at hl
      obtain ⟨b', o', e, hb', hta⟩ := HT.out (by omega)
      cases e
      obtain ⟨sj, hsj⟩ : ∃ sj, m.ps[j]? = some sj := ⟨_, List.getElem?_eq_getElem hl⟩
      rw [stV_get hsj, Option.some.injEq] at hj
      subst hj
      rw [Addr.add_lit]
      exact (hBC.cell (p := ⟨b', o' + j, none⟩) hb').trans (hta j sj hsj)
    go_enter Tryz.func5, Tryz.ntmps5
    go_wp2_with (at_builtin; refine wpList_append_own _ rfl _ _ 22 rfl w.heap.size 9 i0 (.string ⟨#[]⟩) 1 16 Tryz.underlying22 hi hz0 hz1 hz2 rfl (by decide) _ _ _ rfl hnil ad pn pc (stV m.ps) rfl (by rw [stV_len, HPN.out, Nat.mul_one]) hnews (stV_one m.ps) (by unfold maxLen; omega) (by omega) hsw ?_; intro v1 w4 hown1 hgrow1 hn1; clear hn1; rw [Nat.zero_add, List.nil_append] at hown1; obtain ⟨a1, cap1, rfl⟩ := row_shape hown1
                 have hB4 : Below w.heap.size w w4 := hBC.grown hgrow1 hBC.size (fun j e => (hnil.lt j e).1)
                 have hR1' : MzBox w4 w.heap.size (.string m.nm) (.bool m.fn) (.slice (some ad) pn pc) (.bool m.vr) (.slice ba n bc) := (hgrow1.block _ (by omega) (fun e => by cases e)).trans hR1
                 have hR2' : MzBox w4 (w.heap.size + 1) (.string ⟨#[]⟩) (.bool false) (.slice none 0 0) (.bool false) (.slice none 0 0) := (hgrow1.block _ (by omega) (fun e => by cases e)).trans hR2
                 have hR3' : MzBox w4 (w.heap.size + 1 + 1) (.string m.nm) (.bool m.fn) (.slice none 0 0) (.bool m.vr) (.slice ba n bc) := (hgrow1.block _ (by omega) (fun e => by cases e)).trans hRC
                 clear t0 t1 t2 t3 t4 y0 y1 y2 y3 y4 u0 u1 u2 u3 u4 x0 x1 x2 x3 x4 g0 g1 g2 g3 g4
                 obtain ⟨-, -, e2, -, -, -, -, f2, -, -⟩ := hR3'.facts
                 have hR1s := hR1'.far (g := w.heap.size + 1 + 1) (i := 2) (u := .slice a1 pn cap1) (by omega)
                 obtain ⟨-, -, -, -, u4, -, -, -, -, -⟩ := hR1s.facts
                 obtain ⟨-, -, -, -, u4', -, -, -, -, -⟩ := hR1'.facts)
    have hk5 : KeepsT 9 w4 (w4.setCell ⟨w.heap.size + 1 + 1, 2, none⟩ (.slice a1 pn cap1)) := keepsT_other hR3' (by decide) _
    have hR3s := hR3'.set2 (.slice a1 pn cap1)
    have hR2s := hR2'.far (g := w.heap.size + 1 + 1) (i := 2) (u := .slice a1 pn cap1) (by omega)
    have hB5 := hB4.setCell (p := ⟨w.heap.size + 1 + 1, 2, none⟩) (by show w.heap.size ≤ w.heap.size + 1 + 1; omega) (.slice a1 pn cap1)
    have CTW := twinP_any n bc ba (w4.setCell ⟨w.heap.size + 1 + 1, 2, none⟩ (.slice a1 pn cap1)) (by omega) m.bs HN.out HL.out (fun hp => (HB.out.below hB5) (by rw [HN.out]; exact hp))
    have hown5 := ownsRow_keepsT hown1 hk5
    refine CTW.mono ?_
    rintro e w6 ⟨⟨v, vs, rfl, hO⟩, hb6⟩
    have hO0 := hO
    obtain ⟨ua, uc, rfl⟩ := row_shape hO.row
    rw [HN.out]
    have hB6 := hB5.trans (hb6.mono hB5.size)
    have hR3t := hR3s.below hb6
    have hR2t := hR2s.below hb6
    have hown6 := row_below hown5 hb6
    obtain ⟨-, -, -, -, q4, -, -, -, -, gq4⟩ := hR3t.facts
    have hR3u := hR3t.set4 (.slice ua n uc)
    have hR2u := hR2t.far (g := w.heap.size + 1 + 1) (i := 4) (u := .slice ua n uc) (by omega)
    have hB7 := hB6.setCell (p := ⟨w.heap.size + 1 + 1, 4, none⟩) (by show w.heap.size ≤ w.heap.size + 1 + 1; omega) (.slice ua n uc)
    obtain ⟨l0, l1, l2, l3, l4, -, -, -, -, -⟩ := hR3u.facts
    obtain ⟨z0, z1, z2, z3, z4, f0, f1, f2', f3, f4⟩ := hR2u.facts
    have K1 : KeepsT 9 w6 (w6.setCell ⟨w.heap.size + 1 + 1, 4, none⟩ (.slice ua n uc)) := keepsT_other hR3t (by decide) _
    have K2 : KeepsT 35 w6 (w6.setCell ⟨w.heap.size + 1 + 1, 4, none⟩ (.slice ua n uc)) := keepsT_other hR3t (by decide) _
    clear CTW hR1' hR2' hR3' hR3s hR2s hk5
    go_wp2
    clear z0 z1 z2 z3 z4 f0 f1 f2' f3 f4
    have hR2v := ((((hR2u.set0 (.string m.nm)).set1 (.bool m.fn)).set2 (.slice a1 pn cap1)).set3 (.bool m.vr)).set4 (.slice ua n uc)
    obtain ⟨z0, z1, z2, z3, z4, -, -, -, -, -⟩ := hR2v.facts
    refine bodyPost_ret (v := .agg #[.string m.nm, .bool m.fn, .slice a1 pn cap1, .bool m.vr, .slice ua n uc]) (by simp [results, Tryz.results5, go_sem, z0, z1, z2, z3, z4]) rfl ?_
    have KS := K1.trans (keepsT_set5 (T := 9) (a' := .string m.nm) (b' := .bool m.fn) (c' := .slice a1 pn cap1) (d' := .bool m.vr) (e' := .slice ua n uc) hR2u (by decide))
    have KP := K2.trans (keepsT_set5 (T := 35) (a' := .string m.nm) (b' := .bool m.fn) (c' := .slice a1 pn cap1) (d' := .bool m.vr) (e' := .slice ua n uc) hR2u (by decide))
    have hO8 := hO0.keeps KS KP
    obtain ⟨ua2, uc2, e2', hin⟩ := hO8.in (fun p hp => by have := HL.out p hp; omega)
    simp only [Value.slice.injEq] at e2'
    obtain ⟨rfl, -, rfl⟩ := e2'
    exact ⟨⟨a1, cap1, ua, uc, rfl, strIn_row HPN.out (ownsRow_keepsT hown6 KS), hin⟩, below_set5 hB7 (by omega)⟩

end Go.Proofs.YtaodjipnffgihaaGreat
