/- The law MacroDefines: its walk. -/
import Derived.Test.YtaodjipnffgihaaMcV
import Derived.Test.YtaodjipnffgihaaMcY
import Derived.Test.YtaodjipnffgihaaMcW
namespace Go.Proofs.Ytaodjipnffgihaa
open Go.RowKit Go.Shelf

theorem rDefine_any (ts : List Tz) (n cap : Nat) (a : Option Addr) (w : World) (hn : ts.length = n) (hnc : n ≤ cap) (hn2 : n * 48 ≤ 140737488355328) (hT : TzIn w a ts) :
    Calls Try.prog 8 #[.slice a n cap] w (DefRes w (defineS ts)) := by
  match ts, hn, hT with
  | [], hn, _ =>
    obtain rfl : n = 0 := hn.symm
    exact rDefine_nil cap a w
  | t :: r, hn, hT =>
    cases hk : (t.k == 1) with
    | false => exact rDefine_kind t r n cap a w hn hnc hn2 hT hk
    | true =>
      cases hnm : nameP t with
      | false => exact rDefine_among t r n cap a w hn hnc hn2 hT hk hnm
      | true =>
        match r, hn, hT with
        | [], hn, hT =>
          by_cases hc : cap = 1
          · exact rDefine_one1 t n cap a w hn hnc hn2 hT hnm hc
          · exact rDefine_one2 t n cap a w hn hnc hn2 hT hnm hc
        | u :: r, hn, hT =>
          cases hsp : u.sp with
          | true => exact rDefine_two t u r n cap a w hn hnc hn2 hT hnm hsp
          | false =>
            cases hpo : isP u [40] with
            | false => exact rDefine_noopen t u r n cap a w hn hnc hn2 hT hnm hsp hpo
            | true =>
              cases hcp : cutP r with
              | none => exact rDefine_noparams t u r n cap a w hn hnc hn2 hT hnm hsp hpo hcp
              | some x =>
                obtain ⟨p, vr, l⟩ := x
                by_cases hl : l = []
                · by_cases hc : cap = n
                  · exact rDefine_par1 t u r p vr l n cap a w hn hnc hn2 hT hnm hsp hpo hcp hl hc
                  · exact rDefine_par2 t u r p vr l n cap a w hn hnc hn2 hT hnm hsp hpo hcp hl hc
                · exact rDefine_par3 t u r p vr l n cap a w hn hnc hn2 hT hnm hsp hpo hcp hl

theorem defineS_fit {ts : List Tz} {m : Mz} (h : defineS ts = some m) : m.ps.length ≤ ts.length ∧ m.bs.length ≤ ts.length ∧ ∀ p ∈ m.bs, p.ps = [] := by
  unfold defineS at h
  cases hh : headS ts with
  | none => rw [hh] at h; cases h
  | some x =>
    obtain ⟨q, l⟩ := x
    rw [hh] at h
    simp only at h
    obtain ⟨h1, h2, _, _, _⟩ := headS_fit hh
    split at h
    · cases h
      refine ⟨h2, ?_, fun p hp => ?_⟩
      · show (firstNo (l.map pzOf)).length ≤ _
        rw [firstNo_len, List.length_map]; exact h1
      · have hp2 : p ∈ firstNo (l.map pzOf) := hp
        cases hl : l.map pzOf with
        | nil => rw [hl] at hp2; cases hp2
        | cons q r =>
          have hq : ∀ x ∈ q :: r, x.ps = [] := fun x hx => by
            rw [← hl] at hx
            obtain ⟨y, _, rfl⟩ := List.mem_map.1 hx
            rfl
          rw [hl] at hp2
          rcases List.mem_cons.1 hp2 with rfl | h
          · exact hq q List.mem_cons_self
          · exact hq p (List.mem_cons_of_mem _ h)
    · cases h
/-- A row of lo and above, below hi, that may be written to. -/
def RowW (W : World) (lo hi : Nat) (T : TypeId) (z : Nat) (a : Option Addr) (n : Nat) : Prop := 0 < n → ∃ (g : Nat) (cur : Array Value), a = some ⟨g, 0, none⟩ ∧ lo ≤ g ∧ g < hi ∧ W.heap[g]? = some (.cells cur T (0, 0)) ∧ n * z ≤ cur.size
theorem rowW_of {W : World} {lo n cap z : Nat} {T : TypeId} {a : Option Addr} {xs : List Value} (h : W.ownsRow lo T z (.slice a n cap) n xs) : RowW W lo W.heap.size T z a n := fun hp => by
  rcases h.2 with ⟨h1, h2⟩ | ⟨g, c, cur, h1, hg, hh, h3, h4, h5, h6⟩
  · omega
  · cases h1
    exact ⟨g, cur, rfl, hg, (Array.getElem?_eq_some_iff.1 hh).1, hh, by rw [h5]; exact Nat.mul_le_mul_right z h3⟩
theorem rowW_lo {W : World} {lo lo' hi n z : Nat} {T : TypeId} {a : Option Addr} (hl : lo' ≤ lo) (h : RowW W lo hi T z a n) : RowW W lo' hi T z a n := fun hp => by
  obtain ⟨g, cur, e, h1, h2, h3, h4⟩ := h hp
  exact ⟨g, cur, e, Nat.le_trans hl h1, h2, h3, h4⟩
theorem RowW.below {W W' : World} {lo hi n z : Nat} {T : TypeId} {a : Option Addr} (h : RowW W lo hi T z a n) (hb : Below W.heap.size W W') : RowW W' lo hi T z a n := fun hp => by
  obtain ⟨g, cur, e, h1, h2, h3, h4⟩ := h hp
  exact ⟨g, cur, e, h1, h2, (hb.block g (Array.getElem?_eq_some_iff.1 h3).1).trans h3, h4⟩
theorem RowW.set {W : World} {lo hi n z b j : Nat} {T : TypeId} {a : Option Addr} {u : Value} (h : RowW W lo hi T z a n) : RowW (W.setCell ⟨b, j, none⟩ u) lo hi T z a n := fun hp => by
  obtain ⟨g, cur, e, h1, h2, h3, h4⟩ := h hp
  by_cases hg : g = b
  · subst hg
    refine ⟨g, cur.setIfInBounds j u, e, h1, h2, ?_, by simpa using h4⟩
    simp [World.setCell, Array.getElem?_modify, h3]
  · exact ⟨g, cur, e, h1, h2, (Below.heap_setCell _ _ _ _ hg).trans h3, h4⟩
theorem rowW_cell {W : World} {g j : Nat} {cur : Array Value} {T : TypeId} (h : W.heap[g]? = some (.cells cur T (0, 0))) (hj : j < cur.size) : ∃ u, W.cell? ⟨g, j, none⟩ = some u := by
  rw [Lib.cell_of_heap h]
  exact ⟨_, Array.getElem?_eq_getElem hj⟩
theorem rowW_frozen {W : World} {g j : Nat} {cur : Array Value} {T : TypeId} (h : W.heap[g]? = some (.cells cur T (0, 0))) : W.frozen? ⟨g, j, none⟩ = false := by
  simp [World.frozen?, h]
/-- What a list defines, with its error. -/
def defM (ts : List Tz) : Mz × Int := match defineS ts with
  | some m => (m, 0)
  | none => (mz0, 50)
theorem defM_fit (ts : List Tz) : (defM ts).1.ps.length ≤ ts.length ∧ (defM ts).1.bs.length ≤ ts.length ∧ ∀ p ∈ (defM ts).1.bs, p.ps = [] := by
  unfold defM
  cases h : defineS ts with
  | none => exact ⟨Nat.zero_le _, Nat.zero_le _, fun p hp => by cases hp⟩
  | some m => exact defineS_fit h
/-- DefRes, laid open. -/
def DefIs (w : World) (m : Mz) (z : Int) (e : Ending) (w' : World) : Prop :=
  (∃ pa pc ba bc, e = .returned (.tuple #[.agg #[.string m.nm, .bool m.fn, .slice pa m.ps.length pc, .bool m.vr, .slice ba m.bs.length bc], .int .i64 z]) ∧ w'.ownsRow w.heap.size 9 1 (.slice pa m.ps.length pc) m.ps.length (stV m.ps) ∧ w'.ownsRow w.heap.size 36 4 (.slice ba m.bs.length bc) m.bs.length (pnCells m.bs)) ∧ Below w.heap.size w w'
theorem DefRes.is {ts : List Tz} {w w' : World} {e : Ending} (h : DefRes w (defineS ts) e w') : DefIs w (defM ts).1 (defM ts).2 e w' := by
  unfold defM
  cases hd : defineS ts with
  | none =>
    rw [hd] at h
    exact ⟨⟨none, 0, none, 0, h.1, World.ownsRow_nil _ _ _ _, World.ownsRow_nil _ _ _ _⟩, h.2⟩
  | some m =>
    rw [hd] at h
    obtain ⟨⟨v, u, he, hr, hu⟩, hb⟩ := h
    obtain ⟨pa, pc, rfl⟩ := row_shape hr
    obtain ⟨ba, bc, rfl⟩ := row_shape hu
    exact ⟨⟨pa, pc, ba, bc, he, hr, hu⟩, hb⟩

set_option maxRecDepth 100000 in
set_option maxHeartbeats 16000000 in
theorem mdef_some (ts : List Tz) (n cap : Nat) (ad : Addr) (w : World) (hn : ts.length = n) (hnc : n ≤ cap) (hn2 : n * 48 ≤ 140737488355328) (ht : ∀ t ∈ ts, t.tx.size ≤ 281474976710656)
    (hT : 0 < n → ∃ b o, ad = ⟨b, o, none⟩ ∧ b < w.heap.size ∧ TzAt w b o ts) :
    Calls Try.prog 3 #[.slice (some ad) n cap] w fun e w' => e = .returned (.bool true) ∧ Below w.heap.size w w' := by
  obtain ⟨i0, hi, hz0, hz1, hz2⟩ := info_parts infoTz
  have hlen : (tzCells ts).length = n * 5 := by rw [tzCells_len, hn]
  have hone := Lib.hid (tzCells_one ts)
  have hnews : ∀ o : Obj, ∀ j u, (tzCells ts)[j]? = some u → (w.alloc o).cell? (ad.add j) = some u := by
    intro o j u hj
    have hlt := (List.getElem?_eq_some_iff.1 hj).1
    obtain ⟨b, q, rfl, hb, hr⟩ := hT (by omega)
    exact tzCells_at (hr.below (below1 w o) hb) j u hj
  have HNW := Lib.hid hnews
  have HLN := Lib.hid hlen
  have HN := Lib.hid hn
  have HT : Hid (∀ W, Below w.heap.size w W → TzIn W (some ad) ts) := Lib.hid (fun W h hp => by
    obtain ⟨b, o, e, hb, hr⟩ := hT (by omega)
    exact ⟨b, o, by rw [e], Nat.lt_of_lt_of_le hb h.size, hr.below h hb⟩)
  have HX := Lib.hid ht
  have hfit := defM_fit ts
  have CD := fun (c : Nat) (a : Option Addr) (W : World) (hc : n ≤ c) (h : TzIn W a ts) => (define_any ts n c a W hn hc hn2 ht h).mono (fun e w' h => DefRes.is h)
  have CR := fun (c : Nat) (a : Option Addr) (W : World) (hc : n ≤ c) (h : TzIn W a ts) => (rDefine_any ts n c a W hn hc hn2 h).mono (fun e w' h => DefRes.is h)
  obtain ⟨D, hD⟩ : ∃ D, defM ts = D := ⟨_, rfl⟩
  rw [hD] at hfit
  simp only [hD] at CD CR
  obtain ⟨m, z⟩ := D
  simp only at CD CR hfit
  obtain ⟨hf1, hf2, hf3⟩ := hfit
  rw [hn] at hf1 hf2
  have HF3 := Lib.hid hf3
  clear hn hT ht hnews hlen hD hf3
  go_enter Try.func3, Try.ntmps3
  go_wp2_with (first
    | (at_builtin; refine wpList_append_own _ rfl _ _ 22 rfl w.heap.size 49 i0 (.agg #[.int .i64 0, .string ⟨#[]⟩, .int .i64 0, .int .i64 0, .bool false]) 5 48 Try.underlying22 hi hz0 hz1 hz2 rfl (by decide) _ _ _ rfl (World.ownsRow_lit w #[] 0 (Nat.le_refl _) (Nat.zero_le _) rfl) ad n cap (tzCells ts) rfl HLN.out (HNW.out _) hone.out (by unfold maxLen; omega) (by omega) (by simp) ?_; intro v' w1 hown hgrow hn3; clear hn3; have hb1 := ((Below.refl w.heap.size w).alloc (Nat.le_refl _) (.cells #[] 49)).grown hgrow (by simp) (fun j e => ((World.ownsRow_lit (base := w.heap.size) (e := 49) (size := 5) w #[] 0 (Nat.le_refl _) (Nat.zero_le _) rfl).lt j e).1); obtain ⟨a1, cap1, rfl, hs1, hw1, hg1⟩ := tz_shape HN.out (row_zero hown); have hcc := row_cap2 (row_zero hown); clear hown hgrow hw1 hg1)
    | fail)
  have hT1 : TzIn w1 a1 ts := fun hp => by
    obtain ⟨g, e, hg, hr⟩ := hs1 (by rw [← HN.out]; exact hp)
    exact ⟨g, 0, e, hg, hr.at⟩
  have HT1 := Lib.hid hT1
  clear hs1
  refine (CD cap1 a1 w1 hcc hT1).mono ?_
  rintro e w2 ⟨⟨pa1, pc1, ba1, bc1, rfl, hp1, hq1⟩, hb2⟩
  have hB2 := hb1.trans (hb2.mono hb1.size)
  have hb2' := hb2
  have hp1' := hp1
  have hq1' := hq1
  have hA2 := MzBox.new w2 (.string m.nm) (.bool m.fn) (.slice pa1 m.ps.length pc1) (.bool m.vr) (.slice ba1 m.bs.length bc1)
  have hbA := below1 w2 (.cells #[.string m.nm, .bool m.fn, .slice pa1 m.ps.length pc1, .bool m.vr, .slice ba1 m.bs.length bc1] 26)
  have hB3 := hB2.trans (hbA.mono hB2.size)
  have hT3 := (hT1.below hb2).below hbA
  have hp3 := row_below hp1 hbA
  have hq3 := row_below hq1 hbA
  clear hp1 hq1 CD
  go_wp2_with fail
  refine (CR cap (some ad) _ hnc (HT.out _ hB3)).mono ?_
  rintro e w4 ⟨⟨pa2, pc2, ba2, bc2, rfl, hp4, hq4⟩, hb4⟩
  have hbB := below1 w4 (.cells #[.string m.nm, .bool m.fn, .slice pa2 m.ps.length pc2, .bool m.vr, .slice ba2 m.bs.length bc2] 26)
  have hb5 := hb4.trans (hbB.mono hb4.size)
  have hB5 := hB3.trans (hb5.mono hB3.size)
  have hb25 := hbA.trans (hb5.mono hbA.size)
  have h125 := hb2'.trans (hb25.mono hb2'.size)
  have hA5 := hA2.below hb5
  have hBB5 := MzBox.new w4 (.string m.nm) (.bool m.fn) (.slice pa2 m.ps.length pc2) (.bool m.vr) (.slice ba2 m.bs.length bc2)
  have hT5 := hT3.below hb5
  have hp5 := row_below hp3 hb5
  have hq5 := row_below hq3 hb5
  have hp6 := row_below hp4 hbB
  have hq6 := row_below hq4 hbB
  clear hp4 hq4 hT3 CR hp3 hq3 hA2 hbA hb4 hb2
  have CO := of_any ts n cap1 a1 _ HN.out hn2 HX.out hT5
  go_wp2_with fail
  refine CO.mono ?_
  rintro e w6 ⟨⟨v6, rfl, hr6⟩, hb6⟩
  obtain ⟨pa3, pc3, rfl⟩ := row_shape hr6
  have hs4 := hb5.size
  have hAl := (Array.getElem?_eq_some_iff.1 hA5).1
  have hA6 := hA5.below hb6
  have hB6 := hBB5.below hb6
  have hW6 := hB5.trans (hb6.mono hB5.size)
  have h126 : Below w1.heap.size w1 w6 := by
    have h1 := hb2'.trans ((below1 w2 (.cells #[.string m.nm, .bool m.fn, .slice pa1 m.ps.length pc1, .bool m.vr, .slice ba1 m.bs.length bc1] 26)).mono hb2'.size)
    have h2 := h1.trans (hb5.mono h1.size)
    exact h2.trans (hb6.mono h2.size)
  have HP1 : Hid (∀ W, Below w6.heap.size w6 W → StrIn W pa1 m.ps) := Lib.hid (fun W h => (strIn_row rfl (row_below hp5 hb6)).below h)
  have HP2 : Hid (∀ W, Below w6.heap.size w6 W → StrIn W pa2 m.ps) := Lib.hid (fun W h => (strIn_row rfl (row_below hp6 hb6)).below h)
  have HQ1 : Hid (∀ W, Below w6.heap.size w6 W → PzIn W ba1 m.bs) := Lib.hid (fun W h => (pzIn_row rfl HF3.out (row_below hq5 hb6)).below h)
  have HQ2 : Hid (∀ W, Below w6.heap.size w6 W → PzIn W ba2 m.bs) := Lib.hid (fun W h => (pzIn_row rfl HF3.out (row_below hq6 hb6)).below h)
  have HR3 : Hid (∀ W, Below w6.heap.size w6 W → PzIn W pa3 (ts.map pzOf)) := Lib.hid (fun W h => (pzIn_row (by rw [List.length_map, HN.out]) (fun p hp => by obtain ⟨y, _, rfl⟩ := List.mem_map.1 hp; rfl) hr6).below h)
  have HW1 : Hid (RowW w6 w1.heap.size w2.heap.size 9 1 pa1 m.ps.length) := Lib.hid ((rowW_of hp1').below (hb25.trans (hb6.mono hb25.size)))
  have HW2 : Hid (RowW w6 w1.heap.size w2.heap.size 36 4 ba1 m.bs.length) := Lib.hid ((rowW_of hq1').below (hb25.trans (hb6.mono hb25.size)))
  have HW3 : Hid (RowW w6 w1.heap.size w6.heap.size 36 4 pa3 n) := Lib.hid (rowW_lo (by have := h125.size; exact this) (rowW_of hr6))
  have CS := fun (W : World) (h : Below w6.heap.size w6 W) => rSame_mz m m pa1 pa2 ba1 ba2 pc1 pc2 bc1 bc2 W (by omega) (by omega) (by omega) (by omega) (HP1.out W h) (HP2.out W h) (HQ1.out W h) (HQ2.out W h)
  have CM := fun (W : World) (h : Below w6.heap.size w6 W) => same_mz m m pa1 pa2 ba1 ba2 pc1 pc2 bc1 bc2 W (by omega) (by omega) (by omega) (by omega) (HP1.out W h) (HP2.out W h) (HQ1.out W h) (HQ2.out W h)
  simp only [sameM_self] at CS CM
  have CF := fun (W : World) (h : Below w.heap.size w W) => rOf_any ts n cap (some ad) W HN.out hn2 (HT.out W h)
  have HSD : Hid (∀ W, Below w6.heap.size w6 W → MzBox W w2.heap.size (.string m.nm) (.bool m.fn) (.slice pa1 m.ps.length pc1) (.bool m.vr) (.slice ba1 m.bs.length bc1) ∧ MzBox W w4.heap.size (.string m.nm) (.bool m.fn) (.slice pa2 m.ps.length pc2) (.bool m.vr) (.slice ba2 m.bs.length bc2)) := Lib.hid (fun W h => ⟨hA6.below h, hB6.below h⟩)
  clear CO hp5 hp6 hq5 hq6 hT5 hA5 hBB5 hB5 hb5 hB3 hbB hr6
  go_upto_region 5 with fail
  refine wp_region_held_drew (S := (fun W : World => MzBox W w2.heap.size (.string m.nm) (.bool m.fn) (.slice pa1 m.ps.length pc1) (.bool m.vr) (.slice ba1 m.bs.length bc1) ∧ MzBox W w4.heap.size (.string m.nm) (.bool m.fn) (.slice pa2 m.ps.length pc2) (.bool m.vr) (.slice ba2 m.bs.length bc2))) (by kernel_rfl) (HSD.out _ (below_drewN (Below.refl _ _) 1)) (fun hS => ?_)
  refine take_op (i := 0) (d := 27) (v := .agg #[.string m.nm, .bool m.fn, .slice pa1 m.ps.length pc1, .bool m.vr, .slice ba1 m.bs.length bc1]) rfl rfl (by kernel_rfl) (by kernel_rfl) (by kernel_rfl) (fun _ _ _ h => h) (Or.inl ⟨by rfl, ?_⟩) hS ?_
  · rintro W hW
    obtain ⟨x0, x1, x2, x3, x4, -, -, -, -, -⟩ := hW.1.facts
    obtain ⟨y0, y1, y2, y3, y4, -, -, -, -, -⟩ := hW.2.facts
    go_simp
  simp only [List.setIfInBounds_toArray, List.set_cons_zero, List.set_cons_succ]
  refine take_op (i := 1) (d := 28) (v := .agg #[.string m.nm, .bool m.fn, .slice pa2 m.ps.length pc2, .bool m.vr, .slice ba2 m.bs.length bc2]) rfl rfl (by kernel_rfl) (by kernel_rfl) (by kernel_rfl) (fun _ _ _ h => h) (Or.inl ⟨by rfl, ?_⟩) hS ?_
  · rintro W hW
    obtain ⟨x0, x1, x2, x3, x4, -, -, -, -, -⟩ := hW.1.facts
    obtain ⟨y0, y1, y2, y3, y4, -, -, -, -, -⟩ := hW.2.facts
    go_simp
  simp only [List.setIfInBounds_toArray, List.set_cons_zero, List.set_cons_succ]
  have x0' : Below w6.heap.size w6 w6.drew := below_drewN (Below.refl _ _) 1
  refine wpAnyH_ready (rs := [2]) (by kernel_rfl) (by simp) ?_
  refine AllReadyH.cons rfl (fun K hK => ?_) AllReadyH.nil
  go_simp
  refine (CS _ x0').mono ?_
  rintro e v1 ⟨rfl, hbv1⟩
  have x1' := x0'.trans (hbv1.mono x0'.size)
  go_wp2_with fail
  refine hK.out _ _ (HSD.out _ x1') (fun hS => ?_)
  clear hK K
  refine take_op (i := 3) (d := 30) (v := .bool false) rfl rfl (by kernel_rfl) (by kernel_rfl) (by kernel_rfl) (fun _ _ _ h => h) (Or.inl ⟨by rfl, ?_⟩) hS ?_
  · rintro W hW
    obtain ⟨x0, x1, x2, x3, x4, -, -, -, -, -⟩ := hW.1.facts
    obtain ⟨y0, y1, y2, y3, y4, -, -, -, -, -⟩ := hW.2.facts
    go_simp
  simp only [List.setIfInBounds_toArray, List.set_cons_zero, List.set_cons_succ]
  refine take_op (i := 4) (d := 31) (v := .bool false) rfl rfl (by kernel_rfl) (by kernel_rfl) (by kernel_rfl) (fun _ _ _ h => h) (Or.inl ⟨by rfl, ?_⟩) hS ?_
  · rintro W hW
    obtain ⟨x0, x1, x2, x3, x4, -, -, -, -, -⟩ := hW.1.facts
    obtain ⟨y0, y1, y2, y3, y4, -, -, -, -, -⟩ := hW.2.facts
    go_simp
  simp only [List.setIfInBounds_toArray, List.set_cons_zero, List.set_cons_succ]
  refine take_op (i := 5) (d := 32) (v := .int .i64 z) rfl rfl (by kernel_rfl) (by kernel_rfl) (by kernel_rfl) (fun _ _ _ h => h) (Or.inl ⟨by rfl, ?_⟩) hS ?_
  · rintro W hW
    obtain ⟨x0, x1, x2, x3, x4, -, -, -, -, -⟩ := hW.1.facts
    obtain ⟨y0, y1, y2, y3, y4, -, -, -, -, -⟩ := hW.2.facts
    go_simp
  simp only [List.setIfInBounds_toArray, List.set_cons_zero, List.set_cons_succ]
  refine take_op (i := 6) (d := 33) (v := .int .i64 z) rfl rfl (by kernel_rfl) (by kernel_rfl) (by kernel_rfl) (fun _ _ _ h => h) (Or.inl ⟨by rfl, ?_⟩) hS ?_
  · rintro W hW
    obtain ⟨x0, x1, x2, x3, x4, -, -, -, -, -⟩ := hW.1.facts
    obtain ⟨y0, y1, y2, y3, y4, -, -, -, -, -⟩ := hW.2.facts
    go_simp
  simp only [List.setIfInBounds_toArray, List.set_cons_zero, List.set_cons_succ]
  refine take_op (i := 7) (d := 34) (v := .bool false) rfl rfl (by kernel_rfl) (by kernel_rfl) (by kernel_rfl) (fun _ _ _ h => h) (Or.inl ⟨by rfl, ?_⟩) hS ?_
  · rintro W hW
    obtain ⟨x0, x1, x2, x3, x4, -, -, -, -, -⟩ := hW.1.facts
    obtain ⟨y0, y1, y2, y3, y4, -, -, -, -, -⟩ := hW.2.facts
    go_simp
  simp only [List.setIfInBounds_toArray, List.set_cons_zero, List.set_cons_succ]
  refine take_op (i := 8) (d := 35) (v := .bool false) rfl rfl (by kernel_rfl) (by kernel_rfl) (by kernel_rfl) (fun _ _ _ h => h) (Or.inl ⟨by rfl, ?_⟩) hS ?_
  · rintro W hW
    obtain ⟨x0, x1, x2, x3, x4, -, -, -, -, -⟩ := hW.1.facts
    obtain ⟨y0, y1, y2, y3, y4, -, -, -, -, -⟩ := hW.2.facts
    go_simp
  simp only [List.setIfInBounds_toArray, List.set_cons_zero, List.set_cons_succ]
  refine take_op (i := 9) (d := 36) (v := .bool false) rfl rfl (by kernel_rfl) (by kernel_rfl) (by kernel_rfl) (fun _ _ _ h => h) (Or.inl ⟨by rfl, ?_⟩) hS ?_
  · rintro W hW
    obtain ⟨x0, x1, x2, x3, x4, -, -, -, -, -⟩ := hW.1.facts
    obtain ⟨y0, y1, y2, y3, y4, -, -, -, -, -⟩ := hW.2.facts
    go_simp
  simp only [List.setIfInBounds_toArray, List.set_cons_zero, List.set_cons_succ]
  refine take_op (i := 10) (d := 37) (v := .agg #[.string m.nm, .bool m.fn, .slice pa1 m.ps.length pc1, .bool m.vr, .slice ba1 m.bs.length bc1]) rfl rfl (by kernel_rfl) (by kernel_rfl) (by kernel_rfl) (fun _ _ _ h => h) (Or.inl ⟨by rfl, ?_⟩) hS ?_
  · rintro W hW
    obtain ⟨x0, x1, x2, x3, x4, -, -, -, -, -⟩ := hW.1.facts
    obtain ⟨y0, y1, y2, y3, y4, -, -, -, -, -⟩ := hW.2.facts
    go_simp
  simp only [List.setIfInBounds_toArray, List.set_cons_zero, List.set_cons_succ]
  refine take_op (i := 11) (d := 38) (v := .agg #[.string m.nm, .bool m.fn, .slice pa2 m.ps.length pc2, .bool m.vr, .slice ba2 m.bs.length bc2]) rfl rfl (by kernel_rfl) (by kernel_rfl) (by kernel_rfl) (fun _ _ _ h => h) (Or.inl ⟨by rfl, ?_⟩) hS ?_
  · rintro W hW
    obtain ⟨x0, x1, x2, x3, x4, -, -, -, -, -⟩ := hW.1.facts
    obtain ⟨y0, y1, y2, y3, y4, -, -, -, -, -⟩ := hW.2.facts
    go_simp
  simp only [List.setIfInBounds_toArray, List.set_cons_zero, List.set_cons_succ]
  refine take_op (i := 13) (d := 40) (v := .agg #[.string m.nm, .bool m.fn, .slice pa1 m.ps.length pc1, .bool m.vr, .slice ba1 m.bs.length bc1]) rfl rfl (by kernel_rfl) (by kernel_rfl) (by kernel_rfl) (fun _ _ _ h => h) (Or.inl ⟨by rfl, ?_⟩) hS ?_
  · rintro W hW
    obtain ⟨x0, x1, x2, x3, x4, -, -, -, -, -⟩ := hW.1.facts
    obtain ⟨y0, y1, y2, y3, y4, -, -, -, -, -⟩ := hW.2.facts
    go_simp
  simp only [List.setIfInBounds_toArray, List.set_cons_zero, List.set_cons_succ]
  refine take_op (i := 14) (d := 41) (v := .agg #[.string m.nm, .bool m.fn, .slice pa2 m.ps.length pc2, .bool m.vr, .slice ba2 m.bs.length bc2]) rfl rfl (by kernel_rfl) (by kernel_rfl) (by kernel_rfl) (fun _ _ _ h => h) (Or.inl ⟨by rfl, ?_⟩) hS ?_
  · rintro W hW
    obtain ⟨x0, x1, x2, x3, x4, -, -, -, -, -⟩ := hW.1.facts
    obtain ⟨y0, y1, y2, y3, y4, -, -, -, -, -⟩ := hW.2.facts
    go_simp
  simp only [List.setIfInBounds_toArray, List.set_cons_zero, List.set_cons_succ]
  refine wpAnyH_ready (rs := [12]) (by kernel_rfl) (by simp) ?_
  refine AllReadyH.cons rfl (fun K hK => ?_) AllReadyH.nil
  go_simp
  refine (CM _ x1').mono ?_
  rintro e v2 ⟨rfl, hbv2⟩
  have x2' := x1'.trans (hbv2.mono x1'.size)
  go_wp2_with fail
  refine hK.out _ _ (HSD.out _ x2') (fun hS => ?_)
  clear hK K
  refine wpAnyH_ready (rs := [15]) (by kernel_rfl) (by simp) ?_
  refine AllReadyH.cons rfl (fun K hK => ?_) AllReadyH.nil
  go_simp
  refine (CS _ x2').mono ?_
  rintro e v3 ⟨rfl, hbv3⟩
  have x3' := x2'.trans (hbv3.mono x2'.size)
  go_wp2_with fail
  refine hK.out _ _ (HSD.out _ x3') (fun hS => ?_)
  clear hK K
  refine take_op (i := 16) (d := 43) (v := .bool false) rfl rfl (by kernel_rfl) (by kernel_rfl) (by kernel_rfl) (fun _ _ _ h => h) (Or.inl ⟨by rfl, ?_⟩) hS ?_
  · rintro W hW
    obtain ⟨x0, x1, x2, x3, x4, -, -, -, -, -⟩ := hW.1.facts
    obtain ⟨y0, y1, y2, y3, y4, -, -, -, -, -⟩ := hW.2.facts
    go_simp
  simp only [List.setIfInBounds_toArray, List.set_cons_zero, List.set_cons_succ]
  refine take_op (i := 17) (d := 44) (v := .bool false) rfl rfl (by kernel_rfl) (by kernel_rfl) (by kernel_rfl) (fun _ _ _ h => h) (Or.inl ⟨by rfl, ?_⟩) hS ?_
  · rintro W hW
    obtain ⟨x0, x1, x2, x3, x4, -, -, -, -, -⟩ := hW.1.facts
    obtain ⟨y0, y1, y2, y3, y4, -, -, -, -, -⟩ := hW.2.facts
    go_simp
  simp only [List.setIfInBounds_toArray, List.set_cons_zero, List.set_cons_succ]
  refine take_op (i := 18) (d := 45) (v := .bool false) rfl rfl (by kernel_rfl) (by kernel_rfl) (by kernel_rfl) (fun _ _ _ h => h) (Or.inl ⟨by rfl, ?_⟩) hS ?_
  · rintro W hW
    obtain ⟨x0, x1, x2, x3, x4, -, -, -, -, -⟩ := hW.1.facts
    obtain ⟨y0, y1, y2, y3, y4, -, -, -, -, -⟩ := hW.2.facts
    go_simp
  simp only [List.setIfInBounds_toArray, List.set_cons_zero, List.set_cons_succ]
  refine take_op (i := 19) (d := 46) (v := .slice pa3 n pc3) rfl rfl (by kernel_rfl) (by kernel_rfl) (by kernel_rfl) (fun _ _ _ h => h) (Or.inl ⟨by rfl, ?_⟩) hS ?_
  · rintro W hW
    obtain ⟨x0, x1, x2, x3, x4, -, -, -, -, -⟩ := hW.1.facts
    obtain ⟨y0, y1, y2, y3, y4, -, -, -, -, -⟩ := hW.2.facts
    go_simp
  simp only [List.setIfInBounds_toArray, List.set_cons_zero, List.set_cons_succ]
  refine take_op (i := 20) (d := 47) (v := .slice (some ad) n cap) rfl rfl (by kernel_rfl) (by kernel_rfl) (by kernel_rfl) (fun _ _ _ h => h) (Or.inl ⟨by rfl, ?_⟩) hS ?_
  · rintro W hW
    obtain ⟨x0, x1, x2, x3, x4, -, -, -, -, -⟩ := hW.1.facts
    obtain ⟨y0, y1, y2, y3, y4, -, -, -, -, -⟩ := hW.2.facts
    go_simp
  simp only [List.setIfInBounds_toArray, List.set_cons_zero, List.set_cons_succ]
  refine wpAnyH_ready (rs := [21]) (by kernel_rfl) (by simp) ?_
  refine AllReadyH.cons rfl (fun K hK => ?_) AllReadyH.nil
  go_simp
  refine (CF _ (hW6.trans (x3'.mono hW6.size))).mono ?_
  rintro e v4 ⟨⟨v7, rfl, hr7⟩, hbv4⟩
  have x4' := x3'.trans (hbv4.mono x3'.size)
  go_wp2_with fail
  refine hK.out _ _ (HSD.out _ x4') (fun hS => ?_)
  clear hK K
  obtain ⟨pa4, pc4, rfl⟩ := row_shape hr7
  have CG := rSameToks_any (ts.map pzOf) (ts.map pzOf) n n pc3 pc4 pa3 pa4 v4 (by rw [List.length_map, HN.out]) (by rw [List.length_map, HN.out]) (by omega) (by omega) (HR3.out _ x4') (pzIn_row (by rw [List.length_map, HN.out]) (fun p hp => by obtain ⟨y, _, rfl⟩ := List.mem_map.1 hp; rfl) hr7)
  simp only [samePs_self] at CG
  refine wpAnyH_ready (rs := [22]) (by kernel_rfl) (by simp) ?_
  refine AllReadyH.cons rfl (fun K hK => ?_) AllReadyH.nil
  go_simp
  refine CG.mono ?_
  rintro e v5 ⟨rfl, hbv5⟩
  have x9 := x4'.trans (hbv5.mono x4'.size)
  go_wp2_with fail
  refine hK.out _ _ (HSD.out _ x9) (fun hS => ?_)
  clear hK K
  refine take_op (i := 23) (d := 50) (v := .bool false) rfl rfl (by kernel_rfl) (by kernel_rfl) (by kernel_rfl) (fun _ _ _ h => h) (Or.inl ⟨by rfl, ?_⟩) hS ?_
  · rintro W hW
    obtain ⟨x0, x1, x2, x3, x4, -, -, -, -, -⟩ := hW.1.facts
    obtain ⟨y0, y1, y2, y3, y4, -, -, -, -, -⟩ := hW.2.facts
    go_simp
  simp only [List.setIfInBounds_toArray, List.set_cons_zero, List.set_cons_succ]
  refine take_op (i := 24) (d := 51) (v := .bool false) rfl rfl (by kernel_rfl) (by kernel_rfl) (by kernel_rfl) (fun _ _ _ h => h) (Or.inl ⟨by rfl, ?_⟩) hS ?_
  · rintro W hW
    obtain ⟨x0, x1, x2, x3, x4, -, -, -, -, -⟩ := hW.1.facts
    obtain ⟨y0, y1, y2, y3, y4, -, -, -, -, -⟩ := hW.2.facts
    go_simp
  simp only [List.setIfInBounds_toArray, List.set_cons_zero, List.set_cons_succ]

  refine wpAnyH_done (by kernel_rfl) ?_ _
  clear hS CS CM CF HP1 HP2 HQ1 HQ2 HR3
  have hA9 := (HSD.out _ x9).1
  have h129 := h126.trans (x9.mono h126.size)
  have HV1 := Lib.hid (HW1.out.below x9)
  have HV2 := Lib.hid (HW2.out.below x9)
  have HV3 := Lib.hid (HW3.out.below x9)
  have hW9 := hW6.trans (x9.mono hW6.size)
  clear HSD HW1 HW2 HW3 hA6 hB6
  go_wp2
  go_loopw [9] (fun i wx => ∃ k : Nat, k ≤ m.ps.length ∧ i = .int .i64 k ∧ MzBox wx w2.heap.size (.string m.nm) (.bool m.fn) (.slice pa1 m.ps.length pc1) (.bool m.vr) (.slice ba1 m.bs.length bc1) ∧ Below w1.heap.size w1 wx ∧ Below w.heap.size w wx ∧ Hid (RowW wx w1.heap.size w2.heap.size 9 1 pa1 m.ps.length) ∧ Hid (RowW wx w1.heap.size w2.heap.size 36 4 ba1 m.bs.length) ∧ Hid (RowW wx w1.heap.size w6.heap.size 36 4 pa3 n)) (fun i _ => m.ps.length - (intOf i).toNat)
  case atStart => exact ⟨0, Nat.zero_le _, rfl, hA9, h129, hW9, HV1, HV2, HV3⟩
  case round =>
    obtain ⟨k, hk, rfl, hA, hlow, hloww, H1, H2, H3⟩ := hrel
    obtain ⟨-, -, d2, -, -, -, -, -, -, -⟩ := hA.facts
    by_cases hlt : k < m.ps.length
    · obtain ⟨g, cur, rfl, hg1, hg2, hgc, hgs⟩ := H1.out (by omega)
      have e0 := rowW_cell (j := k) hgc (by omega)
      have f0 := rowW_frozen (j := k) hgc
      obtain ⟨u0, e0⟩ := e0
      have j1 : (k : Int) < (m.ps.length : Int) := by omega
      have j0 : (0 : Int) ≤ (k : Int) := by omega
      have hsw : w.heap.size ≤ g := by have := hb1.size; omega
      go_wp2
      refine ⟨⟨k + 1, by omega, by go_num, hA.far (show g ≠ w2.heap.size by omega), hlow.setCell (p := ⟨g, k, none⟩) hg1 _, hloww.setCell (p := ⟨g, k, none⟩) hsw _, Lib.hid H1.out.set, Lib.hid H2.out.set, Lib.hid H3.out.set⟩, ?_⟩
      simp [intOf]; omega
    · have j1 : ¬ (k : Int) < (m.ps.length : Int) := by omega
      clear H1 hk hlt
      go_wp2
      go_loopw [10] (fun i wx => ∃ k : Nat, k ≤ m.bs.length ∧ i = .int .i64 k ∧ MzBox wx w2.heap.size (.string m.nm) (.bool m.fn) (.slice pa1 m.ps.length pc1) (.bool m.vr) (.slice ba1 m.bs.length bc1) ∧ Below w1.heap.size w1 wx ∧ Below w.heap.size w wx ∧ Hid (RowW wx w1.heap.size w2.heap.size 36 4 ba1 m.bs.length) ∧ Hid (RowW wx w1.heap.size w6.heap.size 36 4 pa3 n)) (fun i _ => m.bs.length - (intOf i).toNat)
      case atStart => exact ⟨0, Nat.zero_le _, rfl, hA, hlow, hloww, H2, H3⟩
      case round =>
        clear hA hlow hloww H2 H3 d2
        obtain ⟨k, hk, rfl, hA, hlow, hloww, H2, H3⟩ := hrel
        obtain ⟨-, -, -, -, d4, -, -, -, -, -⟩ := hA.facts
        by_cases hlt : k < m.bs.length
        · obtain ⟨g, cur, rfl, hg1, hg2, hgc, hgs⟩ := H2.out (by omega)
          obtain ⟨u0, e0⟩ := rowW_cell (j := k * 4) hgc (by omega)
          obtain ⟨u1, e1⟩ := rowW_cell (j := k * 4 + 1) hgc (by omega)
          obtain ⟨u2, e2⟩ := rowW_cell (j := k * 4 + 2) hgc (by omega)
          obtain ⟨u3, e3⟩ := rowW_cell (j := k * 4 + 3) hgc (by omega)
          have f0 := rowW_frozen (j := k * 4) hgc
          have f1 := rowW_frozen (j := k * 4 + 1) hgc
          have f2 := rowW_frozen (j := k * 4 + 2) hgc
          have f3 := rowW_frozen (j := k * 4 + 3) hgc
          have j1 : (k : Int) < (m.bs.length : Int) := by omega
          have j0 : (0 : Int) ≤ (k : Int) := by omega
          have hsw : w.heap.size ≤ g := by have := hb1.size; omega
          go_wp2
          refine ⟨⟨k + 1, by omega, by go_num, (((hA.far (show g ≠ w2.heap.size by omega)).far (show g ≠ w2.heap.size by omega)).far (show g ≠ w2.heap.size by omega)).far (show g ≠ w2.heap.size by omega), (((hlow.setCell (p := ⟨g, k * 4, none⟩) hg1 _).setCell (p := ⟨g, k * 4 + 1, none⟩) hg1 _).setCell (p := ⟨g, k * 4 + 2, none⟩) hg1 _).setCell (p := ⟨g, k * 4 + 3, none⟩) hg1 _, (((hloww.setCell (p := ⟨g, k * 4, none⟩) hsw _).setCell (p := ⟨g, k * 4 + 1, none⟩) hsw _).setCell (p := ⟨g, k * 4 + 2, none⟩) hsw _).setCell (p := ⟨g, k * 4 + 3, none⟩) hsw _, Lib.hid H2.out.set.set.set.set, Lib.hid H3.out.set.set.set.set⟩, ?_⟩
          simp [intOf]; omega
        · have j1 : ¬ (k : Int) < (m.bs.length : Int) := by omega
          clear H2 hk hlt
          go_wp2
          go_loopw [11] (fun i wx => ∃ k : Nat, k ≤ n ∧ i = .int .i64 k ∧ Below w1.heap.size w1 wx ∧ Below w.heap.size w wx ∧ Hid (RowW wx w1.heap.size w6.heap.size 36 4 pa3 n)) (fun i _ => n - (intOf i).toNat)
          case atStart => exact ⟨0, Nat.zero_le _, rfl, hlow, hloww, H3⟩
          case round =>
            clear hA hlow hloww H3 d4
            obtain ⟨k, hk, rfl, hlow, hloww, H3⟩ := hrel
            by_cases hlt : k < n
            · obtain ⟨g, cur, rfl, hg1, hg2, hgc, hgs⟩ := H3.out (by omega)
              obtain ⟨u1, e1⟩ := rowW_cell (j := k * 4 + 1) hgc (by omega)
              have f1 := rowW_frozen (j := k * 4 + 1) hgc
              have j1 : (k : Int) < (n : Int) := by omega
              have j0 : (0 : Int) ≤ (k : Int) := by omega
              have hsw : w.heap.size ≤ g := by have := hb1.size; omega
              go_wp2
              refine ⟨⟨k + 1, by omega, by go_num, hlow.setCell (p := ⟨g, k * 4 + 1, none⟩) hg1 _, hloww.setCell (p := ⟨g, k * 4 + 1, none⟩) hsw _, Lib.hid H3.out.set⟩, ?_⟩
              simp [intOf]; omega
            · have j1 : ¬ (k : Int) < (n : Int) := by omega
              clear H3 hk hlt
              have CE := same_any ts n cap1 cap a1 (some ad) wr HN.out (by unfold maxLen; omega) (fun h => by
                obtain ⟨b, o, e, _, hr⟩ := (HT1.out.below hlow) (by rw [HN.out]; exact h)
                exact ⟨b, o, e, hr⟩) (fun h => by
                obtain ⟨b, o, e, _, hr⟩ := (HT.out wr hloww) (by rw [HN.out]; exact h)
                exact ⟨b, o, e, hr⟩)
              go_wp2_with fail
              refine CE.mono ?_
              rintro e w12 ⟨rfl, q, rfl⟩
              go_wp2
              go_ret
              exact ⟨rfl, below_drewN hloww q⟩

end Go.Proofs.Ytaodjipnffgihaa
