/- Several texts laid together. -/
import Derived.Test.YtaodjipnffgihaaGreatMzJ
import Derived.Test.YtaodjipnffgihaaGreatMzL
import Derived.Test.YtaodjipnffgihaaGreatMzK
import Derived.Test.YtaodjipnffgihaaGreatRegion
import Derived.IntWalk
import Derived.Sort.CutIn
import Derived.Deep.RegionHeld
import Derived.Test.YtaodjipnffgihaaGreatMzG
import Derived.Test.YtaodjipnffgihaaGreatMzA

namespace Go.Proofs.YtaodjipnffgihaaGreat
open Go.RowKit Go.Shelf

attribute [local go_sem] Oper.semAt_some

theorem oper_fresh {P : Program} {t e : TypeId} {i : TypeInfo} {z : Value} {size bytes : Nat} (E : ElemOk P t e i z size bytes) {w : World} {o : Oper} {a : Act} {K : Act → World → Prop} {Q : Exit → Act → World → Prop} (sl x : Operand)
    (hop : o.op = .call { callee := .builtin .append, args := #[sl, x], argTypes := #[t, t] }) (base : Nat) (v : Value) (n : Nat) (xs : List Value) (hs : a.eval sl = v) (ho : w.ownsRow base e size v n xs)
    (ad : Addr) (m c : Nat) (news : List Value) (hx : a.eval x = .slice (some ad) m c) (hl : news.length = m * size) (hn : ∀ j u, news[j]? = some u → w.cell? (ad.add j) = some u) (h1 : ∀ u ∈ news, u.oneCell' = true)
    (hm : n + m ≤ maxLen) (hz : (n + m) * bytes ≤ 140737488355328) (hB : base ≤ w.heap.size)
    (h : ∀ v' w', w'.ownsRow base e size v' (n + m) (xs ++ news) → w.grownBy w' v.ownBlock → Fresh w v v' → K (a.put o.dst v') w') : Oper.wp P o a w K Q := by
  obtain ⟨v', w', hr, h2, h3, h4⟩ := append_fresh E w o.type base ho hl hn h1 hm hz hB
  unfold Oper.wp execOp
  simp only [hop, resolve, invoke, builtin, Sem.run_bind, Sem.run_pure, Result.andThen_ok, List.map_toArray, List.map_cons, List.map_nil, hs, hx]
  rw [hr]
  exact h v' w' h2 h3 h4

theorem keepsT_own {T : TypeId} {X Z : World} {row : Option Nat} (hg : X.grownBy Z row) (hr : ∀ r, row = some r → ∃ o : Obj, X.heap[r]? = some o ∧ o.isCells = false) : KeepsT T X Z := fun _ _ _ hk => (grownBy_keeps_cells hg hr hk rfl).trans hk
/-- Rows behind what touches neither rows nor tokens. -/
theorem SepRz.keeps {X Z : World} {B : Nat} {v lv : Value} {rs : List Rz} {vs : List Value} {ll : List Tz} (h : SepRz X B v rs vs lv ll) (hT : KeepsT 83 X Z) (hR : KeepsT 50 X Z) : SepRz Z B v rs vs lv ll :=
  ⟨⟨h.own.len, ownsRow_keepsT h.own.row hR, fun i r u h1 h2 => ownsRow_keepsT (h.own.ts i r u h1 h2) hT⟩, ownsRow_keepsT h.line hT, h.sep, h.lsep⟩
/-- New tokens beside the rows. -/
theorem SepRz.line' {W W' : World} {B : Nat} {v u : Value} {rs : List Rz} {vs : List Value} {ll : List Tz} (h : SepRz W B v rs vs (.slice none 0 0) []) (hb : Below W.heap.size W W') (hu : TokOwn W' W.heap.size u ll) (hB : B ≤ W.heap.size) : SepRz W' B v rs vs u ll :=
  have h' := h.below hb
  ⟨h'.own, row_base hB hu, h'.sep, fun i x hx g hg e => by
    obtain ⟨r, _, ht⟩ := h.own.tok hx
    have h1 := (hu.lt g hg).1
    have h2 := (ht.lt g e).2
    omega⟩

theorem LnKept.refl (Bn B : Nat) (Y : World) : LnKept Bn B Y Y := ⟨Nat.le_refl _, fun _ h => h, fun _ _ => rfl⟩
theorem LnKept.put {Bn B : Nat} {Y W : World} {l : Nat} {o o' : Obj} (hB : B ≤ l) (hl : W.heap[l]? = some o) (ho : o.isCells = false) (h : LnKept Bn B Y W) : LnKept Bn B Y (W.putObj l o') := by
  refine ⟨by simpa [World.putObj] using h.size, fun v hv => ?_, fun k hk => ?_⟩
  · have hb := h.box v hv
    have hne : Bn ≠ l := fun e => by
      subst e
      rw [show W.heap[Bn]? = _ from hb] at hl
      cases hl; cases ho
    exact (World.putObj_heap_other hne).trans hb
  · exact (World.putObj_heap_other (by omega)).trans (h.low k hk)
theorem LnKept.then' {Bn B : Nat} {Y W W' : World} (h : LnKept Bn B Y W) (hb : Below B W W') (hk : KeepsT 44 W W') (hB : B ≤ W.heap.size) : LnKept Bn B Y W' :=
  ⟨Nat.le_trans h.size hb.size, fun v hv => hk _ _ _ (h.box v hv), fun k hk' => (hb.block k hk').trans (h.low k hk')⟩

/-- A line within the list. -/
theorem TzAt.seg {W : World} {b o f m : Nat} {ts l : List Tz} (h : TzAt W b o ts) (hl : (ts.drop f).take m = l) : TzAt W b (o + f * 5) l := fun i t ht => by
  refine h.drop f i t ?_
  rw [← hl, List.getElem?_take] at ht
  split at ht
  · exact ht
  · cases ht

theorem lines_stops (n : Nat) (hn : 1 ≤ n) (ts : List Tz) (m cap : Nat) (a : Option Addr) (b o : Nat) (hm : ts.length = m) (hmc : m ≤ cap) (hm2 : m * 48 ≤ 140737488355328) (w0 : World) (B : Nat) (ha : 0 < m → a = some ⟨b, o, none⟩ ∧ b < B ∧ TzAt w0 b o ts) (Bn : Nat) (w : World) (hE : LnEnv Bn B (.slice a m cap) w0 w) :
    SeqStopsP Fence.wide n Tryz.prog 76 #[.pointer (some ⟨Bn, 0, none⟩)] (fun x : Lt ts => encL b o cap x) (LnKept Bn B) (fun ys => ys = lts ts) (fun pre => pre <+: lts ts) (LnPm ts) w := fun l J Jx W hW hJ _ hY h0 =>
  lines1_in n hn ts m cap a b o hm hmc hm2 w0 B ha l Bn J Jx W.heap.size hJ hY W (hE.below hW) h0

theorem snoc_orB {α : Type} (l : List α) : l = [] ∨ ∃ o q, l = o ++ [q] := by
  rcases List.eq_nil_or_concat l with h | ⟨o, q, h⟩
  · exact .inl h
  · exact .inr ⟨o, q, by rw [h, List.concat_eq_append]⟩
theorem row_blockB {W : World} {b n z k : Nat} {e : TypeId} {v : Value} {xs : List Value} (h : W.ownsRow b e z v n xs) (hk : v.ownBlock = some k) : ∃ cur fz, W.heap[k]? = some (.cells cur e fz) := by
  rcases h.2 with ⟨rfl, _⟩ | ⟨g, cap, cur, rfl, _, hh, _⟩
  · cases hk
  · obtain rfl : g = k := by simpa [Value.ownBlock] using hk
    exact ⟨cur, _, hh⟩
theorem tzCells_append' (a b : List Tz) : tzCells (a ++ b) = tzCells a ++ tzCells b := by simp [tzCells]
def RowsI (w : World) {ts : List Tz} (pre : List (Lt ts)) (W : World) : Prop := (∃ v vs, Boxed W w.heap.size 47 v ∧ SepRz W w.heap.size v (rowsP pre) vs (.slice none 0 0) []) ∧ Below w.heap.size w W

set_option maxRecDepth 100000 in
set_option maxHeartbeats 8000000 in
theorem rows_any (n cap : Nat) (a : Option Addr) (w : World) (hn2 : n * 48 ≤ 140737488355328) (hnc : n ≤ cap) (ts : List Tz) (hn : ts.length = n) (hx : ∀ t ∈ ts, t.tx.size ≤ 281474976710656) (hT : TzIn w a ts) :
    Calls Tryz.prog 33 #[.slice a n cap] w fun e w' => (∃ v vs, e = .returned v ∧ SepRz w' w.heap.size v (rowsS ts) vs (.slice none 0 0) []) ∧ Below w.heap.size w w' := by
  obtain ⟨i0, hi, hz0, hz1, hz2⟩ := info_parts infoTz
  obtain ⟨j0, hj, hy0, hy1, hy2⟩ := info_parts infoRow
  have ET : ElemOk Tryz.prog 44 83 i0 (.agg #[.int .i64 0, .string ⟨#[]⟩, .int .i64 0, .int .i64 0, .bool false]) 5 48 := ⟨Tryz.underlying44, hi, hz0, hz1, hz2, rfl, by decide⟩
  obtain ⟨b, o, ha⟩ : ∃ b o, 0 < n → a = some ⟨b, o, none⟩ ∧ b < w.heap.size ∧ TzAt w b o ts := by
    by_cases h0 : 0 < n
    · obtain ⟨b, o, e, h1, h2⟩ := hT (by omega)
      exact ⟨b, o, fun _ => ⟨e, h1, h2⟩⟩
    · exact ⟨0, 0, fun h => absurd h h0⟩
  have HA := Lib.hid ha
  have HN := Lib.hid hn
  have HX := Lib.hid hx
  refine (callsIn_wide (n := 20)).1 ?_
  refine callsIn_of_wp_marks Tryz.func33 rfl trivial ?_ rfl
  simp only [Tryz.ntmps33, List.size_toArray, List.length_cons, List.length_nil, Nat.reduceAdd, Nat.reduceSub, Array.replicate_succ, Array.replicate_zero, List.push_toArray, List.append_toArray, List.nil_append, List.cons_append]
  gi_wp2
  refine ⟨trivial, (callsIn_wide.2 (linesOf_any _ _ _ _)).mono ?_⟩
  rintro e w' ⟨rfl, rfl⟩
  gi_wp2
  have bL := (Boxed.new w 47 (.slice none 0 0)).alloc (.cells #[.slice a n cap] 44)
  have bN := Boxed.new (w.alloc (.cells #[.slice none 0 0] 47)) 44 (.slice a n cap)
  simp only [World.size_alloc] at bN
  have hB0 := below2 w (.cells #[.slice none 0 0] 47) (.cells #[.slice a n cap] 44)
  have hsz : ((w.alloc (.cells #[.slice none 0 0] 47)).alloc (.cells #[.slice a n cap] 44)).heap.size = w.heap.size + 2 := by simp
  obtain ⟨W0, hW0⟩ : ∃ W0, (w.alloc (.cells #[.slice none 0 0] 47)).alloc (.cells #[.slice a n cap] 44) = W0 := ⟨_, rfl⟩
  rw [hW0] at bL bN hB0 hsz ⊢
  clear hW0 hT hn hx ha hi hz0 hz1 hz2
  have hE0 : LnEnv (w.heap.size + 1) w.heap.size (.slice a n cap) w W0 := ⟨by omega, bN, fun k hk => hB0.block k hk⟩
  refine wpIn_range_told rfl (by decide) (gf := 76) (lb := #[.pointer (some ⟨w.heap.size + 1, 0, none⟩)]) rfl trivial (enters_of Tryz.func76 (by kernel_rfl) rfl)
    (lines_stops _ (by decide) ts n cap a b o HN.out hnc hn2 w w.heap.size HA.out (w.heap.size + 1) W0 hE0) (fun Y W l o o' hB hl ho h => LnKept.put (by omega) hl ho h) (Below.refl _ _) (fun _ => rfl)
    (fun pre W => RowsI w pre W) (fun _ _ _ => False) ?ownI (fun _ _ _ _ _ h _ _ => h)
    ⟨⟨_, [], bL, SepRz.start _ _⟩, hB0⟩
    (fun x Y a' W => (w.heap.size ≤ Y.heap.size ∧ LnKept (w.heap.size + 1) w.heap.size Y W) ∧ a' = { tmps := #[.slice a n cap, undef, .slice none 0 0, .pointer (some ⟨w.heap.size, 0, none⟩), .slice (some ⟨b, o + x.1.f * 5, none⟩) x.1.l.length (cap - x.1.f), undef, undef, .slice a n cap, .func (.func 76) #[] #[.pointer (some ⟨w.heap.size + 1, 0, none⟩)], .slice (some ⟨b, o + x.1.f * 5, none⟩) x.1.l.length (cap - x.1.f), undef, undef, undef, undef, undef, undef, undef, undef, undef, undef, undef, undef, undef, undef, undef, undef, undef, undef, undef, undef, undef, undef, undef, undef, undef, undef, undef, undef, undef, undef, undef, undef, undef, undef, undef, undef, undef], defers := [] })
    (fun x Y a' _ X Z row hs' hg hr => by
      obtain ⟨⟨h1, h2⟩, h3⟩ := hs'
      refine ⟨⟨h1, Nat.le_trans h2.size hg.size, fun v hv => keepsT_own hg (fun r e => (hr r e).2) _ _ _ (h2.box v hv), fun k hk => ?_⟩, h3⟩
      exact (hg.block k (by have := h2.size; omega) (fun e => by have := (hr k e.symm).1; omega)).trans (h2.low k hk))
    ?assign ?body ?done ?stop
  case ownI =>
    intro pre X Z row h hg hr
    obtain ⟨⟨v, vs, hb, hS⟩, hB⟩ := h
    have hr2 : ∀ r, row = some r → ∃ o : Obj, X.heap[r]? = some o ∧ o.isCells = false := fun r e => (hr r e).2
    exact ⟨⟨v, vs, keepsT_own hg hr2 _ _ _ hb, hS.keeps (keepsT_own hg hr2) (keepsT_own hg hr2)⟩, (ownFrom_below (β := Unit) (Nat.le_refl _) (by omega)) () X Z row hB hg hr⟩
  case assign =>
    rintro l pre x Y K hI hK
    unfold encL
    gi_wp2
    exact hK _ _ (KeepsFrom.refl _ _) hI ⟨⟨hI.2.size, LnKept.refl _ _ _⟩, rfl⟩
  case done =>
    rintro D ys W hD rfl ⟨⟨v, vs, hb, hS⟩, hB⟩ hK
    have hc := hb.cell
    gi_wp2
    refine ⟨by simp, .inl ⟨_, _, rfl, run_takeDeferred hK, ?_⟩⟩
    refine ⟨_, results_tmp rfl _ _ _, ?_⟩
    rw [rowsP_all] at hS
    exact ⟨⟨v, vs, rfl, hS.keeps (KeepsT.putObj _ hK rfl) (KeepsT.putObj _ hK rfl)⟩, hB.trans (belowK_b (w := w) (Nat.le_refl _) W D _ _ (by omega) hK rfl rfl)⟩
  case stop =>
    rintro D c pre W _ _ h _
    exact h.elim
  case body =>
    rintro l pre x Y a' W hl ⟨rl, hrl⟩ ⟨⟨v, vs, hbL, hS⟩, hB⟩ ⟨⟨hBY, hKY⟩, rfl⟩ hPm
    obtain ⟨hl0, htake, hle⟩ := ln_in x
    obtain ⟨hfit, hfit2⟩ := rowsP_fits hPm
    rw [HN.out] at hle hfit hfit2
    obtain ⟨ea, hbB, hz⟩ := HA.out (by omega)
    have hzW : TzAt W b (o + x.1.f * 5) x.1.l := (hz.below hB hbB).seg htake
    have hxl : ∀ t ∈ x.1.l, t.tx.size ≤ 281474976710656 := fun t ht => by
      rw [← htake] at ht
      exact HX.out t (List.mem_of_mem_drop (List.mem_of_mem_take ht))
    have CR := rowOf_any x.1.l x.1.l.length (cap - x.1.f) ⟨b, o + x.1.f * 5, none⟩ W rfl hl0 (by omega) hxl (fun _ => ⟨b, o + x.1.f * 5, rfl, Nat.lt_of_lt_of_le hbB hB.size, hzW⟩)
    obtain ⟨rw0, hrow⟩ : ∃ r, rowOf x.1.l = r := ⟨_, rfl⟩
    have hts : rw0.ts = x.1.l := by rw [← hrow]; rfl
    have HSN := Lib.hid (show rowsP (pre ++ [x]) = addRow (rowsP pre) rw0 by rw [rowsP_snoc, ← hrow]; rfl)
    obtain ⟨rs, hrs⟩ : ∃ rs, rowsP pre = rs := ⟨_, rfl⟩
    rw [hrow] at CR
    rw [hrs] at hS hfit hfit2 HSN
    obtain ⟨L, hL⟩ : ∃ L, x.1.l = L := ⟨_, rfl⟩
    rw [hL] at CR hts hfit hl0 hle
    obtain ⟨m, hm⟩ : ∃ m, L.length = m := ⟨_, rfl⟩
    rw [hm] at CR hfit hl0 hle
    rw [hL, hm]
    have HM := Lib.hid hm
    obtain ⟨d, nm, rts⟩ := rw0
    simp only at hts CR
    subst hts
    clear hz hzW hxl htake hrow hrs hL hm ea hPm
    gi_wp2_with fail
    refine ⟨trivial, (callsIn_wide.2 CR).mono ?_⟩
    rintro e w1 ⟨⟨u, rfl, hu⟩, hb1⟩
    have hS1 := hS.line' hb1 hu hB.size
    have hbL1 : Boxed w1 w.heap.size 47 v := (hb1.block _ hbL.lt).trans hbL
    have hB1 := hB.trans (hb1.mono hB.size)
    have hK1 : KeepsT 44 W w1 := KeepsT.of_below hb1
    have hKO1 : KeepsFrom W0.heap.size W w1 := keepsFrom_below hb1
    have hs1 := hB1.size
    have hRL := hbL1.lt
    have hW1s : W.heap.size ≤ w1.heap.size := hb1.size
    clear CR hS hu
    have hb2 := below1 w1 (.cells #[.bool d, .string nm, u] 50)
    have hR2 := World.alloc_heap_new w1 (.cells #[.bool d, .string nm, u] 50)
    have hS2 := hS1.below hb2
    have hbL2 := hbL1.alloc (.cells #[.bool d, .string nm, u] 50)
    have hB2 := hB1.trans (hb2.mono hs1)
    have hsz2 : (w1.alloc (.cells #[.bool d, .string nm, u] 50)).heap.size = w1.heap.size + 1 := by simp
    have hline : w1.ownsRow w.heap.size 83 5 u m (tzCells rts) := by
      have := hS1.line
      unfold TokOwn at this
      rw [HM.out] at this
      exact this
    obtain ⟨au, cu, rfl⟩ := row_shape hline
    obtain ⟨gu, rfl, hgu, -⟩ := row_pos hl0 hline
    gi_upto_region 5 with fail
    have hKO2 : KeepsFrom W0.heap.size w1 (w1.alloc (.cells #[.bool d, .string nm, .slice (some ⟨gu, 0, none⟩) m cu] 50)) := keepsFrom_below hb2
    have hBW2 : Below w.heap.size W (w1.alloc (.cells #[.bool d, .string nm, .slice (some ⟨gu, 0, none⟩) m cu] 50)) := (hb1.mono hB.size).trans (hb2.mono hs1)
    have hK2 : KeepsT 44 W (w1.alloc (.cells #[.bool d, .string nm, .slice (some ⟨gu, 0, none⟩) m cu] 50)) := hK1.trans (KeepsT.of_below hb2)
    have hKO12 := hKO1.trans hKO2
    obtain ⟨R, hR⟩ : ∃ R, w1.heap.size = R := ⟨_, rfl⟩
    have hvR : ∀ g, v.ownBlock = some g → g < R := fun g e => by rw [← hR]; exact (hS1.own.row.lt g e).2
    have HR := Lib.hid hR
    clear hb2 hKO1 hKO2 hK1 hb1 hline hbL1 hB1 hS1 hgu
    rw [hR] at hR2 hsz2 hRL hs1
    rw [hR]
    clear hR
    generalize w1.alloc (.cells #[.bool d, .string nm, .slice (some ⟨gu, 0, none⟩) m cu] 50) = W2 at *
    obtain ⟨k0, k1, k2, -⟩ := row_facts hR2
    have kc := hbL2.cell
    have kf := hbL2.frozen
    have hs2 := hB2.size
    have hvl := hS2.own.len
    have hRW : R < W2.heap.size := by rw [hsz2]; exact Nat.lt_succ_self _
    clear hsz2
    rcases snoc_orB rs with rfl | ⟨r0, qr, rfl⟩
    · have HSQ : Hid (rowsP (pre ++ [x]) = [] ++ [⟨d, nm, rts⟩]) := Lib.hid (by rw [HSN.out, addRow_new (.inr (.inl rfl))])
      obtain rfl : vs = [] := List.length_eq_zero_iff.1 hvl.symm
      obtain ⟨av, cv, rfl⟩ := row_shape hS2.own.row
      have hrow2 := hS2.own.row
      clear HSN hvl hvR
      gi_wp2_with (gi_at_builtin; refine wpListIn_append_own _ rfl _ _ 47 rfl w.heap.size 50 j0 (.agg #[.bool false, .string ⟨#[]⟩, .slice none 0 0]) 3 48 Tryz.underlying47 hj hy0 hy1 hy2 rfl (by decide) _ _ _ rfl (hrow2.alloc _) ⟨W2.heap.size, 0, none⟩ 1 1 [.bool d, .string nm, .slice (some ⟨gu, 0, none⟩) m cu] rfl rfl (cell3_new _ _ _ _ _) (by intro y hy; simp only [List.mem_cons, List.not_mem_nil, or_false] at hy; rcases hy with rfl | rfl | rfl <;> rfl) (by unfold maxLen; omega) (by omega) (by simp; omega) ?_; intro v3 w3 hown3 hgrow3 _; obtain ⟨g3, cap3, rfl⟩ := ownsRow_succ hown3; obtain ⟨hv1, hv2, hr3, hk3, hb3⟩ := hbL2.appended (by decide) hrow2 hB2.size (Nat.le_refl _) hown3 hgrow3; have hc1 := hv1.cell; have hf1 := hv1.frozen)
      refine ⟨hKO12.trans (hk3.from _), hKY.then' (hBW2.trans hb3) (hK2.trans (((KeepsT.alloc _ _ _).trans (KeepsT.grown_row hgrow3 (hrow2.alloc _) (by decide))).trans (KeepsT.set hv1 (by decide) _))) hB.size, ⟨_, [] ++ [.slice (some ⟨gu, 0, none⟩) m cu], hv2, ?_⟩, hB2.trans hb3⟩
      rw [HSQ.out]
      exact ((hS2.below (below1 W2 _)).push d nm hown3 hgrow3).keeps (KeepsT.set hv1 (by decide) _) (KeepsT.set hv1 (by decide) _)
    · obtain ⟨vs0, uq, rfl⟩ : ∃ vs0 uq, vs = vs0 ++ [uq] := by
        rcases snoc_orB vs with rfl | ⟨vs0, uq, rfl⟩
        · simp at hvl
        · exact ⟨vs0, uq, rfl⟩
      have hl00 : r0.length = vs0.length := by simpa using hvl
      have hlx : (r0 ++ [qr]).length = r0.length + 1 := by simp
      have hrow2 := hS2.own.row
      rw [hlx] at hrow2 hfit2
      obtain ⟨av, cv, rfl⟩ := row_shape hrow2
      obtain ⟨go, rfl, hgo2, hclo⟩ := row_pos (Nat.succ_pos _) hrow2
      obtain ⟨z0, z1, z2⟩ := rzVals_get (rs := r0 ++ [qr]) (vs := vs0 ++ [uq]) (i := r0.length) (r := qr) (v := uq) (by simp) (by rw [hl00]; simp)
      have d0 := hclo _ _ z0
      have d2 := hclo _ _ z2
      have HL0 := Lib.hid hl00
      have Z2 := Lib.hid z2
      have HLX := Lib.hid hlx
      have hgoB : w.heap.size ≤ go := (hrow2.lt go rfl).1
      have i0 : (0 : Int) ≤ (r0.length : Int) := by omega
      have i1 : (r0.length : Int) < (r0.length : Int) + 1 := by omega
      have huT0 : TokOwn W2 w.heap.size uq qr.ts := hS2.own.ts r0.length qr uq (by simp) (by rw [hl00]; simp)
      have hgoR : go < R := hvR go rfl
      clear z0 z1 z2 hl00 hlx hclo hvl hvR
      cases hqd : qr.d with
      | true =>
        rw [hqd] at d0
        have HSQ : Hid (rowsP (pre ++ [x]) = (r0 ++ [qr]) ++ [⟨d, nm, rts⟩]) := Lib.hid (by rw [HSN.out, addRow_new (.inr (.inr ⟨r0, qr, rfl, hqd⟩))])
        clear HSN
        gi_wp2_with (gi_at_builtin; refine wpListIn_append_own _ rfl _ _ 47 rfl w.heap.size 50 j0 (.agg #[.bool false, .string ⟨#[]⟩, .slice none 0 0]) 3 48 Tryz.underlying47 hj hy0 hy1 hy2 rfl (by decide) _ _ _ rfl (hrow2.alloc _) ⟨W2.heap.size, 0, none⟩ 1 1 [.bool d, .string nm, .slice (some ⟨gu, 0, none⟩) m cu] rfl rfl (cell3_new _ _ _ _ _) (by intro y hy; simp only [List.mem_cons, List.not_mem_nil, or_false] at hy; rcases hy with rfl | rfl | rfl <;> rfl) (by unfold maxLen; omega) (by omega) (by simp; omega) ?_; intro v3 w3 hown3 hgrow3 _; obtain ⟨g3, cap3, rfl⟩ := ownsRow_succ hown3; obtain ⟨hv1, hv2, hr3, hk3, hb3⟩ := hbL2.appended (by decide) hrow2 hB2.size (Nat.le_refl _) hown3 hgrow3; have hc1 := hv1.cell; have hf1 := hv1.frozen)
        refine ⟨hKO12.trans (hk3.from _), hKY.then' (hBW2.trans hb3) (hK2.trans (((KeepsT.alloc _ _ _).trans (KeepsT.grown_row hgrow3 (hrow2.alloc _) (by decide))).trans (KeepsT.set hv1 (by decide) _))) hB.size, ⟨_, (vs0 ++ [uq]) ++ [.slice (some ⟨gu, 0, none⟩) m cu], hv2, ?_⟩, hB2.trans hb3⟩
        rw [HSQ.out]
        exact ((hS2.below (below1 W2 _)).push d nm (by rw [HLX.out]; exact hown3) hgrow3).keeps (KeepsT.set hv1 (by decide) _) (KeepsT.set hv1 (by decide) _)
      | false =>
        rw [hqd] at d0
        cases d with
        | true =>
          have HSQ : Hid (rowsP (pre ++ [x]) = (r0 ++ [qr]) ++ [⟨true, nm, rts⟩]) := Lib.hid (by rw [HSN.out, addRow_new (.inl rfl)])
          clear HSN
          gi_wp2_with (gi_at_builtin; refine wpListIn_append_own _ rfl _ _ 47 rfl w.heap.size 50 j0 (.agg #[.bool false, .string ⟨#[]⟩, .slice none 0 0]) 3 48 Tryz.underlying47 hj hy0 hy1 hy2 rfl (by decide) _ _ _ rfl (hrow2.alloc _) ⟨W2.heap.size, 0, none⟩ 1 1 [.bool true, .string nm, .slice (some ⟨gu, 0, none⟩) m cu] rfl rfl (cell3_new _ _ _ _ _) (by intro y hy; simp only [List.mem_cons, List.not_mem_nil, or_false] at hy; rcases hy with rfl | rfl | rfl <;> rfl) (by unfold maxLen; omega) (by omega) (by simp; omega) ?_; intro v3 w3 hown3 hgrow3 _; obtain ⟨g3, cap3, rfl⟩ := ownsRow_succ hown3; obtain ⟨hv1, hv2, hr3, hk3, hb3⟩ := hbL2.appended (by decide) hrow2 hB2.size (Nat.le_refl _) hown3 hgrow3; have hc1 := hv1.cell; have hf1 := hv1.frozen)
          refine ⟨hKO12.trans (hk3.from _), hKY.then' (hBW2.trans hb3) (hK2.trans (((KeepsT.alloc _ _ _).trans (KeepsT.grown_row hgrow3 (hrow2.alloc _) (by decide))).trans (KeepsT.set hv1 (by decide) _))) hB.size, ⟨_, (vs0 ++ [uq]) ++ [.slice (some ⟨gu, 0, none⟩) m cu], hv2, ?_⟩, hB2.trans hb3⟩
          rw [HSQ.out]
          exact ((hS2.below (below1 W2 _)).push true nm (by rw [HLX.out]; exact hown3) hgrow3).keeps (KeepsT.set hv1 (by decide) _) (KeepsT.set hv1 (by decide) _)
        | false =>
          have HSQ : Hid (rowsP (pre ++ [x]) = r0 ++ [⟨qr.d, qr.nm, qr.ts ++ rts⟩]) := Lib.hid (by rw [HSN.out, addRow_more rfl hqd])
          have hS3 : SepRz W2.drew w.heap.size (.slice (some ⟨go, 0, none⟩) (r0.length + 1) cv) (r0 ++ [qr]) (vs0 ++ [uq]) (.slice (some ⟨gu, 0, none⟩) m cu) rts := hS2.below (below_drewN (Below.refl _ _) 1)
          have huT : W2.drew.ownsRow w.heap.size 83 5 uq qr.ts.length (tzCells qr.ts) := huT0
          have hcl : ∀ j y, (tzCells rts)[j]? = some y → W2.drew.cell? ((⟨gu, 0, none⟩ : Addr).add j) = some y := hS3.line.cells (g := gu) rfl
          have htn : qr.ts.length + m ≤ n := by rw [toksN_snoc] at hfit; omega
          clear HSN huT0
          gi_wp2_with fail
          have hmx : Tryz.prog.follows .mixedOrders = true := by kernel_rfl
          refine wpIn_mono (Q := fun e _ W' => e = .normal ∧ KeepsFrom W0.heap.size W W' ∧ LnKept (w.heap.size + 1) w.heap.size Y W' ∧ RowsI w (pre ++ [x]) W') ?reg7 ?cont7
          case cont7 =>
            rintro e a' W3 ⟨rfl, h1, h2, h3⟩
            gi_wp2
            exact ⟨h1, h2, h3⟩
          case reg7 =>
            have hS : (fun W' : World => W'.heap[w.heap.size]? = some (.cells #[.slice (some ⟨go, 0, none⟩) (r0.length + 1) cv] 47 (0, 0)) ∧ W'.heap[R]? = some (.cells #[.bool false, .string nm, .slice (some ⟨gu, 0, none⟩) m cu] 50 (0, 0))) W2.drew := ⟨hbL2, hR2⟩
            refine region_round (l := l) (fun W' : World => W'.heap[w.heap.size]? = some (.cells #[.slice (some ⟨go, 0, none⟩) (r0.length + 1) cv] 47 (0, 0)) ∧ W'.heap[R]? = some (.cells #[.bool false, .string nm, .slice (some ⟨gu, 0, none⟩) m cu] 50 (0, 0))) hmx (by kernel_rfl) (fun ⟨_, _, h⟩ => by cases h.1) ?_
            refine take_at (i := 0) (d := 30) (v := .slice (some ⟨go, 0, none⟩) (r0.length + 1) cv) rfl rfl (by kernel_rfl) (by kernel_rfl) (by kernel_rfl) (fun _ _ _ h => by cases h.1) (Or.inl ⟨by rfl, ?_⟩) hS ?_
            · rintro w' ⟨hq1, hq2⟩
              have e1 : w'.cell? ⟨w.heap.size, 0, none⟩ = _ := (show Boxed w' w.heap.size 47 _ from hq1).cell
              go_simp
            simp only [List.setIfInBounds_toArray, List.set_cons_zero, List.set_cons_succ]
            refine take_at (i := 1) (d := 31) (v := .int .i64 r0.length) rfl rfl (by kernel_rfl) (by kernel_rfl) (by kernel_rfl) (fun _ _ _ h => by cases h.1) (Or.inl ⟨by rfl, ?_⟩) hS ?_
            · rintro w' ⟨hq1, hq2⟩
              go_simp
            simp only [List.setIfInBounds_toArray, List.set_cons_zero, List.set_cons_succ]
            refine take_at (i := 2) (d := 32) (v := .slice (some ⟨go, 0, none⟩) (r0.length + 1) cv) rfl rfl (by kernel_rfl) (by kernel_rfl) (by kernel_rfl) (fun _ _ _ h => by cases h.1) (Or.inl ⟨by rfl, ?_⟩) hS ?_
            · rintro w' ⟨hq1, hq2⟩
              have e1 : w'.cell? ⟨w.heap.size, 0, none⟩ = _ := (show Boxed w' w.heap.size 47 _ from hq1).cell
              go_simp
            simp only [List.setIfInBounds_toArray, List.set_cons_zero, List.set_cons_succ]
            refine take_at (i := 3) (d := 33) (v := .int .i64 r0.length) rfl rfl (by kernel_rfl) (by kernel_rfl) (by kernel_rfl) (fun _ _ _ h => by cases h.1) (Or.inl ⟨by rfl, ?_⟩) hS ?_
            · rintro w' ⟨hq1, hq2⟩
              go_simp
            simp only [List.setIfInBounds_toArray, List.set_cons_zero, List.set_cons_succ]
            refine take_at (i := 4) (d := 34) (v := .pointer (some ⟨go, r0.length * 3, none⟩)) rfl rfl (by kernel_rfl) (by kernel_rfl) (by kernel_rfl) (fun _ _ _ h => by cases h.1) (Or.inl ⟨by rfl, ?_⟩) hS ?_
            · rintro w' ⟨hq1, hq2⟩
              go_simp
            simp only [List.setIfInBounds_toArray, List.set_cons_zero, List.set_cons_succ]
            refine take_at (i := 5) (d := 35) (v := .pointer (some ⟨go, r0.length * 3 + 2, none⟩)) rfl rfl (by kernel_rfl) (by kernel_rfl) (by kernel_rfl) (fun _ _ _ h => by cases h.1) (Or.inl ⟨by rfl, ?_⟩) hS ?_
            · rintro w' ⟨hq1, hq2⟩
              go_simp
            simp only [List.setIfInBounds_toArray, List.set_cons_zero, List.set_cons_succ]
            refine take_at (i := 7) (d := 37) (v := .pointer (some ⟨R, 2, none⟩)) rfl rfl (by kernel_rfl) (by kernel_rfl) (by kernel_rfl) (fun _ _ _ h => by cases h.1) (Or.inl ⟨by rfl, ?_⟩) hS ?_
            · rintro w' ⟨hq1, hq2⟩
              go_simp
            simp only [List.setIfInBounds_toArray, List.set_cons_zero, List.set_cons_succ]
            refine take_at (i := 8) (d := 38) (v := .slice (some ⟨gu, 0, none⟩) m cu) rfl rfl (by kernel_rfl) (by kernel_rfl) (by kernel_rfl) (fun _ _ _ h => by cases h.1) (Or.inl ⟨by rfl, ?_⟩) hS ?_
            · rintro w' ⟨hq1, hq2⟩
              obtain ⟨-, -, e1, -⟩ := row_facts hq2
              go_simp
            simp only [List.setIfInBounds_toArray, List.set_cons_zero, List.set_cons_succ]
            refine wpAnyH_ready (rs := [6]) (by kernel_rfl) (by simp) ?_
            refine AllReadyH.cons rfl (fun K hK => ?_) AllReadyH.nil
            have d2d : W2.drew.cell? ⟨go, r0.length * 3 + 2, none⟩ = some uq := d2
            go_simp
            refine hK.out _ _ hS (fun _ => ?_)
            clear hK K d2d
            refine wpAnyH_ready (rs := [9]) (by kernel_rfl) (by simp) ?_
            refine AllReadyH.cons rfl (fun K hK => ?_) AllReadyH.nil
            rw [if_pos (by rfl)]
            refine oper_fresh ET _ _ rfl w.heap.size uq qr.ts.length (tzCells qr.ts) rfl huT ⟨gu, 0, none⟩ m cu (tzCells rts) rfl (by rw [tzCells_len, HM.out]) hcl (tzCells_one _) (by unfold maxLen; omega) (by omega) hs2 ?_
            intro v6 w6 hL6 hg6 hf6
            have hbox6 : Boxed w6 w.heap.size 47 (.slice (some ⟨go, 0, none⟩) (r0.length + 1) cv) := KeepsT.grown_row hg6 huT (by decide) _ _ _ hbL2
            have hR6 : w6.heap[R]? = some (.cells #[.bool false, .string nm, .slice (some ⟨gu, 0, none⟩) m cu] 50 (0, 0)) := KeepsT.grown_row hg6 huT (by decide) _ _ _ hR2
            refine hK.out _ _ ⟨hbox6, hR6⟩ (fun hS => ?_)
            clear hK K
            simp only [Act.put, List.setIfInBounds_toArray, List.set_cons_zero, List.set_cons_succ]
            obtain ⟨a6, c6, rfl⟩ := row_shape hL6
            have hL6b : TokOwn w6 w.heap.size (.slice a6 (qr.ts.length + m) c6) (qr.ts ++ rts) := by unfold TokOwn; rw [List.length_append, tzCells_append', HM.out]; exact hL6
            obtain ⟨hS6, hrow6⟩ := hS3.last HL0.out hL6b hg6 hf6
            have dd : w6.cell? ⟨go, r0.length * 3 + 2, none⟩ = some uq := by obtain ⟨g9, h9, _, hc9⟩ := row_pos (Nat.succ_pos _) hrow6; cases h9; exact hc9 _ _ Z2.out
            have fz := hrow6.frozenAt (r0.length * 3 + 2)
            have hgo6 := row_blockB hrow6 (k := go) rfl
            clear hL6 hL6b hrow6
            refine take_at (i := 10) (d := 40) (v := .pointer (some ⟨go, r0.length * 3, none⟩)) rfl rfl (by kernel_rfl) (by kernel_rfl) (by kernel_rfl) (fun _ _ _ h => by cases h.1) (Or.inl ⟨by rfl, ?_⟩) hS ?_
            · rintro w' ⟨hq1, hq2⟩
              go_simp
            simp only [List.setIfInBounds_toArray, List.set_cons_zero, List.set_cons_succ]
            refine take_at (i := 11) (d := 41) (v := .pointer (some ⟨go, r0.length * 3 + 2, none⟩)) rfl rfl (by kernel_rfl) (by kernel_rfl) (by kernel_rfl) (fun _ _ _ h => by cases h.1) (Or.inl ⟨by rfl, ?_⟩) hS ?_
            · rintro w' ⟨hq1, hq2⟩
              go_simp
            simp only [List.setIfInBounds_toArray, List.set_cons_zero, List.set_cons_succ]
            refine wpAnyH_ready (rs := [12]) (by kernel_rfl) (by simp) ?_
            refine AllReadyH.cons rfl (fun K hK => ?_) AllReadyH.nil
            go_simp
            obtain ⟨cur6, fz6, hgo6⟩ := hgo6
            have hbox7 : Boxed (w6.setCell ⟨go, r0.length * 3 + 2, none⟩ (.slice a6 (qr.ts.length + m) c6)) w.heap.size 47 (.slice (some ⟨go, 0, none⟩) (r0.length + 1) cv) := keepsT_other hgo6 (by decide) _ _ _ _ hbox6
            refine hK.out _ _ ⟨hbox7, (Below.heap_setCell _ _ _ _ (show R ≠ go by omega)).trans hR6⟩ (fun _ => ?_)
            clear hK K
            refine wpAnyH_done (by kernel_rfl) ?_ _
            have hKO6 : KeepsOthers W2.drew w6 := KeepsOthers.of_grownBy hg6 (fun k o ek hk => by obtain ⟨cur, fz9, hh⟩ := row_blockB huT ek; rw [hh] at hk; cases hk; rfl)
            have hB6 : Below w.heap.size W2 (w6.setCell ⟨go, r0.length * 3 + 2, none⟩ (.slice a6 (qr.ts.length + m) c6)) := ((below_drewN (Below.refl w.heap.size W2) 1).grown hg6 hs2 (fun k e => (huT.lt k e).1)).setCell (p := ⟨go, r0.length * 3 + 2, none⟩) hgoB _
            refine ⟨rfl, hKO12.trans ((KeepsOthers.trans (A := W2) ⟨hKO6.size, hKO6.same⟩ (KeepsOthers.setCell _ _ _)).from _), hKY.then' (hBW2.trans hB6) (hK2.trans ((KeepsT.grown_row hg6 huT (by decide)).trans (keepsT_other hgo6 (by decide) _))) hB.size, ⟨_, vs0 ++ [.slice a6 (qr.ts.length + m) c6], hbox7, ?_⟩, hB2.trans hB6⟩
            rw [HSQ.out]
            exact hS6

end Go.Proofs.YtaodjipnffgihaaGreat

namespace Go.Proofs.YtaodjipnffgihaaGreat
open Go.RowKit Go.Shelf

/-- A text's tokens. -/
def tksOf (s : ByteArray) : List Tz := (scanOf s).map tzOf
theorem tks_err {s : ByteArray} (h : scanErr s ≠ 0) : tksOf s = [] := by
  unfold tksOf scanOf; rw [if_neg h]; rfl
theorem tks_fit (s : ByteArray) : (tksOf s).length ≤ 65536 ∧ ∀ t ∈ tksOf s, t.tx.size ≤ 65536 := by
  by_cases h : scanErr s = 0
  · have hc : checkN s.data.toList = 0 := by
      unfold scanErr at h
      by_cases hc : checkN s.data.toList = 0
      · exact hc
      · rw [if_neg hc] at h; exact absurd h hc
    have hsz : s.size ≤ 65536 := by
      rcases check_cases s.data.toList with ⟨_, h⟩ | h | h
      · rw [size_list] at h; exact h
      · rw [h] at hc; exact absurd hc (by decide)
      · rw [h] at hc; exact absurd hc (by decide)
    have hL := logB_size s
    have hcl := charsOf_le s.data.toList
    rw [size_list] at hcl
    have ho : scanOf s = (toksY (logB s)).map (srcY (charsOf s.data.toList)) := by unfold scanOf; rw [if_pos h]
    unfold tksOf
    rw [ho]
    refine ⟨?_, fun t ht => ?_⟩
    · rw [List.length_map, List.length_map]
      have := toksY_len (logB s)
      omega
    · rw [List.mem_map] at ht
      obtain ⟨y, hy, rfl⟩ := ht
      rw [List.mem_map] at hy
      obtain ⟨z, hz, rfl⟩ := hy
      unfold toksY at hz
      rw [List.mem_map] at hz
      obtain ⟨k, _, rfl⟩ := hz
      show ((logB s).extract k.a k.e).size ≤ 65536
      rw [ByteArray.size_extract]
      omega
  · rw [tks_err h]
    exact ⟨Nat.zero_le _, fun t h => by cases h⟩

/-! ### Reckoned by fuel -/
def checkF (l : List UInt8) : Int := if 65536 < l.length then 3 else if (match (partsFuel l.length l 0).getLast? with | none => l == [] | some p => !p.sp && p.b == 10) then 0 else 10
def charsF (l : List UInt8) : List Part := chs (partsFuel l.length l 0)
def logF (l : List UInt8) : List UInt8 := (charsF l).map (·.b)
def scanErrF (l : List UInt8) : Int := if checkF l = 0 then ((toks (logF l) 0 0).2 : Int) else checkF l
def scanOfF (l : List UInt8) : List Yd := if scanErrF l = 0 then (toksY ⟨(logF l).toArray⟩).map (srcY (charsF l)) else []
def tksF (l : List UInt8) : List Tz := (scanOfF l).map tzOf
end Go.Proofs.YtaodjipnffgihaaGreat

namespace Go.Proofs.YtaodjipnffgihaaGreat
open Go.RowKit Go.Shelf

/-- scan.Scan for lines. -/
theorem scan_tz (s : ByteArray) (w : World) (hs : s.size ≤ maxLen) (hL : LibVar w) :
    Calls Tryz.prog 32 #[.string s] w fun e w' => (∃ a cap, e = .returned (.tuple #[.slice a (tksOf s).length cap, .int .i64 (scanErr s)]) ∧ (tksOf s).length ≤ cap ∧ TzIn w' a (tksOf s)) ∧ Below w.heap.size w w' := by
  refine (scan_any s w hs hL).mono ?_
  rintro e w' ⟨⟨v, rfl, hr⟩, hb⟩
  obtain ⟨a, cap, rfl⟩ := row_shape hr
  have hl : (tksOf s).length = (scanOf s).length := by unfold tksOf; rw [List.length_map]
  refine ⟨⟨a, cap, by rw [hl], by rw [hl]; exact row_cap2 hr, fun hp => ?_⟩, hb⟩
  obtain ⟨g, rfl, _, hg, ht⟩ := tokRow_of (by rw [← hl]; exact hp) hr
  exact ⟨g, 0, rfl, hg, ht.tz.at⟩

/-- The rows of a list, read. -/
theorem rows_in_any (n cap : Nat) (a : Option Addr) (w : World) (hn2 : n * 48 ≤ 140737488355328) (hnc : n ≤ cap) (ts : List Tz) (hn : ts.length = n) (hx : ∀ t ∈ ts, t.tx.size ≤ 281474976710656) (hT : TzIn w a ts) :
    Calls Tryz.prog 33 #[.slice a n cap] w fun e w' => (∃ a' cap', e = .returned (.slice a' (rowsS ts).length cap') ∧ (rowsS ts).length ≤ cap' ∧ RzIn w' a' (rowsS ts)) ∧ Below w.heap.size w w' := by
  refine (rows_any n cap a w hn2 hnc ts hn hx hT).mono ?_
  rintro e w' ⟨⟨v, vs, rfl, hS⟩, hb⟩
  have hc := hS.own.row
  obtain ⟨a', cap', rfl, h2⟩ := hS.own.at
  refine ⟨⟨a', cap', rfl, row_cap2 hc, fun hp => ?_⟩, hb⟩
  obtain ⟨g, e, _, hg, hr⟩ := h2 hp
  exact ⟨g, 0, e, hg, hr⟩

theorem rows_toks : ∀ (ls : List (List Tz)) (o : List Rz) (r : Rz) (t : Tz), r ∈ ls.foldl addLine o → t ∈ r.ts → (∃ q ∈ o, t ∈ q.ts) ∨ ∃ l ∈ ls, t ∈ l
  | [], o, r, t, h, ht => .inl ⟨r, h, ht⟩
  | l :: ls, o, r, t, h, ht => by
    rw [List.foldl_cons] at h
    rcases rows_toks ls _ r t h ht with ⟨q, hq, hqt⟩ | ⟨l', hl', h'⟩
    · unfold addLine at hq
      rcases List.eq_nil_or_concat o with rfl | ⟨o', p, rfl⟩
      · rw [addRow_new (.inr (.inl rfl))] at hq
        obtain rfl : q = rowOf l := by simpa using hq
        exact .inr ⟨l, List.mem_cons_self, hqt⟩
      · rw [List.concat_eq_append] at hq ⊢
        by_cases hc : (rowOf l).d = false ∧ p.d = false
        · rw [addRow_more hc.1 hc.2] at hq
          rcases List.mem_append.1 hq with hq | hq
          · exact .inl ⟨q, List.mem_append_left _ hq, hqt⟩
          · obtain rfl : q = _ := List.mem_singleton.1 hq
            rcases List.mem_append.1 hqt with h1 | h1
            · exact .inl ⟨p, by simp, h1⟩
            · exact .inr ⟨l, List.mem_cons_self, h1⟩
        · rw [addRow_new (by
            by_cases h1 : (rowOf l).d = true
            · exact .inl h1
            · refine .inr (.inr ⟨o', p, rfl, ?_⟩)
              by_cases h2 : p.d = true
              · exact h2
              · exact absurd ⟨Bool.eq_false_iff.2 h1, Bool.eq_false_iff.2 h2⟩ hc)] at hq
          rcases List.mem_append.1 hq with hq | hq
          · exact .inl ⟨q, hq, hqt⟩
          · obtain rfl : q = _ := List.mem_singleton.1 hq
            exact .inr ⟨l, List.mem_cons_self, hqt⟩
    · exact .inr ⟨l', List.mem_cons_of_mem _ hl', h'⟩
theorem toksN_mem : ∀ {rs : List Rz} {r : Rz}, r ∈ rs → r.ts.length ≤ toksN rs
  | q :: rs, r, h => by
    have e : toksN (q :: rs) = q.ts.length + toksN rs := by simp [toksN]
    rcases List.mem_cons.1 h with rfl | h
    · omega
    · have := toksN_mem h; omega
theorem toksN_rows (ts : List Tz) : toksN (rowsS ts) = ts.length := by
  unfold rowsS
  rw [toksN_lines, linesF_flat]
  show 0 + _ = _
  omega
/-- Rows of a list that fits fit. -/
theorem rows_fit {ts : List Tz} (hn2 : ts.length * 48 ≤ 140737488355328) (hx : ∀ t ∈ ts, t.tx.size ≤ 281474976710656) : RowsFit (rowsS ts) := fun r hr => by
  refine ⟨?_, fun t ht => ?_⟩
  · have h1 := toksN_mem hr
    rw [toksN_rows] at h1
    omega
  · rcases rows_toks (linesS ts) [] r t hr ht with ⟨q, hq, _⟩ | ⟨l, hl, hlt⟩
    · cases hq
    · refine hx t ?_
      rw [← linesF_flat ts]
      exact List.mem_flatten.2 ⟨l, hl, hlt⟩

def rowsT (s : ByteArray) : List Rz := rowsS (tksOf s)
theorem LibVar.low {w w' : World} (h : LibVar w) (hb : Below w.heap.size w w') : LibVar w' := libVar_below hb h

/-- What the law's says answers. -/
def sayN (rs : List Rz) (i : Nat) : Int := match rs[i]? with
  | some r => (saysS r).length
  | none => -1
end Go.Proofs.YtaodjipnffgihaaGreat
