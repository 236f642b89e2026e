/- ctok.numbers at a literal. -/
import Derived.Test.YtenmapahigbbeaaCtU
namespace Go.Proofs.Ytenmapahigbbeaa
open Go.RowKit Go.Shelf

attribute [local go_sem] Oper.semAt_some

def TrE (_ : List (Nat × Bool)) (_ : Value) : Prop := True
/-- What a round keeps; how the loop is left. -/
def LitI (w : World) (p : ByteArray) (pre : List (Nat × Bool)) (W : World) : Prop :=
  ((∃ v, Boxed W (w.heap.size + 1) 32 v ∧ W.ownsRow w.heap.size 2 1 v pre.length (intCells (pre.map (·.1))) ∧ TrE pre v) ∧ (Boxed W w.heap.size 9 (.string p) ∧ Boxed W (w.heap.size + 1 + 1) 4 (.bool true)) ∧ Below w.heap.size w W) ∧ allYes pre
def LitX (w : World) (c : Code) (pre : List (Nat × Bool)) (W : World) : Prop := ∃ q x, TriW w.heap.size ⟨#[]⟩ (.slice none 0 0) false W ∧ Below w.heap.size w W ∧ c = .ret ∧ pre = q ++ [x] ∧ x.2 = false
/-- What numbers answers at a literal. -/
def LitR (w : World) (s : ByteArray) (e : Ending) (w' : World) : Prop := (match litC s.data.toList with
  | some ns => ∃ (p : ByteArray) (v : Value), e = .returned (.tuple #[.string p, v, .bool true]) ∧ p.data.toList = preC s.data.toList ∧ w'.ownsRow w.heap.size 2 1 v ns.length (intCells ns)
  | none => e = .returned (.tuple #[.string ⟨#[]⟩, .slice none 0 0, .bool false])) ∧ Below w.heap.size w w'

set_option maxRecDepth 100000 in
set_option maxHeartbeats 4000000 in
theorem numbers_lit (s : ByteArray) (k : Nat) (w : World) (hs : s.size ≤ 200000) (hL : LibVar w) (hk : k = 3 ∨ k = 4) (h : oneOf s = (k, true)) :
    Calls Try.prog 31 #[.int .i64 k, .string s] w (LitR w s) := by
  obtain ⟨i0, hi, hz0, hz1, hz2⟩ := info_parts infoI64
  have C := fun w' (hb : Below w.heap.size w w') => cutQuotes_yes s k w' hs (libVar_below hb hL) hk h
  have T := tri_new w
  have hB := below3 w (.cells #[.string ⟨#[]⟩] 9) (.cells #[.slice none 0 0] 32) (.cells #[.bool false] 4)
  obtain ⟨W1, hW1⟩ : ∃ W1, ((w.alloc (.cells #[.string ⟨#[]⟩] 9)).alloc (.cells #[.slice none 0 0] 32)).alloc (.cells #[.bool false] 4) = W1 := ⟨_, rfl⟩
  rw [hW1] at T hB
  refine (callsIn_wide (n := 20)).1 ?_
  refine callsIn_of_wp_marks Try.func31 rfl trivial ?_ rfl
  simp only [Try.ntmps31, List.size_toArray, List.length_cons, List.length_nil, Nat.reduceAdd, Nat.reduceSub, Array.replicate_succ, Array.replicate_zero, List.push_toArray, List.append_toArray, List.nil_append, List.cons_append]
  gi_wp2
  refine ⟨trivial, (callsIn_wide.2 (C _ hB)).mono ?_⟩
  rintro e w1 ⟨⟨p, b, rfl, hpl, hbl, hbs⟩, hb1⟩
  have T1 := T.below hb1
  have hB1 := hB.trans (hb1.mono hB.size)
  have T2 := (T1.setP p).setF true
  have HP := Lib.hid hpl
  have HBl := Lib.hid hbl
  have hsz := hB1.size
  clear T C hW1 hpl hbl hk h
  have c0 := T1.pre.cell
  have c1 := T1.row.cell
  have c2 := T1.fit.cell
  have f0 := T1.pre.frozen
  have f1 := T1.row.frozen
  have f2 := T1.fit.frozen
  gi_wp2
  clear c0 c1 c2 f0 f1 f2
  have hB2 : Below w.heap.size w ((w1.setCell ⟨w.heap.size, 0, none⟩ (.string p)).setCell ⟨w.heap.size + 1 + 1, 0, none⟩ (.bool true)) := (hB1.setCell (Nat.le_refl _) _).setCell (by simp; omega) _
  obtain ⟨W2, hW2⟩ : ∃ W2, (w1.setCell ⟨w.heap.size, 0, none⟩ (.string p)).setCell ⟨w.heap.size + 1 + 1, 0, none⟩ (.bool true) = W2 := ⟨_, rfl⟩
  rw [hW2] at T2 hB2 ⊢
  clear hW2 T1 hB1
  refine ⟨trivial, (callsIn_wide.2 (greatest_any _ _)).mono ?_⟩
  rintro e w' ⟨rfl, rfl⟩
  gi_wp2
  obtain ⟨g, hg⟩ : ∃ g, topC p.data.toList = g := ⟨_, rfl⟩
  obtain ⟨hg1, hg2⟩ := topC_le p.data.toList
  rw [hg] at hg1 hg2 ⊢
  have HG := Lib.hid hg
  clear hg
  refine ⟨trivial, (callsIn_wide.2 (elements_any _ _ _)).mono ?_⟩
  rintro e w' ⟨rfl, rfl⟩
  gi_wp2
  have hsz2 := hB2.size
  have bS := (Boxed.new W2 9 (.string b)).alloc (.cells #[.int .u64 g] 22)
  have bG := Boxed.new (W2.alloc (.cells #[.string b] 9)) 22 (.int .u64 g)
  simp only [World.size_alloc] at bG
  have hsz3 : w.heap.size + 1 + 1 < W2.heap.size := T2.fit.lt
  have hb23 := below2 W2 (.cells #[.string b] 9) (.cells #[.int .u64 g] 22)
  have T3 := T2.below hb23
  have hB3 := hB2.trans (hb23.mono hsz2)
  have hsz4 : W2.heap.size + 2 ≤ ((W2.alloc (.cells #[.string b] 9)).alloc (.cells #[.int .u64 g] 22)).heap.size := by simp
  obtain ⟨W0, hW0⟩ : ∃ W0, (W2.alloc (.cells #[.string b] 9)).alloc (.cells #[.int .u64 g] 22) = W0 := ⟨_, rfl⟩
  rw [hW0] at bS bG T3 hB3 hsz4 ⊢
  clear hW0 hb23 T2 hB2
  have hel := elA_len g _ b.data.toList (Nat.le_refl _)
  rw [size_list] at hel
  have hbm : b.size ≤ maxLen := by unfold maxLen; omega
  refine wpIn_rangeFunc_ownH rfl (by decide) (gf := 61) (lb := #[.pointer (some ⟨W2.heap.size, 0, none⟩), .pointer (some ⟨W2.heap.size + 1, 0, none⟩)]) rfl trivial (enters_of Try.func61 (by kernel_rfl) rfl)
    (elements_stops _ (by decide) b g hbm hg1 hg2 W2.heap.size (W2.heap.size + 1) W0 bS bG) twoKept_t (twoKept_b (n := W0.heap.size)) (Below.refl _ _) (fun _ => rfl)
    (LitI w p) (LitX w)
    (OwnFrom.and (OwnFrom.and (Own.from (holdsRow_own w.heap.size (w.heap.size + 1) 32 2 1 (fun pre => pre.length) (fun pre => intCells (pre.map (·.1))) TrE) _) (OwnFrom.and (OwnFrom.and (Own.from (boxed_own _ _ _) _) (Own.from (boxed_own _ _ _) _)) (ownFrom_below (Nat.le_refl _) (by omega)))) (ownFrom_pure _ _))
    (fun c pre X Y row hs' hg' hr => by
      obtain ⟨q, x, h1, h2, h3⟩ := hs'
      exact ⟨q, x, h1.grow hg' hr, (ownFrom_below (β := Unit) (Nat.le_refl _) (by omega)) () X Y row h2 hg' hr, h3⟩)
    ⟨⟨⟨_, T3.row, World.ownsRow_nil _ _ _ _, trivial⟩, ⟨T3.pre, T3.fit⟩, hB3⟩, fun _ h => by cases h⟩
    (fun x a' W => a' = { tmps := #[.int .i64 k, .string s, undef, undef, .pointer (some ⟨w.heap.size, 0, none⟩), .pointer (some ⟨w.heap.size + 1, 0, none⟩), .pointer (some ⟨w.heap.size + 1 + 1, 0, none⟩), .string b, .int .i64 x.1, .bool x.2, .tuple #[.string p, .string b, .bool true], .int .i64 k, .string s, .tuple #[.string p, .string b, .bool true], .string p, .string b, .bool true, .bool true, .bool false, .string b, .string p, .int .u64 g, .func (.func 61) #[] #[.pointer (some ⟨W2.heap.size, 0, none⟩), .pointer (some ⟨W2.heap.size + 1, 0, none⟩)], .int .i64 x.1, .bool x.2, undef, undef, undef, undef, undef, undef, undef, undef], defers := [] })
    (fun x a' _ X Y row hs' hg hr => hs')
    ?assign ?body ?done ?stop
  case assign =>
    rintro l pre x W K hI hK
    unfold encE
    gi_wp2
    exact hK _ _ (KeepsFrom.refl _ _) ⟨fun _ h => h, fun _ h => h⟩ hI rfl
  case body =>
    rintro l pre x a' W hl ⟨r, hr⟩ ⟨⟨⟨v, bL1, hrow, _⟩, ⟨bP1, bF1⟩, hB1⟩, hp⟩ rfl hlt
    have c0 := bP1.cell
    have c1 := bL1.cell
    have c2 := bF1.cell
    have f0 := bP1.frozen
    have f1 := bL1.frozen
    have f2 := bF1.frozen
    have lR := bL1.lt
    obtain ⟨n, y⟩ := x
    cases y with
    | false =>
      clear hsz4
      gi_wp2
      have T5 := (((⟨bP1, bL1, bF1⟩ : TriW w.heap.size p v true W).setP ⟨#[]⟩).setV (.slice none 0 0)).setF false
      refine ⟨(((KeepsOthers.setCell _ _ _).from _).trans ((KeepsOthers.setCell _ _ _).from _)).trans ((KeepsOthers.setCell _ _ _).from _), pre, (n, false), T5, ((hB1.setCell (Nat.le_refl _) _).setCell (by simp) _).setCell (by simp; omega) _, rfl, rfl, rfl⟩
    | true =>
      gi_wp2_with (gi_at_builtin; refine wpListIn_append_own _ rfl _ _ 32 rfl w.heap.size 2 i0 (.int .i64 0) 1 8 Try.underlying32 hi hz0 hz1 hz2 rfl (by decide) _ _ _ rfl (hrow.alloc _) ⟨W.heap.size, 0, none⟩ 1 1 [intCell n] rfl rfl (cell_one_new _ _ _) (by simp [Value.oneCell', intCell]) (by unfold maxLen; omega) (by omega) (by have := hB1.size; simp; omega) ?_; intro v' w2 hown' hgrow _; obtain ⟨g', cap', rfl⟩ := ownsRow_succ hown'; obtain ⟨hv1, hv2, hr2, hk2, hb2⟩ := bL1.appended (by decide) hrow hB1.size (Nat.le_succ _) hown' hgrow; have hc1 := hv1.cell; have hf1 := hv1.frozen; have bP2 := box_app bP1 (by decide) hrow hgrow; have bF2 := box_app bF1 (by decide) hrow hgrow; have hkt : TwoKept W2.heap.size (W2.heap.size + 1) W (w2.setCell ⟨w.heap.size + 1, 0, none⟩ (.slice (some ⟨g', 0, none⟩) (pre.length + 1) cap')) := ⟨fun u hu => (box_app hu (by decide) hrow hgrow).other (by omega) _, fun u hu => (box_app hu (by decide) hrow hgrow).other (by omega) _⟩)
      refine ⟨hk2.from _, hkt, ⟨⟨⟨_, hv2, ?_, trivial⟩, ⟨bP2.other (by omega) _, bF2.other (by omega) _⟩, hB1.trans hb2⟩, allYes_snoc hp rfl⟩⟩
      rw [List.map_append, List.length_append, List.map_singleton, intCells_snoc]
      exact hr2
  case done =>
    rintro D ys W hD rfl ⟨⟨⟨v, bL1, hrow, _⟩, ⟨bP1, bF1⟩, hB1⟩, hp⟩ hK
    have c0 := bP1.cell
    have c1 := bL1.cell
    have c2 := bF1.cell
    have f0 := bP1.frozen
    have f1 := bL1.frozen
    have f2 := bF1.frozen
    have e2 := fun k => boxed_self (show Boxed (W.drewN k) w.heap.size 9 (.string p) from bP1)
    have e3 := fun k => boxed_self (show Boxed (W.drewN k) (w.heap.size + 1) 32 v from bL1)
    have e4 := fun k => boxed_self (show Boxed (W.drewN k) (w.heap.size + 1 + 1) 4 (.bool true) from bF1)
    have HE : Hid (litC s.data.toList = some ((elA g b.data.toList).map (·.1))) := Lib.hid (by
      unfold litC
      rw [← HP.out, HG.out, ← HBl.out]
      exact elems_done hp)
    obtain ⟨ys, hys⟩ : ∃ ys, elA g b.data.toList = ys := ⟨_, rfl⟩
    rw [hys] at HE hrow
    clear hys hp hel
    obtain ⟨va, vc, rfl⟩ := row_shape hrow
    gi_wp2
    refine wpIn_wide.2 ?_
    go_big_quiet (fail)
    gi_wp2
    have hK2 : (W.drewN nq).heap[D]? = some (.deferred (some [])) := hK
    have hoth : ∀ B, B < W0.heap.size → ((W.drewN nq).putObj D (.deferred none)).cell? ⟨B, 0, none⟩ = W.cell? ⟨B, 0, none⟩ := fun B hB => World.cell?_of_block (a := ⟨B, 0, none⟩) (World.putObj_heap_other (by simp only; omega))
    refine ⟨by simp, .inl ⟨_, _, rfl, run_takeDeferred hK2, ?_⟩⟩
    refine ⟨_, results_tri _ w.heap.size (w.heap.size + 1) (w.heap.size + 1 + 1) _ _ _ _ rfl rfl rfl ((hoth _ (by omega)).trans c0) ((hoth _ (by omega)).trans c1) ((hoth _ (by omega)).trans c2), ?_⟩
    unfold LitR
    rw [HE.out]
    refine ⟨⟨p, _, rfl, HP.out, ?_⟩, (below_drewN hB1 nq).trans (belowK_b (w := w) (Nat.le_refl _) (W.drewN nq) D _ _ (by omega) hK2 rfl rfl)⟩
    rw [List.length_map]
    exact ownsRow_putObj (W := W.drewN nq) hrow _ hK2 rfl
  case stop =>
    rintro D c pre W hD hpre ⟨q, x, T5, hB1, rfl, rfl, hx⟩ hK
    have HE : Hid (litC s.data.toList = none) := Lib.hid (by
      unfold litC
      rw [← HP.out, HG.out, ← HBl.out]
      exact elems_stop hpre hx)
    clear hpre
    gi_wp2
    have hoth : ∀ B, B < W0.heap.size → (W.putObj D (.deferred none)).cell? ⟨B, 0, none⟩ = W.cell? ⟨B, 0, none⟩ := fun B hB => World.cell?_of_block (a := ⟨B, 0, none⟩) (World.putObj_heap_other (by simp only; omega))
    refine ⟨by simp, .inl ⟨_, _, rfl, run_takeDeferred hK, ?_⟩⟩
    refine ⟨_, results_tri _ w.heap.size (w.heap.size + 1) (w.heap.size + 1 + 1) _ _ _ _ rfl rfl rfl ((hoth _ (by omega)).trans T5.pre.cell) ((hoth _ (by omega)).trans T5.row.cell) ((hoth _ (by omega)).trans T5.fit.cell), ?_⟩
    unfold LitR
    rw [HE.out]
    exact ⟨rfl, hB1.trans (belowK_b (w := w) (Nat.le_refl _) W D _ _ (by omega) hK rfl rfl)⟩

end Go.Proofs.Ytenmapahigbbeaa
