/- scan.firstTokens. -/
import Derived.Test.YtenmapahigbbeaaFirst0
namespace Go.Proofs.Ytenmapahigbbeaa
open Go.RowKit Go.Shelf

attribute [local go_sem] Oper.semAt_some

set_option maxRecDepth 100000 in
set_option maxHeartbeats 2000000 in
theorem firstTokens_any (s : ByteArray) (m : Nat) (w : World) (hs : s.size ≤ 200000) (hm : 1 ≤ m) (hm2 : m ≤ 2) (hL : LibVar w) :
    Calls Try.prog 71 #[.string s, .int .i64 m] w fun e w' => (∃ v, e = .returned v ∧ w'.ownsRow w.heap.size 49 5 v (firstOf s m).length (ydCells (firstOf s m))) ∧ Below w.heap.size w w' := by
  obtain ⟨i0, hi, hz0, hz1, hz2⟩ := info_parts infoTok
  refine (callsIn_wide (n := 20)).1 ?_
  refine callsIn_of_wp_marks Try.func71 rfl trivial ?_ rfl
  simp only [Try.ntmps71, List.size_toArray, List.length_cons, List.length_nil, Nat.reduceAdd, Nat.reduceSub, Array.replicate_succ, Array.replicate_zero, List.push_toArray, List.append_toArray, List.nil_append, List.cons_append]
  gi_wp2
  refine ⟨trivial, (callsIn_wide.2 (tokens_any _ _)).mono ?_⟩
  rintro e w' ⟨rfl, rfl⟩
  gi_wp2
  have hlen := yts_len s
  have hG := libVar_lt hL
  have bM := ((Boxed.new w 3 (.int .i64 m)).alloc (.cells #[.slice none 0 0] 50)).alloc (.cells #[.string s] 9)
  have bL := (Boxed.new (w.alloc (.cells #[.int .i64 m] 3)) 50 (.slice none 0 0)).alloc (.cells #[.string s] 9)
  have bN := Boxed.new ((w.alloc (.cells #[.int .i64 m] 3)).alloc (.cells #[.slice none 0 0] 50)) 9 (.string s)
  simp only [World.size_alloc] at bL bN
  have hB0 := below3 w (.cells #[.int .i64 m] 3) (.cells #[.slice none 0 0] 50) (.cells #[.string s] 9)
  have hsz : (((w.alloc (.cells #[.int .i64 m] 3)).alloc (.cells #[.slice none 0 0] 50)).alloc (.cells #[.string s] 9)).heap.size = w.heap.size + 3 := by simp
  obtain ⟨W0, hW0⟩ : ∃ W0, ((w.alloc (.cells #[.int .i64 m] 3)).alloc (.cells #[.slice none 0 0] 50)).alloc (.cells #[.string s] 9) = W0 := ⟨_, rfl⟩
  rw [hW0] at bM bL bN hB0 hsz ⊢
  clear hW0
  have hE0 : Env (w.heap.size + 1) (w.heap.size + 1 + 1) s W0 := ⟨bN, ⟨_, bL, fun k hk => by simp [Value.ownBlock] at hk⟩, libVar_below hB0 hL⟩
  refine wpIn_range_paid rfl (by decide) (gf := 81) (lb := #[.pointer (some ⟨w.heap.size + 1 + 1, 0, none⟩)]) rfl trivial (enters_of Try.func81 (by kernel_rfl) rfl)
    (tokens_stops _ (by decide) s hs (w.heap.size + 1 + 1) (w.heap.size + 1) W0 hE0) (fun Y W l o o' _ hl ho h => lastKept_put o' hl ho h) (Below.refl _ _) (fun _ => rfl)
    (fun pre W => (((∃ v, Boxed W (w.heap.size + 1) 50 v ∧ W.ownsRow w.heap.size 49 5 v pre.length (ydCells (ydP pre)) ∧ TrY pre v) ∧ Boxed W w.heap.size 3 (.int .i64 m)) ∧ Below w.heap.size w W) ∧ erOk m pre)
    (fun c pre W => (∃ q, (∃ v, Boxed W (w.heap.size + 1) 50 v ∧ W.ownsRow w.heap.size 49 5 v q.length (ydCells (ydP q)) ∧ TrY q v) ∧ StopF m q pre) ∧ Below w.heap.size w W ∧ c = .exit 0)
    ?ownI ?ownX
    ⟨⟨⟨⟨_, bL, World.ownsRow_nil _ _ _ _, trivial⟩, bM⟩, hB0⟩, fun _ h => by (cases h), hm⟩
    (fun x Y a' W => ∃ Bx, Y.heap.size ≤ Bx ∧ W.heap[Bx]? = some (.cells #[.int .i64 x.1.k, .string x.1.tx, .int .i64 x.1.a, .int .i64 x.1.e, .bool x.1.sp] 49 (0, 0)) ∧ KeptC Y W ∧ (∃ v0, Boxed Y (w.heap.size + 1) 50 v0) ∧ a' = { tmps := #[.string s, .int .i64 m, undef, .pointer (some ⟨w.heap.size, 0, none⟩), .slice none 0 0, .pointer (some ⟨w.heap.size + 1, 0, none⟩), .pointer (some ⟨Bx, 0, none⟩), .int .i64 x.1.er, .string s, .func (.func 81) #[] #[.pointer (some ⟨w.heap.size + 1 + 1, 0, none⟩)], .agg #[.int .i64 x.1.k, .string x.1.tx, .int .i64 x.1.a, .int .i64 x.1.e, .bool x.1.sp], .int .i64 x.1.er, undef, undef, undef, undef, undef, undef, undef, undef, undef, undef, undef], defers := [] })
    (fun x Y a' _ X Z row hs' hg hr => by
      obtain ⟨Bx, h0, h1, h2, h4, h3⟩ := hs'
      refine ⟨Bx, h0, (hg.block Bx (Array.getElem?_eq_some_iff.1 h1).1 (fun e => ?_)).trans h1, KeptC.own Y () X Z row h2 hg hr, h4, h3⟩
      obtain ⟨_, o, ho, hc⟩ := hr Bx e.symm
      rw [h1] at ho; cases ho; cases hc)
    ?assign ?body ?done ?stop
  case ownI =>
    exact OwnFrom.and (OwnFrom.and (OwnFrom.and (Own.from (holdsRow_own w.heap.size (w.heap.size + 1) 50 49 5 (fun pre => pre.length) (fun pre => ydCells (ydP pre)) TrY) _) (Own.from (boxed_own _ _ _) _)) (ownFrom_below (Nat.le_refl _) (by omega))) (ownFrom_pure _ _)
  case ownX =>
    intro c pre X Z row h hg hr
    obtain ⟨⟨q, hq, hst⟩, hb, hc⟩ := h
    exact ⟨⟨q, (Own.from (holdsRow_own w.heap.size (w.heap.size + 1) 50 49 5 (fun pre => pre.length) (fun pre => ydCells (ydP pre)) TrY) _) q X Z row hq hg hr, hst⟩, (ownFrom_below (β := Unit) (Nat.le_refl _) (by omega)) () X Z row hb hg hr, hc⟩
  case assign =>
    rintro l pre x Y K ⟨⟨⟨⟨v, bL1, hrow, _⟩, bM1⟩, hB1⟩, hp⟩ hK
    unfold encY
    gi_wp2
    exact hK _ _ ((KeepsOthers.alloc _ _).from _) ⟨⟨⟨⟨v, bL1.alloc _, hrow.alloc _, trivial⟩, bM1.alloc _⟩, hB1.alloc hB1.size _⟩, hp⟩ ⟨Y.heap.size, Nat.le_refl _, World.alloc_heap_new _ _, KeptC.of_below (below1 _ _), ⟨v, bL1⟩, rfl⟩
  case body =>
    rintro l pre x Y a' W hl ⟨r, hr⟩ ⟨⟨⟨⟨v, bL1, hrow, _⟩, bM1⟩, hB1⟩, hp⟩ ⟨Bx, hBx, bX, hKC, ⟨v0, hv0⟩, rfl⟩ hlt
    obtain rfl : v0 = v := by
      have h1 := hKC.2 _ _ _ _ hv0
      rw [show W.heap[w.heap.size + 1]? = _ from bL1] at h1
      simp only [Option.some.injEq, Obj.cells.injEq] at h1
      simpa using h1.1.symm
    have d0 : W.cell? ⟨Bx, 0, none⟩ = some (.int .i64 x.1.k) := by rw [Lib.cell_of_heap bX]; rfl
    have d1 : W.cell? ⟨Bx, 1, none⟩ = some (.string x.1.tx) := by rw [Lib.cell_of_heap bX]; rfl
    have d2 : W.cell? ⟨Bx, 2, none⟩ = some (.int .i64 x.1.a) := by rw [Lib.cell_of_heap bX]; rfl
    have d3 : W.cell? ⟨Bx, 3, none⟩ = some (.int .i64 x.1.e) := by rw [Lib.cell_of_heap bX]; rfl
    have d4 : W.cell? ⟨Bx, 4, none⟩ = some (.bool x.1.sp) := by rw [Lib.cell_of_heap bX]; rfl
    have hc := bL1.cell
    by_cases her : x.1.er = 0
    · by_cases hfull : pre.length + 1 = m
      · gi_wp2_with (gi_at_builtin; refine wpListIn_append_own _ rfl _ _ 50 rfl w.heap.size 49 i0 (.agg #[.int .i64 0, .string ⟨#[]⟩, .int .i64 0, .int .i64 0, .bool false]) 5 48 Try.underlying50 hi hz0 hz1 hz2 rfl (by decide) _ _ _ rfl (hrow.alloc _) ⟨W.heap.size, 0, none⟩ 1 1 (ydCell x.1) rfl rfl (cell5_new _ _ _ _ _ _ _) (by simp [Value.oneCell', ydCell]) (by unfold maxLen; omega) (by omega) (by have := hB1.size; simp; omega) ?_; intro v' w2 hown' hgrow _; obtain ⟨g', cap', rfl⟩ := ownsRow_succ hown'; obtain ⟨hv1, hv2, hr2, hk2, hb2⟩ := bL1.appended (by decide) hrow hB1.size (Nat.le_succ _) hown' hgrow; have hc1 := hv1.cell; have hf1 := hv1.frozen; have hc2 := hv2.cell; have bM2 := box_app bM1 (by decide) hrow hgrow; have hcM := bM2.cell; have hLK := lastKept_app (Bn := w.heap.size + 1 + 1) hG (Nat.le_succ _) hKC hv0 hrow hown' hgrow)
        rw [hfull] at hv2 hk2 hb2 hr2
        refine ⟨hk2.from _, ⟨pre ++ [x], ⟨_, hv2, ?_, trivial⟩, .inl ⟨rfl, fun p hp' => ?_, by simpa using hfull⟩⟩, hB1.trans hb2, rfl⟩
        · have h := hr2
          rw [List.length_append, List.length_singleton, hfull, ydP_snoc, ydCells_snoc]
          exact h
        · rcases List.mem_append.1 hp' with h' | h'
          · exact hp.1 p h'
          · obtain rfl : p = x := by simpa using h'
            exact her
      · gi_wp2_with (gi_at_builtin; refine wpListIn_append_own _ rfl _ _ 50 rfl w.heap.size 49 i0 (.agg #[.int .i64 0, .string ⟨#[]⟩, .int .i64 0, .int .i64 0, .bool false]) 5 48 Try.underlying50 hi hz0 hz1 hz2 rfl (by decide) _ _ _ rfl (hrow.alloc _) ⟨W.heap.size, 0, none⟩ 1 1 (ydCell x.1) rfl rfl (cell5_new _ _ _ _ _ _ _) (by simp [Value.oneCell', ydCell]) (by unfold maxLen; omega) (by omega) (by have := hB1.size; simp; omega) ?_; intro v' w2 hown' hgrow _; obtain ⟨g', cap', rfl⟩ := ownsRow_succ hown'; obtain ⟨hv1, hv2, hr2, hk2, hb2⟩ := bL1.appended (by decide) hrow hB1.size (Nat.le_succ _) hown' hgrow; have hc1 := hv1.cell; have hf1 := hv1.frozen; have hc2 := hv2.cell; have bM2 := box_app bM1 (by decide) hrow hgrow; have hcM := bM2.cell; have hLK := lastKept_app (Bn := w.heap.size + 1 + 1) hG (Nat.le_succ _) hKC hv0 hrow hown' hgrow)
        refine ⟨hk2.from _, hLK, ⟨⟨⟨⟨_, hv2, ?_, trivial⟩, ?_⟩, hB1.trans hb2⟩, fun p hp' => ?_, ?_⟩⟩
        · have h := hr2
          rw [List.length_append, List.length_singleton, ydP_snoc, ydCells_snoc]
          exact h
        · exact bM2.other (by omega) _
        · rcases List.mem_append.1 hp' with h' | h'
          · exact hp.1 p h'
          · obtain rfl : p = x := by simpa using h'
            exact her
        · have := hp.2
          rw [List.length_append, List.length_singleton]; omega
    · have her0 : 0 < x.1.er := by omega
      gi_wp2
      exact ⟨KeepsFrom.refl _ _, ⟨pre, ⟨v0, bL1, hrow, trivial⟩, .inr ⟨x, rfl, her, hp⟩⟩, hB1, rfl⟩
  case done =>
    rintro D ys W hD hys ⟨⟨⟨⟨v, bL1, hrow, _⟩, bM1⟩, hB1⟩, hp⟩ hK
    have hc := bL1.cell
    have HF := Lib.hid (done_first hys hp)
    clear hys
    gi_wp2
    refine ⟨by simp, .inl ⟨_, _, rfl, run_takeDeferred hK, ?_⟩⟩
    refine ⟨_, results_tmp rfl _ _ _, ?_⟩
    refine ⟨⟨v, rfl, ?_⟩, hB1.trans (belowK_b (w := w) (Nat.le_refl _) W D _ _ (by omega) hK rfl rfl)⟩
    rw [← HF.out, ydP_len]
    exact ownsRow_putObj hrow _ hK rfl
  case stop =>
    rintro D c pre W hD hpre ⟨⟨q, ⟨v, bL1, hrow, _⟩, hst⟩, hB1, rfl⟩ hK
    have hc := bL1.cell
    have HF := Lib.hid (stop_first hst hpre)
    gi_wp2
    refine ⟨by simp, .inl ⟨_, _, rfl, run_takeDeferred hK, ?_⟩⟩
    refine ⟨_, results_tmp rfl _ _ _, ?_⟩
    refine ⟨⟨v, rfl, ?_⟩, hB1.trans (belowK_b (w := w) (Nat.le_refl _) W D _ _ (by omega) hK rfl rfl)⟩
    rw [← HF.out, ydP_len]
    exact ownsRow_putObj hrow _ hK rfl

end Go.Proofs.Ytenmapahigbbeaa
