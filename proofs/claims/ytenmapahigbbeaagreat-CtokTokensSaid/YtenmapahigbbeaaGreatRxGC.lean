/- Several texts laid together. -/
import Derived.Test.YtenmapahigbbeaaGreatCtU
import Derived.Test.YtenmapahigbbeaaGreatRxGA
import Derived.Test.YtenmapahigbbeaaGreatRxRB

namespace Go.Proofs.YtenmapahigbbeaaGreat
open Go.RowKit Go.Shelf

attribute [local go_sem] Oper.semAt_some

def TrE (_ : List (Nat × Bool)) (_ : Value) : Prop := True
/-- What a round keeps; how the loop is left. -/
def LitI (w : World) (p : ByteArray) (pre : List (Nat × Bool)) (W : World) : Prop :=
  ((∃ v, Boxed W (w.heap.size + 1) 57 v ∧ W.ownsRow w.heap.size 2 1 v pre.length (intCells (pre.map (·.1))) ∧ TrE pre v) ∧ (Boxed W w.heap.size 9 (.string p) ∧ Boxed W (w.heap.size + 1 + 1) 4 (.bool true)) ∧ Below w.heap.size w W) ∧ allYes pre
def LitX (w : World) (c : Code) (pre : List (Nat × Bool)) (W : World) : Prop := ∃ q x, TriW w.heap.size ⟨#[]⟩ (.slice none 0 0) false W ∧ Below w.heap.size w W ∧ c = .ret ∧ pre = q ++ [x] ∧ x.2 = false
/-- What numbers answers at a literal. -/
def LitR (w : World) (s : ByteArray) (e : Ending) (w' : World) : Prop := (match litC s.data.toList with
  | some ns => ∃ (p : ByteArray) (v : Value), e = .returned (.tuple #[.string p, v, .bool true]) ∧ p.data.toList = preC s.data.toList ∧ w'.ownsRow w.heap.size 2 1 v ns.length (intCells ns)
  | none => e = .returned (.tuple #[.string ⟨#[]⟩, .slice none 0 0, .bool false])) ∧ Below w.heap.size w w'

set_option maxRecDepth 100000 in
set_option maxHeartbeats 4000000 in
theorem numbers_lit (s : ByteArray) (k : Nat) (w : World) (hs : s.size ≤ 200000) (hL : LibVar w) (hk : k = 3 ∨ k = 4) (h : oneOf s = (k, true)) :
    Calls Tryz.prog 43 #[.int .i64 k, .string s] w (LitR w s) := by
  obtain ⟨i0, hi, hz0, hz1, hz2⟩ := info_parts infoI64
  have C := fun w' (hb : Below w.heap.size w w') => cutQuotes_yes s k w' hs (libVar_below hb hL) hk h
  have T := tri_new w
  have hB := below3 w (.cells #[.string ⟨#[]⟩] 9) (.cells #[.slice none 0 0] 57) (.cells #[.bool false] 4)
  obtain ⟨W1, hW1⟩ : ∃ W1, ((w.alloc (.cells #[.string ⟨#[]⟩] 9)).alloc (.cells #[.slice none 0 0] 57)).alloc (.cells #[.bool false] 4) = W1 := ⟨_, rfl⟩
  rw [hW1] at T hB
  refine (callsIn_wide (n := 20)).1 ?_
  refine callsIn_of_wp_marks Tryz.func43 rfl trivial ?_ rfl
  simp only [Tryz.ntmps43, List.size_toArray, List.length_cons, List.length_nil, Nat.reduceAdd, Nat.reduceSub, Array.replicate_succ, Array.replicate_zero, List.push_toArray, List.append_toArray, List.nil_append, List.cons_append]
  gi_wp2
  refine ⟨trivial, (callsIn_wide.2 (C _ hB)).mono ?_⟩
  rintro e w1 ⟨⟨p, b, rfl, hpl, hbl, hbs⟩, hb1⟩
  have T1 := T.below hb1
  have hB1 := hB.trans (hb1.mono hB.size)
  have T2 := (T1.setP p).setF true
  have HP := Lib.hid hpl
  have HBl := Lib.hid hbl
  have hsz := hB1.size
  clear T C hW1 hpl hbl hk h
  have c0 := T1.pre.cell
  have c1 := T1.row.cell
  have c2 := T1.fit.cell
  have f0 := T1.pre.frozen
  have f1 := T1.row.frozen
  have f2 := T1.fit.frozen
  gi_wp2
  clear c0 c1 c2 f0 f1 f2
  have hB2 : Below w.heap.size w ((w1.setCell ⟨w.heap.size, 0, none⟩ (.string p)).setCell ⟨w.heap.size + 1 + 1, 0, none⟩ (.bool true)) := (hB1.setCell (Nat.le_refl _) _).setCell (by simp; omega) _
  obtain ⟨W2, hW2⟩ : ∃ W2, (w1.setCell ⟨w.heap.size, 0, none⟩ (.string p)).setCell ⟨w.heap.size + 1 + 1, 0, none⟩ (.bool true) = W2 := ⟨_, rfl⟩
  rw [hW2] at T2 hB2 ⊢
  clear hW2 T1 hB1
  refine ⟨trivial, (callsIn_wide.2 (greatest_any _ _)).mono ?_⟩
  rintro e w' ⟨rfl, rfl⟩
  gi_wp2
  obtain ⟨g, hg⟩ : ∃ g, topC p.data.toList = g := ⟨_, rfl⟩
  obtain ⟨hg1, hg2⟩ := topC_le p.data.toList
  rw [hg] at hg1 hg2 ⊢
  have HG := Lib.hid hg
  clear hg
  refine ⟨trivial, (callsIn_wide.2 (elements_any _ _ _)).mono ?_⟩
  rintro e w' ⟨rfl, rfl⟩
  gi_wp2
  have hsz2 := hB2.size
  have bS := (Boxed.new W2 9 (.string b)).alloc (.cells #[.int .u64 g] 46)
  have bG := Boxed.new (W2.alloc (.cells #[.string b] 9)) 46 (.int .u64 g)
  simp only [World.size_alloc] at bG
  have hsz3 : w.heap.size + 1 + 1 < W2.heap.size := T2.fit.lt
  have hb23 := below2 W2 (.cells #[.string b] 9) (.cells #[.int .u64 g] 46)
  have T3 := T2.below hb23
  have hB3 := hB2.trans (hb23.mono hsz2)
  have hsz4 : W2.heap.size + 2 ≤ ((W2.alloc (.cells #[.string b] 9)).alloc (.cells #[.int .u64 g] 46)).heap.size := by simp
  obtain ⟨W0, hW0⟩ : ∃ W0, (W2.alloc (.cells #[.string b] 9)).alloc (.cells #[.int .u64 g] 46) = W0 := ⟨_, rfl⟩
  rw [hW0] at bS bG T3 hB3 hsz4 ⊢
  clear hW0 hb23 T2 hB2
  have hel := elA_len g _ b.data.toList (Nat.le_refl _)
  rw [size_list] at hel
  have hbm : b.size ≤ maxLen := by unfold maxLen; omega
  refine wpIn_rangeFunc_ownH rfl (by decide) (gf := 64) (lb := #[.pointer (some ⟨W2.heap.size, 0, none⟩), .pointer (some ⟨W2.heap.size + 1, 0, none⟩)]) rfl trivial (enters_of Tryz.func64 (by kernel_rfl) rfl)
    (elements_stops _ (by decide) b g hbm hg1 hg2 W2.heap.size (W2.heap.size + 1) W0 bS bG) twoKept_t (twoKept_b (n := W0.heap.size)) (Below.refl _ _) (fun _ => rfl)
    (LitI w p) (LitX w)
    (OwnFrom.and (OwnFrom.and (Own.from (holdsRow_own w.heap.size (w.heap.size + 1) 57 2 1 (fun pre => pre.length) (fun pre => intCells (pre.map (·.1))) TrE) _) (OwnFrom.and (OwnFrom.and (Own.from (boxed_own _ _ _) _) (Own.from (boxed_own _ _ _) _)) (ownFrom_below (Nat.le_refl _) (by omega)))) (ownFrom_pure _ _))
    (fun c pre X Y row hs' hg' hr => by
      obtain ⟨q, x, h1, h2, h3⟩ := hs'
      exact ⟨q, x, h1.grow hg' hr, (ownFrom_below (β := Unit) (Nat.le_refl _) (by omega)) () X Y row h2 hg' hr, h3⟩)
    ⟨⟨⟨_, T3.row, World.ownsRow_nil _ _ _ _, trivial⟩, ⟨T3.pre, T3.fit⟩, hB3⟩, fun _ h => by cases h⟩
    (fun x a' W => a' = { tmps := #[.int .i64 k, .string s, undef, undef, .pointer (some ⟨w.heap.size, 0, none⟩), .pointer (some ⟨w.heap.size + 1, 0, none⟩), .pointer (some ⟨w.heap.size + 1 + 1, 0, none⟩), .string b, .int .i64 x.1, .bool x.2, .tuple #[.string p, .string b, .bool true], .int .i64 k, .string s, .tuple #[.string p, .string b, .bool true], .string p, .string b, .bool true, .bool true, .bool false, .string b, .string p, .int .u64 g, .func (.func 64) #[] #[.pointer (some ⟨W2.heap.size, 0, none⟩), .pointer (some ⟨W2.heap.size + 1, 0, none⟩)], .int .i64 x.1, .bool x.2, undef, undef, undef, undef, undef, undef, undef, undef], defers := [] })
    (fun x a' _ X Y row hs' hg hr => hs')
    ?assign ?body ?done ?stop
  case assign =>
    rintro l pre x W K hI hK
    unfold encE
    gi_wp2
    exact hK _ _ (KeepsFrom.refl _ _) ⟨fun _ h => h, fun _ h => h⟩ hI rfl
  case body =>
    rintro l pre x a' W hl ⟨r, hr⟩ ⟨⟨⟨v, bL1, hrow, _⟩, ⟨bP1, bF1⟩, hB1⟩, hp⟩ rfl hlt
    have c0 := bP1.cell
    have c1 := bL1.cell
    have c2 := bF1.cell
    have f0 := bP1.frozen
    have f1 := bL1.frozen
    have f2 := bF1.frozen
    have lR := bL1.lt
    obtain ⟨n, y⟩ := x
    cases y with
    | false =>
      clear hsz4
      gi_wp2
      have T5 := (((⟨bP1, bL1, bF1⟩ : TriW w.heap.size p v true W).setP ⟨#[]⟩).setV (.slice none 0 0)).setF false
      refine ⟨(((KeepsOthers.setCell _ _ _).from _).trans ((KeepsOthers.setCell _ _ _).from _)).trans ((KeepsOthers.setCell _ _ _).from _), pre, (n, false), T5, ((hB1.setCell (Nat.le_refl _) _).setCell (by simp) _).setCell (by simp; omega) _, rfl, rfl, rfl⟩
    | true =>
      gi_wp2_with (gi_at_builtin; refine wpListIn_append_own _ rfl _ _ 57 rfl w.heap.size 2 i0 (.int .i64 0) 1 8 Tryz.underlying57 hi hz0 hz1 hz2 rfl (by decide) _ _ _ rfl (hrow.alloc _) ⟨W.heap.size, 0, none⟩ 1 1 [intCell n] rfl rfl (cell_one_new _ _ _) (by simp [Value.oneCell', intCell]) (by unfold maxLen; omega) (by omega) (by have := hB1.size; simp; omega) ?_; intro v' w2 hown' hgrow _; obtain ⟨g', cap', rfl⟩ := ownsRow_succ hown'; obtain ⟨hv1, hv2, hr2, hk2, hb2⟩ := bL1.appended (by decide) hrow hB1.size (Nat.le_succ _) hown' hgrow; have hc1 := hv1.cell; have hf1 := hv1.frozen; have bP2 := box_app bP1 (by decide) hrow hgrow; have bF2 := box_app bF1 (by decide) hrow hgrow; have hkt : TwoKept W2.heap.size (W2.heap.size + 1) W (w2.setCell ⟨w.heap.size + 1, 0, none⟩ (.slice (some ⟨g', 0, none⟩) (pre.length + 1) cap')) := ⟨fun u hu => (box_app hu (by decide) hrow hgrow).other (by omega) _, fun u hu => (box_app hu (by decide) hrow hgrow).other (by omega) _⟩)
      refine ⟨hk2.from _, hkt, ⟨⟨⟨_, hv2, ?_, trivial⟩, ⟨bP2.other (by omega) _, bF2.other (by omega) _⟩, hB1.trans hb2⟩, allYes_snoc hp rfl⟩⟩
      rw [List.map_append, List.length_append, List.map_singleton, intCells_snoc]
      exact hr2
  case done =>
    rintro D ys W hD rfl ⟨⟨⟨v, bL1, hrow, _⟩, ⟨bP1, bF1⟩, hB1⟩, hp⟩ hK
    have c0 := bP1.cell
    have c1 := bL1.cell
    have c2 := bF1.cell
    have f0 := bP1.frozen
    have f1 := bL1.frozen
    have f2 := bF1.frozen
    have e2 := fun k => boxed_self (show Boxed (W.drewN k) w.heap.size 9 (.string p) from bP1)
    have e3 := fun k => boxed_self (show Boxed (W.drewN k) (w.heap.size + 1) 57 v from bL1)
    have e4 := fun k => boxed_self (show Boxed (W.drewN k) (w.heap.size + 1 + 1) 4 (.bool true) from bF1)
    have HE : Hid (litC s.data.toList = some ((elA g b.data.toList).map (·.1))) := Lib.hid (by
      unfold litC
      rw [← HP.out, HG.out, ← HBl.out]
      exact elems_done hp)
    obtain ⟨ys, hys⟩ : ∃ ys, elA g b.data.toList = ys := ⟨_, rfl⟩
    rw [hys] at HE hrow
    clear hys hp hel
    obtain ⟨va, vc, rfl⟩ := row_shape hrow
    gi_wp2
    refine wpIn_wide.2 ?_
    go_big_quiet (fail)
    gi_wp2
    have hK2 : (W.drewN nq).heap[D]? = some (.deferred (some [])) := hK
    have hoth : ∀ B, B < W0.heap.size → ((W.drewN nq).putObj D (.deferred none)).cell? ⟨B, 0, none⟩ = W.cell? ⟨B, 0, none⟩ := fun B hB => World.cell?_of_block (a := ⟨B, 0, none⟩) (World.putObj_heap_other (by simp only; omega))
    refine ⟨by simp, .inl ⟨_, _, rfl, run_takeDeferred hK2, ?_⟩⟩
    refine ⟨_, results_tri _ w.heap.size (w.heap.size + 1) (w.heap.size + 1 + 1) _ _ _ _ rfl rfl rfl ((hoth _ (by omega)).trans c0) ((hoth _ (by omega)).trans c1) ((hoth _ (by omega)).trans c2), ?_⟩
    unfold LitR
    rw [HE.out]
    refine ⟨⟨p, _, rfl, HP.out, ?_⟩, (below_drewN hB1 nq).trans (belowK_b (w := w) (Nat.le_refl _) (W.drewN nq) D _ _ (by omega) hK2 rfl rfl)⟩
    rw [List.length_map]
    exact ownsRow_putObj (W := W.drewN nq) hrow _ hK2 rfl
  case stop =>
    rintro D c pre W hD hpre ⟨q, x, T5, hB1, rfl, rfl, hx⟩ hK
    have HE : Hid (litC s.data.toList = none) := Lib.hid (by
      unfold litC
      rw [← HP.out, HG.out, ← HBl.out]
      exact elems_stop hpre hx)
    clear hpre
    gi_wp2
    have hoth : ∀ B, B < W0.heap.size → (W.putObj D (.deferred none)).cell? ⟨B, 0, none⟩ = W.cell? ⟨B, 0, none⟩ := fun B hB => World.cell?_of_block (a := ⟨B, 0, none⟩) (World.putObj_heap_other (by simp only; omega))
    refine ⟨by simp, .inl ⟨_, _, rfl, run_takeDeferred hK, ?_⟩⟩
    refine ⟨_, results_tri _ w.heap.size (w.heap.size + 1) (w.heap.size + 1 + 1) _ _ _ _ rfl rfl rfl ((hoth _ (by omega)).trans T5.pre.cell) ((hoth _ (by omega)).trans T5.row.cell) ((hoth _ (by omega)).trans T5.fit.cell), ?_⟩
    unfold LitR
    rw [HE.out]
    exact ⟨rfl, hB1.trans (belowK_b (w := w) (Nat.le_refl _) W D _ _ (by omega) hK rfl rfl)⟩

end Go.Proofs.YtenmapahigbbeaaGreat

namespace Go.Proofs.YtenmapahigbbeaaGreat
open Go.RowKit Go.Shelf

theorem elems_le (top : Nat) : ∀ (f : Nat) (l : List UInt8) (ns : List Nat), elemsC top f l = some ns → ∀ n ∈ ns, n ≤ top
  | 0, l, ns, h => by
    rw [elemsC] at h
    split at h
    · cases h; intro n hn; cases hn
    · cases h
  | f + 1, l, ns, h => by
    rw [elemsC] at h
    split at h
    · cases h; intro n hn; cases hn
    · split at h
      · cases h
      · rename_i h1 h2
        cases he : elemsC top f (l.drop (oneC l).2) with
        | none => rw [he] at h; cases h
        | some ms =>
          rw [he] at h
          simp only [Option.map_some, Option.some.injEq] at h
          subst h
          intro n hn
          rcases List.mem_cons.1 hn with rfl | hn
          · omega
          · exact elems_le top f _ ms he n hn
def foldV (ns : List Nat) : Nat := ns.foldl (fun v n => 256 * v + n) 0
theorem foldV_snoc (ns : List Nat) (n : Nat) : foldV (ns ++ [n]) = 256 * foldV ns + n := by unfold foldV; rw [List.foldl_append]; rfl
theorem packC_eq (ns : List Nat) : packC ns = if 256 ^ ns.length / 2 ≤ foldV ns then (foldV ns : Int) - (256 ^ ns.length : Nat) else (foldV ns : Int) := rfl
/-- Some of a constant's numbers, packed. -/
structure Pk (ns : List Nat) (k v z : Nat) : Prop where
  val : foldV (ns.take k) = v
  end_ : 256 ^ k = z
  lt : v < z
  le : z ≤ 256 ^ k
theorem Pk.start (ns : List Nat) : Pk ns 0 0 1 := ⟨by simp [foldV], rfl, by decide, Nat.le_refl _⟩
theorem Pk.next {ns : List Nat} {k v z n : Nat} (h : Pk ns k v z) (hn : ns[k]? = some n) (h255 : n ≤ 255) : Pk ns (k + 1) (256 * v + n) (256 * z) := by
  have h1 := h.lt
  have h2 := h.le
  refine ⟨?_, ?_, by omega, ?_⟩
  · rw [List.take_add_one, hn, ← h.val]
    exact foldV_snoc _ _
  · rw [Nat.pow_succ, h.end_, Nat.mul_comm]
  · rw [Nat.pow_succ]; omega

set_option maxRecDepth 100000 in
set_option maxHeartbeats 2000000 in
theorem packed_any (ns : List Nat) (a : Option Addr) (n cap : Nat) (w : World) (hn : ns.length = n) (h4 : n ≤ 4) (h255 : ∀ x ∈ ns, x ≤ 255) (hr : 0 < n → ∃ g, a = some ⟨g, 0, none⟩ ∧ ∀ j u, (intCells ns)[j]? = some u → w.cell? ⟨g, j, none⟩ = some u) :
    Calls Tryz.prog 44 #[.slice a n cap] w fun e w' => e = .returned (.int .i64 (packC ns)) ∧ w = w' := by
  have HN := Lib.hid hn
  have H255 := Lib.hid h255
  have HR := Lib.hid hr
  clear hn h255 hr
  go_enter Tryz.func44, Tryz.ntmps44
  go_wp2
  go_loop [3, 4, 9] (fun value end_ i => ∃ k v z : Nat, k ≤ n ∧ i = .int .i64 k ∧ value = .int .i64 v ∧ end_ = .int .i64 z ∧ Hid (Pk ns k v z) ∧ v < z ∧ z ≤ 4294967296) (fun _ _ i => n - (intOf i).toNat)
  case atStart => exact ⟨0, 0, 1, Nat.zero_le _, rfl, rfl, rfl, Lib.hid (Pk.start ns), by decide, by decide⟩
  case round =>
    obtain ⟨k, v, z, hk, rfl, rfl, rfl, HP, hvz, hz⟩ := hrel
    by_cases hlt : k < n
    · obtain ⟨x, hx⟩ : ∃ x, ns[k]? = some x := ⟨_, List.getElem?_eq_getElem (by rw [HN.out]; exact hlt)⟩
      obtain ⟨g, rfl, hc⟩ := HR.out (by omega)
      have hx255 := H255.out x (List.mem_of_getElem? hx)
      have c0 := hc k (intCell x) (by unfold intCells; rw [List.getElem?_map, hx]; rfl)
      unfold intCell at c0
      have HP2 := Lib.hid (HP.out.next hx hx255)
      have hz2 : 256 * z ≤ 4294967296 := by
        rw [← HP.out.end_, Nat.mul_comm, ← Nat.pow_succ]
        exact Nat.le_trans (Nat.pow_le_pow_right (by decide) (show k + 1 ≤ 4 by omega)) (by decide)
      have i1 : (k : Int) < (n : Int) := by omega
      have i2 : (0 : Int) ≤ (k : Int) := by omega
      clear hx hc HP
      go_wp2
      go_round
      case rel => exact ⟨k + 1, 256 * v + x, 256 * z, by omega, by go_num, by go_num, by go_num, HP2, by omega, hz2⟩
      case measure => simp [intOf]; omega
    · obtain rfl : k = n := by omega
      have hv := HP.out.val
      have hz3 := HP.out.end_
      rw [← HN.out, List.take_length] at hv
      rw [← HN.out] at hz3
      have HO : Hid (packC ns = if z / 2 ≤ v then (v : Int) - (z : Nat) else (v : Int)) := Lib.hid (by rw [packC_eq, hv, hz3])
      clear hv hz3 HP
      have i1 : ¬ (k : Int) < (k : Int) := by omega
      by_cases hh : z / 2 ≤ v
      · have i3 : (z : Int) / 2 ≤ (v : Int) := by omega
        have HO2 := Lib.hid (HO.out.trans (if_pos hh))
        clear hh HO
        go_wp2
        go_ret
        exact ⟨ri (by rw [HO2.out]), rfl⟩
      · have i3 : ¬ (z : Int) / 2 ≤ (v : Int) := by omega
        have HO2 := Lib.hid (HO.out.trans (if_neg hh))
        clear hh HO
        go_wp2
        go_ret
        exact ⟨ri (by rw [HO2.out]), rfl⟩

/-! ### Char and Str -/
def charR (s : ByteArray) : Int × Nat := errI (charC s)
theorem iI {a b : Int} {x y : Nat} (h : (b, y) = (a, x)) : Ending.returned (.tuple #[.int .i64 a, .int .i64 x]) = .returned (.tuple #[.int .i64 b, .int .i64 y]) := by cases h; rfl
theorem pre_nil {p : ByteArray} {l : List UInt8} (h : p.data.toList = l) : p.toList.isEmpty = (l == []) := by
  rw [ByteArray.toList_eq, h]
  cases l <;> rfl
theorem oneI_not {ns : List Nat} (h : ns.length ≠ 1) : oneI ns = none := by
  match ns, h with
  | [], _ => rfl
  | [n], h => exact absurd rfl h
  | a :: b :: r, _ => rfl

set_option maxRecDepth 100000 in
set_option maxHeartbeats 2000000 in
theorem Char_any (s : ByteArray) (w : World) (hs : s.size ≤ 200000) (hL : LibVar w) :
    Calls Tryz.prog 29 #[.string s] w fun e w' => e = .returned (.tuple #[.int .i64 (charR s).1, .int .i64 ((charR s).2 : Nat)]) ∧ Below w.heap.size w w' := by
  obtain ⟨R, hR⟩ : ∃ R, charR s = R := ⟨_, rfl⟩
  unfold charR charC at hR
  have hR' : charR s = R := by unfold charR charC; exact hR
  rw [hR']
  clear hR'
  by_cases h : oneOf s = (3, true)
  · have C := numbers_lit s 3 w hs hL (.inl rfl) h
    rw [if_pos h] at hR
    have HL : ∀ ns, litC s.data.toList = some ns → preC s.data.toList = [] → ∀ x ∈ ns, x ≤ 255 := fun ns h1 h2 x hx => by
      unfold litC at h1
      have := elems_le _ _ _ _ h1 x hx
      rw [h2] at this
      exact this
    unfold LitR at C
    generalize litC s.data.toList = O at *
    generalize preC s.data.toList = pr at *
    cases O with
    | none =>
      have HO : Hid (R = (0, 40)) := Lib.hid hR.symm
      clear HL h hR
      go_enter Tryz.func29, Tryz.ntmps29
      go_wp2_with fail
      refine C.mono ?_
      rintro e w1 ⟨rfl, hb1⟩
      go_wp2
      go_ret2
      exact ⟨iI (by rw [HO.out]), hb1⟩
    | some ns =>
      have HL2 := HL ns rfl
      have hR : errI (valC pr ns) = R := hR
      clear HL h
      unfold valC at hR
      by_cases hp : pr = []
      · have HL3 := Lib.hid (HL2 hp)
        rw [if_pos hp] at hR
        clear HL2
        go_enter Tryz.func29, Tryz.ntmps29
        go_wp2_with fail
        refine C.mono ?_
        rintro e w1 ⟨⟨p, v, rfl, hpl, hrow⟩, hb1⟩
        have hpe := pre_nil hpl
        rw [hp] at hpe
        obtain ⟨n, hn⟩ : ∃ n, ns.length = n := ⟨_, rfl⟩
        have HN := Lib.hid hn
        rw [hn] at hrow hR
        obtain ⟨a, cap, rfl⟩ := row_shape hrow
        have hne : p.toList.isEmpty = true := by rw [hpe]; rfl
        clear hpl hp C hn hpe
        by_cases h4 : 4 < n
        · rw [if_pos h4] at hR
          have HO := Lib.hid hR
          have i1 : (4 : Int) < (n : Int) := by omega
          clear hrow hR
          go_wp2
          go_ret2
          exact ⟨iI (by rw [← HO.out]; rfl), hb1⟩
        · rw [if_neg h4] at hR
          have HO := Lib.hid hR
          have i1 : ¬ (4 : Int) < (n : Int) := by omega
          have CP := packed_any ns a n cap w1 HN.out (by omega) HL3.out (fun h0 => by
            obtain ⟨g, ha, _, hc⟩ := row_pos h0 hrow
            exact ⟨g, ha, hc⟩)
          clear hrow hR
          go_wp2_with fail
          refine CP.mono ?_
          rintro e w' ⟨rfl, rfl⟩
          go_wp2
          go_ret2
          exact ⟨iI (by rw [← HO.out]; rfl), hb1⟩
      · rw [if_neg hp] at hR
        clear HL2
        go_enter Tryz.func29, Tryz.ntmps29
        go_wp2_with fail
        refine C.mono ?_
        rintro e w1 ⟨⟨p, v, rfl, hpl, hrow⟩, hb1⟩
        have hpe := pre_nil hpl
        have hne : p.toList.isEmpty = false := by
          rw [hpe]
          cases pr with
          | nil => exact absurd rfl hp
          | cons c r => rfl
        obtain ⟨n, hn⟩ : ∃ n, ns.length = n := ⟨_, rfl⟩
        by_cases h1 : n = 1
        · subst h1
          obtain ⟨x, rfl⟩ : ∃ x, ns = [x] := by
            match ns, hn with
            | [x], _ => exact ⟨x, rfl⟩
          obtain ⟨g, cap, rfl, hc⟩ := row_some (n := 0) hrow
          have c0 : w1.cell? ⟨g, 0, none⟩ = some (.int .i64 (x : Nat)) := hc 0 _ rfl
          have HO := Lib.hid hR
          clear hpl hp C hn hpe hrow hc hR
          go_wp2
          go_ret2
          exact ⟨iI (by rw [← HO.out]; rfl), hb1⟩
        · rw [oneI_not (by rw [hn]; exact h1)] at hR
          rw [hn] at hrow
          obtain ⟨a, cap, rfl⟩ := row_shape hrow
          have HO := Lib.hid hR
          have i1 : ((n : Int) != 1) = true := by rw [bne_iff_ne]; omega
          clear hpl hp C hn hpe hrow hR h1
          go_wp2
          go_ret2
          exact ⟨iI (by rw [← HO.out]; rfl), hb1⟩
  · have C := numbers_not s 3 w hs hL h
    rw [if_neg h] at hR
    have HO := Lib.hid hR
    clear h hR
    go_enter Tryz.func29, Tryz.ntmps29
    go_wp2_with fail
    refine C.mono ?_
    rintro e w1 ⟨rfl, hb1⟩
    go_wp2
    go_ret2
    exact ⟨iI (by rw [← HO.out]; rfl), hb1⟩

/-- What Str answers: a row, or nothing and the error. -/
def StrR (w : World) (s : ByteArray) (e : Ending) (w' : World) : Prop := (match strC s with
  | some ns => ∃ v, e = .returned (.tuple #[v, .int .i64 0]) ∧ w'.ownsRow w.heap.size 2 1 v ns.length (intCells ns)
  | none => e = .returned (.tuple #[.slice none 0 0, .int .i64 40])) ∧ Below w.heap.size w w'
set_option maxRecDepth 100000 in
set_option maxHeartbeats 2000000 in
theorem Str_any (s : ByteArray) (w : World) (hs : s.size ≤ 200000) (hL : LibVar w) :
    Calls Tryz.prog 30 #[.string s] w (StrR w s) := by
  unfold StrR strC
  by_cases h : oneOf s = (4, true)
  · have C := numbers_lit s 4 w hs hL (.inr rfl) h
    rw [if_pos h]
    unfold LitR at C
    generalize litC s.data.toList = O at *
    clear h
    cases O with
    | none =>
      go_enter Tryz.func30, Tryz.ntmps30
      go_wp2_with fail
      refine C.mono ?_
      rintro e w1 ⟨rfl, hb1⟩
      go_wp2
      go_ret2
      exact ⟨rfl, hb1⟩
    | some ns =>
      go_enter Tryz.func30, Tryz.ntmps30
      go_wp2_with fail
      refine C.mono ?_
      rintro e w1 ⟨⟨p, v, rfl, -, hrow⟩, hb1⟩
      obtain ⟨a, cap, rfl⟩ := row_shape hrow
      have HROW := Lib.hid hrow
      clear hrow C
      go_wp2
      go_ret2
      exact ⟨⟨_, rfl, HROW.out⟩, hb1⟩
  · have C := numbers_not s 4 w hs hL h
    rw [if_neg h]
    clear h
    go_enter Tryz.func30, Tryz.ntmps30
    go_wp2_with fail
    refine C.mono ?_
    rintro e w1 ⟨rfl, hb1⟩
    go_wp2
    go_ret2
    exact ⟨rfl, hb1⟩

end Go.Proofs.YtenmapahigbbeaaGreat

namespace Go.Proofs.YtenmapahigbbeaaGreat
open Go.RowKit Go.Shelf

theorem elems_fuel (top : Nat) : ∀ (f g : Nat) (l : List UInt8), l.length ≤ f → l.length ≤ g → elemsC top f l = elemsC top g l
  | 0, 0, l, _, _ => rfl
  | 0, g + 1, l, h, _ => by
    obtain rfl : l = [] := List.length_eq_zero_iff.1 (by omega)
    rfl
  | f + 1, 0, l, _, h => by
    obtain rfl : l = [] := List.length_eq_zero_iff.1 (by omega)
    rfl
  | f + 1, g + 1, l, h, h2 => by
    rw [elemsC, elemsC]
    by_cases hl : l = []
    · rw [if_pos hl, if_pos hl]
    · rw [if_neg hl, if_neg hl]
      by_cases h3 : (oneC l).2 = 0 ∨ top < (oneC l).1
      · rw [if_pos h3, if_pos h3]
      · rw [if_neg h3, if_neg h3]
        have h4 : (l.drop (oneC l).2).length + 1 ≤ l.length := by
          rw [List.length_drop]
          have : 0 < l.length := List.length_pos_iff.2 hl
          omega
        rw [elems_fuel top f g _ (by omega) (by omega)]
def elB (top : Nat) (l : List UInt8) : Option (List Nat) := elemsC top l.length l
theorem elB_stop {top : Nat} {l : List UInt8} (hl : l ≠ []) (h : (oneC l).2 = 0 ∨ top < (oneC l).1) : elB top l = none := by
  unfold elB
  obtain ⟨c, r, rfl⟩ := List.exists_cons_of_ne_nil hl
  rw [List.length_cons, elemsC, if_neg hl, if_pos h]
theorem elB_more {top : Nat} {l : List UInt8} (hl : l ≠ []) (h : ¬ ((oneC l).2 = 0 ∨ top < (oneC l).1)) : elB top l = (elB top (l.drop (oneC l).2)).map ((oneC l).1 :: ·) := by
  unfold elB
  obtain ⟨c, r, rfl⟩ := List.exists_cons_of_ne_nil hl
  rw [List.length_cons, elemsC, if_neg hl, if_neg h]
  rw [elems_fuel top r.length _ _ (by rw [List.length_drop, List.length_cons]; omega) (Nat.le_refl _)]

def ElR (w : World) (top : Nat) (l : List UInt8) (e : Ending) (w' : World) : Prop := (match elB top l with
  | some ns => ∃ v, e = .returned (.tuple #[v, .bool true]) ∧ w'.ownsRow w.heap.size 2 1 v ns.length (intCells ns)
  | none => e = .returned (.tuple #[.slice none 0 0, .bool false])) ∧ Below w.heap.size w w'
theorem one_len' (l : List UInt8) : (oneC l).2 ≤ l.length := by
  cases l with
  | nil => exact Nat.le_refl _
  | cons c r =>
    show (if c ≠ 92 then (c.toNat, 1) else _ : Nat × Nat).2 ≤ _
    split
    · simp
    · cases r with
      | nil => simp
      | cons d q =>
        have h1 := digits_len 16 q
        have h2 := digits_len 8 (d :: q)
        simp only [List.length_cons] at h2 ⊢
        split
        · simp
        · split
          · split
            · simp
            · simp; omega
          · split
            · simp
            · simp; omega
theorem top_cases (p : ByteArray) : ((p.toList == [117]) = true ∧ (p.toList == [85]) = false ∧ (p.toList == [76]) = false ∧ Hid (topC p.data.toList = 65535)) ∨ ((p.toList == [117]) = false ∧ (p.toList == [85]) = true ∧ (p.toList == [76]) = false ∧ Hid (topC p.data.toList = 4294967295)) ∨ ((p.toList == [117]) = false ∧ (p.toList == [85]) = false ∧ (p.toList == [76]) = true ∧ Hid (topC p.data.toList = 4294967295)) ∨ ((p.toList == [117]) = false ∧ (p.toList == [85]) = false ∧ (p.toList == [76]) = false ∧ Hid (topC p.data.toList = 255)) := by
  rw [ByteArray.toList_eq]
  unfold topC
  by_cases h1 : p.data.toList = [117]
  · exact .inl ⟨by rw [h1]; rfl, by rw [h1]; rfl, by rw [h1]; rfl, Lib.hid (if_pos h1)⟩
  · have g1 : (p.data.toList == [117]) = false := beq_eq_false_iff_ne.2 h1
    rw [if_neg h1]
    by_cases h2 : p.data.toList = [85]
    · exact .inr (.inl ⟨g1, by rw [h2]; rfl, by rw [h2]; rfl, Lib.hid (if_pos (.inl h2))⟩)
    · have g2 : (p.data.toList == [85]) = false := beq_eq_false_iff_ne.2 h2
      by_cases h3 : p.data.toList = [76]
      · exact .inr (.inr (.inl ⟨g1, g2, by rw [h3]; rfl, Lib.hid (if_pos (.inr h3))⟩))
      · exact .inr (.inr (.inr ⟨g1, g2, beq_eq_false_iff_ne.2 h3, Lib.hid (if_neg (fun h => h.elim h2 h3))⟩))

set_option maxRecDepth 100000 in
set_option maxHeartbeats 8000000 in
theorem relems_any (s : ByteArray) (k : Nat) (w : World) (hs : s.size ≤ 200000) (hk : k + 2 ≤ s.size) :
    Calls Tryz.prog 48 #[.string s, .int .i64 k] w (ElR w (topC (s.extract 0 k).data.toList) (s.extract (k + 1) (s.size - 1)).data.toList) := by
  obtain ⟨i0, hi, hz0, hz1, hz2⟩ := info_parts infoI64
  obtain ⟨p, hp⟩ : ∃ p, s.extract 0 k = p := ⟨_, rfl⟩
  obtain ⟨b, hb⟩ : ∃ b, s.extract (k + 1) (s.size - 1) = b := ⟨_, rfl⟩
  have hbs0 : b.size ≤ s.size := by rw [← hb, ByteArray.size_extract]; omega
  have hbm : b.size ≤ maxLen := by unfold maxLen; omega
  have HC := top_cases p
  rw [hp, hb]
  have v1 : wrap64 ((s.size : Int) - 1) = (s.size : Int) - 1 := IntWalk.wrap64_in _ (by omega)
  have v2 : ((s.size : Int) - 1).toNat = s.size - 1 := by omega
  have v3 : ((k : Int) + 1).toNat = k + 1 := by omega
  have i1 : (0 : Int) ≤ (s.size : Int) - 1 := by omega
  have i2 : (s.size : Int) - 1 ≤ (s.size : Int) := by omega
  have i3 : (k : Int) + 1 ≤ (s.size : Int) - 1 := by omega
  have i4 : (k : Int) ≤ (s.size : Int) := by omega
  have htop := topC_le p.data.toList
  generalize topC p.data.toList = g at *
  clear htop
  rcases HC with ⟨h1, h2, h3, h4⟩ | ⟨h1, h2, h3, h4⟩ | ⟨h1, h2, h3, h4⟩ | ⟨h1, h2, h3, h4⟩
  · have h4o := h4.out
    subst h4o
    clear h4
    go_enter Tryz.func48, Tryz.ntmps48
    go_wp2
    go_loopg [8, 9, 10, 11] b.size (fun m out at' _ _ wx => ∃ (pre : List Nat) (a : Nat), a ≤ b.size ∧ pre.length ≤ a ∧ at' = .int .i64 a ∧ m = b.size - a ∧ Hid (elB 65535 b.data.toList = (elB 65535 (b.data.toList.drop a)).map (pre ++ ·)) ∧ wx.ownsRow w.heap.size 2 1 out pre.length (intCells pre) ∧ Below w.heap.size w wx)
    case atStart => exact ⟨[], 0, Nat.zero_le _, Nat.le_refl _, rfl, rfl, Lib.hid (by simp), World.ownsRow_nil _ _ _ _, Below.refl _ _⟩
    case round =>
      obtain ⟨pre, a, ha, hpl, rfl, rfl, HE, hrow, hbx⟩ := hrel
      clear h1 h2 h3 hp hb v1 v2 v3 i1 i2 i3 i4
      by_cases hlt : a < b.size
      · have C := fun w => rone_any b a w hbm hlt
        have hne : b.data.toList.drop a ≠ [] := by
          intro e
          have := congrArg List.length e
          rw [List.length_drop, size_list, List.length_nil] at this
          omega
        have hol := one_len' (b.data.toList.drop a)
        rw [List.length_drop, size_list] at hol
        have i1 : (a : Int) < (b.size : Int) := by omega
        have hbs := hbx.size
        by_cases hst : (oneC (b.data.toList.drop a)).2 = 0 ∨ 65535 < (oneC (b.data.toList.drop a)).1
        · have HO : Hid (elB 65535 b.data.toList = none) := Lib.hid (by rw [HE.out, elB_stop hne hst]; rfl)
          clear hne HE
          generalize oneC (b.data.toList.drop a) = o at *
          obtain ⟨v, n⟩ := o
          simp only at C hol hst
          by_cases hn : n = 0
          · have i2 : ((n : Int) == 0) = true := by simp [hn]
            clear hst
            subst hn
            go_wp2_with (go_at_call 58; refine (C _).mono ?_; rintro e w' ⟨rfl, rfl⟩)
            go_ret2
            refine ⟨?_, hbx⟩
            rw [HO.out]
            rfl
          · have i2 : ((n : Int) == 0) = false := beq_eq_false_iff_ne.2 (by omega)
            have i3 : (65535 : Int) < (v : Int) := by omega
            clear hst
            go_wp2_with (go_at_call 58; refine (C _).mono ?_; rintro e w' ⟨rfl, rfl⟩)
            go_ret2
            refine ⟨?_, hbx⟩
            rw [HO.out]
            rfl
        · have HN := elB_more hne hst
          rw [List.drop_drop] at HN
          have HE2 := HE.out
          rw [HN] at HE2
          clear HN HE hne
          generalize oneC (b.data.toList.drop a) = o at *
          obtain ⟨v, n⟩ := o
          simp only at C hol hst HE2
          have HN : Hid (elB 65535 b.data.toList = (elB 65535 (b.data.toList.drop (a + n))).map ((pre ++ [v]) ++ ·)) := Lib.hid (by
            rw [HE2, Option.map_map]
            congr 1
            funext x
            simp)
          have hn0 : ¬ n = 0 := fun e => hst (.inl e)
          have i2 : ((n : Int) == 0) = false := beq_eq_false_iff_ne.2 (by omega)
          have i3 : ¬ (65535 : Int) < (v : Int) := by omega
          have i4 : (a : Int) + (n : Int) ≤ (b.size : Int) := by omega
          clear hst HE2
          go_wp2_with (first
            | (go_at_call 58; refine (C _).mono ?_; rintro e w' ⟨rfl, rfl⟩)
            | (at_builtin; refine wpList_append_own _ rfl _ _ 57 rfl w.heap.size 2 i0 (.int .i64 0) 1 8 Tryz.underlying57 hi hz0 hz1 hz2 rfl (by decide) _ _ _ rfl (hrow.alloc _) ⟨wr.heap.size, 0, none⟩ 1 1 [intCell v] rfl rfl (cell_one_new _ _ _) (by simp [Value.oneCell', intCell]) (by unfold maxLen; omega) (by omega) (by simp; omega) ?_; intro v' w3 hown hgrow hn3; clear hn3; have hL4 := hrow.lt; have hB4 := (hbx.alloc hbs (.cells #[intCell v] 2)).grown hgrow (by simp; omega) (fun j e => (hL4 j e).1)))
          go_roundg (b.size - (a + n))
          case rel =>
            refine ⟨pre ++ [v], a + n, by omega, by rw [List.length_append]; simp; omega, by go_num, rfl, HN, ?_, hB4⟩
            rw [List.length_append, intCells_snoc]
            exact hown
          case measure => omega
      · have i1 : ¬ (a : Int) < (b.size : Int) := by omega
        have HO : Hid (elB 65535 b.data.toList = some pre) := Lib.hid (by
          rw [HE.out, List.drop_eq_nil_of_le (by rw [size_list]; omega)]
          show some (pre ++ []) = _
          rw [List.append_nil])
        clear HE
        go_wp2
        go_ret2
        refine ⟨?_, hbx⟩
        rw [HO.out]
        exact ⟨_, rfl, hrow⟩
  · have h4o := h4.out
    subst h4o
    clear h4
    go_enter Tryz.func48, Tryz.ntmps48
    go_wp2
    go_loopg [8, 9, 10, 11] b.size (fun m out at' _ _ wx => ∃ (pre : List Nat) (a : Nat), a ≤ b.size ∧ pre.length ≤ a ∧ at' = .int .i64 a ∧ m = b.size - a ∧ Hid (elB 4294967295 b.data.toList = (elB 4294967295 (b.data.toList.drop a)).map (pre ++ ·)) ∧ wx.ownsRow w.heap.size 2 1 out pre.length (intCells pre) ∧ Below w.heap.size w wx)
    case atStart => exact ⟨[], 0, Nat.zero_le _, Nat.le_refl _, rfl, rfl, Lib.hid (by simp), World.ownsRow_nil _ _ _ _, Below.refl _ _⟩
    case round =>
      obtain ⟨pre, a, ha, hpl, rfl, rfl, HE, hrow, hbx⟩ := hrel
      clear h1 h2 h3 hp hb v1 v2 v3 i1 i2 i3 i4
      by_cases hlt : a < b.size
      · have C := fun w => rone_any b a w hbm hlt
        have hne : b.data.toList.drop a ≠ [] := by
          intro e
          have := congrArg List.length e
          rw [List.length_drop, size_list, List.length_nil] at this
          omega
        have hol := one_len' (b.data.toList.drop a)
        rw [List.length_drop, size_list] at hol
        have i1 : (a : Int) < (b.size : Int) := by omega
        have hbs := hbx.size
        by_cases hst : (oneC (b.data.toList.drop a)).2 = 0 ∨ 4294967295 < (oneC (b.data.toList.drop a)).1
        · have HO : Hid (elB 4294967295 b.data.toList = none) := Lib.hid (by rw [HE.out, elB_stop hne hst]; rfl)
          clear hne HE
          generalize oneC (b.data.toList.drop a) = o at *
          obtain ⟨v, n⟩ := o
          simp only at C hol hst
          by_cases hn : n = 0
          · have i2 : ((n : Int) == 0) = true := by simp [hn]
            clear hst
            subst hn
            go_wp2_with (go_at_call 58; refine (C _).mono ?_; rintro e w' ⟨rfl, rfl⟩)
            go_ret2
            refine ⟨?_, hbx⟩
            rw [HO.out]
            rfl
          · have i2 : ((n : Int) == 0) = false := beq_eq_false_iff_ne.2 (by omega)
            have i3 : (4294967295 : Int) < (v : Int) := by omega
            clear hst
            go_wp2_with (go_at_call 58; refine (C _).mono ?_; rintro e w' ⟨rfl, rfl⟩)
            go_ret2
            refine ⟨?_, hbx⟩
            rw [HO.out]
            rfl
        · have HN := elB_more hne hst
          rw [List.drop_drop] at HN
          have HE2 := HE.out
          rw [HN] at HE2
          clear HN HE hne
          generalize oneC (b.data.toList.drop a) = o at *
          obtain ⟨v, n⟩ := o
          simp only at C hol hst HE2
          have HN : Hid (elB 4294967295 b.data.toList = (elB 4294967295 (b.data.toList.drop (a + n))).map ((pre ++ [v]) ++ ·)) := Lib.hid (by
            rw [HE2, Option.map_map]
            congr 1
            funext x
            simp)
          have hn0 : ¬ n = 0 := fun e => hst (.inl e)
          have i2 : ((n : Int) == 0) = false := beq_eq_false_iff_ne.2 (by omega)
          have i3 : ¬ (4294967295 : Int) < (v : Int) := by omega
          have i4 : (a : Int) + (n : Int) ≤ (b.size : Int) := by omega
          clear hst HE2
          go_wp2_with (first
            | (go_at_call 58; refine (C _).mono ?_; rintro e w' ⟨rfl, rfl⟩)
            | (at_builtin; refine wpList_append_own _ rfl _ _ 57 rfl w.heap.size 2 i0 (.int .i64 0) 1 8 Tryz.underlying57 hi hz0 hz1 hz2 rfl (by decide) _ _ _ rfl (hrow.alloc _) ⟨wr.heap.size, 0, none⟩ 1 1 [intCell v] rfl rfl (cell_one_new _ _ _) (by simp [Value.oneCell', intCell]) (by unfold maxLen; omega) (by omega) (by simp; omega) ?_; intro v' w3 hown hgrow hn3; clear hn3; have hL4 := hrow.lt; have hB4 := (hbx.alloc hbs (.cells #[intCell v] 2)).grown hgrow (by simp; omega) (fun j e => (hL4 j e).1)))
          go_roundg (b.size - (a + n))
          case rel =>
            refine ⟨pre ++ [v], a + n, by omega, by rw [List.length_append]; simp; omega, by go_num, rfl, HN, ?_, hB4⟩
            rw [List.length_append, intCells_snoc]
            exact hown
          case measure => omega
      · have i1 : ¬ (a : Int) < (b.size : Int) := by omega
        have HO : Hid (elB 4294967295 b.data.toList = some pre) := Lib.hid (by
          rw [HE.out, List.drop_eq_nil_of_le (by rw [size_list]; omega)]
          show some (pre ++ []) = _
          rw [List.append_nil])
        clear HE
        go_wp2
        go_ret2
        refine ⟨?_, hbx⟩
        rw [HO.out]
        exact ⟨_, rfl, hrow⟩
  · have h4o := h4.out
    subst h4o
    clear h4
    go_enter Tryz.func48, Tryz.ntmps48
    go_wp2
    go_loopg [8, 9, 10, 11] b.size (fun m out at' _ _ wx => ∃ (pre : List Nat) (a : Nat), a ≤ b.size ∧ pre.length ≤ a ∧ at' = .int .i64 a ∧ m = b.size - a ∧ Hid (elB 4294967295 b.data.toList = (elB 4294967295 (b.data.toList.drop a)).map (pre ++ ·)) ∧ wx.ownsRow w.heap.size 2 1 out pre.length (intCells pre) ∧ Below w.heap.size w wx)
    case atStart => exact ⟨[], 0, Nat.zero_le _, Nat.le_refl _, rfl, rfl, Lib.hid (by simp), World.ownsRow_nil _ _ _ _, Below.refl _ _⟩
    case round =>
      obtain ⟨pre, a, ha, hpl, rfl, rfl, HE, hrow, hbx⟩ := hrel
      clear h1 h2 h3 hp hb v1 v2 v3 i1 i2 i3 i4
      by_cases hlt : a < b.size
      · have C := fun w => rone_any b a w hbm hlt
        have hne : b.data.toList.drop a ≠ [] := by
          intro e
          have := congrArg List.length e
          rw [List.length_drop, size_list, List.length_nil] at this
          omega
        have hol := one_len' (b.data.toList.drop a)
        rw [List.length_drop, size_list] at hol
        have i1 : (a : Int) < (b.size : Int) := by omega
        have hbs := hbx.size
        by_cases hst : (oneC (b.data.toList.drop a)).2 = 0 ∨ 4294967295 < (oneC (b.data.toList.drop a)).1
        · have HO : Hid (elB 4294967295 b.data.toList = none) := Lib.hid (by rw [HE.out, elB_stop hne hst]; rfl)
          clear hne HE
          generalize oneC (b.data.toList.drop a) = o at *
          obtain ⟨v, n⟩ := o
          simp only at C hol hst
          by_cases hn : n = 0
          · have i2 : ((n : Int) == 0) = true := by simp [hn]
            clear hst
            subst hn
            go_wp2_with (go_at_call 58; refine (C _).mono ?_; rintro e w' ⟨rfl, rfl⟩)
            go_ret2
            refine ⟨?_, hbx⟩
            rw [HO.out]
            rfl
          · have i2 : ((n : Int) == 0) = false := beq_eq_false_iff_ne.2 (by omega)
            have i3 : (4294967295 : Int) < (v : Int) := by omega
            clear hst
            go_wp2_with (go_at_call 58; refine (C _).mono ?_; rintro e w' ⟨rfl, rfl⟩)
            go_ret2
            refine ⟨?_, hbx⟩
            rw [HO.out]
            rfl
        · have HN := elB_more hne hst
          rw [List.drop_drop] at HN
          have HE2 := HE.out
          rw [HN] at HE2
          clear HN HE hne
          generalize oneC (b.data.toList.drop a) = o at *
          obtain ⟨v, n⟩ := o
          simp only at C hol hst HE2
          have HN : Hid (elB 4294967295 b.data.toList = (elB 4294967295 (b.data.toList.drop (a + n))).map ((pre ++ [v]) ++ ·)) := Lib.hid (by
            rw [HE2, Option.map_map]
            congr 1
            funext x
            simp)
          have hn0 : ¬ n = 0 := fun e => hst (.inl e)
          have i2 : ((n : Int) == 0) = false := beq_eq_false_iff_ne.2 (by omega)
          have i3 : ¬ (4294967295 : Int) < (v : Int) := by omega
          have i4 : (a : Int) + (n : Int) ≤ (b.size : Int) := by omega
          clear hst HE2
          go_wp2_with (first
            | (go_at_call 58; refine (C _).mono ?_; rintro e w' ⟨rfl, rfl⟩)
            | (at_builtin; refine wpList_append_own _ rfl _ _ 57 rfl w.heap.size 2 i0 (.int .i64 0) 1 8 Tryz.underlying57 hi hz0 hz1 hz2 rfl (by decide) _ _ _ rfl (hrow.alloc _) ⟨wr.heap.size, 0, none⟩ 1 1 [intCell v] rfl rfl (cell_one_new _ _ _) (by simp [Value.oneCell', intCell]) (by unfold maxLen; omega) (by omega) (by simp; omega) ?_; intro v' w3 hown hgrow hn3; clear hn3; have hL4 := hrow.lt; have hB4 := (hbx.alloc hbs (.cells #[intCell v] 2)).grown hgrow (by simp; omega) (fun j e => (hL4 j e).1)))
          go_roundg (b.size - (a + n))
          case rel =>
            refine ⟨pre ++ [v], a + n, by omega, by rw [List.length_append]; simp; omega, by go_num, rfl, HN, ?_, hB4⟩
            rw [List.length_append, intCells_snoc]
            exact hown
          case measure => omega
      · have i1 : ¬ (a : Int) < (b.size : Int) := by omega
        have HO : Hid (elB 4294967295 b.data.toList = some pre) := Lib.hid (by
          rw [HE.out, List.drop_eq_nil_of_le (by rw [size_list]; omega)]
          show some (pre ++ []) = _
          rw [List.append_nil])
        clear HE
        go_wp2
        go_ret2
        refine ⟨?_, hbx⟩
        rw [HO.out]
        exact ⟨_, rfl, hrow⟩
  · have h4o := h4.out
    subst h4o
    clear h4
    go_enter Tryz.func48, Tryz.ntmps48
    go_wp2
    go_loopg [8, 9, 10, 11] b.size (fun m out at' _ _ wx => ∃ (pre : List Nat) (a : Nat), a ≤ b.size ∧ pre.length ≤ a ∧ at' = .int .i64 a ∧ m = b.size - a ∧ Hid (elB 255 b.data.toList = (elB 255 (b.data.toList.drop a)).map (pre ++ ·)) ∧ wx.ownsRow w.heap.size 2 1 out pre.length (intCells pre) ∧ Below w.heap.size w wx)
    case atStart => exact ⟨[], 0, Nat.zero_le _, Nat.le_refl _, rfl, rfl, Lib.hid (by simp), World.ownsRow_nil _ _ _ _, Below.refl _ _⟩
    case round =>
      obtain ⟨pre, a, ha, hpl, rfl, rfl, HE, hrow, hbx⟩ := hrel
      clear h1 h2 h3 hp hb v1 v2 v3 i1 i2 i3 i4
      by_cases hlt : a < b.size
      · have C := fun w => rone_any b a w hbm hlt
        have hne : b.data.toList.drop a ≠ [] := by
          intro e
          have := congrArg List.length e
          rw [List.length_drop, size_list, List.length_nil] at this
          omega
        have hol := one_len' (b.data.toList.drop a)
        rw [List.length_drop, size_list] at hol
        have i1 : (a : Int) < (b.size : Int) := by omega
        have hbs := hbx.size
        by_cases hst : (oneC (b.data.toList.drop a)).2 = 0 ∨ 255 < (oneC (b.data.toList.drop a)).1
        · have HO : Hid (elB 255 b.data.toList = none) := Lib.hid (by rw [HE.out, elB_stop hne hst]; rfl)
          clear hne HE
          generalize oneC (b.data.toList.drop a) = o at *
          obtain ⟨v, n⟩ := o
          simp only at C hol hst
          by_cases hn : n = 0
          · have i2 : ((n : Int) == 0) = true := by simp [hn]
            clear hst
            subst hn
            go_wp2_with (go_at_call 58; refine (C _).mono ?_; rintro e w' ⟨rfl, rfl⟩)
            go_ret2
            refine ⟨?_, hbx⟩
            rw [HO.out]
            rfl
          · have i2 : ((n : Int) == 0) = false := beq_eq_false_iff_ne.2 (by omega)
            have i3 : (255 : Int) < (v : Int) := by omega
            clear hst
            go_wp2_with (go_at_call 58; refine (C _).mono ?_; rintro e w' ⟨rfl, rfl⟩)
            go_ret2
            refine ⟨?_, hbx⟩
            rw [HO.out]
            rfl
        · have HN := elB_more hne hst
          rw [List.drop_drop] at HN
          have HE2 := HE.out
          rw [HN] at HE2
          clear HN HE hne
          generalize oneC (b.data.toList.drop a) = o at *
          obtain ⟨v, n⟩ := o
          simp only at C hol hst HE2
          have HN : Hid (elB 255 b.data.toList = (elB 255 (b.data.toList.drop (a + n))).map ((pre ++ [v]) ++ ·)) := Lib.hid (by
            rw [HE2, Option.map_map]
            congr 1
            funext x
            simp)
          have hn0 : ¬ n = 0 := fun e => hst (.inl e)
          have i2 : ((n : Int) == 0) = false := beq_eq_false_iff_ne.2 (by omega)
          have i3 : ¬ (255 : Int) < (v : Int) := by omega
          have i4 : (a : Int) + (n : Int) ≤ (b.size : Int) := by omega
          clear hst HE2
          go_wp2_with (first
            | (go_at_call 58; refine (C _).mono ?_; rintro e w' ⟨rfl, rfl⟩)
            | (at_builtin; refine wpList_append_own _ rfl _ _ 57 rfl w.heap.size 2 i0 (.int .i64 0) 1 8 Tryz.underlying57 hi hz0 hz1 hz2 rfl (by decide) _ _ _ rfl (hrow.alloc _) ⟨wr.heap.size, 0, none⟩ 1 1 [intCell v] rfl rfl (cell_one_new _ _ _) (by simp [Value.oneCell', intCell]) (by unfold maxLen; omega) (by omega) (by simp; omega) ?_; intro v' w3 hown hgrow hn3; clear hn3; have hL4 := hrow.lt; have hB4 := (hbx.alloc hbs (.cells #[intCell v] 2)).grown hgrow (by simp; omega) (fun j e => (hL4 j e).1)))
          go_roundg (b.size - (a + n))
          case rel =>
            refine ⟨pre ++ [v], a + n, by omega, by rw [List.length_append]; simp; omega, by go_num, rfl, HN, ?_, hB4⟩
            rw [List.length_append, intCells_snoc]
            exact hown
          case measure => omega
      · have i1 : ¬ (a : Int) < (b.size : Int) := by omega
        have HO : Hid (elB 255 b.data.toList = some pre) := Lib.hid (by
          rw [HE.out, List.drop_eq_nil_of_le (by rw [size_list]; omega)]
          show some (pre ++ []) = _
          rw [List.append_nil])
        clear HE
        go_wp2
        go_ret2
        refine ⟨?_, hbx⟩
        rw [HO.out]
        exact ⟨_, rfl, hrow⟩

end Go.Proofs.YtenmapahigbbeaaGreat

namespace Go.Proofs.YtenmapahigbbeaaGreat
open Go.RowKit Go.Shelf

theorem row_base_le {w : World} {b b' n : Nat} {e : TypeId} {size : Nat} {v : Value} {xs : List Value} (hb : b' ≤ b) (h : w.ownsRow b e size v n xs) : w.ownsRow b' e size v n xs := by
  refine ⟨h.1, ?_⟩
  rcases h.2 with h1 | ⟨g, cap, cur, h1, h2, h3⟩
  · exact .inl h1
  · exact .inr ⟨g, cap, cur, h1, Nat.le_trans hb h2, h3⟩

theorem elB_lit (l : List UInt8) : elB (topC (preC l)) (bodyC l) = litC l := rfl
theorem lit_ne {s : ByteArray} {ns : List Nat} (h : oneOf s = (3, true)) (h2 : litC s.data.toList = some ns) : ns ≠ [] := by
  obtain ⟨p, t, hp, h1, ht⟩ := char_text h
  have hb : bodyC s.data.toList = t := by rw [h1]; exact body_of (chPre_noQ p hp) rfl
  intro e
  subst e
  have h3 : elB (topC (preC s.data.toList)) (bodyC s.data.toList) = some [] := h2
  have hne : bodyC s.data.toList ≠ [] := by rw [hb]; intro e; rw [e] at ht; simp at ht
  by_cases hst : (oneC (bodyC s.data.toList)).2 = 0 ∨ topC (preC s.data.toList) < (oneC (bodyC s.data.toList)).1
  · rw [elB_stop hne hst] at h3; cases h3
  · rw [elB_more hne hst] at h3
    cases he : elB (topC (preC s.data.toList)) ((bodyC s.data.toList).drop (oneC (bodyC s.data.toList)).2) with
    | none => rw [he] at h3; cases h3
    | some ms => rw [he] at h3; cases h3
/-- What the document's answer sees of a constant or a string. -/
theorem rlit_facts {s : ByteArray} {k : Nat} (hs : s.size ≤ 1000) (hk : k = 3 ∨ k = 4) (h : oneOf s = (k, true)) : ∃ n, n + 2 ≤ s.size ∧ (n = 0 ↔ preC s.data.toList = []) ∧
    (∀ w, Calls Tryz.prog 47 #[.string s] w fun e w' => e = .returned (.int .i64 (n : Nat)) ∧ w = w') ∧
    (∀ w, Calls Tryz.prog 48 #[.string s, .int .i64 n] w fun e w' => (match litC s.data.toList with
      | some ns => ∃ v, e = .returned (.tuple #[v, .bool true]) ∧ w'.ownsRow w.heap.size 2 1 v ns.length (intCells ns)
      | none => e = .returned (.tuple #[.slice none 0 0, .bool false])) ∧ Below w.heap.size w w') := by
  obtain ⟨n, -, h1, h2, -, h3, h4⟩ := lit_parts hk h
  refine ⟨n, h1, ?_, fun w => ?_, fun w => ?_⟩
  · rw [h2]; exact List.length_eq_zero_iff
  · have := rprefix_any s w (by unfold maxLen; omega) (by omega)
    rw [← h2] at this
    exact this
  · have := relems_any s n w (by omega) h1
    rw [h3, h4] at this
    exact this

set_option maxRecDepth 100000 in
set_option maxHeartbeats 4000000 in
theorem rStr_any (s : ByteArray) (w : World) (hs : s.size ≤ 1000) :
    Calls Tryz.prog 34 #[.string s] w (StrR w s) := by
  have CO := fun w => rOne_any s w hs
  unfold StrR strC
  by_cases h : oneOf s = (4, true)
  · obtain ⟨n, h1, -, CP, CE⟩ := rlit_facts hs (.inr rfl) h
    rw [if_pos h]
    simp only [h] at CO
    clear h
    generalize litC s.data.toList = O at *
    cases O with
    | none =>
      go_enter Tryz.func34, Tryz.ntmps34
      go_wp2_with fail
      refine (CO _).mono ?_
      rintro e w1 ⟨rfl, hb1⟩
      go_wp2_with fail
      refine (CP _).mono ?_
      rintro e w' ⟨rfl, rfl⟩
      go_wp2_with fail
      refine (CE _).mono ?_
      rintro e w2 ⟨rfl, hb2⟩
      go_wp2
      go_ret2
      exact ⟨rfl, hb1.trans (hb2.mono hb1.size)⟩
    | some ns =>
      go_enter Tryz.func34, Tryz.ntmps34
      go_wp2_with fail
      refine (CO _).mono ?_
      rintro e w1 ⟨rfl, hb1⟩
      go_wp2_with fail
      refine (CP _).mono ?_
      rintro e w' ⟨rfl, rfl⟩
      go_wp2_with fail
      refine (CE _).mono ?_
      rintro e w2 ⟨⟨v, rfl, hrow⟩, hb2⟩
      go_wp2
      go_ret2
      exact ⟨⟨_, rfl, row_base_le hb1.size hrow⟩, hb1.trans (hb2.mono hb1.size)⟩
  · rw [if_neg h]
    generalize oneOf s = o at *
    obtain ⟨k, is⟩ := o
    simp only at CO
    cases is with
    | false =>
      clear h
      go_enter Tryz.func34, Tryz.ntmps34
      go_wp2_with fail
      refine (CO _).mono ?_
      rintro e w1 ⟨rfl, hb1⟩
      go_wp2
      go_ret2
      exact ⟨rfl, hb1⟩
    | true =>
      have i1 : ((k : Int) != 4) = true := by
        rw [bne_iff_ne]
        intro e
        exact h (by rw [show k = 4 by omega])
      clear h
      go_enter Tryz.func34, Tryz.ntmps34
      go_wp2_with fail
      refine (CO _).mono ?_
      rintro e w1 ⟨rfl, hb1⟩
      go_wp2
      go_ret2
      exact ⟨rfl, hb1⟩

set_option maxRecDepth 100000 in
set_option maxHeartbeats 4000000 in
theorem rChar_lit (s : ByteArray) (w : World) (hs : s.size ≤ 1000) (h : oneOf s = (3, true)) :
    Calls Tryz.prog 33 #[.string s] w fun e w' => e = .returned (.tuple #[.int .i64 (charR s).1, .int .i64 ((charR s).2 : Nat)]) ∧ Below w.heap.size w w' := by
  have CO := fun w => rOne_any s w hs
  obtain ⟨R, hR⟩ : ∃ R, charR s = R := ⟨_, rfl⟩
  rw [hR]
  unfold charR charC at hR
  rw [if_pos h] at hR
  obtain ⟨m, h1, hm, CP, CE⟩ := rlit_facts hs (.inl rfl) h
  have HE := fun ns h2 => lit_ne (s := s) (ns := ns) h h2
  have HL : ∀ ns, litC s.data.toList = some ns → (∀ x ∈ ns, x ≤ 4294967295) ∧ (preC s.data.toList = [] → ∀ x ∈ ns, x ≤ 255) := fun ns h1 => by
    unfold litC at h1
    have := elems_le _ _ _ _ h1
    refine ⟨fun x hx => Nat.le_trans (this x hx) (topC_le _).2, fun h2 x hx => ?_⟩
    rw [h2] at this
    exact this x hx
  simp only [h] at CO
  clear h
  generalize litC s.data.toList = O at *
  generalize preC s.data.toList = pr at *
  cases O with
  | none =>
    have HO : Hid (R = (0, 40)) := Lib.hid hR.symm
    clear HL HE hR hm
    go_enter Tryz.func33, Tryz.ntmps33
    go_wp2_with fail
    refine (CO _).mono ?_
    rintro e w1 ⟨rfl, hb1⟩
    go_wp2_with fail
    refine (CP _).mono ?_
    rintro e w' ⟨rfl, rfl⟩
    go_wp2_with fail
    refine (CE _).mono ?_
    rintro e w2 ⟨rfl, hb2⟩
    go_wp2
    go_ret2
    exact ⟨iI (by rw [HO.out]), hb1.trans (hb2.mono hb1.size)⟩
  | some ns =>
    obtain ⟨HL1, HL2⟩ := HL ns rfl
    have hne := HE ns rfl
    have hR : errI (valC pr ns) = R := hR
    clear HL HE
    unfold valC at hR
    obtain ⟨n, hn⟩ : ∃ n, ns.length = n := ⟨_, rfl⟩
    have hn0 : 0 < n := by rw [← hn]; exact List.length_pos_iff.2 hne
    have HN := Lib.hid hn
    clear hne
    simp only [hn] at CE
    by_cases hp : pr = []
    · have HL3 := Lib.hid (HL2 hp)
      obtain rfl : m = 0 := hm.2 hp
      rw [if_pos hp, hn] at hR
      clear HL2 HL1 hm hp hn h1
      go_enter Tryz.func33, Tryz.ntmps33
      go_wp2_with fail
      refine (CO _).mono ?_
      rintro e w1 ⟨rfl, hb1⟩
      go_wp2_with fail
      refine (CP _).mono ?_
      rintro e w' ⟨rfl, rfl⟩
      go_wp2_with fail
      refine (CE _).mono ?_
      rintro e w2 ⟨⟨v, rfl, hrow⟩, hb2⟩
      have hB := hb1.trans (hb2.mono hb1.size)
      obtain ⟨a, cap, rfl⟩ := row_shape hrow
      clear CO CP CE
      by_cases h4 : 4 < n
      · rw [if_pos h4] at hR
        have HO := Lib.hid hR
        have i1 : (4 : Int) < (n : Int) := by omega
        clear hrow hR
        go_wp2
        go_ret2
        exact ⟨iI (by rw [← HO.out]; rfl), hB⟩
      · rw [if_neg h4] at hR
        have HO := Lib.hid hR
        have i1 : ¬ (4 : Int) < (n : Int) := by omega
        obtain ⟨g, rfl, _, hc⟩ := row_pos hn0 hrow
        have HC := Lib.hid hc
        clear hrow hR hc
        go_wp2
        go_loop [9, 10, 11] (fun value end_ i => ∃ k v z : Nat, k ≤ n ∧ i = .int .i64 k ∧ value = .int .i64 v ∧ end_ = .int .i64 z ∧ Hid (Pk ns k v z) ∧ v < z ∧ z ≤ 4294967296) (fun _ _ i => n - (intOf i).toNat)
        case atStart => exact ⟨0, 0, 1, Nat.zero_le _, rfl, rfl, rfl, Lib.hid (Pk.start ns), by decide, by decide⟩
        case round =>
          obtain ⟨k, v, z, hk, rfl, rfl, rfl, HP, hvz, hz⟩ := hrel
          by_cases hlt : k < n
          · obtain ⟨x, hx⟩ : ∃ x, ns[k]? = some x := ⟨_, List.getElem?_eq_getElem (by rw [HN.out]; exact hlt)⟩
            have hx255 := HL3.out x (List.mem_of_getElem? hx)
            have c0 := HC.out k (intCell x) (by unfold intCells; rw [List.getElem?_map, hx]; rfl)
            unfold intCell at c0
            have HP2 := Lib.hid (HP.out.next hx hx255)
            have hz2 : 256 * z ≤ 4294967296 := by
              rw [← HP.out.end_, Nat.mul_comm, ← Nat.pow_succ]
              exact Nat.le_trans (Nat.pow_le_pow_right (by decide) (show k + 1 ≤ 4 by omega)) (by decide)
            have i1 : (k : Int) < (n : Int) := by omega
            have i2 : (0 : Int) ≤ (k : Int) := by omega
            clear hx HP HO
            go_wp2
            go_round
            case rel => exact ⟨k + 1, 256 * v + x, 256 * z, by omega, by go_num, by go_num, by go_num, HP2, by omega, hz2⟩
            case measure => simp [intOf]; omega
          · obtain rfl : k = n := by omega
            have hv := HP.out.val
            have hz3 := HP.out.end_
            rw [← HN.out, List.take_length] at hv
            rw [← HN.out] at hz3
            have HO2 : Hid (R = ((if z / 2 ≤ v then (v : Int) - (z : Nat) else (v : Int)), 0)) := Lib.hid (by rw [← HO.out, packC_eq, hv, hz3]; rfl)
            clear hv hz3 HP HO
            have i1 : ¬ (k : Int) < (k : Int) := by omega
            by_cases hh : z / 2 ≤ v
            · have i3 : (z : Int) / 2 ≤ (v : Int) := by omega
              have HO3 : Hid (R = ((v : Int) - (z : Nat), 0)) := Lib.hid (by rw [HO2.out, if_pos hh])
              clear hh HO2
              go_wp2
              go_ret2
              exact ⟨iI (by rw [HO3.out]), hB⟩
            · have i3 : ¬ (z : Int) / 2 ≤ (v : Int) := by omega
              have HO3 : Hid (R = ((v : Int), 0)) := Lib.hid (by rw [HO2.out, if_neg hh])
              clear hh HO2
              go_wp2
              go_ret2
              exact ⟨iI (by rw [HO3.out]), hB⟩
    · have hm0 : 0 < m := Nat.pos_of_ne_zero (fun e => hp (hm.1 e))
      rw [if_neg hp] at hR
      have HL3 := Lib.hid HL1
      clear HL2 HL1 hm hp
      have i0 : (0 : Int) < (m : Int) := by omega
      have i00 : ((m : Int) == 0) = false := beq_eq_false_iff_ne.2 (by omega)
      by_cases h2 : n = 1
      · obtain ⟨x, rfl⟩ : ∃ x, ns = [x] := by
          match ns, hn.trans h2 with
          | [x], _ => exact ⟨x, rfl⟩
        have hx := HL3.out x (by simp)
        have HO : Hid (R = ((x : Int), 0)) := Lib.hid hR.symm
        subst h2
        clear hR hn HN
        go_enter Tryz.func33, Tryz.ntmps33
        go_wp2_with fail
        refine (CO _).mono ?_
        rintro e w1 ⟨rfl, hb1⟩
        go_wp2_with fail
        refine (CP _).mono ?_
        rintro e w' ⟨rfl, rfl⟩
        go_wp2_with fail
        refine (CE _).mono ?_
        rintro e w2 ⟨⟨v, rfl, hrow⟩, hb2⟩
        have hB := hb1.trans (hb2.mono hb1.size)
        obtain ⟨a, cap, rfl⟩ := row_shape hrow
        obtain ⟨g, rfl, _, hc⟩ := row_pos hn0 hrow
        have c0 : w2.cell? ⟨g, 0, none⟩ = some (.int .i64 (x : Nat)) := hc 0 _ rfl
        clear hrow hc CO CP CE
        go_wp2
        go_loop [9, 10, 11] (fun value end_ i => (i = .int .i64 0 ∧ value = .int .i64 0 ∧ end_ = .int .i64 1) ∨ (i = .int .i64 1 ∧ value = .int .i64 x ∧ end_ = .int .i64 256)) (fun _ _ i => 1 - (intOf i).toNat)
        case atStart => exact .inl ⟨rfl, rfl, rfl⟩
        case round =>
          obtain ⟨rfl, rfl, rfl⟩ | ⟨rfl, rfl, rfl⟩ := hrel
          · go_wp2
            go_round
            case rel => exact .inr ⟨rfl, by go_num, rfl⟩
            case measure => decide
          · go_wp2
            go_ret2
            exact ⟨iI (by rw [HO.out]), hB⟩
      · rw [oneI_not (by rw [hn]; exact h2)] at hR
        have HO := Lib.hid hR
        have i1 : (1 : Int) < (n : Int) := by omega
        clear hR hn HN h2
        go_enter Tryz.func33, Tryz.ntmps33
        go_wp2_with fail
        refine (CO _).mono ?_
        rintro e w1 ⟨rfl, hb1⟩
        go_wp2_with fail
        refine (CP _).mono ?_
        rintro e w' ⟨rfl, rfl⟩
        go_wp2_with fail
        refine (CE _).mono ?_
        rintro e w2 ⟨⟨v, rfl, hrow⟩, hb2⟩
        have hB := hb1.trans (hb2.mono hb1.size)
        obtain ⟨a, cap, rfl⟩ := row_shape hrow
        clear hrow CO CP CE
        go_wp2
        all_goals
          go_ret2
          exact ⟨iI (by rw [← HO.out]; rfl), hB⟩

set_option maxHeartbeats 1000000 in
theorem rChar_any (s : ByteArray) (w : World) (hs : s.size ≤ 1000) :
    Calls Tryz.prog 33 #[.string s] w fun e w' => e = .returned (.tuple #[.int .i64 (charR s).1, .int .i64 ((charR s).2 : Nat)]) ∧ Below w.heap.size w w' := by
  by_cases h : oneOf s = (3, true)
  · exact rChar_lit s w hs h
  · have CO := fun w => rOne_any s w hs
    have hR : charR s = (0, 40) := by unfold charR charC; rw [if_neg h]; rfl
    rw [hR]
    clear hR
    generalize oneOf s = o at *
    obtain ⟨k, is⟩ := o
    simp only at CO
    cases is with
    | false =>
      clear h
      go_enter Tryz.func33, Tryz.ntmps33
      go_wp2_with fail
      refine (CO _).mono ?_
      rintro e w1 ⟨rfl, hb1⟩
      go_wp2
      go_ret2
      exact ⟨rfl, hb1⟩
    | true =>
      have i1 : ((k : Int) != 3) = true := by
        rw [bne_iff_ne]
        intro e
        exact h (by rw [show k = 3 by omega])
      clear h
      go_enter Tryz.func33, Tryz.ntmps33
      go_wp2_with fail
      refine (CO _).mono ?_
      rintro e w1 ⟨rfl, hb1⟩
      go_wp2
      go_ret2
      exact ⟨rfl, hb1⟩

end Go.Proofs.YtenmapahigbbeaaGreat
