/- ctok.number. -/
import Derived.Test.YtenmapahigbbeaaCtD
namespace Go.Proofs.Ytenmapahigbbeaa
open Go.RowKit Go.Shelf

attribute [local go_sem] Oper.semAt_some

/-- The five variables of number, boxed. -/
structure NumW (h : Nat) (b g v k : Int) (f : Bool) (W : World) : Prop where
  base : Boxed W h 22 (.int .u64 b)
  great : Boxed W (h + 1) 22 (.int .u64 g)
  val : Boxed W (h + 2) 22 (.int .u64 v)
  len : Boxed W (h + 3) 3 (.int .i64 k)
  fit : Boxed W (h + 4) 4 (.bool f)
theorem boxed_grow {B : Nat} {X Y : World} {row : Option Nat} {Bl : Nat} {t : TypeId} {v : Value} (h : Boxed X Bl t v) (hg : X.grownBy Y row) (hr : ∀ r, row = some r → B ≤ r ∧ ∃ o : Obj, X.heap[r]? = some o ∧ o.isCells = false) : Boxed Y Bl t v :=
  boxed_own _ _ (fun (_ : Unit) => v) () X Y row h hg (fun r e => (hr r e).2)
theorem NumW.grow {B h : Nat} {b g v k : Int} {f : Bool} {X Y : World} {row : Option Nat} (H : NumW h b g v k f X) (hg : X.grownBy Y row) (hr : ∀ r, row = some r → B ≤ r ∧ ∃ o : Obj, X.heap[r]? = some o ∧ o.isCells = false) : NumW h b g v k f Y :=
  ⟨boxed_grow H.base hg hr, boxed_grow H.great hg hr, boxed_grow H.val hg hr, boxed_grow H.len hg hr, boxed_grow H.fit hg hr⟩
theorem NumW.drew {h : Nat} {b g v k : Int} {f : Bool} {W : World} (n : Nat) (H : NumW h b g v k f W) : NumW h b g v k f (W.drewN n) := ⟨H.base, H.great, H.val, H.len, H.fit⟩
theorem NumW.setV {h : Nat} {b g v k : Int} {f : Bool} {W : World} (H : NumW h b g v k f W) (u : Int) : NumW h b g u k f (W.setCell ⟨h + 2, 0, none⟩ (.int .u64 u)) :=
  ⟨H.base.other (by omega) _, H.great.other (by omega) _, H.val.set _, H.len.other (by omega) _, H.fit.other (by omega) _⟩
theorem NumW.setL {h : Nat} {b g v k : Int} {f : Bool} {W : World} (H : NumW h b g v k f W) (u : Int) : NumW h b g v u f (W.setCell ⟨h + 3, 0, none⟩ (.int .i64 u)) :=
  ⟨H.base.other (by omega) _, H.great.other (by omega) _, H.val.other (by omega) _, H.len.set _, H.fit.other (by omega) _⟩
theorem NumW.setF {h : Nat} {b g v k : Int} {f : Bool} {W : World} (H : NumW h b g v k f W) (u : Bool) : NumW h b g v k u (W.setCell ⟨h + 4, 0, none⟩ (.bool u)) :=
  ⟨H.base.other (by omega) _, H.great.other (by omega) _, H.val.other (by omega) _, H.len.other (by omega) _, H.fit.set _⟩

/-- A variable's own value is stored into it: nothing turns. -/
theorem boxed_self {W : World} {B : Nat} {t : TypeId} {v : Value} (h : Boxed W B t v) : W.setCell ⟨B, 0, none⟩ v = W := by
  have hb : W.heap[B]? = some (.cells #[v] t (0, 0)) := h
  have hh : (W.setCell ⟨B, 0, none⟩ v).heap = W.heap := by
    apply Array.ext_getElem?
    intro i
    simp only [World.setCell, Array.getElem?_modify]
    by_cases e : B = i
    · subst e
      rw [if_pos rfl, hb]; rfl
    · rw [if_neg e]
  calc W.setCell ⟨B, 0, none⟩ v = { W.setCell ⟨B, 0, none⟩ v with heap := (W.setCell ⟨B, 0, none⟩ v).heap } := rfl
    _ = { W.setCell ⟨B, 0, none⟩ v with heap := W.heap } := by rw [hh]
    _ = W := by simp only [World.setCell]
/-- What a round keeps; how the loop is left. -/
def NumI (w : World) (b g : Nat) (pre : List UInt8) (W : World) : Prop := ∃ (v : Nat) (f : Bool), NumW w.heap.size b g v pre.length f W ∧ Below w.heap.size w W ∧ NumSt b g pre v f ∧ ∀ c ∈ pre, worthC c < b
def NumX (w : World) (b g : Nat) (c : Code) (pre : List UInt8) (W : World) : Prop := ∃ (v : Nat) (f : Bool) (q : List UInt8) (x : UInt8), NumW w.heap.size b g v q.length f W ∧ Below w.heap.size w W ∧ c = .exit 0 ∧ pre = q ++ [x] ∧ NumSt b g q v f ∧ (∀ c ∈ q, worthC c < b) ∧ ¬ worthC x < b

theorem pre_more {b : Nat} {pre : List UInt8} {x : UInt8} (h : ∀ c ∈ pre, worthC c < b) (hx : worthC x < b) : ∀ c ∈ pre ++ [x], worthC c < b := fun c hc => by
  rcases List.mem_append.1 hc with hc | hc
  · exact h c hc
  · obtain rfl : c = x := by simpa using hc
    exact hx
def numV (b g : Nat) (l : List UInt8) : Nat := if numC b (digitsC b l) ≤ g then numC b (digitsC b l) else 0

/-- What number hands back lies in its three result variables. -/
theorem results_num (tmps : Array Value) (A B C : Nat) (v u x : Value) (W : World) (h2 : tmps[6]?.getD undef = .pointer (some ⟨A, 0, none⟩)) (h3 : tmps[7]?.getD undef = .pointer (some ⟨B, 0, none⟩)) (h4 : tmps[8]?.getD undef = .pointer (some ⟨C, 0, none⟩))
    (c2 : W.cell? ⟨A, 0, none⟩ = some v) (c3 : W.cell? ⟨B, 0, none⟩ = some u) (c4 : W.cell? ⟨C, 0, none⟩ = some x) : (results Try.f25 tmps).run Try.prog W = .ok (.tuple #[v, u, x]) W := by
  simp [results, Try.results25, go_sem, h2, h3, h4, c2, c3, c4]
theorem r3n {a a' b b' : Int} {c c' : Bool} (h : a = a') (h2 : b = b') (h3 : c = c') : Ending.returned (.tuple #[.int .u64 a, .int .i64 b, .bool c]) = .returned (.tuple #[.int .u64 a', .int .i64 b', .bool c']) := by rw [h, h2, h3]

set_option maxRecDepth 100000 in
set_option maxHeartbeats 2000000 in
theorem ctNum_any (s : ByteArray) (b g : Nat) (w : World) (hs : s.size ≤ maxLen) (hb : 0 < b) (hb2 : b ≤ 16) (hg : 16 ≤ g) (hg2 : g ≤ 18446744073709551615) :
    Calls Try.prog 25 #[.string s, .int .u64 b, .int .u64 g] w fun e w' => e = .returned (.tuple #[.int .u64 (numV b g s.data.toList : Nat), .int .i64 ((digitsC b s.data.toList).length : Nat), .bool (decide (numC b (digitsC b s.data.toList) ≤ g))]) ∧ Below w.heap.size w w' := by
  refine (callsIn_wide (n := 20)).1 ?_
  refine callsIn_of_wp_marks Try.func25 rfl trivial ?_ rfl
  simp only [Try.ntmps25, List.size_toArray, List.length_cons, List.length_nil, Nat.reduceAdd, Nat.reduceSub, Array.replicate_succ, Array.replicate_zero, List.push_toArray, List.append_toArray, List.nil_append, List.cons_append]
  gi_wp2
  obtain ⟨W1, hW1⟩ : ∃ W1, ((((w.alloc (.cells #[.int .u64 b] 22)).alloc (.cells #[.int .u64 g] 22)).alloc (.cells #[.int .u64 0] 22)).alloc (.cells #[.int .i64 0] 3)).alloc (.cells #[.bool false] 4) = W1 := ⟨_, rfl⟩
  have N1 : NumW w.heap.size b g 0 0 false W1 ∧ Below w.heap.size w W1 ∧ W1.heap.size = w.heap.size + 5 := by
    rw [← hW1]
    have x0 := Boxed.new w 22 (.int .u64 b)
    have x1 := Boxed.new (w.alloc (.cells #[.int .u64 b] 22)) 22 (.int .u64 g)
    have x2 := Boxed.new ((w.alloc (.cells #[.int .u64 b] 22)).alloc (.cells #[.int .u64 g] 22)) 22 (.int .u64 0)
    have x3 := Boxed.new (((w.alloc (.cells #[.int .u64 b] 22)).alloc (.cells #[.int .u64 g] 22)).alloc (.cells #[.int .u64 0] 22)) 3 (.int .i64 0)
    have x4 := Boxed.new ((((w.alloc (.cells #[.int .u64 b] 22)).alloc (.cells #[.int .u64 g] 22)).alloc (.cells #[.int .u64 0] 22)).alloc (.cells #[.int .i64 0] 3)) 4 (.bool false)
    simp only [World.size_alloc] at x1 x2 x3 x4
    refine ⟨⟨(((x0.alloc _).alloc _).alloc _).alloc _, ((x1.alloc _).alloc _).alloc _, (x2.alloc _).alloc _, x3.alloc _, x4⟩, ?_, by simp⟩
    exact (below3 w _ _ _).trans ((below2 _ _ _).mono (by simp; omega))
  simp only [Nat.add_assoc, Nat.reduceAdd] at hW1 ⊢
  rw [hW1]
  clear hW1
  obtain ⟨N1, hB1, hz1⟩ := N1
  have c4 := N1.fit.cell
  have f4 := N1.fit.frozen
  refine wpIn_scope_wide ?_
  gi_wp2
  have N2 := N1.setF true
  have hB2 := hB1.setCell (p := ⟨w.heap.size + 4, 0, none⟩) (by simp) (.bool true)
  have hz2 : (W1.setCell ⟨w.heap.size + 4, 0, none⟩ (.bool true)).heap.size = w.heap.size + 5 := by simpa using hz1
  obtain ⟨W2, hW2⟩ : ∃ W2, W1.setCell ⟨w.heap.size + 4, 0, none⟩ (.bool true) = W2 := ⟨_, rfl⟩
  rw [hW2] at N2 hB2 hz2 ⊢
  clear hW2 c4 f4 N1 hB1 hz1
  refine wpIn_label_wide ?_
  gi_wp2
  refine ⟨trivial, (callsIn_wide.2 (digits_any _ _)).mono ?_⟩
  rintro e w' ⟨rfl, rfl⟩
  gi_wp2
  have bN := Boxed.new W2 9 (.string s)
  rw [hz2] at bN
  have N3 : NumW w.heap.size b g 0 0 true (W2.alloc (.cells #[.string s] 9)) := ⟨N2.base.alloc _, N2.great.alloc _, N2.val.alloc _, N2.len.alloc _, N2.fit.alloc _⟩
  have hB3 : Below w.heap.size w (W2.alloc (.cells #[.string s] 9)) := hB2.trans ((below1 W2 _).mono (by omega))
  have hz3 : (W2.alloc (.cells #[.string s] 9)).heap.size = w.heap.size + 6 := by simp [hz2]
  obtain ⟨W0, hW0⟩ : ∃ W0, W2.alloc (.cells #[.string s] 9) = W0 := ⟨_, rfl⟩
  rw [hW0] at bN N3 hB3 hz3 ⊢
  clear hW0 N2 hB2 hz2
  refine wpIn_rangeFunc_ownH rfl (by decide) (gf := 57) (lb := #[.pointer (some ⟨w.heap.size + 5, 0, none⟩)]) rfl trivial (enters_of Try.func57 (by kernel_rfl) rfl)
    (digits_stops _ (by decide) s hs (w.heap.size + 5) W0 bN) boxKept_t (boxKept_b (n := W0.heap.size)) (Below.refl _ _) (fun _ => rfl)
    (NumI w b g) (NumX w b g)
    (fun pre X Y row hs' hg' hr => by
      obtain ⟨v, f, h1, h2, h3⟩ := hs'
      exact ⟨v, f, h1.grow hg' hr, (ownFrom_below (β := Unit) (Nat.le_refl _) (by omega)) () X Y row h2 hg' hr, h3⟩)
    (fun c pre X Y row hs' hg' hr => by
      obtain ⟨v, f, q, x, h1, h2, h3⟩ := hs'
      exact ⟨v, f, q, x, h1.grow hg' hr, (ownFrom_below (β := Unit) (Nat.le_refl _) (by omega)) () X Y row h2 hg' hr, h3⟩)
    ⟨0, true, N3, hB3, NumSt.start b g, fun _ h => by cases h⟩
    (fun x a' W => a' = { tmps := #[.string s, .int .u64 b, .int .u64 g, undef, .pointer (some ⟨w.heap.size, 0, none⟩), .pointer (some ⟨w.heap.size + 1, 0, none⟩), .pointer (some ⟨w.heap.size + 2, 0, none⟩), .pointer (some ⟨w.heap.size + 3, 0, none⟩), .pointer (some ⟨w.heap.size + 4, 0, none⟩), .int .u64 (digV x : Nat), .string s, .func (.func 57) #[] #[.pointer (some ⟨w.heap.size + 5, 0, none⟩)], .int .u64 (digV x : Nat), undef, undef, undef, undef, undef, undef, undef, undef, undef, undef, undef, undef, undef, undef, undef, undef, undef, undef, undef, undef, undef, undef, undef, undef, undef], defers := [] })
    (fun x a' _ X Y row hs' hg hr => hs')
    ?assign ?body ?done ?stop
  case assign =>
    rintro l pre x W K hI hK
    unfold encD
    gi_wp2
    exact hK _ _ (KeepsFrom.refl _ _) (fun _ h => h) hI rfl
  case body =>
    rintro l pre x a' W hl ⟨r, hr⟩ ⟨v, f, hN, hB, hS, hp⟩ rfl hlt
    clear hz3
    have cb := hN.base.cell
    have cg := hN.great.cell
    have cv := hN.val.cell
    have cl := hN.len.cell
    have cf := hN.fit.cell
    have fv := hN.val.frozen
    have fl := hN.len.frozen
    have ff := hN.fit.frozen
    have hmx : Try.prog.follows .mixedOrders = true := by kernel_rfl
    have hd := digV_le x
    by_cases hdb : digV x < b
    · have i1 : (digV x : Int) < (b : Int) := by omega
      cases f with
      | true =>
        gi_wp2
        refine region_round_quiet hmx (by kernel_rfl) (by kernel_rfl) (by rintro ⟨_, _, h⟩; exact h) ?_
        repeat (first | go_big_quiet_skip | (go_big_quiet_want; go_big_quiet_op; go_big_quiet_on))
        refine wpQuiet_nil ?_
        intro _ hw'
        obtain ⟨nq, hw''⟩ := hw'
        subst hw''
        have H3 := hN.drew nq
        have hB3 : Below w.heap.size w (W.drewN nq) := below_drewN hB nq
        have hK3 : KeepsFrom W0.heap.size W (W.drewN nq) := keepsFrom_below (below_drewN (Below.refl _ _) nq)
        have hX3 : BoxKept 9 (w.heap.size + 5) W (W.drewN nq) := boxKept_below (below_drewN (Below.refl _ _) nq)
        obtain ⟨W3, hW3⟩ : ∃ W3, W.drewN nq = W3 := ⟨_, rfl⟩
        rw [hW3] at H3 hB3 hK3 hX3 ⊢
        clear hW3 cb cg cv cl cf fv fl ff hN
        have cb := H3.base.cell
        have cv := H3.val.cell
        have fv := H3.val.frozen
        have cl := H3.len.cell
        have fl := H3.len.frozen
        have fF := H3.fit.frozen
        have cf := H3.fit.cell
        have hsz : (pre.length : Int) < (s.size : Int) := by omega
        unfold maxLen at hs
        by_cases hv : v ≤ (g - digV x) / b
        · have hS2 := hS.more hb hb2 hg hdb hv
          have j1 : (v : Int) ≤ ((g : Int) - (digV x : Int)) / (b : Int) := by
            have h1 : ((g - digV x : Nat) : Int) = (g : Int) - (digV x : Int) := by omega
            rw [← h1, ← Int.natCast_ediv]; omega
          have j2 : ((v : Int) * (b : Int)) = ((v * b : Nat) : Int) := by simp
          have j3 := hS2.le
          obtain ⟨q, hq⟩ : ∃ q, v * b = q := ⟨_, rfl⟩
          rw [hq] at j2 j3 hS2
          gi_wp2
          have H4 := (H3.setV ((q : Int) + (digV x : Int))).setL ((pre.length : Int) + 1)
          have hK4 : KeepsFrom W0.heap.size W ((W3.setCell ⟨w.heap.size + 2, 0, none⟩ (.int .u64 ((q : Int) + (digV x : Int)))).setCell ⟨w.heap.size + 3, 0, none⟩ (.int .i64 ((pre.length : Int) + 1))) := (hK3.trans ((KeepsOthers.setCell _ _ _).from _)).trans ((KeepsOthers.setCell _ _ _).from _)
          refine ⟨hK4, boxKept_t (boxKept_t hX3 (boxKept_set (by omega) _)) (boxKept_set (by omega) _), q + digV x, true, ?_, (hB3.setCell (by simp) _).setCell (by simp) _, hS2, pre_more hp ((digV_lt hb2 x).1 hdb)⟩
          simpa using H4
        · have hS2 := hS.over hb hb2 hg hdb hv
          have j1 : ¬ (v : Int) ≤ ((g : Int) - (digV x : Int)) / (b : Int) := by
            have h1 : ((g - digV x : Nat) : Int) = (g : Int) - (digV x : Int) := by omega
            rw [← h1, ← Int.natCast_ediv]; omega
          gi_wp2
          have H4 := ((H3.setV 0).setF false).setL ((pre.length : Int) + 1)
          refine ⟨((hK3.trans ((KeepsOthers.setCell _ _ _).from _)).trans ((KeepsOthers.setCell _ _ _).from _)).trans ((KeepsOthers.setCell _ _ _).from _), boxKept_t (boxKept_t (boxKept_t hX3 (boxKept_set (by omega) _)) (boxKept_set (by omega) _)) (boxKept_set (by omega) _), 0, false, ?_, ((hB3.setCell (by simp) _).setCell (by simp) _).setCell (by simp) _, hS2, pre_more hp ((digV_lt hb2 x).1 hdb)⟩
          simpa using H4
      | false =>
        have hS2 := hS.still x hb
        gi_wp2
        refine region_round_quiet hmx (by kernel_rfl) (by kernel_rfl) (by rintro ⟨_, _, h⟩; exact h) ?_
        repeat (first | go_big_quiet_skip | (go_big_quiet_want; go_big_quiet_op; go_big_quiet_on))
        refine wpQuiet_nil ?_
        intro _ hw'
        obtain ⟨nq, hw''⟩ := hw'
        subst hw''
        have H3 := hN.drew nq
        have hB3 : Below w.heap.size w (W.drewN nq) := below_drewN hB nq
        have hK3 : KeepsFrom W0.heap.size W (W.drewN nq) := keepsFrom_below (below_drewN (Below.refl _ _) nq)
        have hX3 : BoxKept 9 (w.heap.size + 5) W (W.drewN nq) := boxKept_below (below_drewN (Below.refl _ _) nq)
        obtain ⟨W3, hW3⟩ : ∃ W3, W.drewN nq = W3 := ⟨_, rfl⟩
        rw [hW3] at H3 hB3 hK3 hX3 ⊢
        clear hW3 cb cg cv cl cf fv fl ff hN
        have cv := H3.val.cell
        have cf := H3.fit.cell
        have fv := H3.val.frozen
        have cl := H3.len.cell
        have fl := H3.len.frozen
        have fF := H3.fit.frozen
        have hsz : (pre.length : Int) < (s.size : Int) := by omega
        unfold maxLen at hs
        gi_wp2
        have H4 := ((H3.setV 0).setF false).setL ((pre.length : Int) + 1)
        refine ⟨((hK3.trans ((KeepsOthers.setCell _ _ _).from _)).trans ((KeepsOthers.setCell _ _ _).from _)).trans ((KeepsOthers.setCell _ _ _).from _), boxKept_t (boxKept_t (boxKept_t hX3 (boxKept_set (by omega) _)) (boxKept_set (by omega) _)) (boxKept_set (by omega) _), 0, false, ?_, ((hB3.setCell (by simp) _).setCell (by simp) _).setCell (by simp) _, hS2, pre_more hp ((digV_lt hb2 x).1 hdb)⟩
        simpa using H4
    · have i1 : ¬ (digV x : Int) < (b : Int) := by omega
      gi_wp2
      exact ⟨KeepsFrom.refl _ _, v, f, pre, x, hN, hB, rfl, rfl, hS, hp, fun h => hdb ((digV_lt hb2 x).2 h)⟩
  case done =>
    rintro D ys W hD rfl ⟨v, f, hN, hB, hS, hp⟩ hK
    rw [size_list] at hN
    have HL := Lib.hid (digits_all hp)
    have cv := hN.val.cell
    have cl := hN.len.cell
    have cf := hN.fit.cell
    have fv := hN.val.frozen
    have fl := hN.len.frozen
    have ff := hN.fit.frozen
    have e2 := fun k => boxed_self (hN.drew k).val
    have e3 := fun k => boxed_self (hN.drew k).len
    have e4 := fun k => boxed_self (hN.drew k).fit
    gi_wp2
    refine wpIn_wide.2 ?_
    go_big_quiet (fail)
    gi_wp2
    rw [Exit.noGoto_ret]
    have hK2 : (W.drewN nq).heap[D]? = some (.deferred (some [])) := hK
    have hN2 := hN.drew nq
    have hoth : ∀ B, B < w.heap.size + 5 → ((W.drewN nq).putObj D (.deferred none)).cell? ⟨B, 0, none⟩ = (W.drewN nq).cell? ⟨B, 0, none⟩ := fun B hB => World.cell?_of_block (a := ⟨B, 0, none⟩) (World.putObj_heap_other (by simp only; omega))
    refine ⟨by simp, .inl ⟨_, _, rfl, run_takeDeferred hK2, ?_⟩⟩
    refine ⟨_, results_num _ (w.heap.size + 2) (w.heap.size + 3) (w.heap.size + 4) _ _ _ _ rfl rfl rfl ((hoth _ (by omega)).trans hN2.val.cell) ((hoth _ (by omega)).trans hN2.len.cell) ((hoth _ (by omega)).trans hN2.fit.cell), ?_⟩
    refine ⟨r3n ?_ ?_ ?_, (below_drewN hB nq).trans (belowK_b (w := w) (Nat.le_refl _) (W.drewN nq) D _ _ (by omega) hK2 rfl rfl)⟩
    · unfold numV; rw [HL.out, hS.val]
    · rw [HL.out, size_list]
    · rw [HL.out, hS.fit]
  case stop =>
    rintro D c pre W hD hpre ⟨v, f, q, x, hN, hB, rfl, rfl, hS, hp, hx⟩ hK
    have HL := Lib.hid (digits_cut hp hx hpre)
    have cv := hN.val.cell
    have cl := hN.len.cell
    have cf := hN.fit.cell
    have fv := hN.val.frozen
    have fl := hN.len.frozen
    have ff := hN.fit.frozen
    have e2 := fun k => boxed_self (hN.drew k).val
    have e3 := fun k => boxed_self (hN.drew k).len
    have e4 := fun k => boxed_self (hN.drew k).fit
    gi_wp2
    refine wpIn_wide.2 ?_
    go_big_quiet (fail)
    gi_wp2
    rw [Exit.noGoto_ret]
    have hK2 : (W.drewN nq).heap[D]? = some (.deferred (some [])) := hK
    have hN2 := hN.drew nq
    have hoth : ∀ B, B < w.heap.size + 5 → ((W.drewN nq).putObj D (.deferred none)).cell? ⟨B, 0, none⟩ = (W.drewN nq).cell? ⟨B, 0, none⟩ := fun B hB => World.cell?_of_block (a := ⟨B, 0, none⟩) (World.putObj_heap_other (by simp only; omega))
    refine ⟨by simp, .inl ⟨_, _, rfl, run_takeDeferred hK2, ?_⟩⟩
    refine ⟨_, results_num _ (w.heap.size + 2) (w.heap.size + 3) (w.heap.size + 4) _ _ _ _ rfl rfl rfl ((hoth _ (by omega)).trans hN2.val.cell) ((hoth _ (by omega)).trans hN2.len.cell) ((hoth _ (by omega)).trans hN2.fit.cell), ?_⟩
    refine ⟨r3n ?_ ?_ ?_, (below_drewN hB nq).trans (belowK_b (w := w) (Nat.le_refl _) (W.drewN nq) D _ _ (by omega) hK2 rfl rfl)⟩
    · unfold numV; rw [HL.out, hS.val]
    · rw [HL.out]
    · rw [HL.out, hS.fit]

end Go.Proofs.Ytenmapahigbbeaa
