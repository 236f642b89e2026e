/- phys.Splices. -/
import Derived.Test.YtdkdoknajanfgaaChars
import Derived.Test.YtdkdoknajanfgaaRegion
import Derived.WalkSmall
import Derived.Deep.RegionHeld
namespace Go.Proofs.Ytdkdoknajanfgaa
open Go.RowKit Go.Shelf

attribute [local go_sem] Oper.semAt_some

/-- The splices among parts; as cells. -/
def sps (ps : List Part) : List Part := ps.filter fun p => p.sp
def spanCell (p : Part) : List Value := [.int .i64 p.at', .int .i64 ((p.at' : Int) + p.n)]
def spanCells (ps : List Part) : List Value := ps.flatMap spanCell

theorem spanCells_snoc (ps : List Part) (p : Part) : spanCells (ps ++ [p]) = spanCells ps ++ spanCell p := by simp [spanCells]
theorem sps_yes (ps : List Part) {p : Part} (h : p.sp = true) : sps (ps ++ [p]) = sps ps ++ [p] := by simp [sps, h]
theorem sps_no (ps : List Part) {p : Part} (h : p.sp = false) : sps (ps ++ [p]) = sps ps := by simp [sps, h]
theorem sps_length (ps : List Part) : (sps ps).length ≤ ps.length := List.length_filter_le _ _

/-- A text's splices, as Splices answers them. -/
def splicesOf (l : List UInt8) : List Part := if checkN l = 0 then sps (parts l) else []

theorem splicesOf_ok {l : List UInt8} (h : checkN l = 0) : splicesOf l = sps (parts l) := by unfold splicesOf; rw [if_pos h]
theorem splicesOf_bad {l : List UInt8} (h : ¬ checkN l = 0) : splicesOf l = [] := by unfold splicesOf; rw [if_neg h]

def spsP (pre : List Pt) : List Part := sps (pre.map (·.1))
theorem spsP_yes (pre : List Pt) {x : Pt} (h : x.1.sp = true) : spsP (pre ++ [x]) = spsP pre ++ [x.1] := by
  unfold spsP; rw [List.map_append]; exact sps_yes _ h
theorem spsP_no (pre : List Pt) {x : Pt} (h : x.1.sp = false) : spsP (pre ++ [x]) = spsP pre := by
  unfold spsP; rw [List.map_append]; exact sps_no _ h
theorem spsP_length (pre : List Pt) : (spsP pre).length ≤ pre.length := by
  have := sps_length (pre.map (·.1)); rw [List.length_map] at this; exact this
theorem spsP_rowY {pre : List Pt} {x : Pt} {W : World} {b : Nat} {v : Value} (hsp : x.1.sp = true) (h : W.ownsRow b 44 2 v ((spsP pre).length + 1) (spanCells (spsP pre) ++ spanCell x.1)) :
    W.ownsRow b 44 2 v (spsP (pre ++ [x])).length (spanCells (spsP (pre ++ [x]))) := by
  rw [spsP_yes pre hsp, spanCells_snoc, List.length_append]; exact h
theorem spsP_all (s : ByteArray) (hs : s.size ≤ 65536) : spsP (ptsFrom s.data.toList hs 0) = sps (parts s.data.toList) := by
  unfold spsP parts; rw [ptsFrom_val]

theorem infoSpan : (Try.prog.info? 44).map (fun i => (i.zero, i.size, i.bytes)) = some (some (.agg #[.int .i64 0, .int .i64 0]), 2, 16) := by kernel_rfl

set_option maxRecDepth 100000 in
set_option maxHeartbeats 2000000 in
theorem splices_ok (s : ByteArray) (w : World) (hs : s.size ≤ maxLen) (hle : s.size ≤ 65536) (hok : checkN s.data.toList = 0) :
    Calls Try.prog 14 #[.string s] w fun e w' => (∃ v, e = .returned (.tuple #[v, .int .i64 0]) ∧ w'.ownsRow w.heap.size 44 2 v (sps (parts s.data.toList)).length (spanCells (sps (parts s.data.toList)))) ∧ Below w.heap.size w w' := by
  obtain ⟨i0, hi, hz0, hz1, hz2⟩ := info_parts infoSpan
  refine (callsIn_wide (n := 20)).1 ?_
  refine callsIn_of_wp_marks Try.func14 rfl trivial ?_ rfl
  simp only [Try.ntmps14, List.size_toArray, List.length_cons, List.length_nil, Nat.reduceAdd, Nat.reduceSub, Array.replicate_succ, Array.replicate_zero, List.push_toArray, List.append_toArray, List.nil_append, List.cons_append]
  gi_wp2
  refine ⟨trivial, (callsIn_wide.2 (check_any s w hs)).mono ?_⟩
  rintro e w1 ⟨rfl, hb1⟩
  rw [hok]
  gi_wp2
  refine ⟨trivial, (callsIn_wide.2 (parts_any _ _)).mono ?_⟩
  rintro e w' ⟨rfl, rfl⟩
  gi_wp2
  have hlen := ptsFrom_length hle
  have bL := (Boxed.new w1 32 (.slice none 0 0)).alloc (.cells #[.string s] 9)
  have bN := Boxed.new (w1.alloc (.cells #[.slice none 0 0] 32)) 9 (.string s)
  simp only [World.size_alloc] at bN
  have hB0 : Below w.heap.size w ((w1.alloc (.cells #[.slice none 0 0] 32)).alloc (.cells #[.string s] 9)) := hb1.trans ((below2 w1 _ _).mono hb1.size)
  have hs1 := hb1.size
  have hsz : w1.heap.size + 2 ≤ ((w1.alloc (.cells #[.slice none 0 0] 32)).alloc (.cells #[.string s] 9)).heap.size := by simp
  obtain ⟨W0, hW0⟩ : ∃ W0, (w1.alloc (.cells #[.slice none 0 0] 32)).alloc (.cells #[.string s] 9) = W0 := ⟨_, rfl⟩
  rw [hW0] at bL bN hB0 hsz ⊢
  clear hW0
  refine wpIn_rangeFunc_ownH rfl (by decide) (gf := 36) (lb := #[.pointer (some ⟨w1.heap.size + 1, 0, none⟩)]) rfl trivial (enters_of Try.func36 (by kernel_rfl) rfl)
    (parts_stops _ (by decide) s hle (w1.heap.size + 1) W0 bN) keepsBox_t (keepsBox_b (n := W0.heap.size)) (Below.refl _ _) (fun _ => rfl)
    (fun pre W => (∃ v, Boxed W w1.heap.size 32 v ∧ W.ownsRow w.heap.size 44 2 v (spsP pre).length (spanCells (spsP pre)) ∧ Tr pre v) ∧ Below w.heap.size w W)
    (fun _ _ _ => False)
    (OwnFrom.and (Own.from (holdsRow_own w.heap.size w1.heap.size 32 44 2 (fun pre => (spsP pre).length) (fun pre => spanCells (spsP pre)) Tr) _) (ownFrom_below (Nat.le_refl _) (by omega)))
    (fun _ _ _ _ _ hs' _ _ => hs')
    ⟨⟨_, bL, World.ownsRow_nil _ _ _ _, trivial⟩, hB0⟩
    (fun x a' W => ∃ Bx, w1.heap.size < Bx ∧ W.heap[Bx]? = some (.cells #[.int .u8 x.1.b.toNat, .int .i64 x.1.at', .int .i64 x.1.n, .bool x.1.sp] 57 (0, 0)) ∧ a' = { tmps := #[.string s, undef, .slice none 0 0, .int .i64 0, .int .i64 0, .pointer (some ⟨w1.heap.size, 0, none⟩), .pointer (some ⟨Bx, 0, none⟩), .string s, .int .i64 0, .int .i64 0, .bool false, undef, .string s, .func (.func 36) #[] #[.pointer (some ⟨w1.heap.size + 1, 0, none⟩)], .agg #[.int .u8 x.1.b.toNat, .int .i64 x.1.at', .int .i64 x.1.n, .bool x.1.sp], undef, undef, undef, undef, undef, undef, undef, undef, undef, undef, undef, undef], defers := [] })
    (fun x a' _ X Y row hs' hg hr => by
      obtain ⟨Bx, h1, h2, h3⟩ := hs'
      refine ⟨Bx, h1, (hg.block Bx (Array.getElem?_eq_some_iff.1 h2).1 (fun e => ?_)).trans h2, h3⟩
      obtain ⟨_, o, ho, hc⟩ := hr Bx e.symm
      rw [h2] at ho; cases ho; cases hc)
    ?assign ?body ?done ?stop
  case assign =>
    rintro l pre x W K ⟨⟨v, bL1, hrow, _⟩, hB1⟩ hK
    gi_wp2
    exact hK _ _ ((KeepsOthers.alloc _ _).from _) (keepsBox_below (below1 _ _)) ⟨⟨v, bL1.alloc _, hrow.alloc _, trivial⟩, hB1.alloc hB1.size _⟩ ⟨W.heap.size, bL1.lt, World.alloc_heap_new _ _, rfl⟩
  case body =>
    rintro l pre x a' W hl ⟨r, hr⟩ ⟨⟨v, bL1, hrow, _⟩, hB1⟩ ⟨Bx, hBx, bX, rfl⟩ hlt
    have d0 : W.cell? ⟨Bx, 0, none⟩ = some (.int .u8 x.1.b.toNat) := by rw [Lib.cell_of_heap bX]; rfl
    have d1 : W.cell? ⟨Bx, 1, none⟩ = some (.int .i64 x.1.at') := by rw [Lib.cell_of_heap bX]; rfl
    have d2 : W.cell? ⟨Bx, 2, none⟩ = some (.int .i64 x.1.n) := by rw [Lib.cell_of_heap bX]; rfl
    have d3 : W.cell? ⟨Bx, 3, none⟩ = some (.bool x.1.sp) := by rw [Lib.cell_of_heap bX]; rfl
    have hc := bL1.cell
    have hcl := spsP_length pre
    have lX := (Array.getElem?_eq_some_iff.1 bX).1
    have lL := bL1.lt
    gi_wp2
    · rename_i hq
      have HSP := Lib.hid hq
      clear hq
      have hmx : Try.prog.follows .mixedOrders = true := by kernel_rfl
      refine region_round (l := l) (fun W' => W'.heap[Bx]? = some (.cells #[.int .u8 x.1.b.toNat, .int .i64 x.1.at', .int .i64 x.1.n, .bool x.1.sp] 57 (0, 0))) hmx (by kernel_rfl) (fun ⟨_, _, h⟩ => h) ?_
      refine wpAnyH_take (i := 1) (v := .pointer (some ⟨Bx, 0, none⟩)) rfl (by kernel_rfl) (by kernel_rfl) (by kernel_rfl) (fun _ _ _ h => h) (Or.inl ⟨by rfl, ?_⟩) bX ?_
      · intro w' hS
        go_simp
      simp only [Act.put, List.setIfInBounds_toArray, List.set_cons_zero, List.set_cons_succ]
      refine wpAnyH_take (i := 2) (v := .pointer (some ⟨Bx, 1, none⟩)) rfl (by kernel_rfl) (by kernel_rfl) (by kernel_rfl) (fun _ _ _ h => h) (Or.inl ⟨by rfl, ?_⟩) bX ?_
      · intro w' hS
        go_simp
      simp only [Act.put, List.setIfInBounds_toArray, List.set_cons_zero, List.set_cons_succ]
      refine wpAnyH_take (i := 3) (v := .int .i64 x.1.at') rfl (by kernel_rfl) (by kernel_rfl) (by kernel_rfl) (fun _ _ _ h => h) (Or.inl ⟨by rfl, ?_⟩) bX ?_
      · intro w' hS
        have e1 : w'.cell? ⟨Bx, 1, none⟩ = some (.int .i64 x.1.at') := by rw [Lib.cell_of_heap hS]; rfl
        go_simp
      simp only [Act.put, List.setIfInBounds_toArray, List.set_cons_zero, List.set_cons_succ]
      refine wpAnyH_take (i := 4) (v := .agg #[.int .u8 x.1.b.toNat, .int .i64 x.1.at', .int .i64 x.1.n, .bool x.1.sp]) rfl (by kernel_rfl) (by kernel_rfl) (by kernel_rfl) (fun _ _ _ h => h) (Or.inl ⟨by rfl, ?_⟩) bX ?_
      · intro w' hS
        have e0 : w'.cell? ⟨Bx, 0, none⟩ = some (.int .u8 x.1.b.toNat) := by rw [Lib.cell_of_heap hS]; rfl
        have e1 : w'.cell? ⟨Bx, 1, none⟩ = some (.int .i64 x.1.at') := by rw [Lib.cell_of_heap hS]; rfl
        have e2 : w'.cell? ⟨Bx, 2, none⟩ = some (.int .i64 x.1.n) := by rw [Lib.cell_of_heap hS]; rfl
        have e3 : w'.cell? ⟨Bx, 3, none⟩ = some (.bool x.1.sp) := by rw [Lib.cell_of_heap hS]; rfl
        go_simp
      simp only [Act.put, List.setIfInBounds_toArray, List.set_cons_zero, List.set_cons_succ]
      refine wpAnyH_ready (rs := [0, 5]) (by kernel_rfl) (by simp) ?_
      refine AllReadyH.cons rfl (fun K hK => ?_) (AllReadyH.cons rfl (fun K hK => ?_) AllReadyH.nil)
      · go_simp
        refine hK.out _ _ (by first | exact bX | exact hX | exact hX2) (fun _ => ?_)
        clear hK K
        try simp only [Act.put, List.setIfInBounds_toArray, List.set_cons_zero, List.set_cons_succ]
        refine wpAnyH_ready (rs := [5]) (by kernel_rfl) (by simp) ?_
        refine AllReadyH.cons rfl (fun K hK => ?_) AllReadyH.nil
        go_simp
        refine (end_pt x _).mono ?_
        rintro e w' ⟨rfl, rfl⟩
        go_simp
        have hX : (W.alloc (.cells #[.int .u8 x.1.b.toNat, .int .i64 x.1.at', .int .i64 x.1.n, .bool x.1.sp] 57)).heap[Bx]? = _ := ((below1 W (.cells #[.int .u8 x.1.b.toNat, .int .i64 x.1.at', .int .i64 x.1.n, .bool x.1.sp] 57)).block Bx lX).trans bX
        refine hK.out _ _ hX (fun _ => ?_)
        clear hK K
        try simp only [Act.put, List.setIfInBounds_toArray, List.set_cons_zero, List.set_cons_succ]
        refine wpAnyH_take (i := 6) (v := .agg #[.int .i64 x.1.at', .int .i64 ((x.1.at' : Int) + x.1.n)]) rfl (by kernel_rfl) (by kernel_rfl) (by kernel_rfl) (fun _ _ _ h => h) (Or.inl ⟨by rfl, ?_⟩) hX ?_
        · intro w' hS
          go_simp
        try simp only [Act.put, List.setIfInBounds_toArray, List.set_cons_zero, List.set_cons_succ]
        refine wpAnyH_ready (rs := [7]) (by kernel_rfl) (by simp) ?_
        refine AllReadyH.cons rfl (fun K hK => ?_) AllReadyH.nil
        go_simp
        have hX2 : ((W.alloc (.cells #[.int .u8 x.1.b.toNat, .int .i64 x.1.at', .int .i64 x.1.n, .bool x.1.sp] 57)).alloc (.cells #[.int .i64 x.1.at', .int .i64 ((x.1.at' : Int) + x.1.n)] 44)).heap[Bx]? = _ := ((below1 (W.alloc (.cells #[.int .u8 x.1.b.toNat, .int .i64 x.1.at', .int .i64 x.1.n, .bool x.1.sp] 57)) (.cells #[.int .i64 x.1.at', .int .i64 ((x.1.at' : Int) + x.1.n)] 44)).block Bx (by simp; omega)).trans hX
        refine hK.out _ _ hX2 (fun _ => ?_)
        clear hK K
        try simp only [Act.put, List.setIfInBounds_toArray, List.set_cons_zero, List.set_cons_succ]
        refine wpAnyH_ready (rs := [8]) (by kernel_rfl) (by simp) ?_
        refine AllReadyH.cons rfl (fun K hK => ?_) AllReadyH.nil
        rw [if_pos (by rfl)]
        refine wp_append_own _ (.tmp 17) (.tmp 24) 32 rfl w.heap.size 44 i0 (.agg #[.int .i64 0, .int .i64 0]) 2 16 Try.underlying32 hi hz0 hz1 hz2 rfl (by decide) v (spsP pre).length _ rfl ((hrow.alloc _).alloc _) ⟨W.heap.size + 1, 0, none⟩ 1 1 (spanCell x.1) rfl rfl ?c1 ?c2 ?c3 ?c4 ?c5 ?_
        case c1 =>
          have := cell_two_new (W.alloc (.cells #[.int .u8 x.1.b.toNat, .int .i64 x.1.at', .int .i64 x.1.n, .bool x.1.sp] 57)) (.int .i64 x.1.at') (.int .i64 ((x.1.at' : Int) + x.1.n)) 44
          rw [World.size_alloc] at this
          exact this
        case c2 => simp [Value.oneCell', spanCell]
        case c3 => unfold maxLen; omega
        case c4 => omega
        case c5 => have := hB1.size; show _ ≤ ((W.alloc _).alloc _).heap.size; simp; omega
        intro v' w2 hown' hgrow _
        obtain ⟨g', cap', rfl⟩ := ownsRow_succ hown'
        have hgrow' : ((W.alloc (.cells #[.int .u8 x.1.b.toNat, .int .i64 x.1.at', .int .i64 x.1.n, .bool x.1.sp] 57)).alloc (.cells #[.int .i64 x.1.at', .int .i64 ((x.1.at' : Int) + x.1.n)] 44)).grownBy w2 v.ownBlock := ⟨hgrow.os, hgrow.tape, hgrow.output, hgrow.size, hgrow.block⟩
        have hszW : w.heap.size ≤ (W.alloc (.cells #[.int .u8 x.1.b.toNat, .int .i64 x.1.at', .int .i64 x.1.n, .bool x.1.sp] 57)).heap.size := by have := hB1.size; simp; omega
        obtain ⟨hv1, hv2, hr2, hk2, hb2⟩ := (bL1.alloc (.cells #[.int .u8 x.1.b.toNat, .int .i64 x.1.at', .int .i64 x.1.n, .bool x.1.sp] 57)).appended (by decide) (hrow.alloc (.cells #[.int .u8 x.1.b.toNat, .int .i64 x.1.at', .int .i64 x.1.n, .bool x.1.sp] 57)) hszW hs1 hown' hgrow'
        have hc1 := hv1.cell
        have hf1 := hv1.frozen
        have hX3 := KeepsT.grown_row (T := 57) hgrow' ((hrow.alloc (.cells #[.int .u8 x.1.b.toNat, .int .i64 x.1.at', .int .i64 x.1.n, .bool x.1.sp] 57)).alloc (.cells #[.int .i64 x.1.at', .int .i64 ((x.1.at' : Int) + x.1.n)] 44)) (by decide) _ _ _ hX2
        refine hK.out _ _ hX3 (fun _ => ?_)
        clear hK K
        try simp only [Act.put, List.setIfInBounds_toArray, List.set_cons_zero, List.set_cons_succ]
        refine wpAnyH_ready (rs := [9]) (by kernel_rfl) (by simp) ?_
        refine AllReadyH.cons rfl (fun K hK => ?_) AllReadyH.nil
        go_simp
        refine hK.out _ _ (KeepsT.set hv1 (by decide) _ _ _ _ hX3) (fun _ => ?_)
        clear hK K
        try simp only [Act.put, List.setIfInBounds_toArray, List.set_cons_zero, List.set_cons_succ]
        refine wpAnyH_done (by kernel_rfl) ?_ _
        have hkb : KeepsBox 57 (w1.heap.size + 1) 9 W (w2.setCell ⟨w1.heap.size, 0, none⟩ (.slice (some ⟨g', 0, none⟩) ((spsP pre).length + 1) cap')) := keepsBox_t (keepsBox_below (below2 W _ _)) (keepsBox_t (keepsBox_row hgrow' ((hrow.alloc (.cells #[.int .u8 x.1.b.toNat, .int .i64 x.1.at', .int .i64 x.1.n, .bool x.1.sp] 57)).alloc (.cells #[.int .i64 x.1.at', .int .i64 ((x.1.at' : Int) + x.1.n)] 44)) (by decide) (by decide)) (keepsBox_set hv1 (by decide) (by omega) _))
        exact ⟨((KeepsOthers.alloc W _).trans hk2).from _, hkb, ⟨_, hv2, spsP_rowY HSP.out hr2, trivial⟩, (hB1.alloc hB1.size _).trans hb2⟩
      · go_simp
        refine (end_pt x _).mono ?_
        rintro e w' ⟨rfl, rfl⟩
        go_simp
        have hX : (W.alloc (.cells #[.int .u8 x.1.b.toNat, .int .i64 x.1.at', .int .i64 x.1.n, .bool x.1.sp] 57)).heap[Bx]? = _ := ((below1 W (.cells #[.int .u8 x.1.b.toNat, .int .i64 x.1.at', .int .i64 x.1.n, .bool x.1.sp] 57)).block Bx lX).trans bX
        refine hK.out _ _ hX (fun _ => ?_)
        clear hK K
        try simp only [Act.put, List.setIfInBounds_toArray, List.set_cons_zero, List.set_cons_succ]
        refine wpAnyH_take (i := 6) (v := .agg #[.int .i64 x.1.at', .int .i64 ((x.1.at' : Int) + x.1.n)]) rfl (by kernel_rfl) (by kernel_rfl) (by kernel_rfl) (fun _ _ _ h => h) (Or.inl ⟨by rfl, ?_⟩) hX ?_
        · intro w' hS
          go_simp
        try simp only [Act.put, List.setIfInBounds_toArray, List.set_cons_zero, List.set_cons_succ]
        refine wpAnyH_ready (rs := [0, 7]) (by kernel_rfl) (by simp) ?_
        refine AllReadyH.cons rfl (fun K hK => ?_) (AllReadyH.cons rfl (fun K hK => ?_) AllReadyH.nil)
        · go_simp
          refine hK.out _ _ (by first | exact bX | exact hX | exact hX2) (fun _ => ?_)
          clear hK K
          try simp only [Act.put, List.setIfInBounds_toArray, List.set_cons_zero, List.set_cons_succ]
          refine wpAnyH_ready (rs := [7]) (by kernel_rfl) (by simp) ?_
          refine AllReadyH.cons rfl (fun K hK => ?_) AllReadyH.nil
          go_simp
          have hX2 : ((W.alloc (.cells #[.int .u8 x.1.b.toNat, .int .i64 x.1.at', .int .i64 x.1.n, .bool x.1.sp] 57)).alloc (.cells #[.int .i64 x.1.at', .int .i64 ((x.1.at' : Int) + x.1.n)] 44)).heap[Bx]? = _ := ((below1 (W.alloc (.cells #[.int .u8 x.1.b.toNat, .int .i64 x.1.at', .int .i64 x.1.n, .bool x.1.sp] 57)) (.cells #[.int .i64 x.1.at', .int .i64 ((x.1.at' : Int) + x.1.n)] 44)).block Bx (by simp; omega)).trans hX
          refine hK.out _ _ hX2 (fun _ => ?_)
          clear hK K
          try simp only [Act.put, List.setIfInBounds_toArray, List.set_cons_zero, List.set_cons_succ]
          refine wpAnyH_ready (rs := [8]) (by kernel_rfl) (by simp) ?_
          refine AllReadyH.cons rfl (fun K hK => ?_) AllReadyH.nil
          rw [if_pos (by rfl)]
          refine wp_append_own _ (.tmp 17) (.tmp 24) 32 rfl w.heap.size 44 i0 (.agg #[.int .i64 0, .int .i64 0]) 2 16 Try.underlying32 hi hz0 hz1 hz2 rfl (by decide) v (spsP pre).length _ rfl ((hrow.alloc _).alloc _) ⟨W.heap.size + 1, 0, none⟩ 1 1 (spanCell x.1) rfl rfl ?c1 ?c2 ?c3 ?c4 ?c5 ?_
          case c1 =>
            have := cell_two_new (W.alloc (.cells #[.int .u8 x.1.b.toNat, .int .i64 x.1.at', .int .i64 x.1.n, .bool x.1.sp] 57)) (.int .i64 x.1.at') (.int .i64 ((x.1.at' : Int) + x.1.n)) 44
            rw [World.size_alloc] at this
            exact this
          case c2 => simp [Value.oneCell', spanCell]
          case c3 => unfold maxLen; omega
          case c4 => omega
          case c5 => have := hB1.size; show _ ≤ ((W.alloc _).alloc _).heap.size; simp; omega
          intro v' w2 hown' hgrow _
          obtain ⟨g', cap', rfl⟩ := ownsRow_succ hown'
          have hgrow' : ((W.alloc (.cells #[.int .u8 x.1.b.toNat, .int .i64 x.1.at', .int .i64 x.1.n, .bool x.1.sp] 57)).alloc (.cells #[.int .i64 x.1.at', .int .i64 ((x.1.at' : Int) + x.1.n)] 44)).grownBy w2 v.ownBlock := ⟨hgrow.os, hgrow.tape, hgrow.output, hgrow.size, hgrow.block⟩
          have hszW : w.heap.size ≤ (W.alloc (.cells #[.int .u8 x.1.b.toNat, .int .i64 x.1.at', .int .i64 x.1.n, .bool x.1.sp] 57)).heap.size := by have := hB1.size; simp; omega
          obtain ⟨hv1, hv2, hr2, hk2, hb2⟩ := (bL1.alloc (.cells #[.int .u8 x.1.b.toNat, .int .i64 x.1.at', .int .i64 x.1.n, .bool x.1.sp] 57)).appended (by decide) (hrow.alloc (.cells #[.int .u8 x.1.b.toNat, .int .i64 x.1.at', .int .i64 x.1.n, .bool x.1.sp] 57)) hszW hs1 hown' hgrow'
          have hc1 := hv1.cell
          have hf1 := hv1.frozen
          have hX3 := KeepsT.grown_row (T := 57) hgrow' ((hrow.alloc (.cells #[.int .u8 x.1.b.toNat, .int .i64 x.1.at', .int .i64 x.1.n, .bool x.1.sp] 57)).alloc (.cells #[.int .i64 x.1.at', .int .i64 ((x.1.at' : Int) + x.1.n)] 44)) (by decide) _ _ _ hX2
          refine hK.out _ _ hX3 (fun _ => ?_)
          clear hK K
          try simp only [Act.put, List.setIfInBounds_toArray, List.set_cons_zero, List.set_cons_succ]
          refine wpAnyH_ready (rs := [9]) (by kernel_rfl) (by simp) ?_
          refine AllReadyH.cons rfl (fun K hK => ?_) AllReadyH.nil
          go_simp
          refine hK.out _ _ (KeepsT.set hv1 (by decide) _ _ _ _ hX3) (fun _ => ?_)
          clear hK K
          try simp only [Act.put, List.setIfInBounds_toArray, List.set_cons_zero, List.set_cons_succ]
          refine wpAnyH_done (by kernel_rfl) ?_ _
          have hkb : KeepsBox 57 (w1.heap.size + 1) 9 W (w2.setCell ⟨w1.heap.size, 0, none⟩ (.slice (some ⟨g', 0, none⟩) ((spsP pre).length + 1) cap')) := keepsBox_t (keepsBox_below (below2 W _ _)) (keepsBox_t (keepsBox_row hgrow' ((hrow.alloc (.cells #[.int .u8 x.1.b.toNat, .int .i64 x.1.at', .int .i64 x.1.n, .bool x.1.sp] 57)).alloc (.cells #[.int .i64 x.1.at', .int .i64 ((x.1.at' : Int) + x.1.n)] 44)) (by decide) (by decide)) (keepsBox_set hv1 (by decide) (by omega) _))
          exact ⟨((KeepsOthers.alloc W _).trans hk2).from _, hkb, ⟨_, hv2, spsP_rowY HSP.out hr2, trivial⟩, (hB1.alloc hB1.size _).trans hb2⟩
        · go_simp
          have hX2 : ((W.alloc (.cells #[.int .u8 x.1.b.toNat, .int .i64 x.1.at', .int .i64 x.1.n, .bool x.1.sp] 57)).alloc (.cells #[.int .i64 x.1.at', .int .i64 ((x.1.at' : Int) + x.1.n)] 44)).heap[Bx]? = _ := ((below1 (W.alloc (.cells #[.int .u8 x.1.b.toNat, .int .i64 x.1.at', .int .i64 x.1.n, .bool x.1.sp] 57)) (.cells #[.int .i64 x.1.at', .int .i64 ((x.1.at' : Int) + x.1.n)] 44)).block Bx (by simp; omega)).trans hX
          refine hK.out _ _ hX2 (fun _ => ?_)
          clear hK K
          try simp only [Act.put, List.setIfInBounds_toArray, List.set_cons_zero, List.set_cons_succ]
          refine wpAnyH_ready (rs := [0]) (by kernel_rfl) (by simp) ?_
          refine AllReadyH.cons rfl (fun K hK => ?_) AllReadyH.nil
          go_simp
          refine hK.out _ _ (by first | exact bX | exact hX | exact hX2) (fun _ => ?_)
          clear hK K
          try simp only [Act.put, List.setIfInBounds_toArray, List.set_cons_zero, List.set_cons_succ]
          refine wpAnyH_ready (rs := [8]) (by kernel_rfl) (by simp) ?_
          refine AllReadyH.cons rfl (fun K hK => ?_) AllReadyH.nil
          rw [if_pos (by rfl)]
          refine wp_append_own _ (.tmp 17) (.tmp 24) 32 rfl w.heap.size 44 i0 (.agg #[.int .i64 0, .int .i64 0]) 2 16 Try.underlying32 hi hz0 hz1 hz2 rfl (by decide) v (spsP pre).length _ rfl ((hrow.alloc _).alloc _) ⟨W.heap.size + 1, 0, none⟩ 1 1 (spanCell x.1) rfl rfl ?c1 ?c2 ?c3 ?c4 ?c5 ?_
          case c1 =>
            have := cell_two_new (W.alloc (.cells #[.int .u8 x.1.b.toNat, .int .i64 x.1.at', .int .i64 x.1.n, .bool x.1.sp] 57)) (.int .i64 x.1.at') (.int .i64 ((x.1.at' : Int) + x.1.n)) 44
            rw [World.size_alloc] at this
            exact this
          case c2 => simp [Value.oneCell', spanCell]
          case c3 => unfold maxLen; omega
          case c4 => omega
          case c5 => have := hB1.size; show _ ≤ ((W.alloc _).alloc _).heap.size; simp; omega
          intro v' w2 hown' hgrow _
          obtain ⟨g', cap', rfl⟩ := ownsRow_succ hown'
          have hgrow' : ((W.alloc (.cells #[.int .u8 x.1.b.toNat, .int .i64 x.1.at', .int .i64 x.1.n, .bool x.1.sp] 57)).alloc (.cells #[.int .i64 x.1.at', .int .i64 ((x.1.at' : Int) + x.1.n)] 44)).grownBy w2 v.ownBlock := ⟨hgrow.os, hgrow.tape, hgrow.output, hgrow.size, hgrow.block⟩
          have hszW : w.heap.size ≤ (W.alloc (.cells #[.int .u8 x.1.b.toNat, .int .i64 x.1.at', .int .i64 x.1.n, .bool x.1.sp] 57)).heap.size := by have := hB1.size; simp; omega
          obtain ⟨hv1, hv2, hr2, hk2, hb2⟩ := (bL1.alloc (.cells #[.int .u8 x.1.b.toNat, .int .i64 x.1.at', .int .i64 x.1.n, .bool x.1.sp] 57)).appended (by decide) (hrow.alloc (.cells #[.int .u8 x.1.b.toNat, .int .i64 x.1.at', .int .i64 x.1.n, .bool x.1.sp] 57)) hszW hs1 hown' hgrow'
          have hc1 := hv1.cell
          have hf1 := hv1.frozen
          have hX3 := KeepsT.grown_row (T := 57) hgrow' ((hrow.alloc (.cells #[.int .u8 x.1.b.toNat, .int .i64 x.1.at', .int .i64 x.1.n, .bool x.1.sp] 57)).alloc (.cells #[.int .i64 x.1.at', .int .i64 ((x.1.at' : Int) + x.1.n)] 44)) (by decide) _ _ _ hX2
          refine hK.out _ _ hX3 (fun _ => ?_)
          clear hK K
          try simp only [Act.put, List.setIfInBounds_toArray, List.set_cons_zero, List.set_cons_succ]
          refine wpAnyH_ready (rs := [9]) (by kernel_rfl) (by simp) ?_
          refine AllReadyH.cons rfl (fun K hK => ?_) AllReadyH.nil
          go_simp
          refine hK.out _ _ (KeepsT.set hv1 (by decide) _ _ _ _ hX3) (fun _ => ?_)
          clear hK K
          try simp only [Act.put, List.setIfInBounds_toArray, List.set_cons_zero, List.set_cons_succ]
          refine wpAnyH_done (by kernel_rfl) ?_ _
          have hkb : KeepsBox 57 (w1.heap.size + 1) 9 W (w2.setCell ⟨w1.heap.size, 0, none⟩ (.slice (some ⟨g', 0, none⟩) ((spsP pre).length + 1) cap')) := keepsBox_t (keepsBox_below (below2 W _ _)) (keepsBox_t (keepsBox_row hgrow' ((hrow.alloc (.cells #[.int .u8 x.1.b.toNat, .int .i64 x.1.at', .int .i64 x.1.n, .bool x.1.sp] 57)).alloc (.cells #[.int .i64 x.1.at', .int .i64 ((x.1.at' : Int) + x.1.n)] 44)) (by decide) (by decide)) (keepsBox_set hv1 (by decide) (by omega) _))
          exact ⟨((KeepsOthers.alloc W _).trans hk2).from _, hkb, ⟨_, hv2, spsP_rowY HSP.out hr2, trivial⟩, (hB1.alloc hB1.size _).trans hb2⟩
    · have hsp : x.1.sp = false := by assumption
      exact ⟨KeepsFrom.refl _ _, keepsBox_r _, ⟨v, bL1, by rw [spsP_no pre hsp]; exact hrow, trivial⟩, hB1⟩
  case done =>
    rintro D ys W hD rfl ⟨⟨v, bL1, hrow, _⟩, hB1⟩ hK
    have hc := bL1.cell
    gi_wp2
    refine ⟨by simp, .inl ⟨_, _, rfl, run_takeDeferred hK, ?_⟩⟩
    refine ⟨_, results_tmp2 rfl _ _ _, ?_⟩
    refine ⟨⟨v, rfl, ?_⟩, hB1.trans (belowK_b (w := w) (Nat.le_refl _) W D _ _ (by omega) hK rfl rfl)⟩
    rw [spsP_all] at hrow
    exact ownsRow_putObj hrow _ hK rfl
  case stop =>
    rintro D c pre W _ _ h _
    exact h.elim

set_option maxHeartbeats 400000 in
theorem splices_bad (s : ByteArray) (w : World) (hs : s.size ≤ maxLen) (n : Int) (hn : checkN s.data.toList = n) (h3 : n = 3 ∨ n = 10) :
    Calls Try.prog 14 #[.string s] w fun e w' => e = .returned (.tuple #[.slice none 0 0, .int .i64 n]) ∧ Below w.heap.size w w' := by
  have HN := Lib.hid hn
  clear hn
  rcases h3 with rfl | rfl
  all_goals
    go_enter Try.func14, Try.ntmps14
    go_wp2_with (go_at_call 16; refine (check_any s _ hs).mono ?_; rintro e w1 ⟨rfl, hb1⟩; rw [HN.out])
    go_ret2
    exact ⟨rfl, hb1⟩

/-- phys.Chars AT EVERY TEXT. -/
theorem splices_any (s : ByteArray) (w : World) (hs : s.size ≤ maxLen) :
    Calls Try.prog 14 #[.string s] w fun e w' => (∃ v, e = .returned (.tuple #[v, .int .i64 (checkN s.data.toList)]) ∧ w'.ownsRow w.heap.size 44 2 v (splicesOf s.data.toList).length (spanCells (splicesOf s.data.toList))) ∧ Below w.heap.size w w' := by
  rcases check_cases s.data.toList with ⟨h, hl⟩ | h | h
  · rw [splicesOf_ok h, h]
    exact splices_ok s w hs hl h
  · rw [splicesOf_bad (by rw [h]; decide), h]
    exact (splices_bad s w hs 3 h (.inl rfl)).mono fun e w' ⟨he, hb⟩ => ⟨⟨_, he, World.ownsRow_nil _ _ _ _⟩, hb⟩
  · rw [splicesOf_bad (by rw [h]; decide), h]
    exact (splices_bad s w hs 10 h (.inr rfl)).mono fun e w' ⟨he, hb⟩ => ⟨⟨_, he, World.ownsRow_nil _ _ _ _⟩, hb⟩

end Go.Proofs.Ytdkdoknajanfgaa
