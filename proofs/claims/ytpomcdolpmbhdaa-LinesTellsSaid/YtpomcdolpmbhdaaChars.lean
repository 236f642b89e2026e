/- phys.Chars. -/
import Derived.Test.YtpomcdolpmbhdaaEnds
namespace Go.Proofs.Ytpomcdolpmbhdaa
open Go.RowKit Go.Shelf

attribute [local go_sem] Oper.semAt_some

theorem partsFrom_length {l : List UInt8} : ∀ (m k : Nat), l.length - k = m → (partsFrom l k).length ≤ m := by
  intro m
  induction m using Nat.strongRecOn with
  | ind m ih =>
    intro k hm
    rw [partsFrom]
    by_cases hk : k < l.length
    · rw [dif_pos hk]
      have hp := partN_pos (l.drop k)
      have := ih (l.length - (k + partN (l.drop k))) (by omega) _ rfl
      simp only [List.length_cons]
      omega
    · rw [dif_neg hk]; simp

theorem ptsFrom_length {s : ByteArray} (hs : s.size ≤ 65536) : (ptsFrom s.data.toList hs 0).length ≤ 65536 := by
  have h := partsFrom_length (l := s.data.toList) _ 0 rfl
  rw [← ptsFrom_val _ hs, List.length_map, size_list] at h
  omega

/-- The characters among parts; as cells. -/
def chs (ps : List Part) : List Part := ps.filter fun p => !p.sp
def charCell (p : Part) : List Value := [.int .u8 p.b.toNat, .int .i64 p.at', .int .i64 p.n]
def charCells (ps : List Part) : List Value := ps.flatMap charCell

theorem charCells_snoc (ps : List Part) (p : Part) : charCells (ps ++ [p]) = charCells ps ++ charCell p := by simp [charCells]
theorem chs_yes (ps : List Part) {p : Part} (h : p.sp = false) : chs (ps ++ [p]) = chs ps ++ [p] := by simp [chs, h]
theorem chs_no (ps : List Part) {p : Part} (h : p.sp = true) : chs (ps ++ [p]) = chs ps := by simp [chs, h]
theorem chs_length (ps : List Part) : (chs ps).length ≤ ps.length := List.length_filter_le _ _

/-- A text's characters, as Chars answers them. -/
def charsOf (l : List UInt8) : List Part := if checkN l = 0 then chs (parts l) else []

theorem charsOf_ok {l : List UInt8} (h : checkN l = 0) : charsOf l = chs (parts l) := by unfold charsOf; rw [if_pos h]
theorem charsOf_bad {l : List UInt8} (h : ¬ checkN l = 0) : charsOf l = [] := by unfold charsOf; rw [if_neg h]

/-- The characters among parts within the greatest text; a condition that always holds (hidden from the walk). -/
def chsP (pre : List Pt) : List Part := chs (pre.map (·.1))
def Tr (_ : List Pt) (_ : Value) : Prop := True
theorem chsP_yes (pre : List Pt) {x : Pt} (h : x.1.sp = false) : chsP (pre ++ [x]) = chsP pre ++ [x.1] := by
  unfold chsP; rw [List.map_append]; exact chs_yes _ h
theorem chsP_no (pre : List Pt) {x : Pt} (h : x.1.sp = true) : chsP (pre ++ [x]) = chsP pre := by
  unfold chsP; rw [List.map_append]; exact chs_no _ h
theorem chsP_length (pre : List Pt) : (chsP pre).length ≤ pre.length := by
  have := chs_length (pre.map (·.1)); rw [List.length_map] at this; exact this
theorem chsP_rowY {pre : List Pt} {x : Pt} {W : World} {b : Nat} {v : Value} (hsp : x.1.sp = false) (h : W.ownsRow b 70 3 v ((chsP pre).length + 1) (charCells (chsP pre) ++ charCell x.1)) :
    W.ownsRow b 70 3 v (chsP (pre ++ [x])).length (charCells (chsP (pre ++ [x]))) := by
  rw [chsP_yes pre hsp, charCells_snoc, List.length_append]; exact h
theorem chsP_all (s : ByteArray) (hs : s.size ≤ 65536) : chsP (ptsFrom s.data.toList hs 0) = chs (parts s.data.toList) := by
  unfold chsP parts; rw [ptsFrom_val]

theorem cell_three_new (w : World) (a b c : Value) (t : TypeId) : ∀ j u, [a, b, c][j]? = some u → (w.alloc (.cells #[a, b, c] t)).cell? ((⟨w.heap.size, 0, none⟩ : Addr).add j) = some u := by
  intro j u hj
  match j, hj with
  | 0, hj => simp at hj; subst hj; simp [Addr.add]
  | 1, hj => simp at hj; subst hj; simp [Addr.add]
  | 2, hj => simp at hj; subst hj; simp [Addr.add]
  | j + 3, hj => simp at hj

theorem infoChar : (Try.prog.info? 70).map (fun i => (i.zero, i.size, i.bytes)) = some (some (.agg #[.int .u8 0, .int .i64 0, .int .i64 0]), 3, 24) := by kernel_rfl

set_option maxRecDepth 100000 in
set_option maxHeartbeats 2000000 in
theorem chars_ok (s : ByteArray) (w : World) (hs : s.size ≤ maxLen) (hle : s.size ≤ 65536) (hok : checkN s.data.toList = 0) :
    Calls Try.prog 39 #[.string s] w fun e w' => (∃ v, e = .returned (.tuple #[v, .int .i64 0]) ∧ w'.ownsRow w.heap.size 70 3 v (chs (parts s.data.toList)).length (charCells (chs (parts s.data.toList)))) ∧ Below w.heap.size w w' := by
  obtain ⟨i0, hi, hz0, hz1, hz2⟩ := info_parts infoChar
  refine (callsIn_wide (n := 20)).1 ?_
  refine callsIn_of_wp_marks Try.func39 rfl trivial ?_ rfl
  simp only [Try.ntmps39, List.size_toArray, List.length_cons, List.length_nil, Nat.reduceAdd, Nat.reduceSub, Array.replicate_succ, Array.replicate_zero, List.push_toArray, List.append_toArray, List.nil_append, List.cons_append]
  gi_wp2
  refine ⟨trivial, (callsIn_wide.2 (check_any s w hs)).mono ?_⟩
  rintro e w1 ⟨rfl, hb1⟩
  rw [hok]
  gi_wp2
  refine ⟨trivial, (callsIn_wide.2 (parts_any _ _)).mono ?_⟩
  rintro e w' ⟨rfl, rfl⟩
  gi_wp2
  have hlen := ptsFrom_length hle
  have bL := (Boxed.new w1 63 (.slice none 0 0)).alloc (.cells #[.string s] 9)
  have bN := Boxed.new (w1.alloc (.cells #[.slice none 0 0] 63)) 9 (.string s)
  simp only [World.size_alloc] at bN
  have hB0 : Below w.heap.size w ((w1.alloc (.cells #[.slice none 0 0] 63)).alloc (.cells #[.string s] 9)) := hb1.trans ((below2 w1 _ _).mono hb1.size)
  have hs1 := hb1.size
  have hsz : w1.heap.size + 2 ≤ ((w1.alloc (.cells #[.slice none 0 0] 63)).alloc (.cells #[.string s] 9)).heap.size := by simp
  obtain ⟨W0, hW0⟩ : ∃ W0, (w1.alloc (.cells #[.slice none 0 0] 63)).alloc (.cells #[.string s] 9) = W0 := ⟨_, rfl⟩
  rw [hW0] at bL bN hB0 hsz ⊢
  clear hW0
  refine wpIn_rangeFunc_ownH rfl (by decide) (gf := 58) (lb := #[.pointer (some ⟨w1.heap.size + 1, 0, none⟩)]) rfl trivial (enters_of Try.func58 (by kernel_rfl) rfl)
    (parts_stops _ (by decide) s hle (w1.heap.size + 1) W0 bN) keepsBox_t (keepsBox_b (n := W0.heap.size)) (Below.refl _ _) (fun _ => rfl)
    (fun pre W => (∃ v, Boxed W w1.heap.size 63 v ∧ W.ownsRow w.heap.size 70 3 v (chsP pre).length (charCells (chsP pre)) ∧ Tr pre v) ∧ Below w.heap.size w W)
    (fun _ _ _ => False)
    (OwnFrom.and (Own.from (holdsRow_own w.heap.size w1.heap.size 63 70 3 (fun pre => (chsP pre).length) (fun pre => charCells (chsP pre)) Tr) _) (ownFrom_below (Nat.le_refl _) (by omega)))
    (fun _ _ _ _ _ hs' _ _ => hs')
    ⟨⟨_, bL, World.ownsRow_nil _ _ _ _, trivial⟩, hB0⟩
    (fun x a' W => ∃ Bx, w1.heap.size < Bx ∧ W.heap[Bx]? = some (.cells #[.int .u8 x.1.b.toNat, .int .i64 x.1.at', .int .i64 x.1.n, .bool x.1.sp] 86 (0, 0)) ∧ a' = { tmps := #[.string s, undef, .slice none 0 0, .int .i64 0, .int .i64 0, .pointer (some ⟨w1.heap.size, 0, none⟩), .pointer (some ⟨Bx, 0, none⟩), .string s, .int .i64 0, .int .i64 0, .bool false, undef, .string s, .func (.func 58) #[] #[.pointer (some ⟨w1.heap.size + 1, 0, none⟩)], .agg #[.int .u8 x.1.b.toNat, .int .i64 x.1.at', .int .i64 x.1.n, .bool x.1.sp], undef, undef, undef, undef, undef, undef, undef, undef, undef], defers := [] })
    (fun x a' _ X Y row hs' hg hr => by
      obtain ⟨Bx, h1, h2, h3⟩ := hs'
      refine ⟨Bx, h1, (hg.block Bx (Array.getElem?_eq_some_iff.1 h2).1 (fun e => ?_)).trans h2, h3⟩
      obtain ⟨_, o, ho, hc⟩ := hr Bx e.symm
      rw [h2] at ho; cases ho; cases hc)
    ?assign ?body ?done ?stop
  case assign =>
    rintro l pre x W K ⟨⟨v, bL1, hrow, _⟩, hB1⟩ hK
    gi_wp2
    exact hK _ _ ((KeepsOthers.alloc _ _).from _) (keepsBox_below (below1 _ _)) ⟨⟨v, bL1.alloc _, hrow.alloc _, trivial⟩, hB1.alloc hB1.size _⟩ ⟨W.heap.size, bL1.lt, World.alloc_heap_new _ _, rfl⟩
  case body =>
    rintro l pre x a' W hl ⟨r, hr⟩ ⟨⟨v, bL1, hrow, _⟩, hB1⟩ ⟨Bx, hBx, bX, rfl⟩ hlt
    have d0 : W.cell? ⟨Bx, 0, none⟩ = some (.int .u8 x.1.b.toNat) := by rw [Lib.cell_of_heap bX]; rfl
    have d1 : W.cell? ⟨Bx, 1, none⟩ = some (.int .i64 x.1.at') := by rw [Lib.cell_of_heap bX]; rfl
    have d2 : W.cell? ⟨Bx, 2, none⟩ = some (.int .i64 x.1.n) := by rw [Lib.cell_of_heap bX]; rfl
    have d3 : W.cell? ⟨Bx, 3, none⟩ = some (.bool x.1.sp) := by rw [Lib.cell_of_heap bX]; rfl
    have hc := bL1.cell
    have hcl := chsP_length pre
    gi_wp2_with (gi_at_builtin; refine wpListIn_append_own _ rfl _ _ 63 rfl w.heap.size 70 i0 (.agg #[.int .u8 0, .int .i64 0, .int .i64 0]) 3 24 Try.underlying63 hi hz0 hz1 hz2 rfl (by decide) _ _ _ rfl (hrow.alloc _) ⟨W.heap.size, 0, none⟩ 1 1 (charCell x.1) rfl rfl (cell_three_new _ _ _ _ _) (by simp [Value.oneCell', charCell]) (by unfold maxLen; omega) (by omega) (by have := hB1.size; simp; omega) ?_; intro v' w2 hown' hgrow _; obtain ⟨g', cap', rfl⟩ := ownsRow_succ hown'; obtain ⟨hv1, hv2, hr2, hk2, hb2⟩ := bL1.appended (by decide) hrow hB1.size hs1 hown' hgrow; have hc1 := hv1.cell; have hf1 := hv1.frozen; have hkb : KeepsBox 86 (w1.heap.size + 1) 9 W (w2.setCell ⟨w1.heap.size, 0, none⟩ (.slice (some ⟨g', 0, none⟩) ((chsP pre).length + 1) cap')) := keepsBox_t (keepsBox_below (below1 W _)) (keepsBox_t (keepsBox_row hgrow (hrow.alloc _) (by decide) (by decide)) (keepsBox_set hv1 (by decide) (by omega) _)))
    · have hsp : x.1.sp = false := by first | assumption | simpa using (show (!x.1.sp) = true by assumption)
      exact ⟨hk2.from _, hkb, ⟨_, hv2, chsP_rowY hsp hr2, trivial⟩, hB1.trans hb2⟩
    · have hsp : x.1.sp = true := by first | assumption | simpa using (show (!x.1.sp) = false by assumption)
      exact ⟨KeepsFrom.refl _ _, keepsBox_r _, ⟨v, bL1, by rw [chsP_no pre hsp]; exact hrow, trivial⟩, hB1⟩
  case done =>
    rintro D ys W hD rfl ⟨⟨v, bL1, hrow, _⟩, hB1⟩ hK
    have hc := bL1.cell
    gi_wp2
    refine ⟨by simp, .inl ⟨_, _, rfl, run_takeDeferred hK, ?_⟩⟩
    refine ⟨_, results_tmp2 rfl _ _ _, ?_⟩
    refine ⟨⟨v, rfl, ?_⟩, hB1.trans (belowK_b (w := w) (Nat.le_refl _) W D _ _ (by omega) hK rfl rfl)⟩
    rw [chsP_all] at hrow
    exact ownsRow_putObj hrow _ hK rfl
  case stop =>
    rintro D c pre W _ _ h _
    exact h.elim

theorem check_cases (l : List UInt8) : (checkN l = 0 ∧ l.length ≤ 65536) ∨ checkN l = 3 ∨ checkN l = 10 := by
  unfold checkN
  by_cases h : 65536 < l.length
  · rw [if_pos h]; exact .inr (.inl rfl)
  · rw [if_neg h]
    cases wellB l
    · exact .inr (.inr rfl)
    · exact .inl ⟨rfl, by omega⟩

set_option maxHeartbeats 400000 in
theorem chars_bad (s : ByteArray) (w : World) (hs : s.size ≤ maxLen) (n : Int) (hn : checkN s.data.toList = n) (h3 : n = 3 ∨ n = 10) :
    Calls Try.prog 39 #[.string s] w fun e w' => e = .returned (.tuple #[.slice none 0 0, .int .i64 n]) ∧ Below w.heap.size w w' := by
  have HN := Lib.hid hn
  clear hn
  rcases h3 with rfl | rfl
  all_goals
    go_enter Try.func39, Try.ntmps39
    go_wp2_with (go_at_call 47; refine (check_any s _ hs).mono ?_; rintro e w1 ⟨rfl, hb1⟩; rw [HN.out])
    go_ret2
    exact ⟨rfl, hb1⟩

/-- phys.Chars AT EVERY TEXT. -/
theorem chars_any (s : ByteArray) (w : World) (hs : s.size ≤ maxLen) :
    Calls Try.prog 39 #[.string s] w fun e w' => (∃ v, e = .returned (.tuple #[v, .int .i64 (checkN s.data.toList)]) ∧ w'.ownsRow w.heap.size 70 3 v (charsOf s.data.toList).length (charCells (charsOf s.data.toList))) ∧ Below w.heap.size w w' := by
  rcases check_cases s.data.toList with ⟨h, hl⟩ | h | h
  · rw [charsOf_ok h, h]
    exact chars_ok s w hs hl h
  · rw [charsOf_bad (by rw [h]; decide), h]
    exact (chars_bad s w hs 3 h (.inl rfl)).mono fun e w' ⟨he, hb⟩ => ⟨⟨_, he, World.ownsRow_nil _ _ _ _⟩, hb⟩
  · rw [charsOf_bad (by rw [h]; decide), h]
    exact (chars_bad s w hs 10 h (.inr rfl)).mono fun e w' ⟨he, hb⟩ => ⟨⟨_, he, World.ownsRow_nil _ _ _ _⟩, hb⟩

end Go.Proofs.Ytpomcdolpmbhdaa
