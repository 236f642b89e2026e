/- phys.endsWell and Check. -/
import Derived.Test.YtpomcdolpmbhdaaIter
import Derived.Scope
import Derived.Shelf.RegionOpen
import Derived.BigQuiet
import Derived.Deep.QuietTactic
namespace Go.Proofs.Ytpomcdolpmbhdaa
open Go.RowKit Go.Shelf

attribute [local go_sem] Oper.semAt_some

theorem wpIn_scope_wide {n : Nat} {P : Program} {c : Code} {Q : Exit → Act → World → Prop} {a : Act} {w : World} (h : c.wpIn Fence.wide n P (Exit.noGoto Q) a w) : (Code.scope c).wpIn Fence.wide n P Q a w :=
  wpIn_wide.2 (wp_scope_straight (wpIn_wide.1 h))
theorem wpIn_label_wide {n l : Nat} {P : Program} {Q : Exit → Act → World → Prop} {a : Act} {w : World} (h : Q .normal a w) : (Code.label l).wpIn Fence.wide n P Q a w :=
  wpIn_wide.2 (wp_label h)

/-- Does a text end well? -/
def wellB (l : List UInt8) : Bool := match (parts l).getLast? with
  | none => l == []
  | some p => !p.sp && p.b == 10

theorem parts_reach {l : List UInt8} : ∀ (m k : Nat), l.length - k = m → k < l.length → (∀ p ∈ partsFrom l k, p.at' + p.n < l.length) → False := by
  intro m
  induction m using Nat.strongRecOn with
  | ind m ih =>
    intro k hm hk h
    rw [partsFrom, dif_pos hk] at h
    have h1 := h _ List.mem_cons_self
    have hp := partN_pos (l.drop k)
    simp only [partAt] at h1
    exact ih (l.length - (k + partN (l.drop k))) (by omega) _ rfl h1 (fun p hp => h p (List.mem_cons_of_mem _ hp))

theorem parts_last {l : List UInt8} : ∀ (q : List Part) (x : Part) (k : Nat), q ++ [x] <+: partsFrom l k → l.length ≤ x.at' + x.n → q ++ [x] = partsFrom l k := by
  intro q
  induction q with
  | nil =>
    intro x k h hx
    rw [partsFrom] at h ⊢
    by_cases hk : k < l.length
    · rw [dif_pos hk] at h ⊢
      obtain ⟨t, ht⟩ := h
      simp only [List.nil_append, List.cons_append, List.cons.injEq] at ht
      obtain ⟨rfl, _⟩ := ht
      simp only [partAt] at hx
      rw [partsFrom, dif_neg (by omega)]
      rfl
    · rw [dif_neg hk] at h
      obtain ⟨t, ht⟩ := h
      simp at ht
  | cons p q ih =>
    intro x k h hx
    rw [partsFrom] at h ⊢
    by_cases hk : k < l.length
    · rw [dif_pos hk] at h ⊢
      obtain ⟨t, ht⟩ := h
      simp only [List.cons_append, List.cons.injEq] at ht
      obtain ⟨rfl, ht⟩ := ht
      simp only [List.cons_append, List.cons.injEq, true_and]
      exact ih x _ ⟨t, ht⟩ hx
    · rw [dif_neg hk] at h
      obtain ⟨t, ht⟩ := h
      simp at ht

/-- All parts end ahead of the text's end: there are none. -/
theorem well_done {s : ByteArray} (hs : s.size ≤ 65536) (h : ∀ p ∈ ptsFrom s.data.toList hs 0, p.1.at' + p.1.n < s.size) : wellB s.data.toList = s.toList.isEmpty := by
  have hnot : ¬ 0 < s.data.toList.length := fun h0 => parts_reach (l := s.data.toList) _ 0 rfl h0 (fun p hp => by
    rw [← ptsFrom_val _ hs] at hp
    obtain ⟨q, hq, rfl⟩ := List.mem_map.1 hp
    exact h q hq)
  have h0 : s.data.toList = [] := List.length_eq_zero_iff.1 (by omega)
  rw [ByteArray.toList_eq, h0]
  simp [wellB, parts, partsFrom]

theorem well_stop {s : ByteArray} (hs : s.size ≤ 65536) {q : List Pt} {x : Pt} (h : q ++ [x] <+: ptsFrom s.data.toList hs 0) (hx : s.size ≤ x.1.at' + x.1.n) :
    wellB s.data.toList = if x.1.sp then s.toList.isEmpty else ((x.1.b.toNat : Int) == 10) := by
  have h2 : q.map (·.1) ++ [x.1] <+: partsFrom s.data.toList 0 := by
    obtain ⟨t, ht⟩ := h
    refine ⟨t.map (·.1), ?_⟩
    rw [← ptsFrom_val _ hs, ← ht]
    simp
  have h3 := parts_last _ _ _ h2 hx
  have hne : s.data.toList ≠ [] := fun h0 => by
    rw [h0] at h3
    simp [partsFrom] at h3
  have he : s.toList.isEmpty = false := by rw [ByteArray.toList_eq]; simpa using hne
  simp only [wellB, parts, ← h3, List.getLast?_append, List.getLast?_singleton, Option.some_or, he]
  cases x.1.sp
  · simp only [Bool.not_false, Bool.true_and]
    rw [Bool.eq_iff_iff]
    constructor
    · intro h
      rw [eq_of_beq h]; rfl
    · intro h; exact beq_iff_eq.2 (eq_u8 10 h)
  · simp

theorem keepsFrom_below {B : Nat} {W W' : World} (h : Below W.heap.size W W') : KeepsFrom B W W' := ⟨h.size, fun k _ _ hk _ => (h.block k (Array.getElem?_eq_some_iff.1 hk).1).trans hk⟩

set_option maxRecDepth 100000 in
set_option maxHeartbeats 2000000 in
/-- phys.endsWell AT EVERY TEXT of at most 65536 bytes. -/
theorem endsWell_any (s : ByteArray) (w : World) (hs : s.size ≤ 65536) :
    Calls Try.prog 57 #[.string s] w fun e w' => e = .returned (.bool (wellB s.data.toList)) ∧ Below w.heap.size w w' := by
  refine (callsIn_wide (n := 20)).1 ?_
  refine callsIn_of_wp_marks Try.func57 rfl trivial ?_ rfl
  simp only [Try.ntmps57, List.size_toArray, List.length_cons, List.length_nil, Nat.reduceAdd, Nat.reduceSub, Array.replicate_succ, Array.replicate_zero, List.push_toArray, List.append_toArray, List.nil_append, List.cons_append]
  gi_wp2
  refine wpIn_scope_wide ?_
  gi_wp2
  refine wpIn_label_wide ?_
  gi_wp2
  refine ⟨trivial, (callsIn_wide.2 (parts_any _ _)).mono ?_⟩
  rintro e w' ⟨rfl, rfl⟩
  gi_wp2
  have bS := ((Boxed.new w 9 (.string s)).alloc (.cells #[.bool s.toList.isEmpty] 4)).alloc (.cells #[.string s] 9)
  have bW := (Boxed.new (w.alloc (.cells #[.string s] 9)) 4 (.bool s.toList.isEmpty)).alloc (.cells #[.string s] 9)
  have bN := Boxed.new ((w.alloc (.cells #[.string s] 9)).alloc (.cells #[.bool s.toList.isEmpty] 4)) 9 (.string s)
  simp only [World.size_alloc] at bW bN
  have hB0 := below3 w (.cells #[.string s] 9) (.cells #[.bool s.toList.isEmpty] 4) (.cells #[.string s] 9)
  have hsz : (((w.alloc (.cells #[.string s] 9)).alloc (.cells #[.bool s.toList.isEmpty] 4)).alloc (.cells #[.string s] 9)).heap.size = w.heap.size + 3 := by simp
  obtain ⟨W0, hW0⟩ : ∃ W0, ((w.alloc (.cells #[.string s] 9)).alloc (.cells #[.bool s.toList.isEmpty] 4)).alloc (.cells #[.string s] 9) = W0 := ⟨_, rfl⟩
  rw [hW0] at bS bW bN hB0 hsz ⊢
  clear hW0
  refine wpIn_rangeFunc_ownH rfl (by decide) (gf := 58) (lb := #[.pointer (some ⟨w.heap.size + 1 + 1, 0, none⟩)]) rfl trivial (enters_of Try.func58 (by kernel_rfl) rfl)
    (parts_stops _ (by decide) s hs (w.heap.size + 1 + 1) W0 bN) keepsBox_t (keepsBox_b (n := W0.heap.size)) (Below.refl _ _) (fun _ => rfl)
    (fun pre W => ((Boxed W (w.heap.size + 1) 4 (.bool s.toList.isEmpty) ∧ Boxed W w.heap.size 9 (.string s)) ∧ Below w.heap.size w W) ∧ ∀ p ∈ pre, p.1.at' + p.1.n < s.size)
    (fun c pre W => (∃ v, Boxed W (w.heap.size + 1) 4 (.bool v) ∧ c = .exit 0 ∧ ∃ q x, pre = q ++ [x] ∧ s.size ≤ x.1.at' + x.1.n ∧ v = if x.1.sp then s.toList.isEmpty else ((x.1.b.toNat : Int) == 10)) ∧ Below w.heap.size w W)
    (OwnFrom.and (OwnFrom.and (OwnFrom.and (Own.from (boxed_own _ _ _) _) (Own.from (boxed_own _ _ _) _)) (ownFrom_below (Nat.le_refl _) (by omega))) (ownFrom_pure _ _))
    (fun c => OwnFrom.and (fun pre X Y row hs' hg hr => by obtain ⟨v, hb, h2⟩ := hs'; exact ⟨v, boxed_own _ _ (fun (_ : Unit) => Value.bool v) () X Y row hb hg (fun r e => (hr r e).2), h2⟩) (ownFrom_below (Nat.le_refl _) (by omega)))
    ⟨⟨⟨bW, bS⟩, hB0⟩, fun _ h => by cases h⟩
    (fun x a' W => ∃ Bx, w.heap.size + 1 < Bx ∧ W.heap[Bx]? = some (.cells #[.int .u8 x.1.b.toNat, .int .i64 x.1.at', .int .i64 x.1.n, .bool x.1.sp] 86 (0, 0)) ∧ a' = { tmps := #[.string s, .pointer (some ⟨w.heap.size, 0, none⟩), .bool false, .pointer (some ⟨w.heap.size + 1, 0, none⟩), .pointer (some ⟨Bx, 0, none⟩), .string s, .bool s.toList.isEmpty, .string s, .func (.func 58) #[] #[.pointer (some ⟨w.heap.size + 1 + 1, 0, none⟩)], .agg #[.int .u8 x.1.b.toNat, .int .i64 x.1.at', .int .i64 x.1.n, .bool x.1.sp], undef, undef, undef, undef, undef, undef, undef, undef, undef, undef, undef, undef, undef, undef], defers := [] })
    (fun x a' _ X Y row hs' hg hr => by
      obtain ⟨Bx, h1, h2, h3⟩ := hs'
      refine ⟨Bx, h1, (hg.block Bx (Array.getElem?_eq_some_iff.1 h2).1 (fun e => ?_)).trans h2, h3⟩
      obtain ⟨_, o, ho, hc⟩ := hr Bx e.symm
      rw [h2] at ho; cases ho; cases hc)
    ?assign ?body ?done ?stop
  case assign =>
    rintro l pre x W K ⟨⟨⟨bW1, bS1⟩, hB1⟩, hp⟩ hK
    gi_wp2
    exact hK _ _ ((KeepsOthers.alloc _ _).from _) (keepsBox_below (below1 _ _)) ⟨⟨⟨bW1.alloc _, bS1.alloc _⟩, hB1.alloc hB1.size _⟩, hp⟩ ⟨W.heap.size, bW1.lt, World.alloc_heap_new _ _, rfl⟩
  case body =>
    rintro l pre x a' W hl ⟨r, hr⟩ ⟨⟨⟨bW1, bS1⟩, hB1⟩, hp⟩ ⟨Bx, hBx, bX, rfl⟩ hlt
    have d0 : W.cell? ⟨Bx, 0, none⟩ = some (.int .u8 x.1.b.toNat) := by rw [Lib.cell_of_heap bX]; rfl
    have d1 : W.cell? ⟨Bx, 1, none⟩ = some (.int .i64 x.1.at') := by rw [Lib.cell_of_heap bX]; rfl
    have d2 : W.cell? ⟨Bx, 2, none⟩ = some (.int .i64 x.1.n) := by rw [Lib.cell_of_heap bX]; rfl
    have d3 : W.cell? ⟨Bx, 3, none⟩ = some (.bool x.1.sp) := by rw [Lib.cell_of_heap bX]; rfl
    have cS := bS1.cell
    have cW := bW1.cell
    have fW := bW1.frozen
    have hmx : Try.prog.follows .mixedOrders = true := by kernel_rfl
    have hC := fun W => CallsIn.inRound (n := 17) l (callsIn_wide.2 (end_pt x W))
    have lS := bS1.lt
    have lW := bW1.lt
    have lX := (Array.getElem?_eq_some_iff.1 bX).1
    by_cases hend : x.1.at' + x.1.n < s.size
    · gi_wp2
      gi_region_with_o (refine ⟨trivial, ?_⟩; gi_at_call 60; refine (hC _).mono ?_; rintro e w' ⟨rfl, rfl⟩)
      all_goals gi_wp2
      all_goals
        have hbW := (below1 W (.cells #[.int .u8 x.1.b.toNat, .int .i64 x.1.at', .int .i64 x.1.n, .bool x.1.sp] 86)).drew
        refine ⟨keepsFrom_below hbW, keepsBox_below hbW, ⟨⟨bW1.alloc _, bS1.alloc _⟩, (hB1.alloc hB1.size _).drew⟩, fun p hp' => ?_⟩
        rcases List.mem_append.1 hp' with h' | h'
        · exact hp p h'
        · obtain rfl : p = x := by simpa using h'
          exact hend
    · gi_wp2
      gi_region_with_o (refine ⟨trivial, ?_⟩; gi_at_call 60; refine (hC _).mono ?_; rintro e w' ⟨rfl, rfl⟩)
      all_goals gi_wp2
      all_goals
        have hbW := (below1 W (.cells #[.int .u8 x.1.b.toNat, .int .i64 x.1.at', .int .i64 x.1.n, .bool x.1.sp] 86)).drew
      all_goals first
        | (have hsp : x.1.sp = true := by assumption
           exact ⟨keepsFrom_below hbW, ⟨_, bW1.alloc _, rfl, pre, x, rfl, by omega, by rw [if_pos hsp]⟩, (hB1.alloc hB1.size _).drew⟩)
        | (have hsp : x.1.sp = false := by assumption
           have hBs := hB1.setCell (p := ⟨w.heap.size + 1, 0, none⟩) (by simp) (.bool ((x.1.b.toNat : Int) == 10))
           exact ⟨((KeepsOthers.setCell _ _ _).from _).trans (keepsFrom_below (below1 _ _).drew), ⟨_, (bW1.set _).alloc _, rfl, pre, x, rfl, by omega, by rw [hsp]; rfl⟩, (hBs.alloc hBs.size _).drew⟩)
  case done =>
    rintro D ys W hD rfl ⟨⟨⟨bW1, bS1⟩, hB1⟩, hp⟩ hK
    have cW := bW1.cell
    have HE := Lib.hid (well_done hs hp)
    clear hp
    gi_wp2
    rw [Exit.noGoto_ret]
    refine ⟨by simp, .inl ⟨_, _, rfl, run_takeDeferred hK, ?_⟩⟩
    refine ⟨_, results_tmp rfl _ _ _, ?_⟩
    exact ⟨ret_bool HE.out.symm, hB1.trans (belowK_b (w := w) (Nat.le_refl _) W D _ _ (by omega) hK rfl rfl)⟩
  case stop =>
    rintro D c pre W hD hpre ⟨⟨v, bW1, rfl, q, x, rfl, hx, hv⟩, hB1⟩ hK
    have cW := bW1.cell
    have HE := Lib.hid ((well_stop hs hpre hx).trans hv.symm)
    clear hv
    gi_wp2
    rw [Exit.noGoto_ret]
    refine ⟨by simp, .inl ⟨_, _, rfl, run_takeDeferred hK, ?_⟩⟩
    refine ⟨_, results_tmp rfl _ _ _, ?_⟩
    exact ⟨ret_bool HE.out.symm, hB1.trans (belowK_b (w := w) (Nat.le_refl _) W D _ _ (by omega) hK rfl rfl)⟩

/-- What Check answers of a list. -/
def checkN (l : List UInt8) : Int := if 65536 < l.length then 3 else if wellB l then 0 else 10

theorem check_long {s : ByteArray} (h : 65536 < s.size) : checkN s.data.toList = 3 := by
  unfold checkN; rw [if_pos (by rw [size_list]; exact h)]
theorem check_well {s : ByteArray} (h : ¬ 65536 < s.size) (h2 : wellB s.data.toList = true) : checkN s.data.toList = 0 := by
  unfold checkN; rw [if_neg (by rw [size_list]; exact h), if_pos h2]
theorem check_ill {s : ByteArray} (h : ¬ 65536 < s.size) (h2 : wellB s.data.toList = false) : checkN s.data.toList = 10 := by
  unfold checkN; rw [if_neg (by rw [size_list]; exact h), if_neg (by rw [h2]; decide)]

set_option maxHeartbeats 400000 in
/-- phys.Check AT EVERY TEXT. -/
theorem check_any (s : ByteArray) (w : World) (hs : s.size ≤ maxLen) :
    Calls Try.prog 47 #[.string s] w fun e w' => e = .returned (.int .i64 (checkN s.data.toList)) ∧ Below w.heap.size w w' := by
  unfold maxLen at hs
  by_cases hl : 65536 < s.size
  · have H := Lib.hid (check_long hl)
    go_enter Try.func47, Try.ntmps47
    go_wp2
    go_ret
    exact ⟨ret_int H.out.symm, Below.refl _ _⟩
  · have hle : s.size ≤ 65536 := by omega
    go_enter Try.func47, Try.ntmps47
    go_wp2_with (go_at_call 57; refine (endsWell_any s _ hle).mono ?_; rintro e w1 ⟨rfl, hb1⟩)
    · have h : wellB s.data.toList = false := by simpa using (show (!wellB s.data.toList) = true by assumption)
      go_ret
      exact ⟨ret_int (check_ill hl h).symm, hb1⟩
    · have h : wellB s.data.toList = true := by simpa using (show (!wellB s.data.toList) = false by assumption)
      go_ret
      exact ⟨ret_int (check_well hl h).symm, hb1⟩

end Go.Proofs.Ytpomcdolpmbhdaa
