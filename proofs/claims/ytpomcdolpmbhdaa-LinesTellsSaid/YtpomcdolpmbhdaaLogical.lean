/- phys.Logical. -/
import Derived.Test.YtpomcdolpmbhdaaChars
import Derived.Test.YtpomcdolpmbhdaaBuild
namespace Go.Proofs.Ytpomcdolpmbhdaa
open Go.RowKit Go.Shelf

attribute [local go_sem] Oper.semAt_some

/-- The bytes of characters. -/
def chB (ps : List Part) : List UInt8 := (chs ps).map (·.b)
theorem chB_yes (ps : List Part) {p : Part} (h : p.sp = false) : chB (ps ++ [p]) = chB ps ++ [p.b] := by simp [chB, chs_yes _ h]
theorem chB_no (ps : List Part) {p : Part} (h : p.sp = true) : chB (ps ++ [p]) = chB ps := by simp [chB, chs_no _ h]
theorem chB_length (ps : List Part) : (chB ps).length ≤ ps.length := by simp only [chB, List.length_map]; exact chs_length ps

/-- A text's logical text, as Logical answers it. -/
def logicalOf (l : List UInt8) : List UInt8 := if checkN l = 0 then chB (parts l) else []
theorem logicalOf_ok {l : List UInt8} (h : checkN l = 0) : logicalOf l = chB (parts l) := by unfold logicalOf; rw [if_pos h]
theorem logicalOf_bad {l : List UInt8} (h : ¬ checkN l = 0) : logicalOf l = [] := by unfold logicalOf; rw [if_neg h]

def chBP (pre : List Pt) : List UInt8 := chB (pre.map (·.1))
theorem chBP_yes (pre : List Pt) {x : Pt} (h : x.1.sp = false) : chBP (pre ++ [x]) = chBP pre ++ [x.1.b] := by
  unfold chBP; rw [List.map_append]; exact chB_yes _ h
theorem chBP_no (pre : List Pt) {x : Pt} (h : x.1.sp = true) : chBP (pre ++ [x]) = chBP pre := by
  unfold chBP; rw [List.map_append]; exact chB_no _ h
theorem chBP_length (pre : List Pt) : (chBP pre).length ≤ pre.length := by
  have := chB_length (pre.map (·.1)); rw [List.length_map] at this; exact this
theorem chBP_all (s : ByteArray) (hs : s.size ≤ 65536) : chBP (ptsFrom s.data.toList hs 0) = chB (parts s.data.toList) := by
  unfold chBP parts; rw [ptsFrom_val]

theorem builder_own {β : Type} (T e : TypeId) (B b : Nat) (f : β → List Value) : Own (fun s W => Lib.IsBuilderF T e B b (f s) W) := by
  have key : ∀ (p : Value) (bs : List Value) (X Y : World) (row : Option Nat), Lib.BuilderAtF T e B b p bs X → X.grownBy Y row → (∀ r, row = some r → ∃ o : Obj, X.heap[r]? = some o ∧ o.isCells = false) → Lib.BuilderAtF T e B b p bs Y := by
    intro p bs X Y row h hg hr
    have hlt := h.lt
    obtain ⟨hB, v, hb, hown, hne⟩ := h
    refine ⟨hB, v, (hg.block b hlt (fun e' => ?_)).trans hb, hown.kept hg ?_, hne⟩
    · obtain ⟨o, ho, hc⟩ := hr b e'.symm
      rw [hb] at ho; cases ho; cases hc
    · rcases hown.2 with ⟨rfl, _⟩ | ⟨g, cap, cur, fz, rfl, _, hgb, _⟩
      · exact .inl rfl
      · refine .inr fun e' => ?_
        obtain ⟨o, ho, hc⟩ := hr g (by simpa [Value.ownBlock] using e'.symm)
        rw [hgb] at ho; cases ho; cases hc
  intro s X Y row h hg hr
  rcases h with h | h
  · exact .inl (key _ _ _ _ _ h hg hr)
  · exact .inr (key _ _ _ _ _ h hg hr)

theorem builder_heap {T e : TypeId} {B b : Nat} {bs : List Value} {W : World} (h : Lib.IsBuilderF T e B b bs W) : ∃ cs, W.heap[b]? = some (.cells cs T (0, 0)) := by
  rcases h with ⟨_, v, hb, _⟩ | ⟨_, v, hb, _⟩
  · exact ⟨_, hb⟩
  · exact ⟨_, hb⟩

theorem keepsOthers_of_others {e : TypeId} {b : Nat} {W W' : World} {cs : Array Value} {T : TypeId} {fz : Nat × Nat} (h : Lib.OthersKept e (some b) W W') (hs : W.heap.size ≤ W'.heap.size) (hb : W.heap[b]? = some (.cells cs T fz)) : KeepsOthers W W' :=
  ⟨hs, fun k o hk ho => h k o hk (fun e' => by
    obtain rfl : k = b := by simpa using e'
    rw [hb] at hk; cases hk; cases ho) (fun c f h' => by subst h'; cases ho)⟩

set_option maxRecDepth 100000 in
set_option maxHeartbeats 2000000 in
theorem logical_ok (s : ByteArray) (w : World) (hs : s.size ≤ maxLen) (hle : s.size ≤ 65536) (hok : checkN s.data.toList = 0) :
    Calls Try.prog 38 #[.string s] w fun e w' => e = .returned (.tuple #[.string ⟨(chB (parts s.data.toList)).toArray⟩, .int .i64 0]) ∧ Below w.heap.size w w' := by
  refine (callsIn_wide (n := 20)).1 ?_
  refine callsIn_of_wp_marks Try.func38 rfl trivial ?_ rfl
  simp only [Try.ntmps38, List.size_toArray, List.length_cons, List.length_nil, Nat.reduceAdd, Nat.reduceSub, Array.replicate_succ, Array.replicate_zero, List.push_toArray, List.append_toArray, List.nil_append, List.cons_append]
  gi_wp2
  refine ⟨trivial, (callsIn_wide.2 (check_any s w hs)).mono ?_⟩
  rintro e w1 ⟨rfl, hb1⟩
  rw [hok]
  gi_wp2
  refine ⟨trivial, (callsIn_wide.2 (parts_any _ _)).mono ?_⟩
  rintro e w' ⟨rfl, rfl⟩
  gi_wp2
  have hlen := ptsFrom_length hle
  have hs1 := hb1.size
  have bL : Lib.IsBuilderF 81 5 w.heap.size w1.heap.size (Lib.byteCells (chBP [])) ((w1.alloc (.cells #[.pointer none, .slice none 0 0] 81)).alloc (.cells #[.string s] 9)) := by
    refine Lib.IsBuilderF.alloc (.inl ⟨hs1, .slice none 0 0, World.alloc_heap_new w1 _, ⟨rfl, .inl ⟨rfl, rfl⟩⟩, by simp [Value.ownBlock]⟩) _
  have bN := Boxed.new (w1.alloc (.cells #[.pointer none, .slice none 0 0] 81)) 9 (.string s)
  simp only [World.size_alloc] at bN
  have hB0 : Below w.heap.size w ((w1.alloc (.cells #[.pointer none, .slice none 0 0] 81)).alloc (.cells #[.string s] 9)) := hb1.trans ((below2 w1 _ _).mono hb1.size)
  have hsz : w1.heap.size + 2 ≤ ((w1.alloc (.cells #[.pointer none, .slice none 0 0] 81)).alloc (.cells #[.string s] 9)).heap.size := by simp
  obtain ⟨W0, hW0⟩ : ∃ W0, (w1.alloc (.cells #[.pointer none, .slice none 0 0] 81)).alloc (.cells #[.string s] 9) = W0 := ⟨_, rfl⟩
  rw [hW0] at bL bN hB0 hsz ⊢
  clear hW0
  refine wpIn_rangeFunc_ownH rfl (by decide) (gf := 58) (lb := #[.pointer (some ⟨w1.heap.size + 1, 0, none⟩)]) rfl trivial (enters_of Try.func58 (by kernel_rfl) rfl)
    (parts_stops _ (by decide) s hle (w1.heap.size + 1) W0 bN) keepsBox_t (keepsBox_b (n := W0.heap.size)) (Below.refl _ _) (fun _ => rfl)
    (fun pre W => (Lib.IsBuilderF 81 5 w.heap.size w1.heap.size (Lib.byteCells (chBP pre)) W) ∧ Below w.heap.size w W)
    (fun _ _ _ => False)
    (OwnFrom.and (Own.from (builder_own _ _ _ _ (fun pre => Lib.byteCells (chBP pre))) _) (ownFrom_below (Nat.le_refl _) (by omega)))
    (fun _ _ _ _ _ hs' _ _ => hs')
    ⟨bL, hB0⟩
    (fun x a' W => ∃ Bx, w1.heap.size < Bx ∧ W.heap[Bx]? = some (.cells #[.int .u8 x.1.b.toNat, .int .i64 x.1.at', .int .i64 x.1.n, .bool x.1.sp] 86 (0, 0)) ∧ a' = { tmps := #[.string s, undef, .string ⟨#[]⟩, .int .i64 0, .int .i64 0, .pointer (some ⟨w1.heap.size, 0, none⟩), .pointer (some ⟨Bx, 0, none⟩), .string s, .int .i64 0, .int .i64 0, .bool false, undef, .string s, .func (.func 58) #[] #[.pointer (some ⟨w1.heap.size + 1, 0, none⟩)], .agg #[.int .u8 x.1.b.toNat, .int .i64 x.1.at', .int .i64 x.1.n, .bool x.1.sp], undef, undef, undef, undef, undef, undef, undef, undef], defers := [] })
    (fun x a' _ X Y row hs' hg hr => by
      obtain ⟨Bx, h1, h2, h3⟩ := hs'
      refine ⟨Bx, h1, (hg.block Bx (Array.getElem?_eq_some_iff.1 h2).1 (fun e => ?_)).trans h2, h3⟩
      obtain ⟨_, o, ho, hc⟩ := hr Bx e.symm
      rw [h2] at ho; cases ho; cases hc)
    ?assign ?body ?done ?stop
  case assign =>
    rintro l pre x W K ⟨bL1, hB1⟩ hK
    obtain ⟨cs, hbl⟩ := builder_heap bL1
    gi_wp2
    exact hK _ _ ((KeepsOthers.alloc _ _).from _) (keepsBox_below (below1 _ _)) ⟨bL1.alloc _, hB1.alloc hB1.size _⟩ ⟨W.heap.size, (Array.getElem?_eq_some_iff.1 hbl).1, World.alloc_heap_new _ _, rfl⟩
  case body =>
    rintro l pre x a' W hl ⟨r, hr⟩ ⟨bL1, hB1⟩ ⟨Bx, hBx, bX, rfl⟩ hlt
    have d0 : W.cell? ⟨Bx, 0, none⟩ = some (.int .u8 x.1.b.toNat) := by rw [Lib.cell_of_heap bX]; rfl
    have d1 : W.cell? ⟨Bx, 1, none⟩ = some (.int .i64 x.1.at') := by rw [Lib.cell_of_heap bX]; rfl
    have d2 : W.cell? ⟨Bx, 2, none⟩ = some (.int .i64 x.1.n) := by rw [Lib.cell_of_heap bX]; rfl
    have d3 : W.cell? ⟨Bx, 3, none⟩ = some (.bool x.1.sp) := by rw [Lib.cell_of_heap bX]; rfl
    obtain ⟨cs, hbl⟩ := builder_heap bL1
    have hcl := chBP_length pre
    have hbytes : (Lib.byteCells (chBP pre)).length + 1 ≤ 140737488355328 := by rw [Lib.byteCells_length]; omega
    gi_wp2_with (refine ⟨trivial, ?_⟩; gi_at_call 49; refine (CallsIn.inRound l (callsIn_wide.2 (writeByte_k w.heap.size w1.heap.size _ _ _ bL1 hbytes hB1.size))).mono ?_; rintro e w2 ⟨rfl, hI2, hB2, hk2⟩)
    · have hsp : x.1.sp = false := by first | assumption | simpa using (show (!x.1.sp) = true by assumption)
      refine ⟨(keepsOthers_of_others hk2 hB2.size hbl).from _, keepsBox_others hk2 hbl (by decide) (by decide) (by omega) (by decide), ?_, hB1.trans hB2⟩
      rw [chBP_yes pre hsp, Lib.byteCells_append]
      exact .inr hI2
    · have hsp : x.1.sp = true := by first | assumption | simpa using (show (!x.1.sp) = false by assumption)
      exact ⟨KeepsFrom.refl _ _, keepsBox_r _, by rw [chBP_no pre hsp]; exact bL1, hB1⟩
  case done =>
    rintro D ys W hD rfl ⟨bL1, hB1⟩ hK
    rw [chBP_all] at bL1
    obtain ⟨cs, hbl⟩ := builder_heap bL1
    gi_wp2
    refine ⟨trivial, (callsIn_wide.2 (Try.Builder_String_any_k w.heap.size w1.heap.size _ _ bL1 hB1.size)).mono ?_⟩
    rintro e w2 ⟨rfl, _, hB2, hk2⟩
    gi_wp2
    have hK2 : w2.heap[D]? = some (.deferred (some [])) := hk2 D _ hK (fun e' => by
      obtain rfl : D = w1.heap.size := by simpa using e'
      rw [hbl] at hK; cases hK) (fun c f h' => by cases h')
    refine ⟨by simp, .inl ⟨_, _, rfl, run_takeDeferred hK2, ?_⟩⟩
    refine ⟨_, results_tmp2 rfl _ _ _, ?_⟩
    exact ⟨rfl, (hB1.trans hB2).trans (belowK_b (w := w) (Nat.le_refl _) w2 D _ _ (by omega) hK2 rfl rfl)⟩
  case stop =>
    rintro D c pre W _ _ h _
    exact h.elim

set_option maxHeartbeats 400000 in
theorem logical_bad (s : ByteArray) (w : World) (hs : s.size ≤ maxLen) (n : Int) (hn : checkN s.data.toList = n) (h3 : n = 3 ∨ n = 10) :
    Calls Try.prog 38 #[.string s] w fun e w' => e = .returned (.tuple #[.string ⟨#[]⟩, .int .i64 n]) ∧ Below w.heap.size w w' := by
  have HN := Lib.hid hn
  clear hn
  rcases h3 with rfl | rfl
  all_goals
    go_enter Try.func38, Try.ntmps38
    go_wp2_with (go_at_call 47; refine (check_any s _ hs).mono ?_; rintro e w1 ⟨rfl, hb1⟩; rw [HN.out])
    go_ret2
    exact ⟨rfl, hb1⟩

/-- phys.Logical AT EVERY TEXT. -/
theorem logical_any (s : ByteArray) (w : World) (hs : s.size ≤ maxLen) :
    Calls Try.prog 38 #[.string s] w fun e w' => e = .returned (.tuple #[.string ⟨(logicalOf s.data.toList).toArray⟩, .int .i64 (checkN s.data.toList)]) ∧ Below w.heap.size w w' := by
  rcases check_cases s.data.toList with ⟨h, hl⟩ | h | h
  · rw [logicalOf_ok h, h]
    exact logical_ok s w hs hl h
  · rw [logicalOf_bad (by rw [h]; decide), h]
    exact logical_bad s w hs 3 h (.inl rfl)
  · rw [logicalOf_bad (by rw [h]; decide), h]
    exact logical_bad s w hs 10 h (.inr rfl)

end Go.Proofs.Ytpomcdolpmbhdaa
