/- Several texts laid together. -/
import Derived.Test.YtaodjipnffgihaaGreatGen
import Derived.Test.YtaodjipnffgihaaGreatMzG
import Derived.Test.YtaodjipnffgihaaGreatMzH
import Derived.Test.YtaodjipnffgihaaGreatRegion
import Derived.IntWalk
import Derived.Deep.RegionHeld
import Derived.Deep.QuietTactic
import Derived.WalkSmall
import Derived.Test.YtaodjipnffgihaaGreatMzC

namespace Go.Proofs.YtaodjipnffgihaaGreat
open Go.RowKit Go.Shelf

attribute [local go_sem] Oper.semAt_some

/-- A token with its places in the text. -/
def chAt (cs : List Part) (k : Nat) : Part := cs.getD k ⟨0, 0, 0, false⟩
def srcY (cs : List Part) (y : Yd) : Yd := { y with a := (chAt cs y.a).at', e := (chAt cs (y.e - 1)).at' + (chAt cs (y.e - 1)).n }
/-- The logical text of a text, as bytes. -/
def logB (s : ByteArray) : ByteArray := ⟨(logicalOf s.data.toList).toArray⟩
theorem logB_list (s : ByteArray) : (logB s).data.toList = logicalOf s.data.toList := by simp [logB]
def scanErr (s : ByteArray) : Int := if checkN s.data.toList = 0 then ((toks (logicalOf s.data.toList) 0 0).2 : Int) else checkN s.data.toList
def scanOf (s : ByteArray) : List Yd := if scanErr s = 0 then (toksY (logB s)).map (srcY (charsOf s.data.toList)) else []

theorem r2c {v : Value} {a c : Int} (h : a = c) : Ending.returned (.tuple #[v, .int .i64 a]) = .returned (.tuple #[v, .int .i64 c]) := by rw [h]

/-- What Scan hands back lies in its two result variables. -/
theorem results_scan (tmps : Array Value) (A B : Nat) (v u : Value) (W : World) (h2 : tmps[2]?.getD undef = .pointer (some ⟨A, 0, none⟩)) (h3 : tmps[3]?.getD undef = .pointer (some ⟨B, 0, none⟩))
    (c2 : W.cell? ⟨A, 0, none⟩ = some v) (c3 : W.cell? ⟨B, 0, none⟩ = some u) : (results Tryz.f32 tmps).run Tryz.prog W = .ok (.tuple #[v, u]) W := by
  simp [results, Tryz.results32, go_sem, h2, h3, c2, c3]

theorem set2_cells {W : World} {A B : Nat} {t u : TypeId} {a b : Value} (hA : Boxed W A t a) (hB : Boxed W B u b) (hne : A ≠ B) (x y : Value) :
    Boxed ((W.setCell ⟨A, 0, none⟩ x).setCell ⟨B, 0, none⟩ y) A t x ∧ Boxed ((W.setCell ⟨A, 0, none⟩ x).setCell ⟨B, 0, none⟩ y) B u y :=
  ⟨(hA.set x).other hne y, (hB.other (Ne.symm hne) x).set y⟩

set_option maxRecDepth 100000 in
set_option maxHeartbeats 1000000 in
theorem scan_bad (s : ByteArray) (w : World) (hs : s.size ≤ maxLen) (n : Int) (hn : checkN s.data.toList = n) (h3 : n = 3 ∨ n = 10) :
    Calls Tryz.prog 32 #[.string s] w fun e w' => e = .returned (.tuple #[.slice none 0 0, .int .i64 n]) ∧ Below w.heap.size w w' := by
  have HN := Lib.hid hn
  clear hn
  rcases h3 with rfl | rfl
  all_goals
    go_enter Tryz.func32, Tryz.ntmps32
    go_wp2_with fail
    refine (logical_any s _ hs).mono ?_
    rintro e w1 ⟨rfl, hb1⟩
    rw [HN.out]
    have hz : w.heap.size + 2 ≤ w1.heap.size := by have := hb1.size; simpa using this
    have c2 : Boxed w1 w.heap.size 44 (.slice none 0 0) := (hb1.block w.heap.size (by simp; omega)).trans (((Boxed.new w 44 (.slice none 0 0)).alloc _))
    have c3 : Boxed w1 (w.heap.size + 1) 28 (.int .i64 0) := (hb1.block (w.heap.size + 1) (by simp)).trans (by have := Boxed.new (w.alloc (.cells #[.slice none 0 0] 44)) 28 (.int .i64 0); rw [World.size_alloc] at this; exact this)
    have d2 := c2.cell
    have d3 := c3.cell
    have f2 := c2.frozen
    have f3 := c3.frozen
    go_wp2
    obtain ⟨e2, e3⟩ := set2_cells c2 c3 (by omega) (.slice none 0 0) (.int .i64 _)
    refine bodyPost_ret (results_scan _ w.heap.size (w.heap.size + 1) _ _ _ rfl rfl e2.cell e3.cell) rfl ?_
    refine ⟨rfl, ?_⟩
    have hB : Below w.heap.size w w1 := (below2 w _ _).trans (hb1.mono (by simp; omega))
    exact (hB.setCell (p := ⟨w.heap.size, 0, none⟩) (Nat.le_refl _) _).setCell (p := ⟨w.heap.size + 1, 0, none⟩) (by simp) _

theorem charsOf_len {l : List UInt8} : (logicalOf l).length = (charsOf l).length := by
  unfold logicalOf charsOf
  split
  · simp [chB]
  · rfl

theorem logB_size (s : ByteArray) : (logB s).size = (charsOf s.data.toList).length := by
  rw [← size_list, logB_list, charsOf_len]
theorem logical_L (s : ByteArray) (w : World) (hs : s.size ≤ maxLen) (hok : checkN s.data.toList = 0) :
    Calls Tryz.prog 50 #[.string s] w fun e w' => e = .returned (.tuple #[.string (logB s), .int .i64 0]) ∧ Below w.heap.size w w' := by
  have := logical_any s w hs
  rw [hok] at this
  exact this
theorem chars_L (s : ByteArray) (w : World) (hs : s.size ≤ maxLen) (hok : checkN s.data.toList = 0) :
    Calls Tryz.prog 51 #[.string s] w fun e w' => (∃ a cap, e = .returned (.tuple #[.slice a (charsOf s.data.toList).length cap, .int .i64 0]) ∧ w'.ownsRow w.heap.size 81 3 (.slice a (charsOf s.data.toList).length cap) (charsOf s.data.toList).length (charCells (charsOf s.data.toList))) ∧ Below w.heap.size w w' := by
  have := chars_any s w hs
  rw [hok] at this
  refine this.mono ?_
  rintro e w' ⟨⟨v, rfl, hr⟩, hb⟩
  obtain ⟨a, cap, rfl⟩ := row_shape hr
  exact ⟨⟨a, cap, rfl, hr⟩, hb⟩

theorem yd_in {L : ByteArray} (x : Yt L) (h : x.1.er = 0) : x.1.a < x.1.e ∧ x.1.e ≤ L.size := by
  obtain ⟨x, hm⟩ := x
  simp only at h ⊢
  rw [ydAll_eq] at hm
  rcases List.mem_append.1 hm with h1 | h1
  · obtain ⟨t, ht, he⟩ := List.mem_map.1 h1
    have hw := toks_within (l := L.data.toList) _ 0 0 (Nat.le_refl _) (Nat.zero_le _) t ht
    rw [← he]
    exact ⟨hw.2.1, hw.2.2.1⟩
  · split at h1
    · simp at h1
    · rename_i h2
      have : x = errY (toks L.data.toList 0 0).2 := by simpa using h1
      rw [this] at h
      exact absurd h h2
/-- The tokens that have been handed over, with their places in the text. -/
def srcP {L : ByteArray} (cs : List Part) (pre : List (Yt L)) : List Yd := (ydP pre).map (srcY cs)
theorem srcP_snoc {L : ByteArray} (cs : List Part) (pre : List (Yt L)) (x : Yt L) : ydCells (srcP cs (pre ++ [x])) = ydCells (srcP cs pre) ++ ydCell (srcY cs x.1) := by
  unfold srcP
  rw [ydP_snoc, List.map_append, List.map_singleton, ydCells_snoc]
theorem charCells_at {ps : List Part} {k : Nat} {p : Part} (h : ps[k]? = some p) (j : Nat) (hj : j < 3) : (charCells ps)[3 * k + j]? = (charCell p)[j]? := by
  induction ps generalizing k with
  | nil => simp at h
  | cons q ps ih =>
    have hc : charCells (q :: ps) = charCell q ++ charCells ps := by simp [charCells]
    cases k with
    | zero =>
      simp only [List.getElem?_cons_zero, Option.some.injEq] at h
      subst h
      rw [hc, List.getElem?_append_left (by simp [charCell]; omega)]
      simp
    | succ k =>
      simp only [List.getElem?_cons_succ] at h
      rw [hc, List.getElem?_append_right (by simp [charCell]; omega)]
      have : 3 * (k + 1) + j - (charCell q).length = 3 * k + j := by simp [charCell]; omega
      rw [this]
      exact ih h
theorem chAt_get {cs : List Part} {k : Nat} (h : k < cs.length) : cs[k]? = some (chAt cs k) := by
  unfold chAt
  rw [List.getD_eq_getElem?_getD, List.getElem?_eq_getElem h]; rfl
theorem charsOf_le (l : List UInt8) : (charsOf l).length ≤ l.length := by
  unfold charsOf
  split
  · have h1 := chs_length (parts l)
    have h2 := partsFrom_length (l := l) _ 0 rfl
    unfold parts at h1 ⊢
    omega
  · simp
theorem charsOf_bound {l : List UInt8} (hl : l.length ≤ 65536) : ∀ p ∈ charsOf l, p.at' + p.n ≤ 65536 := by
  intro p hp
  unfold charsOf at hp
  split at hp
  · exact partsFrom_bound hl 0 p ((List.mem_filter.1 hp).1)
  · simp at hp
/-- The three cells of a character of a row. -/
theorem char_cells {w W : World} {g : Nat} {cs : List Part} {k : Nat} (hk : k < cs.length) (hc : ∀ j u, (charCells cs)[j]? = some u → w.cell? ⟨g, j, none⟩ = some u) (hg : ∀ o, W.cell? ⟨g, o, none⟩ = w.cell? ⟨g, o, none⟩) :
    W.cell? ⟨g, k * 3, none⟩ = some (.int .u8 (chAt cs k).b.toNat) ∧ W.cell? ⟨g, k * 3 + 1, none⟩ = some (.int .i64 (chAt cs k).at') ∧ W.cell? ⟨g, k * 3 + 2, none⟩ = some (.int .i64 (chAt cs k).n) := by
  have h := chAt_get hk
  rw [Nat.mul_comm k 3]
  rw [hg, hg, hg]
  exact ⟨hc _ _ (charCells_at h 0 (by decide)), hc _ _ (charCells_at h 1 (by decide)), hc _ _ (charCells_at h 2 (by decide))⟩
/-- An operation that only reads, taken ahead of the others; the slot that it writes is told. -/
theorem take_at {P : Program} {md : Region.Mode} {ops : Array Oper} {Q : Exit → Act → World → Prop} {S : World → Prop} {i d : Nat} {oi : Oper} {v : Value} {fuel : Nat} {listed : Array Bool} {tm : Array Value} {df : List Deferred} {w : World} (hi : ops[i]? = some oi) (hd : oi.dst = some d)
    (hs : Region.noSelect ops = true) (hf : Region.free md ops listed i = true) (hr : (Region.ready md ops listed).contains i = true)
    (hQ : ∀ c a w, Q (.panic c) (a.put oi.dst v) w → Q (.panic c) a w) (hy : YieldsIf P ops S oi v { tmps := tm, defers := df }) (hS : S w)
    (h : wpAnyH P md ops Q S fuel (listed.setIfInBounds i true) { tmps := tm.setIfInBounds d v, defers := df } w) : wpAnyH P md ops Q S (fuel + 1) listed { tmps := tm, defers := df } w := by
  refine wpAnyH_take hi hs hf hr hQ hy hS ?_
  rw [hd]
  exact h

def erAll {L : ByteArray} (pre : List (Yt L)) : Prop := ∀ p ∈ pre, p.1.er = 0
theorem erAll_snoc {L : ByteArray} {pre : List (Yt L)} {x : Yt L} (h : erAll pre) (hx : x.1.er = 0) : erAll (pre ++ [x]) := by
  intro p hp
  rcases List.mem_append.1 hp with h' | h'
  · exact h p h'
  · obtain rfl : p = x := by simpa using h'
    exact hx
def ErrF {L : ByteArray} (n : Nat) (pre : List (Yt L)) : Prop := ∃ q x, pre = q ++ [x] ∧ x.1.er ≠ 0 ∧ erAll q ∧ n = x.1.er

theorem scanErr_ok {s : ByteArray} (h : checkN s.data.toList = 0) : scanErr s = ((toks (logB s).data.toList 0 0).2 : Int) := by
  unfold scanErr
  rw [if_pos h, logB_list]
theorem row_base {w : World} {b b' n : Nat} {e : TypeId} {size : Nat} {v : Value} {xs : List Value} (hb : b' ≤ b) (h : w.ownsRow b e size v n xs) : w.ownsRow b' e size v n xs := by
  refine ⟨h.1, ?_⟩
  rcases h.2 with h1 | ⟨g, cap, cur, h1, h2, h3⟩
  · exact .inl h1
  · exact .inr ⟨g, cap, cur, h1, Nat.le_trans hb h2, h3⟩

set_option maxRecDepth 100000 in
set_option maxHeartbeats 4000000 in
theorem scan_ok (s : ByteArray) (w : World) (hs : s.size ≤ maxLen) (hle : s.size ≤ 65536) (hok : checkN s.data.toList = 0) (hL : LibVar w) :
    Calls Tryz.prog 32 #[.string s] w fun e w' => (∃ v, e = .returned (.tuple #[v, .int .i64 (scanErr s)]) ∧ w'.ownsRow w.heap.size 83 5 v (scanOf s).length (ydCells (scanOf s))) ∧ Below w.heap.size w w' := by
  obtain ⟨i0, hi, hz0, hz1, hz2⟩ := info_parts infoTok
  have CL := fun w => logical_L s w hs hok
  have CC := fun w => chars_L s w hs hok
  have HOK := Lib.hid hok
  have hLs := logB_size s
  have hcle := charsOf_le s.data.toList
  have hcb := charsOf_bound (l := s.data.toList) hle
  rw [size_list] at hcle
  clear hok
  obtain ⟨cs, hcs⟩ : ∃ cs, charsOf s.data.toList = cs := ⟨_, rfl⟩
  obtain ⟨L, hLL⟩ : ∃ L, logB s = L := ⟨_, rfl⟩
  rw [hLL] at CL
  rw [hcs] at CC
  rw [hLL, hcs] at hLs
  rw [hcs] at hcle hcb
  have HCS := Lib.hid hcs
  have HLL := Lib.hid hLL
  clear hcs hLL
  refine (callsIn_wide (n := 20)).1 ?_
  refine callsIn_of_wp_marks Tryz.func32 rfl trivial ?_ rfl
  simp only [Tryz.ntmps32, List.size_toArray, List.length_cons, List.length_nil, Nat.reduceAdd, Nat.reduceSub, Array.replicate_succ, Array.replicate_zero, List.push_toArray, List.append_toArray, List.nil_append, List.cons_append]
  gi_wp2
  refine ⟨trivial, (callsIn_wide.2 (CL _)).mono ?_⟩
  rintro e w1 ⟨rfl, hb1⟩
  gi_wp2
  refine ⟨trivial, (callsIn_wide.2 (CC _)).mono ?_⟩
  rintro e w2 ⟨⟨ca, ccap, rfl, hcr⟩, hb2⟩
  gi_wp2
  refine ⟨trivial, (callsIn_wide.2 (tokens_any _ _)).mono ?_⟩
  rintro e w' ⟨rfl, rfl⟩
  gi_wp2
  have hlen := yts_len L
  have hG := libVar_lt hL
  have hsz1 : w.heap.size + 2 ≤ w1.heap.size := by have := hb1.size; simpa using this
  have hsz2 := hb2.size
  have c2 : Boxed w2 w.heap.size 44 (.slice none 0 0) := (hb2.block _ (by omega)).trans ((hb1.block w.heap.size (by simp; omega)).trans (((Boxed.new w 44 (.slice none 0 0)).alloc _)))
  have c3 : Boxed w2 (w.heap.size + 1) 28 (.int .i64 0) := (hb2.block _ (by omega)).trans ((hb1.block (w.heap.size + 1) (by simp)).trans (by have := Boxed.new (w.alloc (.cells #[.slice none 0 0] 44)) 28 (.int .i64 0); rw [World.size_alloc] at this; exact this))
  have hBw2 : Below w.heap.size w w2 := ((below2 w _ _).trans (hb1.mono (by simp; omega))).trans (hb2.mono (by omega))
  have hL2 := libVar_below hBw2 hL
  have bC := ((Boxed.new w2 77 (.slice ca cs.length ccap)).alloc (.cells #[.slice none 0 0] 44)).alloc (.cells #[.string L] 9)
  have bL := (Boxed.new (w2.alloc (.cells #[.slice ca cs.length ccap] 77)) 44 (.slice none 0 0)).alloc (.cells #[.string L] 9)
  have bN := Boxed.new ((w2.alloc (.cells #[.slice ca cs.length ccap] 77)).alloc (.cells #[.slice none 0 0] 44)) 9 (.string L)
  simp only [World.size_alloc] at bL bN
  have hB0 := below3 w2 (.cells #[.slice ca cs.length ccap] 77) (.cells #[.slice none 0 0] 44) (.cells #[.string L] 9)
  have hsz : (((w2.alloc (.cells #[.slice ca cs.length ccap] 77)).alloc (.cells #[.slice none 0 0] 44)).alloc (.cells #[.string L] 9)).heap.size = w2.heap.size + 3 := by simp
  obtain ⟨W0, hW0⟩ : ∃ W0, ((w2.alloc (.cells #[.slice ca cs.length ccap] 77)).alloc (.cells #[.slice none 0 0] 44)).alloc (.cells #[.string L] 9) = W0 := ⟨_, rfl⟩
  rw [hW0] at bC bL bN hB0 hsz ⊢
  clear hW0
  have hE0 : Env (w2.heap.size + 1) (w2.heap.size + 1 + 1) L W0 := ⟨bN, ⟨_, bL, fun k hk => by simp [Value.ownBlock] at hk⟩, libVar_below hB0 hL2⟩
  refine wpIn_range_paid rfl (by decide) (gf := 72) (lb := #[.pointer (some ⟨w2.heap.size + 1 + 1, 0, none⟩)]) rfl trivial (enters_of Tryz.func72 (by kernel_rfl) rfl)
    (tokens_stops _ (by decide) L (by omega) (w2.heap.size + 1 + 1) (w2.heap.size + 1) W0 hE0) (fun Y W l o o' _ hl ho h => lastKept_put o' hl ho h) (Below.refl _ _) (fun _ => rfl)
    (fun pre W => (((∃ v, Boxed W (w2.heap.size + 1) 44 v ∧ W.ownsRow w2.heap.size 83 5 v pre.length (ydCells (srcP cs pre)) ∧ TrY pre v) ∧ Boxed W w2.heap.size 77 (.slice ca cs.length ccap)) ∧ Below w2.heap.size w2 W) ∧ erAll pre)
    (fun c pre W => (∃ n : Nat, (Boxed W w.heap.size 44 (.slice none 0 0) ∧ Boxed W (w.heap.size + 1) 28 (.int .i64 n)) ∧ ErrF n pre) ∧ Below w.heap.size w W ∧ c = .ret)
    ?ownI ?ownX
    ⟨⟨⟨⟨_, bL, World.ownsRow_nil _ _ _ _, trivial⟩, bC⟩, hB0⟩, fun _ h => by (cases h)⟩
    (fun x Y a' W => ∃ Bx, Y.heap.size ≤ Bx ∧ W.heap[Bx]? = some (.cells #[.int .i64 x.1.k, .string x.1.tx, .int .i64 x.1.a, .int .i64 x.1.e, .bool x.1.sp] 83 (0, 0)) ∧ KeptC Y W ∧ (∃ v0, Boxed Y (w2.heap.size + 1) 44 v0 ∧ ∀ k, v0.ownBlock = some k → k < Y.heap.size) ∧ Y.heap.size < W.heap.size ∧ a' = { tmps := #[.string s, undef, .pointer (some ⟨w.heap.size, 0, none⟩), .pointer (some ⟨w.heap.size + 1, 0, none⟩), .string L, .int .i64 0, .pointer (some ⟨w2.heap.size, 0, none⟩), .pointer (some ⟨w2.heap.size + 1, 0, none⟩), .pointer (some ⟨Bx, 0, none⟩), .int .i64 x.1.er, undef, undef, .tuple #[.string L, .int .i64 0], .string s, .tuple #[.string L, .int .i64 0], .string L, .int .i64 0, .int .i64 0, .bool false, undef, .tuple #[.slice ca cs.length ccap, .int .i64 0], .string s, .tuple #[.slice ca cs.length ccap, .int .i64 0], .slice ca cs.length ccap, .int .i64 0, .int .i64 0, .bool false, undef, .string L, .func (.func 72) #[] #[.pointer (some ⟨w2.heap.size + 1 + 1, 0, none⟩)], .agg #[.int .i64 x.1.k, .string x.1.tx, .int .i64 x.1.a, .int .i64 x.1.e, .bool x.1.sp], .int .i64 x.1.er, undef, undef, undef, undef, undef, undef, undef, undef, undef, undef, undef, undef, undef, undef, undef, undef, undef, undef, undef, undef, undef, undef, undef, undef, undef, undef, undef, undef], defers := [] })
    (fun x Y a' _ X Z row hs' hg hr => by
      obtain ⟨Bx, h0, h1, h2, h4, h5, h3⟩ := hs'
      refine ⟨Bx, h0, (hg.block Bx (Array.getElem?_eq_some_iff.1 h1).1 (fun e => ?_)).trans h1, KeptC.own Y () X Z row h2 hg hr, h4, Nat.lt_of_lt_of_le h5 hg.size, h3⟩
      obtain ⟨_, o, ho, hc⟩ := hr Bx e.symm
      rw [h1] at ho; cases ho; cases hc)
    ?assign ?body ?done ?stop
  case ownI =>
    exact OwnFrom.and (OwnFrom.and (OwnFrom.and (Own.from (holdsRow_own w2.heap.size (w2.heap.size + 1) 44 83 5 (fun pre => pre.length) (fun pre => ydCells (srcP cs pre)) TrY) _) (Own.from (boxed_own _ _ _) _)) (ownFrom_below (Nat.le_refl _) (by omega))) (ownFrom_pure _ _)
  case ownX =>
    intro c pre X Z row h hg hr
    obtain ⟨⟨n, ⟨h1, h2⟩, h3⟩, hb, hc⟩ := h
    have hr' : ∀ r, row = some r → ∃ o : Obj, X.heap[r]? = some o ∧ o.isCells = false := fun r e => (hr r e).2
    exact ⟨⟨n, ⟨boxed_own _ _ (fun (_ : Unit) => Value.slice none 0 0) () X Z row h1 hg hr', boxed_own _ _ (fun (_ : Unit) => Value.int .i64 n) () X Z row h2 hg hr'⟩, h3⟩, (ownFrom_below (β := Unit) (Nat.le_refl _) (by omega)) () X Z row hb hg hr, hc⟩
  case assign =>
    rintro l pre x Y K ⟨⟨⟨⟨v, bL1, hrow, _⟩, bC1⟩, hB1⟩, hp⟩ hK
    unfold encY
    gi_wp2
    exact hK _ _ ((KeepsOthers.alloc _ _).from _) ⟨⟨⟨⟨v, bL1.alloc _, hrow.alloc _, trivial⟩, bC1.alloc _⟩, hB1.alloc hB1.size _⟩, hp⟩ ⟨Y.heap.size, Nat.le_refl _, World.alloc_heap_new _ _, KeptC.of_below (below1 _ _), ⟨v, bL1, fun k hk => (hrow.lt k hk).2⟩, by simp, rfl⟩
  case done =>
    rintro D ys W hD hys ⟨⟨⟨⟨v, bL1, hrow, _⟩, bC1⟩, hB1⟩, hp⟩ hK
    have hc := bL1.cell
    have b2 : Boxed W w.heap.size 44 (.slice none 0 0) := (hB1.block _ (by omega)).trans c2
    have b3 : Boxed W (w.heap.size + 1) 28 (.int .i64 0) := (hB1.block _ (by omega)).trans c3
    have e2 := b2.cell
    have e3 := b3.cell
    have f2 := b2.frozen
    have f3 := b3.frozen
    have HD := Lib.hid (all_done hys hp)
    have hyl : Hid (ydP ys = toksY L → scanOf s = srcP cs ys) := Lib.hid (fun h => by
      have h1 := (all_done hys hp).2
      rw [← HLL.out] at h1
      have h2 : toksY (logB s) = ydP ys := by rw [HLL.out]; exact h.symm
      unfold scanOf srcP
      rw [scanErr_ok HOK.out, h1, HCS.out, h2]; rfl)
    clear hys
    obtain ⟨a, cap, rfl⟩ := row_shape hrow
    gi_wp2
    obtain ⟨g2, g3⟩ := set2_cells b2 b3 (by omega) (.slice a ys.length cap) (.int .i64 0)
    have hK2 : ((W.setCell ⟨w.heap.size, 0, none⟩ (.slice a ys.length cap)).setCell ⟨w.heap.size + 1, 0, none⟩ (.int .i64 0)).heap[D]? = some (.deferred (some [])) := (Below.heap_setCell _ _ _ _ (by simp only; omega)).trans ((Below.heap_setCell _ _ _ _ (by simp only; omega)).trans hK)
    refine ⟨by simp, .inl ⟨_, _, rfl, run_takeDeferred hK2, ?_⟩⟩
    refine ⟨_, results_scan _ w.heap.size (w.heap.size + 1) _ _ _ rfl rfl ((World.cell?_of_block (a := ⟨w.heap.size, 0, none⟩) (World.putObj_heap_other (by simp only; omega))).trans g2.cell) ((World.cell?_of_block (a := ⟨w.heap.size + 1, 0, none⟩) (World.putObj_heap_other (by simp only; omega))).trans g3.cell), ?_⟩
    refine ⟨⟨_, r2c (by rw [scanErr_ok HOK.out, HLL.out, HD.out.2]; rfl), ?_⟩, ?_⟩
    · rw [hyl.out HD.out.1]
      have hl : (srcP cs ys).length = ys.length := by unfold srcP; rw [List.length_map, ydP_len]
      rw [hl]
      have h1 := row_base (b' := w.heap.size) (by omega) hrow
      refine ownsRow_putObj ?_ _ hK2 rfl
      refine (h1.kept (grownBy_setCell' W w.heap.size _) ?_).kept (grownBy_setCell' _ (w.heap.size + 1) _) ?_
      all_goals
        cases ho : (Value.slice a ys.length cap).ownBlock with
        | none => exact .inl rfl
        | some k => exact .inr (fun e => by have := (hrow.lt k ho).1; have := Option.some.inj e; omega)
    · have hB : Below w.heap.size w W := hBw2.trans (hB1.mono (by omega))
      have hB2 := (hB.setCell (p := ⟨w.heap.size, 0, none⟩) (Nat.le_refl _) (.slice a ys.length cap)).setCell (p := ⟨w.heap.size + 1, 0, none⟩) (by simp) (.int .i64 0)
      exact hB2.trans (belowK_b (w := w) (Nat.le_refl _) _ D _ _ (by omega) hK2 rfl rfl)
  case stop =>
    rintro D c pre W hD hpre ⟨⟨n, ⟨b2, b3⟩, q, x, rfl, hxe, hq, rfl⟩, hB1, rfl⟩ hK
    have HE : Hid (scanErr s = x.1.er) := Lib.hid (by
      have h1 := (pre_err hpre hq hxe).2
      rw [scanErr_ok HOK.out, HLL.out, h1])
    gi_wp2
    refine ⟨by simp, .inl ⟨_, _, rfl, run_takeDeferred hK, ?_⟩⟩
    refine ⟨_, results_scan _ w.heap.size (w.heap.size + 1) _ _ _ rfl rfl ((World.cell?_of_block (a := ⟨w.heap.size, 0, none⟩) (World.putObj_heap_other (by simp only; omega))).trans b2.cell) ((World.cell?_of_block (a := ⟨w.heap.size + 1, 0, none⟩) (World.putObj_heap_other (by simp only; omega))).trans b3.cell), ?_⟩
    refine ⟨⟨_, r2c HE.out.symm, ?_⟩, hB1.trans (belowK_b (w := w) (Nat.le_refl _) W D _ _ (by omega) hK rfl rfl)⟩
    have : scanOf s = [] := by unfold scanOf; rw [if_neg (by rw [HE.out]; omega)]
    rw [this]
    exact World.ownsRow_nil _ _ _ _
  case body =>
    rintro l pre x Y a' W hl ⟨r, hr⟩ ⟨⟨⟨⟨v, bL1, hrow, _⟩, bC1⟩, hB1⟩, hp⟩ ⟨Bx, hBx, bX, hKC, ⟨v0, hv0, hv0b⟩, hYW, rfl⟩ hlt
    obtain rfl : v0 = v := by
      have h1 := hKC.2 _ _ _ _ hv0
      rw [show W.heap[w2.heap.size + 1]? = _ from bL1] at h1
      simp only [Option.some.injEq, Obj.cells.injEq] at h1
      simpa using h1.1.symm
    have d0 : W.cell? ⟨Bx, 0, none⟩ = some (.int .i64 x.1.k) := by rw [Lib.cell_of_heap bX]; rfl
    have d1 : W.cell? ⟨Bx, 1, none⟩ = some (.string x.1.tx) := by rw [Lib.cell_of_heap bX]; rfl
    have d2 : W.cell? ⟨Bx, 2, none⟩ = some (.int .i64 x.1.a) := by rw [Lib.cell_of_heap bX]; rfl
    have d3 : W.cell? ⟨Bx, 3, none⟩ = some (.int .i64 x.1.e) := by rw [Lib.cell_of_heap bX]; rfl
    have d4 : W.cell? ⟨Bx, 4, none⟩ = some (.bool x.1.sp) := by rw [Lib.cell_of_heap bX]; rfl
    have hc := bL1.cell
    have hcC := bC1.cell
    by_cases her : x.1.er = 0
    · obtain ⟨hae, hel⟩ := yd_in x her
      obtain ⟨g, rfl, hgl, hcell⟩ := row_pos (by omega) hcr
      have hkg : ∀ o, W.cell? ⟨g, o, none⟩ = w2.cell? ⟨g, o, none⟩ := fun o => hB1.cell (p := ⟨g, o, none⟩) hgl
      obtain ⟨p0, p1, p2⟩ := char_cells (k := x.1.a) (by omega) hcell hkg
      obtain ⟨q0, q1, q2⟩ := char_cells (k := x.1.e - 1) (by omega) hcell hkg
      obtain ⟨p, hpd⟩ : ∃ p, chAt cs x.1.a = p := ⟨_, rfl⟩
      obtain ⟨q, hqd⟩ : ∃ q, chAt cs (x.1.e - 1) = q := ⟨_, rfl⟩
      rw [hpd] at p0 p1 p2
      rw [hqd] at q0 q1 q2
      have hqb : q.at' + q.n ≤ 65536 := by
        rw [← hqd]
        exact hcb _ (List.mem_of_getElem? (chAt_get (by omega)))
      have HPD := Lib.hid hpd
      have HQD := Lib.hid hqd
      clear hpd hqd hkg
      gi_wp2
      have hmx : Tryz.prog.follows .mixedOrders = true := by kernel_rfl
      have hS0 : (fun W' : World => (W'.heap[Bx]? = some (.cells #[.int .i64 x.1.k, .string x.1.tx, .int .i64 x.1.a, .int .i64 x.1.e, .bool x.1.sp] 83 (0, 0)) ∧ W'.heap[w2.heap.size]? = some (.cells #[.slice (some ⟨g, 0, none⟩) cs.length ccap] 77 (0, 0))) ∧ ∀ o, W'.cell? ⟨g, o, none⟩ = W.cell? ⟨g, o, none⟩) W.drew := ⟨⟨bX, bC1⟩, fun _ => rfl⟩
      refine wpIn_mono (Q := fun (e : Exit) (a' : Act) (W' : World) => e = .normal ∧ ∃ P R : Nat, (W.heap.size ≤ P ∧ W.heap.size ≤ R ∧ P ≠ R) ∧ W'.heap[P]? = some (.cells #[.int .u8 p.b.toNat, .int .i64 p.at', .int .i64 p.n] 81 (0, 0)) ∧ W'.heap[R]? = some (.cells #[.int .u8 q.b.toNat, .int .i64 q.at', .int .i64 q.n] 81 (0, 0)) ∧ Below W.heap.size W W' ∧ a' = { tmps := #[.string s, undef, .pointer (some ⟨w.heap.size, 0, none⟩), .pointer (some ⟨w.heap.size + 1, 0, none⟩), .string L, .int .i64 0, .pointer (some ⟨w2.heap.size, 0, none⟩), .pointer (some ⟨w2.heap.size + 1, 0, none⟩), .pointer (some ⟨Bx, 0, none⟩), .int .i64 0, .pointer (some ⟨P, 0, none⟩), .pointer (some ⟨R, 0, none⟩), .tuple #[.string L, .int .i64 0], .string s, .tuple #[.string L, .int .i64 0], .string L, .int .i64 0, .int .i64 0, .bool false, undef, .tuple #[.slice (some ⟨g, 0, none⟩) cs.length ccap, .int .i64 0], .string s, .tuple #[.slice (some ⟨g, 0, none⟩) cs.length ccap, .int .i64 0], .slice (some ⟨g, 0, none⟩) cs.length ccap, .int .i64 0, .int .i64 0, .bool false, undef, .string L, .func (.func 72) #[] #[.pointer (some ⟨w2.heap.size + 1 + 1, 0, none⟩)], .agg #[.int .i64 x.1.k, .string x.1.tx, .int .i64 x.1.a, .int .i64 x.1.e, .bool x.1.sp], .int .i64 0, .int .i64 0, .bool false, undef, .slice (some ⟨g, 0, none⟩) cs.length ccap, .pointer (some ⟨Bx, 2, none⟩), .int .i64 x.1.a, .pointer (some ⟨g, x.1.a * 3, none⟩), .agg #[.int .u8 p.b.toNat, .int .i64 p.at', .int .i64 p.n], .slice (some ⟨g, 0, none⟩) cs.length ccap, .pointer (some ⟨Bx, 3, none⟩), .int .i64 x.1.e, .int .i64 ((x.1.e : Int) - 1), .pointer (some ⟨g, (x.1.e - 1) * 3, none⟩), .agg #[.int .u8 q.b.toNat, .int .i64 q.at', .int .i64 q.n], undef, undef, undef, undef, undef, undef, undef, undef, undef, undef, undef, undef, undef, undef], defers := [] }) ?reg13 ?cont13
      case reg13 =>
        refine region_round (l := l) (fun W' : World => (W'.heap[Bx]? = some (.cells #[.int .i64 x.1.k, .string x.1.tx, .int .i64 x.1.a, .int .i64 x.1.e, .bool x.1.sp] 83 (0, 0)) ∧ W'.heap[w2.heap.size]? = some (.cells #[.slice (some ⟨g, 0, none⟩) cs.length ccap] 77 (0, 0))) ∧ ∀ o, W'.cell? ⟨g, o, none⟩ = W.cell? ⟨g, o, none⟩) hmx (by kernel_rfl) (fun ⟨_, _, h⟩ => by cases h.1) ?_
        refine take_at (i := 0) (d := 35) (v := .slice (some ⟨g, 0, none⟩) cs.length ccap) rfl rfl (by kernel_rfl) (by kernel_rfl) (by kernel_rfl) (fun _ _ _ h => by cases h.1) (Or.inl ⟨by rfl, ?_⟩) hS0 ?_
        · rintro w' ⟨⟨hS1, hS2⟩, hS3⟩
          have e1 : w'.cell? ⟨w2.heap.size, 0, none⟩ = _ := (show Boxed w' w2.heap.size 77 _ from hS2).cell
          go_simp
        simp only [List.setIfInBounds_toArray, List.set_cons_zero, List.set_cons_succ]
        refine take_at (i := 1) (d := 36) (v := .pointer (some ⟨Bx, 2, none⟩)) rfl rfl (by kernel_rfl) (by kernel_rfl) (by kernel_rfl) (fun _ _ _ h => by cases h.1) (Or.inl ⟨by rfl, ?_⟩) hS0 ?_
        · rintro w' ⟨⟨hS1, hS2⟩, hS3⟩
          go_simp
        simp only [List.setIfInBounds_toArray, List.set_cons_zero, List.set_cons_succ]
        refine take_at (i := 2) (d := 37) (v := .int .i64 x.1.a) rfl rfl (by kernel_rfl) (by kernel_rfl) (by kernel_rfl) (fun _ _ _ h => by cases h.1) (Or.inl ⟨by rfl, ?_⟩) hS0 ?_
        · rintro w' ⟨⟨hS1, hS2⟩, hS3⟩
          have e2 : w'.cell? ⟨Bx, 2, none⟩ = some (.int .i64 x.1.a) := by rw [Lib.cell_of_heap hS1]; rfl
          go_simp
        simp only [List.setIfInBounds_toArray, List.set_cons_zero, List.set_cons_succ]
        refine take_at (i := 3) (d := 38) (v := .pointer (some ⟨g, x.1.a * 3, none⟩)) rfl rfl (by kernel_rfl) (by kernel_rfl) (by kernel_rfl) (fun _ _ _ h => by cases h.1) (Or.inl ⟨by rfl, ?_⟩) hS0 ?_
        · rintro w' ⟨⟨hS1, hS2⟩, hS3⟩
          go_simp
          intro hh
          exfalso
          omega
        simp only [List.setIfInBounds_toArray, List.set_cons_zero, List.set_cons_succ]
        refine take_at (i := 4) (d := 39) (v := .agg #[.int .u8 p.b.toNat, .int .i64 p.at', .int .i64 p.n]) rfl rfl (by kernel_rfl) (by kernel_rfl) (by kernel_rfl) (fun _ _ _ h => by cases h.1) (Or.inl ⟨by rfl, ?_⟩) hS0 ?_
        · rintro w' ⟨⟨hS1, hS2⟩, hS3⟩
          have e0 := (hS3 _).trans p0
          have e1 := (hS3 _).trans p1
          have e2 := (hS3 _).trans p2
          go_simp
        simp only [List.setIfInBounds_toArray, List.set_cons_zero, List.set_cons_succ]
        refine take_at (i := 5) (d := 40) (v := .slice (some ⟨g, 0, none⟩) cs.length ccap) rfl rfl (by kernel_rfl) (by kernel_rfl) (by kernel_rfl) (fun _ _ _ h => by cases h.1) (Or.inl ⟨by rfl, ?_⟩) hS0 ?_
        · rintro w' ⟨⟨hS1, hS2⟩, hS3⟩
          have e1 : w'.cell? ⟨w2.heap.size, 0, none⟩ = _ := (show Boxed w' w2.heap.size 77 _ from hS2).cell
          go_simp
        simp only [List.setIfInBounds_toArray, List.set_cons_zero, List.set_cons_succ]
        refine take_at (i := 6) (d := 41) (v := .pointer (some ⟨Bx, 3, none⟩)) rfl rfl (by kernel_rfl) (by kernel_rfl) (by kernel_rfl) (fun _ _ _ h => by cases h.1) (Or.inl ⟨by rfl, ?_⟩) hS0 ?_
        · rintro w' ⟨⟨hS1, hS2⟩, hS3⟩
          go_simp
        simp only [List.setIfInBounds_toArray, List.set_cons_zero, List.set_cons_succ]
        refine take_at (i := 7) (d := 42) (v := .int .i64 x.1.e) rfl rfl (by kernel_rfl) (by kernel_rfl) (by kernel_rfl) (fun _ _ _ h => by cases h.1) (Or.inl ⟨by rfl, ?_⟩) hS0 ?_
        · rintro w' ⟨⟨hS1, hS2⟩, hS3⟩
          have e2 : w'.cell? ⟨Bx, 3, none⟩ = some (.int .i64 x.1.e) := by rw [Lib.cell_of_heap hS1]; rfl
          go_simp
        simp only [List.setIfInBounds_toArray, List.set_cons_zero, List.set_cons_succ]
        refine take_at (i := 8) (d := 43) (v := .int .i64 ((x.1.e : Int) - 1)) rfl rfl (by kernel_rfl) (by kernel_rfl) (by kernel_rfl) (fun _ _ _ h => by cases h.1) (Or.inl ⟨by rfl, ?_⟩) hS0 ?_
        · rintro w' ⟨⟨hS1, hS2⟩, hS3⟩
          go_simp
          exact IntWalk.i64_in _ (by omega)
        simp only [List.setIfInBounds_toArray, List.set_cons_zero, List.set_cons_succ]
        refine take_at (i := 9) (d := 44) (v := .pointer (some ⟨g, (x.1.e - 1) * 3, none⟩)) rfl rfl (by kernel_rfl) (by kernel_rfl) (by kernel_rfl) (fun _ _ _ h => by cases h.1) (Or.inl ⟨by rfl, ?_⟩) hS0 ?_
        · rintro w' ⟨⟨hS1, hS2⟩, hS3⟩
          have en : ((x.1.e : Int) - 1).toNat = x.1.e - 1 := by omega
          go_simp
          intro hh
          exfalso
          have := hh (by omega)
          omega
        simp only [List.setIfInBounds_toArray, List.set_cons_zero, List.set_cons_succ]
        refine take_at (i := 10) (d := 45) (v := .agg #[.int .u8 q.b.toNat, .int .i64 q.at', .int .i64 q.n]) rfl rfl (by kernel_rfl) (by kernel_rfl) (by kernel_rfl) (fun _ _ _ h => by cases h.1) (Or.inl ⟨by rfl, ?_⟩) hS0 ?_
        · rintro w' ⟨⟨hS1, hS2⟩, hS3⟩
          have e0 := (hS3 _).trans q0
          have e1 := (hS3 _).trans q1
          have e2 := (hS3 _).trans q2
          go_simp
        simp only [List.setIfInBounds_toArray, List.set_cons_zero, List.set_cons_succ]
        have hSb : ∀ W' : World, Below W.heap.size W W' → (fun W' : World => (W'.heap[Bx]? = some (.cells #[.int .i64 x.1.k, .string x.1.tx, .int .i64 x.1.a, .int .i64 x.1.e, .bool x.1.sp] 83 (0, 0)) ∧ W'.heap[w2.heap.size]? = some (.cells #[.slice (some ⟨g, 0, none⟩) cs.length ccap] 77 (0, 0))) ∧ ∀ o, W'.cell? ⟨g, o, none⟩ = W.cell? ⟨g, o, none⟩) W' := fun W' hW' => ⟨⟨(hW'.block Bx (Array.getElem?_eq_some_iff.1 bX).1).trans bX, (hW'.block _ bC1.lt).trans bC1⟩, fun o => hW'.cell (p := ⟨g, o, none⟩) (Nat.lt_of_lt_of_le hgl hB1.size)⟩
        refine wpAnyH_ready (rs := [11, 12]) (by kernel_rfl) (by simp) ?_
        refine AllReadyH.cons rfl (fun K hK => ?_) (AllReadyH.cons rfl (fun K hK => ?_) AllReadyH.nil)
        · go_simp
          refine hK.out _ _ (hSb _ (((Below.refl _ _).alloc (Nat.le_refl _) _).drew)) (fun _ => ?_)
          clear hK K
          refine wpAnyH_ready (rs := [12]) (by kernel_rfl) (by simp) ?_
          refine AllReadyH.cons rfl (fun K hK => ?_) AllReadyH.nil
          go_simp
          refine hK.out _ _ (hSb _ ((((Below.refl _ _).alloc (Nat.le_refl _) _).alloc (by simp) _).drew)) (fun _ => ?_)
          clear hK K
          refine wpAnyH_ready (rs := [13]) (by kernel_rfl) (by simp) ?_
          refine AllReadyH.cons rfl (fun K hK => ?_) AllReadyH.nil
          go_simp
          refine hK.out _ _ (hSb _ ((((Below.refl _ _).alloc (Nat.le_refl _) _).alloc (by simp) _).drew)) (fun _ => ?_)
          clear hK K
          refine wpAnyH_ready (rs := [14]) (by kernel_rfl) (by simp) ?_
          refine AllReadyH.cons rfl (fun K hK => ?_) AllReadyH.nil
          go_simp
          refine hK.out _ _ (hSb _ ((((Below.refl _ _).alloc (Nat.le_refl _) _).alloc (by simp) _).drew)) (fun _ => ?_)
          clear hK K
          refine wpAnyH_done (by kernel_rfl) ?_ _
          have h1 := World.alloc_heap_new W (.cells #[.int .u8 p.b.toNat, .int .i64 p.at', .int .i64 p.n] 81)
          have h2 := World.alloc_heap_new (W.alloc (.cells #[.int .u8 p.b.toNat, .int .i64 p.at', .int .i64 p.n] 81)) (.cells #[.int .u8 q.b.toNat, .int .i64 q.at', .int .i64 q.n] 81)
          rw [World.size_alloc] at h2
          exact ⟨rfl, W.heap.size, W.heap.size + 1, ⟨Nat.le_refl _, by omega, by omega⟩, (Below.heap_alloc _ _ _ (by simp)).trans h1, h2, ((Below.refl _ _).alloc (Nat.le_refl _) _).alloc (by simp) _ |>.drew, rfl⟩
        · go_simp
          refine hK.out _ _ (hSb _ (((Below.refl _ _).alloc (Nat.le_refl _) _).drew)) (fun _ => ?_)
          clear hK K
          refine wpAnyH_ready (rs := [11]) (by kernel_rfl) (by simp) ?_
          refine AllReadyH.cons rfl (fun K hK => ?_) AllReadyH.nil
          go_simp
          refine hK.out _ _ (hSb _ ((((Below.refl _ _).alloc (Nat.le_refl _) _).alloc (by simp) _).drew)) (fun _ => ?_)
          clear hK K
          refine wpAnyH_ready (rs := [13]) (by kernel_rfl) (by simp) ?_
          refine AllReadyH.cons rfl (fun K hK => ?_) AllReadyH.nil
          go_simp
          refine hK.out _ _ (hSb _ ((((Below.refl _ _).alloc (Nat.le_refl _) _).alloc (by simp) _).drew)) (fun _ => ?_)
          clear hK K
          refine wpAnyH_ready (rs := [14]) (by kernel_rfl) (by simp) ?_
          refine AllReadyH.cons rfl (fun K hK => ?_) AllReadyH.nil
          go_simp
          refine hK.out _ _ (hSb _ ((((Below.refl _ _).alloc (Nat.le_refl _) _).alloc (by simp) _).drew)) (fun _ => ?_)
          clear hK K
          refine wpAnyH_done (by kernel_rfl) ?_ _
          have h1 := World.alloc_heap_new W (.cells #[.int .u8 q.b.toNat, .int .i64 q.at', .int .i64 q.n] 81)
          have h2 := World.alloc_heap_new (W.alloc (.cells #[.int .u8 q.b.toNat, .int .i64 q.at', .int .i64 q.n] 81)) (.cells #[.int .u8 p.b.toNat, .int .i64 p.at', .int .i64 p.n] 81)
          rw [World.size_alloc] at h2
          exact ⟨rfl, W.heap.size + 1, W.heap.size, ⟨by omega, Nat.le_refl _, by omega⟩, h2, (Below.heap_alloc _ _ _ (by simp)).trans h1, ((Below.refl _ _).alloc (Nat.le_refl _) _).alloc (by simp) _ |>.drew, rfl⟩
      case cont13 =>
        rintro e a' W3 ⟨rfl, P, R, ⟨hP, hR, hPR⟩, bP, bR, hb3, rfl⟩
        clear hS0
        gi_wp2
        have lX3 : Bx < W3.heap.size := Nat.lt_of_lt_of_le (Array.getElem?_eq_some_iff.1 bX).1 hb3.size
        have bX3 := (hb3.block Bx (Array.getElem?_eq_some_iff.1 bX).1).trans bX
        have k2 : W3.cell? ⟨Bx, 2, none⟩ = some (.int .i64 x.1.a) := by rw [Lib.cell_of_heap bX3]; rfl
        have k3 : W3.cell? ⟨Bx, 3, none⟩ = some (.int .i64 x.1.e) := by rw [Lib.cell_of_heap bX3]; rfl
        have z2 : W3.frozen? ⟨Bx, 2, none⟩ = false := by simp [World.frozen?, bX3]
        have z3 : W3.frozen? ⟨Bx, 3, none⟩ = false := by simp [World.frozen?, bX3]
        have hBP : Bx ≠ P := fun e => by rw [e] at bX; have := (Array.getElem?_eq_some_iff.1 bX).1; omega
        have hBR : Bx ≠ R := fun e => by rw [e] at bX; have := (Array.getElem?_eq_some_iff.1 bX).1; omega
        refine wpIn_mono (Q := fun (e : Exit) (a' : Act) (W' : World) => e = .normal ∧ W'.heap[Bx]? = some (.cells #[.int .i64 x.1.k, .string x.1.tx, .int .i64 p.at', .int .i64 ((q.at' : Int) + q.n), .bool x.1.sp] 83 (0, 0)) ∧ W3.grownBy W' (some Bx) ∧ a' = { tmps := #[.string s, undef, .pointer (some ⟨w.heap.size, 0, none⟩), .pointer (some ⟨w.heap.size + 1, 0, none⟩), .string L, .int .i64 0, .pointer (some ⟨w2.heap.size, 0, none⟩), .pointer (some ⟨w2.heap.size + 1, 0, none⟩), .pointer (some ⟨Bx, 0, none⟩), .int .i64 0, .pointer (some ⟨P, 0, none⟩), .pointer (some ⟨R, 0, none⟩), .tuple #[.string L, .int .i64 0], .string s, .tuple #[.string L, .int .i64 0], .string L, .int .i64 0, .int .i64 0, .bool false, undef, .tuple #[.slice (some ⟨g, 0, none⟩) cs.length ccap, .int .i64 0], .string s, .tuple #[.slice (some ⟨g, 0, none⟩) cs.length ccap, .int .i64 0], .slice (some ⟨g, 0, none⟩) cs.length ccap, .int .i64 0, .int .i64 0, .bool false, undef, .string L, .func (.func 72) #[] #[.pointer (some ⟨w2.heap.size + 1 + 1, 0, none⟩)], .agg #[.int .i64 x.1.k, .string x.1.tx, .int .i64 x.1.a, .int .i64 x.1.e, .bool x.1.sp], .int .i64 0, .int .i64 0, .bool false, undef, .slice (some ⟨g, 0, none⟩) cs.length ccap, .pointer (some ⟨Bx, 2, none⟩), .int .i64 x.1.a, .pointer (some ⟨g, x.1.a * 3, none⟩), .agg #[.int .u8 p.b.toNat, .int .i64 p.at', .int .i64 p.n], .slice (some ⟨g, 0, none⟩) cs.length ccap, .pointer (some ⟨Bx, 3, none⟩), .int .i64 x.1.e, .int .i64 ((x.1.e : Int) - 1), .pointer (some ⟨g, (x.1.e - 1) * 3, none⟩), .agg #[.int .u8 q.b.toNat, .int .i64 q.at', .int .i64 q.n], .pointer (some ⟨P, 1, none⟩), .int .i64 p.at', .pointer (some ⟨R, 1, none⟩), .int .i64 q.at', .pointer (some ⟨R, 2, none⟩), .int .i64 q.n, .int .i64 ((q.at' : Int) + q.n), .pointer (some ⟨Bx, 2, none⟩), .pointer (some ⟨Bx, 3, none⟩), undef, undef, undef, undef, undef], defers := [] }) ?reg14 ?cont14
        case reg14 =>
          have hS4 : (fun W' : World => W'.heap[P]? = some (.cells #[.int .u8 p.b.toNat, .int .i64 p.at', .int .i64 p.n] 81 (0, 0)) ∧ W'.heap[R]? = some (.cells #[.int .u8 q.b.toNat, .int .i64 q.at', .int .i64 q.n] 81 (0, 0))) W3.drew := ⟨bP, bR⟩
          have hSc : ∀ (W' : World) (o : Nat) (u : Value), (fun W' : World => W'.heap[P]? = some (.cells #[.int .u8 p.b.toNat, .int .i64 p.at', .int .i64 p.n] 81 (0, 0)) ∧ W'.heap[R]? = some (.cells #[.int .u8 q.b.toNat, .int .i64 q.at', .int .i64 q.n] 81 (0, 0))) W' → (fun W' : World => W'.heap[P]? = some (.cells #[.int .u8 p.b.toNat, .int .i64 p.at', .int .i64 p.n] 81 (0, 0)) ∧ W'.heap[R]? = some (.cells #[.int .u8 q.b.toNat, .int .i64 q.at', .int .i64 q.n] 81 (0, 0))) (W'.setCell ⟨Bx, o, none⟩ u) := fun W' o u h => ⟨(Below.heap_setCell _ _ _ _ (Ne.symm hBP)).trans h.1, (Below.heap_setCell _ _ _ _ (Ne.symm hBR)).trans h.2⟩
          refine region_round (l := l) (fun W' : World => W'.heap[P]? = some (.cells #[.int .u8 p.b.toNat, .int .i64 p.at', .int .i64 p.n] 81 (0, 0)) ∧ W'.heap[R]? = some (.cells #[.int .u8 q.b.toNat, .int .i64 q.at', .int .i64 q.n] 81 (0, 0))) hmx (by kernel_rfl) (fun ⟨_, _, h⟩ => by cases h.1) ?_
          refine take_at (i := 0) (d := 46) (v := .pointer (some ⟨P, 1, none⟩)) rfl rfl (by kernel_rfl) (by kernel_rfl) (by kernel_rfl) (fun _ _ _ h => by cases h.1) (Or.inl ⟨by rfl, ?_⟩) hS4 ?_
          · rintro w' ⟨hS1, hS2⟩
            go_simp
          simp only [List.setIfInBounds_toArray, List.set_cons_zero, List.set_cons_succ]
          refine take_at (i := 1) (d := 47) (v := .int .i64 p.at') rfl rfl (by kernel_rfl) (by kernel_rfl) (by kernel_rfl) (fun _ _ _ h => by cases h.1) (Or.inl ⟨by rfl, ?_⟩) hS4 ?_
          · rintro w' ⟨hS1, hS2⟩
            have e1 : w'.cell? ⟨P, 1, none⟩ = some (.int .i64 p.at') := by rw [Lib.cell_of_heap hS1]; rfl
            go_simp
          simp only [List.setIfInBounds_toArray, List.set_cons_zero, List.set_cons_succ]
          refine take_at (i := 2) (d := 48) (v := .pointer (some ⟨R, 1, none⟩)) rfl rfl (by kernel_rfl) (by kernel_rfl) (by kernel_rfl) (fun _ _ _ h => by cases h.1) (Or.inl ⟨by rfl, ?_⟩) hS4 ?_
          · rintro w' ⟨hS1, hS2⟩
            go_simp
          simp only [List.setIfInBounds_toArray, List.set_cons_zero, List.set_cons_succ]
          refine take_at (i := 3) (d := 49) (v := .int .i64 q.at') rfl rfl (by kernel_rfl) (by kernel_rfl) (by kernel_rfl) (fun _ _ _ h => by cases h.1) (Or.inl ⟨by rfl, ?_⟩) hS4 ?_
          · rintro w' ⟨hS1, hS2⟩
            have e1 : w'.cell? ⟨R, 1, none⟩ = some (.int .i64 q.at') := by rw [Lib.cell_of_heap hS2]; rfl
            go_simp
          simp only [List.setIfInBounds_toArray, List.set_cons_zero, List.set_cons_succ]
          refine take_at (i := 4) (d := 50) (v := .pointer (some ⟨R, 2, none⟩)) rfl rfl (by kernel_rfl) (by kernel_rfl) (by kernel_rfl) (fun _ _ _ h => by cases h.1) (Or.inl ⟨by rfl, ?_⟩) hS4 ?_
          · rintro w' ⟨hS1, hS2⟩
            go_simp
          simp only [List.setIfInBounds_toArray, List.set_cons_zero, List.set_cons_succ]
          refine take_at (i := 5) (d := 51) (v := .int .i64 q.n) rfl rfl (by kernel_rfl) (by kernel_rfl) (by kernel_rfl) (fun _ _ _ h => by cases h.1) (Or.inl ⟨by rfl, ?_⟩) hS4 ?_
          · rintro w' ⟨hS1, hS2⟩
            have e1 : w'.cell? ⟨R, 2, none⟩ = some (.int .i64 q.n) := by rw [Lib.cell_of_heap hS2]; rfl
            go_simp
          simp only [List.setIfInBounds_toArray, List.set_cons_zero, List.set_cons_succ]
          refine take_at (i := 6) (d := 52) (v := .int .i64 ((q.at' : Int) + q.n)) rfl rfl (by kernel_rfl) (by kernel_rfl) (by kernel_rfl) (fun _ _ _ h => by cases h.1) (Or.inl ⟨by rfl, ?_⟩) hS4 ?_
          · rintro w' ⟨hS1, hS2⟩
            go_simp
            exact IntWalk.i64_in _ (by omega)
          simp only [List.setIfInBounds_toArray, List.set_cons_zero, List.set_cons_succ]
          refine take_at (i := 7) (d := 53) (v := .pointer (some ⟨Bx, 2, none⟩)) rfl rfl (by kernel_rfl) (by kernel_rfl) (by kernel_rfl) (fun _ _ _ h => by cases h.1) (Or.inl ⟨by rfl, ?_⟩) hS4 ?_
          · rintro w' ⟨hS1, hS2⟩
            go_simp
          simp only [List.setIfInBounds_toArray, List.set_cons_zero, List.set_cons_succ]
          refine wpAnyH_ready (rs := [8]) (by kernel_rfl) (by simp) ?_
          refine AllReadyH.cons rfl (fun K hK => ?_) AllReadyH.nil
          go_simp
          refine hK.out _ _ (hSc _ _ _ hS4) (fun _ => ?_)
          clear hK K
          refine take_at (i := 9) (d := 54) (v := .pointer (some ⟨Bx, 3, none⟩)) rfl rfl (by kernel_rfl) (by kernel_rfl) (by kernel_rfl) (fun _ _ _ h => by cases h.1) (Or.inl ⟨by rfl, ?_⟩) (hSc _ _ _ hS4) ?_
          · rintro w' ⟨hS1, hS2⟩
            go_simp
          simp only [List.setIfInBounds_toArray, List.set_cons_zero, List.set_cons_succ]
          refine wpAnyH_ready (rs := [10]) (by kernel_rfl) (by simp) ?_
          refine AllReadyH.cons rfl (fun K hK => ?_) AllReadyH.nil
          go_simp
          refine hK.out _ _ (hSc _ _ _ (hSc _ _ _ hS4)) (fun _ => ?_)
          clear hK K
          refine wpAnyH_done (by kernel_rfl) ?_ _
          have s1 := heap_setCell_same W3 Bx 2 _ _ (.int .i64 p.at') bX3
          have s2 := heap_setCell_same _ Bx 3 _ _ (.int .i64 ((q.at' : Int) + q.n)) s1
          exact ⟨rfl, s2, ⟨rfl, rfl, rfl, by simp, fun k _ hne => (Below.heap_setCell _ _ _ _ (fun e => hne (by rw [show k = Bx from e]))).trans (Below.heap_setCell _ _ _ _ (fun e => hne (by rw [show k = Bx from e])))⟩, rfl⟩
        case cont14 =>
          rintro e a' W4 ⟨rfl, bX4, hg4, rfl⟩
          have hkeep : ∀ k c T fz, W.heap[k]? = some (Obj.cells c T fz) → k ≠ Bx → W4.heap[k]? = some (Obj.cells c T fz) := fun k c T fz hk hne => by
            have hl := (Array.getElem?_eq_some_iff.1 hk).1
            exact (hg4.block k (Nat.lt_of_lt_of_le hl hb3.size) (fun e => hne (Option.some.inj e))).trans ((hb3.block k hl).trans hk)
          have hlY := hv0.lt
          have bL4 : Boxed W4 (w2.heap.size + 1) 44 v0 := hkeep _ _ _ _ bL1 (by omega)
          have bC4 : Boxed W4 w2.heap.size 77 (.slice (some ⟨g, 0, none⟩) cs.length ccap) := hkeep _ _ _ _ bC1 (by omega)
          have hrow4 : W4.ownsRow w2.heap.size 83 5 v0 pre.length (ydCells (srcP cs pre)) := (hrow.kept (grownBy_below hb3) (by cases v0.ownBlock <;> simp)).kept hg4 (by
            cases ho : v0.ownBlock with
            | none => exact .inl rfl
            | some k => exact .inr (fun e => by have := hv0b k ho; have := Option.some.inj e; omega))
          have hB4 : Below w2.heap.size w2 W4 := (hB1.trans (hb3.mono hB1.size)).grown hg4 (Nat.le_trans hB1.size hb3.size) (fun k e => by have := Option.some.inj e; omega)
          have hKC4 : KeptC Y W4 := ⟨Nat.le_trans hKC.1 (Nat.le_trans hb3.size hg4.size), fun k c T fz hk => hkeep _ _ _ _ (hKC.2 _ _ _ _ hk) (by have := (Array.getElem?_eq_some_iff.1 hk).1; omega)⟩
          have hKO : KeepsOthers W W4 := ⟨Nat.le_trans hb3.size hg4.size, fun k o hk ho => by
            have hl := (Array.getElem?_eq_some_iff.1 hk).1
            refine (hg4.block k (Nat.lt_of_lt_of_le hl hb3.size) (fun e => ?_)).trans ((hb3.block k hl).trans hk)
            have e2 := Option.some.inj e
            rw [e2, bX] at hk
            cases hk; cases ho⟩
          have d0' : W4.cell? ⟨Bx, 0, none⟩ = some (.int .i64 x.1.k) := by rw [Lib.cell_of_heap bX4]; rfl
          have d1' : W4.cell? ⟨Bx, 1, none⟩ = some (.string x.1.tx) := by rw [Lib.cell_of_heap bX4]; rfl
          have d2' : W4.cell? ⟨Bx, 2, none⟩ = some (.int .i64 p.at') := by rw [Lib.cell_of_heap bX4]; rfl
          have d3' : W4.cell? ⟨Bx, 3, none⟩ = some (.int .i64 ((q.at' : Int) + q.n)) := by rw [Lib.cell_of_heap bX4]; rfl
          have d4' : W4.cell? ⟨Bx, 4, none⟩ = some (.bool x.1.sp) := by rw [Lib.cell_of_heap bX4]; rfl
          have hcL4 := bL4.cell
          clear d0 d1 d2 d3 d4 k2 k3 z2 z3 p0 p1 p2 q0 q1 q2 hc hcC bP bR bX3
          gi_wp2_with (gi_at_builtin; refine wpListIn_append_own _ rfl _ _ 44 rfl w2.heap.size 83 i0 (.agg #[.int .i64 0, .string ⟨#[]⟩, .int .i64 0, .int .i64 0, .bool false]) 5 48 Tryz.underlying44 hi hz0 hz1 hz2 rfl (by decide) _ _ _ rfl (hrow4.alloc _) ⟨W4.heap.size, 0, none⟩ 1 1 [.int .i64 x.1.k, .string x.1.tx, .int .i64 p.at', .int .i64 ((q.at' : Int) + q.n), .bool x.1.sp] rfl rfl (cell5_new _ _ _ _ _ _ _) (by simp [Value.oneCell']) (by unfold maxLen; omega) (by omega) (by have := hB4.size; simp; omega) ?_; intro v' w5 hown' hgrow _; obtain ⟨g', cap', rfl⟩ := ownsRow_succ hown'; obtain ⟨hv1, hv2, hr2, hk2, hb2'⟩ := bL4.appended (by decide) hrow4 hB4.size (Nat.le_succ _) hown' hgrow; have hc1 := hv1.cell; have hf1 := hv1.frozen; have bC5 := box_app bC4 (by decide) hrow4 hgrow; have hLK := lastKept_app (Bn := w2.heap.size + 1 + 1) (by omega) (Nat.le_succ _) hKC4 hv0 hrow4 hown' hgrow)
          have hnews : ydCell (srcY cs x.1) = [.int .i64 x.1.k, .string x.1.tx, .int .i64 p.at', .int .i64 ((q.at' : Int) + q.n), .bool x.1.sp] := by
            unfold ydCell srcY
            rw [HPD.out, HQD.out]
            simp only [Int.natCast_add]
          refine ⟨(hKO.trans hk2).from _, hLK, ⟨⟨⟨⟨_, hv2, ?_, trivial⟩, bC5.other (by omega) _⟩, hB4.trans hb2'⟩, erAll_snoc hp her⟩⟩
          have h := hr2
          rw [List.length_append, List.length_singleton, srcP_snoc, hnews]
          exact h
    · have her0 : 0 < x.1.er := by omega
      have b2 : Boxed W w.heap.size 44 (.slice none 0 0) := (hB1.block _ (by omega)).trans c2
      have b3 : Boxed W (w.heap.size + 1) 28 (.int .i64 0) := (hB1.block _ (by omega)).trans c3
      have e2 := b2.cell
      have e3 := b3.cell
      have f2 := b2.frozen
      have f3 := b3.frozen
      gi_wp2
      obtain ⟨g2, g3⟩ := set2_cells b2 b3 (by omega) (.slice none 0 0) (.int .i64 x.1.er)
      refine ⟨((KeepsOthers.setCell _ _ _).trans (KeepsOthers.setCell _ _ _)).from _, ⟨x.1.er, ⟨g2, g3⟩, pre, x, rfl, her, hp, rfl⟩, ?_, rfl⟩
      have hB : Below w.heap.size w W := hBw2.trans (hB1.mono (by omega))
      exact (hB.setCell (p := ⟨w.heap.size, 0, none⟩) (Nat.le_refl _) _).setCell (p := ⟨w.heap.size + 1, 0, none⟩) (by simp) _

/-- scan.Scan AT ANY TEXT. -/
theorem scan_any (s : ByteArray) (w : World) (hs : s.size ≤ maxLen) (hL : LibVar w) :
    Calls Tryz.prog 32 #[.string s] w fun e w' => (∃ v, e = .returned (.tuple #[v, .int .i64 (scanErr s)]) ∧ w'.ownsRow w.heap.size 83 5 v (scanOf s).length (ydCells (scanOf s))) ∧ Below w.heap.size w w' := by
  rcases check_cases s.data.toList with ⟨h, hl⟩ | h | h
  · exact scan_ok s w hs hl h hL
  all_goals
    have he : scanErr s = checkN s.data.toList := by unfold scanErr; rw [if_neg (by rw [h]; decide)]
    have ho : scanOf s = [] := by unfold scanOf; rw [if_neg (by rw [he, h]; decide)]
    rw [ho, he, h]
    refine (scan_bad s w hs _ h (by decide)).mono ?_
    rintro e w' ⟨rfl, hb⟩
    exact ⟨⟨_, rfl, World.ownsRow_nil _ _ _ _⟩, hb⟩

end Go.Proofs.YtaodjipnffgihaaGreat

namespace Go.Proofs.YtaodjipnffgihaaGreat
open Go.RowKit Go.Shelf

attribute [local go_sem] Oper.semAt_some

/-- The splices among parts; as cells. -/
def sps (ps : List Part) : List Part := ps.filter fun p => p.sp
def spanCell (p : Part) : List Value := [.int .i64 p.at', .int .i64 ((p.at' : Int) + p.n)]
def spanCells (ps : List Part) : List Value := ps.flatMap spanCell

theorem spanCells_snoc (ps : List Part) (p : Part) : spanCells (ps ++ [p]) = spanCells ps ++ spanCell p := by simp [spanCells]
theorem sps_yes (ps : List Part) {p : Part} (h : p.sp = true) : sps (ps ++ [p]) = sps ps ++ [p] := by simp [sps, h]
theorem sps_no (ps : List Part) {p : Part} (h : p.sp = false) : sps (ps ++ [p]) = sps ps := by simp [sps, h]
theorem sps_length (ps : List Part) : (sps ps).length ≤ ps.length := List.length_filter_le _ _

/-- A text's splices, as Splices answers them. -/
def splicesOf (l : List UInt8) : List Part := if checkN l = 0 then sps (parts l) else []

theorem splicesOf_ok {l : List UInt8} (h : checkN l = 0) : splicesOf l = sps (parts l) := by unfold splicesOf; rw [if_pos h]
def spsP (pre : List Pt) : List Part := sps (pre.map (·.1))
theorem infoSpan : (Tryz.prog.info? 139).map (fun i => (i.zero, i.size, i.bytes)) = some (some (.agg #[.int .i64 0, .int .i64 0]), 2, 16) := by kernel_rfl

end Go.Proofs.YtaodjipnffgihaaGreat

namespace Go.Proofs.YtaodjipnffgihaaGreat
open Go.RowKit

theorem drop_ne {l : List UInt8} {k : Nat} (hk : k < l.length) : l.drop k ≠ [] := fun h => by
  have := List.drop_eq_nil_iff.1 h; omega

theorem partsFrom_cons {l : List UInt8} {k : Nat} (hk : k < l.length) : partsFrom l k = partAt l k :: partsFrom l (k + partN (l.drop k)) := by
  rw [partsFrom, dif_pos hk]
theorem partsFrom_end {l : List UInt8} {k : Nat} (hk : ¬ k < l.length) : partsFrom l k = [] := by
  rw [partsFrom, dif_neg hk]

theorem chB_cons (p : Part) (ps : List Part) : chB (p :: ps) = (if p.sp then [] else [p.b]) ++ chB ps := by
  cases h : p.sp <;> simp [chB, chs, h]
theorem sps_cons (p : Part) (ps : List Part) : (sps (p :: ps)).length = (if p.sp then 1 else 0) + (sps ps).length := by
  cases h : p.sp <;> simp [sps, h]
  omega

theorem chB_lg {l : List UInt8} : ∀ (m k : Nat), l.length - k = m → chB (partsFrom l k) = lg (l.drop k) := by
  intro m
  induction m using Nat.strongRecOn with
  | ind m ih =>
    intro k hm
    by_cases hk : k < l.length
    · have hp := partN_pos (l.drop k)
      rw [partsFrom_cons hk, chB_cons, lg_cons (drop_ne hk), List.drop_drop, ih (l.length - (k + partN (l.drop k))) (by omega) _ rfl]
      simp only [partAt, partB]
      by_cases h : isSplice (l.drop k) = true <;> simp [h]
    · rw [partsFrom_end hk, List.drop_eq_nil_of_le (by omega), lg_nil]; rfl

theorem sps_ns {l : List UInt8} : ∀ (m k : Nat), l.length - k = m → (sps (partsFrom l k)).length = ns (l.drop k) := by
  intro m
  induction m using Nat.strongRecOn with
  | ind m ih =>
    intro k hm
    by_cases hk : k < l.length
    · have hp := partN_pos (l.drop k)
      rw [partsFrom_cons hk, sps_cons, ns_cons (drop_ne hk), List.drop_drop, ih (l.length - (k + partN (l.drop k))) (by omega) _ rfl]
      rfl
    · rw [partsFrom_end hk, List.drop_eq_nil_of_le (by omega), ns_nil]; rfl

theorem last_wl {l : List UInt8} : ∀ (m k : Nat), l.length - k = m → k < l.length → ∃ p, (partsFrom l k).getLast? = some p ∧ (!p.sp && p.b == 10) = wl (l.drop k) := by
  intro m
  induction m using Nat.strongRecOn with
  | ind m ih =>
    intro k hm hk
    have hp := partN_pos (l.drop k)
    rw [partsFrom_cons hk, wl_cons (drop_ne hk), List.drop_drop]
    by_cases hk2 : k + partN (l.drop k) < l.length
    · obtain ⟨p, h1, h2⟩ := ih (l.length - (k + partN (l.drop k))) (by omega) _ rfl hk2
      refine ⟨p, ?_, ?_⟩
      · rw [List.getLast?_cons, h1]; rfl
      · rw [if_neg (drop_ne hk2)]; exact h2
    · refine ⟨partAt l k, by rw [partsFrom_end hk2]; rfl, ?_⟩
      rw [if_pos (List.drop_eq_nil_of_le (by omega))]
      simp only [partAt, partB]
      by_cases h : isSplice (l.drop k) = true <;> simp [h]

theorem wellB_wl (l : List UInt8) : wellB l = wl l := by
  by_cases h : 0 < l.length
  · obtain ⟨p, h1, h2⟩ := last_wl (l := l) _ 0 rfl h
    unfold wellB parts
    rw [h1]
    exact h2
  · have : l = [] := List.length_eq_zero_iff.1 (by omega)
    subst this
    rw [wl_nil]
    unfold wellB parts
    rw [partsFrom_end (by decide)]; rfl

theorem checkN_ok {l : List UInt8} (h : l.length ≤ 65536) (h2 : wl l = true) : checkN l = 0 := by
  unfold checkN
  rw [if_neg (by omega), wellB_wl, if_pos h2]
theorem logicalOf_lg {l : List UInt8} (h : checkN l = 0) : logicalOf l = lg l := by
  rw [logicalOf_ok h, parts, chB_lg _ 0 rfl]; rfl
theorem splicesOf_ns {l : List UInt8} (h : checkN l = 0) : (splicesOf l).length = ns l := by
  rw [splicesOf_ok h, parts, sps_ns _ 0 rfl]; rfl

/-- WHAT IS SPELT, CHECKED AND READ. -/
theorem spell_back {l : List UInt8} (h : (spellOut l).2 = 0) : checkN (spellOut l).1 = 0 ∧ logicalOf (spellOut l).1 = l ∧ (spellOut l).1.length = l.length + 2 * (splicesOf (spellOut l).1).length := by
  unfold spellOut at h ⊢
  by_cases h1 : 65536 < l.length
  · rw [if_pos h1] at h; exact absurd h (by decide)
  · rw [if_neg h1] at h ⊢
    by_cases h2 : endsTen l = false
    · rw [if_pos h2] at h; exact absurd h (by decide)
    · rw [if_neg h2] at h ⊢
      by_cases h3 : 65536 < (spellUpto l l.length).length
      · rw [if_pos h3] at h; exact absurd h (by decide)
      · rw [if_neg h3]
        simp only
        rw [spellUpto_all] at h3 ⊢
        obtain ⟨r1, r2, r3⟩ := spl_reads l
        have hw : wl (spl l) = true := by
          by_cases hl : l = []
          · subst hl; exact wl_nil
          · refine r3 hl ?_
            simp only [endsTen, Bool.not_eq_false, Bool.or_eq_true, beq_iff_eq] at h2
            exact h2.resolve_left hl
        have hc := checkN_ok (by omega) hw
        refine ⟨hc, ?_, ?_⟩
        · rw [logicalOf_lg hc, r1]
        · rw [splicesOf_ns hc]; exact r2

end Go.Proofs.YtaodjipnffgihaaGreat

namespace Go.Proofs.YtaodjipnffgihaaGreat

/-- Behind x a part of x ++ y begins. -/
inductive Bd : List UInt8 → List UInt8 → Prop
  | nil (y : List UInt8) : Bd [] y
  | step (x y : List UInt8) (hx : x ≠ []) (hn : partN (x ++ y) ≤ x.length) (h : Bd (x.drop (partN (x ++ y))) y) : Bd x y

/-- Where a part stands, a part begins. -/
theorem bd_of_part {l : List UInt8} : ∀ (m k : Nat), l.length - k = m → ∀ p ∈ partsFrom l k, k ≤ p.at' ∧ p.at' < l.length ∧ Bd ((l.take p.at').drop k) (l.drop p.at') := by
  intro m
  induction m using Nat.strongRecOn with
  | ind m ih =>
    intro k hm p hp
    by_cases hk : k < l.length
    · rw [partsFrom_cons hk] at hp
      have hpos := partN_pos (l.drop k)
      rcases List.mem_cons.1 hp with rfl | hp
      · refine ⟨Nat.le_refl _, hk, ?_⟩
        have : (l.take k).drop k = [] := List.drop_eq_nil_of_le (by simp; omega)
        simp only [partAt]
        rw [this]
        exact Bd.nil _
      · obtain ⟨h1, h2, h3⟩ := ih (l.length - (k + partN (l.drop k))) (by omega) _ rfl p hp
        refine ⟨by omega, h2, ?_⟩
        have hxy : (l.take p.at').drop k ++ l.drop p.at' = l.drop k := by
          rw [← List.drop_append_of_le_length (by simp; omega), List.take_append_drop]
        have hlen : ((l.take p.at').drop k).length = p.at' - k := by simp; omega
        refine Bd.step _ _ (fun h0 => ?_) ?_ ?_
        · rw [h0] at hlen; simp at hlen; omega
        · rw [hxy, hlen]; omega
        · rw [hxy, List.drop_drop]; exact h3
    · rw [partsFrom_end hk] at hp; cases hp

end Go.Proofs.YtaodjipnffgihaaGreat

namespace Go.Proofs.YtaodjipnffgihaaGreat

/-- Where a part begins, so many characters and splices stand ahead. -/
structure Cov (l : List UInt8) (cs ss : List Part) (pos i k : Nat) : Prop where
  le : pos ≤ l.length
  ch : cs.drop i = chs (partsFrom l pos)
  sp : ss.drop k = sps (partsFrom l pos)

theorem Cov.start {l : List UInt8} {cs ss : List Part} (h : chs (parts l) = cs) (h2 : sps (parts l) = ss) : Cov l cs ss 0 0 0 := ⟨Nat.zero_le _, h.symm, h2.symm⟩

theorem chs_cons (p : Part) (ps : List Part) : chs (p :: ps) = if p.sp then chs ps else p :: chs ps := by
  unfold chs
  rw [List.filter_cons]
  cases p.sp <;> rfl
theorem sps_cons' (p : Part) (ps : List Part) : sps (p :: ps) = if p.sp then p :: sps ps else sps ps := by
  unfold sps
  rw [List.filter_cons]

/-- All parts from a place on stand there or behind. -/
theorem parts_ge {l : List UInt8} {pos : Nat} {p : Part} (hp : p ∈ partsFrom l pos) : pos ≤ p.at' := (bd_of_part (l := l) _ pos rfl p hp).1

theorem drop_cons_next {α : Type} {xs ys : List α} {i : Nat} {x : α} (h : xs.drop i = x :: ys) : xs[i]? = some x ∧ xs.drop (i + 1) = ys ∧ i < xs.length := by
  have h1 : i < xs.length := by
    rcases Nat.lt_or_ge i xs.length with h2 | h2
    · exact h2
    · rw [List.drop_eq_nil_of_le h2] at h; cases h
  rw [List.drop_eq_getElem_cons h1] at h
  injection h with h2 h3
  exact ⟨by rw [List.getElem?_eq_getElem h1, h2], h3, h1⟩
theorem drop_all {α : Type} {xs : List α} {i : Nat} (h : xs.drop i = []) : xs.length ≤ i := by
  have := congrArg List.length h
  simp at this
  omega

/-- Where a splice stands: the splice to come is it; behind it the same holds. -/
theorem Cov.splice {l : List UInt8} {cs ss : List Part} {pos i k : Nat} (h : Cov l cs ss pos i k) (hp : pos < l.length) (hs : isSplice (l.drop pos) = true) :
    ss[k]? = some (partAt l pos) ∧ Cov l cs ss (pos + partN (l.drop pos)) i (k + 1) := by
  have e := partsFrom_cons hp
  have hsp : (partAt l pos).sp = true := hs
  have h1 := h.sp
  have h2 := h.ch
  rw [e, sps_cons', if_pos hsp] at h1
  rw [e, chs_cons, if_pos hsp] at h2
  obtain ⟨a, b, _⟩ := drop_cons_next h1
  have := partN_le (drop_ne hp)
  rw [List.length_drop] at this
  exact ⟨a, by omega, h2, b⟩

/-- Where a character stands, the splice to come stands behind. -/
theorem Cov.later {l : List UInt8} {cs ss : List Part} {pos i k : Nat} (h : Cov l cs ss pos i k) (hp : pos < l.length) (hs : isSplice (l.drop pos) = false) {q : Part} (hq : ss[k]? = some q) : pos < q.at' := by
  have e := partsFrom_cons hp
  have hsp : ¬ (partAt l pos).sp = true := by rw [show (partAt l pos).sp = isSplice (l.drop pos) from rfl, hs]; decide
  have h1 := h.sp
  rw [e, sps_cons', if_neg hsp] at h1
  have hlt := (List.getElem?_eq_some_iff.1 hq).1
  have hm : q ∈ sps (partsFrom l (pos + partN (l.drop pos))) := by
    rw [← h1]
    refine List.mem_of_getElem? (i := 0) ?_
    rw [List.getElem?_drop]; exact hq
  have := parts_ge (List.mem_filter.1 hm).1
  have := partN_pos (l.drop pos)
  omega

/-- At the end: no character and no splice is to come. -/
theorem Cov.done {l : List UInt8} {cs ss : List Part} {i k : Nat} (h : Cov l cs ss l.length i k) : cs.length ≤ i ∧ ss.length ≤ k := by
  have e : partsFrom l l.length = [] := partsFrom_end (by omega)
  have h1 := h.sp
  have h2 := h.ch
  rw [e] at h1 h2
  exact ⟨drop_all h2, drop_all h1⟩

/-- A character: its bytes. -/
theorem char_bytes {l : List UInt8} (h : isSplice l = false) (hl : l ≠ []) :
    (partN l = 1 ∧ l[0]? = some (partB l)) ∨ (partN l = 3 ∧ l[0]? = some 63 ∧ l[1]? = some 63 ∧ ∃ c, l[2]? = some c ∧ isThird c = true ∧ thirdOf c = partB l) := by
  have hn : partN l = charN l := by unfold partN; rw [h]; rfl
  have hb : partB l = charB l := by unfold partB; rw [h]; rfl
  rw [hn, hb]
  cases ht : isTri l with
  | false =>
    refine .inl ⟨by unfold charN; rw [ht]; rfl, ?_⟩
    unfold charB
    rw [ht]
    cases l with
    | nil => exact absurd rfl hl
    | cons a r => rfl
  | true =>
    refine .inr ⟨by unfold charN; rw [ht]; rfl, ?_⟩
    match l, ht with
    | [], ht => simp [isTri, tri] at ht
    | [_], ht => simp [isTri, tri] at ht
    | [_, _], ht => simp [isTri, tri] at ht
    | a :: b :: c :: r, ht =>
      by_cases h2 : a = 63 ∧ b = 63
      · obtain ⟨rfl, rfl⟩ := h2
        have ht' : isThird c = true := by simpa [isTri, tri, isThird] using ht
        refine ⟨rfl, rfl, c, rfl, ht', ?_⟩
        unfold charB thirdOf
        rw [ht, if_pos rfl]
        simp [triOf, tri]
      · simp [isTri, tri, h2] at ht

end Go.Proofs.YtaodjipnffgihaaGreat
