/- Several texts laid together. -/
import Derived.Test.YtaodjipnffgihaaGreatMzG
import Derived.Test.YtaodjipnffgihaaGreatGen
import Derived.Scope
import Derived.Shelf.RegionOpen
import Derived.BigQuiet
import Derived.Deep.QuietTactic
import Derived.Test.YtaodjipnffgihaaGreatMzD
import Derived.Deep.LoopGhost
import Derived.Test.YtaodjipnffgihaaGreatMzC
import Derived.BigCall
import Derived.Test.YtaodjipnffgihaaGreatMzP
import Derived.Test.YtaodjipnffgihaaGreatMzF
import Derived.Test.YtaodjipnffgihaaGreatMzA

namespace Go.Proofs.YtaodjipnffgihaaGreat
open Go.RowKit Go.Shelf

set_option maxRecDepth 100000 in
set_option maxHeartbeats 4000000 in
/-- scan.Bare of a list that lies anywhere in a block. -/
theorem bare_off (ts : List Tz) (n cap : Nat) (a : Option Addr) (w : World) (hn : ts.length = n) (hn2 : n * 48 ≤ 140737488355328) (ht : ∀ t ∈ ts, t.tx.size ≤ 281474976710656)
    (hT : 0 < n → ∃ b o, a = some ⟨b, o, none⟩ ∧ b < w.heap.size ∧ TzAt w b o ts) :
    Calls Tryz.prog 58 #[.slice a n cap] w fun e w' => (∃ v, e = .returned v ∧ w'.ownsRow w.heap.size 83 5 v (bareS ts).1.length (tzCells (bareS ts).1)) ∧ Below w.heap.size w w' := by
  obtain ⟨i0, hi, hz0, hz1, hz2⟩ := info_parts infoTz
  have HN := Lib.hid hn
  have HT := Lib.hid hT
  have HX := Lib.hid ht
  clear hn hT ht
  go_enter Tryz.func58, Tryz.ntmps58
  go_wp2
  go_loopg [3, 4, 6, 9] n (fun g v lo _ i wx => ∃ (k : Nat) (acc : List Tz) (ah : Bool), k ≤ n ∧ i = .int .i64 k ∧ g = n - k ∧ lo = .bool ah ∧ Hid (bareS (ts.take k) = (acc, ah)) ∧ wx.ownsRow w.heap.size 83 5 v acc.length (tzCells acc) ∧ Below w.heap.size w wx)
  case atStart => exact ⟨0, [], false, Nat.zero_le _, rfl, rfl, rfl, Lib.hid rfl, World.ownsRow_nil _ _ _ _, Below.refl _ _⟩
  case round =>
    obtain ⟨k, acc, ah, hk, rfl, rfl, rfl, HB, hrow, hbx⟩ := hrel
    by_cases hlt : k < n
    · obtain ⟨t, ht⟩ : ∃ t, ts[k]? = some t := ⟨_, List.getElem?_eq_getElem (by rw [HN.out]; exact hlt)⟩
      obtain ⟨g, og, rfl, hg1, hr⟩ := HT.out (by omega)
      obtain ⟨c0, c1, c2, c3, c4⟩ := (hr.below hbx hg1) k t ht
      have hX := HX.out t (List.mem_of_getElem? ht)
      have hB2 := bareS_snoc ht
      rw [HB.out] at hB2
      have HB2 := Lib.hid hB2
      have hal : acc.length ≤ k := by
        have := bareS_len (ts.take k)
        rw [HB.out, List.length_take] at this
        exact Nat.le_trans this (Nat.min_le_left _ _)
      have hne := row_ne hrow
      have hbs := hbx.size
      clear hr ht hB2
      have j1 : (k : Int) < (n : Int) := by omega
      have j0 : (0 : Int) ≤ (k : Int) := by omega
      obtain ⟨tk, tt, ta, te, tsp⟩ := t
      simp only at c0 c1 c2 c3 c4 hX
      cases h8 : (tk == 8)
      · cases h9 : (tk == 9)
        · have hst : bareStep (acc, ah) ⟨tk, tt, ta, te, tsp⟩ = (acc ++ [⟨tk, tt, ta, te, tsp || ah⟩], false) := by
            unfold bareStep outK; simp only [h8, h9]; rfl
          have HS := Lib.hid hst
          have HC := fun w' => clone_any tt w' hX
          clear hst
          cases tsp
          · have HE : Hid (bareS (ts.take (k + 1)) = (acc ++ [⟨tk, tt, ta, te, ah⟩], false)) := Lib.hid (HB2.out.trans HS.out)
            clear HB2 HS
            go_wp2_with (first
              | (go_at_call 80; refine (HC _).mono ?_; rintro e w2 ⟨rfl, hb2⟩; obtain ⟨⟨d0, d1, d2, d3, d4, f1, f4⟩, hr4, hs2⟩ := bare_call hrow hbx hb2; have HR4 := Lib.hid (hr4 (.string tt) (.bool ah)); clear hr4)
              | (at_builtin; refine wpList_append_own _ rfl _ _ 44 rfl w.heap.size 83 i0 (.agg #[.int .i64 0, .string ⟨#[]⟩, .int .i64 0, .int .i64 0, .bool false]) 5 48 Tryz.underlying44 hi hz0 hz1 hz2 rfl (by decide) _ _ _ rfl (HR4.out.1.alloc _) ⟨w2.heap.size, 0, none⟩ 1 1 (tzCell ⟨tk, tt, ta, te, ah⟩) rfl rfl (cell5_behind _ _ _ _ _ _ _ _ _ _) (by simp [Value.oneCell', tzCell]) (by unfold maxLen; omega) (by omega) (by simp [World.setCell]; omega) ?_; intro v' w3 hown hgrow hn3; clear hn3; have hB4 := HR4.out.2; have hL4 := HR4.out.1.lt; have hB5 := (hB4.alloc hB4.size _).grown hgrow (by have := hB4.size; simp; omega) (fun j e => (hL4 j e).1)))
            go_roundg (n - (k + 1))
            case rel =>
              refine ⟨k + 1, _, false, by omega, by go_num, rfl, rfl, HE, ?_, hB5⟩
              rw [List.length_append, tzCells_snoc]
              exact hown
            case measure => omega
          · have HE : Hid (bareS (ts.take (k + 1)) = (acc ++ [⟨tk, tt, ta, te, true⟩], false)) := Lib.hid (HB2.out.trans HS.out)
            clear HB2 HS
            go_wp2_with (first
              | (go_at_call 80; refine (HC _).mono ?_; rintro e w2 ⟨rfl, hb2⟩; obtain ⟨⟨d0, d1, d2, d3, d4, f1, f4⟩, hr4, hs2⟩ := bare_call hrow hbx hb2; have HR4 := Lib.hid (hr4 (.string tt) (.bool true)); clear hr4)
              | (at_builtin; refine wpList_append_own _ rfl _ _ 44 rfl w.heap.size 83 i0 (.agg #[.int .i64 0, .string ⟨#[]⟩, .int .i64 0, .int .i64 0, .bool false]) 5 48 Tryz.underlying44 hi hz0 hz1 hz2 rfl (by decide) _ _ _ rfl (HR4.out.1.alloc _) ⟨w2.heap.size, 0, none⟩ 1 1 (tzCell ⟨tk, tt, ta, te, true⟩) rfl rfl (cell5_behind _ _ _ _ _ _ _ _ _ _) (by simp [Value.oneCell', tzCell]) (by unfold maxLen; omega) (by omega) (by simp [World.setCell]; omega) ?_; intro v' w3 hown hgrow hn3; clear hn3; have hB4 := HR4.out.2; have hL4 := HR4.out.1.lt; have hB5 := (hB4.alloc hB4.size _).grown hgrow (by have := hB4.size; simp; omega) (fun j e => (hL4 j e).1)))
            go_roundg (n - (k + 1))
            case rel =>
              refine ⟨k + 1, _, false, by omega, by go_num, rfl, rfl, HE, ?_, hB5⟩
              rw [List.length_append, tzCells_snoc]
              exact hown
            case measure => omega
        · have hst : bareStep (acc, ah) ⟨tk, tt, ta, te, tsp⟩ = (acc, true) := by unfold bareStep outK; simp only [h8, h9]; rfl
          rw [hst] at HB2
          clear hst
          go_wp2
          go_roundg (n - (k + 1))
          case rel => exact ⟨k + 1, acc, true, by omega, by go_num, rfl, rfl, HB2, hrow.alloc _, hbx.alloc hbs _⟩
          case measure => omega
      · have hst : bareStep (acc, ah) ⟨tk, tt, ta, te, tsp⟩ = (acc, true) := by unfold bareStep outK; simp only [h8]; rfl
        rw [hst] at HB2
        clear hst
        go_wp2
        go_roundg (n - (k + 1))
        case rel => exact ⟨k + 1, acc, true, by omega, by go_num, rfl, rfl, HB2, hrow.alloc _, hbx.alloc hbs _⟩
        case measure => omega
    · obtain rfl : k = n := by omega
      have HB3 := Lib.hid (show bareS ts = (acc, ah) by rw [← HB.out, List.take_of_length_le (by rw [HN.out]; exact Nat.le_refl _)])
      go_wp2
      go_ret
      rw [HB3.out]
      exact ⟨⟨_, rfl, hrow⟩, hbx⟩

end Go.Proofs.YtaodjipnffgihaaGreat

namespace Go.Proofs.YtaodjipnffgihaaGreat
open Go.RowKit Go.Shelf

attribute [local go_sem] Oper.semAt_some

/-- Does a text end well? -/
def wellB (l : List UInt8) : Bool := match (parts l).getLast? with
  | none => l == []
  | some p => !p.sp && p.b == 10

theorem parts_reach {l : List UInt8} : ∀ (m k : Nat), l.length - k = m → k < l.length → (∀ p ∈ partsFrom l k, p.at' + p.n < l.length) → False := by
  intro m
  induction m using Nat.strongRecOn with
  | ind m ih =>
    intro k hm hk h
    rw [partsFrom, dif_pos hk] at h
    have h1 := h _ List.mem_cons_self
    have hp := partN_pos (l.drop k)
    simp only [partAt] at h1
    exact ih (l.length - (k + partN (l.drop k))) (by omega) _ rfl h1 (fun p hp => h p (List.mem_cons_of_mem _ hp))

theorem parts_last {l : List UInt8} : ∀ (q : List Part) (x : Part) (k : Nat), q ++ [x] <+: partsFrom l k → l.length ≤ x.at' + x.n → q ++ [x] = partsFrom l k := by
  intro q
  induction q with
  | nil =>
    intro x k h hx
    rw [partsFrom] at h ⊢
    by_cases hk : k < l.length
    · rw [dif_pos hk] at h ⊢
      obtain ⟨t, ht⟩ := h
      simp only [List.nil_append, List.cons_append, List.cons.injEq] at ht
      obtain ⟨rfl, _⟩ := ht
      simp only [partAt] at hx
      rw [partsFrom, dif_neg (by omega)]
      rfl
    · rw [dif_neg hk] at h
      obtain ⟨t, ht⟩ := h
      simp at ht
  | cons p q ih =>
    intro x k h hx
    rw [partsFrom] at h ⊢
    by_cases hk : k < l.length
    · rw [dif_pos hk] at h ⊢
      obtain ⟨t, ht⟩ := h
      simp only [List.cons_append, List.cons.injEq] at ht
      obtain ⟨rfl, ht⟩ := ht
      simp only [List.cons_append, List.cons.injEq, true_and]
      exact ih x _ ⟨t, ht⟩ hx
    · rw [dif_neg hk] at h
      obtain ⟨t, ht⟩ := h
      simp at ht

/-- All parts end ahead of the text's end: there are none. -/
theorem well_done {s : ByteArray} (hs : s.size ≤ 65536) (h : ∀ p ∈ ptsFrom s.data.toList hs 0, p.1.at' + p.1.n < s.size) : wellB s.data.toList = s.toList.isEmpty := by
  have hnot : ¬ 0 < s.data.toList.length := fun h0 => parts_reach (l := s.data.toList) _ 0 rfl h0 (fun p hp => by
    rw [← ptsFrom_val _ hs] at hp
    obtain ⟨q, hq, rfl⟩ := List.mem_map.1 hp
    exact h q hq)
  have h0 : s.data.toList = [] := List.length_eq_zero_iff.1 (by omega)
  rw [ByteArray.toList_eq, h0]
  simp [wellB, parts, partsFrom]

theorem well_stop {s : ByteArray} (hs : s.size ≤ 65536) {q : List Pt} {x : Pt} (h : q ++ [x] <+: ptsFrom s.data.toList hs 0) (hx : s.size ≤ x.1.at' + x.1.n) :
    wellB s.data.toList = if x.1.sp then s.toList.isEmpty else ((x.1.b.toNat : Int) == 10) := by
  have h2 : q.map (·.1) ++ [x.1] <+: partsFrom s.data.toList 0 := by
    obtain ⟨t, ht⟩ := h
    refine ⟨t.map (·.1), ?_⟩
    rw [← ptsFrom_val _ hs, ← ht]
    simp
  have h3 := parts_last _ _ _ h2 hx
  have hne : s.data.toList ≠ [] := fun h0 => by
    rw [h0] at h3
    simp [partsFrom] at h3
  have he : s.toList.isEmpty = false := by rw [ByteArray.toList_eq]; simpa using hne
  simp only [wellB, parts, ← h3, List.getLast?_append, List.getLast?_singleton, Option.some_or, he]
  cases x.1.sp
  · simp only [Bool.not_false, Bool.true_and]
    rw [Bool.eq_iff_iff]
    constructor
    · intro h
      rw [eq_of_beq h]; rfl
    · intro h; exact beq_iff_eq.2 (eq_u8 10 h)
  · simp

set_option maxRecDepth 100000 in
set_option maxHeartbeats 2000000 in
/-- phys.endsWell AT EVERY TEXT of at most 65536 bytes. -/
theorem endsWell_any (s : ByteArray) (w : World) (hs : s.size ≤ 65536) :
    Calls Tryz.prog 89 #[.string s] w fun e w' => e = .returned (.bool (wellB s.data.toList)) ∧ Below w.heap.size w w' := by
  refine (callsIn_wide (n := 20)).1 ?_
  refine callsIn_of_wp_marks Tryz.func89 rfl trivial ?_ rfl
  simp only [Tryz.ntmps89, List.size_toArray, List.length_cons, List.length_nil, Nat.reduceAdd, Nat.reduceSub, Array.replicate_succ, Array.replicate_zero, List.push_toArray, List.append_toArray, List.nil_append, List.cons_append]
  gi_wp2
  refine wpIn_scope_wide ?_
  gi_wp2
  refine wpIn_label_wide ?_
  gi_wp2
  refine ⟨trivial, (callsIn_wide.2 (parts_any _ _)).mono ?_⟩
  rintro e w' ⟨rfl, rfl⟩
  gi_wp2
  have bS := ((Boxed.new w 9 (.string s)).alloc (.cells #[.bool s.toList.isEmpty] 4)).alloc (.cells #[.string s] 9)
  have bW := (Boxed.new (w.alloc (.cells #[.string s] 9)) 4 (.bool s.toList.isEmpty)).alloc (.cells #[.string s] 9)
  have bN := Boxed.new ((w.alloc (.cells #[.string s] 9)).alloc (.cells #[.bool s.toList.isEmpty] 4)) 9 (.string s)
  simp only [World.size_alloc] at bW bN
  have hB0 := below3 w (.cells #[.string s] 9) (.cells #[.bool s.toList.isEmpty] 4) (.cells #[.string s] 9)
  have hsz : (((w.alloc (.cells #[.string s] 9)).alloc (.cells #[.bool s.toList.isEmpty] 4)).alloc (.cells #[.string s] 9)).heap.size = w.heap.size + 3 := by simp
  obtain ⟨W0, hW0⟩ : ∃ W0, ((w.alloc (.cells #[.string s] 9)).alloc (.cells #[.bool s.toList.isEmpty] 4)).alloc (.cells #[.string s] 9) = W0 := ⟨_, rfl⟩
  rw [hW0] at bS bW bN hB0 hsz ⊢
  clear hW0
  refine wpIn_rangeFunc_ownH rfl (by decide) (gf := 90) (lb := #[.pointer (some ⟨w.heap.size + 1 + 1, 0, none⟩)]) rfl trivial (enters_of Tryz.func90 (by kernel_rfl) rfl)
    (parts_stops _ (by decide) s hs (w.heap.size + 1 + 1) W0 bN) keepsBox_t (keepsBox_b (n := W0.heap.size)) (Below.refl _ _) (fun _ => rfl)
    (fun pre W => ((Boxed W (w.heap.size + 1) 4 (.bool s.toList.isEmpty) ∧ Boxed W w.heap.size 9 (.string s)) ∧ Below w.heap.size w W) ∧ ∀ p ∈ pre, p.1.at' + p.1.n < s.size)
    (fun c pre W => (∃ v, Boxed W (w.heap.size + 1) 4 (.bool v) ∧ c = .exit 0 ∧ ∃ q x, pre = q ++ [x] ∧ s.size ≤ x.1.at' + x.1.n ∧ v = if x.1.sp then s.toList.isEmpty else ((x.1.b.toNat : Int) == 10)) ∧ Below w.heap.size w W)
    (OwnFrom.and (OwnFrom.and (OwnFrom.and (Own.from (boxed_own _ _ _) _) (Own.from (boxed_own _ _ _) _)) (ownFrom_below (Nat.le_refl _) (by omega))) (ownFrom_pure _ _))
    (fun c => OwnFrom.and (fun pre X Y row hs' hg hr => by obtain ⟨v, hb, h2⟩ := hs'; exact ⟨v, boxed_own _ _ (fun (_ : Unit) => Value.bool v) () X Y row hb hg (fun r e => (hr r e).2), h2⟩) (ownFrom_below (Nat.le_refl _) (by omega)))
    ⟨⟨⟨bW, bS⟩, hB0⟩, fun _ h => by cases h⟩
    (fun x a' W => ∃ Bx, w.heap.size + 1 < Bx ∧ W.heap[Bx]? = some (.cells #[.int .u8 x.1.b.toNat, .int .i64 x.1.at', .int .i64 x.1.n, .bool x.1.sp] 122 (0, 0)) ∧ a' = { tmps := #[.string s, .pointer (some ⟨w.heap.size, 0, none⟩), .bool false, .pointer (some ⟨w.heap.size + 1, 0, none⟩), .pointer (some ⟨Bx, 0, none⟩), .string s, .bool s.toList.isEmpty, .string s, .func (.func 90) #[] #[.pointer (some ⟨w.heap.size + 1 + 1, 0, none⟩)], .agg #[.int .u8 x.1.b.toNat, .int .i64 x.1.at', .int .i64 x.1.n, .bool x.1.sp], undef, undef, undef, undef, undef, undef, undef, undef, undef, undef, undef, undef, undef, undef], defers := [] })
    (fun x a' _ X Y row hs' hg hr => by
      obtain ⟨Bx, h1, h2, h3⟩ := hs'
      refine ⟨Bx, h1, (hg.block Bx (Array.getElem?_eq_some_iff.1 h2).1 (fun e => ?_)).trans h2, h3⟩
      obtain ⟨_, o, ho, hc⟩ := hr Bx e.symm
      rw [h2] at ho; cases ho; cases hc)
    ?assign ?body ?done ?stop
  case assign =>
    rintro l pre x W K ⟨⟨⟨bW1, bS1⟩, hB1⟩, hp⟩ hK
    gi_wp2
    exact hK _ _ ((KeepsOthers.alloc _ _).from _) (keepsBox_below (below1 _ _)) ⟨⟨⟨bW1.alloc _, bS1.alloc _⟩, hB1.alloc hB1.size _⟩, hp⟩ ⟨W.heap.size, bW1.lt, World.alloc_heap_new _ _, rfl⟩
  case body =>
    rintro l pre x a' W hl ⟨r, hr⟩ ⟨⟨⟨bW1, bS1⟩, hB1⟩, hp⟩ ⟨Bx, hBx, bX, rfl⟩ hlt
    have d0 : W.cell? ⟨Bx, 0, none⟩ = some (.int .u8 x.1.b.toNat) := by rw [Lib.cell_of_heap bX]; rfl
    have d1 : W.cell? ⟨Bx, 1, none⟩ = some (.int .i64 x.1.at') := by rw [Lib.cell_of_heap bX]; rfl
    have d2 : W.cell? ⟨Bx, 2, none⟩ = some (.int .i64 x.1.n) := by rw [Lib.cell_of_heap bX]; rfl
    have d3 : W.cell? ⟨Bx, 3, none⟩ = some (.bool x.1.sp) := by rw [Lib.cell_of_heap bX]; rfl
    have cS := bS1.cell
    have cW := bW1.cell
    have fW := bW1.frozen
    have hmx : Tryz.prog.follows .mixedOrders = true := by kernel_rfl
    have hC := fun W => CallsIn.inRound (n := 17) l (callsIn_wide.2 (end_pt x W))
    have lS := bS1.lt
    have lW := bW1.lt
    have lX := (Array.getElem?_eq_some_iff.1 bX).1
    by_cases hend : x.1.at' + x.1.n < s.size
    · gi_wp2
      gi_region_with_o (refine ⟨trivial, ?_⟩; gi_at_call 92; refine (hC _).mono ?_; rintro e w' ⟨rfl, rfl⟩)
      all_goals gi_wp2
      all_goals
        have hbW := (below1 W (.cells #[.int .u8 x.1.b.toNat, .int .i64 x.1.at', .int .i64 x.1.n, .bool x.1.sp] 122)).drew
        refine ⟨keepsFrom_below hbW, keepsBox_below hbW, ⟨⟨bW1.alloc _, bS1.alloc _⟩, (hB1.alloc hB1.size _).drew⟩, fun p hp' => ?_⟩
        rcases List.mem_append.1 hp' with h' | h'
        · exact hp p h'
        · obtain rfl : p = x := by simpa using h'
          exact hend
    · gi_wp2
      gi_region_with_o (refine ⟨trivial, ?_⟩; gi_at_call 92; refine (hC _).mono ?_; rintro e w' ⟨rfl, rfl⟩)
      all_goals gi_wp2
      all_goals
        have hbW := (below1 W (.cells #[.int .u8 x.1.b.toNat, .int .i64 x.1.at', .int .i64 x.1.n, .bool x.1.sp] 122)).drew
      all_goals first
        | (have hsp : x.1.sp = true := by assumption
           exact ⟨keepsFrom_below hbW, ⟨_, bW1.alloc _, rfl, pre, x, rfl, by omega, by rw [if_pos hsp]⟩, (hB1.alloc hB1.size _).drew⟩)
        | (have hsp : x.1.sp = false := by assumption
           have hBs := hB1.setCell (p := ⟨w.heap.size + 1, 0, none⟩) (by simp) (.bool ((x.1.b.toNat : Int) == 10))
           exact ⟨((KeepsOthers.setCell _ _ _).from _).trans (keepsFrom_below (below1 _ _).drew), ⟨_, (bW1.set _).alloc _, rfl, pre, x, rfl, by omega, by rw [hsp]; rfl⟩, (hBs.alloc hBs.size _).drew⟩)
  case done =>
    rintro D ys W hD rfl ⟨⟨⟨bW1, bS1⟩, hB1⟩, hp⟩ hK
    have cW := bW1.cell
    have HE := Lib.hid (well_done hs hp)
    clear hp
    gi_wp2
    rw [Exit.noGoto_ret]
    refine ⟨by simp, .inl ⟨_, _, rfl, run_takeDeferred hK, ?_⟩⟩
    refine ⟨_, results_tmp rfl _ _ _, ?_⟩
    exact ⟨ret_bool HE.out.symm, hB1.trans (belowK_b (w := w) (Nat.le_refl _) W D _ _ (by omega) hK rfl rfl)⟩
  case stop =>
    rintro D c pre W hD hpre ⟨⟨v, bW1, rfl, q, x, rfl, hx, hv⟩, hB1⟩ hK
    have cW := bW1.cell
    have HE := Lib.hid ((well_stop hs hpre hx).trans hv.symm)
    clear hv
    gi_wp2
    rw [Exit.noGoto_ret]
    refine ⟨by simp, .inl ⟨_, _, rfl, run_takeDeferred hK, ?_⟩⟩
    refine ⟨_, results_tmp rfl _ _ _, ?_⟩
    exact ⟨ret_bool HE.out.symm, hB1.trans (belowK_b (w := w) (Nat.le_refl _) W D _ _ (by omega) hK rfl rfl)⟩

/-- What Check answers of a list. -/
def checkN (l : List UInt8) : Int := if 65536 < l.length then 3 else if wellB l then 0 else 10

theorem check_long {s : ByteArray} (h : 65536 < s.size) : checkN s.data.toList = 3 := by
  unfold checkN; rw [if_pos (by rw [size_list]; exact h)]
theorem check_well {s : ByteArray} (h : ¬ 65536 < s.size) (h2 : wellB s.data.toList = true) : checkN s.data.toList = 0 := by
  unfold checkN; rw [if_neg (by rw [size_list]; exact h), if_pos h2]
theorem check_ill {s : ByteArray} (h : ¬ 65536 < s.size) (h2 : wellB s.data.toList = false) : checkN s.data.toList = 10 := by
  unfold checkN; rw [if_neg (by rw [size_list]; exact h), if_neg (by rw [h2]; decide)]

set_option maxHeartbeats 400000 in
/-- phys.Check AT EVERY TEXT. -/
theorem check_any (s : ByteArray) (w : World) (hs : s.size ≤ maxLen) :
    Calls Tryz.prog 70 #[.string s] w fun e w' => e = .returned (.int .i64 (checkN s.data.toList)) ∧ Below w.heap.size w w' := by
  unfold maxLen at hs
  by_cases hl : 65536 < s.size
  · have H := Lib.hid (check_long hl)
    go_enter Tryz.func70, Tryz.ntmps70
    go_wp2
    go_ret
    exact ⟨ret_int H.out.symm, Below.refl _ _⟩
  · have hle : s.size ≤ 65536 := by omega
    go_enter Tryz.func70, Tryz.ntmps70
    go_wp2_with (go_at_call 89; refine (endsWell_any s _ hle).mono ?_; rintro e w1 ⟨rfl, hb1⟩)
    · have h : wellB s.data.toList = false := by simpa using (show (!wellB s.data.toList) = true by assumption)
      go_ret
      exact ⟨ret_int (check_ill hl h).symm, hb1⟩
    · have h : wellB s.data.toList = true := by simpa using (show (!wellB s.data.toList) = false by assumption)
      go_ret
      exact ⟨ret_int (check_well hl h).symm, hb1⟩

end Go.Proofs.YtaodjipnffgihaaGreat

namespace Go.Proofs.YtaodjipnffgihaaGreat
open Go.RowKit Go.Shelf

attribute [local go_sem] Oper.semAt_some

theorem partsFrom_length {l : List UInt8} : ∀ (m k : Nat), l.length - k = m → (partsFrom l k).length ≤ m := by
  intro m
  induction m using Nat.strongRecOn with
  | ind m ih =>
    intro k hm
    rw [partsFrom]
    by_cases hk : k < l.length
    · rw [dif_pos hk]
      have hp := partN_pos (l.drop k)
      have := ih (l.length - (k + partN (l.drop k))) (by omega) _ rfl
      simp only [List.length_cons]
      omega
    · rw [dif_neg hk]; simp

theorem ptsFrom_length {s : ByteArray} (hs : s.size ≤ 65536) : (ptsFrom s.data.toList hs 0).length ≤ 65536 := by
  have h := partsFrom_length (l := s.data.toList) _ 0 rfl
  rw [← ptsFrom_val _ hs, List.length_map, size_list] at h
  omega

/-- The characters among parts; as cells. -/
def chs (ps : List Part) : List Part := ps.filter fun p => !p.sp
def charCell (p : Part) : List Value := [.int .u8 p.b.toNat, .int .i64 p.at', .int .i64 p.n]
def charCells (ps : List Part) : List Value := ps.flatMap charCell

theorem charCells_snoc (ps : List Part) (p : Part) : charCells (ps ++ [p]) = charCells ps ++ charCell p := by simp [charCells]
theorem chs_yes (ps : List Part) {p : Part} (h : p.sp = false) : chs (ps ++ [p]) = chs ps ++ [p] := by simp [chs, h]
theorem chs_no (ps : List Part) {p : Part} (h : p.sp = true) : chs (ps ++ [p]) = chs ps := by simp [chs, h]
theorem chs_length (ps : List Part) : (chs ps).length ≤ ps.length := List.length_filter_le _ _

/-- A text's characters, as Chars answers them. -/
def charsOf (l : List UInt8) : List Part := if checkN l = 0 then chs (parts l) else []

theorem charsOf_ok {l : List UInt8} (h : checkN l = 0) : charsOf l = chs (parts l) := by unfold charsOf; rw [if_pos h]
theorem charsOf_bad {l : List UInt8} (h : ¬ checkN l = 0) : charsOf l = [] := by unfold charsOf; rw [if_neg h]

/-- The characters among parts within the greatest text; a condition that always holds (hidden from the walk). -/
def chsP (pre : List Pt) : List Part := chs (pre.map (·.1))
def Tr (_ : List Pt) (_ : Value) : Prop := True
theorem chsP_yes (pre : List Pt) {x : Pt} (h : x.1.sp = false) : chsP (pre ++ [x]) = chsP pre ++ [x.1] := by
  unfold chsP; rw [List.map_append]; exact chs_yes _ h
theorem chsP_no (pre : List Pt) {x : Pt} (h : x.1.sp = true) : chsP (pre ++ [x]) = chsP pre := by
  unfold chsP; rw [List.map_append]; exact chs_no _ h
theorem chsP_length (pre : List Pt) : (chsP pre).length ≤ pre.length := by
  have := chs_length (pre.map (·.1)); rw [List.length_map] at this; exact this
theorem chsP_rowY {pre : List Pt} {x : Pt} {W : World} {b : Nat} {v : Value} (hsp : x.1.sp = false) (h : W.ownsRow b 81 3 v ((chsP pre).length + 1) (charCells (chsP pre) ++ charCell x.1)) :
    W.ownsRow b 81 3 v (chsP (pre ++ [x])).length (charCells (chsP (pre ++ [x]))) := by
  rw [chsP_yes pre hsp, charCells_snoc, List.length_append]; exact h
theorem chsP_all (s : ByteArray) (hs : s.size ≤ 65536) : chsP (ptsFrom s.data.toList hs 0) = chs (parts s.data.toList) := by
  unfold chsP parts; rw [ptsFrom_val]

theorem cell_three_new (w : World) (a b c : Value) (t : TypeId) : ∀ j u, [a, b, c][j]? = some u → (w.alloc (.cells #[a, b, c] t)).cell? ((⟨w.heap.size, 0, none⟩ : Addr).add j) = some u := by
  intro j u hj
  match j, hj with
  | 0, hj => simp at hj; subst hj; simp [Addr.add]
  | 1, hj => simp at hj; subst hj; simp [Addr.add]
  | 2, hj => simp at hj; subst hj; simp [Addr.add]
  | j + 3, hj => simp at hj

theorem infoChar : (Tryz.prog.info? 81).map (fun i => (i.zero, i.size, i.bytes)) = some (some (.agg #[.int .u8 0, .int .i64 0, .int .i64 0]), 3, 24) := by kernel_rfl

set_option maxRecDepth 100000 in
set_option maxHeartbeats 2000000 in
theorem chars_ok (s : ByteArray) (w : World) (hs : s.size ≤ maxLen) (hle : s.size ≤ 65536) (hok : checkN s.data.toList = 0) :
    Calls Tryz.prog 51 #[.string s] w fun e w' => (∃ v, e = .returned (.tuple #[v, .int .i64 0]) ∧ w'.ownsRow w.heap.size 81 3 v (chs (parts s.data.toList)).length (charCells (chs (parts s.data.toList)))) ∧ Below w.heap.size w w' := by
  obtain ⟨i0, hi, hz0, hz1, hz2⟩ := info_parts infoChar
  refine (callsIn_wide (n := 20)).1 ?_
  refine callsIn_of_wp_marks Tryz.func51 rfl trivial ?_ rfl
  simp only [Tryz.ntmps51, List.size_toArray, List.length_cons, List.length_nil, Nat.reduceAdd, Nat.reduceSub, Array.replicate_succ, Array.replicate_zero, List.push_toArray, List.append_toArray, List.nil_append, List.cons_append]
  gi_wp2
  refine ⟨trivial, (callsIn_wide.2 (check_any s w hs)).mono ?_⟩
  rintro e w1 ⟨rfl, hb1⟩
  rw [hok]
  gi_wp2
  refine ⟨trivial, (callsIn_wide.2 (parts_any _ _)).mono ?_⟩
  rintro e w' ⟨rfl, rfl⟩
  gi_wp2
  have hlen := ptsFrom_length hle
  have bL := (Boxed.new w1 77 (.slice none 0 0)).alloc (.cells #[.string s] 9)
  have bN := Boxed.new (w1.alloc (.cells #[.slice none 0 0] 77)) 9 (.string s)
  simp only [World.size_alloc] at bN
  have hB0 : Below w.heap.size w ((w1.alloc (.cells #[.slice none 0 0] 77)).alloc (.cells #[.string s] 9)) := hb1.trans ((below2 w1 _ _).mono hb1.size)
  have hs1 := hb1.size
  have hsz : w1.heap.size + 2 ≤ ((w1.alloc (.cells #[.slice none 0 0] 77)).alloc (.cells #[.string s] 9)).heap.size := by simp
  obtain ⟨W0, hW0⟩ : ∃ W0, (w1.alloc (.cells #[.slice none 0 0] 77)).alloc (.cells #[.string s] 9) = W0 := ⟨_, rfl⟩
  rw [hW0] at bL bN hB0 hsz ⊢
  clear hW0
  refine wpIn_rangeFunc_ownH rfl (by decide) (gf := 90) (lb := #[.pointer (some ⟨w1.heap.size + 1, 0, none⟩)]) rfl trivial (enters_of Tryz.func90 (by kernel_rfl) rfl)
    (parts_stops _ (by decide) s hle (w1.heap.size + 1) W0 bN) keepsBox_t (keepsBox_b (n := W0.heap.size)) (Below.refl _ _) (fun _ => rfl)
    (fun pre W => (∃ v, Boxed W w1.heap.size 77 v ∧ W.ownsRow w.heap.size 81 3 v (chsP pre).length (charCells (chsP pre)) ∧ Tr pre v) ∧ Below w.heap.size w W)
    (fun _ _ _ => False)
    (OwnFrom.and (Own.from (holdsRow_own w.heap.size w1.heap.size 77 81 3 (fun pre => (chsP pre).length) (fun pre => charCells (chsP pre)) Tr) _) (ownFrom_below (Nat.le_refl _) (by omega)))
    (fun _ _ _ _ _ hs' _ _ => hs')
    ⟨⟨_, bL, World.ownsRow_nil _ _ _ _, trivial⟩, hB0⟩
    (fun x a' W => ∃ Bx, w1.heap.size < Bx ∧ W.heap[Bx]? = some (.cells #[.int .u8 x.1.b.toNat, .int .i64 x.1.at', .int .i64 x.1.n, .bool x.1.sp] 122 (0, 0)) ∧ a' = { tmps := #[.string s, undef, .slice none 0 0, .int .i64 0, .int .i64 0, .pointer (some ⟨w1.heap.size, 0, none⟩), .pointer (some ⟨Bx, 0, none⟩), .string s, .int .i64 0, .int .i64 0, .bool false, undef, .string s, .func (.func 90) #[] #[.pointer (some ⟨w1.heap.size + 1, 0, none⟩)], .agg #[.int .u8 x.1.b.toNat, .int .i64 x.1.at', .int .i64 x.1.n, .bool x.1.sp], undef, undef, undef, undef, undef, undef, undef, undef, undef], defers := [] })
    (fun x a' _ X Y row hs' hg hr => by
      obtain ⟨Bx, h1, h2, h3⟩ := hs'
      refine ⟨Bx, h1, (hg.block Bx (Array.getElem?_eq_some_iff.1 h2).1 (fun e => ?_)).trans h2, h3⟩
      obtain ⟨_, o, ho, hc⟩ := hr Bx e.symm
      rw [h2] at ho; cases ho; cases hc)
    ?assign ?body ?done ?stop
  case assign =>
    rintro l pre x W K ⟨⟨v, bL1, hrow, _⟩, hB1⟩ hK
    gi_wp2
    exact hK _ _ ((KeepsOthers.alloc _ _).from _) (keepsBox_below (below1 _ _)) ⟨⟨v, bL1.alloc _, hrow.alloc _, trivial⟩, hB1.alloc hB1.size _⟩ ⟨W.heap.size, bL1.lt, World.alloc_heap_new _ _, rfl⟩
  case body =>
    rintro l pre x a' W hl ⟨r, hr⟩ ⟨⟨v, bL1, hrow, _⟩, hB1⟩ ⟨Bx, hBx, bX, rfl⟩ hlt
    have d0 : W.cell? ⟨Bx, 0, none⟩ = some (.int .u8 x.1.b.toNat) := by rw [Lib.cell_of_heap bX]; rfl
    have d1 : W.cell? ⟨Bx, 1, none⟩ = some (.int .i64 x.1.at') := by rw [Lib.cell_of_heap bX]; rfl
    have d2 : W.cell? ⟨Bx, 2, none⟩ = some (.int .i64 x.1.n) := by rw [Lib.cell_of_heap bX]; rfl
    have d3 : W.cell? ⟨Bx, 3, none⟩ = some (.bool x.1.sp) := by rw [Lib.cell_of_heap bX]; rfl
    have hc := bL1.cell
    have hcl := chsP_length pre
    gi_wp2_with (gi_at_builtin; refine wpListIn_append_own _ rfl _ _ 77 rfl w.heap.size 81 i0 (.agg #[.int .u8 0, .int .i64 0, .int .i64 0]) 3 24 Tryz.underlying77 hi hz0 hz1 hz2 rfl (by decide) _ _ _ rfl (hrow.alloc _) ⟨W.heap.size, 0, none⟩ 1 1 (charCell x.1) rfl rfl (cell_three_new _ _ _ _ _) (by simp [Value.oneCell', charCell]) (by unfold maxLen; omega) (by omega) (by have := hB1.size; simp; omega) ?_; intro v' w2 hown' hgrow _; obtain ⟨g', cap', rfl⟩ := ownsRow_succ hown'; obtain ⟨hv1, hv2, hr2, hk2, hb2⟩ := bL1.appended (by decide) hrow hB1.size hs1 hown' hgrow; have hc1 := hv1.cell; have hf1 := hv1.frozen; have hkb : KeepsBox 122 (w1.heap.size + 1) 9 W (w2.setCell ⟨w1.heap.size, 0, none⟩ (.slice (some ⟨g', 0, none⟩) ((chsP pre).length + 1) cap')) := keepsBox_t (keepsBox_below (below1 W _)) (keepsBox_t (keepsBox_row hgrow (hrow.alloc _) (by decide) (by decide)) (keepsBox_set hv1 (by decide) (by omega) _)))
    · have hsp : x.1.sp = false := by first | assumption | simpa using (show (!x.1.sp) = true by assumption)
      exact ⟨hk2.from _, hkb, ⟨_, hv2, chsP_rowY hsp hr2, trivial⟩, hB1.trans hb2⟩
    · have hsp : x.1.sp = true := by first | assumption | simpa using (show (!x.1.sp) = false by assumption)
      exact ⟨KeepsFrom.refl _ _, keepsBox_r _, ⟨v, bL1, by rw [chsP_no pre hsp]; exact hrow, trivial⟩, hB1⟩
  case done =>
    rintro D ys W hD rfl ⟨⟨v, bL1, hrow, _⟩, hB1⟩ hK
    have hc := bL1.cell
    gi_wp2
    refine ⟨by simp, .inl ⟨_, _, rfl, run_takeDeferred hK, ?_⟩⟩
    refine ⟨_, results_tmp2 rfl _ _ _, ?_⟩
    refine ⟨⟨v, rfl, ?_⟩, hB1.trans (belowK_b (w := w) (Nat.le_refl _) W D _ _ (by omega) hK rfl rfl)⟩
    rw [chsP_all] at hrow
    exact ownsRow_putObj hrow _ hK rfl
  case stop =>
    rintro D c pre W _ _ h _
    exact h.elim

theorem check_cases (l : List UInt8) : (checkN l = 0 ∧ l.length ≤ 65536) ∨ checkN l = 3 ∨ checkN l = 10 := by
  unfold checkN
  by_cases h : 65536 < l.length
  · rw [if_pos h]; exact .inr (.inl rfl)
  · rw [if_neg h]
    cases wellB l
    · exact .inr (.inr rfl)
    · exact .inl ⟨rfl, by omega⟩

set_option maxHeartbeats 400000 in
theorem chars_bad (s : ByteArray) (w : World) (hs : s.size ≤ maxLen) (n : Int) (hn : checkN s.data.toList = n) (h3 : n = 3 ∨ n = 10) :
    Calls Tryz.prog 51 #[.string s] w fun e w' => e = .returned (.tuple #[.slice none 0 0, .int .i64 n]) ∧ Below w.heap.size w w' := by
  have HN := Lib.hid hn
  clear hn
  rcases h3 with rfl | rfl
  all_goals
    go_enter Tryz.func51, Tryz.ntmps51
    go_wp2_with (go_at_call 70; refine (check_any s _ hs).mono ?_; rintro e w1 ⟨rfl, hb1⟩; rw [HN.out])
    go_ret2
    exact ⟨rfl, hb1⟩

/-- phys.Chars AT EVERY TEXT. -/
theorem chars_any (s : ByteArray) (w : World) (hs : s.size ≤ maxLen) :
    Calls Tryz.prog 51 #[.string s] w fun e w' => (∃ v, e = .returned (.tuple #[v, .int .i64 (checkN s.data.toList)]) ∧ w'.ownsRow w.heap.size 81 3 v (charsOf s.data.toList).length (charCells (charsOf s.data.toList))) ∧ Below w.heap.size w w' := by
  rcases check_cases s.data.toList with ⟨h, hl⟩ | h | h
  · rw [charsOf_ok h, h]
    exact chars_ok s w hs hl h
  · rw [charsOf_bad (by rw [h]; decide), h]
    exact (chars_bad s w hs 3 h (.inl rfl)).mono fun e w' ⟨he, hb⟩ => ⟨⟨_, he, World.ownsRow_nil _ _ _ _⟩, hb⟩
  · rw [charsOf_bad (by rw [h]; decide), h]
    exact (chars_bad s w hs 10 h (.inr rfl)).mono fun e w' ⟨he, hb⟩ => ⟨⟨_, he, World.ownsRow_nil _ _ _ _⟩, hb⟩

end Go.Proofs.YtaodjipnffgihaaGreat

namespace Go.Proofs.YtaodjipnffgihaaGreat
open Go.RowKit Go.Shelf

attribute [local go_sem] Oper.semAt_some

/-- The bytes of characters. -/
def chB (ps : List Part) : List UInt8 := (chs ps).map (·.b)
theorem chB_yes (ps : List Part) {p : Part} (h : p.sp = false) : chB (ps ++ [p]) = chB ps ++ [p.b] := by simp [chB, chs_yes _ h]
theorem chB_no (ps : List Part) {p : Part} (h : p.sp = true) : chB (ps ++ [p]) = chB ps := by simp [chB, chs_no _ h]
theorem chB_length (ps : List Part) : (chB ps).length ≤ ps.length := by simp only [chB, List.length_map]; exact chs_length ps

/-- A text's logical text, as Logical answers it. -/
def logicalOf (l : List UInt8) : List UInt8 := if checkN l = 0 then chB (parts l) else []
theorem logicalOf_ok {l : List UInt8} (h : checkN l = 0) : logicalOf l = chB (parts l) := by unfold logicalOf; rw [if_pos h]
theorem logicalOf_bad {l : List UInt8} (h : ¬ checkN l = 0) : logicalOf l = [] := by unfold logicalOf; rw [if_neg h]

def chBP (pre : List Pt) : List UInt8 := chB (pre.map (·.1))
theorem chBP_yes (pre : List Pt) {x : Pt} (h : x.1.sp = false) : chBP (pre ++ [x]) = chBP pre ++ [x.1.b] := by
  unfold chBP; rw [List.map_append]; exact chB_yes _ h
theorem chBP_no (pre : List Pt) {x : Pt} (h : x.1.sp = true) : chBP (pre ++ [x]) = chBP pre := by
  unfold chBP; rw [List.map_append]; exact chB_no _ h
theorem chBP_length (pre : List Pt) : (chBP pre).length ≤ pre.length := by
  have := chB_length (pre.map (·.1)); rw [List.length_map] at this; exact this
theorem chBP_all (s : ByteArray) (hs : s.size ≤ 65536) : chBP (ptsFrom s.data.toList hs 0) = chB (parts s.data.toList) := by
  unfold chBP parts; rw [ptsFrom_val]

theorem builder_own {β : Type} (T e : TypeId) (B b : Nat) (f : β → List Value) : Own (fun s W => Lib.IsBuilderF T e B b (f s) W) := by
  have key : ∀ (p : Value) (bs : List Value) (X Y : World) (row : Option Nat), Lib.BuilderAtF T e B b p bs X → X.grownBy Y row → (∀ r, row = some r → ∃ o : Obj, X.heap[r]? = some o ∧ o.isCells = false) → Lib.BuilderAtF T e B b p bs Y := by
    intro p bs X Y row h hg hr
    have hlt := h.lt
    obtain ⟨hB, v, hb, hown, hne⟩ := h
    refine ⟨hB, v, (hg.block b hlt (fun e' => ?_)).trans hb, hown.kept hg ?_, hne⟩
    · obtain ⟨o, ho, hc⟩ := hr b e'.symm
      rw [hb] at ho; cases ho; cases hc
    · rcases hown.2 with ⟨rfl, _⟩ | ⟨g, cap, cur, fz, rfl, _, hgb, _⟩
      · exact .inl rfl
      · refine .inr fun e' => ?_
        obtain ⟨o, ho, hc⟩ := hr g (by simpa [Value.ownBlock] using e'.symm)
        rw [hgb] at ho; cases ho; cases hc
  intro s X Y row h hg hr
  rcases h with h | h
  · exact .inl (key _ _ _ _ _ h hg hr)
  · exact .inr (key _ _ _ _ _ h hg hr)

theorem builder_heap {T e : TypeId} {B b : Nat} {bs : List Value} {W : World} (h : Lib.IsBuilderF T e B b bs W) : ∃ cs, W.heap[b]? = some (.cells cs T (0, 0)) := by
  rcases h with ⟨_, v, hb, _⟩ | ⟨_, v, hb, _⟩
  · exact ⟨_, hb⟩
  · exact ⟨_, hb⟩

theorem keepsOthers_of_others {e : TypeId} {b : Nat} {W W' : World} {cs : Array Value} {T : TypeId} {fz : Nat × Nat} (h : Lib.OthersKept e (some b) W W') (hs : W.heap.size ≤ W'.heap.size) (hb : W.heap[b]? = some (.cells cs T fz)) : KeepsOthers W W' :=
  ⟨hs, fun k o hk ho => h k o hk (fun e' => by
    obtain rfl : k = b := by simpa using e'
    rw [hb] at hk; cases hk; cases ho) (fun c f h' => by subst h'; cases ho)⟩

set_option maxRecDepth 100000 in
set_option maxHeartbeats 2000000 in
theorem logical_ok (s : ByteArray) (w : World) (hs : s.size ≤ maxLen) (hle : s.size ≤ 65536) (hok : checkN s.data.toList = 0) :
    Calls Tryz.prog 50 #[.string s] w fun e w' => e = .returned (.tuple #[.string ⟨(chB (parts s.data.toList)).toArray⟩, .int .i64 0]) ∧ Below w.heap.size w w' := by
  refine (callsIn_wide (n := 20)).1 ?_
  refine callsIn_of_wp_marks Tryz.func50 rfl trivial ?_ rfl
  simp only [Tryz.ntmps50, List.size_toArray, List.length_cons, List.length_nil, Nat.reduceAdd, Nat.reduceSub, Array.replicate_succ, Array.replicate_zero, List.push_toArray, List.append_toArray, List.nil_append, List.cons_append]
  gi_wp2
  refine ⟨trivial, (callsIn_wide.2 (check_any s w hs)).mono ?_⟩
  rintro e w1 ⟨rfl, hb1⟩
  rw [hok]
  gi_wp2
  refine ⟨trivial, (callsIn_wide.2 (parts_any _ _)).mono ?_⟩
  rintro e w' ⟨rfl, rfl⟩
  gi_wp2
  have hlen := ptsFrom_length hle
  have hs1 := hb1.size
  have bL : Lib.IsBuilderF 61 5 w.heap.size w1.heap.size (Lib.byteCells (chBP [])) ((w1.alloc (.cells #[.pointer none, .slice none 0 0] 61)).alloc (.cells #[.string s] 9)) := by
    refine Lib.IsBuilderF.alloc (.inl ⟨hs1, .slice none 0 0, World.alloc_heap_new w1 _, ⟨rfl, .inl ⟨rfl, rfl⟩⟩, by simp [Value.ownBlock]⟩) _
  have bN := Boxed.new (w1.alloc (.cells #[.pointer none, .slice none 0 0] 61)) 9 (.string s)
  simp only [World.size_alloc] at bN
  have hB0 : Below w.heap.size w ((w1.alloc (.cells #[.pointer none, .slice none 0 0] 61)).alloc (.cells #[.string s] 9)) := hb1.trans ((below2 w1 _ _).mono hb1.size)
  have hsz : w1.heap.size + 2 ≤ ((w1.alloc (.cells #[.pointer none, .slice none 0 0] 61)).alloc (.cells #[.string s] 9)).heap.size := by simp
  obtain ⟨W0, hW0⟩ : ∃ W0, (w1.alloc (.cells #[.pointer none, .slice none 0 0] 61)).alloc (.cells #[.string s] 9) = W0 := ⟨_, rfl⟩
  rw [hW0] at bL bN hB0 hsz ⊢
  clear hW0
  refine wpIn_rangeFunc_ownH rfl (by decide) (gf := 90) (lb := #[.pointer (some ⟨w1.heap.size + 1, 0, none⟩)]) rfl trivial (enters_of Tryz.func90 (by kernel_rfl) rfl)
    (parts_stops _ (by decide) s hle (w1.heap.size + 1) W0 bN) keepsBox_t (keepsBox_b (n := W0.heap.size)) (Below.refl _ _) (fun _ => rfl)
    (fun pre W => (Lib.IsBuilderF 61 5 w.heap.size w1.heap.size (Lib.byteCells (chBP pre)) W) ∧ Below w.heap.size w W)
    (fun _ _ _ => False)
    (OwnFrom.and (Own.from (builder_own _ _ _ _ (fun pre => Lib.byteCells (chBP pre))) _) (ownFrom_below (Nat.le_refl _) (by omega)))
    (fun _ _ _ _ _ hs' _ _ => hs')
    ⟨bL, hB0⟩
    (fun x a' W => ∃ Bx, w1.heap.size < Bx ∧ W.heap[Bx]? = some (.cells #[.int .u8 x.1.b.toNat, .int .i64 x.1.at', .int .i64 x.1.n, .bool x.1.sp] 122 (0, 0)) ∧ a' = { tmps := #[.string s, undef, .string ⟨#[]⟩, .int .i64 0, .int .i64 0, .pointer (some ⟨w1.heap.size, 0, none⟩), .pointer (some ⟨Bx, 0, none⟩), .string s, .int .i64 0, .int .i64 0, .bool false, undef, .string s, .func (.func 90) #[] #[.pointer (some ⟨w1.heap.size + 1, 0, none⟩)], .agg #[.int .u8 x.1.b.toNat, .int .i64 x.1.at', .int .i64 x.1.n, .bool x.1.sp], undef, undef, undef, undef, undef, undef, undef, undef], defers := [] })
    (fun x a' _ X Y row hs' hg hr => by
      obtain ⟨Bx, h1, h2, h3⟩ := hs'
      refine ⟨Bx, h1, (hg.block Bx (Array.getElem?_eq_some_iff.1 h2).1 (fun e => ?_)).trans h2, h3⟩
      obtain ⟨_, o, ho, hc⟩ := hr Bx e.symm
      rw [h2] at ho; cases ho; cases hc)
    ?assign ?body ?done ?stop
  case assign =>
    rintro l pre x W K ⟨bL1, hB1⟩ hK
    obtain ⟨cs, hbl⟩ := builder_heap bL1
    gi_wp2
    exact hK _ _ ((KeepsOthers.alloc _ _).from _) (keepsBox_below (below1 _ _)) ⟨bL1.alloc _, hB1.alloc hB1.size _⟩ ⟨W.heap.size, (Array.getElem?_eq_some_iff.1 hbl).1, World.alloc_heap_new _ _, rfl⟩
  case body =>
    rintro l pre x a' W hl ⟨r, hr⟩ ⟨bL1, hB1⟩ ⟨Bx, hBx, bX, rfl⟩ hlt
    have d0 : W.cell? ⟨Bx, 0, none⟩ = some (.int .u8 x.1.b.toNat) := by rw [Lib.cell_of_heap bX]; rfl
    have d1 : W.cell? ⟨Bx, 1, none⟩ = some (.int .i64 x.1.at') := by rw [Lib.cell_of_heap bX]; rfl
    have d2 : W.cell? ⟨Bx, 2, none⟩ = some (.int .i64 x.1.n) := by rw [Lib.cell_of_heap bX]; rfl
    have d3 : W.cell? ⟨Bx, 3, none⟩ = some (.bool x.1.sp) := by rw [Lib.cell_of_heap bX]; rfl
    obtain ⟨cs, hbl⟩ := builder_heap bL1
    have hcl := chBP_length pre
    have hbytes : (Lib.byteCells (chBP pre)).length + 1 ≤ 140737488355328 := by rw [Lib.byteCells_length]; omega
    gi_wp2_with (refine ⟨trivial, ?_⟩; gi_at_call 30; refine (CallsIn.inRound l (callsIn_wide.2 (writeByte_k w.heap.size w1.heap.size _ _ _ bL1 hbytes hB1.size))).mono ?_; rintro e w2 ⟨rfl, hI2, hB2, hk2⟩)
    · have hsp : x.1.sp = false := by first | assumption | simpa using (show (!x.1.sp) = true by assumption)
      refine ⟨(keepsOthers_of_others hk2 hB2.size hbl).from _, keepsBox_others hk2 hbl (by decide) (by decide) (by omega) (by decide), ?_, hB1.trans hB2⟩
      rw [chBP_yes pre hsp, Lib.byteCells_append]
      exact .inr hI2
    · have hsp : x.1.sp = true := by first | assumption | simpa using (show (!x.1.sp) = false by assumption)
      exact ⟨KeepsFrom.refl _ _, keepsBox_r _, by rw [chBP_no pre hsp]; exact bL1, hB1⟩
  case done =>
    rintro D ys W hD rfl ⟨bL1, hB1⟩ hK
    rw [chBP_all] at bL1
    obtain ⟨cs, hbl⟩ := builder_heap bL1
    gi_wp2
    refine ⟨trivial, (callsIn_wide.2 (Tryz.Builder_String_any_k w.heap.size w1.heap.size _ _ bL1 hB1.size)).mono ?_⟩
    rintro e w2 ⟨rfl, _, hB2, hk2⟩
    gi_wp2
    have hK2 : w2.heap[D]? = some (.deferred (some [])) := hk2 D _ hK (fun e' => by
      obtain rfl : D = w1.heap.size := by simpa using e'
      rw [hbl] at hK; cases hK) (fun c f h' => by cases h')
    refine ⟨by simp, .inl ⟨_, _, rfl, run_takeDeferred hK2, ?_⟩⟩
    refine ⟨_, results_tmp2 rfl _ _ _, ?_⟩
    exact ⟨rfl, (hB1.trans hB2).trans (belowK_b (w := w) (Nat.le_refl _) w2 D _ _ (by omega) hK2 rfl rfl)⟩
  case stop =>
    rintro D c pre W _ _ h _
    exact h.elim

set_option maxHeartbeats 400000 in
theorem logical_bad (s : ByteArray) (w : World) (hs : s.size ≤ maxLen) (n : Int) (hn : checkN s.data.toList = n) (h3 : n = 3 ∨ n = 10) :
    Calls Tryz.prog 50 #[.string s] w fun e w' => e = .returned (.tuple #[.string ⟨#[]⟩, .int .i64 n]) ∧ Below w.heap.size w w' := by
  have HN := Lib.hid hn
  clear hn
  rcases h3 with rfl | rfl
  all_goals
    go_enter Tryz.func50, Tryz.ntmps50
    go_wp2_with (go_at_call 70; refine (check_any s _ hs).mono ?_; rintro e w1 ⟨rfl, hb1⟩; rw [HN.out])
    go_ret2
    exact ⟨rfl, hb1⟩

/-- phys.Logical AT EVERY TEXT. -/
theorem logical_any (s : ByteArray) (w : World) (hs : s.size ≤ maxLen) :
    Calls Tryz.prog 50 #[.string s] w fun e w' => e = .returned (.tuple #[.string ⟨(logicalOf s.data.toList).toArray⟩, .int .i64 (checkN s.data.toList)]) ∧ Below w.heap.size w w' := by
  rcases check_cases s.data.toList with ⟨h, hl⟩ | h | h
  · rw [logicalOf_ok h, h]
    exact logical_ok s w hs hl h
  · rw [logicalOf_bad (by rw [h]; decide), h]
    exact logical_bad s w hs 3 h (.inl rfl)
  · rw [logicalOf_bad (by rw [h]; decide), h]
    exact logical_bad s w hs 10 h (.inr rfl)

end Go.Proofs.YtaodjipnffgihaaGreat

namespace Go.Proofs.YtaodjipnffgihaaGreat
open Go.RowKit Go.Shelf

/-- Where the first text that is s stands; -1: nowhere. -/
def firstX (s : ByteArray) : List ByteArray → Nat → Int
  | [], _ => -1
  | r :: l, k => if s.toList == r.toList then (k : Int) else firstX s l (k + 1)
theorem firstX_step {s : ByteArray} {l : List ByteArray} {k : Nat} {r : ByteArray} (h : l[k]? = some r) : firstX s (l.drop k) k = if s.toList == r.toList then (k : Int) else firstX s (l.drop (k + 1)) (k + 1) := by
  rw [List.drop_eq_getElem_cons (List.getElem?_eq_some_iff.1 h).1, (List.getElem?_eq_some_iff.1 h).2, firstX]
theorem firstX_end {s : ByteArray} {l : List ByteArray} {k : Nat} (h : l.length ≤ k) : firstX s (l.drop k) k = -1 := by
  rw [List.drop_eq_nil_of_le h]; rfl
theorem beq_turn (a b : List UInt8) : (a == b) = (b == a) := by
  rw [Bool.eq_iff_iff, beq_iff_eq, beq_iff_eq]; exact eq_comm
theorem firstX_any (s : ByteArray) : ∀ (l : List ByteArray) (k : Nat), decide (0 ≤ firstX s l k) = amongS l s
  | [], k => rfl
  | r :: l, k => by
    rw [firstX, amongS, List.any_cons, beq_turn]
    cases (r.toList == s.toList)
    · simp only [Bool.false_or]; exact firstX_any s l (k + 1)
    · simp

set_option maxRecDepth 100000 in
set_option maxHeartbeats 4000000 in
theorem sIndex_any (ss : List ByteArray) (s : ByteArray) (n cap : Nat) (a : Option Addr) (w : World) (hn : ss.length = n) (hn2 : n * 16 ≤ 140737488355328) (hT : StrIn w a ss) :
    Calls Tryz.prog 109 #[.slice a n cap, .string s] w fun e w' => e = .returned (.int .i64 (firstX s ss 0)) ∧ Below w.heap.size w w' := by
  have HN := Lib.hid hn
  have HT := Lib.hid hT
  obtain ⟨R, hR⟩ : ∃ R, firstX s ss 0 = R := ⟨_, rfl⟩
  rw [hR]
  have HR : Hid (R = firstX s (ss.drop 0) 0) := Lib.hid hR.symm
  clear hn hT hR
  go_enter Tryz.func109, Tryz.ntmps109
  go_wp2
  go_loopw [8] (fun i wx => ∃ k : Nat, k ≤ n ∧ i = .int .i64 k ∧ Hid (R = firstX s (ss.drop k) k) ∧ Below w.heap.size w wx) (fun i _ => n - (intOf i).toNat)
  case atStart => exact ⟨0, Nat.zero_le _, rfl, HR, Below.refl _ _⟩
  case round =>
    obtain ⟨k, hk, rfl, HK, hbx⟩ := hrel
    by_cases hlt : k < n
    · obtain ⟨r, hr⟩ : ∃ r, ss[k]? = some r := ⟨_, List.getElem?_eq_getElem (by rw [HN.out]; exact hlt)⟩
      obtain ⟨b, o, rfl, hg1, hrz⟩ := HT.out (by rw [HN.out]; omega)
      have c0 := (hrz.below hbx hg1) k r hr
      have hst := HK.out
      rw [firstX_step hr] at hst
      have HS := Lib.hid hst
      clear hr hrz hst HK
      have j1 : (k : Int) < (n : Int) := by omega
      have j0 : (0 : Int) ≤ (k : Int) := by omega
      cases htl : (s.toList == r.toList) with
      | true =>
        have HS2 : Hid (R = (k : Int)) := Lib.hid (by rw [HS.out, htl]; rfl)
        clear HS
        go_wp2
        go_ret
        exact ⟨ri (by rw [HS2.out]), hbx⟩
      | false =>
        have HS2 : Hid (R = firstX s (ss.drop (k + 1)) (k + 1)) := Lib.hid (by rw [HS.out, htl]; rfl)
        clear HS
        go_wp2
        refine ⟨⟨k + 1, by omega, by go_num, HS2, hbx⟩, ?_⟩
        simp [intOf]; omega
    · have HS2 : Hid (R = -1) := Lib.hid (by rw [HK.out]; exact firstX_end (by rw [HN.out]; omega))
      clear HK
      go_wp2
      go_ret
      exact ⟨ri (by rw [HS2.out]), hbx⟩

set_option maxHeartbeats 1000000 in
theorem sContains_any (ss : List ByteArray) (s : ByteArray) (n cap : Nat) (a : Option Addr) (w : World) (hn : ss.length = n) (hn2 : n * 16 ≤ 140737488355328) (hT : StrIn w a ss) :
    Calls Tryz.prog 99 #[.slice a n cap, .string s] w fun e w' => e = .returned (.bool (amongS ss s)) ∧ Below w.heap.size w w' := by
  have CI := sIndex_any ss s n cap a w hn hn2 hT
  have HA := Lib.hid (firstX_any s ss 0)
  obtain ⟨R, hR⟩ : ∃ R, firstX s ss 0 = R := ⟨_, rfl⟩
  rw [hR] at CI HA
  clear hn hT hR
  by_cases h0 : 0 ≤ R
  · have HB : Hid (amongS ss s = true) := Lib.hid (by rw [← HA.out]; exact decide_eq_true h0)
    clear HA
    go_enter Tryz.func99, Tryz.ntmps99
    go_wp2_with fail
    refine CI.mono ?_
    rintro e w1 ⟨rfl, hb1⟩
    go_wp2
    go_ret
    exact ⟨rb (by rw [HB.out] <;> simp [h0]), hb1⟩
  · have HB : Hid (amongS ss s = false) := Lib.hid (by rw [← HA.out]; exact decide_eq_false h0)
    clear HA
    go_enter Tryz.func99, Tryz.ntmps99
    go_wp2_with fail
    refine CI.mono ?_
    rintro e w1 ⟨rfl, hb1⟩
    go_wp2
    go_ret
    exact ⟨rb (by rw [HB.out] <;> simp [h0]), hb1⟩

set_option maxHeartbeats 2000000 in
/-- macro.spells. -/
theorem spells_any (t : Tz) (q : Int) (ss : List ByteArray) (n cap : Nat) (a : Option Addr) (w : World) (hn : ss.length = n) (hn2 : n * 16 ≤ 140737488355328) (hT : StrIn w a ss) :
    Calls Tryz.prog 81 #[.agg #[.int .i64 t.k, .string t.tx, .int .i64 t.a, .int .i64 t.e, .bool t.sp], .int .i64 q, .slice a n cap] w fun e w' => e = .returned (.bool (t.k == q && amongS ss t.tx)) ∧ Below w.heap.size w w' := by
  have hb0 := below1 w (.cells #[.int .i64 t.k, .string t.tx, .int .i64 t.a, .int .i64 t.e, .bool t.sp] 83)
  have CC := sContains_any ss t.tx n cap a _ hn hn2 (hT.below hb0)
  obtain ⟨C, hC⟩ : ∃ C, amongS ss t.tx = C := ⟨_, rfl⟩
  rw [hC] at CC
  rw [hC]
  clear hn hT hC
  cases h5 : (t.k == q)
  · go_enter Tryz.func81, Tryz.ntmps81
    go_wp2
    go_ret
    exact ⟨rfl, hb0⟩
  · go_enter Tryz.func81, Tryz.ntmps81
    go_wp2_with fail
    refine CC.mono ?_
    rintro e w1 ⟨rfl, hb1⟩
    go_wp2
    go_ret
    exact ⟨rb (by rfl), hb0.trans (hb1.mono hb0.size)⟩

end Go.Proofs.YtaodjipnffgihaaGreat

namespace Go.Proofs.YtaodjipnffgihaaGreat
open Go.RowKit Go.Shelf

theorem among1 (a s : ByteArray) : amongS [a] s = (a.toList == s.toList) := by simp [amongS]
theorem pasteB_eq (t : Tz) : pasteB t = (t.k == 5 && amongS [⟨#[35, 35]⟩, ⟨#[37, 58, 37, 58]⟩] t.tx) := by
  unfold pasteB isP amongS
  simp only [List.any_cons, List.any_nil, Bool.or_false]
  rw [show (⟨#[35, 35]⟩ : ByteArray).toList = [35, 35] from Lib.toList_data _, show (⟨#[37, 58, 37, 58]⟩ : ByteArray).toList = [37, 58, 37, 58] from Lib.toList_data _, beq_turn [35, 35], beq_turn [37, 58, 37, 58], Bool.and_or_distrib_left]
theorem isP_eq (t : Tz) (a : ByteArray) (l : List UInt8) (h : a.toList = l) : isP t l = (t.k == 5 && amongS [a] t.tx) := by
  unfold isP
  rw [among1, h, beq_turn]
theorem hashP_eq (t : Tz) : hashP t = (t.k == 5 && amongS [⟨#[35]⟩, ⟨#[37, 58]⟩] t.tx) := by
  unfold hashP isP amongS
  simp only [List.any_cons, List.any_nil, Bool.or_false]
  rw [show (⟨#[35]⟩ : ByteArray).toList = [35] from Lib.toList_data _, show (⟨#[37, 58]⟩ : ByteArray).toList = [37, 58] from Lib.toList_data _, beq_turn [35], beq_turn [37, 58], Bool.and_or_distrib_left]
theorem vaL_eq : (⟨#[95, 95, 86, 65, 95, 65, 82, 71, 83, 95, 95]⟩ : ByteArray).toList = vaL := Lib.toList_data _
theorem isW_eq (t : Tz) : isW t vaL = (t.k == 1 && amongS [⟨#[95, 95, 86, 65, 95, 65, 82, 71, 83, 95, 95]⟩] t.tx) := by
  unfold isW
  rw [among1, vaL_eq, beq_turn]
theorem wordP_eq (t : Tz) : wordP t = (t.k == 1 && !(t.k == 1 && amongS [⟨#[95, 95, 86, 65, 95, 65, 82, 71, 83, 95, 95]⟩] t.tx)) := by
  unfold wordP
  rw [among1, vaL_eq, beq_turn]
  cases t.k == 1 <;> simp
theorem nameP_eq (t : Tz) : nameP t = (t.k == 1 && !(t.k == 1 && amongS [⟨#[100, 101, 102, 105, 110, 101, 100]⟩, ⟨#[95, 95, 86, 65, 95, 65, 82, 71, 83, 95, 95]⟩, ⟨#[95, 95, 76, 73, 78, 69, 95, 95]⟩, ⟨#[95, 80, 114, 97, 103, 109, 97]⟩] t.tx)) := by
  unfold nameP amongS
  simp only [List.any_cons, List.any_nil, Bool.or_false]
  rw [show (⟨#[100, 101, 102, 105, 110, 101, 100]⟩ : ByteArray).toList = [100, 101, 102, 105, 110, 101, 100] from Lib.toList_data _, vaL_eq, show (⟨#[95, 95, 76, 73, 78, 69, 95, 95]⟩ : ByteArray).toList = [95, 95, 76, 73, 78, 69, 95, 95] from Lib.toList_data _, show (⟨#[95, 80, 114, 97, 103, 109, 97]⟩ : ByteArray).toList = [95, 80, 114, 97, 103, 109, 97] from Lib.toList_data _, beq_turn [100, 101, 102, 105, 110, 101, 100], beq_turn vaL, beq_turn [95, 95, 76, 73, 78, 69, 95, 95], beq_turn [95, 80, 114, 97, 103, 109, 97]]
  cases t.k == 1 <;> simp [Bool.or_assoc]

set_option maxHeartbeats 2000000 in
theorem pastes_any (t : Tz) (w : World) :
    Calls Tryz.prog 83 #[.agg #[.int .i64 t.k, .string t.tx, .int .i64 t.a, .int .i64 t.e, .bool t.sp]] w fun e w' => e = .returned (.bool (pasteB t)) ∧ Below w.heap.size w w' := by
  rw [pasteB_eq]
  have hS := strIn_two w (.cells #[.int .i64 t.k, .string t.tx, .int .i64 t.a, .int .i64 t.e, .bool t.sp] 83) 9 #[.string ⟨#[35, 35]⟩, .string ⟨#[37, 58, 37, 58]⟩] [⟨#[35, 35]⟩, ⟨#[37, 58, 37, 58]⟩] rfl
  have CC := spells_any t 5 [⟨#[35, 35]⟩, ⟨#[37, 58, 37, 58]⟩] 2 2 _ _ rfl (by decide) hS
  have hb := below2 w (.cells #[.int .i64 t.k, .string t.tx, .int .i64 t.a, .int .i64 t.e, .bool t.sp] 83) (.cells #[.string ⟨#[35, 35]⟩, .string ⟨#[37, 58, 37, 58]⟩] 9)
  clear hS
  generalize (t.k == 5 && amongS [⟨#[35, 35]⟩, ⟨#[37, 58, 37, 58]⟩] t.tx) = C at *
  go_enter Tryz.func83, Tryz.ntmps83
  go_wp2_with fail
  refine CC.mono ?_
  rintro e w1 ⟨rfl, hb1⟩
  go_wp2
  go_ret
  exact ⟨rfl, hb.trans (hb1.mono hb.size)⟩

set_option maxHeartbeats 2000000 in
theorem mayParam_any (t : Tz) (w : World) :
    Calls Tryz.prog 100 #[.agg #[.int .i64 t.k, .string t.tx, .int .i64 t.a, .int .i64 t.e, .bool t.sp]] w fun e w' => e = .returned (.bool (wordP t)) ∧ Below w.heap.size w w' := by
  rw [wordP_eq]
  have hS := strIn_two w (.cells #[.int .i64 t.k, .string t.tx, .int .i64 t.a, .int .i64 t.e, .bool t.sp] 83) 9 #[.string ⟨#[95, 95, 86, 65, 95, 65, 82, 71, 83, 95, 95]⟩] [⟨#[95, 95, 86, 65, 95, 65, 82, 71, 83, 95, 95]⟩] rfl
  have CC := spells_any t 1 [⟨#[95, 95, 86, 65, 95, 65, 82, 71, 83, 95, 95]⟩] 1 1 _ _ rfl (by decide) hS
  have hb0 := below1 w (.cells #[.int .i64 t.k, .string t.tx, .int .i64 t.a, .int .i64 t.e, .bool t.sp] 83)
  have hb := below2 w (.cells #[.int .i64 t.k, .string t.tx, .int .i64 t.a, .int .i64 t.e, .bool t.sp] 83) (.cells #[.string ⟨#[95, 95, 86, 65, 95, 65, 82, 71, 83, 95, 95]⟩] 9)
  clear hS
  generalize (t.k == 1 && amongS [⟨#[95, 95, 86, 65, 95, 65, 82, 71, 83, 95, 95]⟩] t.tx) = C at *
  cases h1 : (t.k == 1)
  · go_enter Tryz.func100, Tryz.ntmps100
    go_wp2
    go_ret
    exact ⟨rfl, hb0⟩
  · go_enter Tryz.func100, Tryz.ntmps100
    go_wp2_with fail
    refine CC.mono ?_
    rintro e w1 ⟨rfl, hb1⟩
    go_wp2
    go_ret
    exact ⟨rb (by cases C <;> rfl), hb.trans (hb1.mono hb.size)⟩

set_option maxHeartbeats 2000000 in
theorem mayName_any (t : Tz) (w : World) :
    Calls Tryz.prog 79 #[.agg #[.int .i64 t.k, .string t.tx, .int .i64 t.a, .int .i64 t.e, .bool t.sp]] w fun e w' => e = .returned (.bool (nameP t)) ∧ Below w.heap.size w w' := by
  rw [nameP_eq]
  have hS := strIn_two w (.cells #[.int .i64 t.k, .string t.tx, .int .i64 t.a, .int .i64 t.e, .bool t.sp] 83) 9 #[.string ⟨#[100, 101, 102, 105, 110, 101, 100]⟩, .string ⟨#[95, 95, 86, 65, 95, 65, 82, 71, 83, 95, 95]⟩, .string ⟨#[95, 95, 76, 73, 78, 69, 95, 95]⟩, .string ⟨#[95, 80, 114, 97, 103, 109, 97]⟩] [⟨#[100, 101, 102, 105, 110, 101, 100]⟩, ⟨#[95, 95, 86, 65, 95, 65, 82, 71, 83, 95, 95]⟩, ⟨#[95, 95, 76, 73, 78, 69, 95, 95]⟩, ⟨#[95, 80, 114, 97, 103, 109, 97]⟩] rfl
  have CC := spells_any t 1 [⟨#[100, 101, 102, 105, 110, 101, 100]⟩, ⟨#[95, 95, 86, 65, 95, 65, 82, 71, 83, 95, 95]⟩, ⟨#[95, 95, 76, 73, 78, 69, 95, 95]⟩, ⟨#[95, 80, 114, 97, 103, 109, 97]⟩] 4 4 _ _ rfl (by decide) hS
  have hb0 := below1 w (.cells #[.int .i64 t.k, .string t.tx, .int .i64 t.a, .int .i64 t.e, .bool t.sp] 83)
  have hb := below2 w (.cells #[.int .i64 t.k, .string t.tx, .int .i64 t.a, .int .i64 t.e, .bool t.sp] 83) (.cells #[.string ⟨#[100, 101, 102, 105, 110, 101, 100]⟩, .string ⟨#[95, 95, 86, 65, 95, 65, 82, 71, 83, 95, 95]⟩, .string ⟨#[95, 95, 76, 73, 78, 69, 95, 95]⟩, .string ⟨#[95, 80, 114, 97, 103, 109, 97]⟩] 9)
  clear hS
  generalize (t.k == 1 && amongS [⟨#[100, 101, 102, 105, 110, 101, 100]⟩, ⟨#[95, 95, 86, 65, 95, 65, 82, 71, 83, 95, 95]⟩, ⟨#[95, 95, 76, 73, 78, 69, 95, 95]⟩, ⟨#[95, 80, 114, 97, 103, 109, 97]⟩] t.tx) = C at *
  cases h1 : (t.k == 1)
  · go_enter Tryz.func79, Tryz.ntmps79
    go_wp2
    go_ret
    exact ⟨rfl, hb0⟩
  · go_enter Tryz.func79, Tryz.ntmps79
    go_wp2_with fail
    refine CC.mono ?_
    rintro e w1 ⟨rfl, hb1⟩
    go_wp2
    go_ret
    exact ⟨rb (by cases C <;> rfl), hb.trans (hb1.mono hb.size)⟩

end Go.Proofs.YtaodjipnffgihaaGreat

namespace Go.Proofs.YtaodjipnffgihaaGreat
open Go.RowKit

theorem beq_some (c a : UInt8) : (c == a) = (some a == some c) := by
  rw [Bool.eq_iff_iff]
  constructor <;> intro h <;> simp at h ⊢ <;> exact h.symm

theorem hasPrefix_two (l : List UInt8) : Lib.hasPrefix l [92, 10] = (l[0]? == some 92 && l[1]? == some 10) := by
  match l with
  | [] => rfl
  | [a] =>
    show ((92 == a) && false) = ((some a == some 92) && (none == some 10))
    rw [beq_some]; rfl
  | a :: b :: r =>
    show ((92 == a) && ((10 == b) && true)) = ((some a == some 92) && (some b == some 10))
    rw [beq_some, beq_some, Bool.and_true]

theorem misr_yes {l : List UInt8} (h : Lib.hasPrefix l [92, 10] = true) : misr l = true := by
  rw [hasPrefix_two] at h; simp [misr, h]
theorem misr_no {l : List UInt8} (h : Lib.hasPrefix l [92, 10] = false) : misr l = isTri l := by
  rw [hasPrefix_two] at h; simp [misr, h]

set_option maxHeartbeats 400000 in
/-- phys.misread AT EVERY TEXT. -/
theorem misread_any (s : ByteArray) (w : World) (hs : s.size ≤ maxLen) :
    Calls Tryz.prog 31 #[.string s] w fun e w' => e = .returned (.bool (misr s.data.toList)) ∧ w = w' := by
  go_enter Tryz.func31, Tryz.ntmps31
  go_wp2_with (first
    | (go_at_call 48; refine (Tryz.strings_HasPrefix _ _ _).mono ?_; rintro e w' ⟨rfl, rfl⟩)
    | (go_at_call 49; refine (trigraph_any _ _ hs).mono ?_; rintro e w' ⟨rfl, rfl⟩))
  · have h : Lib.hasPrefix s.data.toList [92, 10] = true := by assumption
    go_ret
    exact ⟨ret_bool (misr_yes h).symm, rfl⟩
  · have h : Lib.hasPrefix s.data.toList [92, 10] = false := by assumption
    go_ret
    exact ⟨ret_bool (misr_no h).symm, rfl⟩

theorem spell_result {a : List UInt8} {n : Int} {p : List UInt8 × Int} (h : p = (a, n)) :
    Ending.returned (.tuple #[.string ⟨a.toArray⟩, .int .i64 n]) = .returned (.tuple #[.string ⟨p.1.toArray⟩, .int .i64 p.2]) := by rw [h]

set_option maxRecDepth 100000 in
set_option maxHeartbeats 1000000 in
/-- phys.Spell AT EVERY TEXT. -/
theorem spell_any (s : ByteArray) (w : World) (hs : s.size ≤ maxLen) :
    Calls Tryz.prog 12 #[.string s] w fun e w' => e = .returned (.tuple #[.string ⟨(spellOut s.data.toList).1.toArray⟩, .int .i64 (spellOut s.data.toList).2]) ∧ Below w.heap.size w w' := by
  by_cases hl : 65536 < s.size
  · have H := Lib.hid (spellOut_long hl)
    unfold maxLen at hs
    go_enter Tryz.func12, Tryz.ntmps12
    go_wp2
    go_ret2
    exact ⟨spell_result H.out, Below.refl _ _⟩
  · by_cases he : endsTen s.data.toList = true
    · have HE := Lib.hid he
      have hd : s.toList = [] ∨ (1 ≤ (s.size : Int) ∧ (s.size : Int) - 1 < s.size ∧ ¬ s.toList = [] ∧ ∀ h : s.size - 1 < s.size, ((s[s.size - 1].toNat : Int) != 10) = false) := by
        rcases Nat.eq_zero_or_pos s.size with h0 | h0
        · exact .inl (by rw [ByteArray.toList_eq]; exact List.length_eq_zero_iff.1 (by rw [size_list]; exact h0))
        · refine .inr ⟨by omega, by omega, fun h2 => ?_, fun h => ?_⟩
          · rw [ByteArray.toList_eq] at h2
            have := size_list s; rw [h2] at this; simp at this; omega
          · rw [ends_last h0] at he
            have := of_decide_eq_true he
            rw [this]; rfl
      clear he
      rcases hd with hd | ⟨h1, h2, h3, h4⟩
      all_goals
        go_enter Tryz.func12, Tryz.ntmps12
        go_wp2
      all_goals
        go_loopw [21] (fun i wr => ∃ k : Nat, k ≤ s.size ∧ i = .int .i64 k ∧ Lib.IsBuilderF 61 5 w.heap.size w.heap.size (Lib.byteCells (spellUpto s.data.toList k)) wr ∧ Below w.heap.size w wr) (fun i _ => s.size - (intOf i).toNat)
        case atStart => exact ⟨0, Nat.zero_le _, rfl, Lib.IsBuilderF.of (Lib.fresh_isBuilder _ _ w), below1 _ _⟩
        case round =>
          obtain ⟨k, hk, rfl, hI, hB⟩ := hrel
          by_cases hlt : k < s.size
          · have hx : (s.extract k s.size).size ≤ maxLen := by rw [ByteArray.size_extract]; unfold maxLen; omega
            have HE := Lib.hid (extract_end s k)
            have hu := spellUpto_le s.data.toList k
            have hlen : (Lib.byteCells (spellUpto s.data.toList k)).length + 1 ≤ 140737488355328 := by rw [Lib.byteCells_length]; omega
            have hlen2 : ∀ x : Value, (Lib.byteCells (spellUpto s.data.toList k) ++ [x]).length + (⟨#[92, 10]⟩ : ByteArray).size ≤ 140737488355328 := fun x => by
              rw [List.length_append, Lib.byteCells_length]
              show _ + 1 + 2 ≤ _
              omega
            cases hm : misr (s.data.toList.drop k)
            · have HS := Lib.hid (spellStep_no hlt hm)
              have hm' := hm
              go_wp2_with (first
                | (go_at_call 30; refine (writeByte_k w.heap.size w.heap.size _ _ _ hI hlen hB.size).mono ?_; rintro e w1 ⟨rfl, hI1, hB1, _⟩)
                | (go_at_call 31; refine (misread_any _ _ hx).mono ?_; rintro e w' ⟨rfl, rfl⟩; rw [HE.out]))
              go_roundw
              case rel =>
                refine ⟨k + 1, by omega, by go_num, ?_, hB.trans hB1⟩
                simp only [spellUpto, HS.out, Lib.byteCells_append]
                exact .inr hI1
              case measure => simp [intOf]; omega
            · have HS := Lib.hid (spellStep_yes hlt hm)
              have hm' := hm
              go_wp2_with (first
                | (go_at_call 30; refine (writeByte_k w.heap.size w.heap.size _ _ _ hI hlen hB.size).mono ?_; rintro e w1 ⟨rfl, hI1, hB1, _⟩)
                | (go_at_call 31; refine (misread_any _ _ hx).mono ?_; rintro e w' ⟨rfl, rfl⟩; rw [HE.out])
                | (go_at_call 27; refine (writeString_k w.heap.size w.heap.size _ _ _ (.inr hI1) (hlen2 _) (hB.trans hB1).size).mono ?_; rintro e w2 ⟨rfl, hI2, hB2, _⟩))
              go_roundw
              case rel =>
                refine ⟨k + 1, by omega, by go_num, ?_, (hB.trans hB1).trans hB2⟩
                simp only [spellUpto, HS.out, Lib.byteCells_append, ← List.append_assoc]
                exact .inr hI2
              case measure => simp [intOf]; omega
          · obtain rfl : k = s.size := by omega
            have hu := spellUpto_le s.data.toList s.size
            by_cases hb : 65536 < (spellUpto s.data.toList s.size).length
            · have HB := Lib.hid (spellOut_big hl HE.out hb)
              go_wp2_with (go_at_call 26; refine (Tryz.Builder_Len_f _ _ _ _ hI).mono ?_; rintro e w' ⟨rfl, rfl⟩; rw [Lib.byteCells_length])
              go_ret2
              exact ⟨spell_result HB.out, hB⟩
            · have HB := Lib.hid (spellOut_ok hl HE.out hb)
              go_wp2_with (first
                | (go_at_call 26; refine (Tryz.Builder_Len_f _ _ _ _ hI).mono ?_; rintro e w' ⟨rfl, rfl⟩; rw [Lib.byteCells_length])
                | (go_at_call 29; refine (Tryz.Builder_String_any_k w.heap.size w.heap.size _ _ hI hB.size).mono ?_; rintro e w1 ⟨rfl, _, hB1, _⟩))
              go_ret2
              exact ⟨spell_result HB.out, hB.trans hB1⟩
    · have he' : endsTen s.data.toList = false := by simpa using he
      have h0 : 0 < s.size := by
        rcases Nat.eq_zero_or_pos s.size with h0 | h0
        · exact absurd (ends_empty h0) he
        · exact h0
      have HE := Lib.hid (spellOut_end hl he')
      have h1 : 1 ≤ (s.size : Int) := by omega
      have h2 : (s.size : Int) - 1 < s.size := by omega
      have h3 : ¬ s.toList = [] := fun h2 => by
        rw [ByteArray.toList_eq] at h2
        have := size_list s; rw [h2] at this; simp at this; omega
      have h5 : (!s.toList.isEmpty) = true := by simpa using h3
      have h4 : ∀ h : s.size - 1 < s.size, ((s[s.size - 1].toNat : Int) != 10) = true := fun h => by
        rw [ends_last h0] at he'
        have h7 := of_decide_eq_false he'
        simp only [bne_iff_ne, ne_eq]
        intro h6
        exact h7 (UInt8.toNat_inj.1 (by simp; omega))
      clear he he'
      go_enter Tryz.func12, Tryz.ntmps12
      go_wp2
      go_ret2
      exact ⟨spell_result HE.out, Below.refl _ _⟩

end Go.Proofs.YtaodjipnffgihaaGreat

namespace Go.Proofs.YtaodjipnffgihaaGreat
open Go.RowKit

def sharpB (a : List UInt8) : Bool := a == [35] || a == [37, 58]
def inclB (a : List UInt8) : Bool := a == [105, 110, 99, 108, 117, 100, 101]
/-- What a line's texts so far are. -/
def stOf : List (List UInt8) → Nat
  | [] => 0
  | [a] => if sharpB a then 1 else 3
  | [a, b] => if sharpB a && inclB b then 2 else 3
  | _ => 3
theorem stOf_snoc (ln : List (List UInt8)) (t : List UInt8) {k : Nat} (h8 : k ≠ 8) (h9 : k ≠ 9) : stOf (ln ++ [t]) = lineWith (stOf ln) k t := by
  unfold lineWith
  rw [if_neg h8, if_neg h9]
  match ln with
  | [] =>
    show (if sharpB t then 1 else 3) = _
    unfold sharpB
    cases h : (t == [35] || t == [37, 58]) <;> simp [stOf, h]
  | [a] =>
    show (if sharpB a && inclB t then 2 else 3) = _
    cases ha : sharpB a
    · simp [stOf, ha]
    · cases hb : inclB t
      · unfold inclB at hb; simp [stOf, ha, hb]
      · unfold inclB at hb; simp [stOf, ha, hb]
  | [a, b] =>
    show 3 = _
    cases h : (sharpB a && inclB b) <;> simp [stOf, h]
  | a :: b :: c :: r =>
    show 3 = _
    simp [stOf]

/-- So far read. -/
structure RefT (L : List UInt8) (tks : List Tk) (ln : List (List UInt8)) (e at' : Nat) (sp : Bool) : Prop where
  le : e ≤ at'
  le2 : at' ≤ L.length
  h1 : (toks L 0 0).1 = tks ++ (toks L e (stOf ln)).1
  h2 : (toks L 0 0).2 = (toks L e (stOf ln)).2
  h3 : atOf L e = atOf L at'
  h4 : sp = decide (e < at')
theorem RefT.start (L : List UInt8) : RefT L [] [] 0 0 false := ⟨Nat.le_refl _, Nat.zero_le _, rfl, rfl, rfl, rfl⟩
theorem RefT.white {L : List UInt8} {tks : List Tk} {ln : List (List UInt8)} {e at' : Nat} {sp : Bool} (h : RefT L tks ln e at' sp) (hlt : at' < L.length) (hw : isWS L[at'] = true) : RefT L tks ln e (at' + 1) true :=
  ⟨Nat.le_succ_of_le h.le, hlt, h.h1, h.h2, by
    rw [h.h3]
    unfold atOf
    rw [List.drop_eq_getElem_cons hlt, runLen, if_pos hw]; omega, (decide_eq_true (by have := h.le; omega)).symm⟩
theorem RefT.at {L : List UInt8} {tks : List Tk} {ln : List (List UInt8)} {e at' : Nat} {sp : Bool} (h : RefT L tks ln e at' sp) (hlt : at' < L.length) (hw : isWS L[at'] = false) : atOf L e = at' := by
  rw [h.h3]
  unfold atOf
  rw [List.drop_eq_getElem_cons hlt, runLen, if_neg (by rw [hw]; decide)]; rfl
theorem RefT.tok {L : List UInt8} {tks : List Tk} {ln ln' : List (List UInt8)} {e at' k n : Nat} {sp : Bool} (h : RefT L tks ln e at' sp) (hlt : at' < L.length) (hw : isWS L[at'] = false)
    (hn : nextOf (stOf ln == 2) (L.drop at') = (k, n, 0)) (hln : stOf ln' = lineWith (stOf ln) k ((L.take (at' + n)).drop at')) : RefT L (tks ++ [⟨k, at', at' + n, sp⟩]) ln' (at' + n) (at' + n) false := by
  have ha := h.at hlt hw
  have hx : nextAt L e (stOf ln) = (k, n, 0) := by unfold nextAt; rw [ha]; exact hn
  have ht : tokAt L e (stOf ln) = ⟨k, at', at' + n, sp⟩ := by unfold tokAt; rw [hx, ha, ← h.h4]
  have hst : stAt L e (stOf ln) = stOf ln' := by unfold stAt; rw [hx, ht, hln]; rfl
  have hc := toks_cons (l := L) (e := e) (st := stOf ln) (by rw [ha]; exact hlt) (by rw [hx])
  rw [hst, ht] at hc
  have hlen := nextAt_len (l := L) (e := e) (st := stOf ln) (by rw [ha]; exact hlt) (by rw [hx])
  rw [hx, ha] at hlen
  refine ⟨Nat.le_refl _, hlen.2, ?_, ?_, rfl, (decide_eq_false (Nat.lt_irrefl _)).symm⟩
  · rw [h.h1, hc]; simp
  · rw [h.h2, hc]
theorem RefT.err {L : List UInt8} {tks : List Tk} {ln : List (List UInt8)} {e at' k n r : Nat} {sp : Bool} (h : RefT L tks ln e at' sp) (hlt : at' < L.length) (hw : isWS L[at'] = false)
    (hn : nextOf (stOf ln == 2) (L.drop at') = (k, n, r)) (hr : r ≠ 0) : (toks L 0 0).2 = r := by
  have ha := h.at hlt hw
  have hx : nextAt L e (stOf ln) = (k, n, r) := by unfold nextAt; rw [ha]; exact hn
  rw [h.h2, toks_err (by rw [ha]; exact hlt) (by rw [hx]; exact hr), hx]
theorem RefT.all {L : List UInt8} {tks : List Tk} {ln : List (List UInt8)} {e : Nat} {sp : Bool} (h : RefT L tks ln e L.length sp) : toks L 0 0 = (tks, 0) := by
  have h0 : toks L e (stOf ln) = ([], 0) := toks_end h.le (by rw [h.h3]; exact atOf_ge _ _)
  have h1 := h.h1
  have h2 := h.h2
  rw [h0] at h1 h2
  exact Prod.ext (by rw [h1]; simp) h2
theorem RefT.pos {L : List UInt8} {ln : List (List UInt8)} {at' k n : Nat} (hlt : at' < L.length) (hn : nextOf (stOf ln == 2) (L.drop at') = (k, n, 0)) : 1 ≤ n ∧ at' + n ≤ L.length := by
  have hne : L.drop at' ≠ [] := fun h2 => by have := List.drop_eq_nil_iff.1 h2; omega
  have := next_len hne (by rw [hn])
  rw [hn, List.length_drop] at this
  simp only at this
  omega

theorem ownsRow_keepsR {W W' : World} {base z n : Nat} {T : TypeId} {v : Value} {xs : List Value} (h : W.ownsRow base T z v n xs) (hk : KeepsT T W W') : W'.ownsRow base T z v n xs :=
  ⟨h.1, h.2.elim .inl fun ⟨g, cap, cur, h1, h2, h3, h4⟩ => .inr ⟨g, cap, cur, h1, h2, hk g cur _ h3, h4⟩⟩
theorem infoStr : (Tryz.prog.info? 9).map (fun i => (i.zero, i.size, i.bytes)) = some (some (.string ⟨#[]⟩), 1, 16) := by kernel_rfl
def strV (l : List ByteArray) : List Value := l.map .string
theorem strV_snoc (l : List ByteArray) (a : ByteArray) : strV (l ++ [a]) = strV l ++ [.string a] := by simp [strV]
def lnOf (l : List ByteArray) : List (List UInt8) := l.map (·.data.toList)
theorem lnOf_snoc (l : List ByteArray) (a : ByteArray) : lnOf (l ++ [a]) = lnOf l ++ [a.data.toList] := by simp [lnOf]

theorem row_shapeS {w : World} {base n : Nat} {e : TypeId} {size : Nat} {v : Value} {xs : List Value} (h : w.ownsRow base e size v n xs) : ∃ a cap, v = .slice a n cap := by
  rcases h.2 with ⟨rfl, rfl⟩ | ⟨g, cap, cur, rfl, _⟩
  · exact ⟨_, _, rfl⟩
  · exact ⟨_, _, rfl⟩
theorem row_posS {w : World} {base n cap : Nat} {e : TypeId} {size : Nat} {a : Option Addr} {xs : List Value} (hn : 0 < n) (h : w.ownsRow base e size (.slice a n cap) n xs) : ∃ g, a = some ⟨g, 0, none⟩ ∧ g < w.heap.size ∧ (∀ j u, xs[j]? = some u → w.cell? ⟨g, j, none⟩ = some u) := by
  rcases h.2 with ⟨h1, h2⟩ | ⟨g, cap, cur, h1, _⟩
  · omega
  · cases h1
    refine ⟨g, rfl, (h.lt g rfl).2, fun j u hj => ?_⟩
    have := h.cells (g := g) rfl j u hj
    rcases j with _ | j <;> simpa [Addr.add] using this
theorem r2cS {v : Value} {a c : Int} (h : a = c) : Ending.returned (.tuple #[v, .int .i64 a]) = .returned (.tuple #[v, .int .i64 c]) := by rw [h]

theorem cell1_newR (w : World) (a : Value) (t : TypeId) : ∀ j u, [a][j]? = some u → (w.alloc (.cells #[a] t)).cell? ((⟨w.heap.size, 0, none⟩ : Addr).add j) = some u := by
  intro j u hj
  match j, hj with
  | 0, hj => simp at hj; subst hj; simp [Addr.add]
  | j + 1, hj => simp at hj


end Go.Proofs.YtaodjipnffgihaaGreat

namespace Go.Proofs.YtaodjipnffgihaaGreat
open Go.RowKit

end Go.Proofs.YtaodjipnffgihaaGreat

namespace Go.Proofs.YtaodjipnffgihaaGreat
open Go.RowKit

theorem third_not {c : UInt8} (h1 : ¬ c = 61) (h2 : ¬ c = 47) (h3 : ¬ c = 39) (h4 : ¬ c = 40) (h5 : ¬ c = 41) (h6 : ¬ c = 33) (h7 : ¬ c = 60) (h8 : ¬ c = 62) (h9 : ¬ c = 45) : third c = none := by
  simp [third, h1, h2, h3, h4, h5, h6, h7, h8, h9]

set_option maxHeartbeats 400000 in
/-- The reference's Third AT EVERY BYTE. -/
theorem rthird_any (c : UInt8) (w : World) :
    Calls Tryz.prog 60 #[.int .u8 c.toNat] w fun e w' => e = .returned (.tuple #[.int .u8 (thirdOf c).toNat, .bool (isThird c)]) ∧ w = w' := by
  go_enter Tryz.func60, Tryz.ntmps60
  go_wp2
  all_goals (go_ret2; refine ⟨?_, rfl⟩)
  all_goals first
    | (obtain rfl := eq_u8 (c := c) 61 (by assumption); rfl)
    | (obtain rfl := eq_u8 (c := c) 47 (by assumption); rfl)
    | (obtain rfl := eq_u8 (c := c) 39 (by assumption); rfl)
    | (obtain rfl := eq_u8 (c := c) 40 (by assumption); rfl)
    | (obtain rfl := eq_u8 (c := c) 41 (by assumption); rfl)
    | (obtain rfl := eq_u8 (c := c) 33 (by assumption); rfl)
    | (obtain rfl := eq_u8 (c := c) 60 (by assumption); rfl)
    | (obtain rfl := eq_u8 (c := c) 62 (by assumption); rfl)
    | (obtain rfl := eq_u8 (c := c) 45 (by assumption); rfl)
    | skip
  have h := third_not (ne_u8 (c := c) 61 (by assumption)) (ne_u8 (c := c) 47 (by assumption)) (ne_u8 (c := c) 39 (by assumption)) (ne_u8 (c := c) 40 (by assumption)) (ne_u8 (c := c) 41 (by assumption)) (ne_u8 (c := c) 33 (by assumption)) (ne_u8 (c := c) 60 (by assumption)) (ne_u8 (c := c) 62 (by assumption)) (ne_u8 (c := c) 45 (by assumption))
  simp [thirdOf, isThird, h]

end Go.Proofs.YtaodjipnffgihaaGreat

namespace Go.Proofs.YtaodjipnffgihaaGreat
open Go.RowKit

theorem rtri_hit {s : ByteArray} {k : Nat} (h : k + 3 ≤ s.size) (h1 : (s[k].toNat : Int) = 63) (h2 : ((s[k + 1].toNat : Int) != 63) = false) : tri (s.data.toList.drop k) = third s[k + 2] := by
  rw [triAt h, if_pos]
  simp at h2
  exact ⟨UInt8.toNat_inj.1 (by simp; omega), UInt8.toNat_inj.1 (by simp; omega)⟩

theorem rtri_miss1 {s : ByteArray} {k : Nat} (h : k + 3 ≤ s.size) (h1 : ¬ (s[k].toNat : Int) = 63) : tri (s.data.toList.drop k) = none := by
  rw [triAt h, if_neg]
  rintro ⟨h2, _⟩
  rw [h2] at h1
  exact h1 rfl

theorem rtri_miss2 {s : ByteArray} {k : Nat} (h : k + 3 ≤ s.size) (h1 : ((s[k + 1].toNat : Int) != 63) = true) : tri (s.data.toList.drop k) = none := by
  rw [triAt h, if_neg]
  rintro ⟨_, h2⟩
  rw [h2] at h1
  exact absurd h1 (by decide)

set_option maxHeartbeats 400000 in
/-- The reference's tri AT EVERY TEXT AND PLACE. -/
theorem rtri_any (s : ByteArray) (k : Nat) (w : World) (hs : s.size ≤ 65536) (hk : k ≤ s.size) :
    Calls Tryz.prog 36 #[.string s, .int .i64 k] w fun e w' => e = .returned (.tuple #[.int .u8 (triOf (s.data.toList.drop k)).toNat, .bool (isTri (s.data.toList.drop k))]) ∧ w = w' := by
  by_cases h : s.size < k + 3
  · have H := Lib.hid (triAt_short h)
    go_enter Tryz.func36, Tryz.ntmps36
    go_wp2
    go_ret2
    refine ⟨?_, rfl⟩
    simp [triOf, isTri, H.out]
  · have h' : k + 3 ≤ s.size := by omega
    go_enter Tryz.func36, Tryz.ntmps36
    go_wp2_with (go_at_call 60; refine (rthird_any _ _).mono ?_; rintro e w' ⟨rfl, rfl⟩)
    · have h2 : (s.size : Int) < k + 3 ∨ ((s[k + 1].toNat : Int) != 63) = true := by assumption
      go_ret2
      refine ⟨?_, rfl⟩
      simp [triOf, isTri, rtri_miss2 h' (h2.resolve_left (by omega))]
    · have h1 : (s[k].toNat : Int) = 63 := by assumption
      have h2 : (k : Int) + 3 ≤ s.size ∧ ((s[k + 1].toNat : Int) != 63) = false := by assumption
      go_ret2
      refine ⟨?_, rfl⟩
      simp [triOf, isTri, thirdOf, isThird, rtri_hit h' h1 h2.2]
    · have h1 : ¬ (s[k].toNat : Int) = 63 := by assumption
      go_ret2
      refine ⟨?_, rfl⟩
      simp [triOf, isTri, rtri_miss1 h' h1]

/-- How many bytes the splice has with which a list begins; 0: there is none. -/
def spliceN (l : List UInt8) : Nat := if isSplice l then partN l else 0

/-- A list does not begin with a backslash and a line's end. -/
def Not1 (l : List UInt8) : Prop := ¬ (l[0]? = some 92 ∧ l[1]? = some 10)
def Not2 (l : List UInt8) : Prop := ¬ (isTri l = true ∧ triOf l = 92 ∧ l[3]? = some 10)

theorem isTri_head {l : List UInt8} (h : isTri l = true) : l[0]? = some 63 := by
  match l, h with
  | [], h => simp [isTri, tri] at h
  | [_], h => simp [isTri, tri] at h
  | [_, _], h => simp [isTri, tri] at h
  | a :: b :: c :: r, h =>
    by_cases h2 : a = 63 ∧ b = 63
    · simp [h2.1]
    · simp [isTri, tri, h2] at h


theorem splice_two {l : List UInt8} (h0 : l[0]? = some 92) (h1 : l[1]? = some 10) : spliceN l = 2 := by
  have ht : isTri l = false := by
    cases h : isTri l with
    | false => rfl
    | true => have := isTri_head h; rw [h0] at this; exact absurd this (by decide)
  have hb : charB l = 92 := by
    unfold charB; rw [ht]
    match l, h0 with
    | a :: r, h0 => simpa using h0
  have hn : charN l = 1 := by unfold charN; rw [ht]; rfl
  have hs : isSplice l = true := by simp [isSplice, hb, hn, h1]
  simp [spliceN, partN, hs, hn]

theorem splice_four {l : List UInt8} (ht : isTri l = true) (h0 : triOf l = 92) (h1 : l[3]? = some 10) : spliceN l = 4 := by
  have hb : charB l = 92 := by unfold charB; rw [ht]; exact h0
  have hn : charN l = 3 := by unfold charN; rw [ht]; rfl
  have hs : isSplice l = true := by simp [isSplice, hb, hn, h1]
  simp [spliceN, partN, hs, hn]

theorem splice_zero {l : List UInt8} (h1 : Not1 l) (h2 : Not2 l) : spliceN l = 0 := by
  have hs : isSplice l = false := by
    cases h : isSplice l with
    | false => rfl
    | true =>
      simp only [isSplice, Bool.and_eq_true, beq_iff_eq, head_drop] at h
      cases ht : isTri l with
      | true =>
        have hb : charB l = triOf l := by unfold charB; rw [ht]; rfl
        have hn : charN l = 3 := by unfold charN; rw [ht]; rfl
        rw [hb, hn] at h
        exact absurd ⟨ht, h.1, h.2⟩ h2
      | false =>
        have hb : charB l = l.headD 0 := by unfold charB; rw [ht]; rfl
        have hn : charN l = 1 := by unfold charN; rw [ht]; rfl
        rw [hb, hn] at h
        match l, h, h1 with
        | [], h, _ => simp at h
        | a :: r, h, h1 => exact absurd ⟨by simpa using h.1, h.2⟩ h1
  simp [spliceN, hs]

section
variable {s : ByteArray} {k : Nat}
theorem n1a (hl : k < s.size) (h : ¬ (s[k].toNat : Int) = 92) : Not1 (s.data.toList.drop k) := by
  rintro ⟨h0, _⟩
  rw [drop_get 0 (by omega)] at h0
  simp only [Nat.add_zero, Option.some.injEq] at h0
  rw [h0] at h; exact h rfl
theorem n1b (hl : 0 ≤ (k : Int) + 1 ∧ (k : Int) + 1 < s.size) (h : ((s[k + 1].toNat : Int) == 10) = false) : Not1 (s.data.toList.drop k) := by
  rintro ⟨_, h0⟩
  rw [drop_get 1 (by omega)] at h0
  simp only [Option.some.injEq] at h0
  rw [h0] at h; exact absurd h (by decide)
theorem n1c (hl : (s.size : Int) < k + 2) : Not1 (s.data.toList.drop k) := by
  rintro ⟨_, h0⟩
  rw [drop_none 1 (by omega)] at h0
  cases h0
theorem n2a (h : ¬ isTri (s.data.toList.drop k) = true) : Not2 (s.data.toList.drop k) := fun h2 => h h2.1
theorem n2b (h : ¬ ((triOf (s.data.toList.drop k)).toNat : Int) = 92) : Not2 (s.data.toList.drop k) := fun h2 => by
  rw [h2.2.1] at h; exact h rfl
theorem n2c (hl : (s.size : Int) < k + 4) : Not2 (s.data.toList.drop k) := by
  rintro ⟨_, _, h0⟩
  rw [drop_none 3 (by omega)] at h0
  cases h0
theorem n2d (hl : 0 ≤ (k : Int) + 3 ∧ (k : Int) + 3 < s.size) (h : ((s[k + 3].toNat : Int) == 10) = false) : Not2 (s.data.toList.drop k) := by
  rintro ⟨_, _, h0⟩
  rw [drop_get 3 (by omega)] at h0
  simp only [Option.some.injEq] at h0
  rw [h0] at h; exact absurd h (by decide)

theorem sp2 (hk : k < s.size) (hl : 0 ≤ (k : Int) + 1 ∧ (k : Int) + 1 < s.size) (h0 : (s[k].toNat : Int) = 92) (h1 : ((s[k + 1].toNat : Int) == 10) = true) : (2 : Int) = spliceN (s.data.toList.drop k) := by
  rw [splice_two]
  · rfl
  · rw [drop_get 0 (by omega)]; exact congrArg some (UInt8.toNat_inj.1 (by simp; omega))
  · rw [drop_get 1 (by omega)]; exact congrArg some (eq_u8 10 h1)
theorem sp4 (ht : isTri (s.data.toList.drop k) = true) (h0 : ((triOf (s.data.toList.drop k)).toNat : Int) = 92) (hl : 0 ≤ (k : Int) + 3 ∧ (k : Int) + 3 < s.size) (h1 : ((s[k + 3].toNat : Int) == 10) = true) : (4 : Int) = spliceN (s.data.toList.drop k) := by
  rw [splice_four ht]
  · rfl
  · exact UInt8.toNat_inj.1 (by simp; omega)
  · rw [drop_get 3 (by omega)]; exact congrArg some (eq_u8 10 h1)
theorem sp0 (h1 : Not1 (s.data.toList.drop k)) (h2 : Not2 (s.data.toList.drop k)) : (0 : Int) = spliceN (s.data.toList.drop k) := by
  rw [splice_zero h1 h2]; rfl
end

set_option maxHeartbeats 1000000 in
/-- The reference's splice AT EVERY TEXT AND PLACE. -/
theorem rsplice_any (s : ByteArray) (k : Nat) (w : World) (hs : s.size ≤ 65536) (hk : k ≤ s.size) :
    Calls Tryz.prog 86 #[.string s, .int .i64 k] w fun e w' => e = .returned (.int .i64 (spliceN (s.data.toList.drop k))) ∧ w = w' := by
  go_enter Tryz.func86, Tryz.ntmps86
  go_wp2_with (go_at_call 36; refine (rtri_any _ _ _ hs hk).mono ?_; rintro e w' ⟨rfl, rfl⟩)
  all_goals go_ret
  all_goals refine ⟨ret_int ?_, rfl⟩
  all_goals first
    | exact sp2 (by assumption) (by assumption) (by assumption) (by assumption)
    | exact sp4 (by assumption) (by assumption) (by assumption) (by assumption)
    | exact sp0 (by first | exact n1a (by assumption) (by assumption) | exact n1b (by assumption) (by assumption) | exact n1c (by assumption)) (by first | exact n2a (by assumption) | exact n2b (by assumption) | exact n2c (by assumption) | exact n2d (by assumption) (by assumption))

end Go.Proofs.YtaodjipnffgihaaGreat
