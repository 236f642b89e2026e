/- ctok.elements: the iterator. -/
import Derived.Test.YtenmapahigbbeaaCtP
import Derived.IntWalk
namespace Go.Proofs.Ytenmapahigbbeaa
open Go.RowKit Go.Shelf

attribute [local go_sem] Oper.semAt_some

/-- Elements as the iterator hands them over: their numbers, and whether they are any. -/
def elS (g : Nat) : Nat → List UInt8 → List (Nat × Bool)
  | 0, _ => []
  | f + 1, l => if l = [] then [] else if (elR g l).2 = 0 then [(0, false)] else ((elR g l).1, true) :: elS g f (l.drop (elR g l).2)
def elA (g : Nat) (l : List UInt8) : List (Nat × Bool) := elS g l.length l
theorem elS_fuel (g : Nat) : ∀ (f : Nat) (l : List UInt8), l.length ≤ f → elS g f l = elA g l := by
  have key : ∀ (f f' : Nat) (l : List UInt8), l.length ≤ f → l.length ≤ f' → elS g f l = elS g f' l := by
    intro f
    induction f with
    | zero =>
      intro f' l h h'
      have : l = [] := List.length_eq_zero_iff.1 (by omega)
      subst this
      cases f' <;> rfl
    | succ f ih =>
      intro f' l h h'
      cases f' with
      | zero =>
        have : l = [] := List.length_eq_zero_iff.1 (by omega)
        subst this
        rfl
      | succ f' =>
        rw [elS, elS]
        by_cases h1 : l = []
        · rw [if_pos h1, if_pos h1]
        · rw [if_neg h1, if_neg h1]
          by_cases h2 : (elR g l).2 = 0
          · rw [if_pos h2, if_pos h2]
          · have hp := List.length_pos_iff.2 h1
            rw [if_neg h2, if_neg h2, ih f' _ (by rw [List.length_drop]; omega) (by rw [List.length_drop]; omega)]
  exact fun f l h => key f l.length l h (Nat.le_refl _)
theorem elA_nil (g : Nat) : elA g [] = [] := rfl
theorem elA_stop {g : Nat} {l : List UInt8} (h : l ≠ []) (h2 : (elR g l).2 = 0) : elA g l = [(0, false)] := by
  unfold elA
  cases hl : l.length with
  | zero => exact absurd (List.length_eq_zero_iff.1 hl) h
  | succ f => rw [elS, if_neg h, if_pos h2]
theorem elA_more {g : Nat} {l : List UInt8} (h : l ≠ []) (h2 : (elR g l).2 ≠ 0) : elA g l = ((elR g l).1, true) :: elA g (l.drop (elR g l).2) := by
  have hp := List.length_pos_iff.2 h
  conv => lhs; unfold elA
  cases hl : l.length with
  | zero => exact absurd (List.length_eq_zero_iff.1 hl) h
  | succ f => rw [elS, if_neg h, if_neg h2, elS_fuel g f _ (by rw [List.length_drop]; omega)]
theorem elR_zero {g : Nat} {l : List UInt8} (h : (elR g l).2 = 0) : elR g l = (0, 0) := by
  unfold elR at h ⊢
  by_cases h1 : (oneC l).2 = 0 ∨ g < (oneC l).1
  · rw [if_pos h1]
  · rw [if_neg h1] at h
    exact absurd (.inl h) h1
theorem one_len (l : List UInt8) : (oneC l).2 ≤ l.length := by
  match l with
  | [] => exact Nat.zero_le _
  | [c] =>
    rw [oneC]
    split <;> simp
  | c :: d :: q =>
    have h8 := digits_len 8 (d :: q)
    have h16 := digits_len 16 q
    rw [List.length_cons] at h8
    rw [oneC]
    simp only [List.length_cons]
    split
    · simp
    · split
      · simp
      · split
        · split
          · simp
          · simp only; omega
        · split
          · simp
          · simp only; omega
theorem elR_len (g : Nat) (l : List UInt8) : (elR g l).2 ≤ l.length := by
  unfold elR
  split
  · exact Nat.zero_le _
  · exact one_len l
theorem elA_len (g : Nat) : ∀ (m : Nat) (l : List UInt8), l.length ≤ m → (elA g l).length ≤ l.length
  | 0, l, h => by
    have : l = [] := List.length_eq_zero_iff.1 (by omega)
    subst this
    exact Nat.zero_le _
  | m + 1, l, h => by
    by_cases h1 : l = []
    · subst h1; exact Nat.zero_le _
    · have hp := List.length_pos_iff.2 h1
      by_cases h2 : (elR g l).2 = 0
      · rw [elA_stop h1 h2]; exact hp
      · rw [elA_more h1 h2, List.length_cons]
        have := elA_len g m (l.drop (elR g l).2) (by rw [List.length_drop]; omega)
        rw [List.length_drop] at this
        omega
def yesL (ns : List Nat) : List (Nat × Bool) := ns.map fun n => (n, true)
/-- The elements, all of them, or until there is none. -/
theorem elA_elems (g : Nat) : ∀ (f : Nat) (l : List UInt8), l.length ≤ f → (∃ ns, elemsC g f l = some ns ∧ elA g l = yesL ns) ∨ (elemsC g f l = none ∧ ∃ ns, elA g l = yesL ns ++ [(0, false)])
  | 0, l, h => by
    have : l = [] := List.length_eq_zero_iff.1 (by omega)
    subst this
    exact .inl ⟨[], rfl, rfl⟩
  | f + 1, l, h => by
    by_cases h1 : l = []
    · subst h1; exact .inl ⟨[], rfl, rfl⟩
    · have hp := List.length_pos_iff.2 h1
      rw [elemsC, if_neg h1]
      by_cases h2 : (elR g l).2 = 0
      · have h3 : (oneC l).2 = 0 ∨ g < (oneC l).1 := by
          refine Classical.byContradiction (fun h3 => ?_)
          unfold elR at h2
          rw [if_neg h3] at h2
          exact h3 (.inl h2)
        rw [if_pos h3]
        exact .inr ⟨rfl, [], elA_stop h1 h2⟩
      · have h3 : ¬ ((oneC l).2 = 0 ∨ g < (oneC l).1) := fun h3 => by
          unfold elR at h2
          rw [if_pos h3] at h2
          exact h2 rfl
        have he : elR g l = oneC l := by unfold elR; rw [if_neg h3]
        rw [if_neg h3, elA_more h1 h2, he]
        rw [he] at h2
        rcases elA_elems g f (l.drop (oneC l).2) (by rw [List.length_drop]; omega) with ⟨ns, e1, e2⟩ | ⟨e1, ns, e2⟩
        · exact .inl ⟨(oneC l).1 :: ns, by rw [e1]; rfl, by rw [e2]; rfl⟩
        · exact .inr ⟨by rw [e1]; rfl, (oneC l).1 :: ns, by rw [e2]; rfl⟩
def allYes (pre : List (Nat × Bool)) : Prop := ∀ x ∈ pre, x.2 = true
theorem allYes_snoc {pre : List (Nat × Bool)} {x : Nat × Bool} (h : allYes pre) (hx : x.2 = true) : allYes (pre ++ [x]) := fun y hy => by
  rcases List.mem_append.1 hy with hy | hy
  · exact h y hy
  · obtain rfl : y = x := by simpa using hy
    exact hx
theorem yes_fst {ns : List Nat} : (yesL ns).map (·.1) = ns := by unfold yesL; rw [List.map_map]; exact List.map_id' _
/-- The iterator's end: all were elements. -/
theorem elems_done {g : Nat} {l : List UInt8} (h : allYes (elA g l)) : elemsC g l.length l = some ((elA g l).map (·.1)) := by
  rcases elA_elems g l.length l (Nat.le_refl _) with ⟨ns, e1, e2⟩ | ⟨_, ns, e2⟩
  · rw [e1, e2, yes_fst]
  · have := h (0, false) (by rw [e2]; simp)
    cases this
/-- A round has left it: something was none. -/
theorem elems_stop {g : Nat} {l : List UInt8} {q : List (Nat × Bool)} {x : Nat × Bool} (h : q ++ [x] <+: elA g l) (hx : x.2 = false) : elemsC g l.length l = none := by
  rcases elA_elems g l.length l (Nat.le_refl _) with ⟨ns, e1, e2⟩ | ⟨e1, _⟩
  · have hm : x ∈ yesL ns := by rw [← e2]; exact h.subset (by simp)
    unfold yesL at hm
    obtain ⟨n, _, rfl⟩ := List.mem_map.1 hm
    cases hx
  · exact e1

/-! ### The iterator -/
set_option maxHeartbeats 400000 in
theorem elements_any (s : ByteArray) (g : Nat) (w : World) :
    Calls Try.prog 47 #[.string s, .int .u64 g] w fun e w' => e = .returned (.func (.func 61) #[] #[.pointer (some ⟨w.heap.size, 0, none⟩), .pointer (some ⟨w.heap.size + 1, 0, none⟩)]) ∧ w' = (w.alloc (.cells #[.string s] 9)).alloc (.cells #[.int .u64 g] 22) := by
  go_enter Try.func47, Try.ntmps47
  go_wp2
  go_ret
  exact ⟨rfl, rfl⟩

def encE (x : Nat × Bool) : Array Value := #[.int .i64 (x.1 : Nat), .bool x.2]
/-- What a round keeps for the iterator: its two boxes. -/
def TwoKept (Bs Bg : Nat) (Y W : World) : Prop := BoxKept 9 Bs Y W ∧ BoxKept 22 Bg Y W
theorem twoKept_t {Bs Bg : Nat} {A X C : World} (h : TwoKept Bs Bg A X) (k : TwoKept Bs Bg X C) : TwoKept Bs Bg A C := ⟨boxKept_t h.1 k.1, boxKept_t h.2 k.2⟩
theorem twoKept_b {Bs Bg n : Nat} (W : World) (l : Nat) (o o' : Obj) (hn : n ≤ l) (h : W.heap[l]? = some o) (hc : o.isCells = false) (hw : o.isWalk = false) : TwoKept Bs Bg W (W.putObj l o') := ⟨boxKept_b W l o o' hn h hc hw, boxKept_b W l o o' hn h hc hw⟩
theorem twoKept_below {Bs Bg : Nat} {W W' : World} (h : Below W.heap.size W W') : TwoKept Bs Bg W W' := ⟨boxKept_below h, boxKept_below h⟩

theorem element_at (s : ByteArray) (k g : Nat) (w : World) (hs : s.size ≤ maxLen) (hk : k < s.size) (hg : 255 ≤ g) (hg2 : g ≤ 4294967295) :
    Calls Try.prog 62 #[.string (s.extract k s.size), .int .u64 g] w fun e w' => e = .returned (.tuple #[.int .i64 ((elR g (s.data.toList.drop k)).1 : Nat), .int .i64 ((elR g (s.data.toList.drop k)).2 : Nat)]) ∧ Below w.heap.size w w' := by
  have h := element_any (s.extract k s.size) g w (by rw [ByteArray.size_extract]; unfold maxLen at *; omega) (by rw [ByteArray.size_extract]; omega) hg hg2
  rw [extract_end] at h
  exact h

set_option maxRecDepth 100000 in
set_option maxHeartbeats 2000000 in
theorem elements1_in (n : Nat) (hn : 1 ≤ n) (s : ByteArray) (g : Nat) (hs : s.size ≤ maxLen) (hg : 255 ≤ g) (hg2 : g ≤ 4294967295) (l Bs Bg : Nat) (J Jx : List (Nat × Bool) → World → Prop) (B0 : Nat) (hJa : AbidesFrom B0 J)
    (hY : ∀ pre (x : Nat × Bool) W, J pre W → pre.length < (elA g s.data.toList).length → YieldAt Fence.wide (n - 1) Try.prog l (encE x) W fun e W' =>
      (e = .returned (.bool true) ∧ J (pre ++ [x]) W' ∧ TwoKept Bs Bg W W') ∨ (e = .returned (.bool false) ∧ Jx (pre ++ [x]) W'))
    (W : World) (hBs : Boxed W Bs 9 (.string s)) (hBg : Boxed W Bg 22 (.int .u64 g)) (h0 : J [] W) :
    CallsIn Fence.wide n Try.prog 61 #[.func (.yield l) #[] #[], .pointer (some ⟨Bs, 0, none⟩), .pointer (some ⟨Bg, 0, none⟩)] W fun e W' => (∃ v, e = .returned v) ∧
      ((∃ ys, ys = elA g s.data.toList ∧ J ys W') ∨ (∃ pre, pre <+: elA g s.data.toList ∧ Jx pre W')) := by
  have hmx : Try.prog.follows .mixedOrders = true := by kernel_rfl
  refine callsIn_of_wp Try.func61 rfl trivial ?_ rfl
  simp only [Try.ntmps61, List.size_toArray, List.length_cons, List.length_nil, Nat.reduceAdd, Nat.reduceSub, Array.replicate_succ, Array.replicate_zero, List.push_toArray, List.append_toArray, List.nil_append, List.cons_append]
  gi_wp2
  gi_loopw [4] (fun p wr => ∃ (pre rest : List (Nat × Bool)) (k : Nat), p = .int .i64 k ∧ k ≤ s.size ∧ Hid (elA g s.data.toList = pre ++ rest) ∧ Hid (rest = elA g (s.data.toList.drop k)) ∧ J pre wr ∧ Boxed wr Bs 9 (.string s) ∧ Boxed wr Bg 22 (.int .u64 g))
    (fun p _ => s.size - (intOf p).toNat)
  case atStart =>
    exact ⟨[], elA g s.data.toList, 0, rfl, Nat.zero_le _, Lib.hid rfl, Lib.hid rfl, h0, hBs, hBg⟩
  case round =>
    obtain ⟨pre, rest, k, rfl, hk, HX, HR, hJs, hbs, hbg⟩ := hrel
    have cs := hbs.cell
    have cg := hbg.cell
    by_cases hlt : k < s.size
    · have C := fun w => element_at s k g w hs hlt hg hg2
      have hne : s.data.toList.drop k ≠ [] := by
        intro e
        have := congrArg List.length e
        rw [List.length_drop, size_list] at this
        simp at this; omega
      have hle := elR_len g (s.data.toList.drop k)
      rw [List.length_drop, size_list] at hle
      have i1 : (k : Int) < (s.size : Int) := by omega
      unfold maxLen at hs
      by_cases h2 : (elR g (s.data.toList.drop k)).2 = 0
      · have hr2 := Lib.hid (HX.out.trans (by rw [HR.out, elA_stop hne h2]))
        simp only [elR_zero h2] at C
        have hlen : pre.length < (elA g s.data.toList).length := by rw [hr2.out]; simp
        clear HX HR h2 hle hne
        gi_wp2
        gi_region_with_o (refine ⟨trivial, ?_⟩; gi_at_call 62; refine (callsIn_wide.2 (C _)).mono ?_; rintro e w1 ⟨rfl, hb1⟩)
        all_goals
          have hb2 : Below wr.heap.size wr w1 := (below_drewN (Below.refl _ _) 1).trans hb1
          obtain ⟨fn, tmps, assign, body, hy, hR⟩ := hY pre (0, false) _ (abides_below hJa hJs hb2) hlen
          unfold encE at hy
          simp only [Int.natCast_zero] at hy
          gi_wp2_with fail
          refine hR.mono ?_
          rintro e W3 (⟨rfl, hJ3, -⟩ | ⟨rfl, hJx3⟩)
          · gi_wp2
            refine bodyPost_ret (results_none rfl _ _ _) rfl ?_
            exact ⟨⟨_, rfl⟩, .inl ⟨_, hr2.out.symm, hJ3⟩⟩
          · gi_wp2
            refine bodyPost_ret (results_none rfl _ _ _) rfl ?_
            exact ⟨⟨_, rfl⟩, .inr ⟨pre ++ [(0, false)], by rw [hr2.out]; exact List.prefix_rfl, hJx3⟩⟩
      · have hr2 := HX.out.trans (by rw [HR.out, elA_more hne h2])
        rw [List.drop_drop] at hr2
        obtain ⟨m, hm⟩ : ∃ m, (elR g (s.data.toList.drop k)).2 = m := ⟨_, rfl⟩
        obtain ⟨v, hv⟩ : ∃ v, (elR g (s.data.toList.drop k)).1 = v := ⟨_, rfl⟩
        simp only [hm, hv] at C
        rw [hm, hv] at hr2
        rw [hm] at h2 hle
        have hr2 := Lib.hid hr2
        have hlen : pre.length < (elA g s.data.toList).length := by rw [hr2.out]; simp
        have i2 : 0 < m := by omega
        have i3 : ((m : Int) == 0) = false := beq_eq_false_iff_ne.2 (by omega)
        clear HX HR hne hm hv
        gi_wp2
        gi_region_with_o (refine ⟨trivial, ?_⟩; gi_at_call 62; refine (callsIn_wide.2 (C _)).mono ?_; rintro e w1 ⟨rfl, hb1⟩)
        all_goals
          have hb2 : Below wr.heap.size wr w1 := (below_drewN (Below.refl _ _) 1).trans hb1
          have hbs1 : Boxed w1 Bs 9 (.string s) := (hb2.block Bs hbs.lt).trans hbs
          have hbg1 : Boxed w1 Bg 22 (.int .u64 g) := (hb2.block Bg hbg.lt).trans hbg
          obtain ⟨fn, tmps, assign, body, hy, hR⟩ := hY pre (v, true) _ (abides_below hJa hJs hb2) hlen
          unfold encE at hy
          simp only at hy
          gi_wp2_with fail
          refine hR.mono ?_
          rintro e W3 (⟨rfl, hJ3, hk3⟩ | ⟨rfl, hJx3⟩)
          · have hbs3 := hk3.1 _ hbs1
            have hbg3 := hk3.2 _ hbg1
            gi_wp2
            go_roundw
            case rel => exact ⟨pre ++ [(v, true)], elA g (s.data.toList.drop (k + m)), k + m, by go_num, by omega, Lib.hid (by rw [hr2.out]; simp), Lib.hid rfl, hJ3, hbs3, hbg3⟩
            case measure => simp [intOf]; omega
          · gi_wp2
            refine bodyPost_ret (results_none rfl _ _ _) rfl ?_
            exact ⟨⟨_, rfl⟩, .inr ⟨pre ++ [(v, true)], ⟨elA g (s.data.toList.drop (k + m)), by rw [hr2.out]; simp⟩, hJx3⟩⟩
    · have HE : Hid (elA g s.data.toList = pre) := Lib.hid (by
        rw [HX.out, HR.out, List.drop_eq_nil_of_le (by rw [size_list]; omega), elA_nil, List.append_nil])
      have i1 : ¬ (k : Int) < (s.size : Int) := by omega
      clear HX HR
      gi_wp2
      go_end0
      exact ⟨⟨_, rfl⟩, .inl (by rw [HE.out]; exact hJs)⟩

theorem elements_stops (n : Nat) (hn : 1 ≤ n) (s : ByteArray) (g : Nat) (hs : s.size ≤ maxLen) (hg : 255 ≤ g) (hg2 : g ≤ 4294967295) (Bs Bg : Nat) (w : World) (hc : Boxed w Bs 9 (.string s)) (hc2 : Boxed w Bg 22 (.int .u64 g)) :
    SeqStopsK Fence.wide n Try.prog 61 #[.pointer (some ⟨Bs, 0, none⟩), .pointer (some ⟨Bg, 0, none⟩)] encE
      (TwoKept Bs Bg) (fun ys => ys = elA g s.data.toList) (fun pre => pre <+: elA g s.data.toList) (elA g s.data.toList).length w := fun l J Jx W hW hJ _ hY h0 =>
  elements1_in n hn s g hs hg hg2 l Bs Bg J Jx W.heap.size hJ hY W ((hW.block Bs hc.lt).trans hc) ((hW.block Bg hc2.lt).trans hc2) h0

end Go.Proofs.Ytenmapahigbbeaa
