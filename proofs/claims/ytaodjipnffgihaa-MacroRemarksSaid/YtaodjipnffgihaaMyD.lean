/- Several texts laid together. -/
import Derived.Test.YtaodjipnffgihaaGen
import Derived.Test.YtaodjipnffgihaaShelf
import Derived.Test.YtaodjipnffgihaaMyA
import Derived.WalkKit
import Derived.WalkSpells
import Derived.WalkLawsBesides
import Derived.Test.YtaodjipnffgihaaBytes
import Derived.Lib.Hide
import Derived.RangeFuncNested
import Derived.RangeFuncBox
import Derived.Lib.OthersKept
import Derived.RangeFuncLeaves
import Derived.Shelf.Abstract
import Derived.OwnWalkIn
import Derived.TacticsInMore
import Derived.LoopNIn
import Derived.LoopIn
import Derived.Scope
import Derived.Shelf.RegionOpen
import Derived.BigQuiet
import Derived.Deep.QuietTactic
import Derived.Test.YtaodjipnffgihaaMath

namespace Go.Proofs.Ytaodjipnffgihaa
open Go.RowKit

def thirdCase (c : UInt8) : Bool :=
  c == 61 || c == 47 || c == 39 || c == 40 || c == 41 || c == 33 || c == 60 || c == 62 || c == 45 ||
    (decide (Lib.indexByte [61, 47, 39, 40, 41, 33, 60, 62, 45] c = -1) && decide (third c = none))

theorem third_cases (c : UInt8) : c = 61 ∨ c = 47 ∨ c = 39 ∨ c = 40 ∨ c = 41 ∨ c = 33 ∨ c = 60 ∨ c = 62 ∨ c = 45 ∨
    (Lib.indexByte [61, 47, 39, 40, 41, 33, 60, 62, 45] c = -1 ∧ third c = none) := by
  have h := all_u8 thirdCase (by decide +kernel) c
  simpa [thirdCase, Bool.or_eq_true, or_assoc] using h

/-- strings.IndexByte over the third bytes, its answer laid. -/
theorem ib_at (c : UInt8) (k : Int) (w : World) (h : Lib.indexByte [61, 47, 39, 40, 41, 33, 60, 62, 45] c = k) :
    Calls Try.prog 86 #[.string ⟨#[61, 47, 39, 40, 41, 33, 60, 62, 45]⟩, .int .u8 c.toNat] w fun e w' => e = .returned (.int .i64 k) ∧ w = w' := by
  refine (Try.strings_IndexByte _ _ w).mono ?_
  rintro e w' ⟨rfl, rfl⟩
  rw [toNat_u8]
  exact ⟨by rw [← h], rfl⟩

set_option maxHeartbeats 400000 in
theorem third_none (c : UInt8) (w : World) (h : Lib.indexByte [61, 47, 39, 40, 41, 33, 60, 62, 45] c = -1) :
    Calls Try.prog 82 #[.int .u8 c.toNat] w fun e w' => e = .returned (.tuple #[.int .u8 0, .bool false]) ∧ w = w' := by
  have H := ib_at c (-1) w h
  clear h
  go_enter Try.func82, Try.ntmps82
  go_wp2_with (go_at_call 86; refine H.mono ?_; rintro e w' ⟨rfl, rfl⟩)
  go_ret2
  exact ⟨rfl, rfl⟩

set_option maxHeartbeats 400000 in
theorem third_some (c : UInt8) (k : Nat) (b : UInt8) (w : World) (h : Lib.indexByte [61, 47, 39, 40, 41, 33, 60, 62, 45] c = k) (hk : k < 9) (hb : [35, 92, 94, 91, 93, 124, 123, 125, 126][k]? = some b) :
    Calls Try.prog 82 #[.int .u8 c.toNat] w fun e w' => e = .returned (.tuple #[.int .u8 b.toNat, .bool true]) ∧ w = w' := by
  have H := ib_at c k w h
  clear h
  go_enter Try.func82, Try.ntmps82
  go_wp2_with (go_at_call 86; refine H.mono ?_; rintro e w' ⟨rfl, rfl⟩)
  go_ret2
  have hbb : (⟨#[35, 92, 94, 91, 93, 124, 123, 125, 126]⟩ : ByteArray)[k]'(by show k < 9; exact hk) = b := by
    have h2 : [35, 92, 94, 91, 93, 124, 123, 125, 126][k]'(by simpa using hk) = b := by
      rw [List.getElem?_eq_getElem (by simpa using hk)] at hb
      exact Option.some.inj hb
    rw [← h2]; rfl
  refine ⟨?_, rfl⟩
  rw [← hbb]
  rfl

/-- phys.Third AT EVERY BYTE. -/
theorem third_any (c : UInt8) (w : World) :
    Calls Try.prog 82 #[.int .u8 c.toNat] w fun e w' => e = .returned (.tuple #[.int .u8 (thirdOf c).toNat, .bool (isThird c)]) ∧ w = w' := by
  rcases third_cases c with rfl | rfl | rfl | rfl | rfl | rfl | rfl | rfl | rfl | ⟨h1, h2⟩
  · exact third_some 61 0 35 w (by decide) (by decide) rfl
  · exact third_some 47 1 92 w (by decide) (by decide) rfl
  · exact third_some 39 2 94 w (by decide) (by decide) rfl
  · exact third_some 40 3 91 w (by decide) (by decide) rfl
  · exact third_some 41 4 93 w (by decide) (by decide) rfl
  · exact third_some 33 5 124 w (by decide) (by decide) rfl
  · exact third_some 60 6 123 w (by decide) (by decide) rfl
  · exact third_some 62 7 125 w (by decide) (by decide) rfl
  · exact third_some 45 8 126 w (by decide) (by decide) rfl
  · have := third_none c w h1
    simpa [thirdOf, isThird, h2] using this

theorem ne_u8 {c : UInt8} (k : UInt8) (h : ((c.toNat : Int) == (k.toNat : Int)) = false) : ¬ c = k := by
  rintro rfl
  simp at h

end Go.Proofs.Ytaodjipnffgihaa

namespace Go.Proofs.Ytaodjipnffgihaa
open Go.RowKit

theorem trigraph_hit {s : ByteArray} (h : 3 ≤ s.size) (h2 : (!(s.extract 0 2).toList == [63, 63]) = false) : tri s.data.toList = third s[2] := by
  rw [extract02 h] at h2
  simp at h2
  rw [tri0 h, if_pos h2]

theorem trigraph_miss {s : ByteArray} (h : 3 ≤ s.size) (h2 : (!(s.extract 0 2).toList == [63, 63]) = true) : tri s.data.toList = none := by
  rw [extract02 h] at h2
  simp at h2
  rw [tri0 h, if_neg (fun h => by rcases h2 with h2 | h2; exact h2 h.1; exact h2 h.2)]

set_option maxHeartbeats 400000 in
/-- phys.trigraph AT EVERY TEXT. -/
theorem trigraph_any (s : ByteArray) (w : World) (hs : s.size ≤ maxLen) :
    Calls Try.prog 66 #[.string s] w fun e w' => e = .returned (.tuple #[.int .u8 (triOf s.data.toList).toNat, .bool (isTri s.data.toList)]) ∧ w = w' := by
  unfold maxLen at hs
  by_cases h : s.size < 3
  · have ht : tri s.data.toList = none := tri_short (by rw [size_list]; exact h)
    have H := Lib.hid ht; clear ht
    go_enter Try.func66, Try.ntmps66
    go_wp2
    go_ret2
    refine ⟨?_, rfl⟩
    simp [triOf, isTri, H.out]
  · have h' : 3 ≤ s.size := by omega
    go_enter Try.func66, Try.ntmps66
    go_wp2_with (go_at_call 82; refine (third_any _ _).mono ?_; rintro e w' ⟨rfl, rfl⟩)
    · have h2 : (s.size : Int) < 3 ∨ (!(s.extract 0 2).toList == [63, 63]) = true := by assumption
      go_ret2
      refine ⟨?_, rfl⟩
      simp [triOf, isTri, trigraph_miss h' (h2.resolve_left (by omega))]
    · have h2 : 3 ≤ (s.size : Int) ∧ (!(s.extract 0 2).toList == [63, 63]) = false := by assumption
      go_ret2
      refine ⟨?_, rfl⟩
      simp [triOf, isTri, thirdOf, isThird, trigraph_hit h' h2.2]

end Go.Proofs.Ytaodjipnffgihaa

namespace Go.Proofs.Ytaodjipnffgihaa
open Go.RowKit

theorem charN_hit {l : List UInt8} (h : isTri l = true) : charN l = 3 := by unfold charN; rw [h]; rfl
theorem charN_miss {l : List UInt8} (h : isTri l = false) : charN l = 1 := by unfold charN; rw [h]; rfl
theorem charB_hit {l : List UInt8} (h : isTri l = true) : charB l = triOf l := by unfold charB; rw [h]; rfl
theorem charB_miss {s : ByteArray} {k : Nat} (hk : k < s.size) (h : isTri (s.data.toList.drop k) = false) : charB (s.data.toList.drop k) = s[k] := by
  unfold charB; rw [h, data_drop s k hk]; rfl

set_option maxHeartbeats 400000 in
/-- phys.charAt AT EVERY TEXT AND PLACE IN IT. -/
theorem charAt_any (s : ByteArray) (k : Nat) (w : World) (hs : s.size ≤ 65536) (hk : k < s.size) :
    Calls Try.prog 85 #[.string s, .int .i64 k] w fun e w' =>
      e = .returned (.agg #[.int .u8 (charB (s.data.toList.drop k)).toNat, .int .i64 k, .int .i64 (charN (s.data.toList.drop k))]) ∧
      w' = w.alloc (.cells #[.int .u8 (charB (s.data.toList.drop k)).toNat, .int .i64 k, .int .i64 (charN (s.data.toList.drop k))] 77) := by
  have he := extract_end s k
  have HE := Lib.hid he; clear he
  have hx : (s.extract k s.size).size ≤ maxLen := by rw [ByteArray.size_extract]; unfold maxLen; omega
  go_enter Try.func85, Try.ntmps85
  go_wp2_with (go_at_call 66; refine (trigraph_any _ _ hx).mono ?_; rintro e w' ⟨rfl, rfl⟩; rw [HE.out])
  · have ht : isTri (s.data.toList.drop k) = true := by assumption
    rw [charB_hit ht, charN_hit ht]
    exact bodyPost_ret (v := .agg #[.int .u8 (triOf (s.data.toList.drop k)).toNat, .int .i64 k, .int .i64 (3 : Nat)]) (by simp [results, Try.results85, go_sem]) rfl ⟨rfl, rfl⟩
  · have ht : isTri (s.data.toList.drop k) = false := by assumption
    rw [charB_miss hk ht, charN_miss ht]
    exact bodyPost_ret (v := .agg #[.int .u8 s[k].toNat, .int .i64 k, .int .i64 (1 : Nat)]) (by simp [results, Try.results85, go_sem]) rfl ⟨rfl, rfl⟩

/-- A part as a value. -/
def Part.val (p : Part) : Value := .agg #[.int .u8 p.b.toNat, .int .i64 p.at', .int .i64 p.n, .bool p.sp]

section
variable {s : ByteArray} {k : Nat}
theorem head_data (h : k + charN (s.data.toList.drop k) < s.size) : ((s.data.toList.drop k).drop (charN (s.data.toList.drop k))).head? = some s[k + charN (s.data.toList.drop k)] := by
  rw [head_drop, drop_get _ h]

theorem val_splice (hb : ((charB (s.data.toList.drop k)).toNat : Int) = 92) (hl : (k : Int) + (charN (s.data.toList.drop k) : Nat) < s.size) (h0 : ((s[k + charN (s.data.toList.drop k)].toNat : Int) == 10) = true) :
    (partAt s.data.toList k).val = .agg #[.int .u8 0, .int .i64 k, .int .i64 ((charN (s.data.toList.drop k) : Nat) + 1), .bool true] := by
  have hs : isSplice (s.data.toList.drop k) = true := by
    simp only [isSplice, Bool.and_eq_true, beq_iff_eq]
    exact ⟨UInt8.toNat_inj.1 (by simp; omega), by rw [head_data (by omega)]; exact congrArg some (eq_u8 10 h0)⟩
  simp [Part.val, partAt, partB, partN, hs]

theorem val_char (hs : isSplice (s.data.toList.drop k) = false) :
    (partAt s.data.toList k).val = .agg #[.int .u8 (charB (s.data.toList.drop k)).toNat, .int .i64 k, .int .i64 (charN (s.data.toList.drop k) : Nat), .bool false] := by
  simp [Part.val, partAt, partB, partN, hs]

theorem no_splice1 (hb : ¬ ((charB (s.data.toList.drop k)).toNat : Int) = 92) : isSplice (s.data.toList.drop k) = false := by
  cases h : isSplice (s.data.toList.drop k) with
  | false => rfl
  | true =>
    simp only [isSplice, Bool.and_eq_true, beq_iff_eq] at h
    rw [h.1] at hb; exact absurd rfl hb
theorem no_splice2 (hl : (s.size : Int) ≤ k + (charN (s.data.toList.drop k) : Nat)) : isSplice (s.data.toList.drop k) = false := by
  cases h : isSplice (s.data.toList.drop k) with
  | false => rfl
  | true =>
    simp only [isSplice, Bool.and_eq_true, beq_iff_eq] at h
    have h2 := h.2
    rw [head_drop, drop_none _ (by omega)] at h2
    cases h2
theorem no_splice3 (hl : (k : Int) + (charN (s.data.toList.drop k) : Nat) < s.size) (h0 : ((s[k + charN (s.data.toList.drop k)].toNat : Int) == 10) = false) : isSplice (s.data.toList.drop k) = false := by
  cases h : isSplice (s.data.toList.drop k) with
  | false => rfl
  | true =>
    simp only [isSplice, Bool.and_eq_true, beq_iff_eq] at h
    have h2 := h.2
    rw [head_data (by omega)] at h2
    simp only [Option.some.injEq] at h2
    rw [h2] at h0; exact absurd h0 (by decide)
end

set_option maxHeartbeats 1000000 in
/-- phys.partAt AT EVERY TEXT AND PLACE IN IT. -/
theorem partAt_any (s : ByteArray) (k : Nat) (w : World) (hs : s.size ≤ 65536) (hk : k < s.size) :
    Calls Try.prog 74 #[.string s, .int .i64 k] w fun e w' => e = .returned (partAt s.data.toList k).val ∧ Below w.heap.size w w' := by
  have hn : charN (s.data.toList.drop k) ≤ 3 := by unfold charN; split <;> omega
  go_enter Try.func74, Try.ntmps74
  go_wp2_with (go_at_call 85; refine (charAt_any _ _ _ hs hk).mono ?_; rintro e w' ⟨rfl, rfl⟩)
  · have hb : ((charB (s.data.toList.drop k)).toNat : Int) = 92 := by assumption
    have hl : (k : Int) + (charN (s.data.toList.drop k) : Nat) < s.size := by assumption
    have h0 : ((s[k + charN (s.data.toList.drop k)].toNat : Int) == 10) = true := by assumption
    refine bodyPost_ret (v := .agg #[.int .u8 0, .int .i64 k, .int .i64 ((charN (s.data.toList.drop k) : Nat) + 1), .bool true]) (by simp [results, Try.results74, go_sem]) rfl ⟨?_, below3 _ _ _ _⟩
    rw [val_splice hb hl h0]
  · have hb : ((charB (s.data.toList.drop k)).toNat : Int) = 92 := by assumption
    have hl : (k : Int) + (charN (s.data.toList.drop k) : Nat) < s.size := by assumption
    have h0 : ((s[k + charN (s.data.toList.drop k)].toNat : Int) == 10) = false := by assumption
    refine bodyPost_ret (v := .agg #[.int .u8 92, .int .i64 k, .int .i64 (charN (s.data.toList.drop k) : Nat), .bool false]) (by simp [results, Try.results74, go_sem]) rfl ⟨?_, below3 _ _ _ _⟩
    rw [val_char (no_splice3 hl h0), hb]
  · have hb : ((charB (s.data.toList.drop k)).toNat : Int) = 92 := by assumption
    have hl : (s.size : Int) ≤ k + (charN (s.data.toList.drop k) : Nat) := by assumption
    refine bodyPost_ret (v := .agg #[.int .u8 92, .int .i64 k, .int .i64 (charN (s.data.toList.drop k) : Nat), .bool false]) (by simp [results, Try.results74, go_sem]) rfl ⟨?_, below3 _ _ _ _⟩
    rw [val_char (no_splice2 hl), hb]
  · have hb : ¬ ((charB (s.data.toList.drop k)).toNat : Int) = 92 := by assumption
    refine bodyPost_ret (v := .agg #[.int .u8 (charB (s.data.toList.drop k)).toNat, .int .i64 k, .int .i64 (charN (s.data.toList.drop k) : Nat), .bool false]) (by simp [results, Try.results74, go_sem]) rfl ⟨?_, below3 _ _ _ _⟩
    rw [val_char (no_splice1 hb)]

set_option maxHeartbeats 400000 in
/-- (phys.part).end. -/
theorem end_any (p : Part) (w : World) (h : p.at' + p.n ≤ 1000000) :
    Calls Try.prog 75 #[p.val] w fun e w' => e = .returned (.int .i64 (p.at' + p.n : Nat)) ∧ w' = w.alloc (.cells #[.int .u8 p.b.toNat, .int .i64 p.at', .int .i64 p.n, .bool p.sp] 109) := by
  unfold Part.val
  go_enter Try.func75, Try.ntmps75
  go_wp2
  go_ret
  exact ⟨by simp, rfl⟩

end Go.Proofs.Ytaodjipnffgihaa

namespace Go.Proofs.Ytaodjipnffgihaa
open Go.RowKit

/-- Every block of cells of type T stands as it stood. -/
def KeepsT (T : TypeId) (W W' : World) : Prop := ∀ (k : Nat) (c : Array Value) (fz : Nat × Nat), W.heap[k]? = some (.cells c T fz) → W'.heap[k]? = some (.cells c T fz)

theorem KeepsT.refl (T : TypeId) (W : World) : KeepsT T W W := fun _ _ _ h => h
theorem KeepsT.trans {T : TypeId} {A B C : World} (h : KeepsT T A B) (k : KeepsT T B C) : KeepsT T A C := fun i c fz hi => k i c fz (h i c fz hi)
theorem KeepsT.of_below {T : TypeId} {W W' : World} (h : Below W.heap.size W W') : KeepsT T W W' := fun k _ _ hk =>
  (h.block k (Array.getElem?_eq_some_iff.1 hk).1).trans hk
theorem KeepsT.alloc (T : TypeId) (W : World) (o : Obj) : KeepsT T W (W.alloc o) := .of_below ((Below.refl _ _).alloc (Nat.le_refl _) _)
theorem KeepsT.drew {T : TypeId} {A W : World} (h : KeepsT T A W) : KeepsT T A W.drew := h
/-- A store into a variable's box of another type. -/
theorem KeepsT.set {T t : TypeId} {W : World} {B : Nat} {v : Value} (hb : Boxed W B t v) (hne : T ≠ t) (u : Value) : KeepsT T W (W.setCell ⟨B, 0, none⟩ u) := fun k c fz hk => by
  rw [Below.heap_setCell _ _ _ _ (fun e => ?_)]
  · exact hk
  · have e' : k = B := e
    subst e'
    rw [show W.heap[k]? = _ from hb] at hk
    simp only [Option.some.injEq, Obj.cells.injEq] at hk
    exact hne hk.2.1.symm
/-- A growth whose one row is of another type. -/
theorem KeepsT.grown {T : TypeId} {W W' : World} {row : Option Nat} (hg : W.grownBy W' row) (hr : ∀ g, row = some g → ∀ c fz, W.heap[g]? ≠ some (.cells c T fz)) : KeepsT T W W' := fun k c fz hk =>
  (hg.block k (Array.getElem?_eq_some_iff.1 hk).1 (fun e => hr k e.symm c fz hk)).trans hk
theorem KeepsT.grown_row {T e : TypeId} {W W' : World} {base size n : Nat} {v : Value} {xs : List Value} (hg : W.grownBy W' v.ownBlock) (hown : W.ownsRow base e size v n xs) (hne : T ≠ e) : KeepsT T W W' :=
  .grown hg fun g hgv c fz h => by
    rcases hown.2 with ⟨rfl, _⟩ | ⟨g', cap, cur, rfl, _, hgb, _⟩
    · simp [Value.ownBlock] at hgv
    · obtain rfl : g' = g := by simpa [Value.ownBlock] using hgv
      rw [hgb] at h
      simp only [Option.some.injEq, Obj.cells.injEq] at h
      exact hne h.2.1.symm
theorem KeepsT.putObj {T : TypeId} {W : World} {l : Nat} {o : Obj} (o' : Obj) (h : W.heap[l]? = some o) (ho : o.isCells = false) : KeepsT T W (W.putObj l o') := fun k c fz hk => by
  by_cases e : k = l
  · subst e
    rw [h] at hk
    cases hk
    cases ho
  · exact (World.putObj_heap_other e).trans hk
/-- What a builder's call keeps. -/
theorem KeepsT.of_others {T e t : TypeId} {b : Nat} {W W' : World} {cs : Array Value} {fz : Nat × Nat} (h : Lib.OthersKept e (some b) W W') (hb : W.heap[b]? = some (.cells cs t fz)) (hne : T ≠ t) (hTe : T ≠ e) : KeepsT T W W' := fun k c fz' hk => by
  refine h k _ hk (fun e' => ?_) (fun c' f' h' => ?_)
  · obtain rfl : k = b := by simpa using e'
    rw [hb] at hk
    simp only [Option.some.injEq, Obj.cells.injEq] at hk
    exact hne hk.2.1.symm
  · simp only [Obj.cells.injEq] at h'
    exact hTe h'.2.1

/-- A relation that a round keeps: the blocks of type T, and one variable's box. -/
def KeepsBox (T : TypeId) (B : Nat) (t : TypeId) (W W' : World) : Prop := KeepsT T W W' ∧ ∀ v, Boxed W B t v → Boxed W' B t v
theorem keepsBox_r {T : TypeId} {B : Nat} {t : TypeId} (W : World) : KeepsBox T B t W W := ⟨.refl _ _, fun _ h => h⟩
theorem keepsBox_t {T : TypeId} {B : Nat} {t : TypeId} {A X C : World} (h : KeepsBox T B t A X) (k : KeepsBox T B t X C) : KeepsBox T B t A C := ⟨h.1.trans k.1, fun v hv => k.2 v (h.2 v hv)⟩
theorem keepsBox_b {T : TypeId} {B : Nat} {t : TypeId} {n : Nat} (W : World) (l : Nat) (o o' : Obj) (_ : n ≤ l) (h : W.heap[l]? = some o) (hc : o.isCells = false) (_ : o.isWalk = false) : KeepsBox T B t W (W.putObj l o') :=
  ⟨.putObj o' h hc, fun v hv => hv.kept (grownBy_putObj' W l o') (fun e => by
    obtain rfl : B = l := by simpa using e
    rw [show W.heap[B]? = _ from hv] at h; cases h; cases hc)⟩
theorem keepsBox_below {T : TypeId} {B : Nat} {t : TypeId} {W W' : World} (h : Below W.heap.size W W') : KeepsBox T B t W W' :=
  ⟨.of_below h, fun _ hv => (h.block B hv.lt).trans hv⟩
theorem keepsBox_set {T : TypeId} {B B' : Nat} {t t' : TypeId} {W : World} {v : Value} (hb : Boxed W B' t' v) (hne : T ≠ t') (hB : B ≠ B') (u : Value) : KeepsBox T B t W (W.setCell ⟨B', 0, none⟩ u) :=
  ⟨.set hb hne u, fun _ hv => hv.other hB u⟩
theorem keepsBox_row {T e : TypeId} {B : Nat} {t : TypeId} {W W' : World} {base size n : Nat} {v : Value} {xs : List Value} (hg : W.grownBy W' v.ownBlock) (hown : W.ownsRow base e size v n xs) (hne : T ≠ e) (hte : t ≠ e) : KeepsBox T B t W W' :=
  ⟨.grown_row hg hown hne, fun _ hv => hv.kept hg (hv.not_row hte hown)⟩
theorem keepsBox_others {T e t' : TypeId} {B : Nat} {t : TypeId} {b : Nat} {W W' : World} {cs : Array Value} {fz : Nat × Nat} (h : Lib.OthersKept e (some b) W W') (hb : W.heap[b]? = some (.cells cs t' fz)) (hne : T ≠ t') (hTe : T ≠ e) (hB : B ≠ b) (hte : t ≠ e) : KeepsBox T B t W W' :=
  ⟨.of_others h hb hne hTe, fun v hv => h B _ hv (fun e' => hB (by simpa using e')) (fun c f h' => by
    simp only [Obj.cells.injEq] at h'
    exact hte h'.2.1)⟩

end Go.Proofs.Ytaodjipnffgihaa

namespace Go.Proofs.Ytaodjipnffgihaa
open Go.RowKit Go.Shelf

attribute [local go_sem] Oper.semAt_some

/-- A part that lies within the greatest text. -/
abbrev Pt := { p : Part // p.at' + p.n ≤ 65536 }

theorem partsFrom_bound {l : List UInt8} (hl : l.length ≤ 65536) : ∀ (k : Nat), ∀ p ∈ partsFrom l k, p.at' + p.n ≤ 65536 := by
  intro k
  induction hm : l.length - k using Nat.strongRecOn generalizing k with
  | ind m ih =>
    intro p hp
    unfold partsFrom at hp
    split at hp
    · rename_i h
      rcases List.mem_cons.1 hp with rfl | hp
      · have hne : l.drop k ≠ [] := fun h2 => by have := List.drop_eq_nil_iff.1 h2; omega
        have := partN_le hne
        rw [List.length_drop] at this
        simp only [partAt]
        omega
      · have hpos := partN_pos (l.drop k)
        exact ih (l.length - (k + partN (l.drop k))) (by omega) (k + partN (l.drop k)) rfl p hp
    · simp at hp

/-- The parts of a list of at most 65536 bytes. -/
def ptsFrom (l : List UInt8) (hl : l.length ≤ 65536) (k : Nat) : List Pt := (partsFrom l k).attachWith _ (partsFrom_bound hl k)

theorem ptsFrom_val (l : List UInt8) (hl : l.length ≤ 65536) (k : Nat) : (ptsFrom l hl k).map (·.1) = partsFrom l k := by
  unfold ptsFrom
  rw [List.attachWith_map_subtype_val]

theorem pts_inj {a b : List Pt} (h : a.map (·.1) = b.map (·.1)) : a = b := by
  induction a generalizing b with
  | nil => cases b with | nil => rfl | cons y b => simp at h
  | cons x a ih =>
    cases b with
    | nil => simp at h
    | cons y b =>
      simp only [List.map_cons, List.cons.injEq] at h
      rw [Subtype.ext h.1, ih h.2]

theorem partAt_bound {l : List UInt8} (hl : l.length ≤ 65536) {k : Nat} (hk : k < l.length) : (partAt l k).at' + (partAt l k).n ≤ 65536 :=
  partsFrom_bound hl k _ (by rw [partsFrom, dif_pos hk]; exact List.mem_cons_self)

theorem ptsFrom_cons (l : List UInt8) (hl : l.length ≤ 65536) (k : Nat) (hk : k < l.length) : ptsFrom l hl k = ⟨partAt l k, partAt_bound hl hk⟩ :: ptsFrom l hl (k + partN (l.drop k)) := by
  apply pts_inj
  rw [ptsFrom_val, List.map_cons, ptsFrom_val, partsFrom, dif_pos hk]

theorem ptsFrom_nil (l : List UInt8) (hl : l.length ≤ 65536) (k : Nat) (hk : ¬ k < l.length) : ptsFrom l hl k = [] := by
  apply pts_inj
  rw [ptsFrom_val, partsFrom, dif_neg hk]; rfl

set_option maxHeartbeats 400000 in
/-- phys.parts boxes the text and answers its iterator. -/
theorem parts_any (s : ByteArray) (w : World) :
    Calls Try.prog 59 #[.string s] w fun e w' => e = .returned (.func (.func 73) #[] #[.pointer (some ⟨w.heap.size, 0, none⟩)]) ∧ w' = w.alloc (.cells #[.string s] 9) := by
  go_enter Try.func59, Try.ntmps59
  go_wp2
  go_ret
  exact ⟨rfl, rfl⟩

/-- phys.partAt's answer, as a part of the text's. -/
theorem partAt_pt (s : ByteArray) (k : Nat) (x : Pt) (w : World) (hs : s.size ≤ 65536) (hk : k < s.size) (hx : x.1 = partAt s.data.toList k) :
    Calls Try.prog 74 #[.string s, .int .i64 k] w fun e w' => e = .returned (.agg #[.int .u8 x.1.b.toNat, .int .i64 x.1.at', .int .i64 x.1.n, .bool x.1.sp]) ∧ Below w.heap.size w w' := by
  rw [hx]; exact partAt_any s k w hs hk

theorem end_pt (x : Pt) (w : World) :
    Calls Try.prog 75 #[.agg #[.int .u8 x.1.b.toNat, .int .i64 x.1.at', .int .i64 x.1.n, .bool x.1.sp]] w fun e w' => e = .returned (.int .i64 (x.1.at' + x.1.n : Nat)) ∧ w' = w.alloc (.cells #[.int .u8 x.1.b.toNat, .int .i64 x.1.at', .int .i64 x.1.n, .bool x.1.sp] 109) :=
  end_any x.1 w (by have := x.2; omega)

theorem pt_len {l : List UInt8} {hl : l.length ≤ 65536} {pre rest : List Pt} {x : Pt} (h : ptsFrom l hl 0 = pre ++ rest) (h2 : rest = x :: ptsFrom l hl (x.1.at' + x.1.n)) : pre.length < (ptsFrom l hl 0).length := by
  rw [h, h2]; simp

set_option maxRecDepth 100000 in
set_option maxHeartbeats 1000000 in
/-- The iterator: each part in order, as long as a round says 'go on'. -/
theorem parts1_in (n : Nat) (hn : 1 ≤ n) (s : ByteArray) (hs : s.size ≤ 65536) (l Bn : Nat) (J Jx : List Pt → World → Prop) (B0 : Nat) (hJa : AbidesFrom B0 J)
    (hY : ∀ pre (x : Pt) W, J pre W → pre.length < (ptsFrom s.data.toList hs 0).length → YieldAt Fence.wide (n - 1) Try.prog l #[x.1.val] W fun e W' =>
      (e = .returned (.bool true) ∧ J (pre ++ [x]) W' ∧ KeepsBox 109 Bn 9 W W') ∨ (e = .returned (.bool false) ∧ Jx (pre ++ [x]) W'))
    (W : World) (hBn : Boxed W Bn 9 (.string s)) (h0 : J [] W) :
    CallsIn Fence.wide n Try.prog 73 #[.func (.yield l) #[] #[], .pointer (some ⟨Bn, 0, none⟩)] W fun e W' => (∃ v, e = .returned v) ∧
      ((∃ ys, ys = ptsFrom s.data.toList hs 0 ∧ J ys W') ∨ (∃ pre, pre <+: ptsFrom s.data.toList hs 0 ∧ Jx pre W')) := by
  have hl : s.data.toList.length ≤ 65536 := hs
  refine callsIn_of_wp Try.func73 rfl trivial ?_ rfl
  simp only [Try.ntmps73, List.size_toArray, List.length_cons, List.length_nil, Nat.reduceAdd, Nat.reduceSub, Array.replicate_succ, Array.replicate_zero, List.push_toArray, List.append_toArray, List.nil_append, List.cons_append]
  gi_wp2
  gi_loopw [3] (fun p wr => ∃ (pre rest : List Pt) (k : Nat), p = .int .i64 k ∧ k ≤ s.size ∧ ptsFrom s.data.toList hs 0 = pre ++ rest ∧ rest = ptsFrom s.data.toList hs k ∧ J pre wr ∧ Boxed wr Bn 9 (.string s))
    (fun p _ => s.size - (intOf p).toNat)
  case atStart =>
    exact ⟨[], ptsFrom s.data.toList hs 0, 0, rfl, Nat.zero_le _, rfl, rfl, h0, hBn⟩
  case round =>
    obtain ⟨pre, rest, k, rfl, hk, hx, hr, hJs, hbx⟩ := hrel
    have hc := hbx.cell
    by_cases hlt : k < s.size
    · rw [ptsFrom_cons _ hs k hlt] at hr
      obtain ⟨x, hxv⟩ : ∃ x : Pt, x = ⟨partAt s.data.toList k, partAt_bound hs hlt⟩ := ⟨_, rfl⟩
      have hxk : x.1.at' + x.1.n = k + partN (s.data.toList.drop k) := by rw [hxv]; rfl
      have hx1 : x.1 = partAt s.data.toList k := by rw [hxv]
      rw [← hxv, ← hxk] at hr
      have hlen := pt_len hx hr
      have hpos := partN_pos (s.data.toList.drop k)
      have hle : x.1.at' + x.1.n ≤ s.size := by
        have hne : s.data.toList.drop k ≠ [] := fun h2 => by have := List.drop_eq_nil_iff.1 h2; rw [size_list] at this; omega
        have := partN_le hne
        rw [List.length_drop, size_list] at this
        omega
      have hgt : k < x.1.at' + x.1.n := by omega
      have HX := Lib.hid hx; clear hx
      have HR := Lib.hid hr; clear hr
      clear hxv
      have H1 := Lib.hid hx1; clear hx1
      clear hxk hpos
      gi_wp2_with fail
      refine ⟨trivial, (callsIn_wide.2 (partAt_pt s k x _ hs hlt H1.out)).mono ?_⟩
      rintro e w1 ⟨rfl, hb1⟩
      have hb2 : Below wr.heap.size wr (w1.alloc (.cells #[.int .u8 x.1.b.toNat, .int .i64 x.1.at', .int .i64 x.1.n, .bool x.1.sp] 109)) := hb1.alloc hb1.size _
      obtain ⟨fn, tmps, assign, body, hy, hR⟩ := hY pre x _ (abides_below hJa hJs hb2) hlen
      unfold Part.val at hy
      have hbox := World.alloc_heap_new w1 (.cells #[.int .u8 x.1.b.toNat, .int .i64 x.1.at', .int .i64 x.1.n, .bool x.1.sp] 109)
      gi_wp2_with fail
      refine hR.mono ?_
      rintro e W3 (⟨rfl, hJ3, hk4, hk5⟩ | ⟨rfl, hJx3⟩)
      · have hb3 := hk4 _ _ _ hbox
        have d0 : W3.cell? ⟨w1.heap.size, 0, none⟩ = some (.int .u8 x.1.b.toNat) := by rw [Lib.cell_of_heap hb3]; rfl
        have d1 : W3.cell? ⟨w1.heap.size, 1, none⟩ = some (.int .i64 x.1.at') := by rw [Lib.cell_of_heap hb3]; rfl
        have d2 : W3.cell? ⟨w1.heap.size, 2, none⟩ = some (.int .i64 x.1.n) := by rw [Lib.cell_of_heap hb3]; rfl
        have d3 : W3.cell? ⟨w1.heap.size, 3, none⟩ = some (.bool x.1.sp) := by rw [Lib.cell_of_heap hb3]; rfl
        have hbx3 : Boxed W3 Bn 9 (.string s) := hk5 _ ((hb2.block Bn hbx.lt).trans hbx)
        have H3 := Lib.hid hbx3
        clear hbx3
        gi_wp2_with fail
        refine ⟨trivial, (callsIn_wide.2 (end_pt x _)).mono ?_⟩
        rintro e w4 ⟨rfl, rfl⟩
        gi_wp2
        go_roundw
        case rel =>
          refine ⟨pre ++ [x], _, x.1.at' + x.1.n, rfl, hle, ?_, rfl, abides_below hJa hJ3 (below1 _ _), H3.out.alloc _⟩
          rw [HX.out, HR.out]; simp
        case measure => simp [intOf]; omega
      · gi_wp2
        refine bodyPost_ret (results_none rfl _ _ _) rfl ?_
        exact ⟨⟨_, rfl⟩, .inr ⟨pre ++ [x], ⟨ptsFrom s.data.toList hs (x.1.at' + x.1.n), by rw [HX.out, HR.out]; simp⟩, hJx3⟩⟩
    · rw [ptsFrom_nil _ hs k hlt] at hr
      subst hr
      rw [List.append_nil] at hx
      have HX := Lib.hid hx; clear hx
      gi_wp2
      go_end0
      exact ⟨⟨_, rfl⟩, .inl ⟨pre, HX.out.symm, hJs⟩⟩

/-- phys.parts' ITERATOR: all parts in order, or a prefix, where a round has said 'no more'. -/
theorem parts_stops (n : Nat) (hn : 1 ≤ n) (s : ByteArray) (hs : s.size ≤ 65536) (Bn : Nat) (w : World) (hc : Boxed w Bn 9 (.string s)) :
    SeqStopsK Fence.wide n Try.prog 73 #[.pointer (some ⟨Bn, 0, none⟩)] (fun x : Pt => #[.agg #[.int .u8 x.1.b.toNat, .int .i64 x.1.at', .int .i64 x.1.n, .bool x.1.sp]])
      (KeepsBox 109 Bn 9) (fun ys => ys = ptsFrom s.data.toList hs 0) (fun pre => pre <+: ptsFrom s.data.toList hs 0) (ptsFrom s.data.toList hs 0).length w := fun l J Jx W hW hJ _ hY h0 =>
  parts1_in n hn s hs l Bn J Jx W.heap.size hJ hY W ((hW.block Bn hc.lt).trans hc) h0

end Go.Proofs.Ytaodjipnffgihaa

namespace Go.Proofs.Ytaodjipnffgihaa
open Go.RowKit Go.Shelf

attribute [local go_sem] Oper.semAt_some

/-- Does a text end well? -/
def wellB (l : List UInt8) : Bool := match (parts l).getLast? with
  | none => l == []
  | some p => !p.sp && p.b == 10

theorem parts_reach {l : List UInt8} : ∀ (m k : Nat), l.length - k = m → k < l.length → (∀ p ∈ partsFrom l k, p.at' + p.n < l.length) → False := by
  intro m
  induction m using Nat.strongRecOn with
  | ind m ih =>
    intro k hm hk h
    rw [partsFrom, dif_pos hk] at h
    have h1 := h _ List.mem_cons_self
    have hp := partN_pos (l.drop k)
    simp only [partAt] at h1
    exact ih (l.length - (k + partN (l.drop k))) (by omega) _ rfl h1 (fun p hp => h p (List.mem_cons_of_mem _ hp))

theorem parts_last {l : List UInt8} : ∀ (q : List Part) (x : Part) (k : Nat), q ++ [x] <+: partsFrom l k → l.length ≤ x.at' + x.n → q ++ [x] = partsFrom l k := by
  intro q
  induction q with
  | nil =>
    intro x k h hx
    rw [partsFrom] at h ⊢
    by_cases hk : k < l.length
    · rw [dif_pos hk] at h ⊢
      obtain ⟨t, ht⟩ := h
      simp only [List.nil_append, List.cons_append, List.cons.injEq] at ht
      obtain ⟨rfl, _⟩ := ht
      simp only [partAt] at hx
      rw [partsFrom, dif_neg (by omega)]
      rfl
    · rw [dif_neg hk] at h
      obtain ⟨t, ht⟩ := h
      simp at ht
  | cons p q ih =>
    intro x k h hx
    rw [partsFrom] at h ⊢
    by_cases hk : k < l.length
    · rw [dif_pos hk] at h ⊢
      obtain ⟨t, ht⟩ := h
      simp only [List.cons_append, List.cons.injEq] at ht
      obtain ⟨rfl, ht⟩ := ht
      simp only [List.cons_append, List.cons.injEq, true_and]
      exact ih x _ ⟨t, ht⟩ hx
    · rw [dif_neg hk] at h
      obtain ⟨t, ht⟩ := h
      simp at ht

/-- All parts end ahead of the text's end: there are none. -/
theorem well_done {s : ByteArray} (hs : s.size ≤ 65536) (h : ∀ p ∈ ptsFrom s.data.toList hs 0, p.1.at' + p.1.n < s.size) : wellB s.data.toList = s.toList.isEmpty := by
  have hnot : ¬ 0 < s.data.toList.length := fun h0 => parts_reach (l := s.data.toList) _ 0 rfl h0 (fun p hp => by
    rw [← ptsFrom_val _ hs] at hp
    obtain ⟨q, hq, rfl⟩ := List.mem_map.1 hp
    exact h q hq)
  have h0 : s.data.toList = [] := List.length_eq_zero_iff.1 (by omega)
  rw [ByteArray.toList_eq, h0]
  simp [wellB, parts, partsFrom]

theorem well_stop {s : ByteArray} (hs : s.size ≤ 65536) {q : List Pt} {x : Pt} (h : q ++ [x] <+: ptsFrom s.data.toList hs 0) (hx : s.size ≤ x.1.at' + x.1.n) :
    wellB s.data.toList = if x.1.sp then s.toList.isEmpty else ((x.1.b.toNat : Int) == 10) := by
  have h2 : q.map (·.1) ++ [x.1] <+: partsFrom s.data.toList 0 := by
    obtain ⟨t, ht⟩ := h
    refine ⟨t.map (·.1), ?_⟩
    rw [← ptsFrom_val _ hs, ← ht]
    simp
  have h3 := parts_last _ _ _ h2 hx
  have hne : s.data.toList ≠ [] := fun h0 => by
    rw [h0] at h3
    simp [partsFrom] at h3
  have he : s.toList.isEmpty = false := by rw [ByteArray.toList_eq]; simpa using hne
  simp only [wellB, parts, ← h3, List.getLast?_append, List.getLast?_singleton, Option.some_or, he]
  cases x.1.sp
  · simp only [Bool.not_false, Bool.true_and]
    rw [Bool.eq_iff_iff]
    constructor
    · intro h
      rw [eq_of_beq h]; rfl
    · intro h; exact beq_iff_eq.2 (eq_u8 10 h)
  · simp

set_option maxRecDepth 100000 in
set_option maxHeartbeats 2000000 in
/-- phys.endsWell AT EVERY TEXT of at most 65536 bytes. -/
theorem endsWell_any (s : ByteArray) (w : World) (hs : s.size ≤ 65536) :
    Calls Try.prog 72 #[.string s] w fun e w' => e = .returned (.bool (wellB s.data.toList)) ∧ Below w.heap.size w w' := by
  refine (callsIn_wide (n := 20)).1 ?_
  refine callsIn_of_wp_marks Try.func72 rfl trivial ?_ rfl
  simp only [Try.ntmps72, List.size_toArray, List.length_cons, List.length_nil, Nat.reduceAdd, Nat.reduceSub, Array.replicate_succ, Array.replicate_zero, List.push_toArray, List.append_toArray, List.nil_append, List.cons_append]
  gi_wp2
  refine wpIn_scope_wide ?_
  gi_wp2
  refine wpIn_label_wide ?_
  gi_wp2
  refine ⟨trivial, (callsIn_wide.2 (parts_any _ _)).mono ?_⟩
  rintro e w' ⟨rfl, rfl⟩
  gi_wp2
  have bS := ((Boxed.new w 9 (.string s)).alloc (.cells #[.bool s.toList.isEmpty] 4)).alloc (.cells #[.string s] 9)
  have bW := (Boxed.new (w.alloc (.cells #[.string s] 9)) 4 (.bool s.toList.isEmpty)).alloc (.cells #[.string s] 9)
  have bN := Boxed.new ((w.alloc (.cells #[.string s] 9)).alloc (.cells #[.bool s.toList.isEmpty] 4)) 9 (.string s)
  simp only [World.size_alloc] at bW bN
  have hB0 := below3 w (.cells #[.string s] 9) (.cells #[.bool s.toList.isEmpty] 4) (.cells #[.string s] 9)
  have hsz : (((w.alloc (.cells #[.string s] 9)).alloc (.cells #[.bool s.toList.isEmpty] 4)).alloc (.cells #[.string s] 9)).heap.size = w.heap.size + 3 := by simp
  obtain ⟨W0, hW0⟩ : ∃ W0, ((w.alloc (.cells #[.string s] 9)).alloc (.cells #[.bool s.toList.isEmpty] 4)).alloc (.cells #[.string s] 9) = W0 := ⟨_, rfl⟩
  rw [hW0] at bS bW bN hB0 hsz ⊢
  clear hW0
  refine wpIn_rangeFunc_ownH rfl (by decide) (gf := 73) (lb := #[.pointer (some ⟨w.heap.size + 1 + 1, 0, none⟩)]) rfl trivial (enters_of Try.func73 (by kernel_rfl) rfl)
    (parts_stops _ (by decide) s hs (w.heap.size + 1 + 1) W0 bN) keepsBox_t (keepsBox_b (n := W0.heap.size)) (Below.refl _ _) (fun _ => rfl)
    (fun pre W => ((Boxed W (w.heap.size + 1) 4 (.bool s.toList.isEmpty) ∧ Boxed W w.heap.size 9 (.string s)) ∧ Below w.heap.size w W) ∧ ∀ p ∈ pre, p.1.at' + p.1.n < s.size)
    (fun c pre W => (∃ v, Boxed W (w.heap.size + 1) 4 (.bool v) ∧ c = .exit 0 ∧ ∃ q x, pre = q ++ [x] ∧ s.size ≤ x.1.at' + x.1.n ∧ v = if x.1.sp then s.toList.isEmpty else ((x.1.b.toNat : Int) == 10)) ∧ Below w.heap.size w W)
    (OwnFrom.and (OwnFrom.and (OwnFrom.and (Own.from (boxed_own _ _ _) _) (Own.from (boxed_own _ _ _) _)) (ownFrom_below (Nat.le_refl _) (by omega))) (ownFrom_pure _ _))
    (fun c => OwnFrom.and (fun pre X Y row hs' hg hr => by obtain ⟨v, hb, h2⟩ := hs'; exact ⟨v, boxed_own _ _ (fun (_ : Unit) => Value.bool v) () X Y row hb hg (fun r e => (hr r e).2), h2⟩) (ownFrom_below (Nat.le_refl _) (by omega)))
    ⟨⟨⟨bW, bS⟩, hB0⟩, fun _ h => by cases h⟩
    (fun x a' W => ∃ Bx, w.heap.size + 1 < Bx ∧ W.heap[Bx]? = some (.cells #[.int .u8 x.1.b.toNat, .int .i64 x.1.at', .int .i64 x.1.n, .bool x.1.sp] 109 (0, 0)) ∧ a' = { tmps := #[.string s, .pointer (some ⟨w.heap.size, 0, none⟩), .bool false, .pointer (some ⟨w.heap.size + 1, 0, none⟩), .pointer (some ⟨Bx, 0, none⟩), .string s, .bool s.toList.isEmpty, .string s, .func (.func 73) #[] #[.pointer (some ⟨w.heap.size + 1 + 1, 0, none⟩)], .agg #[.int .u8 x.1.b.toNat, .int .i64 x.1.at', .int .i64 x.1.n, .bool x.1.sp], undef, undef, undef, undef, undef, undef, undef, undef, undef, undef, undef, undef, undef, undef], defers := [] })
    (fun x a' _ X Y row hs' hg hr => by
      obtain ⟨Bx, h1, h2, h3⟩ := hs'
      refine ⟨Bx, h1, (hg.block Bx (Array.getElem?_eq_some_iff.1 h2).1 (fun e => ?_)).trans h2, h3⟩
      obtain ⟨_, o, ho, hc⟩ := hr Bx e.symm
      rw [h2] at ho; cases ho; cases hc)
    ?assign ?body ?done ?stop
  case assign =>
    rintro l pre x W K ⟨⟨⟨bW1, bS1⟩, hB1⟩, hp⟩ hK
    gi_wp2
    exact hK _ _ ((KeepsOthers.alloc _ _).from _) (keepsBox_below (below1 _ _)) ⟨⟨⟨bW1.alloc _, bS1.alloc _⟩, hB1.alloc hB1.size _⟩, hp⟩ ⟨W.heap.size, bW1.lt, World.alloc_heap_new _ _, rfl⟩
  case body =>
    rintro l pre x a' W hl ⟨r, hr⟩ ⟨⟨⟨bW1, bS1⟩, hB1⟩, hp⟩ ⟨Bx, hBx, bX, rfl⟩ hlt
    have d0 : W.cell? ⟨Bx, 0, none⟩ = some (.int .u8 x.1.b.toNat) := by rw [Lib.cell_of_heap bX]; rfl
    have d1 : W.cell? ⟨Bx, 1, none⟩ = some (.int .i64 x.1.at') := by rw [Lib.cell_of_heap bX]; rfl
    have d2 : W.cell? ⟨Bx, 2, none⟩ = some (.int .i64 x.1.n) := by rw [Lib.cell_of_heap bX]; rfl
    have d3 : W.cell? ⟨Bx, 3, none⟩ = some (.bool x.1.sp) := by rw [Lib.cell_of_heap bX]; rfl
    have cS := bS1.cell
    have cW := bW1.cell
    have fW := bW1.frozen
    have hmx : Try.prog.follows .mixedOrders = true := by kernel_rfl
    have hC := fun W => CallsIn.inRound (n := 17) l (callsIn_wide.2 (end_pt x W))
    have lS := bS1.lt
    have lW := bW1.lt
    have lX := (Array.getElem?_eq_some_iff.1 bX).1
    by_cases hend : x.1.at' + x.1.n < s.size
    · gi_wp2
      gi_region_with_o (refine ⟨trivial, ?_⟩; gi_at_call 75; refine (hC _).mono ?_; rintro e w' ⟨rfl, rfl⟩)
      all_goals gi_wp2
      all_goals
        have hbW := (below1 W (.cells #[.int .u8 x.1.b.toNat, .int .i64 x.1.at', .int .i64 x.1.n, .bool x.1.sp] 109)).drew
        refine ⟨keepsFrom_below hbW, keepsBox_below hbW, ⟨⟨bW1.alloc _, bS1.alloc _⟩, (hB1.alloc hB1.size _).drew⟩, fun p hp' => ?_⟩
        rcases List.mem_append.1 hp' with h' | h'
        · exact hp p h'
        · obtain rfl : p = x := by simpa using h'
          exact hend
    · gi_wp2
      gi_region_with_o (refine ⟨trivial, ?_⟩; gi_at_call 75; refine (hC _).mono ?_; rintro e w' ⟨rfl, rfl⟩)
      all_goals gi_wp2
      all_goals
        have hbW := (below1 W (.cells #[.int .u8 x.1.b.toNat, .int .i64 x.1.at', .int .i64 x.1.n, .bool x.1.sp] 109)).drew
      all_goals first
        | (have hsp : x.1.sp = true := by assumption
           exact ⟨keepsFrom_below hbW, ⟨_, bW1.alloc _, rfl, pre, x, rfl, by omega, by rw [if_pos hsp]⟩, (hB1.alloc hB1.size _).drew⟩)
        | (have hsp : x.1.sp = false := by assumption
           have hBs := hB1.setCell (p := ⟨w.heap.size + 1, 0, none⟩) (by simp) (.bool ((x.1.b.toNat : Int) == 10))
           exact ⟨((KeepsOthers.setCell _ _ _).from _).trans (keepsFrom_below (below1 _ _).drew), ⟨_, (bW1.set _).alloc _, rfl, pre, x, rfl, by omega, by rw [hsp]; rfl⟩, (hBs.alloc hBs.size _).drew⟩)
  case done =>
    rintro D ys W hD rfl ⟨⟨⟨bW1, bS1⟩, hB1⟩, hp⟩ hK
    have cW := bW1.cell
    have HE := Lib.hid (well_done hs hp)
    clear hp
    gi_wp2
    rw [Exit.noGoto_ret]
    refine ⟨by simp, .inl ⟨_, _, rfl, run_takeDeferred hK, ?_⟩⟩
    refine ⟨_, results_tmp rfl _ _ _, ?_⟩
    exact ⟨ret_bool HE.out.symm, hB1.trans (belowK_b (w := w) (Nat.le_refl _) W D _ _ (by omega) hK rfl rfl)⟩
  case stop =>
    rintro D c pre W hD hpre ⟨⟨v, bW1, rfl, q, x, rfl, hx, hv⟩, hB1⟩ hK
    have cW := bW1.cell
    have HE := Lib.hid ((well_stop hs hpre hx).trans hv.symm)
    clear hv
    gi_wp2
    rw [Exit.noGoto_ret]
    refine ⟨by simp, .inl ⟨_, _, rfl, run_takeDeferred hK, ?_⟩⟩
    refine ⟨_, results_tmp rfl _ _ _, ?_⟩
    exact ⟨ret_bool HE.out.symm, hB1.trans (belowK_b (w := w) (Nat.le_refl _) W D _ _ (by omega) hK rfl rfl)⟩

/-- What Check answers of a list. -/
def checkN (l : List UInt8) : Int := if 65536 < l.length then 3 else if wellB l then 0 else 10

theorem check_long {s : ByteArray} (h : 65536 < s.size) : checkN s.data.toList = 3 := by
  unfold checkN; rw [if_pos (by rw [size_list]; exact h)]
theorem check_well {s : ByteArray} (h : ¬ 65536 < s.size) (h2 : wellB s.data.toList = true) : checkN s.data.toList = 0 := by
  unfold checkN; rw [if_neg (by rw [size_list]; exact h), if_pos h2]
theorem check_ill {s : ByteArray} (h : ¬ 65536 < s.size) (h2 : wellB s.data.toList = false) : checkN s.data.toList = 10 := by
  unfold checkN; rw [if_neg (by rw [size_list]; exact h), if_neg (by rw [h2]; decide)]

set_option maxHeartbeats 400000 in
/-- phys.Check AT EVERY TEXT. -/
theorem check_any (s : ByteArray) (w : World) (hs : s.size ≤ maxLen) :
    Calls Try.prog 58 #[.string s] w fun e w' => e = .returned (.int .i64 (checkN s.data.toList)) ∧ Below w.heap.size w w' := by
  unfold maxLen at hs
  by_cases hl : 65536 < s.size
  · have H := Lib.hid (check_long hl)
    go_enter Try.func58, Try.ntmps58
    go_wp2
    go_ret
    exact ⟨ret_int H.out.symm, Below.refl _ _⟩
  · have hle : s.size ≤ 65536 := by omega
    go_enter Try.func58, Try.ntmps58
    go_wp2_with (go_at_call 72; refine (endsWell_any s _ hle).mono ?_; rintro e w1 ⟨rfl, hb1⟩)
    · have h : wellB s.data.toList = false := by simpa using (show (!wellB s.data.toList) = true by assumption)
      go_ret
      exact ⟨ret_int (check_ill hl h).symm, hb1⟩
    · have h : wellB s.data.toList = true := by simpa using (show (!wellB s.data.toList) = false by assumption)
      go_ret
      exact ⟨ret_int (check_well hl h).symm, hb1⟩

end Go.Proofs.Ytaodjipnffgihaa

namespace Go.Proofs.Ytaodjipnffgihaa
open Go.RowKit Go.Shelf

attribute [local go_sem] Oper.semAt_some

theorem partsFrom_length {l : List UInt8} : ∀ (m k : Nat), l.length - k = m → (partsFrom l k).length ≤ m := by
  intro m
  induction m using Nat.strongRecOn with
  | ind m ih =>
    intro k hm
    rw [partsFrom]
    by_cases hk : k < l.length
    · rw [dif_pos hk]
      have hp := partN_pos (l.drop k)
      have := ih (l.length - (k + partN (l.drop k))) (by omega) _ rfl
      simp only [List.length_cons]
      omega
    · rw [dif_neg hk]; simp

theorem ptsFrom_length {s : ByteArray} (hs : s.size ≤ 65536) : (ptsFrom s.data.toList hs 0).length ≤ 65536 := by
  have h := partsFrom_length (l := s.data.toList) _ 0 rfl
  rw [← ptsFrom_val _ hs, List.length_map, size_list] at h
  omega

/-- The characters among parts; as cells. -/
def chs (ps : List Part) : List Part := ps.filter fun p => !p.sp
def charCell (p : Part) : List Value := [.int .u8 p.b.toNat, .int .i64 p.at', .int .i64 p.n]
def charCells (ps : List Part) : List Value := ps.flatMap charCell

theorem charCells_snoc (ps : List Part) (p : Part) : charCells (ps ++ [p]) = charCells ps ++ charCell p := by simp [charCells]
theorem chs_yes (ps : List Part) {p : Part} (h : p.sp = false) : chs (ps ++ [p]) = chs ps ++ [p] := by simp [chs, h]
theorem chs_no (ps : List Part) {p : Part} (h : p.sp = true) : chs (ps ++ [p]) = chs ps := by simp [chs, h]
theorem chs_length (ps : List Part) : (chs ps).length ≤ ps.length := List.length_filter_le _ _

/-- A text's characters, as Chars answers them. -/
def charsOf (l : List UInt8) : List Part := if checkN l = 0 then chs (parts l) else []

theorem charsOf_ok {l : List UInt8} (h : checkN l = 0) : charsOf l = chs (parts l) := by unfold charsOf; rw [if_pos h]
theorem charsOf_bad {l : List UInt8} (h : ¬ checkN l = 0) : charsOf l = [] := by unfold charsOf; rw [if_neg h]

/-- The characters among parts within the greatest text; a condition that always holds (hidden from the walk). -/
def chsP (pre : List Pt) : List Part := chs (pre.map (·.1))
def Tr (_ : List Pt) (_ : Value) : Prop := True
theorem chsP_yes (pre : List Pt) {x : Pt} (h : x.1.sp = false) : chsP (pre ++ [x]) = chsP pre ++ [x.1] := by
  unfold chsP; rw [List.map_append]; exact chs_yes _ h
theorem chsP_no (pre : List Pt) {x : Pt} (h : x.1.sp = true) : chsP (pre ++ [x]) = chsP pre := by
  unfold chsP; rw [List.map_append]; exact chs_no _ h
theorem chsP_length (pre : List Pt) : (chsP pre).length ≤ pre.length := by
  have := chs_length (pre.map (·.1)); rw [List.length_map] at this; exact this
theorem chsP_rowY {pre : List Pt} {x : Pt} {W : World} {b : Nat} {v : Value} (hsp : x.1.sp = false) (h : W.ownsRow b 77 3 v ((chsP pre).length + 1) (charCells (chsP pre) ++ charCell x.1)) :
    W.ownsRow b 77 3 v (chsP (pre ++ [x])).length (charCells (chsP (pre ++ [x]))) := by
  rw [chsP_yes pre hsp, charCells_snoc, List.length_append]; exact h
theorem chsP_all (s : ByteArray) (hs : s.size ≤ 65536) : chsP (ptsFrom s.data.toList hs 0) = chs (parts s.data.toList) := by
  unfold chsP parts; rw [ptsFrom_val]

theorem cell_three_new (w : World) (a b c : Value) (t : TypeId) : ∀ j u, [a, b, c][j]? = some u → (w.alloc (.cells #[a, b, c] t)).cell? ((⟨w.heap.size, 0, none⟩ : Addr).add j) = some u := by
  intro j u hj
  match j, hj with
  | 0, hj => simp at hj; subst hj; simp [Addr.add]
  | 1, hj => simp at hj; subst hj; simp [Addr.add]
  | 2, hj => simp at hj; subst hj; simp [Addr.add]
  | j + 3, hj => simp at hj

theorem infoChar : (Try.prog.info? 77).map (fun i => (i.zero, i.size, i.bytes)) = some (some (.agg #[.int .u8 0, .int .i64 0, .int .i64 0]), 3, 24) := by kernel_rfl

set_option maxRecDepth 100000 in
set_option maxHeartbeats 2000000 in
theorem chars_ok (s : ByteArray) (w : World) (hs : s.size ≤ maxLen) (hle : s.size ≤ 65536) (hok : checkN s.data.toList = 0) :
    Calls Try.prog 38 #[.string s] w fun e w' => (∃ v, e = .returned (.tuple #[v, .int .i64 0]) ∧ w'.ownsRow w.heap.size 77 3 v (chs (parts s.data.toList)).length (charCells (chs (parts s.data.toList)))) ∧ Below w.heap.size w w' := by
  obtain ⟨i0, hi, hz0, hz1, hz2⟩ := info_parts infoChar
  refine (callsIn_wide (n := 20)).1 ?_
  refine callsIn_of_wp_marks Try.func38 rfl trivial ?_ rfl
  simp only [Try.ntmps38, List.size_toArray, List.length_cons, List.length_nil, Nat.reduceAdd, Nat.reduceSub, Array.replicate_succ, Array.replicate_zero, List.push_toArray, List.append_toArray, List.nil_append, List.cons_append]
  gi_wp2
  refine ⟨trivial, (callsIn_wide.2 (check_any s w hs)).mono ?_⟩
  rintro e w1 ⟨rfl, hb1⟩
  rw [hok]
  gi_wp2
  refine ⟨trivial, (callsIn_wide.2 (parts_any _ _)).mono ?_⟩
  rintro e w' ⟨rfl, rfl⟩
  gi_wp2
  have hlen := ptsFrom_length hle
  have bL := (Boxed.new w1 70 (.slice none 0 0)).alloc (.cells #[.string s] 9)
  have bN := Boxed.new (w1.alloc (.cells #[.slice none 0 0] 70)) 9 (.string s)
  simp only [World.size_alloc] at bN
  have hB0 : Below w.heap.size w ((w1.alloc (.cells #[.slice none 0 0] 70)).alloc (.cells #[.string s] 9)) := hb1.trans ((below2 w1 _ _).mono hb1.size)
  have hs1 := hb1.size
  have hsz : w1.heap.size + 2 ≤ ((w1.alloc (.cells #[.slice none 0 0] 70)).alloc (.cells #[.string s] 9)).heap.size := by simp
  obtain ⟨W0, hW0⟩ : ∃ W0, (w1.alloc (.cells #[.slice none 0 0] 70)).alloc (.cells #[.string s] 9) = W0 := ⟨_, rfl⟩
  rw [hW0] at bL bN hB0 hsz ⊢
  clear hW0
  refine wpIn_rangeFunc_ownH rfl (by decide) (gf := 73) (lb := #[.pointer (some ⟨w1.heap.size + 1, 0, none⟩)]) rfl trivial (enters_of Try.func73 (by kernel_rfl) rfl)
    (parts_stops _ (by decide) s hle (w1.heap.size + 1) W0 bN) keepsBox_t (keepsBox_b (n := W0.heap.size)) (Below.refl _ _) (fun _ => rfl)
    (fun pre W => (∃ v, Boxed W w1.heap.size 70 v ∧ W.ownsRow w.heap.size 77 3 v (chsP pre).length (charCells (chsP pre)) ∧ Tr pre v) ∧ Below w.heap.size w W)
    (fun _ _ _ => False)
    (OwnFrom.and (Own.from (holdsRow_own w.heap.size w1.heap.size 70 77 3 (fun pre => (chsP pre).length) (fun pre => charCells (chsP pre)) Tr) _) (ownFrom_below (Nat.le_refl _) (by omega)))
    (fun _ _ _ _ _ hs' _ _ => hs')
    ⟨⟨_, bL, World.ownsRow_nil _ _ _ _, trivial⟩, hB0⟩
    (fun x a' W => ∃ Bx, w1.heap.size < Bx ∧ W.heap[Bx]? = some (.cells #[.int .u8 x.1.b.toNat, .int .i64 x.1.at', .int .i64 x.1.n, .bool x.1.sp] 109 (0, 0)) ∧ a' = { tmps := #[.string s, undef, .slice none 0 0, .int .i64 0, .int .i64 0, .pointer (some ⟨w1.heap.size, 0, none⟩), .pointer (some ⟨Bx, 0, none⟩), .string s, .int .i64 0, .int .i64 0, .bool false, undef, .string s, .func (.func 73) #[] #[.pointer (some ⟨w1.heap.size + 1, 0, none⟩)], .agg #[.int .u8 x.1.b.toNat, .int .i64 x.1.at', .int .i64 x.1.n, .bool x.1.sp], undef, undef, undef, undef, undef, undef, undef, undef, undef], defers := [] })
    (fun x a' _ X Y row hs' hg hr => by
      obtain ⟨Bx, h1, h2, h3⟩ := hs'
      refine ⟨Bx, h1, (hg.block Bx (Array.getElem?_eq_some_iff.1 h2).1 (fun e => ?_)).trans h2, h3⟩
      obtain ⟨_, o, ho, hc⟩ := hr Bx e.symm
      rw [h2] at ho; cases ho; cases hc)
    ?assign ?body ?done ?stop
  case assign =>
    rintro l pre x W K ⟨⟨v, bL1, hrow, _⟩, hB1⟩ hK
    gi_wp2
    exact hK _ _ ((KeepsOthers.alloc _ _).from _) (keepsBox_below (below1 _ _)) ⟨⟨v, bL1.alloc _, hrow.alloc _, trivial⟩, hB1.alloc hB1.size _⟩ ⟨W.heap.size, bL1.lt, World.alloc_heap_new _ _, rfl⟩
  case body =>
    rintro l pre x a' W hl ⟨r, hr⟩ ⟨⟨v, bL1, hrow, _⟩, hB1⟩ ⟨Bx, hBx, bX, rfl⟩ hlt
    have d0 : W.cell? ⟨Bx, 0, none⟩ = some (.int .u8 x.1.b.toNat) := by rw [Lib.cell_of_heap bX]; rfl
    have d1 : W.cell? ⟨Bx, 1, none⟩ = some (.int .i64 x.1.at') := by rw [Lib.cell_of_heap bX]; rfl
    have d2 : W.cell? ⟨Bx, 2, none⟩ = some (.int .i64 x.1.n) := by rw [Lib.cell_of_heap bX]; rfl
    have d3 : W.cell? ⟨Bx, 3, none⟩ = some (.bool x.1.sp) := by rw [Lib.cell_of_heap bX]; rfl
    have hc := bL1.cell
    have hcl := chsP_length pre
    gi_wp2_with (gi_at_builtin; refine wpListIn_append_own _ rfl _ _ 70 rfl w.heap.size 77 i0 (.agg #[.int .u8 0, .int .i64 0, .int .i64 0]) 3 24 Try.underlying70 hi hz0 hz1 hz2 rfl (by decide) _ _ _ rfl (hrow.alloc _) ⟨W.heap.size, 0, none⟩ 1 1 (charCell x.1) rfl rfl (cell_three_new _ _ _ _ _) (by simp [Value.oneCell', charCell]) (by unfold maxLen; omega) (by omega) (by have := hB1.size; simp; omega) ?_; intro v' w2 hown' hgrow _; obtain ⟨g', cap', rfl⟩ := ownsRow_succ hown'; obtain ⟨hv1, hv2, hr2, hk2, hb2⟩ := bL1.appended (by decide) hrow hB1.size hs1 hown' hgrow; have hc1 := hv1.cell; have hf1 := hv1.frozen; have hkb : KeepsBox 109 (w1.heap.size + 1) 9 W (w2.setCell ⟨w1.heap.size, 0, none⟩ (.slice (some ⟨g', 0, none⟩) ((chsP pre).length + 1) cap')) := keepsBox_t (keepsBox_below (below1 W _)) (keepsBox_t (keepsBox_row hgrow (hrow.alloc _) (by decide) (by decide)) (keepsBox_set hv1 (by decide) (by omega) _)))
    · have hsp : x.1.sp = false := by first | assumption | simpa using (show (!x.1.sp) = true by assumption)
      exact ⟨hk2.from _, hkb, ⟨_, hv2, chsP_rowY hsp hr2, trivial⟩, hB1.trans hb2⟩
    · have hsp : x.1.sp = true := by first | assumption | simpa using (show (!x.1.sp) = false by assumption)
      exact ⟨KeepsFrom.refl _ _, keepsBox_r _, ⟨v, bL1, by rw [chsP_no pre hsp]; exact hrow, trivial⟩, hB1⟩
  case done =>
    rintro D ys W hD rfl ⟨⟨v, bL1, hrow, _⟩, hB1⟩ hK
    have hc := bL1.cell
    gi_wp2
    refine ⟨by simp, .inl ⟨_, _, rfl, run_takeDeferred hK, ?_⟩⟩
    refine ⟨_, results_tmp2 rfl _ _ _, ?_⟩
    refine ⟨⟨v, rfl, ?_⟩, hB1.trans (belowK_b (w := w) (Nat.le_refl _) W D _ _ (by omega) hK rfl rfl)⟩
    rw [chsP_all] at hrow
    exact ownsRow_putObj hrow _ hK rfl
  case stop =>
    rintro D c pre W _ _ h _
    exact h.elim

theorem check_cases (l : List UInt8) : (checkN l = 0 ∧ l.length ≤ 65536) ∨ checkN l = 3 ∨ checkN l = 10 := by
  unfold checkN
  by_cases h : 65536 < l.length
  · rw [if_pos h]; exact .inr (.inl rfl)
  · rw [if_neg h]
    cases wellB l
    · exact .inr (.inr rfl)
    · exact .inl ⟨rfl, by omega⟩

set_option maxHeartbeats 400000 in
theorem chars_bad (s : ByteArray) (w : World) (hs : s.size ≤ maxLen) (n : Int) (hn : checkN s.data.toList = n) (h3 : n = 3 ∨ n = 10) :
    Calls Try.prog 38 #[.string s] w fun e w' => e = .returned (.tuple #[.slice none 0 0, .int .i64 n]) ∧ Below w.heap.size w w' := by
  have HN := Lib.hid hn
  clear hn
  rcases h3 with rfl | rfl
  all_goals
    go_enter Try.func38, Try.ntmps38
    go_wp2_with (go_at_call 58; refine (check_any s _ hs).mono ?_; rintro e w1 ⟨rfl, hb1⟩; rw [HN.out])
    go_ret2
    exact ⟨rfl, hb1⟩

/-- phys.Chars AT EVERY TEXT. -/
theorem chars_any (s : ByteArray) (w : World) (hs : s.size ≤ maxLen) :
    Calls Try.prog 38 #[.string s] w fun e w' => (∃ v, e = .returned (.tuple #[v, .int .i64 (checkN s.data.toList)]) ∧ w'.ownsRow w.heap.size 77 3 v (charsOf s.data.toList).length (charCells (charsOf s.data.toList))) ∧ Below w.heap.size w w' := by
  rcases check_cases s.data.toList with ⟨h, hl⟩ | h | h
  · rw [charsOf_ok h, h]
    exact chars_ok s w hs hl h
  · rw [charsOf_bad (by rw [h]; decide), h]
    exact (chars_bad s w hs 3 h (.inl rfl)).mono fun e w' ⟨he, hb⟩ => ⟨⟨_, he, World.ownsRow_nil _ _ _ _⟩, hb⟩
  · rw [charsOf_bad (by rw [h]; decide), h]
    exact (chars_bad s w hs 10 h (.inr rfl)).mono fun e w' ⟨he, hb⟩ => ⟨⟨_, he, World.ownsRow_nil _ _ _ _⟩, hb⟩

end Go.Proofs.Ytaodjipnffgihaa

namespace Go.Proofs.Ytaodjipnffgihaa
open Go.RowKit

theorem sizeBuilder : (Try.prog.info? 80).map (·.size) = some 2 := by kernel_rfl
theorem liesBuilder : liesAt Try.prog Try.prog.depth 80 (2 / Try.prog.cellsOf 80) 0 80 1 = true := by kernel_rfl
theorem infoByte : (Try.prog.info? 5).map (fun i => (i.zero, i.size, i.bytes)) = some (some (.int .u8 0), 1, 1) := by kernel_rfl

set_option maxHeartbeats 1000000 in
set_option maxRecDepth 100000 in
theorem copyCheck_used (b : Nat) (w : World) (h0 : w.cell? ⟨b, 0, none⟩ = some (.pointer (some ⟨b, 0, none⟩))) :
    Calls Try.prog 64 #[.pointer (some ⟨b, 0, none⟩)] w fun e w' => e = .returned (.tuple #[]) ∧ w' = w := by
  obtain ⟨j, hj, _⟩ := Option.map_eq_some_iff.1 sizeBuilder
  go_enter Try.func64, Try.ntmps64
  go_wp2
  rw [Lib.run_neq_ptr_same w _ Try.underlying78 hj]
  go_wp2
  go_end0
  exact ⟨rfl, rfl⟩

set_option maxHeartbeats 1000000 in
set_option maxRecDepth 100000 in
theorem copyCheck_fresh (b : Nat) (w : World) (h0 : w.cell? ⟨b, 0, none⟩ = some (.pointer none)) (hsh : w.shape? b = some (80, 2)) (hfz : w.frozen? ⟨b, 0, none⟩ = false) :
    Calls Try.prog 64 #[.pointer (some ⟨b, 0, none⟩)] w fun e w' => e = .returned (.tuple #[]) ∧ w' = w.setCell ⟨b, 0, none⟩ (.pointer (some ⟨b, 0, none⟩)) := by
  obtain ⟨j, hj, hjs⟩ := Option.map_eq_some_iff.1 sizeBuilder
  go_enter Try.func64, Try.ntmps64
  go_wp2
  rw [Lib.run_to_unsafe w ⟨b, 0, none⟩ Try.underlying78 Try.underlying126 hj (by rw [hjs]; decide) hsh (Nat.zero_lt_succ 1)]
  simp only [Result.andThen]
  rw [Oper.upon_value]
  go_wp2
  rw [run_callFunc_extern Try.func80 (by kernel_rfl) (by kernel_rfl) (by kernel_rfl) (e := Extern.AbiNoEscape.same) (by kernel_rfl)]
  rw [Lib.run_noEscape]
  simp only [Result.andThen]
  rw [Oper.upon_value]
  go_wp2
  rw [Lib.run_from_unsafe w ⟨b, 0, none⟩ Try.underlying126 Try.underlying78 hj hsh liesBuilder]
  simp only [Result.andThen]
  rw [Oper.upon_value]
  go_wp2
  go_end0
  exact ⟨rfl, rfl⟩

/-- copyCheck: behind it the builder holds its own address; its bytes are as they were. -/
theorem copyCheck_k (B b : Nat) (bs : List Value) (w : World) (h : Lib.IsBuilderF 80 5 B b bs w) :
    Calls Try.prog 64 #[.pointer (some ⟨b, 0, none⟩)] w fun e w' => e = .returned (.tuple #[]) ∧ (Lib.BuilderAtF 80 5 B b (.pointer (some ⟨b, 0, none⟩)) bs w' ∧ Below B w w' ∧ Lib.OthersKept 5 (some b) w w') := by
  rcases h with h | h
  · refine (copyCheck_fresh b w h.cell0 h.shape h.frozen0).mono ?_
    rintro e w' ⟨rfl, rfl⟩
    exact ⟨rfl, h.used _, (Below.refl B w).setCell (p := ⟨b, 0, none⟩) h.1 _, (Lib.OthersKept.refl _ _ w).setCell ⟨b, 0, none⟩ rfl _⟩
  · refine (copyCheck_used b w h.cell0).mono ?_
    rintro e w' ⟨rfl, rfl⟩
    exact ⟨rfl, h, Below.refl B _, Lib.OthersKept.refl _ _ _⟩

set_option maxHeartbeats 2000000 in
set_option maxRecDepth 100000 in
/-- WriteByte: the byte goes behind those that the builder holds. -/
theorem writeByte_k (B b : Nat) (bs : List Value) (c : Int) (w : World) (h : Lib.IsBuilderF 80 5 B b bs w) (hlen : bs.length + 1 ≤ 140737488355328) (hBw : B ≤ w.heap.size) :
    Calls Try.prog 40 #[.pointer (some ⟨b, 0, none⟩), .int .u8 c] w fun e w' => e = .returned .nilIface ∧ (Lib.BuilderAtF 80 5 B b (.pointer (some ⟨b, 0, none⟩)) (bs ++ [.int .u8 c]) w' ∧ Below B w w' ∧ Lib.OthersKept 5 (some b) w w') := by
  obtain ⟨i0, hi, hz0, hz1, hz2⟩ := info_parts infoByte
  go_enter Try.func40, Try.ntmps40
  go_wp2_with (go_at_call 64; refine (copyCheck_k B b bs _ h).mono ?_)
  rintro e w1 ⟨rfl, h1, hb1, hk1⟩
  obtain ⟨hB, v, hbk, hown, hne⟩ := h1
  have c0 : w1.cell? ⟨b, 0, none⟩ = some (.pointer (some ⟨b, 0, none⟩)) := by rw [Lib.cell_of_heap hbk]; rfl
  have c1 : w1.cell? ⟨b, 1, none⟩ = some v := by rw [Lib.cell_of_heap hbk]; rfl
  go_wp2_with (at_builtin; refine wpList_append_ownF _ rfl _ _ 45 rfl B 5 i0 (.int .u8 0) 1 1 Try.underlying45 hi hz0 hz1 hz2 rfl (by decide) _ _ _ rfl (hown.alloc _) ⟨w1.heap.size, 0, none⟩ 1 1 [.int .u8 c] rfl rfl ?c1 ?c2 ?c3 ?c4 ?c5 ?_)
  case c1 =>
    intro j u hj
    match j, hj with
    | 0, hj => simp at hj; subst hj; simp [Addr.add]
  case c2 => intro u hu; simp at hu; subst hu; rfl
  case c3 => unfold maxLen; omega
  case c4 => omega
  case c5 => have := hb1.size; simp; omega
  intro v' w2 hown' hgrow _
  have hlt : b < w1.heap.size := by
    rcases Nat.lt_or_ge b w1.heap.size with h' | h'
    · exact h'
    · simp [Array.getElem?_eq_none h'] at hbk
  have hb2 : w2.heap[b]? = some (.cells #[.pointer (some ⟨b, 0, none⟩), v] 80 (0, 0)) := by
    rw [hgrow.block b (by simp; omega) (fun e => hne e.symm), Lib.alloc_old w1 _ b hlt]
    exact hbk
  have d0 : w2.cell? ⟨b, 0, none⟩ = some (.pointer (some ⟨b, 0, none⟩)) := by rw [Lib.cell_of_heap hb2]; rfl
  have d1 : w2.cell? ⟨b, 1, none⟩ = some v := by rw [Lib.cell_of_heap hb2]; rfl
  have f1 : w2.frozen? ⟨b, 1, none⟩ = false := Lib.frozen_of_heap hb2 1
  obtain ⟨g, cap, rfl⟩ : ∃ g cap, v' = .slice (some ⟨g, 0, none⟩) (bs.length + 1) cap := by
    rcases hown'.2 with ⟨_, h0⟩ | ⟨g, cap, cur, fz, hv, _⟩
    · omega
    · exact ⟨g, cap, hv⟩
  go_wp2
  go_ret
  refine ⟨rfl, ?_, ?_, ((hk1.alloc _).grown hgrow (Lib.ownsRowF_kind (hown.alloc _))).setCell ⟨b, 1, none⟩ rfl _⟩
  · exact Lib.BuilderAtF.put (T := 80) (e := 5) hB hb2 (bs' := bs ++ [.int .u8 c]) (by simpa using hown') (by decide)
  · exact ((hb1.alloc (by have := hb1.size; omega) _).grown hgrow (by have := hb1.size; simp; omega) (fun k hk => (hown.lt k hk).1)).setCell (p := ⟨b, 1, none⟩) hB _

end Go.Proofs.Ytaodjipnffgihaa

namespace Go.Proofs.Ytaodjipnffgihaa
open Go.RowKit Go.Shelf

attribute [local go_sem] Oper.semAt_some

/-- The bytes of characters. -/
def chB (ps : List Part) : List UInt8 := (chs ps).map (·.b)
theorem chB_yes (ps : List Part) {p : Part} (h : p.sp = false) : chB (ps ++ [p]) = chB ps ++ [p.b] := by simp [chB, chs_yes _ h]
theorem chB_no (ps : List Part) {p : Part} (h : p.sp = true) : chB (ps ++ [p]) = chB ps := by simp [chB, chs_no _ h]
theorem chB_length (ps : List Part) : (chB ps).length ≤ ps.length := by simp only [chB, List.length_map]; exact chs_length ps

/-- A text's logical text, as Logical answers it. -/
def logicalOf (l : List UInt8) : List UInt8 := if checkN l = 0 then chB (parts l) else []
theorem logicalOf_ok {l : List UInt8} (h : checkN l = 0) : logicalOf l = chB (parts l) := by unfold logicalOf; rw [if_pos h]
theorem logicalOf_bad {l : List UInt8} (h : ¬ checkN l = 0) : logicalOf l = [] := by unfold logicalOf; rw [if_neg h]

def chBP (pre : List Pt) : List UInt8 := chB (pre.map (·.1))
theorem chBP_yes (pre : List Pt) {x : Pt} (h : x.1.sp = false) : chBP (pre ++ [x]) = chBP pre ++ [x.1.b] := by
  unfold chBP; rw [List.map_append]; exact chB_yes _ h
theorem chBP_no (pre : List Pt) {x : Pt} (h : x.1.sp = true) : chBP (pre ++ [x]) = chBP pre := by
  unfold chBP; rw [List.map_append]; exact chB_no _ h
theorem chBP_length (pre : List Pt) : (chBP pre).length ≤ pre.length := by
  have := chB_length (pre.map (·.1)); rw [List.length_map] at this; exact this
theorem chBP_all (s : ByteArray) (hs : s.size ≤ 65536) : chBP (ptsFrom s.data.toList hs 0) = chB (parts s.data.toList) := by
  unfold chBP parts; rw [ptsFrom_val]

theorem builder_own {β : Type} (T e : TypeId) (B b : Nat) (f : β → List Value) : Own (fun s W => Lib.IsBuilderF T e B b (f s) W) := by
  have key : ∀ (p : Value) (bs : List Value) (X Y : World) (row : Option Nat), Lib.BuilderAtF T e B b p bs X → X.grownBy Y row → (∀ r, row = some r → ∃ o : Obj, X.heap[r]? = some o ∧ o.isCells = false) → Lib.BuilderAtF T e B b p bs Y := by
    intro p bs X Y row h hg hr
    have hlt := h.lt
    obtain ⟨hB, v, hb, hown, hne⟩ := h
    refine ⟨hB, v, (hg.block b hlt (fun e' => ?_)).trans hb, hown.kept hg ?_, hne⟩
    · obtain ⟨o, ho, hc⟩ := hr b e'.symm
      rw [hb] at ho; cases ho; cases hc
    · rcases hown.2 with ⟨rfl, _⟩ | ⟨g, cap, cur, fz, rfl, _, hgb, _⟩
      · exact .inl rfl
      · refine .inr fun e' => ?_
        obtain ⟨o, ho, hc⟩ := hr g (by simpa [Value.ownBlock] using e'.symm)
        rw [hgb] at ho; cases ho; cases hc
  intro s X Y row h hg hr
  rcases h with h | h
  · exact .inl (key _ _ _ _ _ h hg hr)
  · exact .inr (key _ _ _ _ _ h hg hr)

theorem builder_heap {T e : TypeId} {B b : Nat} {bs : List Value} {W : World} (h : Lib.IsBuilderF T e B b bs W) : ∃ cs, W.heap[b]? = some (.cells cs T (0, 0)) := by
  rcases h with ⟨_, v, hb, _⟩ | ⟨_, v, hb, _⟩
  · exact ⟨_, hb⟩
  · exact ⟨_, hb⟩

theorem keepsOthers_of_others {e : TypeId} {b : Nat} {W W' : World} {cs : Array Value} {T : TypeId} {fz : Nat × Nat} (h : Lib.OthersKept e (some b) W W') (hs : W.heap.size ≤ W'.heap.size) (hb : W.heap[b]? = some (.cells cs T fz)) : KeepsOthers W W' :=
  ⟨hs, fun k o hk ho => h k o hk (fun e' => by
    obtain rfl : k = b := by simpa using e'
    rw [hb] at hk; cases hk; cases ho) (fun c f h' => by subst h'; cases ho)⟩

set_option maxRecDepth 100000 in
set_option maxHeartbeats 2000000 in
theorem logical_ok (s : ByteArray) (w : World) (hs : s.size ≤ maxLen) (hle : s.size ≤ 65536) (hok : checkN s.data.toList = 0) :
    Calls Try.prog 37 #[.string s] w fun e w' => e = .returned (.tuple #[.string ⟨(chB (parts s.data.toList)).toArray⟩, .int .i64 0]) ∧ Below w.heap.size w w' := by
  refine (callsIn_wide (n := 20)).1 ?_
  refine callsIn_of_wp_marks Try.func37 rfl trivial ?_ rfl
  simp only [Try.ntmps37, List.size_toArray, List.length_cons, List.length_nil, Nat.reduceAdd, Nat.reduceSub, Array.replicate_succ, Array.replicate_zero, List.push_toArray, List.append_toArray, List.nil_append, List.cons_append]
  gi_wp2
  refine ⟨trivial, (callsIn_wide.2 (check_any s w hs)).mono ?_⟩
  rintro e w1 ⟨rfl, hb1⟩
  rw [hok]
  gi_wp2
  refine ⟨trivial, (callsIn_wide.2 (parts_any _ _)).mono ?_⟩
  rintro e w' ⟨rfl, rfl⟩
  gi_wp2
  have hlen := ptsFrom_length hle
  have hs1 := hb1.size
  have bL : Lib.IsBuilderF 80 5 w.heap.size w1.heap.size (Lib.byteCells (chBP [])) ((w1.alloc (.cells #[.pointer none, .slice none 0 0] 80)).alloc (.cells #[.string s] 9)) := by
    refine Lib.IsBuilderF.alloc (.inl ⟨hs1, .slice none 0 0, World.alloc_heap_new w1 _, ⟨rfl, .inl ⟨rfl, rfl⟩⟩, by simp [Value.ownBlock]⟩) _
  have bN := Boxed.new (w1.alloc (.cells #[.pointer none, .slice none 0 0] 80)) 9 (.string s)
  simp only [World.size_alloc] at bN
  have hB0 : Below w.heap.size w ((w1.alloc (.cells #[.pointer none, .slice none 0 0] 80)).alloc (.cells #[.string s] 9)) := hb1.trans ((below2 w1 _ _).mono hb1.size)
  have hsz : w1.heap.size + 2 ≤ ((w1.alloc (.cells #[.pointer none, .slice none 0 0] 80)).alloc (.cells #[.string s] 9)).heap.size := by simp
  obtain ⟨W0, hW0⟩ : ∃ W0, (w1.alloc (.cells #[.pointer none, .slice none 0 0] 80)).alloc (.cells #[.string s] 9) = W0 := ⟨_, rfl⟩
  rw [hW0] at bL bN hB0 hsz ⊢
  clear hW0
  refine wpIn_rangeFunc_ownH rfl (by decide) (gf := 73) (lb := #[.pointer (some ⟨w1.heap.size + 1, 0, none⟩)]) rfl trivial (enters_of Try.func73 (by kernel_rfl) rfl)
    (parts_stops _ (by decide) s hle (w1.heap.size + 1) W0 bN) keepsBox_t (keepsBox_b (n := W0.heap.size)) (Below.refl _ _) (fun _ => rfl)
    (fun pre W => (Lib.IsBuilderF 80 5 w.heap.size w1.heap.size (Lib.byteCells (chBP pre)) W) ∧ Below w.heap.size w W)
    (fun _ _ _ => False)
    (OwnFrom.and (Own.from (builder_own _ _ _ _ (fun pre => Lib.byteCells (chBP pre))) _) (ownFrom_below (Nat.le_refl _) (by omega)))
    (fun _ _ _ _ _ hs' _ _ => hs')
    ⟨bL, hB0⟩
    (fun x a' W => ∃ Bx, w1.heap.size < Bx ∧ W.heap[Bx]? = some (.cells #[.int .u8 x.1.b.toNat, .int .i64 x.1.at', .int .i64 x.1.n, .bool x.1.sp] 109 (0, 0)) ∧ a' = { tmps := #[.string s, undef, .string ⟨#[]⟩, .int .i64 0, .int .i64 0, .pointer (some ⟨w1.heap.size, 0, none⟩), .pointer (some ⟨Bx, 0, none⟩), .string s, .int .i64 0, .int .i64 0, .bool false, undef, .string s, .func (.func 73) #[] #[.pointer (some ⟨w1.heap.size + 1, 0, none⟩)], .agg #[.int .u8 x.1.b.toNat, .int .i64 x.1.at', .int .i64 x.1.n, .bool x.1.sp], undef, undef, undef, undef, undef, undef, undef, undef], defers := [] })
    (fun x a' _ X Y row hs' hg hr => by
      obtain ⟨Bx, h1, h2, h3⟩ := hs'
      refine ⟨Bx, h1, (hg.block Bx (Array.getElem?_eq_some_iff.1 h2).1 (fun e => ?_)).trans h2, h3⟩
      obtain ⟨_, o, ho, hc⟩ := hr Bx e.symm
      rw [h2] at ho; cases ho; cases hc)
    ?assign ?body ?done ?stop
  case assign =>
    rintro l pre x W K ⟨bL1, hB1⟩ hK
    obtain ⟨cs, hbl⟩ := builder_heap bL1
    gi_wp2
    exact hK _ _ ((KeepsOthers.alloc _ _).from _) (keepsBox_below (below1 _ _)) ⟨bL1.alloc _, hB1.alloc hB1.size _⟩ ⟨W.heap.size, (Array.getElem?_eq_some_iff.1 hbl).1, World.alloc_heap_new _ _, rfl⟩
  case body =>
    rintro l pre x a' W hl ⟨r, hr⟩ ⟨bL1, hB1⟩ ⟨Bx, hBx, bX, rfl⟩ hlt
    have d0 : W.cell? ⟨Bx, 0, none⟩ = some (.int .u8 x.1.b.toNat) := by rw [Lib.cell_of_heap bX]; rfl
    have d1 : W.cell? ⟨Bx, 1, none⟩ = some (.int .i64 x.1.at') := by rw [Lib.cell_of_heap bX]; rfl
    have d2 : W.cell? ⟨Bx, 2, none⟩ = some (.int .i64 x.1.n) := by rw [Lib.cell_of_heap bX]; rfl
    have d3 : W.cell? ⟨Bx, 3, none⟩ = some (.bool x.1.sp) := by rw [Lib.cell_of_heap bX]; rfl
    obtain ⟨cs, hbl⟩ := builder_heap bL1
    have hcl := chBP_length pre
    have hbytes : (Lib.byteCells (chBP pre)).length + 1 ≤ 140737488355328 := by rw [Lib.byteCells_length]; omega
    gi_wp2_with (refine ⟨trivial, ?_⟩; gi_at_call 40; refine (CallsIn.inRound l (callsIn_wide.2 (writeByte_k w.heap.size w1.heap.size _ _ _ bL1 hbytes hB1.size))).mono ?_; rintro e w2 ⟨rfl, hI2, hB2, hk2⟩)
    · have hsp : x.1.sp = false := by first | assumption | simpa using (show (!x.1.sp) = true by assumption)
      refine ⟨(keepsOthers_of_others hk2 hB2.size hbl).from _, keepsBox_others hk2 hbl (by decide) (by decide) (by omega) (by decide), ?_, hB1.trans hB2⟩
      rw [chBP_yes pre hsp, Lib.byteCells_append]
      exact .inr hI2
    · have hsp : x.1.sp = true := by first | assumption | simpa using (show (!x.1.sp) = false by assumption)
      exact ⟨KeepsFrom.refl _ _, keepsBox_r _, by rw [chBP_no pre hsp]; exact bL1, hB1⟩
  case done =>
    rintro D ys W hD rfl ⟨bL1, hB1⟩ hK
    rw [chBP_all] at bL1
    obtain ⟨cs, hbl⟩ := builder_heap bL1
    gi_wp2
    refine ⟨trivial, (callsIn_wide.2 (Try.Builder_String_any_k w.heap.size w1.heap.size _ _ bL1 hB1.size)).mono ?_⟩
    rintro e w2 ⟨rfl, _, hB2, hk2⟩
    gi_wp2
    have hK2 : w2.heap[D]? = some (.deferred (some [])) := hk2 D _ hK (fun e' => by
      obtain rfl : D = w1.heap.size := by simpa using e'
      rw [hbl] at hK; cases hK) (fun c f h' => by cases h')
    refine ⟨by simp, .inl ⟨_, _, rfl, run_takeDeferred hK2, ?_⟩⟩
    refine ⟨_, results_tmp2 rfl _ _ _, ?_⟩
    exact ⟨rfl, (hB1.trans hB2).trans (belowK_b (w := w) (Nat.le_refl _) w2 D _ _ (by omega) hK2 rfl rfl)⟩
  case stop =>
    rintro D c pre W _ _ h _
    exact h.elim

set_option maxHeartbeats 400000 in
theorem logical_bad (s : ByteArray) (w : World) (hs : s.size ≤ maxLen) (n : Int) (hn : checkN s.data.toList = n) (h3 : n = 3 ∨ n = 10) :
    Calls Try.prog 37 #[.string s] w fun e w' => e = .returned (.tuple #[.string ⟨#[]⟩, .int .i64 n]) ∧ Below w.heap.size w w' := by
  have HN := Lib.hid hn
  clear hn
  rcases h3 with rfl | rfl
  all_goals
    go_enter Try.func37, Try.ntmps37
    go_wp2_with (go_at_call 58; refine (check_any s _ hs).mono ?_; rintro e w1 ⟨rfl, hb1⟩; rw [HN.out])
    go_ret2
    exact ⟨rfl, hb1⟩

/-- phys.Logical AT EVERY TEXT. -/
theorem logical_any (s : ByteArray) (w : World) (hs : s.size ≤ maxLen) :
    Calls Try.prog 37 #[.string s] w fun e w' => e = .returned (.tuple #[.string ⟨(logicalOf s.data.toList).toArray⟩, .int .i64 (checkN s.data.toList)]) ∧ Below w.heap.size w w' := by
  rcases check_cases s.data.toList with ⟨h, hl⟩ | h | h
  · rw [logicalOf_ok h, h]
    exact logical_ok s w hs hl h
  · rw [logicalOf_bad (by rw [h]; decide), h]
    exact logical_bad s w hs 3 h (.inl rfl)
  · rw [logicalOf_bad (by rw [h]; decide), h]
    exact logical_bad s w hs 10 h (.inr rfl)

end Go.Proofs.Ytaodjipnffgihaa

namespace Go.Proofs.Ytaodjipnffgihaa
open Go.RowKit

theorem drop_ne {l : List UInt8} {k : Nat} (hk : k < l.length) : l.drop k ≠ [] := fun h => by
  have := List.drop_eq_nil_iff.1 h; omega

theorem partsFrom_cons {l : List UInt8} {k : Nat} (hk : k < l.length) : partsFrom l k = partAt l k :: partsFrom l (k + partN (l.drop k)) := by
  rw [partsFrom, dif_pos hk]
theorem partsFrom_end {l : List UInt8} {k : Nat} (hk : ¬ k < l.length) : partsFrom l k = [] := by
  rw [partsFrom, dif_neg hk]

theorem chB_cons (p : Part) (ps : List Part) : chB (p :: ps) = (if p.sp then [] else [p.b]) ++ chB ps := by
  cases h : p.sp <;> simp [chB, chs, h]
theorem chB_lg {l : List UInt8} : ∀ (m k : Nat), l.length - k = m → chB (partsFrom l k) = lg (l.drop k) := by
  intro m
  induction m using Nat.strongRecOn with
  | ind m ih =>
    intro k hm
    by_cases hk : k < l.length
    · have hp := partN_pos (l.drop k)
      rw [partsFrom_cons hk, chB_cons, lg_cons (drop_ne hk), List.drop_drop, ih (l.length - (k + partN (l.drop k))) (by omega) _ rfl]
      simp only [partAt, partB]
      by_cases h : isSplice (l.drop k) = true <;> simp [h]
    · rw [partsFrom_end hk, List.drop_eq_nil_of_le (by omega), lg_nil]; rfl

theorem last_wl {l : List UInt8} : ∀ (m k : Nat), l.length - k = m → k < l.length → ∃ p, (partsFrom l k).getLast? = some p ∧ (!p.sp && p.b == 10) = wl (l.drop k) := by
  intro m
  induction m using Nat.strongRecOn with
  | ind m ih =>
    intro k hm hk
    have hp := partN_pos (l.drop k)
    rw [partsFrom_cons hk, wl_cons (drop_ne hk), List.drop_drop]
    by_cases hk2 : k + partN (l.drop k) < l.length
    · obtain ⟨p, h1, h2⟩ := ih (l.length - (k + partN (l.drop k))) (by omega) _ rfl hk2
      refine ⟨p, ?_, ?_⟩
      · rw [List.getLast?_cons, h1]; rfl
      · rw [if_neg (drop_ne hk2)]; exact h2
    · refine ⟨partAt l k, by rw [partsFrom_end hk2]; rfl, ?_⟩
      rw [if_pos (List.drop_eq_nil_of_le (by omega))]
      simp only [partAt, partB]
      by_cases h : isSplice (l.drop k) = true <;> simp [h]

theorem wellB_wl (l : List UInt8) : wellB l = wl l := by
  by_cases h : 0 < l.length
  · obtain ⟨p, h1, h2⟩ := last_wl (l := l) _ 0 rfl h
    unfold wellB parts
    rw [h1]
    exact h2
  · have : l = [] := List.length_eq_zero_iff.1 (by omega)
    subst this
    rw [wl_nil]
    unfold wellB parts
    rw [partsFrom_end (by decide)]; rfl

theorem checkN_ok {l : List UInt8} (h : l.length ≤ 65536) (h2 : wl l = true) : checkN l = 0 := by
  unfold checkN
  rw [if_neg (by omega), wellB_wl, if_pos h2]
theorem checkN_zero {l : List UInt8} (h : checkN l = 0) : l.length ≤ 65536 ∧ wl l = true := by
  unfold checkN at h
  by_cases hl : 65536 < l.length
  · rw [if_pos hl] at h; exact absurd h (by decide)
  · rw [if_neg hl, wellB_wl] at h
    refine ⟨by omega, ?_⟩
    cases hw : wl l with
    | true => rfl
    | false => rw [hw] at h; exact absurd h (by decide)

theorem logicalOf_lg {l : List UInt8} (h : checkN l = 0) : logicalOf l = lg l := by
  rw [logicalOf_ok h, parts, chB_lg _ 0 rfl]; rfl
/-- WHAT IS SPELT, CHECKED AND READ. -/
theorem spell_back {l : List UInt8} (h : (spellOut l).2 = 0) : checkN (spellOut l).1 = 0 ∧ logicalOf (spellOut l).1 = l := by
  unfold spellOut at h ⊢
  by_cases h1 : 65536 < l.length
  · rw [if_pos h1] at h; exact absurd h (by decide)
  · rw [if_neg h1] at h ⊢
    by_cases h2 : endsTen l = false
    · rw [if_pos h2] at h; exact absurd h (by decide)
    · rw [if_neg h2] at h ⊢
      by_cases h3 : 65536 < (spellUpto l l.length).length
      · rw [if_pos h3] at h; exact absurd h (by decide)
      · rw [if_neg h3]
        simp only
        rw [spellUpto_all] at h3 ⊢
        obtain ⟨r1, r2, r3⟩ := spl_reads l
        have hw : wl (spl l) = true := by
          by_cases hl : l = []
          · subst hl; exact wl_nil
          · refine r3 hl ?_
            simp only [endsTen, Bool.not_eq_false, Bool.or_eq_true, beq_iff_eq] at h2
            exact h2.resolve_left hl
        have hc := checkN_ok (by omega) hw
        exact ⟨hc, by rw [logicalOf_lg hc, r1]⟩

/-! ### How long what is spelt is -/

def dark (l : List UInt8) : Nat := (l.filter fun c => !(c == 32)).length
theorem dark_cons (c : UInt8) (l : List UInt8) : dark (c :: l) = (if c == 32 then 0 else 1) + dark l := by
  unfold dark
  by_cases h : (c == 32) = true
  · rw [List.filter_cons_of_neg (by rw [h]; decide), if_pos h, Nat.zero_add]
  · rw [List.filter_cons_of_pos (by rw [Bool.eq_false_iff.2 h]; rfl), if_neg h, List.length_cons]; omega
theorem spl_cons (c : UInt8) (r : List UInt8) : (spl (c :: r)).length = (if misr (c :: r) then 3 else 1) + (spl r).length := by
  rw [spl, List.length_cons]
  split
  · simp only [List.length_cons]; omega
  · omega
theorem misr_nope {c : UInt8} {r : List UInt8} (h1 : c ≠ 92) (h2 : isTri (c :: r) = false) : misr (c :: r) = false := by
  refine Bool.eq_false_iff.2 fun h => ?_
  rcases misr_parts.1 h with h | h
  · exact h1 h.1
  · rw [h2] at h; cases h
theorem isTri_nope {c : UInt8} {r : List UInt8} (h : c ≠ 63) : isTri (c :: r) = false := Bool.eq_false_iff.2 fun h2 => h (isTri_first h2)
theorem tri_three (a b c : UInt8) (r : List UInt8) : tri (a :: b :: c :: r) = if a = 63 ∧ b = 63 then third c else none := rfl
theorem spl_dark : ∀ (m : Nat) (l : List UInt8), l.length ≤ m → (spl l).length ≤ l.length + dark l := by
  intro m
  induction m with
  | zero =>
    intro l hl
    have : l = [] := List.length_eq_zero_iff.1 (by omega)
    subst this
    exact Nat.zero_le _
  | succ m ih =>
    intro l hl
    cases l with
    | nil => exact Nat.zero_le _
    | cons c r =>
      rw [List.length_cons] at hl
      by_cases hm : misr (c :: r) = true
      · rcases misr_parts.1 hm with ⟨rfl, hh⟩ | ht
        · cases r with
          | nil => cases hh
          | cons d r =>
            obtain rfl : d = 10 := Option.some.inj hh
            rw [List.length_cons] at hl
            have := ih r (by omega)
            rw [spl_cons, if_pos hm, spl_cons, misr_nope (by decide) (isTri_nope (by decide)), dark_cons, dark_cons, if_neg (by decide), if_neg (by decide), if_neg (by decide), List.length_cons, List.length_cons]
            omega
        · match r, ht with
          | [], ht => simp [isTri, tri] at ht
          | [_], ht => simp [isTri, tri] at ht
          | b :: d :: r, ht =>
            have h3 : (c = 63 ∧ b = 63) ∧ (third d).isSome = true := by
              have ht : (tri (c :: b :: d :: r)).isSome = true := ht
              rw [tri_three] at ht
              by_cases h4 : c = 63 ∧ b = 63
              · rw [if_pos h4] at ht; exact ⟨h4, ht⟩
              · rw [if_neg h4] at ht; cases ht
            obtain ⟨⟨rfl, rfl⟩, h4⟩ := h3
            have hd : d ≠ 63 := fun e => by subst e; exact absurd h4 (by decide)
            have h5 : isTri (63 :: d :: r) = false := by
              unfold isTri
              cases r with
              | nil => rfl
              | cons e r => rw [tri_three, if_neg (fun h => hd h.2)]; rfl
            simp only [List.length_cons] at hl
            have := ih (d :: r) (by simp only [List.length_cons]; omega)
            rw [spl_cons, if_pos hm, spl_cons, misr_nope (by decide) h5, if_neg (by decide), dark_cons, dark_cons, if_neg (by decide), List.length_cons, List.length_cons]
            omega
      · have := ih r (by omega)
        rw [spl_cons, if_neg hm, dark_cons, List.length_cons]
        omega

/-- When a text can be spelt. -/
theorem spell_fine {l : List UInt8} (h1 : l.length + dark l ≤ 65536) (h2 : endsTen l = true) : (spellOut l).2 = 0 := by
  have h3 := spl_dark _ l (Nat.le_refl _)
  unfold spellOut
  rw [if_neg (by omega), if_neg (by rw [h2]; decide), spellUpto_all, if_neg (by omega)]

end Go.Proofs.Ytaodjipnffgihaa

namespace Go.Proofs.Ytaodjipnffgihaa

theorem nextTen (l : List UInt8) : nextOf false (10 :: l) = (9, 1, 0) := by
  have h5 : punctLen (10 :: l) = 0 := Nat.le_zero.1 (punctDown_w (c := 10) (s := l) (by decide) [] _)
  have hL : longestOf (10 :: l) = (9, 1) := by
    unfold longestOf
    have m1 : measureOf 1 (10 :: l) = 0 := rfl
    have m2 : measureOf 2 (10 :: l) = 0 := rfl
    have m3 : measureOf 3 (10 :: l) = 0 := rfl
    have m4 : measureOf 4 (10 :: l) = 0 := rfl
    have m5 : measureOf 5 (10 :: l) = 0 := h5
    have m9 : measureOf 9 (10 :: l) = 1 := rfl
    simp only [List.foldl_cons, List.foldl_nil, better, m1, m2, m3, m4, m5, m9]
    rfl
  unfold nextOf
  have h2 : isComment (10 :: l) = false := rfl
  rw [h2, hL]
  simp

theorem fold_k {k0 : Nat} (l : List UInt8) : ∀ (ks : List Nat) (a : Nat × Nat), (∀ k ∈ ks, k ≠ k0) → a.1 ≠ k0 → (ks.foldl (better l) a).1 ≠ k0
  | [], _, _, h => h
  | k :: ks, a, h, ha => by
    rw [List.foldl_cons]
    refine fold_k l ks _ (fun k' hk' => h k' (List.mem_cons_of_mem _ hk')) ?_
    unfold better
    split
    · exact h k List.mem_cons_self
    · exact ha
theorem longest_not8 (l : List UInt8) : (longestOf l).1 ≠ 8 := by
  unfold longestOf
  simp only
  split
  · decide
  · exact fold_k l _ _ (by decide) (by decide)
theorem com_two {l : List UInt8} {n : Nat} (h : nextOf false l = (8, n, 0)) : 2 ≤ n := by
  unfold nextOf at h
  rw [if_neg (by simp)] at h
  split at h
  · split at h
    · simp only [Prod.mk.injEq] at h; exact absurd h.2.2 (by decide)
    · rename_i h1
      simp only [Prod.mk.injEq] at h
      rw [← h.2.1]
      unfold commentLen at h1 ⊢
      split
      · omega
      · rename_i h2
        rw [if_neg h2] at h1
        split
        · omega
        · rename_i h3; rw [h3] at h1; exact absurd rfl h1
  · split at h
    · simp only [Prod.mk.injEq] at h; exact absurd h.2.2 (by decide)
    · simp only [Prod.mk.injEq] at h; exact absurd h.1 (longest_not8 l)
theorem darkApp (a b : List UInt8) : dark (a ++ b) = dark a + dark b := by
  unfold dark; rw [List.filter_append, List.length_append]
theorem darkLe (a : List UInt8) : dark a ≤ a.length := List.length_filter_le _ _
theorem sps_len : ∀ g ∈ sps, g.length + dark g ≤ 22 := by decide +kernel
theorem nl_text {L : List UInt8} {a : Nat} {x y : List UInt8} (h : nextOf false (L.drop a) = (9, x.length, 0)) (h2 : L.drop a = x ++ y) (hx : x ≠ []) : x = [10] := by
  obtain ⟨z, hz⟩ := nextNine h
  rw [hz, nextTen] at h
  simp only [Prod.mk.injEq] at h
  cases x with
  | nil => exact absurd rfl hx
  | cons c x =>
    have h3 : 1 = (c :: x).length := h.2.1
    have : x = [] := List.length_eq_zero_iff.1 (by rw [List.length_cons] at h3; omega)
    subst this
    rw [h2, List.cons_append, List.cons.injEq] at hz
    rw [hz.1]

/-- How long the new text is, and how it ends. -/
theorem new_len {L : List UInt8} {g : Nat → List UInt8} (hg : ∀ i, g i ∈ sps) : ∀ (m e : Nat), L.length - e ≤ m → e ≤ L.length → (toks L e 3).2 = 0 → nlEnd (toks L e 3).1 = true → ∀ i,
    (newR L g i (toks L e 3).1).length + dark (newR L g i (toks L e 3).1) ≤ 12 * (L.length - e) ∧ ∃ pre, newR L g i (toks L e 3).1 = pre ++ [10] := by
  intro m
  induction m with
  | zero =>
    intro e hm he _ hn
    have := atOf_ge L e
    rw [toks_end he (by omega)] at hn
    cases hn
  | succ m ih =>
    intro e hm he h0 hn i
    have hge := atOf_ge L e
    by_cases h1 : L.length ≤ atOf L e
    · rw [toks_end he h1] at hn; cases hn
    · by_cases h2 : (nextAt L e 3).2.2 = 0
      · obtain ⟨a1, a2, a3, a4, a5, a6, a7, a8, a9⟩ := tok_facts (L := L) (e := e) (by omega) h2
        rw [toks_cons (by omega) h2] at h0 hn ⊢
        have hst : stAt L e 3 = lineWith 3 (tokAt L e 3).k (txt L (tokAt L e 3)) := rfl
        rw [hst] at h0 hn ⊢
        generalize tokAt L e 3 = t at *
        have hgl := sps_len (g i) (hg i)
        have hdx := darkLe (txt L t)
        have hspa : t.sp = true → e < t.a := fun h => by rw [a2] at h; rw [a1]; exact of_decide_eq_true h
        obtain ⟨G, hG, hG2⟩ : ∃ G, (if t.k = 8 ∨ t.sp = true then g i else []) = G ∧ (G.length + dark G ≤ if t.k = 8 ∨ t.sp = true then 22 else 0) := by
          refine ⟨_, rfl, ?_⟩
          split
          · exact hgl
          · exact Nat.le_refl _
        by_cases h9 : t.k = 9
        · rw [h9] at a7
          have hx := nl_text a7 a5 a8
          rw [nlEnd, if_pos (by simpa using h9)] at hn
          have hr : (toks L t.e (lineWith 3 t.k (txt L t))).1 = [] := List.isEmpty_iff.1 hn
          rw [newR, hG, if_neg (by omega), hr, newR, List.append_nil, hx]
          refine ⟨?_, G, rfl⟩
          rw [hx] at a6
          simp only [List.length_singleton] at a6
          have hd : dark [10] = 1 := rfl
          rw [List.length_append, darkApp, hd, List.length_singleton]
          by_cases hb : t.k = 8 ∨ t.sp = true
          · have hs : t.sp = true := hb.elim (fun h => by omega) id
            have := hspa hs
            rw [if_pos hb] at hG2
            omega
          · rw [if_neg hb] at hG2
            omega
        · rw [line3 h9] at h0 hn ⊢
          rw [nlEnd, if_neg (by simpa using h9)] at hn
          obtain ⟨i1, pre, i2⟩ := ih t.e (by omega) a3 h0 hn (i + 1)
          have hxl : 1 ≤ (txt L t).length := by omega
          rw [newR, hG]
          by_cases h8 : t.k = 8
          · rw [h8] at a7
            have := com_two a7
            rw [if_pos h8, List.nil_append, List.length_append, darkApp]
            refine ⟨?_, G ++ pre, by rw [i2, List.append_assoc]⟩
            rw [if_pos (.inl h8)] at hG2
            omega
          · rw [if_neg h8, List.length_append, List.length_append, darkApp, darkApp]
            refine ⟨?_, G ++ (txt L t ++ pre), by rw [i2, List.append_assoc, List.append_assoc]⟩
            by_cases hs : t.sp = true
            · have := hspa hs
              rw [if_pos (.inr hs)] at hG2
              omega
            · rw [if_neg (fun h => h.elim h8 hs)] at hG2
              omega
      · rw [toks_err (by omega) h2] at h0; exact absurd h0 h2

/-- The bare tokens of the new text. -/
theorem toks_new {L X : List UInt8} {g : Nat → List UInt8} (hg : ∀ i, g i ∈ sps) : ∀ (m e : Nat), L.length - e ≤ m → e ≤ L.length → (toks L e 3).2 = 0 → nlEnd (toks L e 3).1 = true → ∀ (i e' : Nat) (W : List UInt8) (f fL : Bool), e' ≤ X.length →
    X.drop e' = W ++ newR L g i (toks L e 3).1 → (∀ c ∈ W, isWS c = true) → fL = (decide (W ≠ []) || f) →
    (toks X e' 3).2 = 0 ∧ btr X f (toks X e' 3).1 = btr L fL (toks L e 3).1 ∧ nlEnd (toks X e' 3).1 = true := by
  intro m
  induction m with
  | zero =>
    intro e hm he _ hn
    have := atOf_ge L e
    rw [toks_end he (by omega)] at hn
    cases hn
  | succ m ih =>
    intro e hm he h0 hn i e' W f fL he' hX hW hfl
    have hge := atOf_ge L e
    by_cases h1 : L.length ≤ atOf L e
    · rw [toks_end he h1] at hn; cases hn
    · by_cases h2 : (nextAt L e 3).2.2 = 0
      · obtain ⟨a1, a2, a3, a4, a5, a6, a7, a8, a9⟩ := tok_facts (L := L) (e := e) (by omega) h2
        rw [toks_cons (by omega) h2] at h0 hn hX ⊢
        have hst : stAt L e 3 = lineWith 3 (tokAt L e 3).k (txt L (tokAt L e 3)) := rfl
        rw [hst] at h0 hn hX ⊢
        generalize tokAt L e 3 = t at *
        rw [newR] at hX
        obtain ⟨e1, W1, f1, b1, b2, b3, b4, b5, b6, b7⟩ : ∃ e1 W1 f1, e1 ≤ X.length ∧ X.drop e1 = W1 ++ ((if t.k = 8 then [] else txt L t) ++ newR L g (i + 1) (toks L t.e (lineWith 3 t.k (txt L t))).1) ∧ (∀ c ∈ W1, isWS c = true) ∧ (decide (W1 ≠ []) || f1) = ((decide (t.k = 8) || t.sp) || fL) ∧
            (toks X e' 3).2 = (toks X e1 3).2 ∧ btr X f (toks X e' 3).1 = btr X f1 (toks X e1 3).1 ∧ nlEnd (toks X e' 3).1 = nlEnd (toks X e1 3).1 := by
          by_cases hb : t.k = 8 ∨ t.sp = true
          · rw [if_pos hb] at hX
            obtain ⟨e1, W1, f1, b1, b2, b3, b4, b5, b6, b7⟩ := sep_step (st := 3) f (hg i) rfl he' hX hW
            refine ⟨e1, W1, f1, b1, b2, b3, ?_, b5, b6, b7⟩
            rw [b4]
            rcases hb with h | h
            · simp [h]
            · simp [h]
          · rw [if_neg hb, List.nil_append] at hX
            refine ⟨e', W, f, he', hX, hW, ?_, rfl, rfl, rfl⟩
            have h8 : t.k ≠ 8 := fun h => hb (.inl h)
            have hs : t.sp = false := Bool.eq_false_iff.2 fun h => hb (.inr h)
            rw [hs, hfl]
            simp [h8]
        rw [b5, b6, b7]
        by_cases h9 : t.k = 9
        · rw [h9] at a7
          have hx := nl_text a7 a5 a8
          rw [nlEnd, if_pos (by simpa using h9)] at hn
          have hr : (toks L t.e (lineWith 3 t.k (txt L t))).1 = [] := List.isEmpty_iff.1 hn
          rw [if_neg (by omega), hr, newR, hx] at b2
          obtain ⟨t', c1, c2, c3, c4, c5, c6⟩ := tok_next (k := 9) (st := 3) b1 b2 b3 (by decide) (by rfl) (nextTen _)
          have hl : lineWith 3 9 [10] = 0 := rfl
          have hend : X.length ≤ t'.e := by
            have := congrArg List.length c5
            rw [List.length_drop, List.length_nil] at this
            omega
          have := atOf_ge X t'.e
          rw [hl, toks_end c4 (by omega)] at c6
          rw [c6, hr]
          refine ⟨rfl, ?_, ?_⟩
          · simp [btr, c1, h9, outN]
          · simp [nlEnd, c1]
        · rw [line3 h9] at h0 hn b2 ⊢
          rw [nlEnd, if_neg (by simpa using h9)] at hn
          by_cases h8 : t.k = 8
          · rw [if_pos h8, List.nil_append] at b2
            have := ih t.e (by omega) a3 h0 hn (i + 1) e1 W1 f1 true b1 b2 b3 (by rw [b4]; simp [h8])
            rw [btr, h8, if_pos (by rfl)]
            exact this
          · rw [if_neg h8] at b2
            obtain ⟨r, v, r1, r2, r3, r4⟩ := run_new hg _ t.e (Nat.le_refl _) a3 h0 hn (i + 1)
            have hclx : Closed (txt L t) := by
              refine closed_tok (k := t.k) ?_ h8
              have := next_take (m := (txt L t).length) a7 (nextNot7 a7) (by omega) (Nat.le_refl _)
              rw [a5, List.take_left] at this
              exact this
            have hu : nextOf false (txt L t ++ runR L (toks L t.e 3).1) = (t.k, (txt L t).length, 0) := by
              have := next_take (m := (txt L t ++ runR L (toks L t.e 3).1).length) a7 (nextNot7 a7) (by omega) (by rw [List.length_append]; omega)
              rw [a5, r3, ← List.append_assoc, List.take_left] at this
              exact this
            have hune : txt L t ++ runR L (toks L t.e 3).1 ≠ [] := fun h => a8 (List.append_eq_nil_iff.1 h).1
            have hnx := next_w r2 hune (closed_app hclx r4) hu h8
            rw [List.append_assoc, ← r1] at hnx
            have hw : runLen isWS (txt L t ++ newR L g (i + 1) (toks L t.e 3).1) = 0 := by
              cases hx : txt L t with
              | nil => exact absurd hx a8
              | cons c y =>
                rw [a5, hx, List.cons_append, runLen] at a9
                rw [List.cons_append, runLen]
                by_cases hc : isWS c = true
                · rw [if_pos hc] at a9; omega
                · rw [if_neg hc]
            obtain ⟨t', c1, c2, c3, c4, c5, c6⟩ := tok_next (k := t.k) (st := 3) b1 b2 b3 a8 hw hnx
            rw [line3 h9] at c6
            obtain ⟨i1, i2, i3⟩ := ih t.e (by omega) a3 h0 hn (i + 1) t'.e [] false false c4 (by rw [c5, List.nil_append]) (fun c h => by cases h) rfl
            have ho : outN t.k = false := by unfold outN; simp [h8, h9]
            rw [c6]
            refine ⟨i1, ?_, ?_⟩
            · rw [btr, c1, if_neg (by rw [ho]; decide), btr, if_neg (by rw [ho]; decide), c2, c3, i2, b4]
              simp [h8]
            · rw [nlEnd, c1, if_neg (by simpa using h9)]; exact i3
      · rw [toks_err (by omega) h2] at h0; exact absurd h0 h2

end Go.Proofs.Ytaodjipnffgihaa

namespace Go.Proofs.Ytaodjipnffgihaa

theorem closed_noq {u : List UInt8} (h : ∀ c ∈ u, noQ c = true) : Closed u := by
  intro p y q hu _ hq
  exfalso
  have := h q (by rw [hu]; simp)
  rcases hq with rfl | rfl <;> exact absurd this (by decide)
def hd7 : List UInt8 := [35, 100, 101, 102, 105, 110, 101]
theorem start_toks {L r : List UInt8} (hL : L = hd7 ++ r) (hr : StopW r) : ∃ (t1 t2 : Tk) (e2 : Nat), toks L 0 0 = (t1 :: t2 :: (toks L e2 3).1, (toks L e2 3).2) ∧ t1.k = 5 ∧ t1.sp = false ∧ txt L t1 = [35] ∧ t2.k = 1 ∧ t2.sp = false ∧ txt L t2 = [100, 101, 102, 105, 110, 101] ∧ e2 ≤ L.length ∧ L.drop e2 = r := by
  have n1 : nextOf false (hd7 ++ r) = (5, 1, 0) := next_w hr (by decide) (closed_noq (by decide)) (by decide +kernel) (by decide)
  have n2 : nextOf false ([100, 101, 102, 105, 110, 101] ++ r) = (1, 6, 0) := next_w hr (by decide) (closed_noq (by decide)) (by decide +kernel) (by decide)
  have n1' : nextOf (0 == 2) ([35] ++ ([100, 101, 102, 105, 110, 101] ++ r)) = (5, ([35] : List UInt8).length, 0) := n1
  have n2' : nextOf (1 == 2) ([100, 101, 102, 105, 110, 101] ++ r) = (1, ([100, 101, 102, 105, 110, 101] : List UInt8).length, 0) := n2
  have hX : L.drop 0 = [] ++ ([35] ++ ([100, 101, 102, 105, 110, 101] ++ r)) := by rw [hL]; rfl
  have w1 : runLen isWS ([35] ++ ([100, 101, 102, 105, 110, 101] ++ r)) = 0 := by rw [List.cons_append, runLen, if_neg (by decide)]
  have w2 : runLen isWS ([100, 101, 102, 105, 110, 101] ++ r) = 0 := by rw [List.cons_append, runLen, if_neg (by decide)]
  clear n1 n2
  obtain ⟨t1, c1, c2, c3, c4, c5, c6⟩ := tok_next (Nat.zero_le _) hX (fun c h => by cases h) (by decide) w1 n1'
  obtain ⟨t2, d1, d2, d3, d4, d5, d6⟩ := tok_next (W := []) c4 c5 (fun c h => by cases h) (by decide) w2 n2'
  have e1 : lineWith 0 5 [35] = 1 := by decide
  have e2 : lineWith 1 1 [100, 101, 102, 105, 110, 101] = 3 := by decide
  rw [e1] at c6
  rw [e2] at d6
  rw [d6] at c6
  exact ⟨t1, t2, t2.e, c6, c1, c2, c3, d1, d2, d3, d4, d5⟩

theorem new_head {L : List UInt8} {g : Nat → List UInt8} (hg : ∀ i, g i ∈ sps) {e : Nat} {z : List UInt8} (he : e ≤ L.length) (hd : L.drop e = 32 :: z) (h0 : (toks L e 3).2 = 0) (i : Nat) : StopW (newR L g i (toks L e 3).1) := by
  have hge := atOf_ge L e
  by_cases h1 : L.length ≤ atOf L e
  · rw [toks_end he h1, newR]; intro c s h; cases h
  · by_cases h2 : (nextAt L e 3).2.2 = 0
    · rw [toks_cons (by omega) h2, newR]
      have hs : (tokAt L e 3).sp = true := by
        show decide (e < atOf L e) = true
        unfold atOf
        rw [hd, runLen, if_pos (by decide)]
        simp
      obtain ⟨c, s, hcs, hc⟩ := sps_head (g i) (hg i)
      rw [if_pos (.inr hs), hcs]
      exact stopW_cons hc
    · rw [toks_err (by omega) h2] at h0; exact absurd h0 h2

/-- The new line: its tokens, its length, its end. -/
theorem new_all {L z : List UInt8} {g : Nat → List UInt8} (hg : ∀ i, g i ∈ sps) (hL : L = hd7 ++ 32 :: z) (h0 : (toks L 0 0).2 = 0) (hn : nlEnd (toks L 0 0).1 = true) :
    ∃ r, newR L g 0 (toks L 0 0).1 = hd7 ++ r ∧ StopW r ∧ (toks (newR L g 0 (toks L 0 0).1) 0 0).2 = 0 ∧ btr (newR L g 0 (toks L 0 0).1) false (toks (newR L g 0 (toks L 0 0).1) 0 0).1 = btr L false (toks L 0 0).1 ∧ nlEnd (toks (newR L g 0 (toks L 0 0).1) 0 0).1 = true ∧
      (newR L g 0 (toks L 0 0).1).length + dark (newR L g 0 (toks L 0 0).1) ≤ 12 * L.length ∧ endsTen (newR L g 0 (toks L 0 0).1) = true := by
  obtain ⟨t1, t2, e2, k1, k2, k3, k4, k5, k6, k7, k8, k9⟩ := start_toks hL (stopW_cons (by decide))
  rw [k1] at h0 hn ⊢
  simp only at h0 hn ⊢
  rw [nlEnd, k2, if_neg (by decide), nlEnd, k5, if_neg (by decide)] at hn
  have hN : newR L g 0 (t1 :: t2 :: (toks L e2 3).1) = hd7 ++ newR L g 2 (toks L e2 3).1 := by
    rw [newR, newR, k2, k3, k4, k5, k6, k7]; rfl
  have hS := new_head hg k8 k9 h0 2
  obtain ⟨l1, pre, l2⟩ := new_len hg _ e2 (Nat.le_refl _) k8 h0 hn 2
  have hT := fun (X : List UInt8) => toks_new (X := X) hg _ e2 (Nat.le_refl _) k8 h0 hn 2
  rw [hN]
  generalize newR L g 2 (toks L e2 3).1 = R at *
  obtain ⟨u1, u2, e3, j1, j2, j3, j4, j5, j6, j7, j8, j9⟩ := start_toks (L := hd7 ++ R) rfl hS
  obtain ⟨q1, q2, q3⟩ := hT (hd7 ++ R) e3 [] false false j8 (by rw [j9]; rfl) (fun c h => by cases h) rfl
  rw [j1]
  refine ⟨R, rfl, hS, q1, ?_, ?_, ?_, ?_⟩
  · have o5 : outN 5 = false := rfl
    have o1 : outN 1 = false := rfl
    simp only [btr, j2, j3, j4, j5, j6, j7, k2, k3, k4, k5, k6, k7, o5, o1, q2]
    rfl
  · simp only
    rw [nlEnd, j2, if_neg (by decide), nlEnd, j5, if_neg (by decide)]; exact q3
  · rw [List.length_append, darkApp]
    have e7 : hd7.length = 7 := rfl
    have d7 : dark hd7 = 7 := rfl
    have := congrArg List.length k9
    rw [List.length_drop, List.length_cons] at this
    have hl := congrArg List.length hL
    rw [List.length_append, List.length_cons, e7] at hl
    rw [e7, d7]
    omega
  · rw [l2]
    unfold endsTen
    rw [← List.append_assoc, List.getLast?_append, List.getLast?_singleton]
    simp

/-! ### A token that ends with a line's end is one -/

theorem bodyLen_at (q : UInt8) : ∀ (m : Nat) (l : List UInt8), l.length ≤ m → ∀ n, bodyLen q l = some n → l[n]? = some q := by
  intro m
  induction m with
  | zero => intro l hl n h; rw [List.length_eq_zero_iff.1 (by omega : l.length = 0)] at h; cases h
  | succ m ih =>
    intro l hl n h
    match l, hl, h with
    | [], _, h => cases h
    | c :: r, hl, h =>
      simp only [List.length_cons] at hl
      rw [bodyLen_eq] at h
      split at h
      · rename_i h1; cases h; rw [← eq_of_beq h1]; rfl
      · split at h
        · cases h
        · split at h
          · match r, hl, h with
            | [], _, h => cases h
            | d :: r', hl, h =>
              simp only [List.length_cons] at hl
              simp only at h
              split at h
              · cases h
              · cases hb : bodyLen q r' with
                | none => rw [hb] at h; cases h
                | some k =>
                  rw [hb] at h
                  cases h
                  exact ih r' (by omega) k hb
          · cases hb : bodyLen q r with
            | none => rw [hb] at h; cases h
            | some k =>
              rw [hb] at h
              cases h
              exact ih r (by omega) k hb
theorem closeC_at : ∀ (l : List UInt8) (n : Nat), closeC l = some n → l[n + 1]? = some 47
  | [], n, h => by cases h
  | c :: r, n, h => by
    rw [closeC] at h
    split at h
    · rename_i h1
      cases h
      rw [Bool.and_eq_true] at h1
      have := eq_of_beq h1.2
      cases r with
      | nil => cases this
      | cons d r => exact this
    · cases hb : closeC r with
      | none => rw [hb] at h; cases h
      | some k =>
        rw [hb] at h
        cases h
        exact closeC_at r k hb
theorem ten_stop : StopW [10] := stopW_cons (by decide)
theorem quoted_ten {y : List UInt8} {q : UInt8} {f : Nat} {ps : List (List UInt8)} (hq : q ≠ 10) : quotedLen q f (y ++ [10]) ps ≠ y.length + 1 := by
  intro h
  obtain ⟨p, _, z, n, e1, e2, e3⟩ := quoted_some (q := q) (f := f) (l := y ++ [10]) (ps := ps) (by omega)
  rw [h] at e3
  have hl := congrArg List.length e1
  rw [List.length_append, List.length_append, List.length_singleton, List.length_cons] at hl
  have h1 := bodyLen_at q _ z (Nat.le_refl _) n e2
  have h2 : (p ++ q :: z)[y.length]? = some q := by
    rw [List.getElem?_append_right (by omega), show y.length - p.length = n + 1 by omega, List.getElem?_cons_succ]
    exact h1
  rw [← e1, List.getElem?_append_right (Nat.le_refl _), Nat.sub_self] at h2
  exact hq (Option.some.inj h2).symm
theorem longest_ten9 {y : List UInt8} {k : Nat} (h : longestOf (y ++ [10]) = (k, y.length + 1)) : k = 9 := by
  by_cases hy : y = []
  · subst hy
    have : longestOf ([] ++ [10]) = (9, 1) := by decide +kernel
    rw [this] at h
    exact (congrArg Prod.fst h).symm
  · exfalso
    have hlen : 1 ≤ y.length := by
      cases y with
      | nil => exact absurd rfl hy
      | cons c y => simp
    unfold longestOf at h
    simp only at h
    split at h
    · have := congrArg Prod.snd h
      simp only at this
      omega
    · have h2 : (([1, 2, 3, 4, 5, 9] : List Nat).foldl (better (y ++ [10])) (0, 0)).2 = y.length + 1 := congrArg Prod.snd h
      rcases fold_mem (y ++ [10]) [1, 2, 3, 4, 5, 9] (0, 0) with h3 | ⟨m, hm, h3⟩
      · rw [h2] at h3; simp only at h3; omega
      · rw [h2] at h3
        simp only [List.mem_cons, List.not_mem_nil, or_false] at hm
        rcases hm with rfl | rfl | rfl | rfl | rfl | rfl
        · have h4 : wordLen (y ++ [10]) = y.length + 1 := h3
          rw [wordLen_w ten_stop y hy] at h4
          have := wordLen_le y
          omega
        · have h4 : numLen (y ++ [10]) = y.length + 1 := h3
          rw [numLen_w ten_stop y hy] at h4
          have := numLen_le' y
          omega
        · exact quoted_ten (q := 39) (by decide) h3
        · exact quoted_ten (q := 34) (by decide) h3
        · have h4 : punctLen (y ++ [10]) = y.length + 1 := h3
          have := punctLen_w ten_stop y
          omega
        · have h4 : nlLen (y ++ [10]) = y.length + 1 := h3
          have := nlLen_w (r := [10]) y hy
          omega
theorem next_ten9 {y : List UInt8} {k : Nat} (h : nextOf false (y ++ [10]) = (k, y.length + 1, 0)) : k = 9 := by
  unfold nextOf at h
  rw [if_neg (by simp)] at h
  split at h
  · rename_i h1
    exfalso
    split at h
    · simp only [Prod.mk.injEq] at h; exact absurd h.2.2 (by decide)
    · simp only [Prod.mk.injEq] at h
      have h2 := h.2.1
      unfold commentLen at h2
      have h2y : 2 ≤ y.length := by
        match y, h1 with
        | [], h1 => exact absurd h1 (by decide)
        | [c], h1 =>
          exfalso
          have : isComment (c :: 10 :: []) = true := h1
          rw [isCom_cons] at this
          simp at this
        | _ :: _ :: _, _ => simp
      have hdr : (y ++ [10]).drop 2 = y.drop 2 ++ [10] := by rw [List.drop_append_of_le_length h2y]
      rw [hdr] at h2
      split at h2
      · have h3 := runLen_all (p := notNl) (l := y.drop 2 ++ [10]) (by rw [List.length_append, List.length_drop, List.length_singleton]; omega) 10 (by simp)
        exact absurd h3 (by decide)
      · cases hc : closeC (y.drop 2 ++ [10]) with
        | none => rw [hc] at h2; simp at h2
        | some n =>
          rw [hc] at h2
          simp only at h2
          have h3 := closeC_at _ n hc
          rw [List.getElem?_append_right (by rw [List.length_drop]; omega), List.length_drop, show n + 1 - (y.length - 2) = 0 by omega] at h3
          exact absurd (Option.some.inj h3) (by decide)
  · split at h
    · simp only [Prod.mk.injEq] at h; exact absurd h.2.2 (by decide)
    · simp only [Prod.mk.injEq] at h
      exact longest_ten9 (k := k) (by rw [← h.1, ← h.2.1])

theorem last_nl {L : List UInt8} (hl : L.getLast? = some 10) : ∀ (m e : Nat), L.length - e ≤ m → e < L.length → (toks L e 3).2 = 0 → (∀ t ∈ (toks L e 3).1.dropLast, t.k ≠ 9) → nlEnd (toks L e 3).1 = true := by
  have hwhite : ∀ e, e < L.length → ¬ L.length ≤ atOf L e := by
    intro e he h
    have h1 : runLen isWS (L.drop e) = (L.drop e).length := by
      have := runLen_le' isWS (L.drop e)
      rw [List.length_drop] at this ⊢
      unfold atOf at h
      omega
    have h2 := runLen_all h1 10 (by
      have : (L.drop e).getLast? = some 10 := by rw [List.getLast?_drop, if_neg (by omega), hl]
      exact List.mem_of_getLast? this)
    exact absurd h2 (by decide)
  intro m
  induction m with
  | zero => intro e hm he; omega
  | succ m ih =>
    intro e hm he h0 hn
    have hge := atOf_ge L e
    have h1 := hwhite e he
    by_cases h2 : (nextAt L e 3).2.2 = 0
    · obtain ⟨a1, a2, a3, a4, a5, a6, a7, a8, a9⟩ := tok_facts (L := L) (e := e) (by omega) h2
      rw [toks_cons (by omega) h2] at h0 hn ⊢
      have hst : stAt L e 3 = lineWith 3 (tokAt L e 3).k (txt L (tokAt L e 3)) := rfl
      rw [hst] at h0 hn ⊢
      generalize tokAt L e 3 = t at *
      simp only at h0 hn ⊢
      by_cases hlt : t.e < L.length
      · have hne : (toks L t.e (lineWith 3 t.k (txt L t))).1 ≠ [] := by
          have h3 := hwhite t.e hlt
          have hge2 := atOf_ge L t.e
          by_cases h4 : (nextAt L t.e (lineWith 3 t.k (txt L t))).2.2 = 0
          · rw [toks_cons (by omega) h4]; exact fun h => by cases h
          · rw [toks_err (by omega) h4] at h0; exact absurd h0 h4
        have h9 : t.k ≠ 9 := hn t (by
          rw [List.dropLast_cons_of_ne_nil hne]; exact List.mem_cons_self)
        rw [line3 h9] at h0 hn hne ⊢
        rw [nlEnd, if_neg (by simpa using h9)]
        exact ih t.e (by omega) hlt h0 (fun u hu => hn u (by rw [List.dropLast_cons_of_ne_nil hne]; exact List.mem_cons_of_mem _ hu))
      · have he2 : t.e = L.length := by omega
        have hge2 := atOf_ge L t.e
        rw [toks_end (by omega) (by omega)]
        have h5 : L.drop t.e = [] := by rw [he2, List.drop_length]
        rw [h5, List.append_nil] at a5
        have h6 : (txt L t).getLast? = some 10 := by
          rw [← a5, List.getLast?_drop, if_neg (by omega), hl]
        rcases List.eq_nil_or_concat (txt L t) with h7 | ⟨y, c, h7⟩
        · exact absurd h7 a8
        · rw [List.concat_eq_append] at h7
          rw [h7, List.getLast?_append, List.getLast?_singleton] at h6
          obtain rfl : c = 10 := by simpa using h6
          rw [a5, h7, List.length_append, List.length_singleton] at a7
          have h9 := next_ten9 a7
          rw [nlEnd, h9]; rfl
    · rw [toks_err (by omega) h2] at h0; exact absurd h0 h2

end Go.Proofs.Ytaodjipnffgihaa
