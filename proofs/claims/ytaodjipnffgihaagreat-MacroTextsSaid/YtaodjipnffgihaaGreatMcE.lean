/- macro.setOf, macro.beginsWithArgument: sets of texts. -/
import Derived.Test.YtaodjipnffgihaaGreatMcT
import Derived.Test.YtaodjipnffgihaaGreatMzH
import Derived.Maps.OwnSet
import Derived.StringKeys
namespace Go.Proofs.YtaodjipnffgihaaGreat
open Go.RowKit Go.Shelf Go.WideMaps

def keyL (s : ByteArray) : Lit := .string s.data.toList
def setT (ss : List ByteArray) : DataW Unit := Maps.setOf (.agg []) (ss.map keyL)
theorem setT_snoc (ss : List ByteArray) (s : ByteArray) : setT (ss ++ [s]) = (setT ss).put (keyL s) (.agg []) := by
  unfold setT
  rw [List.map_append]
  exact Maps.setOf_snoc _ _ _
theorem setT_nil : setT [] = .map [] := rfl
theorem keyL_key (ss : List ByteArray) : ∀ x ∈ ss.map keyL, WideAt.IsKeyLit x := by
  intro x hx
  obtain ⟨s, _, rfl⟩ := List.mem_map.1 hx
  trivial
theorem keyL_same (a b : ByteArray) : (keyL a).sameKey (keyL b) = (a.toList == b.toList) := by
  rw [Lib.toList_data, Lib.toList_data, Bool.eq_iff_iff, WideAt.sameKey_iff (show WideAt.IsKeyLit (keyL b) from trivial), beq_iff_eq]
  unfold keyL
  constructor
  · intro h; injection h
  · intro h; rw [h]
theorem any_keyL (s : ByteArray) : ∀ l : List ByteArray, (l.map keyL).any (fun x => x.sameKey (keyL s)) = amongS l s
  | [] => rfl
  | a :: l => by
    rw [List.map_cons, List.any_cons, any_keyL s l, keyL_same]
    rfl
theorem has_setT (ss : List ByteArray) (s : ByteArray) : Maps.has (setT ss) (keyL s) = amongS ss s := by
  unfold setT
  rw [Maps.has_setOf _ _ _ (keyL_key ss), any_keyL]
theorem add_size : ∀ (ss acc : List ByteArray) (L : List Lit), (∀ s, L.any (fun x => x.sameKey (keyL s)) = amongS acc s) →
    ((ss.map keyL).foldl Maps.addKey L).length ≤ L.length + ss.length ∧ (((ss.map keyL).foldl Maps.addKey L).length = L.length + ss.length ↔ distR acc ss = true)
  | [], acc, L, _ => by simp [distR]
  | s :: ss, acc, L, h => by
    rw [List.map_cons, List.foldl_cons, distR, List.length_cons]
    have hs := h s
    cases hc : amongS acc s with
    | true =>
      rw [hc] at hs
      have ha : Maps.addKey L (keyL s) = L := by unfold Maps.addKey; rw [if_pos hs]
      rw [ha]
      have h2 : ∀ t, L.any (fun x => x.sameKey (keyL t)) = amongS (acc ++ [s]) t := by
        intro t
        rw [h t, amongS_app]
        cases hst : (s.toList == t.toList) with
        | false => simp [amongS, hst]
        | true =>
          have : amongS acc t = true := by
            have e : s = t := bytes_eq hst
            rw [← e]; exact hc
          rw [this]; rfl
      have ih := (add_size ss (acc ++ [s]) L h2).1
      refine ⟨by omega, ?_⟩
      simp only [Bool.not_true, Bool.false_and, Bool.false_eq_true, iff_false]
      omega
    | false =>
      rw [hc] at hs
      have ha : Maps.addKey L (keyL s) = L ++ [keyL s] := by unfold Maps.addKey; rw [if_neg (by rw [hs]; decide)]
      rw [ha]
      have h2 : ∀ t, (L ++ [keyL s]).any (fun x => x.sameKey (keyL t)) = amongS (acc ++ [s]) t := by
        intro t
        rw [List.any_append, h t, amongS_app]
        simp [amongS, keyL_same]
      have ih := add_size ss (acc ++ [s]) (L ++ [keyL s]) h2
      rw [List.length_append, List.length_singleton] at ih
      refine ⟨by omega, ?_⟩
      simp only [Bool.not_false, Bool.true_and]
      rw [← ih.2]
      omega
theorem size_setT (ss : List ByteArray) : Maps.size (setT ss) ≤ ss.length ∧ (Maps.size (setT ss) < ss.length ↔ distS ss = false) := by
  have h := add_size ss [] [] (fun s => rfl)
  have e : Maps.size (setT ss) = ((ss.map keyL).foldl Maps.addKey []).length := Maps.size_setOf _ _ (keyL_key ss)
  rw [e]
  simp only [List.length_nil, Nat.zero_add] at h
  refine ⟨h.1, ?_⟩
  unfold distS
  rw [← Bool.not_eq_true, ← h.2]
  omega

theorem lawS : Maps.Keyed Tryz.prog 9 := Maps.string_keyed Tryz.underlying9
theorem key_str {s : ByteArray} (h : s.size ≤ maxLen) : keyOf Tryz.prog 9 (.string s) = some (keyL s) := keyOf_string_mk Tryz.underlying9 h
theorem zeroU (w : World) : (zeroValue 135).run Tryz.prog w = .ok (.agg #[]) w := by kernel_rfl
/-- A block that is a set of texts. -/
def SetIn (W : World) (B n : Nat) (ss : List ByteArray) : Prop := W.ownsMap Tryz.prog 9 (unitElem (H := Unit)) B n (setT ss)

set_option maxRecDepth 100000 in
set_option maxHeartbeats 2000000 in
theorem setOf_any (ss : List ByteArray) (n cap : Nat) (a : Option Addr) (w : World) (hn : ss.length = n) (hn2 : n * 16 ≤ 140737488355328) (hx : ∀ s ∈ ss, s.size ≤ maxLen) (hT : StrIn w a ss) :
    Calls Tryz.prog 84 #[.slice a n cap] w fun e w' => (∃ B, e = .returned (.map (some B)) ∧ w.heap.size ≤ B ∧ SetIn w' B n ss) ∧ Below w.heap.size w w' := by
  have hmm := @run_makeMap Tryz.prog
  have HN := Lib.hid hn
  have HT := Lib.hid hT
  have HX := Lib.hid hx
  clear hn hT hx
  go_enter Tryz.func84, Tryz.ntmps84
  go_wp2
  go_loopw [9] (fun i wx => ∃ k : Nat, k ≤ n ∧ i = .int .i64 k ∧ wx.ownsMap Tryz.prog 9 (unitElem (H := Unit)) w.heap.size k (setT (ss.take k)) ∧ Below w.heap.size w wx) (fun i _ => n - (intOf i).toNat)
  case atStart => exact ⟨0, Nat.zero_le _, rfl, World.ownsMap_made _ _ _ _, (Below.refl _ _).alloc (Nat.le_refl _) _⟩
  case round =>
    obtain ⟨k, hk, rfl, hown, hbx⟩ := hrel
    by_cases hlt : k < n
    · obtain ⟨s, hs⟩ : ∃ s, ss[k]? = some s := ⟨_, List.getElem?_eq_getElem (by rw [HN.out]; exact hlt)⟩
      obtain ⟨b, o, rfl, hg1, hrz⟩ := HT.out (by rw [HN.out]; omega)
      have c0 := (hrz.below hbx hg1) k s hs
      have hkey := key_str (HX.out s (List.mem_of_getElem? hs))
      have HS2 : Hid (setT (ss.take (k + 1)) = (setT (ss.take k)).put (keyL s) (.agg [])) := Lib.hid (by
        rw [List.take_add_one, hs]; exact setT_snoc _ _)
      clear hs hrz
      have j1 : (k : Int) < (n : Int) := by omega
      have j0 : (0 : Int) ≤ (k : Int) := by omega
      go_wp2_with (at_mapUpdate; refine wpList_mapUpdate_own _ rfl _ _ _ 133 rfl 9 135 lawS Tryz.underlying133 (unitElem (H := Unit)) w.heap.size k _ rfl hown (by unfold maxLen; omega) _ _ _ rfl rfl hkey _ [] unitElem_mk ?_; intro w1 hown1 hgrow1)
      go_roundw
      case rel => exact ⟨k + 1, by omega, by go_num, HS2.out.symm ▸ hown1, hbx.grown hgrow1 hbx.size (fun j hj => by cases hj; exact Nat.le_refl _)⟩
      case measure => simp [intOf]; omega
    · obtain rfl : k = n := by omega
      have HA : Hid (ss.take k = ss) := Lib.hid (List.take_of_length_le (by rw [HN.out]; exact Nat.le_refl _))
      rw [HA.out] at hown
      go_wp2
      go_ret
      exact ⟨⟨_, rfl, Nat.le_refl _, hown⟩, hbx⟩

def argQ (qs : List ByteArray) (l : List Tz) : Bool := match l with
  | t :: _ => t.k == 1 && amongS qs t.tx
  | [] => false
theorem argQ_argB (ps : List ByteArray) (l : List Tz) : argQ (ps ++ [⟨#[95, 95, 86, 65, 95, 65, 82, 71, 83, 95, 95]⟩]) l = argB ps l := by
  cases l with
  | nil => rfl
  | cons t r =>
    show (t.k == 1 && amongS _ t.tx) = (t.k == 1 && (amongS ps t.tx || t.tx.toList == vaL))
    rw [amongS_app, among1, vaL_eq, beq_turn vaL]

set_option maxRecDepth 100000 in
set_option maxHeartbeats 2000000 in
theorem begins_arg (ts : List Tz) (qs : List ByteArray) (n cap B k : Nat) (a : Option Addr) (w : World) (hn : ts.length = n) (hn2 : n * 48 ≤ 140737488355328) (hx : ∀ t ∈ ts, t.tx.size ≤ maxLen) (hT : TzIn w a ts) (hS : SetIn w B k qs) :
    Calls Tryz.prog 85 #[.slice a n cap, .map (some B)] w fun e w' => e = .returned (.bool (argQ qs ts)) ∧ Below w.heap.size w w' := by
  cases ts with
  | nil =>
    obtain rfl : n = 0 := hn.symm
    go_enter Tryz.func85, Tryz.ntmps85
    go_wp2
    go_ret
    exact ⟨rfl, Below.refl _ _⟩
  | cons t r =>
    obtain ⟨b, o, rfl, hg1, hr⟩ := hT (by simp)
    obtain ⟨c0, c1, -, -, -⟩ := hr 0 t rfl
    rw [Nat.zero_mul, Nat.add_zero] at c0 c1
    have hkey := key_str (hx t List.mem_cons_self)
    have HH := Lib.hid (has_setT qs t.tx)
    have HQ : Hid (argQ qs (t :: r) = (t.k == 1 && amongS qs t.tx)) := Lib.hid rfl
    unfold SetIn at hS
    have hn0 : ((n : Int) == 0) = false := beq_eq_false_iff_ne.2 (by simp only [List.length_cons] at hn; omega)
    have hn1 : (0 : Int) < (n : Int) := by simp only [List.length_cons] at hn; omega
    clear hn hx hT hr
    cases h1 : (t.k == 1)
    · have HQ2 : Hid (argQ qs (t :: r) = false) := Lib.hid (by rw [HQ.out, h1]; rfl)
      have h2 : (t.k != 1) = true := by unfold bne; rw [h1]; rfl
      go_enter Tryz.func85, Tryz.ntmps85
      go_wp2
      go_ret
      exact ⟨rb (by rw [HQ2.out]), Below.refl _ _⟩
    · have HQ2 : Hid (argQ qs (t :: r) = amongS qs t.tx) := Lib.hid (by rw [HQ.out, h1]; rfl)
      have h2 : (t.k != 1) = false := by unfold bne; rw [h1]; rfl
      go_enter Tryz.func85, Tryz.ntmps85
      go_wp2_with (at_lookup; refine wpList_lookup_own_unit _ rfl _ _ 133 rfl 9 135 lawS Tryz.underlying133 (zeroU _) B k (setT qs) rfl hS _ _ rfl hkey ?_)
      go_ret
      exact ⟨rb (by rw [HQ2.out, HH.out]), below1 w _⟩

end Go.Proofs.YtaodjipnffgihaaGreat
