/- The document's answer: the tokens of a logical text, step by step (pure). -/
import Derived.Test.YtenmapahigbbeaaRefH
import Derived.Test.YtenmapahigbbeaaFirst0
import Derived.Test.YtenmapahigbbeaaKeeps
namespace Go.Proofs.Ytenmapahigbbeaa
open Go.RowKit

def sharpB (a : List UInt8) : Bool := a == [35] || a == [37, 58]
def inclB (a : List UInt8) : Bool := a == [105, 110, 99, 108, 117, 100, 101]
/-- What a line's texts so far are. -/
def stOf : List (List UInt8) → Nat
  | [] => 0
  | [a] => if sharpB a then 1 else 3
  | [a, b] => if sharpB a && inclB b then 2 else 3
  | _ => 3
theorem stOf_snoc (ln : List (List UInt8)) (t : List UInt8) {k : Nat} (h8 : k ≠ 8) (h9 : k ≠ 9) : stOf (ln ++ [t]) = lineWith (stOf ln) k t := by
  unfold lineWith
  rw [if_neg h8, if_neg h9]
  match ln with
  | [] =>
    show (if sharpB t then 1 else 3) = _
    unfold sharpB
    cases h : (t == [35] || t == [37, 58]) <;> simp [stOf, h]
  | [a] =>
    show (if sharpB a && inclB t then 2 else 3) = _
    cases ha : sharpB a
    · simp [stOf, ha]
    · cases hb : inclB t
      · unfold inclB at hb; simp [stOf, ha, hb]
      · unfold inclB at hb; simp [stOf, ha, hb]
  | [a, b] =>
    show 3 = _
    cases h : (sharpB a && inclB b) <;> simp [stOf, h]
  | a :: b :: c :: r =>
    show 3 = _
    simp [stOf]

/-- So far read. -/
structure RefT (L : List UInt8) (tks : List Tk) (ln : List (List UInt8)) (e at' : Nat) (sp : Bool) : Prop where
  le : e ≤ at'
  le2 : at' ≤ L.length
  h1 : (toks L 0 0).1 = tks ++ (toks L e (stOf ln)).1
  h2 : (toks L 0 0).2 = (toks L e (stOf ln)).2
  h3 : atOf L e = atOf L at'
  h4 : sp = decide (e < at')
theorem RefT.start (L : List UInt8) : RefT L [] [] 0 0 false := ⟨Nat.le_refl _, Nat.zero_le _, rfl, rfl, rfl, rfl⟩
theorem RefT.white {L : List UInt8} {tks : List Tk} {ln : List (List UInt8)} {e at' : Nat} {sp : Bool} (h : RefT L tks ln e at' sp) (hlt : at' < L.length) (hw : isWS L[at'] = true) : RefT L tks ln e (at' + 1) true :=
  ⟨Nat.le_succ_of_le h.le, hlt, h.h1, h.h2, by
    rw [h.h3]
    unfold atOf
    rw [List.drop_eq_getElem_cons hlt, runLen, if_pos hw]; omega, (decide_eq_true (by have := h.le; omega)).symm⟩
theorem RefT.at {L : List UInt8} {tks : List Tk} {ln : List (List UInt8)} {e at' : Nat} {sp : Bool} (h : RefT L tks ln e at' sp) (hlt : at' < L.length) (hw : isWS L[at'] = false) : atOf L e = at' := by
  rw [h.h3]
  unfold atOf
  rw [List.drop_eq_getElem_cons hlt, runLen, if_neg (by rw [hw]; decide)]; rfl
theorem RefT.tok {L : List UInt8} {tks : List Tk} {ln ln' : List (List UInt8)} {e at' k n : Nat} {sp : Bool} (h : RefT L tks ln e at' sp) (hlt : at' < L.length) (hw : isWS L[at'] = false)
    (hn : nextOf (stOf ln == 2) (L.drop at') = (k, n, 0)) (hln : stOf ln' = lineWith (stOf ln) k ((L.take (at' + n)).drop at')) : RefT L (tks ++ [⟨k, at', at' + n, sp⟩]) ln' (at' + n) (at' + n) false := by
  have ha := h.at hlt hw
  have hx : nextAt L e (stOf ln) = (k, n, 0) := by unfold nextAt; rw [ha]; exact hn
  have ht : tokAt L e (stOf ln) = ⟨k, at', at' + n, sp⟩ := by unfold tokAt; rw [hx, ha, ← h.h4]
  have hst : stAt L e (stOf ln) = stOf ln' := by unfold stAt; rw [hx, ht, hln]; rfl
  have hc := toks_cons (l := L) (e := e) (st := stOf ln) (by rw [ha]; exact hlt) (by rw [hx])
  rw [hst, ht] at hc
  have hlen := nextAt_len (l := L) (e := e) (st := stOf ln) (by rw [ha]; exact hlt) (by rw [hx])
  rw [hx, ha] at hlen
  refine ⟨Nat.le_refl _, hlen.2, ?_, ?_, rfl, (decide_eq_false (Nat.lt_irrefl _)).symm⟩
  · rw [h.h1, hc]; simp
  · rw [h.h2, hc]
theorem RefT.err {L : List UInt8} {tks : List Tk} {ln : List (List UInt8)} {e at' k n r : Nat} {sp : Bool} (h : RefT L tks ln e at' sp) (hlt : at' < L.length) (hw : isWS L[at'] = false)
    (hn : nextOf (stOf ln == 2) (L.drop at') = (k, n, r)) (hr : r ≠ 0) : (toks L 0 0).2 = r := by
  have ha := h.at hlt hw
  have hx : nextAt L e (stOf ln) = (k, n, r) := by unfold nextAt; rw [ha]; exact hn
  rw [h.h2, toks_err (by rw [ha]; exact hlt) (by rw [hx]; exact hr), hx]
theorem RefT.all {L : List UInt8} {tks : List Tk} {ln : List (List UInt8)} {e : Nat} {sp : Bool} (h : RefT L tks ln e L.length sp) : toks L 0 0 = (tks, 0) := by
  have h0 : toks L e (stOf ln) = ([], 0) := toks_end h.le (by rw [h.h3]; exact atOf_ge _ _)
  have h1 := h.h1
  have h2 := h.h2
  rw [h0] at h1 h2
  exact Prod.ext (by rw [h1]; simp) h2
theorem RefT.pos {L : List UInt8} {ln : List (List UInt8)} {at' k n : Nat} (hlt : at' < L.length) (hn : nextOf (stOf ln == 2) (L.drop at') = (k, n, 0)) : 1 ≤ n ∧ at' + n ≤ L.length := by
  have hne : L.drop at' ≠ [] := fun h2 => by have := List.drop_eq_nil_iff.1 h2; omega
  have := next_len hne (by rw [hn])
  rw [hn, List.length_drop] at this
  simp only at this
  omega

theorem ownsRow_keepsT {W W' : World} {base z n : Nat} {T : TypeId} {v : Value} {xs : List Value} (h : W.ownsRow base T z v n xs) (hk : KeepsT T W W') : W'.ownsRow base T z v n xs :=
  ⟨h.1, h.2.elim .inl fun ⟨g, cap, cur, h1, h2, h3, h4⟩ => .inr ⟨g, cap, cur, h1, h2, hk g cur _ h3, h4⟩⟩
theorem infoStr : (Try.prog.info? 9).map (fun i => (i.zero, i.size, i.bytes)) = some (some (.string ⟨#[]⟩), 1, 16) := by kernel_rfl
def strV (l : List ByteArray) : List Value := l.map .string
theorem strV_snoc (l : List ByteArray) (a : ByteArray) : strV (l ++ [a]) = strV l ++ [.string a] := by simp [strV]
def lnOf (l : List ByteArray) : List (List UInt8) := l.map (·.data.toList)
theorem lnOf_snoc (l : List ByteArray) (a : ByteArray) : lnOf (l ++ [a]) = lnOf l ++ [a.data.toList] := by simp [lnOf]

theorem row_shapeS {w : World} {base n : Nat} {e : TypeId} {size : Nat} {v : Value} {xs : List Value} (h : w.ownsRow base e size v n xs) : ∃ a cap, v = .slice a n cap := by
  rcases h.2 with ⟨rfl, rfl⟩ | ⟨g, cap, cur, rfl, _⟩
  · exact ⟨_, _, rfl⟩
  · exact ⟨_, _, rfl⟩
theorem row_posS {w : World} {base n cap : Nat} {e : TypeId} {size : Nat} {a : Option Addr} {xs : List Value} (hn : 0 < n) (h : w.ownsRow base e size (.slice a n cap) n xs) : ∃ g, a = some ⟨g, 0, none⟩ ∧ g < w.heap.size ∧ (∀ j u, xs[j]? = some u → w.cell? ⟨g, j, none⟩ = some u) := by
  rcases h.2 with ⟨h1, h2⟩ | ⟨g, cap, cur, h1, _⟩
  · omega
  · cases h1
    refine ⟨g, rfl, (h.lt g rfl).2, fun j u hj => ?_⟩
    have := h.cells (g := g) rfl j u hj
    rcases j with _ | j <;> simpa [Addr.add] using this
theorem r2cS {v : Value} {a c : Int} (h : a = c) : Ending.returned (.tuple #[v, .int .i64 a]) = .returned (.tuple #[v, .int .i64 c]) := by rw [h]

theorem cell1_newS (w : World) (a : Value) (t : TypeId) : ∀ j u, [a][j]? = some u → (w.alloc (.cells #[a] t)).cell? ((⟨w.heap.size, 0, none⟩ : Addr).add j) = some u := by
  intro j u hj
  match j, hj with
  | 0, hj => simp at hj; subst hj; simp [Addr.add]
  | j + 1, hj => simp at hj


end Go.Proofs.Ytenmapahigbbeaa
