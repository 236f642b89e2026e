/- Several texts laid together. -/
import Derived.Test.YtaodjipnffgihaaGreatMzG
import Derived.ProofKit
import Derived.OpenShut
import Derived.Deep.Slices
import Derived.Deep.Fields
import Derived.ChangeArms
import Derived.SizedLaws

namespace Go.Proofs.YtaodjipnffgihaaGreat
open Go.ChangeShapes Go.WideShapes Go.ChangeAt Go.RowKit Go.Deep

theorem weights_all {H : Type} {P : Program} {e : TypeId} {d : DataW H} {l : List (DataW H)} (h : d ∈ l) : ∀ m ∈ d.weights P e, m ∈ DataW.weightsAll P e l := by
  induction l with
  | nil => cases h
  | cons x r ih =>
    intro m hm
    simp only [DataW.weightsAll, List.mem_append]
    cases List.mem_cons.1 h with
    | inl e => subst e; exact .inl hm
    | inr e => exact .inr (ih e m hm)

section
variable {H : Type} {enc : TypeId × Value → H} {w : World} {base : Nat} {spare : Nat → Bool} {held : Bool}
end

end Go.Proofs.YtaodjipnffgihaaGreat

namespace Go.Proofs.YtaodjipnffgihaaGreat
open Go.ChangeShapes Go.WideShapes Go.ChangeAt Go.RowKit Go.Deep

/-- A row: is it a directive, its name, its tokens. -/
structure Rz where
  d : Bool
  nm : ByteArray
  ts : List Tz

/-- A row's tokens behind a slice's place. -/
def ToksAt (W : World) (B : Nat) (a : Option Addr) (ts : List Tz) : Prop := 0 < ts.length → ∃ b o, a = some ⟨b, o, none⟩ ∧ b < B ∧ TzAt W b o ts
/-- A row lies at p of the block b; its tokens lie below B. -/
def RowAt (W : World) (B b p : Nat) (r : Rz) : Prop := W.cell? ⟨b, p, none⟩ = some (.bool r.d) ∧ W.cell? ⟨b, p + 1, none⟩ = some (.string r.nm) ∧ ∃ a cap, W.cell? ⟨b, p + 2, none⟩ = some (.slice a r.ts.length cap) ∧ ToksAt W B a r.ts
def RzAt (W : World) (B b o : Nat) (rs : List Rz) : Prop := ∀ i r, rs[i]? = some r → RowAt W B b (o + i * 3) r
theorem ToksAt.below {B : Nat} {W W' : World} {a : Option Addr} {ts : List Tz} (h : ToksAt W B a ts) (hb : Below B W W') : ToksAt W' B a ts := fun hp => by
  obtain ⟨b, o, e, hlt, ht⟩ := h hp
  exact ⟨b, o, e, hlt, ht.below hb hlt⟩
theorem ToksAt.mono {B B' : Nat} {W : World} {a : Option Addr} {ts : List Tz} (h : ToksAt W B a ts) (hB : B ≤ B') : ToksAt W B' a ts := fun hp => by
  obtain ⟨b, o, e, hlt, ht⟩ := h hp
  exact ⟨b, o, e, Nat.lt_of_lt_of_le hlt hB, ht⟩
theorem RzAt.below {B b o : Nat} {W W' : World} {rs : List Rz} (h : RzAt W B b o rs) (hb : Below B W W') (hlt : b < B) : RzAt W' B b o rs := fun i r hr => by
  have hc : ∀ p, W'.cell? ⟨b, p, none⟩ = W.cell? ⟨b, p, none⟩ := fun p => hb.cell (p := ⟨b, p, none⟩) hlt
  obtain ⟨h1, h2, a, cap, h3, h4⟩ := h i r hr
  exact ⟨by rw [hc]; exact h1, by rw [hc]; exact h2, a, cap, by rw [hc]; exact h3, h4.below hb⟩
theorem RzAt.mono {B B' b o : Nat} {W : World} {rs : List Rz} (h : RzAt W B b o rs) (hB : B ≤ B') : RzAt W B' b o rs := fun i r hr => by
  obtain ⟨h1, h2, a, cap, h3, h4⟩ := h i r hr
  exact ⟨h1, h2, a, cap, h3, h4.mono hB⟩
theorem cell_lt {W : World} {b o : Nat} {u : Value} (h : W.cell? ⟨b, o, none⟩ = some u) : b < W.heap.size := by
  unfold World.cell? at h
  split at h
  · rename_i he
    exact (Array.getElem?_eq_some_iff.1 he).1
  · cases h

section
variable {H : Type} {enc : TypeId × Value → H} {w : World} {base : Nat} {held : Bool}
/-- How great a row that came in may be. -/
structure RzFits (r : Rz) : Prop where
  nm : r.nm.size ≤ reachBytes
  ts : r.ts.length * 48 ≤ reachBytes
  tx : ∀ t ∈ r.ts, t.tx.size ≤ reachBytes

end

end Go.Proofs.YtaodjipnffgihaaGreat

namespace Go.Proofs.YtaodjipnffgihaaGreat

/-- The lines: up to and including each Newline; what follows the last. -/
def linesS : List Tz → List (List Tz)
  | [] => []
  | t :: r => if t.k == 9 then [t] :: linesS r else match linesS r with
    | [] => [[t]]
    | l :: ls => (t :: l) :: ls
def noNl (l : List Tz) : Prop := ∀ t ∈ l, (t.k == 9) = false
theorem linesS_cut : ∀ {l : List Tz} {t : Tz} (r : List Tz), noNl l → (t.k == 9) = true → linesS (l ++ t :: r) = (l ++ [t]) :: linesS r
  | [], t, r, _, ht => by rw [List.nil_append, linesS, if_pos ht]; rfl
  | q :: l, t, r, hl, ht => by
    rw [List.cons_append, linesS, if_neg (by rw [hl q List.mem_cons_self]; decide), linesS_cut r (fun u hu => hl u (List.mem_cons_of_mem _ hu)) ht]
    rfl
theorem linesS_rest : ∀ {l : List Tz}, noNl l → l ≠ [] → linesS l = [l]
  | [], _, h => absurd rfl h
  | [q], hl, _ => by rw [linesS, if_neg (by rw [hl q List.mem_cons_self]; decide)]; rfl
  | q :: p :: l, hl, _ => by
    rw [linesS, if_neg (by rw [hl q List.mem_cons_self]; decide), linesS_rest (fun u hu => hl u (List.mem_cons_of_mem _ hu)) (by simp)]

/-- Is a line's first bare token the one of a directive? -/
def hashB : List Tz → Bool
  | t :: _ => t.k == 5 && (t.tx.toList == [35] || t.tx.toList == [37, 58])
  | [] => false
/-- A directive's name. -/
def nameB : List Tz → ByteArray
  | _ :: u :: _ => if u.k == 1 then u.tx else ⟨#[]⟩
  | _ => ⟨#[]⟩
def rowOf (l : List Tz) : Rz := ⟨hashB (bareS l).1, if hashB (bareS l).1 then nameB (bareS l).1 else ⟨#[]⟩, l⟩
/-- A line more. -/
def addRow (out : List Rz) (r : Rz) : List Rz := match out.getLast? with
  | some q => if !r.d && !q.d then out.dropLast ++ [⟨q.d, q.nm, q.ts ++ r.ts⟩] else out ++ [r]
  | none => out ++ [r]
def addLine (out : List Rz) (l : List Tz) : List Rz := addRow out (rowOf l)
def rowsS (ts : List Tz) : List Rz := (linesS ts).foldl addLine []
theorem addRow_new {out : List Rz} {r : Rz} (h : r.d = true ∨ out = [] ∨ ∃ o q, out = o ++ [q] ∧ q.d = true) : addRow out r = out ++ [r] := by
  unfold addRow
  rcases h with h | h | ⟨o, q, rfl, h⟩
  · cases out.getLast? with
    | none => rfl
    | some q => simp [h]
  · subst h; rfl
  · simp [h]
theorem addRow_more {o : List Rz} {q r : Rz} (h : r.d = false) (h2 : q.d = false) : addRow (o ++ [q]) r = o ++ [⟨q.d, q.nm, q.ts ++ r.ts⟩] := by
  unfold addRow
  simp [h, h2]

/-- How far the list is read: the rows so far, and the line that is begun. -/
structure RowsAt (ts : List Tz) (i : Nat) (out : List Rz) (line : List Tz) : Prop where
  le : i ≤ ts.length
  nl : noNl line
  eq : rowsS ts = (linesS (line ++ ts.drop i)).foldl addLine out
  ne : i < ts.length ∨ line = []
theorem RowsAt.start (ts : List Tz) : RowsAt ts 0 [] [] := ⟨Nat.zero_le _, (fun t h => by cases h), rfl, .inr rfl⟩
theorem RowsAt.more {ts : List Tz} {i : Nat} {out : List Rz} {line : List Tz} {t : Tz} (h : RowsAt ts i out line) (ht : ts[i]? = some t) (hk : (t.k == 9) = false) (hi : i + 1 < ts.length) : RowsAt ts (i + 1) out (line ++ [t]) := by
  have hlt := (List.getElem?_eq_some_iff.1 ht).1
  refine ⟨hlt, fun u hu => ?_, ?_, .inl hi⟩
  · rcases List.mem_append.1 hu with hu | hu
    · exact h.nl u hu
    · rw [List.mem_singleton] at hu; rw [hu]; exact hk
  · rw [h.eq, List.drop_eq_getElem_cons hlt, (List.getElem?_eq_some_iff.1 ht).2]; simp
theorem RowsAt.flush {ts : List Tz} {i : Nat} {out : List Rz} {line : List Tz} {t : Tz} (h : RowsAt ts i out line) (ht : ts[i]? = some t) (hk : (t.k == 9) = true ∨ i + 1 = ts.length) : RowsAt ts (i + 1) (addLine out (line ++ [t])) [] := by
  have hlt := (List.getElem?_eq_some_iff.1 ht).1
  refine ⟨hlt, (fun u hu => by cases hu), ?_, .inr rfl⟩
  rw [h.eq, List.drop_eq_getElem_cons hlt, (List.getElem?_eq_some_iff.1 ht).2, List.nil_append]
  by_cases h9 : (t.k == 9) = true
  · rw [linesS_cut _ h.nl h9]; rfl
  · have hi : i + 1 = ts.length := hk.resolve_left h9
    rw [List.drop_eq_nil_of_le (by omega)]
    rw [linesS_rest (l := line ++ [t]) (fun u hu => ?_) (by simp)]
    · rfl
    · rcases List.mem_append.1 hu with hu | hu
      · exact h.nl u hu
      · rw [List.mem_singleton] at hu; rw [hu]; exact Bool.eq_false_iff.2 h9
theorem RowsAt.all {ts : List Tz} {out : List Rz} {line : List Tz} (h : RowsAt ts ts.length out line) : rowsS ts = out := by
  have hl : line = [] := h.ne.resolve_left (Nat.lt_irrefl _)
  have := h.eq
  rw [hl, List.drop_length] at this
  exact this

/-- The rows hold no more tokens than the list. -/
def toksN (rs : List Rz) : Nat := (rs.map fun r => r.ts.length).sum
theorem toksN_snoc (rs : List Rz) (r : Rz) : toksN (rs ++ [r]) = toksN rs + r.ts.length := by simp [toksN]
theorem addRow_toks (out : List Rz) (r : Rz) : toksN (addRow out r) = toksN out + r.ts.length := by
  rcases List.eq_nil_or_concat out with rfl | ⟨o, q, rfl⟩
  · simp [addRow, toksN]
  · rw [List.concat_eq_append]
    unfold addRow
    simp only [List.getLast?_append, List.getLast?_singleton, Option.some_or, List.dropLast_concat]
    split
    · rw [toksN_snoc, toksN_snoc, List.length_append]; omega
    · rw [toksN_snoc]
theorem addRow_len (out : List Rz) (r : Rz) : (addRow out r).length ≤ out.length + 1 := by
  rcases List.eq_nil_or_concat out with rfl | ⟨o, q, rfl⟩
  · exact Nat.le_refl _
  · rw [List.concat_eq_append]
    unfold addRow
    simp only [List.getLast?_append, List.getLast?_singleton, Option.some_or, List.dropLast_concat]
    split <;> simp

end Go.Proofs.YtaodjipnffgihaaGreat
