/- Several texts laid together. -/
import Derived.Test.YtaodjipnffgihaaRowS
import Derived.Test.YtaodjipnffgihaaMyD
import Derived.Outline
import Derived.Deep.LoopGhost
import Derived.StillTailTactics
import Derived.BigQuiet
import Derived.Deep.QuietTactic
import Derived.Laws.OwnMore
import Derived.OwnWalk
import Derived.IntWalk
import Derived.WalkSmall

namespace Go.Proofs.Ytaodjipnffgihaa
open Go.RowKit

theorem ownsRow_keepsT {W W' : World} {base z n : Nat} {T : TypeId} {v : Value} {xs : List Value} (h : W.ownsRow base T z v n xs) (hk : KeepsT T W W') : W'.ownsRow base T z v n xs :=
  ⟨h.1, h.2.elim .inl fun ⟨g, cap, cur, h1, h2, h3, h4⟩ => .inr ⟨g, cap, cur, h1, h2, hk g cur _ h3, h4⟩⟩
/-- A store into a block of another type. -/
theorem keepsT_other {T t : TypeId} {W : World} {B j : Nat} {c : Array Value} {fz : Nat × Nat} (hb : W.heap[B]? = some (.cells c t fz)) (hne : T ≠ t) (u : Value) : KeepsT T W (W.setCell ⟨B, j, none⟩ u) := fun k c' fz' hk => by
  have hkB : k ≠ B := fun e => by
    subst e
    rw [hb] at hk
    simp only [Option.some.injEq, Obj.cells.injEq] at hk
    exact hne hk.2.1.symm
  simp only [World.setCell, Array.getElem?_modify]
  rw [if_neg (fun e => hkB e.symm)]
  exact hk

/-- A list of rows that the call owns: each row's tokens are a row of the call's own. -/
def rzVals : List Rz → List Value → List Value
  | [], _ => []
  | _, [] => []
  | r :: rs, v :: vs => [.bool r.d, .string r.nm, v] ++ rzVals rs vs
theorem rzVals_snoc : ∀ (rs : List Rz) (vs : List Value) (r : Rz) (v : Value), rs.length = vs.length → rzVals (rs ++ [r]) (vs ++ [v]) = rzVals rs vs ++ [.bool r.d, .string r.nm, v]
  | [], [], r, v, _ => rfl
  | q :: rs, u :: vs, r, v, h => by
    simp only [List.length_cons, Nat.add_right_cancel_iff] at h
    rw [List.cons_append, List.cons_append, rzVals, rzVals, rzVals_snoc rs vs r v h]
    rfl
def TokOwn (W : World) (B : Nat) (v : Value) (ts : List Tz) : Prop := W.ownsRow B 49 5 v ts.length (tzCells ts)
structure OwnRz (W : World) (B : Nat) (v : Value) (rs : List Rz) (vs : List Value) : Prop where
  len : rs.length = vs.length
  row : W.ownsRow B 67 3 v rs.length (rzVals rs vs)
  ts : ∀ (i : Nat) (r : Rz) (u : Value), rs[i]? = some r → vs[i]? = some u → TokOwn W B u r.ts
theorem OwnRz.nil (W : World) (B : Nat) : OwnRz W B (.slice none 0 0) [] [] := ⟨rfl, World.ownsRow_nil _ _ _ _, fun i r u h _ => by simp at h⟩
theorem OwnRz.below {W W' : World} {B : Nat} {v : Value} {rs : List Rz} {vs : List Value} (h : OwnRz W B v rs vs) (hb : Below W.heap.size W W') : OwnRz W' B v rs vs :=
  ⟨h.len, row_below h.row hb, fun i r u h1 h2 => row_below (h.ts i r u h1 h2) hb⟩

theorem infoRow : (Try.prog.info? 67).map (fun i => (i.zero, i.size, i.bytes)) = some (some (.agg #[.bool false, .string ⟨#[]⟩, .slice none 0 0]), 3, 48) := by kernel_rfl
theorem cell3_new (w : World) (a b c : Value) (t : TypeId) : ∀ j u, [a, b, c][j]? = some u → (w.alloc (.cells #[a, b, c] t)).cell? ((⟨w.heap.size, 0, none⟩ : Addr).add j) = some u := by
  intro j u hj
  match j, hj with
  | 0, hj => simp at hj; subst hj; simp [Addr.add]
  | 1, hj => simp at hj; subst hj; simp [Addr.add]
  | 2, hj => simp at hj; subst hj; simp [Addr.add]
  | j + 3, hj => simp at hj

end Go.Proofs.Ytaodjipnffgihaa

namespace Go.Proofs.Ytaodjipnffgihaa
open Go.RowKit

theorem rzVals_get : ∀ {rs : List Rz} {vs : List Value} {i : Nat} {r : Rz} {v : Value}, rs[i]? = some r → vs[i]? = some v → (rzVals rs vs)[i * 3]? = some (.bool r.d) ∧ (rzVals rs vs)[i * 3 + 1]? = some (.string r.nm) ∧ (rzVals rs vs)[i * 3 + 2]? = some v
  | [], _, i, r, v, h, _ => by simp at h
  | _ :: _, [], i, r, v, _, h => by simp at h
  | q :: rs, u :: vs, 0, r, v, h, h2 => by
    simp only [List.getElem?_cons_zero, Option.some.injEq] at h h2
    subst h h2
    rw [rzVals]; exact ⟨rfl, rfl, rfl⟩
  | q :: rs, u :: vs, i + 1, r, v, h, h2 => by
    simp only [List.getElem?_cons_succ] at h h2
    obtain ⟨h3, h4, h5⟩ := rzVals_get h h2
    rw [rzVals]
    have e : ∀ j, ([Value.bool q.d, .string q.nm, u] ++ rzVals rs vs)[(i + 1) * 3 + j]? = (rzVals rs vs)[i * 3 + j]? := fun j => by
      rw [List.getElem?_append_right (by simp; omega)]
      congr 1
      simp; omega
    have e0 := e 0
    rw [Nat.add_zero, Nat.add_zero] at e0
    rw [e0, e 1, e 2]
    exact ⟨h3, h4, h5⟩

theorem TokOwn.at {W : World} {B : Nat} {v : Value} {ts : List Tz} (h : TokOwn W B v ts) : ∃ a cap, v = .slice a ts.length cap ∧ ToksAt W W.heap.size a ts := by
  obtain ⟨a, cap, rfl, h1, _, _⟩ := tz_shape rfl h
  refine ⟨a, cap, rfl, fun hp => ?_⟩
  obtain ⟨g, rfl, hg, hr⟩ := h1 hp
  exact ⟨g, 0, rfl, hg, hr.at⟩
theorem OwnRz.at {W : World} {B : Nat} {v : Value} {rs : List Rz} {vs : List Value} (h : OwnRz W B v rs vs) : ∃ a cap, v = .slice a rs.length cap ∧ (0 < rs.length → ∃ g, a = some ⟨g, 0, none⟩ ∧ B ≤ g ∧ g < W.heap.size ∧ RzAt W W.heap.size g 0 rs) := by
  obtain ⟨a, cap, rfl⟩ := row_shape h.row
  refine ⟨a, cap, rfl, fun hp => ?_⟩
  obtain ⟨g, rfl, hg, hc⟩ := row_pos hp h.row
  refine ⟨g, rfl, (h.row.lt g rfl).1, hg, fun i r hr => ?_⟩
  obtain ⟨u, hu⟩ : ∃ u, vs[i]? = some u := ⟨_, List.getElem?_eq_getElem (by rw [← h.len]; exact (List.getElem?_eq_some_iff.1 hr).1)⟩
  obtain ⟨h1, h2, h3⟩ := rzVals_get hr hu
  obtain ⟨a', cap', rfl, ht⟩ := (h.ts i r u hr hu).at
  rw [Nat.zero_add]
  exact ⟨hc _ _ h1, hc _ _ h2, a', cap', hc _ _ h3, ht⟩

theorem quiet_add2 {P : Program} {f : FuncId} {args : Array Value} {w : World} {m x : Nat} {v : Value} (h : Calls P f args (w.drewN (m + x)) fun e w' => e = .returned v ∧ ∃ q, w' = (w.drewN (m + x)).drewN q) :
    Calls P f args (w.drewN (m + x)) fun e w'' => e = .returned v ∧ ∃ n, w'' = w.drewN (m + n) := h.mono fun _ _ ⟨he, q, hm⟩ => ⟨he, x + q, by rw [hm, World.drewN_drewN, Nat.add_assoc]⟩
/-- Where a list of rows can be read. -/
def RzIn (W : World) (a : Option Addr) (rs : List Rz) : Prop := 0 < rs.length → ∃ b o, a = some ⟨b, o, none⟩ ∧ b < W.heap.size ∧ RzAt W W.heap.size b o rs
theorem RzIn.below {W W' : World} {a : Option Addr} {rs : List Rz} (h : RzIn W a rs) (hb : Below W.heap.size W W') : RzIn W' a rs := fun hp => by
  obtain ⟨b, o, e, hlt, hr⟩ := h hp
  exact ⟨b, o, e, Nat.lt_of_lt_of_le hlt hb.size, (hr.below hb hlt).mono hb.size⟩

end Go.Proofs.Ytaodjipnffgihaa

namespace Go.Proofs.Ytaodjipnffgihaa
open Go.RowKit

/-- Behind an append: where it lay, or new. -/
def Fresh (w : World) (v v' : Value) : Prop := v'.ownBlock = v.ownBlock ∨ ∀ g, v'.ownBlock = some g → w.heap.size ≤ g
/-- What the model says of a slice's element type. -/
structure ElemOk (P : Program) (t e : TypeId) (i : TypeInfo) (z : Value) (size bytes : Nat) : Prop where
  ht : P.underlying t = some (.slice e)
  hi : P.info? e = some i
  hz : i.zero = some z
  hs : i.size = size
  hb : i.bytes = bytes
  hc : z.cells.size = size
  hp : 0 < size

section
variable {P : Program} {t e : TypeId} {i : TypeInfo} {z : Value} {size bytes : Nat}
theorem append_fresh (E : ElemOk P t e i z size bytes) (w : World) (ty : TypeId) (base : Nat) {v : Value} {n : Nat} {xs : List Value} (ho : w.ownsRow base e size v n xs) {ad : Addr} {m c : Nat} {news : List Value} (hl : news.length = m * size)
    (hn : ∀ j u, news[j]? = some u → w.cell? (ad.add j) = some u) (h1 : ∀ u ∈ news, u.oneCell' = true) (hm : n + m ≤ maxLen) (hz : (n + m) * bytes ≤ 140737488355328) (hB : base ≤ w.heap.size) :
    ∃ v' w', (Builtin.append_ #[t, t] ty #[v, .slice (some ad) m c]).run P w = .ok v' w' ∧ w'.ownsRow base e size v' (n + m) (xs ++ news) ∧ w.grownBy w' v.ownBlock ∧ Fresh w v v' := by
  obtain ⟨v', w', hr, h2, h3, _⟩ := run_append_own (P := P) w base t ty e i z size bytes E.ht E.hi E.hz E.hs E.hb E.hc E.hp v n xs ho ad m c news hl hn h1 hm hz hB
  refine ⟨v', w', hr, h2, h3, ?_⟩
  rcases ho.2 with ⟨rfl, rfl⟩ | ⟨g, cap, cur, rfl, _⟩
  · have hx : xs = [] := List.eq_nil_of_length_eq_zero (by simpa using ho.1)
    subst hx
    obtain ⟨v2, w2, hr2, h4, _⟩ := run_append_own (P := P) w w.heap.size t ty e i z size bytes E.ht E.hi E.hz E.hs E.hb E.hc E.hp _ 0 [] (World.ownsRow_nil _ _ _ _) ad m c news hl hn h1 hm hz (Nat.le_refl _)
    rw [hr] at hr2
    cases hr2
    exact .inr fun g hg => (h4.lt g hg).1
  · by_cases hroom : n + m ≤ cap
    · obtain ⟨w2, hr2, _⟩ := run_append_fits (P := P) (w := w) base t ty e i size E.ht E.hi E.hs g n cap xs ho ad m c news hl hn h1 hroom
      rw [hr] at hr2
      cases hr2
      exact .inl rfl
    · have holds : ∀ j u, xs[j]? = some u → w.cell? ((⟨g, 0, none⟩ : Addr).add j) = some u := ho.cells (g := g) rfl
      have hm2 : n + m ≤ 9223372036854775807 := by unfold maxLen at hm; omega
      have hr2 := run_append_grow (P := P) w t ty e i z E.ht E.hi E.hz ⟨g, 0, none⟩ n cap xs (by rw [E.hs]; exact ho.1) holds ad m c news (by rw [E.hs]; exact hl) hn (by omega) (by omega) (growslice_fits (by omega) (by rw [E.hb]; exact hz))
      rw [hr] at hr2
      cases hr2
      exact .inr fun g' hg => by cases hg; exact Nat.le_refl _

/-- The operation, for the walk. -/
theorem wpList_fresh (E : ElemOk P t e i z size bytes) (w : World) {ops : Array Oper} {rest : List Oper} {o : Oper} {a : Act} {Q : Exit → Act → World → Prop} (hgd : o.guard = none) (sl x : Operand)
    (hop : o.op = .call { callee := .builtin .append, args := #[sl, x], argTypes := #[t, t] }) (base : Nat) (v : Value) (n : Nat) (xs : List Value) (hs : a.eval sl = v) (ho : w.ownsRow base e size v n xs)
    (ad : Addr) (m c : Nat) (news : List Value) (hx : a.eval x = .slice (some ad) m c) (hl : news.length = m * size) (hn : ∀ j u, news[j]? = some u → w.cell? (ad.add j) = some u) (h1 : ∀ u ∈ news, u.oneCell' = true)
    (hm : n + m ≤ maxLen) (hz : (n + m) * bytes ≤ 140737488355328) (hB : base ≤ w.heap.size)
    (h : ∀ v' w', w'.ownsRow base e size v' (n + m) (xs ++ news) → w.grownBy w' v.ownBlock → Fresh w v v' → wpList P ops Q rest (a.put o.dst v') w') : wpList P ops Q (o :: rest) a w := by
  refine wpList_plain hgd fun K hK => ?_
  obtain ⟨v', w', hr, h2, h3, h4⟩ := append_fresh E w o.type base ho hl hn h1 hm hz hB
  unfold Oper.wp execOp
  simp only [hop, resolve, invoke, builtin, Sem.run_bind, Sem.run_pure, Result.andThen_ok, List.map_toArray, List.map_cons, List.map_nil, hs, hx]
  rw [hr]
  exact hK _ _ (h v' w' h2 h3 h4)
end

/-- Two rows of the call's own lie in two blocks. -/
def Apart2 (v u : Value) : Prop := ∀ g, v.ownBlock = some g → u.ownBlock ≠ some g
theorem Apart2.symm {v u : Value} (h : Apart2 v u) : Apart2 u v := fun g hg e => h g e hg
theorem Apart2.nil (u : Value) : Apart2 (.slice none 0 0) u := fun g hg => by cases hg
/-- The one has grown: they lie apart still, and the other is as it was. -/
theorem Apart2.fresh {w : World} {v v' u : Value} (h : Apart2 v u) (hf : Fresh w v v') (hu : ∀ g, u.ownBlock = some g → g < w.heap.size) : Apart2 v' u := fun g hg e => by
  rcases hf with hf | hf
  · exact h g (by rw [← hf]; exact hg) e
  · have := hf g hg
    have := hu g e
    omega
theorem Apart2.kept {w w' : World} {v u : Value} {base n size : Nat} {e : TypeId} {xs : List Value} (h : Apart2 v u) (ho : w.ownsRow base e size u n xs) (hg : w.grownBy w' v.ownBlock) : w'.ownsRow base e size u n xs := by
  refine ho.kept hg ?_
  cases hb : u.ownBlock with
  | none => exact .inl rfl
  | some g => exact .inr (fun e' => h g e'.symm hb)

end Go.Proofs.Ytaodjipnffgihaa

namespace Go.Proofs.Ytaodjipnffgihaa
open Go.RowKit

/-- What a row does: 1 it opens, 2 another part, 3 the last part, 4 it closes, 0 nothing. -/
def turnL (l : List UInt8) : Nat :=
  if l == [105, 102] then 1 else if l == [105, 102, 100, 101, 102] then 1 else if l == [105, 102, 110, 100, 101, 102] then 1 else if l == [101, 108, 105, 102] then 2 else if l == [101, 108, 115, 101] then 3 else if l == [101, 110, 100, 105, 102] then 4 else 0
def turnS (r : Rz) : Nat := if r.d then turnL r.nm.toList else 0
theorem turnS_le (r : Rz) : turnS r ≤ 4 := by
  unfold turnS turnL
  repeat (first | omega | split)

end Go.Proofs.Ytaodjipnffgihaa

namespace Go.Proofs.Ytaodjipnffgihaa
open Go.RowKit

theorem cell1_newS (w : World) (a : Value) (t : TypeId) : ∀ j u, [a][j]? = some u → (w.alloc (.cells #[a] t)).cell? ((⟨w.heap.size, 0, none⟩ : Addr).add j) = some u := by
  intro j u hj
  match j, hj with
  | 0, hj => simp at hj; subst hj; simp [Addr.add]
  | j + 1, hj => simp at hj
theorem bch2 {B : Nat} {a b c : World} (h : Below B a b) (h2 : Below b.heap.size b c) (hB : B ≤ b.heap.size) : Below B a c := h.trans (h2.mono hB)

theorem row_shapeD {w : World} {base : Nat} {e : TypeId} {z : Nat} {v : Value} {n : Nat} {xs : List Value} (h : w.ownsRow base e z v n xs) : ∃ a cap, v = .slice a n cap := row_shape h
theorem row_someD {w : World} {base n : Nat} {e : TypeId} {v : Value} {xs : List Value} (h : w.ownsRow base e 1 v (n + 1) xs) : ∃ g cap, v = .slice (some ⟨g, 0, none⟩) (n + 1) cap ∧ (∀ j u, xs[j]? = some u → w.cell? ⟨g, j, none⟩ = some u) := by
  obtain ⟨a, cap, rfl⟩ := row_shape h
  obtain ⟨g, rfl, _, hc⟩ := row_pos (Nat.succ_pos n) h
  exact ⟨g, cap, rfl, hc⟩

theorem row_cap {w : World} {base n z g cap : Nat} {e : TypeId} {xs : List Value} (h : w.ownsRow base e z (.slice (some ⟨g, 0, none⟩) n cap) n xs) : n ≤ cap := by
  rcases h.2 with ⟨h', _⟩ | ⟨g', cap', cur, h', _, _, hn, _⟩
  · cases h'
  · cases h'; exact hn

def intC (l : List Nat) : List Value := l.map fun (x : Nat) => Value.int .i64 x
theorem intC_app (a b : List Nat) : intC (a ++ b) = intC a ++ intC b := List.map_append ..
theorem intC_len (a : List Nat) : (intC a).length = a.length := List.length_map ..
theorem infoInt : (Try.prog.info? 3).map (fun i => (i.zero, i.size, i.bytes)) = some (some (.int .i64 0), 1, 8) := by kernel_rfl

/-- What a row does to the depths so far and what stands open. -/
def depStep (q : List Nat × List Nat) (k : Nat) : Option (List Nat × List Nat) :=
  if k = 0 then some (q.1 ++ [q.2.length], q.2)
  else if k = 1 then some (q.1 ++ [q.2.length], q.2 ++ [1])
  else match q.2.getLast? with
    | none => none
    | some x => if k < 4 ∧ x = 3 then none else some (q.1 ++ [q.2.length - 1], if k = 4 then q.2.dropLast else q.2.dropLast ++ [k])
def depFold (rs : List Rz) : Option (List Nat × List Nat) := rs.foldl (fun q r => q.bind fun p => depStep p (turnS r)) (some ([], []))
/-- The depths; none: the rows don't nest. -/
def depS (rs : List Rz) : Option (List Nat) := match depFold rs with
  | some (o, []) => some o
  | _ => none
theorem depFold_snoc {rs : List Rz} {k : Nat} {r : Rz} (h : rs[k]? = some r) : depFold (rs.take (k + 1)) = (depFold (rs.take k)).bind fun p => depStep p (turnS r) := by
  unfold depFold
  rw [List.take_add_one, h, List.foldl_append]; rfl
theorem fold_none (l : List Rz) : l.foldl (fun q r => q.bind fun p => depStep p (turnS r)) none = none := by
  induction l with
  | nil => rfl
  | cons r l ih => exact ih
theorem depFold_none {rs : List Rz} {k : Nat} (h : depFold (rs.take k) = none) : depS rs = none := by
  have : depFold rs = none := by
    rw [← List.take_append_drop k rs]
    unfold depFold at h ⊢
    rw [List.foldl_append, h]
    exact fold_none _
  unfold depS; rw [this]
theorem depS_open {rs : List Rz} {o l : List Nat} (h : depFold rs = some (o, l)) (hl : l ≠ []) : depS rs = none := by
  unfold depS
  rw [h]
  cases l with
  | nil => exact absurd rfl hl
  | cons x l => rfl
theorem depS_done {rs : List Rz} {o : List Nat} (h : depFold rs = some (o, [])) : depS rs = some o := by
  unfold depS; rw [h]
theorem step_last {o l0 : List Nat} {x k : Nat} (h : 1 < k) : depStep (o, l0 ++ [x]) k = if k < 4 ∧ x = 3 then none else some (o ++ [l0.length], if k = 4 then l0 else l0 ++ [k]) := by
  unfold depStep
  rw [if_neg (by omega), if_neg (by omega)]
  simp only [List.getLast?_append, List.getLast?_singleton, Option.some_or, List.length_append, List.length_cons, List.length_nil, List.dropLast_concat, Nat.zero_add, Nat.add_sub_cancel]
theorem rv2 {v : Value} {a c : Int} (h : a = c) : Ending.returned (.tuple #[v, .int .i64 a]) = .returned (.tuple #[v, .int .i64 c]) := by rw [h]
def depE (rs : List Rz) : Int := match depS rs with | some _ => 0 | none => 81
theorem depE_none {rs : List Rz} (h : depS rs = none) : depE rs = 81 := by unfold depE; rw [h]
theorem depE_some {rs : List Rz} {o : List Nat} (h : depS rs = some o) : depE rs = 0 := by unfold depE; rw [h]

end Go.Proofs.Ytaodjipnffgihaa

namespace Go.Proofs.Ytaodjipnffgihaa
open Go.RowKit

/-- Where a list of numbers can be read. -/
def IntsIn (W : World) (a : Option Addr) (xs : List Nat) : Prop := 0 < xs.length → ∃ b o, a = some ⟨b, o, none⟩ ∧ ∀ j x, xs[j]? = some x → W.cell? ⟨b, o + j, none⟩ = some (.int .i64 (x : Nat))
/-! ### What a row says -/
def bareL (r : Rz) : List Tz := (bareS r.ts).1
def saysS (r : Rz) : List Tz := if r.d then (if 0 < r.nm.size then (bareL r).drop 2 else (bareL r).drop 1) else bareL r
/-- A slice of tokens that can be read. -/
def TzIn (W : World) (a : Option Addr) (ts : List Tz) : Prop := ToksAt W W.heap.size a ts
theorem TzIn.below {W W' : World} {a : Option Addr} {ts : List Tz} (h : TzIn W a ts) (hb : Below W.heap.size W W') : TzIn W' a ts := (ToksAt.below h hb).mono hb.size

theorem TzAt.drop {W : World} {b o : Nat} {ts : List Tz} (h : TzAt W b o ts) (i : Nat) : TzAt W b (o + i * 5) (ts.drop i) := fun j t ht => by
  rw [List.getElem?_drop] at ht
  have := h (i + j) t ht
  have e : o + (i + j) * 5 = o + i * 5 + j * 5 := by omega
  rw [e] at this
  exact this
theorem row_cap2 {w : World} {base n z cap : Nat} {a : Option Addr} {e : TypeId} {xs : List Value} (h : w.ownsRow base e z (.slice a n cap) n xs) : n ≤ cap := by
  rcases h.2 with ⟨h', h0⟩ | ⟨g', cap', cur, h', _, _, hn, _⟩
  · cases h'; exact Nat.zero_le _
  · cases h'; exact hn
end Go.Proofs.Ytaodjipnffgihaa
