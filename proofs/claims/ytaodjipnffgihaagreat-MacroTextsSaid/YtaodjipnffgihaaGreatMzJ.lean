/- Several texts laid together. -/
import Derived.Test.YtaodjipnffgihaaGreatMzI
import Derived.Test.YtaodjipnffgihaaGreatMzF
import Derived.Outline
import Derived.Deep.LoopGhost
import Derived.StillTailTactics
import Derived.BigQuiet
import Derived.Deep.QuietTactic
import Derived.IntWalk
import Derived.WalkSmall
import Derived.RangeFuncNested
import Derived.Test.YtaodjipnffgihaaGreatMzG

namespace Go.Proofs.YtaodjipnffgihaaGreat
open Go.RowKit

theorem ownsRow_keepsT {W W' : World} {base z n : Nat} {T : TypeId} {v : Value} {xs : List Value} (h : W.ownsRow base T z v n xs) (hk : KeepsT T W W') : W'.ownsRow base T z v n xs :=
  ⟨h.1, h.2.elim .inl fun ⟨g, cap, cur, h1, h2, h3, h4⟩ => .inr ⟨g, cap, cur, h1, h2, hk g cur _ h3, h4⟩⟩
/-- A store into a block of another type. -/
theorem keepsT_other {T t : TypeId} {W : World} {B j : Nat} {c : Array Value} {fz : Nat × Nat} (hb : W.heap[B]? = some (.cells c t fz)) (hne : T ≠ t) (u : Value) : KeepsT T W (W.setCell ⟨B, j, none⟩ u) := fun k c' fz' hk => by
  have hkB : k ≠ B := fun e => by
    subst e
    rw [hb] at hk
    simp only [Option.some.injEq, Obj.cells.injEq] at hk
    exact hne hk.2.1.symm
  simp only [World.setCell, Array.getElem?_modify]
  rw [if_neg (fun e => hkB e.symm)]
  exact hk

/-- A list of rows that the call owns: each row's tokens are a row of the call's own. -/
def rzVals : List Rz → List Value → List Value
  | [], _ => []
  | _, [] => []
  | r :: rs, v :: vs => [.bool r.d, .string r.nm, v] ++ rzVals rs vs
theorem rzVals_snoc : ∀ (rs : List Rz) (vs : List Value) (r : Rz) (v : Value), rs.length = vs.length → rzVals (rs ++ [r]) (vs ++ [v]) = rzVals rs vs ++ [.bool r.d, .string r.nm, v]
  | [], [], r, v, _ => rfl
  | q :: rs, u :: vs, r, v, h => by
    simp only [List.length_cons, Nat.add_right_cancel_iff] at h
    rw [List.cons_append, List.cons_append, rzVals, rzVals, rzVals_snoc rs vs r v h]
    rfl
def TokOwn (W : World) (B : Nat) (v : Value) (ts : List Tz) : Prop := W.ownsRow B 83 5 v ts.length (tzCells ts)
structure OwnRz (W : World) (B : Nat) (v : Value) (rs : List Rz) (vs : List Value) : Prop where
  len : rs.length = vs.length
  row : W.ownsRow B 50 3 v rs.length (rzVals rs vs)
  ts : ∀ (i : Nat) (r : Rz) (u : Value), rs[i]? = some r → vs[i]? = some u → TokOwn W B u r.ts
theorem OwnRz.nil (W : World) (B : Nat) : OwnRz W B (.slice none 0 0) [] [] := ⟨rfl, World.ownsRow_nil _ _ _ _, fun i r u h _ => by simp at h⟩
theorem OwnRz.below {W W' : World} {B : Nat} {v : Value} {rs : List Rz} {vs : List Value} (h : OwnRz W B v rs vs) (hb : Below W.heap.size W W') : OwnRz W' B v rs vs :=
  ⟨h.len, row_below h.row hb, fun i r u h1 h2 => row_below (h.ts i r u h1 h2) hb⟩

theorem infoRow : (Tryz.prog.info? 50).map (fun i => (i.zero, i.size, i.bytes)) = some (some (.agg #[.bool false, .string ⟨#[]⟩, .slice none 0 0]), 3, 48) := by kernel_rfl
theorem cell3_new (w : World) (a b c : Value) (t : TypeId) : ∀ j u, [a, b, c][j]? = some u → (w.alloc (.cells #[a, b, c] t)).cell? ((⟨w.heap.size, 0, none⟩ : Addr).add j) = some u := by
  intro j u hj
  match j, hj with
  | 0, hj => simp at hj; subst hj; simp [Addr.add]
  | 1, hj => simp at hj; subst hj; simp [Addr.add]
  | 2, hj => simp at hj; subst hj; simp [Addr.add]
  | j + 3, hj => simp at hj

end Go.Proofs.YtaodjipnffgihaaGreat

namespace Go.Proofs.YtaodjipnffgihaaGreat
open Go.RowKit

theorem rzVals_get : ∀ {rs : List Rz} {vs : List Value} {i : Nat} {r : Rz} {v : Value}, rs[i]? = some r → vs[i]? = some v → (rzVals rs vs)[i * 3]? = some (.bool r.d) ∧ (rzVals rs vs)[i * 3 + 1]? = some (.string r.nm) ∧ (rzVals rs vs)[i * 3 + 2]? = some v
  | [], _, i, r, v, h, _ => by simp at h
  | _ :: _, [], i, r, v, _, h => by simp at h
  | q :: rs, u :: vs, 0, r, v, h, h2 => by
    simp only [List.getElem?_cons_zero, Option.some.injEq] at h h2
    subst h h2
    rw [rzVals]; exact ⟨rfl, rfl, rfl⟩
  | q :: rs, u :: vs, i + 1, r, v, h, h2 => by
    simp only [List.getElem?_cons_succ] at h h2
    obtain ⟨h3, h4, h5⟩ := rzVals_get h h2
    rw [rzVals]
    have e : ∀ j, ([Value.bool q.d, .string q.nm, u] ++ rzVals rs vs)[(i + 1) * 3 + j]? = (rzVals rs vs)[i * 3 + j]? := fun j => by
      rw [List.getElem?_append_right (by simp; omega)]
      congr 1
      simp; omega
    have e0 := e 0
    rw [Nat.add_zero, Nat.add_zero] at e0
    rw [e0, e 1, e 2]
    exact ⟨h3, h4, h5⟩

theorem TokOwn.at {W : World} {B : Nat} {v : Value} {ts : List Tz} (h : TokOwn W B v ts) : ∃ a cap, v = .slice a ts.length cap ∧ ToksAt W W.heap.size a ts := by
  obtain ⟨a, cap, rfl, h1, _, _⟩ := tz_shape rfl h
  refine ⟨a, cap, rfl, fun hp => ?_⟩
  obtain ⟨g, rfl, hg, hr⟩ := h1 hp
  exact ⟨g, 0, rfl, hg, hr.at⟩
theorem OwnRz.at {W : World} {B : Nat} {v : Value} {rs : List Rz} {vs : List Value} (h : OwnRz W B v rs vs) : ∃ a cap, v = .slice a rs.length cap ∧ (0 < rs.length → ∃ g, a = some ⟨g, 0, none⟩ ∧ B ≤ g ∧ g < W.heap.size ∧ RzAt W W.heap.size g 0 rs) := by
  obtain ⟨a, cap, rfl⟩ := row_shape h.row
  refine ⟨a, cap, rfl, fun hp => ?_⟩
  obtain ⟨g, rfl, hg, hc⟩ := row_pos hp h.row
  refine ⟨g, rfl, (h.row.lt g rfl).1, hg, fun i r hr => ?_⟩
  obtain ⟨u, hu⟩ : ∃ u, vs[i]? = some u := ⟨_, List.getElem?_eq_getElem (by rw [← h.len]; exact (List.getElem?_eq_some_iff.1 hr).1)⟩
  obtain ⟨h1, h2, h3⟩ := rzVals_get hr hu
  obtain ⟨a', cap', rfl, ht⟩ := (h.ts i r u hr hu).at
  rw [Nat.zero_add]
  exact ⟨hc _ _ h1, hc _ _ h2, a', cap', hc _ _ h3, ht⟩

/-- Where a list of rows can be read. -/
def RzIn (W : World) (a : Option Addr) (rs : List Rz) : Prop := 0 < rs.length → ∃ b o, a = some ⟨b, o, none⟩ ∧ b < W.heap.size ∧ RzAt W W.heap.size b o rs
theorem RzIn.below {W W' : World} {a : Option Addr} {rs : List Rz} (h : RzIn W a rs) (hb : Below W.heap.size W W') : RzIn W' a rs := fun hp => by
  obtain ⟨b, o, e, hlt, hr⟩ := h hp
  exact ⟨b, o, e, Nat.lt_of_lt_of_le hlt hb.size, (hr.below hb hlt).mono hb.size⟩

end Go.Proofs.YtaodjipnffgihaaGreat

namespace Go.Proofs.YtaodjipnffgihaaGreat
open Go.RowKit

/-- What a row does: 1 it opens, 2 another part, 3 the last part, 4 it closes, 0 nothing. -/
def turnL (l : List UInt8) : Nat :=
  if l == [105, 102] then 1 else if l == [105, 102, 100, 101, 102] then 1 else if l == [105, 102, 110, 100, 101, 102] then 1 else if l == [101, 108, 105, 102] then 2 else if l == [101, 108, 115, 101] then 3 else if l == [101, 110, 100, 105, 102] then 4 else 0
def turnS (r : Rz) : Nat := if r.d then turnL r.nm.toList else 0
end Go.Proofs.YtaodjipnffgihaaGreat

namespace Go.Proofs.YtaodjipnffgihaaGreat
open Go.RowKit

def intC (l : List Nat) : List Value := l.map fun (x : Nat) => Value.int .i64 x
/-- What a row does to the depths so far and what stands open. -/
def depStep (q : List Nat × List Nat) (k : Nat) : Option (List Nat × List Nat) :=
  if k = 0 then some (q.1 ++ [q.2.length], q.2)
  else if k = 1 then some (q.1 ++ [q.2.length], q.2 ++ [1])
  else match q.2.getLast? with
    | none => none
    | some x => if k < 4 ∧ x = 3 then none else some (q.1 ++ [q.2.length - 1], if k = 4 then q.2.dropLast else q.2.dropLast ++ [k])
def depFold (rs : List Rz) : Option (List Nat × List Nat) := rs.foldl (fun q r => q.bind fun p => depStep p (turnS r)) (some ([], []))
/-- The depths; none: the rows don't nest. -/
def depS (rs : List Rz) : Option (List Nat) := match depFold rs with
  | some (o, []) => some o
  | _ => none
def depE (rs : List Rz) : Int := match depS rs with | some _ => 0 | none => 81
end Go.Proofs.YtaodjipnffgihaaGreat

namespace Go.Proofs.YtaodjipnffgihaaGreat
open Go.RowKit

/-- Where a list of numbers can be read. -/
def IntsIn (W : World) (a : Option Addr) (xs : List Nat) : Prop := 0 < xs.length → ∃ b o, a = some ⟨b, o, none⟩ ∧ ∀ j x, xs[j]? = some x → W.cell? ⟨b, o + j, none⟩ = some (.int .i64 (x : Nat))
/-! ### What a row says -/
def bareL (r : Rz) : List Tz := (bareS r.ts).1
def saysS (r : Rz) : List Tz := if r.d then (if 0 < r.nm.size then (bareL r).drop 2 else (bareL r).drop 1) else bareL r
/-- A slice of tokens that can be read. -/
def TzIn (W : World) (a : Option Addr) (ts : List Tz) : Prop := ToksAt W W.heap.size a ts
theorem TzIn.below {W W' : World} {a : Option Addr} {ts : List Tz} (h : TzIn W a ts) (hb : Below W.heap.size W W') : TzIn W' a ts := (ToksAt.below h hb).mono hb.size

theorem TzAt.drop {W : World} {b o : Nat} {ts : List Tz} (h : TzAt W b o ts) (i : Nat) : TzAt W b (o + i * 5) (ts.drop i) := fun j t ht => by
  rw [List.getElem?_drop] at ht
  have := h (i + j) t ht
  have e : o + (i + j) * 5 = o + i * 5 + j * 5 := by omega
  rw [e] at this
  exact this
theorem row_cap2 {w : World} {base n z cap : Nat} {a : Option Addr} {e : TypeId} {xs : List Value} (h : w.ownsRow base e z (.slice a n cap) n xs) : n ≤ cap := by
  rcases h.2 with ⟨h', h0⟩ | ⟨g', cap', cur, h', _, _, hn, _⟩
  · cases h'; exact Nat.zero_le _
  · cases h'; exact hn
/-- regletref02.Bare, its row laid open, with room. -/
theorem rbare_own {ts bs : List Tz} {n m cap : Nat} {a : Option Addr} {w : World} (hbs : (bareS ts).1 = bs) (hm : bs.length = m) (hn : ts.length = n) (hn2 : n * 48 ≤ 140737488355328)
    (hT : 0 < n → ∃ b o, a = some ⟨b, o, none⟩ ∧ b < w.heap.size ∧ TzAt w b o ts) :
    Calls Tryz.prog 40 #[.slice a n cap] w fun e w' => (∃ a' cap', e = .returned (.slice a' m cap') ∧ m ≤ cap' ∧ (0 < m → ∃ g, a' = some ⟨g, 0, none⟩ ∧ g < w'.heap.size ∧ TzRow w' g bs)) ∧ Below w.heap.size w w' := by
  refine (rbare_any ts n cap a w hn hn2 hT).mono ?_
  rintro e w1 ⟨⟨v, rfl, hr⟩, hb⟩
  rw [hbs, hm] at hr
  obtain ⟨a', cap', rfl, h1, _, _⟩ := tz_shape hm hr
  exact ⟨⟨a', cap', rfl, row_cap2 hr, h1⟩, hb⟩

set_option maxRecDepth 100000 in
set_option maxHeartbeats 2000000 in
theorem rSays_any (r : Rz) (ta : Option Addr) (tcap : Nat) (w : World) (hl : r.ts.length * 48 ≤ 140737488355328) (ht : TzIn w ta r.ts) :
    Calls Tryz.prog 19 #[.agg #[.bool r.d, .string r.nm, .slice ta r.ts.length tcap]] w fun e w' => (∃ a' cap', e = .returned (.slice a' (saysS r).length cap') ∧ TzIn w' a' (saysS r)) ∧ Below w.heap.size w w' := by
  have hbw := below1 w (.cells #[.bool r.d, .string r.nm, .slice ta r.ts.length tcap] 50)
  have HB1 := rbare_own (ts := r.ts) (bs := bareL r) (cap := tcap) rfl rfl rfl hl (ht.below hbw)
  have hS : saysS r = if r.d then (if 0 < r.nm.size then (bareL r).drop 2 else (bareL r).drop 1) else bareL r := rfl
  have HS := Lib.hid hS
  have hk := mcells (w := w) (vs := #[.bool r.d, .string r.nm, .slice ta r.ts.length tcap]) (t := 50)
  have k0 := hk 0 _ rfl
  have k1 := hk 1 _ rfl
  have hwz : w.heap.size < (w.alloc (.cells #[.bool r.d, .string r.nm, .slice ta r.ts.length tcap] 50)).heap.size := by simp
  obtain ⟨S, hSS⟩ : ∃ S, saysS r = S := ⟨_, rfl⟩
  obtain ⟨L, hLL⟩ : ∃ L, bareL r = L := ⟨_, rfl⟩
  rw [hLL] at HB1 HS
  rw [hSS] at HS ⊢
  have hLs : L.length ≤ 140737488355328 := by
    rw [← hLL]
    have := bareS_len r.ts
    unfold bareL
    omega
  clear hS hSS hLL ht hk
  obtain ⟨d, nm, ts⟩ := r
  simp only at HB1 HS hl hbw k0 k1 hwz ⊢
  cases d
  · have HS2 : Hid (S = L) := HS
    go_enter Tryz.func19, Tryz.ntmps19
    go_wp2_with fail
    refine HB1.mono ?_
    rintro e w1 ⟨⟨a', cap', rfl, hcap, hrow⟩, hb1⟩
    have hB := hbw.trans (hb1.mono hbw.size)
    have k0' := (hb1.cell (p := ⟨w.heap.size, 0, none⟩) hwz).trans k0
    clear k0 k1
    go_wp2
    go_ret
    rw [HS2.out]
    exact ⟨⟨a', cap', rfl, fun hp => by obtain ⟨g, e, hg, hr⟩ := hrow hp; exact ⟨g, 0, e, hg, hr.at⟩⟩, hB⟩
  · have HS2 : Hid (S = if 0 < nm.size then L.drop 2 else L.drop 1) := HS
    clear HS
    rcases Nat.eq_zero_or_pos L.length with hL0 | hLp
    · have hLn : L = [] := List.length_eq_zero_iff.1 hL0
      have HS3 : Hid (S = []) := Lib.hid (by rw [HS2.out, hLn]; simp)
      subst hLn
      clear HS2 hL0
      go_enter Tryz.func19, Tryz.ntmps19
      go_wp2_with fail
      refine HB1.mono ?_
      rintro e w1 ⟨⟨a', cap', rfl, hcap, hrow⟩, hb1⟩
      have hB := hbw.trans (hb1.mono hbw.size)
      have k0' := (hb1.cell (p := ⟨w.heap.size, 0, none⟩) hwz).trans k0
      clear k0 k1
      go_wp2
      go_ret
      rw [HS3.out]
      exact ⟨⟨a', cap', rfl, fun hp => absurd hp (Nat.lt_irrefl 0)⟩, hB⟩
    · obtain ⟨m, hm⟩ : ∃ m, L.length = m + 1 := ⟨L.length - 1, by omega⟩
      by_cases hnm : 0 < nm.size
      · have b1 : (0 : Int) < (nm.size : Int) := by omega
        have HS3 : Hid (S = L.drop 2) := Lib.hid (by rw [HS2.out, if_pos hnm])
        cases m with
        | zero =>
          have HSm : Hid (S = []) := Lib.hid (by rw [HS3.out, List.drop_eq_nil_of_le (by omega)])
          rw [hm] at HB1
          clear HS2 HS3 hm hLp
          go_enter Tryz.func19, Tryz.ntmps19
          go_wp2_with fail
          refine HB1.mono ?_
          rintro e w1 ⟨⟨a', cap', rfl, hcap, hrow⟩, hb1⟩
          obtain ⟨g, rfl, hg, hr⟩ := hrow (Nat.succ_pos _)
          have hB := hbw.trans (hb1.mono hbw.size)
          have k0' := (hb1.cell (p := ⟨w.heap.size, 0, none⟩) hwz).trans k0
          have k1' := (hb1.cell (p := ⟨w.heap.size, 1, none⟩) hwz).trans k1
          have hrA := Lib.hid hr.at
          clear k0 k1 hr
          have i2 : (1 : Int) ≤ (cap' : Int) := by omega
          go_wp2
          all_goals
            go_ret
            rw [HSm.out]
            exact ⟨⟨_, ⟨_, rfl⟩, fun hp => absurd hp (Nat.lt_irrefl 0)⟩, hB⟩
        | succ j =>
          have HSm : Hid (S.length = j) := Lib.hid (by rw [HS3.out, List.length_drop]; omega)
          rw [hm] at HB1
          clear HS2 hm hLp
          go_enter Tryz.func19, Tryz.ntmps19
          go_wp2_with fail
          refine HB1.mono ?_
          rintro e w1 ⟨⟨a', cap', rfl, hcap, hrow⟩, hb1⟩
          obtain ⟨g, rfl, hg, hr⟩ := hrow (Nat.succ_pos _)
          have hB := hbw.trans (hb1.mono hbw.size)
          have k0' := (hb1.cell (p := ⟨w.heap.size, 0, none⟩) hwz).trans k0
          have k1' := (hb1.cell (p := ⟨w.heap.size, 1, none⟩) hwz).trans k1
          have hrA := Lib.hid hr.at
          clear k0 k1 hr
          have i1 : (1 : Int) ≤ (j : Int) + 1 + 1 := by omega
          have i2 : (j : Int) + 1 + 1 ≤ (cap' : Int) := by omega
          have i3 : (0 : Int) < (j : Int) + 1 + 1 := by omega
          have i4 : (1 : Int) ≤ (j : Int) + 1 := by omega
          have i5 : (0 : Int) < (j : Int) + 1 := by omega
          have HT2 : Hid (TzIn w1 (some ⟨g, 10, none⟩) S) := Lib.hid (fun _ => ⟨g, 10, rfl, hg, by rw [HS3.out]; exact hrA.out.drop 2⟩)
          go_wp2
          all_goals
            go_ret
            have eS := HSm.out
            rw [eS]
            first
              | exact ⟨⟨_, ⟨_, rfl⟩, HT2.out⟩, hB⟩
              | exact ⟨⟨_, ⟨_, rfl⟩, fun hp => absurd hp (by rw [eS]; omega)⟩, hB⟩
      · have b1 : ¬ (0 : Int) < (nm.size : Int) := by omega
        have HS3 : Hid (S = L.drop 1) := Lib.hid (by rw [HS2.out, if_neg hnm])
        have HSm : Hid (S.length = m) := Lib.hid (by rw [HS3.out, List.length_drop]; omega)
        rw [hm] at HB1
        clear HS2 hm hLp
        go_enter Tryz.func19, Tryz.ntmps19
        go_wp2_with fail
        refine HB1.mono ?_
        rintro e w1 ⟨⟨a', cap', rfl, hcap, hrow⟩, hb1⟩
        obtain ⟨g, rfl, hg, hr⟩ := hrow (Nat.succ_pos _)
        have hB := hbw.trans (hb1.mono hbw.size)
        have k0' := (hb1.cell (p := ⟨w.heap.size, 0, none⟩) hwz).trans k0
        have k1' := (hb1.cell (p := ⟨w.heap.size, 1, none⟩) hwz).trans k1
        have hrA := Lib.hid hr.at
        clear k0 k1 hr
        have i1 : (1 : Int) ≤ (m : Int) + 1 := by omega
        have i2 : (m : Int) + 1 ≤ (cap' : Int) := by omega
        have i3 : (0 : Int) < (m : Int) + 1 := by omega
        have HT1 : Hid (TzIn w1 (some ⟨g, 5, none⟩) S) := Lib.hid (fun _ => ⟨g, 5, rfl, hg, by rw [HS3.out]; exact hrA.out.drop 1⟩)
        go_wp2
        all_goals
          go_ret
          have eS := HSm.out
          rw [eS]
          first
            | exact ⟨⟨_, ⟨_, rfl⟩, HT1.out⟩, hB⟩
            | exact ⟨⟨_, ⟨_, rfl⟩, fun hp => absurd hp (by rw [eS]; omega)⟩, hB⟩

end Go.Proofs.YtaodjipnffgihaaGreat

namespace Go.Proofs.YtaodjipnffgihaaGreat
open Go Go.RowKit

variable {F : Fence} {n : Nat} {P : Program}

/-- The promise of an iterator that tells, at each thing, what it knows of the things ahead of it. -/
def SeqStopsP {α : Type} (F : Fence) (n : Nat) (P : Program) (g : Nat) (lb : Array Value) (encs : α → Array Value) (Kp : World → World → Prop) (S Sp : List α → Prop) (Pm : List α → α → Prop) (w : World) : Prop :=
  ∀ (l : Nat) (J Jx : List α → World → Prop) (W : World), Below w.heap.size w W → AbidesFrom W.heap.size J → AbidesFrom W.heap.size Jx →
    (∀ pre x W1, J pre W1 → Pm pre x → YieldAt F (n - 1) P l (encs x) W1 fun e W' =>
      (e = .returned (.bool true) ∧ J (pre ++ [x]) W' ∧ Kp W1 W') ∨ (e = .returned (.bool false) ∧ Jx (pre ++ [x]) W')) →
    J [] W →
    CallsIn F n P g (#[.func (.yield l) #[] #[]] ++ lb) W fun e W' => (∃ v, e = .returned v) ∧ ((∃ xs, S xs ∧ J xs W') ∨ (∃ pre, Sp pre ∧ Jx pre W'))

/-- How the body of such a round may be left: Y is the world of the handing over. -/
def roundPostP {α : Type} (B : Nat) (Kp : World → World → Prop) (I : List α → World → Prop) (Ix : Code → List α → World → Prop) (xs : List α) (Y W : World) : Exit → Act → World → Prop :=
  ownPostG B (fun _ W' => Kp Y W') I Ix xs W

theorem wpIn_range_told {α : Type} {g : Operand} {ps : Array Tmp} {assign body : Code} {Q : Exit → Act → World → Prop} {a : Act} {w : World}
    (hround : F.round = none) (hn : 1 ≤ n) {gf : Nat} {lb : Array Value} (hg : a.eval g = .func (.func gf) #[] lb) (hF : F.fn gf) (hent : ∀ args w, (callFunc gf args).run P w = .ok (.enter gf args) w)
    {encs : α → Array Value} {Kp : World → World → Prop} {S Sp : List α → Prop} {Pm : List α → α → Prop} {w0 : World} (hseq : SeqStopsP F (n - 1) P gf lb encs Kp S Sp Pm w0)
    (hKp : ∀ (Y W : World) (l : Nat) (o o' : Obj), w.heap.size ≤ l → W.heap[l]? = some o → o.isCells = false → Kp Y W → Kp Y (W.putObj l o')) (hb0 : Below w0.heap.size w0 w) (hps : ∀ x, (encs x).size = ps.size)
    (I : List α → World → Prop) (Ix : Code → List α → World → Prop) (hI : OwnFrom w.heap.size I) (hIx : ∀ c, OwnFrom w.heap.size (Ix c)) (h0 : I [] w)
    (Ax : α → World → Act → World → Prop) (hAx : ∀ x Y a', OwnFrom w.heap.size (fun (_ : Unit) W => Ax x Y a' W))
    (hassign : ∀ (l : Nat) (pre : List α) (x : α) (Y : World) (K : Act → World → Prop), I pre Y → (∀ a' W', KeepsFrom w.heap.size Y W' → I pre W' → Ax x Y a' W' → K a' W') →
      assign.wpIn (F.inRound l) (n - 1 - 1) P (Exit.then K (fun _ _ _ => False)) { tmps := (ps.zip (encs x)).foldl (fun t (p, v) => t.setIfInBounds p v) a.tmps, defers := [] } Y)
    (hbody : ∀ (l : Nat) (pre : List α) (x : α) (Y : World) (a' : Act) (W : World), w.heap.size ≤ l → (∃ r, W.heap[l]? = some (.loop r)) → I pre W → Ax x Y a' W → Pm pre x →
      body.wpIn (F.inRound l) (n - 1 - 1) P (roundPostP w.heap.size Kp I Ix (pre ++ [x]) Y W) a' W)
    (hdone : ∀ (D : Nat) (xs : List α) (W : World), w.heap.size ≤ D → S xs → I xs W → W.heap[D]? = some (.deferred (some [])) → Q .normal { a with defers := { target := .collected D, args := #[] } :: a.defers } W)
    (hstop : ∀ (D : Nat) (c : Code) (pre : List α) (W : World), w.heap.size ≤ D → Sp pre → Ix c pre W → W.heap[D]? = some (.deferred (some [])) → c.wpIn F n P Q { a with defers := { target := .collected D, args := #[] } :: a.defers } W) :
    (Code.rangeFunc g ps assign body).wpIn F n P Q a w := by
  refine wpIn_rangeFunc fun fn hfn => ?_
  rw [hround]
  -- the two blocks that the loop lays: D for what is deferred, D + 1 for its record
  let D := w.heap.size
  have hD : D = w.heap.size := rfl
  obtain ⟨rec, hrec⟩ : ∃ rec : LoopState → Option Code → Loop, rec = fun st pe => { state := st, pending := pe, fn, tmps := a.tmps, params := ps, assign, body, defers := D } := ⟨_, rfl⟩
  obtain ⟨V, hV⟩ : ∃ V, (w.alloc (.deferred (some []))).alloc (.loop (rec .ready none)) = V := ⟨_, rfl⟩
  have lV : V.heap[D + 1]? = some (.loop (rec .ready none)) := by
    have := World.alloc_heap_new (w.alloc (.deferred (some []))) (.loop (rec .ready none))
    rw [World.size_alloc] at this
    rw [← hV]; exact this
  have dV : V.heap[D]? = some (.deferred (some [])) := by
    rw [← hV]; exact (Below.heap_alloc _ _ _ (by simp [hD])).trans (World.alloc_heap_new w _)
  have sV : V.heap.size = D + 2 := by rw [← hV]; simp [hD]
  have bV : Below w0.heap.size w0 V := by
    rw [← hV]; exact hb0.trans ((((Below.refl _ w).alloc (Nat.le_refl _) _).alloc (by simp) _).mono hb0.size)
  have iV : I [] V := by rw [← hV]; exact hI.alloc _ (hI.alloc _ h0)
  -- an abiding thing and the two blocks, behind a growth that the iterator may make
  have keep : ∀ (A B : World) (row : Option Nat), A.grownBy B row → (∀ r, row = some r → V.heap.size ≤ r ∧ ∃ o : Obj, A.heap[r]? = some o ∧ o.isWalk = true) →
      (∀ r, row = some r → w.heap.size ≤ r ∧ ∃ o : Obj, A.heap[r]? = some o ∧ o.isCells = false) := fun A B row _ hr r e => by
    obtain ⟨h1, o, h2, h3⟩ := hr r e
    exact ⟨by omega, o, h2, Obj.not_cells_of_walk h3⟩
  refine ⟨D + 1, [{ target := .collected D, args := #[] }], V, { target := .fn (.func gf) lb, args := #[.func (.yield (D + 1)) #[] #[]] }, V, gf, #[.func (.yield (D + 1)) #[] #[]] ++ lb, V, ?_, ?_, ?_, ?_, fun _ => hn, ?_⟩
  · rw [← hV, hrec]; exact run_enterLoop_outer _ _ _ _ _
  · simp only [resolve, hg]
    simp [go_sem]
  · intro f' hf'
    simp [Target.leads] at hf'
    subst hf'
    exact hF
  · simp [invoke, go_sem, hent]
  refine (hseq (D + 1)
    (fun pre W => I pre W ∧ W.heap[D + 1]? = some (.loop (rec .ready none)) ∧ W.heap[D]? = some (.deferred (some [])))
    (fun pre W => ∃ c, Ix c pre W ∧ W.heap[D + 1]? = some (.loop (rec .done (some c))) ∧ W.heap[D]? = some (.deferred (some []))) V bV
    (fun s A B row hs hg' hr => ⟨hI s A B row hs.1 hg' (keep A B row hg' hr), (grownBy_keeps hg' (fun r e => (hr r e).2) hs.2.1 rfl).trans hs.2.1, (grownBy_keeps hg' (fun r e => (hr r e).2) hs.2.2 rfl).trans hs.2.2⟩)
    (fun s A B row hs hg' hr => by
      obtain ⟨c, h1, h2, h3⟩ := hs
      exact ⟨c, hIx c s A B row h1 hg' (keep A B row hg' hr), (grownBy_keeps hg' (fun r e => (hr r e).2) h2 rfl).trans h2, (grownBy_keeps hg' (fun r e => (hr r e).2) h3 rfl).trans h3⟩)
    ?round ⟨iV, lV, dV⟩).mono ?behind
  case behind =>
    rintro e W2 ⟨⟨v, rfl⟩, ⟨xs, hS, hi, hl, hk⟩ | ⟨pre, hSp, c, hi, hl, hk⟩⟩
    · have hr := run_endLoop (P := P) hl (by rw [hrec]; simp)
      rw [hrec] at hr
      exact ⟨none, _, hr, hdone D xs _ (Nat.le_refl _) hS (hI.putObj _ hi (by omega) hl rfl) ((World.putObj_heap_other (by omega)).trans hk)⟩
    · have hr := run_endLoop (P := P) hl (by rw [hrec]; simp)
      rw [hrec] at hr
      exact ⟨some c, _, hr, hstop D c pre _ (Nat.le_refl _) hSp ((hIx c).putObj _ hi (by omega) hl rfl) ((World.putObj_heap_other (by omega)).trans hk)⟩
  case round =>
    rintro pre x Y ⟨iY, lY, dY⟩ hlen
    have hy := run_yield (P := P) (args := encs x) lY (by rw [hrec]; exact hps x)
    rw [hrec] at hy
    refine ⟨fn, _, assign, body, hy, roundIn_of_wpIn hfn (hassign _ pre x Y _ iY ?_)⟩
    intro a' A hkA iA axA
    have lA := hkA.same _ _ (by omega) lY rfl
    have dA := hkA.same _ _ (Nat.le_refl _) dY rfl
    have sA : D + 1 < A.heap.size := (Array.getElem?_eq_some_iff.1 lA).1
    refine ⟨_, run_beginRound lA (by rw [hrec]), ?_⟩
    obtain ⟨Bz, hBz⟩ : ∃ Bz, A.putObj (D + 1) (.loop { rec .ready none with state := .busy }) = Bz := ⟨_, rfl⟩
    have lB : Bz.heap[D + 1]? = some (.loop { rec .ready none with state := .busy }) := by rw [← hBz]; exact World.putObj_heap_same sA
    have dB : Bz.heap[D]? = some (.deferred (some [])) := by rw [← hBz]; exact (World.putObj_heap_other (by omega)).trans dA
    have iB : I pre Bz := by rw [← hBz]; exact hI.putObj _ iA (by omega) lA rfl
    have axB : Ax x Y a' Bz := by rw [← hBz]; exact (hAx x Y a').putObj (s := ()) _ axA (by omega) lA rfl
    rw [hBz]
    refine wpIn_mono (hbody _ pre x Y a' Bz (by omega) ⟨_, lB⟩ iB axB hlen) ?_
    have fin : ∀ (jump : Option Code) (C : World), KeepsFrom w.heap.size Bz C →
        (Instr.endRound (D + 1) jump).run P C = .ok (.bool jump.isNone) (C.putObj (D + 1) (.loop (rec (if jump.isNone then .ready else .done) jump))) ∧
        C.heap[D + 1]? = some (.loop { rec .ready none with state := .busy }) ∧
        (C.putObj (D + 1) (.loop (rec (if jump.isNone then .ready else .done) jump))).heap[D + 1]? = some (.loop (rec (if jump.isNone then .ready else .done) jump)) ∧
        (C.putObj (D + 1) (.loop (rec (if jump.isNone then .ready else .done) jump))).heap[D]? = some (.deferred (some [])) := fun jump C hC => by
      have lC := hC.same _ _ (by omega) lB rfl
      have hr := run_endRound (P := P) jump lC
      rw [hrec] at hr lC ⊢
      exact ⟨hr, lC, World.putObj_heap_same (Array.getElem?_eq_some_iff.1 lC).1, (World.putObj_heap_other (by omega)).trans (hC.same _ _ (Nat.le_refl _) dB rfl)⟩
    rintro e a3 C hp
    have left : ∀ c, KeepsFrom w.heap.size Bz C → Ix c (pre ++ [x]) C → ∃ c', Ix c' (pre ++ [x]) (C.putObj (D + 1) (.loop (rec .done (some c)))) ∧ (C.putObj (D + 1) (.loop (rec .done (some c)))).heap[D + 1]? = some (.loop (rec .done (some c'))) ∧ (C.putObj (D + 1) (.loop (rec .done (some c)))).heap[D]? = some (.deferred (some [])) := fun c hk hi => by
      obtain ⟨_, h2, h3, h4⟩ := fin (some c) C hk
      exact ⟨c, (hIx _).putObj _ hi (by omega) h2 rfl, h3, h4⟩
    cases e with
    | normal =>
      obtain ⟨hk, hkp, hi⟩ := hp
      obtain ⟨hr, h2, h3, h4⟩ := fin none C hk
      exact ⟨_, _, hr, .inl ⟨rfl, ⟨hI.putObj _ hi (by omega) h2 rfl, h3, h4⟩, hKp _ _ _ _ _ (by omega) h2 rfl hkp⟩⟩
    | ret => exact ⟨_, _, (fin (some .ret) C hp.1).1, .inr ⟨rfl, left .ret hp.1 hp.2⟩⟩
    | exit id => exact ⟨_, _, (fin (some (.exit id)) C hp.1).1, .inr ⟨rfl, left (.exit id) hp.1 hp.2⟩⟩
    | goto t => exact ⟨_, _, (fin (some (.goto t)) C hp.1).1, .inr ⟨rfl, left (.goto t) hp.1 hp.2⟩⟩
    | panic ch => exact hp.elim
    | outgrown => exact hp.elim

end Go.Proofs.YtaodjipnffgihaaGreat

namespace Go.Proofs.YtaodjipnffgihaaGreat

/-- A line: where it begins, its tokens. -/
structure Ln where
  f : Nat
  l : List Tz
def lnsFrom : Nat → List (List Tz) → List Ln
  | _, [] => []
  | f, l :: ls => ⟨f, l⟩ :: lnsFrom (f + l.length) ls
def lnsAll (ts : List Tz) : List Ln := lnsFrom 0 (linesS ts)
abbrev Lt (ts : List Tz) := { x : Ln // x ∈ lnsAll ts }
def lts (ts : List Tz) : List (Lt ts) := (lnsAll ts).attach
theorem lts_val (ts : List Tz) : (lts ts).map (·.1) = lnsAll ts := by unfold lts; exact List.attach_map_subtype_val _
theorem lnsFrom_val : ∀ (f : Nat) (ls : List (List Tz)), (lnsFrom f ls).map (·.l) = ls
  | _, [] => rfl
  | f, l :: ls => by rw [lnsFrom, List.map_cons, lnsFrom_val]
/-- A line stands where it begins, and is not empty. -/
theorem lnsFrom_in : ∀ (ls : List (List Tz)) (f : Nat) (pre : List Tz), pre.length = f → (∀ l ∈ ls, l ≠ []) → ∀ x ∈ lnsFrom f ls, 0 < x.l.length ∧ ((pre ++ ls.flatten).drop x.f).take x.l.length = x.l ∧ x.f + x.l.length ≤ (pre ++ ls.flatten).length
  | [], _, _, _, _, x, h => by cases h
  | l :: ls, f, pre, hp, hn, x, h => by
    rw [lnsFrom] at h
    rcases List.mem_cons.1 h with rfl | h
    · refine ⟨List.length_pos_iff.2 (hn l List.mem_cons_self), ?_, ?_⟩
      · rw [List.drop_left' hp, List.flatten_cons, List.take_left' rfl]
      · rw [List.length_append, List.flatten_cons, List.length_append]; simp only; omega
    · have := lnsFrom_in ls (f + l.length) (pre ++ l) (by rw [List.length_append, hp]) (fun q hq => hn q (List.mem_cons_of_mem _ hq)) x h
      rw [List.append_assoc, ← List.flatten_cons] at this
      exact this
theorem linesF_flat : ∀ ts : List Tz, (linesS ts).flatten = ts
  | [] => rfl
  | t :: r => by
    have ih := linesF_flat r
    rw [linesS]
    split
    · rw [List.flatten_cons, ih]; rfl
    · cases h : linesS r with
      | nil => rw [h] at ih; rw [← ih]; rfl
      | cons l ls => rw [h] at ih; rw [← ih]; rfl
theorem linesF_ne : ∀ (ts : List Tz), ∀ l ∈ linesS ts, l ≠ []
  | [], l, h => by cases h
  | t :: r, l, h => by
    have ih := linesF_ne r
    rw [linesS] at h
    split at h
    · rcases List.mem_cons.1 h with rfl | h
      · simp
      · exact ih l h
    · cases hr : linesS r with
      | nil =>
        rw [hr] at h
        obtain rfl : l = [t] := by simpa using h
        simp
      | cons a ls =>
        rw [hr] at h ih
        rcases List.mem_cons.1 h with rfl | h
        · simp
        · exact ih l (List.mem_cons_of_mem _ h)
theorem ln_in {ts : List Tz} (x : Lt ts) : 0 < x.1.l.length ∧ (ts.drop x.1.f).take x.1.l.length = x.1.l ∧ x.1.f + x.1.l.length ≤ ts.length := by
  have h := lnsFrom_in (linesS ts) 0 [] rfl (linesF_ne ts) x.1 x.2
  rw [List.nil_append, linesF_flat] at h
  exact h

/-- How far the iterator is: the lines handed over, those to come; a line has begun at f. -/
structure LnAt (ts : List Tz) (f k : Nat) (pre rest : List (Lt ts)) : Prop where
  fk : f ≤ k
  le : k ≤ ts.length
  all : lts ts = pre ++ rest
  nl : noNl ((ts.drop f).take (k - f))
  eq : rest.map (·.1) = lnsFrom f (linesS (ts.drop f))
theorem LnAt.start (ts : List Tz) : LnAt ts 0 0 [] (lts ts) := ⟨Nat.le_refl _, Nat.zero_le _, rfl, (fun t h => by simp at h), lts_val ts⟩
theorem seg_snoc {ts : List Tz} {f k : Nat} {t : Tz} (hf : f ≤ k) (ht : ts[k]? = some t) : (ts.drop f).take (k + 1 - f) = (ts.drop f).take (k - f) ++ [t] := by
  rw [show k + 1 - f = k - f + 1 by omega, List.take_add_one, List.getElem?_drop, show f + (k - f) = k by omega, ht]; rfl
theorem LnAt.skip {ts : List Tz} {f k : Nat} {pre rest : List (Lt ts)} {t : Tz} (h : LnAt ts f k pre rest) (ht : ts[k]? = some t) (h9 : (t.k == 9) = false) : LnAt ts f (k + 1) pre rest := by
  have hlt := (List.getElem?_eq_some_iff.1 ht).1
  refine ⟨Nat.le_succ_of_le h.fk, hlt, h.all, fun u hu => ?_, h.eq⟩
  rw [seg_snoc h.fk ht] at hu
  rcases List.mem_append.1 hu with hu | hu
  · exact h.nl u hu
  · rw [List.mem_singleton] at hu; rw [hu]; exact h9
theorem LnAt.line {ts : List Tz} {f k : Nat} {pre rest : List (Lt ts)} {t : Tz} (h : LnAt ts f k pre rest) (ht : ts[k]? = some t) (h9 : (t.k == 9) = true) :
    ∃ (x : Lt ts) (r : List (Lt ts)), rest = x :: r ∧ x.1.f = f ∧ x.1.l.length = k + 1 - f ∧ LnAt ts (k + 1) (k + 1) (pre ++ [x]) r := by
  have hlt := (List.getElem?_eq_some_iff.1 ht).1
  have hd : ts.drop f = (ts.drop f).take (k - f) ++ t :: ts.drop (k + 1) := by
    have h1 := (List.take_append_drop (k - f) (ts.drop f)).symm
    rw [List.drop_drop, show f + (k - f) = k by have := h.fk; omega] at h1
    rw [List.drop_eq_getElem_cons hlt, (List.getElem?_eq_some_iff.1 ht).2] at h1
    exact h1
  have heq := h.eq
  rw [hd, linesS_cut _ h.nl h9, lnsFrom] at heq
  cases rest with
  | nil => simp at heq
  | cons x r =>
    rw [List.map_cons, List.cons.injEq] at heq
    have hlen : ((ts.drop f).take (k - f) ++ [t]).length = k + 1 - f := by
      have := h.fk
      rw [List.length_append, List.length_take, List.length_drop, List.length_singleton]; omega
    refine ⟨x, r, rfl, by rw [heq.1], by rw [heq.1]; exact hlen, Nat.le_refl _, hlt, by rw [h.all]; simp, (fun u hu => by simp at hu), ?_⟩
    rw [heq.2, hlen, show f + (k + 1 - f) = k + 1 by have := h.fk; omega]
theorem LnAt.tail {ts : List Tz} {f : Nat} {pre rest : List (Lt ts)} (h : LnAt ts f ts.length pre rest) (hf : f < ts.length) :
    ∃ x : Lt ts, rest = [x] ∧ x.1.f = f ∧ x.1.l.length = ts.length - f ∧ lts ts = pre ++ [x] := by
  have hnl := h.nl
  rw [List.take_of_length_le (by rw [List.length_drop]; exact Nat.le_refl _)] at hnl
  have heq := h.eq
  rw [linesS_rest hnl (by intro e; have := congrArg List.length e; rw [List.length_drop] at this; simp at this; omega)] at heq
  rw [lnsFrom, lnsFrom] at heq
  cases rest with
  | nil => simp at heq
  | cons x r =>
    rw [List.map_cons, List.cons.injEq] at heq
    obtain ⟨h1, h2⟩ := heq
    obtain rfl : r = [] := List.map_eq_nil_iff.1 h2
    exact ⟨x, rfl, by rw [h1], by rw [h1]; simp, h.all⟩
theorem LnAt.none {ts : List Tz} {f : Nat} {pre rest : List (Lt ts)} (h : LnAt ts f ts.length pre rest) (hf : ¬ f < ts.length) : lts ts = pre := by
  have heq := h.eq
  rw [List.drop_eq_nil_of_le (by omega)] at heq
  rw [h.all]
  cases rest with
  | nil => simp
  | cons x r => simp [linesS, lnsFrom] at heq

/-- What the caller's rounds know: the things ahead. -/
def LnPm (ts : List Tz) (pre : List (Lt ts)) (x : Lt ts) : Prop := (pre ++ [x]) <+: lts ts
/-- The rows of the lines so far. -/
def rowsP {ts : List Tz} (pre : List (Lt ts)) : List Rz := (pre.map fun x => x.1.l).foldl addLine []
theorem rowsP_snoc {ts : List Tz} (pre : List (Lt ts)) (x : Lt ts) : rowsP (pre ++ [x]) = addLine (rowsP pre) x.1.l := by
  unfold rowsP; rw [List.map_append, List.foldl_append]; rfl
theorem rowsP_all (ts : List Tz) : rowsP (lts ts) = rowsS ts := by
  unfold rowsP rowsS
  rw [show (lts ts).map (fun x => x.1.l) = ((lts ts).map (·.1)).map (·.l) by rw [List.map_map]; rfl, lts_val]
  unfold lnsAll
  rw [lnsFrom_val]
theorem toksN_lines : ∀ (ls : List (List Tz)) (o : List Rz), toksN (ls.foldl addLine o) = toksN o + ls.flatten.length
  | [], o => by simp
  | l :: ls, o => by
    rw [List.foldl_cons, toksN_lines ls, List.flatten_cons, List.length_append]
    unfold addLine
    rw [addRow_toks]
    unfold rowOf
    simp only
    omega
theorem lines_len : ∀ (ls : List (List Tz)) (o : List Rz), (ls.foldl addLine o).length ≤ o.length + ls.length
  | [], o => Nat.le_refl _
  | l :: ls, o => by
    rw [List.foldl_cons]
    refine Nat.le_trans (lines_len ls _) ?_
    have := addRow_len o (rowOf l)
    unfold addLine
    rw [List.length_cons]; omega
/-- The rows so far and the line at hand hold no more tokens than the list. -/
theorem rowsP_fits {ts : List Tz} {pre : List (Lt ts)} {x : Lt ts} (h : LnPm ts pre x) : toksN (rowsP pre) + x.1.l.length ≤ ts.length ∧ (rowsP pre).length < ts.length := by
  obtain ⟨r, hr⟩ := h
  have hf := linesF_flat ts
  rw [show linesS ts = (lts ts).map (fun x => x.1.l) by
    rw [show (lts ts).map (fun x => x.1.l) = ((lts ts).map (·.1)).map (·.l) by rw [List.map_map]; rfl, lts_val]
    unfold lnsAll; rw [lnsFrom_val], ← hr] at hf
  have hl := congrArg List.length hf
  simp only [List.map_append, List.map_cons, List.map_nil, List.flatten_append, List.flatten_cons, List.flatten_nil, List.append_nil, List.length_append] at hl
  have h1 := toksN_lines (pre.map fun x => x.1.l) []
  have h2 := lines_len (pre.map fun x => x.1.l) []
  have h3 : (pre.map fun x => x.1.l).length ≤ (pre.map fun x => x.1.l).flatten.length := by
    have : ∀ (q : List (Lt ts)), (q.map fun x => x.1.l).length ≤ (q.map fun x => x.1.l).flatten.length := by
      intro q
      induction q with
      | nil => exact Nat.le_refl _
      | cons y q ih =>
        have := (ln_in y).1
        rw [List.map_cons, List.flatten_cons, List.length_append, List.length_cons]; omega
    exact this pre
  have h4 := (ln_in x).1
  have h0 : toksN [] = 0 := rfl
  have h00 : ([] : List Rz).length = 0 := rfl
  unfold rowsP
  omega

end Go.Proofs.YtaodjipnffgihaaGreat

namespace Go.Proofs.YtaodjipnffgihaaGreat
open Go.RowKit Go.Shelf

attribute [local go_sem] Oper.semAt_some

/-- What a round keeps for the iterator: its box, and all that was there ahead of the call. -/
structure LnKept (Bn B : Nat) (Y W : World) : Prop where
  size : Y.heap.size ≤ W.heap.size
  box : ∀ v, Boxed Y Bn 44 v → Boxed W Bn 44 v
  low : ∀ k, k < B → W.heap[k]? = Y.heap[k]?
structure LnEnv (Bn B : Nat) (v : Value) (W0 W : World) : Prop where
  lt : B ≤ W.heap.size
  box : Boxed W Bn 44 v
  low : ∀ k, k < B → W.heap[k]? = W0.heap[k]?
theorem LnEnv.below {Bn B : Nat} {v : Value} {W0 W W' : World} (h : LnEnv Bn B v W0 W) (hb : Below W.heap.size W W') : LnEnv Bn B v W0 W' :=
  ⟨Nat.le_trans h.lt hb.size, (hb.block Bn h.box.lt).trans h.box, fun k hk => (hb.block k (Nat.lt_of_lt_of_le hk h.lt)).trans (h.low k hk)⟩
theorem LnEnv.kept {Bn B : Nat} {v : Value} {W0 Y W : World} (h : LnEnv Bn B v W0 Y) (hk : LnKept Bn B Y W) : LnEnv Bn B v W0 W :=
  ⟨Nat.le_trans h.lt hk.size, hk.box _ h.box, fun k hk' => (hk.low k hk').trans (h.low k hk')⟩
theorem TzAt.low {B b o : Nat} {W0 W : World} {ts : List Tz} (h : TzAt W0 b o ts) (hb : b < B) (hl : ∀ k, k < B → W.heap[k]? = W0.heap[k]?) : TzAt W b o ts := fun i t ht => by
  have hc : ∀ q, W.cell? ⟨b, q, none⟩ = W0.cell? ⟨b, q, none⟩ := fun q => World.cell?_of_block (a := ⟨b, q, none⟩) (hl b hb)
  rw [hc, hc, hc, hc, hc]
  exact h i t ht

set_option maxHeartbeats 400000 in
theorem linesOf_any (a : Option Addr) (n cap : Nat) (w : World) :
    Calls Tryz.prog 53 #[.slice a n cap] w fun e w' => e = .returned (.func (.func 76) #[] #[.pointer (some ⟨w.heap.size, 0, none⟩)]) ∧ w' = w.alloc (.cells #[.slice a n cap] 44) := by
  go_enter Tryz.func53, Tryz.ntmps53
  go_wp2
  go_ret
  exact ⟨rfl, rfl⟩

def encL {ts : List Tz} (b o cap : Nat) (x : Lt ts) : Array Value := #[.slice (some ⟨b, o + x.1.f * 5, none⟩) x.1.l.length (cap - x.1.f)]

set_option maxRecDepth 100000 in
set_option maxHeartbeats 2000000 in
/-- The iterator: each line in order, as long as a round says 'go on'. -/
theorem lines1_in (n : Nat) (hn : 1 ≤ n) (ts : List Tz) (m cap : Nat) (a : Option Addr) (b o : Nat) (hm : ts.length = m) (hmc : m ≤ cap) (hm2 : m * 48 ≤ 140737488355328) (W0 : World) (B : Nat) (ha : 0 < m → a = some ⟨b, o, none⟩ ∧ b < B ∧ TzAt W0 b o ts)
    (l Bn : Nat) (J Jx : List (Lt ts) → World → Prop) (B0 : Nat) (hJa : AbidesFrom B0 J)
    (hY : ∀ pre (x : Lt ts) W, J pre W → LnPm ts pre x → YieldAt Fence.wide (n - 1) Tryz.prog l (encL b o cap x) W fun e W' =>
      (e = .returned (.bool true) ∧ J (pre ++ [x]) W' ∧ LnKept Bn B W W') ∨ (e = .returned (.bool false) ∧ Jx (pre ++ [x]) W'))
    (W : World) (hE : LnEnv Bn B (.slice a m cap) W0 W) (h0 : J [] W) :
    CallsIn Fence.wide n Tryz.prog 76 #[.func (.yield l) #[] #[], .pointer (some ⟨Bn, 0, none⟩)] W fun e W' => (∃ v, e = .returned v) ∧
      ((∃ ys, ys = lts ts ∧ J ys W') ∨ (∃ pre, pre <+: lts ts ∧ Jx pre W')) := by
  have HM := Lib.hid hm
  have HA0 := Lib.hid ha
  clear ha hm
  refine callsIn_of_wp Tryz.func76 rfl trivial ?_ rfl
  simp only [Tryz.ntmps76, List.size_toArray, List.length_cons, List.length_nil, Nat.reduceAdd, Nat.reduceSub, Array.replicate_succ, Array.replicate_zero, List.push_toArray, List.append_toArray, List.nil_append, List.cons_append]
  have hc0 := hE.box.cell
  gi_wp2
  clear hc0
  gi_loopw [3, 8] (fun fr i wr => ∃ (pre rest : List (Lt ts)) (f k : Nat), fr = .int .i64 f ∧ i = .int .i64 k ∧ Hid (LnAt ts f k pre rest) ∧ f ≤ k ∧ k ≤ m ∧ J pre wr ∧ LnEnv Bn B (.slice a m cap) W0 wr)
    (fun _ i _ => m - (intOf i).toNat)
  case atStart =>
    exact ⟨[], lts ts, 0, 0, rfl, rfl, Lib.hid (LnAt.start ts), Nat.le_refl _, Nat.zero_le _, h0, hE⟩
  case round =>
    obtain ⟨pre, rest, f, k, rfl, rfl, HA, hfk, hkm, hJs, hEr⟩ := hrel
    have hc := hEr.box.cell
    by_cases hlt : k < m
    · obtain ⟨t, ht⟩ : ∃ t, ts[k]? = some t := ⟨_, List.getElem?_eq_getElem (by rw [HM.out]; exact hlt)⟩
      obtain ⟨rfl, hbB, hz⟩ := HA0.out (by omega)
      obtain ⟨c0, c1, c2, c3, c4⟩ := (hz.low hbB hEr.low) k t ht
      have j1 : (k : Int) < (m : Int) := by omega
      have j0 : (0 : Int) ≤ (k : Int) := by omega
      have hbl := below1 wr (.cells #[.int .i64 t.k, .string t.tx, .int .i64 t.a, .int .i64 t.e, .bool t.sp] 83)
      cases h9 : (t.k == 9)
      · have HA2 := Lib.hid (HA.out.skip ht h9)
        have k9 : (t.k != 9) = true := by simp only [bne, h9]; rfl
        clear hz ht HA
        gi_wp2
        go_roundw
        case rel => exact ⟨pre, rest, f, k + 1, rfl, by go_num, HA2, by omega, by omega, abides_below hJa hJs hbl, hEr.below hbl⟩
        case measure => simp [intOf]; omega
      · obtain ⟨x, r, hrest, hxf, hxl, hA2⟩ := HA.out.line ht h9
        have hPm : LnPm ts pre x := ⟨r, by rw [HA.out.all, hrest]; simp⟩
        have HA2 := Lib.hid hA2
        have k9 : (t.k != 9) = false := by simp only [bne, h9]; rfl
        have hE1 := hEr.below hbl
        have hc1 := hE1.box.cell
        obtain ⟨fn, tmps, assign, body, hy, hR⟩ := hY pre x _ (abides_below hJa hJs hbl) hPm
        have hcell : encL b o cap x = #[.slice (some ⟨b, o + f * 5, none⟩) (k + 1 - f) (cap - f)] := by unfold encL; rw [hxf, hxl]
        rw [hcell] at hy
        have i0 : (0 : Int) ≤ (f : Int) := by omega
        have i1 : (f : Int) ≤ (k : Int) + 1 := by omega
        have i2 : (k : Int) + 1 ≤ (cap : Int) := by omega
        clear hz ht HA hcell hxf hxl hrest hA2 hPm
        gi_wp2_with fail
        refine hR.mono ?_
        rintro e W3 (⟨rfl, hJ3, hk3⟩ | ⟨rfl, hJx3⟩)
        · have hE3 := hE1.kept hk3
          have HE3 := Lib.hid hE3
          clear hE3 hk3 hc hc1 hE1
          gi_wp2
          go_roundw
          case rel => exact ⟨pre ++ [x], r, k + 1, k + 1, by go_num, by go_num, HA2, Nat.le_refl _, by omega, hJ3, HE3.out⟩
          case measure => simp [intOf]; omega
        · gi_wp2
          refine bodyPost_ret (results_none rfl _ _ _) rfl ?_
          exact ⟨⟨_, rfl⟩, .inr ⟨pre ++ [x], ⟨r, by rw [HA2.out.all]⟩, hJx3⟩⟩
    · obtain rfl : k = m := by omega
      by_cases hf : f < k
      · have hAk : LnAt ts f ts.length pre rest := by have := HA.out; rw [← HM.out] at this; exact this
        obtain ⟨x, hrest, hxf, hxl, hall⟩ := hAk.tail (by rw [HM.out]; exact hf)
        obtain ⟨rfl, hbB, -⟩ := HA0.out (by omega)
        have hPm : LnPm ts pre x := by unfold LnPm; rw [hall]; exact List.prefix_rfl
        have HALL := Lib.hid hall
        obtain ⟨fn, tmps, assign, body, hy, hR⟩ := hY pre x _ hJs hPm
        have hcell : encL b o cap x = #[.slice (some ⟨b, o + f * 5, none⟩) (k - f) (cap - f)] := by unfold encL; rw [hxf, hxl, HM.out]
        rw [hcell] at hy
        have j1 : ¬ (k : Int) < (k : Int) := by omega
        have i0 : (0 : Int) ≤ (f : Int) := by omega
        have i1 : (f : Int) < (k : Int) := by omega
        have i2 : (f : Int) ≤ (k : Int) := by omega
        have i3 : ¬ cap = f := by omega
        clear hAk hcell hxf hxl hrest hall hPm HA
        gi_wp2_with fail
        refine hR.mono ?_
        rintro e W3 (⟨rfl, hJ3, -⟩ | ⟨rfl, hJx3⟩)
        · gi_wp2
          go_end0
          exact ⟨⟨_, rfl⟩, .inl ⟨_, HALL.out.symm, hJ3⟩⟩
        · gi_wp2
          go_end0
          exact ⟨⟨_, rfl⟩, .inr ⟨_, (by rw [HALL.out]; exact List.prefix_rfl), hJx3⟩⟩
      · have hall : lts ts = pre := by
          have := HA.out
          rw [← HM.out] at this
          exact this.none (by rw [HM.out]; omega)
        have HALL := Lib.hid hall
        have j1 : ¬ (k : Int) < (k : Int) := by omega
        have j2 : ¬ (f : Int) < (k : Int) := by omega
        clear hall HA
        gi_wp2
        go_end0
        exact ⟨⟨_, rfl⟩, .inl (by rw [HALL.out]; exact hJs)⟩

end Go.Proofs.YtaodjipnffgihaaGreat

namespace Go.Proofs.YtaodjipnffgihaaGreat
open Go.RowKit Go.Shelf

set_option maxRecDepth 100000 in
set_option maxHeartbeats 2000000 in
theorem cloneToks_any (ts : List Tz) (n cap : Nat) (ad : Addr) (w : World) (hn : ts.length = n) (hn2 : n * 48 ≤ 140737488355328) (hT : 0 < n → ∃ b o, ad = ⟨b, o, none⟩ ∧ b < w.heap.size ∧ TzAt w b o ts) :
    Calls Tryz.prog 97 #[.slice (some ad) n cap] w fun e w' => (∃ v, e = .returned v ∧ TokOwn w' w.heap.size v ts) ∧ Below w.heap.size w w' := by
  obtain ⟨i0, hi, hz0, hz1, hz2⟩ := info_parts infoTz
  have hlen : (tzCells ts).length = n * 5 := by rw [tzCells_len, hn]
  have hone := Lib.hid (tzCells_one ts)
  have hnews : ∀ o : Obj, ∀ j u, (tzCells ts)[j]? = some u → (w.alloc o).cell? (ad.add j) = some u := by
    intro o j u hj
    have hlt := (List.getElem?_eq_some_iff.1 hj).1
    obtain ⟨b, q, rfl, hb, hr⟩ := hT (by omega)
    exact tzCells_at (hr.below (below1 w o) hb) j u hj
  have HNW := Lib.hid hnews
  have HLN := Lib.hid hlen
  have HN := Lib.hid hn
  clear hn hT hnews hlen
  have he : ∀ w : World, (binOp .eql 44 (.slice (some ad) n cap) (.slice none 0 0)).run Tryz.prog w = .ok (.bool false) w := fun _ => rfl
  go_enter Tryz.func97, Tryz.ntmps97
  go_wp2_with (at_builtin; refine wpList_append_own _ rfl _ _ 44 rfl w.heap.size 83 i0 (.agg #[.int .i64 0, .string ⟨#[]⟩, .int .i64 0, .int .i64 0, .bool false]) 5 48 Tryz.underlying44 hi hz0 hz1 hz2 rfl (by decide) _ _ _ rfl (World.ownsRow_lit w #[] 0 (Nat.le_refl _) (Nat.zero_le _) rfl) ad n cap (tzCells ts) rfl HLN.out (HNW.out _) hone.out (by unfold maxLen; omega) (by omega) (by simp) ?_; intro v' w1 hown hgrow hn3; clear hn3; have hb1 := ((Below.refl w.heap.size w).alloc (Nat.le_refl _) (.cells #[] 83)).grown hgrow (by simp) (fun j e => ((World.ownsRow_lit (base := w.heap.size) (e := 83) (size := 5) w #[] 0 (Nat.le_refl _) (Nat.zero_le _) rfl).lt j e).1))
  go_ret
  exact ⟨⟨v', rfl, by unfold TokOwn; rw [HN.out]; exact row_zero hown⟩, hb1⟩

theorem set_self {xs : List Value} {j : Nat} {u : Value} (h : xs[j]? = some u) : xs.set j u = xs := by
  obtain ⟨hlt, he⟩ := List.getElem?_eq_some_iff.1 h
  subst he
  exact List.set_getElem_self hlt
/-- A text of a token is stored anew. -/
theorem tok_restored {W : World} {B g n cap k : Nat} {ts : List Tz} {t : Tz} (hn : ts.length = n) (h : W.ownsRow B 83 5 (.slice (some ⟨g, 0, none⟩) n cap) n (tzCells ts)) (ht : ts[k]? = some t) :
    (W.setCell ⟨g, k * 5 + 1, none⟩ (.string t.tx)).ownsRow B 83 5 (.slice (some ⟨g, 0, none⟩) n cap) n (tzCells ts) := by
  obtain ⟨h1, _⟩ := h.stored (k * 5 + 1) (.string t.tx)
  rw [set_self (tzCells_get ht 1 (by decide))] at h1
  exact h1

set_option maxRecDepth 100000 in
set_option maxHeartbeats 4000000 in
theorem copyOf_any (ts : List Tz) (n cap : Nat) (ad : Addr) (w : World) (hn : ts.length = n) (hn0 : 0 < n) (hn2 : n * 48 ≤ 140737488355328) (hx : ∀ t ∈ ts, t.tx.size ≤ 281474976710656) (hT : 0 < n → ∃ b o, ad = ⟨b, o, none⟩ ∧ b < w.heap.size ∧ TzAt w b o ts) :
    Calls Tryz.prog 77 #[.slice (some ad) n cap] w fun e w' => (∃ g cap', e = .returned (.slice (some ⟨g, 0, none⟩) n cap') ∧ w'.ownsRow w.heap.size 83 5 (.slice (some ⟨g, 0, none⟩) n cap') n (tzCells ts)) ∧ Below w.heap.size w w' := by
  have HC := cloneToks_any ts n cap ad w hn hn2 hT
  have HN := Lib.hid hn
  have HX := Lib.hid hx
  clear hn hT hx
  go_enter Tryz.func77, Tryz.ntmps77
  go_wp2_with fail
  refine HC.mono ?_
  rintro e w1 ⟨⟨v, rfl, ho⟩, hb1⟩
  have ho1 : w1.ownsRow w.heap.size 83 5 v n (tzCells ts) := by unfold TokOwn at ho; rw [HN.out] at ho; exact ho
  clear ho HC
  obtain ⟨a1, cap1, rfl⟩ := row_shape ho1
  obtain ⟨g, rfl, hg, hc⟩ := row_pos hn0 ho1
  have hgB := (ho1.lt g rfl).1
  clear hc
  go_wp2
  go_loopw [8] (fun i wx => ∃ k : Nat, k ≤ n ∧ i = .int .i64 k ∧ wx.ownsRow w.heap.size 83 5 (.slice (some ⟨g, 0, none⟩) n cap1) n (tzCells ts) ∧ Below w.heap.size w wx) (fun i _ => n - (intOf i).toNat)
  case atStart => exact ⟨0, Nat.zero_le _, rfl, ho1, hb1⟩
  case round =>
    obtain ⟨k, hk, rfl, hor, hbx⟩ := hrel
    by_cases hlt : k < n
    · obtain ⟨t, ht⟩ : ∃ t, ts[k]? = some t := ⟨_, List.getElem?_eq_getElem (by rw [HN.out]; exact hlt)⟩
      have hX := HX.out t (List.mem_of_getElem? ht)
      have c1 : wr.cell? ⟨g, k * 5 + 1, none⟩ = some (.string t.tx) := by
        obtain ⟨g', h9, _, hc9⟩ := row_pos hn0 hor
        cases h9
        exact hc9 _ _ (tzCells_get ht 1 (by decide))
      have HC := fun w' => clone_any t.tx w' hX
      have HTT := Lib.hid ht
      clear ht
      have j1 : (k : Int) < (n : Int) := by omega
      have j0 : (0 : Int) ≤ (k : Int) := by omega
      go_wp2_with (go_at_call 80; refine (HC _).mono ?_; rintro e w2 ⟨rfl, hb2⟩; have hor2 := row_below hor hb2; have hB2 := hbx.trans (hb2.mono hbx.size); have fz : w2.frozen? ⟨g, k * 5 + 1, none⟩ = false := hor2.frozenAt (k * 5 + 1); have c2 : w2.cell? ⟨g, k * 5 + 1, none⟩ = some (.string t.tx) := (hb2.cell (p := ⟨g, k * 5 + 1, none⟩) (hor.lt g rfl).2).trans c1; have hst := tok_restored HN.out hor2 HTT.out; have hB3 := hB2.setCell (p := ⟨g, k * 5 + 1, none⟩) hgB (.string t.tx))
      refine ⟨⟨k + 1, by omega, by go_num, hst, hB3⟩, ?_⟩
      simp [intOf]; omega
    · go_wp2
      go_ret
      exact ⟨⟨g, cap1, rfl, hor⟩, hbx⟩

end Go.Proofs.YtaodjipnffgihaaGreat

namespace Go.Proofs.YtaodjipnffgihaaGreat
open Go.RowKit

set_option maxHeartbeats 2000000 in
theorem rhash_any (bs : List Tz) (m cap : Nat) (a : Option Addr) (w : World) (hm : bs.length = m) (ht : TzIn w a bs) :
    Calls Tryz.prog 41 #[.slice a m cap] w fun e w' => e = .returned (.bool (hashB bs)) ∧ ∃ q, w' = w.drewN q := by
  cases bs with
  | nil =>
    subst hm
    go_enter Tryz.func41, Tryz.ntmps41
    go_wp2
    go_ret
    exact ⟨rfl, 0, rfl⟩
  | cons t bs =>
    obtain ⟨g, o, rfl, _, hr⟩ := ht (by simp)
    obtain ⟨c0, c1, -⟩ := hr 0 t rfl
    rw [Nat.zero_mul, Nat.add_zero] at c0 c1
    have HH : Hid (hashB (t :: bs) = (t.k == 5 && (t.tx.toList == [35] || t.tx.toList == [37, 58]))) := Lib.hid rfl
    have b0 : (0 : Int) < (m : Int) := by rw [← hm, List.length_cons]; omega
    clear hr ht hm
    cases h5 : (t.k == 5)
    · have HN : Hid (hashB (t :: bs) = false) := Lib.hid (by rw [HH.out, h5]; rfl)
      clear HH
      go_enter Tryz.func41, Tryz.ntmps41
      go_wp2
      go_ret
      exact ⟨rb (by rw [HN.out]), 0, rfl⟩
    · cases h1 : (t.tx.toList == [35])
      · cases h2 : (t.tx.toList == [37, 58])
        · have HN : Hid (hashB (t :: bs) = false) := Lib.hid (by rw [HH.out, h5, h1, h2]; rfl)
          clear HH
          go_enter Tryz.func41, Tryz.ntmps41
          go_wp2
          go_ret
          exact ⟨rb (by rw [HN.out]), 0, rfl⟩
        · have HN : Hid (hashB (t :: bs) = true) := Lib.hid (by rw [HH.out, h5, h1, h2]; rfl)
          clear HH
          go_enter Tryz.func41, Tryz.ntmps41
          go_wp2
          go_ret
          exact ⟨rb (by rw [HN.out]), 0, rfl⟩
      · have HN : Hid (hashB (t :: bs) = true) := Lib.hid (by rw [HH.out, h5, h1]; rfl)
        clear HH
        go_enter Tryz.func41, Tryz.ntmps41
        go_wp2
        go_ret
        exact ⟨rb (by rw [HN.out]), 0, rfl⟩

/-! ### Rows and a line side by side -/
/-- Rows that the call owns, and a line of tokens: all in blocks of their own. -/
structure SepRz (W : World) (B : Nat) (v : Value) (rs : List Rz) (vs : List Value) (lv : Value) (ll : List Tz) : Prop where
  own : OwnRz W B v rs vs
  line : TokOwn W B lv ll
  sep : ∀ (i j : Nat) (u u' : Value), i ≠ j → vs[i]? = some u → vs[j]? = some u' → Apart2 u u'
  lsep : ∀ (i : Nat) (u : Value), vs[i]? = some u → Apart2 lv u
theorem SepRz.start (W : World) (B : Nat) : SepRz W B (.slice none 0 0) [] [] (.slice none 0 0) [] := ⟨OwnRz.nil _ _, World.ownsRow_nil _ _ _ _, fun i j u u' _ h => by simp at h, fun i u h => by simp at h⟩
theorem OwnRz.tok {W : World} {B : Nat} {v : Value} {rs : List Rz} {vs : List Value} (h : OwnRz W B v rs vs) {i : Nat} {u : Value} (hu : vs[i]? = some u) : ∃ r, rs[i]? = some r ∧ TokOwn W B u r.ts := by
  obtain ⟨r, hr⟩ : ∃ r, rs[i]? = some r := ⟨_, List.getElem?_eq_getElem (by rw [h.len]; exact (List.getElem?_eq_some_iff.1 hu).1)⟩
  exact ⟨r, hr, h.ts i r u hr hu⟩
theorem SepRz.below {W W' : World} {B : Nat} {v : Value} {rs : List Rz} {vs : List Value} {lv : Value} {ll : List Tz} (h : SepRz W B v rs vs lv ll) (hb : Below W.heap.size W W') : SepRz W' B v rs vs lv ll :=
  ⟨h.own.below hb, row_below h.line hb, h.sep, h.lsep⟩
/-- The line has grown. -/
theorem SepRz.more {W W' : World} {B : Nat} {v : Value} {rs : List Rz} {vs : List Value} {lv lv' : Value} {ll ll' : List Tz} (h : SepRz W B v rs vs lv ll) (ho : TokOwn W' B lv' ll') (hg : W.grownBy W' lv.ownBlock) (hf : Fresh W lv lv') : SepRz W' B v rs vs lv' ll' := by
  refine ⟨⟨h.own.len, ownsRow_keepsT h.own.row (KeepsT.grown_row hg h.line (by decide)), fun i r u h1 h2 => (h.lsep i u h2).kept (h.own.ts i r u h1 h2) hg⟩, ho, h.sep, fun i u hu => ?_⟩
  obtain ⟨r, _, ht⟩ := h.own.tok hu
  exact (h.lsep i u hu).fresh hf (fun g e => (ht.lt g e).2)
theorem SepRz.drop {W : World} {B : Nat} {v : Value} {rs : List Rz} {vs : List Value} {lv : Value} {ll : List Tz} (h : SepRz W B v rs vs lv ll) : SepRz W B v rs vs (.slice none 0 0) [] :=
  ⟨h.own, World.ownsRow_nil _ _ _ _, h.sep, fun _ _ _ => Apart2.nil _⟩
/-- The line has become a row. -/
theorem SepRz.push {W W' : World} {B : Nat} {v v' : Value} {rs : List Rz} {vs : List Value} {lv : Value} {ll : List Tz} (d : Bool) (nm : ByteArray) (h : SepRz W B v rs vs lv ll)
    (ho : W'.ownsRow B 50 3 v' (rs.length + 1) (rzVals rs vs ++ [.bool d, .string nm, lv])) (hg : W.grownBy W' v.ownBlock) : SepRz W' B v' (rs ++ [⟨d, nm, ll⟩]) (vs ++ [lv]) (.slice none 0 0) [] := by
  have hK : KeepsT 83 W W' := KeepsT.grown_row hg h.own.row (by decide)
  have hl := h.own.len
  refine ⟨⟨by simp [hl], ?_, fun i r u h1 h2 => ?_⟩, World.ownsRow_nil _ _ _ _, fun i j u u' hij h1 h2 => ?_, fun _ _ _ => Apart2.nil _⟩
  · rw [List.length_append, rzVals_snoc _ _ _ _ hl]; exact ho
  · by_cases hi : i < rs.length
    · rw [List.getElem?_append_left hi] at h1
      rw [List.getElem?_append_left (by omega)] at h2
      exact ownsRow_keepsT (h.own.ts i r u h1 h2) hK
    · have hlt := (List.getElem?_eq_some_iff.1 h1).1
      rw [List.length_append] at hlt
      simp only [List.length_cons, List.length_nil] at hlt
      obtain rfl : i = rs.length := by omega
      rw [List.getElem?_append_right (Nat.le_refl _), Nat.sub_self] at h1
      rw [hl, List.getElem?_append_right (Nat.le_refl _), Nat.sub_self] at h2
      simp only [List.getElem?_cons_zero, Option.some.injEq] at h1 h2
      subst h1 h2
      exact ownsRow_keepsT h.line hK
  · have hlt1 := (List.getElem?_eq_some_iff.1 h1).1
    have hlt2 := (List.getElem?_eq_some_iff.1 h2).1
    rw [List.length_append] at hlt1 hlt2
    simp only [List.length_cons, List.length_nil] at hlt1 hlt2
    by_cases hi : i < vs.length
    · rw [List.getElem?_append_left hi] at h1
      by_cases hj : j < vs.length
      · rw [List.getElem?_append_left hj] at h2
        exact h.sep i j u u' hij h1 h2
      · obtain rfl : j = vs.length := by omega
        rw [List.getElem?_append_right (Nat.le_refl _), Nat.sub_self] at h2
        simp only [List.getElem?_cons_zero, Option.some.injEq] at h2
        subst h2
        exact (h.lsep i u h1).symm
    · obtain rfl : i = vs.length := by omega
      rw [List.getElem?_append_right (Nat.le_refl _), Nat.sub_self] at h1
      simp only [List.getElem?_cons_zero, Option.some.injEq] at h1
      subst h1
      rw [List.getElem?_append_left (by omega)] at h2
      exact h.lsep j u' h2
theorem rzVals_set : ∀ (rs : List Rz) (vs : List Value) (q : Rz) (u u' : Value), rs.length = vs.length → (rzVals (rs ++ [q]) (vs ++ [u])).set (rs.length * 3 + 2) u' = rzVals (rs ++ [q]) (vs ++ [u']) := by
  intro rs vs q u u' hl
  rw [rzVals_snoc _ _ _ _ hl, rzVals_snoc _ _ _ _ hl]
  have hlen : ∀ (rs : List Rz) (vs : List Value), rs.length = vs.length → (rzVals rs vs).length = rs.length * 3 := by
    intro rs
    induction rs with
    | nil => intro vs _; rfl
    | cons r rs ih =>
      intro vs h
      cases vs with
      | nil => simp at h
      | cons v vs =>
        simp only [List.length_cons, Nat.add_right_cancel_iff] at h
        rw [rzVals, List.length_append, ih vs h]; simp; omega
  rw [List.set_append_right _ _ (by rw [hlen _ _ hl]; omega), hlen _ _ hl, show rs.length * 3 + 2 - rs.length * 3 = 2 by omega]
  rfl
theorem rzVals_name (rs : List Rz) (vs : List Value) (q : Rz) (u : Value) (ts : List Tz) (hl : rs.length = vs.length) : rzVals (rs ++ [q]) (vs ++ [u]) = rzVals (rs ++ [⟨q.d, q.nm, ts⟩]) (vs ++ [u]) := by
  rw [rzVals_snoc _ _ _ _ hl, rzVals_snoc _ _ _ _ hl]
/-- The last row has grown by the line. -/
theorem SepRz.last {W W' : World} {B g cap : Nat} {rs : List Rz} {vs : List Value} {q : Rz} {u u' lv : Value} {ll : List Tz} (h : SepRz W B (.slice (some ⟨g, 0, none⟩) (rs.length + 1) cap) (rs ++ [q]) (vs ++ [u]) lv ll) (hl : rs.length = vs.length)
    (ho : TokOwn W' B u' (q.ts ++ ll)) (hg : W.grownBy W' u.ownBlock) (hf : Fresh W u u') : SepRz (W'.setCell ⟨g, rs.length * 3 + 2, none⟩ u') B (.slice (some ⟨g, 0, none⟩) (rs.length + 1) cap) (rs ++ [⟨q.d, q.nm, q.ts ++ ll⟩]) (vs ++ [u']) (.slice none 0 0) [] ∧
      W'.ownsRow B 50 3 (.slice (some ⟨g, 0, none⟩) (rs.length + 1) cap) (rs.length + 1) (rzVals (rs ++ [q]) (vs ++ [u])) := by
  have hu : (vs ++ [u])[vs.length]? = some u := by rw [List.getElem?_append_right (Nat.le_refl _), Nat.sub_self]; rfl
  have huT : TokOwn W B u q.ts := h.own.ts rs.length q u (by rw [List.getElem?_append_right (Nat.le_refl _), Nat.sub_self]; rfl) (by rw [hl]; exact hu)
  have hrow := h.own.row
  rw [List.length_append, show rs.length + [q].length = rs.length + 1 from rfl] at hrow
  have hrow' := ownsRow_keepsT hrow (KeepsT.grown_row hg huT (by decide))
  refine ⟨?_, hrow'⟩
  obtain ⟨hst, hgs⟩ := hrow'.stored (rs.length * 3 + 2) u'
  have hblk : ∃ c fz, W'.heap[g]? = some (.cells c 50 fz) := by
    rcases hrow'.2 with ⟨h', _⟩ | ⟨g', cap', cur, h', _, hh, _⟩
    · cases h'
    · cases h'; exact ⟨cur, _, hh⟩
  obtain ⟨c, fz, hblk⟩ := hblk
  have hK : KeepsT 83 W' (W'.setCell ⟨g, rs.length * 3 + 2, none⟩ u') := keepsT_other hblk (by decide) u'
  rw [rzVals_set rs vs q u u' hl, rzVals_name rs vs q u' (q.ts ++ ll) hl] at hst
  have hold : ∀ i v, i < vs.length → vs[i]? = some v → Apart2 u v := fun i v hi hv => h.sep vs.length i u v (by omega) hu (by rw [List.getElem?_append_left hi]; exact hv)
  have hlen2 : (vs ++ [u']).length = vs.length + 1 := by simp
  have hcase : ∀ i v, (vs ++ [u'])[i]? = some v → (i < vs.length ∧ vs[i]? = some v) ∨ (i = vs.length ∧ v = u') := fun i v hv => by
    have hlt := (List.getElem?_eq_some_iff.1 hv).1
    by_cases hi : i < vs.length
    · rw [List.getElem?_append_left hi] at hv; exact .inl ⟨hi, hv⟩
    · have e : i = vs.length := by omega
      subst e
      rw [List.getElem?_append_right (Nat.le_refl _), Nat.sub_self] at hv
      simp only [List.getElem?_cons_zero, Option.some.injEq] at hv
      exact .inr ⟨rfl, hv.symm⟩
  refine ⟨⟨by simp [hl], ?_, fun i r v h1 h2 => ?_⟩, World.ownsRow_nil _ _ _ _, fun i j v v' hij h1 h2 => ?_, fun _ _ _ => Apart2.nil _⟩
  · rw [List.length_append]; exact hst
  · rcases hcase i v h2 with ⟨hi, hv⟩ | ⟨rfl, rfl⟩
    · rw [List.getElem?_append_left (by omega)] at h1
      have h3 := h.own.ts i r v (by rw [List.getElem?_append_left (by omega)]; exact h1) (by rw [List.getElem?_append_left hi]; exact hv)
      exact ownsRow_keepsT ((hold i v hi hv).kept h3 hg) hK
    · rw [← hl, List.getElem?_append_right (Nat.le_refl _), Nat.sub_self] at h1
      simp only [List.getElem?_cons_zero, Option.some.injEq] at h1
      subst h1
      exact ownsRow_keepsT ho hK
  · have hfr : ∀ i v, i < vs.length → vs[i]? = some v → Apart2 u' v := fun i v hi hv => by
      obtain ⟨r, _, ht⟩ := h.own.tok (i := i) (u := v) (by rw [List.getElem?_append_left hi]; exact hv)
      exact (hold i v hi hv).fresh hf (fun g e => (ht.lt g e).2)
    rcases hcase i v h1 with ⟨hi, hv⟩ | ⟨rfl, rfl⟩
    · rcases hcase j v' h2 with ⟨hj, hv'⟩ | ⟨rfl, rfl⟩
      · exact h.sep i j v v' hij (by rw [List.getElem?_append_left hi]; exact hv) (by rw [List.getElem?_append_left hj]; exact hv')
      · exact (hfr i v hi hv).symm
    · rcases hcase j v' h2 with ⟨hj, hv'⟩ | ⟨rfl, rfl⟩
      · exact hfr j v' hj hv'
      · exact absurd rfl hij

end Go.Proofs.YtaodjipnffgihaaGreat

namespace Go.Proofs.YtaodjipnffgihaaGreat
open Go.RowKit

/-- How many bare tokens of a row don't belong to its content. -/
def aheadS (r : Rz) : Nat := if r.d then (if r.nm.toList = [] then 1 else 2) else 0
def nameS (r : Rz) : ByteArray := if r.d then r.nm else ⟨#[]⟩
theorem aheadS_le (r : Rz) : aheadS r ≤ 2 := by
  unfold aheadS
  repeat (first | omega | split)
theorem size_zero_iff (s : ByteArray) : s.toList = [] ↔ s.size = 0 := by
  rw [← List.length_eq_zero_iff]
  have : s.toList = s.data.toList := Lib.toList_data s
  rw [this]
  exact Iff.rfl
theorem saysS_ahead (r : Rz) : saysS r = (bareL r).drop (aheadS r) := by
  unfold saysS aheadS
  cases r.d
  · rfl
  · simp only [if_true]
    by_cases h : r.nm.toList = []
    · have := (size_zero_iff _).1 h
      rw [if_neg (by omega), if_pos h]
    · have : r.nm.size ≠ 0 := fun e => h ((size_zero_iff _).2 e)
      rw [if_pos (by omega), if_neg h]

set_option maxHeartbeats 1000000 in
theorem ahead_any (r : Rz) (v : Value) (w : World) :
    Calls Tryz.prog 59 #[.agg #[.bool r.d, .string r.nm, v]] w fun e w' => e = .returned (.int .i64 (aheadS r : Nat)) ∧ Below w.heap.size w w' := by
  have HT : Hid (aheadS r = if r.d then (if r.nm.toList = [] then 1 else 2) else 0) := Lib.hid rfl
  obtain ⟨d, nm, ts⟩ := r
  cases d
  · go_enter Tryz.func59, Tryz.ntmps59
    go_wp2
    go_ret
    exact ⟨ri (by rw [HT.out]; rfl), below1 w _⟩
  · by_cases he : nm.toList = []
    · have HT2 := Lib.hid (HT.out.trans (by simp only [if_true]; rw [if_pos he]))
      have hb : (nm.toList == []) = true := by rw [he]; rfl
      clear HT
      go_enter Tryz.func59, Tryz.ntmps59
      go_wp2
      go_ret
      exact ⟨ri (by rw [HT2.out]; rfl), below1 w _⟩
    · have HT2 := Lib.hid (HT.out.trans (by simp only [if_true]; rw [if_neg he]))
      have hb : (nm.toList == []) = false := beq_eq_false_iff_ne.2 he
      have hb2 : (!nm.toList.isEmpty) = true := by
        cases h : nm.toList with
        | nil => exact absurd h he
        | cons a b => rfl
      clear HT
      go_enter Tryz.func59, Tryz.ntmps59
      go_wp2
      go_ret
      exact ⟨ri (by rw [HT2.out]; rfl), below1 w _⟩

/-- Is a token the one of a directive? -/
def begB (t : Tz) : Bool := t.k == 5 && (t.tx.toList == [35] || t.tx.toList == [37, 58])
theorem hashB_cons (t : Tz) (l : List Tz) : hashB (t :: l) = begB t := rfl

set_option maxHeartbeats 1000000 in
theorem begins_any (t : Tz) (w : World) :
    Calls Tryz.prog 78 #[.agg #[.int .i64 t.k, .string t.tx, .int .i64 t.a, .int .i64 t.e, .bool t.sp]] w fun e w' => e = .returned (.bool (begB t)) ∧ Below w.heap.size w w' := by
  have HH : Hid (begB t = (t.k == 5 && (t.tx.toList == [35] || t.tx.toList == [37, 58]))) := Lib.hid rfl
  cases h5 : (t.k == 5)
  · have HN : Hid (begB t = false) := Lib.hid (by rw [HH.out, h5]; rfl)
    clear HH
    go_enter Tryz.func78, Tryz.ntmps78
    go_wp2
    go_ret
    exact ⟨rb (by rw [HN.out]), below1 w _⟩
  · cases h1 : (t.tx.toList == [35])
    · cases h2 : (t.tx.toList == [37, 58])
      · have HN : Hid (begB t = false) := Lib.hid (by rw [HH.out, h5, h1, h2]; rfl)
        clear HH
        go_enter Tryz.func78, Tryz.ntmps78
        go_wp2
        go_ret
        exact ⟨rb (by rw [HN.out]), below1 w _⟩
      · have HN : Hid (begB t = true) := Lib.hid (by rw [HH.out, h5, h1, h2]; rfl)
        clear HH
        go_enter Tryz.func78, Tryz.ntmps78
        go_wp2
        go_ret
        exact ⟨rb (by rw [HN.out]), below1 w _⟩
    · have HN : Hid (begB t = true) := Lib.hid (by rw [HH.out, h5, h1]; rfl)
      clear HH
      go_enter Tryz.func78, Tryz.ntmps78
      go_wp2
      go_ret
      exact ⟨rb (by rw [HN.out]), below1 w _⟩

end Go.Proofs.YtaodjipnffgihaaGreat

namespace Go.Proofs.YtaodjipnffgihaaGreat
open Go.RowKit

set_option maxRecDepth 100000 in
set_option maxHeartbeats 2000000 in
theorem rSays_cap (r : Rz) (ta : Option Addr) (tcap : Nat) (w : World) (hl : r.ts.length * 48 ≤ 140737488355328) (ht : TzIn w ta r.ts) :
    Calls Tryz.prog 19 #[.agg #[.bool r.d, .string r.nm, .slice ta r.ts.length tcap]] w fun e w' => (∃ a' cap', e = .returned (.slice a' (saysS r).length cap') ∧ (saysS r).length ≤ cap' ∧ TzIn w' a' (saysS r)) ∧ Below w.heap.size w w' := by
  have hbw := below1 w (.cells #[.bool r.d, .string r.nm, .slice ta r.ts.length tcap] 50)
  have HB1 := rbare_own (ts := r.ts) (bs := bareL r) (cap := tcap) rfl rfl rfl hl (ht.below hbw)
  have hS : saysS r = if r.d then (if 0 < r.nm.size then (bareL r).drop 2 else (bareL r).drop 1) else bareL r := rfl
  have HS := Lib.hid hS
  have hk := mcells (w := w) (vs := #[.bool r.d, .string r.nm, .slice ta r.ts.length tcap]) (t := 50)
  have k0 := hk 0 _ rfl
  have k1 := hk 1 _ rfl
  have hwz : w.heap.size < (w.alloc (.cells #[.bool r.d, .string r.nm, .slice ta r.ts.length tcap] 50)).heap.size := by simp
  obtain ⟨S, hSS⟩ : ∃ S, saysS r = S := ⟨_, rfl⟩
  obtain ⟨L, hLL⟩ : ∃ L, bareL r = L := ⟨_, rfl⟩
  rw [hLL] at HB1 HS
  rw [hSS] at HS ⊢
  have hLs : L.length ≤ 140737488355328 := by
    rw [← hLL]
    have := bareS_len r.ts
    unfold bareL
    omega
  clear hS hSS hLL ht hk
  obtain ⟨d, nm, ts⟩ := r
  simp only at HB1 HS hl hbw k0 k1 hwz ⊢
  cases d
  · have HS2 : Hid (S = L) := HS
    go_enter Tryz.func19, Tryz.ntmps19
    go_wp2_with fail
    refine HB1.mono ?_
    rintro e w1 ⟨⟨a', cap', rfl, hcap, hrow⟩, hb1⟩
    have hB := hbw.trans (hb1.mono hbw.size)
    have k0' := (hb1.cell (p := ⟨w.heap.size, 0, none⟩) hwz).trans k0
    clear k0 k1
    go_wp2
    go_ret
    rw [HS2.out]
    exact ⟨⟨a', cap', rfl, hcap, fun hp => by obtain ⟨g, e, hg, hr⟩ := hrow hp; exact ⟨g, 0, e, hg, hr.at⟩⟩, hB⟩
  · have HS2 : Hid (S = if 0 < nm.size then L.drop 2 else L.drop 1) := HS
    clear HS
    rcases Nat.eq_zero_or_pos L.length with hL0 | hLp
    · have hLn : L = [] := List.length_eq_zero_iff.1 hL0
      have HS3 : Hid (S = []) := Lib.hid (by rw [HS2.out, hLn]; simp)
      subst hLn
      clear HS2 hL0
      go_enter Tryz.func19, Tryz.ntmps19
      go_wp2_with fail
      refine HB1.mono ?_
      rintro e w1 ⟨⟨a', cap', rfl, hcap, hrow⟩, hb1⟩
      have hB := hbw.trans (hb1.mono hbw.size)
      have k0' := (hb1.cell (p := ⟨w.heap.size, 0, none⟩) hwz).trans k0
      clear k0 k1
      go_wp2
      go_ret
      rw [HS3.out]
      exact ⟨⟨a', cap', rfl, Nat.zero_le _, fun hp => absurd hp (Nat.lt_irrefl 0)⟩, hB⟩
    · obtain ⟨m, hm⟩ : ∃ m, L.length = m + 1 := ⟨L.length - 1, by omega⟩
      by_cases hnm : 0 < nm.size
      · have b1 : (0 : Int) < (nm.size : Int) := by omega
        have HS3 : Hid (S = L.drop 2) := Lib.hid (by rw [HS2.out, if_pos hnm])
        cases m with
        | zero =>
          have HSm : Hid (S = []) := Lib.hid (by rw [HS3.out, List.drop_eq_nil_of_le (by omega)])
          rw [hm] at HB1
          clear HS2 HS3 hm hLp
          go_enter Tryz.func19, Tryz.ntmps19
          go_wp2_with fail
          refine HB1.mono ?_
          rintro e w1 ⟨⟨a', cap', rfl, hcap, hrow⟩, hb1⟩
          obtain ⟨g, rfl, hg, hr⟩ := hrow (Nat.succ_pos _)
          have hB := hbw.trans (hb1.mono hbw.size)
          have k0' := (hb1.cell (p := ⟨w.heap.size, 0, none⟩) hwz).trans k0
          have k1' := (hb1.cell (p := ⟨w.heap.size, 1, none⟩) hwz).trans k1
          have hrA := Lib.hid hr.at
          clear k0 k1 hr
          have i2 : (1 : Int) ≤ (cap' : Int) := by omega
          go_wp2
          all_goals
            go_ret
            rw [HSm.out]
            exact ⟨⟨_, _, rfl, Nat.zero_le _, fun hp => absurd hp (Nat.lt_irrefl 0)⟩, hB⟩
        | succ j =>
          have HSm : Hid (S.length = j) := Lib.hid (by rw [HS3.out, List.length_drop]; omega)
          rw [hm] at HB1
          clear HS2 hm hLp
          go_enter Tryz.func19, Tryz.ntmps19
          go_wp2_with fail
          refine HB1.mono ?_
          rintro e w1 ⟨⟨a', cap', rfl, hcap, hrow⟩, hb1⟩
          obtain ⟨g, rfl, hg, hr⟩ := hrow (Nat.succ_pos _)
          have hB := hbw.trans (hb1.mono hbw.size)
          have k0' := (hb1.cell (p := ⟨w.heap.size, 0, none⟩) hwz).trans k0
          have k1' := (hb1.cell (p := ⟨w.heap.size, 1, none⟩) hwz).trans k1
          have hrA := Lib.hid hr.at
          clear k0 k1 hr
          have i1 : (1 : Int) ≤ (j : Int) + 1 + 1 := by omega
          have i2 : (j : Int) + 1 + 1 ≤ (cap' : Int) := by omega
          have i3 : (0 : Int) < (j : Int) + 1 + 1 := by omega
          have i4 : (1 : Int) ≤ (j : Int) + 1 := by omega
          have i5 : (0 : Int) < (j : Int) + 1 := by omega
          have HT2 : Hid (TzIn w1 (some ⟨g, 10, none⟩) S) := Lib.hid (fun _ => ⟨g, 10, rfl, hg, by rw [HS3.out]; exact hrA.out.drop 2⟩)
          go_wp2
          all_goals
            go_ret
            have eS := HSm.out
            rw [eS]
            first
              | exact ⟨⟨_, _, rfl, by omega, HT2.out⟩, hB⟩
              | exact ⟨⟨_, _, rfl, by omega, fun hp => absurd hp (by rw [eS]; omega)⟩, hB⟩
      · have b1 : ¬ (0 : Int) < (nm.size : Int) := by omega
        have HS3 : Hid (S = L.drop 1) := Lib.hid (by rw [HS2.out, if_neg hnm])
        have HSm : Hid (S.length = m) := Lib.hid (by rw [HS3.out, List.length_drop]; omega)
        rw [hm] at HB1
        clear HS2 hm hLp
        go_enter Tryz.func19, Tryz.ntmps19
        go_wp2_with fail
        refine HB1.mono ?_
        rintro e w1 ⟨⟨a', cap', rfl, hcap, hrow⟩, hb1⟩
        obtain ⟨g, rfl, hg, hr⟩ := hrow (Nat.succ_pos _)
        have hB := hbw.trans (hb1.mono hbw.size)
        have k0' := (hb1.cell (p := ⟨w.heap.size, 0, none⟩) hwz).trans k0
        have k1' := (hb1.cell (p := ⟨w.heap.size, 1, none⟩) hwz).trans k1
        have hrA := Lib.hid hr.at
        clear k0 k1 hr
        have i1 : (1 : Int) ≤ (m : Int) + 1 := by omega
        have i2 : (m : Int) + 1 ≤ (cap' : Int) := by omega
        have i3 : (0 : Int) < (m : Int) + 1 := by omega
        have HT1 : Hid (TzIn w1 (some ⟨g, 5, none⟩) S) := Lib.hid (fun _ => ⟨g, 5, rfl, hg, by rw [HS3.out]; exact hrA.out.drop 1⟩)
        go_wp2
        all_goals
          go_ret
          have eS := HSm.out
          rw [eS]
          first
            | exact ⟨⟨_, _, rfl, by omega, HT1.out⟩, hB⟩
            | exact ⟨⟨_, _, rfl, by omega, fun hp => absurd hp (by rw [eS]; omega)⟩, hB⟩

end Go.Proofs.YtaodjipnffgihaaGreat
